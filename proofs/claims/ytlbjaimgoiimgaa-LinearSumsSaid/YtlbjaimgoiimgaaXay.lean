/- The law's small. Rows as they come in, however long; the laws' arguments opened: fractions, rows. Rows that the law makes: what they say, whatever becomes of the list they are put into. Walk of the law's homogeneous. Plain: a step of the elimination keeps the solutions. Plain: what the elimination ends with. -/
import Derived.Test.YtlbjaimgoiimgaaXax
import Derived.Test.YtlbjaimgoiimgaaXaj
import Derived.ProofKit
import Derived.Lib.SmallJoins
import Derived.Test.YtlbjaimgoiimgaaXaw
import Derived.Deep.RegionHeld3
import Derived.Deep.Cut
import Derived.Test.YtlbjaimgoiimgaaXas
import Derived.Test.YtlbjaimgoiimgaaXar

namespace Go.Proofs.Ytlbjaimgoiimgaa
open Go.RowKit

theorem ints2 (w : World) (x y : Int) : IntsAt (w.alloc (.cells #[.int .i64 x, .int .i64 y] 3)).heap.size (w.alloc (.cells #[.int .i64 x, .int .i64 y] 3)) (some ⟨w.heap.size, 0, none⟩) [x, y] := fun k hk => by
  have h := Blk.new w 3 #[.int .i64 x, .int .i64 y]
  have : k = 0 ∨ k = 1 := by simp at hk; omega
  rcases this with rfl | rfl
  · exact ⟨_, 0, rfl, h.lt, h.cell 0⟩
  · exact ⟨_, 0, rfl, h.lt, h.cell 1⟩
theorem ints3 (w : World) (x y z : Int) : IntsAt (w.alloc (.cells #[.int .i64 x, .int .i64 y, .int .i64 z] 3)).heap.size (w.alloc (.cells #[.int .i64 x, .int .i64 y, .int .i64 z] 3)) (some ⟨w.heap.size, 0, none⟩) [x, y, z] := fun k hk => by
  have h := Blk.new w 3 #[.int .i64 x, .int .i64 y, .int .i64 z]
  have : k = 0 ∨ k = 1 ∨ k = 2 := by simp at hk; omega
  rcases this with rfl | rfl | rfl
  · exact ⟨_, 0, rfl, h.lt, h.cell 0⟩
  · exact ⟨_, 0, rfl, h.lt, h.cell 1⟩
  · exact ⟨_, 0, rfl, h.lt, h.cell 2⟩
/-- A row of numbers. -/
def rowD (l : List Int) (n : Nat) : Rd := ⟨((List.range n).map fun k => ((l.getD k 0 : Int) : Rat)).map Fd.of, Fd.of ((l.getD n 0 : Int) : Rat)⟩
theorem rowD_q (l : List Int) (n : Nat) : (rowD l n).q = (List.range (n + 1)).map fun k => ((l.getD k 0 : Int) : Rat) := by
  unfold rowD Rd.q
  simp only
  rw [map_of_q, Fd.of_q, List.range_succ, List.map_append]
  rfl
theorem rb_small {z : Int} (h : ab z < pw 60) : Rb (z : Rat) 60 60 := by
  refine ⟨by simpa using h, ?_⟩
  have := pw_le (show 1 ≤ 60 by decide)
  have e : ab (1 : Int) < pw 1 := by decide
  simpa using (by omega : ab (1 : Int) < pw 60)
theorem rowD_R {l : List Int} {n : Nat} (h : ∀ k, k < n + 1 → ab (l.getD k 0) < pw 60) : (rowD l n).R n := by
  refine ⟨by simp [rowD], fun k hk => ?_, Fd.of_R (rb_small (h n (by omega)))⟩
  unfold rowD
  simp only
  rw [getD_map_of (by simpa using hk)]
  refine Fd.of_R ?_
  have e : ((List.range n).map fun k => ((l.getD k 0 : Int) : Rat)).getD k 0 = ((l.getD k 0 : Int) : Rat) := by simp [List.getD_eq_getElem?_getD, hk]
  rw [e]
  exact rb_small (h k (by omega))
theorem RdsAt.of {w : World} {A : Option Addr} {rs : List Rw} {ds : List Rd} (hl : rs.length = ds.length) (hc : RcAt w A rs) (hi : ∀ k, k < ds.length → RwIs w (rs.getD k rwnil) (ds.getD k rnil)) : RdsAt w A ds := fun k hk => by
  obtain ⟨b, off, e, hb, h0, h1, h2, h3, h4⟩ := hc k (by omega)
  have h := hi k hk
  refine ⟨b, off, (rs.getD k rwnil).A, (rs.getD k rwnil).c, (rs.getD k rwnil).f, e, hb, ?_, h1, h2, h3, h4, h.lim, h.a, h.v⟩
  rw [← h.n]
  exact h0
theorem lit_rc2 (w : World) (r s : Rw) : RcAt (w.alloc (.cells #[.slice r.A r.n r.c, .int .i64 r.f.s, .slice r.f.A r.f.n r.f.c, .int .i64 r.f.s', .slice r.f.A' r.f.n' r.f.c', .slice s.A s.n s.c, .int .i64 s.f.s, .slice s.f.A s.f.n s.f.c, .int .i64 s.f.s', .slice s.f.A' s.f.n' s.f.c'] 45)) (some ⟨w.heap.size, 0, none⟩) [r, s] := fun k hk => by
  have h := Blk.new w 45 #[.slice r.A r.n r.c, .int .i64 r.f.s, .slice r.f.A r.f.n r.f.c, .int .i64 r.f.s', .slice r.f.A' r.f.n' r.f.c', .slice s.A s.n s.c, .int .i64 s.f.s, .slice s.f.A s.f.n s.f.c, .int .i64 s.f.s', .slice s.f.A' s.f.n' s.f.c']
  have : k = 0 ∨ k = 1 := by simp at hk; omega
  rcases this with rfl | rfl
  · exact ⟨_, 0, rfl, h.lt, (h.cell 0), (h.cell 1), (h.cell 2), (h.cell 3), (h.cell 4)⟩
  · exact ⟨_, 0, rfl, h.lt, (h.cell 5), (h.cell 6), (h.cell 7), (h.cell 8), (h.cell 9)⟩
theorem rds1 {w : World} {r : Rw} {d : Rd} (h : RwIs w r d) : RdsAt (w.alloc (.cells #[.slice r.A r.n r.c, .int .i64 r.f.s, .slice r.f.A r.f.n r.f.c, .int .i64 r.f.s', .slice r.f.A' r.f.n' r.f.c'] 45)) (some ⟨w.heap.size, 0, none⟩) [d] :=
  RdsAt.of (rs := [r]) rfl (lit_rc w r) (fun k hk => by
    have : k = 0 := by simpa using hk
    subst this
    exact h.below ((Below.refl _ _).alloc (Nat.le_refl _) _))
theorem rds2 {w : World} {r s : Rw} {d e : Rd} (h : RwIs w r d) (h2 : RwIs w s e) : RdsAt (w.alloc (.cells #[.slice r.A r.n r.c, .int .i64 r.f.s, .slice r.f.A r.f.n r.f.c, .int .i64 r.f.s', .slice r.f.A' r.f.n' r.f.c', .slice s.A s.n s.c, .int .i64 s.f.s, .slice s.f.A s.f.n s.f.c, .int .i64 s.f.s', .slice s.f.A' s.f.n' s.f.c'] 45)) (some ⟨w.heap.size, 0, none⟩) [d, e] :=
  RdsAt.of (rs := [r, s]) rfl (lit_rc2 w r s) (fun k hk => by
    have : k = 0 ∨ k = 1 := by simp at hk; omega
    rcases this with rfl | rfl
    · exact h.below ((Below.refl _ _).alloc (Nat.le_refl _) _)
    · exact h2.below ((Below.refl _ _).alloc (Nat.le_refl _) _))
theorem QsAt.of_fc {S : Nat → Prop} {w : World} {A : Option Addr} {fs : List Fc} {xs : List Rat} (hl : fs.length = xs.length) (hc : FcAt w A fs) (hf : ∀ k, k < fs.length → FA S w (fs.getD k fnil) (xs.getD k 0)) : QsAt w A xs :=
  ⟨fs, hl, fun k hk => by
    obtain ⟨b, off, e, hb, h0, h1, h2, h3⟩ := hc k hk
    exact ⟨b, off, e, hb, fun h => h, h0, h1, h2, h3, (hf k hk).less (fun _ h => h.elim)⟩⟩
theorem qs1 {S : Nat → Prop} {w : World} {f : Fc} {x : Rat} (h : FA S w f x) : QsAt (w.alloc (.cells #[.int .i64 f.s, .slice f.A f.n f.c, .int .i64 f.s', .slice f.A' f.n' f.c'] 40)) (some ⟨w.heap.size, 0, none⟩) [x] :=
  QsAt.of_fc (S := S) (fs := [f]) rfl (lit_fc w f) (fun k hk => by
    have : k = 0 := by simpa using hk
    subst this
    exact h.below ((Below.refl _ _).alloc (Nat.le_refl _) _))
theorem lit_fc2 (w : World) (f g : Fc) : FcAt (w.alloc (.cells #[.int .i64 f.s, .slice f.A f.n f.c, .int .i64 f.s', .slice f.A' f.n' f.c', .int .i64 g.s, .slice g.A g.n g.c, .int .i64 g.s', .slice g.A' g.n' g.c'] 40)) (some ⟨w.heap.size, 0, none⟩) [f, g] := fun k hk => by
  have h := Blk.new w 40 #[.int .i64 f.s, .slice f.A f.n f.c, .int .i64 f.s', .slice f.A' f.n' f.c', .int .i64 g.s, .slice g.A g.n g.c, .int .i64 g.s', .slice g.A' g.n' g.c']
  have : k = 0 ∨ k = 1 := by simp at hk; omega
  rcases this with rfl | rfl
  · exact ⟨_, 0, rfl, h.lt, h.cell 0, h.cell 1, h.cell 2, h.cell 3⟩
  · exact ⟨_, 0, rfl, h.lt, h.cell 4, h.cell 5, h.cell 6, h.cell 7⟩
theorem qs2 {S : Nat → Prop} {w : World} {f g : Fc} {x y : Rat} (h : FA S w f x) (h2 : FA S w g y) : QsAt (w.alloc (.cells #[.int .i64 f.s, .slice f.A f.n f.c, .int .i64 f.s', .slice f.A' f.n' f.c', .int .i64 g.s, .slice g.A g.n g.c, .int .i64 g.s', .slice g.A' g.n' g.c'] 40)) (some ⟨w.heap.size, 0, none⟩) [x, y] :=
  QsAt.of_fc (S := S) (fs := [f, g]) rfl (lit_fc2 w f g) (fun k hk => by
    have : k = 0 ∨ k = 1 := by simp at hk; omega
    rcases this with rfl | rfl
    · exact h.below ((Below.refl _ _).alloc (Nat.le_refl _) _)
    · exact h2.below ((Below.refl _ _).alloc (Nat.le_refl _) _))
/-- What Solve returns, as a list of numbers. -/
theorem lsolve_q {A : Option Addr} {m cap : Nat} {n : Int} {rs : List Rd} (w : World) (h : RdsAt w A rs) (hm : rs.length = m) (hmm : m ≤ 1000000) :
    Calls Try.prog 11 #[.slice A m cap, .int .i64 n] w fun e w' => Below w.heap.size w w' ∧
      ((¬ SysR rs n ∧ e = .returned (.tuple #[.slice none 0 0, .int .i64 1])) ∨ (SysR rs n ∧ runFree m 0 (rs.map Rd.q) = none ∧ e = .returned (.tuple #[.slice none 0 0, .int .i64 6])) ∨
        (SysR rs n ∧ (∃ (k : Nat) (Y : List (List Rat)), runFree m 0 (rs.map Rd.q) = some (k, Y) ∧ k < m) ∧ e = .returned (.tuple #[.slice none 0 0, .int .i64 16])) ∨
        (SysR rs n ∧ ∃ (Y : List (List Rat)) (Ao : Option Addr) (co : Nat), runFree m 0 (rs.map Rd.q) = some (m, Y) ∧ e = .returned (.tuple #[.slice Ao m co, .int .i64 0]) ∧ QsAt w' Ao ((List.range m).map fun k => (Y.getD k []).getD m 0))) :=
  (lsolve_any w h hm hmm).mono fun e w' hp => by
    obtain ⟨hb, h1 | h1 | h1 | ⟨hs, Y, gx, fx, S, hr, he, -, hl, ⟨cur, hk, hc⟩, hq⟩⟩ := hp
    · exact ⟨hb, .inl h1⟩
    · exact ⟨hb, .inr (.inl h1)⟩
    · exact ⟨hb, .inr (.inr (.inl h1))⟩
    · refine ⟨hb, .inr (.inr (.inr ⟨hs, Y, _, _, hr, he, QsAt.of_cells (S := S) hk hc (by simp [hl]) (fun k hk => ?_)⟩))⟩
      have e : ((List.range m).map fun k => (Y.getD k []).getD m 0).getD k 0 = (Y.getD k []).getD m 0 := by simp [List.getD_eq_getElem?_getD, show k < m by omega]
      rw [e]
      exact hq k (by omega)
theorem lkernel_q {A : Option Addr} {m cap : Nat} {n : Int} {rs : List Rd} (w : World) (h : RdsAt w A rs) (hm : rs.length = m) (hmm : m ≤ 1000000) :
    Calls Try.prog 12 #[.slice A m cap, .int .i64 n] w fun e w' => Below w.heap.size w w' ∧
      ((¬ SysR rs n ∧ e = .returned (.tuple #[.slice none 0 0, .bool false])) ∨ (SysR rs n ∧ runFree m 0 (rs.map Rd.q) = none ∧ e = .returned (.tuple #[.slice none 0 0, .bool false])) ∨
        (SysR rs n ∧ (∃ Y : List (List Rat), runFree m 0 (rs.map Rd.q) = some (m, Y)) ∧ e = .returned (.tuple #[.slice none 0 0, .bool false])) ∨
        (SysR rs n ∧ ∃ (k : Nat) (Y : List (List Rat)) (Ao : Option Addr) (co : Nat), runFree m 0 (rs.map Rd.q) = some (k, Y) ∧ k < m ∧ e = .returned (.tuple #[.slice Ao m co, .bool true]) ∧ QsAt w' Ao ((List.range m).map (kerV Y k)))) :=
  (lkernel_any w h hm hmm).mono fun e w' hp => by
    obtain ⟨hb, h1 | h1 | h1 | ⟨hs, k, Y, gx, fx, S, hr, hkm, he, -, hl, ⟨cur, hk, hc⟩, hq⟩⟩ := hp
    · exact ⟨hb, .inl h1⟩
    · exact ⟨hb, .inr (.inl h1)⟩
    · exact ⟨hb, .inr (.inr (.inl h1))⟩
    · refine ⟨hb, .inr (.inr (.inr ⟨hs, k, Y, _, _, hr, hkm, he, QsAt.of_cells (S := S) hk hc (by simp [hl]) (fun j hj => ?_)⟩))⟩
      have e : ((List.range m).map (kerV Y k)).getD j 0 = kerV Y k j := by simp [List.getD_eq_getElem?_getD, show j < m by omega]
      rw [e]
      exact hq j (by omega)

/-- The examples, plain. -/
theorem ex1 : runFree 1 0 [[2, 1]] = some (1, [[1, 1 / 2]]) := by decide +kernel
theorem ex2 : runFree 2 0 [[1, 1, 3], [1, -1, 1]] = some (2, [[1, 0, 2], [0, 1, 1]]) := by decide +kernel
theorem ex3 : runFree 2 0 [[1, 2, 1], [2, 4, 5]] = some (1, [[1, 2, 1], [0, 0, 3]]) := by decide +kernel
theorem ex4 : runRank 2 0 0 [[1, 2, 1], [2, 4, 5]] = some 1 := by decide +kernel
theorem ex5 : sumTo [1, 2] [-2, 1] 2 = some 0 := by decide +kernel

theorem rds_nil (w : World) (A : Option Addr) : RdsAt w A [] := fun k hk => (by cases hk)
theorem sys0 : SysR [] 0 := ⟨rfl, (show 0 ≤ 40 by decide), fun k hk => (by cases hk)⟩
theorem sys1 : SysR [rowD [2, 1] 1] 1 := ⟨rfl, by decide, fun k hk => by
  have : k = 0 := by simpa using hk
  subst this
  exact rowD_R (by decide)⟩
theorem sys2 {l l' : List Int} (h : ∀ k, k < 3 → ab (l.getD k 0) < pw 60) (h' : ∀ k, k < 3 → ab (l'.getD k 0) < pw 60) : SysR [rowD l 2, rowD l' 2] 2 := ⟨rfl, (show 2 ≤ 40 by decide), fun k hk => by
  have : k = 0 ∨ k = 1 := by simp at hk; omega
  rcases this with rfl | rfl
  · exact rowD_R h
  · exact rowD_R h'⟩
theorem q1 : [rowD [2, 1] 1].map Rd.q = [[2, 1]] := by
  simp only [List.map_cons, List.map_nil, rowD_q]
  rfl
theorem q2 (l l' : List Int) : [rowD l 2, rowD l' 2].map Rd.q = [[((l.getD 0 0 : Int) : Rat), ((l.getD 1 0 : Int) : Rat), ((l.getD 2 0 : Int) : Rat)], [((l'.getD 0 0 : Int) : Rat), ((l'.getD 1 0 : Int) : Rat), ((l'.getD 2 0 : Int) : Rat)]] := by
  simp only [List.map_cons, List.map_nil, rowD_q]
  rfl

theorem sml {z : Int} (hz : ab z ≤ 10) : isI z ∧ ab z < pw 60 := by
  have := pw_le (show 1 ≤ 60 by decide)
  have e : (10 : Int) < pw 1 := by decide
  unfold ab at *
  exact ⟨by unfold isI; omega, by omega⟩
theorem sml2 {x y : Int} (hx : ab x ≤ 10) (hy : ab y ≤ 10) : ∀ k, k < 1 + 1 → isI ([x, y].getD k 0) ∧ ab ([x, y].getD k 0) < pw 60 := fun k hk => by
  have : k = 0 ∨ k = 1 := by omega
  rcases this with rfl | rfl
  · exact sml hx
  · exact sml hy
theorem sml3 {x y z : Int} (hx : ab x ≤ 10) (hy : ab y ≤ 10) (hz : ab z ≤ 10) : ∀ k, k < 2 + 1 → isI ([x, y, z].getD k 0) ∧ ab ([x, y, z].getD k 0) < pw 60 := fun k hk => by
  have : k = 0 ∨ k = 1 ∨ k = 2 := by omega
  rcases this with rfl | rfl | rfl
  · exact sml hx
  · exact sml hy
  · exact sml hz

theorem half_any (w : World) : Calls Try.prog 26 #[.int .i64 1, .int .i64 2] w (OpY (1 / 2) w) :=
  (rfof_any 1 2 w (by decide) (by decide)).mono fun _ _ hp => op_new (by decide) (by decide +kernel) (by decide +kernel) (by decide +kernel) hp
theorem kerx : (List.range 2).map (kerV [[1, 2, 1], [0, 0, 3]] 1) = [-2, 1] := by decide +kernel
theorem not_sol : ¬ SolvesP [rowD [1, 2, 1] 2, rowD [2, 4, 5] 2] ([-2, 1].map Fd.of) 2 := fun h => by
  have h0 : sumTo ((((List.range 2).map fun k => (([1, 2, 1].getD k 0 : Int) : Rat)).map Fd.of).map Fd.q) (([-2, 1].map Fd.of).map Fd.q) 2 = some (Fd.of (([1, 2, 1].getD 2 0 : Int) : Rat)).q := h.2.2 0 (by decide)
  rw [map_of_q, map_of_q, Fd.of_q] at h0
  exact absurd h0 (by decide +kernel)
theorem lnum_any (z : Int) (hz : ab z ≤ 10) (w : World) : Calls Try.prog 24 #[.int .i64 z] w fun e w' => ∃ f : Fc, e = .returned f.v ∧ FA (fun _ => False) w' f (z : Rat) ∧ Below w.heap.size w w' :=
  (lnumber_fr z w (sml hz).1 (by decide) (sml hz).2).mono fun _ _ hp => by
    obtain ⟨f, h1, h2, h3, h4⟩ := hp
    exact ⟨f, h1, FA.own h2 (fun _ h => h.elim) h3, h4⟩

set_option maxRecDepth 100000 in
set_option maxHeartbeats 16000000 in
theorem small_any (w : World) : Calls Try.prog 7 #[] w fun e w' => e = .returned (.bool true) ∧ Below w.heap.size w w' := by
  go_enter Try.func7, Try.ntmps7
  go_wp2_with fail
  (with_reducible refine (row_any _ (ints2 w 2 1) (n := 1) rfl (by decide) (sml2 (by decide) (by decide))).mono ?_)
  rintro e u1 ⟨⟨A1, n1, c1, s1, X1, m1, d1, s2, X2, m2, d2⟩, rfl, hb1, hr1⟩
  have hT : Below w.heap.size w u1 := (((Below.refl w.heap.size w).alloc (Nat.le_refl _) (.cells #[.int .i64 2, .int .i64 1] 3))).trans (hb1.mono (by simp))
  have hd1 := Lib.hid (rds1 (d := rowD [2, 1] 1) hr1)
  have hbA : Below u1.heap.size u1 (u1.alloc (.cells #[.slice A1 n1 c1, .int .i64 s1, .slice X1 m1 d1, .int .i64 s2, .slice X2 m2 d2] 45)) := (Below.refl _ _).alloc (Nat.le_refl _) _
  replace hT := hT.trans (hbA.mono hT.size)
  clear hb1 hr1 hbA
  go_wp2_with fail
  generalize u1.alloc (.cells #[.slice A1 n1 c1, .int .i64 s1, .slice X1 m1 d1, .int .i64 s2, .slice X2 m2 d2] 45) = u2 at *
  (with_reducible refine (lsolve_q (m := 1) (n := 1) (rs := [rowD [2, 1] 1]) _ hd1.out rfl (by decide)).mono ?_)
  rintro e u3 ⟨hb3, ⟨hn, _⟩ | ⟨hn, hn2, _⟩ | ⟨hn, ⟨k, Y, hn2, hn3⟩, _⟩ | ⟨-, Y, Aa, ca, hr, rfl, hqa⟩⟩
  · exact absurd sys1 hn
  · have h := hn2.symm.trans ((congrArg (runFree 1 0) q1).trans ex1)
    cases h
  · have h := hn2.symm.trans ((congrArg (runFree 1 0) q1).trans ex1)
    injection h with h
    injection h with h1 h2
    subst h1
    exact absurd hn3 (by decide)
  have hY := hr.symm.trans ((congrArg (runFree 1 0) q1).trans ex1)
  injection hY with hY
  injection hY with _ hY
  subst hY
  have HA := Lib.hid (show QsAt u3 Aa [1 / 2] from hqa)
  replace hT := hT.trans (hb3.mono hT.size)
  clear hr hqa hd1 hb3
  go_wp2_with fail
  (with_reducible refine (row_any (l := [1, 1, 3]) _ (ints3 u3 1 1 3) (n := 2) rfl (by decide) (sml3 (by decide) (by decide) (by decide))).mono ?_)
  rintro e u4 ⟨⟨A1, n1, c1, s1, X1, m1, d1, s2, X2, m2, d2⟩, rfl, hb4, hr1⟩
  have hb34 : Below u3.heap.size u3 u4 := (((Below.refl u3.heap.size u3).alloc (Nat.le_refl _) (.cells #[.int .i64 1, .int .i64 1, .int .i64 3] 3))).trans (hb4.mono (by simp))
  replace hT := hT.trans (hb34.mono hT.size)
  replace HA := Lib.hid (HA.out.below hb34)
  clear hb34 hb4
  go_wp2_with fail
  (with_reducible refine (row_any (l := [1, -1, 1]) _ (ints3 u4 1 (-1) 1) (n := 2) rfl (by decide) (sml3 (by decide) (by decide) (by decide))).mono ?_)
  rintro e u5 ⟨⟨B1, p1, e1, t1, Y1, q1', f1, t2, Y2, q2', f2⟩, rfl, hb5, hr2⟩
  have hb45 : Below u4.heap.size u4 u5 := (((Below.refl u4.heap.size u4).alloc (Nat.le_refl _) (.cells #[.int .i64 1, .int .i64 (-1), .int .i64 1] 3))).trans (hb5.mono (by simp))
  replace hT := hT.trans (hb45.mono hT.size)
  have hbA : Below u5.heap.size u5 (u5.alloc (.cells #[.slice A1 n1 c1, .int .i64 s1, .slice X1 m1 d1, .int .i64 s2, .slice X2 m2 d2, .slice B1 p1 e1, .int .i64 t1, .slice Y1 q1' f1, .int .i64 t2, .slice Y2 q2' f2] 45)) := (Below.refl _ _).alloc (Nat.le_refl _) _
  have hd1 := Lib.hid (rds2 (d := rowD [1, 1, 3] 2) (e := rowD [1, -1, 1] 2) (hr1.below hb45) hr2)
  replace HA := Lib.hid ((HA.out.below hb45).below hbA)
  replace hT := hT.trans (hbA.mono hT.size)
  clear hb45 hb5 hr1 hr2 hbA
  go_wp2_with fail
  generalize u5.alloc (.cells #[.slice A1 n1 c1, .int .i64 s1, .slice X1 m1 d1, .int .i64 s2, .slice X2 m2 d2, .slice B1 p1 e1, .int .i64 t1, .slice Y1 q1' f1, .int .i64 t2, .slice Y2 q2' f2] 45) = u6 at *
  have s22 : SysR [rowD [1, 1, 3] 2, rowD [1, -1, 1] 2] 2 := sys2 (fun k hk => (sml3 (by decide) (by decide) (by decide) k hk).2) (fun k hk => (sml3 (by decide) (by decide) (by decide) k hk).2)
  (with_reducible refine (lsolve_q (m := 2) (n := 2) (rs := [rowD [1, 1, 3] 2, rowD [1, -1, 1] 2]) _ hd1.out rfl (by decide)).mono ?_)
  rintro e u7 ⟨hb7, ⟨hn, _⟩ | ⟨hn, hn2, _⟩ | ⟨hn, ⟨k, Y, hn2, hn3⟩, _⟩ | ⟨-, Y, Ab, cb, hr, rfl, hqb⟩⟩
  · exact absurd s22 hn
  · have h := hn2.symm.trans ((congrArg (runFree 2 0) (q2 _ _)).trans ex2)
    cases h
  · have h := hn2.symm.trans ((congrArg (runFree 2 0) (q2 _ _)).trans ex2)
    injection h with h
    injection h with h1 h2
    subst h1
    exact absurd hn3 (by decide)
  have hY := hr.symm.trans ((congrArg (runFree 2 0) (q2 _ _)).trans ex2)
  injection hY with hY
  injection hY with _ hY
  subst hY
  have HB := Lib.hid (show QsAt u7 Ab [2, 1] from hqb)
  replace hT := hT.trans (hb7.mono hT.size)
  replace HA := Lib.hid (HA.out.below hb7)
  clear hr hqb hd1 hb7 s22
  go_wp2_with fail
  (with_reducible refine (row_any (l := [1, 2, 1]) _ (ints3 u7 1 2 1) (n := 2) rfl (by decide) (sml3 (by decide) (by decide) (by decide))).mono ?_)
  rintro e u8 ⟨⟨A1, n1, c1, s1, X1, m1, d1, s2, X2, m2, d2⟩, rfl, hb4, hr1⟩
  have hb34 : Below u7.heap.size u7 u8 := (((Below.refl u7.heap.size u7).alloc (Nat.le_refl _) (.cells #[.int .i64 1, .int .i64 2, .int .i64 1] 3))).trans (hb4.mono (by simp))
  replace hT := hT.trans (hb34.mono hT.size)
  replace HA := Lib.hid (HA.out.below hb34)
  replace HB := Lib.hid (HB.out.below hb34)
  clear hb34 hb4
  go_wp2_with fail
  (with_reducible refine (row_any (l := [2, 4, 5]) _ (ints3 u8 2 4 5) (n := 2) rfl (by decide) (sml3 (by decide) (by decide) (by decide))).mono ?_)
  rintro e u9 ⟨⟨B1, p1, e1, t1, Y1, q1', f1, t2, Y2, q2', f2⟩, rfl, hb5, hr2⟩
  have hb45 : Below u8.heap.size u8 u9 := (((Below.refl u8.heap.size u8).alloc (Nat.le_refl _) (.cells #[.int .i64 2, .int .i64 4, .int .i64 5] 3))).trans (hb5.mono (by simp))
  replace hT := hT.trans (hb45.mono hT.size)
  have hbA : Below u9.heap.size u9 (u9.alloc (.cells #[.slice A1 n1 c1, .int .i64 s1, .slice X1 m1 d1, .int .i64 s2, .slice X2 m2 d2, .slice B1 p1 e1, .int .i64 t1, .slice Y1 q1' f1, .int .i64 t2, .slice Y2 q2' f2] 45)) := (Below.refl _ _).alloc (Nat.le_refl _) _
  have HD := Lib.hid (rds2 (d := rowD [1, 2, 1] 2) (e := rowD [2, 4, 5] 2) (hr1.below hb45) hr2)
  replace HA := Lib.hid ((HA.out.below hb45).below hbA)
  replace HB := Lib.hid ((HB.out.below hb45).below hbA)
  replace hT := hT.trans (hbA.mono hT.size)
  clear hb45 hb5 hr1 hr2 hbA
  go_wp2_with fail
  generalize u9.alloc (.cells #[.slice A1 n1 c1, .int .i64 s1, .slice X1 m1 d1, .int .i64 s2, .slice X2 m2 d2, .slice B1 p1 e1, .int .i64 t1, .slice Y1 q1' f1, .int .i64 t2, .slice Y2 q2' f2] 45) = v0 at *
  obtain ⟨G, hG⟩ : ∃ G, u9.heap.size = G := ⟨_, rfl⟩
  rw [hG] at HD ⊢
  clear hG
  have S22 := Lib.hid (show SysR [rowD [1, 2, 1] 2, rowD [2, 4, 5] 2] 2 from sys2 (fun k hk => (sml3 (by decide) (by decide) (by decide) k hk).2) (fun k hk => (sml3 (by decide) (by decide) (by decide) k hk).2))
  have E3 := Lib.hid ((congrArg (runFree 2 0) (q2 [1, 2, 1] [2, 4, 5])).trans ex3)
  (with_reducible refine (lsolve_q (m := 2) (n := 2) (rs := [rowD [1, 2, 1] 2, rowD [2, 4, 5] 2]) _ HD.out rfl (by decide)).mono ?_)
  rintro e v1 ⟨hb7, ⟨hn, _⟩ | ⟨hn, hn2, _⟩ | ⟨-, -, rfl⟩ | ⟨-, Y, Ab', cb', hr, _, _⟩⟩
  · exact absurd S22.out hn
  · have h := hn2.symm.trans E3.out
    cases h
  rotate_left
  · have h := hr.symm.trans E3.out
    injection h with h
    injection h with h1 h2
    exact absurd h1 (by decide)
  replace hT := hT.trans (hb7.mono hT.size)
  replace HA := Lib.hid (HA.out.below hb7)
  replace HB := Lib.hid (HB.out.below hb7)
  replace HD := Lib.hid (HD.out.below hb7)
  clear hb7
  go_wp2_with fail
  (with_reducible refine (lkernel_q (m := 2) (n := 2) (rs := [rowD [1, 2, 1] 2, rowD [2, 4, 5] 2]) _ HD.out rfl (by decide)).mono ?_)
  rintro e v2 ⟨hb7, ⟨hn, _⟩ | ⟨hn, hn2, _⟩ | ⟨hn, ⟨Y, hn2⟩, _⟩ | ⟨-, k, Y, Ak, ck, hr, -, rfl, hqk⟩⟩
  · exact absurd S22.out hn
  · have h := hn2.symm.trans E3.out
    cases h
  · have h := hn2.symm.trans E3.out
    injection h with h
    injection h with h1 h2
    exact absurd h1 (by decide)
  have hY := hr.symm.trans E3.out
  injection hY with hY
  injection hY with hk1 hY
  subst hk1 hY
  have HK := Lib.hid (show QsAt v2 Ak [-2, 1] by rw [← kerx]; exact hqk)
  replace hT := hT.trans (hb7.mono hT.size)
  replace HA := Lib.hid (HA.out.below hb7)
  replace HB := Lib.hid (HB.out.below hb7)
  replace HD := Lib.hid (HD.out.below hb7)
  clear hb7 hr hqk
  go_wp2_with fail
  (with_reducible refine (lrank_any (m := 2) (n := 2) (rs := [rowD [1, 2, 1] 2, rowD [2, 4, 5] 2]) _ HD.out rfl (by decide)).mono ?_)
  rintro e v3 ⟨hb7, ⟨hn, _⟩ | ⟨hn, hn2, _⟩ | ⟨-, k, hr, rfl⟩⟩
  · exact absurd S22.out hn
  · have h := hn2.symm.trans ((congrArg (runRank 2 0 0) (q2 [1, 2, 1] [2, 4, 5])).trans ex4)
    cases h
  have hY := hr.symm.trans ((congrArg (runRank 2 0 0) (q2 [1, 2, 1] [2, 4, 5])).trans ex4)
  injection hY with hY
  subst hY
  replace hT := hT.trans (hb7.mono hT.size)
  replace HA := Lib.hid (HA.out.below hb7)
  replace HB := Lib.hid (HB.out.below hb7)
  replace HD := Lib.hid (HD.out.below hb7)
  replace HK := Lib.hid (HK.out.below hb7)
  clear hb7 hr
  go_wp2_with fail
  (with_reducible refine (half_any _).mono ?_)
  rintro e v4 ⟨⟨s1, X1, m1, d1, s2, X2, m2, d2⟩, rfl, hho, hrb, hb7⟩
  have hfh : FA (fun _ => False) v4 ⟨s1, X1, m1, d1, s2, X2, m2, d2⟩ (1 / 2) := FA.own hho (fun _ h => h.elim) hrb
  have hbA : Below v4.heap.size v4 (v4.alloc (.cells #[.int .i64 s1, .slice X1 m1 d1, .int .i64 s2, .slice X2 m2 d2] 40)) := (Below.refl _ _).alloc (Nat.le_refl _) _
  have hb9 := hb7.trans (hbA.mono hb7.size)
  replace hT := hT.trans (hb9.mono hT.size)
  replace HA := Lib.hid (HA.out.below hb9)
  replace HB := Lib.hid (HB.out.below hb9)
  replace HD := Lib.hid (HD.out.below hb9)
  replace HK := Lib.hid (HK.out.below hb9)
  have kh := Blk.new v4 40 #[.int .i64 s1, .slice X1 m1 d1, .int .i64 s2, .slice X2 m2 d2]
  replace hfh := hfh.below hbA
  clear hho hrb hb7 hbA hb9
  go_upto_region 8 with fail
  obtain ⟨Gh, hGh⟩ : ∃ G, v4.heap.size = G := ⟨_, rfl⟩
  rw [hGh] at kh ⊢
  generalize v4.alloc (.cells #[.int .i64 s1, .slice X1 m1 d1, .int .i64 s2, .slice X2 m2 d2] 40) = v5 at *
  clear hGh
  have x0 := kh.cell 0
  have x1 := kh.cell 1
  have x2 := kh.cell 2
  have x3 := kh.cell 3
  simp at x0 x1 x2 x3
  have hbA : Below v5.heap.size v5 (v5.alloc (.cells #[.int .i64 s1, .slice X1 m1 d1, .int .i64 s2, .slice X2 m2 d2] 40)) := (Below.refl _ _).alloc (Nat.le_refl _) _
  have hqh := qs1 hfh
  replace hT := hT.trans (hbA.mono hT.size)
  replace HA := Lib.hid (HA.out.below hbA)
  replace HB := Lib.hid (HB.out.below hbA)
  replace HD := Lib.hid (HD.out.below hbA)
  replace HK := Lib.hid (HK.out.below hbA)
  clear hbA kh hfh
  go_wp2_with fail
  (with_reducible refine (rlsame_true (n := 1) (xs := [1 / 2]) _ HA.out hqh rfl (by decide)).mono ?_)
  rintro e v6 ⟨rfl, hb7⟩
  replace hT := hT.trans (hb7.mono hT.size)
  replace HB := Lib.hid (HB.out.below hb7)
  replace HD := Lib.hid (HD.out.below hb7)
  replace HK := Lib.hid (HK.out.below hb7)
  clear hb7 hqh HA
  go_wp2_with fail
  (with_reducible refine (lnum_any (2) (by decide) _).mono ?_)
  rintro e v7 ⟨⟨s31, X31, m31, d31, s32, X32, m32, d32⟩, rfl, hf3, hb7⟩
  replace hT := hT.trans (hb7.mono hT.size)
  replace HB := Lib.hid (HB.out.below hb7)
  replace HD := Lib.hid (HD.out.below hb7)
  replace HK := Lib.hid (HK.out.below hb7)
  clear hb7
  go_wp2_with fail
  (with_reducible refine (lnum_any 1 (by decide) _).mono ?_)
  rintro e v8 ⟨⟨s41, X41, m41, d41, s42, X42, m42, d42⟩, rfl, hf4, hb7⟩
  replace hT := hT.trans (hb7.mono hT.size)
  replace HB := Lib.hid (HB.out.below hb7)
  replace HD := Lib.hid (HD.out.below hb7)
  replace HK := Lib.hid (HK.out.below hb7)
  replace hf3 := hf3.below hb7
  clear hb7
  have hbA : Below v8.heap.size v8 (v8.alloc (.cells #[.int .i64 s31, .slice X31 m31 d31, .int .i64 s32, .slice X32 m32 d32, .int .i64 s41, .slice X41 m41 d41, .int .i64 s42, .slice X42 m42 d42] 40)) := (Below.refl _ _).alloc (Nat.le_refl _) _
  have hql := qs2 hf3 hf4
  replace hT := hT.trans (hbA.mono hT.size)
  replace HB := Lib.hid (HB.out.below hbA)
  replace HD := Lib.hid (HD.out.below hbA)
  replace HK := Lib.hid (HK.out.below hbA)
  clear hbA hf3 hf4
  go_wp2_with fail
  (with_reducible refine (rlsame_true (n := 2) (xs := [2, 1]) _ HB.out hql rfl (by decide)).mono ?_)
  rintro e v9 ⟨rfl, hb7⟩
  replace hT := hT.trans (hb7.mono hT.size)
  replace HD := Lib.hid (HD.out.below hb7)
  replace HK := Lib.hid (HK.out.below hb7)
  clear hb7 hql HB
  go_wp2_with fail
  (with_reducible refine (lnum_any (-2) (by decide) _).mono ?_)
  rintro e v10 ⟨⟨s51, X51, m51, d51, s52, X52, m52, d52⟩, rfl, hf5, hb7⟩
  replace hT := hT.trans (hb7.mono hT.size)
  replace HD := Lib.hid (HD.out.below hb7)
  replace HK := Lib.hid (HK.out.below hb7)
  clear hb7
  go_wp2_with fail
  (with_reducible refine (lnum_any 1 (by decide) _).mono ?_)
  rintro e v11 ⟨⟨s61, X61, m61, d61, s62, X62, m62, d62⟩, rfl, hf6, hb7⟩
  replace hT := hT.trans (hb7.mono hT.size)
  replace HD := Lib.hid (HD.out.below hb7)
  replace HK := Lib.hid (HK.out.below hb7)
  replace hf5 := hf5.below hb7
  clear hb7
  have hbA : Below v11.heap.size v11 (v11.alloc (.cells #[.int .i64 s51, .slice X51 m51 d51, .int .i64 s52, .slice X52 m52 d52, .int .i64 s61, .slice X61 m61 d61, .int .i64 s62, .slice X62 m62 d62] 40)) := (Below.refl _ _).alloc (Nat.le_refl _) _
  have hql := qs2 hf5 hf6
  replace hT := hT.trans (hbA.mono hT.size)
  replace HD := Lib.hid (HD.out.below hbA)
  replace HK := Lib.hid (HK.out.below hbA)
  clear hbA hf5 hf6
  go_wp2_with fail
  (with_reducible refine (rlsame_true (n := 2) (xs := [-2, 1]) _ HK.out hql rfl (by decide)).mono ?_)
  rintro e v12 ⟨rfl, hb7⟩
  replace hT := hT.trans (hb7.mono hT.size)
  replace HD := Lib.hid (HD.out.below hb7)
  replace HK := Lib.hid (HK.out.below hb7)
  clear hb7 hql
  go_wp2_with fail
  (with_reducible refine (lcheck_any (m := 2) (mx := 2) (n := 2) (rs := [rowD [1, 2, 1] 2, rowD [2, 4, 5] 2]) (xs := [-2, 1].map Fd.of) _ HD.out rfl (by decide) HK.out.fds rfl (by decide) false ⟨fun h => (by cases h), fun h => absurd h not_sol⟩).mono ?_)
  rintro e v13 ⟨rfl, hb7⟩
  replace hT := hT.trans (hb7.mono hT.size)
  clear hb7 HD HK
  go_wp2_with fail
  (with_reducible refine (lright_any (m := 0) (n := 0) (rs := []) (A := none) (cap := 0) _ (rds_nil _ _) rfl (by decide) true ⟨fun _ => sys0, fun _ => rfl⟩).mono ?_)
  rintro e v14 ⟨rfl, hb7⟩
  replace hT := hT.trans (hb7.mono hT.size)
  clear hb7
  go_wp2_with fail
  go_ret
  exact ⟨rfl, hT⟩

end Go.Proofs.Ytlbjaimgoiimgaa

namespace Go.Proofs.Ytlbjaimgoiimgaa
open Go.ChangeShapes Go.WideShapes Go.ChangeAt Go.RowKit Go.Joins Go.Deep

/-- Rows at address A, however long. -/
def RdsL (w : World) (A : Option Addr) (rs : List Rd) : Prop := ∀ k, k < rs.length → ∃ (b off : Nat) (Aa : Option Addr) (ca : Nat) (f : Fc), A = some ⟨b, off, none⟩ ∧ b < w.heap.size ∧
  w.cell? ⟨b, off + k * 5, none⟩ = some (.slice Aa (rs.getD k rnil).A.length ca) ∧ w.cell? ⟨b, off + k * 5 + 1, none⟩ = some (.int .i64 f.s) ∧ w.cell? ⟨b, off + k * 5 + 2, none⟩ = some (.slice f.A f.n f.c) ∧
  w.cell? ⟨b, off + k * 5 + 3, none⟩ = some (.int .i64 f.s') ∧ w.cell? ⟨b, off + k * 5 + 4, none⟩ = some (.slice f.A' f.n' f.c') ∧
  FdsAt w Aa (rs.getD k rnil).A ∧ FdIs w f (rs.getD k rnil).v
theorem RdsL.below {w w' : World} {A : Option Addr} {rs : List Rd} (h : RdsL w A rs) (hb : Below w.heap.size w w') : RdsL w' A rs := fun k hk => by
  obtain ⟨b, off, Aa, ca, f, e, hB, h0, h1, h2, h3, h4, h6, h7⟩ := h k hk
  have hc : ∀ i, w'.cell? ⟨b, i, none⟩ = w.cell? ⟨b, i, none⟩ := fun i => hb.cell (p := ⟨b, i, none⟩) hB
  exact ⟨b, off, Aa, ca, f, e, Nat.lt_of_lt_of_le hB hb.size, (hc _).trans h0, (hc _).trans h1, (hc _).trans h2, (hc _).trans h3, (hc _).trans h4, h6.below hb, h7.below hb⟩
theorem RdsL.tight {w : World} {A : Option Addr} {rs : List Rd} (h : RdsL w A rs) (hl : ∀ k, k < rs.length → (rs.getD k rnil).A.length ≤ 1000000) : RdsAt w A rs := fun k hk => by
  obtain ⟨b, off, Aa, ca, f, e, hB, h0, h1, h2, h3, h4, h6, h7⟩ := h k hk
  exact ⟨b, off, Aa, ca, f, e, hB, h0, h1, h2, h3, h4, hl k hk, h6, h7⟩

set_option maxRecDepth 100000 in
set_option maxHeartbeats 8000000 in
theorem fewL_any {A : Option Addr} {m cap : Nat} {rs : List Rd} {N d : Int} (w : World) (h : RdsL w A rs) (hm : rs.length = m) (hN0 : 0 ≤ N) (hN1 : N ≤ 1000) :
    Calls Try.prog 8 #[.slice A m cap, .int .i64 N, .int .i64 d] w fun e w' => ∃ b, e = .returned (.bool b) ∧ Below w.heap.size w w' ∧ (b = true → (m : Int) ≤ N ∧ ∀ k, k < m → ((rs.getD k rnil).A.length : Int) ≤ N ∧ (∀ j, j < (rs.getD k rnil).A.length → FewD d ((rs.getD k rnil).A.getD j dnil)) ∧ FewD d (rs.getD k rnil).v) := by
  have HD := Lib.hid h; clear h
  have HM := Lib.hid hm; clear hm
  go_enter Try.func8, Try.ntmps8
  go_wp2_with fail
  go_loopw [7] (fun iv wr => ∃ i : Nat, i ≤ m ∧ (i : Int) ≤ N + 1 ∧ iv = .int .i64 i ∧ Below w.heap.size w wr ∧ Hid (∀ k, k < i → ((rs.getD k rnil).A.length : Int) ≤ N ∧ (∀ j, j < (rs.getD k rnil).A.length → FewD d ((rs.getD k rnil).A.getD j dnil)) ∧ FewD d (rs.getD k rnil).v)) (fun iv _ => m - (intOf iv).toNat)
  case atStart => exact ⟨0, Nat.zero_le _, by omega, rfl, Below.refl _ _, Lib.hid fun k hk => by omega⟩
  case round =>
    obtain ⟨i, hi, hiN, rfl, hbl, hz⟩ := hrel
    by_cases hgo : i < m
    · by_cases hn : (i : Int) ≤ N
      · have hd1 : decide ((i : Int) ≤ N) = true := decide_eq_true hn
        obtain ⟨b1, o1, Aa, ca, f1, hA1, hB1, c0, c1, c2, c3, c4, hfa, hf1⟩ := (HD.out.below hbl) i (by rw [HM.out]; exact hgo)
        subst hA1
        have h1 := hf1.a1.hn
        have h2 := hf1.a2.hn
        obtain ⟨s1, X1, n1, e1, s2, X2, n2, e2⟩ := f1
        simp only at c1 c2 c3 c4 h1 h2
        have H12 := Lib.hid (And.intro h1 h2)
        obtain ⟨la, hlae⟩ : ∃ l, (rs.getD i rnil).A.length = l := ⟨_, rfl⟩
        rw [hlae] at c0
        have HLA := Lib.hid hlae; clear hlae
        clear hf1 h1 h2
        go_wp2_with fail
        (with_reducible refine (fewF_any _ hfa HLA.out hN0 hN1).mono ?_)
        rintro e u1 ⟨b, rfl, hb1, hbt⟩
        have hbb := hbl.trans (hb1.mono hbl.size)
        have k1 := hb1.cell (p := ⟨b1, o1 + i * 5 + 1, none⟩) hB1
        have k2 := hb1.cell (p := ⟨b1, o1 + i * 5 + 2, none⟩) hB1
        have k3 := hb1.cell (p := ⟨b1, o1 + i * 5 + 3, none⟩) hB1
        have k4 := hb1.cell (p := ⟨b1, o1 + i * 5 + 4, none⟩) hB1
        rw [c1] at k1
        rw [c2] at k2
        rw [c3] at k3
        rw [c4] at k4
        cases b with
        | false =>
          clear hbt hfa c0 c1 c2 c3 c4 hd1
          go_wp2_with fail
          go_ret
          exact ⟨false, rfl, hbb, fun h => (by cases h)⟩
        | true =>
          have HBT := Lib.hid (hbt rfl)
          clear hbt hfa c0 c1 c2 c3 c4 hb1
          go_wp2_with fail
          clear k1 k2 k3 k4
          by_cases hfw : (n1 : Int) ≤ d ∧ (n2 : Int) ≤ d
          · (with_reducible refine (ffew_any _ _ _ _ _ _ _ _ _ _ true (decide_eq_true hfw)).mono ?_)
            rintro e u2 ⟨rfl, hb2⟩
            have hbb2 := hbb.trans (hb2.mono hbb.size)
            have HF := Lib.hid (show ((rs.getD i rnil).A.length : Int) ≤ N ∧ (∀ j, j < (rs.getD i rnil).A.length → FewD d ((rs.getD i rnil).A.getD j dnil)) ∧ FewD d (rs.getD i rnil).v from
              ⟨by rw [HLA.out]; exact HBT.out.1, by rw [HLA.out]; exact HBT.out.2, by rw [H12.out.1]; exact hfw.1, by rw [H12.out.2]; exact hfw.2⟩)
            clear hfw hd1
            go_wp2_with fail
            go_roundw
            case rel => exact ⟨i + 1, by omega, by omega, rfl, hbb2, Lib.hid fun k hk => by
              by_cases hki : k < i
              · exact hz.out k hki
              · have : k = i := by omega
                subst this
                exact HF.out⟩
            case measure => simp [intOf]; omega
          · (with_reducible refine (ffew_any _ _ _ _ _ _ _ _ _ _ false (decide_eq_false hfw)).mono ?_)
            rintro e u2 ⟨rfl, hb2⟩
            have hbb2 := hbb.trans (hb2.mono hbb.size)
            clear hfw hd1
            go_wp2_with fail
            go_ret
            exact ⟨false, rfl, hbb2, fun h => (by cases h)⟩
      · have hd1 : decide ((i : Int) ≤ N) = false := decide_eq_false hn
        have hd2 : decide ((m : Int) ≤ N) = false := decide_eq_false (by omega)
        go_wp2_with fail
        go_ret
        first | exact ⟨false, rfl, hbl, fun h => (by cases h)⟩ | exact .inl ⟨rfl, hbl⟩
    · have : i = m := by omega
      subst this
      by_cases hn : (i : Int) ≤ N
      · have hd2 : decide ((i : Int) ≤ N) = true := decide_eq_true hn
        go_wp2_with fail
        go_ret
        first | exact ⟨true, rfl, hbl, fun _ => ⟨hn, hz.out⟩⟩ | exact .inr ⟨rfl, hbl, hn, by simpa using hz.out⟩
      · have hd2 : decide ((i : Int) ≤ N) = false := decide_eq_false hn
        go_wp2_with fail
        go_ret
        first | exact ⟨false, rfl, hbl, fun h => (by cases h)⟩ | exact .inl ⟨rfl, hbl⟩


theorem Try.cellsRow : Try.prog.cellsOf 45 = 5 := by kernel_rfl
theorem Try.cellsFrs : Try.prog.cellsOf 23 = 1 := by kernel_rfl
theorem pick_list {α : Type} {Q : Nat → α → Prop} : ∀ n : Nat, (∀ i, i < n → ∃ d, Q i d) → ∃ ds : List α, ds.length = n ∧ ∀ i (h : i < ds.length), Q i ds[i]
  | 0, _ => ⟨[], rfl, fun i h => absurd h (by simp)⟩
  | n + 1, h => by
    obtain ⟨ds, hl, hq⟩ := pick_list n (fun i hi => h i (by omega))
    obtain ⟨d, hd⟩ := h n (by omega)
    refine ⟨ds ++ [d], by simp [hl], fun i hi => ?_⟩
    by_cases hin : i < ds.length
    · rw [List.getElem_append_left hin]; exact hq i hin
    · have : i = n := by simp at hi; omega
      subst this
      rw [List.getElem_append_right (by omega)]
      simpa using hd
section
variable {H : Type} {enc : TypeId × Value → H} {w : World}
set_option maxRecDepth 100000 in
theorem open_frac4 {n : Nat} {e0 e1 e2 e3 : Value} {y : DataW H × List MemPlace} (h : DataW.trod enc Try.prog w 0 (fun _ => true) true n 40 [e0, e1, e2, e3] = some y) :
    ∃ (f : Fc) (d : Fd), e0 = .int .i64 f.s ∧ e1 = .slice f.A f.n f.c ∧ e2 = .int .i64 f.s' ∧ e3 = .slice f.A' f.n' f.c' ∧ FdIs w f d := by
  obtain ⟨y0, y1, n, _, _, g0, g1⟩ := trod_struct2 Try.underlying40 h
  have g0' : DataW.trod enc Try.prog w 0 (fun _ => true) true n 38 [e0, e1] = some y0 := by simpa [Value.cells, Try.cells38] using g0
  have g1' : DataW.trod enc Try.prog w 0 (fun _ => true) true n 38 [e2, e3] = some y1 := by simpa [Value.cells, Try.cells38] using g1
  obtain ⟨z0, z1, m, _, _, k0, k1⟩ := trod_struct2 Try.underlying38 g0'
  obtain ⟨z2, z3, m', _, _, k2, k3⟩ := trod_struct2 Try.underlying38 g1'
  obtain ⟨s1, l1, A1, n1, c1, rfl, rfl, a1⟩ := open_part (by simpa [Try.cells3] using k0) (by simpa [Try.cells36] using k1)
  obtain ⟨s2, l2, A2, n2, c2, rfl, rfl, a2⟩ := open_part (by simpa [Try.cells3] using k2) (by simpa [Try.cells36] using k3)
  exact ⟨⟨s1, A1, n1, c1, s2, A2, n2, c2⟩, ⟨s1, l1, s2, l2⟩, rfl, rfl, rfl, rfl, rfl, rfl, a1, a2⟩
theorem spot_none {a : Addr} {v : Value} (h : w.cell? a = some v) : a.spot = none := World.cell?_spot h
set_option maxRecDepth 100000 in
theorem open_fracs {n : Nat} {v : Value} {y : DataW H × List MemPlace} (h : DataW.trod enc Try.prog w 0 (fun _ => true) true n 23 [v] = some y) :
    ∃ (A : Option Addr) (ds : List Fd) (c : Nat), v = .slice A ds.length c ∧ FdsAt w A ds := by
  rcases open_slice Try.underlying23 h with ⟨hcs, _⟩ | ⟨a, len, cap, m, n', D, Pl, hcs, _, hl, hm, hmm, _, hi⟩
  · simp only [List.cons.injEq, and_true] at hcs
    subst hcs
    exact ⟨none, [], 0, rfl, fun k hk => by cases hk⟩
  · simp only [List.cons.injEq, and_true] at hcs
    subst hcs
    simp only [if_true] at hmm
    rw [Try.cells40] at hi
    have key : ∀ i, i < len → ∃ d : Fd, ∃ (b off : Nat) (f : Fc), some a = some ⟨b, off, none⟩ ∧ b < w.heap.size ∧
        w.cell? ⟨b, off + i * 4, none⟩ = some (.int .i64 f.s) ∧ w.cell? ⟨b, off + i * 4 + 1, none⟩ = some (.slice f.A f.n f.c) ∧ w.cell? ⟨b, off + i * 4 + 2, none⟩ = some (.int .i64 f.s') ∧ w.cell? ⟨b, off + i * 4 + 3, none⟩ = some (.slice f.A' f.n' f.c') ∧ FdIs w f d := fun i hil => by
      obtain ⟨cs', hc, ht⟩ := hi i (by omega)
      obtain ⟨_, hcl, hat⟩ := World.cells?_some hc
      match cs', hcl with
      | [e0, e1, e2, e3], _ =>
        obtain ⟨f, d, rfl, rfl, rfl, rfl, hf⟩ := open_frac4 ht
        have h0 := hat 0 (by omega)
        have h1 := hat 1 (by omega)
        have h2 := hat 2 (by omega)
        have h3 := hat 3 (by omega)
        obtain ⟨b, off, spot⟩ := a
        have hs : spot = none := by
          obtain ⟨cs0, hc0, _⟩ := hi 0 (by omega)
          obtain ⟨_, hcl0, hat0⟩ := World.cells?_some hc0
          have hz := hat0 0 (by omega)
          rw [List.getElem?_eq_getElem (by omega)] at hz
          simpa [Addr.add] using World.cell?_spot hz
        subst hs
        have kk : ∀ j : Nat, ((⟨b, off, none⟩ : Addr).add (i * 4)).add j = ⟨b, off + i * 4 + j, none⟩ := fun j => by rw [Go.WideShapes.add_plain, Go.WideShapes.add_plain]
        rw [kk] at h0 h1 h2 h3
        exact ⟨d, b, off, f, rfl, World.block_lt_of_cell? w _ h0, h0, h1, h2, h3, hf⟩
    obtain ⟨ds, hdl, hds⟩ := pick_list len key
    refine ⟨some a, ds, cap, by rw [hdl], fun k hk => ?_⟩
    obtain ⟨b, off, f, hh⟩ := hds k hk
    have e2 : ds.getD k dnil = ds[k] := by rw [List.getD_eq_getElem?_getD, List.getElem?_eq_getElem hk]; rfl
    rw [e2]
    exact ⟨b, off, f, hh⟩
set_option maxRecDepth 100000 in
theorem open_rows {n : Nat} {v : Value} {y : DataW H × List MemPlace} (h : DataW.trod enc Try.prog w 0 (fun _ => true) true n 22 [v] = some y) :
    ∃ (A : Option Addr) (rs : List Rd) (c : Nat), v = .slice A rs.length c ∧ RdsL w A rs := by
  rcases open_slice Try.underlying22 h with ⟨hcs, _⟩ | ⟨a, len, cap, m, n', D, Pl, hcs, _, hl, hm, hmm, _, hi⟩
  · simp only [List.cons.injEq, and_true] at hcs
    subst hcs
    exact ⟨none, [], 0, rfl, fun k hk => by cases hk⟩
  · simp only [List.cons.injEq, and_true] at hcs
    subst hcs
    simp only [if_true] at hmm
    rw [Try.cellsRow] at hi
    have key : ∀ i, i < len → ∃ d : Rd, ∃ (b off : Nat) (Aa : Option Addr) (ca : Nat) (f : Fc), some a = some ⟨b, off, none⟩ ∧ b < w.heap.size ∧
        w.cell? ⟨b, off + i * 5, none⟩ = some (.slice Aa d.A.length ca) ∧ w.cell? ⟨b, off + i * 5 + 1, none⟩ = some (.int .i64 f.s) ∧ w.cell? ⟨b, off + i * 5 + 2, none⟩ = some (.slice f.A f.n f.c) ∧ w.cell? ⟨b, off + i * 5 + 3, none⟩ = some (.int .i64 f.s') ∧ w.cell? ⟨b, off + i * 5 + 4, none⟩ = some (.slice f.A' f.n' f.c') ∧ FdsAt w Aa d.A ∧ FdIs w f d.v := fun i hil => by
      obtain ⟨cs', hc, ht⟩ := hi i (by omega)
      obtain ⟨_, hcl, hat⟩ := World.cells?_some hc
      match cs', hcl with
      | [e, e0, e1, e2, e3], _ =>
        obtain ⟨y0, y1, n2, _, _, g0, g1⟩ := trod_struct2 Try.underlying45 ht
        have g0' : DataW.trod enc Try.prog w 0 (fun _ => true) true n2 23 [e] = some y0 := by simpa [Value.cells, Try.cellsFrs] using g0
        have g1' : DataW.trod enc Try.prog w 0 (fun _ => true) true n2 40 [e0, e1, e2, e3] = some y1 := by simpa [Value.cells, Try.cells40] using g1
        obtain ⟨Aa, ds, ca, rfl, hds⟩ := open_fracs g0'
        obtain ⟨f, d, rfl, rfl, rfl, rfl, hf⟩ := open_frac4 g1'
        have h0 := hat 0 (by omega)
        have h1 := hat 1 (by omega)
        have h2 := hat 2 (by omega)
        have h3 := hat 3 (by omega)
        have h4 := hat 4 (by omega)
        obtain ⟨b, off, spot⟩ := a
        have hs : spot = none := by
          obtain ⟨cs0, hc0, _⟩ := hi 0 (by omega)
          obtain ⟨_, hcl0, hat0⟩ := World.cells?_some hc0
          have hz := hat0 0 (by omega)
          rw [List.getElem?_eq_getElem (by omega)] at hz
          simpa [Addr.add] using World.cell?_spot hz
        subst hs
        have kk : ∀ j : Nat, ((⟨b, off, none⟩ : Addr).add (i * 5)).add j = ⟨b, off + i * 5 + j, none⟩ := fun j => by rw [Go.WideShapes.add_plain, Go.WideShapes.add_plain]
        rw [kk] at h0 h1 h2 h3 h4
        exact ⟨⟨ds, d⟩, b, off, Aa, ca, f, rfl, World.block_lt_of_cell? w _ h0, h0, h1, h2, h3, h4, hds, hf⟩
    obtain ⟨ds, hdl, hds⟩ := pick_list len key
    refine ⟨some a, ds, cap, by rw [hdl], fun k hk => ?_⟩
    obtain ⟨b, off, Aa, ca, f, hh⟩ := hds k hk
    have e2 : ds.getD k rnil = ds[k] := by rw [List.getD_eq_getElem?_getD, List.getElem?_eq_getElem hk]; rfl
    rw [e2]
    exact ⟨b, off, Aa, ca, f, hh⟩
set_option maxRecDepth 100000 in
theorem open_Rs {r : Reach} {b0 : Nat} {v : Value} {d : DataW H} {p : List MemPlace} (hv : Value.okWide Try.prog w r b0 22 v) (h : DataW.Trod enc Try.prog w 0 (fun _ => true) true 22 v d p) :
    ∃ (A : Option Addr) (rs : List Rd) (c : Nat), v = .slice A rs.length c ∧ RdsL w A rs := by
  obtain ⟨a0, len0, cap0, rfl⟩ := okWide_slice Try.underlying22 hv
  obtain ⟨fuel, hf⟩ := h
  exact open_rows (by simpa [Value.cells] using hf)
set_option maxRecDepth 100000 in
theorem open_Fs {r : Reach} {b0 : Nat} {v : Value} {d : DataW H} {p : List MemPlace} (hv : Value.okWide Try.prog w r b0 23 v) (h : DataW.Trod enc Try.prog w 0 (fun _ => true) true 23 v d p) :
    ∃ (A : Option Addr) (ds : List Fd) (c : Nat), v = .slice A ds.length c ∧ FdsAt w A ds := by
  obtain ⟨a0, len0, cap0, rfl⟩ := okWide_slice Try.underlying23 hv
  obtain ⟨fuel, hf⟩ := h
  exact open_fracs (by simpa [Value.cells] using hf)
set_option maxRecDepth 100000 in
theorem open_Int {r : Reach} {b0 : Nat} {v : Value} {d : DataW H} {p : List MemPlace} (hv : Value.okWide Try.prog w r b0 3 v) (h : DataW.Trod enc Try.prog w 0 (fun _ => true) true 3 v d p) : ∃ z : Int, v = .int .i64 z := by
  obtain ⟨z, rfl, _⟩ := okWide_int Try.underlying3 hv
  exact ⟨z, rfl⟩
end

end Go.Proofs.Ytlbjaimgoiimgaa

namespace Go.Proofs.Ytlbjaimgoiimgaa
open Go.RowKit

/-- A row as it lies reads as d, whatever is written into the blocks S. -/
def RwS (S : Nat → Prop) (w : World) (r : Rw) (d : Rd) : Prop := ∀ w', Fr S w w' → RwIs w' r d
section
variable {S S' : Nat → Prop} {w w' : World} {r : Rw} {d : Rd}
theorem RwS.is (h : RwS S w r d) : RwIs w r d := h w (Fr.refl _ _)
theorem RwS.fr (h : RwS S w r d) (hf : Fr S w w') : RwS S w' r d := fun v hv => h v (hf.tr hv)
theorem RwS.below (h : RwS S w r d) (hb : Below w.heap.size w w') : RwS S w' r d := h.fr (Fr.of_below hb)
/-- Other blocks, if those that were there are among the old ones. -/
theorem RwS.turn (h : RwS S w r d) (hf : Fr S w w') (hS : ∀ b, b < w.heap.size → S' b → S b) : RwS S' w' r d := fun _ hv => h _ (hf.trans hv (fun _ h => h) hS)
theorem RwS.old {w0 : World} (h : RwIs w0 r d) (hb : Below w0.heap.size w0 w) (hS : ∀ b, S b → w0.heap.size ≤ b) : RwS S w r d := fun _ hv =>
  h.below (hb.trans (hv.below hS hb.size))
/-- The elements of an old row beside a new value. -/
theorem RwS.mix {w0 : World} {A : Option Addr} {c : Nat} {l : List Fd} {f : Fc} {x : Rat} (hl : FdsAt w0 A l) (hlen : l.length ≤ 1000000) (hb : Below w0.heap.size w0 w) (hS : ∀ b, S b → w0.heap.size ≤ b) (hf : FA S w f x) : RwS S w ⟨A, l.length, c, f⟩ ⟨l, Fd.of x⟩ := fun _ hv =>
  ⟨rfl, hlen, hl.below (hb.trans (hv.below hS hb.size)), (hf.fr hv).is⟩
theorem RwS.mixd {w0 : World} {A : Option Addr} {c : Nat} {l : List Fd} {f : Fc} {x : Fd} (hl : FdsAt w0 A l) (hlen : l.length ≤ 1000000) (hb : Below w0.heap.size w0 w) (hS : ∀ b, S b → w0.heap.size ≤ b) (hf : FdIs w0 f x) : RwS S w ⟨A, l.length, c, f⟩ ⟨l, x⟩ := fun _ hv =>
  ⟨rfl, hlen, hl.below (hb.trans (hv.below hS hb.size)), hf.below (hb.trans (hv.below hS hb.size))⟩
end

/-- A list of rows that the law owns. -/
structure RowsO (w : World) (B : Nat) (vo : Value) (rs : List Rw) (ds : List Rd) : Prop where
  own : OwnR w B vo rs
  len : rs.length = ds.length
  row : ∀ k, k < ds.length → RwS (fun b => some b = vo.ownBlock) w (rs.getD k rwnil) (ds.getD k rnil)
theorem OwnR.own_lt {w : World} {N g : Nat} {v : Value} {l : List Rw} (ho : OwnR w N v l) (h : some g = v.ownBlock) : N ≤ g ∧ g < w.heap.size := World.ownsRow.lt ho g h.symm
theorem RowsO.nil (w : World) (B : Nat) : RowsO w B (.slice none 0 0) [] [] := ⟨OwnR.nil _ _, rfl, fun k hk => by cases hk⟩
theorem RowsO.below {w w' : World} {B : Nat} {vo : Value} {rs : List Rw} {ds : List Rd} (h : RowsO w B vo rs ds) (hb : Below w.heap.size w w') : RowsO w' B vo rs ds :=
  ⟨h.own.below hb, h.len, fun k hk => (h.row k hk).below hb⟩
theorem getD_snoc {α : Type} {l : List α} {a d : α} {k : Nat} : (l ++ [a]).getD k d = if k < l.length then l.getD k d else if k = l.length then a else d := by
  rw [List.getD_eq_getElem?_getD]
  by_cases h : k < l.length
  · rw [if_pos h, List.getElem?_append_left h, List.getD_eq_getElem?_getD]
  · rw [if_neg h, List.getElem?_append_right (by omega)]
    by_cases e : k = l.length
    · rw [if_pos e, e, Nat.sub_self]; rfl
    · rw [if_neg e, List.getElem?_eq_none (by simp; omega)]; rfl
theorem RowsO.step {w w1 w2 : World} {B : Nat} {vo vo' : Value} {rs : List Rw} {ds : List Rd} {r : Rw} {d : Rd} (h : RowsO w B vo rs ds) (hb : Below w.heap.size w w1) (ho : OwnR w2 B vo' (rs ++ [r])) (hg : w1.grownBy w2 vo.ownBlock) (hv : vo'.ownBlock = vo.ownBlock ∨ ∃ g, w1.heap.size ≤ g ∧ vo'.ownBlock = some g)
    (hr : RwS (fun b => some b = vo.ownBlock) w1 r d) : RowsO w2 B vo' (rs ++ [r]) (ds ++ [d]) := by
  have hF : Fr (fun b => some b = vo.ownBlock) w1 w2 := ⟨hg.os, hg.tape, hg.output, hg.size, fun b hb hn => hg.block b hb (fun e => hn e)⟩
  have hS : ∀ b, b < w1.heap.size → some b = vo'.ownBlock → some b = vo.ownBlock := fun b hb e => by
    rcases hv with hv | ⟨g, hg1, hv⟩
    · exact e.trans hv
    · rw [hv] at e
      injection e with e
      omega
  refine ⟨ho, by rw [List.length_append, List.length_append, h.len]; rfl, fun k hk => ?_⟩
  rw [List.length_append] at hk
  rw [getD_snoc, getD_snoc, h.len]
  by_cases hkl : k < ds.length
  · rw [if_pos hkl, if_pos hkl]
    exact ((h.row k hkl).below hb).turn hF hS
  · have : k = ds.length := by simp at hk; omega
    rw [if_neg hkl, if_neg hkl, if_pos this, if_pos this]
    exact hr.turn hF hS
theorem rds_of {w : World} {A : Option Addr} {rs : List Rw} {ds : List Rd} (h : RcAt w A rs) (hl : rs.length = ds.length) (hr : ∀ k, k < ds.length → RwIs w (rs.getD k rwnil) (ds.getD k rnil)) : RdsAt w A ds := fun k hk => by
  obtain ⟨b, off, e, hB, h0, h1, h2, h3, h4⟩ := h k (by rw [hl]; exact hk)
  have hh := hr k hk
  refine ⟨b, off, (rs.getD k rwnil).A, (rs.getD k rwnil).c, (rs.getD k rwnil).f, e, hB, ?_, h1, h2, h3, h4, hh.lim, hh.a, hh.v⟩
  rw [← hh.n]
  exact h0
theorem RowsO.done {w : World} {B : Nat} {vo : Value} {rs : List Rw} {ds : List Rd} (h : RowsO w B vo rs ds) : ∃ A c, vo = .slice A ds.length c ∧ RdsAt w A ds := by
  obtain ⟨A, c, rfl, _, _, h3⟩ := h.own.at_
  exact ⟨A, c, by rw [h.len], rds_of h3 h.len (fun k hk => (h.row k hk).is)⟩

end Go.Proofs.Ytlbjaimgoiimgaa

namespace Go.Proofs.Ytlbjaimgoiimgaa
open Go.RowKit

/-- The rows with 0 as their values. -/
def hom (ds : List Rd) : List Rd := ds.map fun d => ⟨d.A, Fd.of 0⟩
theorem hom_len (ds : List Rd) : (hom ds).length = ds.length := by unfold hom; rw [List.length_map]
theorem hom_get {ds : List Rd} {k : Nat} (h : k < ds.length) : (hom ds).getD k rnil = ⟨(ds.getD k rnil).A, Fd.of 0⟩ := by
  unfold hom
  rw [List.getD_eq_getElem?_getD, List.getElem?_map, List.getElem?_eq_getElem h, List.getD_eq_getElem?_getD, List.getElem?_eq_getElem h]
  rfl
/-- What the loop has. -/
structure HmI (w wr : World) (vo : Value) (rs : List Rw) (ds : List Rd) (i : Nat) : Prop where
  bl : Below w.heap.size w wr
  o : RowsO wr w.heap.size vo rs ((hom ds).take i)

set_option maxRecDepth 100000 in
set_option maxHeartbeats 8000000 in
theorem hom_any {A : Option Addr} {m cap : Nat} {ds : List Rd} (w : World) (h : RdsAt w A ds) (hm : ds.length = m) (hmm : m ≤ 1000) :
    Calls Try.prog 16 #[.slice A m cap] w fun e w' => ∃ A' c', e = .returned (.slice A' m c') ∧ RdsAt w' A' (hom ds) ∧ Below w.heap.size w w' := by
  have HD := Lib.hid h; clear h
  have HM := Lib.hid hm; clear hm
  go_enter Try.func16, Try.ntmps16
  go_wp2_with fail
  go_loopw [3, 4] (fun ov iv wr => ∃ (i : Nat) (rs : List Rw) (Ao : Option Addr) (no co : Nat), i ≤ m ∧ ov = .slice Ao no co ∧ iv = .int .i64 i ∧ Hid (HmI w wr (.slice Ao no co) rs ds i)) (fun _ iv _ => m - (intOf iv).toNat)
  case atStart => exact ⟨0, [], none, 0, 0, Nat.zero_le _, rfl, rfl, Lib.hid ⟨Below.refl _ _, RowsO.nil _ _⟩⟩
  case round =>
    obtain ⟨i, rs, Ao, no, co, hi, rfl, rfl, hI⟩ := hrel
    by_cases hgo : i < m
    · have hgd : i < ds.length := by rw [HM.out]; exact hgo
      obtain ⟨b, off, Aa, ca, f, hA, hB, c0, -, -, -, -, hla, hfa, -⟩ := HD.out i hgd
      subst hA
      have HB0 := Lib.hid hI.out.bl
      have c0' := (hI.out.bl.cell (p := ⟨b, off + i * 5, none⟩) hB).trans c0
      have hBr := Nat.lt_of_lt_of_le hB hI.out.bl.size
      obtain ⟨la, hlae⟩ : ∃ l, (ds.getD i rnil).A.length = l := ⟨_, rfl⟩
      rw [hlae] at c0' hla
      have HFA := Lib.hid (And.intro hlae hfa)
      clear hlae hfa c0
      have hi01 : ((i : Nat) : Int) < (m : Int) := by omega
      have hs9 := hI.out.bl.size
      have E0 := Lib.hid (fun (W' : World) (hW : Below w.heap.size wr W') => (hW.cell (p := ⟨b, off + i * 5, none⟩) hB).trans c0')
      have hB00 : Below wr.heap.size wr wr.drew := (Below.refl _ _).drew
      have HN := Lib.hid (fun (W' : World) => lnumber_fr 0 W' (by decide) (by decide) (by decide))
      have hlen9 : rs.length = i := by rw [hI.out.o.len, List.length_take, hom_len]; omega
      have HLEN := Lib.hid hlen9; clear hlen9
      go_upto_region 5 with fail
      go_region_held3 (fun W' => W'.cell? ⟨b, off + i * 5, none⟩ = some (.slice Aa la ca))
        (first | with_reducible exact E0.out _ hB5 | with_reducible exact E0.out _ ((hB4.alloc hB4.size _).mono hs9) | with_reducible exact E0.out _ (hB4.mono hs9) | with_reducible exact E0.out _ (hB00.mono hs9))
        (first
          | (go_at_call 24; refine (HN.out _).mono ?_; rintro e w4 ⟨⟨r1, C1, k1, l1, r2, C2, k2, l2⟩, rfl, hro, hrb, hb4⟩; have hB4 : Below wr.heap.size wr w4 := ⟨hb4.os, hb4.tape, hb4.output, hb4.size, hb4.block⟩)
          | (refine step_appR rfl (.tmp 11) (.tmp 19) rfl w.heap.size _ rs [⟨Aa, la, ca, ⟨r1, C1, k1, l1, r2, C2, k2, l2⟩⟩] (some ⟨w4.heap.size, 0, none⟩) 1 1 (by simp [Act.eval]) ((hI.out.o.own.below hB4).below ((Below.refl _ _).alloc (Nat.le_refl _) _)) (by simp [Act.eval]) rfl (lit_rc w4 ⟨Aa, la, ca, ⟨r1, C1, k1, l1, r2, C2, k2, l2⟩⟩) (by rw [HLEN.out]; simp; omega) (by have h1 := hB4.size; have h2 := HB0.out.size; simp; omega) ?_; intro v5 w5 hown5 hg5 hat5; have hB5 : Below w.heap.size wr w5 := grown_belR ((hB4.alloc hB4.size _).mono hs9) ((hI.out.o.own.below hB4).below ((Below.refl _ _).alloc (Nat.le_refl _) _)) hg5 hs9; obtain ⟨A5, n5, c5, hv5⟩ : ∃ A n c, v5 = .slice A n c := (by obtain ⟨A, c, e, _⟩ := hown5.at_; exact ⟨A, _, c, e⟩); subst hv5))
      all_goals
        have hnx : Hid (HmI w w5 (.slice A5 n5 c5) (rs ++ [⟨Aa, la, ca, ⟨r1, C1, k1, l1, r2, C2, k2, l2⟩⟩]) ds (i + 1)) := Lib.hid (by
          have hbA : Below wr.heap.size wr (w4.alloc (.cells #[.slice Aa la ca, .int .i64 r1, .slice C1 k1 l1, .int .i64 r2, .slice C2 k2 l2] 45)) := hB4.alloc hB4.size _
          have hS : ∀ b', some b' = (Value.slice Ao no co).ownBlock → w.heap.size ≤ b' ∧ b' < wr.heap.size := fun b' e => hI.out.o.own.own_lt e
          have hfA : FA (fun b' => some b' = (Value.slice Ao no co).ownBlock) w4 ⟨r1, C1, k1, l1, r2, C2, k2, l2⟩ ((0 : Int) : Rat) := FA.own hro (fun b' e => by have := hS b' e; simp; omega) hrb
          refine ⟨HB0.out.trans hB5, ?_⟩
          have e1 : (hom ds).take (i + 1) = (hom ds).take i ++ [⟨(ds.getD i rnil).A, Fd.of 0⟩] := by
            rw [← hom_get hgd, List.take_succ_eq_append_getElem (by rw [hom_len]; exact hgd), List.getD_eq_getElem?_getD, List.getElem?_eq_getElem (by rw [hom_len]; exact hgd)]
            rfl
          rw [e1]
          refine hI.out.o.step hbA hown5 hg5 ?_ ?_
          · rcases hat5 with h | h
            · exact .inl h
            · exact .inr ⟨_, Nat.le_refl _, h⟩
          · have hmx := RwS.mix (S := fun b' => some b' = (Value.slice Ao no co).ownBlock) (c := ca) (w := w4) HFA.out.2 (by rw [HFA.out.1]; exact hla) (HB0.out.trans (hB4.mono hs9)) (fun b' e => (hS b' e).1) hfA
            rw [HFA.out.1] at hmx
            exact hmx.below ((Below.refl _ _).alloc (Nat.le_refl _) _))
        clear hB5 hown5 hg5 hat5 hro hrb hb4 hB4 E0 HN hB00
        go_wp2_with fail
        go_roundw
        case rel => exact ⟨i + 1, _, _, _, _, by omega, rfl, rfl, hnx⟩
        case measure => simp [intOf]; omega
    · have : i = m := by omega
      subst this
      have hdn := hI.out.o.done
      obtain ⟨A', c', e, hR⟩ := hdn
      have hl9 : ((hom ds).take i).length = i := by rw [List.length_take, hom_len, HM.out]; omega
      rw [hl9] at e
      injection e with e1 e2 e3
      subst e1; subst e2; subst e3
      have hR' := Lib.hid hR
      clear hR hl9
      go_wp2_with fail
      go_ret
      exact ⟨_, _, rfl, by have := hR'.out; rwa [List.take_of_length_le (by rw [hom_len, HM.out]; exact Nat.le_refl _)] at this, hI.out.bl⟩

end Go.Proofs.Ytlbjaimgoiimgaa

namespace Go.Proofs.Ytlbjaimgoiimgaa

/-- The sum of the first products. -/
def dotN (a : List Rat) (x : Nat → Rat) : Nat → Rat
  | 0 => 0
  | k + 1 => dotN a x k + a.getD k 0 * x k
theorem dotN_div {a b : List Rat} {x : Nat → Rat} {y : Rat} {n : Nat} (h : ∀ k, k < n → b.getD k 0 = a.getD k 0 / y) : dotN b x n = dotN a x n / y := by
  induction n with
  | zero => simp only [dotN]; grind
  | succ n ih =>
    rw [dotN, dotN, ih (fun k hk => h k (by omega)), h n (by omega)]
    grind
theorem dotN_sub {a b p : List Rat} {x : Nat → Rat} {y : Rat} {n : Nat} (h : ∀ k, k < n → b.getD k 0 = a.getD k 0 - y * p.getD k 0) : dotN b x n = dotN a x n - y * dotN p x n := by
  induction n with
  | zero => simp only [dotN]; grind
  | succ n ih =>
    rw [dotN, dotN, dotN, ih (fun k hk => h k (by omega)), h n (by omega)]
    grind
/-- x solves a line of n unknowns, its value taken t times. -/
def SolL (t : Rat) (n : Nat) (x : Nat → Rat) (a : List Rat) : Prop := dotN a x n = t * a.getD n 0
theorem mapO_get {F : Nat → Rat → Option Rat} {i : Nat} {xs ys : List Rat} (h : mapO F i xs = some ys) : ∀ k, k < xs.length → F (i + k) (xs.getD k 0) = some (ys.getD k 0) := by
  induction xs generalizing i ys with
  | nil => intro k hk; cases hk
  | cons x xs ih =>
    rw [mapO] at h
    cases hq : F i x with
    | none => rw [hq] at h; cases h
    | some q =>
      rw [hq] at h
      cases hm : mapO F (i + 1) xs with
      | none => rw [hm] at h; cases h
      | some a =>
        rw [hm] at h
        simp at h
        subst h
        intro k hk
        cases k with
        | zero => simpa using hq
        | succ k =>
          have := ih hm k (by simpa using hk)
          rw [show i + (k + 1) = i + 1 + k by omega]
          simpa using this
theorem divL_get {y : Rat} {xs ys : List Rat} (h : divL y xs = some ys) {k : Nat} (hk : k < xs.length) : ys.getD k 0 = xs.getD k 0 / y := by
  have h1 := mapO_get h k hk
  unfold oDiv at h1
  split at h1
  · injection h1 with h1; exact h1.symm
  · cases h1
theorem subL_get {y : Rat} {p xs ys : List Rat} (h : subL y p xs = some ys) {k : Nat} (hk : k < xs.length) : ys.getD k 0 = xs.getD k 0 - y * p.getD k 0 := by
  have h1 := mapO_get h k hk
  rw [Nat.zero_add] at h1
  by_cases hm : okMul y (p.getD k 0)
  · rw [oMul_yes hm, Option.bind_some] at h1
    by_cases hs : okSub (xs.getD k 0) (y * p.getD k 0)
    · rw [oSub_yes hs] at h1
      injection h1 with h1
      exact h1.symm
    · rw [oSub_no hs] at h1
      cases h1
  · rw [oMul_no hm] at h1
    cases h1
theorem divL_sol {t y : Rat} {n : Nat} {x : Nat → Rat} {a b : List Rat} (h : divL y a = some b) (hy : y ≠ 0) (hl : a.length = n + 1) : SolL t n x a ↔ SolL t n x b := by
  unfold SolL
  rw [dotN_div (fun k hk => divL_get h (by omega)), divL_get h (by omega)]
  constructor
  · intro e; rw [e]; grind
  · intro e
    have h1 : dotN a x n / y * y = t * (a.getD n 0 / y) * y := by rw [e]
    grind
theorem subL_sol {t y : Rat} {n : Nat} {x : Nat → Rat} {p a b : List Rat} (h : subL y p a = some b) (hl : a.length = n + 1) (hp : SolL t n x p) : SolL t n x a ↔ SolL t n x b := by
  unfold SolL at *
  rw [dotN_sub (fun k hk => subL_get h (by omega)), subL_get h (by omega), hp]
  constructor <;> intro e <;> grind
/-- x solves all lines. -/
def SolA (t : Rat) (n : Nat) (x : Nat → Rat) (X : List (List Rat)) : Prop := ∀ k, k < X.length → SolL t n x (X.getD k [])
theorem mapR_length {F : Nat → List Rat → Option (List Rat)} {i : Nat} {xs ys : List (List Rat)} (h : mapR F i xs = some ys) : ys.length = xs.length := by
  induction xs generalizing i ys with
  | nil => simp [mapR] at h; subst h; rfl
  | cons x xs ih =>
    rw [mapR] at h
    cases hq : F i x with
    | none => rw [hq] at h; cases h
    | some q =>
      rw [hq] at h
      cases hm : mapR F (i + 1) xs with
      | none => rw [hm] at h; cases h
      | some a => rw [hm] at h; simp at h; subst h; rw [List.length_cons, List.length_cons, ih hm]
theorem mapR_get {F : Nat → List Rat → Option (List Rat)} {i : Nat} {xs ys : List (List Rat)} (h : mapR F i xs = some ys) : ∀ k, k < xs.length → F (i + k) (xs.getD k []) = some (ys.getD k []) := by
  induction xs generalizing i ys with
  | nil => intro k hk; cases hk
  | cons x xs ih =>
    rw [mapR] at h
    cases hq : F i x with
    | none => rw [hq] at h; cases h
    | some q =>
      rw [hq] at h
      cases hm : mapR F (i + 1) xs with
      | none => rw [hm] at h; cases h
      | some a =>
        rw [hm] at h
        simp at h
        subst h
        intro k hk
        cases k with
        | zero => simpa using hq
        | succ k =>
          have := ih hm k (by simpa using hk)
          rw [show i + (k + 1) = i + 1 + k by omega]
          simpa using this
theorem place_two (r j k : Nat) : place r j (place r j k) = k := by
  unfold place
  split <;> split <;> (try split) <;> (try split) <;> omega
theorem swap_sol {t : Rat} {n r j : Nat} {x : Nat → Rat} {X : List (List Rat)} (hr : r < X.length) (hj : j < X.length) : SolA t n x (swapR [] X r j) ↔ SolA t n x X := by
  constructor
  · intro h k hk
    have h1 := h (place r j k) (by rw [swapR_length]; exact place_lt hr hj hk)
    rwa [swapR_getD _ _ hr hj, place_two] at h1
  · intro h k hk
    rw [swapR_length] at hk
    rw [swapR_getD _ _ hr hj]
    exact h _ (place_lt hr hj hk)
theorem firstNZ_lt {X : List (List Rat)} {c r m q : Nat} (h : firstNZ X c r m = some q) : r ≤ q ∧ q < r + m ∧ (X.getD q []).getD c 0 ≠ 0 := by
  induction m generalizing r with
  | zero => cases h
  | succ m ih =>
    rw [firstNZ] at h
    split at h
    · have := ih h
      exact ⟨by omega, by omega, this.2.2⟩
    · rename_i hne
      injection h with h
      subst h
      exact ⟨Nat.le_refl _, by omega, hne⟩
/-- What a step is made of. -/
theorem elimS_parts {X Y : List (List Rat)} {r c : Nat} {b : Bool} (h : elimS X r c = some (b, Y)) : (b = false ∧ Y = X ∧ firstNZ X c r (X.length - r) = none) ∨
    (b = true ∧ ∃ q p, firstNZ X c r (X.length - r) = some q ∧ divL (((swapR [] X r q).getD r []).getD c 0) ((swapR [] X r q).getD r []) = some p ∧ mapR (redG p r c) 0 ((swapR [] X r q).set r p) = some Y) := by
  unfold elimS at h
  cases hf : firstNZ X c r (X.length - r) with
  | none => rw [hf] at h; simp at h; exact .inl ⟨h.1, h.2.symm, rfl⟩
  | some q =>
    rw [hf] at h
    simp only at h
    cases hd : divL (((swapR [] X r q).getD r []).getD c 0) ((swapR [] X r q).getD r []) with
    | none => rw [hd] at h; cases h
    | some p =>
      rw [hd, Option.bind_some] at h
      cases hm : mapR (redG p r c) 0 ((swapR [] X r q).set r p) with
      | none => rw [hm] at h; cases h
      | some Z =>
        rw [hm] at h
        simp at h
        exact .inr ⟨h.1, q, p, rfl, hd, by rw [h.2] at hm; exact hm⟩
/-- All lines have n + 1 numbers. -/
def LenA (n : Nat) (X : List (List Rat)) : Prop := ∀ k, k < X.length → (X.getD k []).length = n + 1
theorem elimS_len {X Y : List (List Rat)} {r c n : Nat} {b : Bool} (h : elimS X r c = some (b, Y)) (hl : LenA n X) (hr : r < X.length) : Y.length = X.length ∧ LenA n Y := by
  rcases elimS_parts h with ⟨_, rfl, _⟩ | ⟨_, q, p, hf, hd, hm⟩
  · exact ⟨rfl, hl⟩
  · obtain ⟨hq1, hq2, hq3⟩ := firstNZ_lt hf
    have hqX : q < X.length := by omega
    have hYl := mapR_length hm
    rw [List.length_set, swapR_length] at hYl
    have hsw : ∀ k, k < X.length → ((swapR [] X r q).getD k []).length = n + 1 := fun k hk => by rw [swapR_getD _ _ hr hqX]; exact hl _ (place_lt hr hqX hk)
    have hpl : p.length = n + 1 := by rw [mapO_length hd]; exact hsw r hr
    refine ⟨hYl, fun k hk => ?_⟩
    have hg := mapR_get hm k (by rw [List.length_set, swapR_length]; omega)
    rw [Nat.zero_add] at hg
    have hx : (((swapR [] X r q).set r p).getD k []).length = n + 1 := by
      by_cases hkr : r = k
      · subst hkr; rw [getD_set_self (by rw [swapR_length]; exact hr)]; exact hpl
      · rw [getD_set_ne hkr]; exact hsw k (by omega)
    unfold redG at hg
    split at hg
    · injection hg with hg
      rw [← hg]; exact hx
    · rw [mapO_length hg]; exact hx
/-- A step keeps the solutions. -/
theorem elimS_sol {X Y : List (List Rat)} {r c n : Nat} {b : Bool} {t : Rat} {x : Nat → Rat} (h : elimS X r c = some (b, Y)) (hl : LenA n X) (hr : r < X.length) : SolA t n x X ↔ SolA t n x Y := by
  rcases elimS_parts h with ⟨_, rfl, _⟩ | ⟨_, q, p, hf, hd, hm⟩
  · exact Iff.rfl
  · obtain ⟨hq1, hq2, hq3⟩ := firstNZ_lt hf
    have hqX : q < X.length := by omega
    have hsl : ∀ k, k < X.length → ((swapR [] X r q).getD k []).length = n + 1 := fun k hk => by rw [swapR_getD _ _ hr hqX]; exact hl _ (place_lt hr hqX hk)
    have hpv : ((swapR [] X r q).getD r []).getD c 0 ≠ 0 := by
      rw [swapR_getD _ _ hr hqX]
      have : place r q r = q := by
        unfold place
        split
        · assumption
        · rw [if_pos rfl]
      rw [this]; exact hq3
    rw [← swap_sol hr hqX]
    have hYl := mapR_length hm
    rw [List.length_set, swapR_length] at hYl
    have hdp := fun (x : Nat → Rat) => divL_sol (t := t) (x := x) hd hpv (hsl r hr)
    have hg : ∀ k, k < X.length → redG p r c k (((swapR [] X r q).set r p).getD k []) = some (Y.getD k []) := fun k hk => by
      have := mapR_get hm k (by rw [List.length_set, swapR_length]; exact hk)
      rwa [Nat.zero_add] at this
    have hYr : Y.getD r [] = p := by
      have := hg r hr
      rw [getD_set_self (by rw [swapR_length]; exact hr)] at this
      unfold redG at this
      rw [if_pos (.inl rfl)] at this
      injection this with this
      exact this.symm
    have hk2 : ∀ (k : Nat), k < X.length → k ≠ r → SolL t n x p → (SolL t n x ((swapR [] X r q).getD k []) ↔ SolL t n x (Y.getD k [])) := fun k hk hkr hp => by
      have := hg k hk
      rw [getD_set_ne (Ne.symm hkr)] at this
      unfold redG at this
      split at this
      · injection this with this
        rw [this]
      · exact subL_sol this (hsl k hk) hp
    constructor
    · intro h k hk
      have hp := (hdp x).1 (h r (by rw [swapR_length]; exact hr))
      by_cases hkr : k = r
      · subst hkr; rw [hYr]; exact hp
      · exact (hk2 k (by omega) hkr hp).1 (h k (by rw [swapR_length]; omega))
    · intro h k hk
      rw [swapR_length] at hk
      have hp := h r (by omega)
      rw [hYr] at hp
      by_cases hkr : k = r
      · subst hkr; exact (hdp x).2 hp
      · exact (hk2 k hk hkr hp).2 (h k (by omega))

end Go.Proofs.Ytlbjaimgoiimgaa

namespace Go.Proofs.Ytlbjaimgoiimgaa

/-- The first c columns are those of the identity. -/
def IdC (X : List (List Rat)) (c : Nat) : Prop := ∀ j, j < c → ∀ k, k < X.length → (X.getD k []).getD j 0 = if k = j then 1 else 0
theorem elimS_id {X Y : List (List Rat)} {c n : Nat} (h : elimS X c c = some (true, Y)) (hl : LenA n X) (hc : c < X.length) (hcn : c < n) (hi : IdC X c) : IdC Y (c + 1) := by
  rcases elimS_parts h with ⟨e, _⟩ | ⟨_, q, p, hf, hd, hm⟩
  · cases e
  · obtain ⟨hq1, hq2, hq3⟩ := firstNZ_lt hf
    have hqX : q < X.length := by omega
    have hsl : ∀ k, k < X.length → ((swapR [] X c q).getD k []).length = n + 1 := fun k hk => by rw [swapR_getD _ _ hc hqX]; exact hl _ (place_lt hc hqX hk)
    have hYl := mapR_length hm
    rw [List.length_set, swapR_length] at hYl
    have hpr : place c q c = q := by
      unfold place
      split
      · assumption
      · rw [if_pos rfl]
    have hrow : (swapR [] X c q).getD c [] = X.getD q [] := by rw [swapR_getD _ _ hc hqX, hpr]
    rw [hrow] at hd
    have hg : ∀ k, k < X.length → redG p c c k (((swapR [] X c q).set c p).getD k []) = some (Y.getD k []) := fun k hk => by
      have := mapR_get hm k (by rw [List.length_set, swapR_length]; exact hk)
      rwa [Nat.zero_add] at this
    have hpj : ∀ j, j < c → p.getD j 0 = 0 := fun j hj => by
      rw [divL_get hd (by rw [hl q hqX]; omega), hi j hj q hqX, if_neg (by omega)]
      grind
    have hpc : p.getD c 0 = 1 := by
      rw [divL_get hd (by rw [hl q hqX]; omega)]
      grind
    have hYc : Y.getD c [] = p := by
      have := hg c hc
      rw [getD_set_self (by rw [swapR_length]; exact hc)] at this
      unfold redG at this
      rw [if_pos (.inl rfl)] at this
      injection this with this
      exact this.symm
    have hswj : ∀ j, j < c → ∀ k, k < X.length → k ≠ c → ((swapR [] X c q).getD k []).getD j 0 = if k = j then 1 else 0 := fun j hj k hk hkc => by
      rw [swapR_getD _ _ hc hqX, hi j hj _ (place_lt hc hqX hk)]
      unfold place
      by_cases hkq : k = q
      · rw [if_pos hkq, if_neg (by omega), if_neg (by omega)]
      · rw [if_neg hkq, if_neg hkc]
    intro j hj k hk
    rw [hYl] at hk
    by_cases hkc : k = c
    · subst hkc
      rw [hYc]
      by_cases hjk : j < k
      · rw [hpj j hjk, if_neg (by omega)]
      · have : j = k := by omega
        subst this
        rw [hpc, if_pos rfl]
    · have h1 := hg k hk
      rw [getD_set_ne (Ne.symm hkc)] at h1
      unfold redG at h1
      split at h1
      · rename_i hz
        injection h1 with h1
        rw [← h1]
        by_cases hjc : j < c
        · exact hswj j hjc k hk hkc
        · have : j = c := by omega
          subst this
          rcases hz with hz | hz
          · exact absurd hz hkc
          · rw [hz, if_neg hkc]
      · rw [subL_get h1 (by rw [hsl k hk]; omega)]
        by_cases hjc : j < c
        · rw [hpj j hjc, hswj j hjc k hk hkc]
          grind
        · have : j = c := by omega
          subst this
          rw [hpc, if_neg hkc]
          grind
/-- The whole elimination up to the first free column: the same solutions, and the identity's columns. -/
theorem runFree_sol {m c n : Nat} {X Y : List (List Rat)} {k : Nat} (h : runFree m c X = some (k, Y)) (hl : LenA n X) (hX : X.length = n) (hcm : c + m = n) (hi : IdC X c) :
    (∀ t x, SolA t n x X ↔ SolA t n x Y) ∧ Y.length = n ∧ IdC Y k ∧ k ≤ n := by
  induction m generalizing c X with
  | zero =>
    simp [runFree] at h
    obtain ⟨rfl, rfl⟩ := h
    exact ⟨fun _ _ => Iff.rfl, hX, hi, by omega⟩
  | succ m ih =>
    rw [runFree] at h
    cases he : elimS X c c with
    | none => rw [he] at h; cases h
    | some p =>
      obtain ⟨b, Z⟩ := p
      rw [he] at h
      have hlen := elimS_len he hl (by omega)
      cases b with
      | false =>
        simp at h
        obtain ⟨rfl, rfl⟩ := h
        rcases elimS_parts he with ⟨_, rfl, _⟩ | ⟨e, _⟩
        · exact ⟨fun _ _ => Iff.rfl, hX, hi, by omega⟩
        · cases e
      | true =>
        obtain ⟨h1, h2, h3, h4⟩ := ih h hlen.2 (by rw [hlen.1]; exact hX) (by omega) (elimS_id he hl (by omega) (by omega) hi)
        exact ⟨fun t x => (elimS_sol he hl (by omega)).trans (h1 t x), h2, h3, h4⟩
theorem dotN_id {a : List Rat} {x : Nat → Rat} {k n : Nat} (h : ∀ j, j < n → a.getD j 0 = if k = j then 1 else 0) : dotN a x n = if k < n then x k else 0 := by
  induction n with
  | zero => rfl
  | succ n ih =>
    rw [dotN, ih (fun j hj => h j (by omega)), h n (by omega)]
    by_cases h1 : k < n
    · rw [if_pos h1, if_neg (by omega), if_pos (by omega)]
      grind
    · rw [if_neg h1]
      by_cases h2 : k = n
      · subst h2
        rw [if_pos rfl, if_pos (by omega)]
        grind
      · rw [if_neg h2, if_neg (by omega)]
        grind
/-- Where no column is free, there is one solution. -/
theorem runFree_one {n : Nat} {X Y : List (List Rat)} (h : runFree n 0 X = some (n, Y)) (hl : LenA n X) (hX : X.length = n) (t : Rat) (x : Nat → Rat) : SolA t n x X ↔ ∀ k, k < n → x k = t * (Y.getD k []).getD n 0 := by
  obtain ⟨h1, h2, h3, _⟩ := runFree_sol h hl hX (by omega) (fun j hj => by omega)
  rw [h1]
  constructor
  · intro hs k hk
    have := hs k (by omega)
    unfold SolL at this
    rwa [dotN_id (k := k) (fun j hj => h3 j hj k (by omega)), if_pos hk] at this
  · intro hs k hk
    unfold SolL
    rw [dotN_id (k := k) (fun j hj => h3 j hj k hk), if_pos (by omega)]
    exact hs k (by omega)
theorem dotN_more {a : List Rat} {x : Nat → Rat} {m n : Nat} (hmn : m ≤ n) (h : ∀ j, m ≤ j → j < n → x j = 0) : dotN a x n = dotN a x m := by
  induction n with
  | zero => have : m = 0 := by omega
            subst this; rfl
  | succ n ih =>
    by_cases hm : m = n + 1
    · subst hm; rfl
    · rw [dotN, ih (by omega) (fun j h1 h2 => h j h1 (by omega)), h n (by omega) (by omega)]
      grind
/-- Where a column is free, the kernel's list is one. -/
theorem runFree_ker {n : Nat} {X Y : List (List Rat)} {k : Nat} (h : runFree n 0 X = some (k, Y)) (hk : k < n) (hl : LenA n X) (hX : X.length = n) : SolA 0 n (kerV Y k) X := by
  obtain ⟨h1, h2, h3, _⟩ := runFree_sol h hl hX (by omega) (fun j hj => by omega)
  have hz := runFree_zero h (by omega)
  rw [h1]
  intro i hi
  unfold SolL
  rw [dotN_more (m := k + 1) (by omega) (fun j hj hjn => by
    unfold kerV
    rw [if_neg (by omega), hz j (by omega) (by omega)]
    grind), dotN, dotN_id (k := i) (fun j hj => h3 j hj i hi)]
  have hkk : kerV Y k k = 1 := if_pos rfl
  rw [hkk]
  by_cases hik : i < k
  · rw [if_pos hik]
    unfold kerV
    rw [if_neg (by omega)]
    grind
  · rw [if_neg hik, hz i (by omega) hi]
    grind
/-- Two systems with the same solutions: both have one, or neither. -/
theorem runFree_both {n k k' : Nat} {X Y X' Y' : List (List Rat)} (h : runFree n 0 X = some (k, Y)) (h' : runFree n 0 X' = some (k', Y')) (hl : LenA n X) (hX : X.length = n) (hl' : LenA n X') (hX' : X'.length = n)
    (hs : ∀ t x, SolA t n x X ↔ SolA t n x X') (hk : k = n) : k' = n ∧ ∀ j, j < n → (Y.getD j []).getD n 0 = (Y'.getD j []).getD n 0 := by
  subst hk
  have hle := (runFree_sol h' hl' hX' (by omega) (fun j hj => by omega)).2.2.2
  have hk' : k' = k := by
    by_cases hlt : k' < k
    · have h1 := (hs 0 _).2 (runFree_ker h' hlt hl' hX')
      have h2 := (runFree_one h hl hX 0 _).1 h1 k' hlt
      have h3 : kerV Y' k' k' = 1 := if_pos rfl
      rw [h3] at h2
      grind
    · omega
  subst hk'
  refine ⟨rfl, fun j hj => ?_⟩
  have h1 := (hs 1 (fun j => 1 * (Y.getD j []).getD k' 0)).1 ((runFree_one h hl hX 1 _).2 (fun j _ => rfl))
  have h2 := (runFree_one h' hl' hX' 1 _).1 h1 j hj
  grind

end Go.Proofs.Ytlbjaimgoiimgaa
