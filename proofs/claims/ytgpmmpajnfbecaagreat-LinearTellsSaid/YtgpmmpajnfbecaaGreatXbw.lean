/- The law's small. Rows as they come in, however long; the laws' arguments opened: fractions, rows. The law LinearTells: what both sides return is the same. -/
import Derived.Test.YtgpmmpajnfbecaaGreatXbu
import Derived.Test.YtgpmmpajnfbecaaGreatXbv
import Derived.Test.YtgpmmpajnfbecaaGreatXat
import Derived.ProofKit
import Derived.Lib.SmallJoins

namespace Go.Proofs.YtgpmmpajnfbecaaGreat
open Go.RowKit

theorem ints2 (w : World) (x y : Int) : IntsAt (w.alloc (.cells #[.int .i64 x, .int .i64 y] 3)).heap.size (w.alloc (.cells #[.int .i64 x, .int .i64 y] 3)) (some ⟨w.heap.size, 0, none⟩) [x, y] := fun k hk => by
  have h := Blk.new w 3 #[.int .i64 x, .int .i64 y]
  have : k = 0 ∨ k = 1 := by simp at hk; omega
  rcases this with rfl | rfl
  · exact ⟨_, 0, rfl, h.lt, h.cell 0⟩
  · exact ⟨_, 0, rfl, h.lt, h.cell 1⟩
theorem ints3 (w : World) (x y z : Int) : IntsAt (w.alloc (.cells #[.int .i64 x, .int .i64 y, .int .i64 z] 3)).heap.size (w.alloc (.cells #[.int .i64 x, .int .i64 y, .int .i64 z] 3)) (some ⟨w.heap.size, 0, none⟩) [x, y, z] := fun k hk => by
  have h := Blk.new w 3 #[.int .i64 x, .int .i64 y, .int .i64 z]
  have : k = 0 ∨ k = 1 ∨ k = 2 := by simp at hk; omega
  rcases this with rfl | rfl | rfl
  · exact ⟨_, 0, rfl, h.lt, h.cell 0⟩
  · exact ⟨_, 0, rfl, h.lt, h.cell 1⟩
  · exact ⟨_, 0, rfl, h.lt, h.cell 2⟩
/-- A row of numbers. -/
def rowD (l : List Int) (n : Nat) : Rd := ⟨((List.range n).map fun k => ((l.getD k 0 : Int) : Rat)).map Fd.of, Fd.of ((l.getD n 0 : Int) : Rat)⟩
theorem rowD_q (l : List Int) (n : Nat) : (rowD l n).q = (List.range (n + 1)).map fun k => ((l.getD k 0 : Int) : Rat) := by
  unfold rowD Rd.q
  simp only
  rw [map_of_q, Fd.of_q, List.range_succ, List.map_append]
  rfl
theorem rb_small {z : Int} (h : ab z < pw 60) : Rb (z : Rat) 60 60 := by
  refine ⟨by simpa using h, ?_⟩
  have := pw_le (show 1 ≤ 60 by decide)
  have e : ab (1 : Int) < pw 1 := by decide
  simpa using (by omega : ab (1 : Int) < pw 60)
theorem rowD_R {l : List Int} {n : Nat} (h : ∀ k, k < n + 1 → ab (l.getD k 0) < pw 60) : (rowD l n).R n := by
  refine ⟨by simp [rowD], fun k hk => ?_, Fd.of_R (rb_small (h n (by omega)))⟩
  unfold rowD
  simp only
  rw [getD_map_of (by simpa using hk)]
  refine Fd.of_R ?_
  have e : ((List.range n).map fun k => ((l.getD k 0 : Int) : Rat)).getD k 0 = ((l.getD k 0 : Int) : Rat) := by simp [List.getD_eq_getElem?_getD, hk]
  rw [e]
  exact rb_small (h k (by omega))
theorem RdsAt.of {w : World} {A : Option Addr} {rs : List Rw} {ds : List Rd} (hl : rs.length = ds.length) (hc : RcAt w A rs) (hi : ∀ k, k < ds.length → RwIs w (rs.getD k rwnil) (ds.getD k rnil)) : RdsAt w A ds := fun k hk => by
  obtain ⟨b, off, e, hb, h0, h1, h2, h3, h4⟩ := hc k (by omega)
  have h := hi k hk
  refine ⟨b, off, (rs.getD k rwnil).A, (rs.getD k rwnil).c, (rs.getD k rwnil).f, e, hb, ?_, h1, h2, h3, h4, h.lim, h.a, h.v⟩
  rw [← h.n]
  exact h0
theorem lit_rc2 (w : World) (r s : Rw) : RcAt (w.alloc (.cells #[.slice r.A r.n r.c, .int .i64 r.f.s, .slice r.f.A r.f.n r.f.c, .int .i64 r.f.s', .slice r.f.A' r.f.n' r.f.c', .slice s.A s.n s.c, .int .i64 s.f.s, .slice s.f.A s.f.n s.f.c, .int .i64 s.f.s', .slice s.f.A' s.f.n' s.f.c'] 43)) (some ⟨w.heap.size, 0, none⟩) [r, s] := fun k hk => by
  have h := Blk.new w 43 #[.slice r.A r.n r.c, .int .i64 r.f.s, .slice r.f.A r.f.n r.f.c, .int .i64 r.f.s', .slice r.f.A' r.f.n' r.f.c', .slice s.A s.n s.c, .int .i64 s.f.s, .slice s.f.A s.f.n s.f.c, .int .i64 s.f.s', .slice s.f.A' s.f.n' s.f.c']
  have : k = 0 ∨ k = 1 := by simp at hk; omega
  rcases this with rfl | rfl
  · exact ⟨_, 0, rfl, h.lt, (h.cell 0), (h.cell 1), (h.cell 2), (h.cell 3), (h.cell 4)⟩
  · exact ⟨_, 0, rfl, h.lt, (h.cell 5), (h.cell 6), (h.cell 7), (h.cell 8), (h.cell 9)⟩
theorem rds1 {w : World} {r : Rw} {d : Rd} (h : RwIs w r d) : RdsAt (w.alloc (.cells #[.slice r.A r.n r.c, .int .i64 r.f.s, .slice r.f.A r.f.n r.f.c, .int .i64 r.f.s', .slice r.f.A' r.f.n' r.f.c'] 43)) (some ⟨w.heap.size, 0, none⟩) [d] :=
  RdsAt.of (rs := [r]) rfl (lit_rc w r) (fun k hk => by
    have : k = 0 := by simpa using hk
    subst this
    exact h.below ((Below.refl _ _).alloc (Nat.le_refl _) _))
theorem rds2 {w : World} {r s : Rw} {d e : Rd} (h : RwIs w r d) (h2 : RwIs w s e) : RdsAt (w.alloc (.cells #[.slice r.A r.n r.c, .int .i64 r.f.s, .slice r.f.A r.f.n r.f.c, .int .i64 r.f.s', .slice r.f.A' r.f.n' r.f.c', .slice s.A s.n s.c, .int .i64 s.f.s, .slice s.f.A s.f.n s.f.c, .int .i64 s.f.s', .slice s.f.A' s.f.n' s.f.c'] 43)) (some ⟨w.heap.size, 0, none⟩) [d, e] :=
  RdsAt.of (rs := [r, s]) rfl (lit_rc2 w r s) (fun k hk => by
    have : k = 0 ∨ k = 1 := by simp at hk; omega
    rcases this with rfl | rfl
    · exact h.below ((Below.refl _ _).alloc (Nat.le_refl _) _)
    · exact h2.below ((Below.refl _ _).alloc (Nat.le_refl _) _))
theorem QsAt.of_fc {S : Nat → Prop} {w : World} {A : Option Addr} {fs : List Fc} {xs : List Rat} (hl : fs.length = xs.length) (hc : FcAt w A fs) (hf : ∀ k, k < fs.length → FA S w (fs.getD k fnil) (xs.getD k 0)) : QsAt w A xs :=
  ⟨fs, hl, fun k hk => by
    obtain ⟨b, off, e, hb, h0, h1, h2, h3⟩ := hc k hk
    exact ⟨b, off, e, hb, fun h => h, h0, h1, h2, h3, (hf k hk).less (fun _ h => h.elim)⟩⟩
theorem qs1 {S : Nat → Prop} {w : World} {f : Fc} {x : Rat} (h : FA S w f x) : QsAt (w.alloc (.cells #[.int .i64 f.s, .slice f.A f.n f.c, .int .i64 f.s', .slice f.A' f.n' f.c'] 41)) (some ⟨w.heap.size, 0, none⟩) [x] :=
  QsAt.of_fc (S := S) (fs := [f]) rfl (lit_fc w f) (fun k hk => by
    have : k = 0 := by simpa using hk
    subst this
    exact h.below ((Below.refl _ _).alloc (Nat.le_refl _) _))
theorem lit_fc2 (w : World) (f g : Fc) : FcAt (w.alloc (.cells #[.int .i64 f.s, .slice f.A f.n f.c, .int .i64 f.s', .slice f.A' f.n' f.c', .int .i64 g.s, .slice g.A g.n g.c, .int .i64 g.s', .slice g.A' g.n' g.c'] 41)) (some ⟨w.heap.size, 0, none⟩) [f, g] := fun k hk => by
  have h := Blk.new w 41 #[.int .i64 f.s, .slice f.A f.n f.c, .int .i64 f.s', .slice f.A' f.n' f.c', .int .i64 g.s, .slice g.A g.n g.c, .int .i64 g.s', .slice g.A' g.n' g.c']
  have : k = 0 ∨ k = 1 := by simp at hk; omega
  rcases this with rfl | rfl
  · exact ⟨_, 0, rfl, h.lt, h.cell 0, h.cell 1, h.cell 2, h.cell 3⟩
  · exact ⟨_, 0, rfl, h.lt, h.cell 4, h.cell 5, h.cell 6, h.cell 7⟩
theorem qs2 {S : Nat → Prop} {w : World} {f g : Fc} {x y : Rat} (h : FA S w f x) (h2 : FA S w g y) : QsAt (w.alloc (.cells #[.int .i64 f.s, .slice f.A f.n f.c, .int .i64 f.s', .slice f.A' f.n' f.c', .int .i64 g.s, .slice g.A g.n g.c, .int .i64 g.s', .slice g.A' g.n' g.c'] 41)) (some ⟨w.heap.size, 0, none⟩) [x, y] :=
  QsAt.of_fc (S := S) (fs := [f, g]) rfl (lit_fc2 w f g) (fun k hk => by
    have : k = 0 ∨ k = 1 := by simp at hk; omega
    rcases this with rfl | rfl
    · exact h.below ((Below.refl _ _).alloc (Nat.le_refl _) _)
    · exact h2.below ((Below.refl _ _).alloc (Nat.le_refl _) _))
/-- What Solve returns, as a list of numbers. -/
theorem lsolve_q {A : Option Addr} {m cap : Nat} {n : Int} {rs : List Rd} (w : World) (h : RdsAt w A rs) (hm : rs.length = m) (hmm : m ≤ 1000000) :
    Calls Tryz.prog 7 #[.slice A m cap, .int .i64 n] w fun e w' => Below w.heap.size w w' ∧
      ((¬ SysR rs n ∧ e = .returned (.tuple #[.slice none 0 0, .int .i64 1])) ∨ (SysR rs n ∧ runFree m 0 (rs.map Rd.q) = none ∧ e = .returned (.tuple #[.slice none 0 0, .int .i64 6])) ∨
        (SysR rs n ∧ (∃ (k : Nat) (Y : List (List Rat)), runFree m 0 (rs.map Rd.q) = some (k, Y) ∧ k < m) ∧ e = .returned (.tuple #[.slice none 0 0, .int .i64 16])) ∨
        (SysR rs n ∧ ∃ (Y : List (List Rat)) (Ao : Option Addr) (co : Nat), runFree m 0 (rs.map Rd.q) = some (m, Y) ∧ e = .returned (.tuple #[.slice Ao m co, .int .i64 0]) ∧ QsAt w' Ao ((List.range m).map fun k => (Y.getD k []).getD m 0))) :=
  (lsolve_any w h hm hmm).mono fun e w' hp => by
    obtain ⟨hb, h1 | h1 | h1 | ⟨hs, Y, gx, fx, S, hr, he, -, hl, ⟨cur, hk, hc⟩, hq⟩⟩ := hp
    · exact ⟨hb, .inl h1⟩
    · exact ⟨hb, .inr (.inl h1)⟩
    · exact ⟨hb, .inr (.inr (.inl h1))⟩
    · refine ⟨hb, .inr (.inr (.inr ⟨hs, Y, _, _, hr, he, QsAt.of_cells (S := S) hk hc (by simp [hl]) (fun k hk => ?_)⟩))⟩
      have e : ((List.range m).map fun k => (Y.getD k []).getD m 0).getD k 0 = (Y.getD k []).getD m 0 := by simp [List.getD_eq_getElem?_getD, show k < m by omega]
      rw [e]
      exact hq k (by omega)
theorem lkernel_q {A : Option Addr} {m cap : Nat} {n : Int} {rs : List Rd} (w : World) (h : RdsAt w A rs) (hm : rs.length = m) (hmm : m ≤ 1000000) :
    Calls Tryz.prog 9 #[.slice A m cap, .int .i64 n] w fun e w' => Below w.heap.size w w' ∧
      ((¬ SysR rs n ∧ e = .returned (.tuple #[.slice none 0 0, .bool false])) ∨ (SysR rs n ∧ runFree m 0 (rs.map Rd.q) = none ∧ e = .returned (.tuple #[.slice none 0 0, .bool false])) ∨
        (SysR rs n ∧ (∃ Y : List (List Rat), runFree m 0 (rs.map Rd.q) = some (m, Y)) ∧ e = .returned (.tuple #[.slice none 0 0, .bool false])) ∨
        (SysR rs n ∧ ∃ (k : Nat) (Y : List (List Rat)) (Ao : Option Addr) (co : Nat), runFree m 0 (rs.map Rd.q) = some (k, Y) ∧ k < m ∧ e = .returned (.tuple #[.slice Ao m co, .bool true]) ∧ QsAt w' Ao ((List.range m).map (kerV Y k)))) :=
  (lkernel_any w h hm hmm).mono fun e w' hp => by
    obtain ⟨hb, h1 | h1 | h1 | ⟨hs, k, Y, gx, fx, S, hr, hkm, he, -, hl, ⟨cur, hk, hc⟩, hq⟩⟩ := hp
    · exact ⟨hb, .inl h1⟩
    · exact ⟨hb, .inr (.inl h1)⟩
    · exact ⟨hb, .inr (.inr (.inl h1))⟩
    · refine ⟨hb, .inr (.inr (.inr ⟨hs, k, Y, _, _, hr, hkm, he, QsAt.of_cells (S := S) hk hc (by simp [hl]) (fun j hj => ?_)⟩))⟩
      have e : ((List.range m).map (kerV Y k)).getD j 0 = kerV Y k j := by simp [List.getD_eq_getElem?_getD, show j < m by omega]
      rw [e]
      exact hq j (by omega)

/-- The examples, plain. -/
theorem ex1 : runFree 1 0 [[2, 1]] = some (1, [[1, 1 / 2]]) := by decide +kernel
theorem ex2 : runFree 2 0 [[1, 1, 3], [1, -1, 1]] = some (2, [[1, 0, 2], [0, 1, 1]]) := by decide +kernel
theorem ex3 : runFree 2 0 [[1, 2, 1], [2, 4, 5]] = some (1, [[1, 2, 1], [0, 0, 3]]) := by decide +kernel
theorem ex4 : runRank 2 0 0 [[1, 2, 1], [2, 4, 5]] = some 1 := by decide +kernel
theorem rds_nil (w : World) (A : Option Addr) : RdsAt w A [] := fun k hk => (by cases hk)
theorem sys0 : SysR [] 0 := ⟨rfl, (show 0 ≤ 40 by decide), fun k hk => (by cases hk)⟩
theorem sys1 : SysR [rowD [2, 1] 1] 1 := ⟨rfl, by decide, fun k hk => by
  have : k = 0 := by simpa using hk
  subst this
  exact rowD_R (by decide)⟩
theorem sys2 {l l' : List Int} (h : ∀ k, k < 3 → ab (l.getD k 0) < pw 60) (h' : ∀ k, k < 3 → ab (l'.getD k 0) < pw 60) : SysR [rowD l 2, rowD l' 2] 2 := ⟨rfl, (show 2 ≤ 40 by decide), fun k hk => by
  have : k = 0 ∨ k = 1 := by simp at hk; omega
  rcases this with rfl | rfl
  · exact rowD_R h
  · exact rowD_R h'⟩
theorem q1 : [rowD [2, 1] 1].map Rd.q = [[2, 1]] := by
  simp only [List.map_cons, List.map_nil, rowD_q]
  rfl
theorem q2 (l l' : List Int) : [rowD l 2, rowD l' 2].map Rd.q = [[((l.getD 0 0 : Int) : Rat), ((l.getD 1 0 : Int) : Rat), ((l.getD 2 0 : Int) : Rat)], [((l'.getD 0 0 : Int) : Rat), ((l'.getD 1 0 : Int) : Rat), ((l'.getD 2 0 : Int) : Rat)]] := by
  simp only [List.map_cons, List.map_nil, rowD_q]
  rfl

theorem sml {z : Int} (hz : ab z ≤ 10) : isI z ∧ ab z < pw 60 := by
  have := pw_le (show 1 ≤ 60 by decide)
  have e : (10 : Int) < pw 1 := by decide
  unfold ab at *
  exact ⟨by unfold isI; omega, by omega⟩
theorem sml2 {x y : Int} (hx : ab x ≤ 10) (hy : ab y ≤ 10) : ∀ k, k < 1 + 1 → isI ([x, y].getD k 0) ∧ ab ([x, y].getD k 0) < pw 60 := fun k hk => by
  have : k = 0 ∨ k = 1 := by omega
  rcases this with rfl | rfl
  · exact sml hx
  · exact sml hy
theorem sml3 {x y z : Int} (hx : ab x ≤ 10) (hy : ab y ≤ 10) (hz : ab z ≤ 10) : ∀ k, k < 2 + 1 → isI ([x, y, z].getD k 0) ∧ ab ([x, y, z].getD k 0) < pw 60 := fun k hk => by
  have : k = 0 ∨ k = 1 ∨ k = 2 := by omega
  rcases this with rfl | rfl | rfl
  · exact sml hx
  · exact sml hy
  · exact sml hz

theorem half_any (w : World) : Calls Tryz.prog 19 #[.int .i64 1, .int .i64 2] w (OpY (1 / 2) w) :=
  (rfof_any 1 2 w (by decide) (by decide)).mono fun _ _ hp => op_new (by decide) (by decide +kernel) (by decide +kernel) (by decide +kernel) hp
theorem kerx : (List.range 2).map (kerV [[1, 2, 1], [0, 0, 3]] 1) = [-2, 1] := by decide +kernel
theorem not_sol : ¬ SolvesP [rowD [1, 2, 1] 2, rowD [2, 4, 5] 2] ([-2, 1].map Fd.of) 2 := fun h => by
  have h0 : sumTo ((((List.range 2).map fun k => (([1, 2, 1].getD k 0 : Int) : Rat)).map Fd.of).map Fd.q) (([-2, 1].map Fd.of).map Fd.q) 2 = some (Fd.of (([1, 2, 1].getD 2 0 : Int) : Rat)).q := h.2.2 0 (by decide)
  rw [map_of_q, map_of_q, Fd.of_q] at h0
  exact absurd h0 (by decide +kernel)
theorem lnum_any (z : Int) (hz : ab z ≤ 10) (w : World) : Calls Tryz.prog 20 #[.int .i64 z] w fun e w' => ∃ f : Fc, e = .returned f.v ∧ FA (fun _ => False) w' f (z : Rat) ∧ Below w.heap.size w w' :=
  (lnumber_fr z w (sml hz).1 (by decide) (sml hz).2).mono fun _ _ hp => by
    obtain ⟨f, h1, h2, h3, h4⟩ := hp
    exact ⟨f, h1, FA.own h2 (fun _ h => h.elim) h3, h4⟩

set_option maxRecDepth 100000 in
set_option maxHeartbeats 16000000 in
theorem small_any (w : World) : Calls Tryz.prog 4 #[] w fun e w' => e = .returned (.bool true) ∧ Below w.heap.size w w' := by
  go_enter Tryz.func4, Tryz.ntmps4
  go_wp2_with fail
  (with_reducible refine (row_any _ (ints2 w 2 1) (n := 1) rfl (by decide) (sml2 (by decide) (by decide))).mono ?_)
  rintro e u1 ⟨⟨A1, n1, c1, s1, X1, m1, d1, s2, X2, m2, d2⟩, rfl, hb1, hr1⟩
  have hT : Below w.heap.size w u1 := (((Below.refl w.heap.size w).alloc (Nat.le_refl _) (.cells #[.int .i64 2, .int .i64 1] 3))).trans (hb1.mono (by simp))
  have hd1 := Lib.hid (rds1 (d := rowD [2, 1] 1) hr1)
  have hbA : Below u1.heap.size u1 (u1.alloc (.cells #[.slice A1 n1 c1, .int .i64 s1, .slice X1 m1 d1, .int .i64 s2, .slice X2 m2 d2] 43)) := (Below.refl _ _).alloc (Nat.le_refl _) _
  replace hT := hT.trans (hbA.mono hT.size)
  clear hb1 hr1 hbA
  go_wp2_with fail
  generalize u1.alloc (.cells #[.slice A1 n1 c1, .int .i64 s1, .slice X1 m1 d1, .int .i64 s2, .slice X2 m2 d2] 43) = u2 at *
  (with_reducible refine (lsolve_q (m := 1) (n := 1) (rs := [rowD [2, 1] 1]) _ hd1.out rfl (by decide)).mono ?_)
  rintro e u3 ⟨hb3, ⟨hn, _⟩ | ⟨hn, hn2, _⟩ | ⟨hn, ⟨k, Y, hn2, hn3⟩, _⟩ | ⟨-, Y, Aa, ca, hr, rfl, hqa⟩⟩
  · exact absurd sys1 hn
  · have h := hn2.symm.trans ((congrArg (runFree 1 0) q1).trans ex1)
    cases h
  · have h := hn2.symm.trans ((congrArg (runFree 1 0) q1).trans ex1)
    injection h with h
    injection h with h1 h2
    subst h1
    exact absurd hn3 (by decide)
  have hY := hr.symm.trans ((congrArg (runFree 1 0) q1).trans ex1)
  injection hY with hY
  injection hY with _ hY
  subst hY
  have HA := Lib.hid (show QsAt u3 Aa [1 / 2] from hqa)
  replace hT := hT.trans (hb3.mono hT.size)
  clear hr hqa hd1 hb3
  go_wp2_with fail
  (with_reducible refine (row_any (l := [1, 1, 3]) _ (ints3 u3 1 1 3) (n := 2) rfl (by decide) (sml3 (by decide) (by decide) (by decide))).mono ?_)
  rintro e u4 ⟨⟨A1, n1, c1, s1, X1, m1, d1, s2, X2, m2, d2⟩, rfl, hb4, hr1⟩
  have hb34 : Below u3.heap.size u3 u4 := (((Below.refl u3.heap.size u3).alloc (Nat.le_refl _) (.cells #[.int .i64 1, .int .i64 1, .int .i64 3] 3))).trans (hb4.mono (by simp))
  replace hT := hT.trans (hb34.mono hT.size)
  replace HA := Lib.hid (HA.out.below hb34)
  clear hb34 hb4
  go_wp2_with fail
  (with_reducible refine (row_any (l := [1, -1, 1]) _ (ints3 u4 1 (-1) 1) (n := 2) rfl (by decide) (sml3 (by decide) (by decide) (by decide))).mono ?_)
  rintro e u5 ⟨⟨B1, p1, e1, t1, Y1, q1', f1, t2, Y2, q2', f2⟩, rfl, hb5, hr2⟩
  have hb45 : Below u4.heap.size u4 u5 := (((Below.refl u4.heap.size u4).alloc (Nat.le_refl _) (.cells #[.int .i64 1, .int .i64 (-1), .int .i64 1] 3))).trans (hb5.mono (by simp))
  replace hT := hT.trans (hb45.mono hT.size)
  have hbA : Below u5.heap.size u5 (u5.alloc (.cells #[.slice A1 n1 c1, .int .i64 s1, .slice X1 m1 d1, .int .i64 s2, .slice X2 m2 d2, .slice B1 p1 e1, .int .i64 t1, .slice Y1 q1' f1, .int .i64 t2, .slice Y2 q2' f2] 43)) := (Below.refl _ _).alloc (Nat.le_refl _) _
  have hd1 := Lib.hid (rds2 (d := rowD [1, 1, 3] 2) (e := rowD [1, -1, 1] 2) (hr1.below hb45) hr2)
  replace HA := Lib.hid ((HA.out.below hb45).below hbA)
  replace hT := hT.trans (hbA.mono hT.size)
  clear hb45 hb5 hr1 hr2 hbA
  go_wp2_with fail
  generalize u5.alloc (.cells #[.slice A1 n1 c1, .int .i64 s1, .slice X1 m1 d1, .int .i64 s2, .slice X2 m2 d2, .slice B1 p1 e1, .int .i64 t1, .slice Y1 q1' f1, .int .i64 t2, .slice Y2 q2' f2] 43) = u6 at *
  have s22 : SysR [rowD [1, 1, 3] 2, rowD [1, -1, 1] 2] 2 := sys2 (fun k hk => (sml3 (by decide) (by decide) (by decide) k hk).2) (fun k hk => (sml3 (by decide) (by decide) (by decide) k hk).2)
  (with_reducible refine (lsolve_q (m := 2) (n := 2) (rs := [rowD [1, 1, 3] 2, rowD [1, -1, 1] 2]) _ hd1.out rfl (by decide)).mono ?_)
  rintro e u7 ⟨hb7, ⟨hn, _⟩ | ⟨hn, hn2, _⟩ | ⟨hn, ⟨k, Y, hn2, hn3⟩, _⟩ | ⟨-, Y, Ab, cb, hr, rfl, hqb⟩⟩
  · exact absurd s22 hn
  · have h := hn2.symm.trans ((congrArg (runFree 2 0) (q2 _ _)).trans ex2)
    cases h
  · have h := hn2.symm.trans ((congrArg (runFree 2 0) (q2 _ _)).trans ex2)
    injection h with h
    injection h with h1 h2
    subst h1
    exact absurd hn3 (by decide)
  have hY := hr.symm.trans ((congrArg (runFree 2 0) (q2 _ _)).trans ex2)
  injection hY with hY
  injection hY with _ hY
  subst hY
  have HB := Lib.hid (show QsAt u7 Ab [2, 1] from hqb)
  replace hT := hT.trans (hb7.mono hT.size)
  replace HA := Lib.hid (HA.out.below hb7)
  clear hr hqb hd1 hb7 s22
  go_wp2_with fail
  (with_reducible refine (row_any (l := [1, 2, 1]) _ (ints3 u7 1 2 1) (n := 2) rfl (by decide) (sml3 (by decide) (by decide) (by decide))).mono ?_)
  rintro e u8 ⟨⟨A1, n1, c1, s1, X1, m1, d1, s2, X2, m2, d2⟩, rfl, hb4, hr1⟩
  have hb34 : Below u7.heap.size u7 u8 := (((Below.refl u7.heap.size u7).alloc (Nat.le_refl _) (.cells #[.int .i64 1, .int .i64 2, .int .i64 1] 3))).trans (hb4.mono (by simp))
  replace hT := hT.trans (hb34.mono hT.size)
  replace HA := Lib.hid (HA.out.below hb34)
  replace HB := Lib.hid (HB.out.below hb34)
  clear hb34 hb4
  go_wp2_with fail
  (with_reducible refine (row_any (l := [2, 4, 5]) _ (ints3 u8 2 4 5) (n := 2) rfl (by decide) (sml3 (by decide) (by decide) (by decide))).mono ?_)
  rintro e u9 ⟨⟨B1, p1, e1, t1, Y1, q1', f1, t2, Y2, q2', f2⟩, rfl, hb5, hr2⟩
  have hb45 : Below u8.heap.size u8 u9 := (((Below.refl u8.heap.size u8).alloc (Nat.le_refl _) (.cells #[.int .i64 2, .int .i64 4, .int .i64 5] 3))).trans (hb5.mono (by simp))
  replace hT := hT.trans (hb45.mono hT.size)
  have hbA : Below u9.heap.size u9 (u9.alloc (.cells #[.slice A1 n1 c1, .int .i64 s1, .slice X1 m1 d1, .int .i64 s2, .slice X2 m2 d2, .slice B1 p1 e1, .int .i64 t1, .slice Y1 q1' f1, .int .i64 t2, .slice Y2 q2' f2] 43)) := (Below.refl _ _).alloc (Nat.le_refl _) _
  have HD := Lib.hid (rds2 (d := rowD [1, 2, 1] 2) (e := rowD [2, 4, 5] 2) (hr1.below hb45) hr2)
  replace HA := Lib.hid ((HA.out.below hb45).below hbA)
  replace HB := Lib.hid ((HB.out.below hb45).below hbA)
  replace hT := hT.trans (hbA.mono hT.size)
  clear hb45 hb5 hr1 hr2 hbA
  go_wp2_with fail
  generalize u9.alloc (.cells #[.slice A1 n1 c1, .int .i64 s1, .slice X1 m1 d1, .int .i64 s2, .slice X2 m2 d2, .slice B1 p1 e1, .int .i64 t1, .slice Y1 q1' f1, .int .i64 t2, .slice Y2 q2' f2] 43) = v0 at *
  obtain ⟨G, hG⟩ : ∃ G, u9.heap.size = G := ⟨_, rfl⟩
  rw [hG] at HD ⊢
  clear hG
  have S22 := Lib.hid (show SysR [rowD [1, 2, 1] 2, rowD [2, 4, 5] 2] 2 from sys2 (fun k hk => (sml3 (by decide) (by decide) (by decide) k hk).2) (fun k hk => (sml3 (by decide) (by decide) (by decide) k hk).2))
  have E3 := Lib.hid ((congrArg (runFree 2 0) (q2 [1, 2, 1] [2, 4, 5])).trans ex3)
  (with_reducible refine (lsolve_q (m := 2) (n := 2) (rs := [rowD [1, 2, 1] 2, rowD [2, 4, 5] 2]) _ HD.out rfl (by decide)).mono ?_)
  rintro e v1 ⟨hb7, ⟨hn, _⟩ | ⟨hn, hn2, _⟩ | ⟨-, -, rfl⟩ | ⟨-, Y, Ab', cb', hr, _, _⟩⟩
  · exact absurd S22.out hn
  · have h := hn2.symm.trans E3.out
    cases h
  rotate_left
  · have h := hr.symm.trans E3.out
    injection h with h
    injection h with h1 h2
    exact absurd h1 (by decide)
  replace hT := hT.trans (hb7.mono hT.size)
  replace HA := Lib.hid (HA.out.below hb7)
  replace HB := Lib.hid (HB.out.below hb7)
  replace HD := Lib.hid (HD.out.below hb7)
  clear hb7
  go_wp2_with fail
  (with_reducible refine (lkernel_q (m := 2) (n := 2) (rs := [rowD [1, 2, 1] 2, rowD [2, 4, 5] 2]) _ HD.out rfl (by decide)).mono ?_)
  rintro e v2 ⟨hb7, ⟨hn, _⟩ | ⟨hn, hn2, _⟩ | ⟨hn, ⟨Y, hn2⟩, _⟩ | ⟨-, k, Y, Ak, ck, hr, -, rfl, hqk⟩⟩
  · exact absurd S22.out hn
  · have h := hn2.symm.trans E3.out
    cases h
  · have h := hn2.symm.trans E3.out
    injection h with h
    injection h with h1 h2
    exact absurd h1 (by decide)
  have hY := hr.symm.trans E3.out
  injection hY with hY
  injection hY with hk1 hY
  subst hk1 hY
  have HK := Lib.hid (show QsAt v2 Ak [-2, 1] by rw [← kerx]; exact hqk)
  replace hT := hT.trans (hb7.mono hT.size)
  replace HA := Lib.hid (HA.out.below hb7)
  replace HB := Lib.hid (HB.out.below hb7)
  replace HD := Lib.hid (HD.out.below hb7)
  clear hb7 hr hqk
  go_wp2_with fail
  (with_reducible refine (lrank_any (m := 2) (n := 2) (rs := [rowD [1, 2, 1] 2, rowD [2, 4, 5] 2]) _ HD.out rfl (by decide)).mono ?_)
  rintro e v3 ⟨hb7, ⟨hn, _⟩ | ⟨hn, hn2, _⟩ | ⟨-, k, hr, rfl⟩⟩
  · exact absurd S22.out hn
  · have h := hn2.symm.trans ((congrArg (runRank 2 0 0) (q2 [1, 2, 1] [2, 4, 5])).trans ex4)
    cases h
  have hY := hr.symm.trans ((congrArg (runRank 2 0 0) (q2 [1, 2, 1] [2, 4, 5])).trans ex4)
  injection hY with hY
  subst hY
  replace hT := hT.trans (hb7.mono hT.size)
  replace HA := Lib.hid (HA.out.below hb7)
  replace HB := Lib.hid (HB.out.below hb7)
  replace HD := Lib.hid (HD.out.below hb7)
  replace HK := Lib.hid (HK.out.below hb7)
  clear hb7 hr
  go_wp2_with fail
  (with_reducible refine (half_any _).mono ?_)
  rintro e v4 ⟨⟨s1, X1, m1, d1, s2, X2, m2, d2⟩, rfl, hho, hrb, hb7⟩
  have hfh : FA (fun _ => False) v4 ⟨s1, X1, m1, d1, s2, X2, m2, d2⟩ (1 / 2) := FA.own hho (fun _ h => h.elim) hrb
  have hbA : Below v4.heap.size v4 (v4.alloc (.cells #[.int .i64 s1, .slice X1 m1 d1, .int .i64 s2, .slice X2 m2 d2] 41)) := (Below.refl _ _).alloc (Nat.le_refl _) _
  have hb9 := hb7.trans (hbA.mono hb7.size)
  replace hT := hT.trans (hb9.mono hT.size)
  replace HA := Lib.hid (HA.out.below hb9)
  replace HB := Lib.hid (HB.out.below hb9)
  replace HD := Lib.hid (HD.out.below hb9)
  replace HK := Lib.hid (HK.out.below hb9)
  have kh := Blk.new v4 41 #[.int .i64 s1, .slice X1 m1 d1, .int .i64 s2, .slice X2 m2 d2]
  replace hfh := hfh.below hbA
  clear hho hrb hb7 hbA hb9
  go_upto_region 8 with fail
  obtain ⟨Gh, hGh⟩ : ∃ G, v4.heap.size = G := ⟨_, rfl⟩
  rw [hGh] at kh ⊢
  generalize v4.alloc (.cells #[.int .i64 s1, .slice X1 m1 d1, .int .i64 s2, .slice X2 m2 d2] 41) = v5 at *
  clear hGh
  have x0 := kh.cell 0
  have x1 := kh.cell 1
  have x2 := kh.cell 2
  have x3 := kh.cell 3
  simp at x0 x1 x2 x3
  have hbA : Below v5.heap.size v5 (v5.alloc (.cells #[.int .i64 s1, .slice X1 m1 d1, .int .i64 s2, .slice X2 m2 d2] 41)) := (Below.refl _ _).alloc (Nat.le_refl _) _
  have hqh := qs1 hfh
  replace hT := hT.trans (hbA.mono hT.size)
  replace HA := Lib.hid (HA.out.below hbA)
  replace HB := Lib.hid (HB.out.below hbA)
  replace HD := Lib.hid (HD.out.below hbA)
  replace HK := Lib.hid (HK.out.below hbA)
  clear hbA kh hfh
  go_wp2_with fail
  (with_reducible refine (rlsame_true (n := 1) (xs := [1 / 2]) _ HA.out hqh rfl (by decide)).mono ?_)
  rintro e v6 ⟨rfl, hb7⟩
  replace hT := hT.trans (hb7.mono hT.size)
  replace HB := Lib.hid (HB.out.below hb7)
  replace HD := Lib.hid (HD.out.below hb7)
  replace HK := Lib.hid (HK.out.below hb7)
  clear hb7 hqh HA
  go_wp2_with fail
  (with_reducible refine (lnum_any (2) (by decide) _).mono ?_)
  rintro e v7 ⟨⟨s31, X31, m31, d31, s32, X32, m32, d32⟩, rfl, hf3, hb7⟩
  replace hT := hT.trans (hb7.mono hT.size)
  replace HB := Lib.hid (HB.out.below hb7)
  replace HD := Lib.hid (HD.out.below hb7)
  replace HK := Lib.hid (HK.out.below hb7)
  clear hb7
  go_wp2_with fail
  (with_reducible refine (lnum_any 1 (by decide) _).mono ?_)
  rintro e v8 ⟨⟨s41, X41, m41, d41, s42, X42, m42, d42⟩, rfl, hf4, hb7⟩
  replace hT := hT.trans (hb7.mono hT.size)
  replace HB := Lib.hid (HB.out.below hb7)
  replace HD := Lib.hid (HD.out.below hb7)
  replace HK := Lib.hid (HK.out.below hb7)
  replace hf3 := hf3.below hb7
  clear hb7
  have hbA : Below v8.heap.size v8 (v8.alloc (.cells #[.int .i64 s31, .slice X31 m31 d31, .int .i64 s32, .slice X32 m32 d32, .int .i64 s41, .slice X41 m41 d41, .int .i64 s42, .slice X42 m42 d42] 41)) := (Below.refl _ _).alloc (Nat.le_refl _) _
  have hql := qs2 hf3 hf4
  replace hT := hT.trans (hbA.mono hT.size)
  replace HB := Lib.hid (HB.out.below hbA)
  replace HD := Lib.hid (HD.out.below hbA)
  replace HK := Lib.hid (HK.out.below hbA)
  clear hbA hf3 hf4
  go_wp2_with fail
  (with_reducible refine (rlsame_true (n := 2) (xs := [2, 1]) _ HB.out hql rfl (by decide)).mono ?_)
  rintro e v9 ⟨rfl, hb7⟩
  replace hT := hT.trans (hb7.mono hT.size)
  replace HD := Lib.hid (HD.out.below hb7)
  replace HK := Lib.hid (HK.out.below hb7)
  clear hb7 hql HB
  go_wp2_with fail
  (with_reducible refine (lnum_any (-2) (by decide) _).mono ?_)
  rintro e v10 ⟨⟨s51, X51, m51, d51, s52, X52, m52, d52⟩, rfl, hf5, hb7⟩
  replace hT := hT.trans (hb7.mono hT.size)
  replace HD := Lib.hid (HD.out.below hb7)
  replace HK := Lib.hid (HK.out.below hb7)
  clear hb7
  go_wp2_with fail
  (with_reducible refine (lnum_any 1 (by decide) _).mono ?_)
  rintro e v11 ⟨⟨s61, X61, m61, d61, s62, X62, m62, d62⟩, rfl, hf6, hb7⟩
  replace hT := hT.trans (hb7.mono hT.size)
  replace HD := Lib.hid (HD.out.below hb7)
  replace HK := Lib.hid (HK.out.below hb7)
  replace hf5 := hf5.below hb7
  clear hb7
  have hbA : Below v11.heap.size v11 (v11.alloc (.cells #[.int .i64 s51, .slice X51 m51 d51, .int .i64 s52, .slice X52 m52 d52, .int .i64 s61, .slice X61 m61 d61, .int .i64 s62, .slice X62 m62 d62] 41)) := (Below.refl _ _).alloc (Nat.le_refl _) _
  have hql := qs2 hf5 hf6
  replace hT := hT.trans (hbA.mono hT.size)
  replace HD := Lib.hid (HD.out.below hbA)
  replace HK := Lib.hid (HK.out.below hbA)
  clear hbA hf5 hf6
  go_wp2_with fail
  (with_reducible refine (rlsame_true (n := 2) (xs := [-2, 1]) _ HK.out hql rfl (by decide)).mono ?_)
  rintro e v12 ⟨rfl, hb7⟩
  replace hT := hT.trans (hb7.mono hT.size)
  replace HD := Lib.hid (HD.out.below hb7)
  replace HK := Lib.hid (HK.out.below hb7)
  clear hb7 hql
  go_wp2_with fail
  (with_reducible refine (lcheck_any (m := 2) (mx := 2) (n := 2) (rs := [rowD [1, 2, 1] 2, rowD [2, 4, 5] 2]) (xs := [-2, 1].map Fd.of) _ HD.out rfl (by decide) HK.out.fds rfl (by decide) false ⟨fun h => (by cases h), fun h => absurd h not_sol⟩).mono ?_)
  rintro e v13 ⟨rfl, hb7⟩
  replace hT := hT.trans (hb7.mono hT.size)
  clear hb7 HD HK
  go_wp2_with fail
  (with_reducible refine (lright_any (m := 0) (n := 0) (rs := []) (A := none) (cap := 0) _ (rds_nil _ _) rfl (by decide) true ⟨fun _ => sys0, fun _ => rfl⟩).mono ?_)
  rintro e v14 ⟨rfl, hb7⟩
  replace hT := hT.trans (hb7.mono hT.size)
  clear hb7
  go_wp2_with fail
  go_ret
  exact ⟨rfl, hT⟩

end Go.Proofs.YtgpmmpajnfbecaaGreat

namespace Go.Proofs.YtgpmmpajnfbecaaGreat
open Go.ChangeShapes Go.WideShapes Go.ChangeAt Go.RowKit Go.Joins Go.Deep

/-- Rows at address A, however long. -/
def RdsL (w : World) (A : Option Addr) (rs : List Rd) : Prop := ∀ k, k < rs.length → ∃ (b off : Nat) (Aa : Option Addr) (ca : Nat) (f : Fc), A = some ⟨b, off, none⟩ ∧ b < w.heap.size ∧
  w.cell? ⟨b, off + k * 5, none⟩ = some (.slice Aa (rs.getD k rnil).A.length ca) ∧ w.cell? ⟨b, off + k * 5 + 1, none⟩ = some (.int .i64 f.s) ∧ w.cell? ⟨b, off + k * 5 + 2, none⟩ = some (.slice f.A f.n f.c) ∧
  w.cell? ⟨b, off + k * 5 + 3, none⟩ = some (.int .i64 f.s') ∧ w.cell? ⟨b, off + k * 5 + 4, none⟩ = some (.slice f.A' f.n' f.c') ∧
  FdsAt w Aa (rs.getD k rnil).A ∧ FdIs w f (rs.getD k rnil).v
theorem RdsL.below {w w' : World} {A : Option Addr} {rs : List Rd} (h : RdsL w A rs) (hb : Below w.heap.size w w') : RdsL w' A rs := fun k hk => by
  obtain ⟨b, off, Aa, ca, f, e, hB, h0, h1, h2, h3, h4, h6, h7⟩ := h k hk
  have hc : ∀ i, w'.cell? ⟨b, i, none⟩ = w.cell? ⟨b, i, none⟩ := fun i => hb.cell (p := ⟨b, i, none⟩) hB
  exact ⟨b, off, Aa, ca, f, e, Nat.lt_of_lt_of_le hB hb.size, (hc _).trans h0, (hc _).trans h1, (hc _).trans h2, (hc _).trans h3, (hc _).trans h4, h6.below hb, h7.below hb⟩
theorem RdsL.tight {w : World} {A : Option Addr} {rs : List Rd} (h : RdsL w A rs) (hl : ∀ k, k < rs.length → (rs.getD k rnil).A.length ≤ 1000000) : RdsAt w A rs := fun k hk => by
  obtain ⟨b, off, Aa, ca, f, e, hB, h0, h1, h2, h3, h4, h6, h7⟩ := h k hk
  exact ⟨b, off, Aa, ca, f, e, hB, h0, h1, h2, h3, h4, hl k hk, h6, h7⟩

set_option maxRecDepth 100000 in
set_option maxHeartbeats 8000000 in
theorem fewL_any {A : Option Addr} {m cap : Nat} {rs : List Rd} {N d : Int} (w : World) (h : RdsL w A rs) (hm : rs.length = m) (hN0 : 0 ≤ N) (hN1 : N ≤ 1000) :
    Calls Tryz.prog 5 #[.slice A m cap, .int .i64 N, .int .i64 d] w fun e w' => ∃ b, e = .returned (.bool b) ∧ Below w.heap.size w w' ∧ (b = true → (m : Int) ≤ N ∧ ∀ k, k < m → ((rs.getD k rnil).A.length : Int) ≤ N ∧ (∀ j, j < (rs.getD k rnil).A.length → FewD d ((rs.getD k rnil).A.getD j dnil)) ∧ FewD d (rs.getD k rnil).v) := by
  have HD := Lib.hid h; clear h
  have HM := Lib.hid hm; clear hm
  go_enter Tryz.func5, Tryz.ntmps5
  go_wp2_with fail
  go_loopw [7] (fun iv wr => ∃ i : Nat, i ≤ m ∧ (i : Int) ≤ N + 1 ∧ iv = .int .i64 i ∧ Below w.heap.size w wr ∧ Hid (∀ k, k < i → ((rs.getD k rnil).A.length : Int) ≤ N ∧ (∀ j, j < (rs.getD k rnil).A.length → FewD d ((rs.getD k rnil).A.getD j dnil)) ∧ FewD d (rs.getD k rnil).v)) (fun iv _ => m - (intOf iv).toNat)
  case atStart => exact ⟨0, Nat.zero_le _, by omega, rfl, Below.refl _ _, Lib.hid fun k hk => by omega⟩
  case round =>
    obtain ⟨i, hi, hiN, rfl, hbl, hz⟩ := hrel
    by_cases hgo : i < m
    · by_cases hn : (i : Int) ≤ N
      · have hd1 : decide ((i : Int) ≤ N) = true := decide_eq_true hn
        obtain ⟨b1, o1, Aa, ca, f1, hA1, hB1, c0, c1, c2, c3, c4, hfa, hf1⟩ := (HD.out.below hbl) i (by rw [HM.out]; exact hgo)
        subst hA1
        have h1 := hf1.a1.hn
        have h2 := hf1.a2.hn
        obtain ⟨s1, X1, n1, e1, s2, X2, n2, e2⟩ := f1
        simp only at c1 c2 c3 c4 h1 h2
        have H12 := Lib.hid (And.intro h1 h2)
        obtain ⟨la, hlae⟩ : ∃ l, (rs.getD i rnil).A.length = l := ⟨_, rfl⟩
        rw [hlae] at c0
        have HLA := Lib.hid hlae; clear hlae
        clear hf1 h1 h2
        go_wp2_with fail
        (with_reducible refine (fewF_any _ hfa HLA.out hN0 hN1).mono ?_)
        rintro e u1 ⟨b, rfl, hb1, hbt⟩
        have hbb := hbl.trans (hb1.mono hbl.size)
        have k1 := hb1.cell (p := ⟨b1, o1 + i * 5 + 1, none⟩) hB1
        have k2 := hb1.cell (p := ⟨b1, o1 + i * 5 + 2, none⟩) hB1
        have k3 := hb1.cell (p := ⟨b1, o1 + i * 5 + 3, none⟩) hB1
        have k4 := hb1.cell (p := ⟨b1, o1 + i * 5 + 4, none⟩) hB1
        rw [c1] at k1
        rw [c2] at k2
        rw [c3] at k3
        rw [c4] at k4
        cases b with
        | false =>
          clear hbt hfa c0 c1 c2 c3 c4 hd1
          go_wp2_with fail
          go_ret
          exact ⟨false, rfl, hbb, fun h => (by cases h)⟩
        | true =>
          have HBT := Lib.hid (hbt rfl)
          clear hbt hfa c0 c1 c2 c3 c4 hb1
          go_wp2_with fail
          clear k1 k2 k3 k4
          by_cases hfw : (n1 : Int) ≤ d ∧ (n2 : Int) ≤ d
          · (with_reducible refine (ffew_any _ _ _ _ _ _ _ _ _ _ true (decide_eq_true hfw)).mono ?_)
            rintro e u2 ⟨rfl, hb2⟩
            have hbb2 := hbb.trans (hb2.mono hbb.size)
            have HF := Lib.hid (show ((rs.getD i rnil).A.length : Int) ≤ N ∧ (∀ j, j < (rs.getD i rnil).A.length → FewD d ((rs.getD i rnil).A.getD j dnil)) ∧ FewD d (rs.getD i rnil).v from
              ⟨by rw [HLA.out]; exact HBT.out.1, by rw [HLA.out]; exact HBT.out.2, by rw [H12.out.1]; exact hfw.1, by rw [H12.out.2]; exact hfw.2⟩)
            clear hfw hd1
            go_wp2_with fail
            go_roundw
            case rel => exact ⟨i + 1, by omega, by omega, rfl, hbb2, Lib.hid fun k hk => by
              by_cases hki : k < i
              · exact hz.out k hki
              · have : k = i := by omega
                subst this
                exact HF.out⟩
            case measure => simp [intOf]; omega
          · (with_reducible refine (ffew_any _ _ _ _ _ _ _ _ _ _ false (decide_eq_false hfw)).mono ?_)
            rintro e u2 ⟨rfl, hb2⟩
            have hbb2 := hbb.trans (hb2.mono hbb.size)
            clear hfw hd1
            go_wp2_with fail
            go_ret
            exact ⟨false, rfl, hbb2, fun h => (by cases h)⟩
      · have hd1 : decide ((i : Int) ≤ N) = false := decide_eq_false hn
        have hd2 : decide ((m : Int) ≤ N) = false := decide_eq_false (by omega)
        go_wp2_with fail
        go_ret
        first | exact ⟨false, rfl, hbl, fun h => (by cases h)⟩ | exact .inl ⟨rfl, hbl⟩
    · have : i = m := by omega
      subst this
      by_cases hn : (i : Int) ≤ N
      · have hd2 : decide ((i : Int) ≤ N) = true := decide_eq_true hn
        go_wp2_with fail
        go_ret
        first | exact ⟨true, rfl, hbl, fun _ => ⟨hn, hz.out⟩⟩ | exact .inr ⟨rfl, hbl, hn, by simpa using hz.out⟩
      · have hd2 : decide ((i : Int) ≤ N) = false := decide_eq_false hn
        go_wp2_with fail
        go_ret
        first | exact ⟨false, rfl, hbl, fun h => (by cases h)⟩ | exact .inl ⟨rfl, hbl⟩


theorem Tryz.cellsRow : Tryz.prog.cellsOf 43 = 5 := by kernel_rfl
theorem Tryz.cellsFrs : Tryz.prog.cellsOf 23 = 1 := by kernel_rfl
theorem pick_list {α : Type} {Q : Nat → α → Prop} : ∀ n : Nat, (∀ i, i < n → ∃ d, Q i d) → ∃ ds : List α, ds.length = n ∧ ∀ i (h : i < ds.length), Q i ds[i]
  | 0, _ => ⟨[], rfl, fun i h => absurd h (by simp)⟩
  | n + 1, h => by
    obtain ⟨ds, hl, hq⟩ := pick_list n (fun i hi => h i (by omega))
    obtain ⟨d, hd⟩ := h n (by omega)
    refine ⟨ds ++ [d], by simp [hl], fun i hi => ?_⟩
    by_cases hin : i < ds.length
    · rw [List.getElem_append_left hin]; exact hq i hin
    · have : i = n := by simp at hi; omega
      subst this
      rw [List.getElem_append_right (by omega)]
      simpa using hd
section
variable {H : Type} {enc : TypeId × Value → H} {w : World}
set_option maxRecDepth 100000 in
theorem open_frac4 {n : Nat} {e0 e1 e2 e3 : Value} {y : DataW H × List MemPlace} (h : DataW.trod enc Tryz.prog w 0 (fun _ => true) true n 41 [e0, e1, e2, e3] = some y) :
    ∃ (f : Fc) (d : Fd), e0 = .int .i64 f.s ∧ e1 = .slice f.A f.n f.c ∧ e2 = .int .i64 f.s' ∧ e3 = .slice f.A' f.n' f.c' ∧ FdIs w f d := by
  obtain ⟨y0, y1, n, _, _, g0, g1⟩ := trod_struct2 Tryz.underlying41 h
  have g0' : DataW.trod enc Tryz.prog w 0 (fun _ => true) true n 39 [e0, e1] = some y0 := by simpa [Value.cells, Tryz.cells39] using g0
  have g1' : DataW.trod enc Tryz.prog w 0 (fun _ => true) true n 39 [e2, e3] = some y1 := by simpa [Value.cells, Tryz.cells39] using g1
  obtain ⟨z0, z1, m, _, _, k0, k1⟩ := trod_struct2 Tryz.underlying39 g0'
  obtain ⟨z2, z3, m', _, _, k2, k3⟩ := trod_struct2 Tryz.underlying39 g1'
  obtain ⟨s1, l1, A1, n1, c1, rfl, rfl, a1⟩ := open_part (by simpa [Tryz.cells3] using k0) (by simpa [Tryz.cells37] using k1)
  obtain ⟨s2, l2, A2, n2, c2, rfl, rfl, a2⟩ := open_part (by simpa [Tryz.cells3] using k2) (by simpa [Tryz.cells37] using k3)
  exact ⟨⟨s1, A1, n1, c1, s2, A2, n2, c2⟩, ⟨s1, l1, s2, l2⟩, rfl, rfl, rfl, rfl, rfl, rfl, a1, a2⟩
set_option maxRecDepth 100000 in
theorem open_fracs {n : Nat} {v : Value} {y : DataW H × List MemPlace} (h : DataW.trod enc Tryz.prog w 0 (fun _ => true) true n 23 [v] = some y) :
    ∃ (A : Option Addr) (ds : List Fd) (c : Nat), v = .slice A ds.length c ∧ FdsAt w A ds := by
  rcases open_slice Tryz.underlying23 h with ⟨hcs, _⟩ | ⟨a, len, cap, m, n', D, Pl, hcs, _, hl, hm, hmm, _, hi⟩
  · simp only [List.cons.injEq, and_true] at hcs
    subst hcs
    exact ⟨none, [], 0, rfl, fun k hk => by cases hk⟩
  · simp only [List.cons.injEq, and_true] at hcs
    subst hcs
    simp only [if_true] at hmm
    rw [Tryz.cells41] at hi
    have key : ∀ i, i < len → ∃ d : Fd, ∃ (b off : Nat) (f : Fc), some a = some ⟨b, off, none⟩ ∧ b < w.heap.size ∧
        w.cell? ⟨b, off + i * 4, none⟩ = some (.int .i64 f.s) ∧ w.cell? ⟨b, off + i * 4 + 1, none⟩ = some (.slice f.A f.n f.c) ∧ w.cell? ⟨b, off + i * 4 + 2, none⟩ = some (.int .i64 f.s') ∧ w.cell? ⟨b, off + i * 4 + 3, none⟩ = some (.slice f.A' f.n' f.c') ∧ FdIs w f d := fun i hil => by
      obtain ⟨cs', hc, ht⟩ := hi i (by omega)
      obtain ⟨_, hcl, hat⟩ := World.cells?_some hc
      match cs', hcl with
      | [e0, e1, e2, e3], _ =>
        obtain ⟨f, d, rfl, rfl, rfl, rfl, hf⟩ := open_frac4 ht
        have h0 := hat 0 (by omega)
        have h1 := hat 1 (by omega)
        have h2 := hat 2 (by omega)
        have h3 := hat 3 (by omega)
        obtain ⟨b, off, spot⟩ := a
        have hs : spot = none := by
          obtain ⟨cs0, hc0, _⟩ := hi 0 (by omega)
          obtain ⟨_, hcl0, hat0⟩ := World.cells?_some hc0
          have hz := hat0 0 (by omega)
          rw [List.getElem?_eq_getElem (by omega)] at hz
          simpa [Addr.add] using World.cell?_spot hz
        subst hs
        have kk : ∀ j : Nat, ((⟨b, off, none⟩ : Addr).add (i * 4)).add j = ⟨b, off + i * 4 + j, none⟩ := fun j => by rw [Go.WideShapes.add_plain, Go.WideShapes.add_plain]
        rw [kk] at h0 h1 h2 h3
        exact ⟨d, b, off, f, rfl, World.block_lt_of_cell? w _ h0, h0, h1, h2, h3, hf⟩
    obtain ⟨ds, hdl, hds⟩ := pick_list len key
    refine ⟨some a, ds, cap, by rw [hdl], fun k hk => ?_⟩
    obtain ⟨b, off, f, hh⟩ := hds k hk
    have e2 : ds.getD k dnil = ds[k] := by rw [List.getD_eq_getElem?_getD, List.getElem?_eq_getElem hk]; rfl
    rw [e2]
    exact ⟨b, off, f, hh⟩
set_option maxRecDepth 100000 in
theorem open_rows {n : Nat} {v : Value} {y : DataW H × List MemPlace} (h : DataW.trod enc Tryz.prog w 0 (fun _ => true) true n 22 [v] = some y) :
    ∃ (A : Option Addr) (rs : List Rd) (c : Nat), v = .slice A rs.length c ∧ RdsL w A rs := by
  rcases open_slice Tryz.underlying22 h with ⟨hcs, _⟩ | ⟨a, len, cap, m, n', D, Pl, hcs, _, hl, hm, hmm, _, hi⟩
  · simp only [List.cons.injEq, and_true] at hcs
    subst hcs
    exact ⟨none, [], 0, rfl, fun k hk => by cases hk⟩
  · simp only [List.cons.injEq, and_true] at hcs
    subst hcs
    simp only [if_true] at hmm
    rw [Tryz.cellsRow] at hi
    have key : ∀ i, i < len → ∃ d : Rd, ∃ (b off : Nat) (Aa : Option Addr) (ca : Nat) (f : Fc), some a = some ⟨b, off, none⟩ ∧ b < w.heap.size ∧
        w.cell? ⟨b, off + i * 5, none⟩ = some (.slice Aa d.A.length ca) ∧ w.cell? ⟨b, off + i * 5 + 1, none⟩ = some (.int .i64 f.s) ∧ w.cell? ⟨b, off + i * 5 + 2, none⟩ = some (.slice f.A f.n f.c) ∧ w.cell? ⟨b, off + i * 5 + 3, none⟩ = some (.int .i64 f.s') ∧ w.cell? ⟨b, off + i * 5 + 4, none⟩ = some (.slice f.A' f.n' f.c') ∧ FdsAt w Aa d.A ∧ FdIs w f d.v := fun i hil => by
      obtain ⟨cs', hc, ht⟩ := hi i (by omega)
      obtain ⟨_, hcl, hat⟩ := World.cells?_some hc
      match cs', hcl with
      | [e, e0, e1, e2, e3], _ =>
        obtain ⟨y0, y1, n2, _, _, g0, g1⟩ := trod_struct2 Tryz.underlying43 ht
        have g0' : DataW.trod enc Tryz.prog w 0 (fun _ => true) true n2 23 [e] = some y0 := by simpa [Value.cells, Tryz.cellsFrs] using g0
        have g1' : DataW.trod enc Tryz.prog w 0 (fun _ => true) true n2 41 [e0, e1, e2, e3] = some y1 := by simpa [Value.cells, Tryz.cells41] using g1
        obtain ⟨Aa, ds, ca, rfl, hds⟩ := open_fracs g0'
        obtain ⟨f, d, rfl, rfl, rfl, rfl, hf⟩ := open_frac4 g1'
        have h0 := hat 0 (by omega)
        have h1 := hat 1 (by omega)
        have h2 := hat 2 (by omega)
        have h3 := hat 3 (by omega)
        have h4 := hat 4 (by omega)
        obtain ⟨b, off, spot⟩ := a
        have hs : spot = none := by
          obtain ⟨cs0, hc0, _⟩ := hi 0 (by omega)
          obtain ⟨_, hcl0, hat0⟩ := World.cells?_some hc0
          have hz := hat0 0 (by omega)
          rw [List.getElem?_eq_getElem (by omega)] at hz
          simpa [Addr.add] using World.cell?_spot hz
        subst hs
        have kk : ∀ j : Nat, ((⟨b, off, none⟩ : Addr).add (i * 5)).add j = ⟨b, off + i * 5 + j, none⟩ := fun j => by rw [Go.WideShapes.add_plain, Go.WideShapes.add_plain]
        rw [kk] at h0 h1 h2 h3 h4
        exact ⟨⟨ds, d⟩, b, off, Aa, ca, f, rfl, World.block_lt_of_cell? w _ h0, h0, h1, h2, h3, h4, hds, hf⟩
    obtain ⟨ds, hdl, hds⟩ := pick_list len key
    refine ⟨some a, ds, cap, by rw [hdl], fun k hk => ?_⟩
    obtain ⟨b, off, Aa, ca, f, hh⟩ := hds k hk
    have e2 : ds.getD k rnil = ds[k] := by rw [List.getD_eq_getElem?_getD, List.getElem?_eq_getElem hk]; rfl
    rw [e2]
    exact ⟨b, off, Aa, ca, f, hh⟩
set_option maxRecDepth 100000 in
theorem open_Rs {r : Reach} {b0 : Nat} {v : Value} {d : DataW H} {p : List MemPlace} (hv : Value.okWide Tryz.prog w r b0 22 v) (h : DataW.Trod enc Tryz.prog w 0 (fun _ => true) true 22 v d p) :
    ∃ (A : Option Addr) (rs : List Rd) (c : Nat), v = .slice A rs.length c ∧ RdsL w A rs := by
  obtain ⟨a0, len0, cap0, rfl⟩ := okWide_slice Tryz.underlying22 hv
  obtain ⟨fuel, hf⟩ := h
  exact open_rows (by simpa [Value.cells] using hf)
set_option maxRecDepth 100000 in
theorem open_Fs {r : Reach} {b0 : Nat} {v : Value} {d : DataW H} {p : List MemPlace} (hv : Value.okWide Tryz.prog w r b0 23 v) (h : DataW.Trod enc Tryz.prog w 0 (fun _ => true) true 23 v d p) :
    ∃ (A : Option Addr) (ds : List Fd) (c : Nat), v = .slice A ds.length c ∧ FdsAt w A ds := by
  obtain ⟨a0, len0, cap0, rfl⟩ := okWide_slice Tryz.underlying23 hv
  obtain ⟨fuel, hf⟩ := h
  exact open_fracs (by simpa [Value.cells] using hf)
set_option maxRecDepth 100000 in
theorem open_Int {r : Reach} {b0 : Nat} {v : Value} {d : DataW H} {p : List MemPlace} (hv : Value.okWide Tryz.prog w r b0 3 v) (h : DataW.Trod enc Tryz.prog w 0 (fun _ => true) true 3 v d p) : ∃ z : Int, v = .int .i64 z := by
  obtain ⟨z, rfl, _⟩ := okWide_int Tryz.underlying3 hv
  exact ⟨z, rfl⟩
end

end Go.Proofs.YtgpmmpajnfbecaaGreat

namespace Go.Proofs.YtgpmmpajnfbecaaGreat
open Go.RowKit

open Classical in
/-- What Solve returns. -/
noncomputable def solOut (rs : List Rd) (n : Int) : List Rat × Int :=
  if SysR rs n then (match runFree rs.length 0 (rs.map Rd.q) with
    | none => ([], 6)
    | some (k, Y) => if k < rs.length then ([], 16) else ((List.range rs.length).map fun j => (Y.getD j []).getD rs.length 0, 0))
  else ([], 1)
open Classical in
/-- What Kernel returns. -/
noncomputable def kerOut (rs : List Rd) (n : Int) : List Rat × Bool :=
  if SysR rs n then (match runFree rs.length 0 (rs.map Rd.q) with
    | none => ([], false)
    | some (k, Y) => if k < rs.length then ((List.range rs.length).map (kerV Y k), true) else ([], false))
  else ([], false)
open Classical in
/-- What Rank returns. -/
noncomputable def rankOut (rs : List Rd) (n : Int) : Int × Int :=
  if SysR rs n then (match runRank rs.length 0 0 (rs.map Rd.q) with
    | none => (0, 6)
    | some k => ((k : Int), 0))
  else (0, 1)
theorem solOut_len (rs : List Rd) (n : Int) : (solOut rs n).1.length ≤ rs.length := by
  unfold solOut
  split
  · split
    · simp
    · split <;> simp
  · simp
theorem kerOut_len (rs : List Rd) (n : Int) : (kerOut rs n).1.length ≤ rs.length := by
  unfold kerOut
  split
  · split
    · simp
    · split <;> simp
  · simp
theorem sol_of {w w' : World} {rs : List Rd} {m : Nat} {n : Int} {e : Ending} (hm : rs.length = m) (hp : Below w.heap.size w w' ∧
      ((¬ SysR rs n ∧ e = .returned (.tuple #[.slice none 0 0, .int .i64 1])) ∨ (SysR rs n ∧ runFree m 0 (rs.map Rd.q) = none ∧ e = .returned (.tuple #[.slice none 0 0, .int .i64 6])) ∨
        (SysR rs n ∧ (∃ (k : Nat) (Y : List (List Rat)), runFree m 0 (rs.map Rd.q) = some (k, Y) ∧ k < m) ∧ e = .returned (.tuple #[.slice none 0 0, .int .i64 16])) ∨
        (SysR rs n ∧ ∃ (Y : List (List Rat)) (Ao : Option Addr) (co : Nat), runFree m 0 (rs.map Rd.q) = some (m, Y) ∧ e = .returned (.tuple #[.slice Ao m co, .int .i64 0]) ∧ QsAt w' Ao ((List.range m).map fun k => (Y.getD k []).getD m 0)))) :
    Below w.heap.size w w' ∧ ∃ (Ao : Option Addr) (co : Nat), e = .returned (.tuple #[.slice Ao (solOut rs n).1.length co, .int .i64 (solOut rs n).2]) ∧ QsAt w' Ao (solOut rs n).1 := by
  subst hm
  refine ⟨hp.1, ?_⟩
  unfold solOut
  rcases hp.2 with ⟨hs, rfl⟩ | ⟨hs, hr, rfl⟩ | ⟨hs, ⟨k, Y, hr, hk⟩, rfl⟩ | ⟨hs, Y, Ao, co, hr, rfl, hq⟩
  · rw [if_neg hs]; exact ⟨none, 0, rfl, QsAt.nil _ _⟩
  · rw [if_pos hs, hr]; exact ⟨none, 0, rfl, QsAt.nil _ _⟩
  · rw [if_pos hs, hr]
    simp only [if_pos hk]
    exact ⟨none, 0, rfl, QsAt.nil _ _⟩
  · rw [if_pos hs, hr]
    simp only [Nat.lt_irrefl, if_false]
    exact ⟨Ao, co, by simp, hq⟩
theorem ker_of {w w' : World} {rs : List Rd} {m : Nat} {n : Int} {e : Ending} (hm : rs.length = m) (hp : Below w.heap.size w w' ∧
      ((¬ SysR rs n ∧ e = .returned (.tuple #[.slice none 0 0, .bool false])) ∨ (SysR rs n ∧ runFree m 0 (rs.map Rd.q) = none ∧ e = .returned (.tuple #[.slice none 0 0, .bool false])) ∨
        (SysR rs n ∧ (∃ Y : List (List Rat), runFree m 0 (rs.map Rd.q) = some (m, Y)) ∧ e = .returned (.tuple #[.slice none 0 0, .bool false])) ∨
        (SysR rs n ∧ ∃ (k : Nat) (Y : List (List Rat)) (Ao : Option Addr) (co : Nat), runFree m 0 (rs.map Rd.q) = some (k, Y) ∧ k < m ∧ e = .returned (.tuple #[.slice Ao m co, .bool true]) ∧ QsAt w' Ao ((List.range m).map (kerV Y k))))) :
    Below w.heap.size w w' ∧ ∃ (Ao : Option Addr) (co : Nat), e = .returned (.tuple #[.slice Ao (kerOut rs n).1.length co, .bool (kerOut rs n).2]) ∧ QsAt w' Ao (kerOut rs n).1 := by
  subst hm
  refine ⟨hp.1, ?_⟩
  unfold kerOut
  rcases hp.2 with ⟨hs, rfl⟩ | ⟨hs, hr, rfl⟩ | ⟨hs, ⟨Y, hr⟩, rfl⟩ | ⟨hs, k, Y, Ao, co, hr, hk, rfl, hq⟩
  · rw [if_neg hs]; exact ⟨none, 0, rfl, QsAt.nil _ _⟩
  · rw [if_pos hs, hr]; exact ⟨none, 0, rfl, QsAt.nil _ _⟩
  · rw [if_pos hs, hr]
    simp only [Nat.lt_irrefl, if_false]
    exact ⟨none, 0, rfl, QsAt.nil _ _⟩
  · rw [if_pos hs, hr]
    simp only [if_pos hk]
    exact ⟨Ao, co, by simp, hq⟩
theorem rank_of {w w' : World} {rs : List Rd} {m : Nat} {n : Int} {e : Ending} (hm : rs.length = m) (hp : Below w.heap.size w w' ∧
      ((¬ SysR rs n ∧ e = .returned (.tuple #[.int .i64 0, .int .i64 1])) ∨ (SysR rs n ∧ runRank m 0 0 (rs.map Rd.q) = none ∧ e = .returned (.tuple #[.int .i64 0, .int .i64 6])) ∨
        (SysR rs n ∧ ∃ k : Nat, runRank m 0 0 (rs.map Rd.q) = some k ∧ e = .returned (.tuple #[.int .i64 k, .int .i64 0])))) :
    Below w.heap.size w w' ∧ e = .returned (.tuple #[.int .i64 (rankOut rs n).1, .int .i64 (rankOut rs n).2]) := by
  subst hm
  refine ⟨hp.1, ?_⟩
  unfold rankOut
  rcases hp.2 with ⟨hs, rfl⟩ | ⟨hs, hr, rfl⟩ | ⟨hs, k, hr, rfl⟩
  · rw [if_neg hs]
  · rw [if_pos hs, hr]
  · rw [if_pos hs, hr]

open Classical in
set_option maxRecDepth 100000 in
set_option maxHeartbeats 16000000 in
theorem tells_any {A Ax : Option Addr} {m cap mx cx : Nat} {n : Int} {rs : List Rd} {xs : List Fd} (w : World) (h : RdsL w A rs) (hm : rs.length = m) (hx : FdsAt w Ax xs) (hxm : xs.length = mx) :
    Calls Tryz.prog 3 #[.slice A m cap, .int .i64 n, .slice Ax mx cx] w fun e w' => e = .returned (.bool true) ∧ Below w.heap.size w w' := by
  have HDL := Lib.hid h; clear h
  have HM := Lib.hid hm; clear hm
  have HX := Lib.hid hx; clear hx
  have HXM := Lib.hid hxm; clear hxm
  go_enter Tryz.func3, Tryz.ntmps3
  go_wp2_with fail
  (with_reducible refine (small_any w).mono ?_)
  rintro e u1 ⟨rfl, hT⟩
  go_wp2_with fail
  (with_reducible refine (fewL_any (N := 5) (d := 2) _ (HDL.out.below hT) HM.out (by decide) (by decide)).mono ?_)
  rintro e u2 ⟨b, rfl, hb2, hbt⟩
  replace hT := hT.trans (hb2.mono hT.size)
  clear hb2
  cases b with
  | false =>
    clear hbt
    go_wp2_with fail
    go_ret
    exact ⟨rfl, hT⟩
  | true =>
  have hm5 : m ≤ 5 := by have := (hbt rfl).1; omega
  have HD := Lib.hid (HDL.out.tight (fun k hk => by have := ((hbt rfl).2 k (by rw [← HM.out]; exact hk)).1; omega))
  clear HDL
  clear hbt
  go_wp2_with fail
  (with_reducible refine (fewF_any (N := 5) (d := 2) _ (HX.out.below hT) HXM.out (by decide) (by decide)).mono ?_)
  rintro e u3 ⟨b, rfl, hb2, hbt⟩
  replace hT := hT.trans (hb2.mono hT.size)
  clear hb2
  cases b with
  | false =>
    clear hbt
    go_wp2_with fail
    go_ret
    exact ⟨rfl, hT⟩
  | true =>
  have hx5 : mx ≤ 5 := by have := (hbt rfl).1; omega
  clear hbt
  go_wp2_with fail
  obtain ⟨so, hso⟩ : ∃ s, solOut rs n = s := ⟨_, rfl⟩
  obtain ⟨ko, hko⟩ : ∃ s, kerOut rs n = s := ⟨_, rfl⟩
  obtain ⟨ro, hro⟩ : ∃ s, rankOut rs n = s := ⟨_, rfl⟩
  have HSL := Lib.hid (show so.1.length ≤ 1000000 by have := solOut_len rs n; rw [hso, HM.out] at this; omega)
  have HKL := Lib.hid (show ko.1.length ≤ 1000000 by have := kerOut_len rs n; rw [hko, HM.out] at this; omega)
  have HSO := Lib.hid hso; clear hso
  have HKO := Lib.hid hko; clear hko
  have HRO := Lib.hid hro; clear hro
  obtain ⟨sl, se⟩ := so
  obtain ⟨kl, kb⟩ := ko
  obtain ⟨r1, r2⟩ := ro
  (with_reducible refine ((lsolve_q (n := n) _ (HD.out.below hT) HM.out (by omega)).mono fun _ _ hp => sol_of HM.out hp).mono ?_)
  rintro e u4 ⟨hb4, A1, c1, rfl, hq1⟩
  rw [HSO.out] at hq1 ⊢
  replace hT := hT.trans (hb4.mono hT.size)
  clear hb4
  go_wp2_with fail
  (with_reducible refine ((rlsolve_any (n := n) _ (HD.out.below hT) HM.out (by omega)).mono fun _ _ hp => sol_of HM.out hp).mono ?_)
  rintro e u5 ⟨hb4, A2, c2, rfl, hq2⟩
  rw [HSO.out] at hq2 ⊢
  replace hT := hT.trans (hb4.mono hT.size)
  replace hq1 := hq1.below hb4
  clear hb4
  go_wp2_with fail
  (with_reducible refine ((lkernel_q (n := n) _ (HD.out.below hT) HM.out (by omega)).mono fun _ _ hp => ker_of HM.out hp).mono ?_)
  rintro e u6 ⟨hb4, A3, c3, rfl, hq3⟩
  rw [HKO.out] at hq3 ⊢
  replace hT := hT.trans (hb4.mono hT.size)
  replace hq1 := hq1.below hb4
  replace hq2 := hq2.below hb4
  clear hb4
  go_wp2_with fail
  (with_reducible refine ((rlkernel_any (n := n) _ (HD.out.below hT) HM.out (by omega)).mono fun _ _ hp => ker_of HM.out hp).mono ?_)
  rintro e u7 ⟨hb4, A4, c4, rfl, hq4⟩
  rw [HKO.out] at hq4 ⊢
  replace hT := hT.trans (hb4.mono hT.size)
  replace hq1 := hq1.below hb4
  replace hq2 := hq2.below hb4
  replace hq3 := hq3.below hb4
  clear hb4
  go_wp2_with fail
  (with_reducible refine ((lrank_any (n := n) _ (HD.out.below hT) HM.out (by omega)).mono fun _ _ hp => rank_of HM.out hp).mono ?_)
  rintro e u8 ⟨hb4, rfl⟩
  rw [HRO.out]
  replace hT := hT.trans (hb4.mono hT.size)
  replace hq1 := hq1.below hb4
  replace hq2 := hq2.below hb4
  replace hq3 := hq3.below hb4
  replace hq4 := hq4.below hb4
  clear hb4
  go_wp2_with fail
  (with_reducible refine ((rlrank_any (n := n) _ (HD.out.below hT) HM.out (by omega)).mono fun _ _ hp => rank_of HM.out hp).mono ?_)
  rintro e u9 ⟨hb4, rfl⟩
  rw [HRO.out]
  replace hT := hT.trans (hb4.mono hT.size)
  have HQ := Lib.hid (And.intro (hq1.below hb4) (And.intro (hq2.below hb4) (And.intro (hq3.below hb4) (hq4.below hb4))))
  clear hb4 hq1 hq2 hq3 hq4
  go_wp2_with fail
  obtain ⟨bR, hbR⟩ : ∃ b, decide (SysR rs n) = b := ⟨_, rfl⟩
  have HBR := Lib.hid (show bR = true ↔ SysR rs n by rw [← hbR]; exact decide_eq_true_iff)
  clear hbR
  (with_reducible refine (lright_any (n := n) _ (HD.out.below hT) HM.out (by omega) bR HBR.out).mono ?_)
  rintro e v1 ⟨rfl, hb4⟩
  replace hT := hT.trans (hb4.mono hT.size)
  replace HQ := Lib.hid (And.intro (HQ.out.1.below hb4) (And.intro (HQ.out.2.1.below hb4) (And.intro (HQ.out.2.2.1.below hb4) (HQ.out.2.2.2.below hb4))))
  clear hb4
  go_wp2_with fail
  (with_reducible refine (rlright_any (n := n) _ (HD.out.below hT) HM.out (by omega) bR HBR.out).mono ?_)
  rintro e v2 ⟨rfl, hb4⟩
  replace hT := hT.trans (hb4.mono hT.size)
  replace HQ := Lib.hid (And.intro (HQ.out.1.below hb4) (And.intro (HQ.out.2.1.below hb4) (And.intro (HQ.out.2.2.1.below hb4) (HQ.out.2.2.2.below hb4))))
  clear hb4
  go_wp2_with fail
  (with_reducible refine (rlsame_true (xs := sl) (n := sl.length) _ HQ.out.1 HQ.out.2.1 rfl HSL.out).mono ?_)
  rintro e v3 ⟨rfl, hb4⟩
  replace hT := hT.trans (hb4.mono hT.size)
  replace HQ := Lib.hid (And.intro (HQ.out.1.below hb4) (And.intro (HQ.out.2.1.below hb4) (And.intro (HQ.out.2.2.1.below hb4) (HQ.out.2.2.2.below hb4))))
  clear hb4
  go_wp2_with fail
  (with_reducible refine (rlsame_true (xs := kl) (n := kl.length) _ HQ.out.2.2.1 HQ.out.2.2.2 rfl HKL.out).mono ?_)
  rintro e v4 ⟨rfl, hb4⟩
  replace hT := hT.trans (hb4.mono hT.size)
  clear hb4 HQ
  obtain ⟨bC, hbC⟩ : ∃ b, decide (SolvesP rs xs n) = b := ⟨_, rfl⟩
  have HBC := Lib.hid (show bC = true ↔ SolvesP rs xs n by rw [← hbC]; exact decide_eq_true_iff)
  clear hbC
  go_wp2_with fail
  (with_reducible refine (lcheck_any (n := n) _ (HD.out.below hT) HM.out (by omega) (HX.out.below hT) HXM.out (by omega) bC HBC.out).mono ?_)
  rintro e v5 ⟨rfl, hb4⟩
  replace hT := hT.trans (hb4.mono hT.size)
  clear hb4
  go_wp2_with fail
  (with_reducible refine (rlcheck_any (n := n) _ (HD.out.below hT) HM.out (by omega) (HX.out.below hT) HXM.out bC HBC.out).mono ?_)
  rintro e v6 ⟨rfl, hb4⟩
  replace hT := hT.trans (hb4.mono hT.size)
  clear hb4
  go_wp2_with fail
  go_ret
  exact ⟨by simp, hT⟩

end Go.Proofs.YtgpmmpajnfbecaaGreat
