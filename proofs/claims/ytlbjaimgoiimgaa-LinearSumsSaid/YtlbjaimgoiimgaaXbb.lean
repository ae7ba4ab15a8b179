/- Rows stored into a list of the law's; systems with one row replaced. Walk of the law's times. The law LinearRank. Opening of a small number as it came in. -/
import Derived.Test.YtlbjaimgoiimgaaXba
import Derived.Test.YtlbjaimgoiimgaaXay
import Derived.Test.YtlbjaimgoiimgaaXax
import Derived.Test.YtlbjaimgoiimgaaXav
import Derived.Deep.RegionHeld3
import Derived.Deep.Cut
import Derived.Deep.CutRange

namespace Go.Proofs.Ytlbjaimgoiimgaa
open Go.RowKit

theorem rcs_set (m : List Rw) (i : Nat) (p : Rw) : (((((rcs m).set (i * 5) (.slice p.A p.n p.c)).set (i * 5 + 1) (.int .i64 p.f.s)).set (i * 5 + 2) (.slice p.f.A p.f.n p.f.c)).set (i * 5 + 3) (.int .i64 p.f.s')).set (i * 5 + 4) (.slice p.f.A' p.f.n' p.f.c') = rcs (m.set i p) := by
  induction m generalizing i with
  | nil => simp [rcs]
  | cons q m ih =>
    have e3 : ∀ q l, rcs (q :: l) = .slice q.A q.n q.c :: Value.int .i64 q.f.s :: .slice q.f.A q.f.n q.f.c :: .int .i64 q.f.s' :: .slice q.f.A' q.f.n' q.f.c' :: rcs l := fun _ _ => rfl
    cases i with
    | zero => simp [e3]
    | succ i =>
      have h := ih i
      have e1 : (i + 1) * 5 = i * 5 + 1 + 1 + 1 + 1 + 1 := by omega
      rw [List.set_cons_succ, e3, e3, e1]
      simp only [List.set_cons_succ]
      rw [h]
section
variable {w : World} {B g n cap : Nat} {rs : List Rw} {ds : List Rd}
/-- A row is stored. -/
theorem OwnR.store (h : OwnR w B (.slice (some ⟨g, 0, none⟩) n cap) rs) (hn : rs.length = n) (k : Nat) (r : Rw) : OwnR (((((w.setCell ⟨g, k * 5, none⟩ (.slice r.A r.n r.c)).setCell ⟨g, k * 5 + 1, none⟩ (.int .i64 r.f.s)).setCell ⟨g, k * 5 + 2, none⟩ (.slice r.f.A r.f.n r.f.c)).setCell ⟨g, k * 5 + 3, none⟩ (.int .i64 r.f.s')).setCell ⟨g, k * 5 + 4, none⟩ (.slice r.f.A' r.f.n' r.f.c')) B (.slice (some ⟨g, 0, none⟩) n cap) (rs.set k r) := by
  subst hn
  have h5 := (World.ownsRow.stored (World.ownsRow.stored (World.ownsRow.stored (World.ownsRow.stored (World.ownsRow.stored h (k * 5) (.slice r.A r.n r.c)).1 (k * 5 + 1) (.int .i64 r.f.s)).1 (k * 5 + 2) (.slice r.f.A r.f.n r.f.c)).1 (k * 5 + 3) (.int .i64 r.f.s')).1 (k * 5 + 4) (.slice r.f.A' r.f.n' r.f.c')).1
  rw [rcs_set] at h5
  unfold OwnR
  rw [List.length_set]
  exact h5
theorem fr_set5 (g a b c d e : Nat) (w : World) (u0 u1 u2 u3 u4 : Value) : Fr (· = g) w (((((w.setCell ⟨g, a, none⟩ u0).setCell ⟨g, b, none⟩ u1).setCell ⟨g, c, none⟩ u2).setCell ⟨g, d, none⟩ u3).setCell ⟨g, e, none⟩ u4) :=
  ((((fr_set g a w u0).tr (fr_set g b _ u1)).tr (fr_set g c _ u2)).tr (fr_set g d _ u3)).tr (fr_set g e _ u4)
theorem RowsO.store (h : RowsO w B (.slice (some ⟨g, 0, none⟩) n cap) rs ds) (hn : rs.length = n) {k : Nat} {r : Rw} {d : Rd} (hr : RwS (fun b => some b = some g) w r d) :
    RowsO (((((w.setCell ⟨g, k * 5, none⟩ (.slice r.A r.n r.c)).setCell ⟨g, k * 5 + 1, none⟩ (.int .i64 r.f.s)).setCell ⟨g, k * 5 + 2, none⟩ (.slice r.f.A r.f.n r.f.c)).setCell ⟨g, k * 5 + 3, none⟩ (.int .i64 r.f.s')).setCell ⟨g, k * 5 + 4, none⟩ (.slice r.f.A' r.f.n' r.f.c')) B (.slice (some ⟨g, 0, none⟩) n cap) (rs.set k r) (ds.set k d) := by
  have hf := (fr_set5 g (k * 5) (k * 5 + 1) (k * 5 + 2) (k * 5 + 3) (k * 5 + 4) w (.slice r.A r.n r.c) (.int .i64 r.f.s) (.slice r.f.A r.f.n r.f.c) (.int .i64 r.f.s') (.slice r.f.A' r.f.n' r.f.c')).more (T := fun b => some b = (Value.slice (some ⟨g, 0, none⟩) n cap).ownBlock) (fun b hb => by rw [hb]; rfl)
  refine ⟨h.own.store hn k r, by rw [List.length_set, List.length_set, h.len], fun j hj => ?_⟩
  rw [List.length_set] at hj
  by_cases e : j = k
  · subst e
    rw [getD_set_self (by rw [h.len]; exact hj), getD_set_self hj]
    exact RwS.fr hr hf
  · rw [getD_set_ne (Ne.symm e), getD_set_ne (Ne.symm e)]
    exact (h.row j hj).fr hf
/-- The cells of such a list. -/
theorem RowsO.cells (h : RowsO w B (.slice (some ⟨g, 0, none⟩) n cap) rs ds) {k : Nat} (hk : k < rs.length) : Five (fun i => w.cell? ⟨g, i, none⟩) (k * 5) (rs.getD k rwnil) ∧ g < w.heap.size ∧ B ≤ g ∧ ∀ i, w.frozen? ⟨g, i, none⟩ = false := by
  obtain ⟨A, c, e, _, _, hR⟩ := h.own.at_
  obtain ⟨b, off, e', hB, h0⟩ := hR k hk
  injection e with e1 _ _
  subst e1
  injection e' with e'
  injection e' with e1 e2
  subst e1; subst e2
  simp only [Nat.zero_add] at h0
  have ho := h.own
  rename_i e2 _ _
  subst e2
  exact ⟨h0, hB, h.own.lt.1, fun i => World.ownsRow.frozenAt ho i⟩
theorem RcAt.get {w : World} {A : Option Addr} {rs : List Rw} (h : RcAt w A rs) {k : Nat} (hk : k < rs.length) : ∃ (b off : Nat), A = some ⟨b, off, none⟩ ∧ b < w.heap.size ∧ w.cell? ⟨b, off + k * 5, none⟩ = some (.slice (rs.getD k rwnil).A (rs.getD k rwnil).n (rs.getD k rwnil).c) ∧ w.cell? ⟨b, off + k * 5 + 1, none⟩ = some (.int .i64 (rs.getD k rwnil).f.s) ∧
    w.cell? ⟨b, off + k * 5 + 2, none⟩ = some (.slice (rs.getD k rwnil).f.A (rs.getD k rwnil).f.n (rs.getD k rwnil).f.c) ∧ w.cell? ⟨b, off + k * 5 + 3, none⟩ = some (.int .i64 (rs.getD k rwnil).f.s') ∧ w.cell? ⟨b, off + k * 5 + 4, none⟩ = some (.slice (rs.getD k rwnil).f.A' (rs.getD k rwnil).f.n' (rs.getD k rwnil).f.c') := by
  obtain ⟨b, off, e, hB, h0, h1, h2, h3, h4⟩ := h k hk
  exact ⟨b, off, e, hB, h0, h1, h2, h3, h4⟩
theorem OwnR.other {w w' : World} {B g g' n cap : Nat} {rs : List Rw} (h : OwnR w B (.slice (some ⟨g, 0, none⟩) n cap) rs) (hf : Fr (· = g') w w') (hne : g ≠ g') : OwnR w' B (.slice (some ⟨g, 0, none⟩) n cap) rs :=
  World.ownsRow.kept (row := some g') h ⟨hf.1, hf.2.1, hf.2.2.1, hf.size, fun k hk hn => hf.2.2.2.2 k hk (fun e => hn (by rw [e]))⟩ (.inr (fun e => hne (by injection e)))
theorem OwnR.rds {w : World} {B g n cap : Nat} {rs : List Rw} {ds : List Rd} (h : OwnR w B (.slice (some ⟨g, 0, none⟩) n cap) rs) (hl : rs.length = ds.length) (hr : ∀ k, k < ds.length → RwIs w (rs.getD k rwnil) (ds.getD k rnil)) : RdsAt w (some ⟨g, 0, none⟩) ds := by
  obtain ⟨A, c, e, _, _, hR⟩ := h.at_
  injection e with e _ _
  subst e
  exact rds_of hR hl hr
/-- A copy of the rows. -/
theorem RowsO.copy {w0 w' : World} {B : Nat} {v' : Value} {rs : List Rw} {ds : List Rd} (hl : rs.length = ds.length) (hr : ∀ k, k < ds.length → RwIs w0 (rs.getD k rwnil) (ds.getD k rnil)) (hb : Below w0.heap.size w0 w') (ho : OwnR w' B v' rs) (hB : w0.heap.size ≤ B) : RowsO w' B v' rs ds :=
  ⟨ho, hl, fun k hk => RwS.old (hr k hk) hb (fun b hb' => by have := (ho.own_lt hb').1; omega)⟩
end

section
variable {rs : List Rd} {n : Nat}
theorem set_get {ds : List Rd} {a k : Nat} {d : Rd} (hk : k < ds.length) : (ds.set a d).getD k rnil = if k = a then d else ds.getD k rnil := by
  by_cases e : k = a
  · subst e
    rw [if_pos rfl, getD_set_self hk]
  · rw [if_neg e, getD_set_ne (Ne.symm e)]
theorem Sml.set (h : Sml rs n) {a : Nat} {d : Rd} (hR : d.R n) (hb : (∀ j, j < n → Bt (d.A.getD j dnil).q 20 20) ∧ Bt d.v.q 20 20) : Sml (rs.set a d) n := by
  refine ⟨⟨by rw [List.length_set]; exact h.sys.1, by rw [List.length_set]; exact h.sys.2.1, fun k hk => ?_⟩, h.n3, fun k hk => ?_⟩
  · rw [List.length_set] at hk ⊢
    rw [set_get hk, h.len]
    by_cases e : k = a
    · rw [if_pos e]; exact hR
    · rw [if_neg e]; exact h.R (by rw [← h.len]; exact hk)
  · rw [set_get (by rw [h.len]; exact hk)]
    by_cases e : k = a
    · rw [if_pos e]; exact hb
    · rw [if_neg e]; exact h.bits k hk
theorem q_set {ds : List Rd} {a k : Nat} {d : Rd} (hk : k < ds.length) : ((ds.set a d).map Rd.q).getD k [] = if k = a then d.q else (ds.map Rd.q).getD k [] := by
  rw [q_get (by rw [List.length_set]; exact hk), set_get hk]
  by_cases e : k = a
  · rw [if_pos e, if_pos e]
  · rw [if_neg e, if_neg e, q_get hk]
/-- A row of zeros. -/
def zrow (n : Nat) : Rd := ⟨((List.range n).map fun _ => (0 : Rat)).map Fd.of, Fd.of 0⟩
theorem zrow_get {n j : Nat} (hj : j < n) : ((zrow n).A.getD j dnil) = Fd.of 0 := by
  unfold zrow
  simp only
  rw [getD_map_of (by simpa using hj)]
  congr 1
  rw [List.getD_eq_getElem?_getD, List.getElem?_map, List.getElem?_range hj]
  rfl
theorem zrow_R (n : Nat) : (zrow n).R n := by
  have h0 : (Fd.of 0).R := Fd.of_R (bt_rb ((⟨by decide, by decide⟩ : Bt 0 1 1).more (by decide) (by decide)))
  exact ⟨by simp [zrow], fun k hk => by rw [zrow_get hk]; exact h0, h0⟩
theorem zrow_bits (n : Nat) : (∀ j, j < n → Bt ((zrow n).A.getD j dnil).q 20 20) ∧ Bt (zrow n).v.q 20 20 := by
  have h0 : Bt (0 : Rat) 20 20 := ⟨by decide, by decide⟩
  exact ⟨fun j hj => by rw [zrow_get hj, Fd.of_q]; exact h0, by show Bt (Fd.of 0).q 20 20; rw [Fd.of_q]; exact h0⟩
theorem zrow_q {n j : Nat} (hj : j < n) : (zrow n).q.getD j 0 = 0 := by
  unfold Rd.q
  have hl : (zrow n).A.length = n := (zrow_R n).1
  rw [List.getD_eq_getElem?_getD, List.getElem?_append_left (by rw [List.length_map, hl]; exact hj), ← List.getD_eq_getElem?_getD, q_getD (by rw [hl]; exact hj), zrow_get hj, Fd.of_q]
theorem dotN_zero {a : List Rat} {x : Nat → Rat} {m : Nat} (h : ∀ j, j < m → a.getD j 0 = 0) : dotN a x m = 0 := by
  induction m with
  | zero => rfl
  | succ m ih => rw [dotN, ih (fun j hj => h j (by omega)), h m (by omega)]; grind
theorem solL_zero {x : Nat → Rat} {a : List Rat} (h : dotN a x n = 0) : SolL 0 n x a := by
  unfold SolL
  rw [h]
  grind
theorem solL_dot {x : Nat → Rat} {a : List Rat} (h : SolL 0 n x a) : dotN a x n = 0 := by
  unfold SolL at h
  rw [h]
  grind

/-- A row replaced by another one. -/
theorem Sml.twice (h : Sml rs n) {a b r t : Nat} (ha : a < n) (hb : b < n) (hr : runRank n 0 0 (rs.map Rd.q) = some r) (ht : runRank n 0 0 ((rs.set a (rs.getD b rnil)).map Rd.q) = some t) : t ≤ r ∧ (a ≠ b → t < n) := by
  have S' := h.set (a := a) (h.R hb) (h.bits b hb)
  have hl := h.len
  refine ⟨rank_mono hr ht h.lenA h.X S'.lenA S'.X (fun x hx k hk => ?_), fun hab => ?_⟩
  · rw [S'.X] at hk
    rw [q_set (by omega)]
    by_cases e : k = a
    · rw [if_pos e, ← q_get (by omega)]
      exact hx b (by rw [h.X]; exact hb)
    · rw [if_neg e]
      exact hx k (by rw [h.X]; exact hk)
  · obtain ⟨k, Y, hf⟩ := S'.free
    obtain ⟨x, ⟨j, hj, hxj⟩, hs⟩ := lack_ker (X := (rs.set a (rs.getD b rnil)).map Rd.q) (n := n) (a := a) S'.X ha (.inr ⟨b, hb, fun e => hab e.symm, fun j hj => by
      rw [q_set (by omega), if_pos rfl, q_set (by omega), if_neg (fun e => hab e.symm), q_get (by omega)]⟩)
    exact rank_less ht hf S'.lenA S'.X hs hj hxj
/-- A row replaced by 0. -/
theorem Sml.none (h : Sml rs n) {a r u : Nat} (ha : a < n) (hr : runRank n 0 0 (rs.map Rd.q) = some r) (hu : runRank n 0 0 ((rs.set a (zrow n)).map Rd.q) = some u) : u ≤ r ∧ r ≤ u + 1 ∧ u < n := by
  have S' := h.set (a := a) (zrow_R n) (zrow_bits n)
  have hl := h.len
  refine ⟨rank_mono hr hu h.lenA h.X S'.lenA S'.X (fun x hx k hk => ?_), rank_mono1 (z := (rs.map Rd.q).getD a []) hu hr S'.lenA S'.X h.lenA h.X (fun x hx hz k hk => ?_), ?_⟩
  · rw [S'.X] at hk
    rw [q_set (by omega)]
    by_cases e : k = a
    · rw [if_pos e]
      exact solL_zero (dotN_zero (fun j hj => zrow_q hj))
    · rw [if_neg e]
      exact hx k (by rw [h.X]; exact hk)
  · rw [h.X] at hk
    by_cases e : k = a
    · subst e
      exact solL_zero hz
    · have := hx k (by rw [S'.X]; exact hk)
      rwa [q_set (by omega), if_neg e] at this
  · obtain ⟨k, Y, hf⟩ := S'.free
    obtain ⟨x, ⟨j, hj, hxj⟩, hs⟩ := lack_ker (X := (rs.set a (zrow n)).map Rd.q) (n := n) (a := a) S'.X ha (.inl (fun j hj => by rw [q_set (by omega), if_pos rfl]; exact zrow_q hj))
    exact rank_less hu hf S'.lenA S'.X hs hj hxj
theorem Sml.hom_rank (h : Sml rs n) {r s : Nat} (hr : runRank n 0 0 (rs.map Rd.q) = some r) (hs : runRank n 0 0 ((Go.Proofs.Ytlbjaimgoiimgaa.hom rs).map Rd.q) = some s) : s = r :=
  (h.hom_same.rank h.lenA h.hom.lenA h.X (Nat.le_refl _) (by omega) hr hs).symm
theorem Sml.full (_h : Sml rs n) {r k : Nat} {Y : List (List Rat)} (hr : runRank n 0 0 (rs.map Rd.q) = some r) (hf : runFree n 0 (rs.map Rd.q) = some (k, Y)) : r = n ↔ k = n := rank_free hr hf (by omega)
end

end Go.Proofs.Ytlbjaimgoiimgaa

namespace Go.Proofs.Ytlbjaimgoiimgaa
open Go.RowKit

theorem OwnF.fr {w w' : World} {B : Nat} {v : Value} {fs : List Fc} {S : Nat → Prop} (h : OwnF w B v fs) (hf : Fr S w w') (hS : ∀ b, S b → b < B) : OwnF w' B v fs := by
  refine ⟨h.1, ?_⟩
  rcases h.2 with h0 | ⟨g, cap, cur, hv, hb, hg, h1, h2, h3, h4⟩
  · exact .inl h0
  · refine .inr ⟨g, cap, cur, hv, hb, (hf.2.2.2.2 g (Array.getElem?_eq_some_iff.1 hg).1 (fun hs => ?_)).trans hg, h1, h2, h3, h4⟩
    have := hS g hs
    omega
theorem OutJ.fr {T S : Nat → Prop} {w w' : World} {B : Nat} {vo : Value} {fs : List Fc} {xs : List Rat} (h : OutJ T w B vo fs xs) (hf : Fr S w w') (hS : ∀ b, S b → T b ∧ b < B) : OutJ T w' B vo fs xs :=
  ⟨h.own.fr hf (fun b hb => (hS b hb).2), h.len, fun k hk => (h.q k hk).fr (hf.more (fun b hb => .inr (hS b hb).1))⟩

/-- What the loops of times and plus have. -/
structure TmI (w wr : World) (G2 G3 B : Nat) (vo : Value) (fs : List Fc) (xs : List Rat) : Prop where
  bl : Below w.heap.size w wr
  k2 : Blk wr G2 45 #[.slice none 0 0, .int .i64 0, .slice none 0 0, .int .i64 0, .slice none 0 0]
  k3 : Blk wr G3 45 #[vo, .int .i64 0, .slice none 0 0, .int .i64 0, .slice none 0 0]
  out : OutJ (fun b => b < w.heap.size ∨ b = G2 ∨ b = G3) wr B vo fs xs
  g2 : w.heap.size ≤ G2
  g3 : G2 < G3
  gB : G3 < B
  hB : B ≤ wr.heap.size
theorem TmI.below {w wr wq : World} {G2 G3 B : Nat} {vo : Value} {fs : List Fc} {xs : List Rat} (h : TmI w wr G2 G3 B vo fs xs) (hb : Below wr.heap.size wr wq) : TmI w wq G2 G3 B vo fs xs :=
  ⟨h.bl.trans (hb.mono h.bl.size), h.k2.below hb h.k2.lt, h.k3.below hb h.k3.lt, h.out.below hb, h.g2, h.g3, h.gB, by have := h.hB; have := hb.size; omega⟩
/-- The blocks that may be written while the next number is made. -/
def TmI.S (w : World) (G2 G3 : Nat) (vo : Value) (b : Nat) : Prop := some b = vo.ownBlock ∨ (b < w.heap.size ∨ b = G2 ∨ b = G3)
theorem TmI.S_lt {w wr : World} {G2 G3 B : Nat} {vo : Value} {fs : List Fc} {xs : List Rat} (h : TmI w wr G2 G3 B vo fs xs) {b : Nat} (hb : TmI.S w G2 G3 vo b) : b < wr.heap.size := by
  have h1 := h.g3
  have h2 := h.gB
  have h3 := h.hB
  have h4 := h.bl.size
  rcases hb with hb | hb | hb | hb
  · exact (h.out.own.own_lt hb).2
  · omega
  · omega
  · omega
theorem TmI.next {w wr w5 : World} {G2 G3 B : Nat} {vo v5 : Value} {fs : List Fc} {xs : List Rat} {f : Fc} {x : Rat} (h : TmI w wr G2 G3 B vo fs xs) (hf : FA (TmI.S w G2 G3 vo) wr f x)
    (hown : OwnF w5 B v5 (fs ++ [f])) (hg : (wr.alloc (.cells #[.int .i64 f.s, .slice f.A f.n f.c, .int .i64 f.s', .slice f.A' f.n' f.c'] 40)).grownBy w5 vo.ownBlock) (hat : v5.ownBlock = vo.ownBlock ∨ v5.ownBlock = some (wr.alloc (.cells #[.int .i64 f.s, .slice f.A f.n f.c, .int .i64 f.s', .slice f.A' f.n' f.c'] 40)).heap.size) :
    w5.cell? ⟨G3, 0, none⟩ = some vo ∧ w5.frozen? ⟨G3, 0, none⟩ = false ∧ G3 < w5.heap.size ∧ TmI w (w5.setCell ⟨G3, 0, none⟩ v5) G2 G3 B v5 (fs ++ [f]) (xs ++ [x]) := by
  have hbA : Below wr.heap.size wr (wr.alloc (.cells #[.int .i64 f.s, .slice f.A f.n f.c, .int .i64 f.s', .slice f.A' f.n' f.c'] 40)) := (Below.refl _ _).alloc (Nat.le_refl _) _
  have hown1 := h.out.own.below hbA
  have hb5 : Below B wr w5 := grown_belF ⟨hbA.os, hbA.tape, hbA.output, hbA.size, fun k hk => hbA.block k (by have := h.hB; omega)⟩ hown1 hg h.hB
  have hlt := h.hB
  have k2 : Blk w5 G2 _ _ := (hb5.block G2 (by have := h.g3; have := h.gB; omega)).trans h.k2
  have k3 : Blk w5 G3 _ _ := (hb5.block G3 h.gB).trans h.k3
  have hout := h.out.step hbA hown hg hat (hf.below hbA)
  have hF := fr_set G3 0 w5 v5
  have k3' : Blk (w5.setCell ⟨G3, 0, none⟩ v5) G3 45 #[v5, .int .i64 0, .slice none 0 0, .int .i64 0, .slice none 0 0] := by simpa using k3.set_ 0 v5
  refine ⟨by simpa using k3.cell 0, k3.frozen 0, k3.lt, ⟨?_, k2.fr hF (by have := h.g3; omega), k3', hout.far hF (.inr (.inr rfl)) h.gB, h.g2, h.g3, h.gB, by have := hb5.size; have := hF.size; omega⟩⟩
  have hw5 : Below w.heap.size w w5 := h.bl.trans ⟨hb5.os, hb5.tape, hb5.output, hb5.size, fun k hk => hb5.block k (by have := h.g2; have := h.g3; have := h.gB; omega)⟩
  exact hw5.trans (hF.below (fun b hb => by subst hb; have := h.g2; have := h.g3; omega) hw5.size)

set_option maxRecDepth 100000 in
set_option maxHeartbeats 8000000 in
theorem ltimes_any {A : Option Addr} {n c : Nat} {us : List Fd} {f g : Fc} {v x : Rat} (w : World) (ha : FdsAt w A us) (han : us.length = n) (hn : n ≤ 100) (hra : ∀ k, k < n → (us.getD k dnil).R) (hv : FA (fun _ => False) w f v) (hx : FA (fun _ => False) w g x)
    (hok : ∀ k, k < n → okMul (us.getD k dnil).q x) (hokv : okMul v x) :
    Calls Try.prog 19 #[.agg #[.slice A n c, .int .i64 f.s, .slice f.A f.n f.c, .int .i64 f.s', .slice f.A' f.n' f.c'], .agg #[.int .i64 g.s, .slice g.A g.n g.c, .int .i64 g.s', .slice g.A' g.n' g.c']] w fun e w' => ∃ r : Rw, e = .returned (.tuple #[r.v, .bool true]) ∧
      Hid (RwS (fun b => b < w.heap.size) w' r ⟨((List.range n).map fun k => (us.getD k dnil).q * x).map Fd.of, Fd.of (v * x)⟩) ∧ Below w.heap.size w w' := by
  have HU := Lib.hid ha; clear ha
  have HUN := Lib.hid han; clear han
  have HRA := Lib.hid hra; clear hra
  have HV := Lib.hid hv; clear hv
  have HX := Lib.hid hx; clear hx
  have HOK := Lib.hid hok; clear hok
  have HOKV := Lib.hid hokv; clear hokv
  obtain ⟨s1, A1, n1, c1, s2, A2, n2, c2⟩ := f
  obtain ⟨t1, B1, m1, d1, t2, B2, m2, d2⟩ := g
  simp only
  go_enter Try.func19, Try.ntmps19
  go_wp2_with fail
  have hA1 : Below w.heap.size w (w.alloc (.cells #[.slice A n c, .int .i64 s1, .slice A1 n1 c1, .int .i64 s2, .slice A2 n2 c2] 45)) := (Below.refl _ _).alloc (Nat.le_refl _) _
  have kx := Blk.new w 45 #[.slice A n c, .int .i64 s1, .slice A1 n1 c1, .int .i64 s2, .slice A2 n2 c2]
  obtain ⟨W1, hW1⟩ : ∃ W, w.alloc (.cells #[.slice A n c, .int .i64 s1, .slice A1 n1 c1, .int .i64 s2, .slice A2 n2 c2] 45) = W := ⟨_, rfl⟩
  have hs1 : W1.heap.size = w.heap.size + 1 := by rw [← hW1, World.size_alloc]
  rw [hW1] at hA1 kx ⊢
  clear hW1
  have hA2 : Below W1.heap.size W1 (W1.alloc (.cells #[.int .i64 t1, .slice B1 m1 d1, .int .i64 t2, .slice B2 m2 d2] 40)) := (Below.refl _ _).alloc (Nat.le_refl _) _
  have kf := Blk.new W1 40 #[.int .i64 t1, .slice B1 m1 d1, .int .i64 t2, .slice B2 m2 d2]
  replace kx := kx.below hA2 kx.lt
  obtain ⟨W2, hW2⟩ : ∃ W, W1.alloc (.cells #[.int .i64 t1, .slice B1 m1 d1, .int .i64 t2, .slice B2 m2 d2] 40) = W := ⟨_, rfl⟩
  have hs2 : W2.heap.size = w.heap.size + 1 + 1 := by rw [← hW2, World.size_alloc, hs1]
  rw [hW2] at hA2 kx kf ⊢
  clear hW2
  rw [hs1] at kf
  have hAW := hA1.trans (hA2.mono hA1.size)
  have hA3 : Below W2.heap.size W2 (W2.alloc (.cells #[.slice none 0 0, .int .i64 0, .slice none 0 0, .int .i64 0, .slice none 0 0] 45)) := (Below.refl _ _).alloc (Nat.le_refl _) _
  have hA4 := hA3.alloc hA3.size (.cells #[.slice none 0 0, .int .i64 0, .slice none 0 0, .int .i64 0, .slice none 0 0] 45)
  have k2 := (Blk.new W2 45 #[.slice none 0 0, .int .i64 0, .slice none 0 0, .int .i64 0, .slice none 0 0]).alloc (.cells #[.slice none 0 0, .int .i64 0, .slice none 0 0, .int .i64 0, .slice none 0 0] 45)
  have k3 := Blk.new (W2.alloc (.cells #[.slice none 0 0, .int .i64 0, .slice none 0 0, .int .i64 0, .slice none 0 0] 45)) 45 #[.slice none 0 0, .int .i64 0, .slice none 0 0, .int .i64 0, .slice none 0 0]
  rw [World.size_alloc] at k3
  obtain ⟨W4, hW4⟩ : ∃ W, (W2.alloc (.cells #[.slice none 0 0, .int .i64 0, .slice none 0 0, .int .i64 0, .slice none 0 0] 45)).alloc (.cells #[.slice none 0 0, .int .i64 0, .slice none 0 0, .int .i64 0, .slice none 0 0] 45) = W := ⟨_, rfl⟩
  rw [hW4] at hA4 k2 k3 ⊢
  clear hW4 hA3
  obtain ⟨G2, hG2⟩ : ∃ G, w.heap.size + 1 + 1 = G := ⟨_, rfl⟩
  have hs2' := hs2
  rw [hG2] at hs2'
  rw [hs2'] at k2 k3
  obtain ⟨B, hB⟩ : ∃ B, W4.heap.size = B := ⟨_, rfl⟩
  have HST := Lib.hid (show TmI W2 W4 G2 (G2 + 1) B (.slice none 0 0) [] [] from ⟨hA4, k2, k3, OutJ.nil _ _ _, Nat.le_of_eq hs2', Nat.lt_succ_self _, by rw [← hB]; exact k3.lt, by rw [hB]; exact Nat.le_refl _⟩)
  have HSZ := Lib.hid (And.intro hs2 (And.intro hG2 hs1))
  have HK := Lib.hid (And.intro kx (And.intro kf hAW))
  rw [hG2]
  clear hA1 hA2 hA4 k2 k3 kx kf hAW hB hG2 hs1 hs2 hs2'
  go_loopw [7] (fun iv wr => ∃ (i : Nat) (Ao : Option Addr) (no co : Nat) (fs : List Fc), i ≤ n ∧ iv = .int .i64 i ∧ Hid (TmI W2 wr G2 (G2 + 1) B (.slice Ao no co) fs ((List.range i).map fun k => (us.getD k dnil).q * x))) (fun iv _ => n - (intOf iv).toNat)
  case atStart => exact ⟨0, _, _, _, [], Nat.zero_le _, rfl, HST⟩
  case round =>
    obtain ⟨i, Ao, no, co, fs, hi, rfl, hI⟩ := hrel
    clear HST
    have hfl9 := hI.out.out.len
    rw [List.length_map, List.length_range] at hfl9
    have HFL := Lib.hid hfl9; clear hfl9
    have kx := HK.out.1.below hI.out.bl (by have := HSZ.out; omega)
    have kf := HK.out.2.1.below hI.out.bl (by have := HSZ.out; omega)
    have hbw := HK.out.2.2.trans (hI.out.bl.mono HK.out.2.2.size)
    by_cases hgo : i < n
    · obtain ⟨ba, offa, fa, hA, hBa, c0, c1', c2', c3, hfa⟩ := (HU.out.below hbw) i (by rw [HUN.out]; exact hgo)
      subst hA
      have hra := HRA.out i hgo
      obtain ⟨s3, A3, n3, e3, s4, A4, n4, e4⟩ := fa
      simp only at c0 c1' c2' c3
      have haF := fd_fa hfa hra
      have hxF := HX.out.below hbw
      have hom := HOK.out i hgo
      obtain ⟨qa, hqae⟩ : ∃ q, (us.getD i dnil).q = q := ⟨_, rfl⟩
      rw [hqae] at haF hom
      have HQA := Lib.hid hqae; clear hqae
      have hi01 : ((i : Nat) : Int) < (n : Int) := by omega
      have e0 : ∀ W' : World, Below wr.heap.size wr W' → W'.cell? ⟨w.heap.size, 0, none⟩ = some (.slice (some ⟨ba, offa, none⟩) n c) ∧ W'.cell? ⟨ba, offa + i * 4, none⟩ = some (.int .i64 s3) ∧ W'.cell? ⟨ba, offa + i * 4 + 1, none⟩ = some (.slice A3 n3 e3) ∧ W'.cell? ⟨ba, offa + i * 4 + 2, none⟩ = some (.int .i64 s4) ∧ W'.cell? ⟨ba, offa + i * 4 + 3, none⟩ = some (.slice A4 n4 e4) ∧ W'.cell? ⟨w.heap.size + 1, 0, none⟩ = some (.int .i64 t1) ∧ W'.cell? ⟨w.heap.size + 1, 1, none⟩ = some (.slice B1 m1 d1) ∧ W'.cell? ⟨w.heap.size + 1, 2, none⟩ = some (.int .i64 t2) ∧ W'.cell? ⟨w.heap.size + 1, 3, none⟩ = some (.slice B2 m2 d2) ∧ Below wr.heap.size wr W' := fun W' hW =>
        ⟨(kx.below hW kx.lt).cell 0, (hW.cell (p := ⟨ba, _, none⟩) hBa).trans c0, (hW.cell (p := ⟨ba, _, none⟩) hBa).trans c1', (hW.cell (p := ⟨ba, _, none⟩) hBa).trans c2', (hW.cell (p := ⟨ba, _, none⟩) hBa).trans c3, (kf.below hW kf.lt).cell 0, (kf.below hW kf.lt).cell 1, (kf.below hW kf.lt).cell 2, (kf.below hW kf.lt).cell 3, hW⟩
      have E0 := Lib.hid e0; clear e0
      have hB00 : Below wr.heap.size wr wr.drew := (Below.refl _ _).drew
      have HSB := Lib.hid (fun (W' : World) (hb : Below wr.heap.size wr W') => fmul_y (haF.below hb) (hxF.below hb) hom)
      have HSW := Lib.hid (fun b (hb : TmI.S W2 G2 (G2 + 1) (.slice Ao no co) b) => hI.out.S_lt hb)
      have kx0 := kx.cell 0
      simp at kx0
      go_upto_region 5 with fail
      clear c0 c1' c2' c3 kx kf hfa haF hxF hra hbw kx0
      go_cut [8, 9] from 19 to 28 (fun p e wx => ∃ (G8 : Nat) (r1 : Int) (C1 : Option Addr) (k1 l1 : Nat) (r2 : Int) (C2 : Option Addr) (k2 l2 : Nat), p = .pointer (some ⟨G8, 0, none⟩) ∧ e = .int .i64 0 ∧ Blk wx G8 40 #[.int .i64 r1, .slice C1 k1 l1, .int .i64 r2, .slice C2 k2 l2] ∧ FA (TmI.S W2 G2 (G2 + 1) (.slice Ao no co)) wx ⟨r1, C1, k1, l1, r2, C2, k2, l2⟩ (qa * x) ∧ Below wr.heap.size wr wx)
      case first =>
        go_region_held3 (fun W' => W'.cell? ⟨w.heap.size, 0, none⟩ = some (.slice (some ⟨ba, offa, none⟩) n c) ∧ W'.cell? ⟨ba, offa + i * 4, none⟩ = some (.int .i64 s3) ∧ W'.cell? ⟨ba, offa + i * 4 + 1, none⟩ = some (.slice A3 n3 e3) ∧ W'.cell? ⟨ba, offa + i * 4 + 2, none⟩ = some (.int .i64 s4) ∧ W'.cell? ⟨ba, offa + i * 4 + 3, none⟩ = some (.slice A4 n4 e4) ∧ W'.cell? ⟨w.heap.size + 1, 0, none⟩ = some (.int .i64 t1) ∧ W'.cell? ⟨w.heap.size + 1, 1, none⟩ = some (.slice B1 m1 d1) ∧ W'.cell? ⟨w.heap.size + 1, 2, none⟩ = some (.int .i64 t2) ∧ W'.cell? ⟨w.heap.size + 1, 3, none⟩ = some (.slice B2 m2 d2) ∧ Below wr.heap.size wr W')
          (first | exact E0.out _ (below_st4 hB4 (Nat.le_refl _) _ _ _ _) | exact E0.out _ (below_new hB4 _) | exact E0.out _ (below_new hB00 _) | exact E0.out _ (by assumption) | exact E0.out _ ⟨rfl, rfl, rfl, Nat.le_refl _, fun _ _ => rfl⟩)
          (first
            | (go_at_call 36; (first | refine (HSB.out _ hB00).mono ?_ | refine (HSB.out _ (below_new hB00 _)).mono ?_); rintro e w4 ⟨⟨r1, C1, k1, l1, r2, C2, k2, l2⟩, rfl, hro, hrb, hb4⟩; have hB4 : Below wr.heap.size wr w4 := (by first | exact ⟨hb4.os, hb4.tape, hb4.output, hb4.size, hb4.block⟩ | exact (below_new hB00 _).trans (hb4.mono (below_new hB00 _).size)); (try (have hk4 : Blk w4 wr.heap.size 40 #[.int .i64 0, .slice none 0 0, .int .i64 0, .slice none 0 0] := blk_run4 (b := wr.drew) hb4; have hlt4 := hk4.lt; have z0 := hk4.cell 0; have z1 := hk4.cell 1; have z2 := hk4.cell 2; have z3 := hk4.cell 3; have y0 := hk4.frozen 0; have y1 := hk4.frozen 1; have y2 := hk4.frozen 2; have y3 := hk4.frozen 3))))
        all_goals
          go_wp2_with fail
          go_meet
          first
            | exact ⟨_, r1, C1, k1, l1, r2, C2, k2, l2, rfl, rfl, hk4.set4 _ _ _ _, fa_st (f := ⟨r1, C1, k1, l1, r2, C2, k2, l2⟩) hk4 hro (by simp) HSW.out (by first | exact hB00.size | exact (below_new hB00 _).size) hrb, below_st4 hB4 (Nat.le_refl _) _ _ _ _⟩
            | exact ⟨_, r1, C1, k1, l1, r2, C2, k2, l2, rfl, rfl, Blk.new _ _ _, fa_new (f := ⟨r1, C1, k1, l1, r2, C2, k2, l2⟩) hro HSW.out (by first | exact hB00.size | exact (below_new hB00 _).size) hrb _, below_new hB4 _⟩
      obtain ⟨G8, r1, C1, k1, l1, r2, C2, k2, l2, rfl, rfl, k8, hq8, hb5⟩ := hcut
      clear E0 hB00 HSB HSW
      have HI5 := Lib.hid (hI.out.below hb5)
      have HQ8 := Lib.hid hq8
      clear hI hq8 hb5
      have q0 := k8.cell 0
      have q1 := k8.cell 1
      have q2 := k8.cell 2
      have q3 := k8.cell 3
      have a0 := HI5.out.k3.cell 0
      simp at q0 q1 q2 q3 a0
      go_wp2_with (at_builtin; refine appF_at rfl (.tmp 33) (.tmp 35) rfl B (.slice Ao no co) fs [⟨r1, C1, k1, l1, r2, C2, k2, l2⟩] (some ⟨wc.heap.size, 0, none⟩) 1 1 rfl (HI5.out.out.own.below ((Below.refl _ _).alloc (Nat.le_refl _) _)) rfl rfl (lit_fc wc ⟨r1, C1, k1, l1, r2, C2, k2, l2⟩) (by rw [HFL.out]; omega) (by have := HI5.out.hB; simp; omega) ?_; intro v5 w5 hown5 hg5 hat5; obtain ⟨A5, n5, c5, hv5⟩ : ∃ A n c, v5 = .slice A n c := ⟨_, _, _, hown5.at_.choose_spec.choose_spec.1⟩; subst hv5; obtain ⟨j0, j1, j2, j3⟩ := TmI.next HI5.out HQ8.out hown5 hg5 hat5)
      have hnx : Hid (TmI W2 (w5.setCell ⟨G2 + 1, 0, none⟩ (.slice A5 n5 c5)) G2 (G2 + 1) B (.slice A5 n5 c5) (fs ++ [⟨r1, C1, k1, l1, r2, C2, k2, l2⟩]) ((List.range (i + 1)).map fun k => (us.getD k dnil).q * x)) := Lib.hid (by
        rw [List.range_succ, List.map_append, List.map_cons, List.map_nil, HQA.out]
        exact j3)
      clear j0 j1 j2 j3 hown5 hg5 hat5 HI5 HQ8 q0 q1 q2 q3 a0 k8
      go_wp2_with fail
      go_roundw
      case rel => exact ⟨i + 1, _, _, _, _, by omega, rfl, hnx⟩
      case measure => simp [intOf]; omega
    · have : i = n := by omega
      subst this
      obtain ⟨Ao', co', hvo, hq⟩ := hI.out.out.done
      rw [List.length_map, List.length_range] at hvo
      injection hvo with e1 e2 e3
      subst e1; subst e2; subst e3
      clear hq
      have hvF := HV.out.below hbw
      have hxF := HX.out.below hbw
      have e0 : ∀ W' : World, Below wr.heap.size wr W' → W'.cell? ⟨w.heap.size, 1, none⟩ = some (.int .i64 s1) ∧ W'.cell? ⟨w.heap.size, 2, none⟩ = some (.slice A1 n1 c1) ∧ W'.cell? ⟨w.heap.size, 3, none⟩ = some (.int .i64 s2) ∧ W'.cell? ⟨w.heap.size, 4, none⟩ = some (.slice A2 n2 c2) ∧ W'.cell? ⟨w.heap.size + 1, 0, none⟩ = some (.int .i64 t1) ∧ W'.cell? ⟨w.heap.size + 1, 1, none⟩ = some (.slice B1 m1 d1) ∧ W'.cell? ⟨w.heap.size + 1, 2, none⟩ = some (.int .i64 t2) ∧ W'.cell? ⟨w.heap.size + 1, 3, none⟩ = some (.slice B2 m2 d2) ∧ Below wr.heap.size wr W' := fun W' hW =>
        ⟨(kx.below hW kx.lt).cell 1, (kx.below hW kx.lt).cell 2, (kx.below hW kx.lt).cell 3, (kx.below hW kx.lt).cell 4, (kf.below hW kf.lt).cell 0, (kf.below hW kf.lt).cell 1, (kf.below hW kf.lt).cell 2, (kf.below hW kf.lt).cell 3, hW⟩
      have E0 := Lib.hid e0; clear e0
      have hB00 : Below wr.heap.size wr wr.drew := (Below.refl _ _).drew
      have HSB := Lib.hid (fun (W' : World) (hb : Below wr.heap.size wr W') => fmul_y (hvF.below hb) (hxF.below hb) HOKV.out)
      have HSW := Lib.hid (fun b (hb : TmI.S W2 G2 (G2 + 1) (.slice Ao no co) b) => hI.out.S_lt hb)
      have kx0 := kx.cell 0
      simp at kx0
      have HBW := Lib.hid hbw
      obtain ⟨g1, g2, g3, g4, g5, g6, g7, g8, -⟩ := E0.out _ (Below.refl _ _)
      clear kx kf hvF hxF hbw
      go_wp2_with fail
      (with_reducible refine (HSB.out _ (Below.refl _ _)).mono ?_)
      rintro e w4 ⟨⟨r1, C1, k1, l1, r2, C2, k2, l2⟩, rfl, hro, hrb, hb4⟩
      have hB4 : Below wr.heap.size wr w4 := ⟨hb4.os, hb4.tape, hb4.output, hb4.size, hb4.block⟩
      have hb5 := below_new hB4 (.cells #[.int .i64 r1, .slice C1 k1 l1, .int .i64 r2, .slice C2 k2 l2] 40)
      have hq8 := fa_new (f := ⟨r1, C1, k1, l1, r2, C2, k2, l2⟩) hro HSW.out (Nat.le_refl _) hrb (.cells #[.int .i64 r1, .slice C1 k1 l1, .int .i64 r2, .slice C2 k2 l2] 40)
      have k8 := Blk.new w4 40 #[.int .i64 r1, .slice C1 k1 l1, .int .i64 r2, .slice C2 k2 l2]
      clear g1 g2 g3 g4 g5 g6 g7 g8 kx0 hB4 hb4 hro hrb
      go_upto_region 10 with fail
      obtain ⟨wc, hwc⟩ : ∃ W, w4.alloc (.cells #[.int .i64 r1, .slice C1 k1 l1, .int .i64 r2, .slice C2 k2 l2] 40) = W := ⟨_, rfl⟩
      obtain ⟨G8, hG8⟩ : ∃ G, w4.heap.size = G := ⟨_, rfl⟩
      rw [hwc] at hb5 hq8 k8 ⊢
      rw [hG8] at k8 ⊢
      clear hwc hG8
      clear E0 hB00 HSB HSW
      have hI5 := hI.out.below hb5
      have hbl5 := HBW.out.trans (hb5.mono HBW.out.size)
      have hfr1 := fr_st4 (G2 + 1) wc (.int .i64 r1) (.slice C1 k1 l1) (.int .i64 r2) (.slice C2 k2 l2)
      have J5 := hI5.out.far hfr1 (.inr (.inr rfl)) hI5.gB
      have hfr2 := fr_st5 G2 ((((wc.setCell ⟨G2 + 1, 1, none⟩ (.int .i64 r1)).setCell ⟨G2 + 1, 2, none⟩ (.slice C1 k1 l1)).setCell ⟨G2 + 1, 3, none⟩ (.int .i64 r2)).setCell ⟨G2 + 1, 4, none⟩ (.slice C2 k2 l2)) (.slice Ao no co) (.int .i64 r1) (.slice C1 k1 l1) (.int .i64 r2) (.slice C2 k2 l2)
      have J6 := J5.far hfr2 (.inr (.inl rfl)) (by have := hI5.gB; omega)
      have hf6 := (hq8.fr (hfr1.more (fun b hb => .inr (.inr (.inr hb))))).fr (hfr2.more (fun b hb => .inr (.inr (.inl hb))))
      have hgW : w.heap.size ≤ G2 := by have := HSZ.out; omega
      have hb6 : Below w.heap.size w _ := hbl5.trans (((hfr1.more (T := fun b => w.heap.size ≤ b) (fun b hb => by subst hb; omega)).tr (hfr2.more (fun b hb => by subst hb; exact hgW))).below (fun b hb => hb) hbl5.size)
      have HF := Lib.hid (And.intro hb6 (And.intro J6 hf6))
      have kk2 := hI5.k2
      have kk3 := hI5.k3
      have HG := Lib.hid (And.intro hI5.g2 hI5.gB)
      have p0 := k8.cell 0
      have p1 := k8.cell 1
      have p2 := k8.cell 2
      have p3 := k8.cell 3
      have q0 := kk3.cell 0
      have q1 := kk3.cell 1
      have q2 := kk3.cell 2
      have q3 := kk3.cell 3
      have q4 := kk3.cell 4
      have v0 := kk2.cell 0
      have v1 := kk2.cell 1
      have v2 := kk2.cell 2
      have v3 := kk2.cell 3
      have v4 := kk2.cell 4
      simp at p0 p1 p2 p3 q0 q1 q2 q3 q4 v0 v1 v2 v3 v4
      have x1 := kk3.frozen 1
      have x2 := kk3.frozen 2
      have x3 := kk3.frozen 3
      have x4 := kk3.frozen 4
      have y0 := kk2.frozen 0
      have y1 := kk2.frozen 1
      have y2 := kk2.frozen 2
      have y3 := kk2.frozen 3
      have y4 := kk2.frozen 4
      have hl2 := kk2.lt
      have hl3 := kk3.lt
      clear hb6 J6 hf6 hfr1 hfr2 J5 hI5 hbl5 hI k8 hq8 hb5 kk2 kk3
      go_wp2_with fail
      refine bodyPost_ret (v := .tuple #[.agg #[.slice Ao no co, .int .i64 r1, .slice C1 k1 l1, .int .i64 r2, .slice C2 k2 l2], .bool true]) (by simp [results, Try.results19, go_sem, v0, v1, v2, v3, v4]) rfl ?_
      refine ⟨⟨Ao, no, co, ⟨r1, C1, k1, l1, r2, C2, k2, l2⟩⟩, rfl, Lib.hid (fun w9 h9 => ?_), HF.out.1⟩
      have h8 : ∀ b, b < w.heap.size → (b < W2.heap.size ∨ b = G2 ∨ b = G2 + 1) ∧ b < B := fun b hb => by have h1 := HSZ.out; have h2 := HG.out; omega
      have hj := (HF.out.2.1.fr h9 h8).qs
      have hv9 := (HF.out.2.2.fr (h9.more (fun b hb => .inr (h8 b hb).1))).is
      exact ⟨by simp, by simp; omega, hj.fds, hv9⟩

end Go.Proofs.Ytlbjaimgoiimgaa

namespace Go.Proofs.Ytlbjaimgoiimgaa
open Go.RowKit

theorem okZ {x : Rat} (h : Bt x 20 20) : okMul x ((0 : Int) : Rat) := by
  have h0 : Bt ((0 : Int) : Rat) 1 1 := ⟨by decide, by decide⟩
  exact okMul_of h h0 (by decide) (by decide)

open Classical in
set_option maxRecDepth 100000 in
set_option maxHeartbeats 16000000 in
theorem rank_law_any {A : Option Addr} {m cap i1 i2 : Nat} {rs : List Rd} (w : World) (h : RdsL w A rs) (hm : rs.length = m) (hi1 : i1 < 256) (hi2 : i2 < 256) :
    Calls Try.prog 6 #[.slice A m cap, .int .u8 i1, .int .u8 i2] w fun e w' => e = .returned (.bool true) ∧ Below w.heap.size w w' := by
  have HDL := Lib.hid h; clear h
  have HM := Lib.hid hm; clear hm
  go_enter Try.func6, Try.ntmps6
  go_wp2_with fail
  (with_reducible refine (small_any w).mono ?_)
  rintro e u1 ⟨rfl, hT⟩
  go_wp2_with fail
  (with_reducible refine (fewL_any (N := 3) (d := 1) _ (HDL.out.below hT) HM.out (by decide) (by decide)).mono ?_)
  rintro e u2 ⟨b, rfl, hb2, hbt⟩
  replace hT := hT.trans (hb2.mono hT.size)
  clear hb2
  cases b with
  | false =>
    clear hbt
    go_wp2_with fail
    go_ret
    exact ⟨rfl, hT⟩
  | true =>
  have hm5 : m ≤ 3 := by have := (hbt rfl).1; omega
  have HD := Lib.hid (HDL.out.tight (fun k hk => by have := ((hbt rfl).2 k (by rw [← HM.out]; exact hk)).1; omega))
  have HFW := Lib.hid (fun k hk => ((hbt rfl).2 k hk).2)
  clear HDL
  clear hbt
  obtain ⟨bR, hbR⟩ : ∃ b, decide (SysR rs (m : Int)) = b := ⟨_, rfl⟩
  have HBR := Lib.hid (show bR = true ↔ SysR rs (m : Int) by rw [← hbR]; exact decide_eq_true_iff)
  clear hbR
  go_wp2_with fail
  (with_reducible refine (lright_any (n := (m : Int)) _ (HD.out.below hT) HM.out (by omega) bR HBR.out).mono ?_)
  rintro e v1 ⟨rfl, hb4⟩
  replace hT := hT.trans (hb4.mono hT.size)
  clear hb4
  cases bR with
  | false =>
    go_wp2_with fail
    go_ret
    exact ⟨rfl, hT⟩
  | true =>
  have HS := Lib.hid (sml_of (HBR.out.1 rfl) HM.out hm5 HFW.out)
  clear HBR HFW
  obtain ⟨k, Y, hf⟩ := HS.out.free
  have HF := Lib.hid hf; clear hf
  have hkm : k ≤ m := by have := runFree_le HF.out; omega
  obtain ⟨r, hr, hrm⟩ := HS.out.rank
  have HR := Lib.hid hr; clear hr
  obtain ⟨s, hs, hsm⟩ := HS.out.hom.rank
  have hsr := HS.out.hom_rank HR.out hs
  subst hsr
  have HSR := Lib.hid hs; clear hs
  have HFU := Lib.hid (HS.out.full HR.out HF.out)
  go_wp2_with fail
  (with_reducible refine (rank_yes _ (HD.out.below hT) HS.out HR.out).mono ?_)
  rintro e v2 ⟨rfl, hb4⟩
  replace hT := hT.trans (hb4.mono hT.size)
  clear hb4
  by_cases hk : k = m
  · have hrm' : s = m := HFU.out.2 hk
    have hse : ((s : Int) == (m : Int)) = true := by simp; omega
    have hse2 : decide ((m : Int) < (s : Int)) = false := by rw [decide_eq_false_iff_not]; omega
    have hse3 : decide ((s : Int) < 0) = false := by rw [decide_eq_false_iff_not]; omega
    have HF0 := Lib.hid (show runFree m 0 (rs.map Rd.q) = some (m, Y) by rw [← hk]; rw [hk]; have := HF.out; rwa [hk] at this)
    go_wp2_with fail
    (with_reducible refine (solve_yes _ (HD.out.below hT) HS.out HF0.out).mono ?_)
    rintro e v3 ⟨A1, c1, rfl, -, hb4⟩
    replace hT := hT.trans (hb4.mono hT.size)
    clear hb4
    go_wp2_with fail
    (with_reducible refine (kernel_no _ (HD.out.below hT) HS.out HF0.out).mono ?_)
    rintro e v4 ⟨rfl, hb4⟩
    replace hT := hT.trans (hb4.mono hT.size)
    clear hb4
    go_wp2_with fail
    (with_reducible refine (hom_any _ (HD.out.below hT) HM.out (by omega)).mono ?_)
    rintro e v5 ⟨A', c', rfl, hR', hb4⟩
    replace hT := hT.trans (hb4.mono hT.size)
    clear hb4
    go_wp2_with fail
    (with_reducible refine (rank_yes _ hR' HS.out.hom HSR.out).mono ?_)
    rintro e v6 ⟨rfl, hb4⟩
    replace hT := hT.trans (hb4.mono hT.size)
    clear hb4 hR'
    by_cases hm0 : m = 0
    · subst hm0
      have hz : ((0 : Nat) : Int) = 0 := rfl
      go_wp2_with fail
      go_ret
      exact ⟨rfl, hT⟩
    have hm1 : ((m : Int) == 0) = false := by simp; omega
    obtain ⟨a, ha⟩ : ∃ a, i1 % m = a := ⟨_, rfl⟩
    have ham : a < m := by rw [← ha]; exact Nat.mod_lt _ (by omega)
    have haI : (i1 : Int) % (m : Int) = (a : Int) := by rw [← ha]; omega
    obtain ⟨b, hb⟩ : ∃ a, i2 % m = a := ⟨_, rfl⟩
    have hbm : b < m := by rw [← hb]; exact Nat.mod_lt _ (by omega)
    have hbI : (i2 : Int) % (m : Int) = (b : Int) := by rw [← hb]; omega
    clear ha hb
    have hai : ((a : Nat) : Int) < (m : Int) := by omega
    have hbi : ((b : Nat) : Int) < (m : Int) := by omega
    obtain ⟨rw0, hrl, hRC, hRI⟩ := HD.out.rcs
    have HRC := Lib.hid hRC; clear hRC
    have HRI := Lib.hid hRI; clear hRI
    have HRL := Lib.hid (hrl.trans HM.out); clear hrl
    have HT := Lib.hid hT
    clear hT
    go_upto_region 16 with (at_builtin; refine appR_at rfl (.tmp 109) (.tmp 110) rfl v6.heap.size (.slice (some ⟨v6.heap.size, 0, none⟩) 0 0) [] rw0 A m cap rfl (emptyR v6 (Nat.le_refl _)) rfl HRL.out ((HRC.out.below HT.out).below ((Below.refl _ _).alloc (Nat.le_refl _) _)) (by simp; omega) (by simp) ?_; intro x2 w2 hown2 hg2 hat2; have hB2 : Below v6.heap.size v6 w2 := grown_belR ((Below.refl _ _).alloc (Nat.le_refl _) _) (emptyR v6 (Nat.le_refl _)) hg2 (Nat.le_refl _); obtain ⟨g2, cap2, cur2, hv2, hge2, -, -, -, -⟩ := hown2.blk (by rw [List.nil_append, HRL.out]; omega); rw [List.nil_append] at hown2 hv2; rw [HRL.out] at hv2; subst hv2)
    have hO2 : RowsO w2 v6.heap.size (.slice (some ⟨g2, 0, none⟩) m cap2) rw0 rs := RowsO.copy (by rw [HRL.out, HM.out]) HRI.out (HT.out.trans (hB2.mono HT.out.size)) hown2 HT.out.size
    have HT2 := Lib.hid (HT.out.trans (hB2.mono HT.out.size))
    obtain ⟨bb, ob, hAb, hBb, q0, q1, q2, q3, q4⟩ := (HRC.out.below HT2.out).get (k := b) (by rw [HRL.out]; exact hbm)
    subst hAb
    obtain ⟨⟨z0, z1, z2, z3, z4⟩, zl, zg, zf⟩ := hO2.cells (k := a) (by rw [HRL.out]; exact ham)
    obtain ⟨rb, hrb⟩ : ∃ r, rw0.getD b rwnil = r := ⟨_, rfl⟩
    rw [hrb] at q0 q1 q2 q3 q4
    have hIb := HRI.out b (by rw [HM.out]; exact hbm)
    rw [hrb] at hIb
    have HO3 := Lib.hid (hO2.store (k := a) (r := rb) (d := rs.getD b rnil) HRL.out (RwS.old hIb HT2.out (fun b' e => by injection e with e; have := HT.out.size; omega)))
    have HRB := Lib.hid hrb; clear hrb hIb
    obtain ⟨Ab, nb, cb, ⟨s1, A1', n1, c1', s2, A2', n2, c2'⟩⟩ := rb
    simp only at q0 q1 q2 q3 q4 z0 z1 z2 z3 z4 HO3
    obtain ⟨ra, hra⟩ : ∃ r, rw0.getD a rwnil = r := ⟨_, rfl⟩
    rw [hra] at z0 z1 z2 z3 z4
    clear hra
    have y0 := zf (a * 5)
    have y1 := zf (a * 5 + 1)
    have y2 := zf (a * 5 + 2)
    have y3 := zf (a * 5 + 3)
    have y4 := zf (a * 5 + 4)
    clear zf hown2 hg2 hat2 hO2
    go_upto_region 17 with fail
    have hfr3 := fr_set5 g2 (a * 5) (a * 5 + 1) (a * 5 + 2) (a * 5 + 3) (a * 5 + 4) w2 (.slice Ab nb cb) (.int .i64 s1) (.slice A1' n1 c1') (.int .i64 s2) (.slice A2' n2 c2')
    have hT3 := HT2.out.trans (hfr3.below (B := w.heap.size) (fun b' e => by subst e; have := HT.out.size; omega) HT2.out.size)
    obtain ⟨w3, hw3⟩ : ∃ W, ((((w2.setCell ⟨g2, a * 5, none⟩ (.slice Ab nb cb)).setCell ⟨g2, a * 5 + 1, none⟩ (.int .i64 s1)).setCell ⟨g2, a * 5 + 2, none⟩ (.slice A1' n1 c1')).setCell ⟨g2, a * 5 + 3, none⟩ (.int .i64 s2)).setCell ⟨g2, a * 5 + 4, none⟩ (.slice A2' n2 c2') = W := ⟨_, rfl⟩
    rw [hw3] at HO3 hT3 ⊢
    have HT3 := Lib.hid hT3
    have hg23 := (HO3.out.own.lt).2
    clear hw3 hfr3 hT3 q0 q1 q2 q3 q4 z0 z1 z2 z3 z4 y0 y1 y2 y3 y4 zl zg HT2
    go_upto_region 18 with (at_builtin; refine appR_at rfl (.tmp 119) (.tmp 120) rfl w3.heap.size (.slice (some ⟨w3.heap.size, 0, none⟩) 0 0) [] rw0 (some ⟨bb, ob, none⟩) m cap rfl (emptyR w3 (Nat.le_refl _)) rfl HRL.out ((HRC.out.below HT3.out).below ((Below.refl _ _).alloc (Nat.le_refl _) _)) (by simp; omega) (by simp) ?_; intro x4 w4 hown4 hg4 hat4; have hB4 : Below w3.heap.size w3 w4 := grown_belR ((Below.refl _ _).alloc (Nat.le_refl _) _) (emptyR w3 (Nat.le_refl _)) hg4 (Nat.le_refl _); obtain ⟨g4, cap4, cur4, hv4, hge4, -, -, -, -⟩ := hown4.blk (by rw [List.nil_append, HRL.out]; omega); rw [List.nil_append] at hown4 hv4; rw [HRL.out] at hv4; subst hv4)
    have hO4 := Lib.hid (show RowsO w4 w3.heap.size (.slice (some ⟨g4, 0, none⟩) m cap4) rw0 rs from RowsO.copy (by rw [HRL.out, HM.out]) HRI.out (HT3.out.trans (hB4.mono HT3.out.size)) hown4 HT3.out.size)
    have HT4 := Lib.hid (HT3.out.trans (hB4.mono HT3.out.size))
    have HO34 := Lib.hid (HO3.out.below hB4)
    clear hown4 hg4 hat4 HO3
    obtain ⟨ba, oa, hAa, hBa, q0, q1, q2, q3, q4⟩ := HRC.out.get (k := a) (by rw [HRL.out]; exact ham)
    injection hAa with hAa
    injection hAa with e1 e2
    subst e1; subst e2
    obtain ⟨ra2, hra2⟩ : ∃ r, rw0.getD a rwnil = r := ⟨_, rfl⟩
    rw [hra2] at q0 q1 q2 q3 q4
    have hIa := HRI.out a (by rw [HM.out]; exact ham)
    rw [hra2] at hIa
    have HRA2 := Lib.hid hra2; clear hra2
    obtain ⟨Aa, na, ca, ⟨p1, P1, pn1, pc1, p2, P2, pn2, pc2⟩⟩ := ra2
    simp only at q0 q1 q2 q3 q4
    have hRa := HS.out.R ham
    have hnaE : na = m := by have h1 := hIa.n; have h2 := hRa.1; simp only at h1; omega
    subst hnaE
    have e0 : ∀ W' : World, Below w.heap.size w W' → W'.cell? ⟨bb, ob + a * 5, none⟩ = some (.slice Aa na ca) ∧ W'.cell? ⟨bb, ob + a * 5 + 1, none⟩ = some (.int .i64 p1) ∧ W'.cell? ⟨bb, ob + a * 5 + 2, none⟩ = some (.slice P1 pn1 pc1) ∧ W'.cell? ⟨bb, ob + a * 5 + 3, none⟩ = some (.int .i64 p2) ∧ W'.cell? ⟨bb, ob + a * 5 + 4, none⟩ = some (.slice P2 pn2 pc2) := fun W' hW =>
      ⟨(hW.cell (p := ⟨bb, _, none⟩) hBa).trans q0, (hW.cell (p := ⟨bb, _, none⟩) hBa).trans q1, (hW.cell (p := ⟨bb, _, none⟩) hBa).trans q2, (hW.cell (p := ⟨bb, _, none⟩) hBa).trans q3, (hW.cell (p := ⟨bb, _, none⟩) hBa).trans q4⟩
    have E0 := Lib.hid e0; clear e0
    have HTM := Lib.hid (fun (W' : World) (hW : Below w.heap.size w W') (fz : Fc) (hz : FA (fun _ => False) W' fz ((0 : Int) : Rat)) => ltimes_any (c := ca) (f := ⟨p1, P1, pn1, pc1, p2, P2, pn2, pc2⟩) W' (hIa.a.below hW) hRa.1 (by omega) (fun j hj => hRa.2.1 j hj) ((fd_fa (hIa.below hW).v hRa.2.2).less (fun _ h => h.elim)) hz (fun j hj => okZ ((HS.out.bits a ham).1 j hj)) (okZ (HS.out.bits a ham).2))
    have HZ0 := Lib.hid (fun (W' : World) => lnumber_fr 0 W' (by decide) (by decide) (by decide))
    have hT40 := HT4.out
    have hB00 : Below w.heap.size w w4.drew := hT40.drew
    have hs4 := HT4.out.size
    clear q0 q1 q2 q3 q4 hIa hRa
    have hs3 := HT3.out.size
    have hg4w : w.heap.size ≤ g4 := by omega
    go_region_held3 (fun W' => W'.cell? ⟨bb, ob + a * 5, none⟩ = some (.slice Aa na ca) ∧ W'.cell? ⟨bb, ob + a * 5 + 1, none⟩ = some (.int .i64 p1) ∧ W'.cell? ⟨bb, ob + a * 5 + 2, none⟩ = some (.slice P1 pn1 pc1) ∧ W'.cell? ⟨bb, ob + a * 5 + 3, none⟩ = some (.int .i64 p2) ∧ W'.cell? ⟨bb, ob + a * 5 + 4, none⟩ = some (.slice P2 pn2 pc2))
      (first | with_reducible exact E0.out _ (((((hB6.setCell (p := ⟨g4, _, none⟩) hg4w _).setCell (p := ⟨g4, _, none⟩) hg4w _).setCell (p := ⟨g4, _, none⟩) hg4w _).setCell (p := ⟨g4, _, none⟩) hg4w _).setCell (p := ⟨g4, _, none⟩) hg4w _) | with_reducible exact E0.out _ hB6 | with_reducible exact E0.out _ hB5 | with_reducible exact E0.out _ hB00)
      (first
        | (go_at_call 24; refine (HZ0.out _).mono ?_; rintro e w5 ⟨⟨y1, Y1, yn1, yc1, y2, Y2, yn2, yc2⟩, rfl, hzo, hzr, hb5⟩; have hB5 : Below w.heap.size w w5 := hB00.trans (hb5.mono hB00.size); have hB45 : Below w4.heap.size w4 w5 := ⟨hb5.os, hb5.tape, hb5.output, hb5.size, hb5.block⟩; have hz := FA.own (S := fun _ => False) (f := ⟨y1, Y1, yn1, yc1, y2, Y2, yn2, yc2⟩) hzo (fun _ h => h.elim) hzr)
        | (go_at_call 19; refine (HTM.out _ hB5 ⟨y1, Y1, yn1, yc1, y2, Y2, yn2, yc2⟩ hz).mono ?_; rintro e w6 ⟨⟨A6, n6, c6, ⟨x1, X1, xn1, xc1, x2, X2, xn2, xc2⟩⟩, rfl, hr6, hb6⟩; have hB6 : Below w.heap.size w w6 := hB5.trans (hb6.mono hB5.size); have hB46 : Below w4.heap.size w4 w6 := hB45.trans (hb6.mono hB45.size); obtain ⟨⟨z0, z1, z2, z3, z4⟩, zl, zg, zf⟩ := (hO4.out.below hB46).cells (k := a) (by rw [HRL.out]; exact ham); simp only at z0 z1 z2 z3 z4; have j0 := zf (a * 5); have j1 := zf (a * 5 + 1); have j2 := zf (a * 5 + 2); have j3 := zf (a * 5 + 3); have j4 := zf (a * 5 + 4)))
    all_goals
      have hfr7 := fr_set5 g4 (a * 5) (a * 5 + 1) (a * 5 + 2) (a * 5 + 3) (a * 5 + 4) w6 (.slice A6 n6 c6) (.int .i64 x1) (.slice X1 xn1 xc1) (.int .i64 x2) (.slice X2 xn2 xc2)
      have hT7 := hB6.trans (hfr7.below (B := w.heap.size) (fun b' e => by subst e; exact hg4w) hB6.size)
      have hg2l := (HO34.out.own.lt).2
      have hzr : (⟨((List.range na).map fun k => ((rs.getD a rnil).A.getD k dnil).q * ((0 : Int) : Rat)).map Fd.of, Fd.of ((rs.getD a rnil).v.q * ((0 : Int) : Rat))⟩ : Rd) = zrow na := by
        have e1 : ∀ q : Rat, q * ((0 : Int) : Rat) = 0 := fun q => by
          have : ((0 : Int) : Rat) = 0 := rfl
          rw [this, Rat.mul_zero]
        unfold zrow
        simp only [e1]
      have hO7 := (hO4.out.below hB46).store (k := a) (r := ⟨A6, n6, c6, ⟨x1, X1, xn1, xc1, x2, X2, xn2, xc2⟩⟩) (d := zrow na) HRL.out (fun w9 h9 => by
        rw [← hzr]
        exact hr6.out w9 (h9.more (fun b' e => by injection e with e; have h1 := hO4.out.own.lt; have h2 := hB45.size; omega)))
      have hR2 := ((HO34.out.own.below hB46).other hfr7 (by omega)).rds (ds := rs.set a (rs.getD b rnil)) (by rw [List.length_set, List.length_set, HRL.out, HM.out]) (fun j hj => by
        rw [List.length_set, HM.out] at hj
        rw [set_get (by rw [HM.out]; exact hj)]
        have hj' : j < rw0.length := by rw [HRL.out]; exact hj
        by_cases e : j = a
        · rw [if_pos e, e, getD_set_self (by rw [HRL.out]; exact ham)]
          have h1 := HRI.out b (by rw [HM.out]; exact hbm)
          rw [HRB.out] at h1
          exact h1.below hT7
        · rw [if_neg e, getD_set_ne (Ne.symm e)]
          exact (HRI.out j (by rw [HM.out]; exact hj)).below hT7)
      obtain ⟨w7, hw7⟩ : ∃ W, ((((w6.setCell ⟨g4, a * 5, none⟩ (.slice A6 n6 c6)).setCell ⟨g4, a * 5 + 1, none⟩ (.int .i64 x1)).setCell ⟨g4, a * 5 + 2, none⟩ (.slice X1 xn1 xc1)).setCell ⟨g4, a * 5 + 3, none⟩ (.int .i64 x2)).setCell ⟨g4, a * 5 + 4, none⟩ (.slice X2 xn2 xc2) = W := ⟨_, rfl⟩
      simp only at hO7
      rw [hw7] at hR2 hT7 hO7 ⊢
      have HT7 := Lib.hid hT7
      have HR2 := Lib.hid hR2
      obtain ⟨A7, c7, e7, hR3⟩ := hO7.done
      rw [List.length_set, HM.out] at e7
      injection e7 with e7 _ _
      subst e7
      have HR3 := Lib.hid hR3
      have HS2 := Lib.hid (HS.out.set (a := a) (HS.out.R hbm) (HS.out.bits b hbm))
      have HS3 := Lib.hid (HS.out.set (a := a) (zrow_R na) (zrow_bits na))
      obtain ⟨t, ht, -⟩ := HS2.out.rank
      obtain ⟨u, hu, -⟩ := HS3.out.rank
      obtain ⟨htr, htn⟩ := HS.out.twice ham hbm HR.out ht
      obtain ⟨hur, hru, hun⟩ := HS.out.none ham HR.out hu
      have HT8 := Lib.hid ht
      have HU8 := Lib.hid hu
      clear hw7 hfr7 hT7 hR2 hR3 hO7 hzr hr6 hB6 hB46 hB45 hB5 z0 z1 z2 z3 z4 j0 j1 j2 j3 j4 zl zg zf ht hu
      go_wp2_with fail
      (with_reducible refine (rank_yes _ HR2.out HS2.out HT8.out).mono ?_)
      rintro e w8 ⟨rfl, hb8⟩
      have hT8 := HT7.out.trans (hb8.mono HT7.out.size)
      have HR4 := Lib.hid (HR3.out.below hb8)
      clear hb8
      go_wp2_with fail
      (with_reducible refine (rank_yes _ HR4.out HS3.out HU8.out).mono ?_)
      rintro e w9 ⟨rfl, hb9⟩
      have hT9 := hT8.trans (hb9.mono hT8.size)
      clear hb9
      have g1 : decide ((t : Int) ≤ (s : Int)) = true := decide_eq_true (by omega)
      have g2' : decide ((u : Int) ≤ (s : Int)) = true := decide_eq_true (by omega)
      have g3 : decide ((s : Int) - 1 ≤ (u : Int)) = true := decide_eq_true (by omega)
      have g5 : decide ((u : Int) < (na : Int)) = true := decide_eq_true (by omega)
      by_cases hab : a = b
      · have hab' : ((a : Int) == (b : Int)) = true := by simp [hab]
        clear hab
        go_wp2_with fail
        go_ret
        exact ⟨rfl, hT9⟩
      · have hab' : ((a : Int) == (b : Int)) = false := by simp; omega
        have g7 : decide (t < na) = true := decide_eq_true (htn hab)
        have g6 : decide ((t : Int) < (na : Int)) = true := decide_eq_true (by have := htn hab; omega)
        clear hab htn
        go_wp2_with fail
        go_ret
        exact ⟨rfl, hT9⟩
  · have hrm' : s ≠ m := fun e => hk (HFU.out.1 e)
    have hse : ((s : Int) == (m : Int)) = false := by simp; omega
    have hse2 : decide ((m : Int) < (s : Int)) = false := by rw [decide_eq_false_iff_not]; omega
    have hse3 : decide ((s : Int) < 0) = false := by rw [decide_eq_false_iff_not]; omega
    have hk' : k < m := by omega
    go_wp2_with fail
    (with_reducible refine (solve_no _ (HD.out.below hT) HS.out HF.out hk').mono ?_)
    rintro e v3 ⟨rfl, hb4⟩
    replace hT := hT.trans (hb4.mono hT.size)
    clear hb4
    go_wp2_with fail
    (with_reducible refine (kernel_yes _ (HD.out.below hT) HS.out HF.out hk').mono ?_)
    rintro e v4 ⟨A1, c1, rfl, -, hb4⟩
    replace hT := hT.trans (hb4.mono hT.size)
    clear hb4
    go_wp2_with fail
    (with_reducible refine (hom_any _ (HD.out.below hT) HM.out (by omega)).mono ?_)
    rintro e v5 ⟨A', c', rfl, hR', hb4⟩
    replace hT := hT.trans (hb4.mono hT.size)
    clear hb4
    go_wp2_with fail
    (with_reducible refine (rank_yes _ hR' HS.out.hom HSR.out).mono ?_)
    rintro e v6 ⟨rfl, hb4⟩
    replace hT := hT.trans (hb4.mono hT.size)
    clear hb4 hR'
    have hm0 : ¬ m = 0 := by omega
    have hm1 : ((m : Int) == 0) = false := by simp; omega
    obtain ⟨a, ha⟩ : ∃ a, i1 % m = a := ⟨_, rfl⟩
    have ham : a < m := by rw [← ha]; exact Nat.mod_lt _ (by omega)
    have haI : (i1 : Int) % (m : Int) = (a : Int) := by rw [← ha]; omega
    obtain ⟨b, hb⟩ : ∃ a, i2 % m = a := ⟨_, rfl⟩
    have hbm : b < m := by rw [← hb]; exact Nat.mod_lt _ (by omega)
    have hbI : (i2 : Int) % (m : Int) = (b : Int) := by rw [← hb]; omega
    clear ha hb
    have hai : ((a : Nat) : Int) < (m : Int) := by omega
    have hbi : ((b : Nat) : Int) < (m : Int) := by omega
    obtain ⟨rw0, hrl, hRC, hRI⟩ := HD.out.rcs
    have HRC := Lib.hid hRC; clear hRC
    have HRI := Lib.hid hRI; clear hRI
    have HRL := Lib.hid (hrl.trans HM.out); clear hrl
    have HT := Lib.hid hT
    clear hT
    go_upto_region 16 with (at_builtin; refine appR_at rfl (.tmp 109) (.tmp 110) rfl v6.heap.size (.slice (some ⟨v6.heap.size, 0, none⟩) 0 0) [] rw0 A m cap rfl (emptyR v6 (Nat.le_refl _)) rfl HRL.out ((HRC.out.below HT.out).below ((Below.refl _ _).alloc (Nat.le_refl _) _)) (by simp; omega) (by simp) ?_; intro x2 w2 hown2 hg2 hat2; have hB2 : Below v6.heap.size v6 w2 := grown_belR ((Below.refl _ _).alloc (Nat.le_refl _) _) (emptyR v6 (Nat.le_refl _)) hg2 (Nat.le_refl _); obtain ⟨g2, cap2, cur2, hv2, hge2, -, -, -, -⟩ := hown2.blk (by rw [List.nil_append, HRL.out]; omega); rw [List.nil_append] at hown2 hv2; rw [HRL.out] at hv2; subst hv2)
    have hO2 : RowsO w2 v6.heap.size (.slice (some ⟨g2, 0, none⟩) m cap2) rw0 rs := RowsO.copy (by rw [HRL.out, HM.out]) HRI.out (HT.out.trans (hB2.mono HT.out.size)) hown2 HT.out.size
    have HT2 := Lib.hid (HT.out.trans (hB2.mono HT.out.size))
    obtain ⟨bb, ob, hAb, hBb, q0, q1, q2, q3, q4⟩ := (HRC.out.below HT2.out).get (k := b) (by rw [HRL.out]; exact hbm)
    subst hAb
    obtain ⟨⟨z0, z1, z2, z3, z4⟩, zl, zg, zf⟩ := hO2.cells (k := a) (by rw [HRL.out]; exact ham)
    obtain ⟨rb, hrb⟩ : ∃ r, rw0.getD b rwnil = r := ⟨_, rfl⟩
    rw [hrb] at q0 q1 q2 q3 q4
    have hIb := HRI.out b (by rw [HM.out]; exact hbm)
    rw [hrb] at hIb
    have HO3 := Lib.hid (hO2.store (k := a) (r := rb) (d := rs.getD b rnil) HRL.out (RwS.old hIb HT2.out (fun b' e => by injection e with e; have := HT.out.size; omega)))
    have HRB := Lib.hid hrb; clear hrb hIb
    obtain ⟨Ab, nb, cb, ⟨s1, A1', n1, c1', s2, A2', n2, c2'⟩⟩ := rb
    simp only at q0 q1 q2 q3 q4 z0 z1 z2 z3 z4 HO3
    obtain ⟨ra, hra⟩ : ∃ r, rw0.getD a rwnil = r := ⟨_, rfl⟩
    rw [hra] at z0 z1 z2 z3 z4
    clear hra
    have y0 := zf (a * 5)
    have y1 := zf (a * 5 + 1)
    have y2 := zf (a * 5 + 2)
    have y3 := zf (a * 5 + 3)
    have y4 := zf (a * 5 + 4)
    clear zf hown2 hg2 hat2 hO2
    go_upto_region 17 with fail
    have hfr3 := fr_set5 g2 (a * 5) (a * 5 + 1) (a * 5 + 2) (a * 5 + 3) (a * 5 + 4) w2 (.slice Ab nb cb) (.int .i64 s1) (.slice A1' n1 c1') (.int .i64 s2) (.slice A2' n2 c2')
    have hT3 := HT2.out.trans (hfr3.below (B := w.heap.size) (fun b' e => by subst e; have := HT.out.size; omega) HT2.out.size)
    obtain ⟨w3, hw3⟩ : ∃ W, ((((w2.setCell ⟨g2, a * 5, none⟩ (.slice Ab nb cb)).setCell ⟨g2, a * 5 + 1, none⟩ (.int .i64 s1)).setCell ⟨g2, a * 5 + 2, none⟩ (.slice A1' n1 c1')).setCell ⟨g2, a * 5 + 3, none⟩ (.int .i64 s2)).setCell ⟨g2, a * 5 + 4, none⟩ (.slice A2' n2 c2') = W := ⟨_, rfl⟩
    rw [hw3] at HO3 hT3 ⊢
    have HT3 := Lib.hid hT3
    have hg23 := (HO3.out.own.lt).2
    clear hw3 hfr3 hT3 q0 q1 q2 q3 q4 z0 z1 z2 z3 z4 y0 y1 y2 y3 y4 zl zg HT2
    go_upto_region 18 with (at_builtin; refine appR_at rfl (.tmp 119) (.tmp 120) rfl w3.heap.size (.slice (some ⟨w3.heap.size, 0, none⟩) 0 0) [] rw0 (some ⟨bb, ob, none⟩) m cap rfl (emptyR w3 (Nat.le_refl _)) rfl HRL.out ((HRC.out.below HT3.out).below ((Below.refl _ _).alloc (Nat.le_refl _) _)) (by simp; omega) (by simp) ?_; intro x4 w4 hown4 hg4 hat4; have hB4 : Below w3.heap.size w3 w4 := grown_belR ((Below.refl _ _).alloc (Nat.le_refl _) _) (emptyR w3 (Nat.le_refl _)) hg4 (Nat.le_refl _); obtain ⟨g4, cap4, cur4, hv4, hge4, -, -, -, -⟩ := hown4.blk (by rw [List.nil_append, HRL.out]; omega); rw [List.nil_append] at hown4 hv4; rw [HRL.out] at hv4; subst hv4)
    have hO4 := Lib.hid (show RowsO w4 w3.heap.size (.slice (some ⟨g4, 0, none⟩) m cap4) rw0 rs from RowsO.copy (by rw [HRL.out, HM.out]) HRI.out (HT3.out.trans (hB4.mono HT3.out.size)) hown4 HT3.out.size)
    have HT4 := Lib.hid (HT3.out.trans (hB4.mono HT3.out.size))
    have HO34 := Lib.hid (HO3.out.below hB4)
    clear hown4 hg4 hat4 HO3
    obtain ⟨ba, oa, hAa, hBa, q0, q1, q2, q3, q4⟩ := HRC.out.get (k := a) (by rw [HRL.out]; exact ham)
    injection hAa with hAa
    injection hAa with e1 e2
    subst e1; subst e2
    obtain ⟨ra2, hra2⟩ : ∃ r, rw0.getD a rwnil = r := ⟨_, rfl⟩
    rw [hra2] at q0 q1 q2 q3 q4
    have hIa := HRI.out a (by rw [HM.out]; exact ham)
    rw [hra2] at hIa
    have HRA2 := Lib.hid hra2; clear hra2
    obtain ⟨Aa, na, ca, ⟨p1, P1, pn1, pc1, p2, P2, pn2, pc2⟩⟩ := ra2
    simp only at q0 q1 q2 q3 q4
    have hRa := HS.out.R ham
    have hnaE : na = m := by have h1 := hIa.n; have h2 := hRa.1; simp only at h1; omega
    subst hnaE
    have e0 : ∀ W' : World, Below w.heap.size w W' → W'.cell? ⟨bb, ob + a * 5, none⟩ = some (.slice Aa na ca) ∧ W'.cell? ⟨bb, ob + a * 5 + 1, none⟩ = some (.int .i64 p1) ∧ W'.cell? ⟨bb, ob + a * 5 + 2, none⟩ = some (.slice P1 pn1 pc1) ∧ W'.cell? ⟨bb, ob + a * 5 + 3, none⟩ = some (.int .i64 p2) ∧ W'.cell? ⟨bb, ob + a * 5 + 4, none⟩ = some (.slice P2 pn2 pc2) := fun W' hW =>
      ⟨(hW.cell (p := ⟨bb, _, none⟩) hBa).trans q0, (hW.cell (p := ⟨bb, _, none⟩) hBa).trans q1, (hW.cell (p := ⟨bb, _, none⟩) hBa).trans q2, (hW.cell (p := ⟨bb, _, none⟩) hBa).trans q3, (hW.cell (p := ⟨bb, _, none⟩) hBa).trans q4⟩
    have E0 := Lib.hid e0; clear e0
    have HTM := Lib.hid (fun (W' : World) (hW : Below w.heap.size w W') (fz : Fc) (hz : FA (fun _ => False) W' fz ((0 : Int) : Rat)) => ltimes_any (c := ca) (f := ⟨p1, P1, pn1, pc1, p2, P2, pn2, pc2⟩) W' (hIa.a.below hW) hRa.1 (by omega) (fun j hj => hRa.2.1 j hj) ((fd_fa (hIa.below hW).v hRa.2.2).less (fun _ h => h.elim)) hz (fun j hj => okZ ((HS.out.bits a ham).1 j hj)) (okZ (HS.out.bits a ham).2))
    have HZ0 := Lib.hid (fun (W' : World) => lnumber_fr 0 W' (by decide) (by decide) (by decide))
    have hT40 := HT4.out
    have hB00 : Below w.heap.size w w4.drew := hT40.drew
    have hs4 := HT4.out.size
    clear q0 q1 q2 q3 q4 hIa hRa
    have hs3 := HT3.out.size
    have hg4w : w.heap.size ≤ g4 := by omega
    go_region_held3 (fun W' => W'.cell? ⟨bb, ob + a * 5, none⟩ = some (.slice Aa na ca) ∧ W'.cell? ⟨bb, ob + a * 5 + 1, none⟩ = some (.int .i64 p1) ∧ W'.cell? ⟨bb, ob + a * 5 + 2, none⟩ = some (.slice P1 pn1 pc1) ∧ W'.cell? ⟨bb, ob + a * 5 + 3, none⟩ = some (.int .i64 p2) ∧ W'.cell? ⟨bb, ob + a * 5 + 4, none⟩ = some (.slice P2 pn2 pc2))
      (first | with_reducible exact E0.out _ (((((hB6.setCell (p := ⟨g4, _, none⟩) hg4w _).setCell (p := ⟨g4, _, none⟩) hg4w _).setCell (p := ⟨g4, _, none⟩) hg4w _).setCell (p := ⟨g4, _, none⟩) hg4w _).setCell (p := ⟨g4, _, none⟩) hg4w _) | with_reducible exact E0.out _ hB6 | with_reducible exact E0.out _ hB5 | with_reducible exact E0.out _ hB00)
      (first
        | (go_at_call 24; refine (HZ0.out _).mono ?_; rintro e w5 ⟨⟨y1, Y1, yn1, yc1, y2, Y2, yn2, yc2⟩, rfl, hzo, hzr, hb5⟩; have hB5 : Below w.heap.size w w5 := hB00.trans (hb5.mono hB00.size); have hB45 : Below w4.heap.size w4 w5 := ⟨hb5.os, hb5.tape, hb5.output, hb5.size, hb5.block⟩; have hz := FA.own (S := fun _ => False) (f := ⟨y1, Y1, yn1, yc1, y2, Y2, yn2, yc2⟩) hzo (fun _ h => h.elim) hzr)
        | (go_at_call 19; refine (HTM.out _ hB5 ⟨y1, Y1, yn1, yc1, y2, Y2, yn2, yc2⟩ hz).mono ?_; rintro e w6 ⟨⟨A6, n6, c6, ⟨x1, X1, xn1, xc1, x2, X2, xn2, xc2⟩⟩, rfl, hr6, hb6⟩; have hB6 : Below w.heap.size w w6 := hB5.trans (hb6.mono hB5.size); have hB46 : Below w4.heap.size w4 w6 := hB45.trans (hb6.mono hB45.size); obtain ⟨⟨z0, z1, z2, z3, z4⟩, zl, zg, zf⟩ := (hO4.out.below hB46).cells (k := a) (by rw [HRL.out]; exact ham); simp only at z0 z1 z2 z3 z4; have j0 := zf (a * 5); have j1 := zf (a * 5 + 1); have j2 := zf (a * 5 + 2); have j3 := zf (a * 5 + 3); have j4 := zf (a * 5 + 4)))
    all_goals
      have hfr7 := fr_set5 g4 (a * 5) (a * 5 + 1) (a * 5 + 2) (a * 5 + 3) (a * 5 + 4) w6 (.slice A6 n6 c6) (.int .i64 x1) (.slice X1 xn1 xc1) (.int .i64 x2) (.slice X2 xn2 xc2)
      have hT7 := hB6.trans (hfr7.below (B := w.heap.size) (fun b' e => by subst e; exact hg4w) hB6.size)
      have hg2l := (HO34.out.own.lt).2
      have hzr : (⟨((List.range na).map fun k => ((rs.getD a rnil).A.getD k dnil).q * ((0 : Int) : Rat)).map Fd.of, Fd.of ((rs.getD a rnil).v.q * ((0 : Int) : Rat))⟩ : Rd) = zrow na := by
        have e1 : ∀ q : Rat, q * ((0 : Int) : Rat) = 0 := fun q => by
          have : ((0 : Int) : Rat) = 0 := rfl
          rw [this, Rat.mul_zero]
        unfold zrow
        simp only [e1]
      have hO7 := (hO4.out.below hB46).store (k := a) (r := ⟨A6, n6, c6, ⟨x1, X1, xn1, xc1, x2, X2, xn2, xc2⟩⟩) (d := zrow na) HRL.out (fun w9 h9 => by
        rw [← hzr]
        exact hr6.out w9 (h9.more (fun b' e => by injection e with e; have h1 := hO4.out.own.lt; have h2 := hB45.size; omega)))
      have hR2 := ((HO34.out.own.below hB46).other hfr7 (by omega)).rds (ds := rs.set a (rs.getD b rnil)) (by rw [List.length_set, List.length_set, HRL.out, HM.out]) (fun j hj => by
        rw [List.length_set, HM.out] at hj
        rw [set_get (by rw [HM.out]; exact hj)]
        have hj' : j < rw0.length := by rw [HRL.out]; exact hj
        by_cases e : j = a
        · rw [if_pos e, e, getD_set_self (by rw [HRL.out]; exact ham)]
          have h1 := HRI.out b (by rw [HM.out]; exact hbm)
          rw [HRB.out] at h1
          exact h1.below hT7
        · rw [if_neg e, getD_set_ne (Ne.symm e)]
          exact (HRI.out j (by rw [HM.out]; exact hj)).below hT7)
      obtain ⟨w7, hw7⟩ : ∃ W, ((((w6.setCell ⟨g4, a * 5, none⟩ (.slice A6 n6 c6)).setCell ⟨g4, a * 5 + 1, none⟩ (.int .i64 x1)).setCell ⟨g4, a * 5 + 2, none⟩ (.slice X1 xn1 xc1)).setCell ⟨g4, a * 5 + 3, none⟩ (.int .i64 x2)).setCell ⟨g4, a * 5 + 4, none⟩ (.slice X2 xn2 xc2) = W := ⟨_, rfl⟩
      simp only at hO7
      rw [hw7] at hR2 hT7 hO7 ⊢
      have HT7 := Lib.hid hT7
      have HR2 := Lib.hid hR2
      obtain ⟨A7, c7, e7, hR3⟩ := hO7.done
      rw [List.length_set, HM.out] at e7
      injection e7 with e7 _ _
      subst e7
      have HR3 := Lib.hid hR3
      have HS2 := Lib.hid (HS.out.set (a := a) (HS.out.R hbm) (HS.out.bits b hbm))
      have HS3 := Lib.hid (HS.out.set (a := a) (zrow_R na) (zrow_bits na))
      obtain ⟨t, ht, -⟩ := HS2.out.rank
      obtain ⟨u, hu, -⟩ := HS3.out.rank
      obtain ⟨htr, htn⟩ := HS.out.twice ham hbm HR.out ht
      obtain ⟨hur, hru, hun⟩ := HS.out.none ham HR.out hu
      have HT8 := Lib.hid ht
      have HU8 := Lib.hid hu
      clear hw7 hfr7 hT7 hR2 hR3 hO7 hzr hr6 hB6 hB46 hB45 hB5 z0 z1 z2 z3 z4 j0 j1 j2 j3 j4 zl zg zf ht hu
      go_wp2_with fail
      (with_reducible refine (rank_yes _ HR2.out HS2.out HT8.out).mono ?_)
      rintro e w8 ⟨rfl, hb8⟩
      have hT8 := HT7.out.trans (hb8.mono HT7.out.size)
      have HR4 := Lib.hid (HR3.out.below hb8)
      clear hb8
      go_wp2_with fail
      (with_reducible refine (rank_yes _ HR4.out HS3.out HU8.out).mono ?_)
      rintro e w9 ⟨rfl, hb9⟩
      have hT9 := hT8.trans (hb9.mono hT8.size)
      clear hb9
      have g1 : decide ((t : Int) ≤ (s : Int)) = true := decide_eq_true (by omega)
      have g2' : decide ((u : Int) ≤ (s : Int)) = true := decide_eq_true (by omega)
      have g3 : decide ((s : Int) - 1 ≤ (u : Int)) = true := decide_eq_true (by omega)
      have g5 : decide ((u : Int) < (na : Int)) = true := decide_eq_true (by omega)
      by_cases hab : a = b
      · have hab' : ((a : Int) == (b : Int)) = true := by simp [hab]
        clear hab
        go_wp2_with fail
        go_ret
        exact ⟨rfl, hT9⟩
      · have hab' : ((a : Int) == (b : Int)) = false := by simp; omega
        have g7 : decide (t < na) = true := decide_eq_true (htn hab)
        have g6 : decide ((t : Int) < (na : Int)) = true := decide_eq_true (by have := htn hab; omega)
        clear hab htn
        go_wp2_with fail
        go_ret
        exact ⟨rfl, hT9⟩

end Go.Proofs.Ytlbjaimgoiimgaa

namespace Go.Proofs.Ytlbjaimgoiimgaa
open Go.ChangeShapes Go.WideShapes Go.ChangeAt Go.RowKit Go.Joins Go.Deep

section
variable {H : Type} {enc : TypeId × Value → H} {w : World}
theorem wf_u8 {z : Int} (h : (Lit.int .u8 z).wf = true) : ∃ k : Nat, z = k ∧ k < 256 := by
  have h1 : IntKind.u8.min = 0 := rfl
  have h2 : IntKind.u8.max = 255 := rfl
  simp only [Lit.wf, Bool.and_eq_true, decide_eq_true_eq] at h
  exact ⟨z.toNat, by omega, by omega⟩
set_option maxRecDepth 100000 in
theorem open_B {v : Value} {d : DataW H} {p : List MemPlace} {r : Reach} {b0 : Nat} (hv : Value.okWide Try.prog w r b0 5 v) (h : DataW.Trod enc Try.prog w 0 (fun _ => true) true 5 v d p) :
    ∃ k : Nat, v = .int .u8 k ∧ k < 256 := by
  obtain ⟨z, rfl, _, _, hz⟩ := open_int Try.underlying5 hv h
  obtain ⟨k, rfl, hk⟩ := wf_u8 hz
  exact ⟨k, rfl, hk⟩
end

end Go.Proofs.Ytlbjaimgoiimgaa
