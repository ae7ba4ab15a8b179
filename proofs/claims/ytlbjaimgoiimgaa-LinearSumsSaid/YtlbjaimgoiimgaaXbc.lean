/- Systems with a row changed, and what Solve says of them; lists of rows that stay readable. Walk of the law's plus. The law LinearMoves. -/
import Derived.Test.YtlbjaimgoiimgaaXbb

namespace Go.Proofs.Ytlbjaimgoiimgaa
open Go.RowKit

section
variable {rs ds : List Rd} {n : Nat}
theorem rq_get {d : Rd} (h : d.A.length = n) : (∀ k, k < n → d.q.getD k 0 = (d.A.getD k dnil).q) ∧ d.q.getD n 0 = d.v.q := by
  unfold Rd.q
  constructor
  · intro k hk
    rw [List.getD_eq_getElem?_getD, List.getElem?_append_left (by rw [List.length_map, h]; exact hk), ← List.getD_eq_getElem?_getD, q_getD (by rw [h]; exact hk)]
  · rw [List.getD_eq_getElem?_getD, List.getElem?_append_right (by rw [List.length_map, h]; exact Nat.le_refl _), List.length_map, h, Nat.sub_self]
    rfl
theorem SysR.lenA (h : SysR ds (n : Int)) : ds.length = n ∧ (ds.map Rd.q).length = n ∧ LenA n (ds.map Rd.q) := by
  have hl : ds.length = n := by have := h.1; omega
  refine ⟨hl, by rw [List.length_map, hl], fun k hk => ?_⟩
  rw [List.length_map] at hk
  rw [q_get hk]
  have := (h.2.2 k hk).1
  unfold Rd.q
  rw [List.length_append, List.length_map, this, hl]
  rfl
theorem SysR.set (h : SysR ds (n : Int)) {a : Nat} {d : Rd} (hR : d.R n) : SysR (ds.set a d) (n : Int) := by
  have hl := h.lenA.1
  refine ⟨by rw [List.length_set]; exact h.1, by rw [List.length_set]; exact h.2.1, fun k hk => ?_⟩
  rw [List.length_set] at hk ⊢
  rw [set_get hk]
  by_cases e : k = a
  · rw [if_pos e, hl]; exact hR
  · rw [if_neg e]; exact h.2.2 k hk
theorem both_free {k k' : Nat} {Y Y' : List (List Rat)} (h1 : SysR rs (n : Int)) (h2 : SysR ds (n : Int)) (hs : ∀ t x, SolA t n x (rs.map Rd.q) ↔ SolA t n x (ds.map Rd.q)) (hr : runFree n 0 (rs.map Rd.q) = some (k, Y)) (hr' : runFree n 0 (ds.map Rd.q) = some (k', Y')) :
    (k = n ↔ k' = n) ∧ (k = n → solV Y n = solV Y' n) := by
  obtain ⟨_, a2, a3⟩ := h1.lenA
  obtain ⟨_, b2, b3⟩ := h2.lenA
  refine ⟨⟨fun e => (runFree_both hr hr' a3 a2 b3 b2 hs e).1, fun e => (runFree_both hr' hr b3 b2 a3 a2 (fun t x => (hs t x).symm) e).1⟩, fun e => ?_⟩
  have := (runFree_both hr hr' a3 a2 b3 b2 hs e).2
  unfold solV
  apply List.map_congr_left
  intro j hj
  exact this j (List.mem_range.1 hj)

/-- What Solve says, where there is room. -/
def evO (k n : Nat) : Int := if k = n then 0 else 16
def solO (k : Nat) (Y : List (List Rat)) (n : Nat) : List Rat := if k = n then solV Y n else []
theorem evO_6 (k n : Nat) : (evO k n == 6) = false := by
  unfold evO
  by_cases h : k = n
  · rw [if_pos h]; rfl
  · rw [if_neg h]; rfl
theorem evO_or (k n : Nat) : evO k n = 0 ∨ evO k n = 16 := by
  unfold evO
  by_cases h : k = n
  · rw [if_pos h]; exact .inl rfl
  · rw [if_neg h]; exact .inr rfl
theorem solO_le (k : Nat) (Y : List (List Rat)) (n : Nat) : (solO k Y n).length ≤ n := by
  unfold solO
  by_cases h : k = n
  · rw [if_pos h, solV_len]; exact Nat.le_refl _
  · rw [if_neg h]; exact Nat.zero_le _
theorem solve_self {A : Option Addr} {cap k : Nat} {Y : List (List Rat)} (w : World) (h : RdsAt w A rs) (S : Sml rs n) (hr : runFree n 0 (rs.map Rd.q) = some (k, Y)) :
    Calls Try.prog 11 #[.slice A n cap, .int .i64 n] w fun e w' => ∃ Ao co, e = .returned (.tuple #[.slice Ao (solO k Y n).length co, .int .i64 (evO k n)]) ∧ QsAt w' Ao (solO k Y n) ∧ Below w.heap.size w w' := by
  unfold solO evO
  by_cases hk : k = n
  · subst hk
    rw [if_pos rfl, if_pos rfl, solV_len]
    exact solve_yes w h S hr
  · have := runFree_le hr
    rw [if_neg hk, if_neg hk]
    exact (solve_no w h S hr (by omega)).mono fun e w' hp => ⟨none, 0, hp.1, QsAt.nil _ _, hp.2⟩
/-- At a system with the same solutions that is as small. -/
theorem solve_same {A : Option Addr} {cap k : Nat} {Y : List (List Rat)} (w : World) (h : RdsAt w A ds) (S : Sml rs n) (S' : Sml ds n) (hs : ∀ t x, SolA t n x (rs.map Rd.q) ↔ SolA t n x (ds.map Rd.q)) (hr : runFree n 0 (rs.map Rd.q) = some (k, Y)) :
    Calls Try.prog 11 #[.slice A n cap, .int .i64 n] w fun e w' => ∃ Ao co, e = .returned (.tuple #[.slice Ao (solO k Y n).length co, .int .i64 (evO k n)]) ∧ QsAt w' Ao (solO k Y n) ∧ Below w.heap.size w w' := by
  obtain ⟨k', Y', hr'⟩ := S'.free
  obtain ⟨h1, h2⟩ := both_free S.sys S'.sys hs hr hr'
  have e1 : evO k n = evO k' n := by
    unfold evO
    by_cases hk : k = n
    · rw [if_pos hk, if_pos (h1.1 hk)]
    · rw [if_neg hk, if_neg (fun e => hk (h1.2 e))]
  have e2 : solO k Y n = solO k' Y' n := by
    unfold solO
    by_cases hk : k = n
    · rw [if_pos hk, if_pos (h1.1 hk), h2 hk]
    · rw [if_neg hk, if_neg (fun e => hk (h1.2 e))]
  rw [e1, e2]
  exact solve_self w h S' hr'
/-- At a system with the same solutions, unless something is too great. -/
theorem solve_like {A : Option Addr} {cap k : Nat} {Y : List (List Rat)} (w : World) (h : RdsAt w A ds) (h1 : SysR rs (n : Int)) (h2 : SysR ds (n : Int)) (h3 : n ≤ 3) (hs : ∀ t x, SolA t n x (rs.map Rd.q) ↔ SolA t n x (ds.map Rd.q)) (hr : runFree n 0 (rs.map Rd.q) = some (k, Y)) :
    Calls Try.prog 11 #[.slice A n cap, .int .i64 n] w fun e w' => ∃ (Ao : Option Addr) (n' co : Nat) (ev : Int), e = .returned (.tuple #[.slice Ao n' co, .int .i64 ev]) ∧ Below w.heap.size w w' ∧ (ev = 6 ∨ (ev = evO k n ∧ n' = (solO k Y n).length ∧ QsAt w' Ao (solO k Y n))) :=
  (lsolve_q w h h2.lenA.1 (by omega)).mono fun e w' hp => by
    obtain ⟨hb, ⟨hn, _⟩ | ⟨_, _, he⟩ | ⟨_, ⟨k', Y', hr', hk'⟩, he⟩ | ⟨_, Y', Ao, co, hr', he, hq⟩⟩ := hp
    · exact absurd h2 hn
    · exact ⟨none, 0, 0, 6, he, hb, .inl rfl⟩
    · obtain ⟨g1, g2⟩ := both_free h1 h2 hs hr hr'
      have hk : ¬ k = n := fun e => by have := g1.1 e; omega
      refine ⟨none, 0, 0, 16, he, hb, .inr ?_⟩
      unfold evO solO
      rw [if_neg hk, if_neg hk]
      exact ⟨rfl, rfl, QsAt.nil _ _⟩
    · obtain ⟨g1, g2⟩ := both_free h1 h2 hs hr hr'
      have hk : k = n := g1.2 rfl
      refine ⟨Ao, n, co, 0, he, hb, .inr ?_⟩
      unfold evO solO
      rw [if_pos hk, if_pos hk, g2 hk, solV_len]
      exact ⟨rfl, rfl, hq⟩

/-- A row that is made of numbers. -/
def mkR (n : Nat) (l : Nat → Rat) (v : Rat) : Rd := ⟨((List.range n).map l).map Fd.of, Fd.of v⟩
theorem mkR_get {l : Nat → Rat} {v : Rat} {j : Nat} (hj : j < n) : (mkR n l v).A.getD j dnil = Fd.of (l j) := by
  unfold mkR
  simp only
  rw [getD_map_of (by simpa using hj)]
  congr 1
  rw [List.getD_eq_getElem?_getD, List.getElem?_map, List.getElem?_range hj]
  rfl
theorem mkR_len {l : Nat → Rat} {v : Rat} : (mkR n l v).A.length = n := by simp [mkR]
theorem mkR_R {l : Nat → Rat} {v : Rat} (h : ∀ j, j < n → Bt (l j) 400 400) (hv : Bt v 400 400) : (mkR n l v).R n :=
  ⟨mkR_len, fun k hk => by rw [mkR_get hk]; exact Fd.of_R (bt_rb (h k hk)), Fd.of_R (bt_rb hv)⟩
theorem mkR_q {l : Nat → Rat} {v : Rat} : (∀ k, k < n → (mkR n l v).q.getD k 0 = l k) ∧ (mkR n l v).q.getD n 0 = v := by
  obtain ⟨h1, h2⟩ := rq_get (d := mkR n l v) mkR_len
  exact ⟨fun k hk => by rw [h1 k hk, mkR_get hk, Fd.of_q], by rw [h2]; exact Fd.of_q v⟩
theorem Sml.q_el (S : Sml rs n) {a : Nat} (ha : a < n) : (∀ k, k < n → ((rs.map Rd.q).getD a []).getD k 0 = ((rs.getD a rnil).A.getD k dnil).q) ∧ ((rs.map Rd.q).getD a []).getD n 0 = (rs.getD a rnil).v.q :=
  ⟨fun _ hk => S.el ha hk, S.val ha⟩
theorem scaled_sol (S : Sml rs n) {a : Nat} (ha : a < n) {f : Rat} (hf : f ≠ 0) : ∀ t x, SolA t n x (rs.map Rd.q) ↔ SolA t n x ((rs.set a (mkR n (fun k => ((rs.getD a rnil).A.getD k dnil).q * f) ((rs.getD a rnil).v.q * f))).map Rd.q) := fun t x => by
  rw [List.map_set]
  refine scale_sol hf (fun k hk => ?_)
  by_cases e : k = n
  · subst e; rw [mkR_q.2, (S.q_el ha).2]
  · rw [mkR_q.1 k (by omega), (S.q_el ha).1 k (by omega)]
theorem plus_sol (S : Sml rs n) {a b : Nat} (ha : a < n) (hb : b < n) (hab : a ≠ b) : ∀ t x, SolA t n x (rs.map Rd.q) ↔ SolA t n x ((rs.set a (mkR n (fun k => ((rs.getD a rnil).A.getD k dnil).q + ((rs.getD b rnil).A.getD k dnil).q) ((rs.getD a rnil).v.q + (rs.getD b rnil).v.q))).map Rd.q) := fun t x => by
  rw [List.map_set]
  refine added_sol (j := b) (by rw [S.X]; exact hb) hab (fun k hk => ?_)
  by_cases e : k = n
  · subst e; rw [mkR_q.2, (S.q_el ha).2, (S.q_el hb).2]
  · rw [mkR_q.1 k (by omega), (S.q_el ha).1 k (by omega), (S.q_el hb).1 k (by omega)]
theorem turned_sol {t : Rat} {x : Nat → Rat} {X : List (List Rat)} {a b : Nat} (ha : a < X.length) (hb : b < X.length) : SolA t n x X ↔ SolA t n x ((X.set a (X.getD b [])).set b (X.getD a [])) := by
  have hl1 : (X.set a (X.getD b [])).length = X.length := List.length_set
  constructor
  · intro h k hk
    rw [List.length_set, hl1] at hk
    by_cases e : k = b
    · subst e; rw [getD_set_self (by rw [hl1]; exact hk)]; exact h a ha
    · rw [getD_set_ne (Ne.symm e)]
      by_cases e' : k = a
      · subst e'; rw [getD_set_self hk]; exact h b hb
      · rw [getD_set_ne (Ne.symm e')]; exact h k hk
  · intro h k hk
    have hA := h b (by rw [List.length_set, hl1]; exact hb)
    rw [getD_set_self (by rw [hl1]; exact hb)] at hA
    by_cases e : k = a
    · subst e; exact hA
    · by_cases e' : k = b
      · subst e'
        have hB := h a (by rw [List.length_set, hl1]; exact ha)
        rw [getD_set_ne e, getD_set_self ha] at hB
        exact hB
      · have hK := h k (by rw [List.length_set, hl1]; exact hk)
        rw [getD_set_ne (Ne.symm e'), getD_set_ne (Ne.symm e)] at hK
        exact hK
theorem Sml.turn (S : Sml rs n) {a b : Nat} (ha : a < n) (hb : b < n) : Sml ((rs.set a (rs.getD b rnil)).set b (rs.getD a rnil)) n ∧ ∀ t x, SolA t n x (rs.map Rd.q) ↔ SolA t n x (((rs.set a (rs.getD b rnil)).set b (rs.getD a rnil)).map Rd.q) :=
  ⟨(S.set (S.R hb) (S.bits b hb)).set (S.R ha) (S.bits a ha), fun t x => by
    rw [List.map_set, List.map_set]
    have h := turned_sol (t := t) (n := n) (x := x) (X := rs.map Rd.q) (a := a) (b := b) (by rw [S.X]; exact ha) (by rw [S.X]; exact hb)
    rw [q_get (by rw [S.len]; exact hb), q_get (by rw [S.len]; exact ha)] at h
    exact h⟩
end

/-- A list of rows of the law's that stays readable whatever is written into the blocks T. -/
structure RowsT (T : Nat → Prop) (w : World) (B g n cap : Nat) (rs : List Rw) (ds : List Rd) : Prop where
  own : OwnR w B (.slice (some ⟨g, 0, none⟩) n cap) rs
  hn : rs.length = n
  len : ds.length = n
  row : ∀ k, k < n → RwS T w (rs.getD k rwnil) (ds.getD k rnil)
section
variable {T : Nat → Prop} {w w' : World} {B g n cap : Nat} {rs : List Rw} {ds : List Rd}
theorem RowsT.of {w0 : World} (ho : OwnR w B (.slice (some ⟨g, 0, none⟩) n cap) rs) (hn : rs.length = n) (hd : ds.length = n) (hr : ∀ k, k < n → RwIs w0 (rs.getD k rwnil) (ds.getD k rnil)) (hb : Below w0.heap.size w0 w) (hT : ∀ b, T b → w0.heap.size ≤ b) : RowsT T w B g n cap rs ds :=
  ⟨ho, hn, hd, fun k hk => RwS.old (hr k hk) hb hT⟩
theorem RowsT.below (h : RowsT T w B g n cap rs ds) (hb : Below w.heap.size w w') : RowsT T w' B g n cap rs ds :=
  ⟨h.own.below hb, h.hn, h.len, fun k hk => (h.row k hk).below hb⟩
theorem RowsT.toO (h : RowsT T w B g n cap rs ds) (hT : T g) : RowsO w B (.slice (some ⟨g, 0, none⟩) n cap) rs ds :=
  ⟨h.own, h.hn.trans h.len.symm, fun k hk => (h.row k (by have := h.len; omega)).turn (Fr.refl _ _) (fun b _ e => by
    have e' : some b = some g := e
    injection e' with e'
    subst e'
    exact hT)⟩
theorem RowsT.cells (h : RowsT T w B g n cap rs ds) (hT : T g) {k : Nat} (hk : k < n) : Five (fun i => w.cell? ⟨g, i, none⟩) (k * 5) (rs.getD k rwnil) ∧ g < w.heap.size ∧ B ≤ g ∧ ∀ i, w.frozen? ⟨g, i, none⟩ = false :=
  (h.toO hT).cells (by have := h.hn; omega)
theorem RowsT.store (h : RowsT T w B g n cap rs ds) (hT : T g) (k : Nat) {r : Rw} {d : Rd} (hr : RwS T w r d) :
    RowsT T (((((w.setCell ⟨g, k * 5, none⟩ (.slice r.A r.n r.c)).setCell ⟨g, k * 5 + 1, none⟩ (.int .i64 r.f.s)).setCell ⟨g, k * 5 + 2, none⟩ (.slice r.f.A r.f.n r.f.c)).setCell ⟨g, k * 5 + 3, none⟩ (.int .i64 r.f.s')).setCell ⟨g, k * 5 + 4, none⟩ (.slice r.f.A' r.f.n' r.f.c')) B g n cap (rs.set k r) (ds.set k d) := by
  have hf := (fr_set5 g (k * 5) (k * 5 + 1) (k * 5 + 2) (k * 5 + 3) (k * 5 + 4) w (.slice r.A r.n r.c) (.int .i64 r.f.s) (.slice r.f.A r.f.n r.f.c) (.int .i64 r.f.s') (.slice r.f.A' r.f.n' r.f.c')).more (T := T) (fun b hb => by rw [hb]; exact hT)
  refine ⟨h.own.store h.hn k r, by rw [List.length_set, h.hn], by rw [List.length_set, h.len], fun j hj => ?_⟩
  by_cases e : j = k
  · subst e
    rw [getD_set_self (by rw [h.hn]; exact hj), getD_set_self (by rw [h.len]; exact hj)]
    exact RwS.fr hr hf
  · rw [getD_set_ne (Ne.symm e), getD_set_ne (Ne.symm e)]
    exact (h.row j hj).fr hf
theorem RowsT.other {g' : Nat} (h : RowsT T w B g n cap rs ds) (hT : T g') (hf : Fr (· = g') w w') (hne : g ≠ g') : RowsT T w' B g n cap rs ds :=
  ⟨h.own.other hf hne, h.hn, h.len, fun k hk => (h.row k hk).fr (hf.more (fun b hb => by rw [hb]; exact hT))⟩
theorem RowsT.rds (h : RowsT T w B g n cap rs ds) : RdsAt w (some ⟨g, 0, none⟩) ds :=
  h.own.rds (h.hn.trans h.len.symm) (fun k hk => (h.row k (by have := h.len; omega)).is)
/-- A row just made stays so. -/
theorem RwS.far {r : Rw} {d : Rd} {N : Nat} (h : RwS (fun b => b < N) w r d) (hT : ∀ b, T b → b < N) : RwS T w r d := h.turn (Fr.refl _ _) (fun b _ hb => hT b hb)
end
section
variable {w : World} {g : Nat}
/-- A row that was made is put into a block: made before, or after. -/
theorem rw_st {T : Nat → Prop} {r : Rw} {d : Rd} {N : Nat} {u0 u1 u2 u3 u4 : Value} (h : RwS (fun b => b < N) w r d) (hT : ∀ b, T b → b < N) (hg : g < N) : RwS T (((((w.setCell ⟨g, 0, none⟩ u0).setCell ⟨g, 1, none⟩ u1).setCell ⟨g, 2, none⟩ u2).setCell ⟨g, 3, none⟩ u3).setCell ⟨g, 4, none⟩ u4) r d :=
  (h.fr ((fr_st5 g w u0 u1 u2 u3 u4).more (fun b hb => by rw [hb]; exact hg))).far hT
theorem rw_new {T : Nat → Prop} {r : Rw} {d : Rd} {N : Nat} (h : RwS (fun b => b < N) w r d) (hT : ∀ b, T b → b < N) (o : Obj) : RwS T (w.alloc o) r d :=
  (h.below ((Below.refl _ _).alloc (Nat.le_refl _) _)).far hT
end

end Go.Proofs.Ytlbjaimgoiimgaa

namespace Go.Proofs.Ytlbjaimgoiimgaa
open Go.RowKit

set_option maxRecDepth 100000 in
set_option maxHeartbeats 8000000 in
theorem lplus_any {A D : Option Addr} {n c d : Nat} {us vs : List Fd} {f g : Fc} {v x : Rat} (w : World) (ha : FdsAt w A us) (hav : FdsAt w D vs) (han : us.length = n) (hvn : vs.length = n) (hn : n ≤ 100) (hra : ∀ k, k < n → (us.getD k dnil).R) (hrv : ∀ k, k < n → (vs.getD k dnil).R) (hv : FA (fun _ => False) w f v) (hx : FA (fun _ => False) w g x)
    (hok : ∀ k, k < n → okAdd (us.getD k dnil).q (vs.getD k dnil).q) (hokv : okAdd v x) :
    Calls Try.prog 20 #[.agg #[.slice A n c, .int .i64 f.s, .slice f.A f.n f.c, .int .i64 f.s', .slice f.A' f.n' f.c'], .agg #[.slice D n d, .int .i64 g.s, .slice g.A g.n g.c, .int .i64 g.s', .slice g.A' g.n' g.c']] w fun e w' => ∃ r : Rw, e = .returned (.tuple #[r.v, .bool true]) ∧
      Hid (RwS (fun b => b < w.heap.size) w' r ⟨((List.range n).map fun k => (us.getD k dnil).q + (vs.getD k dnil).q).map Fd.of, Fd.of (v + x)⟩) ∧ Below w.heap.size w w' := by
  have HU := Lib.hid ha; clear ha
  have HUN := Lib.hid han; clear han
  have HRA := Lib.hid hra; clear hra
  have HUV := Lib.hid hav; clear hav
  have HUM := Lib.hid hvn; clear hvn
  have HRV := Lib.hid hrv; clear hrv
  have HV := Lib.hid hv; clear hv
  have HX := Lib.hid hx; clear hx
  have HOK := Lib.hid hok; clear hok
  have HOKV := Lib.hid hokv; clear hokv
  obtain ⟨s1, A1, n1, c1, s2, A2, n2, c2⟩ := f
  obtain ⟨t1, B1, m1, d1, t2, B2, m2, d2⟩ := g
  simp only
  go_enter Try.func20, Try.ntmps20
  go_wp2_with fail
  have hA1 : Below w.heap.size w (w.alloc (.cells #[.slice A n c, .int .i64 s1, .slice A1 n1 c1, .int .i64 s2, .slice A2 n2 c2] 45)) := (Below.refl _ _).alloc (Nat.le_refl _) _
  have kx := Blk.new w 45 #[.slice A n c, .int .i64 s1, .slice A1 n1 c1, .int .i64 s2, .slice A2 n2 c2]
  obtain ⟨W1, hW1⟩ : ∃ W, w.alloc (.cells #[.slice A n c, .int .i64 s1, .slice A1 n1 c1, .int .i64 s2, .slice A2 n2 c2] 45) = W := ⟨_, rfl⟩
  have hs1 : W1.heap.size = w.heap.size + 1 := by rw [← hW1, World.size_alloc]
  rw [hW1] at hA1 kx ⊢
  clear hW1
  have hA2 : Below W1.heap.size W1 (W1.alloc (.cells #[.slice D n d, .int .i64 t1, .slice B1 m1 d1, .int .i64 t2, .slice B2 m2 d2] 45)) := (Below.refl _ _).alloc (Nat.le_refl _) _
  have kf := Blk.new W1 45 #[.slice D n d, .int .i64 t1, .slice B1 m1 d1, .int .i64 t2, .slice B2 m2 d2]
  replace kx := kx.below hA2 kx.lt
  obtain ⟨W2, hW2⟩ : ∃ W, W1.alloc (.cells #[.slice D n d, .int .i64 t1, .slice B1 m1 d1, .int .i64 t2, .slice B2 m2 d2] 45) = W := ⟨_, rfl⟩
  have hs2 : W2.heap.size = w.heap.size + 1 + 1 := by rw [← hW2, World.size_alloc, hs1]
  rw [hW2] at hA2 kx kf ⊢
  clear hW2
  rw [hs1] at kf
  have hAW := hA1.trans (hA2.mono hA1.size)
  have hA3 : Below W2.heap.size W2 (W2.alloc (.cells #[.slice none 0 0, .int .i64 0, .slice none 0 0, .int .i64 0, .slice none 0 0] 45)) := (Below.refl _ _).alloc (Nat.le_refl _) _
  have hA4 := hA3.alloc hA3.size (.cells #[.slice none 0 0, .int .i64 0, .slice none 0 0, .int .i64 0, .slice none 0 0] 45)
  have k2 := (Blk.new W2 45 #[.slice none 0 0, .int .i64 0, .slice none 0 0, .int .i64 0, .slice none 0 0]).alloc (.cells #[.slice none 0 0, .int .i64 0, .slice none 0 0, .int .i64 0, .slice none 0 0] 45)
  have k3 := Blk.new (W2.alloc (.cells #[.slice none 0 0, .int .i64 0, .slice none 0 0, .int .i64 0, .slice none 0 0] 45)) 45 #[.slice none 0 0, .int .i64 0, .slice none 0 0, .int .i64 0, .slice none 0 0]
  rw [World.size_alloc] at k3
  obtain ⟨W4, hW4⟩ : ∃ W, (W2.alloc (.cells #[.slice none 0 0, .int .i64 0, .slice none 0 0, .int .i64 0, .slice none 0 0] 45)).alloc (.cells #[.slice none 0 0, .int .i64 0, .slice none 0 0, .int .i64 0, .slice none 0 0] 45) = W := ⟨_, rfl⟩
  rw [hW4] at hA4 k2 k3 ⊢
  clear hW4 hA3
  obtain ⟨G2, hG2⟩ : ∃ G, w.heap.size + 1 + 1 = G := ⟨_, rfl⟩
  have hs2' := hs2
  rw [hG2] at hs2'
  rw [hs2'] at k2 k3
  obtain ⟨B, hB⟩ : ∃ B, W4.heap.size = B := ⟨_, rfl⟩
  have HST := Lib.hid (show TmI W2 W4 G2 (G2 + 1) B (.slice none 0 0) [] [] from ⟨hA4, k2, k3, OutJ.nil _ _ _, Nat.le_of_eq hs2', Nat.lt_succ_self _, by rw [← hB]; exact k3.lt, by rw [hB]; exact Nat.le_refl _⟩)
  have HSZ := Lib.hid (And.intro hs2 (And.intro hG2 hs1))
  have HK := Lib.hid (And.intro kx (And.intro kf hAW))
  rw [hG2]
  clear hA1 hA2 hA4 k2 k3 kx kf hAW hB hG2 hs1 hs2 hs2'
  go_loopw [7] (fun iv wr => ∃ (i : Nat) (Ao : Option Addr) (no co : Nat) (fs : List Fc), i ≤ n ∧ iv = .int .i64 i ∧ Hid (TmI W2 wr G2 (G2 + 1) B (.slice Ao no co) fs ((List.range i).map fun k => (us.getD k dnil).q + (vs.getD k dnil).q))) (fun iv _ => n - (intOf iv).toNat)
  case atStart => exact ⟨0, _, _, _, [], Nat.zero_le _, rfl, HST⟩
  case round =>
    obtain ⟨i, Ao, no, co, fs, hi, rfl, hI⟩ := hrel
    clear HST
    have hfl9 := hI.out.out.len
    rw [List.length_map, List.length_range] at hfl9
    have HFL := Lib.hid hfl9; clear hfl9
    have kx := HK.out.1.below hI.out.bl (by have := HSZ.out; omega)
    have kf := HK.out.2.1.below hI.out.bl (by have := HSZ.out; omega)
    have hbw := HK.out.2.2.trans (hI.out.bl.mono HK.out.2.2.size)
    by_cases hgo : i < n
    · obtain ⟨ba, offa, fa, hA, hBa, c0, c1', c2', c3, hfa⟩ := (HU.out.below hbw) i (by rw [HUN.out]; exact hgo)
      obtain ⟨bv, offv, fb, hD, hBv, o0, o1, o2, o3, hfb⟩ := (HUV.out.below hbw) i (by rw [HUM.out]; exact hgo)
      subst hA
      subst hD
      have hra := HRA.out i hgo
      have hrv := HRV.out i hgo
      obtain ⟨s3, A3, n3, e3, s4, A4, n4, e4⟩ := fa
      obtain ⟨s5, A5, n5, e5, s6, A6, n6, e6⟩ := fb
      simp only at c0 c1' c2' c3 o0 o1 o2 o3
      have haF := fd_fa hfa hra
      have hxF := fd_fa hfb hrv
      have hom := HOK.out i hgo
      obtain ⟨qa, hqae⟩ : ∃ q, (us.getD i dnil).q = q := ⟨_, rfl⟩
      rw [hqae] at haF hom
      have HQA := Lib.hid hqae; clear hqae
      obtain ⟨qb, hqbe⟩ : ∃ q, (vs.getD i dnil).q = q := ⟨_, rfl⟩
      rw [hqbe] at hxF hom
      have HQB := Lib.hid hqbe; clear hqbe
      have hi01 : ((i : Nat) : Int) < (n : Int) := by omega
      have e0 : ∀ W' : World, Below wr.heap.size wr W' → W'.cell? ⟨w.heap.size, 0, none⟩ = some (.slice (some ⟨ba, offa, none⟩) n c) ∧ W'.cell? ⟨ba, offa + i * 4, none⟩ = some (.int .i64 s3) ∧ W'.cell? ⟨ba, offa + i * 4 + 1, none⟩ = some (.slice A3 n3 e3) ∧ W'.cell? ⟨ba, offa + i * 4 + 2, none⟩ = some (.int .i64 s4) ∧ W'.cell? ⟨ba, offa + i * 4 + 3, none⟩ = some (.slice A4 n4 e4) ∧ W'.cell? ⟨w.heap.size + 1, 0, none⟩ = some (.slice (some ⟨bv, offv, none⟩) n d) ∧ W'.cell? ⟨bv, offv + i * 4, none⟩ = some (.int .i64 s5) ∧ W'.cell? ⟨bv, offv + i * 4 + 1, none⟩ = some (.slice A5 n5 e5) ∧ W'.cell? ⟨bv, offv + i * 4 + 2, none⟩ = some (.int .i64 s6) ∧ W'.cell? ⟨bv, offv + i * 4 + 3, none⟩ = some (.slice A6 n6 e6) ∧ Below wr.heap.size wr W' := fun W' hW =>
        ⟨(kx.below hW kx.lt).cell 0, (hW.cell (p := ⟨ba, _, none⟩) hBa).trans c0, (hW.cell (p := ⟨ba, _, none⟩) hBa).trans c1', (hW.cell (p := ⟨ba, _, none⟩) hBa).trans c2', (hW.cell (p := ⟨ba, _, none⟩) hBa).trans c3, (kf.below hW kf.lt).cell 0, (hW.cell (p := ⟨bv, _, none⟩) hBv).trans o0, (hW.cell (p := ⟨bv, _, none⟩) hBv).trans o1, (hW.cell (p := ⟨bv, _, none⟩) hBv).trans o2, (hW.cell (p := ⟨bv, _, none⟩) hBv).trans o3, hW⟩
      have E0 := Lib.hid e0; clear e0
      have hB00 : Below wr.heap.size wr wr.drew := (Below.refl _ _).drew
      have HSB := Lib.hid (fun (W' : World) (hb : Below wr.heap.size wr W') => fadd_y (haF.below hb) (hxF.below hb) hom)
      have HSW := Lib.hid (fun b (hb : TmI.S W2 G2 (G2 + 1) (.slice Ao no co) b) => hI.out.S_lt hb)
      have kx0 := kx.cell 0
      have kf0 := kf.cell 0
      simp at kx0 kf0
      go_upto_region 5 with fail
      clear c0 c1' c2' c3 o0 o1 o2 o3 kx kf hfa hfb haF hxF hra hrv hbw kx0 kf0
      go_cut [8, 9] from 26 to 39 (fun p e wx => ∃ (G8 : Nat) (r1 : Int) (C1 : Option Addr) (k1 l1 : Nat) (r2 : Int) (C2 : Option Addr) (k2 l2 : Nat), p = .pointer (some ⟨G8, 0, none⟩) ∧ e = .int .i64 0 ∧ Blk wx G8 40 #[.int .i64 r1, .slice C1 k1 l1, .int .i64 r2, .slice C2 k2 l2] ∧ FA (TmI.S W2 G2 (G2 + 1) (.slice Ao no co)) wx ⟨r1, C1, k1, l1, r2, C2, k2, l2⟩ (qa + qb) ∧ Below wr.heap.size wr wx)
      case first =>
        go_region_held3 (fun W' => W'.cell? ⟨w.heap.size, 0, none⟩ = some (.slice (some ⟨ba, offa, none⟩) n c) ∧ W'.cell? ⟨ba, offa + i * 4, none⟩ = some (.int .i64 s3) ∧ W'.cell? ⟨ba, offa + i * 4 + 1, none⟩ = some (.slice A3 n3 e3) ∧ W'.cell? ⟨ba, offa + i * 4 + 2, none⟩ = some (.int .i64 s4) ∧ W'.cell? ⟨ba, offa + i * 4 + 3, none⟩ = some (.slice A4 n4 e4) ∧ W'.cell? ⟨w.heap.size + 1, 0, none⟩ = some (.slice (some ⟨bv, offv, none⟩) n d) ∧ W'.cell? ⟨bv, offv + i * 4, none⟩ = some (.int .i64 s5) ∧ W'.cell? ⟨bv, offv + i * 4 + 1, none⟩ = some (.slice A5 n5 e5) ∧ W'.cell? ⟨bv, offv + i * 4 + 2, none⟩ = some (.int .i64 s6) ∧ W'.cell? ⟨bv, offv + i * 4 + 3, none⟩ = some (.slice A6 n6 e6) ∧ Below wr.heap.size wr W')
          (first | exact E0.out _ (below_st4 hB4 (Nat.le_refl _) _ _ _ _) | exact E0.out _ (below_new hB4 _) | exact E0.out _ (below_new hB00 _) | exact E0.out _ (by assumption) | exact E0.out _ ⟨rfl, rfl, rfl, Nat.le_refl _, fun _ _ => rfl⟩)
          (first
            | (go_at_call 21; (first | refine (HSB.out _ hB00).mono ?_ | refine (HSB.out _ (below_new hB00 _)).mono ?_); rintro e w4 ⟨⟨r1, C1, k1, l1, r2, C2, k2, l2⟩, rfl, hro, hrb, hb4⟩; have hB4 : Below wr.heap.size wr w4 := (by first | exact ⟨hb4.os, hb4.tape, hb4.output, hb4.size, hb4.block⟩ | exact (below_new hB00 _).trans (hb4.mono (below_new hB00 _).size)); (try (have hk4 : Blk w4 wr.heap.size 40 #[.int .i64 0, .slice none 0 0, .int .i64 0, .slice none 0 0] := blk_run4 (b := wr.drew) hb4; have hlt4 := hk4.lt; have z0 := hk4.cell 0; have z1 := hk4.cell 1; have z2 := hk4.cell 2; have z3 := hk4.cell 3; have y0 := hk4.frozen 0; have y1 := hk4.frozen 1; have y2 := hk4.frozen 2; have y3 := hk4.frozen 3))))
        all_goals
          go_wp2_with fail
          go_meet
          first
            | exact ⟨_, r1, C1, k1, l1, r2, C2, k2, l2, rfl, rfl, hk4.set4 _ _ _ _, fa_st (f := ⟨r1, C1, k1, l1, r2, C2, k2, l2⟩) hk4 hro (by simp) HSW.out (by first | exact hB00.size | exact (below_new hB00 _).size) hrb, below_st4 hB4 (Nat.le_refl _) _ _ _ _⟩
            | exact ⟨_, r1, C1, k1, l1, r2, C2, k2, l2, rfl, rfl, Blk.new _ _ _, fa_new (f := ⟨r1, C1, k1, l1, r2, C2, k2, l2⟩) hro HSW.out (by first | exact hB00.size | exact (below_new hB00 _).size) hrb _, below_new hB4 _⟩
      obtain ⟨G8, r1, C1, k1, l1, r2, C2, k2, l2, rfl, rfl, k8, hq8, hb5⟩ := hcut
      clear E0 hB00 HSB HSW
      have HI5 := Lib.hid (hI.out.below hb5)
      have HQ8 := Lib.hid hq8
      clear hI hq8 hb5
      have q0 := k8.cell 0
      have q1 := k8.cell 1
      have q2 := k8.cell 2
      have q3 := k8.cell 3
      have a0 := HI5.out.k3.cell 0
      simp at q0 q1 q2 q3 a0
      go_wp2_with (at_builtin; refine appF_at rfl (.tmp 44) (.tmp 46) rfl B (.slice Ao no co) fs [⟨r1, C1, k1, l1, r2, C2, k2, l2⟩] (some ⟨wc.heap.size, 0, none⟩) 1 1 rfl (HI5.out.out.own.below ((Below.refl _ _).alloc (Nat.le_refl _) _)) rfl rfl (lit_fc wc ⟨r1, C1, k1, l1, r2, C2, k2, l2⟩) (by rw [HFL.out]; omega) (by have := HI5.out.hB; simp; omega) ?_; intro v5 w5 hown5 hg5 hat5; obtain ⟨A9, n9, c9, hv5⟩ : ∃ A n c, v5 = .slice A n c := ⟨_, _, _, hown5.at_.choose_spec.choose_spec.1⟩; subst hv5; obtain ⟨j0, j1, j2, j3⟩ := TmI.next HI5.out HQ8.out hown5 hg5 hat5)
      have hnx : Hid (TmI W2 (w5.setCell ⟨G2 + 1, 0, none⟩ (.slice A9 n9 c9)) G2 (G2 + 1) B (.slice A9 n9 c9) (fs ++ [⟨r1, C1, k1, l1, r2, C2, k2, l2⟩]) ((List.range (i + 1)).map fun k => (us.getD k dnil).q + (vs.getD k dnil).q)) := Lib.hid (by
        rw [List.range_succ, List.map_append, List.map_cons, List.map_nil, HQA.out, HQB.out]
        exact j3)
      clear j0 j1 j2 j3 hown5 hg5 hat5 HI5 HQ8 q0 q1 q2 q3 a0 k8
      go_wp2_with fail
      go_roundw
      case rel => exact ⟨i + 1, _, _, _, _, by omega, rfl, hnx⟩
      case measure => simp [intOf]; omega
    · have : i = n := by omega
      subst this
      obtain ⟨Ao', co', hvo, hq⟩ := hI.out.out.done
      rw [List.length_map, List.length_range] at hvo
      injection hvo with e1 e2 e3
      subst e1; subst e2; subst e3
      clear hq
      have hvF := HV.out.below hbw
      have hxF := HX.out.below hbw
      have e0 : ∀ W' : World, Below wr.heap.size wr W' → W'.cell? ⟨w.heap.size, 1, none⟩ = some (.int .i64 s1) ∧ W'.cell? ⟨w.heap.size, 2, none⟩ = some (.slice A1 n1 c1) ∧ W'.cell? ⟨w.heap.size, 3, none⟩ = some (.int .i64 s2) ∧ W'.cell? ⟨w.heap.size, 4, none⟩ = some (.slice A2 n2 c2) ∧ W'.cell? ⟨w.heap.size + 1, 1, none⟩ = some (.int .i64 t1) ∧ W'.cell? ⟨w.heap.size + 1, 2, none⟩ = some (.slice B1 m1 d1) ∧ W'.cell? ⟨w.heap.size + 1, 3, none⟩ = some (.int .i64 t2) ∧ W'.cell? ⟨w.heap.size + 1, 4, none⟩ = some (.slice B2 m2 d2) ∧ Below wr.heap.size wr W' := fun W' hW =>
        ⟨(kx.below hW kx.lt).cell 1, (kx.below hW kx.lt).cell 2, (kx.below hW kx.lt).cell 3, (kx.below hW kx.lt).cell 4, (kf.below hW kf.lt).cell 1, (kf.below hW kf.lt).cell 2, (kf.below hW kf.lt).cell 3, (kf.below hW kf.lt).cell 4, hW⟩
      have E0 := Lib.hid e0; clear e0
      have hB00 : Below wr.heap.size wr wr.drew := (Below.refl _ _).drew
      have HSB := Lib.hid (fun (W' : World) (hb : Below wr.heap.size wr W') => fadd_y (hvF.below hb) (hxF.below hb) HOKV.out)
      have HSW := Lib.hid (fun b (hb : TmI.S W2 G2 (G2 + 1) (.slice Ao no co) b) => hI.out.S_lt hb)
      have kx0 := kx.cell 0
      have kf0 := kf.cell 0
      simp at kx0 kf0
      have HBW := Lib.hid hbw
      obtain ⟨g1, g2, g3, g4, g5, g6, g7, g8, -⟩ := E0.out _ (Below.refl _ _)
      clear kx kf hvF hxF hbw
      go_wp2_with fail
      (with_reducible refine (HSB.out _ (Below.refl _ _)).mono ?_)
      rintro e w4 ⟨⟨r1, C1, k1, l1, r2, C2, k2, l2⟩, rfl, hro, hrb, hb4⟩
      have hB4 : Below wr.heap.size wr w4 := ⟨hb4.os, hb4.tape, hb4.output, hb4.size, hb4.block⟩
      have hb5 := below_new hB4 (.cells #[.int .i64 r1, .slice C1 k1 l1, .int .i64 r2, .slice C2 k2 l2] 40)
      have hq8 := fa_new (f := ⟨r1, C1, k1, l1, r2, C2, k2, l2⟩) hro HSW.out (Nat.le_refl _) hrb (.cells #[.int .i64 r1, .slice C1 k1 l1, .int .i64 r2, .slice C2 k2 l2] 40)
      have k8 := Blk.new w4 40 #[.int .i64 r1, .slice C1 k1 l1, .int .i64 r2, .slice C2 k2 l2]
      clear g1 g2 g3 g4 g5 g6 g7 g8 kx0 kf0 hB4 hb4 hro hrb
      go_upto_region 10 with fail
      obtain ⟨wc, hwc⟩ : ∃ W, w4.alloc (.cells #[.int .i64 r1, .slice C1 k1 l1, .int .i64 r2, .slice C2 k2 l2] 40) = W := ⟨_, rfl⟩
      obtain ⟨G8, hG8⟩ : ∃ G, w4.heap.size = G := ⟨_, rfl⟩
      rw [hwc] at hb5 hq8 k8 ⊢
      rw [hG8] at k8 ⊢
      clear hwc hG8
      clear E0 hB00 HSB HSW
      have hI5 := hI.out.below hb5
      have hbl5 := HBW.out.trans (hb5.mono HBW.out.size)
      have hfr1 := fr_st4 (G2 + 1) wc (.int .i64 r1) (.slice C1 k1 l1) (.int .i64 r2) (.slice C2 k2 l2)
      have J5 := hI5.out.far hfr1 (.inr (.inr rfl)) hI5.gB
      have hfr2 := fr_st5 G2 ((((wc.setCell ⟨G2 + 1, 1, none⟩ (.int .i64 r1)).setCell ⟨G2 + 1, 2, none⟩ (.slice C1 k1 l1)).setCell ⟨G2 + 1, 3, none⟩ (.int .i64 r2)).setCell ⟨G2 + 1, 4, none⟩ (.slice C2 k2 l2)) (.slice Ao no co) (.int .i64 r1) (.slice C1 k1 l1) (.int .i64 r2) (.slice C2 k2 l2)
      have J6 := J5.far hfr2 (.inr (.inl rfl)) (by have := hI5.gB; omega)
      have hf6 := (hq8.fr (hfr1.more (fun b hb => .inr (.inr (.inr hb))))).fr (hfr2.more (fun b hb => .inr (.inr (.inl hb))))
      have hgW : w.heap.size ≤ G2 := by have := HSZ.out; omega
      have hb6 : Below w.heap.size w _ := hbl5.trans (((hfr1.more (T := fun b => w.heap.size ≤ b) (fun b hb => by subst hb; omega)).tr (hfr2.more (fun b hb => by subst hb; exact hgW))).below (fun b hb => hb) hbl5.size)
      have HF := Lib.hid (And.intro hb6 (And.intro J6 hf6))
      have kk2 := hI5.k2
      have kk3 := hI5.k3
      have HG := Lib.hid (And.intro hI5.g2 hI5.gB)
      have p0 := k8.cell 0
      have p1 := k8.cell 1
      have p2 := k8.cell 2
      have p3 := k8.cell 3
      have q0 := kk3.cell 0
      have q1 := kk3.cell 1
      have q2 := kk3.cell 2
      have q3 := kk3.cell 3
      have q4 := kk3.cell 4
      have v0 := kk2.cell 0
      have v1 := kk2.cell 1
      have v2 := kk2.cell 2
      have v3 := kk2.cell 3
      have v4 := kk2.cell 4
      simp at p0 p1 p2 p3 q0 q1 q2 q3 q4 v0 v1 v2 v3 v4
      have x1 := kk3.frozen 1
      have x2 := kk3.frozen 2
      have x3 := kk3.frozen 3
      have x4 := kk3.frozen 4
      have y0 := kk2.frozen 0
      have y1 := kk2.frozen 1
      have y2 := kk2.frozen 2
      have y3 := kk2.frozen 3
      have y4 := kk2.frozen 4
      have hl2 := kk2.lt
      have hl3 := kk3.lt
      clear hb6 J6 hf6 hfr1 hfr2 J5 hI5 hbl5 hI k8 hq8 hb5 kk2 kk3
      go_wp2_with fail
      refine bodyPost_ret (v := .tuple #[.agg #[.slice Ao no co, .int .i64 r1, .slice C1 k1 l1, .int .i64 r2, .slice C2 k2 l2], .bool true]) (by simp [results, Try.results20, go_sem, v0, v1, v2, v3, v4]) rfl ?_
      refine ⟨⟨Ao, no, co, ⟨r1, C1, k1, l1, r2, C2, k2, l2⟩⟩, rfl, Lib.hid (fun w9 h9 => ?_), HF.out.1⟩
      have h8 : ∀ b, b < w.heap.size → (b < W2.heap.size ∨ b = G2 ∨ b = G2 + 1) ∧ b < B := fun b hb => by have h1 := HSZ.out; have h2 := HG.out; omega
      have hj := (HF.out.2.1.fr h9 h8).qs
      have hv9 := (HF.out.2.2.fr (h9.more (fun b hb => .inr (h8 b hb).1))).is
      exact ⟨by simp, by simp; omega, hj.fds, hv9⟩

end Go.Proofs.Ytlbjaimgoiimgaa

namespace Go.Proofs.Ytlbjaimgoiimgaa
open Go.RowKit

open Classical in
set_option maxRecDepth 100000 in
set_option maxHeartbeats 16000000 in
theorem moves_any {A : Option Addr} {m cap i1 i2 : Nat} {rs : List Rd} {fc : Fc} {fd : Fd} (w : World) (h : RdsL w A rs) (hm : rs.length = m) (hi1 : i1 < 256) (hi2 : i2 < 256) (hfd : FdIs w fc fd) :
    Calls Try.prog 4 #[.slice A m cap, .int .u8 i1, .int .u8 i2, .agg #[.int .i64 fc.s, .slice fc.A fc.n fc.c, .int .i64 fc.s', .slice fc.A' fc.n' fc.c']] w fun e w' => e = .returned (.bool true) ∧ Below w.heap.size w w' := by
  have HDL := Lib.hid h; clear h
  have HM := Lib.hid hm; clear hm
  have HFD := Lib.hid hfd; clear hfd
  obtain ⟨f1, F1, fn1, fc1, f2, F2, fn2, fc2⟩ := fc
  simp only
  go_enter Try.func4, Try.ntmps4
  go_wp2_with fail
  have hT : Below w.heap.size w (w.alloc (.cells #[.int .i64 f1, .slice F1 fn1 fc1, .int .i64 f2, .slice F2 fn2 fc2] 40)) := (Below.refl _ _).alloc (Nat.le_refl _) _
  have kf := Blk.new w 40 #[.int .i64 f1, .slice F1 fn1 fc1, .int .i64 f2, .slice F2 fn2 fc2]
  obtain ⟨u0, hu0⟩ : ∃ W, w.alloc (.cells #[.int .i64 f1, .slice F1 fn1 fc1, .int .i64 f2, .slice F2 fn2 fc2] 40) = W := ⟨_, rfl⟩
  rw [hu0] at hT kf ⊢
  clear hu0
  have HKF := Lib.hid kf; clear kf
  (with_reducible refine (small_any _).mono ?_)
  rintro e u1 ⟨rfl, hb2⟩
  replace hT := hT.trans (hb2.mono hT.size)
  replace HKF := Lib.hid (HKF.out.below hb2 HKF.out.lt)
  clear hb2
  go_wp2_with fail
  (with_reducible refine (fewL_any (N := 3) (d := 1) _ (HDL.out.below hT) HM.out (by decide) (by decide)).mono ?_)
  rintro e u2 ⟨b, rfl, hb2, hbt⟩
  replace hT := hT.trans (hb2.mono hT.size)
  replace HKF := Lib.hid (HKF.out.below hb2 HKF.out.lt)
  clear hb2
  cases b with
  | false =>
    clear hbt
    have f_0 := HKF.out.cell 0
    have f_1 := HKF.out.cell 1
    have f_2 := HKF.out.cell 2
    have f_3 := HKF.out.cell 3
    simp at f_0 f_1 f_2 f_3
    go_wp2_with fail
    go_ret
    exact ⟨rfl, hT⟩
  | true =>
  have hm5 : m ≤ 3 := by have := (hbt rfl).1; omega
  have HD := Lib.hid (HDL.out.tight (fun k hk => by have := ((hbt rfl).2 k (by rw [← HM.out]; exact hk)).1; omega))
  have HFW := Lib.hid (fun k hk => ((hbt rfl).2 k hk).2)
  clear HDL
  clear hbt
  have f_0 := HKF.out.cell 0
  have f_1 := HKF.out.cell 1
  have f_2 := HKF.out.cell 2
  have f_3 := HKF.out.cell 3
  simp at f_0 f_1 f_2 f_3
  go_wp2_with fail
  clear f_0 f_1 f_2 f_3
  obtain ⟨bf, hbf⟩ : ∃ b, decide ((fn1 : Int) ≤ 1 ∧ (fn2 : Int) ≤ 1) = b := ⟨_, rfl⟩
  (with_reducible refine (ffew_any _ _ _ _ _ _ _ _ _ _ bf hbf).mono ?_)
  rintro e u3 ⟨rfl, hb2⟩
  replace hT := hT.trans (hb2.mono hT.size)
  replace HKF := Lib.hid (HKF.out.below hb2 HKF.out.lt)
  clear hb2
  cases bf with
  | false =>
    clear hbf
    go_wp2_with fail
    go_ret
    exact ⟨rfl, hT⟩
  | true =>
  have hff := of_decide_eq_true hbf
  have HFF := Lib.hid (show FewD 1 fd by have h1 := HFD.out.a1.hn; have h2 := HFD.out.a2.hn; simp only at h1 h2; exact ⟨by rw [h1]; exact hff.1, by rw [h2]; exact hff.2⟩)
  clear hff hbf
  obtain ⟨bR, hbR⟩ : ∃ b, decide (SysR rs (m : Int)) = b := ⟨_, rfl⟩
  have HBR := Lib.hid (show bR = true ↔ SysR rs (m : Int) by rw [← hbR]; exact decide_eq_true_iff)
  clear hbR
  go_wp2_with fail
  (with_reducible refine (lright_any (n := (m : Int)) _ (HD.out.below hT) HM.out (by omega) bR HBR.out).mono ?_)
  rintro e v1 ⟨rfl, hb2⟩
  replace hT := hT.trans (hb2.mono hT.size)
  replace HKF := Lib.hid (HKF.out.below hb2 HKF.out.lt)
  clear hb2
  cases bR with
  | false =>
    go_wp2_with fail
    go_ret
    exact ⟨rfl, hT⟩
  | true =>
  have HS := Lib.hid (sml_of (HBR.out.1 rfl) HM.out hm5 HFW.out)
  clear HBR HFW
  by_cases hm0 : m = 0
  · subst hm0
    have hz : ((0 : Nat) : Int) = 0 := rfl
    go_wp2_with fail
    go_ret
    exact ⟨rfl, hT⟩
  have hm1 : ((m : Int) == 0) = false := by simp; omega
  have f_0 := HKF.out.cell 0
  have f_1 := HKF.out.cell 1
  have f_2 := HKF.out.cell 2
  have f_3 := HKF.out.cell 3
  simp at f_0 f_1 f_2 f_3
  go_wp2_with fail
  clear f_0 f_1 f_2 f_3
  obtain ⟨bF, hbF⟩ : ∃ b, decide (fd.R) = b := ⟨_, rfl⟩
  have HBF := Lib.hid (show bF = true ↔ fd.R by rw [← hbF]; exact decide_eq_true_iff)
  clear hbF
  have HFD2 := Lib.hid (HFD.out.below hT)
  have ar1 : Ar v1 f1 fd.l F1 fn1 fc1 := HFD2.out.a1
  have ar2 : Ar v1 f2 fd.l' F2 fn2 fc2 := HFD2.out.a2
  have hRF : bF = true ↔ RF f1 fd.l f2 fd.l' := by
    have h1 : f1 = fd.s := HFD2.out.e1
    have h2 : f2 = fd.s' := HFD2.out.e2
    rw [h1, h2]
    exact HBF.out
  (with_reducible refine (fright_any _ ar1 ar2 bF hRF).mono ?_)
  rintro e v2 ⟨rfl, hb2⟩
  replace hT := hT.trans (hb2.mono hT.size)
  replace HKF := Lib.hid (HKF.out.below hb2 HKF.out.lt)
  clear hb2
  clear HFD2 ar1 ar2 hRF
  cases bF with
  | false =>
    go_wp2_with fail
    go_ret
    exact ⟨rfl, hT⟩
  | true =>
  have HFR := Lib.hid (HBF.out.1 rfl)
  clear HBF
  have f_0 := HKF.out.cell 0
  have f_1 := HKF.out.cell 1
  have f_2 := HKF.out.cell 2
  have f_3 := HKF.out.cell 3
  simp at f_0 f_1 f_2 f_3
  go_wp2_with fail
  clear f_0 f_1 f_2 f_3
  have hfa := fd_fa (HFD.out.below hT) HFR.out
  obtain ⟨bz, hbz⟩ : ∃ b, decide (fd.q = 0) = b := ⟨_, rfl⟩
  (with_reducible refine (rzero_any (f := ⟨f1, F1, fn1, fc1, f2, F2, fn2, fc2⟩) hfa bz hbz).mono ?_)
  rintro e v3 ⟨rfl, hb2⟩
  replace hT := hT.trans (hb2.mono hT.size)
  replace HKF := Lib.hid (HKF.out.below hb2 HKF.out.lt)
  clear hb2
  clear hfa
  cases bz with
  | true =>
    go_wp2_with fail
    go_ret
    exact ⟨rfl, hT⟩
  | false =>
  have HFZ := Lib.hid (of_decide_eq_false hbz)
  have HFB := Lib.hid (fd_bits HFR.out HFF.out)
  clear hbz
  obtain ⟨k, Y, hf⟩ := HS.out.free
  have HFRE := Lib.hid hf; clear hf
  obtain ⟨a, ha⟩ : ∃ a, i1 % m = a := ⟨_, rfl⟩
  have ham : a < m := by rw [← ha]; exact Nat.mod_lt _ (by omega)
  have haI : (i1 : Int) % (m : Int) = (a : Int) := by rw [← ha]; omega
  obtain ⟨b, hb⟩ : ∃ a, i2 % m = a := ⟨_, rfl⟩
  have hbm : b < m := by rw [← hb]; exact Nat.mod_lt _ (by omega)
  have hbI : (i2 : Int) % (m : Int) = (b : Int) := by rw [← hb]; omega
  clear ha hb
  have hai : ((a : Nat) : Int) < (m : Int) := by omega
  have hbi : ((b : Nat) : Int) < (m : Int) := by omega
  obtain ⟨rw0, hrl, hRC, hRI⟩ := HD.out.rcs
  have HRC := Lib.hid hRC; clear hRC
  have HRI := Lib.hid hRI; clear hRI
  have HRL := Lib.hid (hrl.trans HM.out); clear hrl
  go_wp2_with fail
  (with_reducible refine (solve_self _ (HD.out.below hT) HS.out HFRE.out).mono ?_)
  rintro e v6 ⟨A9, c9, rfl, hq9, hb2⟩
  replace hT := hT.trans (hb2.mono hT.size)
  replace HKF := Lib.hid (HKF.out.below hb2 HKF.out.lt)
  clear hb2
  obtain ⟨ev0, hev⟩ : ∃ e, evO k m = e := ⟨_, rfl⟩
  obtain ⟨L0, hL0⟩ : ∃ e, solO k Y m = e := ⟨_, rfl⟩
  have he6 := Lib.hid (evO_or k m)
  have hL3 := solO_le k Y m
  rw [hev] at he6 ⊢
  rw [hL0] at hL3 hq9 ⊢
  have HEV := Lib.hid (And.intro hev hL0)
  clear hev hL0
  obtain ⟨n9, hn9⟩ : ∃ n, L0.length = n := ⟨_, rfl⟩
  rw [hn9] at hL3 ⊢
  have HN9 := Lib.hid hn9; clear hn9
  have HQ := Lib.hid hq9; clear hq9
  have HT0 := Lib.hid hT
  clear hT
  have HV := Lib.hid (Below.refl v6.heap.size v6)
  go_upto_region 9 with (at_builtin; refine appR_at rfl (.tmp 73) (.tmp 74) rfl v6.heap.size (.slice (some ⟨v6.heap.size, 0, none⟩) 0 0) [] rw0 A m cap rfl (emptyR v6 (Nat.le_refl _)) rfl HRL.out ((HRC.out.below (HT0.out.trans (HV.out.mono HT0.out.size))).below ((Below.refl _ _).alloc (Nat.le_refl _) _)) (by simp; omega) (by simp) ?_; intro x1 y1 hown1 hg1 hat1; have hB1 : Below v6.heap.size v6 y1 := grown_belR ((Below.refl _ _).alloc (Nat.le_refl _) _) (emptyR v6 (Nat.le_refl _)) hg1 (Nat.le_refl _); obtain ⟨g1, cap1, cur1, hv1, hge1, -, -, -, -⟩ := hown1.blk (by rw [List.nil_append, HRL.out]; omega); rw [List.nil_append] at hown1 hv1; rw [HRL.out] at hv1; subst hv1)
  have HO1 := Lib.hid hown1
  have HB1 := Lib.hid hB1
  replace HV := Lib.hid (HV.out.trans (hB1.mono HV.out.size))
  clear hown1 hg1 hat1 hB1
  go_upto_region 10 with (at_builtin; refine appR_at rfl (.tmp 76) (.tmp 77) rfl y1.heap.size (.slice (some ⟨y1.heap.size, 0, none⟩) 0 0) [] rw0 A m cap rfl (emptyR y1 (Nat.le_refl _)) rfl HRL.out ((HRC.out.below (HT0.out.trans (HV.out.mono HT0.out.size))).below ((Below.refl _ _).alloc (Nat.le_refl _) _)) (by simp; omega) (by simp) ?_; intro x2 y2 hown2 hg2 hat2; have hB2 : Below y1.heap.size y1 y2 := grown_belR ((Below.refl _ _).alloc (Nat.le_refl _) _) (emptyR y1 (Nat.le_refl _)) hg2 (Nat.le_refl _); obtain ⟨g2, cap2, cur2, hv2, hge2, -, -, -, -⟩ := hown2.blk (by rw [List.nil_append, HRL.out]; omega); rw [List.nil_append] at hown2 hv2; rw [HRL.out] at hv2; subst hv2)
  have HO2 := Lib.hid hown2
  have HB2 := Lib.hid hB2
  replace HV := Lib.hid (HV.out.trans (hB2.mono HV.out.size))
  clear hown2 hg2 hat2 hB2
  go_upto_region 11 with (at_builtin; refine appR_at rfl (.tmp 79) (.tmp 80) rfl y2.heap.size (.slice (some ⟨y2.heap.size, 0, none⟩) 0 0) [] rw0 A m cap rfl (emptyR y2 (Nat.le_refl _)) rfl HRL.out ((HRC.out.below (HT0.out.trans (HV.out.mono HT0.out.size))).below ((Below.refl _ _).alloc (Nat.le_refl _) _)) (by simp; omega) (by simp) ?_; intro x3 y3 hown3 hg3 hat3; have hB3 : Below y2.heap.size y2 y3 := grown_belR ((Below.refl _ _).alloc (Nat.le_refl _) _) (emptyR y2 (Nat.le_refl _)) hg3 (Nat.le_refl _); obtain ⟨g3, cap3, cur3, hv3, hge3, -, -, -, -⟩ := hown3.blk (by rw [List.nil_append, HRL.out]; omega); rw [List.nil_append] at hown3 hv3; rw [HRL.out] at hv3; subst hv3)
  have HO3 := Lib.hid hown3
  have HB3 := Lib.hid hB3
  replace HV := Lib.hid (HV.out.trans (hB3.mono HV.out.size))
  clear hown3 hg3 hat3 hB3
  have hl1 := HO1.out.lt
  have hl2 := HO2.out.lt
  have hl3 := HO3.out.lt
  have hk1 := HB1.out.size
  have hk2 := HB2.out.size
  have h12 : g1 ≠ g2 := by omega
  have h13 : g1 ≠ g3 := by omega
  have h23 : g2 ≠ g3 := by omega
  have hw1 := HT0.out.size
  obtain ⟨T, hTe⟩ : ∃ T : Nat → Prop, T = fun b => b = g1 ∨ b = g2 ∨ b = g3 := ⟨_, rfl⟩
  have HTg := Lib.hid (show T g1 ∧ T g2 ∧ T g3 by rw [hTe]; exact ⟨.inl rfl, .inr (.inl rfl), .inr (.inr rfl)⟩)
  have HTE := Lib.hid (show ∀ b, T b → b = g1 ∨ b = g2 ∨ b = g3 by rw [hTe]; exact fun b h => h)
  have HTO := Lib.hid (show ∀ b, T b → v6.heap.size ≤ b ∧ w.heap.size ≤ b by rw [hTe]; rintro b (rfl | rfl | rfl) <;> constructor <;> omega)
  clear hTe
  have HNE := Lib.hid (And.intro h12 (And.intro h13 h23))
  have HR1 := Lib.hid (RowsT.of (T := T) ((HO1.out.below HB2.out).below HB3.out) HRL.out HM.out (fun k hk => HRI.out k (by rw [HM.out]; exact hk)) (HT0.out.trans (HV.out.mono HT0.out.size)) (fun b hb => (HTO.out b hb).2))
  have HR2 := Lib.hid (RowsT.of (T := T) (HO2.out.below HB3.out) HRL.out HM.out (fun k hk => HRI.out k (by rw [HM.out]; exact hk)) (HT0.out.trans (HV.out.mono HT0.out.size)) (fun b hb => (HTO.out b hb).2))
  have HR3 := Lib.hid (RowsT.of (T := T) HO3.out HRL.out HM.out (fun k hk => HRI.out k (by rw [HM.out]; exact hk)) (HT0.out.trans (HV.out.mono HT0.out.size)) (fun b hb => (HTO.out b hb).2))
  clear hl1 hl2 hl3 h12 h13 h23 hw1 hk1 hk2 HO1 HO2 HO3 HB1 HB2 HB3
  obtain ⟨bb, ob, hAb, hBb, q0, q1, q2, q3, q4⟩ := HRC.out.get (k := b) (by rw [HRL.out]; exact hbm)
  subst hAb
  obtain ⟨ba, oa, hAa, -, p0, p1, p2, p3, p4⟩ := HRC.out.get (k := a) (by rw [HRL.out]; exact ham)
  injection hAa with hAa
  injection hAa with e1 e2
  subst e1; subst e2
  obtain ⟨rb, hrb⟩ : ∃ r, rw0.getD b rwnil = r := ⟨_, rfl⟩
  obtain ⟨ra, hra⟩ : ∃ r, rw0.getD a rwnil = r := ⟨_, rfl⟩
  rw [hrb] at q0 q1 q2 q3 q4
  rw [hra] at p0 p1 p2 p3 p4
  have hIb := HRI.out b (by rw [HM.out]; exact hbm)
  rw [hrb] at hIb
  have hIa := HRI.out a (by rw [HM.out]; exact ham)
  rw [hra] at hIa
  clear hrb hra
  obtain ⟨Ab, nb, cb, ⟨s1, B1, n1, c1, s2, B2, n2, c2⟩⟩ := rb
  obtain ⟨Aa, na, ca, ⟨t1, D1, m1, d1, t2, D2, m2, d2⟩⟩ := ra
  simp only at q0 q1 q2 q3 q4 p0 p1 p2 p3 p4
  have hRa := HS.out.R ham
  have hRb := HS.out.R hbm
  have hnaE : m = na := by have h1 := hIa.n; have h2 := hRa.1; simp only at h1; omega
  subst hnaE
  have hnbE : m = nb := by have h1 := hIb.n; have h2 := hRb.1; simp only at h1; omega
  subst hnbE
  have HQC := Lib.hid (fun (W' : World) (hW : Below w.heap.size w W') => And.intro ((hW.cell (p := ⟨bb, _, none⟩) hBb).trans q0) (And.intro ((hW.cell (p := ⟨bb, _, none⟩) hBb).trans q1) (And.intro ((hW.cell (p := ⟨bb, _, none⟩) hBb).trans q2) (And.intro ((hW.cell (p := ⟨bb, _, none⟩) hBb).trans q3) ((hW.cell (p := ⟨bb, _, none⟩) hBb).trans q4)))))
  have HPC := Lib.hid (fun (W' : World) (hW : Below w.heap.size w W') => And.intro ((hW.cell (p := ⟨bb, _, none⟩) hBb).trans p0) (And.intro ((hW.cell (p := ⟨bb, _, none⟩) hBb).trans p1) (And.intro ((hW.cell (p := ⟨bb, _, none⟩) hBb).trans p2) (And.intro ((hW.cell (p := ⟨bb, _, none⟩) hBb).trans p3) ((hW.cell (p := ⟨bb, _, none⟩) hBb).trans p4)))))
  have HIA := Lib.hid hIa
  have HIB := Lib.hid hIb
  clear q0 q1 q2 q3 q4 p0 p1 p2 p3 p4 hIa hIb
  obtain ⟨⟨z0, z1, z2, z3, z4⟩, zl, zg, zf⟩ := HR3.out.cells HTg.out.2.2 (k := a) (by omega)
  have y0_ := zf (a * 5)
  have y1_ := zf (a * 5 + 1)
  have y2_ := zf (a * 5 + 2)
  have y3_ := zf (a * 5 + 3)
  have y4_ := zf (a * 5 + 4)
  obtain ⟨rz, hrz⟩ : ∃ r, (rw0).getD a rwnil = r := ⟨_, rfl⟩
  rw [hrz] at z0 z1 z2 z3 z4
  clear zf hrz
  obtain ⟨q0, q1, q2, q3, q4⟩ := HQC.out _ (HT0.out.trans (HV.out.mono HT0.out.size))
  go_upto_region 12 with fail
  have hfr := fr_set5 g3 (a * 5) (a * 5 + 1) (a * 5 + 2) (a * 5 + 3) (a * 5 + 4) y3 (.slice Ab m cb) (.int .i64 s1) (.slice B1 n1 c1) (.int .i64 s2) (.slice B2 n2 c2)
  have hVw := HV.out.trans (hfr.below (B := v6.heap.size) (fun b' e => by subst e; exact (HTO.out _ HTg.out.2.2).1) HV.out.size)
  have hRn := HR3.out.store HTg.out.2.2 a (r := ⟨Ab, m, cb, ⟨s1, B1, n1, c1, s2, B2, n2, c2⟩⟩) (d := rs.getD b rnil) (RwS.old HIB.out (HT0.out.trans (HV.out.mono HT0.out.size)) (fun b hb => (HTO.out b hb).2))
  simp only at hRn
  have hO_g1 := HR1.out.other HTg.out.2.2 hfr HNE.out.2.1
  have hO_g2 := HR2.out.other HTg.out.2.2 hfr HNE.out.2.2
  obtain ⟨w1, hwn⟩ : ∃ W, (((((y3.setCell ⟨g3, a * 5, none⟩ (.slice Ab m cb)).setCell ⟨g3, a * 5 + 1, none⟩ (.int .i64 s1)).setCell ⟨g3, a * 5 + 2, none⟩ (.slice B1 n1 c1)).setCell ⟨g3, a * 5 + 3, none⟩ (.int .i64 s2)).setCell ⟨g3, a * 5 + 4, none⟩ (.slice B2 n2 c2)) = W := ⟨_, rfl⟩
  rw [hwn] at hVw hRn hO_g1 hO_g2 ⊢
  clear hwn hfr z0 z1 z2 z3 z4 zl zg y0_ y1_ y2_ y3_ y4_ q0 q1 q2 q3 q4
  replace HV := Lib.hid hVw
  replace HR3 := Lib.hid hRn
  replace HR1 := Lib.hid hO_g1
  replace HR2 := Lib.hid hO_g2
  clear hVw hRn hO_g1 hO_g2
  obtain ⟨⟨z0, z1, z2, z3, z4⟩, zl, zg, zf⟩ := HR3.out.cells HTg.out.2.2 (k := b) (by omega)
  have y0_ := zf (b * 5)
  have y1_ := zf (b * 5 + 1)
  have y2_ := zf (b * 5 + 2)
  have y3_ := zf (b * 5 + 3)
  have y4_ := zf (b * 5 + 4)
  obtain ⟨rz, hrz⟩ : ∃ r, (rw0.set a ⟨Ab, m, cb, ⟨s1, B1, n1, c1, s2, B2, n2, c2⟩⟩).getD b rwnil = r := ⟨_, rfl⟩
  rw [hrz] at z0 z1 z2 z3 z4
  clear zf hrz
  obtain ⟨p0, p1, p2, p3, p4⟩ := HPC.out _ (HT0.out.trans (HV.out.mono HT0.out.size))
  go_upto_region 13 with fail
  have hfr := fr_set5 g3 (b * 5) (b * 5 + 1) (b * 5 + 2) (b * 5 + 3) (b * 5 + 4) w1 (.slice Aa m ca) (.int .i64 t1) (.slice D1 m1 d1) (.int .i64 t2) (.slice D2 m2 d2)
  have hVw := HV.out.trans (hfr.below (B := v6.heap.size) (fun b' e => by subst e; exact (HTO.out _ HTg.out.2.2).1) HV.out.size)
  have hRn := HR3.out.store HTg.out.2.2 b (r := ⟨Aa, m, ca, ⟨t1, D1, m1, d1, t2, D2, m2, d2⟩⟩) (d := rs.getD a rnil) (RwS.old HIA.out (HT0.out.trans (HV.out.mono HT0.out.size)) (fun b hb => (HTO.out b hb).2))
  simp only at hRn
  have hO_g1 := HR1.out.other HTg.out.2.2 hfr HNE.out.2.1
  have hO_g2 := HR2.out.other HTg.out.2.2 hfr HNE.out.2.2
  obtain ⟨w2, hwn⟩ : ∃ W, (((((w1.setCell ⟨g3, b * 5, none⟩ (.slice Aa m ca)).setCell ⟨g3, b * 5 + 1, none⟩ (.int .i64 t1)).setCell ⟨g3, b * 5 + 2, none⟩ (.slice D1 m1 d1)).setCell ⟨g3, b * 5 + 3, none⟩ (.int .i64 t2)).setCell ⟨g3, b * 5 + 4, none⟩ (.slice D2 m2 d2)) = W := ⟨_, rfl⟩
  rw [hwn] at hVw hRn hO_g1 hO_g2 ⊢
  clear hwn hfr z0 z1 z2 z3 z4 zl zg y0_ y1_ y2_ y3_ y4_ p0 p1 p2 p3 p4
  replace HV := Lib.hid hVw
  replace HR3 := Lib.hid hRn
  replace HR1 := Lib.hid hO_g1
  replace HR2 := Lib.hid hO_g2
  clear hVw hRn hO_g1 hO_g2
  have hTL : ∀ b, T b → b < w2.heap.size := fun b hb => by
    have h1 := HR1.out.own.lt.2
    have h2 := HR2.out.own.lt.2
    have h3 := HR3.out.own.lt.2
    rcases HTE.out b hb with rfl | rfl | rfl <;> assumption
  have HTL := Lib.hid hTL; clear hTL
  have e0 : ∀ W' : World, Below w2.heap.size w2 W' → W'.cell? ⟨bb, ob + a * 5, none⟩ = some (.slice Aa m ca) ∧ W'.cell? ⟨bb, ob + a * 5 + 1, none⟩ = some (.int .i64 t1) ∧ W'.cell? ⟨bb, ob + a * 5 + 2, none⟩ = some (.slice D1 m1 d1) ∧ W'.cell? ⟨bb, ob + a * 5 + 3, none⟩ = some (.int .i64 t2) ∧ W'.cell? ⟨bb, ob + a * 5 + 4, none⟩ = some (.slice D2 m2 d2) ∧ W'.cell? ⟨w.heap.size, 0, none⟩ = some (.int .i64 f1) ∧ W'.cell? ⟨w.heap.size, 1, none⟩ = some (.slice F1 fn1 fc1) ∧ W'.cell? ⟨w.heap.size, 2, none⟩ = some (.int .i64 f2) ∧ W'.cell? ⟨w.heap.size, 3, none⟩ = some (.slice F2 fn2 fc2) ∧ Below w2.heap.size w2 W' := fun W' hW => by
    have hWw := (HT0.out.trans (HV.out.mono HT0.out.size)).trans (hW.mono (HT0.out.trans (HV.out.mono HT0.out.size)).size)
    obtain ⟨p0, p1, p2, p3, p4⟩ := HPC.out _ hWw
    have kf := HKF.out.below (HV.out.trans (hW.mono HV.out.size)) HKF.out.lt
    exact ⟨p0, p1, p2, p3, p4, kf.cell 0, kf.cell 1, kf.cell 2, kf.cell 3, hW⟩
  have E0 := Lib.hid e0; clear e0
  have hB00 : Below w2.heap.size w2 w2.drew := (Below.refl _ _).drew
  have HTM := Lib.hid (fun (W' : World) (hW : Below w2.heap.size w2 W') => ltimes_any (c := ca) (f := ⟨t1, D1, m1, d1, t2, D2, m2, d2⟩) (g := ⟨f1, F1, fn1, fc1, f2, F2, fn2, fc2⟩) W' (HIA.out.a.below ((HT0.out.trans (HV.out.mono HT0.out.size)).trans (hW.mono (HT0.out.trans (HV.out.mono HT0.out.size)).size))) hRa.1 (by omega) (fun j hj => hRa.2.1 j hj) ((fd_fa (HIA.out.below ((HT0.out.trans (HV.out.mono HT0.out.size)).trans (hW.mono (HT0.out.trans (HV.out.mono HT0.out.size)).size))).v hRa.2.2).less (fun _ h => h.elim)) ((fd_fa (HFD.out.below ((HT0.out.trans (HV.out.mono HT0.out.size)).trans (hW.mono (HT0.out.trans (HV.out.mono HT0.out.size)).size))) HFR.out).less (fun _ h => h.elim)) (fun j hj => okMul_of ((HS.out.bits a ham).1 j hj) HFB.out (by decide) (by decide)) (okMul_of (HS.out.bits a ham).2 HFB.out (by decide) (by decide)))
  go_cut [18, 19] from 96 to 104 (fun p e wx => ∃ (G8 : Nat) (A6 : Option Addr) (n6 c6 : Nat) (x1 : Int) (X1 : Option Addr) (xn1 xc1 : Nat) (x2 : Int) (X2 : Option Addr) (xn2 xc2 : Nat), p = .pointer (some ⟨G8, 0, none⟩) ∧ e = .bool true ∧ Blk wx G8 45 #[.slice A6 n6 c6, .int .i64 x1, .slice X1 xn1 xc1, .int .i64 x2, .slice X2 xn2 xc2] ∧ RwS T wx ⟨A6, n6, c6, ⟨x1, X1, xn1, xc1, x2, X2, xn2, xc2⟩⟩ (mkR m (fun k => ((rs.getD a rnil).A.getD k dnil).q * fd.q) ((rs.getD a rnil).v.q * fd.q)) ∧ Below w2.heap.size w2 wx ∧ w2.heap.size ≤ G8)
  case first =>
    go_region_held3 (fun W' => W'.cell? ⟨bb, ob + a * 5, none⟩ = some (.slice Aa m ca) ∧ W'.cell? ⟨bb, ob + a * 5 + 1, none⟩ = some (.int .i64 t1) ∧ W'.cell? ⟨bb, ob + a * 5 + 2, none⟩ = some (.slice D1 m1 d1) ∧ W'.cell? ⟨bb, ob + a * 5 + 3, none⟩ = some (.int .i64 t2) ∧ W'.cell? ⟨bb, ob + a * 5 + 4, none⟩ = some (.slice D2 m2 d2) ∧ W'.cell? ⟨w.heap.size, 0, none⟩ = some (.int .i64 f1) ∧ W'.cell? ⟨w.heap.size, 1, none⟩ = some (.slice F1 fn1 fc1) ∧ W'.cell? ⟨w.heap.size, 2, none⟩ = some (.int .i64 f2) ∧ W'.cell? ⟨w.heap.size, 3, none⟩ = some (.slice F2 fn2 fc2) ∧ Below w2.heap.size w2 W')
      (first | exact E0.out _ (below_st5 hB4 (Nat.le_refl _) _ _ _ _ _) | exact E0.out _ (below_new hB4 _) | exact E0.out _ (below_new hB00 _) | exact E0.out _ (by assumption) | exact E0.out _ ⟨rfl, rfl, rfl, Nat.le_refl _, fun _ _ => rfl⟩)
      (first
        | (go_at_call 19; (first | refine (HTM.out _ hB00).mono ?_ | refine (HTM.out _ (below_new hB00 _)).mono ?_); rintro e w4 ⟨⟨A6, n6, c6, ⟨x1, X1, xn1, xc1, x2, X2, xn2, xc2⟩⟩, rfl, hr6, hb4⟩; have hB4 : Below w2.heap.size w2 w4 := (by first | exact ⟨hb4.os, hb4.tape, hb4.output, hb4.size, hb4.block⟩ | exact (below_new hB00 _).trans (hb4.mono (below_new hB00 _).size)); (try (have hk4 : Blk w4 w2.heap.size 45 #[.slice none 0 0, .int .i64 0, .slice none 0 0, .int .i64 0, .slice none 0 0] := blk_run5 (b := w2.drew) hb4; have hlt4 := hk4.lt; have z0 := hk4.cell 0; have z1 := hk4.cell 1; have z2 := hk4.cell 2; have z3 := hk4.cell 3; have z4 := hk4.cell 4; have y0_ := hk4.frozen 0; have y1_ := hk4.frozen 1; have y2_ := hk4.frozen 2; have y3_ := hk4.frozen 3; have y4_ := hk4.frozen 4))))
    all_goals
      go_wp2_with fail
      go_meet
      first
        | exact ⟨_, A6, n6, c6, x1, X1, xn1, xc1, x2, X2, xn2, xc2, rfl, rfl, hk4.set5 _ _ _ _ _, rw_st hr6.out (fun b hb => by have := HTL.out b hb; first | omega | (simp; omega)) (by simp), below_st5 hB4 (Nat.le_refl _) _ _ _ _ _, Nat.le_refl _⟩
        | exact ⟨_, A6, n6, c6, x1, X1, xn1, xc1, x2, X2, xn2, xc2, rfl, rfl, Blk.new _ _ _, rw_new hr6.out (fun b hb => by have := HTL.out b hb; first | omega | (simp; omega)) _, below_new hB4 _, hB4.size⟩
  obtain ⟨G8, A6, n6, c6, x1, X1, xn1, xc1, x2, X2, xn2, xc2, rfl, rfl, k8, r8, hb5, hge5⟩ := hcut
  replace HV := Lib.hid (HV.out.trans (hb5.mono HV.out.size))
  replace HR1 := Lib.hid (HR1.out.below hb5)
  replace HR2 := Lib.hid (HR2.out.below hb5)
  replace HR3 := Lib.hid (HR3.out.below hb5)
  have HK8 := Lib.hid k8
  have HW8 := Lib.hid r8
  clear HTM E0 hB00 k8 r8 hb5 hge5 HTL
  obtain ⟨w3, hw3⟩ : ∃ W, W = wc := ⟨_, rfl⟩
  subst hw3
  go_upto_region 14 with fail
  have hTL : ∀ b, T b → b < w3.heap.size := fun b hb => by
    have h1 := HR1.out.own.lt.2
    have h2 := HR2.out.own.lt.2
    have h3 := HR3.out.own.lt.2
    rcases HTE.out b hb with rfl | rfl | rfl <;> assumption
  have HTL := Lib.hid hTL; clear hTL
  have e0 : ∀ W' : World, Below w3.heap.size w3 W' → W'.cell? ⟨bb, ob + a * 5, none⟩ = some (.slice Aa m ca) ∧ W'.cell? ⟨bb, ob + a * 5 + 1, none⟩ = some (.int .i64 t1) ∧ W'.cell? ⟨bb, ob + a * 5 + 2, none⟩ = some (.slice D1 m1 d1) ∧ W'.cell? ⟨bb, ob + a * 5 + 3, none⟩ = some (.int .i64 t2) ∧ W'.cell? ⟨bb, ob + a * 5 + 4, none⟩ = some (.slice D2 m2 d2) ∧ W'.cell? ⟨bb, ob + b * 5, none⟩ = some (.slice Ab m cb) ∧ W'.cell? ⟨bb, ob + b * 5 + 1, none⟩ = some (.int .i64 s1) ∧ W'.cell? ⟨bb, ob + b * 5 + 2, none⟩ = some (.slice B1 n1 c1) ∧ W'.cell? ⟨bb, ob + b * 5 + 3, none⟩ = some (.int .i64 s2) ∧ W'.cell? ⟨bb, ob + b * 5 + 4, none⟩ = some (.slice B2 n2 c2) ∧ Below w3.heap.size w3 W' := fun W' hW => by
    have hWw := (HT0.out.trans (HV.out.mono HT0.out.size)).trans (hW.mono (HT0.out.trans (HV.out.mono HT0.out.size)).size)
    obtain ⟨p0, p1, p2, p3, p4⟩ := HPC.out _ hWw
    obtain ⟨q0, q1, q2, q3, q4⟩ := HQC.out _ hWw
    exact ⟨p0, p1, p2, p3, p4, q0, q1, q2, q3, q4, hW⟩
  have E0 := Lib.hid e0; clear e0
  have hB00 : Below w3.heap.size w3 w3.drew := (Below.refl _ _).drew
  have HTM := Lib.hid (fun (W' : World) (hW : Below w3.heap.size w3 W') => lplus_any (c := ca) (d := cb) (f := ⟨t1, D1, m1, d1, t2, D2, m2, d2⟩) (g := ⟨s1, B1, n1, c1, s2, B2, n2, c2⟩) W' (HIA.out.a.below ((HT0.out.trans (HV.out.mono HT0.out.size)).trans (hW.mono (HT0.out.trans (HV.out.mono HT0.out.size)).size))) (HIB.out.a.below ((HT0.out.trans (HV.out.mono HT0.out.size)).trans (hW.mono (HT0.out.trans (HV.out.mono HT0.out.size)).size))) hRa.1 hRb.1 (by omega) (fun j hj => hRa.2.1 j hj) (fun j hj => hRb.2.1 j hj) ((fd_fa (HIA.out.below ((HT0.out.trans (HV.out.mono HT0.out.size)).trans (hW.mono (HT0.out.trans (HV.out.mono HT0.out.size)).size))).v hRa.2.2).less (fun _ h => h.elim)) ((fd_fa (HIB.out.below ((HT0.out.trans (HV.out.mono HT0.out.size)).trans (hW.mono (HT0.out.trans (HV.out.mono HT0.out.size)).size))).v hRb.2.2).less (fun _ h => h.elim)) (fun j hj => okAdd_of (m := 40) ((HS.out.bits a ham).1 j hj) ((HS.out.bits b hbm).1 j hj) (by decide) (by decide) (by decide) (by decide)) (okAdd_of (m := 40) (HS.out.bits a ham).2 (HS.out.bits b hbm).2 (by decide) (by decide) (by decide) (by decide)))
  go_cut [20, 21] from 105 to 116 (fun p e wx => ∃ (G8 : Nat) (A7 : Option Addr) (n7 c7 : Nat) (v1 : Int) (V1 : Option Addr) (vn1 vc1 : Nat) (v2 : Int) (V2 : Option Addr) (vn2 vc2 : Nat), p = .pointer (some ⟨G8, 0, none⟩) ∧ e = .bool true ∧ Blk wx G8 45 #[.slice A7 n7 c7, .int .i64 v1, .slice V1 vn1 vc1, .int .i64 v2, .slice V2 vn2 vc2] ∧ RwS T wx ⟨A7, n7, c7, ⟨v1, V1, vn1, vc1, v2, V2, vn2, vc2⟩⟩ (mkR m (fun k => ((rs.getD a rnil).A.getD k dnil).q + ((rs.getD b rnil).A.getD k dnil).q) ((rs.getD a rnil).v.q + (rs.getD b rnil).v.q)) ∧ Below w3.heap.size w3 wx ∧ w3.heap.size ≤ G8)
  case first =>
    go_region_held3 (fun W' => W'.cell? ⟨bb, ob + a * 5, none⟩ = some (.slice Aa m ca) ∧ W'.cell? ⟨bb, ob + a * 5 + 1, none⟩ = some (.int .i64 t1) ∧ W'.cell? ⟨bb, ob + a * 5 + 2, none⟩ = some (.slice D1 m1 d1) ∧ W'.cell? ⟨bb, ob + a * 5 + 3, none⟩ = some (.int .i64 t2) ∧ W'.cell? ⟨bb, ob + a * 5 + 4, none⟩ = some (.slice D2 m2 d2) ∧ W'.cell? ⟨bb, ob + b * 5, none⟩ = some (.slice Ab m cb) ∧ W'.cell? ⟨bb, ob + b * 5 + 1, none⟩ = some (.int .i64 s1) ∧ W'.cell? ⟨bb, ob + b * 5 + 2, none⟩ = some (.slice B1 n1 c1) ∧ W'.cell? ⟨bb, ob + b * 5 + 3, none⟩ = some (.int .i64 s2) ∧ W'.cell? ⟨bb, ob + b * 5 + 4, none⟩ = some (.slice B2 n2 c2) ∧ Below w3.heap.size w3 W')
      (first | exact E0.out _ (below_st5 hB4 (Nat.le_refl _) _ _ _ _ _) | exact E0.out _ (below_new hB4 _) | exact E0.out _ (below_new hB00 _) | exact E0.out _ (by assumption) | exact E0.out _ ⟨rfl, rfl, rfl, Nat.le_refl _, fun _ _ => rfl⟩)
      (first
        | (go_at_call 20; (first | refine (HTM.out _ hB00).mono ?_ | refine (HTM.out _ (below_new hB00 _)).mono ?_); rintro e w4 ⟨⟨A7, n7, c7, ⟨v1, V1, vn1, vc1, v2, V2, vn2, vc2⟩⟩, rfl, hr6, hb4⟩; have hB4 : Below w3.heap.size w3 w4 := (by first | exact ⟨hb4.os, hb4.tape, hb4.output, hb4.size, hb4.block⟩ | exact (below_new hB00 _).trans (hb4.mono (below_new hB00 _).size)); (try (have hk4 : Blk w4 w3.heap.size 45 #[.slice none 0 0, .int .i64 0, .slice none 0 0, .int .i64 0, .slice none 0 0] := blk_run5 (b := w3.drew) hb4; have hlt4 := hk4.lt; have z0 := hk4.cell 0; have z1 := hk4.cell 1; have z2 := hk4.cell 2; have z3 := hk4.cell 3; have z4 := hk4.cell 4; have y0_ := hk4.frozen 0; have y1_ := hk4.frozen 1; have y2_ := hk4.frozen 2; have y3_ := hk4.frozen 3; have y4_ := hk4.frozen 4))))
    all_goals
      go_wp2_with fail
      go_meet
      first
        | exact ⟨_, A7, n7, c7, v1, V1, vn1, vc1, v2, V2, vn2, vc2, rfl, rfl, hk4.set5 _ _ _ _ _, rw_st hr6.out (fun b hb => by have := HTL.out b hb; first | omega | (simp; omega)) (by simp), below_st5 hB4 (Nat.le_refl _) _ _ _ _ _, Nat.le_refl _⟩
        | exact ⟨_, A7, n7, c7, v1, V1, vn1, vc1, v2, V2, vn2, vc2, rfl, rfl, Blk.new _ _ _, rw_new hr6.out (fun b hb => by have := HTL.out b hb; first | omega | (simp; omega)) _, below_new hB4 _, hB4.size⟩
  obtain ⟨G9, A7, n7, c7, v1, V1, vn1, vc1, v2, V2, vn2, vc2, rfl, rfl, k9, r9, hb5, hge5⟩ := hcut
  have h91 : G9 ≠ g1 := fun e => by have := HTL.out _ HTg.out.1; omega
  replace HV := Lib.hid (HV.out.trans (hb5.mono HV.out.size))
  replace HR1 := Lib.hid (HR1.out.below hb5)
  replace HR2 := Lib.hid (HR2.out.below hb5)
  replace HR3 := Lib.hid (HR3.out.below hb5)
  replace HK8 := Lib.hid (HK8.out.below hb5 HK8.out.lt)
  replace HW8 := Lib.hid (HW8.out.below hb5)
  have HK9 := Lib.hid k9
  have HW9 := Lib.hid r9
  clear HTM E0 hB00 k9 r9 hb5 hge5 HTL
  obtain ⟨w4, hw4⟩ : ∃ W, W = wc := ⟨_, rfl⟩
  subst hw4
  have hone : (!true) = false := rfl
  obtain ⟨⟨z0, z1, z2, z3, z4⟩, zl, zg, zf⟩ := HR1.out.cells HTg.out.1 (k := a) (by omega)
  have y0_ := zf (a * 5)
  have y1_ := zf (a * 5 + 1)
  have y2_ := zf (a * 5 + 2)
  have y3_ := zf (a * 5 + 3)
  have y4_ := zf (a * 5 + 4)
  obtain ⟨rz, hrz⟩ : ∃ r, (rw0).getD a rwnil = r := ⟨_, rfl⟩
  rw [hrz] at z0 z1 z2 z3 z4
  clear zf hrz
  have q0 := HK8.out.cell 0
  have q1 := HK8.out.cell 1
  have q2 := HK8.out.cell 2
  have q3 := HK8.out.cell 3
  have q4 := HK8.out.cell 4
  simp at q0 q1 q2 q3 q4
  go_upto_region 18 with fail
  have hfr := fr_set5 g1 (a * 5) (a * 5 + 1) (a * 5 + 2) (a * 5 + 3) (a * 5 + 4) w4 (.slice A6 n6 c6) (.int .i64 x1) (.slice X1 xn1 xc1) (.int .i64 x2) (.slice X2 xn2 xc2)
  have hVw := HV.out.trans (hfr.below (B := v6.heap.size) (fun b' e => by subst e; exact (HTO.out _ HTg.out.1).1) HV.out.size)
  have hRn := HR1.out.store HTg.out.1 a (r := ⟨A6, n6, c6, ⟨x1, X1, xn1, xc1, x2, X2, xn2, xc2⟩⟩) (d := mkR m (fun k => ((rs.getD a rnil).A.getD k dnil).q * fd.q) ((rs.getD a rnil).v.q * fd.q)) (HW8.out)
  simp only at hRn
  have hO_g2 := HR2.out.other HTg.out.1 hfr HNE.out.1.symm
  have hO_g3 := HR3.out.other HTg.out.1 hfr HNE.out.2.1.symm
  have hk9n := HK9.out.fr hfr h91
  have hr9n := HW9.out.fr (hfr.more (T := T) (fun b hb => by rw [hb]; exact HTg.out.1))
  obtain ⟨w5, hwn⟩ : ∃ W, (((((w4.setCell ⟨g1, a * 5, none⟩ (.slice A6 n6 c6)).setCell ⟨g1, a * 5 + 1, none⟩ (.int .i64 x1)).setCell ⟨g1, a * 5 + 2, none⟩ (.slice X1 xn1 xc1)).setCell ⟨g1, a * 5 + 3, none⟩ (.int .i64 x2)).setCell ⟨g1, a * 5 + 4, none⟩ (.slice X2 xn2 xc2)) = W := ⟨_, rfl⟩
  rw [hwn] at hVw hRn hO_g2 hO_g3 hk9n hr9n ⊢
  clear hwn hfr z0 z1 z2 z3 z4 zl zg y0_ y1_ y2_ y3_ y4_ q0 q1 q2 q3 q4
  replace HV := Lib.hid hVw
  replace HR1 := Lib.hid hRn
  replace HR2 := Lib.hid hO_g2
  replace HR3 := Lib.hid hO_g3
  clear hVw hRn hO_g2 hO_g3
  replace HK9 := Lib.hid hk9n
  replace HW9 := Lib.hid hr9n
  clear hk9n hr9n HK8 HW8
  have hLa : ∀ j, j < m → Bt (((rs.getD a rnil).A.getD j dnil).q * fd.q) 400 400 := fun j hj => (((HS.out.bits a ham).1 j hj).mul HFB.out).more (by decide) (by decide)
  have hLv : Bt ((rs.getD a rnil).v.q * fd.q) 400 400 := ((HS.out.bits a ham).2.mul HFB.out).more (by decide) (by decide)
  have HSY1 := Lib.hid (SysR.set (a := a) HS.out.sys (mkR_R hLa hLv))
  have HSL1 := Lib.hid (scaled_sol HS.out ham HFZ.out)
  clear hLa hLv
  by_cases hab : a = b
  · have hab' : ((a : Int) == (b : Int)) = true := by simp [hab]
    have HSY2 := Lib.hid HS.out.sys
    clear hab HK9 HW9
    go_upto_region 20 with fail
    go_wp2_with fail
    (with_reducible refine (solve_like _ HR1.out.rds HS.out.sys HSY1.out hm5 HSL1.out HFRE.out).mono ?_)
    rintro e v7 ⟨A10, n10, c10, e10, rfl, hb5, hd10⟩
    replace HV := Lib.hid (HV.out.trans (hb5.mono HV.out.size))
    replace HR1 := Lib.hid (HR1.out.below hb5)
    replace HR2 := Lib.hid (HR2.out.below hb5)
    replace HR3 := Lib.hid (HR3.out.below hb5)
    rw [HEV.out.1, HEV.out.2, HN9.out] at hd10
    have HD10 := Lib.hid hd10
    clear hd10 hb5
    go_wp2_with fail
    (with_reducible refine (solve_like _ HR2.out.rds HS.out.sys HSY2.out hm5 (fun _ _ => Iff.rfl) HFRE.out).mono ?_)
    rintro e v8 ⟨A11, n11, c11, e11, rfl, hb5, hd11⟩
    replace HV := Lib.hid (HV.out.trans (hb5.mono HV.out.size))
    replace HR1 := Lib.hid (HR1.out.below hb5)
    replace HR2 := Lib.hid (HR2.out.below hb5)
    replace HR3 := Lib.hid (HR3.out.below hb5)
    rw [HEV.out.1, HEV.out.2, HN9.out] at hd11
    have HD11 := Lib.hid hd11
    replace HD10 := Lib.hid (HD10.out.imp id (fun h => And.intro h.1 (And.intro h.2.1 (h.2.2.below hb5))))
    clear hd11 hb5
    go_wp2_with fail
    (with_reducible refine (solve_same _ HR3.out.rds HS.out (HS.out.turn ham hbm).1 (HS.out.turn ham hbm).2 HFRE.out).mono ?_)
    rintro e v9 ⟨A12, c12, rfl, hq12, hb5⟩
    replace HV := Lib.hid (HV.out.trans (hb5.mono HV.out.size))
    replace HR1 := Lib.hid (HR1.out.below hb5)
    replace HR2 := Lib.hid (HR2.out.below hb5)
    replace HR3 := Lib.hid (HR3.out.below hb5)
    replace HD10 := Lib.hid (HD10.out.imp id (fun h => And.intro h.1 (And.intro h.2.1 (h.2.2.below hb5))))
    replace HD11 := Lib.hid (HD11.out.imp id (fun h => And.intro h.1 (And.intro h.2.1 (h.2.2.below hb5))))
    rw [HEV.out.1, HEV.out.2, HN9.out]
    rw [HEV.out.2] at hq12
    have HQ12 := Lib.hid hq12
    clear hq12 hb5 HEV
    have HQ0 := Lib.hid (HQ.out.below HV.out)
    have HTT := Lib.hid (HT0.out.trans (HV.out.mono HT0.out.size))
    clear HR1 HR2 HR3 HSY1 HSY2 HSL1 HV HQ
    rcases he6.out with he | he
    · subst he
      clear he6
      rcases HD10.out with h6 | ⟨h6, hn10, hq10⟩
      · subst h6
        clear HD10
        rcases HD11.out with h6 | ⟨h6, hn11, hq11⟩
        · subst h6
          clear HD11
          go_wp2_with fail
          (with_reducible refine (rlsame_true _ HQ0.out HQ12.out HN9.out (by omega)).mono ?_)
          rintro e u4 ⟨rfl, hb5⟩
          replace HTT := Lib.hid (HTT.out.trans (hb5.mono HTT.out.size))
          replace HQ0 := Lib.hid (HQ0.out.below hb5)
          replace HQ12 := Lib.hid (HQ12.out.below hb5)
          clear hb5
          go_wp2_with fail
          go_ret
          exact ⟨rfl, HTT.out⟩
        · subst h6
          subst hn11
          have HQ11 := Lib.hid hq11
          clear hq11 HD11
          go_wp2_with fail
          (with_reducible refine (rlsame_true _ HQ0.out HQ11.out HN9.out (by omega)).mono ?_)
          rintro e u5 ⟨rfl, hb5⟩
          replace HTT := Lib.hid (HTT.out.trans (hb5.mono HTT.out.size))
          replace HQ0 := Lib.hid (HQ0.out.below hb5)
          replace HQ12 := Lib.hid (HQ12.out.below hb5)
          clear hb5
          go_wp2_with fail
          (with_reducible refine (rlsame_true _ HQ0.out HQ12.out HN9.out (by omega)).mono ?_)
          rintro e u6 ⟨rfl, hb5⟩
          replace HTT := Lib.hid (HTT.out.trans (hb5.mono HTT.out.size))
          replace HQ0 := Lib.hid (HQ0.out.below hb5)
          replace HQ12 := Lib.hid (HQ12.out.below hb5)
          clear hb5
          go_wp2_with fail
          go_ret
          exact ⟨rfl, HTT.out⟩
      · subst h6
        subst hn10
        have HQ10 := Lib.hid hq10
        clear hq10 HD10
        rcases HD11.out with h6 | ⟨h6, hn11, hq11⟩
        · subst h6
          clear HD11
          go_wp2_with fail
          (with_reducible refine (rlsame_true _ HQ0.out HQ10.out HN9.out (by omega)).mono ?_)
          rintro e u3 ⟨rfl, hb5⟩
          replace HTT := Lib.hid (HTT.out.trans (hb5.mono HTT.out.size))
          replace HQ0 := Lib.hid (HQ0.out.below hb5)
          replace HQ12 := Lib.hid (HQ12.out.below hb5)
          clear hb5
          go_wp2_with fail
          (with_reducible refine (rlsame_true _ HQ0.out HQ12.out HN9.out (by omega)).mono ?_)
          rintro e u4 ⟨rfl, hb5⟩
          replace HTT := Lib.hid (HTT.out.trans (hb5.mono HTT.out.size))
          replace HQ0 := Lib.hid (HQ0.out.below hb5)
          replace HQ12 := Lib.hid (HQ12.out.below hb5)
          clear hb5
          go_wp2_with fail
          go_ret
          exact ⟨rfl, HTT.out⟩
        · subst h6
          subst hn11
          have HQ11 := Lib.hid hq11
          clear hq11 HD11
          go_wp2_with fail
          (with_reducible refine (rlsame_true _ HQ0.out HQ10.out HN9.out (by omega)).mono ?_)
          rintro e u3 ⟨rfl, hb5⟩
          replace HTT := Lib.hid (HTT.out.trans (hb5.mono HTT.out.size))
          replace HQ0 := Lib.hid (HQ0.out.below hb5)
          replace HQ12 := Lib.hid (HQ12.out.below hb5)
          replace HQ11 := Lib.hid (HQ11.out.below hb5)
          clear hb5
          go_wp2_with fail
          (with_reducible refine (rlsame_true _ HQ0.out HQ11.out HN9.out (by omega)).mono ?_)
          rintro e u5 ⟨rfl, hb5⟩
          replace HTT := Lib.hid (HTT.out.trans (hb5.mono HTT.out.size))
          replace HQ0 := Lib.hid (HQ0.out.below hb5)
          replace HQ12 := Lib.hid (HQ12.out.below hb5)
          clear hb5
          go_wp2_with fail
          (with_reducible refine (rlsame_true _ HQ0.out HQ12.out HN9.out (by omega)).mono ?_)
          rintro e u6 ⟨rfl, hb5⟩
          replace HTT := Lib.hid (HTT.out.trans (hb5.mono HTT.out.size))
          replace HQ0 := Lib.hid (HQ0.out.below hb5)
          replace HQ12 := Lib.hid (HQ12.out.below hb5)
          clear hb5
          go_wp2_with fail
          go_ret
          exact ⟨rfl, HTT.out⟩
    · subst he
      clear he6
      rcases HD10.out with h6 | ⟨h6, hn10, hq10⟩
      · subst h6
        clear HD10
        rcases HD11.out with h6 | ⟨h6, hn11, hq11⟩
        · subst h6
          clear HD11
          go_wp2_with fail
          (with_reducible refine (rlsame_true _ HQ0.out HQ12.out HN9.out (by omega)).mono ?_)
          rintro e u4 ⟨rfl, hb5⟩
          replace HTT := Lib.hid (HTT.out.trans (hb5.mono HTT.out.size))
          replace HQ0 := Lib.hid (HQ0.out.below hb5)
          replace HQ12 := Lib.hid (HQ12.out.below hb5)
          clear hb5
          go_wp2_with fail
          go_ret
          exact ⟨rfl, HTT.out⟩
        · subst h6
          subst hn11
          have HQ11 := Lib.hid hq11
          clear hq11 HD11
          go_wp2_with fail
          (with_reducible refine (rlsame_true _ HQ0.out HQ11.out HN9.out (by omega)).mono ?_)
          rintro e u5 ⟨rfl, hb5⟩
          replace HTT := Lib.hid (HTT.out.trans (hb5.mono HTT.out.size))
          replace HQ0 := Lib.hid (HQ0.out.below hb5)
          replace HQ12 := Lib.hid (HQ12.out.below hb5)
          clear hb5
          go_wp2_with fail
          (with_reducible refine (rlsame_true _ HQ0.out HQ12.out HN9.out (by omega)).mono ?_)
          rintro e u6 ⟨rfl, hb5⟩
          replace HTT := Lib.hid (HTT.out.trans (hb5.mono HTT.out.size))
          replace HQ0 := Lib.hid (HQ0.out.below hb5)
          replace HQ12 := Lib.hid (HQ12.out.below hb5)
          clear hb5
          go_wp2_with fail
          go_ret
          exact ⟨rfl, HTT.out⟩
      · subst h6
        subst hn10
        have HQ10 := Lib.hid hq10
        clear hq10 HD10
        rcases HD11.out with h6 | ⟨h6, hn11, hq11⟩
        · subst h6
          clear HD11
          go_wp2_with fail
          (with_reducible refine (rlsame_true _ HQ0.out HQ10.out HN9.out (by omega)).mono ?_)
          rintro e u3 ⟨rfl, hb5⟩
          replace HTT := Lib.hid (HTT.out.trans (hb5.mono HTT.out.size))
          replace HQ0 := Lib.hid (HQ0.out.below hb5)
          replace HQ12 := Lib.hid (HQ12.out.below hb5)
          clear hb5
          go_wp2_with fail
          (with_reducible refine (rlsame_true _ HQ0.out HQ12.out HN9.out (by omega)).mono ?_)
          rintro e u4 ⟨rfl, hb5⟩
          replace HTT := Lib.hid (HTT.out.trans (hb5.mono HTT.out.size))
          replace HQ0 := Lib.hid (HQ0.out.below hb5)
          replace HQ12 := Lib.hid (HQ12.out.below hb5)
          clear hb5
          go_wp2_with fail
          go_ret
          exact ⟨rfl, HTT.out⟩
        · subst h6
          subst hn11
          have HQ11 := Lib.hid hq11
          clear hq11 HD11
          go_wp2_with fail
          (with_reducible refine (rlsame_true _ HQ0.out HQ10.out HN9.out (by omega)).mono ?_)
          rintro e u3 ⟨rfl, hb5⟩
          replace HTT := Lib.hid (HTT.out.trans (hb5.mono HTT.out.size))
          replace HQ0 := Lib.hid (HQ0.out.below hb5)
          replace HQ12 := Lib.hid (HQ12.out.below hb5)
          replace HQ11 := Lib.hid (HQ11.out.below hb5)
          clear hb5
          go_wp2_with fail
          (with_reducible refine (rlsame_true _ HQ0.out HQ11.out HN9.out (by omega)).mono ?_)
          rintro e u5 ⟨rfl, hb5⟩
          replace HTT := Lib.hid (HTT.out.trans (hb5.mono HTT.out.size))
          replace HQ0 := Lib.hid (HQ0.out.below hb5)
          replace HQ12 := Lib.hid (HQ12.out.below hb5)
          clear hb5
          go_wp2_with fail
          (with_reducible refine (rlsame_true _ HQ0.out HQ12.out HN9.out (by omega)).mono ?_)
          rintro e u6 ⟨rfl, hb5⟩
          replace HTT := Lib.hid (HTT.out.trans (hb5.mono HTT.out.size))
          replace HQ0 := Lib.hid (HQ0.out.below hb5)
          replace HQ12 := Lib.hid (HQ12.out.below hb5)
          clear hb5
          go_wp2_with fail
          go_ret
          exact ⟨rfl, HTT.out⟩
  · have hab' : ((a : Int) == (b : Int)) = false := by simp; omega
    have hLa : ∀ j, j < m → Bt (((rs.getD a rnil).A.getD j dnil).q + ((rs.getD b rnil).A.getD j dnil).q) 400 400 := fun j hj => (((HS.out.bits a ham).1 j hj).add (m := 40) ((HS.out.bits b hbm).1 j hj) (by decide) (by decide)).more (by decide) (by decide)
    have hLv : Bt ((rs.getD a rnil).v.q + (rs.getD b rnil).v.q) 400 400 := ((HS.out.bits a ham).2.add (m := 40) (HS.out.bits b hbm).2 (by decide) (by decide)).more (by decide) (by decide)
    have HSY2 := Lib.hid (SysR.set (a := a) HS.out.sys (mkR_R hLa hLv))
    have HSL2 := Lib.hid (plus_sol HS.out ham hbm hab)
    clear hLa hLv hab
    obtain ⟨⟨z0, z1, z2, z3, z4⟩, zl, zg, zf⟩ := HR2.out.cells HTg.out.2.1 (k := a) (by omega)
    have y0_ := zf (a * 5)
    have y1_ := zf (a * 5 + 1)
    have y2_ := zf (a * 5 + 2)
    have y3_ := zf (a * 5 + 3)
    have y4_ := zf (a * 5 + 4)
    obtain ⟨rz, hrz⟩ : ∃ r, (rw0).getD a rwnil = r := ⟨_, rfl⟩
    rw [hrz] at z0 z1 z2 z3 z4
    clear zf hrz
    have q0 := HK9.out.cell 0
    have q1 := HK9.out.cell 1
    have q2 := HK9.out.cell 2
    have q3 := HK9.out.cell 3
    have q4 := HK9.out.cell 4
    simp at q0 q1 q2 q3 q4
    go_upto_region 20 with fail
    have hfr := fr_set5 g2 (a * 5) (a * 5 + 1) (a * 5 + 2) (a * 5 + 3) (a * 5 + 4) w5 (.slice A7 n7 c7) (.int .i64 v1) (.slice V1 vn1 vc1) (.int .i64 v2) (.slice V2 vn2 vc2)
    have hVw := HV.out.trans (hfr.below (B := v6.heap.size) (fun b' e => by subst e; exact (HTO.out _ HTg.out.2.1).1) HV.out.size)
    have hRn := HR2.out.store HTg.out.2.1 a (r := ⟨A7, n7, c7, ⟨v1, V1, vn1, vc1, v2, V2, vn2, vc2⟩⟩) (d := mkR m (fun k => ((rs.getD a rnil).A.getD k dnil).q + ((rs.getD b rnil).A.getD k dnil).q) ((rs.getD a rnil).v.q + (rs.getD b rnil).v.q)) (HW9.out)
    simp only at hRn
    have hO_g1 := HR1.out.other HTg.out.2.1 hfr HNE.out.1
    have hO_g3 := HR3.out.other HTg.out.2.1 hfr HNE.out.2.2.symm
    obtain ⟨w6, hwn⟩ : ∃ W, (((((w5.setCell ⟨g2, a * 5, none⟩ (.slice A7 n7 c7)).setCell ⟨g2, a * 5 + 1, none⟩ (.int .i64 v1)).setCell ⟨g2, a * 5 + 2, none⟩ (.slice V1 vn1 vc1)).setCell ⟨g2, a * 5 + 3, none⟩ (.int .i64 v2)).setCell ⟨g2, a * 5 + 4, none⟩ (.slice V2 vn2 vc2)) = W := ⟨_, rfl⟩
    rw [hwn] at hVw hRn hO_g1 hO_g3 ⊢
    clear hwn hfr z0 z1 z2 z3 z4 zl zg y0_ y1_ y2_ y3_ y4_ q0 q1 q2 q3 q4
    replace HV := Lib.hid hVw
    replace HR2 := Lib.hid hRn
    replace HR1 := Lib.hid hO_g1
    replace HR3 := Lib.hid hO_g3
    clear hVw hRn hO_g1 hO_g3
    go_wp2_with fail
    (with_reducible refine (solve_like _ HR1.out.rds HS.out.sys HSY1.out hm5 HSL1.out HFRE.out).mono ?_)
    rintro e v7 ⟨A10, n10, c10, e10, rfl, hb5, hd10⟩
    replace HV := Lib.hid (HV.out.trans (hb5.mono HV.out.size))
    replace HR1 := Lib.hid (HR1.out.below hb5)
    replace HR2 := Lib.hid (HR2.out.below hb5)
    replace HR3 := Lib.hid (HR3.out.below hb5)
    rw [HEV.out.1, HEV.out.2, HN9.out] at hd10
    have HD10 := Lib.hid hd10
    clear hd10 hb5
    go_wp2_with fail
    (with_reducible refine (solve_like _ HR2.out.rds HS.out.sys HSY2.out hm5 HSL2.out HFRE.out).mono ?_)
    rintro e v8 ⟨A11, n11, c11, e11, rfl, hb5, hd11⟩
    replace HV := Lib.hid (HV.out.trans (hb5.mono HV.out.size))
    replace HR1 := Lib.hid (HR1.out.below hb5)
    replace HR2 := Lib.hid (HR2.out.below hb5)
    replace HR3 := Lib.hid (HR3.out.below hb5)
    rw [HEV.out.1, HEV.out.2, HN9.out] at hd11
    have HD11 := Lib.hid hd11
    replace HD10 := Lib.hid (HD10.out.imp id (fun h => And.intro h.1 (And.intro h.2.1 (h.2.2.below hb5))))
    clear hd11 hb5
    go_wp2_with fail
    (with_reducible refine (solve_same _ HR3.out.rds HS.out (HS.out.turn ham hbm).1 (HS.out.turn ham hbm).2 HFRE.out).mono ?_)
    rintro e v9 ⟨A12, c12, rfl, hq12, hb5⟩
    replace HV := Lib.hid (HV.out.trans (hb5.mono HV.out.size))
    replace HR1 := Lib.hid (HR1.out.below hb5)
    replace HR2 := Lib.hid (HR2.out.below hb5)
    replace HR3 := Lib.hid (HR3.out.below hb5)
    replace HD10 := Lib.hid (HD10.out.imp id (fun h => And.intro h.1 (And.intro h.2.1 (h.2.2.below hb5))))
    replace HD11 := Lib.hid (HD11.out.imp id (fun h => And.intro h.1 (And.intro h.2.1 (h.2.2.below hb5))))
    rw [HEV.out.1, HEV.out.2, HN9.out]
    rw [HEV.out.2] at hq12
    have HQ12 := Lib.hid hq12
    clear hq12 hb5 HEV
    have HQ0 := Lib.hid (HQ.out.below HV.out)
    have HTT := Lib.hid (HT0.out.trans (HV.out.mono HT0.out.size))
    clear HR1 HR2 HR3 HSY1 HSY2 HSL1 HSL2 HV HQ
    rcases he6.out with he | he
    · subst he
      clear he6
      rcases HD10.out with h6 | ⟨h6, hn10, hq10⟩
      · subst h6
        clear HD10
        rcases HD11.out with h6 | ⟨h6, hn11, hq11⟩
        · subst h6
          clear HD11
          go_wp2_with fail
          (with_reducible refine (rlsame_true _ HQ0.out HQ12.out HN9.out (by omega)).mono ?_)
          rintro e u4 ⟨rfl, hb5⟩
          replace HTT := Lib.hid (HTT.out.trans (hb5.mono HTT.out.size))
          replace HQ0 := Lib.hid (HQ0.out.below hb5)
          replace HQ12 := Lib.hid (HQ12.out.below hb5)
          clear hb5
          go_wp2_with fail
          go_ret
          exact ⟨rfl, HTT.out⟩
        · subst h6
          subst hn11
          have HQ11 := Lib.hid hq11
          clear hq11 HD11
          go_wp2_with fail
          (with_reducible refine (rlsame_true _ HQ0.out HQ11.out HN9.out (by omega)).mono ?_)
          rintro e u5 ⟨rfl, hb5⟩
          replace HTT := Lib.hid (HTT.out.trans (hb5.mono HTT.out.size))
          replace HQ0 := Lib.hid (HQ0.out.below hb5)
          replace HQ12 := Lib.hid (HQ12.out.below hb5)
          clear hb5
          go_wp2_with fail
          (with_reducible refine (rlsame_true _ HQ0.out HQ12.out HN9.out (by omega)).mono ?_)
          rintro e u6 ⟨rfl, hb5⟩
          replace HTT := Lib.hid (HTT.out.trans (hb5.mono HTT.out.size))
          replace HQ0 := Lib.hid (HQ0.out.below hb5)
          replace HQ12 := Lib.hid (HQ12.out.below hb5)
          clear hb5
          go_wp2_with fail
          go_ret
          exact ⟨rfl, HTT.out⟩
      · subst h6
        subst hn10
        have HQ10 := Lib.hid hq10
        clear hq10 HD10
        rcases HD11.out with h6 | ⟨h6, hn11, hq11⟩
        · subst h6
          clear HD11
          go_wp2_with fail
          (with_reducible refine (rlsame_true _ HQ0.out HQ10.out HN9.out (by omega)).mono ?_)
          rintro e u3 ⟨rfl, hb5⟩
          replace HTT := Lib.hid (HTT.out.trans (hb5.mono HTT.out.size))
          replace HQ0 := Lib.hid (HQ0.out.below hb5)
          replace HQ12 := Lib.hid (HQ12.out.below hb5)
          clear hb5
          go_wp2_with fail
          (with_reducible refine (rlsame_true _ HQ0.out HQ12.out HN9.out (by omega)).mono ?_)
          rintro e u4 ⟨rfl, hb5⟩
          replace HTT := Lib.hid (HTT.out.trans (hb5.mono HTT.out.size))
          replace HQ0 := Lib.hid (HQ0.out.below hb5)
          replace HQ12 := Lib.hid (HQ12.out.below hb5)
          clear hb5
          go_wp2_with fail
          go_ret
          exact ⟨rfl, HTT.out⟩
        · subst h6
          subst hn11
          have HQ11 := Lib.hid hq11
          clear hq11 HD11
          go_wp2_with fail
          (with_reducible refine (rlsame_true _ HQ0.out HQ10.out HN9.out (by omega)).mono ?_)
          rintro e u3 ⟨rfl, hb5⟩
          replace HTT := Lib.hid (HTT.out.trans (hb5.mono HTT.out.size))
          replace HQ0 := Lib.hid (HQ0.out.below hb5)
          replace HQ12 := Lib.hid (HQ12.out.below hb5)
          replace HQ11 := Lib.hid (HQ11.out.below hb5)
          clear hb5
          go_wp2_with fail
          (with_reducible refine (rlsame_true _ HQ0.out HQ11.out HN9.out (by omega)).mono ?_)
          rintro e u5 ⟨rfl, hb5⟩
          replace HTT := Lib.hid (HTT.out.trans (hb5.mono HTT.out.size))
          replace HQ0 := Lib.hid (HQ0.out.below hb5)
          replace HQ12 := Lib.hid (HQ12.out.below hb5)
          clear hb5
          go_wp2_with fail
          (with_reducible refine (rlsame_true _ HQ0.out HQ12.out HN9.out (by omega)).mono ?_)
          rintro e u6 ⟨rfl, hb5⟩
          replace HTT := Lib.hid (HTT.out.trans (hb5.mono HTT.out.size))
          replace HQ0 := Lib.hid (HQ0.out.below hb5)
          replace HQ12 := Lib.hid (HQ12.out.below hb5)
          clear hb5
          go_wp2_with fail
          go_ret
          exact ⟨rfl, HTT.out⟩
    · subst he
      clear he6
      rcases HD10.out with h6 | ⟨h6, hn10, hq10⟩
      · subst h6
        clear HD10
        rcases HD11.out with h6 | ⟨h6, hn11, hq11⟩
        · subst h6
          clear HD11
          go_wp2_with fail
          (with_reducible refine (rlsame_true _ HQ0.out HQ12.out HN9.out (by omega)).mono ?_)
          rintro e u4 ⟨rfl, hb5⟩
          replace HTT := Lib.hid (HTT.out.trans (hb5.mono HTT.out.size))
          replace HQ0 := Lib.hid (HQ0.out.below hb5)
          replace HQ12 := Lib.hid (HQ12.out.below hb5)
          clear hb5
          go_wp2_with fail
          go_ret
          exact ⟨rfl, HTT.out⟩
        · subst h6
          subst hn11
          have HQ11 := Lib.hid hq11
          clear hq11 HD11
          go_wp2_with fail
          (with_reducible refine (rlsame_true _ HQ0.out HQ11.out HN9.out (by omega)).mono ?_)
          rintro e u5 ⟨rfl, hb5⟩
          replace HTT := Lib.hid (HTT.out.trans (hb5.mono HTT.out.size))
          replace HQ0 := Lib.hid (HQ0.out.below hb5)
          replace HQ12 := Lib.hid (HQ12.out.below hb5)
          clear hb5
          go_wp2_with fail
          (with_reducible refine (rlsame_true _ HQ0.out HQ12.out HN9.out (by omega)).mono ?_)
          rintro e u6 ⟨rfl, hb5⟩
          replace HTT := Lib.hid (HTT.out.trans (hb5.mono HTT.out.size))
          replace HQ0 := Lib.hid (HQ0.out.below hb5)
          replace HQ12 := Lib.hid (HQ12.out.below hb5)
          clear hb5
          go_wp2_with fail
          go_ret
          exact ⟨rfl, HTT.out⟩
      · subst h6
        subst hn10
        have HQ10 := Lib.hid hq10
        clear hq10 HD10
        rcases HD11.out with h6 | ⟨h6, hn11, hq11⟩
        · subst h6
          clear HD11
          go_wp2_with fail
          (with_reducible refine (rlsame_true _ HQ0.out HQ10.out HN9.out (by omega)).mono ?_)
          rintro e u3 ⟨rfl, hb5⟩
          replace HTT := Lib.hid (HTT.out.trans (hb5.mono HTT.out.size))
          replace HQ0 := Lib.hid (HQ0.out.below hb5)
          replace HQ12 := Lib.hid (HQ12.out.below hb5)
          clear hb5
          go_wp2_with fail
          (with_reducible refine (rlsame_true _ HQ0.out HQ12.out HN9.out (by omega)).mono ?_)
          rintro e u4 ⟨rfl, hb5⟩
          replace HTT := Lib.hid (HTT.out.trans (hb5.mono HTT.out.size))
          replace HQ0 := Lib.hid (HQ0.out.below hb5)
          replace HQ12 := Lib.hid (HQ12.out.below hb5)
          clear hb5
          go_wp2_with fail
          go_ret
          exact ⟨rfl, HTT.out⟩
        · subst h6
          subst hn11
          have HQ11 := Lib.hid hq11
          clear hq11 HD11
          go_wp2_with fail
          (with_reducible refine (rlsame_true _ HQ0.out HQ10.out HN9.out (by omega)).mono ?_)
          rintro e u3 ⟨rfl, hb5⟩
          replace HTT := Lib.hid (HTT.out.trans (hb5.mono HTT.out.size))
          replace HQ0 := Lib.hid (HQ0.out.below hb5)
          replace HQ12 := Lib.hid (HQ12.out.below hb5)
          replace HQ11 := Lib.hid (HQ11.out.below hb5)
          clear hb5
          go_wp2_with fail
          (with_reducible refine (rlsame_true _ HQ0.out HQ11.out HN9.out (by omega)).mono ?_)
          rintro e u5 ⟨rfl, hb5⟩
          replace HTT := Lib.hid (HTT.out.trans (hb5.mono HTT.out.size))
          replace HQ0 := Lib.hid (HQ0.out.below hb5)
          replace HQ12 := Lib.hid (HQ12.out.below hb5)
          clear hb5
          go_wp2_with fail
          (with_reducible refine (rlsame_true _ HQ0.out HQ12.out HN9.out (by omega)).mono ?_)
          rintro e u6 ⟨rfl, hb5⟩
          replace HTT := Lib.hid (HTT.out.trans (hb5.mono HTT.out.size))
          replace HQ0 := Lib.hid (HQ0.out.below hb5)
          replace HQ12 := Lib.hid (HQ12.out.below hb5)
          clear hb5
          go_wp2_with fail
          go_ret
          exact ⟨rfl, HTT.out⟩

end Go.Proofs.Ytlbjaimgoiimgaa
