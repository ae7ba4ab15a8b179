/- Plain: nets, and the search from a node on: its steps, and what holds in the end. No program. -/
import Derived.Test.YteiojobgjdfdpaaCa
namespace Go.Proofs.Yteiojobgjdfdpaa

structure Net where
  n : Nat
  m : Nat
  s : Nat → Nat
  d : Nat → Nat
  f : Nat → Int → Int
  bk : Bool
abbrev Lb := Int × Int
def lb (l : List Lb) (v : Nat) : Lb := l.getD v (-1, -1)
def cst (bk : Bool) (t : Int) : Int := if bk then -t else t
abbrev Net.c (G : Net) (t : Int) : Int := cst G.bk t
instance (t : Int) : Decidable (IsT t) := inferInstanceAs (Decidable (_ ∧ _))
def bet (bk : Bool) (l old : Lb) : Prop := (l.1 = old.1 ∧ l.2 < old.2) ∨ (l.1 ≠ old.1 ∧ (old.1 = -1 ∨ cst bk l.1 < cst bk old.1))
instance (b : Bool) (l old : Lb) : Decidable (bet b l old) := inferInstanceAs (Decidable (_ ∨ _))
theorem lb_len {l : List Lb} {v : Nat} (h : l.length ≤ v) : lb l v = (-1, -1) := by
  unfold lb; rw [List.getD_eq_getElem?_getD, List.getElem?_eq_none h]; rfl
theorem lb_set {l : List Lb} {v : Nat} (h : v < l.length) (x : Lb) (k : Nat) : lb (l.set v x) k = if k = v then x else lb l k := by
  unfold lb
  rw [List.getD_eq_getElem?_getD, List.getElem?_set]
  by_cases e : k = v
  · subst e; rw [if_pos rfl, if_pos h, if_pos rfl]; rfl
  · rw [if_neg (fun h => e h.symm), if_neg e, ← List.getD_eq_getElem?_getD]

/-- One arc is looked at. -/
def Net.rel1 (G : Net) (dn : List Nat) (t : Int) (lab : List Lb) (i : Nat) : List Lb :=
  if IsT (G.f i t) ∧ G.d i ∉ dn ∧ bet G.bk (G.f i t, (i : Int)) (lb lab (G.d i)) then lab.set (G.d i) (G.f i t, (i : Int)) else lab
theorem Net.rel1_len (G : Net) (dn : List Nat) (t : Int) (lab : List Lb) (i : Nat) : (G.rel1 dn t lab i).length = lab.length := by unfold Net.rel1; split <;> simp
/-- The arcs that begin at u. -/
def Net.arcs (G : Net) (u k : Nat) : List Nat := (List.range k).filter (fun i => decide (G.s i = u))
def Net.relA (G : Net) (dn : List Nat) (t : Int) (l : List Nat) (lab : List Lb) : List Lb := l.foldl (G.rel1 dn t) lab
theorem Net.relA_len (G : Net) (dn : List Nat) (t : Int) (l : List Nat) : ∀ lab, (G.relA dn t l lab).length = lab.length := by
  induction l with
  | nil => intro lab; rfl
  | cons i l ih => intro lab; show (G.relA dn t l (G.rel1 dn t lab i)).length = _; rw [ih, Net.rel1_len]
theorem Net.relA_snoc (G : Net) (dn : List Nat) (t : Int) (l : List Nat) (i : Nat) (lab : List Lb) : G.relA dn t (l ++ [i]) lab = G.rel1 dn t (G.relA dn t l lab) i := by
  unfold Net.relA; rw [List.foldl_append]; rfl
theorem Net.arcs_succ (G : Net) (u k : Nat) : G.arcs u (k + 1) = if G.s k = u then G.arcs u k ++ [k] else G.arcs u k := by
  unfold Net.arcs
  rw [List.range_succ, List.filter_append]
  by_cases h : G.s k = u <;> simp [h]
theorem Net.arcs_mem (G : Net) {u k i : Nat} : i ∈ G.arcs u k ↔ i < k ∧ G.s i = u := by
  unfold Net.arcs; simp

structure St where
  lab : List Lb
  dn : List Nat
def Net.pick (G : Net) (a : St) (u : Nat) : Prop := u < G.n ∧ u ∉ a.dn ∧ 0 ≤ (lb a.lab u).1 ∧
  ∀ v, v < G.n → v ∉ a.dn → 0 ≤ (lb a.lab v).1 → G.c (lb a.lab u).1 < G.c (lb a.lab v).1 ∨ (G.c (lb a.lab u).1 = G.c (lb a.lab v).1 ∧ u ≤ v)
theorem Net.pick_eq {G : Net} {a : St} {u v : Nat} (h : G.pick a u) (k : G.pick a v) : u = v := by
  have h1 := h.2.2.2 v k.1 k.2.1 k.2.2.1
  have h2 := k.2.2.2 u h.1 h.2.1 h.2.2.1
  omega
def Net.nxt (G : Net) (a : St) (u : Nat) : St := ⟨G.relA (u :: a.dn) (lb a.lab u).1 (G.arcs u G.m) a.lab, u :: a.dn⟩
inductive Net.Run (G : Net) : St → St → Prop
  | refl (a : St) : Net.Run G a a
  | step {a b : St} {u : Nat} (h : Net.Run G a b) (k : G.pick b u) : Net.Run G a (G.nxt b u)
theorem Net.Run.head {G : Net} {a b : St} (h : G.Run a b) : a = b ∨ ∃ u, G.pick a u ∧ G.Run (G.nxt a u) b := by
  induction h with
  | refl => exact .inl rfl
  | step h k ih =>
    rcases ih with rfl | ⟨u, hu, hr⟩
    · exact .inr ⟨_, k, .refl _⟩
    · exact .inr ⟨u, hu, .step hr k⟩
theorem Net.Run.line {G : Net} {a b b' : St} (h : G.Run a b) (h' : G.Run a b') : G.Run b b' ∨ G.Run b' b := by
  induction h with
  | refl => exact .inl h'
  | @step b u h k ih =>
    rcases ih with ih | ih
    · rcases ih.head with rfl | ⟨v, hv, hr⟩
      · exact .inr (.step (.refl _) k)
      · obtain rfl := Net.pick_eq hv k
        exact .inl hr
    · exact .inr (.step ih k)
def Net.fin (G : Net) (a : St) : Prop := ∀ v, v < G.n → v ∉ a.dn → (lb a.lab v).1 < 0
theorem Net.fin.no {G : Net} {a : St} (h : G.fin a) (u : Nat) : ¬ G.pick a u := fun hp => by
  have := h u hp.1 hp.2.1
  have := hp.2.2.1
  omega
theorem Net.Run.det {G : Net} {a b b' : St} (h : G.Run a b) (hf : G.fin b) (h' : G.Run a b') (hf' : G.fin b') : b = b' := by
  rcases h.line h' with k | k
  · rcases k.head with e | ⟨u, hu, _⟩
    · exact e
    · exact absurd hu (hf.no u)
  · rcases k.head with e | ⟨u, hu, _⟩
    · exact e.symm
    · exact absurd hu (hf'.no u)
def Net.ini (G : Net) (src : Nat) (start : Int) : St := ⟨(List.replicate G.n ((-1, -1) : Lb)).set src (start, -1), []⟩
/-- The labels in the end. -/
def Net.End (G : Net) (src : Nat) (start : Int) (lab : List Lb) : Prop := ∃ a, G.Run (G.ini src start) a ∧ G.fin a ∧ a.lab = lab
theorem Net.End.eq {G : Net} {src : Nat} {start : Int} {lab lab' : List Lb} (h : G.End src start lab) (h' : G.End src start lab') : lab = lab' := by
  obtain ⟨a, h1, h2, rfl⟩ := h
  obtain ⟨b, k1, k2, rfl⟩ := h'
  rw [h1.det h2 k1 k2]

theorem nodup_len : ∀ (n : Nat) (l : List Nat), l.Nodup → (∀ x ∈ l, x < n) → l.length ≤ n := by
  intro n
  induction n with
  | zero =>
    intro l _ h
    cases l with
    | nil => simp
    | cons x l => have := h x (by simp); omega
  | succ n ih =>
    intro l hd h
    by_cases hm : n ∈ l
    · have h1 := ih (l.erase n) (hd.erase n) (fun x hx => by
        have := (hd.mem_erase_iff).1 hx
        have := h x this.2
        omega)
      rw [List.length_erase_of_mem hm] at h1
      omega
    · have := ih l hd (fun x hx => by
        have h2 := h x hx
        have : x ≠ n := fun e => hm (e ▸ hx)
        omega)
      omega

structure Net.ok (G : Net) : Prop where
  st : ∀ i, i < G.m → G.s i < G.n
  dt : ∀ i, i < G.m → G.d i < G.n
  gr : ∀ i, i < G.m → ∀ t, IsT t → IsT (G.f i t) → G.c t ≤ G.c (G.f i t)

structure Net.Inv (G : Net) (src : Nat) (start : Int) (dn : List Nat) (lab : List Lb) (u : Nat) (K : Nat → Prop) : Prop where
  len : lab.length = G.n
  nd : dn.Nodup
  lt : ∀ v ∈ dn, v < G.n
  re : ∀ v ∈ dn, 0 ≤ (lb lab v).1
  sr : lb lab src = (start, -1)
  ty : ∀ v, v < G.n → lb lab v = (-1, -1) ∨ (IsT (lb lab v).1 ∧ G.c start ≤ G.c (lb lab v).1 ∧ (v ≠ src → ∃ i : Nat, i < G.m ∧ G.d i = v ∧ G.s i ∈ dn ∧ lb lab v = (G.f i (lb lab (G.s i)).1, (i : Int))))
  mo : ∀ w ∈ dn, ∀ v, v < G.n → v ∉ dn → 0 ≤ (lb lab v).1 → G.c (lb lab w).1 ≤ G.c (lb lab v).1
  cl : ∀ w ∈ dn, ∀ i, i < G.m → G.s i = w → (w = u → K i) → IsT (G.f i (lb lab w).1) → 0 ≤ (lb lab (G.d i)).1 ∧ G.c (lb lab (G.d i)).1 ≤ G.c (G.f i (lb lab w).1)
  od : ∀ l1 v l2, dn = l1 ++ v :: l2 → v = src ∨ ∃ i : Nat, i < G.m ∧ G.d i = v ∧ G.s i ∈ l2 ∧ lb lab v = (G.f i (lb lab (G.s i)).1, (i : Int))

theorem Net.Inv.start {G : Net} {src : Nat} {start : Int} (hs : src < G.n) (ht : IsT start) : G.Inv src start [] (G.ini src start).lab 0 (fun _ => True) := by
  have L : ∀ v, lb (G.ini src start).lab v = if v = src then (start, -1) else (-1, -1) := fun v => by
    unfold Net.ini
    rw [lb_set (by simpa using hs)]
    split
    · rfl
    · unfold lb
      rw [List.getD_eq_getElem?_getD, List.getElem?_replicate]
      split <;> rfl
  refine ⟨by simp [Net.ini], List.nodup_nil, by simp, by simp, by rw [L, if_pos rfl], fun v hv => ?_, by simp, by simp, by simp⟩
  rw [L]
  by_cases e : v = src
  · rw [if_pos e]
    exact .inr ⟨ht, Int.le_refl _, fun h => absurd e h⟩
  · rw [if_neg e]
    exact .inl rfl

theorem Net.Inv.rel {G : Net} {src : Nat} {start : Int} {dn : List Nat} {lab : List Lb} {u : Nat} {K : Nat → Prop} (h : G.Inv src start dn lab u K) (hG : G.ok) (hu : u ∈ dn) (ht : IsT (lb lab u).1)
    (hmx : ∀ w ∈ dn, G.c (lb lab w).1 ≤ G.c (lb lab u).1) (hst : G.c start ≤ G.c (lb lab u).1) (hT0 : IsT start) {i : Nat} (hi : i < G.m) (hsi : G.s i = u) :
    G.Inv src start dn (G.rel1 dn (lb lab u).1 lab i) u (fun j => K j ∨ j = i) ∧ (∀ w ∈ dn, lb (G.rel1 dn (lb lab u).1 lab i) w = lb lab w) := by
  have hd := hG.dt i hi
  by_cases hc : IsT (G.f i (lb lab u).1) ∧ G.d i ∉ dn ∧ bet G.bk (G.f i (lb lab u).1, (i : Int)) (lb lab (G.d i))
  · have e : G.rel1 dn (lb lab u).1 lab i = lab.set (G.d i) (G.f i (lb lab u).1, (i : Int)) := if_pos hc
    rw [e]
    obtain ⟨hc1, hc2, hc3⟩ := hc
    have hgr := hG.gr i hi _ ht hc1
    have L := lb_set (l := lab) (v := G.d i) (by rw [h.len]; exact hd) (G.f i (lb lab u).1, (i : Int))
    have D : ∀ w ∈ dn, lb (lab.set (G.d i) (G.f i (lb lab u).1, (i : Int))) w = lb lab w := fun w hw => by
      rw [L, if_neg (fun e : w = G.d i => hc2 (e ▸ hw))]
    have hsrc : G.d i ≠ src := fun e => by
      rw [e, h.sr] at hc3
      have := hT0.1
      unfold bet at hc3
      simp only at hc3
      rcases hc3 with ⟨k1, k2⟩ | ⟨k1, k2 | k2⟩
      · omega
      · omega
      · have : G.c (G.f i (lb lab u).1) < G.c start := k2
        omega
    have N : ∀ v, 0 ≤ (lb lab v).1 → 0 ≤ (lb (lab.set (G.d i) (G.f i (lb lab u).1, (i : Int))) v).1 ∧ G.c (lb (lab.set (G.d i) (G.f i (lb lab u).1, (i : Int))) v).1 ≤ G.c (lb lab v).1 := fun v hv => by
      rw [L]
      by_cases e : v = G.d i
      · rw [if_pos e, e]
        rw [e] at hv
        refine ⟨hc1.1, ?_⟩
        unfold bet at hc3
        simp only at hc3
        show cst G.bk _ ≤ cst G.bk _
        rcases hc3 with ⟨k1, k2⟩ | ⟨k1, k2 | k2⟩
        · rw [k1]; exact Int.le_refl _
        · omega
        · exact Int.le_of_lt k2
      · rw [if_neg e]
        exact ⟨hv, Int.le_refl _⟩
    refine ⟨⟨by simp [h.len], h.nd, h.lt, fun v hv => by rw [D v hv]; exact h.re v hv, by rw [L, if_neg (fun e => hsrc e.symm)]; exact h.sr, fun v hv => ?_, fun w hw v hv hvn hr => ?_, fun w hw j hj hs hk hT => ?_, fun l1 v l2 he => ?_⟩, D⟩
    · rw [L]
      by_cases e : v = G.d i
      · rw [if_pos e]
        refine .inr ⟨hc1, Int.le_trans hst hgr, fun _ => ⟨i, hi, e.symm, hsi ▸ hu, ?_⟩⟩
        rw [D _ (hsi ▸ hu), hsi]
      · rw [if_neg e]
        rcases h.ty v hv with k | ⟨k1, k2, k3⟩
        · exact .inl k
        · refine .inr ⟨k1, k2, fun hne => ?_⟩
          obtain ⟨j, j1, j2, j3, j4⟩ := k3 hne
          exact ⟨j, j1, j2, j3, by rw [D _ j3]; exact j4⟩
    · rw [D w hw]
      rw [L] at hr ⊢
      by_cases e : v = G.d i
      · rw [if_pos e]
        exact Int.le_trans (hmx w hw) hgr
      · rw [if_neg e] at hr ⊢
        exact h.mo w hw v hv hvn hr
    · rw [D w hw] at hT ⊢
      by_cases e : w = u ∧ j = i
      · obtain ⟨rfl, rfl⟩ := e
        rw [L, if_pos rfl]
        exact ⟨hc1.1, Int.le_refl _⟩
      · have k := h.cl w hw j hj hs (fun hwu => by
          rcases hk hwu with k | k
          · exact k
          · exact absurd ⟨hwu, k⟩ e) hT
        have k' := N _ k.1
        exact ⟨k'.1, by omega⟩
    · have hv : v ∈ dn := by rw [he]; simp
      rw [D v hv]
      rcases h.od l1 v l2 he with k | ⟨j, j1, j2, j3, j4⟩
      · exact .inl k
      · exact .inr ⟨j, j1, j2, j3, by rw [D (G.s j) (by rw [he]; simp [j3])]; exact j4⟩
  · have e : G.rel1 dn (lb lab u).1 lab i = lab := if_neg hc
    rw [e]
    refine ⟨⟨h.len, h.nd, h.lt, h.re, h.sr, h.ty, h.mo, fun w hw j hj hs hk hT => ?_, h.od⟩, fun _ _ => rfl⟩
    by_cases e2 : w = u ∧ j = i
    · obtain ⟨rfl, rfl⟩ := e2
      have hgr := hG.gr j hj _ ht hT
      by_cases hdn : G.d j ∈ dn
      · have := hmx _ hdn
        exact ⟨h.re _ hdn, by omega⟩
      · have hb : ¬ bet G.bk (G.f j (lb lab w).1, (j : Int)) (lb lab (G.d j)) := fun hb => hc ⟨hT, hdn, hb⟩
        unfold bet at hb
        simp only [not_or, not_and] at hb
        by_cases hq : G.f j (lb lab w).1 = (lb lab (G.d j)).1
        · rw [← hq]; exact ⟨hT.1, Int.le_refl _⟩
        · have k := hb.2 hq
          have k1 : ¬ (lb lab (G.d j)).1 = -1 := k.1
          have k2 : ¬ G.c (G.f j (lb lab w).1) < G.c (lb lab (G.d j)).1 := k.2
          rcases h.ty _ hd with t | t
          · rw [t] at k1; exact absurd rfl k1
          · exact ⟨t.1.1, by omega⟩
    · exact h.cl w hw j hj hs (fun hwu => by
        rcases hk hwu with k | k
        · exact k
        · exact absurd ⟨hwu, k⟩ e2) hT

theorem Net.Inv.relA {G : Net} {src : Nat} {start : Int} (hG : G.ok) (hT0 : IsT start) {dn : List Nat} {u : Nat} (hu : u ∈ dn) (l : List Nat) : ∀ {lab : List Lb} {K : Nat → Prop} {t : Int}, G.Inv src start dn lab u K → (lb lab u).1 = t → IsT t →
    (∀ w ∈ dn, G.c (lb lab w).1 ≤ G.c t) → G.c start ≤ G.c t → (∀ i ∈ l, i < G.m ∧ G.s i = u) →
    G.Inv src start dn (G.relA dn t l lab) u (fun j => K j ∨ j ∈ l) ∧ (∀ w ∈ dn, lb (G.relA dn t l lab) w = lb lab w) := by
  induction l with
  | nil => intro lab K t h _ _ _ _ _; exact ⟨⟨h.len, h.nd, h.lt, h.re, h.sr, h.ty, h.mo, fun w hw j hj hs hk hT => h.cl w hw j hj hs (fun e => by simpa using hk e) hT, h.od⟩, fun _ _ => rfl⟩
  | cons i l ih =>
    intro lab K t h e ht hmx hst hl
    subst e
    obtain ⟨h1, h2⟩ := h.rel hG hu ht hmx hst hT0 (hl i (by simp)).1 (hl i (by simp)).2
    obtain ⟨h3, h4⟩ := ih h1 (by rw [h2 u hu]) ht (fun w hw => by rw [h2 w hw]; exact hmx w hw) hst (fun j hj => hl j (by simp [hj]))
    refine ⟨⟨h3.len, h3.nd, h3.lt, h3.re, h3.sr, h3.ty, h3.mo, fun w hw j hj hs hk hT => h3.cl w hw j hj hs (fun e => ?_) hT, h3.od⟩, fun w hw => (h4 w hw).trans (h2 w hw)⟩
    have := hk e
    simp only [List.mem_cons] at this
    rcases this with k | k | k
    · exact .inl (.inl k)
    · exact .inl (.inr k)
    · exact .inr k

theorem Net.Inv.next {G : Net} {src : Nat} {start : Int} (hG : G.ok) (hT0 : IsT start) {a : St} (h : G.Inv src start a.dn a.lab 0 (fun _ => True)) {u : Nat} (hp : G.pick a u) :
    G.Inv src start (G.nxt a u).dn (G.nxt a u).lab 0 (fun _ => True) := by
  obtain ⟨p1, p2, p3, p4⟩ := hp
  have hty := h.ty u p1
  have hT : IsT (lb a.lab u).1 ∧ G.c start ≤ G.c (lb a.lab u).1 := by
    rcases hty with k | k
    · rw [k] at p3; omega
    · exact ⟨k.1, k.2.1⟩
  have h0 : G.Inv src start (u :: a.dn) a.lab u (fun _ => False) := by
    refine ⟨h.len, List.nodup_cons.2 ⟨p2, h.nd⟩, fun v hv => ?_, fun v hv => ?_, h.sr, fun v hv => ?_, fun w hw v hv hvn hr => ?_, fun w hw j hj hs hk hT' => ?_, fun l1 v l2 he => ?_⟩
    · rcases List.mem_cons.1 hv with rfl | hv
      · exact p1
      · exact h.lt v hv
    · rcases List.mem_cons.1 hv with rfl | hv
      · exact p3
      · exact h.re v hv
    · rcases h.ty v hv with k | ⟨k1, k2, k3⟩
      · exact .inl k
      · exact .inr ⟨k1, k2, fun hne => by obtain ⟨i, i1, i2, i3, i4⟩ := k3 hne; exact ⟨i, i1, i2, by simp [i3], i4⟩⟩
    · simp only [List.mem_cons, not_or] at hvn
      rcases List.mem_cons.1 hw with rfl | hw
      · rcases p4 v hv hvn.2 hr with k | k <;> omega
      · exact h.mo w hw v hv hvn.2 hr
    · rcases List.mem_cons.1 hw with rfl | hw
      · exact (hk rfl).elim
      · exact h.cl w hw j hj hs (fun _ => trivial) hT'
    · cases l1 with
      | nil =>
        injection he with e1 e2
        subst e1; subst e2
        by_cases e : u = src
        · exact .inl e
        · rcases hty with k | ⟨_, _, k3⟩
          · rw [k] at p3; omega
          · exact .inr (k3 e)
      | cons x l1 =>
        injection he with e1 e2
        exact h.od l1 v l2 e2
  have hmx : ∀ w ∈ u :: a.dn, G.c (lb a.lab w).1 ≤ G.c (lb a.lab u).1 := fun w hw => by
    rcases List.mem_cons.1 hw with rfl | hw
    · exact Int.le_refl _
    · exact h.mo w hw u p1 p2 p3
  obtain ⟨h1, h2⟩ := Net.Inv.relA hG hT0 (List.mem_cons_self) (G.arcs u G.m) h0 rfl hT.1 hmx hT.2 (fun i hi => G.arcs_mem.1 hi)
  exact ⟨h1.len, h1.nd, h1.lt, h1.re, h1.sr, h1.ty, h1.mo, fun w hw j hj hs _ hT' => h1.cl w hw j hj hs (fun e => .inr (G.arcs_mem.2 ⟨hj, hs.trans e⟩)) hT', h1.od⟩

theorem Net.Run.inv {G : Net} {src : Nat} {start : Int} (hG : G.ok) (hs : src < G.n) (hT0 : IsT start) {a : St} (h : G.Run (G.ini src start) a) : G.Inv src start a.dn a.lab 0 (fun _ => True) := by
  generalize hb : G.ini src start = b at h
  induction h with
  | refl => subst hb; exact Net.Inv.start hs hT0
  | step h k ih => exact Net.Inv.next hG hT0 ih k

/-- What holds of the labels in the end. -/
structure Net.Fin (G : Net) (src : Nat) (start : Int) (lab : List Lb) : Prop where
  len : lab.length = G.n
  sr : lb lab src = (start, -1)
  ty : ∀ v, v < G.n → lb lab v = (-1, -1) ∨ (IsT (lb lab v).1 ∧ (v ≠ src → ∃ i : Nat, i < G.m ∧ G.d i = v ∧ 0 ≤ (lb lab (G.s i)).1 ∧ lb lab v = (G.f i (lb lab (G.s i)).1, (i : Int))))
  cl : ∀ i, i < G.m → 0 ≤ (lb lab (G.s i)).1 → IsT (G.f i (lb lab (G.s i)).1) → 0 ≤ (lb lab (G.d i)).1 ∧ G.c (lb lab (G.d i)).1 ≤ G.c (G.f i (lb lab (G.s i)).1)
  /-- By induction over the ways: Q k v: v is reached by k arcs. -/
  ind : ∀ Q : Nat → Nat → Prop, Q 0 src → (∀ k v i, v < G.n → v ≠ src → 0 ≤ (lb lab v).1 → i < G.m → G.d i = v → 0 ≤ (lb lab (G.s i)).1 → lb lab v = (G.f i (lb lab (G.s i)).1, (i : Int)) → Q k (G.s i) → Q (k + 1) v) →
    ∀ v, v < G.n → 0 ≤ (lb lab v).1 → ∃ k, k < G.n ∧ Q k v
theorem Net.End.fin {G : Net} {src : Nat} {start : Int} {lab : List Lb} (h : G.End src start lab) (hG : G.ok) (hs : src < G.n) (hT0 : IsT start) : G.Fin src start lab := by
  obtain ⟨a, h1, h2, rfl⟩ := h
  have hI := Net.Run.inv hG hs hT0 h1
  have hin : ∀ v, v < G.n → 0 ≤ (lb a.lab v).1 → v ∈ a.dn := fun v hv hr => by
    apply Classical.byContradiction
    intro hn
    have := h2 v hv hn
    omega
  refine ⟨hI.len, hI.sr, fun v hv => ?_, fun i hi hr hT => hI.cl _ (hin _ (hG.st i hi) hr) i hi rfl (fun _ => trivial) hT, fun Q q0 qs v hv hr => ?_⟩
  · rcases hI.ty v hv with k | ⟨k1, _, k3⟩
    · exact .inl k
    · exact .inr ⟨k1, fun hne => by obtain ⟨i, i1, i2, i3, i4⟩ := k3 hne; exact ⟨i, i1, i2, hI.re _ i3, i4⟩⟩
  · have key : ∀ l l1, a.dn = l1 ++ l → ∀ v ∈ l, ∃ k, k < l.length ∧ Q k v := by
      intro l
      induction l with
      | nil => intro l1 _ v hv; simp at hv
      | cons x l ih =>
        intro l1 he v hv
        rcases List.mem_cons.1 hv with rfl | hv
        · by_cases e : v = src
          · subst e; exact ⟨0, by simp, q0⟩
          · rcases hI.od l1 v l he with k | ⟨i, i1, i2, i3, i4⟩
            · exact absurd k e
            · obtain ⟨k, k1, k2⟩ := ih (l1 ++ [v]) (by rw [he]; simp) (G.s i) i3
              have hvd : v ∈ a.dn := by rw [he]; simp
              have hsd : G.s i ∈ a.dn := by rw [he]; simp [i3]
              exact ⟨k + 1, by simp; omega, qs k v i (hI.lt v hvd) e (hI.re v hvd) i1 i2 (hI.re _ hsd) i4 k2⟩
        · obtain ⟨k, k1, k2⟩ := ih (l1 ++ [x]) (by rw [he]; simp) v hv
          exact ⟨k, by simp; omega, k2⟩
    obtain ⟨k, k1, k2⟩ := key a.dn [] rfl v (hin v hv hr)
    have := nodup_len G.n a.dn hI.nd hI.lt
    exact ⟨k, by omega, k2⟩

end Go.Proofs.Yteiojobgjdfdpaa
