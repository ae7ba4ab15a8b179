/- The search as it lies, between its steps: what the iterator and the body of the loop keep; the queue and the labels. -/
import Derived.Test.YteiojobgjdfdpaaQj
import Derived.Test.YteiojobgjdfdpaaQm
namespace Go.Proofs.Yteiojobgjdfdpaa
open Go.RowKit

/-- What the queue says of the labels. -/
structure QInv (bk : Bool) (n : Nat) (lab : List Lb) (dn : List Nat) (q : List En) : Prop where
  a : ∀ v, v < n → v ∉ dn → 0 ≤ (lb lab v).1 → (cst bk (lb lab v).1, (v : Int)) ∈ q
  b : ∀ y ∈ q, ∃ v : Nat, v < n ∧ y.2 = v ∧ (v ∉ dn → 0 ≤ (lb lab v).1 ∧ cst bk (lb lab v).1 ≤ y.1)
theorem QInv.skip {bk : Bool} {n : Nat} {lab : List Lb} {dn : List Nat} {q q' : List En} (h : QInv bk n lab dn q) {u : Nat} (hu : u ∈ dn) (h1 : ∀ x ∈ q', x ∈ q) (h2 : ∀ x ∈ q, x = gq q 0 ∨ x ∈ q') (he : (gq q 0).2 = u) : QInv bk n lab dn q' :=
  ⟨fun v hv hd hr => by
    rcases h2 _ (h.a v hv hd hr) with e | e
    · rw [← e] at he
      have : v = u := by simp only at he; omega
      exact absurd (this ▸ hu) hd
    · exact e, fun y hy => h.b y (h1 y hy)⟩
theorem QInv.pick {G : Net} {st : St} {q : List En} (h : QInv G.bk G.n st.lab st.dn q) (hl : 0 < q.length) (hh : Heap q q.length) {u : Nat} (he : (gq q 0).2 = u) (hu : u ∉ st.dn) : G.pick st u := by
  obtain ⟨v, hv, e, hb⟩ := h.b _ (gq_mem hl)
  have : v = u := by omega
  subst this
  obtain ⟨h0, h1⟩ := hb hu
  refine ⟨hv, hu, h0, fun w hw hwd hwr => ?_⟩
  obtain ⟨k, hk, ek⟩ := mem_gq (h.a w hw hwd hwr)
  have hm := hh.min k hk
  rw [ek] at hm
  unfold En.le En.lt at hm
  simp only at hm
  obtain ⟨k', hk', ek'⟩ := mem_gq (h.a v hv hu h0)
  have hm' := hh.min k' hk'
  rw [ek'] at hm'
  unfold En.le En.lt at hm'
  simp only at hm'
  show cst G.bk _ < cst G.bk _ ∨ cst G.bk _ = cst G.bk _ ∧ _
  omega
theorem QInv.settle {bk : Bool} {n : Nat} {lab : List Lb} {dn : List Nat} {q q' : List En} (h : QInv bk n lab dn q) {u : Nat} (h1 : ∀ x ∈ q', x ∈ q) (h2 : ∀ x ∈ q, x = gq q 0 ∨ x ∈ q') (he : (gq q 0).2 = u) : QInv bk n lab (u :: dn) q' :=
  ⟨fun v hv hd hr => by
    simp only [List.mem_cons, not_or] at hd
    rcases h2 _ (h.a v hv hd.2 hr) with e | e
    · rw [← e] at he
      have : v = u := by simp only at he; omega
      exact absurd this hd.1
    · exact e, fun y hy => by
    obtain ⟨v, hv, e, hb⟩ := h.b y (h1 y hy)
    exact ⟨v, hv, e, fun hd => hb (fun hn => hd (by simp [hn]))⟩⟩
theorem QInv.reach {G : Net} {lab : List Lb} {dn : List Nat} {q q' : List En} {t : Int} (h : QInv G.bk G.n lab dn q) (hlen : lab.length = G.n) {i : Nat} (hd : G.d i < G.n)
    (hq : ∀ y, y ∈ q' ↔ y ∈ q ∨ ((IsT (G.f i t) ∧ G.d i ∉ dn ∧ bet G.bk (G.f i t, (i : Int)) (lb lab (G.d i))) ∧ y = (cst G.bk (G.f i t), ((G.d i : Nat) : Int)))) : QInv G.bk G.n (G.rel1 dn t lab i) dn q' := by
  unfold Net.rel1
  by_cases hc : IsT (G.f i t) ∧ G.d i ∉ dn ∧ bet G.bk (G.f i t, (i : Int)) (lb lab (G.d i))
  · rw [if_pos hc]
    have L := lb_set (l := lab) (v := G.d i) (by rw [hlen]; exact hd) (G.f i t, (i : Int))
    refine ⟨fun v hv hvd hr => ?_, fun y hy => ?_⟩
    · rw [L] at hr ⊢
      by_cases e : v = G.d i
      · rw [if_pos e]
        exact (hq _).2 (.inr ⟨hc, by rw [e]⟩)
      · rw [if_neg e] at hr ⊢
        exact (hq _).2 (.inl (h.a v hv hvd hr))
    · rcases (hq y).1 hy with k | ⟨_, k⟩
      · obtain ⟨v, hv, e, hb⟩ := h.b y k
        refine ⟨v, hv, e, fun hvd => ?_⟩
        obtain ⟨b1, b2⟩ := hb hvd
        rw [L]
        by_cases e' : v = G.d i
        · rw [if_pos e']
          have h3 := hc.2.2
          unfold bet at h3
          rw [← e'] at h3
          simp only at h3
          refine ⟨hc.1.1, ?_⟩
          simp only
          rcases h3 with ⟨k1, _⟩ | ⟨_, k1 | k1⟩
          · rw [k1]; exact b2
          · omega
          · omega
        · rw [if_neg e']
          exact ⟨b1, b2⟩
      · subst k
        refine ⟨G.d i, hd, rfl, fun _ => ?_⟩
        rw [L, if_pos rfl]
        exact ⟨hc.1.1, Int.le_refl _⟩
  · rw [if_neg hc]
    refine ⟨fun v hv hvd hr => (hq _).2 (.inl (h.a v hv hvd hr)), fun y hy => ?_⟩
    rcases (hq y).1 hy with k | ⟨k, _⟩
    · exact h.b y k
    · exact absurd k hc

/-- How many are not settled. -/
def un (n : Nat) (dn : List Nat) : Nat := ((List.range n).filter (fun k => !decide (k ∈ dn))).length
theorem un_succ (n : Nat) (dn : List Nat) : un (n + 1) dn = un n dn + if n ∈ dn then 0 else 1 := by
  unfold un
  rw [List.range_succ, List.filter_append, List.length_append]
  by_cases h : n ∈ dn <;> simp [h]
theorem un_high : ∀ (n : Nat) (dn : List Nat) (u : Nat), n ≤ u → un n (u :: dn) = un n dn := by
  intro n
  induction n with
  | zero => intro dn u _; rfl
  | succ n ih =>
    intro dn u h
    rw [un_succ, un_succ, ih dn u (by omega)]
    have : n ∈ u :: dn ↔ n ∈ dn := by simp; omega
    by_cases hm : n ∈ dn
    · rw [if_pos hm, if_pos (this.2 hm)]
    · rw [if_neg hm, if_neg (fun h => hm (this.1 h))]
theorem un_cons : ∀ (n : Nat) (dn : List Nat) (u : Nat), u < n → u ∉ dn → un n (u :: dn) + 1 = un n dn := by
  intro n
  induction n with
  | zero => intro dn u h; omega
  | succ n ih =>
    intro dn u h hu
    rw [un_succ, un_succ]
    by_cases e : u = n
    · subst e
      rw [un_high u dn u (Nat.le_refl _), if_pos (by simp), if_neg hu]
    · have := ih dn u (by omega) hu
      have hm' : n ∈ u :: dn ↔ n ∈ dn := by simp; omega
      by_cases hm : n ∈ dn
      · rw [if_pos hm, if_pos (hm'.2 hm)]; omega
      · rw [if_neg hm, if_neg (fun h => hm (hm'.1 h))]; omega
theorem un_nil : ∀ n : Nat, un n [] = n
  | 0 => rfl
  | n + 1 => by rw [un_succ, un_nil n]; simp
def qlenW (W : World) (G : Nat) : Nat := match W.cell? ⟨G, 3, none⟩ with
  | some (.slice _ n _) => n
  | _ => 0
def unW (W : World) (gd n : Nat) : Nat := ((List.range n).filter (fun k => match W.cell? ⟨gd, k, none⟩ with
  | some (.bool b) => !b
  | _ => false)).length

section
variable {w w' : World} {N G gl gd n : Nat} {bk : Bool} {lab : List Lb} {dn : List Nat} {v : Value} {q : List En}
theorem SAt.qlen (h : SAt w N G gl gd n bk lab dn v q) : qlenW w G = q.length := by
  have h3 : w.cell? ⟨G, 3, none⟩ = some v := h.s.cell 3
  unfold qlenW
  rw [h3]
  rcases h.oq.2 with ⟨rfl, hn⟩ | ⟨g, cap, cur, rfl, _⟩
  · exact hn.symm
  · rfl
theorem SAt.unw (h : SAt w N G gl gd n bk lab dn v q) : unW w gd n = un n dn := by
  unfold unW un
  congr 1
  apply List.filter_congr
  intro k hk
  rw [h.settled (by simpa using hk)]
theorem SAt.low (h : SAt w N G gl gd n bk lab dn v q) : N ≤ gl ∧ N ≤ gd ∧ gl < w.heap.size ∧ gd < w.heap.size := by
  have h1 := World.ownsRow.lt h.l gl rfl
  have h2 := World.ownsRow.lt h.d gd rfl
  omega
theorem SAt.sb_low (h : SAt w N G gl gd n bk lab dn v q) {b : Nat} (hb : SB G gl gd v b) : N ≤ b := by
  have := h.low
  have := h.lo
  rcases hb with e | e | e | e
  · omega
  · omega
  · omega
  · have := (World.ownsRow.lt h.oq b e).1
    omega
/-- The blocks of the search are cells. -/
theorem SAt.sb_cells (h : SAt w N G gl gd n bk lab dn v q) {b : Nat} (hb : SB G gl gd v b) : ∃ cs t f, w.heap[b]? = some (.cells cs t f) ∧ (t = 70 ∨ t = 37 ∨ t = 4 ∨ t = 85) := by
  rcases hb with e | e | e | e
  · subst e; exact ⟨_, _, _, h.s, .inl rfl⟩
  · subst e
    rcases h.l.2 with ⟨hv, _⟩ | ⟨g', cap, cur, hv, _, hg, _⟩
    · cases hv
    · injection hv with e1 _ _; injection e1 with e1; injection e1 with e1
      subst e1; exact ⟨_, _, _, hg, .inr (.inl rfl)⟩
  · subst e
    rcases h.d.2 with ⟨hv, _⟩ | ⟨g', cap, cur, hv, _, hg, _⟩
    · cases hv
    · injection hv with e1 _ _; injection e1 with e1; injection e1 with e1
      subst e1; exact ⟨_, _, _, hg, .inr (.inr (.inl rfl))⟩
  · rcases h.oq.2 with ⟨rfl, _⟩ | ⟨g', cap, cur, rfl, _, hg, _⟩
    · simp [Value.ownBlock] at e
    · have e : some g' = some b := e
      injection e with e
      subst e; exact ⟨_, _, _, hg, .inr (.inr (.inr rfl))⟩
theorem SAt.fr {S : Nat → Prop} (h : SAt w N G gl gd n bk lab dn v q) (hf : Fr S w w') (hS : ∀ b, SB G gl gd v b → ¬ S b) : SAt w' N G gl gd n bk lab dn v q := by
  refine ⟨h.s.fr hf (hS _ (.inl rfl)), h.len, ownsRow_fr h.l hf (hS _ (.inr (.inl rfl))), ownsRow_fr h.d hf (hS _ (.inr (.inr (.inl rfl)))), ?_, h.hp, h.lo⟩
  rcases h.oq.2 with ⟨rfl, hn⟩ | ⟨g', cap, cur, rfl, _⟩
  · exact ⟨h.oq.1, .inl ⟨rfl, hn⟩⟩
  · exact ownsRow_fr h.oq hf (hS _ (.inr (.inr (.inr rfl))))
theorem SAt.keeps (h : SAt w N G gl gd n bk lab dn v q) (hf : Fr (SB G gl gd v) w w') : KeepsOthers w w' :=
  ⟨hf.size, fun k o hk ho => (hf.2.2.2.2 k (Array.getElem?_eq_some_iff.1 hk).1 (fun hs => by
    obtain ⟨cs, t, f, hc, _⟩ := h.sb_cells hs
    rw [hk] at hc
    injection hc with hc
    subst hc
    cases ho)).trans hk⟩
end
theorem fr_putObj (W : World) (l : Nat) (o' : Obj) : Fr (· = l) W (W.putObj l o') :=
  ⟨rfl, rfl, rfl, by simp, fun b _ hn => World.putObj_heap_other hn⟩

/-- The whole state: the search, the boxes of its pointer, everything older as it was in W1. -/
structure JJ (W1 : World) (G gl gd n : Nat) (bk : Bool) (B1 B2 : Nat) (W : World) (lab : List Lb) (dn : List Nat) (v : Value) (q : List En) : Prop where
  sa : SAt W W1.heap.size G gl gd n bk lab dn v q
  bl : Below W1.heap.size W1 W
  b1 : Blk W B1 60 #[.pointer (some ⟨G, 0, none⟩)]
  b2 : Blk W B2 60 #[.pointer (some ⟨G, 0, none⟩)]
section
variable {W1 W W' : World} {G gl gd n B1 B2 : Nat} {bk : Bool} {lab lab' : List Lb} {dn dn' : List Nat} {v v' : Value} {q q' : List En}
theorem JJ.not_sb {h : JJ W1 G gl gd n bk B1 B2 W lab dn v q} {b : Nat} {cs : Array Value} (hb : Blk W b 60 cs) : ¬ SB G gl gd v b := fun hs => by
  obtain ⟨cs', t, f, hc, ht⟩ := h.sa.sb_cells hs
  have := (show W.heap[b]? = _ from hb).symm.trans hc
  injection this with this
  injection this with _ this _
  subst this
  revert ht
  decide
theorem JJ.step (h : JJ W1 G gl gd n bk B1 B2 W lab dn v q) (hf : Fr (SB G gl gd v) W W') (hs : SAt W' W1.heap.size G gl gd n bk lab' dn' v' q') : JJ W1 G gl gd n bk B1 B2 W' lab' dn' v' q' :=
  ⟨hs, h.bl.trans (hf.below (fun _ hb => h.sa.sb_low hb) h.bl.size), h.b1.fr hf (h.not_sb h.b1), h.b2.fr hf (h.not_sb h.b2)⟩
theorem JJ.below (h : JJ W1 G gl gd n bk B1 B2 W lab dn v q) (hb : Below W.heap.size W W') : JJ W1 G gl gd n bk B1 B2 W' lab dn v q :=
  ⟨h.sa.below hb, h.bl.trans (hb.mono h.bl.size), h.b1.below hb h.b1.lt, h.b2.below hb h.b2.lt⟩
theorem JJ.putObj (h : JJ W1 G gl gd n bk B1 B2 W lab dn v q) {l : Nat} {o : Obj} (o' : Obj) (hl : W1.heap.size ≤ l) (ho : W.heap[l]? = some o) (hc : o.isCells = false) : JJ W1 G gl gd n bk B1 B2 (W.putObj l o') lab dn v q := by
  have hne : ∀ (b : Nat) cs t f, W.heap[b]? = some (.cells cs t f) → b ≠ l := fun b cs t f hb e => by
    subst e
    rw [ho] at hb
    injection hb with hb
    subst hb
    cases hc
  have hf := fr_putObj W l o'
  refine ⟨h.sa.fr hf (fun b hb e => ?_), h.bl.trans (hf.below (fun b e => by omega) h.bl.size), h.b1.fr hf (hne _ _ _ _ h.b1), h.b2.fr hf (hne _ _ _ _ h.b2)⟩
  obtain ⟨cs, t, f, hb', _⟩ := h.sa.sb_cells hb
  exact hne b _ _ _ hb' e
end

end Go.Proofs.Yteiojobgjdfdpaa
