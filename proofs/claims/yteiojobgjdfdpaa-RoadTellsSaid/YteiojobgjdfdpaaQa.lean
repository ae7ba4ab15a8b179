/- Plain: a heap of entries in a list; up and down. No program. -/
import Derived.Test.YteiojobgjdfdpaaRows
namespace Go.Proofs.Yteiojobgjdfdpaa

abbrev En := Int × Int
def En.lt (a b : En) : Prop := a.1 < b.1 ∨ (a.1 = b.1 ∧ a.2 < b.2)
instance (a b : En) : Decidable (En.lt a b) := inferInstanceAs (Decidable (_ ∨ _))
def En.le (a b : En) : Prop := ¬ En.lt b a
theorem En.le_trans {a b c : En} (h : En.le a b) (k : En.le b c) : En.le a c := by unfold En.le En.lt at *; omega
theorem En.lt_le {a b : En} (h : En.lt a b) : En.le a b := by unfold En.le En.lt at *; omega
theorem En.le_refl (a : En) : En.le a a := by unfold En.le En.lt; omega
abbrev gq (q : List En) (k : Nat) : En := q.getD k (0, 0)
def swp (q : List En) (i j : Nat) : List En := (q.set i (gq q j)).set j (gq q i)
theorem swp_len (q : List En) (i j : Nat) : (swp q i j).length = q.length := by simp [swp]
theorem gq_swp {q : List En} {i j : Nat} (hi : i < q.length) (hj : j < q.length) (k : Nat) : gq (swp q i j) k = if k = j then gq q i else if k = i then gq q j else gq q k := by
  unfold gq swp
  rw [List.getD_eq_getElem?_getD, List.getElem?_set]
  by_cases h1 : k = j
  · subst h1
    rw [if_pos rfl, if_pos (by simpa using hj), if_pos rfl]
    rfl
  · rw [if_neg (fun e => h1 e.symm), if_neg h1, List.getElem?_set]
    by_cases h2 : k = i
    · subst h2
      rw [if_pos rfl, if_pos hi, if_pos rfl]
      rfl
    · rw [if_neg (fun e => h2 e.symm), if_neg h2, ← List.getD_eq_getElem?_getD]
theorem gq_mem {q : List En} {k : Nat} (h : k < q.length) : gq q k ∈ q := by
  unfold gq
  rw [List.getD_eq_getElem?_getD, List.getElem?_eq_getElem h]
  exact List.getElem_mem h
theorem mem_gq {q : List En} {x : En} (h : x ∈ q) : ∃ k, k < q.length ∧ gq q k = x := by
  obtain ⟨k, hk, e⟩ := List.mem_iff_getElem.1 h
  exact ⟨k, hk, by unfold gq; rw [List.getD_eq_getElem?_getD, List.getElem?_eq_getElem hk]; exact e⟩
theorem mem_swp1 {q : List En} {i j : Nat} (hi : i < q.length) (hj : j < q.length) {x : En} (h : x ∈ swp q i j) : x ∈ q := by
  obtain ⟨k, hk, rfl⟩ := mem_gq h
  rw [swp_len] at hk
  rw [gq_swp hi hj]
  split
  · exact gq_mem hi
  · split
    · exact gq_mem hj
    · exact gq_mem hk
theorem swp_swp {q : List En} {i j : Nat} (hi : i < q.length) (hj : j < q.length) : swp (swp q i j) i j = q := by
  apply List.ext_getElem
  · simp [swp_len]
  · intro k h1 h2
    have e1 : (swp (swp q i j) i j)[k] = gq (swp (swp q i j) i j) k := by unfold gq; rw [List.getD_eq_getElem?_getD, List.getElem?_eq_getElem h1]; rfl
    have e2 : q[k] = gq q k := by unfold gq; rw [List.getD_eq_getElem?_getD, List.getElem?_eq_getElem h2]; rfl
    rw [e1, e2, gq_swp (by rw [swp_len]; exact hi) (by rw [swp_len]; exact hj), gq_swp hi hj, gq_swp hi hj, gq_swp hi hj]
    by_cases a : k = j <;> by_cases b : k = i <;> by_cases c : i = j <;> simp_all
theorem mem_swp {q : List En} {i j : Nat} (hi : i < q.length) (hj : j < q.length) (x : En) : x ∈ swp q i j ↔ x ∈ q :=
  ⟨mem_swp1 hi hj, fun h => mem_swp1 (q := swp q i j) (i := i) (j := j) (by rw [swp_len]; exact hi) (by rw [swp_len]; exact hj) (by rw [swp_swp hi hj]; exact h)⟩

def Heap (q : List En) (n : Nat) : Prop := ∀ k, 0 < k → k < n → En.le (gq q ((k - 1) / 2)) (gq q k)
theorem Heap.min {q : List En} {n : Nat} (h : Heap q n) : ∀ k, k < n → En.le (gq q 0) (gq q k) := by
  intro k
  induction k using Nat.strongRecOn with
  | ind k ih =>
    intro hk
    by_cases h0 : k = 0
    · subst h0; exact En.le_refl _
    · exact En.le_trans (ih ((k - 1) / 2) (by omega) (by omega)) (h k (by omega) hk)
structure UpI (q : List En) (n j : Nat) : Prop where
  a : ∀ k, 0 < k → k < n → k ≠ j → En.le (gq q ((k - 1) / 2)) (gq q k)
  b : ∀ k, 0 < k → k < n → (k - 1) / 2 = j → 0 < j → En.le (gq q ((j - 1) / 2)) (gq q k)
theorem UpI.start {q : List En} {n : Nat} (h : Heap q n) (x : En) (hn : q.length = n) : UpI (q ++ [x]) (n + 1) n := by
  have e : ∀ k, k < n → gq (q ++ [x]) k = gq q k := fun k hk => by
    unfold gq; rw [List.getD_eq_getElem?_getD, List.getElem?_append_left (by omega), List.getD_eq_getElem?_getD]
  refine ⟨fun k h0 hk hne => ?_, fun k h0 hk he hj => by omega⟩
  rw [e _ (by omega), e _ (by omega)]
  exact h k h0 (by omega)
theorem UpI.done {q : List En} {n j : Nat} (h : UpI q n j) (hj : j = 0 ∨ En.le (gq q ((j - 1) / 2)) (gq q j)) : Heap q n := fun k h0 hk => by
  by_cases e : k = j
  · subst e
    rcases hj with hj | hj
    · omega
    · exact hj
  · exact h.a k h0 hk e
theorem UpI.step {q : List En} {n j p : Nat} (h : UpI q n j) (h0 : 0 < j) (hj : j < n) (hn : n ≤ q.length) (hp : (j - 1) / 2 = p) (hl : En.lt (gq q j) (gq q p)) : UpI (swp q p j) n p := by
  have G := gq_swp (q := q) (i := p) (j := j) (by omega) (by omega)
  have hl' := En.lt_le hl
  refine ⟨fun k k0 kn kp => ?_, fun k k0 kn ke p0 => ?_⟩
  · rw [G, G k]
    by_cases e1 : k = j
    · subst e1
      rw [hp, if_pos rfl, if_neg (by omega), if_pos rfl]
      exact hl'
    · rw [if_neg e1, if_neg kp]
      by_cases e2 : (k - 1) / 2 = j
      · rw [if_pos e2]
        have := h.b k k0 kn e2 h0
        rw [hp] at this
        exact this
      · rw [if_neg e2]
        by_cases e3 : (k - 1) / 2 = p
        · rw [if_pos e3]
          have := h.a k k0 kn e1
          rw [e3] at this
          exact En.le_trans hl' this
        · rw [if_neg e3]
          exact h.a k k0 kn e1
  · rw [G, G k, if_neg (by omega), if_neg (by omega)]
    have h1 := h.a p p0 (by omega) (by omega)
    by_cases e1 : k = j
    · rw [if_pos e1]
      exact h1
    · rw [if_neg e1, if_neg (by omega)]
      have := h.a k k0 kn e1
      rw [ke] at this
      exact En.le_trans h1 this
structure DownI (q : List En) (n i : Nat) : Prop where
  a : ∀ k, 0 < k → k < n → (k - 1) / 2 ≠ i → En.le (gq q ((k - 1) / 2)) (gq q k)
  b : ∀ k, 0 < k → k < n → (k - 1) / 2 = i → 0 < i → En.le (gq q ((i - 1) / 2)) (gq q k)
theorem DownI.done {q : List En} {n i : Nat} (h : DownI q n i) (hj : ∀ k, 0 < k → k < n → (k - 1) / 2 = i → En.le (gq q i) (gq q k)) : Heap q n := fun k h0 hk => by
  by_cases e : (k - 1) / 2 = i
  · rw [e]; exact hj k h0 hk e
  · exact h.a k h0 hk e
theorem DownI.step {q : List En} {n i j : Nat} (h : DownI q n i) (h0 : 0 < j) (hj : j < n) (hn : n ≤ q.length) (hp : (j - 1) / 2 = i) (hl : En.lt (gq q j) (gq q i)) (hm : ∀ k, 0 < k → k < n → (k - 1) / 2 = i → En.le (gq q j) (gq q k)) : DownI (swp q i j) n j := by
  have G := gq_swp (q := q) (i := i) (j := j) (by omega) (by omega)
  have hl' := En.lt_le hl
  refine ⟨fun k k0 kn kp => ?_, fun k k0 kn ke p0 => ?_⟩
  · rw [G, G k, if_neg kp]
    by_cases e1 : k = j
    · subst e1
      rw [if_pos rfl, if_pos hp]
      exact hl'
    · rw [if_neg e1]
      by_cases e2 : (k - 1) / 2 = i
      · rw [if_pos e2, if_neg (by omega)]
        exact hm k k0 kn e2
      · rw [if_neg e2]
        by_cases e3 : k = i
        · subst e3
          rw [if_pos rfl]
          exact h.b j h0 hj hp k0
        · rw [if_neg e3]
          exact h.a k k0 kn e2
  · rw [G, G k, hp, if_neg (by omega), if_pos rfl, if_neg (by omega), if_neg (by omega)]
    have := h.a k k0 kn (by omega)
    rw [ke] at this
    exact this
/-- The last and the first are exchanged, the last is set aside. -/
theorem Heap.cut {q : List En} {n : Nat} (h : Heap q (n + 1)) (hn : n < q.length) : DownI (swp q 0 n) n 0 := by
  have G := gq_swp (q := q) (i := 0) (j := n) (by omega) hn
  refine ⟨fun k k0 kn kp => ?_, fun k k0 kn ke p0 => by omega⟩
  rw [G, G k, if_neg (by omega), if_neg kp, if_neg (by omega), if_neg (by omega)]
  exact h k k0 (by omega)
theorem Heap.nil (q : List En) : Heap q 0 := fun k _ h => by omega
theorem Heap.less {q q' : List En} {n : Nat} (h : Heap q n) (he : ∀ k, k < n → gq q' k = gq q k) : Heap q' n := fun k h0 hk => by
  rw [he _ (by omega), he _ hk]; exact h k h0 hk

end Go.Proofs.Yteiojobgjdfdpaa
