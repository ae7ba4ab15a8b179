/- Plain: what a list of pairs, signed one after the other, makes. -/
import Derived.Test.YtmlhladdoalfdaaEk
namespace Go.Proofs.Ytmlhladdoalfdaa
open Go.RowKit

theorem snoc_ind {α : Type} {P : List α → Prop} (h0 : P []) (h1 : ∀ l a, P l → P (l ++ [a])) (l : List α) : P l := by
  rw [← List.reverse_reverse l]
  induction l.reverse with
  | nil => exact h0
  | cons a l ih => rw [List.reverse_cons]; exact h1 _ _ ih

/-- The entries, and the signatures that were returned, behind all of a list. -/
def ents : List En → List En := fun l => l.foldl addE []
def mades (l : List En) : List Sg := ((l.foldl (fun s p => (addE s.1 p, s.2 ++ [sg s.1 p])) (([] : List En), ([] : List Sg)))).2
theorem mades_fst (l : List En) (a : List En) (b : List Sg) : (l.foldl (fun s p => (addE s.1 p, s.2 ++ [sg s.1 p])) (a, b)).1 = l.foldl addE a := by
  induction l generalizing a b with
  | nil => rfl
  | cons p l ih => exact ih _ _
theorem ents_snoc (l : List En) (p : En) : ents (l ++ [p]) = addE (ents l) p := by simp [ents]
theorem mades_snoc (l : List En) (p : En) : mades (l ++ [p]) = mades l ++ [sg (ents l) p] := by
  unfold mades ents
  rw [List.foldl_append]
  show _ ++ [sg (l.foldl (fun s p => (addE s.1 p, s.2 ++ [sg s.1 p])) (([] : List En), ([] : List Sg))).1 p] = _
  rw [mades_fst]
theorem ents_nil : ents [] = [] := rfl
theorem mades_nil : mades [] = [] := rfl
theorem addE_bad {es : List En} {p : En} (h : okKey p.1 = false) : addE es p = es := by unfold addE; rw [if_neg (by simp [h])]
theorem addE_in {es : List En} {p : En} (h : p ∈ es) : addE es p = es := by unfold addE; rw [if_neg (fun h' => h'.2 (pos_lt.1 h))]
theorem addE_new {es : List En} {p : En} (hk : okKey p.1 = true) (h : p ∉ es) : addE es p = es ++ [p] := by unfold addE; rw [if_pos ⟨hk, fun h' => h (pos_lt.2 h')⟩]
theorem addE_len (es : List En) (p : En) : (addE es p).length ≤ es.length + 1 := by
  unfold addE
  split <;> simp
theorem ents_len (l : List En) : (ents l).length ≤ l.length := by
  have h : ∀ (l a : List En), (l.foldl addE a).length ≤ a.length + l.length := by
    intro l
    induction l with
    | nil => intro a; simp
    | cons p l ih =>
      intro a
      have h1 := ih (addE a p)
      have h2 := addE_len a p
      simp only [List.foldl_cons, List.length_cons]
      omega
  have := h l []
  simpa [ents] using this
theorem mades_len (l : List En) : (mades l).length = l.length := by
  induction l using snoc_ind with
  | h0 => rfl
  | h1 l p ih => rw [mades_snoc]; simp [ih]
theorem addE_mem {es : List En} {p : En} (hk : okKey p.1 = true) : p ∈ addE es p := by
  by_cases h : p ∈ es
  · rw [addE_in h]; exact h
  · rw [addE_new hk h]; simp
theorem addE_pos (es : List En) (p : En) : pos (addE es p) p = pos es p := by
  by_cases hk : okKey p.1 = true
  · by_cases h : p ∈ es
    · rw [addE_in h]
    · rw [addE_new hk h, pos_new h, pos_out h]
  · rw [addE_bad (by simpa using hk)]
theorem addE_pre (es : List En) (p : En) : ∃ t, addE es p = es ++ t := by
  unfold addE
  split
  · exact ⟨[p], rfl⟩
  · exact ⟨[], by simp⟩
theorem foldl_pre (l a : List En) : ∃ t, l.foldl addE a = a ++ t := by
  induction l generalizing a with
  | nil => exact ⟨[], by simp⟩
  | cons p l ih =>
    obtain ⟨t1, h1⟩ := addE_pre a p
    obtain ⟨t2, h2⟩ := ih (addE a p)
    exact ⟨t1 ++ t2, by rw [List.foldl_cons, h2, h1, List.append_assoc]⟩
theorem pos_pre {es : List En} {p : En} (h : p ∈ es) (t : List En) : pos (es ++ t) p = pos es p := by
  induction es with
  | nil => cases h
  | cons e es ih =>
    rw [List.cons_append]
    unfold pos
    by_cases h1 : e = p
    · simp [h1]
    · rw [if_neg h1, if_neg h1, ih (by simpa [Ne.symm h1] using h)]
theorem getD_split {l : List En} {i : Nat} (hi : i < l.length) : ∃ t, l = (l.take i ++ [l.getD i e0]) ++ t := ⟨l.drop (i + 1), by rw [← take_snoc hi, List.take_append_drop]⟩
/-- Signing again. -/
theorem again_mem {l : List En} {i : Nat} (hi : i < l.length) (hk : okKey (l.getD i e0).1 = true) : l.getD i e0 ∈ ents l ∧ pos (ents l) (l.getD i e0) = pos (ents (l.take i)) (l.getD i e0) := by
  obtain ⟨t, ht⟩ := getD_split hi
  obtain ⟨u, hu⟩ := foldl_pre t (addE (ents (l.take i)) (l.getD i e0))
  have e : ents l = addE (ents (l.take i)) (l.getD i e0) ++ u := by
    rw [← hu, ← ents_snoc]
    conv => lhs; rw [ht]
    unfold ents
    rw [List.foldl_append]
  have hm := addE_mem (es := ents (l.take i)) hk
  rw [e]
  exact ⟨List.mem_append_left _ hm, by rw [pos_pre hm, addE_pos]⟩
theorem again_add {l : List En} {i : Nat} (hi : i < l.length) : addE (ents l) (l.getD i e0) = ents l := by
  cases hk : okKey (l.getD i e0).1 with
  | false => exact addE_bad hk
  | true => exact addE_in (again_mem hi hk).1
theorem mades_get {l : List En} {i : Nat} (hi : i < l.length) : (mades l).getD i g0 = sg (ents (l.take i)) (l.getD i e0) := by
  have h : ∀ (t a : List En), (mades (a ++ t)).take a.length = mades a := by
    intro t
    induction t with
    | nil => intro a; rw [List.append_nil, List.take_of_length_le (by rw [mades_len]; exact Nat.le_refl _)]
    | cons p t ih =>
      intro a
      have h1 := ih (a ++ [p])
      rw [List.append_assoc] at h1
      have h2 := congrArg (List.take a.length) h1
      rw [List.take_take, Nat.min_eq_left (by simp)] at h2
      rw [show a ++ p :: t = a ++ ([p] ++ t) from rfl, h2, mades_snoc, List.take_append_of_le_length (by rw [mades_len]; exact Nat.le_refl _), List.take_of_length_le (by rw [mades_len]; exact Nat.le_refl _)]
  obtain ⟨t, ht⟩ := getD_split hi
  have h1 := h t (l.take i ++ [l.getD i e0])
  rw [← ht] at h1
  have hl : (l.take i ++ [l.getD i e0]).length = i + 1 := by simp; omega
  rw [hl, mades_snoc] at h1
  have h2 : ((mades l).take (i + 1)).getD i g0 = (mades (l.take i) ++ [sg (ents (l.take i)) (l.getD i e0)]).getD i g0 := by rw [h1]
  rw [getD_take (by omega)] at h2
  rw [h2, List.getD_eq_getElem?_getD, List.getElem?_append_right (by rw [mades_len, List.length_take]; omega), mades_len, List.length_take, Nat.min_eq_left (by omega), Nat.sub_self]
  rfl
theorem again_sg {l : List En} {i : Nat} (hi : i < l.length) : sg (ents l) (l.getD i e0) = (mades l).getD i g0 := by
  rw [mades_get hi]
  unfold sg
  split
  · rename_i hk
    rw [(again_mem hi hk).2]
  · rfl
theorem ents_keys {l : List En} : ∀ p ∈ ents l, okKey p.1 = true ∧ p ∈ l := by
  induction l using snoc_ind with
  | h0 => intro p hp; cases hp
  | h1 l q ih =>
    intro p hp
    rw [ents_snoc] at hp
    by_cases hk : okKey q.1 = true
    · by_cases h : q ∈ ents l
      · rw [addE_in h] at hp
        exact ⟨(ih p hp).1, List.mem_append_left _ (ih p hp).2⟩
      · rw [addE_new hk h] at hp
        rcases List.mem_append.1 hp with hp | hp
        · exact ⟨(ih p hp).1, List.mem_append_left _ (ih p hp).2⟩
        · have : p = q := by simpa using hp
          subst this
          exact ⟨hk, by simp⟩
    · rw [addE_bad (by simpa using hk)] at hp
      exact ⟨(ih p hp).1, List.mem_append_left _ (ih p hp).2⟩
theorem ents_nodup (l : List En) : (ents l).Nodup := by
  induction l using snoc_ind with
  | h0 => simp [ents]
  | h1 l q ih =>
    rw [ents_snoc]
    by_cases hk : okKey q.1 = true
    · by_cases h : q ∈ ents l
      · rw [addE_in h]; exact ih
      · rw [addE_new hk h]; exact nodup_snoc ih h
    · rw [addE_bad (by simpa using hk)]; exact ih

end Go.Proofs.Ytmlhladdoalfdaa
