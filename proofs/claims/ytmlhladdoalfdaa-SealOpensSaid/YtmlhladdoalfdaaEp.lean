/- Plain: the signatures that were returned for keys. -/
import Derived.Test.YtmlhladdoalfdaaEm
namespace Go.Proofs.Ytmlhladdoalfdaa
open Go.RowKit

def goods (l : List En) : List Sg := ((l.foldl (fun s p => (addE s.1 p, if okKey p.1 = true then s.2 ++ [sg s.1 p] else s.2)) (([] : List En), ([] : List Sg)))).2
theorem goods_fst (l : List En) (a : List En) (b : List Sg) : (l.foldl (fun s p => (addE s.1 p, if okKey p.1 = true then s.2 ++ [sg s.1 p] else s.2)) (a, b)).1 = l.foldl addE a := by
  induction l generalizing a b with
  | nil => rfl
  | cons p l ih => exact ih _ _
theorem goods_snoc (l : List En) (p : En) : goods (l ++ [p]) = if okKey p.1 = true then goods l ++ [(p, (pos (ents l) p : Int))] else goods l := by
  have h : sg (ents l) p = if okKey p.1 = true then (p, (pos (ents l) p : Int)) else (e0, 0) := rfl
  unfold goods
  rw [List.foldl_append]
  show (if okKey p.1 = true then _ ++ [sg (l.foldl (fun s p => (addE s.1 p, if okKey p.1 = true then s.2 ++ [sg s.1 p] else s.2)) (([] : List En), ([] : List Sg))).1 p] else _) = _
  rw [goods_fst, show l.foldl addE [] = ents l from rfl, h]
  split <;> rfl
theorem goods_len (l : List En) : (goods l).length ≤ l.length := by
  induction l using snoc_ind with
  | h0 => exact Nat.le_refl _
  | h1 l p ih => rw [goods_snoc]; split <;> simp <;> omega
theorem mem_goods (l : List En) : ∀ y : Sg, y ∈ goods l ↔ y.1 ∈ ents l ∧ (pos (ents l) y.1 : Int) = y.2 := by
  induction l using snoc_ind with
  | h0 => intro y; simp [goods, ents]
  | h1 l q ih =>
    intro y
    rw [goods_snoc, ents_snoc]
    by_cases hk : okKey q.1 = true
    · rw [if_pos hk, List.mem_append, ih y, List.mem_singleton]
      by_cases hq : q ∈ ents l
      · rw [addE_in hq]
        constructor
        · rintro (h | rfl)
          · exact h
          · exact ⟨hq, rfl⟩
        · exact .inl
      · rw [addE_new hk hq]
        constructor
        · rintro (h | rfl)
          · exact ⟨List.mem_append_left _ h.1, by rw [pos_append h.1]; exact h.2⟩
          · exact ⟨by simp, by rw [pos_new hq, pos_out hq]⟩
        · rintro ⟨h1, h2⟩
          rcases List.mem_append.1 h1 with h | h
          · rw [pos_append h] at h2
            exact .inl ⟨h, h2⟩
          · have e : y.1 = q := by simpa using h
            right
            rw [e, pos_new hq] at h2
            rw [pos_out hq]
            exact Prod.ext e h2.symm
    · rw [if_neg hk, addE_bad (by simpa using hk), ih y]
theorem holds_iff (l : List En) (y : Sg) : holds (ents l) y.1 y.2 = true ↔ y ∈ goods l := by
  rw [mem_goods]
  unfold holds
  simp [pos_lt]

/-- The place of a signature. -/
def posG : List Sg → Sg → Nat
  | [], _ => 0
  | e :: es, p => if e = p then 0 else posG es p + 1
theorem posG_lt {es : List Sg} {p : Sg} : p ∈ es ↔ posG es p < es.length := by
  induction es with
  | nil => simp [posG]
  | cons e es ih =>
    unfold posG
    by_cases h : e = p
    · simp [h]
    · rw [if_neg h, List.mem_cons, List.length_cons, ih]
      constructor
      · rintro (h1 | h1)
        · exact absurd h1.symm h
        · omega
      · intro h1
        exact .inr (by omega)
theorem posG_le (es : List Sg) (p : Sg) : posG es p ≤ es.length := by
  induction es with
  | nil => simp [posG]
  | cons e es ih =>
    unfold posG
    split
    · simp
    · simp; omega
theorem posG_get {es : List Sg} {p : Sg} (h : p ∈ es) : es.getD (posG es p) g0 = p := by
  induction es with
  | nil => cases h
  | cons e es ih =>
    unfold posG
    by_cases h1 : e = p
    · simp [h1]
    · rw [if_neg h1, List.getD_cons_succ]
      exact ih (by simpa [Ne.symm h1] using h)
theorem posG_le_get {es : List Sg} {p : Sg} {k : Nat} (hk : k < es.length) (hg : es.getD k g0 = p) : posG es p ≤ k := by
  induction es generalizing k with
  | nil => cases hk
  | cons e es ih =>
    unfold posG
    split
    · omega
    · rename_i h
      cases k with
      | zero => exact absurd (by simpa using hg) h
      | succ k =>
        have := ih (k := k) (by simpa using hk) (by simpa using hg)
        omega
theorem sg_get {ds : List Sg} {i : Nat} (hi : i < ds.length) : ds.getD i g0 ∈ ds := by
  rw [List.getD_eq_getElem?_getD, List.getElem?_eq_getElem hi]
  exact List.getElem_mem hi
theorem holds_goods (l : List En) (y : Sg) : holds (ents l) y.1 y.2 = decide (posG (goods l) y < (goods l).length) := by
  cases h : holds (ents l) y.1 y.2 with
  | true => exact (decide_eq_true (posG_lt.1 ((holds_iff l y).1 h))).symm
  | false => exact (decide_eq_false (fun h' => by rw [(holds_iff l y).2 (posG_lt.2 h')] at h; cases h)).symm
theorem goods_ok {l : List En} (hd : ∀ d ∈ l, EnOk d ∧ d.2.size ≤ 1000) : ∀ y ∈ goods l, EnOk y.1 ∧ 0 ≤ y.2 ∧ y.2 ≤ l.length := fun y hy => by
  obtain ⟨h1, h2⟩ := (mem_goods l y).1 hy
  have h3 := pos_lt.1 h1
  have h4 := ents_len l
  exact ⟨(hd _ (ents_keys _ h1).2).1, by omega, by omega⟩

end Go.Proofs.Ytmlhladdoalfdaa
