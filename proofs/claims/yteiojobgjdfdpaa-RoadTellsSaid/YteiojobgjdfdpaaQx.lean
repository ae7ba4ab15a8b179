/- Walks: slices.Reverse of ints; Way. -/
import Derived.Test.YteiojobgjdfdpaaQc
import Derived.Test.YteiojobgjdfdpaaQv
import Derived.Test.YteiojobgjdfdpaaQg
namespace Go.Proofs.Yteiojobgjdfdpaa
open Go.RowKit

/-- Turned at both ends, up to i. -/
def RevTo (l l' : List Int) (i : Nat) : Prop := l'.length = l.length ∧ ∀ k, k < l.length → l'.getD k 0 = if k < i ∨ l.length ≤ k + i then l.getD (l.length - 1 - k) 0 else l.getD k 0
theorem RevTo.start (l : List Int) : RevTo l l 0 := ⟨rfl, fun k hk => by rw [if_neg (by omega)]⟩
theorem RevTo.done {l l' : List Int} {i : Nat} (h : RevTo l l' i) (hi : l.length ≤ 2 * i + 1) : l' = l.reverse := by
  apply List.ext_getElem
  · rw [h.1]; simp
  · intro k h1 h2
    have hk : k < l.length := by rw [← h.1]; exact h1
    have e := h.2 k hk
    rw [List.getElem_reverse]
    rw [List.getD_eq_getElem?_getD, List.getElem?_eq_getElem h1] at e
    have e : l'[k] = _ := e
    rw [e]
    split
    · rw [List.getD_eq_getElem?_getD, List.getElem?_eq_getElem (by omega)]; rfl
    · have : l.length - 1 - k = k := by omega
      rw [List.getD_eq_getElem?_getD, List.getElem?_eq_getElem hk]
      simp only [this]; rfl
theorem getD_set2 {l : List Int} {i : Nat} (h : i < l.length) (x : Int) (k : Nat) : (l.set i x).getD k 0 = if k = i then x else l.getD k 0 := by
  rw [List.getD_eq_getElem?_getD, List.getElem?_set]
  by_cases e : k = i
  · subst e; rw [if_pos rfl, if_pos h, if_pos rfl]; rfl
  · rw [if_neg (fun h => e h.symm), if_neg e, ← List.getD_eq_getElem?_getD]
theorem RevTo.step {l l' : List Int} {i j : Nat} (h : RevTo l l' i) (hij : i < j) (hj : i + j + 1 = l.length) : RevTo l ((l'.set i (l'.getD j 0)).set j (l'.getD i 0)) (i + 1) := by
  refine ⟨by simp [h.1], fun k hk => ?_⟩
  rw [getD_set2 (by rw [List.length_set, h.1]; omega), getD_set2 (by rw [h.1]; omega)]
  have hi' := h.2 i (by omega)
  have hj' := h.2 j (by omega)
  rw [if_neg (by omega)] at hi' hj'
  by_cases e1 : k = j
  · subst e1
    rw [if_pos rfl, if_pos (by omega), hi', show l.length - 1 - k = i by omega]
  · rw [if_neg e1]
    by_cases e2 : k = i
    · subst e2
      rw [if_pos rfl, if_pos (by omega), hj', show l.length - 1 - k = j by omega]
    · rw [if_neg e2, h.2 k hk]
      by_cases e3 : k < i ∨ l.length ≤ k + i
      · rw [if_pos e3, if_pos (by omega)]
      · rw [if_neg e3, if_neg (by omega)]
theorem OwnI.some_of {w : World} {N : Nat} {v : Value} {l : List Int} (h : OwnI w N v l) (hl : 0 < l.length) : ∃ g c, v = .slice (some ⟨g, 0, none⟩) l.length c ∧ N ≤ g ∧ g < w.heap.size ∧ l.length ≤ c := by
  rcases h.2 with ⟨rfl, hn⟩ | ⟨g, cap, cur, rfl, hb, hg, hnc, hcm, hcs, htake⟩
  · omega
  · exact ⟨g, cap, rfl, hb, (Array.getElem?_eq_some_iff.1 hg).1, hnc⟩
set_option maxRecDepth 100000 in
set_option maxHeartbeats 8000000 in
theorem reverse_any (N : Nat) (A : Option Addr) (n c : Nat) (l : List Int) (w : World) (ho : OwnI w N (.slice A n c) l) (hn : l.length = n) (hm : n ≤ 1000000) :
    Calls Try.prog 48 #[.slice A n c] w fun e w' => e = .returned (.tuple #[]) ∧ OwnI w' N (.slice A n c) l.reverse ∧ (N ≤ w.heap.size → Below N w w') := by
  have HO := Lib.hid (And.intro ho hn); clear ho hn
  go_enter Try.func48, Try.ntmps48
  go_wp2_with fail
  go_loopw [2, 3] (fun iv jv wr => ∃ (i : Nat) (l' : List Int), iv = .int .i64 i ∧ jv = .int .i64 ((n : Int) - 1 - i) ∧ 2 * i ≤ n + 1 ∧ Hid (RevTo l l' i) ∧ Hid (OwnI wr N (.slice A n c) l') ∧ Hid (N ≤ w.heap.size → Below N w wr)) (fun iv _ _ => n - (intOf iv).toNat)
  case atStart => exact ⟨0, l, rfl, by simp, by omega, Lib.hid (RevTo.start l), Lib.hid HO.out.1, Lib.hid (fun _ => Below.refl _ _)⟩
  case round =>
    obtain ⟨i, l', rfl, rfl, hi, hR, hO, hB⟩ := hrel
    by_cases hgo : 2 * i + 1 < n
    · obtain ⟨j, hj⟩ : ∃ j, n - 1 - i = j := ⟨_, rfl⟩
      have ej : ((n : Int) - 1 - (i : Int)) = (j : Int) := by omega
      have hl' : l'.length = n := hR.out.1.trans HO.out.2
      obtain ⟨g, hA⟩ : ∃ g, A = some ⟨g, 0, none⟩ := by
        obtain ⟨g, c', e, _⟩ := hO.out.some_of (by omega)
        injection e with e1 _ _
        exact ⟨g, e1⟩
      subst hA
      have hO1 := hO.out
      have a1 := hO1.cell hl' (k := i) (by omega)
      have a2 := hO1.cell hl' (k := j) (by omega)
      have f1 : wr.frozen? ⟨g, i, none⟩ = false := hO1.frozen hl'
      have f2 : wr.frozen? ⟨g, j, none⟩ = false := hO1.frozen hl'
      have hS := (hO1.store hl' i (l'.getD j 0)).store (by simpa using hl') j (l'.getD i 0)
      have hNl := hO1.lt
      have HSt := hR.out.step (j := j) (by omega) (by have := HO.out.2; omega)
      obtain ⟨x, hx⟩ : ∃ x, l'.getD i 0 = x := ⟨_, rfl⟩
      obtain ⟨y, hy⟩ : ∃ y, l'.getD j 0 = y := ⟨_, rfl⟩
      rw [hx] at a1; rw [hy] at a2
      rw [hx, hy] at hS HSt
      have s1 : (wr.setCell ⟨g, i, none⟩ (.int .i64 y)).cell? ⟨g, j, none⟩ = some (.int .i64 y) := cell_set_if a2 (fun _ => rfl)
      have HX := Lib.hid (And.intro hS (And.intro HSt hNl))
      have HB2 : Hid (N ≤ w.heap.size → Below N w ((wr.setCell ⟨g, i, none⟩ (.int .i64 y)).setCell ⟨g, j, none⟩ (.int .i64 x))) := Lib.hid (fun h => ((hB.out h).setCell (p := ⟨g, i, none⟩) hNl.1 _).setCell (p := ⟨g, j, none⟩) hNl.1 _)
      clear hx hy hS HSt hO1 hj
      go_wp2_with fail
      go_region
      all_goals
        go_wp2_with fail
        go_roundw
        case rel => exact ⟨i + 1, _, rfl, by simp <;> omega, by omega, Lib.hid HX.out.2.1, Lib.hid (World.ownsRow.drew HX.out.1), Lib.hid (fun h => (HB2.out h).drew)⟩
        case measure => simp [intOf]; omega
    · have hfin := hR.out.done (by have := HO.out.2; omega)
      have HF := Lib.hid hfin; clear hfin
      have hij : ¬ ((i : Int) < (n : Int) - 1 - i) := by omega
      go_wp2_with fail
      go_end0
      exact ⟨rfl, by rw [← HF.out]; exact hO.out, hB.out⟩

end Go.Proofs.Yteiojobgjdfdpaa
