/- Plain: the document's example of labels. -/
import Derived.Test.YteiojobgjdfdpaaSh
namespace Go.Proofs.Yteiojobgjdfdpaa

def twoArcs : List Arc := [⟨0, 1, List.replicate 24 10, List.replicate 24 20⟩, ⟨0, 1, List.replicate 24 15, List.replicate 24 15⟩]
theorem pass_const {a : Arc} {b : Bool} {c T : Int} (ho : a.ok) (hc : ∀ u, a.mm b u = c) (hT : IsT T) : a.pass b T = T + c := by
  have h := pass_arr (b := b) ho hT
  obtain ⟨u, h1, h2, h3⟩ := h.at_
  have h4 := h.le T (Int.le_refl _) hT.2
  rw [hc] at h3 h4
  omega
theorem rep_get (x : Int) {h : Nat} (hh : h < 24) : (List.replicate 24 x).getD h 0 = x := by
  rw [List.getD_eq_getElem?_getD, List.getElem?_replicate, if_pos hh]; rfl
theorem two_ok {a : Arc} (h : a ∈ twoArcs) : a.ok := by
  simp only [twoArcs, List.mem_cons, List.not_mem_nil, or_false] at h
  rcases h with rfl | rfl
  · refine ⟨by decide, by decide, by simp, by simp, fun h hh => ?_⟩
    show 0 ≤ (List.replicate 24 (10 : Int)).getD h 0 ∧ (List.replicate 24 (10 : Int)).getD h 0 ≤ (List.replicate 24 (20 : Int)).getD h 0 ∧ (List.replicate 24 (20 : Int)).getD h 0 ≤ 600
    rw [rep_get _ hh, rep_get _ hh]; decide
  · refine ⟨by decide, by decide, by simp, by simp, fun h hh => ?_⟩
    show 0 ≤ (List.replicate 24 (15 : Int)).getD h 0 ∧ (List.replicate 24 (15 : Int)).getD h 0 ≤ (List.replicate 24 (15 : Int)).getD h 0 ∧ (List.replicate 24 (15 : Int)).getD h 0 ≤ 600
    rw [rep_get _ hh]; decide
theorem t100 : IsT 100 := ⟨by decide, by decide⟩
section
variable {l : List Am} (hl : l.map Am.a = twoArcs)
include hl
theorem two_len : l.length = 2 := by
  have := congrArg List.length hl
  rw [List.length_map] at this
  exact this
theorem two_at {k : Nat} (hk : k < 2) : (am l k).a = twoArcs.getD k ⟨0, 0, [], []⟩ := by
  have h2 := two_len hl
  rw [← hl, List.getD_eq_getElem?_getD, List.getElem?_map, List.getElem?_eq_getElem (by omega)]
  show (l.getD k anil).a = _
  rw [List.getD_eq_getElem?_getD, List.getElem?_eq_getElem (by omega)]
  rfl
theorem two0 : (am l 0).a = ⟨0, 1, List.replicate 24 10, List.replicate 24 20⟩ := two_at hl (by omega)
theorem two1 : (am l 1).a = ⟨0, 1, List.replicate 24 15, List.replicate 24 15⟩ := two_at hl (by omega)
theorem two_p0 (b : Bool) {T : Int} (hT : IsT T) : (am l 0).a.pass b T = T + if b then 20 else 10 := by
  rw [two0 hl]
  refine pass_const (two_ok (by simp [twoArcs])) (fun u => ?_) hT
  cases b
  · exact rep_get 10 (hr_lt u)
  · exact rep_get 20 (hr_lt u)
theorem two_p1 (b : Bool) {T : Int} (hT : IsT T) : (am l 1).a.pass b T = T + 15 := by
  rw [two1 hl]
  refine pass_const (two_ok (by simp [twoArcs])) (fun u => ?_) hT
  cases b
  · exact rep_get 15 (hr_lt u)
  · exact rep_get 15 (hr_lt u)
theorem two_right : RRight 2 l := by
  refine ⟨by decide, by decide, by rw [two_len hl]; decide, fun k hk => ?_⟩
  rw [two_len hl] at hk
  match k, hk with
  | 0, _ => exact ⟨by rw [two0 hl]; exact two_ok (by simp [twoArcs]), by rw [two0 hl]; decide, by rw [two0 hl]; decide⟩
  | 1, _ => exact ⟨by rw [two1 hl]; exact two_ok (by simp [twoArcs]), by rw [two1 hl]; decide, by rw [two1 hl]; decide⟩
theorem two_valid : ValidP l := ⟨by rw [two_len hl]; decide, fun k hk => (two_right hl).2.2.2 k hk |>.1⟩
theorem two_span0 : spanO l [0] 100 = (110, 120, 0) := by
  have hW : WayP l [0] := ⟨by simp, fun k hk => by
    have : k = 0 := by simpa using hk
    subst this
    exact ⟨⟨by simp, by rw [two_len hl]; simp⟩, fun h => by omega⟩⟩
  have h1 : runW l true 100 [0] 1 = 120 := two_p0 hl true (T := 100) t100
  have h2 : runW l false 100 [0] 1 = 110 := two_p0 hl false (T := 100) t100
  unfold spanO
  rw [if_pos ⟨two_valid hl, hW, ⟨by decide, by decide⟩⟩]
  show (if IsT (runW l true 100 [0] 1) then (runW l false 100 [0] 1, runW l true 100 [0] 1, (0 : Int)) else (0, 0, 3)) = _
  rw [h1, h2, if_pos ⟨by decide, by decide⟩]
theorem two_span2 : spanO l [2] 100 = (0, 0, 1) := by
  unfold spanO
  refine if_neg (fun h => ?_)
  have h2 := (h.2.1.2 0 (by simp)).1.2
  rw [two_len hl] at h2
  exact absurd h2 (by decide)
theorem two_form : checkO 2 l 0 100 true [] = 2 := by
  unfold checkO
  rw [if_pos ⟨two_right hl, ⟨by decide, by decide⟩, ⟨by decide, by decide⟩⟩]
  exact if_neg (by simp)
theorem two_sound : SoundP l 0 100 true [(100, -1), (115, 1)] := by
  have h1 : (am l 1).a.f = 0 := by rw [two1 hl]
  refine ⟨fun v hv => ?_, fun v hv _ => ?_⟩
  · match v, hv with
    | 0, _ => exact .inl ⟨rfl, rfl⟩
    | 1, _ =>
      refine .inr (.inr ⟨by decide, by decide, ⟨by decide, by decide⟩, 1, by rw [two_len hl]; decide, rfl, by rw [two1 hl]; rfl, ?_⟩)
      rw [h1]
      exact two_p1 hl true (T := 100) t100
    | k + 2, h => simp at h; omega
  · match v, hv with
    | 0, _ => exact ⟨0, rfl⟩
    | 1, _ => exact ⟨1, by show (if (1 : Nat) = 0 then 0 else (am l 1).a.f.toNat) = 0; rw [h1]; rfl⟩
    | k + 2, h => simp at h; omega
theorem two_good : checkO 2 l 0 100 true [(100, -1), (115, 1)] = 0 := by
  unfold checkO
  rw [if_pos ⟨two_right hl, ⟨by decide, by decide⟩, t100⟩, if_pos (by simp)]
  refine if_pos ⟨two_sound hl, fun i hi _ => ?_⟩
  rw [two_len hl] at hi
  have q0 : (am l 0).a.f = 0 := by rw [two0 hl]
  have q1 : (am l 1).a.f = 0 := by rw [two1 hl]
  have r0 : (am l 0).a.t = 1 := by rw [two0 hl]
  have r1 : (am l 1).a.t = 1 := by rw [two1 hl]
  match i, hi with
  | 0, _ =>
    rw [q0, r0]
    have := two_p0 hl true (T := 100) t100
    refine ⟨by decide, ?_⟩
    show (115 : Int) ≤ (am l 0).a.pass true 100
    rw [this]; decide
  | 1, _ =>
    rw [q1, r1]
    have := two_p1 hl true (T := 100) t100
    refine ⟨by decide, ?_⟩
    show (115 : Int) ≤ (am l 1).a.pass true 100
    rw [this]; decide
theorem two_bad1 : checkO 2 l 0 100 true [(100, -1), (120, 0)] = 23 := by
  unfold checkO
  rw [if_pos ⟨two_right hl, ⟨by decide, by decide⟩, t100⟩, if_pos (by simp)]
  refine if_neg (fun h => ?_)
  have h1 := h.2 1 (by rw [two_len hl]; decide)
  have q1 : (am l 1).a.f = 0 := by rw [two1 hl]
  have r1 : (am l 1).a.t = 1 := by rw [two1 hl]
  rw [q1, r1] at h1
  have e : (am l 1).a.pass true (lb [(100, -1), (120, 0)] (0 : Int).toNat).1 = 115 := two_p1 hl true (T := 100) t100
  rw [e] at h1
  have := (h1 ⟨by decide, by decide⟩).2
  exact absurd this (by decide)
theorem two_bad2 : checkO 2 l 0 100 true [(100, -1), (-1, -1)] = 23 := by
  unfold checkO
  rw [if_pos ⟨two_right hl, ⟨by decide, by decide⟩, t100⟩, if_pos (by simp)]
  refine if_neg (fun h => ?_)
  have h1 := h.2 1 (by rw [two_len hl]; decide)
  have q1 : (am l 1).a.f = 0 := by rw [two1 hl]
  have r1 : (am l 1).a.t = 1 := by rw [two1 hl]
  rw [q1, r1] at h1
  have e : (am l 1).a.pass true (lb [(100, -1), (-1, -1)] (0 : Int).toNat).1 = 115 := two_p1 hl true (T := 100) t100
  rw [e] at h1
  exact (h1 ⟨by decide, by decide⟩).1 (by decide)
end

end Go.Proofs.Yteiojobgjdfdpaa
