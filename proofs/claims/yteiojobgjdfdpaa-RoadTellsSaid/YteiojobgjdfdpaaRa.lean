/- Walks: the example of the law. -/
import Derived.Test.YteiojobgjdfdpaaQt
import Derived.Test.YteiojobgjdfdpaaQw
import Derived.Test.YteiojobgjdfdpaaQy
import Derived.Test.YteiojobgjdfdpaaQz
namespace Go.Proofs.Yteiojobgjdfdpaa
open Go.RowKit

def LabE (w : World) (L : List Lb) (e : Ending) (w' : World) : Prop := ∃ gl, e = .returned (.tuple #[.slice (some ⟨gl, 0, none⟩) 3 3, .int .i64 0]) ∧ LbsAt w'.heap.size w' (some ⟨gl, 0, none⟩) L ∧ Below w.heap.size w w'
theorem EndP.labE {w w' : World} {G : Net} {src : Nat} {t : Int} {e : Ending} {L : List Lb} (h : EndP w G src t e w') (hn : G.n = 3) (hL : ∀ lab, G.End src t lab → lab = L) : LabE w L e w' := by
  obtain ⟨gl, lab, he, hE, ho, hl, hb⟩ := h
  rw [hn] at he ho hl
  have := hL lab hE
  subst this
  exact ⟨gl, he, own_lbs ho hl, hb⟩
theorem lit_lbs (w : World) (a0 b0 a1 b1 a2 b2 : Int) : LbsAt (w.heap.size + 1) (w.alloc (.cells #[.int .i64 a0, .int .i64 b0, .int .i64 a1, .int .i64 b1, .int .i64 a2, .int .i64 b2] 37)) (some ⟨w.heap.size, 0, none⟩) [(a0, b0), (a1, b1), (a2, b2)] := by
  have hn := Blk.new w 37 #[.int .i64 a0, .int .i64 b0, .int .i64 a1, .int .i64 b1, .int .i64 a2, .int .i64 b2]
  intro k hk
  match k, hk with
  | 0, _ => exact ⟨_, 0, rfl, by omega, hn.cell 0, hn.cell 1⟩
  | 1, _ => exact ⟨_, 0, rfl, by omega, hn.cell 2, hn.cell 3⟩
  | 2, _ => exact ⟨_, 0, rfl, by omega, hn.cell 4, hn.cell 5⟩
  | k + 3, hk => exact absurd hk (by simp only [List.length_cons, List.length_nil]; omega)
section
variable {l : List Am} (h : l.map Am.a = someArcs) (c : Nat) (A : Option Addr) (w : World) (hA : ArcsAt w.heap.size w A l)
include h hA
theorem small1 : Calls Try.prog 13 #[.int .i64 3, .slice A 3 c, .int .i64 0, .int .i64 0, .bool false] w (LabE w [(0, -1), (10, 0), (20, 1)]) :=
  (early_ok 3 3 c A l 0 0 false w (some3 h).1 hA (some_right h).1 (by omega) ⟨by omega, by omega⟩ (by omega)).mono fun e w' he => he.labE rfl (fun lab hE => by
    refine early3 h (hE.fin (netE_ok (some_right h).1) (by show 0 < 3; omega) ⟨by omega, by omega⟩) ⟨by omega, by omega⟩ sA0_pass0 (pass_same false 10 sA1_ok ⟨by omega, by omega⟩) (pass_same false 0 sA2_ok ⟨by omega, by omega⟩) ⟨by omega, by omega⟩ ⟨by omega, by omega⟩ (by omega))
theorem small2 : Calls Try.prog 13 #[.int .i64 3, .slice A 3 c, .int .i64 0, .int .i64 50, .bool true] w (LabE w [(50, -1), (65, 0), (75, 1)]) :=
  (early_ok 3 3 c A l 0 50 true w (some3 h).1 hA (some_right h).1 (by omega) ⟨by omega, by omega⟩ (by omega)).mono fun e w' he => he.labE rfl (fun lab hE => by
    refine early3 h (hE.fin (netE_ok (some_right h).1) (by show 0 < 3; omega) ⟨by omega, by omega⟩) ⟨by omega, by omega⟩ sA0_pass50 (pass_same true 65 sA1_ok ⟨by omega, by omega⟩) (pass_same true 50 sA2_ok ⟨by omega, by omega⟩) ⟨by omega, by omega⟩ ⟨by omega, by omega⟩ (by omega))
theorem small3 : Calls Try.prog 13 #[.int .i64 3, .slice A 3 c, .int .i64 2, .int .i64 0, .bool true] w (LabE w [(-1, -1), (-1, -1), (0, -1)]) :=
  (early_ok 3 3 c A l 2 0 true w (some3 h).1 hA (some_right h).1 (by omega) ⟨by omega, by omega⟩ (by omega)).mono fun e w' he => he.labE rfl (fun lab hE => by
    exact early2 h (hE.fin (netE_ok (some_right h).1) (by show 2 < 3; omega) ⟨by omega, by omega⟩))
theorem small4 : Calls Try.prog 15 #[.int .i64 3, .slice A 3 c, .int .i64 2, .int .i64 75] w (LabE w [(60, 0), (65, 1), (75, -1)]) :=
  (late_ok 3 3 c A l 2 75 w (some3 h).1 hA (some_right h).1 (by omega) ⟨by omega, by omega⟩ (by omega)).mono fun e w' he => he.labE rfl (fun lab hE => by
    exact late3 h (hE.fin (netL_ok (some_right h).1) (by show 2 < 3; omega) ⟨by omega, by omega⟩) ⟨by omega, by omega⟩ (last_same sA1_ok (by omega) (by omega)) sA0_last65 (last_same sA2_ok (by omega) (by omega)) ⟨by decide, by decide⟩ ⟨by omega, by omega⟩ (.inl (by decide)))
theorem small5 : Calls Try.prog 15 #[.int .i64 3, .slice A 3 c, .int .i64 2, .int .i64 29] w (LabE w [(-1, -1), (19, 1), (29, -1)]) :=
  (late_ok 3 3 c A l 2 29 w (some3 h).1 hA (some_right h).1 (by omega) ⟨by omega, by omega⟩ (by omega)).mono fun e w' he => he.labE rfl (fun lab hE => by
    exact late3 h (hE.fin (netL_ok (some_right h).1) (by show 2 < 3; omega) ⟨by omega, by omega⟩) ⟨by omega, by omega⟩ (last_same sA1_ok (by omega) (by omega)) sA0_last19 (last_same sA2_ok (by omega) (by omega)) ⟨by decide, by decide⟩ ⟨by omega, by omega⟩ (.inr ⟨by decide, rfl⟩))
theorem small6 (A' : Option Addr) (hL : LbsAt w.heap.size w A' [(0, -1), (10, 0), (20, 1)]) (c' : Nat) : Calls Try.prog 21 #[.slice A' 3 c', .slice A 3 c, .int .i64 2] w fun e w' => ∃ A2 c2, e = .returned (.slice A2 2 c2) ∧ IntsAt w'.heap.size w' A2 [0, 1] ∧ Below w.heap.size w w' :=
  (way_any A' A 3 c' 3 c [(0, -1), (10, 0), (20, 1)] l 2 w rfl (some3 h).1 hL hA (by omega) [0, 1] (by
    obtain ⟨_, e0, e1, _⟩ := some3 h
    have p0 : PathTo [(0, -1), (10, 0), (20, 1)] (ends l) 3 0 [] := .base (by decide) rfl
    have e0' : ends l 0 = (0, 1) := by unfold ends; rw [e0]
    have e1' : ends l 1 = (1, 2) := by unfold ends; rw [e1]
    have p1 : PathTo [(0, -1), (10, 0), (20, 1)] (ends l) 3 1 [0] := .step (i := 0) (p := []) (by decide) rfl (by omega) (by rw [e0']) (by rw [e0']; exact p0)
    have p2 : PathTo [(0, -1), (10, 0), (20, 1)] (ends l) 3 2 [0, 1] := .step (i := 1) (p := [0]) (by decide) rfl (by omega) (by rw [e1']) (by rw [e1']; exact p1)
    rw [wayP, if_pos (by decide), p2.way _ _ (by decide) (by decide)]
    rfl)).mono fun e w' he => by
      obtain ⟨A2, c2, e1, ho, hb⟩ := he
      obtain ⟨a, cap, e2, hi⟩ := ho.ints
      injection e2 with q1 _ q2
      subst q1
      exact ⟨A2, c2, e1, hi, hb⟩
end

end Go.Proofs.Yteiojobgjdfdpaa
