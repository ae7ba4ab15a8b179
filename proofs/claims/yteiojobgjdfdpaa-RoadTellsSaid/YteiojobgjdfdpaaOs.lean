/- The statement RoadTells is proved: for every input the law returns true and leaves its arguments as they were. No condition. -/
import Derived.Test.YteiojobgjdfdpaaOr
import Derived.Test.YteiojobgjdfdpaaRe
import Derived.Test.YteiojobgjdfdpaaRj
namespace Go.Proofs.Yteiojobgjdfdpaa
open Go.ChangeShapes Go.WideShapes Go.ChangeAt Go.RowKit Go.Joins Go.Deep

set_option maxRecDepth 100000 in
theorem tells11_lifted (os : Os) (started : os.Started) (H : Type) (enc : TypeId × Value → H) :
    ReturnsInHanded {} Try.checked os 3 .any (Rows.roadTellsSpec.pre6 enc Try.prog Try.f3 Rows.roadTellsRow.domain false) (Rows.roadTellsSpec.post enc Try.prog Try.f3 false true false false) := by
  refine returnsInHanded_of_change (C := Try.checked) Try.own started (by kernel_rfl) Try.func3
    (ChangeSpec.witness6 (enc := enc) (C := Try.checked) false ⟨#[], #[.int .i64 0, .slice none 0 0, .int .i64 0, .int .i64 0, .bool false, .slice none 0 0, .int .i64 0], []⟩ 8 (by kernel_rfl) (by kernel_rfl) (by kernel_rfl) (by kernel_rfl)) ?_
  intro W base args ds gs before hval0 hW _ _
  have hval : ∀ (j : Nat) t v, Try.f3.params[j]? = some t → args[j]? = some v → Value.okWide Try.prog W .any base t v := hval0
  have hW' := hW
  obtain ⟨p, q, hA0, hV, rfl, _, _⟩ := hW
  have hA : DataW.TrodAll enc Try.prog W 0 (fun _ => true) true Try.f3.params.toList args.toList ds p := hA0
  rw [Try.params3] at hA hval
  obtain ⟨v0, v1, v2, v3, v4, v5, v6, d0, d1, d2, d3, d4, d5, d6, p0, p1, p2, p3, p4, p5, p6, rfl, rfl, rfl, h0, h1, h2, h3, h4, h5, h6⟩ := trodAll_seven hA
  obtain ⟨rfl, rfl⟩ := trodVars_none hV
  have h0k := h0
  have h1k := h1
  have h2k := h2
  have h3k := h3
  have h4k := h4
  have h5k := h5
  have h6k := h6
  clear hA0 hval0
  simp only [List.append_nil] at hW'
  obtain ⟨z0, rfl, lo0, hi0⟩ := open_I (hval 0 3 v0 rfl rfl) h0
  obtain ⟨l1, A1, c1, rfl, hl1, hM1⟩ := open_R (hval 1 22 v1 rfl rfl) h1
  obtain ⟨z2, rfl, lo2, hi2⟩ := open_I (hval 2 3 v2 rfl rfl) h2
  obtain ⟨z3, rfl, lo3, hi3⟩ := open_I (hval 3 3 v3 rfl rfl) h3
  obtain ⟨z4, rfl⟩ := open_T (hval 4 4 v4 rfl rfl) h4
  obtain ⟨l5, A5, c5, rfl, hl5, hM5⟩ := open_L (hval 5 23 v5 rfl rfl) h5
  obtain ⟨z6, rfl, lo6, hi6⟩ := open_I (hval 6 3 v6 rfl rfl) h6
  refine (roadTells_any z0 l1 A1 c1 l1.length z2 z3 z4 l5 A5 c5 l5.length z6 W rfl hM1 hl1 rfl hM5).mono fun e W' ⟨he, hb⟩ => ?_
  subst he
  have hlt : ∀ y ∈ p0 ++ p1 ++ p2 ++ p3 ++ p4 ++ p5 ++ p6, y.block < W.heap.size := fun y hy => by simpa using hW'.lt y (by simpa using hy)
  have k0 := Below.trod Try.laidOut (by kernel_rfl) (of_decide_eq_true (by kernel_rfl)) h0k hb (fun y hy => hlt y (by simp [hy]))
  have k1 := Below.trod Try.laidOut (by kernel_rfl) (of_decide_eq_true (by kernel_rfl)) h1k hb (fun y hy => hlt y (by simp [hy]))
  have k2 := Below.trod Try.laidOut (by kernel_rfl) (of_decide_eq_true (by kernel_rfl)) h2k hb (fun y hy => hlt y (by simp [hy]))
  have k3 := Below.trod Try.laidOut (by kernel_rfl) (of_decide_eq_true (by kernel_rfl)) h3k hb (fun y hy => hlt y (by simp [hy]))
  have k4 := Below.trod Try.laidOut (by kernel_rfl) (of_decide_eq_true (by kernel_rfl)) h4k hb (fun y hy => hlt y (by simp [hy]))
  have k5 := Below.trod Try.laidOut (by kernel_rfl) (of_decide_eq_true (by kernel_rfl)) h5k hb (fun y hy => hlt y (by simp [hy]))
  have k6 := Below.trod Try.laidOut (by kernel_rfl) (of_decide_eq_true (by kernel_rfl)) h6k hb (fun y hy => hlt y (by simp [hy]))
  exact ⟨_, rfl, _, _, _, [], p0 ++ (p1 ++ (p2 ++ (p3 ++ (p4 ++ (p5 ++ p6))))), [], hW', trodAll_mk1 (shut_bool Try.underlying4 true), trodAll_mk7 k0 k1 k2 k3 k4 k5 k6, rfl, hb.frame _, fun h => by cases h⟩

theorem tells11_holds : Rows.RoadTellsSaid :=
  OpenClaim.holds_of_wide 3 Try.f3 rfl rfl rfl rfl rfl rfl rfl ⟨rfl, rfl, rfl, rfl, rfl⟩ rfl rfl rfl rfl rfl (by kernel_rfl) Try.func3 (by kernel_rfl)
    (of_decide_eq_true (by kernel_rfl)) (by unfold Func.isWrapper; rw [if_neg (of_decide_eq_false (by kernel_rfl))]; exact ⟨rfl, rfl⟩)
    (fun os started H enc _ => tells11_lifted os started H enc)

end Go.Proofs.Yteiojobgjdfdpaa
