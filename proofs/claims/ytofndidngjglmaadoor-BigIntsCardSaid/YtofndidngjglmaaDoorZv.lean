/- The statement BigInts is proved: for every input the law returns true and leaves its arguments as they were, where the five listed variables hold what the program's text lays in them. No other condition. -/
import Derived.Test.YtofndidngjglmaaDoorZm
import Derived.Test.YtofndidngjglmaaDoorDk
import Derived.Test.YtofndidngjglmaaDoorDl
import Derived.Test.YtofndidngjglmaaDoorDm
import Derived.Test.YtofndidngjglmaaDoorDn
import Derived.Test.YtofndidngjglmaaDoorDo
import Derived.Test.YtofndidngjglmaaDoorCards
import Derived.Test.YtofndidngjglmaaDoorTie
import Derived.SevenTiedAt
namespace Go.Proofs.YtofndidngjglmaaDoor
open Go.ChangeShapes Go.WideShapes Go.ChangeAt Go.RowKit Go.Joins Go.Deep

set_option maxRecDepth 100000 in
theorem ints_lifted (os : Os) (started : os.Started) (H : Type) (enc : TypeId × Value → H) :
    ReturnsInHanded {} Tryd.checked os 7 .any (fun w args => (Rows.bigIntsSpec.pre enc Tryd.prog Tryd.f7 [] false w args ∧ laidMetH Tryd.prog laid5 w) ∧ sizedMet enc Tryd.prog Tryd.f7 (OpenSpec.ofChange Rows.bigIntsSpec) false w args)
      (Rows.bigIntsSpec.post enc Tryd.prog Tryd.f7 false true false false) := by
  refine returnsInHanded_of_change_and (C := Tryd.checked) (X := fun w _ => laidMetH Tryd.prog laid5 w) (fun _ _ _ hh h => h.of_heap hh) Tryd.own started (by kernel_rfl) Tryd.func7
    (ChangeSpec.witness_shaped (enc := enc) (C := Tryd.checked) (os := os) (X := fun w _ => laidMetH Tryd.prog laid5 w) false (World.doorLaid Tryd.prog 400 os) #[.int .i64 0, .int .i64 0] 8 rfl (World.shaped_of_RefB (by kernel_rfl) (by kernel_rfl)) (by kernel_rfl) (by kernel_rfl) (by kernel_rfl) (door_met os _)) ?_
  intro W base args ds gs before hval0 hW _ _ hL _
  have hval : ∀ (j : Nat) t v, Tryd.f7.params[j]? = some t → args[j]? = some v → Value.okWide Tryd.prog W .any base t v := hval0
  have hW' := hW
  obtain ⟨p, q, hA0, hV, rfl, _, _⟩ := hW
  have hA : DataW.TrodAll enc Tryd.prog W 0 (fun _ => true) true Tryd.f7.params.toList args.toList ds p := hA0
  rw [Tryd.params7] at hA hval
  obtain ⟨v0, v1, d0, d1, p0, p1, rfl, rfl, rfl, h0, h1⟩ := trodAll_two hA
  obtain ⟨rfl, rfl⟩ := trodVars_none hV
  have tb := tb_of_laid hL
  have h0k := h0
  have h1k := h1
  clear hA0 hval0 hL
  simp only [List.append_nil] at hW'
  obtain ⟨z0, rfl, hz0⟩ := open_I (hval 0 3 v0 rfl rfl) h0
  obtain ⟨z1, rfl, hz1⟩ := open_I (hval 1 3 v1 rfl rfl) h1
  have hcall : Calls Tryd.prog 7 #[.int .i64 z0, .int .i64 z1] W fun e w' => e = .returned (.bool true) ∧ Below W.heap.size W w' := by
    rcases Int.lt_trichotomy z0 z1 with h | h | h
    · by_cases hm : z0 = -9223372036854775808
      · exact ints_n z0 z1 hz0 hz1 hm h W tb
      · exact ints_k z0 z1 hz0 hz1 hm h W tb
    · subst h
      by_cases hm : z0 = -9223372036854775808
      · exact ints_o z0 hz0 hm W tb
      · exact ints_m z0 hz0 hm W tb
    · exact ints_l z0 z1 hz0 hz1 (by unfold isI at *; omega) h W tb
  refine hcall.mono fun e W' ⟨he, hb⟩ => ?_
  subst he
  have hlt : ∀ y ∈ p0 ++ p1, y.block < W.heap.size := fun y hy => by simpa using hW'.lt y (by simpa using hy)
  have k0 := Below.trod Tryd.laidOut (by kernel_rfl) (of_decide_eq_true (by kernel_rfl)) h0k hb (fun y hy => hlt y (by simp [hy]))
  have k1 := Below.trod Tryd.laidOut (by kernel_rfl) (of_decide_eq_true (by kernel_rfl)) h1k hb (fun y hy => hlt y (by simp [hy]))
  exact ⟨_, rfl, _, _, _, [], p0 ++ p1, [], hW', trodAll_mk1 (shut_bool Tryd.underlying4 true), trodAll_mk2 k0 k1, rfl, hb.frame _, fun h => by cases h⟩

theorem ints_row : Rows.BigIntsSaid :=
  OpenClaim.holds_of_wide 7 Tryd.f7 rfl rfl rfl rfl rfl rfl rfl ⟨rfl, rfl, rfl, rfl, rfl⟩ rfl rfl rfl rfl rfl (by kernel_rfl) Tryd.func7 (by kernel_rfl)
    (of_decide_eq_true (by kernel_rfl)) (by unfold Func.isWrapper; rw [if_neg (of_decide_eq_false (by kernel_rfl))]; exact ⟨rfl, rfl⟩)
    (fun os started H enc _ => ints_lifted os started H enc)

theorem ints_holds : Rows.BigIntsCardSaid :=
  Claim7.holds_tied_plain_at .later [] [.data, .data, .data, .sentinel, .sentinel] true (true, "74f1177a81a98375be57fde6524a3c4fcfa1e849ff7e7fd0e6837532adc2be11") true
    ints_row (fun _ h => by cases h) (by kernel_rfl) (fun _ h => by cases h) bigInts_row_tie rfl ⟨rfl, rfl⟩ (by kernel_rfl) rfl
    (fun f fn hf hfn => by
      obtain rfl : f = 7 := Option.some.inj ((show Tryd.prog.funcNamed "tonneau/tonneaulaw04.BigInts" = some 7 by kernel_rfl).symm.trans hf) |>.symm
      obtain rfl : fn = Tryd.f7 := (Option.some.inj (Tryd.func7.symm.trans hfn)).symm
      exact ⟨by kernel_rfl, fun j t ht => by
        rw [Tryd.params7] at ht
        rcases j with _ | _ | j
        · obtain rfl : t = 3 := by simpa using ht.symm
          exact (show Tryd.prog.wantsStandIn 3 = false by kernel_rfl)
        · obtain rfl : t = 3 := by simpa using ht.symm
          exact (show Tryd.prog.wantsStandIn 3 = false by kernel_rfl)
        · simp at ht⟩)
    (by kernel_rfl)

end Go.Proofs.YtofndidngjglmaaDoor
