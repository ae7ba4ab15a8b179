/- Walks: the law ClockTells. -/
import Derived.Test.YtbojonafadhciaaCi
import Derived.Test.YtbojonafadhciaaCe
import Derived.Lib.QuietBelow
namespace Go.Proofs.Ytbojonafadhciaa
open Go.RowKit Go.Sort

noncomputable def Arc.pass (a : Arc) (b : Bool) (t : Int) : Int := Classical.epsilon (PassP a b t)
theorem PassP.is {a : Arc} {b : Bool} {t z : Int} (h : PassP a b t z) : z = a.pass b t := h.eq (Classical.epsilon_spec ⟨z, h⟩)
noncomputable def Arc.last (a : Arc) (b : Bool) (y : Int) : Int := Classical.epsilon (LastP a b y)
theorem LastP.is {a : Arc} {b : Bool} {y z : Int} (h : LastP a b y z) : z = a.last b y := h.eq (Classical.epsilon_spec ⟨z, h⟩)

set_option maxRecDepth 100000 in
set_option maxHeartbeats 8000000 in
theorem tells_law_few (f0 t0 : Int) (A A' : Option Addr) (c c' n m : Nat) (t : Int) (b : Bool) (w : World) (h : ¬ (n ≤ 40 ∧ m ≤ 40)) :
    Calls Try.prog 3 #[.agg #[.int .i64 f0, .int .i64 t0, .slice A n c, .slice A' m c'], .int .i64 t, .bool b] w fun e w' => e = .returned (.bool true) ∧ Below w.heap.size w w' := by
  have hA0 : Below w.heap.size w (w.alloc (.cells #[.int .i64 f0, .int .i64 t0, .slice A n c, .slice A' m c'] 24)) := (Below.refl _ _).alloc (Nat.le_refl _) _
  have hK := Blk.new w 24 #[.int .i64 f0, .int .i64 t0, .slice A n c, .slice A' m c']
  have HF := Lib.hid (fun w => few_any f0 t0 A A' n m c c' w false (decide_eq_false h).symm); clear h
  go_enter Try.func3, Try.ntmps3
  go_wp2_with fail
  refine (small_any _).mono ?_
  rintro e w1 ⟨rfl, hb1⟩
  obtain ⟨k0, k1, k2, k3⟩ := box_cells (hK.below hb1 (by simp))
  have hB1 := hA0.trans (hb1.mono hA0.size)
  go_wp2_with fail
  refine (HF.out _).mono ?_
  rintro e w2 ⟨rfl, hb2⟩
  go_wp2_with fail
  go_ret
  exact ⟨by rfl, hB1.trans (hb2.mono hB1.size)⟩
set_option maxRecDepth 100000 in
set_option maxHeartbeats 8000000 in
theorem tells_law_ok (a : Arc) (A A' : Option Addr) (c c' n m : Nat) (t : Int) (b : Bool) (w : World) (hM : ArcM w a A A') (h : n ≤ 40 ∧ m ≤ 40) (hn : a.lo.length = n) (hm : a.hi.length = m) (ht8 : -9223372036854775808 ≤ t) (ht9 : t ≤ 9223372036854775807) :
    Calls Try.prog 3 #[.agg #[.int .i64 a.f, .int .i64 a.t, .slice A n c, .slice A' m c'], .int .i64 t, .bool b] w fun e w' => e = .returned (.bool true) ∧ Below w.heap.size w w' := by
  have hA0 : Below w.heap.size w (w.alloc (.cells #[.int .i64 a.f, .int .i64 a.t, .slice A n c, .slice A' m c'] 24)) := (Below.refl _ _).alloc (Nat.le_refl _) _
  have HK := Lib.hid (Blk.new w 24 #[.int .i64 a.f, .int .i64 a.t, .slice A n c, .slice A' m c'])
  have HF := Lib.hid (fun w => few_any a.f a.t A A' n m c c' w true (decide_eq_true h).symm); clear h
  have HM := Lib.hid hM; clear hM
  have HN := Lib.hid (And.intro hn hm); clear hn hm
  have HI := Lib.hid (And.intro ht8 ht9); clear ht8 ht9
  go_enter Try.func3, Try.ntmps3
  go_wp2_with fail
  refine (small_any _).mono ?_
  rintro e w1 ⟨rfl, hb1⟩
  have hK1 := HK.out.below hb1 (by simp)
  obtain ⟨k0, k1, k2, k3⟩ := box_cells hK1
  have hB1 := hA0.trans (hb1.mono hA0.size)
  go_wp2_with fail
  refine (HF.out _).mono ?_
  rintro e w2 ⟨rfl, hb2⟩
  have hB2 := hB1.trans (hb2.mono hB1.size)
  have hK2 := hK1.below hb2 hK1.lt
  clear k0 k1 k2 k3
  obtain ⟨k0, k1, k2, k3⟩ := box_cells hK2
  have c0 := cell_regrown k0
  have c1 := cell_regrown k1
  have c2 := cell_regrown k2
  have c3 := cell_regrown k3
  have hM2 := Lib.hid (HM.out.below hB2)
  have HB2 := Lib.hid hB2
  clear hB2 hB1 hA0 hb1 hb2 hK1 hK2
  obtain ⟨r, hr⟩ : ∃ r : Bool, r = true ↔ a.ok := ⟨Classical.propDecidable a.ok |> fun d => @decide a.ok d, by simp⟩
  have HR := Lib.hid hr; clear hr
  have q1 : ∀ x os, Calls Try.prog 10 #[.agg #[.int .i64 a.f, .int .i64 a.t, .slice A n c, .slice A' m c']] (grow (redrawn w2 x) os) fun e w'' => e = .returned (.bool r) ∧ ∃ p : Regrown, w'' = grow (redrawn w2 p.d) p.os := fun x os => Calls.regrown_of (by
    have hh := right_any a A A' c c' _ (hM2.out.below (below_regrown w2 x os)) r HR.out
    rw [HN.out.1, HN.out.2] at hh
    exact hh)
  have q2 : ∀ x os, Calls Try.prog 11 #[.agg #[.int .i64 a.f, .int .i64 a.t, .slice A n c, .slice A' m c']] (grow (redrawn w2 x) os) fun e w'' => e = .returned (.bool r) ∧ ∃ p : Regrown, w'' = grow (redrawn w2 p.d) p.os := fun x os => Calls.regrown_of (by
    have hh := rright_any a A A' c c' _ (hM2.out.below (below_regrown w2 x os)) r HR.out
    rw [HN.out.1, HN.out.2] at hh
    exact hh)
  have q3 : ∀ x os, Calls Try.prog 12 #[.agg #[.int .i64 a.f, .int .i64 a.t, .slice A n c, .slice A' m c'], .int .i64 t, .bool b] (grow (redrawn w2 x) os) fun e w'' => e = .returned (.int .i64 (a.took b t)) ∧ ∃ p : Regrown, w'' = grow (redrawn w2 p.d) p.os := fun x os => Calls.regrown_of (by
    have hh := took_any a A A' c c' b t _ (hM2.out.below (below_regrown w2 x os))
    rw [HN.out.1, HN.out.2] at hh
    exact hh)
  have q4 : ∀ x os, Calls Try.prog 13 #[.agg #[.int .i64 a.f, .int .i64 a.t, .slice A n c, .slice A' m c'], .int .i64 t, .bool b] (grow (redrawn w2 x) os) fun e w'' => e = .returned (.int .i64 (a.took b t)) ∧ ∃ p : Regrown, w'' = grow (redrawn w2 p.d) p.os := fun x os => Calls.regrown_of (by
    have hh := rtook_any a A A' c c' b t _ (hM2.out.below (below_regrown w2 x os))
    rw [HN.out.1, HN.out.2] at hh
    exact hh)
  have q5 : ∀ x os, Calls Try.prog 14 #[.agg #[.int .i64 a.f, .int .i64 a.t, .slice A n c, .slice A' m c'], .int .i64 t, .bool b] (grow (redrawn w2 x) os) fun e w'' => e = .returned (.int .i64 (a.pass b t)) ∧ ∃ p : Regrown, w'' = grow (redrawn w2 p.d) p.os := fun x os => Calls.regrown_of (by
    have hh := (pass_any a A A' c c' b t _ (hM2.out.below (below_regrown w2 x os))).mono (R' := fun e w' => e = .returned (.int .i64 (a.pass b t)) ∧ Below _ _ w') (by rintro e w' ⟨y, rfl, hy, hb⟩; rw [hy.out.is]; exact ⟨rfl, hb⟩)
    rw [HN.out.1, HN.out.2] at hh
    exact hh)
  have q6 : ∀ x os, Calls Try.prog 15 #[.agg #[.int .i64 a.f, .int .i64 a.t, .slice A n c, .slice A' m c'], .int .i64 t, .bool b] (grow (redrawn w2 x) os) fun e w'' => e = .returned (.int .i64 (a.pass b t)) ∧ ∃ p : Regrown, w'' = grow (redrawn w2 p.d) p.os := fun x os => Calls.regrown_of (by
    have hh := (rpass_any a A A' c c' b t _ (hM2.out.below (below_regrown w2 x os))).mono (R' := fun e w' => e = .returned (.int .i64 (a.pass b t)) ∧ Below _ _ w') (by rintro e w' ⟨y, rfl, hy, hb⟩; rw [hy.out.is]; exact ⟨rfl, hb⟩)
    rw [HN.out.1, HN.out.2] at hh
    exact hh)
  have q7 : ∀ x os, Calls Try.prog 16 #[.agg #[.int .i64 a.f, .int .i64 a.t, .slice A n c, .slice A' m c'], .int .i64 t, .bool b] (grow (redrawn w2 x) os) fun e w'' => e = .returned (.int .i64 (a.last b t)) ∧ ∃ p : Regrown, w'' = grow (redrawn w2 p.d) p.os := fun x os => Calls.regrown_of (by
    have hh := (last_any a A A' c c' b t _ (hM2.out.below (below_regrown w2 x os)) HI.out.2).mono (R' := fun e w' => e = .returned (.int .i64 (a.last b t)) ∧ Below _ _ w') (by rintro e w' ⟨y, rfl, hy, hb⟩; rw [hy.out.is]; exact ⟨rfl, hb⟩)
    rw [HN.out.1, HN.out.2] at hh
    exact hh)
  have q8 : ∀ x os, Calls Try.prog 17 #[.agg #[.int .i64 a.f, .int .i64 a.t, .slice A n c, .slice A' m c'], .int .i64 t, .bool b] (grow (redrawn w2 x) os) fun e w'' => e = .returned (.int .i64 (a.last b t)) ∧ ∃ p : Regrown, w'' = grow (redrawn w2 p.d) p.os := fun x os => Calls.regrown_of (by
    have hh := (rlast_any a A A' c c' b t _ (hM2.out.below (below_regrown w2 x os)) HI.out.1 HI.out.2).mono (R' := fun e w' => e = .returned (.int .i64 (a.last b t)) ∧ Below _ _ w') (by rintro e w' ⟨y, rfl, hy, hb⟩; rw [hy.out.is]; exact ⟨rfl, hb⟩)
    rw [HN.out.1, HN.out.2] at hh
    exact hh)
  have Q1 := Lib.hid q1; clear q1
  have Q2 := Lib.hid q2; clear q2
  have Q3 := Lib.hid q3; clear q3
  have Q4 := Lib.hid q4; clear q4
  have Q5 := Lib.hid q5; clear q5
  have Q6 := Lib.hid q6; clear q6
  have Q7 := Lib.hid q7; clear q7
  have Q8 := Lib.hid q8; clear q8
  obtain ⟨z1, hz1⟩ : ∃ z, a.took b t = z := ⟨_, rfl⟩
  obtain ⟨z2, hz2⟩ : ∃ z, a.pass b t = z := ⟨_, rfl⟩
  obtain ⟨z3, hz3⟩ : ∃ z, a.last b t = z := ⟨_, rfl⟩
  rw [hz1] at Q3 Q4
  rw [hz2] at Q5 Q6
  rw [hz3] at Q7 Q8
  clear hz1 hz2 hz3
  go_wp2_with fail
  refine wp_region_quiet_below (by kernel_rfl) (by kernel_rfl) ?_
  repeat (quiet_step (first | (go_at_call 10; with_reducible exact Q1.out _ _) | (go_at_call 11; with_reducible exact Q2.out _ _) | (go_at_call 12; with_reducible exact Q3.out _ _) | (go_at_call 13; with_reducible exact Q4.out _ _) | (go_at_call 14; with_reducible exact Q5.out _ _) | (go_at_call 15; with_reducible exact Q6.out _ _) | (go_at_call 16; with_reducible exact Q7.out _ _) | (go_at_call 17; with_reducible exact Q8.out _ _)))
  refine wpQuiet_nil ?_
  intro w6 hw6
  have HB6 := Lib.hid (show Below w2.heap.size w2 w6 by obtain ⟨p, rfl⟩ := hw6; exact below_regrown w2 p.d p.os)
  clear hw6 c0 c1 c2 c3 Q1 Q2 Q3 Q4 Q5 Q6 Q7 Q8
  go_wp2_with fail
  go_ret
  exact ⟨by rfl, HB2.out.trans (HB6.out.mono HB2.out.size)⟩

theorem tells_law_any (a : Arc) (A A' : Option Addr) (c c' : Nat) (t : Int) (b : Bool) (w : World) (hM : ArcM w a A A') (ht8 : -9223372036854775808 ≤ t) (ht9 : t ≤ 9223372036854775807) :
    Calls Try.prog 3 #[.agg #[.int .i64 a.f, .int .i64 a.t, .slice A a.lo.length c, .slice A' a.hi.length c'], .int .i64 t, .bool b] w fun e w' => e = .returned (.bool true) ∧ Below w.heap.size w w' := by
  by_cases hf : a.lo.length ≤ 40 ∧ a.hi.length ≤ 40
  · exact tells_law_ok a A A' c c' _ _ t b w hM hf rfl rfl ht8 ht9
  · exact tells_law_few _ _ A A' c c' _ _ t b w hf

end Go.Proofs.Ytbojonafadhciaa
