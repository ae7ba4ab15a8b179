/- Walks: Early and Late with arguments that are not right; both in one. -/
import Derived.Test.YteiojobgjdfdpaaQs
import Derived.Test.YteiojobgjdfdpaaQl
import Derived.Test.YteiojobgjdfdpaaQu
namespace Go.Proofs.Yteiojobgjdfdpaa
open Go.RowKit Go.Shelf
attribute [local go_sem] Oper.semAt_some

set_option maxRecDepth 100000 in
set_option maxHeartbeats 8000000 in
theorem early_bad (n : Int) (m c : Nat) (A : Option Addr) (l : List Am) (src t : Int) (b : Bool) (w : World) (hl : l.length = m) (hA : ArcsAt w.heap.size w A l) (hx : ¬ (RRight n l ∧ (0 ≤ src ∧ src < n) ∧ IsT t)) :
    Calls Try.prog 13 #[.int .i64 n, .slice A m c, .int .i64 src, .int .i64 t, .bool b] w fun e w' => e = .returned (.tuple #[.slice none 0 0, .int .i64 1]) ∧ Below w.heap.size w w' := by
  refine (callsIn_wide (n := 3)).1 ?_
  refine callsIn_of_wp_marks Try.func13 rfl trivial ?_ rfl
  simp only [Try.ntmps13, List.size_toArray, List.length_cons, List.length_nil, Nat.reduceAdd, Nat.reduceSub, Array.replicate_succ, Array.replicate_zero, List.push_toArray, List.append_toArray, List.nil_append, List.cons_append]
  obtain ⟨W0, hW0⟩ : ∃ W0, (w.alloc (.cells #[.slice A m c] 22)).alloc (.cells #[.bool b] 4) = W0 := ⟨_, rfl⟩
  have hB0 : Below w.heap.size w W0 := by rw [← hW0]; exact ((Below.refl _ _).alloc (Nat.le_refl _) _).alloc (by simp) _
  have k6 : Blk W0 w.heap.size 22 #[.slice A m c] := by rw [← hW0]; exact (Blk.new w _ _).alloc _
  obtain ⟨r1, hr1⟩ : ∃ r : Bool, r = true ↔ RRight n l := ⟨Classical.propDecidable (RRight n l) |> fun d => @decide _ d, by simp⟩
  obtain ⟨r2, hr2⟩ : ∃ r, decide (0 ≤ src ∧ src < n) = r := ⟨_, rfl⟩
  obtain ⟨r3, hr3⟩ : ∃ r, decide (IsT t) = r := ⟨_, rfl⟩
  have hcc : r1 = false ∨ (r1 = true ∧ r2 = false) ∨ (r1 = true ∧ r2 = true ∧ r3 = false) := by
    by_cases c1 : RRight n l
    · have e1 := hr1.2 c1
      by_cases c2 : 0 ≤ src ∧ src < n
      · refine .inr (.inr ⟨e1, hr2 ▸ decide_eq_true c2, hr3 ▸ decide_eq_false (fun c3 => hx ⟨c1, c2, c3⟩)⟩)
      · exact .inr (.inl ⟨e1, hr2 ▸ decide_eq_false c2⟩)
    · left
      cases h : r1 with
      | false => rfl
      | true => exact absurd (hr1.1 h) c1
  have HA := Lib.hid hA
  have HRr := Lib.hid (fun w' h => rr_any n l A c m w' hl h r1 hr1)
  have HN := Lib.hid (fun w => isNode_any n src w r2 hr2.symm)
  have HTt := Lib.hid (fun w => isTime2_any t w r3 hr3.symm)
  have HK := Lib.hid (And.intro k6 hB0)
  have c6 : W0.cell? ⟨w.heap.size, 0, none⟩ = some (.slice A m c) := k6.cell 0
  clear hl hA k6 hr1 hr2 hr3 hx
  gi_wp2_with fail
  refine ⟨trivial, ?_⟩
  gi_at_call 18
  refine (callsIn_wide.2 (HRr.out _ ((HA.out.below HK.out.2).more HK.out.2.size))).mono ?_
  rintro e w1 ⟨rfl, hb1⟩
  have HB1 := Lib.hid (HK.out.2.trans (hb1.mono HK.out.2.size))
  clear hb1 c6 hW0 hB0
  rcases hcc with rfl | ⟨rfl, rfl⟩ | ⟨rfl, rfl, rfl⟩
  · gi_wp2_with fail
    refine ⟨trivial, ?_⟩
    gi_wp2_with fail
    refine ⟨trivial, ?_⟩
    gi_wp2_with fail
    exact ⟨_, results_tmp2 rfl _ _ _, by rfl, HB1.out⟩
  · gi_wp2_with fail
    refine ⟨trivial, ?_⟩
    gi_at_call 34
    refine (callsIn_wide.2 (HN.out _)).mono ?_
    rintro e w1' ⟨rfl, rfl⟩
    gi_wp2_with fail
    refine ⟨trivial, ?_⟩
    gi_wp2_with fail
    exact ⟨_, results_tmp2 rfl _ _ _, by rfl, HB1.out⟩
  · gi_wp2_with fail
    refine ⟨trivial, ?_⟩
    gi_at_call 34
    refine (callsIn_wide.2 (HN.out _)).mono ?_
    rintro e w1' ⟨rfl, rfl⟩
    gi_wp2_with fail
    refine ⟨trivial, ?_⟩
    gi_at_call 35
    refine (callsIn_wide.2 (HTt.out _)).mono ?_
    rintro e w1' ⟨rfl, rfl⟩
    gi_wp2_with fail
    exact ⟨_, results_tmp2 rfl _ _ _, by rfl, HB1.out⟩

set_option maxRecDepth 100000 in
set_option maxHeartbeats 8000000 in
theorem late_bad (n : Int) (m c : Nat) (A : Option Addr) (l : List Am) (src t : Int) (w : World) (hl : l.length = m) (hA : ArcsAt w.heap.size w A l) (hx : ¬ (RRight n l ∧ (0 ≤ src ∧ src < n) ∧ IsT t)) :
    Calls Try.prog 15 #[.int .i64 n, .slice A m c, .int .i64 src, .int .i64 t] w fun e w' => e = .returned (.tuple #[.slice none 0 0, .int .i64 1]) ∧ Below w.heap.size w w' := by
  refine (callsIn_wide (n := 3)).1 ?_
  refine callsIn_of_wp_marks Try.func15 rfl trivial ?_ rfl
  simp only [Try.ntmps15, List.size_toArray, List.length_cons, List.length_nil, Nat.reduceAdd, Nat.reduceSub, Array.replicate_succ, Array.replicate_zero, List.push_toArray, List.append_toArray, List.nil_append, List.cons_append]
  obtain ⟨W0, hW0⟩ : ∃ W0, w.alloc (.cells #[.slice A m c] 22) = W0 := ⟨_, rfl⟩
  have hB0 : Below w.heap.size w W0 := by rw [← hW0]; exact (Below.refl _ _).alloc (Nat.le_refl _) _
  have k6 : Blk W0 w.heap.size 22 #[.slice A m c] := by rw [← hW0]; exact Blk.new w _ _
  obtain ⟨r1, hr1⟩ : ∃ r : Bool, r = true ↔ RRight n l := ⟨Classical.propDecidable (RRight n l) |> fun d => @decide _ d, by simp⟩
  obtain ⟨r2, hr2⟩ : ∃ r, decide (0 ≤ src ∧ src < n) = r := ⟨_, rfl⟩
  obtain ⟨r3, hr3⟩ : ∃ r, decide (IsT t) = r := ⟨_, rfl⟩
  have hcc : r1 = false ∨ (r1 = true ∧ r2 = false) ∨ (r1 = true ∧ r2 = true ∧ r3 = false) := by
    by_cases c1 : RRight n l
    · have e1 := hr1.2 c1
      by_cases c2 : 0 ≤ src ∧ src < n
      · refine .inr (.inr ⟨e1, hr2 ▸ decide_eq_true c2, hr3 ▸ decide_eq_false (fun c3 => hx ⟨c1, c2, c3⟩)⟩)
      · exact .inr (.inl ⟨e1, hr2 ▸ decide_eq_false c2⟩)
    · left
      cases h : r1 with
      | false => rfl
      | true => exact absurd (hr1.1 h) c1
  have HA := Lib.hid hA
  have HRr := Lib.hid (fun w' h => rr_any n l A c m w' hl h r1 hr1)
  have HN := Lib.hid (fun w => isNode_any n src w r2 hr2.symm)
  have HTt := Lib.hid (fun w => isTime2_any t w r3 hr3.symm)
  have HK := Lib.hid (And.intro k6 hB0)
  have c6 : W0.cell? ⟨w.heap.size, 0, none⟩ = some (.slice A m c) := k6.cell 0
  clear hl hA k6 hr1 hr2 hr3 hx
  gi_wp2_with fail
  refine ⟨trivial, ?_⟩
  gi_at_call 18
  refine (callsIn_wide.2 (HRr.out _ ((HA.out.below HK.out.2).more HK.out.2.size))).mono ?_
  rintro e w1 ⟨rfl, hb1⟩
  have HB1 := Lib.hid (HK.out.2.trans (hb1.mono HK.out.2.size))
  clear hb1 c6 hW0 hB0
  rcases hcc with rfl | ⟨rfl, rfl⟩ | ⟨rfl, rfl, rfl⟩
  · gi_wp2_with fail
    refine ⟨trivial, ?_⟩
    gi_wp2_with fail
    refine ⟨trivial, ?_⟩
    gi_wp2_with fail
    exact ⟨_, results_tmp2 rfl _ _ _, by rfl, HB1.out⟩
  · gi_wp2_with fail
    refine ⟨trivial, ?_⟩
    gi_at_call 34
    refine (callsIn_wide.2 (HN.out _)).mono ?_
    rintro e w1' ⟨rfl, rfl⟩
    gi_wp2_with fail
    refine ⟨trivial, ?_⟩
    gi_wp2_with fail
    exact ⟨_, results_tmp2 rfl _ _ _, by rfl, HB1.out⟩
  · gi_wp2_with fail
    refine ⟨trivial, ?_⟩
    gi_at_call 34
    refine (callsIn_wide.2 (HN.out _)).mono ?_
    rintro e w1' ⟨rfl, rfl⟩
    gi_wp2_with fail
    refine ⟨trivial, ?_⟩
    gi_at_call 35
    refine (callsIn_wide.2 (HTt.out _)).mono ?_
    rintro e w1' ⟨rfl, rfl⟩
    gi_wp2_with fail
    exact ⟨_, results_tmp2 rfl _ _ _, by rfl, HB1.out⟩

theorem early_ok (n m c : Nat) (A : Option Addr) (l : List Am) (src : Nat) (t : Int) (b : Bool) (w : World) (hl : l.length = m) (hA : ArcsAt w.heap.size w A l) (hR : RRight n l) (hs : src < n) (ht : IsT t) (hm : m ≤ 100) :
    Calls Try.prog 13 #[.int .i64 n, .slice A m c, .int .i64 src, .int .i64 t, .bool b] w (EndP w (netE n l b) src t) :=
  early_yes n m c A l src t b w hl hA hR hs ht hm (fun w' h => eGroup_any n m c A l (fun i => (am l i).a.f.toNat) w' hl h (fun k hk => by
    have := hR.2.2.2 k (by omega)
    have h1 := this.1.1
    have h2 := this.2
    refine ⟨?_, ?_⟩
    · show (am l k).a.f = (((am l k).a.f.toNat : Nat) : Int)
      omega
    · show (am l k).a.f.toNat < n
      omega) (by have := hR.2.1; omega) (by omega))

theorem late_ok (n m c : Nat) (A : Option Addr) (l : List Am) (src : Nat) (t : Int) (w : World) (hl : l.length = m) (hA : ArcsAt w.heap.size w A l) (hR : RRight n l) (hs : src < n) (ht : IsT t) (hm : m ≤ 100) :
    Calls Try.prog 15 #[.int .i64 n, .slice A m c, .int .i64 src, .int .i64 t] w (EndP w (netL n l) src t) :=
  late_yes n m c A l src t w hl hA hR hs ht hm (fun w' h => tGroup_any n m c A l (fun i => (am l i).a.t.toNat) w' hl h (fun k hk => by
    have := hR.2.2.2 k (by omega)
    have h1 := this.1.2.1
    have h2 := this.2
    refine ⟨?_, ?_⟩
    · show (am l k).a.t = (((am l k).a.t.toNat : Nat) : Int)
      omega
    · show (am l k).a.t.toNat < n
      omega) (by have := hR.2.1; omega) (by omega))

end Go.Proofs.Yteiojobgjdfdpaa
