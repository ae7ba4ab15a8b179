/- Walks: the law's two, check, small. -/
import Derived.Test.YteiojobgjdfdpaaSi
import Derived.Test.YteiojobgjdfdpaaSj
namespace Go.Proofs.Yteiojobgjdfdpaa
open Go.RowKit Go.Sort

set_option maxRecDepth 100000 in
set_option maxHeartbeats 4000000 in
theorem two_any (w : World) :
    Calls Try.prog 52 #[] w fun e w' => ∃ A l, e = .returned (.slice A 2 2) ∧ l.map Am.a = twoArcs ∧ ArcsAt w'.heap.size w' A l ∧ Below w.heap.size w w' := by
  go_enter Try.func52, Try.ntmps52
  go_wp2_with fail
  refine (arc12_any 0 1 10 20 _).mono ?_
  rintro e w1 ⟨A1, c1, A2, c2, rfl, i1, b1⟩
  have I1 := Lib.hid i1; clear i1
  go_wp2_with fail
  refine (arc12_any 0 1 15 15 _).mono ?_
  rintro e w2 ⟨A3, c3, A4, c4, rfl, i2, b2⟩
  have I2 := Lib.hid i2; clear i2
  go_wp2_with fail
  go_ret
  have hn := Blk.new w2 39 #[.int .i64 0, .int .i64 1, .slice A1 24 c1, .slice A2 24 c2, .int .i64 0, .int .i64 1, .slice A3 24 c3, .slice A4 24 c4]
  have b7 : Below w2.heap.size w2 (w2.alloc (.cells #[.int .i64 0, .int .i64 1, .slice A1 24 c1, .slice A2 24 c2, .int .i64 0, .int .i64 1, .slice A3 24 c3, .slice A4 24 c4] 39)) := (Below.refl _ _).alloc (Nat.le_refl _) _
  have j1 := (I1.out.below b2).below b7
  have j2 := I2.out.below b7
  have s1 := b1.size; have s2 := b2.size
  refine ⟨_, [⟨⟨0, 1, List.replicate 24 10, List.replicate 24 20⟩, A1, c1, A2, c2⟩, ⟨⟨0, 1, List.replicate 24 15, List.replicate 24 15⟩, A3, c3, A4, c4⟩], by rfl, rfl, fun k hk => ?_, (b1.trans (b2.mono s1)).trans (b7.mono (by omega))⟩
  match k, hk with
  | 0, _ => exact ⟨w2.heap.size, 0, rfl, by simp, hn.cell 0, hn.cell 1, hn.cell 2, hn.cell 3, j1.lo, j1.hi⟩
  | 1, _ => exact ⟨w2.heap.size, 0, rfl, by simp, hn.cell 4, hn.cell 5, hn.cell 6, hn.cell 7, j2.lo, j2.hi⟩
  | k + 2, hk => exact absurd hk (by simp only [List.length_cons, List.length_nil]; omega)

theorem lbs_two (w : World) (a b x y : Int) : LbsAt (w.alloc (.cells #[.int .i64 a, .int .i64 b, .int .i64 x, .int .i64 y] 37)).heap.size (w.alloc (.cells #[.int .i64 a, .int .i64 b, .int .i64 x, .int .i64 y] 37)) (some ⟨w.heap.size, 0, none⟩) [(a, b), (x, y)] := fun k hk => by
  have hn := Blk.new w 37 #[.int .i64 a, .int .i64 b, .int .i64 x, .int .i64 y]
  match k, hk with
  | 0, _ => exact ⟨w.heap.size, 0, rfl, by simp, hn.cell 0, hn.cell 1⟩
  | 1, _ => exact ⟨w.heap.size, 0, rfl, by simp, hn.cell 2, hn.cell 3⟩
  | k + 2, hk => exact absurd hk (by simp only [List.length_cons, List.length_nil]; omega)

set_option maxRecDepth 100000 in
set_option maxHeartbeats 4000000 in
theorem check12_any (x y z : Int) (w : World) (hz : ∀ l : List Am, l.map Am.a = twoArcs → checkO 2 l 0 100 true [(100, -1), (x, y)] = z) :
    Calls Try.prog 53 #[.int .i64 x, .int .i64 y] w fun e w' => e = .returned (.int .i64 z) ∧ Below w.heap.size w w' := by
  have HZ := Lib.hid hz; clear hz
  go_enter Try.func53, Try.ntmps53
  go_wp2_with fail
  refine (two_any _).mono ?_
  rintro e w1 ⟨A, l, rfl, hl, hA, b1⟩
  have hB2 := (Below.refl w1.heap.size w1).alloc (Nat.le_refl _) (.cells #[.int .i64 100, .int .i64 (-1), .int .i64 x, .int .i64 y] 37)
  have HC := Lib.hid (check_any 2 l A 2 2 0 100 true (some ⟨w1.heap.size, 0, none⟩) 2 2 [(100, -1), (x, y)] (w1.alloc (.cells #[.int .i64 100, .int .i64 (-1), .int .i64 x, .int .i64 y] 37)) (two_len hl) ((hA.below hB2).more hB2.size) rfl (lbs_two w1 _ _ _ _) z (HZ.out l hl))
  have HB := Lib.hid (b1.trans (hB2.mono b1.size))
  clear hl hA b1 hB2
  go_wp2_with fail
  refine HC.out.mono ?_
  rintro e w2 ⟨rfl, b2⟩
  go_wp2_with fail
  go_ret
  exact ⟨by rfl, HB.out.trans (b2.mono HB.out.size)⟩

theorem ints_one (w : World) (a : Int) : IntsAt (w.alloc (.cells #[.int .i64 a] 3)).heap.size (w.alloc (.cells #[.int .i64 a] 3)) (some ⟨w.heap.size, 0, none⟩) [a] := fun k hk => by
  have hn := Blk.new w 3 #[.int .i64 a]
  match k, hk with
  | 0, _ => exact ⟨w.heap.size, 0, rfl, by simp, hn.cell 0⟩
  | k + 1, hk => exact absurd hk (by simp only [List.length_cons, List.length_nil]; omega)

set_option maxRecDepth 100000 in
set_option maxHeartbeats 8000000 in
theorem small12_any (w : World) :
    Calls Try.prog 26 #[] w fun e w' => e = .returned (.bool true) ∧ Below w.heap.size w w' := by
  go_enter Try.func26, Try.ntmps26
  go_wp2_with fail
  refine (two_any _).mono ?_
  rintro e w1 ⟨A, l, rfl, hl, hA, b1⟩
  have hB2 := (Below.refl w1.heap.size w1).alloc (Nat.le_refl _) (.cells #[.int .i64 0] 3)
  have HC := Lib.hid (span_any l A 2 2 [0] (some ⟨w1.heap.size, 0, none⟩) 1 1 100 (w1.alloc (.cells #[.int .i64 0] 3)) (two_len hl) ((hA.below hB2).more hB2.size) rfl (ints_one w1 0) 110 120 0 (two_span0 hl))
  have HB := Lib.hid (b1.trans (hB2.mono b1.size))
  clear hl hA b1 hB2
  go_wp2_with fail
  refine HC.out.mono ?_
  rintro e w2 ⟨rfl, b2⟩
  have HB2 := Lib.hid (HB.out.trans (b2.mono HB.out.size))
  clear HC HB b2
  go_wp2_with fail
  refine (two_any _).mono ?_
  rintro e w3 ⟨A, l, rfl, hl, hA, b1⟩
  have hB2 := (Below.refl w3.heap.size w3).alloc (Nat.le_refl _) (.cells #[.int .i64 2] 3)
  have HC := Lib.hid (span_any l A 2 2 [2] (some ⟨w3.heap.size, 0, none⟩) 1 1 100 (w3.alloc (.cells #[.int .i64 2] 3)) (two_len hl) ((hA.below hB2).more hB2.size) rfl (ints_one w3 2) 0 0 1 (two_span2 hl))
  have HB := Lib.hid (HB2.out.trans ((b1.trans (hB2.mono b1.size)).mono HB2.out.size))
  clear hl hA b1 hB2
  go_wp2_with fail
  refine HC.out.mono ?_
  rintro e w4 ⟨rfl, b2⟩
  have HB4 := Lib.hid (HB.out.trans (b2.mono HB.out.size))
  clear HC HB b2 HB2
  go_wp2_with fail
  refine (check12_any 115 1 0 w4 (fun l hl => two_good hl)).mono ?_
  rintro e w5 ⟨rfl, b2⟩
  have HB5 := Lib.hid (HB4.out.trans (b2.mono HB4.out.size))
  clear b2
  go_wp2_with fail
  refine (check12_any 120 0 23 w5 (fun l hl => two_bad1 hl)).mono ?_
  rintro e w6 ⟨rfl, b2⟩
  have HB6 := Lib.hid (HB5.out.trans (b2.mono HB5.out.size))
  clear b2
  go_wp2_with fail
  refine (check12_any (-1) (-1) 23 w6 (fun l hl => two_bad2 hl)).mono ?_
  rintro e w7 ⟨rfl, b2⟩
  have HB7 := Lib.hid (HB6.out.trans (b2.mono HB6.out.size))
  clear b2 HB6 HB5 HB4
  go_wp2_with fail
  refine (two_any _).mono ?_
  rintro e w8 ⟨A, l, rfl, hl, hA, b1⟩
  have HC := Lib.hid (check_any 2 l A 2 2 0 100 true none 0 0 [] w8 (two_len hl) hA rfl (fun k hk => by cases hk) 2 (two_form hl))
  have HB := Lib.hid (HB7.out.trans (b1.mono HB7.out.size))
  clear hl hA b1
  go_wp2_with fail
  refine HC.out.mono ?_
  rintro e w9 ⟨rfl, b2⟩
  go_wp2_with fail
  go_ret
  exact ⟨by rfl, HB.out.trans (b2.mono HB.out.size)⟩

end Go.Proofs.Yteiojobgjdfdpaa
