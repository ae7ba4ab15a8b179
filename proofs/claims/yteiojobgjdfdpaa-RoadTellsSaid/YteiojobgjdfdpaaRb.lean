/- Walks: small. -/
import Derived.Test.YteiojobgjdfdpaaRa
namespace Go.Proofs.Yteiojobgjdfdpaa
open Go.RowKit

theorem same_lit {w W : World} {g : Nat} {a0 b0 a1 b1 a2 b2 : Int} (hL : LbsAt w.heap.size w (some ⟨g, 0, none⟩) [(a0, b0), (a1, b1), (a2, b2)]) (hb : Below w.heap.size w W) :
    Calls Try.prog 17 #[.slice (some ⟨g, 0, none⟩) 3 3, .slice (some ⟨W.heap.size, 0, none⟩) 3 3] (W.alloc (.cells #[.int .i64 a0, .int .i64 b0, .int .i64 a1, .int .i64 b1, .int .i64 a2, .int .i64 b2] 37)) fun e w' => e = .returned (.bool true) ∧ Below w.heap.size w w' := by
  have hb1 := hb.alloc hb.size (.cells #[.int .i64 a0, .int .i64 b0, .int .i64 a1, .int .i64 b1, .int .i64 a2, .int .i64 b2] 37)
  refine (same_any _ _ _ _ 3 3 3 3 _ rfl rfl ((hL.below hb1).more hb1.size) ((lit_lbs W a0 b0 a1 b1 a2 b2).more (by simp)) (by omega) true (by simp)).mono fun e w' h => ?_
  exact ⟨h.1, hb1.trans (h.2.mono hb1.size)⟩
set_option maxRecDepth 100000 in
set_option maxHeartbeats 8000000 in
theorem small_any (w : World) : Calls Try.prog 11 #[] w fun e w' => e = .returned (.bool true) ∧ Below w.heap.size w w' := by
  go_enter Try.func11, Try.ntmps11
  go_wp2_with fail
  refine (some_any _).mono ?_
  rintro e w0 ⟨A, l, rfl, hs, hA, hb⟩
  have HS := Lib.hid (And.intro hs (And.intro hA hb))
  clear hs hA hb
  go_wp2_with fail
  refine (small1 HS.out.1 3 A w0 HS.out.2.1).mono ?_
  rintro e w1 ⟨g1, rfl, L1, b1⟩
  have H1 := Lib.hid (And.intro L1 b1)
  clear L1 b1
  go_wp2_with fail
  refine (small2 HS.out.1 3 A w1 ((HS.out.2.1.below H1.out.2).more H1.out.2.size)).mono ?_
  rintro e w2 ⟨g2, rfl, L2, b2⟩
  have H2 := Lib.hid (And.intro ((H1.out.1.below b2).more b2.size) (And.intro L2 (H1.out.2.trans (b2.mono H1.out.2.size))))
  clear L2 b2
  go_wp2_with fail
  refine (small3 HS.out.1 3 A w2 ((HS.out.2.1.below H2.out.2.2).more H2.out.2.2.size)).mono ?_
  rintro e w3 ⟨g3, rfl, L3, b3⟩
  have H3 := Lib.hid (And.intro ((H2.out.1.below b3).more b3.size) (And.intro ((H2.out.2.1.below b3).more b3.size) (And.intro L3 (H2.out.2.2.trans (b3.mono H2.out.2.2.size)))))
  clear L3 b3
  go_wp2_with fail
  refine (small4 HS.out.1 3 A w3 ((HS.out.2.1.below H3.out.2.2.2).more H3.out.2.2.2.size)).mono ?_
  rintro e w4 ⟨g4, rfl, L4, b4⟩
  have H4 := Lib.hid (And.intro ((H3.out.1.below b4).more b4.size) (And.intro ((H3.out.2.1.below b4).more b4.size) (And.intro ((H3.out.2.2.1.below b4).more b4.size) (And.intro L4 (H3.out.2.2.2.trans (b4.mono H3.out.2.2.2.size))))))
  clear L4 b4
  go_wp2_with fail
  refine (small5 HS.out.1 3 A w4 ((HS.out.2.1.below H4.out.2.2.2.2).more H4.out.2.2.2.2.size)).mono ?_
  rintro e w5 ⟨g5, rfl, L5, b5⟩
  have H5 := Lib.hid (And.intro ((H4.out.1.below b5).more b5.size) (And.intro ((H4.out.2.1.below b5).more b5.size) (And.intro ((H4.out.2.2.1.below b5).more b5.size) (And.intro ((H4.out.2.2.2.1.below b5).more b5.size) (And.intro L5 (H4.out.2.2.2.2.trans (b5.mono H4.out.2.2.2.2.size)))))))
  clear L5 b5 H1 H2 H3 H4
  go_wp2_with fail
  refine (same_lit H5.out.1 (Below.refl _ _)).mono ?_
  rintro e w6 ⟨rfl, hb6⟩
  have B6 := Lib.hid hb6; clear hb6
  go_wp2_with fail
  refine (same_lit H5.out.2.1 (B6.out)).mono ?_
  rintro e w7 ⟨rfl, hb7⟩
  have B7 := Lib.hid hb7; clear hb7 B6
  go_wp2_with fail
  refine (same_lit H5.out.2.2.1 (B7.out)).mono ?_
  rintro e w8 ⟨rfl, hb8⟩
  have B8 := Lib.hid hb8; clear hb8 B7
  go_wp2_with fail
  refine (same_lit H5.out.2.2.2.1 (B8.out)).mono ?_
  rintro e w9 ⟨rfl, hb9⟩
  have B9 := Lib.hid hb9; clear hb9 B8
  go_wp2_with fail
  refine (same_lit H5.out.2.2.2.2.1 (B9.out)).mono ?_
  rintro e w10 ⟨rfl, hb10⟩
  have B10 := Lib.hid hb10; clear hb10 B9
  go_wp2_with fail
  have hA6 := (HS.out.2.1.below (H5.out.2.2.2.2.2.trans (B10.out.mono H5.out.2.2.2.2.2.size))).more (Nat.le_trans H5.out.2.2.2.2.2.size B10.out.size)
  refine (small6 HS.out.1 3 A w10 hA6 (some ⟨g1, 0, none⟩) ((H5.out.1.below B10.out).more B10.out.size) 3).mono ?_
  rintro e w11 ⟨A2, c2, rfl, i2, b2⟩
  have H11 := Lib.hid (And.intro hA6 (And.intro i2 b2)); clear hA6 i2 b2
  go_wp2_with fail
  have hs11 := H11.out.2.2.size
  obtain ⟨W, hW⟩ : ∃ W, w11.alloc (.cells #[.int .i64 0, .int .i64 1] 3) = W := ⟨_, rfl⟩
  have hbW : Below w11.heap.size w11 W := by rw [← hW]; exact (Below.refl _ _).alloc (Nat.le_refl _) _
  have hi2 : IntsAt W.heap.size W A2 [0, 1] := (H11.out.2.1.below hbW).more hbW.size
  have hi3 : IntsAt W.heap.size W (some ⟨w11.heap.size, 0, none⟩) [0, 1] := by
    rw [← hW]
    have hn := Blk.new w11 3 #[.int .i64 0, .int .i64 1]
    intro k hk
    match k, hk with
    | 0, _ => exact ⟨_, 0, rfl, by simp, hn.cell 0⟩
    | 1, _ => exact ⟨_, 0, rfl, by simp, hn.cell 1⟩
    | k + 2, hk => exact absurd hk (by simp only [List.length_cons, List.length_nil]; omega)
  rw [hW]
  refine (ints_any _ _ _ _ 2 2 _ _ W rfl rfl hi2 hi3 (by omega) true (by simp)).mono ?_
  rintro e w12 ⟨rfl, b12⟩
  have bT : Below w10.heap.size w10 w12 := H11.out.2.2.trans ((hbW.trans (b12.mono hbW.size)).mono hs11)
  have H12 := Lib.hid (And.intro ((H11.out.1.below bT).more bT.size) (B10.out.trans (bT.mono B10.out.size)))
  clear hi2 hi3 hbW b12 bT hW hs11
  go_wp2_with fail
  refine (rr_any 3 l A 3 3 w12 (some3 HS.out.1).1 H12.out.1 true (by simp [(some_right HS.out.1).1])).mono ?_
  rintro e w13 ⟨rfl, b13⟩
  have H13 := Lib.hid (And.intro ((H12.out.1.below b13).more b13.size) (H12.out.2.trans (b13.mono H12.out.2.size)))
  clear b13
  go_wp2_with fail
  refine (rr_any 2 l A 3 3 w13 (some3 HS.out.1).1 H13.out.1 false (by simp [(some_right HS.out.1).2])).mono ?_
  rintro e w14 ⟨rfl, b14⟩
  have H14 := Lib.hid (H13.out.2.trans (b14.mono H13.out.2.size))
  clear b14
  go_wp2_with fail
  go_ret
  have b5 := H5.out.2.2.2.2.2
  exact ⟨rfl, (HS.out.2.2.trans (b5.mono HS.out.2.2.size)).trans (H14.out.mono (Nat.le_trans HS.out.2.2.size b5.size))⟩

end Go.Proofs.Yteiojobgjdfdpaa
