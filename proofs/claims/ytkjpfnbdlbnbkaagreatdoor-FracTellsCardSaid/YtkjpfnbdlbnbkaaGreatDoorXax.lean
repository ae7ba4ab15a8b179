/- The module and the reference, told together: whatever the arguments, both hand back the same. Walks: the law that the module and the reference tell the same. Printed by a program (je.py). -/
import Derived.Test.YtkjpfnbdlbnbkaaGreatDoorXav
import Derived.Test.YtkjpfnbdlbnbkaaGreatDoorXaw
import Derived.Test.YtkjpfnbdlbnbkaaGreatDoorXam
import Derived.Test.YtkjpfnbdlbnbkaaGreatDoorXap
import Derived.Deep.RegionHeld3

namespace Go.Proofs.YtkjpfnbdlbnbkaaGreatDoor
open Go.RowKit

/-- A big integer and an error. -/
def Res2 (Z E : Int) (w : World) (e : Ending) (w' : World) : Prop := ∃ r, e = .returned (.tuple #[r, .int .i64 E]) ∧ BO w' w.heap.size r Z ∧ Below w.heap.size w w'
/-- Two big integers and an error. -/
def Res3 (Q R E : Int) (w : World) (e : Ending) (w' : World) : Prop := ∃ r1 r2, e = .returned (.tuple #[r1, r2, .int .i64 E]) ∧ BO w' w.heap.size r1 Q ∧ BO w' w.heap.size r2 R ∧ Below w.heap.size w w'
/-- A value without memory. -/
def ResV (v : Value) (w : World) (e : Ending) (w' : World) : Prop := e = .returned v ∧ Below w.heap.size w w'
/-- From w on both functions do the same with these arguments. -/
@[reducible] def Both (p q : Nat) (args : Array Value) (w : World) (P : World → Ending → World → Prop) : Prop := ∀ w1, Below w.heap.size w w1 → Calls Tryz.prog p args w1 (P w1) ∧ Calls Tryz.prog q args w1 (P w1)

theorem res2_zero {E : Int} {w w' : World} {e : Ending} (h : e = .returned (.tuple #[.agg #[.int .i64 0, .slice none 0 0], .int .i64 E]) ∧ Below w.heap.size w w') : Res2 0 E w e w' := ⟨_, h.1, BO.zero _ _, h.2⟩
theorem res3_zero {E : Int} {w w' : World} {e : Ending} (h : e = .returned (.tuple #[.agg #[.int .i64 0, .slice none 0 0], .agg #[.int .i64 0, .slice none 0 0], .int .i64 E]) ∧ Below w.heap.size w w') : Res3 0 0 E w e w' := ⟨_, _, h.1, BO.zero _ _, BO.zero _ _, h.2⟩

section
variable {s1 s2 : Int} {l1 l2 : List Int} {A1 A2 : Option Addr} {n1 c1 n2 c2 : Nat} {w : World}
theorem Ar.zz (h : Ar w s1 l1 A1 n1 c1) (hr : RightP s1 l1) : ∃ z, ab z < pw 60 ∧ ∀ w1, Below w.heap.size w w1 → BV w1 w1.heap.size (.agg #[.int .i64 s1, .slice A1 n1 c1]) z := by
  obtain ⟨z, hz, _, h6, _⟩ := h.z hr
  exact ⟨z, h6, fun w1 hb => (hz.below hb).more hb.size⟩

theorem both_add (h1 : Ar w s1 l1 A1 n1 c1) (h2 : Ar w s2 l2 A2 n2 c2) :
    ∃ Z E, Both 7 8 #[.agg #[.int .i64 s1, .slice A1 n1 c1], .agg #[.int .i64 s2, .slice A2 n2 c2]] w (Res2 Z E) := by
  by_cases hr : RightP s1 l1 ∧ RightP s2 l2
  · obtain ⟨x, hx6, hx⟩ := h1.zz hr.1
    obtain ⟨y, hy6, hy⟩ := h2.zz hr.2
    exact ⟨_, _, fun w1 hb => ⟨add_any x y _ _ w1 (hx w1 hb) (hy w1 hb) hx6 hy6, raddb_any w1 (hx w1 hb) (hy w1 hb) hx6 hy6⟩⟩
  · exact ⟨_, _, fun w1 hb => ⟨(add_bad (h1.later hb) (h2.later hb) hr).mono fun _ _ h => res2_zero h, (radd_bad (h1.later hb) (h2.later hb) hr).mono fun _ _ h => res2_zero h⟩⟩
theorem both_sub (h1 : Ar w s1 l1 A1 n1 c1) (h2 : Ar w s2 l2 A2 n2 c2) :
    ∃ Z E, Both 9 10 #[.agg #[.int .i64 s1, .slice A1 n1 c1], .agg #[.int .i64 s2, .slice A2 n2 c2]] w (Res2 Z E) := by
  by_cases hr2 : RightP s2 l2
  · obtain ⟨y, hy6, hy⟩ := h2.zz hr2
    by_cases hr1 : RightP s1 l1
    · obtain ⟨x, hx6, hx⟩ := h1.zz hr1
      exact ⟨_, _, fun w1 hb => ⟨sub_any x y _ _ w1 (hx w1 hb) (hy w1 hb) hx6 hy6, rsubb_any w1 (hx w1 hb) (hy w1 hb) hx6 hy6⟩⟩
    · exact ⟨0, 1, fun w1 hb => ⟨(sub_bad (h1.later hb) (h2.later hb) (fun h => hr1 h.1)).mono fun _ _ h => res2_zero h, rsub_bad1 w1 (h1.later hb) (hy w1 hb) hy6 hr1⟩⟩
  · exact ⟨_, _, fun w1 hb => ⟨(sub_bad (h1.later hb) (h2.later hb) (fun h => hr2 h.2)).mono fun _ _ h => res2_zero h, (rsub_bad2 w1 (h2.later hb) hr2).mono fun _ _ h => res2_zero h⟩⟩
theorem both_mul (h1 : Ar w s1 l1 A1 n1 c1) (h2 : Ar w s2 l2 A2 n2 c2) :
    ∃ Z E, Both 11 12 #[.agg #[.int .i64 s1, .slice A1 n1 c1], .agg #[.int .i64 s2, .slice A2 n2 c2]] w (Res2 Z E) := by
  by_cases hr : RightP s1 l1 ∧ RightP s2 l2
  · obtain ⟨x, hx6, hx⟩ := h1.zz hr.1
    obtain ⟨y, hy6, hy⟩ := h2.zz hr.2
    exact ⟨_, _, fun w1 hb => ⟨mul_any x y _ _ w1 (hx w1 hb) (hy w1 hb) hx6 hy6, rmulb_any w1 (hx w1 hb) (hy w1 hb) hx6 hy6⟩⟩
  · exact ⟨_, _, fun w1 hb => ⟨(mul_bad (h1.later hb) (h2.later hb) hr).mono fun _ _ h => res2_zero h, (rmul_bad (h1.later hb) (h2.later hb) hr).mono fun _ _ h => res2_zero h⟩⟩
theorem both_gcd (h1 : Ar w s1 l1 A1 n1 c1) (h2 : Ar w s2 l2 A2 n2 c2) :
    ∃ Z E, Both 20 21 #[.agg #[.int .i64 s1, .slice A1 n1 c1], .agg #[.int .i64 s2, .slice A2 n2 c2]] w (Res2 Z E) := by
  by_cases hr : RightP s1 l1 ∧ RightP s2 l2
  · obtain ⟨x, hx6, hx⟩ := h1.zz hr.1
    obtain ⟨y, hy6, hy⟩ := h2.zz hr.2
    exact ⟨_, _, fun w1 hb => ⟨gcd_any x y _ _ w1 (hx w1 hb) (hy w1 hb) hx6 hy6, rgcd_any w1 (hx w1 hb) (hy w1 hb) hx6 hy6⟩⟩
  · exact ⟨_, _, fun w1 hb => ⟨(gcd_bad (h1.later hb) (h2.later hb) hr).mono fun _ _ h => res2_zero h, (rgcd_bad (h1.later hb) (h2.later hb) hr).mono fun _ _ h => res2_zero h⟩⟩

/-- The quotient and the remainder are the only ones. -/
theorem qr_one {x y q r q' r' : Int} (h : QR x y q r) (h' : QR x y q' r') : q = q' ∧ r = r' := by
  obtain ⟨e1, s1, b1, _⟩ := h
  obtain ⟨e2, s2, b2, _⟩ := h'
  have hy : y ≠ 0 := fun h => by
    rw [h, ab_zero] at b1
    have := ab_nonneg r
    omega
  have hd : (q - q') * y = r' - r := by
    rw [Int.sub_mul]
    omega
  have hlt : -ab y < r' - r ∧ r' - r < ab y := by
    have key : ∀ r : Int, (r = 0 ∨ sgn r = sgn y) → ab r < ab y → (0 < y ∧ 0 ≤ r ∧ r < ab y) ∨ (y < 0 ∧ r ≤ 0 ∧ -ab y < r) := by
      intro r hs hb
      rcases sgn_three r with ⟨h1, h2⟩ | ⟨h1, h2⟩ | ⟨h1, h2⟩ <;> rcases sgn_three y with ⟨h3, h4⟩ | ⟨h3, h4⟩ | ⟨h3, h4⟩ <;> rw [h2, h4] at hs <;> unfold ab at hb ⊢ <;> omega
    rcases key r s1 b1 with h | h <;> rcases key r' s2 b2 with h' | h' <;> omega
  have hq : q - q' = 0 := by
    rw [← hd] at hlt
    rcases Int.lt_trichotomy (q - q') 0 with h | h | h
    · exfalso
      have h0 : ab y ≤ ab ((q - q') * y) := by
        rw [ab_mul]
        have := Int.mul_le_mul_of_nonneg_right (show 1 ≤ ab (q - q') by unfold ab; omega) (ab_nonneg y)
        omega
      unfold ab at h0 hlt
      omega
    · exact h
    · exfalso
      have h0 : ab y ≤ ab ((q - q') * y) := by
        rw [ab_mul]
        have := Int.mul_le_mul_of_nonneg_right (show 1 ≤ ab (q - q') by unfold ab; omega) (ab_nonneg y)
        omega
      unfold ab at h0 hlt
      omega
  rw [hq, Int.zero_mul] at hd
  omega
theorem both_div (h1 : Ar w s1 l1 A1 n1 c1) (h2 : Ar w s2 l2 A2 n2 c2) :
    ∃ Q R E, Both 14 15 #[.agg #[.int .i64 s1, .slice A1 n1 c1], .agg #[.int .i64 s2, .slice A2 n2 c2]] w (Res3 Q R E) := by
  by_cases hr : RightP s1 l1 ∧ RightP s2 l2
  · obtain ⟨x, hx6, hx⟩ := h1.zz hr.1
    obtain ⟨y, hy6, hy⟩ := h2.zz hr.2
    by_cases hy0 : y = 0
    · subst hy0
      exact ⟨_, _, _, fun w1 hb => ⟨(div_zero x _ _ w1 (hx w1 hb) (hy w1 hb) hx6).mono fun _ _ h => res3_zero h, (rdiv_zero x _ _ w1 (hx w1 hb) (hy w1 hb) hx6).mono fun _ _ h => res3_zero h⟩⟩
    · by_cases he : ∃ q r, QR x y q r
      · obtain ⟨q, r, hqr⟩ := he
        refine ⟨q, r, 0, fun w1 hb => ⟨(div_any x y _ _ w1 (hx w1 hb) (hy w1 hb) hx6 hy6 hy0).mono ?_, (rdiv_any w1 (hx w1 hb) (hy w1 hb) hx6 hy6 hy0).mono ?_⟩⟩
        · rintro e w' ⟨r1, r2, q', r', he, hq, hr, h, hb'⟩
          obtain ⟨rfl, rfl⟩ := qr_one hqr h
          exact ⟨r1, r2, he, hq, hr, hb'⟩
        · rintro e w' ⟨r1, r2, q', r', he, hq, hr, h, hb'⟩
          obtain ⟨rfl, rfl⟩ := qr_one hqr h
          exact ⟨r1, r2, he, hq, hr, hb'⟩
      · refine ⟨0, 0, 0, fun w1 hb => ⟨(div_any x y _ _ w1 (hx w1 hb) (hy w1 hb) hx6 hy6 hy0).mono ?_, (rdiv_any w1 (hx w1 hb) (hy w1 hb) hx6 hy6 hy0).mono ?_⟩⟩
        · rintro e w' ⟨r1, r2, q', r', _, _, _, h, _⟩
          exact absurd ⟨q', r', h⟩ he
        · rintro e w' ⟨r1, r2, q', r', _, _, _, h, _⟩
          exact absurd ⟨q', r', h⟩ he
  · exact ⟨_, _, _, fun w1 hb => ⟨(div_bad (h1.later hb) (h2.later hb) hr).mono fun _ _ h => res3_zero h, (rdiv_bad (h1.later hb) (h2.later hb) hr).mono fun _ _ h => res3_zero h⟩⟩
theorem both_int (h1 : Ar w s1 l1 A1 n1 c1) :
    ∃ v b, Both 16 17 #[.agg #[.int .i64 s1, .slice A1 n1 c1]] w (ResV (.tuple #[.int .i64 v, .bool b])) := by
  by_cases hr : RightP s1 l1
  · obtain ⟨x, hx6, hx⟩ := h1.zz hr
    by_cases hi : isI x
    · exact ⟨x, true, fun w1 hb => by
        have e1 := int_any x _ w1 (hx w1 hb) hx6
        have e2 := rint_any w1 (hx w1 hb) hx6
        rw [IntV.yes hi] at e1 e2
        exact ⟨e1, e2⟩⟩
    · exact ⟨0, false, fun w1 hb => by
        have e1 := int_any x _ w1 (hx w1 hb) hx6
        have e2 := rint_any w1 (hx w1 hb) hx6
        rw [IntV.no hi] at e1 e2
        exact ⟨e1, e2⟩⟩
  · exact ⟨_, _, fun w1 hb => ⟨int_bad (h1.later hb) hr, rint_bad (h1.later hb) hr⟩⟩
theorem both_read (s : ByteArray) (hs : s.size ≤ 400) : ∃ Z E, Both 18 19 #[.string s] w (Res2 Z E) := by
  by_cases hz : ∃ z, bts s = Lib.itoa z
  · obtain ⟨z, hz⟩ := hz
    exact ⟨_, _, fun w1 _ => ⟨read_num z s w1 hz (by omega), rread_any s w1 hs _ _ (.inl ⟨z, hz, rfl, rfl⟩)⟩⟩
  · have hz' : ∀ z, bts s ≠ Lib.itoa z := fun z h => hz ⟨z, h⟩
    exact ⟨_, _, fun w1 _ => ⟨read_bad s w1 hz' (by omega), rread_any s w1 hs _ _ (.inr ⟨hz', rfl, rfl⟩)⟩⟩
theorem both_right (h1 : Ar w s1 l1 A1 n1 c1) : ∃ b, Both 22 23 #[.agg #[.int .i64 s1, .slice A1 n1 c1]] w (ResV (.bool b)) := by
  by_cases hr : RightP s1 l1
  · exact ⟨true, fun w1 hb => ⟨(h1.later hb).right true ⟨fun _ => hr, fun _ => rfl⟩, rRight_any s1 l1 A1 n1 c1 w1 (h1.later hb) true ⟨fun _ => hr, fun _ => rfl⟩⟩⟩
  · have hf : false = true ↔ RightP s1 l1 := ⟨fun h => (by cases h), fun h => absurd h hr⟩
    exact ⟨false, fun w1 hb => ⟨(h1.later hb).right false hf, rRight_any s1 l1 A1 n1 c1 w1 (h1.later hb) false hf⟩⟩
theorem both_cmp (h1 : Ar w s1 l1 A1 n1 c1) (h2 : Ar w s2 l2 A2 n2 c2) :
    ∃ c, Both 24 25 #[.agg #[.int .i64 s1, .slice A1 n1 c1], .agg #[.int .i64 s2, .slice A2 n2 c2]] w (ResV (.int .i64 c)) := by
  by_cases hr : RightP s1 l1 ∧ RightP s2 l2
  · obtain ⟨x, hx6, hx⟩ := h1.zz hr.1
    obtain ⟨y, hy6, hy⟩ := h2.zz hr.2
    exact ⟨_, fun w1 hb => ⟨compare_any x y _ _ w1 (hx w1 hb) (hy w1 hb) hx6 hy6, rcmp_any w1 (hx w1 hb) (hy w1 hb) hx6 hy6⟩⟩
  · exact ⟨_, fun w1 hb => ⟨compare_bad (h1.later hb) (h2.later hb) hr, rcompare_bad (h1.later hb) (h2.later hb) hr⟩⟩
theorem both_same (h1 : Ar w s1 l1 A1 n1 c1) (h2 : Ar w s2 l2 A2 n2 c2) :
    ∃ b, Both 26 13 #[.agg #[.int .i64 s1, .slice A1 n1 c1], .agg #[.int .i64 s2, .slice A2 n2 c2]] w (ResV (.bool b)) :=
  ⟨_, fun w1 hb => ⟨sameA_any w1 (h1.later hb) (h2.later hb), refSameA_any w1 (h1.later hb) (h2.later hb)⟩⟩
theorem both_text (h1 : Ar w s1 l1 A1 n1 c1) (ht : TB w) :
    ∃ t, Both 27 28 #[.agg #[.int .i64 s1, .slice A1 n1 c1]] w (ResV (.string t)) := by
  by_cases hr : RightP s1 l1
  · obtain ⟨x, hx6, hx⟩ := h1.zz hr
    exact ⟨_, fun w1 hb => ⟨text_any x _ w1 (hx w1 hb) hx6 (ht.below hb), rtext4_any x w1 (hx w1 hb) hx6⟩⟩
  · refine ⟨_, fun w1 hb => ⟨?_, rtext4_bad (h1.later hb) hr⟩⟩
    obtain ⟨rfl, hI, hc, hm⟩ := h1.later hb
    exact text_bad s1 l1 A1 c1 w1 hI (by omega) hr
theorem both_neg (h1 : Ar w s1 l1 A1 n1 c1) : ∃ Z, Both 29 30 #[.agg #[.int .i64 s1, .slice A1 n1 c1]] w (OfP Z) := by
  by_cases hr : RightP s1 l1
  · obtain ⟨x, hx6, hx⟩ := h1.zz hr
    exact ⟨_, fun w1 hb => ⟨neg_any x _ w1 (hx w1 hb) hx6, rneg_any w1 (hx w1 hb) hx6⟩⟩
  · exact ⟨0, fun w1 hb => ⟨(neg_bad (h1.later hb) hr).mono fun _ _ h => ⟨_, h.1, BO.zero _ _, h.2⟩, (rneg_bad (h1.later hb) hr).mono fun _ _ h => ⟨_, h.1, BO.zero _ _, h.2⟩⟩⟩
theorem both_of {z : Int} (h0 : -9223372036854775808 ≤ z) (h1 : z ≤ 9223372036854775807) : ∃ Z, Both 31 32 #[.int .i64 z] w (OfP Z) :=
  ⟨z, fun w1 _ => ⟨of_any z w1 h0 h1, rof_any z w1 h0 h1⟩⟩
end

/-- Two owned big integers of the same value are the same to the reference's Same. -/
theorem same_own {w : World} {B B' : Nat} {r1 r2 : Value} {z : Int} (h1 : BO w B r1 z) (h2 : BO w B' r2 z) :
    Calls Tryz.prog 13 #[r1, r2] w fun e w' => e = .returned (.bool true) ∧ Below w.heap.size w w' := by
  obtain ⟨v1, rfl, ho1⟩ := h1
  obtain ⟨v2, rfl, ho2⟩ := h2
  obtain ⟨A1, c1, rfl, hc1, hm1, hi1⟩ := ho1.at_
  obtain ⟨A2, c2, rfl, hc2, hm2, hi2⟩ := ho2.at_
  have := refSameA_any w ⟨rfl, hi1, hc1, hm1⟩ ⟨rfl, hi2, hc2, hm2⟩ (s1 := sgn z) (s2 := sgn z)
  rwa [decide_eq_true ⟨rfl, rfl⟩] at this
end Go.Proofs.YtkjpfnbdlbnbkaaGreatDoor

namespace Go.Proofs.YtkjpfnbdlbnbkaaGreatDoor
open Go.RowKit

/-- Two big integers of the same value are the same to the reference's Same. -/
theorem same_bv {w : World} {B B' : Nat} {r1 r2 : Value} {z : Int} (h1 : BV w B r1 z) (h2 : BV w B' r2 z) (hb : B ≤ w.heap.size) (hb' : B' ≤ w.heap.size) :
    Calls Tryz.prog 13 #[r1, r2] w fun e w' => e = .returned (.bool true) ∧ Below w.heap.size w w' := by
  obtain ⟨A1, c1, rfl, hc1, hm1, hi1⟩ := h1
  obtain ⟨A2, c2, rfl, hc2, hm2, hi2⟩ := h2
  have := refSameA_any w ⟨rfl, hi1.more hb, hc1, hm1⟩ ⟨rfl, hi2.more hb', hc2, hm2⟩ (s1 := sgn z) (s2 := sgn z)
  rwa [decide_eq_true ⟨rfl, rfl⟩] at this

/-- Two results stored into two boxes that were there. -/
theorem put2 {W w0 : World} {g g2 : Nat} {a0 a1 b0 b1 : Value} {s s' : Int} {A A' : Option Addr} {n c n' c' : Nat}
    (hg : Blk W g 24 #[a0, a1]) (hg2 : Blk W g2 24 #[b0, b1]) (hne : g2 ≠ g) (hT : Below w0.heap.size w0 W) (h0 : w0.heap.size ≤ g) (h02 : w0.heap.size ≤ g2) :
    ∃ V, V = (((W.setCell ⟨g, 0, none⟩ (.int .i64 s)).setCell ⟨g, 1, none⟩ (.slice A n c)).setCell ⟨g2, 0, none⟩ (.int .i64 s')).setCell ⟨g2, 1, none⟩ (.slice A' n' c') ∧
      Below w0.heap.size w0 V ∧ Blk V g 24 #[.int .i64 s, .slice A n c] ∧ Blk V g2 24 #[.int .i64 s', .slice A' n' c'] ∧
      (∀ h t cs, Blk W h t cs → h ≠ g → h ≠ g2 → Blk V h t cs) ∧ (∀ v z B', BO W B' v z → g < B' → g2 < B' → BO V B' v z) := by
  refine ⟨_, rfl, (((hT.setCell (p := ⟨g, 0, none⟩) h0 _).setCell (p := ⟨g, 1, none⟩) h0 _).setCell (p := ⟨g2, 0, none⟩) h02 _).setCell (p := ⟨g2, 1, none⟩) h02 _, ?_, ?_, ?_, ?_⟩
  · exact ((hg.set2 (.int .i64 s) (.slice A n c)).far (p := ⟨g2, 0, none⟩) (Ne.symm hne) _).far (p := ⟨g2, 1, none⟩) (Ne.symm hne) _
  · exact ((hg2.far (p := ⟨g, 0, none⟩) hne _).far (p := ⟨g, 1, none⟩) hne _).set2 (.int .i64 s') (.slice A' n' c')
  · intro h t cs hb h1 h2
    exact (((hb.far (p := ⟨g, 0, none⟩) h1 _).far (p := ⟨g, 1, none⟩) h1 _).far (p := ⟨g2, 0, none⟩) h2 _).far (p := ⟨g2, 1, none⟩) h2 _
  · intro v z B' ho h1 h2
    exact (ho.far2 h1 _ _).far2 h2 _ _

set_option maxRecDepth 100000 in
set_option maxHeartbeats 16000000 in
theorem tells_any (s1 s2 k : Int) (l1 l2 : List Int) (A1 A2 : Option Addr) (n1 c1 n2 c2 : Nat) (s : ByteArray) (w : World) (ht : TB w) (hk0 : -9223372036854775808 ≤ k) (hk1 : k ≤ 9223372036854775807) (h1 : Ar w s1 l1 A1 n1 c1) (h2 : Ar w s2 l2 A2 n2 c2) :
    Calls Tryz.prog 3 #[.agg #[.int .i64 s1, .slice A1 n1 c1], .agg #[.int .i64 s2, .slice A2 n2 c2], .int .i64 k, .string s] w fun e w' => e = .returned (.bool true) ∧ Below w.heap.size w w' := by
  have HT := Lib.hid ht
  obtain ⟨Za, Ea, had⟩ := both_add h1 h2
  obtain ⟨Zs, Es, hsu⟩ := both_sub h1 h2
  obtain ⟨Zm, Em, hmu⟩ := both_mul h1 h2
  obtain ⟨Zg, Eg, hgc⟩ := both_gcd h1 h2
  obtain ⟨Zq, Zr, Ed, hdi⟩ := both_div h1 h2
  obtain ⟨vi, bi, hin⟩ := both_int h1
  obtain ⟨br, hri⟩ := both_right h1
  obtain ⟨vc, hcm⟩ := both_cmp h1 h2
  obtain ⟨bs, hsa⟩ := both_same h1 h2
  obtain ⟨tx, hte⟩ := both_text h1 ht
  obtain ⟨Zn, hne⟩ := both_neg h1
  obtain ⟨Zo, hof⟩ := both_of (w := w) hk0 hk1
  have HAD := Lib.hid had; clear had
  have HSU := Lib.hid hsu; clear hsu
  have HMU := Lib.hid hmu; clear hmu
  have HGC := Lib.hid hgc; clear hgc
  have HDI := Lib.hid hdi; clear hdi
  have HIN := Lib.hid hin; clear hin
  have HRI := Lib.hid hri; clear hri
  have HCM := Lib.hid hcm; clear hcm
  have HSA := Lib.hid hsa; clear hsa
  have HTE := Lib.hid hte; clear hte
  have HNE := Lib.hid hne; clear hne
  have HOF := Lib.hid hof; clear hof
  have H1 := Lib.hid h1
  have H2 := Lib.hid h2
  clear ht hk0 hk1
  go_enter Tryz.func3, Tryz.ntmps3
  go_wp2_with fail
  obtain ⟨W0, hW, hbx, qa, qb⟩ := abox2 h1 h2
  rw [← hW]
  clear hW h1 h2
  have ka := qa.blk
  have kb := qb.blk
  clear qa qb
  have hT := hbx
  (with_reducible refine (small_any _ (HT.out.below hT)).mono ?_)
  rintro e u1 ⟨rfl, hb9⟩
  replace hT := hT.trans (hb9.mono hT.size)
  replace ka := ka.below hb9 ka.lt
  replace kb := kb.below hb9 kb.lt
  have za0 := ka.cell 0
  have za1 := ka.cell 1
  go_wp2_with fail
  clear za0 za1
  by_cases hc1 : n1 ≤ 62
  rotate_left
  · refine ((H1.out.later hT).few 62 false (by simp; omega)).mono ?_
    rintro e v ⟨rfl, hb⟩
    have hT := hT.trans (hb.mono hT.size)
    go_wp2_with fail
    go_ret
    exact ⟨rfl, hT⟩
  (with_reducible refine ((H1.out.later hT).few 62 true (by simp; omega)).mono ?_)
  rintro e u2 ⟨rfl, hb9⟩
  replace hT := hT.trans (hb9.mono hT.size)
  replace ka := ka.below hb9 ka.lt
  replace kb := kb.below hb9 kb.lt
  have zb0 := kb.cell 0
  have zb1 := kb.cell 1
  go_wp2_with fail
  clear zb0 zb1
  by_cases hc2 : n2 ≤ 62
  rotate_left
  · refine ((H2.out.later hT).few 62 false (by simp; omega)).mono ?_
    rintro e v ⟨rfl, hb⟩
    have hT := hT.trans (hb.mono hT.size)
    go_wp2_with fail
    go_ret
    exact ⟨rfl, hT⟩
  (with_reducible refine ((H2.out.later hT).few 62 true (by simp; omega)).mono ?_)
  rintro e u3 ⟨rfl, hb9⟩
  replace hT := hT.trans (hb9.mono hT.size)
  replace ka := ka.below hb9 ka.lt
  replace kb := kb.below hb9 kb.lt
  by_cases hss : s.size ≤ 400
  rotate_left
  · have hs1 : (400 : Int) < (s.size : Int) := by omega
    go_wp2_with fail
    go_ret
    exact ⟨rfl, hT⟩
  have hs1 : ¬ (400 : Int) < (s.size : Int) := by omega
  obtain ⟨Zt, Et, hrd⟩ := both_read (w := w) s hss
  have HRD := Lib.hid hrd; clear hrd hc1 hc2
  have za0 := ka.cell 0
  have za1 := ka.cell 1
  have zb0 := kb.cell 0
  have zb1 := kb.cell 1
  go_wp2_with fail
  clear za0 za1 zb0 zb1
  clear hs1 hss
  (with_reducible refine ((HAD.out _ hT).1).mono ?_)
  rintro e u4 ⟨rd, rfl, hrd, hb9⟩
  replace hT := hT.trans (hb9.mono hT.size)
  replace ka := ka.below hb9 ka.lt
  replace kb := kb.below hb9 kb.lt
  obtain ⟨sd, Ad, nd, cd, rfl⟩ := hrd.form
  have lta_d := ka.lt
  have ltb_d := kb.lt
  have ged : w.heap.size ≤ u4.heap.size := hT.size
  obtain ⟨Wd, hW, hbx, kd⟩ := box1 hrd
  have kaz := ka.below hbx ka.lt
  have za0 := kaz.cell 0
  have za1 := kaz.cell 1
  have kbz := kb.below hbx kb.lt
  have zb0 := kbz.cell 0
  have zb1 := kbz.cell 1
  rw [hW] at za0 za1 zb0 zb1
  go_wp2_with fail
  clear za0 za1 zb0 zb1
  clear kaz
  clear kbz
  rw [← hW]
  clear hW
  replace hT := hT.trans (hbx.mono hT.size)
  replace ka := ka.below hbx ka.lt
  replace kb := kb.below hbx kb.lt
  (with_reducible refine ((HAD.out _ hT).2).mono ?_)
  rintro e u5 ⟨re, rfl, hre, hb9⟩
  replace hT := hT.trans (hb9.mono hT.size)
  replace ka := ka.below hb9 ka.lt
  replace kb := kb.below hb9 kb.lt
  replace kd := kd.below hb9
  obtain ⟨se, Ae, ne, ce, rfl⟩ := hre.form
  have lta_e := ka.lt
  have ltb_e := kb.lt
  have ltd_e := kd.blk.lt
  have gee : w.heap.size ≤ u5.heap.size := hT.size
  obtain ⟨We, hW, hbx, ke⟩ := box1 hre
  have kaz := ka.below hbx ka.lt
  have za0 := kaz.cell 0
  have za1 := kaz.cell 1
  have kbz := kb.below hbx kb.lt
  have zb0 := kbz.cell 0
  have zb1 := kbz.cell 1
  rw [hW] at za0 za1 zb0 zb1
  go_wp2_with fail
  clear za0 za1 zb0 zb1
  clear kaz
  clear kbz
  rw [← hW]
  clear hW
  replace hT := hT.trans (hbx.mono hT.size)
  replace ka := ka.below hbx ka.lt
  replace kb := kb.below hbx kb.lt
  replace kd := kd.below hbx
  (with_reducible refine ((HSU.out _ hT).1).mono ?_)
  rintro e u6 ⟨rf, rfl, hrf, hb9⟩
  replace hT := hT.trans (hb9.mono hT.size)
  replace ka := ka.below hb9 ka.lt
  replace kb := kb.below hb9 kb.lt
  replace kd := kd.below hb9
  replace ke := ke.below hb9
  obtain ⟨sf, Af, nf, cf, rfl⟩ := hrf.form
  have lta_f := ka.lt
  have ltb_f := kb.lt
  have ltd_f := kd.blk.lt
  have lte_f := ke.blk.lt
  have gef : w.heap.size ≤ u6.heap.size := hT.size
  obtain ⟨Wf, hW, hbx, kf⟩ := box1 hrf
  have kaz := ka.below hbx ka.lt
  have za0 := kaz.cell 0
  have za1 := kaz.cell 1
  have kbz := kb.below hbx kb.lt
  have zb0 := kbz.cell 0
  have zb1 := kbz.cell 1
  rw [hW] at za0 za1 zb0 zb1
  go_wp2_with fail
  clear za0 za1 zb0 zb1
  clear kaz
  clear kbz
  rw [← hW]
  clear hW
  replace hT := hT.trans (hbx.mono hT.size)
  replace ka := ka.below hbx ka.lt
  replace kb := kb.below hbx kb.lt
  replace kd := kd.below hbx
  replace ke := ke.below hbx
  (with_reducible refine ((HSU.out _ hT).2).mono ?_)
  rintro e u7 ⟨rg, rfl, hrg, hb9⟩
  replace hT := hT.trans (hb9.mono hT.size)
  replace ka := ka.below hb9 ka.lt
  replace kb := kb.below hb9 kb.lt
  replace kd := kd.below hb9
  replace ke := ke.below hb9
  replace kf := kf.below hb9
  obtain ⟨sg, Ag, ng, cg, rfl⟩ := hrg.form
  have lta_g := ka.lt
  have ltb_g := kb.lt
  have ltd_g := kd.blk.lt
  have lte_g := ke.blk.lt
  have ltf_g := kf.blk.lt
  have geg : w.heap.size ≤ u7.heap.size := hT.size
  obtain ⟨Wg, hW, hbx, kg⟩ := box1 hrg
  have kaz := ka.below hbx ka.lt
  have za0 := kaz.cell 0
  have za1 := kaz.cell 1
  have kbz := kb.below hbx kb.lt
  have zb0 := kbz.cell 0
  have zb1 := kbz.cell 1
  rw [hW] at za0 za1 zb0 zb1
  go_wp2_with fail
  clear za0 za1 zb0 zb1
  clear kaz
  clear kbz
  rw [← hW]
  clear hW
  replace hT := hT.trans (hbx.mono hT.size)
  replace ka := ka.below hbx ka.lt
  replace kb := kb.below hbx kb.lt
  replace kd := kd.below hbx
  replace ke := ke.below hbx
  replace kf := kf.below hbx
  (with_reducible refine ((HMU.out _ hT).1).mono ?_)
  rintro e u8 ⟨rh, rfl, hrh, hb9⟩
  replace hT := hT.trans (hb9.mono hT.size)
  replace ka := ka.below hb9 ka.lt
  replace kb := kb.below hb9 kb.lt
  replace kd := kd.below hb9
  replace ke := ke.below hb9
  replace kf := kf.below hb9
  replace kg := kg.below hb9
  obtain ⟨sh, Ah, nh, ch, rfl⟩ := hrh.form
  obtain ⟨Wh, hW, hbx, kh⟩ := box1 hrh
  have kaz := ka.below hbx ka.lt
  have za0 := kaz.cell 0
  have za1 := kaz.cell 1
  have kbz := kb.below hbx kb.lt
  have zb0 := kbz.cell 0
  have zb1 := kbz.cell 1
  rw [hW] at za0 za1 zb0 zb1
  go_wp2_with fail
  clear za0 za1 zb0 zb1
  clear kaz
  clear kbz
  rw [← hW]
  clear hW
  replace hT := hT.trans (hbx.mono hT.size)
  replace ka := ka.below hbx ka.lt
  replace kb := kb.below hbx kb.lt
  replace kd := kd.below hbx
  replace ke := ke.below hbx
  replace kf := kf.below hbx
  replace kg := kg.below hbx
  (with_reducible refine ((HMU.out _ hT).2).mono ?_)
  rintro e u9 ⟨ri, rfl, hri, hb9⟩
  replace hT := hT.trans (hb9.mono hT.size)
  replace ka := ka.below hb9 ka.lt
  replace kb := kb.below hb9 kb.lt
  replace kd := kd.below hb9
  replace ke := ke.below hb9
  replace kf := kf.below hb9
  replace kg := kg.below hb9
  replace kh := kh.below hb9
  obtain ⟨si, Ai, ni, ci, rfl⟩ := hri.form
  obtain ⟨Wi, hW, hbx, ki⟩ := box1 hri
  have kdz := kd.below hbx
  have zd0 := kdz.c0
  have zd1 := kdz.c1
  have kez := ke.below hbx
  have ze0 := kez.c0
  have ze1 := kez.c1
  rw [hW] at zd0 zd1 ze0 ze1
  go_wp2_with fail
  clear zd0 zd1 ze0 ze1
  clear kdz
  clear kez
  rw [← hW]
  clear hW
  replace hT := hT.trans (hbx.mono hT.size)
  replace ka := ka.below hbx ka.lt
  replace kb := kb.below hbx kb.lt
  replace kd := kd.below hbx
  replace ke := ke.below hbx
  replace kf := kf.below hbx
  replace kg := kg.below hbx
  replace kh := kh.below hbx
  (with_reducible refine (same_bv kd.bv ke.bv (Nat.le_refl _) (Nat.le_refl _)).mono ?_)
  rintro e u10 ⟨rfl, hb9⟩
  replace hT := hT.trans (hb9.mono hT.size)
  replace ka := ka.below hb9 ka.lt
  replace kb := kb.below hb9 kb.lt
  replace kd := kd.below hb9
  replace ke := ke.below hb9
  replace kf := kf.below hb9
  replace kg := kg.below hb9
  replace kh := kh.below hb9
  replace ki := ki.below hb9
  have zf0 := kf.c0
  have zf1 := kf.c1
  have zg0 := kg.c0
  have zg1 := kg.c1
  go_wp2_with fail
  clear zf0 zf1 zg0 zg1
  (with_reducible refine (same_bv kf.bv kg.bv (Nat.le_refl _) (Nat.le_refl _)).mono ?_)
  rintro e u11 ⟨rfl, hb9⟩
  replace hT := hT.trans (hb9.mono hT.size)
  replace ka := ka.below hb9 ka.lt
  replace kb := kb.below hb9 kb.lt
  replace kd := kd.below hb9
  replace ke := ke.below hb9
  replace kf := kf.below hb9
  replace kg := kg.below hb9
  replace kh := kh.below hb9
  replace ki := ki.below hb9
  have zh0 := kh.c0
  have zh1 := kh.c1
  have zi0 := ki.c0
  have zi1 := ki.c1
  go_wp2_with fail
  clear zh0 zh1 zi0 zi1
  (with_reducible refine (same_bv kh.bv ki.bv (Nat.le_refl _) (Nat.le_refl _)).mono ?_)
  rintro e u12 ⟨rfl, hb9⟩
  replace hT := hT.trans (hb9.mono hT.size)
  replace ka := ka.below hb9 ka.lt
  replace kb := kb.below hb9 kb.lt
  replace kd := kd.below hb9
  replace ke := ke.below hb9
  replace kf := kf.below hb9
  replace kg := kg.below hb9
  replace kh := kh.below hb9
  replace ki := ki.below hb9
  have za0 := ka.cell 0
  have za1 := ka.cell 1
  have zb0 := kb.cell 0
  have zb1 := kb.cell 1
  go_wp2_with fail
  clear za0 za1 zb0 zb1
  clear kh ki
  replace kd := kd.blk
  replace ke := ke.blk
  replace kf := kf.blk
  replace kg := kg.blk
  clear hrd hre hrf hrg hrh hri
  have lof := kf.lt
  have log := kg.lt
  have ltd := kd.lt
  have lte := ke.lt
  (with_reducible refine ((HDI.out _ hT).1).mono ?_)
  rintro e u13 ⟨rj, rl, rfl, hrj, hrl, hb9⟩
  replace hT := hT.trans (hb9.mono hT.size)
  replace ka := ka.below hb9 ka.lt
  replace kb := kb.below hb9 kb.lt
  replace kd := kd.below hb9 kd.lt
  replace ke := ke.below hb9 ke.lt
  replace kf := kf.below hb9 kf.lt
  replace kg := kg.below hb9 kg.lt
  obtain ⟨sj, Aj, nj, cj, rfl⟩ := hrj.form
  obtain ⟨sl, Al, nl, cl, rfl⟩ := hrl.form
  have t0 := kd.cell 0
  have t1 := kd.cell 1
  have f0 := kd.frozen 0
  have f1 := kd.frozen 1
  have t2 := ke.cell 0
  have t3 := ke.cell 1
  have f2 := ke.frozen 0
  have f3 := ke.frozen 1
  have ne1 := (Nat.ne_of_gt ltd_e)
  have ne2 := Ne.symm ne1
  obtain ⟨Vj, hV, hTV, kg1, kg2, hfar, hfaro⟩ := put2 kd ke (Nat.ne_of_gt ltd_e) (s := sj) (s' := sl) (A := Aj) (A' := Al) (n := nj) (n' := nl) (c := cj) (c' := cl) hT ged gee
  replace ka := hfar _ _ _ ka (Nat.ne_of_lt lta_d) (Nat.ne_of_lt lta_e)
  replace kb := hfar _ _ _ kb (Nat.ne_of_lt ltb_d) (Nat.ne_of_lt ltb_e)
  replace kf := hfar _ _ _ kf (Nat.ne_of_gt ltd_f) (Nat.ne_of_gt lte_f)
  replace kg := hfar _ _ _ kg (Nat.ne_of_gt ltd_g) (Nat.ne_of_gt lte_g)
  replace hrj := hfaro _ _ _ hrj ltd lte
  replace hrl := hfaro _ _ _ hrl ltd lte
  replace kd := kg1
  replace ke := kg2
  replace hT := hTV
  clear hfar hfaro kg1 kg2 hTV
  have za0 := ka.cell 0
  have za1 := ka.cell 1
  have zb0 := kb.cell 0
  have zb1 := kb.cell 1
  rw [hV] at za0 za1 zb0 zb1
  go_wp2_with fail
  clear ne1 ne2 t0 t1 t2 t3 f0 f1 f2 f3 za0 za1 zb0 zb1
  rw [← hV]
  clear hV
  clear ltd lte
  have ltf := kf.lt
  have ltg := kg.lt
  (with_reducible refine ((HDI.out _ hT).2).mono ?_)
  rintro e u14 ⟨rp, rq, rfl, hrp, hrq, hb9⟩
  replace hT := hT.trans (hb9.mono hT.size)
  replace ka := ka.below hb9 ka.lt
  replace kb := kb.below hb9 kb.lt
  replace kd := kd.below hb9 kd.lt
  replace ke := ke.below hb9 ke.lt
  replace kf := kf.below hb9 kf.lt
  replace kg := kg.below hb9 kg.lt
  replace hrj := hrj.below hb9
  replace hrl := hrl.below hb9
  obtain ⟨sp, Ap, np, cp, rfl⟩ := hrp.form
  obtain ⟨sq, Aq, nq, cq, rfl⟩ := hrq.form
  have t0 := kf.cell 0
  have t1 := kf.cell 1
  have f0 := kf.frozen 0
  have f1 := kf.frozen 1
  have t2 := kg.cell 0
  have t3 := kg.cell 1
  have f2 := kg.frozen 0
  have f3 := kg.frozen 1
  have ne1 := (Nat.ne_of_gt ltf_g)
  have ne2 := Ne.symm ne1
  obtain ⟨Vp, hV, hTV, kg1, kg2, hfar, hfaro⟩ := put2 kf kg (Nat.ne_of_gt ltf_g) (s := sp) (s' := sq) (A := Ap) (A' := Aq) (n := np) (n' := nq) (c := cp) (c' := cq) hT gef geg
  replace ka := hfar _ _ _ ka (Nat.ne_of_lt lta_f) (Nat.ne_of_lt lta_g)
  replace kb := hfar _ _ _ kb (Nat.ne_of_lt ltb_f) (Nat.ne_of_lt ltb_g)
  replace kd := hfar _ _ _ kd (Nat.ne_of_lt ltd_f) (Nat.ne_of_lt ltd_g)
  replace ke := hfar _ _ _ ke (Nat.ne_of_lt lte_f) (Nat.ne_of_lt lte_g)
  replace hrj := hfaro _ _ _ hrj lof log
  replace hrl := hfaro _ _ _ hrl lof log
  replace hrp := hfaro _ _ _ hrp ltf ltg
  replace hrq := hfaro _ _ _ hrq ltf ltg
  replace kf := kg1
  replace kg := kg2
  replace hT := hTV
  clear hfar hfaro kg1 kg2 hTV
  have za0 := ka.cell 0
  have za1 := ka.cell 1
  rw [hV] at za0 za1
  go_wp2_with fail
  clear ne1 ne2 t0 t1 t2 t3 f0 f1 f2 f3 za0 za1
  rw [← hV]
  clear hV
  clear ltf ltg
  (with_reducible refine ((HIN.out _ hT).1).mono ?_)
  rintro e u15 ⟨rfl, hb9⟩
  replace hT := hT.trans (hb9.mono hT.size)
  replace ka := ka.below hb9 ka.lt
  replace kb := kb.below hb9 kb.lt
  replace kd := kd.below hb9 kd.lt
  replace ke := ke.below hb9 ke.lt
  replace kf := kf.below hb9 kf.lt
  replace kg := kg.below hb9 kg.lt
  replace hrj := hrj.below hb9
  replace hrl := hrl.below hb9
  replace hrp := hrp.below hb9
  replace hrq := hrq.below hb9
  have za0 := ka.cell 0
  have za1 := ka.cell 1
  go_wp2_with fail
  clear za0 za1
  (with_reducible refine ((HIN.out _ hT).2).mono ?_)
  rintro e u16 ⟨rfl, hb9⟩
  replace hT := hT.trans (hb9.mono hT.size)
  replace ka := ka.below hb9 ka.lt
  replace kb := kb.below hb9 kb.lt
  replace kd := kd.below hb9 kd.lt
  replace ke := ke.below hb9 ke.lt
  replace kf := kf.below hb9 kf.lt
  replace kg := kg.below hb9 kg.lt
  replace hrj := hrj.below hb9
  replace hrl := hrl.below hb9
  replace hrp := hrp.below hb9
  replace hrq := hrq.below hb9
  go_wp2_with fail
  (with_reducible refine ((HRD.out _ hT).1).mono ?_)
  rintro e u17 ⟨rm, rfl, hrm, hb9⟩
  replace hT := hT.trans (hb9.mono hT.size)
  replace ka := ka.below hb9 ka.lt
  replace kb := kb.below hb9 kb.lt
  replace kd := kd.below hb9 kd.lt
  replace ke := ke.below hb9 ke.lt
  replace kf := kf.below hb9 kf.lt
  replace kg := kg.below hb9 kg.lt
  replace hrj := hrj.below hb9
  replace hrl := hrl.below hb9
  replace hrp := hrp.below hb9
  replace hrq := hrq.below hb9
  obtain ⟨sm, Am, nm, cm, rfl⟩ := hrm.form
  obtain ⟨Wm, hW, hbx, km⟩ := box1 hrm
  go_wp2_with fail
  rw [← hW]
  clear hW
  replace hT := hT.trans (hbx.mono hT.size)
  replace ka := ka.below hbx ka.lt
  replace kb := kb.below hbx kb.lt
  replace kd := kd.below hbx kd.lt
  replace ke := ke.below hbx ke.lt
  replace kf := kf.below hbx kf.lt
  replace kg := kg.below hbx kg.lt
  replace hrj := hrj.below hbx
  replace hrl := hrl.below hbx
  replace hrp := hrp.below hbx
  replace hrq := hrq.below hbx
  (with_reducible refine ((HRD.out _ hT).2).mono ?_)
  rintro e u18 ⟨rn, rfl, hrn, hb9⟩
  replace hT := hT.trans (hb9.mono hT.size)
  replace ka := ka.below hb9 ka.lt
  replace kb := kb.below hb9 kb.lt
  replace kd := kd.below hb9 kd.lt
  replace ke := ke.below hb9 ke.lt
  replace kf := kf.below hb9 kf.lt
  replace kg := kg.below hb9 kg.lt
  replace km := km.below hb9
  replace hrj := hrj.below hb9
  replace hrl := hrl.below hb9
  replace hrp := hrp.below hb9
  replace hrq := hrq.below hb9
  obtain ⟨sn, An, nn, cn, rfl⟩ := hrn.form
  obtain ⟨Wn, hW, hbx, kn⟩ := box1 hrn
  have kdz := kd.below hbx kd.lt
  have zd0 := kdz.cell 0
  have zd1 := kdz.cell 1
  have kfz := kf.below hbx kf.lt
  have zf0 := kfz.cell 0
  have zf1 := kfz.cell 1
  rw [hW] at zd0 zd1 zf0 zf1
  go_wp2_with fail
  clear zd0 zd1 zf0 zf1
  clear kdz
  clear kfz
  rw [← hW]
  clear hW
  replace hT := hT.trans (hbx.mono hT.size)
  replace ka := ka.below hbx ka.lt
  replace kb := kb.below hbx kb.lt
  replace kd := kd.below hbx kd.lt
  replace ke := ke.below hbx ke.lt
  replace kf := kf.below hbx kf.lt
  replace kg := kg.below hbx kg.lt
  replace km := km.below hbx
  replace hrj := hrj.below hbx
  replace hrl := hrl.below hbx
  replace hrp := hrp.below hbx
  replace hrq := hrq.below hbx
  (with_reducible refine (same_own hrj hrp).mono ?_)
  rintro e u19 ⟨rfl, hb9⟩
  replace hT := hT.trans (hb9.mono hT.size)
  replace ka := ka.below hb9 ka.lt
  replace kb := kb.below hb9 kb.lt
  replace kd := kd.below hb9 kd.lt
  replace ke := ke.below hb9 ke.lt
  replace kf := kf.below hb9 kf.lt
  replace kg := kg.below hb9 kg.lt
  replace km := km.below hb9
  replace kn := kn.below hb9
  replace hrj := hrj.below hb9
  replace hrl := hrl.below hb9
  replace hrp := hrp.below hb9
  replace hrq := hrq.below hb9
  have ze0 := ke.cell 0
  have ze1 := ke.cell 1
  have zg0 := kg.cell 0
  have zg1 := kg.cell 1
  go_wp2_with fail
  clear ze0 ze1 zg0 zg1
  (with_reducible refine (same_own hrl hrq).mono ?_)
  rintro e u20 ⟨rfl, hb9⟩
  replace hT := hT.trans (hb9.mono hT.size)
  replace ka := ka.below hb9 ka.lt
  replace kb := kb.below hb9 kb.lt
  replace kd := kd.below hb9 kd.lt
  replace ke := ke.below hb9 ke.lt
  replace kf := kf.below hb9 kf.lt
  replace kg := kg.below hb9 kg.lt
  replace km := km.below hb9
  replace kn := kn.below hb9
  replace hrj := hrj.below hb9
  replace hrl := hrl.below hb9
  replace hrp := hrp.below hb9
  replace hrq := hrq.below hb9
  have zm0 := km.c0
  have zm1 := km.c1
  have zn0 := kn.c0
  have zn1 := kn.c1
  go_wp2_with fail
  clear zm0 zm1 zn0 zn1
  (with_reducible refine (same_bv km.bv kn.bv (Nat.le_refl _) (Nat.le_refl _)).mono ?_)
  rintro e u21 ⟨rfl, hb9⟩
  replace hT := hT.trans (hb9.mono hT.size)
  replace ka := ka.below hb9 ka.lt
  replace kb := kb.below hb9 kb.lt
  replace kd := kd.below hb9 kd.lt
  replace ke := ke.below hb9 ke.lt
  replace kf := kf.below hb9 kf.lt
  replace kg := kg.below hb9 kg.lt
  replace km := km.below hb9
  replace kn := kn.below hb9
  replace hrj := hrj.below hb9
  replace hrl := hrl.below hb9
  replace hrp := hrp.below hb9
  replace hrq := hrq.below hb9
  have za0 := ka.cell 0
  have za1 := ka.cell 1
  go_wp2_with fail
  clear za0 za1
  clear km kn kd ke kf kg
  clear hrj hrl hrp hrq hrm hrn HAD HSU HMU HDI HIN HRD
  by_cases hc1 : n1 ≤ 16
  rotate_left
  · (with_reducible refine ((H1.out.later hT).few 16 false (by simp; omega)).mono ?_)
    rintro e u22 ⟨rfl, hb9⟩
    replace hT := hT.trans (hb9.mono hT.size)
    replace ka := ka.below hb9 ka.lt
    replace kb := kb.below hb9 kb.lt
    have e0 : ∀ W' : World, Below u22.heap.size u22 W' → W'.cell? ⟨w.heap.size, 0, none⟩ = some (.int .i64 s1) ∧ W'.cell? ⟨w.heap.size, 1, none⟩ = some (.slice A1 n1 c1) ∧ W'.cell? ⟨w.heap.size + 1, 0, none⟩ = some (.int .i64 s2) ∧ W'.cell? ⟨w.heap.size + 1, 1, none⟩ = some (.slice A2 n2 c2) ∧ Below u22.heap.size u22 W' := fun W' hW =>
      ⟨(ka.below hW ka.lt).cell 0, (ka.below hW ka.lt).cell 1, (kb.below hW kb.lt).cell 0, (kb.below hW kb.lt).cell 1, hW⟩
    have E0 := Lib.hid e0; clear e0
    have hB00 : Below u22.heap.size u22 u22.drew := (Below.refl _ _).drew
    have hTs := hT.size
    go_wp2_with fail
    go_region_held3 (fun W' => W'.cell? ⟨w.heap.size, 0, none⟩ = some (.int .i64 s1) ∧ W'.cell? ⟨w.heap.size, 1, none⟩ = some (.slice A1 n1 c1) ∧ W'.cell? ⟨w.heap.size + 1, 0, none⟩ = some (.int .i64 s2) ∧ W'.cell? ⟨w.heap.size + 1, 1, none⟩ = some (.slice A2 n2 c2) ∧ Below u22.heap.size u22 W')
      (first | exact E0.out _ (by assumption) | exact E0.out _ ⟨rfl, rfl, rfl, Nat.le_refl _, fun _ _ => rfl⟩)
      (first
        | (go_at_call 28; have _h := hB7; refine ((HTE.out _ (hT.trans (hB7.mono hTs))).2).mono ?_; rintro e x8 ⟨rfl, hb8⟩; have hB8 : Below u22.heap.size u22 x8 := hB7.trans (hb8.mono hB7.size))
        | (go_at_call 27; have _h := hB6; refine ((HTE.out _ (hT.trans (hB6.mono hTs))).1).mono ?_; rintro e x7 ⟨rfl, hb7⟩; have hB7 : Below u22.heap.size u22 x7 := hB6.trans (hb7.mono hB6.size))
        | (go_at_call 13; have _h := hB5; refine ((HSA.out _ (hT.trans (hB5.mono hTs))).2).mono ?_; rintro e x6 ⟨rfl, hb6⟩; have hB6 : Below u22.heap.size u22 x6 := hB5.trans (hb6.mono hB5.size))
        | (go_at_call 26; have _h := hB4; refine ((HSA.out _ (hT.trans (hB4.mono hTs))).1).mono ?_; rintro e x5 ⟨rfl, hb5⟩; have hB5 : Below u22.heap.size u22 x5 := hB4.trans (hb5.mono hB4.size))
        | (go_at_call 25; have _h := hB3; refine ((HCM.out _ (hT.trans (hB3.mono hTs))).2).mono ?_; rintro e x4 ⟨rfl, hb4⟩; have hB4 : Below u22.heap.size u22 x4 := hB3.trans (hb4.mono hB3.size))
        | (go_at_call 24; have _h := hB2; refine ((HCM.out _ (hT.trans (hB2.mono hTs))).1).mono ?_; rintro e x3 ⟨rfl, hb3⟩; have hB3 : Below u22.heap.size u22 x3 := hB2.trans (hb3.mono hB2.size))
        | (go_at_call 23; have _h := hB1; refine ((HRI.out _ (hT.trans (hB1.mono hTs))).2).mono ?_; rintro e x2 ⟨rfl, hb2⟩; have hB2 : Below u22.heap.size u22 x2 := hB1.trans (hb2.mono hB1.size))
        | (go_at_call 22; refine ((HRI.out _ (hT.trans (hB00.mono hTs))).1).mono ?_; rintro e x1 ⟨rfl, hb1⟩; have hB1 : Below u22.heap.size u22 x1 := ⟨hb1.os, hb1.tape, hb1.output, hb1.size, hb1.block⟩))
    clear E0 hB00 hTs
    replace hT := hT.trans (hB8.mono hT.size)
    replace ka := ka.below hB8 ka.lt
    replace kb := kb.below hB8 kb.lt
    have e0 : ∀ W' : World, Below x8.heap.size x8 W' → W'.cell? ⟨w.heap.size, 0, none⟩ = some (.int .i64 s1) ∧ W'.cell? ⟨w.heap.size, 1, none⟩ = some (.slice A1 n1 c1) ∧ Below x8.heap.size x8 W' := fun W' hW =>
      ⟨(ka.below hW ka.lt).cell 0, (ka.below hW ka.lt).cell 1, hW⟩
    have E0 := Lib.hid e0; clear e0
    have hB00 : Below x8.heap.size x8 x8.drew := (Below.refl _ _).drew
    have hTs := hT.size
    go_wp2_with fail
    go_region_held3 (fun W' => W'.cell? ⟨w.heap.size, 0, none⟩ = some (.int .i64 s1) ∧ W'.cell? ⟨w.heap.size, 1, none⟩ = some (.slice A1 n1 c1) ∧ Below x8.heap.size x8 W')
      (first | exact E0.out _ (by assumption) | exact E0.out _ ⟨rfl, rfl, rfl, Nat.le_refl _, fun _ _ => rfl⟩)
      (first
        | (go_at_call 13; have _h := hB5; refine (same_own (hr3.below hb5) hr4).mono ?_; rintro e x6 ⟨rfl, hb6⟩; have hB6 : Below x8.heap.size x8 x6 := hB5.trans (hb6.mono hB5.size))
        | (go_at_call 32; have _h := hB4; refine ((HOF.out _ (hT.trans (hB4.mono hTs))).2).mono ?_; rintro e x5 ⟨r4, rfl, hr4, hb5⟩; have hB5 : Below x8.heap.size x8 x5 := hB4.trans (hb5.mono hB4.size))
        | (go_at_call 31; have _h := hB3; refine ((HOF.out _ (hT.trans (hB3.mono hTs))).1).mono ?_; rintro e x4 ⟨r3, rfl, hr3, hb4⟩; have hB4 : Below x8.heap.size x8 x4 := hB3.trans (hb4.mono hB3.size))
        | (go_at_call 13; have _h := hB2; refine (same_own (hr1.below hb2) hr2).mono ?_; rintro e x3 ⟨rfl, hb3⟩; have hB3 : Below x8.heap.size x8 x3 := hB2.trans (hb3.mono hB2.size))
        | (go_at_call 30; have _h := hB1; refine ((HNE.out _ (hT.trans (hB1.mono hTs))).2).mono ?_; rintro e x2 ⟨r2, rfl, hr2, hb2⟩; have hB2 : Below x8.heap.size x8 x2 := hB1.trans (hb2.mono hB1.size))
        | (go_at_call 29; refine ((HNE.out _ (hT.trans (hB00.mono hTs))).1).mono ?_; rintro e x1 ⟨r1, rfl, hr1, hb1⟩; have hB1 : Below x8.heap.size x8 x1 := ⟨hb1.os, hb1.tape, hb1.output, hb1.size, hb1.block⟩))
    clear E0 hB00 hTs
    replace hT := hT.trans (hB6.mono hT.size)
    replace ka := ka.below hB6 ka.lt
    replace kb := kb.below hB6 kb.lt
    go_wp2_with fail
    go_ret
    exact ⟨rfl, hT⟩
  (with_reducible refine ((H1.out.later hT).few 16 true (by simp; omega)).mono ?_)
  rintro e u23 ⟨rfl, hb9⟩
  replace hT := hT.trans (hb9.mono hT.size)
  replace ka := ka.below hb9 ka.lt
  replace kb := kb.below hb9 kb.lt
  have zb0 := kb.cell 0
  have zb1 := kb.cell 1
  go_wp2_with fail
  clear zb0 zb1
  by_cases hc2 : n2 ≤ 16
  rotate_left
  · (with_reducible refine ((H2.out.later hT).few 16 false (by simp; omega)).mono ?_)
    rintro e u24 ⟨rfl, hb9⟩
    replace hT := hT.trans (hb9.mono hT.size)
    replace ka := ka.below hb9 ka.lt
    replace kb := kb.below hb9 kb.lt
    have e0 : ∀ W' : World, Below u24.heap.size u24 W' → W'.cell? ⟨w.heap.size, 0, none⟩ = some (.int .i64 s1) ∧ W'.cell? ⟨w.heap.size, 1, none⟩ = some (.slice A1 n1 c1) ∧ W'.cell? ⟨w.heap.size + 1, 0, none⟩ = some (.int .i64 s2) ∧ W'.cell? ⟨w.heap.size + 1, 1, none⟩ = some (.slice A2 n2 c2) ∧ Below u24.heap.size u24 W' := fun W' hW =>
      ⟨(ka.below hW ka.lt).cell 0, (ka.below hW ka.lt).cell 1, (kb.below hW kb.lt).cell 0, (kb.below hW kb.lt).cell 1, hW⟩
    have E0 := Lib.hid e0; clear e0
    have hB00 : Below u24.heap.size u24 u24.drew := (Below.refl _ _).drew
    have hTs := hT.size
    go_wp2_with fail
    go_region_held3 (fun W' => W'.cell? ⟨w.heap.size, 0, none⟩ = some (.int .i64 s1) ∧ W'.cell? ⟨w.heap.size, 1, none⟩ = some (.slice A1 n1 c1) ∧ W'.cell? ⟨w.heap.size + 1, 0, none⟩ = some (.int .i64 s2) ∧ W'.cell? ⟨w.heap.size + 1, 1, none⟩ = some (.slice A2 n2 c2) ∧ Below u24.heap.size u24 W')
      (first | exact E0.out _ (by assumption) | exact E0.out _ ⟨rfl, rfl, rfl, Nat.le_refl _, fun _ _ => rfl⟩)
      (first
        | (go_at_call 28; have _h := hB7; refine ((HTE.out _ (hT.trans (hB7.mono hTs))).2).mono ?_; rintro e x8 ⟨rfl, hb8⟩; have hB8 : Below u24.heap.size u24 x8 := hB7.trans (hb8.mono hB7.size))
        | (go_at_call 27; have _h := hB6; refine ((HTE.out _ (hT.trans (hB6.mono hTs))).1).mono ?_; rintro e x7 ⟨rfl, hb7⟩; have hB7 : Below u24.heap.size u24 x7 := hB6.trans (hb7.mono hB6.size))
        | (go_at_call 13; have _h := hB5; refine ((HSA.out _ (hT.trans (hB5.mono hTs))).2).mono ?_; rintro e x6 ⟨rfl, hb6⟩; have hB6 : Below u24.heap.size u24 x6 := hB5.trans (hb6.mono hB5.size))
        | (go_at_call 26; have _h := hB4; refine ((HSA.out _ (hT.trans (hB4.mono hTs))).1).mono ?_; rintro e x5 ⟨rfl, hb5⟩; have hB5 : Below u24.heap.size u24 x5 := hB4.trans (hb5.mono hB4.size))
        | (go_at_call 25; have _h := hB3; refine ((HCM.out _ (hT.trans (hB3.mono hTs))).2).mono ?_; rintro e x4 ⟨rfl, hb4⟩; have hB4 : Below u24.heap.size u24 x4 := hB3.trans (hb4.mono hB3.size))
        | (go_at_call 24; have _h := hB2; refine ((HCM.out _ (hT.trans (hB2.mono hTs))).1).mono ?_; rintro e x3 ⟨rfl, hb3⟩; have hB3 : Below u24.heap.size u24 x3 := hB2.trans (hb3.mono hB2.size))
        | (go_at_call 23; have _h := hB1; refine ((HRI.out _ (hT.trans (hB1.mono hTs))).2).mono ?_; rintro e x2 ⟨rfl, hb2⟩; have hB2 : Below u24.heap.size u24 x2 := hB1.trans (hb2.mono hB1.size))
        | (go_at_call 22; refine ((HRI.out _ (hT.trans (hB00.mono hTs))).1).mono ?_; rintro e x1 ⟨rfl, hb1⟩; have hB1 : Below u24.heap.size u24 x1 := ⟨hb1.os, hb1.tape, hb1.output, hb1.size, hb1.block⟩))
    clear E0 hB00 hTs
    replace hT := hT.trans (hB8.mono hT.size)
    replace ka := ka.below hB8 ka.lt
    replace kb := kb.below hB8 kb.lt
    have e0 : ∀ W' : World, Below x8.heap.size x8 W' → W'.cell? ⟨w.heap.size, 0, none⟩ = some (.int .i64 s1) ∧ W'.cell? ⟨w.heap.size, 1, none⟩ = some (.slice A1 n1 c1) ∧ Below x8.heap.size x8 W' := fun W' hW =>
      ⟨(ka.below hW ka.lt).cell 0, (ka.below hW ka.lt).cell 1, hW⟩
    have E0 := Lib.hid e0; clear e0
    have hB00 : Below x8.heap.size x8 x8.drew := (Below.refl _ _).drew
    have hTs := hT.size
    go_wp2_with fail
    go_region_held3 (fun W' => W'.cell? ⟨w.heap.size, 0, none⟩ = some (.int .i64 s1) ∧ W'.cell? ⟨w.heap.size, 1, none⟩ = some (.slice A1 n1 c1) ∧ Below x8.heap.size x8 W')
      (first | exact E0.out _ (by assumption) | exact E0.out _ ⟨rfl, rfl, rfl, Nat.le_refl _, fun _ _ => rfl⟩)
      (first
        | (go_at_call 13; have _h := hB5; refine (same_own (hr3.below hb5) hr4).mono ?_; rintro e x6 ⟨rfl, hb6⟩; have hB6 : Below x8.heap.size x8 x6 := hB5.trans (hb6.mono hB5.size))
        | (go_at_call 32; have _h := hB4; refine ((HOF.out _ (hT.trans (hB4.mono hTs))).2).mono ?_; rintro e x5 ⟨r4, rfl, hr4, hb5⟩; have hB5 : Below x8.heap.size x8 x5 := hB4.trans (hb5.mono hB4.size))
        | (go_at_call 31; have _h := hB3; refine ((HOF.out _ (hT.trans (hB3.mono hTs))).1).mono ?_; rintro e x4 ⟨r3, rfl, hr3, hb4⟩; have hB4 : Below x8.heap.size x8 x4 := hB3.trans (hb4.mono hB3.size))
        | (go_at_call 13; have _h := hB2; refine (same_own (hr1.below hb2) hr2).mono ?_; rintro e x3 ⟨rfl, hb3⟩; have hB3 : Below x8.heap.size x8 x3 := hB2.trans (hb3.mono hB2.size))
        | (go_at_call 30; have _h := hB1; refine ((HNE.out _ (hT.trans (hB1.mono hTs))).2).mono ?_; rintro e x2 ⟨r2, rfl, hr2, hb2⟩; have hB2 : Below x8.heap.size x8 x2 := hB1.trans (hb2.mono hB1.size))
        | (go_at_call 29; refine ((HNE.out _ (hT.trans (hB00.mono hTs))).1).mono ?_; rintro e x1 ⟨r1, rfl, hr1, hb1⟩; have hB1 : Below x8.heap.size x8 x1 := ⟨hb1.os, hb1.tape, hb1.output, hb1.size, hb1.block⟩))
    clear E0 hB00 hTs
    replace hT := hT.trans (hB6.mono hT.size)
    replace ka := ka.below hB6 ka.lt
    replace kb := kb.below hB6 kb.lt
    go_wp2_with fail
    go_ret
    exact ⟨rfl, hT⟩
  (with_reducible refine ((H2.out.later hT).few 16 true (by simp; omega)).mono ?_)
  rintro e u25 ⟨rfl, hb9⟩
  replace hT := hT.trans (hb9.mono hT.size)
  replace ka := ka.below hb9 ka.lt
  replace kb := kb.below hb9 kb.lt
  have za0 := ka.cell 0
  have za1 := ka.cell 1
  have zb0 := kb.cell 0
  have zb1 := kb.cell 1
  go_wp2_with fail
  clear za0 za1 zb0 zb1
  (with_reducible refine ((HGC.out _ hT).1).mono ?_)
  rintro e u26 ⟨rp, rfl, hrp, hb9⟩
  replace hT := hT.trans (hb9.mono hT.size)
  replace ka := ka.below hb9 ka.lt
  replace kb := kb.below hb9 kb.lt
  obtain ⟨sp, Ap, np, cp, rfl⟩ := hrp.form
  obtain ⟨Wp, hW, hbx, kp⟩ := box1 hrp
  have kaz := ka.below hbx ka.lt
  have za0 := kaz.cell 0
  have za1 := kaz.cell 1
  have kbz := kb.below hbx kb.lt
  have zb0 := kbz.cell 0
  have zb1 := kbz.cell 1
  rw [hW] at za0 za1 zb0 zb1
  go_wp2_with fail
  clear za0 za1 zb0 zb1
  clear kaz
  clear kbz
  rw [← hW]
  clear hW
  replace hT := hT.trans (hbx.mono hT.size)
  replace ka := ka.below hbx ka.lt
  replace kb := kb.below hbx kb.lt
  (with_reducible refine ((HGC.out _ hT).2).mono ?_)
  rintro e u27 ⟨rq, rfl, hrq, hb9⟩
  replace hT := hT.trans (hb9.mono hT.size)
  replace ka := ka.below hb9 ka.lt
  replace kb := kb.below hb9 kb.lt
  replace kp := kp.below hb9
  obtain ⟨sq, Aq, nq, cq, rfl⟩ := hrq.form
  obtain ⟨Wq, hW, hbx, kq⟩ := box1 hrq
  have kpz := kp.below hbx
  have zp0 := kpz.c0
  have zp1 := kpz.c1
  have zq0 := kq.c0
  have zq1 := kq.c1
  rw [hW] at zp0 zp1 zq0 zq1
  go_wp2_with fail
  clear zp0 zp1 zq0 zq1
  clear kpz
  rw [← hW]
  clear hW
  replace hT := hT.trans (hbx.mono hT.size)
  replace ka := ka.below hbx ka.lt
  replace kb := kb.below hbx kb.lt
  replace kp := kp.below hbx
  (with_reducible refine (same_bv kp.bv kq.bv (Nat.le_refl _) (Nat.le_refl _)).mono ?_)
  rintro e u28 ⟨rfl, hb9⟩
  replace hT := hT.trans (hb9.mono hT.size)
  replace ka := ka.below hb9 ka.lt
  replace kb := kb.below hb9 kb.lt
  replace kp := kp.below hb9
  replace kq := kq.below hb9
  clear kp kq
  have e0 : ∀ W' : World, Below u28.heap.size u28 W' → W'.cell? ⟨w.heap.size, 0, none⟩ = some (.int .i64 s1) ∧ W'.cell? ⟨w.heap.size, 1, none⟩ = some (.slice A1 n1 c1) ∧ W'.cell? ⟨w.heap.size + 1, 0, none⟩ = some (.int .i64 s2) ∧ W'.cell? ⟨w.heap.size + 1, 1, none⟩ = some (.slice A2 n2 c2) ∧ Below u28.heap.size u28 W' := fun W' hW =>
    ⟨(ka.below hW ka.lt).cell 0, (ka.below hW ka.lt).cell 1, (kb.below hW kb.lt).cell 0, (kb.below hW kb.lt).cell 1, hW⟩
  have E0 := Lib.hid e0; clear e0
  have hB00 : Below u28.heap.size u28 u28.drew := (Below.refl _ _).drew
  have hTs := hT.size
  go_wp2_with fail
  go_region_held3 (fun W' => W'.cell? ⟨w.heap.size, 0, none⟩ = some (.int .i64 s1) ∧ W'.cell? ⟨w.heap.size, 1, none⟩ = some (.slice A1 n1 c1) ∧ W'.cell? ⟨w.heap.size + 1, 0, none⟩ = some (.int .i64 s2) ∧ W'.cell? ⟨w.heap.size + 1, 1, none⟩ = some (.slice A2 n2 c2) ∧ Below u28.heap.size u28 W')
    (first | exact E0.out _ (by assumption) | exact E0.out _ ⟨rfl, rfl, rfl, Nat.le_refl _, fun _ _ => rfl⟩)
    (first
      | (go_at_call 28; have _h := hB7; refine ((HTE.out _ (hT.trans (hB7.mono hTs))).2).mono ?_; rintro e x8 ⟨rfl, hb8⟩; have hB8 : Below u28.heap.size u28 x8 := hB7.trans (hb8.mono hB7.size))
      | (go_at_call 27; have _h := hB6; refine ((HTE.out _ (hT.trans (hB6.mono hTs))).1).mono ?_; rintro e x7 ⟨rfl, hb7⟩; have hB7 : Below u28.heap.size u28 x7 := hB6.trans (hb7.mono hB6.size))
      | (go_at_call 13; have _h := hB5; refine ((HSA.out _ (hT.trans (hB5.mono hTs))).2).mono ?_; rintro e x6 ⟨rfl, hb6⟩; have hB6 : Below u28.heap.size u28 x6 := hB5.trans (hb6.mono hB5.size))
      | (go_at_call 26; have _h := hB4; refine ((HSA.out _ (hT.trans (hB4.mono hTs))).1).mono ?_; rintro e x5 ⟨rfl, hb5⟩; have hB5 : Below u28.heap.size u28 x5 := hB4.trans (hb5.mono hB4.size))
      | (go_at_call 25; have _h := hB3; refine ((HCM.out _ (hT.trans (hB3.mono hTs))).2).mono ?_; rintro e x4 ⟨rfl, hb4⟩; have hB4 : Below u28.heap.size u28 x4 := hB3.trans (hb4.mono hB3.size))
      | (go_at_call 24; have _h := hB2; refine ((HCM.out _ (hT.trans (hB2.mono hTs))).1).mono ?_; rintro e x3 ⟨rfl, hb3⟩; have hB3 : Below u28.heap.size u28 x3 := hB2.trans (hb3.mono hB2.size))
      | (go_at_call 23; have _h := hB1; refine ((HRI.out _ (hT.trans (hB1.mono hTs))).2).mono ?_; rintro e x2 ⟨rfl, hb2⟩; have hB2 : Below u28.heap.size u28 x2 := hB1.trans (hb2.mono hB1.size))
      | (go_at_call 22; refine ((HRI.out _ (hT.trans (hB00.mono hTs))).1).mono ?_; rintro e x1 ⟨rfl, hb1⟩; have hB1 : Below u28.heap.size u28 x1 := ⟨hb1.os, hb1.tape, hb1.output, hb1.size, hb1.block⟩))
  clear E0 hB00 hTs
  replace hT := hT.trans (hB8.mono hT.size)
  replace ka := ka.below hB8 ka.lt
  replace kb := kb.below hB8 kb.lt
  have e0 : ∀ W' : World, Below x8.heap.size x8 W' → W'.cell? ⟨w.heap.size, 0, none⟩ = some (.int .i64 s1) ∧ W'.cell? ⟨w.heap.size, 1, none⟩ = some (.slice A1 n1 c1) ∧ Below x8.heap.size x8 W' := fun W' hW =>
    ⟨(ka.below hW ka.lt).cell 0, (ka.below hW ka.lt).cell 1, hW⟩
  have E0 := Lib.hid e0; clear e0
  have hB00 : Below x8.heap.size x8 x8.drew := (Below.refl _ _).drew
  have hTs := hT.size
  go_wp2_with fail
  go_region_held3 (fun W' => W'.cell? ⟨w.heap.size, 0, none⟩ = some (.int .i64 s1) ∧ W'.cell? ⟨w.heap.size, 1, none⟩ = some (.slice A1 n1 c1) ∧ Below x8.heap.size x8 W')
    (first | exact E0.out _ (by assumption) | exact E0.out _ ⟨rfl, rfl, rfl, Nat.le_refl _, fun _ _ => rfl⟩)
    (first
      | (go_at_call 13; have _h := hB5; refine (same_own (hr3.below hb5) hr4).mono ?_; rintro e x6 ⟨rfl, hb6⟩; have hB6 : Below x8.heap.size x8 x6 := hB5.trans (hb6.mono hB5.size))
      | (go_at_call 32; have _h := hB4; refine ((HOF.out _ (hT.trans (hB4.mono hTs))).2).mono ?_; rintro e x5 ⟨r4, rfl, hr4, hb5⟩; have hB5 : Below x8.heap.size x8 x5 := hB4.trans (hb5.mono hB4.size))
      | (go_at_call 31; have _h := hB3; refine ((HOF.out _ (hT.trans (hB3.mono hTs))).1).mono ?_; rintro e x4 ⟨r3, rfl, hr3, hb4⟩; have hB4 : Below x8.heap.size x8 x4 := hB3.trans (hb4.mono hB3.size))
      | (go_at_call 13; have _h := hB2; refine (same_own (hr1.below hb2) hr2).mono ?_; rintro e x3 ⟨rfl, hb3⟩; have hB3 : Below x8.heap.size x8 x3 := hB2.trans (hb3.mono hB2.size))
      | (go_at_call 30; have _h := hB1; refine ((HNE.out _ (hT.trans (hB1.mono hTs))).2).mono ?_; rintro e x2 ⟨r2, rfl, hr2, hb2⟩; have hB2 : Below x8.heap.size x8 x2 := hB1.trans (hb2.mono hB1.size))
      | (go_at_call 29; refine ((HNE.out _ (hT.trans (hB00.mono hTs))).1).mono ?_; rintro e x1 ⟨r1, rfl, hr1, hb1⟩; have hB1 : Below x8.heap.size x8 x1 := ⟨hb1.os, hb1.tape, hb1.output, hb1.size, hb1.block⟩))
  clear E0 hB00 hTs
  replace hT := hT.trans (hB6.mono hT.size)
  replace ka := ka.below hB6 ka.lt
  replace kb := kb.below hB6 kb.lt
  go_wp2_with fail
  go_ret
  exact ⟨rfl, hT⟩
end Go.Proofs.YtkjpfnbdlbnbkaaGreatDoor
