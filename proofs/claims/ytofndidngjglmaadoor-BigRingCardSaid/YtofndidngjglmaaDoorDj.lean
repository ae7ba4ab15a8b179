/- What the law on ints needs in plain. -/
import Derived.Test.YtofndidngjglmaaDoorDi
import Derived.Test.YtofndidngjglmaaDoorV
namespace Go.Proofs.YtofndidngjglmaaDoor
open Go.RowKit

theorem right_yes (z : Int) (v : Value) (w : World) (h : BV w w.heap.size v z) (hz : ab z < pw 60) :
    Calls Tryd.prog 11 #[v] w fun e w' => e = .returned (.bool true) ∧ Below w.heap.size w w' := by
  obtain ⟨A, c, rfl, hlc, hcm, hI⟩ := h
  have := len60 hz
  exact right_any (sgn z) (D (ab z)) A c w hI (by omega) true (by simp [rightP_of hz])

theorem itoa_inj {a b : Int} (h : Lib.itoa a = Lib.itoa b) : a = b := by
  have h1 := cut_itoa a
  have h2 := cut_itoa b
  rw [h] at h1
  have h3 : decide (a < 0) = decide (b < 0) := h1.1.symm.trans h2.1
  have h4 : Lib.decDigits (ab a).toNat = Lib.decDigits (ab b).toNat := h1.2.symm.trans h2.2
  have h5 := congrArg dv h4
  rw [dv_dd, dv_dd] at h5
  have h6 : a < 0 ↔ b < 0 := by simpa using h3
  unfold ab at h5
  omega
theorem byt_inj {a b : List UInt8} (h : byt a = byt b) : a = b := by rw [← bts_byt a, ← bts_byt b, h]

theorem toList_ne {S1 S2 : ByteArray} (h : S1 ≠ S2) : (S1.toList == S2.toList) = false := by
  rw [beq_eq_false_iff_ne]
  intro e
  rw [ByteArray.toList_eq, ByteArray.toList_eq] at e
  exact h (ByteArray.ext (Array.toList_inj.1 e))
theorem isI.lo {z : Int} (h : isI z) : -9223372036854775808 ≤ z := h.1
theorem isI.hi {z : Int} (h : isI z) : z ≤ 9223372036854775807 := h.2
theorem isI.lt {z : Int} (h : isI z) : ab z < pw 60 := lt60 (by unfold isI at h; unfold ab; omega)
theorem isI.add {a b : Int} (ha : isI a) (hb : isI b) : ab (a + b) < pw 60 := lt60 (by unfold isI at *; unfold ab; omega)
theorem isI.sub {a b : Int} (ha : isI a) (hb : isI b) : ab (a - b) < pw 60 := lt60 (by unfold isI at *; unfold ab; omega)
theorem pw7 : pw 7 = 1393796574908163946345982392040522594123776 := by decide
theorem isI.mul {a b : Int} (ha : isI a) (hb : isI b) : ab (a * b) < pw 60 := by
  have h7 := pw_le (show 7 ≤ 60 by omega)
  rw [pw7] at h7
  rw [ab_mul]
  have h1 : ab a ≤ 9223372036854775808 := by unfold isI at ha; unfold ab; omega
  have h2 : ab b ≤ 9223372036854775808 := by unfold isI at hb; unfold ab; omega
  have h3 : ab a * ab b ≤ 9223372036854775808 * 9223372036854775808 := Int.mul_le_mul h1 h2 (ab_nonneg _) (by omega)
  omega
theorem isI.neg {a : Int} (ha : isI a) : ab (-a) < pw 60 := by rw [ab_neg]; exact ha.lt
theorem half_mul {a b : Int} (ha : -1073741824 < a ∧ a < 1073741824) (hb : -1073741824 < b ∧ b < 1073741824) : -1152921504606846976 ≤ a * b ∧ a * b ≤ 1152921504606846976 := by
  have h1 : ab a ≤ 1073741824 := by unfold ab; omega
  have h2 : ab b ≤ 1073741824 := by unfold ab; omega
  have h3 : ab a * ab b ≤ 1073741824 * 1073741824 := Int.mul_le_mul h1 h2 (ab_nonneg _) (by omega)
  rw [← ab_mul] at h3
  unfold ab at h3
  omega
theorem addP {a b : Int} (ha : isI a) (hb : isI b) : fite (a + b) = 0 ∧ fitz (a + b) = a + b := ⟨if_pos (ha.add hb), if_pos (ha.add hb)⟩
theorem subP {a b : Int} (ha : isI a) (hb : isI b) : fite (a - b) = 0 ∧ fitz (a - b) = a - b := ⟨if_pos (ha.sub hb), if_pos (ha.sub hb)⟩
theorem mulP {a b : Int} (ha : isI a) (hb : isI b) : fite (a * b) = 0 ∧ fitz (a * b) = a * b := ⟨if_pos (ha.mul hb), if_pos (ha.mul hb)⟩

end Go.Proofs.YtofndidngjglmaaDoor
