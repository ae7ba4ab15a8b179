/- Walks of the reference's writing functions. -/
import Derived.Test.YtgocnjiabfmdpaaRW
namespace Go.Proofs.Ytgocnjiabfmdpaa.Wire
set_option maxRecDepth 8000
open Go.RowKit

theorem conv_one {w : World} {z : Int} (_h0 : 0 ≤ z) (_h1 : z < 256) :
    (convert 73 9 (.slice (some ⟨w.heap.size, 0, none⟩) 1 1)).run Try.prog (w.alloc (.cells #[.int .u8 z] 5)) = .ok (.string (ba [UInt8.ofNat z.toNat])) (w.alloc (.cells #[.int .u8 z] 5)) := by
  have := run_convert_bytes_arg (P := Try.prog) (w.alloc (.cells #[.int .u8 z] 5)) 73 5 Try.underlying73 Try.underlying5 w.heap.size 0 1 1 [z] rfl (fun i hi => by
      obtain rfl : i = 0 := by omega
      simp) 9 Try.underlying9
  rw [this]
  rfl

theorem tmod10 {n : Int} (h : n ≤ 0) : n.tmod 10 = -((-n) % 10) := by
  obtain ⟨m, rfl⟩ : ∃ m, n = -m := ⟨-n, by omega⟩
  rw [Int.neg_tmod, Int.tmod_eq_emod_of_nonneg (by omega)]; omega
theorem tdiv10 {n : Int} (h : n ≤ 0) : n.tdiv 10 = -((-n) / 10) := by
  obtain ⟨m, rfl⟩ : ∃ m, n = -m := ⟨-n, by omega⟩
  rw [Int.neg_tdiv, Int.tdiv_eq_ediv_of_nonneg (by omega)]; omega
theorem wz {n : Int} (h : n ≤ 0) : wrap64 (48 - n.tmod 10) % 256 = 48 + (-n) % 10 := by
  rw [tmod10 h, IntWalk.wrap64_in _ (by omega)]; omega

theorem ba_append (x y : List UInt8) : ba x ++ ba y = ba (x ++ y) := ByteArray.mk_append_mk x y
theorem ba_size (x : List UInt8) : (ba x).size = x.length := List.size_toArray

set_option maxHeartbeats 400000 in
theorem rdigits_any (k : Nat) : ∀ (n : Int) (w : World), -n ≤ k → n ≤ 0 → -9223372036854775808 ≤ n →
    Calls Try.prog 107 #[.int .i64 n] w fun e w' => e = .returned (.string (ba (dg (-n).toNat))) ∧ Below w.heap.size w w' := by
  induction k using Nat.strongRecOn with
  | _ k ih =>
  intro n w hk h0 h1
  by_cases hn : -10 < n
  · have hd : ba (dg (-n).toNat) = ba [UInt8.ofNat (48 + -n % 10).toNat] := by rw [dg_lt (by omega)]; congr 3; omega
    have HD := Lib.hid hd; clear hd
    go_enter Try.func107, Try.ntmps107
    go_wp2_with fail
    rw [wz h0]
    rw [conv_one (w := w) (z := 48 + (-n) % 10) (by omega) (by omega)]
    go_wp2_with fail
    go_ret
    exact ⟨by rw [HD.out]; rfl, (Below.refl _ _).alloc (Nat.le_refl _) _⟩
  · have hd : dg (-n).toNat = dg (-(n.tdiv 10)).toNat ++ [UInt8.ofNat (48 + -n % 10).toNat] := by rw [dg_ge (by omega), tdiv10 h0]; congr 3 <;> omega
    have hb : n.tdiv 10 ≤ 0 ∧ - n.tdiv 10 < -n ∧ -9223372036854775808 ≤ n.tdiv 10 := by rw [tdiv10 h0]; omega
    have HD := Lib.hid hd; clear hd
    obtain ⟨hb1, hb2, hb3⟩ := hb
    go_enter Try.func107, Try.ntmps107
    go_wp2_with fail
    rw [wz h0]
    rw [conv_one (w := w) (z := 48 + (-n) % 10) (by omega) (by omega)]
    go_wp2_with fail
    refine (ih (-(n.tdiv 10)).toNat (by omega) _ _ (by omega) hb1 hb3).mono ?_
    rintro e w1 ⟨rfl, hbw⟩
    have hs1 : (ba (dg (-n.tdiv 10).toNat)).size ≤ 20 := by rw [ba_size]; exact dg_len20 (by omega)
    have hs2 : (ba [UInt8.ofNat (48 + -n % 10).toNat]).size ≤ 1 := by rw [ba_size]; simp
    go_wp2_with fail
    go_ret
    exact ⟨by rw [HD.out, ← ba_append]; rfl, ((Below.refl _ _).alloc (Nat.le_refl _) _).trans (hbw.mono (by simp))⟩

/-- The digits of an int that is not positive. -/
theorem rdigits_call {n : Int} {w : World} (h0 : n ≤ 0) (h1 : -9223372036854775808 ≤ n) :
    Calls Try.prog 107 #[.int .i64 n] w fun e w' => e = .returned (.string (ba (dg (-n).toNat))) ∧ Below w.heap.size w w' := rdigits_any (-n).toNat n w (by omega) h0 h1

set_option maxHeartbeats 400000 in
theorem rInt_any (n : Int) (w : World) (hn : isI64 n) :
    Calls Try.prog 108 #[.int .i64 n] w fun e w' => e = .returned (.string (ba (encInt n))) ∧ Below w.heap.size w w' := by
  unfold isI64 at hn
  by_cases h0 : n < 0
  · have he : ba (encInt n) = ba [45] ++ ba (dg (-n).toNat) ++ ba [59] := by
      unfold encInt; rw [if_pos h0, ba_append, ba_append, show n.natAbs = (-n).toNat from by omega]; rfl
    have HE := Lib.hid he; clear he
    have hs1 : (ba (dg (-n).toNat)).size ≤ 20 := by rw [ba_size]; exact dg_len20 (by omega)
    go_enter Try.func108, Try.ntmps108
    go_wp2_with fail
    refine (rdigits_call (by omega) (by omega)).mono ?_
    rintro e w1 ⟨rfl, hb1⟩
    go_wp2_with fail
    go_ret
    exact ⟨by rw [HE.out]; rfl, hb1⟩
  · have he : ba (encInt n) = ba (dg n.toNat) ++ ba [59] := by
      unfold encInt; rw [if_neg h0, ba_append]
    have HE := Lib.hid he; clear he
    have hs1 : (ba (dg n.toNat)).size ≤ 20 := by rw [ba_size]; exact dg_len20 (by omega)
    go_enter Try.func108, Try.ntmps108
    go_wp2_with fail
    refine (rdigits_call (by omega) (by omega)).mono ?_
    rintro e w1 ⟨rfl, hb1⟩
    rw [show (- -n) = n from by omega]
    go_wp2_with fail
    go_ret
    exact ⟨by rw [HE.out]; rfl, hb1⟩

set_option maxHeartbeats 400000 in
theorem rNum_neg (n : Int) (w : World) (h0 : n < 0) :
    Calls Try.prog 97 #[.int .i64 n] w fun e w' => e = .returned (.string (ba [])) ∧ Below w.heap.size w w' := by
  go_enter Try.func97, Try.ntmps97
  go_wp2_with fail
  go_ret
  exact ⟨rfl, Below.refl _ _⟩
set_option maxHeartbeats 400000 in
theorem rNum_pos (n : Int) (w : World) (hn : isI64 n) (h0 : 0 ≤ n) :
    Calls Try.prog 97 #[.int .i64 n] w fun e w' => e = .returned (.string (ba (encInt n))) ∧ Below w.heap.size w w' := by
  have hn' := hn
  unfold isI64 at hn
  go_enter Try.func97, Try.ntmps97
  go_wp2_with fail
  refine (rInt_any n _ hn').mono ?_
  rintro e w1 ⟨rfl, hb1⟩
  go_wp2_with fail
  go_ret
  exact ⟨rfl, hb1⟩

set_option maxHeartbeats 400000 in
theorem rText_any (s : ByteArray) (w : World) (hn : s.size ≤ 1000000) :
    Calls Try.prog 96 #[.string s] w fun e w' => e = .returned (.string (ba (encStr s))) ∧ Below w.heap.size w w' := by
  have he : ba (encStr s) = ba (dg s.size) ++ ba [58] ++ s ++ ba [44] := by
    conv => rhs; rw [← ba_bts s]
    unfold encStr encText
    rw [ba_append, ba_append, ba_append, bts_len, ba_size, bts_len]
  have HE := Lib.hid he; clear he
  have hs1 : (ba (dg s.size)).size ≤ 20 := by rw [ba_size]; exact dg_len20 (by omega)
  go_enter Try.func96, Try.ntmps96
  go_wp2_with fail
  refine (rdigits_call (by omega) (by omega)).mono ?_
  rintro e w1 ⟨rfl, hb1⟩
  rw [show (- -(s.size : Int)).toNat = s.size from by omega]
  go_wp2_with fail
  go_ret
  exact ⟨by rw [HE.out]; rfl, hb1⟩

end Go.Proofs.Ytgocnjiabfmdpaa.Wire
