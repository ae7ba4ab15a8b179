/- Walks of the reference's writing functions. -/
import Derived.Test.YtamjfnpgjcdepaaWc
namespace Go.Proofs.Ytamjfnpgjcdepaa
open Go.RowKit

theorem conv_one {w : World} {z : Int} (_h0 : 0 ≤ z) (_h1 : z < 256) :
    (convert 51 9 (.slice (some ⟨w.heap.size, 0, none⟩) 1 1)).run Try.prog (w.alloc (.cells #[.int .u8 z] 5)) = .ok (.string (ba [UInt8.ofNat z.toNat])) (w.alloc (.cells #[.int .u8 z] 5)) := by
  have := run_convert_bytes_arg (P := Try.prog) (w.alloc (.cells #[.int .u8 z] 5)) 51 5 Try.underlying51 Try.underlying5 w.heap.size 0 1 1 [z] rfl (fun i hi => by
      obtain rfl : i = 0 := by omega
      simp) 9 Try.underlying9
  rw [this]
  rfl

theorem tmod10 {n : Int} (h : n ≤ 0) : n.tmod 10 = -((-n) % 10) := by
  obtain ⟨m, rfl⟩ : ∃ m, n = -m := ⟨-n, by omega⟩
  rw [Int.neg_tmod, Int.tmod_eq_emod_of_nonneg (by omega)]; omega
theorem tdiv10 {n : Int} (h : n ≤ 0) : n.tdiv 10 = -((-n) / 10) := by
  obtain ⟨m, rfl⟩ : ∃ m, n = -m := ⟨-n, by omega⟩
  rw [Int.neg_tdiv, Int.tdiv_eq_ediv_of_nonneg (by omega)]; omega
theorem wz {n : Int} (h : n ≤ 0) : wrap64 (48 - n.tmod 10) % 256 = 48 + (-n) % 10 := by
  rw [tmod10 h, IntWalk.wrap64_in _ (by omega)]; omega

theorem ba_append (x y : List UInt8) : ba x ++ ba y = ba (x ++ y) := ByteArray.mk_append_mk x y
theorem ba_size (x : List UInt8) : (ba x).size = x.length := List.size_toArray

set_option maxHeartbeats 400000 in
theorem rdigits_any (k : Nat) : ∀ (n : Int) (w : World), -n ≤ k → n ≤ 0 → -9223372036854775808 ≤ n →
    Calls Try.prog 45 #[.int .i64 n] w fun e w' => e = .returned (.string (ba (dg (-n).toNat))) ∧ Below w.heap.size w w' := by
  induction k using Nat.strongRecOn with
  | _ k ih =>
  intro n w hk h0 h1
  by_cases hn : -10 < n
  · have hd : ba (dg (-n).toNat) = ba [UInt8.ofNat (48 + -n % 10).toNat] := by rw [dg_lt (by omega)]; congr 3; omega
    have HD := Lib.hid hd; clear hd
    go_enter Try.func45, Try.ntmps45
    go_wp2_with fail
    rw [wz h0]
    rw [conv_one (w := w) (z := 48 + (-n) % 10) (by omega) (by omega)]
    go_wp2_with fail
    go_ret
    exact ⟨by rw [HD.out]; rfl, (Below.refl _ _).alloc (Nat.le_refl _) _⟩
  · have hd : dg (-n).toNat = dg (-(n.tdiv 10)).toNat ++ [UInt8.ofNat (48 + -n % 10).toNat] := by rw [dg_ge (by omega), tdiv10 h0]; congr 3 <;> omega
    have hb : n.tdiv 10 ≤ 0 ∧ - n.tdiv 10 < -n ∧ -9223372036854775808 ≤ n.tdiv 10 := by rw [tdiv10 h0]; omega
    have HD := Lib.hid hd; clear hd
    obtain ⟨hb1, hb2, hb3⟩ := hb
    go_enter Try.func45, Try.ntmps45
    go_wp2_with fail
    rw [wz h0]
    rw [conv_one (w := w) (z := 48 + (-n) % 10) (by omega) (by omega)]
    go_wp2_with fail
    refine (ih (-(n.tdiv 10)).toNat (by omega) _ _ (by omega) hb1 hb3).mono ?_
    rintro e w1 ⟨rfl, hbw⟩
    have hs1 : (ba (dg (-n.tdiv 10).toNat)).size ≤ 20 := by rw [ba_size]; exact dg_len20 (by omega)
    have hs2 : (ba [UInt8.ofNat (48 + -n % 10).toNat]).size ≤ 1 := by rw [ba_size]; simp
    go_wp2_with fail
    go_ret
    exact ⟨by rw [HD.out, ← ba_append]; rfl, ((Below.refl _ _).alloc (Nat.le_refl _) _).trans (hbw.mono (by simp))⟩

/-- The digits of an int that is not positive. -/
theorem rdigits_call {n : Int} {w : World} (h0 : n ≤ 0) (h1 : -9223372036854775808 ≤ n) :
    Calls Try.prog 45 #[.int .i64 n] w fun e w' => e = .returned (.string (ba (dg (-n).toNat))) ∧ Below w.heap.size w w' := rdigits_any (-n).toNat n w (by omega) h0 h1

set_option maxHeartbeats 400000 in
theorem rInt_any (n : Int) (w : World) (hn : isI64 n) :
    Calls Try.prog 14 #[.int .i64 n] w fun e w' => e = .returned (.string (ba (encInt n))) ∧ Below w.heap.size w w' := by
  unfold isI64 at hn
  by_cases h0 : n < 0
  · have he : ba (encInt n) = ba [45] ++ ba (dg (-n).toNat) ++ ba [59] := by
      unfold encInt; rw [if_pos h0, ba_append, ba_append, show n.natAbs = (-n).toNat from by omega]; rfl
    have HE := Lib.hid he; clear he
    have hs1 : (ba (dg (-n).toNat)).size ≤ 20 := by rw [ba_size]; exact dg_len20 (by omega)
    go_enter Try.func14, Try.ntmps14
    go_wp2_with fail
    refine (rdigits_call (by omega) (by omega)).mono ?_
    rintro e w1 ⟨rfl, hb1⟩
    go_wp2_with fail
    go_ret
    exact ⟨by rw [HE.out]; rfl, hb1⟩
  · have he : ba (encInt n) = ba (dg n.toNat) ++ ba [59] := by
      unfold encInt; rw [if_neg h0, ba_append]
    have HE := Lib.hid he; clear he
    have hs1 : (ba (dg n.toNat)).size ≤ 20 := by rw [ba_size]; exact dg_len20 (by omega)
    go_enter Try.func14, Try.ntmps14
    go_wp2_with fail
    refine (rdigits_call (by omega) (by omega)).mono ?_
    rintro e w1 ⟨rfl, hb1⟩
    rw [show (- -n) = n from by omega]
    go_wp2_with fail
    go_ret
    exact ⟨by rw [HE.out]; rfl, hb1⟩

set_option maxHeartbeats 400000 in
theorem rNum_neg (n : Int) (w : World) (h0 : n < 0) :
    Calls Try.prog 12 #[.int .i64 n] w fun e w' => e = .returned (.string (ba [])) ∧ Below w.heap.size w w' := by
  go_enter Try.func12, Try.ntmps12
  go_wp2_with fail
  go_ret
  exact ⟨rfl, Below.refl _ _⟩
set_option maxHeartbeats 400000 in
theorem rNum_pos (n : Int) (w : World) (hn : isI64 n) (h0 : 0 ≤ n) :
    Calls Try.prog 12 #[.int .i64 n] w fun e w' => e = .returned (.string (ba (encInt n))) ∧ Below w.heap.size w w' := by
  have hn' := hn
  unfold isI64 at hn
  go_enter Try.func12, Try.ntmps12
  go_wp2_with fail
  refine (rInt_any n _ hn').mono ?_
  rintro e w1 ⟨rfl, hb1⟩
  go_wp2_with fail
  go_ret
  exact ⟨rfl, hb1⟩

set_option maxHeartbeats 400000 in
theorem rText_any (s : ByteArray) (w : World) (hn : s.size ≤ 1000000) :
    Calls Try.prog 16 #[.string s] w fun e w' => e = .returned (.string (ba (encStr s))) ∧ Below w.heap.size w w' := by
  have he : ba (encStr s) = ba (dg s.size) ++ ba [58] ++ s ++ ba [44] := by
    conv => rhs; rw [← ba_bts s]
    unfold encStr encText
    rw [ba_append, ba_append, ba_append, bts_len, ba_size, bts_len]
  have HE := Lib.hid he; clear he
  have hs1 : (ba (dg s.size)).size ≤ 20 := by rw [ba_size]; exact dg_len20 (by omega)
  go_enter Try.func16, Try.ntmps16
  go_wp2_with fail
  refine (rdigits_call (by omega) (by omega)).mono ?_
  rintro e w1 ⟨rfl, hb1⟩
  rw [show (- -(s.size : Int)).toNat = s.size from by omega]
  go_wp2_with fail
  go_ret
  exact ⟨by rw [HE.out]; rfl, hb1⟩

set_option maxHeartbeats 400000 in
theorem rNums_any (a : Option Addr) (zs : List Int) (cap : Nat) (w : World) (hz : zs.length ≤ 1000000) (hzs : ∀ z ∈ zs, isI64 z) (hat : IntsAt w.heap.size w a zs) :
    Calls Try.prog 18 #[.slice a zs.length cap] w fun e w' => e = .returned (.string (ba (encList (zs.map encInt)))) ∧ Below w.heap.size w w' := by
  have hft := fun k => flat_take_len encInt 22 zs k (fun x hx => encInt_len (hzs x hx))
  have he : ba (encList (zs.map encInt)) = ba (dg zs.length ++ [91] ++ (zs.map encInt).flatten) ++ ba [93] := by unfold encList; rw [List.length_map, ba_append]
  have HE := Lib.hid he; clear he
  have HF := Lib.hid hft; clear hft
  have hs1 : (ba (dg zs.length)).size ≤ 20 := by rw [ba_size]; exact dg_len20 (by omega)
  go_enter Try.func18, Try.ntmps18
  go_wp2_with fail
  refine (rdigits_call (by omega) (by omega)).mono ?_
  rintro e w1 ⟨rfl, hb1⟩
  rw [show (- -(zs.length : Int)).toNat = zs.length from by omega]
  go_wp2_with fail
  go_loopw [3, 4] (fun v i wr => ∃ k : Nat, k ≤ zs.length ∧ i = .int .i64 k ∧ v = .string (ba (dg zs.length ++ [91] ++ ((zs.take k).map encInt).flatten)) ∧ Below w.heap.size w wr) (fun _ i _ => zs.length - (intOf i).toNat)
  case atStart => exact ⟨0, Nat.zero_le _, rfl, by simp only [List.take_zero, List.map_nil, List.flatten_nil, List.append_nil]; rw [← ba_append]; rfl, hb1⟩
  case round =>
    obtain ⟨k, hk, rfl, rfl, hbr⟩ := hrel
    have hsr := hbr.size
    have hfk := HF.out k
    have hs2 : (ba (dg zs.length ++ [91] ++ ((zs.take k).map encInt).flatten)).size ≤ 30000000 := by
      rw [ba_size] at hs1 ⊢; simp only [List.length_append, List.length_cons, List.length_nil]; omega
    have hft := flat_take encInt zs k
    have HFT := Lib.hid hft; clear hft
    clear hfk
    obtain ⟨S, hS⟩ : ∃ S, dg zs.length ++ [91] ++ ((zs.take k).map encInt).flatten = S := ⟨_, rfl⟩
    rw [hS] at hs2 ⊢
    have HS := Lib.hid hS; clear hS
    by_cases hlt : k < zs.length
    · obtain ⟨b, off, rfl, hbB, hc⟩ := hat k hlt
      have hcr := (hbr.cell (p := ⟨b, off + k, none⟩) hbB).trans hc
      have hz := hzs (zs.getD k 0) (by rw [List.getD_eq_getElem?_getD, List.getElem?_eq_getElem hlt]; simp)
      obtain ⟨z, hze⟩ : ∃ z, zs.getD k 0 = z := ⟨_, rfl⟩
      rw [hze] at hcr hz
      have HZ := Lib.hid hze
      clear hze hc
      have hzl : (ba (encInt z)).size ≤ 22 := by rw [ba_size]; exact encInt_len hz
      go_wp2_with fail
      refine (rInt_any _ _ hz).mono ?_
      rintro e w3 ⟨rfl, hb3⟩
      go_wp2_with fail
      go_roundw
      case rel => exact ⟨k + 1, by omega, by go_num, by rw [HFT.out hlt]; have e := HZ.out; rw [List.getD_eq_getElem?_getD, List.getElem?_eq_getElem hlt] at e; simp only [Option.getD_some] at e; rw [e, ba_append, ← HS.out, List.append_assoc], hbr.trans (hb3.mono hsr)⟩
      case measure => simp [intOf]; omega
    · obtain rfl : k = zs.length := by omega
      go_wp2_with fail
      go_ret
      exact ⟨by rw [HE.out, ← HS.out, List.take_length]; rfl, hbr⟩


set_option maxHeartbeats 400000 in
theorem rTexts_any (a : Option Addr) (zs : List ByteArray) (cap : Nat) (w : World) (hz : zs.length ≤ 1000000) (hzs : ∀ z ∈ zs, z.size ≤ 1000000) (hat : StrsAt w.heap.size w a zs) :
    Calls Try.prog 20 #[.slice a zs.length cap] w fun e w' => e = .returned (.string (ba (encList (zs.map encStr)))) ∧ Below w.heap.size w w' := by
  have hft := fun k => flat_take_len encStr 1000022 zs k (fun x hx => encStr_len (hzs x hx))
  have he : ba (encList (zs.map encStr)) = ba (dg zs.length ++ [91] ++ (zs.map encStr).flatten) ++ ba [93] := by unfold encList; rw [List.length_map, ba_append]
  have HE := Lib.hid he; clear he
  have HF := Lib.hid hft; clear hft
  have hs1 : (ba (dg zs.length)).size ≤ 20 := by rw [ba_size]; exact dg_len20 (by omega)
  go_enter Try.func20, Try.ntmps20
  go_wp2_with fail
  refine (rdigits_call (by omega) (by omega)).mono ?_
  rintro e w1 ⟨rfl, hb1⟩
  rw [show (- -(zs.length : Int)).toNat = zs.length from by omega]
  go_wp2_with fail
  go_loopw [3, 4] (fun v i wr => ∃ k : Nat, k ≤ zs.length ∧ i = .int .i64 k ∧ v = .string (ba (dg zs.length ++ [91] ++ ((zs.take k).map encStr).flatten)) ∧ Below w.heap.size w wr) (fun _ i _ => zs.length - (intOf i).toNat)
  case atStart => exact ⟨0, Nat.zero_le _, rfl, by simp only [List.take_zero, List.map_nil, List.flatten_nil, List.append_nil]; rw [← ba_append]; rfl, hb1⟩
  case round =>
    obtain ⟨k, hk, rfl, rfl, hbr⟩ := hrel
    have hsr := hbr.size
    have hfk := HF.out k
    have hs2 : (ba (dg zs.length ++ [91] ++ ((zs.take k).map encStr).flatten)).size ≤ 2000000000000 := by
      rw [ba_size] at hs1 ⊢; simp only [List.length_append, List.length_cons, List.length_nil]; omega
    have hft := flat_take encStr zs k
    have HFT := Lib.hid hft; clear hft
    clear hfk
    obtain ⟨S, hS⟩ : ∃ S, dg zs.length ++ [91] ++ ((zs.take k).map encStr).flatten = S := ⟨_, rfl⟩
    rw [hS] at hs2 ⊢
    have HS := Lib.hid hS; clear hS
    by_cases hlt : k < zs.length
    · obtain ⟨b, off, rfl, hbB, hc⟩ := hat k hlt
      have hcr := (hbr.cell (p := ⟨b, off + k, none⟩) hbB).trans hc
      have hz := hzs (zs.getD k ByteArray.empty) (by rw [List.getD_eq_getElem?_getD, List.getElem?_eq_getElem hlt]; simp)
      obtain ⟨z, hze⟩ : ∃ z, zs.getD k ByteArray.empty = z := ⟨_, rfl⟩
      rw [hze] at hcr hz
      have HZ := Lib.hid hze
      clear hze hc
      have hzl : (ba (encStr z)).size ≤ 1000022 := by rw [ba_size]; exact encStr_len hz
      go_wp2_with fail
      refine (rText_any _ _ hz).mono ?_
      rintro e w3 ⟨rfl, hb3⟩
      go_wp2_with fail
      go_roundw
      case rel => exact ⟨k + 1, by omega, by go_num, by rw [HFT.out hlt]; have e := HZ.out; rw [List.getD_eq_getElem?_getD, List.getElem?_eq_getElem hlt] at e; simp only [Option.getD_some] at e; rw [e, ba_append, ← HS.out, List.append_assoc], hbr.trans (hb3.mono hsr)⟩
      case measure => simp [intOf]; omega
    · obtain rfl : k = zs.length := by omega
      go_wp2_with fail
      go_ret
      exact ⟨by rw [HE.out, ← HS.out, List.take_length]; rfl, hbr⟩

end Go.Proofs.Ytamjfnpgjcdepaa
