/- Walks of journal's small functions: Sum, form, strings.Clone. -/
import Derived.Test.YtgocnjiabfmdpaaJa
import Derived.Test.YtgocnjiabfmdpaaRD
import Derived.Test.YtgocnjiabfmdpaaRRa
import Derived.Test.YtgocnjiabfmdpaaDWcd
import Derived.Lib.Strings
import Derived.Lib.Walk
import Derived.Lib.BufferWrite
import Derived.Lib.UnsafeStr
import Derived.Laws.MakeOwn
namespace Go.Proofs.Ytgocnjiabfmdpaa
set_option maxRecDepth 8000
open Go.RowKit Wire

theorem wba : @Wire.ba = @ba := rfl
theorem wbts (s : ByteArray) : Wire.bts s = s.data.toList := rfl

theorem sum_step (s : ByteArray) (k : Nat) (h : k < s.size) : sumTo (bts s) (k + 1) = (sumTo (bts s) k + (k + 1) * (s[k]'h).toNat) % 2147483647 := by
  rw [sumTo, List.getD_eq_getElem?_getD, bt_get h]; rfl

set_option maxHeartbeats 1000000 in
theorem sum_any (s : ByteArray) (w : World) (hs : s.size ≤ 1000000000) : Calls Try.prog 27 #[.string s] w fun e w' => e = .returned (.int .i64 (jsum (bts s))) ∧ w = w' := by
  have hj : jsum (bts s) = sumTo (bts s) s.size := by unfold jsum; rw [bts_len]
  have HJ := Lib.hid hj
  clear hj
  go_enter Try.func27, Try.ntmps27
  go_wp2_with fail
  go_loopw [3, 7] (fun sv i wr => ∃ k : Nat, k ≤ s.size ∧ i = .int .i64 k ∧ sv = .int .i64 (sumTo (bts s) k) ∧ w = wr) (fun _ i _ => s.size - (intOf i).toNat)
  case atStart => exact ⟨0, Nat.zero_le _, rfl, rfl, rfl⟩
  case round =>
    obtain ⟨k, hk, rfl, rfl, rfl⟩ := hrel
    by_cases hlt : k < s.size
    · have h1 := sum_step s k hlt
      have h2 := sumTo_lt (bts s) k
      obtain ⟨x, hx⟩ : ∃ x, x = sumTo (bts s) k := ⟨_, rfl⟩
      rw [← hx] at h1 h2 ⊢
      have h3 : (s[k]'hlt).toNat ≤ 255 := by have := (s[k]'hlt).toNat_lt; omega
      obtain ⟨c, hc⟩ : ∃ c, c = (s[k]'hlt).toNat := ⟨_, rfl⟩
      have h4 : (k + 1) * c ≤ 1000000000 * 255 := Nat.mul_le_mul (by omega) (by omega)
      rw [← hc] at h1 h3
      have h5 : (((k : Int) + 1) * c) = (((k + 1) * c : Nat) : Int) := by push_cast; rfl
      obtain ⟨m, hm⟩ : ∃ m, m = (k + 1) * c := ⟨_, rfl⟩
      rw [← hm] at h1 h4 h5
      have h6 : (((x : Int) + m).tmod 2147483647) = (((x + m) % 2147483647 : Nat) : Int) := by
        rw [Int.tmod_eq_emod_of_nonneg (by omega)]; omega
      have H := Lib.hid (And.intro h1 (And.intro hc hm))
      clear h1 hm hx
      go_wp2_with fail
      go_roundw
      case rel => exact ⟨k + 1, by omega, by go_num, by rw [← H.out.2.1, h5, IntWalk.wrap64_in (m : Int) (by omega), IntWalk.wrap64_in (x + m : Int) (by omega), h6, H.out.1], trivial⟩
      case measure => simp [intOf]; omega
    · obtain rfl : k = s.size := by omega
      go_wp2_with fail
      go_ret
      exact ⟨by rw [HJ.out]; rfl, rfl⟩

theorem jform_enc (s : ByteArray) : Wire.encStr s ++ encInt (jsum (bts s) : Int) = jform (bts s) := by
  unfold Wire.encStr jform encInt
  rw [if_neg (by omega)]
  simp

set_option maxHeartbeats 1000000 in
theorem form_any (s : ByteArray) (w : World) (hs : s.size ≤ 1000000) : Calls Try.prog 72 #[.string s] w fun e w' => e = .returned (.string (ba (jform (bts s)))) ∧ Below w.heap.size w w' := by
  have hj := jsum_lt (bts s)
  obtain ⟨n, hn⟩ : ∃ n, n = jsum (bts s) := ⟨_, rfl⟩
  have h1 : (Wire.ba (Wire.encStr s)).size ≤ 1000022 := by rw [Wire.ba_size]; exact Wire.encStr_len hs
  have h2 : (Wire.ba (encInt (n : Int))).size ≤ 22 := by rw [Wire.ba_size]; exact Wire.encInt_len (by unfold Wire.isI64; omega)
  have he : ba (jform (bts s)) = Wire.ba (Wire.encStr s) ++ Wire.ba (encInt (n : Int)) := by rw [hn, Wire.ba_append, jform_enc]; rfl
  have HE := Lib.hid he
  have HN := Lib.hid hn
  have HI : Hid (Wire.isI64 (n : Int)) := show Wire.isI64 _ by unfold Wire.isI64; omega
  clear he hj hn
  go_enter Try.func72, Try.ntmps72
  go_wp2_with fail
  refine (Wire.wText_any s _ (by omega)).mono ?_
  rintro e w1 ⟨rfl, hb1⟩
  go_wp2_with fail
  refine (sum_any s _ (by omega)).mono ?_
  rintro e w2 ⟨rfl, rfl⟩
  rw [← HN.out]
  go_wp2_with fail
  refine (Wire.wNum_pos (n : Int) _ HI.out (by omega)).mono ?_
  rintro e w3 ⟨rfl, hb3⟩
  go_wp2_with fail
  go_ret
  exact ⟨by rw [HE.out]; rfl, hb1.trans (hb3.mono hb1.size)⟩

set_option maxHeartbeats 4000000 in
set_option maxRecDepth 100000 in
/-- internal/stringslite.Clone: the same bytes; nothing that was there has turned. -/
theorem liteClone_any (s : ByteArray) (w : World) (hlim : s.size ≤ 281474976710656) :
    Calls Try.prog 95 #[.string s] w fun e w' => e = .returned (.string s) ∧ Below w.heap.size w w' := by
  by_cases h0 : s.size = 0
  · have hs : s = ⟨#[]⟩ := by
      apply ByteArray.ext
      exact Array.eq_empty_of_size_eq_zero h0
    subst hs
    go_enter Try.func95, Try.ntmps95
    go_wp2
    go_ret
    exact ⟨rfl, Below.refl _ _⟩
  · obtain ⟨i0, hi, hz0, hz1, hz2⟩ := info_parts Try.info5
    have hinfo : (Try.prog.info? 5).map (·.size) = some 1 := by rw [hi]; simp [hz1]
    have hco : Try.prog.cellsOf 5 = 1 := by simp [Program.cellsOf, hi, hz1]
    obtain ⟨M, hM⟩ : ∃ M, M = madeCells (Value.int .u8 0).cells (((s.size : Nat) : Int).toNat * i0.size) := ⟨_, rfl⟩
    have hMs : M.size = s.size := by rw [hM, size_madeCells, hz1]; simp
    have hmk : ∀ W : World, (Instr.makeSlice 73 (.int .i64 (s.size : Int)) (.int .i64 (s.size : Int))).run Try.prog W = .ok (.slice (some ⟨W.heap.size, 0, none⟩) s.size s.size) (W.alloc (.cells M 5)) := fun W => by
      have h := run_make (P := Try.prog) W 73 5 i0 (.int .u8 0) Try.underlying73 hi hz0 .i64 .i64 (s.size : Int) (s.size : Int) (by omega) (by omega) (by rw [hz2]; omega) (by omega)
      rw [← hM] at h
      simpa using h
    clear hM
    have hcp := Lib.run_copy_row_string (P := Try.prog) (w.alloc (.cells M 5)) 73 9 3 5 w.heap.size 0 s.size s.size s M 5 Try.underlying73 hinfo (heap_alloc_new w _) (Nat.le_refl _) (by omega)
    obtain ⟨Y, hY⟩ : ∃ Y, Y = (M.toList.take 0 ++ Lib.byteCells s.data.toList ++ M.toList.drop (0 + s.size)).toArray := ⟨_, rfl⟩
    rw [← hY] at hcp
    have hYl : Y.toList = Lib.byteCells s.data.toList := by
      rw [hY, List.toList_toArray, List.take_zero, List.nil_append, List.drop_of_length_le (by rw [Array.length_toList]; omega), List.append_nil]
    have hYs : Y.size = s.size := by rw [← Array.length_toList, hYl, Lib.byteCells_length, ← Lib.size_eq]
    have hgY : ((w.alloc (.cells M 5)).setRow w.heap.size Y).heap[w.heap.size]? = some (.cells Y 5 (0, 0)) := setRow_heap _ _ M _ 5 (0, 0) (heap_alloc_new w _)
    have hne : s.data.toList ≠ [] := fun e => h0 (by rw [Lib.size_eq, e]; rfl)
    have hUS := Lib.run_unsafeString_row (P := Try.prog) ((w.alloc (.cells M 5)).setRow w.heap.size Y) 131 3 9 5 Try.underlying131 hco w.heap.size Y.size (by unfold World.shape?; rw [hgY]) s.data.toList hne (by rw [← Lib.size_eq]; omega) (by rw [← Lib.size_eq]; omega)
      (fun j x hx => Lib.cells_of_row hgY Y.size j _ (by rw [List.take_of_length_le (by rw [Array.length_toList]; exact Nat.le_refl _), hYl]; simp [Lib.byteCells, hx]))
    rw [← Lib.size_eq] at hUS
    clear hY
    go_enter Try.func95, Try.ntmps95
    go_wp2
    go_ret
    have hb1 : Below w.heap.size w (w.alloc (.cells M 5)) := (Below.refl _ w).alloc (Nat.le_refl _) _
    have hb2 : Below w.heap.size (w.alloc (.cells M 5)) ((w.alloc (.cells M 5)).setRow w.heap.size Y) := ⟨rfl, rfl, rfl, by simp, fun k hk => setRow_other _ _ _ _ (by omega)⟩
    exact ⟨rfl, Lib.below_freeze (hb1.trans hb2) (p := ⟨w.heap.size, 0, none⟩) (Nat.le_refl _) _⟩

set_option maxHeartbeats 400000 in
theorem clone_any (s : ByteArray) (w : World) (hlim : s.size ≤ 281474976710656) :
    Calls Try.prog 73 #[.string s] w fun e w' => e = .returned (.string s) ∧ Below w.heap.size w w' := by
  go_enter Try.func73, Try.ntmps73
  go_wp2_with fail
  refine (liteClone_any s _ hlim).mono ?_
  rintro e w1 ⟨rfl, hb1⟩
  go_wp2_with fail
  go_ret
  exact ⟨rfl, hb1⟩

end Go.Proofs.Ytgocnjiabfmdpaa
