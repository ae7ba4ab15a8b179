/- Walks of wire's writing functions, third part: lists of strings, and the exported functions. -/
import Derived.Test.YtamjfnpgjcdepaaWb
namespace Go.Proofs.Ytamjfnpgjcdepaa
open Go.RowKit

/-- The strings of a slice at address a, in blocks below B. -/
def StrsAt (B : Nat) (w : World) (a : Option Addr) (zs : List ByteArray) : Prop :=
  ∀ k, k < zs.length → ∃ b off, a = some ⟨b, off, none⟩ ∧ b < B ∧ w.cell? ⟨b, off + k, none⟩ = some (.string (zs.getD k ByteArray.empty))

def bts (s : ByteArray) : List UInt8 := s.data.toList
theorem bts_len (s : ByteArray) : (bts s).length = s.size := Array.length_toList
def encStr (s : ByteArray) : List UInt8 := encText (bts s)

theorem encStr_len {s : ByteArray} (h : s.size ≤ 1000000) : (encStr s).length ≤ 1000022 := by
  have hl := dg_len20 (n := s.size) (by omega)
  unfold encStr encText
  simp only [List.length_append, List.length_cons, List.length_nil, bts_len]; omega

set_option maxHeartbeats 400000 in
theorem appendListS_any (B : Nat) (a : Option Addr) (zs : List ByteArray) (cap : Nat) (v : Value) (l : List UInt8) (w : World) (hB : B ≤ w.heap.size) (hown : Own w B v l) (hm : l.length ≤ 1000000)
    (hz : zs.length ≤ 1000000) (hzs : ∀ z ∈ zs, z.size ≤ 1000000) (hat : StrsAt B w a zs) :
    Calls Try.prog 48 #[v, .slice a zs.length cap, .func (.func 46) #[] #[]] w fun e w' => ∃ v', e = .returned v' ∧ Own w' B v' (l ++ encList (zs.map encStr)) ∧ Below B w w' := by
  have hz0 : (0 : Int) ≤ zs.length := by omega
  have hl := dg_len20 (n := zs.length) (by omega)
  have hft := fun k => flat_take_len encStr 1000022 zs k (fun x hx => encStr_len (hzs x hx))
  have he : encList (zs.map encStr) = dg zs.length ++ [91] ++ (zs.map encStr).flatten ++ [93] := by unfold encList; rw [List.length_map]
  have HE := Lib.hid he; clear he
  have HF := Lib.hid hft; clear hft
  go_enter Try.func48, Try.ntmps48
  go_wp2_with fail
  refine (digits_call (n := (zs.length : Int)) (by omega) (by omega) hB hown (by omega)).mono ?_
  rintro e w1 ⟨v1, rfl, hown1, hb1⟩
  have hs1 := hb1.size
  rw [Int.toNat_natCast] at hown1
  go_wp2_with (first
      | (at_builtin; refine app1 rfl (.tmp 13) (.tmp 14) rfl B v1 _ 91 91 rfl rfl hown1 rfl (by simp only [List.length_append]; omega) (by omega) ?_; intro v2 w2 hown2 hb2; have hs2 := hb2.size))
  have hb12 := hb1.trans hb2
  go_loopw [0, 18] (fun v i wr => ∃ k : Nat, k ≤ zs.length ∧ i = .int .i64 k ∧ Own wr B v (l ++ dg zs.length ++ [91] ++ ((zs.take k).map encStr).flatten) ∧ Below B w wr) (fun _ i _ => zs.length - (intOf i).toNat)
  case atStart => exact ⟨0, Nat.zero_le _, rfl, by simpa using hown2, hb12⟩
  case round =>
    obtain ⟨k, hk, rfl, hownr, hbr⟩ := hrel
    have hsr := hbr.size
    have hfk := HF.out k
    by_cases hlt : k < zs.length
    · obtain ⟨b, off, rfl, hbB, hc⟩ := hat k hlt
      have hcr := (hbr.cell (p := ⟨b, off + k, none⟩) hbB).trans hc
      have hz := hzs (zs.getD k ByteArray.empty) (by rw [List.getD_eq_getElem?_getD, List.getElem?_eq_getElem hlt]; simp)
      obtain ⟨z, hze⟩ : ∃ z, zs.getD k ByteArray.empty = z := ⟨_, rfl⟩
      rw [hze] at hcr hz
      have HZ := Lib.hid hze
      clear hze hc
      go_wp2_with fail
      refine (appendText_any B _ _ _ _ (by omega) hownr (by simp only [List.length_append, List.length_cons, List.length_nil]; omega)).mono ?_
      rintro e w3 ⟨v3, rfl, hown3, hb3⟩
      have hs3 := hb3.size
      go_wp2_with fail
      go_roundw
      case rel => exact ⟨k + 1, by omega, by go_num, by rw [flat_take _ _ _ hlt]; have e := HZ.out; rw [List.getD_eq_getElem?_getD, List.getElem?_eq_getElem hlt] at e; simp only [Option.getD_some] at e; rw [e]; simpa only [List.append_assoc, encStr, bts] using hown3, hbr.trans hb3⟩
      case measure => simp [intOf]; omega
    · obtain rfl : k = zs.length := by omega
      go_wp2_with (first
      | (at_builtin; refine app1 rfl (.tmp 27) (.tmp 28) rfl B _ _ 93 93 rfl rfl hownr rfl (by simp only [List.length_append, List.length_cons, List.length_nil]; omega) (by omega) ?_; intro v3 w3 hown3 hb3))
      go_ret
      exact ⟨v3, rfl, by rw [HE.out]; rw [List.take_length] at hown3; simpa only [List.append_assoc] using hown3, hbr.trans hb3⟩

theorem conv_own {w : World} {B : Nat} {v : Value} {l : List UInt8} (h : Own w B v l) : (convert 51 9 v).run Try.prog w = .ok (.string ⟨l.toArray⟩) w := by
  rcases h.2 with ⟨rfl, hn⟩ | ⟨g, cap, cur, rfl, hb, hg, hnc, hcm, hcs, htake⟩
  · have : l = [] := List.eq_nil_of_length_eq_zero hn
    subst this
    exact run_convert_bytes_nil w 51 5 Try.underlying51 Try.underlying5 0 0 9 Try.underlying9
  · have := run_convert_bytes_arg (P := Try.prog) w 51 5 Try.underlying51 Try.underlying5 g 0 l.length cap (l.map fun b => (b.toNat : Int)) (by simp) (fun i hi => by
      rw [Nat.zero_add]
      have h1 := World.ownsRow.cellAt h i (by omega)
      rw [h1]
      simp [bc, List.getElem?_eq_getElem hi]) 9 Try.underlying9
    rw [this]
    have hs : strOfNums (l.map fun b => (b.toNat : Int)) = (⟨l.toArray⟩ : ByteArray) := by
      have : l.map ((fun n : Int => UInt8.ofNat n.toNat) ∘ fun b : UInt8 => (b.toNat : Int)) = l := by
        conv => rhs; rw [← List.map_id l]
        exact List.map_congr_left (fun b _ => by simp)
      simp only [strOfNums, List.map_map, this]
    rw [hs]

def ba (l : List UInt8) : ByteArray := ⟨l.toArray⟩
theorem bts_ba (l : List UInt8) : bts (ba l) = l := rfl
theorem ba_bts (s : ByteArray) : ba (bts s) = s := by simp [ba, bts]

set_option maxHeartbeats 400000 in
theorem wInt_any (n : Int) (w : World) (hn : isI64 n) :
    Calls Try.prog 13 #[.int .i64 n] w fun e w' => e = .returned (.string (ba (encInt n))) ∧ Below w.heap.size w w' := by
  unfold isI64 at hn
  go_enter Try.func13, Try.ntmps13
  go_wp2_with fail
  refine (appendInt_any w.heap.size _ _ [] _ hn.1 hn.2 (Nat.le_refl _) (Own.nil _ _) (by simp)).mono ?_
  rintro e w1 ⟨v1, rfl, hown1, hb1⟩
  have hcv := conv_own hown1
  go_wp2_with fail
  go_ret
  exact ⟨rfl, hb1⟩

set_option maxHeartbeats 400000 in
theorem wNum_neg (n : Int) (w : World) (h0 : n < 0) :
    Calls Try.prog 11 #[.int .i64 n] w fun e w' => e = .returned (.string (ba [])) ∧ Below w.heap.size w w' := by
  go_enter Try.func11, Try.ntmps11
  go_wp2_with fail
  go_ret
  exact ⟨rfl, Below.refl _ _⟩
set_option maxHeartbeats 400000 in
theorem wNum_pos (n : Int) (w : World) (hn : isI64 n) (h0 : 0 ≤ n) :
    Calls Try.prog 11 #[.int .i64 n] w fun e w' => e = .returned (.string (ba (encInt n))) ∧ Below w.heap.size w w' := by
  have hn' := hn
  unfold isI64 at hn
  go_enter Try.func11, Try.ntmps11
  go_wp2_with fail
  refine (wInt_any n _ hn').mono ?_
  rintro e w1 ⟨rfl, hb1⟩
  go_wp2_with fail
  go_ret
  exact ⟨rfl, hb1⟩

set_option maxHeartbeats 400000 in
theorem wText_any (s : ByteArray) (w : World) (hn : s.size ≤ 10000000) :
    Calls Try.prog 15 #[.string s] w fun e w' => e = .returned (.string (ba (encStr s))) ∧ Below w.heap.size w w' := by
  go_enter Try.func15, Try.ntmps15
  go_wp2_with fail
  refine (appendText_any w.heap.size _ _ [] _ (Nat.le_refl _) (Own.nil _ _) (by simp only [List.length_nil]; omega)).mono ?_
  rintro e w1 ⟨v1, rfl, hown1, hb1⟩
  have hcv := conv_own hown1
  go_wp2_with fail
  go_ret
  exact ⟨rfl, hb1⟩

set_option maxHeartbeats 400000 in
theorem wNums_any (a : Option Addr) (zs : List Int) (cap : Nat) (w : World) (hz : zs.length ≤ 1000000) (hzs : ∀ z ∈ zs, isI64 z) (hat : IntsAt w.heap.size w a zs) :
    Calls Try.prog 17 #[.slice a zs.length cap] w fun e w' => e = .returned (.string (ba (encList (zs.map encInt)))) ∧ Below w.heap.size w w' := by
  go_enter Try.func17, Try.ntmps17
  go_wp2_with fail
  refine (appendListI_any w.heap.size _ _ _ _ [] _ (Nat.le_refl _) (Own.nil _ _) (by simp) hz hzs hat).mono ?_
  rintro e w1 ⟨v1, rfl, hown1, hb1⟩
  have hcv := conv_own hown1
  go_wp2_with fail
  go_ret
  exact ⟨rfl, hb1⟩

set_option maxHeartbeats 400000 in
theorem wTexts_any (a : Option Addr) (zs : List ByteArray) (cap : Nat) (w : World) (hz : zs.length ≤ 1000000) (hzs : ∀ z ∈ zs, z.size ≤ 1000000) (hat : StrsAt w.heap.size w a zs) :
    Calls Try.prog 19 #[.slice a zs.length cap] w fun e w' => e = .returned (.string (ba (encList (zs.map encStr)))) ∧ Below w.heap.size w w' := by
  go_enter Try.func19, Try.ntmps19
  go_wp2_with fail
  refine (appendListS_any w.heap.size _ _ _ _ [] _ (Nat.le_refl _) (Own.nil _ _) (by simp) hz hzs hat).mono ?_
  rintro e w1 ⟨v1, rfl, hown1, hb1⟩
  have hcv := conv_own hown1
  go_wp2_with fail
  go_ret
  exact ⟨rfl, hb1⟩

end Go.Proofs.Ytamjfnpgjcdepaa
