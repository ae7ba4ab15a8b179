/- Walks: Nums and Texts of wire's reader; the law's 'small'. -/
import Derived.Test.YtamjfnpgjcdepaaDd
namespace Go.Proofs.Ytamjfnpgjcdepaa
open Go.RowKit

set_option maxHeartbeats 400000 in
theorem nums_any (b : Nat) (s : ByteArray) (f : Bool) (w : World) (h : Rd w b s f) (hf : f = true → s.size = 0) (hs : s.size ≤ 10000000) :
    Calls Try.prog 31 #[.pointer (some ⟨b, 0, none⟩)] w (PostI w b s) := by
  have hc : ∀ x w', PostI w b s x w' → ∃ v, x = .returned v := by
    intro x w' hp; unfold PostI at hp; split at hp
    · obtain ⟨v, hv, _⟩ := hp; exact ⟨v, hv⟩
    · exact ⟨_, hp.1⟩
  have HC := Lib.hid hc; clear hc
  have HF := Lib.hid hf; clear hf
  go_enter Try.func31, Try.ntmps31
  go_wp2_with fail
  refine (listI_any b s f _ h HF.out hs).mono ?_
  intro e w1 hp
  obtain ⟨v, rfl⟩ := HC.out _ _ hp
  have HP := Lib.hid hp; clear hp
  go_wp2_with fail
  go_ret
  exact HP.out

set_option maxHeartbeats 400000 in
theorem texts_any (b : Nat) (s : ByteArray) (f : Bool) (w : World) (h : Rd w b s f) (hf : f = true → s.size = 0) (hs : s.size ≤ 10000000) :
    Calls Try.prog 34 #[.pointer (some ⟨b, 0, none⟩)] w (PostS w b s) := by
  have hc : ∀ x w', PostS w b s x w' → ∃ v, x = .returned v := by
    intro x w' hp; unfold PostS at hp; split at hp
    · obtain ⟨v, hv, _⟩ := hp; exact ⟨v, hv⟩
    · exact ⟨_, hp.1⟩
  have HC := Lib.hid hc; clear hc
  have HF := Lib.hid hf; clear hf
  go_enter Try.func34, Try.ntmps34
  go_wp2_with fail
  refine (listS_any b s f _ h HF.out hs).mono ?_
  intro e w1 hp
  obtain ⟨v, rfl⟩ := HC.out _ _ hp
  have HP := Lib.hid hp; clear hp
  go_wp2_with fail
  go_ret
  exact HP.out

theorem dg0 : dg 0 = [48] := dg_lt (by omega)
theorem dg1 : dg 1 = [49] := dg_lt (by omega)
theorem dg2 : dg 2 = [50] := dg_lt (by omega)
theorem dg3 : dg 3 = [51] := dg_lt (by omega)
theorem dg7 : dg 7 = [55] := dg_lt (by omega)
theorem dg300 : dg 300 = [51, 48, 48] := by
  rw [dg_ge (by omega)]
  have h30 : dg (300 / 10) = [51, 48] := by
    rw [show 300 / 10 = 30 from rfl, dg_ge (by omega), show 30 / 10 = 3 from rfl, dg3]; rfl
  rw [h30]; rfl
theorem e0 : ba (encInt 0) = ⟨#[48, 59]⟩ := by unfold encInt; rw [if_neg (by omega)]; show ba (dg 0 ++ [59]) = _; rw [dg0]; rfl
theorem e300 : ba (encInt 300) = ⟨#[51, 48, 48, 59]⟩ := by unfold encInt; rw [if_neg (by omega)]; show ba (dg 300 ++ [59]) = _; rw [dg300]; rfl
theorem em7 : ba (encInt (-7)) = ⟨#[45, 55, 59]⟩ := by unfold encInt; rw [if_pos (by omega)]; show ba (45 :: (dg 7 ++ [59])) = _; rw [dg7]; rfl
theorem e7 : ba (encInt 7) = ⟨#[55, 59]⟩ := by unfold encInt; rw [if_neg (by omega)]; show ba (dg 7 ++ [59]) = _; rw [dg7]; rfl
theorem eab : ba (encStr ⟨#[97, 44, 98]⟩) = ⟨#[51, 58, 97, 44, 98, 44]⟩ := by show ba (dg 3 ++ [58] ++ [97, 44, 98] ++ [44]) = _; rw [dg3]; rfl
theorem el : ba (encList ([1, -1].map encInt)) = ⟨#[50, 91, 49, 59, 45, 49, 59, 93]⟩ := by
  have h1 : encInt 1 = [49, 59] := by unfold encInt; rw [if_neg (by omega)]; show dg 1 ++ [59] = _; rw [dg1]; rfl
  have h2 : encInt (-1) = [45, 49, 59] := by unfold encInt; rw [if_pos (by omega)]; show 45 :: (dg 1 ++ [59]) = _; rw [dg1]; rfl
  show ba (dg 2 ++ [91] ++ [encInt 1, encInt (-1)].flatten ++ [93]) = _
  rw [h1, h2, dg2]; rfl
theorem en : ba (encList (([] : List ByteArray).map encStr)) = ⟨#[48, 91, 93]⟩ := by show ba (dg 0 ++ [91] ++ [] ++ [93]) = _; rw [dg0]; rfl
theorem n007 : numP (bts ⟨#[48, 48, 55, 59]⟩) = none := by
  unfold numP digP
  refine if_pos (Or.inr (Or.inl ⟨?_, rfl⟩))
  decide

theorem Keep.below {B b : Nat} {w w' : World} (h : Keep b w w') (h1 : B ≤ b) (h2 : B ≤ w.heap.size) : Below B w w' :=
  ⟨h.os, h.tape, h.output, h.size, fun k hk => h.block k (by omega) (by simp; omega)⟩

set_option maxHeartbeats 2000000 in
theorem small_any (w : World) : Calls Try.prog 9 #[] w fun e w' => e = .returned (.bool true) ∧ Below w.heap.size w w' := by
  go_enter Try.func9, Try.ntmps9
  go_wp2_with fail
  refine (wNum_pos 0 _ (by unfold isI64; omega) (by omega)).mono ?_
  rw [e0]
  rintro e w1 ⟨rfl, hb1⟩
  have hs1 := hb1.size
  go_wp2_with fail
  refine (wNum_pos 300 _ (by unfold isI64; omega) (by omega)).mono ?_
  rw [e300]
  rintro e w2 ⟨rfl, hb2⟩
  have hs2 := hb2.size
  go_wp2_with fail
  refine (wNum_neg (-1) _ (by omega)).mono ?_
  rw [show ba [] = ⟨#[]⟩ from rfl]
  rintro e w3 ⟨rfl, hb3⟩
  have hs3 := hb3.size
  go_wp2_with fail
  refine (wInt_any (-7) _ (by unfold isI64; omega)).mono ?_
  rw [em7]
  rintro e w4 ⟨rfl, hb4⟩
  have hs4 := hb4.size
  go_wp2_with fail
  refine (wInt_any 7 _ (by unfold isI64; omega)).mono ?_
  rw [e7]
  rintro e w5 ⟨rfl, hb5⟩
  have hs5 := hb5.size
  go_wp2_with fail
  refine (wText_any ⟨#[97, 44, 98]⟩ _ (by show 3 ≤ 10000000; omega)).mono ?_
  rw [eab]
  rintro e w6 ⟨rfl, hb6⟩
  have hs6 := hb6.size
  go_wp2_with fail
  refine (wNums_any (some ⟨w6.heap.size, 0, none⟩) [1, -1] 2 _ (by simp) (by intro z hz; unfold isI64; simp at hz; omega) (by
    intro k hk
    match k, hk with
    | 0, _ => exact ⟨w6.heap.size, 0, rfl, by simp, by simp⟩
    | 1, _ => exact ⟨w6.heap.size, 0, rfl, by simp, by simp⟩)).mono ?_
  rw [el]
  rintro e w7 ⟨rfl, hb7⟩
  have hs7 := hb7.size
  go_wp2_with fail
  refine (wTexts_any none [] 0 _ (by simp) (by intro z hz; cases hz) (by intro k hk; cases hk)).mono ?_
  rw [en]
  rintro e w8 ⟨rfl, hb8⟩
  have hs8 := hb8.size
  go_wp2_with fail
  refine (open_any _ _).mono ?_
  rintro e w9 ⟨rfl, hr9, hb9⟩
  have hs9 := hb9.size
  go_wp2_with fail
  refine (num_none w8.heap.size _ _ _ hr9 (by show 4 ≤ 9223372036854775807; omega) n007).mono ?_
  rintro e w10 ⟨rfl, hr10, hk10⟩
  have hs10 := hk10.size
  go_wp2_with fail
  refine (left_any w8.heap.size _ _ _ hr10).mono ?_
  rw [show (ba []).size = 0 from rfl]
  rintro e w11 ⟨rfl, rfl⟩
  go_wp2_with fail
  refine (done_any w8.heap.size _ _ _ hr10).mono ?_
  rintro e w11 ⟨rfl, rfl⟩
  go_wp2_with fail
  go_ret
  have a6 := ((((hb1.trans (hb2.mono hs1)).trans (hb3.mono (by omega))).trans (hb4.mono (by omega))).trans (hb5.mono (by omega))).trans (hb6.mono (by omega))
  have a7 := (a6.alloc (by omega) (.cells #[.int .i64 1, .int .i64 (-1)] 3)).trans (hb7.mono (by simp; omega))
  have hs7' : w6.heap.size ≤ w7.heap.size := by simp at hs7; omega
  have a9 := (a7.trans (hb8.mono (by omega))).trans (hb9.mono (by omega))
  exact ⟨rfl, a9.trans (hk10.below (by omega) (by omega))⟩

end Go.Proofs.Ytamjfnpgjcdepaa
