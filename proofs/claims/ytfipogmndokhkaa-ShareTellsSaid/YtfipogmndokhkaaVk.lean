/- The law ShareTells. -/
import Derived.Test.YtfipogmndokhkaaVj
namespace Go.Proofs.Ytfipogmndokhkaa
open Go.RowKit

theorem split_both (secret k n seed : Int) : ∃ (l : List (Int × Int)) (e' : Int), l.length ≤ 1000 ∧
    (∀ w, Calls Try.prog 8 #[.int .i64 secret, .int .i64 k, .int .i64 n, .int .i64 seed] w fun e w' => ∃ v, e = .returned (.tuple #[v, .int .i64 e']) ∧ OwnS w' w.heap.size v l ∧ Below w.heap.size w w') ∧
    (∀ w, Calls Try.prog 9 #[.int .i64 secret, .int .i64 k, .int .i64 n, .int .i64 seed] w fun e w' => ∃ v, e = .returned (.tuple #[v, .int .i64 e']) ∧ OwnS w' w.heap.size v l ∧ Below w.heap.size w w') := by
  cases h : okS secret k n with
  | false =>
    refine ⟨[], 1, by simp, fun w => (split_bad secret k n seed w h).mono ?_, fun w => (rsplit_bad secret k n seed w h).mono ?_⟩
    all_goals
      rintro e w' ⟨rfl, rfl⟩
      exact ⟨_, rfl, OwnS.nil _ _, Below.refl _ _⟩
  | true =>
    have hk : ∃ (a b : Nat), k = (a : Int) ∧ n = (b : Int) ∧ b ≤ 20 := by
      unfold okS at h
      simp at h
      exact ⟨k.toNat, n.toNat, by omega, by omega, by omega⟩
    obtain ⟨a, b, rfl, rfl, hb⟩ := hk
    exact ⟨shs (cfs secret seed a) b, 0, by rw [shs_length]; omega, fun w => split_good secret a b seed w h, fun w => rsplit_good secret a b seed w h⟩

set_option maxRecDepth 100000 in
set_option maxHeartbeats 8000000 in
theorem tells_any (secret k n seed : Int) (ds : List (Int × Int)) (A : Option Addr) (c : Nat) (w : World) (hS : ShAt w.heap.size w A ds) (hnc : ds.length ≤ c) (hcm : c ≤ 9223372036854775807) :
    Calls Try.prog 3 #[.int .i64 secret, .int .i64 k, .int .i64 n, .int .i64 seed, .slice A ds.length c] w fun e w' => e = .returned (.bool true) ∧ Below w.heap.size w w' := by
  obtain ⟨m, hm⟩ : ∃ m, ds.length = m := ⟨_, rfl⟩
  rw [hm] at hnc ⊢
  by_cases hbig : 30 < m
  · have hbig' : decide ((30 : Int) < (m : Int)) = true := by simp; omega
    clear hm hS
    go_enter Try.func3, Try.ntmps3
    go_wp2_with fail
    refine (small_any _).mono ?_
    rintro e w1 ⟨rfl, hb1⟩
    go_wp2_with fail
    go_ret
    exact ⟨rfl, hb1⟩
  · have hbig' : decide ((30 : Int) < (m : Int)) = false := by simp; omega
    obtain ⟨l, e', hl, hs1, hs2⟩ := split_both secret k n seed
    obtain ⟨z, ej, hj1, hj2⟩ := join_both ds A m c w k hS hm (by omega) hnc hcm
    obtain ⟨b, hf1, hf2⟩ := fits_both ds A m c w k secret hS hm (by omega)
    have HS1 := Lib.hid hs1
    have HS2 := Lib.hid hs2
    have HJ1 := Lib.hid hj1
    have HJ2 := Lib.hid hj2
    have HF1 := Lib.hid hf1
    have HF2 := Lib.hid hf2
    clear hs1 hs2 hj1 hj2 hf1 hf2 hm hS hbig
    go_enter Try.func3, Try.ntmps3
    go_wp2_with fail
    refine (small_any _).mono ?_
    rintro e w1 ⟨rfl, hb1⟩
    go_wp2_with fail
    refine (HS1.out _).mono ?_
    rintro e w2 ⟨v2, rfl, hown2, hb2⟩
    have hB2 := hb1.trans (hb2.mono hb1.size)
    go_wp2_with fail
    refine (HS2.out _).mono ?_
    rintro e w3 ⟨v3, rfl, hown3, hb3⟩
    have hB3 := hB2.trans (hb3.mono hB2.size)
    go_wp2_with fail
    refine (HJ1.out _ hB3).mono ?_
    rintro e w4 ⟨rfl, hb4⟩
    have hB4 := hB3.trans (hb4.mono hB3.size)
    go_wp2_with fail
    refine (HJ2.out _ hB4).mono ?_
    rintro e w5 ⟨rfl, hb5⟩
    have hB5 := hB4.trans (hb5.mono hB4.size)
    have hb25 := (hb3.trans (hb4.mono hb3.size)).trans (hb5.mono (hb3.trans (hb4.mono hb3.size)).size)
    have hb35 := hb4.trans (hb5.mono hb4.size)
    obtain ⟨A2, c2, rfl, _, _, hS2⟩ := (hown2.below hb25).at_
    obtain ⟨A3, c3, rfl, _, _, hS3⟩ := (hown3.below hb35).at_
    have HSM := Lib.hid (same_any l l A2 A3 c2 c3 w5 hS2 hS3 hl hl true (by simp))
    clear hS2 hS3 hown2 hown3 hb25 hb35
    obtain ⟨r, hr⟩ : ∃ r, l.length = r := ⟨_, rfl⟩
    rw [hr] at HSM ⊢
    clear hr hl
    go_wp2_with fail
    refine HSM.out.mono ?_
    rintro e w6 ⟨rfl, hb6⟩
    have hB6 := hB5.trans (hb6.mono hB5.size)
    go_wp2_with fail
    refine (HF1.out _ hB6).mono ?_
    rintro e w7 ⟨rfl, hb7⟩
    have hB7 := hB6.trans (hb7.mono hB6.size)
    go_wp2_with fail
    refine (HF2.out _ hB7).mono ?_
    rintro e w8 ⟨rfl, hb8⟩
    have hB8 := hB7.trans (hb8.mono hB7.size)
    go_wp2_with fail
    go_ret
    exact ⟨rfl, hB8⟩

end Go.Proofs.Ytfipogmndokhkaa
