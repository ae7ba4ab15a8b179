/- Walks: share's small functions. -/
import Derived.Test.YtfipogmndokhkaaUb
import Derived.Test.YtfipogmndokhkaaM
import Derived.Lib.MinMax
import Derived.BigQuiet
import Derived.Deep.QuietTactic
namespace Go.Proofs.Ytfipogmndokhkaa
open Go.RowKit

theorem inField_any (y : Int) (w : World) (b : Bool) (hb : b = (decide (0 ≤ y) && decide (y < 2147483647))) :
    Calls Try.prog 18 #[.int .i64 y] w fun e w' => e = .returned (.bool b) ∧ w = w' := by
  by_cases h0 : 0 ≤ y
  · by_cases h1 : y < 2147483647
    · have : b = true := by rw [hb]; simp [h0, h1]
      subst this
      clear hb
      go_enter Try.func18, Try.ntmps18
      go_wp2_with fail
      go_ret
      exact ⟨rfl, rfl⟩
    · have : b = false := by rw [hb]; simp [h1]
      subst this
      clear hb
      go_enter Try.func18, Try.ntmps18
      go_wp2_with fail
      go_ret
      exact ⟨rfl, rfl⟩
  · have : b = false := by rw [hb]; simp [h0]
    subst this
    clear hb
    go_enter Try.func18, Try.ntmps18
    go_wp2_with fail
    go_ret
    exact ⟨rfl, rfl⟩

theorem and_low31 (x : Int) : bits BinOp.and IntKind.i64 x 2147483647 = x % 2147483648 := by
  obtain ⟨a, ha⟩ : ∃ a : Nat, x % 18446744073709551616 = a := ⟨(x % 18446744073709551616).toNat, by omega⟩
  have h2 : (BitVec.ofInt 64 x).toNat = a := by rw [BitVec.toNat_ofInt]; show (x % 18446744073709551616).toNat = a; omega
  have h3 : (BitVec.ofInt 64 2147483647).toNat = 2147483647 := by decide
  have h4 : a &&& 2147483647 = a % 2147483648 := Nat.and_two_pow_sub_one_eq_mod a 31
  have h5 : (BitVec.ofInt 64 x &&& BitVec.ofInt 64 2147483647).toNat = a % 2147483648 := by rw [BitVec.toNat_and, h2, h3, h4]
  have h6 : bits BinOp.and IntKind.i64 x 2147483647 = IntKind.i64.wrap ((BitVec.ofInt 64 x &&& BitVec.ofInt 64 2147483647).toNat : Int) := rfl
  rw [h6, h5, IntKind.wrap_i64]
  omega

theorem low31_any (x : Int) (w : World) :
    Calls Try.prog 27 #[.int .i64 x] w fun e w' => e = .returned (.int .i64 (x % 2147483648)) ∧ w = w' := by
  go_enter Try.func27, Try.ntmps27
  go_wp2_with fail
  go_ret
  exact ⟨by rw [and_low31]; rfl, rfl⟩

theorem tmod_pr (n : Int) : ∃ M, n.tmod 2147483647 = M ∧ -2147483647 < M ∧ M < 2147483647 ∧ (M + 2147483647) % 2147483647 = n % 2147483647 := by
  refine ⟨_, rfl, ?_⟩
  rcases Int.lt_or_le n 0 with h | h
  · obtain ⟨k, rfl⟩ : ∃ k, n = -k := ⟨-n, by omega⟩
    rw [Int.neg_tmod, Int.tmod_eq_emod_of_nonneg (by omega)]
    omega
  · rw [Int.tmod_eq_emod_of_nonneg h]
    omega

theorem minus_any (a b : Int) (w : World) (h0 : 0 ≤ a) (h1 : a < 2147483647) (h2 : 0 ≤ b) (h3 : b < 2147483647) :
    Calls Try.prog 28 #[.int .i64 a, .int .i64 b] w fun e w' => ∃ z, e = .returned (.int .i64 z) ∧ 0 ≤ z ∧ z < 2147483647 ∧ Cg z (a - b) ∧ w = w' := by
  obtain ⟨M, hM⟩ : ∃ M, (a - b + 2147483647).tmod 2147483647 = M := ⟨_, rfl⟩
  have HM := Lib.hid hM
  go_enter Try.func28, Try.ntmps28
  go_wp2_with fail
  go_ret
  have e := HM.out
  rw [Int.tmod_eq_emod_of_nonneg (by omega)] at e
  exact ⟨_, rfl, by omega, by omega, (Cg.of_eq e.symm).trans ((Cg.mod _).trans ⟨1, by omega⟩), rfl⟩

theorem mod_any (n : Int) (w : World) :
    Calls Try.prog 16 #[.int .i64 n] w fun e w' => e = .returned (.int .i64 (n % 2147483647)) ∧ w = w' := by
  obtain ⟨M, hM, hl, hu, hmm⟩ := tmod_pr n
  obtain ⟨N, hN⟩ : ∃ N, (M + 2147483647).tmod 2147483647 = N := ⟨_, rfl⟩
  have hMN : N = n % 2147483647 := by
    rw [← hN, Int.tmod_eq_emod_of_nonneg (by omega)]
    exact hmm
  clear hmm
  have HMN := Lib.hid hMN; clear hMN
  go_enter Try.func16, Try.ntmps16
  go_wp2_with fail
  go_ret
  exact ⟨by rw [HMN.out]; rfl, rfl⟩

end Go.Proofs.Ytfipogmndokhkaa
