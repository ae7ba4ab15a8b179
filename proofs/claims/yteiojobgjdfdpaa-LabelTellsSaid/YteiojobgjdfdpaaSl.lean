/- Walks: the reference's Few. -/
import Derived.Test.YteiojobgjdfdpaaQp
namespace Go.Proofs.Yteiojobgjdfdpaa
open Go.RowKit

def Few12P (n : Int) (l : List Am) (q : Int) : Prop := l.length ≤ 12 ∧ q ≤ 8 ∧ (n ≤ 6 ∨ 2000 < n) ∧ ∀ k, k < l.length → (am l k).a.lo.length ≤ 25 ∧ (am l k).a.hi.length ≤ 25
def Few12R (n : Int) (l : List Am) (q : Int) (w : World) (e : Ending) (w' : World) : Prop := ∃ r, e = .returned (.bool r) ∧ (r = true → Few12P n l q) ∧ w = w'
set_option maxRecDepth 100000 in
set_option maxHeartbeats 8000000 in
theorem few12_any (n q : Int) (l : List Am) (A : Option Addr) (c m : Nat) (w : World) (hl : l.length = m) (hA : ArcsAt w.heap.size w A l) (hm : m ≤ 9223372036854775807) :
    Calls Try.prog 27 #[.int .i64 n, .slice A m c, .int .i64 q] w (Few12R n l q w) := by
  have HA := Lib.hid (And.intro hl hA)
  clear hl hA
  go_enter Try.func27, Try.ntmps27
  go_wp2_with fail
  go_loop [7] (fun iv => ∃ i : Nat, iv = .int .i64 i ∧ i ≤ m ∧ i ≤ 13 ∧ Hid (∀ k, k < i → (am l k).a.lo.length ≤ 25 ∧ (am l k).a.hi.length ≤ 25)) (fun iv => m - (intOf iv).toNat)
  case atStart => exact ⟨0, rfl, by omega, by omega, Lib.hid (fun k hk => by omega)⟩
  case round =>
    obtain ⟨i, rfl, hi, hi2, hK⟩ := hrel
    by_cases hgo : i < m ∧ i ≤ 12
    · obtain ⟨g1, g2⟩ := hgo
      obtain ⟨b, off, hAe, hbB, k0, k1, k2, k3, kl, kh⟩ := HA.out.2 i (by have := HA.out.1; omega)
      subst hAe
      obtain ⟨n1, hn1⟩ : ∃ n1, (am l i).a.lo.length = n1 := ⟨_, rfl⟩
      obtain ⟨n2, hn2⟩ : ∃ n2, (am l i).a.hi.length = n2 := ⟨_, rfl⟩
      rw [hn1] at k2
      rw [hn2] at k3
      have HN := Lib.hid (And.intro hn1 hn2)
      have g2' : decide ((i : Int) ≤ 12) = true := decide_eq_true (by omega)
      have g2'' : decide (i ≤ 12) = true := decide_eq_true g2
      clear hn1 hn2 k0 k1 kl kh
      by_cases h1 : 25 < n1
      · have h1' : decide (25 < n1) = true := decide_eq_true h1
        have h1'' : decide (25 < (n1 : Int)) = true := decide_eq_true (by omega)
        go_wp2_with fail
        go_ret
        exact ⟨false, by rfl, by simp, rfl⟩
      have h1' : decide (25 < n1) = false := decide_eq_false h1
      have h1'' : decide (25 < (n1 : Int)) = false := decide_eq_false (by omega)
      by_cases h2 : 25 < n2
      · have h2' : decide (25 < n2) = true := decide_eq_true h2
        have h2'' : decide (25 < (n2 : Int)) = true := decide_eq_true (by omega)
        go_wp2_with fail
        go_ret
        exact ⟨false, by rfl, by simp, rfl⟩
      have h2' : decide (25 < n2) = false := decide_eq_false h2
      have h2'' : decide (25 < (n2 : Int)) = false := decide_eq_false (by omega)
      have HX := Lib.hid (And.intro h1 h2)
      clear h1 h2
      go_wp2_with fail
      go_round
      case rel => exact ⟨i + 1, rfl, by omega, by omega, Lib.hid (fun k hk => by
        by_cases e : k < i
        · exact hK.out k e
        · have : k = i := by omega
          subst this
          have := HX.out
          have := HN.out
          omega)⟩
      case measure => simp [intOf]; omega
    · have hfin : ∀ r : Bool, (r = true → m ≤ 12 ∧ q ≤ 8 ∧ (n ≤ 6 ∨ 2000 < n)) → r = true → Few12P n l q := fun r hr e => by
        obtain ⟨a, b0, b⟩ := hr e
        exact ⟨by rw [HA.out.1]; exact a, b0, b, fun k hk => hK.out k (by rw [HA.out.1] at hk; omega)⟩
      have HF := Lib.hid hfin; clear hfin
      by_cases g1 : i < m
      · have g2 : i = 13 := by omega
        subst g2
        have g3 : decide (m ≤ 12) = false := decide_eq_false (by omega)
        have g3' : decide ((m : Int) ≤ 12) = false := decide_eq_false (by omega)
        have g1' : decide (13 < m) = true := decide_eq_true g1
        have g1'' : decide (13 < (m : Int)) = true := decide_eq_true (by omega)
        go_wp2_with fail
        go_ret
        exact ⟨false, by rfl, by simp, rfl⟩
      · have g2 : i = m := by omega
        subst g2
        have g3 : decide (i ≤ 12) = decide ((i : Int) ≤ 12) := decide_eq_decide.2 (by omega)
        by_cases g4 : i ≤ 12
        · have g4' : decide ((i : Int) ≤ 12) = true := decide_eq_true (by omega)
          have g4'' : decide (i ≤ 12) = true := decide_eq_true g4
          by_cases g7 : q ≤ 8
          · by_cases g5 : n ≤ 6
            · have HY := Lib.hid (HF.out true (fun _ => ⟨g4, g7, .inl g5⟩))
              go_wp2_with fail
              go_ret
              exact ⟨true, by rfl, fun _ => HY.out trivial, rfl⟩
            · by_cases g6 : 2000 < n
              · have HY := Lib.hid (HF.out true (fun _ => ⟨g4, g7, .inr g6⟩))
                go_wp2_with fail
                go_ret
                exact ⟨true, by rfl, fun _ => HY.out trivial, rfl⟩
              · go_wp2_with fail
                go_ret
                exact ⟨false, by rfl, by simp, rfl⟩
          · go_wp2_with fail
            go_ret
            exact ⟨false, by rfl, by simp, rfl⟩
        · have g4' : decide ((i : Int) ≤ 12) = false := decide_eq_false (by omega)
          have g4'' : decide (i ≤ 12) = false := decide_eq_false g4
          go_wp2_with fail
          go_ret
          exact ⟨false, by rfl, by simp, rfl⟩

end Go.Proofs.Yteiojobgjdfdpaa
