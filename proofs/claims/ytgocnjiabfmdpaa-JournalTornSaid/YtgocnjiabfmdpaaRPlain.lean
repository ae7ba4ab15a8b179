/- Plain facts on decimal digits and on the encodings, over lists of bytes. No program. -/
import Derived.Below
import Derived.OwnWalk
namespace Go.Proofs.Ytgocnjiabfmdpaa.Wire
set_option maxRecDepth 8000
open Go.RowKit

/-- The decimal digits of a number. -/
def dg (n : Nat) : List UInt8 := if h : n < 10 then [UInt8.ofNat (48 + n)] else dg (n / 10) ++ [UInt8.ofNat (48 + n % 10)]
termination_by n
decreasing_by omega

theorem dg_lt {n : Nat} (h : n < 10) : dg n = [UInt8.ofNat (48 + n)] := by rw [dg, dif_pos h]
theorem dg_ge {n : Nat} (h : ¬ n < 10) : dg n = dg (n / 10) ++ [UInt8.ofNat (48 + n % 10)] := by rw [dg, dif_neg h]

theorem dg_len (k : Nat) : ∀ n, n < 10 ^ (k + 1) → (dg n).length ≤ k + 1 := by
  induction k with
  | zero => intro n h; rw [dg_lt (by simpa using h)]; simp
  | succ k ih =>
    intro n h
    by_cases hn : n < 10
    · rw [dg_lt hn]; simp
    · rw [dg_ge hn]
      have := ih (n / 10) (by rw [Nat.div_lt_iff_lt_mul (by omega)]; rw [Nat.pow_succ] at h; omega)
      simp; omega
theorem dg_len20 {n : Nat} (h : n < 18446744073709551616) : (dg n).length ≤ 20 := dg_len 19 n (by omega)
theorem dg_pos (n : Nat) : 1 ≤ (dg n).length := by rw [dg]; split <;> simp

/-- Bytes as cells. -/
def bc (l : List UInt8) : List Value := l.map fun b => Value.int .u8 (b.toNat : Int)
theorem bc_append (a b : List UInt8) : bc (a ++ b) = bc a ++ bc b := by simp [bc]
theorem bc_length (a : List UInt8) : (bc a).length = a.length := by simp [bc]
theorem bc_digit {n : Int} (h0 : 0 ≤ n) (h1 : n < 10) : bc [UInt8.ofNat (48 + n.toNat)] = [Value.int .u8 (48 + n)] := by
  have : (UInt8.ofNat (48 + n.toNat)).toNat = 48 + n.toNat := by simp [UInt8.toNat_ofNat']; omega
  simp only [bc, List.map_cons, List.map_nil, this]
  congr 2; omega

def encNat (n : Nat) : List UInt8 := dg n ++ [59]
def encInt (n : Int) : List UInt8 := if n < 0 then 45 :: (dg n.natAbs ++ [59]) else dg n.toNat ++ [59]
def encText (s : List UInt8) : List UInt8 := dg s.length ++ [58] ++ s ++ [44]
def encList (l : List (List UInt8)) : List UInt8 := dg l.length ++ [91] ++ l.flatten ++ [93]

end Go.Proofs.Ytgocnjiabfmdpaa.Wire
