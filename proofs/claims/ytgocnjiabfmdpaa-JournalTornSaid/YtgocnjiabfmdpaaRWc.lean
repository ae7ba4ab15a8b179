/- Walks of wire's writing functions, third part: lists of strings, and the exported functions. -/
import Derived.Test.YtgocnjiabfmdpaaRWb
namespace Go.Proofs.Ytgocnjiabfmdpaa.Wire
set_option maxRecDepth 8000
open Go.RowKit

/-- The strings of a slice at address a, in blocks below B. -/
def StrsAt (B : Nat) (w : World) (a : Option Addr) (zs : List ByteArray) : Prop :=
  ∀ k, k < zs.length → ∃ b off, a = some ⟨b, off, none⟩ ∧ b < B ∧ w.cell? ⟨b, off + k, none⟩ = some (.string (zs.getD k ByteArray.empty))

def bts (s : ByteArray) : List UInt8 := s.data.toList
theorem bts_len (s : ByteArray) : (bts s).length = s.size := Array.length_toList
def encStr (s : ByteArray) : List UInt8 := encText (bts s)

theorem encStr_len {s : ByteArray} (h : s.size ≤ 1000000) : (encStr s).length ≤ 1000022 := by
  have hl := dg_len20 (n := s.size) (by omega)
  unfold encStr encText
  simp only [List.length_append, List.length_cons, List.length_nil, bts_len]; omega

theorem conv_own {w : World} {B : Nat} {v : Value} {l : List UInt8} (h : Own w B v l) : (convert 73 9 v).run Try.prog w = .ok (.string ⟨l.toArray⟩) w := by
  rcases h.2 with ⟨rfl, hn⟩ | ⟨g, cap, cur, rfl, hb, hg, hnc, hcm, hcs, htake⟩
  · have : l = [] := List.eq_nil_of_length_eq_zero hn
    subst this
    exact run_convert_bytes_nil w 73 5 Try.underlying73 Try.underlying5 0 0 9 Try.underlying9
  · have := run_convert_bytes_arg (P := Try.prog) w 73 5 Try.underlying73 Try.underlying5 g 0 l.length cap (l.map fun b => (b.toNat : Int)) (by simp) (fun i hi => by
      rw [Nat.zero_add]
      have h1 := World.ownsRow.cellAt h i (by omega)
      rw [h1]
      simp [bc, List.getElem?_eq_getElem hi]) 9 Try.underlying9
    rw [this]
    have hs : strOfNums (l.map fun b => (b.toNat : Int)) = (⟨l.toArray⟩ : ByteArray) := by
      have : l.map ((fun n : Int => UInt8.ofNat n.toNat) ∘ fun b : UInt8 => (b.toNat : Int)) = l := by
        conv => rhs; rw [← List.map_id l]
        exact List.map_congr_left (fun b _ => by simp)
      simp only [strOfNums, List.map_map, this]
    rw [hs]

def ba (l : List UInt8) : ByteArray := ⟨l.toArray⟩
theorem bts_ba (l : List UInt8) : bts (ba l) = l := rfl
theorem ba_bts (s : ByteArray) : ba (bts s) = s := by simp [ba, bts]

set_option maxHeartbeats 400000 in
theorem wInt_any (n : Int) (w : World) (hn : isI64 n) :
    Calls Try.prog 82 #[.int .i64 n] w fun e w' => e = .returned (.string (ba (encInt n))) ∧ Below w.heap.size w w' := by
  unfold isI64 at hn
  go_enter Try.func82, Try.ntmps82
  go_wp2_with fail
  refine (appendInt_any w.heap.size _ _ [] _ hn.1 hn.2 (Nat.le_refl _) (Own.nil _ _) (by simp)).mono ?_
  rintro e w1 ⟨v1, rfl, hown1, hb1⟩
  have hcv := conv_own hown1
  go_wp2_with fail
  go_ret
  exact ⟨rfl, hb1⟩

set_option maxHeartbeats 400000 in
theorem wNum_neg (n : Int) (w : World) (h0 : n < 0) :
    Calls Try.prog 52 #[.int .i64 n] w fun e w' => e = .returned (.string (ba [])) ∧ Below w.heap.size w w' := by
  go_enter Try.func52, Try.ntmps52
  go_wp2_with fail
  go_ret
  exact ⟨rfl, Below.refl _ _⟩
set_option maxHeartbeats 400000 in
theorem wNum_pos (n : Int) (w : World) (hn : isI64 n) (h0 : 0 ≤ n) :
    Calls Try.prog 52 #[.int .i64 n] w fun e w' => e = .returned (.string (ba (encInt n))) ∧ Below w.heap.size w w' := by
  have hn' := hn
  unfold isI64 at hn
  go_enter Try.func52, Try.ntmps52
  go_wp2_with fail
  refine (wInt_any n _ hn').mono ?_
  rintro e w1 ⟨rfl, hb1⟩
  go_wp2_with fail
  go_ret
  exact ⟨rfl, hb1⟩

set_option maxHeartbeats 400000 in
theorem wText_any (s : ByteArray) (w : World) (hn : s.size ≤ 10000000) :
    Calls Try.prog 51 #[.string s] w fun e w' => e = .returned (.string (ba (encStr s))) ∧ Below w.heap.size w w' := by
  go_enter Try.func51, Try.ntmps51
  go_wp2_with fail
  refine (appendText_any w.heap.size _ _ [] _ (Nat.le_refl _) (Own.nil _ _) (by simp only [List.length_nil]; omega)).mono ?_
  rintro e w1 ⟨v1, rfl, hown1, hb1⟩
  have hcv := conv_own hown1
  go_wp2_with fail
  go_ret
  exact ⟨rfl, hb1⟩

end Go.Proofs.Ytgocnjiabfmdpaa.Wire
