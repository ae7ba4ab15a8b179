/- Walks of wire's writing functions, second part. -/
import Derived.Test.YtgocnjiabfmdpaaRWa
namespace Go.Proofs.Ytgocnjiabfmdpaa.Wire
set_option maxRecDepth 8000
open Go.RowKit

theorem digits_call {B : Nat} {n : Int} {v : Value} {l : List UInt8} {w : World} (h0 : 0 ≤ n) (h1 : n < 18446744073709551616) (hB : B ≤ w.heap.size) (hown : Own w B v l) (hm : l.length ≤ 140737488354000) :
    Calls Try.prog 100 #[v, .int .u64 n] w fun e w' => ∃ v', e = .returned v' ∧ Own w' B v' (l ++ dg n.toNat) ∧ Below B w w' :=
  appendDigits_any B n.toNat n v l w (by omega) h0 h1 hB hown hm

theorem negneg {n : Int} (h0 : n < 0) (h1 : -9223372036854775808 ≤ n) : IntKind.u64.wrap (-(IntKind.u64.wrap n)) = (n.natAbs : Int) := by
  rw [IntKind.wrap_u64, IntKind.wrap_u64]; omega

set_option maxHeartbeats 400000 in
theorem appendInt_any (B : Nat) (n : Int) (v : Value) (l : List UInt8) (w : World) (h0 : -9223372036854775808 ≤ n) (h1 : n ≤ 9223372036854775807) (hB : B ≤ w.heap.size) (hown : Own w B v l) (hm : l.length ≤ 140737488353000) :
    Calls Try.prog 101 #[v, .int .i64 n] w fun e w' => ∃ v', e = .returned v' ∧ Own w' B v' (l ++ encInt n) ∧ Below B w w' := by
  have hl := dg_len20 (n := n.natAbs) (by omega)
  have hl' := dg_len20 (n := n.toNat) (by omega)
  by_cases hn : n < 0
  · have he : encInt n = [45] ++ dg n.natAbs ++ [59] := by simp [encInt, hn]
    have HE := Lib.hid he; clear he
    have nn := negneg hn h0
    have NN := Lib.hid nn; clear nn
    go_enter Try.func101, Try.ntmps101
    go_wp2_with (first
      | (at_builtin; refine app1 rfl (.tmp 7) (.tmp 8) rfl B v l 45 45 rfl rfl hown rfl (by omega) hB ?_; intro v1 w1 hown1 hb1))
    rw [NN.out]
    have hs1 := hb1.size
    refine (digits_call (n := (n.natAbs : Int)) (by omega) (by omega) (by omega) hown1 (by simp only [List.length_append, List.length_cons, List.length_nil]; omega)).mono ?_
    rintro e w2 ⟨v2, rfl, hown2, hb2⟩
    have hs2 := hb2.size
    rw [Int.toNat_natCast] at hown2
    go_wp2_with (first
      | (at_builtin; refine app1 rfl (.tmp 13) (.tmp 14) rfl B v2 _ 59 59 rfl rfl hown2 rfl (by simp only [List.length_append, List.length_cons, List.length_nil]; omega) (by omega) ?_; intro v3 w3 hown3 hb3))
    go_ret
    exact ⟨v3, rfl, by rw [HE.out]; simpa only [List.append_assoc] using hown3, (hb1.trans hb2).trans hb3⟩
  · have he : encInt n = dg n.toNat ++ [59] := by simp [encInt, hn]
    have HE := Lib.hid he; clear he
    go_enter Try.func101, Try.ntmps101
    go_wp2_with fail
    refine (digits_call (by omega) (by omega) hB hown (by omega)).mono ?_
    rintro e w1 ⟨v1, rfl, hown1, hb1⟩
    have hs1 := hb1.size
    go_wp2_with (first
      | (at_builtin; refine app1 rfl (.tmp 19) (.tmp 20) rfl B v1 _ 59 59 rfl rfl hown1 rfl (by simp only [List.length_append]; omega) (by omega) ?_; intro v2 w2 hown2 hb2))
    go_ret
    exact ⟨_, rfl, by rw [HE.out, ← List.append_assoc]; exact hown2, hb1.trans hb2⟩

set_option maxHeartbeats 400000 in
theorem appendText_any (B : Nat) (t : ByteArray) (v : Value) (l : List UInt8) (w : World) (hB : B ≤ w.heap.size) (hown : Own w B v l) (hm : l.length + t.size ≤ 140737488353000) :
    Calls Try.prog 81 #[v, .string t] w fun e w' => ∃ v', e = .returned v' ∧ Own w' B v' (l ++ encText t.data.toList) ∧ Below B w w' := by
  have hl := dg_len20 (n := t.size) (by omega)
  have hsz : t.data.toList.length = t.size := Array.length_toList
  have he : encText t.data.toList = dg t.size ++ [58] ++ t.data.toList ++ [44] := by unfold encText; rw [hsz]
  have HE := Lib.hid he; clear he
  have HZ := Lib.hid hsz; clear hsz
  go_enter Try.func81, Try.ntmps81
  go_wp2_with fail
  refine (digits_call (n := (t.size : Int)) (by omega) (by omega) hB hown (by omega)).mono ?_
  rintro e w1 ⟨v1, rfl, hown1, hb1⟩
  have hs1 := hb1.size
  rw [Int.toNat_natCast] at hown1
  go_wp2_with (first
      | (at_builtin; refine app1 rfl (.tmp 9) (.tmp 10) rfl B v1 _ 58 58 rfl rfl hown1 rfl (by simp only [List.length_append]; omega) (by omega) ?_; intro v2 w2 hown2 hb2; have hs2 := hb2.size)
      | (at_builtin; refine appS rfl (.tmp 12) (.tmp 13) rfl B v2 _ t rfl hown2 rfl (by simp only [List.length_append, List.length_cons, List.length_nil]; omega) (by omega) ?_; intro v3 w3 hown3 hb3; have hs3 := hb3.size)
      | (at_builtin; refine app1 rfl (.tmp 14) (.tmp 15) rfl B v3 _ 44 44 rfl rfl hown3 rfl (by have := HZ.out; simp only [List.length_append, List.length_cons, List.length_nil]; omega) (by omega) ?_; intro v4 w4 hown4 hb4))
  go_ret
  exact ⟨v4, rfl, by rw [HE.out]; simpa only [List.append_assoc] using hown4, ((hb1.trans hb2).trans hb3).trans hb4⟩


/-- The ints of a slice at address a, in blocks below B. -/
def IntsAt (B : Nat) (w : World) (a : Option Addr) (zs : List Int) : Prop :=
  ∀ k, k < zs.length → ∃ b off, a = some ⟨b, off, none⟩ ∧ b < B ∧ w.cell? ⟨b, off + k, none⟩ = some (.int .i64 (zs.getD k 0))

def isI64 (n : Int) : Prop := -9223372036854775808 ≤ n ∧ n ≤ 9223372036854775807

theorem encInt_len {n : Int} (h : isI64 n) : (encInt n).length ≤ 22 := by
  unfold isI64 at h
  have hl := dg_len20 (n := n.natAbs) (by omega)
  have hl' := dg_len20 (n := n.toNat) (by omega)
  unfold encInt; split <;> simp <;> omega

theorem flat_take {α : Type} (f : α → List UInt8) (l : List α) (k : Nat) (h : k < l.length) : ((l.take (k + 1)).map f).flatten = ((l.take k).map f).flatten ++ f l[k] := by
  rw [List.take_succ_eq_append_getElem h, List.map_append, List.flatten_append]; simp

theorem flat_len {α : Type} (f : α → List UInt8) (c : Nat) : ∀ (l : List α), (∀ x ∈ l, (f x).length ≤ c) → (l.map f).flatten.length ≤ c * l.length
  | [], _ => by simp
  | x :: l, h => by
    have h1 := flat_len f c l (fun y hy => h y (List.mem_cons_of_mem _ hy))
    have h2 := h x List.mem_cons_self
    simp only [List.map_cons, List.flatten_cons, List.length_append, List.length_cons]
    rw [Nat.mul_add]; omega

theorem flat_take_len {α : Type} (f : α → List UInt8) (c : Nat) (l : List α) (k : Nat) (h : ∀ x ∈ l, (f x).length ≤ c) : ((l.take k).map f).flatten.length ≤ c * l.length := by
  refine Nat.le_trans (flat_len f c (l.take k) (fun x hx => h x (List.mem_of_mem_take hx))) (Nat.mul_le_mul_left _ ?_)
  rw [List.length_take]; omega

end Go.Proofs.Ytgocnjiabfmdpaa.Wire
