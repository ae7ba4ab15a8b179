/- Walks of wire's writing functions. -/
import Derived.Test.YtgocnjiabfmdpaaRows
import Derived.Test.YtgocnjiabfmdpaaRPlain
import Derived.WalkKit
import Derived.WalkSpells
import Derived.WalkLawsBesides
import Derived.Lib.Hide
import Derived.Lib.AppendStr
namespace Go.Proofs.Ytgocnjiabfmdpaa.Wire
set_option maxRecDepth 8000
open Go.RowKit

theorem Try.info5 : (Try.prog.info? 5).map (fun i => (i.zero, i.size, i.bytes)) = some (some (.int .u8 0), 1, 1) := by kernel_rfl

/-- A slice value v of m bytes, the bytes l, owned from block B on. -/
def Own (w : World) (B : Nat) (v : Value) (l : List UInt8) : Prop := w.ownsRow B 5 1 v l.length (bc l)

theorem Own.nil (w : World) (B : Nat) : Own w B (.slice none 0 0) [] := World.ownsRow_nil w B 5 1

theorem Own.below {w w' : World} {B : Nat} {v : Value} {l : List UInt8} (h : Own w B v l) (hb : Below w.heap.size w w') : Own w' B v l :=
  World.ownsRow.kept (row := none) h ⟨hb.os, hb.tape, hb.output, hb.size, fun k hk _ => hb.block k hk⟩ (by cases v.ownBlock <;> simp)

theorem app1 {w : World} {ops : Array Oper} {rest : List Oper} {o : Oper} {a : Act} {Q : Exit → Act → World → Prop} (hgd : o.guard = none) (s x : Operand)
    (ho : o.op = .call { callee := .builtin .append, args := #[s, x], argTypes := #[73, 73] })
    (B : Nat) (v : Value) (l : List UInt8) (c : UInt8) (z : Int) (hz : z = (c.toNat : Int)) (hs : a.eval s = v) (hown : Own w B v l)
    (hx : a.eval x = .slice (some ⟨w.heap.size, 0, none⟩) 1 1) (hb : l.length ≤ 140737488355000) (hbase : B ≤ w.heap.size)
    (h : ∀ v' w', Own w' B v' (l ++ [c]) → Below B w w' → wpList Try.prog ops Q rest (a.put o.dst v') w') : wpList Try.prog ops Q (o :: rest) a (w.alloc (.cells #[.int .u8 z] 5)) := by
  subst hz
  obtain ⟨i0, hi, hz0, hz1, hz2⟩ := info_parts Try.info5
  refine wpList_append_own _ hgd s x 73 ho B 5 i0 (.int .u8 0) 1 1 Try.underlying73 hi hz0 hz1 hz2 rfl (by decide) _ _ _ hs (World.ownsRow.alloc hown _) ⟨w.heap.size, 0, none⟩ 1 1 [.int .u8 (c.toNat : Int)] hx rfl ?_ ?_ ?_ ?_ ?_ ?_
  · intro j u hj; match j, hj with | 0, hj => simp at hj; subst hj; simp [Addr.add]
  · intro u hu; simp at hu; subst hu; rfl
  · unfold maxLen; omega
  · omega
  · simp; omega
  · intro v' w1 hown' hgrow _
    refine h v' w1 ?_ ?_
    · unfold Own
      rw [bc_append, List.length_append]
      exact hown'
    · exact ((Below.refl B w).alloc hbase _).grown hgrow (by simp; omega) (fun k hk => (World.ownsRow.lt hown k hk).1)

theorem appS {w : World} {ops : Array Oper} {rest : List Oper} {o : Oper} {a : Act} {Q : Exit → Act → World → Prop} (hgd : o.guard = none) (s x : Operand)
    (ho : o.op = .call { callee := .builtin .append, args := #[s, x], argTypes := #[73, 9] })
    (B : Nat) (v : Value) (l : List UInt8) (t : ByteArray) (hs : a.eval s = v) (hown : Own w B v l)
    (hx : a.eval x = .string t) (hb : l.length + t.size ≤ 140737488355328) (hbase : B ≤ w.heap.size)
    (h : ∀ v' w', Own w' B v' (l ++ t.data.toList) → Below B w w' → wpList Try.prog ops Q rest (a.put o.dst v') w') : wpList Try.prog ops Q (o :: rest) a w := by
  obtain ⟨i0, hi, hz0, hz1, hz2⟩ := info_parts Try.info5
  refine Lib.wpList_append_own_string w hgd s x 73 9 ho B 5 i0 Try.underlying73 Try.underlying9 hi hz0 hz1 hz2 _ _ _ hs hown t hx ?_ hb hbase ?_
  · unfold maxLen; omega
  · intro v' w1 hown' hgrow _
    refine h v' w1 ?_ ?_
    · unfold Own
      rw [bc_append, List.length_append]
      exact hown'
    · exact (Below.refl B w).grown hgrow hbase (fun k hk => (World.ownsRow.lt hown k hk).1)

theorem dgb {n : Int} (h0 : 0 ≤ n) (h1 : n < 10) : 48 + n = ((UInt8.ofNat (48 + n.toNat)).toNat : Int) := by
  have : (UInt8.ofNat (48 + n.toNat)).toNat = 48 + n.toNat := by simp [UInt8.toNat_ofNat']; omega
  rw [this]; omega

set_option maxHeartbeats 400000 in
theorem appendDigits_any (B : Nat) (k : Nat) : ∀ (n : Int) (v : Value) (l : List UInt8) (w : World), n ≤ k → 0 ≤ n → n < 18446744073709551616 → B ≤ w.heap.size → Own w B v l → l.length ≤ 140737488354000 →
    Calls Try.prog 100 #[v, .int .u64 n] w fun e w' => ∃ v', e = .returned v' ∧ Own w' B v' (l ++ dg n.toNat) ∧ Below B w w' := by
  induction k using Nat.strongRecOn with
  | _ k ih =>
  intro n v l w hk h0 h1 hB hown hm
  by_cases hn : n < 10
  · have hd : dg n.toNat = [UInt8.ofNat (48 + (n % 10).toNat)] := by rw [dg_lt (by omega)]; congr 3; omega
    have HD := Lib.hid hd; clear hd
    go_enter Try.func100, Try.ntmps100
    go_wp2_with (first
      | (at_builtin; refine app1 rfl (.tmp 11) (.tmp 16) rfl B v l _ (48 + n % 10) (dgb (by omega) (by omega)) rfl hown rfl (by omega) hB ?_; intro v1 w1 hown1 hb1))
    go_ret
    exact ⟨_, rfl, by rw [HD.out]; exact hown1, hb1⟩
  · have hd : dg n.toNat = dg (n / 10).toNat ++ [UInt8.ofNat (48 + (n % 10).toNat)] := by
      rw [dg_ge (by omega)]; congr 3 <;> omega
    have HD := Lib.hid hd; clear hd
    have hl := dg_len20 (n := (n / 10).toNat) (by omega)
    go_enter Try.func100, Try.ntmps100
    go_wp2_with fail
    refine (ih (n / 10).toNat (by omega) (n / 10) v l _ (by omega) (by omega) (by omega) hB hown hm).mono ?_
    rintro e w1 ⟨v1, rfl, hown1, hb1⟩
    have hs1 := hb1.size
    go_wp2_with (first
      | (at_builtin; refine app1 rfl (.tmp 11) (.tmp 16) rfl B v1 _ _ (48 + n % 10) (dgb (by omega) (by omega)) rfl hown1 rfl (by simp; omega) (by omega) ?_; intro v2 w2 hown2 hb2))
    go_ret
    exact ⟨_, rfl, by rw [HD.out, ← List.append_assoc]; exact hown2, hb1.trans hb2⟩

end Go.Proofs.Ytgocnjiabfmdpaa.Wire
