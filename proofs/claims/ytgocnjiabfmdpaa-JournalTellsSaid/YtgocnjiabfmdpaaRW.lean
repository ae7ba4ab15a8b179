/- Walks of wire's writing functions. Walks of wire's writing functions, second part. Walks of wire's writing functions, third part: lists of strings, and the exported functions. -/
import Derived.Test.YtgocnjiabfmdpaaRows
import Derived.Test.YtgocnjiabfmdpaaRP
import Derived.WalkKit
import Derived.WalkSpells
import Derived.WalkLawsBesides
import Derived.Lib.Hide
import Derived.Lib.AppendStr
namespace Go.Proofs.Ytgocnjiabfmdpaa.Wire
set_option maxRecDepth 8000
open Go.RowKit

theorem Try.info5 : (Try.prog.info? 5).map (fun i => (i.zero, i.size, i.bytes)) = some (some (.int .u8 0), 1, 1) := by kernel_rfl

/-- A slice value v of m bytes, the bytes l, owned from block B on. -/
def Own (w : World) (B : Nat) (v : Value) (l : List UInt8) : Prop := w.ownsRow B 5 1 v l.length (bc l)

theorem Own.nil (w : World) (B : Nat) : Own w B (.slice none 0 0) [] := World.ownsRow_nil w B 5 1

theorem Own.below {w w' : World} {B : Nat} {v : Value} {l : List UInt8} (h : Own w B v l) (hb : Below w.heap.size w w') : Own w' B v l :=
  World.ownsRow.kept (row := none) h ⟨hb.os, hb.tape, hb.output, hb.size, fun k hk _ => hb.block k hk⟩ (by cases v.ownBlock <;> simp)

theorem app1 {w : World} {ops : Array Oper} {rest : List Oper} {o : Oper} {a : Act} {Q : Exit → Act → World → Prop} (hgd : o.guard = none) (s x : Operand)
    (ho : o.op = .call { callee := .builtin .append, args := #[s, x], argTypes := #[73, 73] })
    (B : Nat) (v : Value) (l : List UInt8) (c : UInt8) (z : Int) (hz : z = (c.toNat : Int)) (hs : a.eval s = v) (hown : Own w B v l)
    (hx : a.eval x = .slice (some ⟨w.heap.size, 0, none⟩) 1 1) (hb : l.length ≤ 140737488355000) (hbase : B ≤ w.heap.size)
    (h : ∀ v' w', Own w' B v' (l ++ [c]) → Below B w w' → wpList Try.prog ops Q rest (a.put o.dst v') w') : wpList Try.prog ops Q (o :: rest) a (w.alloc (.cells #[.int .u8 z] 5)) := by
  subst hz
  obtain ⟨i0, hi, hz0, hz1, hz2⟩ := info_parts Try.info5
  refine wpList_append_own _ hgd s x 73 ho B 5 i0 (.int .u8 0) 1 1 Try.underlying73 hi hz0 hz1 hz2 rfl (by decide) _ _ _ hs (World.ownsRow.alloc hown _) ⟨w.heap.size, 0, none⟩ 1 1 [.int .u8 (c.toNat : Int)] hx rfl ?_ ?_ ?_ ?_ ?_ ?_
  · intro j u hj; match j, hj with | 0, hj => simp at hj; subst hj; simp [Addr.add]
  · intro u hu; simp at hu; subst hu; rfl
  · unfold maxLen; omega
  · omega
  · simp; omega
  · intro v' w1 hown' hgrow _
    refine h v' w1 ?_ ?_
    · unfold Own
      rw [bc_append, List.length_append]
      exact hown'
    · exact ((Below.refl B w).alloc hbase _).grown hgrow (by simp; omega) (fun k hk => (World.ownsRow.lt hown k hk).1)

theorem appS {w : World} {ops : Array Oper} {rest : List Oper} {o : Oper} {a : Act} {Q : Exit → Act → World → Prop} (hgd : o.guard = none) (s x : Operand)
    (ho : o.op = .call { callee := .builtin .append, args := #[s, x], argTypes := #[73, 9] })
    (B : Nat) (v : Value) (l : List UInt8) (t : ByteArray) (hs : a.eval s = v) (hown : Own w B v l)
    (hx : a.eval x = .string t) (hb : l.length + t.size ≤ 140737488355328) (hbase : B ≤ w.heap.size)
    (h : ∀ v' w', Own w' B v' (l ++ t.data.toList) → Below B w w' → wpList Try.prog ops Q rest (a.put o.dst v') w') : wpList Try.prog ops Q (o :: rest) a w := by
  obtain ⟨i0, hi, hz0, hz1, hz2⟩ := info_parts Try.info5
  refine Lib.wpList_append_own_string w hgd s x 73 9 ho B 5 i0 Try.underlying73 Try.underlying9 hi hz0 hz1 hz2 _ _ _ hs hown t hx ?_ hb hbase ?_
  · unfold maxLen; omega
  · intro v' w1 hown' hgrow _
    refine h v' w1 ?_ ?_
    · unfold Own
      rw [bc_append, List.length_append]
      exact hown'
    · exact (Below.refl B w).grown hgrow hbase (fun k hk => (World.ownsRow.lt hown k hk).1)

theorem dgb {n : Int} (h0 : 0 ≤ n) (h1 : n < 10) : 48 + n = ((UInt8.ofNat (48 + n.toNat)).toNat : Int) := by
  have : (UInt8.ofNat (48 + n.toNat)).toNat = 48 + n.toNat := by simp [UInt8.toNat_ofNat']; omega
  rw [this]; omega

set_option maxHeartbeats 400000 in
theorem appendDigits_any (B : Nat) (k : Nat) : ∀ (n : Int) (v : Value) (l : List UInt8) (w : World), n ≤ k → 0 ≤ n → n < 18446744073709551616 → B ≤ w.heap.size → Own w B v l → l.length ≤ 140737488354000 →
    Calls Try.prog 100 #[v, .int .u64 n] w fun e w' => ∃ v', e = .returned v' ∧ Own w' B v' (l ++ dg n.toNat) ∧ Below B w w' := by
  induction k using Nat.strongRecOn with
  | _ k ih =>
  intro n v l w hk h0 h1 hB hown hm
  by_cases hn : n < 10
  · have hd : dg n.toNat = [UInt8.ofNat (48 + (n % 10).toNat)] := by rw [dg_lt (by omega)]; congr 3; omega
    have HD := Lib.hid hd; clear hd
    go_enter Try.func100, Try.ntmps100
    go_wp2_with (first
      | (at_builtin; refine app1 rfl (.tmp 11) (.tmp 16) rfl B v l _ (48 + n % 10) (dgb (by omega) (by omega)) rfl hown rfl (by omega) hB ?_; intro v1 w1 hown1 hb1))
    go_ret
    exact ⟨_, rfl, by rw [HD.out]; exact hown1, hb1⟩
  · have hd : dg n.toNat = dg (n / 10).toNat ++ [UInt8.ofNat (48 + (n % 10).toNat)] := by
      rw [dg_ge (by omega)]; congr 3 <;> omega
    have HD := Lib.hid hd; clear hd
    have hl := dg_len20 (n := (n / 10).toNat) (by omega)
    go_enter Try.func100, Try.ntmps100
    go_wp2_with fail
    refine (ih (n / 10).toNat (by omega) (n / 10) v l _ (by omega) (by omega) (by omega) hB hown hm).mono ?_
    rintro e w1 ⟨v1, rfl, hown1, hb1⟩
    have hs1 := hb1.size
    go_wp2_with (first
      | (at_builtin; refine app1 rfl (.tmp 11) (.tmp 16) rfl B v1 _ _ (48 + n % 10) (dgb (by omega) (by omega)) rfl hown1 rfl (by simp; omega) (by omega) ?_; intro v2 w2 hown2 hb2))
    go_ret
    exact ⟨_, rfl, by rw [HD.out, ← List.append_assoc]; exact hown2, hb1.trans hb2⟩

end Go.Proofs.Ytgocnjiabfmdpaa.Wire

namespace Go.Proofs.Ytgocnjiabfmdpaa.Wire
set_option maxRecDepth 8000
open Go.RowKit

theorem digits_call {B : Nat} {n : Int} {v : Value} {l : List UInt8} {w : World} (h0 : 0 ≤ n) (h1 : n < 18446744073709551616) (hB : B ≤ w.heap.size) (hown : Own w B v l) (hm : l.length ≤ 140737488354000) :
    Calls Try.prog 100 #[v, .int .u64 n] w fun e w' => ∃ v', e = .returned v' ∧ Own w' B v' (l ++ dg n.toNat) ∧ Below B w w' :=
  appendDigits_any B n.toNat n v l w (by omega) h0 h1 hB hown hm

theorem negneg {n : Int} (h0 : n < 0) (h1 : -9223372036854775808 ≤ n) : IntKind.u64.wrap (-(IntKind.u64.wrap n)) = (n.natAbs : Int) := by
  rw [IntKind.wrap_u64, IntKind.wrap_u64]; omega

set_option maxHeartbeats 400000 in
theorem appendInt_any (B : Nat) (n : Int) (v : Value) (l : List UInt8) (w : World) (h0 : -9223372036854775808 ≤ n) (h1 : n ≤ 9223372036854775807) (hB : B ≤ w.heap.size) (hown : Own w B v l) (hm : l.length ≤ 140737488353000) :
    Calls Try.prog 101 #[v, .int .i64 n] w fun e w' => ∃ v', e = .returned v' ∧ Own w' B v' (l ++ encInt n) ∧ Below B w w' := by
  have hl := dg_len20 (n := n.natAbs) (by omega)
  have hl' := dg_len20 (n := n.toNat) (by omega)
  by_cases hn : n < 0
  · have he : encInt n = [45] ++ dg n.natAbs ++ [59] := by simp [encInt, hn]
    have HE := Lib.hid he; clear he
    have nn := negneg hn h0
    have NN := Lib.hid nn; clear nn
    go_enter Try.func101, Try.ntmps101
    go_wp2_with (first
      | (at_builtin; refine app1 rfl (.tmp 7) (.tmp 8) rfl B v l 45 45 rfl rfl hown rfl (by omega) hB ?_; intro v1 w1 hown1 hb1))
    rw [NN.out]
    have hs1 := hb1.size
    refine (digits_call (n := (n.natAbs : Int)) (by omega) (by omega) (by omega) hown1 (by simp only [List.length_append, List.length_cons, List.length_nil]; omega)).mono ?_
    rintro e w2 ⟨v2, rfl, hown2, hb2⟩
    have hs2 := hb2.size
    rw [Int.toNat_natCast] at hown2
    go_wp2_with (first
      | (at_builtin; refine app1 rfl (.tmp 13) (.tmp 14) rfl B v2 _ 59 59 rfl rfl hown2 rfl (by simp only [List.length_append, List.length_cons, List.length_nil]; omega) (by omega) ?_; intro v3 w3 hown3 hb3))
    go_ret
    exact ⟨v3, rfl, by rw [HE.out]; simpa only [List.append_assoc] using hown3, (hb1.trans hb2).trans hb3⟩
  · have he : encInt n = dg n.toNat ++ [59] := by simp [encInt, hn]
    have HE := Lib.hid he; clear he
    go_enter Try.func101, Try.ntmps101
    go_wp2_with fail
    refine (digits_call (by omega) (by omega) hB hown (by omega)).mono ?_
    rintro e w1 ⟨v1, rfl, hown1, hb1⟩
    have hs1 := hb1.size
    go_wp2_with (first
      | (at_builtin; refine app1 rfl (.tmp 19) (.tmp 20) rfl B v1 _ 59 59 rfl rfl hown1 rfl (by simp only [List.length_append]; omega) (by omega) ?_; intro v2 w2 hown2 hb2))
    go_ret
    exact ⟨_, rfl, by rw [HE.out, ← List.append_assoc]; exact hown2, hb1.trans hb2⟩

set_option maxHeartbeats 400000 in
theorem appendText_any (B : Nat) (t : ByteArray) (v : Value) (l : List UInt8) (w : World) (hB : B ≤ w.heap.size) (hown : Own w B v l) (hm : l.length + t.size ≤ 140737488353000) :
    Calls Try.prog 81 #[v, .string t] w fun e w' => ∃ v', e = .returned v' ∧ Own w' B v' (l ++ encText t.data.toList) ∧ Below B w w' := by
  have hl := dg_len20 (n := t.size) (by omega)
  have hsz : t.data.toList.length = t.size := Array.length_toList
  have he : encText t.data.toList = dg t.size ++ [58] ++ t.data.toList ++ [44] := by unfold encText; rw [hsz]
  have HE := Lib.hid he; clear he
  have HZ := Lib.hid hsz; clear hsz
  go_enter Try.func81, Try.ntmps81
  go_wp2_with fail
  refine (digits_call (n := (t.size : Int)) (by omega) (by omega) hB hown (by omega)).mono ?_
  rintro e w1 ⟨v1, rfl, hown1, hb1⟩
  have hs1 := hb1.size
  rw [Int.toNat_natCast] at hown1
  go_wp2_with (first
      | (at_builtin; refine app1 rfl (.tmp 9) (.tmp 10) rfl B v1 _ 58 58 rfl rfl hown1 rfl (by simp only [List.length_append]; omega) (by omega) ?_; intro v2 w2 hown2 hb2; have hs2 := hb2.size)
      | (at_builtin; refine appS rfl (.tmp 12) (.tmp 13) rfl B v2 _ t rfl hown2 rfl (by simp only [List.length_append, List.length_cons, List.length_nil]; omega) (by omega) ?_; intro v3 w3 hown3 hb3; have hs3 := hb3.size)
      | (at_builtin; refine app1 rfl (.tmp 14) (.tmp 15) rfl B v3 _ 44 44 rfl rfl hown3 rfl (by have := HZ.out; simp only [List.length_append, List.length_cons, List.length_nil]; omega) (by omega) ?_; intro v4 w4 hown4 hb4))
  go_ret
  exact ⟨v4, rfl, by rw [HE.out]; simpa only [List.append_assoc] using hown4, ((hb1.trans hb2).trans hb3).trans hb4⟩


/-- The ints of a slice at address a, in blocks below B. -/
def IntsAt (B : Nat) (w : World) (a : Option Addr) (zs : List Int) : Prop :=
  ∀ k, k < zs.length → ∃ b off, a = some ⟨b, off, none⟩ ∧ b < B ∧ w.cell? ⟨b, off + k, none⟩ = some (.int .i64 (zs.getD k 0))

def isI64 (n : Int) : Prop := -9223372036854775808 ≤ n ∧ n ≤ 9223372036854775807

theorem encInt_len {n : Int} (h : isI64 n) : (encInt n).length ≤ 22 := by
  unfold isI64 at h
  have hl := dg_len20 (n := n.natAbs) (by omega)
  have hl' := dg_len20 (n := n.toNat) (by omega)
  unfold encInt; split <;> simp <;> omega

theorem flat_take {α : Type} (f : α → List UInt8) (l : List α) (k : Nat) (h : k < l.length) : ((l.take (k + 1)).map f).flatten = ((l.take k).map f).flatten ++ f l[k] := by
  rw [List.take_succ_eq_append_getElem h, List.map_append, List.flatten_append]; simp

theorem flat_len {α : Type} (f : α → List UInt8) (c : Nat) : ∀ (l : List α), (∀ x ∈ l, (f x).length ≤ c) → (l.map f).flatten.length ≤ c * l.length
  | [], _ => by simp
  | x :: l, h => by
    have h1 := flat_len f c l (fun y hy => h y (List.mem_cons_of_mem _ hy))
    have h2 := h x List.mem_cons_self
    simp only [List.map_cons, List.flatten_cons, List.length_append, List.length_cons]
    rw [Nat.mul_add]; omega

theorem flat_take_len {α : Type} (f : α → List UInt8) (c : Nat) (l : List α) (k : Nat) (h : ∀ x ∈ l, (f x).length ≤ c) : ((l.take k).map f).flatten.length ≤ c * l.length := by
  refine Nat.le_trans (flat_len f c (l.take k) (fun x hx => h x (List.mem_of_mem_take hx))) (Nat.mul_le_mul_left _ ?_)
  rw [List.length_take]; omega

end Go.Proofs.Ytgocnjiabfmdpaa.Wire

namespace Go.Proofs.Ytgocnjiabfmdpaa.Wire
set_option maxRecDepth 8000
open Go.RowKit

/-- The strings of a slice at address a, in blocks below B. -/
def StrsAt (B : Nat) (w : World) (a : Option Addr) (zs : List ByteArray) : Prop :=
  ∀ k, k < zs.length → ∃ b off, a = some ⟨b, off, none⟩ ∧ b < B ∧ w.cell? ⟨b, off + k, none⟩ = some (.string (zs.getD k ByteArray.empty))

def bts (s : ByteArray) : List UInt8 := s.data.toList
theorem bts_len (s : ByteArray) : (bts s).length = s.size := Array.length_toList
def encStr (s : ByteArray) : List UInt8 := encText (bts s)

theorem encStr_len {s : ByteArray} (h : s.size ≤ 1000000) : (encStr s).length ≤ 1000022 := by
  have hl := dg_len20 (n := s.size) (by omega)
  unfold encStr encText
  simp only [List.length_append, List.length_cons, List.length_nil, bts_len]; omega

theorem conv_own {w : World} {B : Nat} {v : Value} {l : List UInt8} (h : Own w B v l) : (convert 73 9 v).run Try.prog w = .ok (.string ⟨l.toArray⟩) w := by
  rcases h.2 with ⟨rfl, hn⟩ | ⟨g, cap, cur, rfl, hb, hg, hnc, hcm, hcs, htake⟩
  · have : l = [] := List.eq_nil_of_length_eq_zero hn
    subst this
    exact run_convert_bytes_nil w 73 5 Try.underlying73 Try.underlying5 0 0 9 Try.underlying9
  · have := run_convert_bytes_arg (P := Try.prog) w 73 5 Try.underlying73 Try.underlying5 g 0 l.length cap (l.map fun b => (b.toNat : Int)) (by simp) (fun i hi => by
      rw [Nat.zero_add]
      have h1 := World.ownsRow.cellAt h i (by omega)
      rw [h1]
      simp [bc, List.getElem?_eq_getElem hi]) 9 Try.underlying9
    rw [this]
    have hs : strOfNums (l.map fun b => (b.toNat : Int)) = (⟨l.toArray⟩ : ByteArray) := by
      have : l.map ((fun n : Int => UInt8.ofNat n.toNat) ∘ fun b : UInt8 => (b.toNat : Int)) = l := by
        conv => rhs; rw [← List.map_id l]
        exact List.map_congr_left (fun b _ => by simp)
      simp only [strOfNums, List.map_map, this]
    rw [hs]

def ba (l : List UInt8) : ByteArray := ⟨l.toArray⟩
theorem bts_ba (l : List UInt8) : bts (ba l) = l := rfl
theorem ba_bts (s : ByteArray) : ba (bts s) = s := by simp [ba, bts]

set_option maxHeartbeats 400000 in
theorem wInt_any (n : Int) (w : World) (hn : isI64 n) :
    Calls Try.prog 82 #[.int .i64 n] w fun e w' => e = .returned (.string (ba (encInt n))) ∧ Below w.heap.size w w' := by
  unfold isI64 at hn
  go_enter Try.func82, Try.ntmps82
  go_wp2_with fail
  refine (appendInt_any w.heap.size _ _ [] _ hn.1 hn.2 (Nat.le_refl _) (Own.nil _ _) (by simp)).mono ?_
  rintro e w1 ⟨v1, rfl, hown1, hb1⟩
  have hcv := conv_own hown1
  go_wp2_with fail
  go_ret
  exact ⟨rfl, hb1⟩

set_option maxHeartbeats 400000 in
theorem wNum_neg (n : Int) (w : World) (h0 : n < 0) :
    Calls Try.prog 52 #[.int .i64 n] w fun e w' => e = .returned (.string (ba [])) ∧ Below w.heap.size w w' := by
  go_enter Try.func52, Try.ntmps52
  go_wp2_with fail
  go_ret
  exact ⟨rfl, Below.refl _ _⟩
set_option maxHeartbeats 400000 in
theorem wNum_pos (n : Int) (w : World) (hn : isI64 n) (h0 : 0 ≤ n) :
    Calls Try.prog 52 #[.int .i64 n] w fun e w' => e = .returned (.string (ba (encInt n))) ∧ Below w.heap.size w w' := by
  have hn' := hn
  unfold isI64 at hn
  go_enter Try.func52, Try.ntmps52
  go_wp2_with fail
  refine (wInt_any n _ hn').mono ?_
  rintro e w1 ⟨rfl, hb1⟩
  go_wp2_with fail
  go_ret
  exact ⟨rfl, hb1⟩

set_option maxHeartbeats 400000 in
theorem wText_any (s : ByteArray) (w : World) (hn : s.size ≤ 10000000) :
    Calls Try.prog 51 #[.string s] w fun e w' => e = .returned (.string (ba (encStr s))) ∧ Below w.heap.size w w' := by
  go_enter Try.func51, Try.ntmps51
  go_wp2_with fail
  refine (appendText_any w.heap.size _ _ [] _ (Nat.le_refl _) (Own.nil _ _) (by simp only [List.length_nil]; omega)).mono ?_
  rintro e w1 ⟨v1, rfl, hown1, hb1⟩
  have hcv := conv_own hown1
  go_wp2_with fail
  go_ret
  exact ⟨rfl, hb1⟩

end Go.Proofs.Ytgocnjiabfmdpaa.Wire
