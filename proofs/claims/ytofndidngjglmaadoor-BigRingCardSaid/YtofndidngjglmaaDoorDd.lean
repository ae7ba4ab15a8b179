/- Walks: the library's calls that text makes, at a slice of strings of the call's own. -/
import Derived.Test.YtofndidngjglmaaDoorDc
import Derived.Lib.AppendIntMem
import Derived.Sort.OwnSorted
import Derived.Deep.LoopGhost
namespace Go.Proofs.YtofndidngjglmaaDoor
open Go.RowKit

/-- The table that Itoa reads. -/
def TB (w : World) : Prop := Lib.TabIs Tryd.prog w "internal/strconv.uint64pow10" .u64 Lib.pow10Tab
theorem TB.below {w w' : World} (h : TB w) (hb : Below w.heap.size w w') : TB w' := by
  unfold TB Lib.TabIs World.var? at *
  cases hg : Tryd.prog.globalNamed "internal/strconv.uint64pow10" with
  | none => rw [hg] at h; cases h
  | some g =>
    rw [hg] at h
    simp only [Option.bind_some] at h ⊢
    have hlt : g < w.heap.size := by
      rcases Nat.lt_or_ge g w.heap.size with h' | h'
      · exact h'
      · rw [Array.getElem?_eq_none h'] at h; cases h
    rw [hb.block g hlt]; exact h

/-- A string as a value. -/
def strV (l : List UInt8) : Value := .string (byt l)

theorem Tryd.info9 : (Tryd.prog.info? 9).map (fun i => (i.zero, i.size, i.bytes)) = some (some (.string ByteArray.empty), 1, 16) := by kernel_rfl

/-- A slice of strings that is owned from block B on. -/
def OwnS (w : World) (B : Nat) (v : Value) (l : List (List UInt8)) : Prop := w.ownsRow B 9 1 v l.length (l.map strV)
theorem OwnS.nil (w : World) (B : Nat) : OwnS w B (.slice none 0 0) [] := World.ownsRow_nil w B 9 1
theorem OwnS.below {w w' : World} {B : Nat} {v : Value} {l : List (List UInt8)} (h : OwnS w B v l) (hb : Below w.heap.size w w') : OwnS w' B v l :=
  World.ownsRow.kept (row := none) h ⟨hb.os, hb.tape, hb.output, hb.size, fun k hk _ => hb.block k hk⟩ (by cases v.ownBlock <;> simp)
theorem OwnI.away {w : World} {B B' : Nat} {u v : Value} {m : List Int} {l : List (List UInt8)} (h : OwnI w B u m) (h' : OwnS w B' v l) : u.ownBlock = none ∨ u.ownBlock ≠ v.ownBlock := by
  rcases h.2 with ⟨rfl, _⟩ | ⟨g, cap, cur, rfl, _, hg, _⟩
  · exact .inl rfl
  · right
    rcases h'.2 with ⟨rfl, _⟩ | ⟨g', cap', cur', rfl, _, hg', _⟩
    · intro e; cases e
    · intro e
      have e : g = g' := Option.some.inj e
      subst e
      rw [hg] at hg'
      cases hg'

theorem app1s {w : World} {ops : Array Oper} {rest : List Oper} {o : Oper} {a : Act} {Q : Exit → Act → World → Prop} (hgd : o.guard = none) (s x : Operand)
    (ho : o.op = .call { callee := .builtin .append, args := #[s, x], argTypes := #[60, 60] })
    (B : Nat) (v : Value) (l : List (List UInt8)) (c : List UInt8) (C : ByteArray) (hC : C = byt c) (hs : a.eval s = v) (hown : OwnS w B v l)
    (hx : a.eval x = .slice (some ⟨w.heap.size, 0, none⟩) 1 1) (hb : l.length ≤ 10000000) (hbase : B ≤ w.heap.size)
    (h : ∀ v' w', OwnS w' B v' (l ++ [c]) → Below B w w' → (∀ B2 u m, OwnI w B2 u m → OwnI w' B2 u m) → wpList Tryd.prog ops Q rest (a.put o.dst v') w') : wpList Tryd.prog ops Q (o :: rest) a (w.alloc (.cells #[.string C] 9)) := by
  subst hC
  obtain ⟨i0, hi, hz0, hz1, hz2⟩ := info_parts Tryd.info9
  refine wpList_append_own _ hgd s x 60 ho B 9 i0 (.string ByteArray.empty) 1 16 Tryd.underlying60 hi hz0 hz1 hz2 rfl (by decide) _ _ _ hs (World.ownsRow.alloc hown _) ⟨w.heap.size, 0, none⟩ 1 1 [.string (byt c)] hx rfl ?_ ?_ ?_ ?_ ?_ ?_
  · intro j u hj; match j, hj with | 0, hj => simp at hj; subst hj; simp [Addr.add]
  · intro u hu; simp at hu; subst hu; rfl
  · unfold maxLen; omega
  · omega
  · simp; omega
  · intro v' w1 hown' hgrow _
    refine h v' w1 ?_ ?_ ?_
    · unfold OwnS
      rw [List.map_append, List.length_append]
      exact hown'
    · exact ((Below.refl B w).alloc hbase _).grown hgrow (by simp; omega) (fun k hk => (World.ownsRow.lt hown k hk).1)
    · intro B2 u m hI
      have hI' : OwnI (w.alloc (.cells #[.string (byt c)] 9)) B2 u m := hI.below ((Below.refl _ w).alloc (Nat.le_refl _) _)
      exact World.ownsRow.kept hI' hgrow (OwnI.away hI hown)

theorem itoa_call (m : Int) (h0 : 0 ≤ m) (h1 : m ≤ 1099511627776) (w : World) (ht : TB w) :
    Calls Tryd.prog 41 #[.int .i64 m] w fun e w' => e = .returned (.string (byt (Lib.decDigits m.toNat))) ∧ Below w.heap.size w w' := by
  refine (Tryd.strconv_Itoa m (by omega) (by omega) w ht).mono ?_
  rintro e w' ⟨rfl, k, os, rfl⟩
  refine ⟨?_, Lib.below_grow _ w (Nat.le_refl _) k os⟩
  unfold Lib.itoa byt
  rw [if_neg (by omega)]

theorem repeatL_one (c : UInt8) (n : Nat) : Lib.repeatL [c] n = List.replicate n c := by
  induction n with
  | zero => rfl
  | succ n ih => rw [Lib.repeatL, ih, List.replicate_succ]; rfl

theorem repeat_call (S : ByteArray) (hS : S.size ≤ 12) (w : World) :
    Calls Tryd.prog 42 #[.string ⟨#[48]⟩, .int .i64 (12 - (S.size : Int))] w fun e w' => e = .returned (.string (byt (List.replicate (12 - S.size) 48))) ∧ Below w.heap.size w w' := by
  have h := Tryd.strings_Repeat ⟨#[48]⟩ (12 - S.size) w (by omega) (by
    have : (⟨#[48]⟩ : ByteArray).size = 1 := rfl
    rw [this]; omega)
  have e : ((12 - S.size : Nat) : Int) = 12 - (S.size : Int) := by omega
  rw [e] at h
  refine h.mono ?_
  rintro e w' ⟨rfl, hb⟩
  refine ⟨?_, hb⟩
  have : (⟨#[48]⟩ : ByteArray).data.toList = [48] := rfl
  rw [this, repeatL_one]
  rfl

theorem strV_enc : strV = encStr := rfl

theorem reverse_call {w : World} {B : Nat} {v : Value} {l : List (List UInt8)} (h : OwnS w B v l) (hl : l.length ≤ 10000000) :
    Calls Tryd.prog 43 #[v] w fun e w' => e = .returned (.tuple #[]) ∧ OwnS w' B v l.reverse ∧ Below B w w' := by
  rcases h.2 with ⟨rfl, hn⟩ | ⟨g, cap, cur, rfl, hb, hg, h1, h2, h3, h4⟩
  · have : l = [] := List.eq_nil_of_length_eq_zero hn
    subst this
    refine (Tryd.slices_Reverse_string_empty none 0 w).mono ?_
    rintro e w' ⟨rfl, rfl⟩
    exact ⟨rfl, OwnS.nil _ _, Below.refl _ _⟩
  · rw [Nat.mul_one, strV_enc] at h4
    refine (Tryd.slices_Reverse_string g 0 cap l w (holds_of_block hg h4) (by omega)).mono ?_
    rintro e w' ⟨rfl, n, rfl⟩
    refine ⟨rfl, ?_, ?_⟩
    · have := ownsRow_sorted (n := n) (os := #[]) (ss := l) (ts := l.reverse) (by simp) hb hg h1 h2 h3
      rw [Sort.grow_empty] at this
      unfold OwnS
      rw [strV_enc, List.length_reverse]
      exact this
    · have := (Below.refl B w).grown (grownBy_sorted (n := n) (w := w) (g := g) (os := #[]) l.reverse.toArray) (by have := (Array.getElem?_eq_some_iff.1 hg).1; omega) (fun k hk => by cases hk; exact hb)
      rw [Sort.grow_empty] at this
      exact this

theorem join_flat (xs : List (List UInt8)) : Lib.join xs [] = xs.flatten := by
  induction xs with
  | nil => rfl
  | cons x r ih =>
    cases r with
    | nil => rw [Lib.join_one]; simp
    | cons y r =>
      unfold Lib.join at *
      rw [List.flatten_cons, ← ih]
      simp [List.intercalate]

theorem join_call {w : World} {B : Nat} {v : Value} {l : List (List UInt8)} (h : OwnS w B v l) (hl : l.length ≤ 10000000) (h0 : l ≠ []) (hf : l.flatten.length ≤ 1000000) :
    Calls Tryd.prog 44 #[v, .string ⟨#[]⟩] w fun e w' => e = .returned (.string (byt l.flatten)) ∧ Below w.heap.size w w' := by
  rcases h.2 with ⟨rfl, hn⟩ | ⟨g, cap, cur, rfl, hb, hg, h1, h2, h3, h4⟩
  · exact absurd (List.eq_nil_of_length_eq_zero hn) h0
  · have e1 : (l.map byt).map (·.data.toList) = l := by
      rw [List.map_map]
      have : ((fun x : ByteArray => x.data.toList) ∘ byt) = id := by funext x; exact bts_byt x
      rw [this, List.map_id]
    have e2 : (⟨#[]⟩ : ByteArray).data.toList = [] := rfl
    have hj : Lib.join ((l.map byt).map (·.data.toList)) (⟨#[]⟩ : ByteArray).data.toList = l.flatten := by rw [e1, e2, join_flat]
    have hc := Tryd.strings_Join g 0 cap (l.map byt) ⟨#[]⟩ w (by
      intro j x hx
      rw [List.getElem?_map] at hx
      cases hlj : l[j]? with
      | none => rw [hlj] at hx; cases hx
      | some y =>
        rw [hlj] at hx
        have hx : byt y = x := Option.some.inj hx
        have hjl : j < l.length := by rcases Nat.lt_or_ge j l.length with h | h; exact h; rw [List.getElem?_eq_none h] at hlj; cases hlj
        have := (holds_of_block hg (by rw [Nat.mul_one, strV_enc] at h4; exact h4) j (by simpa using hjl)).1
        rw [this, ← hx]
        simp [encStr, byt, hjl]
        rw [List.getElem?_eq_getElem hjl] at hlj
        rw [Option.some.inj hlj]) (Array.getElem?_eq_some_iff.1 hg).1 (by rw [List.length_map]; omega) (by rw [List.length_map]; exact h1) (by rw [hj]; omega)
    rw [hj, List.length_map] at hc
    exact hc

end Go.Proofs.YtofndidngjglmaaDoor
