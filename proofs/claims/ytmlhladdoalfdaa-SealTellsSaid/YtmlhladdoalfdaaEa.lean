/- Maps keyed by entries (a key and a text), whose elements are any values: look-ups and stores, as laws over a function. -/
import Derived.Test.YtmlhladdoalfdaaRows
import Derived.Maps.OwnSet
import Derived.Below
import Derived.Lib.Hide
import Derived.WalkKit
import Derived.DeepKeys4
import Derived.Lib.SmallJoins
import Derived.ProofKit
namespace Go.Proofs.Ytmlhladdoalfdaa
open Go.RowKit Go.Maps Go.MapKept Go.ChangeMaps

/-- An entry: its key and its text. -/
abbrev En := Int × ByteArray
/-- An entry as Go has it. -/
def env (p : En) : Value := .agg #[.int .i64 p.1, .string p.2]
def EnOk (p : En) : Prop := (-9223372036854775808 ≤ p.1 ∧ p.1 ≤ 9223372036854775807) ∧ p.2.size ≤ maxLen

theorem env_inj {p q : En} (h : env p = env q) : p = q := by
  unfold env at h
  simp at h
  exact Prod.ext h.1 h.2

theorem Try.laidOut : laidOutB Try.prog = true := by kernel_rfl
theorem Try.keyed : Keyed Try.prog 33 := Keyed.of_law (deep_law_laid Try.laidOut (m := 9999) (by decide) (by decide +kernel) (by kernel_rfl) (by kernel_rfl))
theorem Try.keyType : Try.prog.keyType 33 = true := by kernel_rfl

theorem Try.cellsEn : Try.prog.cellsOf 33 = 2 := by kernel_rfl
theorem Try.cellsI : Try.prog.cellsOf 3 = 1 := by kernel_rfl
theorem Try.cellsStr : Try.prog.cellsOf 9 = 1 := by kernel_rfl

theorem keyOf_env {p : En} (h : EnOk p) : ∃ l, keyOf Try.prog 33 (env p) = some l := by
  obtain ⟨m, hm⟩ : ∃ m, Try.prog.types.size = m + 1 := ⟨_, (by kernel_rfl : Try.prog.types.size = 76 + 1)⟩
  have w1 : (Lit.int .i64 p.1).wf = true := WalkArith.wf_i64 h.1
  unfold keyOf
  simp only [Try.underlying33]
  rw [if_pos (by rw [Try.keyType]; simp [env, Value.formed, Try.underlying33, Try.cellsEn]), hm]
  unfold Program.keyLits
  simp [Try.underlying33, env, Value.cells, Try.cellsEn, Try.cellsI, Try.cellsStr]
  simp [Program.keyLits, Try.underlying3, Try.underlying9, w1, h.2]

/-- The entries of a map from entries: f says which values lie at which entries. -/
def EEnt (es : Array MapEntry) (clock : Nat) (f : En → Option Value) : Prop :=
  Stamped es clock ∧ (∀ e ∈ es.toList, ∃ x, e.key = env x ∧ EnOk x ∧ f x = some e.val) ∧ ∀ x v, f x = some v → ∃ e ∈ es.toList, e.key = env x

/-- Block b is a map from entries that holds what f says. -/
def EMap (w : World) (b : Nat) (f : En → Option Value) : Prop := ∃ es clock, w.heap[b]? = some (.map es clock) ∧ EEnt es clock f

def lookRes (f : En → Option Value) (n : En) (z : Value) (c : Bool) : Value :=
  match f n with
  | some v => if c then .tuple #[v, .bool true] else v
  | none => if c then .tuple #[z, .bool false] else z

section
variable {w : World} {b : Nat} {f : En → Option Value} {t e : TypeId}

theorem EMap.lt (h : EMap w b f) : b < w.heap.size := by
  obtain ⟨es, clock, hb, _⟩ := h
  exact (Array.getElem?_eq_some_iff.1 hb).1

theorem EMap.same {w' : World} (h : EMap w b f) (hh : w'.heap[b]? = w.heap[b]?) : EMap w' b f := by
  obtain ⟨es, clock, hb, r⟩ := h
  exact ⟨es, clock, hh.trans hb, r⟩

theorem EMap.congr {g : En → Option Value} (h : EMap w b f) (hg : ∀ x, g x = f x) : EMap w b g := by
  have : g = f := funext hg
  rw [this]; exact h

theorem EMap.made (w : World) : EMap (w.alloc (.map #[] 0)) w.heap.size (fun _ => none) :=
  ⟨#[], 0, heap_alloc_new w _, ⟨by simp, by simp, by simp⟩, by simp, by simp⟩

theorem EMap.look (h : EMap w b f) (ht : Try.prog.underlying t = some (.map 33 e)) {x : En} (hx : EnOk x) (c : Bool) {z : Value} (hz : (zeroValue e).run Try.prog w = .ok z w) :
    (Instr.lookup t (.map (some b)) (env x) c).run Try.prog w = .ok (lookRes f x z c) w := by
  obtain ⟨es, clock, hb, hs, h1, h2⟩ := h
  have K := Try.keyed
  obtain ⟨l, hkey⟩ := keyOf_env hx
  rcases K.find w hkey es.toList (fun e he => by obtain ⟨y, hy, hw, _⟩ := h1 e he; rw [hy]; exact keyOf_env hw) with ⟨r1, r2⟩ | ⟨j, e0, r1, r2, r3⟩
  · have hf : f x = none := by
      cases hfx : f x with
      | none => rfl
      | some v =>
        obtain ⟨e, he, hek⟩ := h2 x v hfx
        exact absurd hek (r2 e he)
    simp [Instr.lookup, run_underlying ht, MapKept.run_getObj_map hb, K.check w _ hkey, r1, hz, Result.andThen, lookRes, hf]
  · have hm0 : e0 ∈ es.toList := List.mem_of_getElem? r2
    obtain ⟨y, hy, hw, hfy⟩ := h1 e0 hm0
    have : y = x := env_inj (hy.symm.trans r3)
    subst this
    simp [Instr.lookup, run_underlying ht, MapKept.run_getObj_map hb, K.check w _ hkey, r1, Result.andThen, lookRes, hfy]

theorem EMap.store (h : EMap w b f) (ht : Try.prog.underlying t = some (.map 33 e)) {x : En} (hx : EnOk x) (v : Value) :
    ∃ w', (Instr.mapUpdate t (.map (some b)) (env x) v).run Try.prog w = .ok () w' ∧ EMap w' b (fun y => if y = x then some v else f y) ∧ w.grownBy w' (some b) ∧ w'.heap.size = w.heap.size := by
  obtain ⟨es, clock, hb, hs, h1, h2⟩ := h
  have K := Try.keyed
  obtain ⟨l, hkey⟩ := keyOf_env hx
  have gr : ∀ o : Obj, w.grownBy (setBlock w b o) (some b) := fun o => ⟨rfl, rfl, rfl, by simp [setBlock], fun i _ hi => heap_setBlock_other hb _ (fun e => hi (by rw [e]))⟩
  rcases K.find w hkey es.toList (fun e he => by obtain ⟨y, hy, hw, _⟩ := h1 e he; rw [hy]; exact keyOf_env hw) with ⟨r1, r2⟩ | ⟨j, e0, r1, r2, r3⟩
  · refine ⟨setBlock w b (.map (es.push ⟨env x, v, clock⟩) (clock + 1)), ?_, ⟨_, _, heap_setBlock_same hb _, stamped_push hs r2, ?_, ?_⟩, gr _, by simp [setBlock]⟩
    · simp [Instr.mapUpdate, run_underlying ht, MapKept.run_getObj_map hb, K.check w false hkey, r1, MapKept.run_setObj_map _ hb, Result.andThen, setBlock]
    · intro e he
      simp only [Array.toList_push, List.mem_append, List.mem_singleton] at he
      rcases he with he | rfl
      · obtain ⟨y, hy, hw, hfy⟩ := h1 e he
        refine ⟨y, hy, hw, ?_⟩
        show (if y = x then some v else f y) = some e.val
        rw [if_neg]; exact hfy
        intro e1; subst e1; exact r2 e he hy
      · exact ⟨x, rfl, hx, by simp⟩
    · intro y u hu
      by_cases hyx : y = x
      · subst hyx; exact ⟨⟨env y, v, clock⟩, by simp, rfl⟩
      · simp only [if_neg hyx] at hu
        obtain ⟨e, he, hek⟩ := h2 y u hu
        exact ⟨e, by simp only [Array.toList_push, List.mem_append]; exact Or.inl he, hek⟩
  · have hj : es[j]? = some e0 := by simpa using r2
    have hm0 : e0 ∈ es.toList := List.mem_of_getElem? r2
    have hlist : (es.modify j (fun e' => { e' with key := env x, val := v })).toList = es.toList.set j { e0 with key := env x, val := v } := by rw [Array.toList_modify, ChangeMaps.modify_eq_set _ _ _ _ r2]
    have hjl : j < es.toList.length := (List.getElem?_eq_some_iff.1 r2).1
    have hnod := ((stamped_iff es clock).1 hs).2.2
    refine ⟨setBlock w b (.map (es.modify j (fun e' => { e' with key := env x, val := v })) clock), ?_, ⟨_, _, heap_setBlock_same hb _, stamped_modify hs _ _ (fun _ _ => rfl) (fun e' _ he' => by rw [hj] at he'; cases he'; exact r3.symm), ?_, ?_⟩, gr _, by simp [setBlock]⟩
    · simp [Instr.mapUpdate, run_underlying ht, MapKept.run_getObj_map hb, K.check w false hkey, r1, hj, r3, K.stays w hkey, MapKept.run_setObj_map _ hb, Result.andThen, setBlock]
    · intro e he
      rw [hlist] at he
      obtain ⟨i, hi, ex⟩ := List.getElem_of_mem he
      rw [List.getElem_set] at ex
      split at ex
      · subst ex; exact ⟨x, rfl, hx, by simp⟩
      · rename_i hne
        have hi' : i < es.toList.length := by simpa using hi
        have hm : e ∈ es.toList := ex ▸ List.getElem_mem hi'
        obtain ⟨y, hy, hw, hfy⟩ := h1 e hm
        refine ⟨y, hy, hw, ?_⟩
        show (if y = x then some v else f y) = some e.val
        rw [if_neg]; exact hfy
        intro e1; subst e1
        have := entry_eq_of_key hnod hm hm0 (hy.trans r3.symm)
        subst this
        have hb1 := ((stamped_iff es clock).1 hs).2.1
        have hj' : es.toList[j] = es.toList[i] := by rw [ex]; exact (List.getElem?_eq_some_iff.1 r2).2
        have h3 : (es.toList.map (·.born))[j]'(by simpa using hjl) = (es.toList.map (·.born))[i]'(by simpa using hi') := by simp only [List.getElem_map, hj']
        exact hne ((List.getElem_inj hb1).1 h3)
    · intro y u hu
      by_cases hyx : y = x
      · subst hyx
        exact ⟨{ e0 with key := env y, val := v }, by rw [hlist]; exact List.mem_iff_getElem.2 ⟨j, by simpa using hjl, by simp⟩, rfl⟩
      · simp only [if_neg hyx] at hu
        obtain ⟨e, he, hek⟩ := h2 y u hu
        obtain ⟨i, hi, rfl⟩ := List.getElem_of_mem he
        have hne : j ≠ i := by
          rintro rfl
          have : es.toList[j] = e0 := (List.getElem?_eq_some_iff.1 r2).2
          rw [this, r3] at hek
          exact hyx (env_inj hek).symm
        exact ⟨es.toList[i], by rw [hlist]; exact List.mem_iff_getElem.2 ⟨i, by simpa using hi, by rw [List.getElem_set_ne hne]⟩, hek⟩
end

section
variable (w : World) {ops : Array Oper} {rest : List Oper} {o : Oper} {a : Act} {Q : Exit → Act → World → Prop}

theorem wpList_look (hg : o.guard = none) (m x : Operand) (t : TypeId) (c : Bool) (hop : o.op = Op.lookup t m x c) (e : TypeId) (ht : Try.prog.underlying t = some (.map 33 e)) {z : Value} (hz : (zeroValue e).run Try.prog w = .ok z w)
    (b : Nat) (f : En → Option Value) (hm : a.eval m = .map (some b)) (h : EMap w b f) (n : En) (hx : a.eval x = env n) (hn : EnOk n) (r : Value) (hr : lookRes f n z c = r)
    (hK : wpList Try.prog ops Q rest (a.put o.dst r) w) : wpList Try.prog ops Q (o :: rest) a w := by
  subst hr
  refine wpList_plain hg fun K' hK' => ?_
  have hrun := h.look ht hn c hz
  unfold Oper.wp
  simp [execOp, hop, hm, hx, hrun, Result.andThen]
  exact hK' _ _ hK

theorem wpList_put (hg : o.guard = none) (m x v : Operand) (t : TypeId) (hop : o.op = Op.mapUpdate t m x v) (e : TypeId) (ht : Try.prog.underlying t = some (.map 33 e))
    (b : Nat) (f : En → Option Value) (hm : a.eval m = .map (some b)) (h : EMap w b f) (n : En) (hx : a.eval x = env n) (hn : EnOk n) (val : Value) (hv : a.eval v = val)
    (hK : ∀ w', EMap w' b (fun y => if y = n then some val else f y) → w.grownBy w' (some b) → w'.heap.size = w.heap.size → wpList Try.prog ops Q rest (a.put o.dst undef) w') : wpList Try.prog ops Q (o :: rest) a w := by
  refine wpList_plain hg fun K' hK' => ?_
  obtain ⟨w', hrun, r1, r2, r3⟩ := h.store ht hn val
  unfold Oper.wp
  simp [execOp, hop, hm, hx, hv, hrun, Result.andThen]
  exact hK' _ _ (hK w' r1 r2 r3)
end
end Go.Proofs.Ytmlhladdoalfdaa
