/- Maps keyed by ints, whose elements are any values: look-ups, stores, and ranging in whatever order. How the program's disk lies in memory; what a call may turn. put: bytes put into a slice of bytes at an offset; and the laws of append and copy that it rests on. Walk of put. -/
import Derived.Maps.RangeWalk
import Derived.Maps.OwnSet
import Derived.Below
import Derived.Lib.Hide
import Derived.WalkKit
import Derived.Test.YtgocnjiabfmdpaaRows
import Derived.Test.YtgocnjiabfmdpaaDP
import Derived.WalkSpells
import Derived.WalkLawsBesides
import Derived.Maps.AppendAt
import Derived.Laws.CopyOwn
import Derived.Laws.OwnMore
import Derived.Deep.AppendLies
import Derived.Lib.AppendZerosOnto
import Derived.Lib.AppendStr
import Derived.Outline
namespace Go.Proofs.Ytgocnjiabfmdpaa
set_option maxRecDepth 8000
open Go.RowKit Go.Maps Go.MapKept Go.ChangeMaps


def isI64 (n : Int) : Prop := -9223372036854775808 ≤ n ∧ n ≤ 9223372036854775807

theorem wfI {n : Int} (h : isI64 n) : (Lit.int .i64 n).wf = true := WalkArith.wf_i64 h

/-- The entries of a map from ints: f says which values lie at which ints. -/
def IEnt (es : Array MapEntry) (clock : Nat) (f : Int → Option Value) : Prop :=
  Stamped es clock ∧ (∀ e ∈ es.toList, ∃ x, e.key = .int .i64 x ∧ isI64 x ∧ f x = some e.val) ∧ ∀ x v, f x = some v → ∃ e ∈ es.toList, e.key = .int .i64 x

/-- Block b is a map from ints that holds what f says. -/
def IMap (w : World) (b : Nat) (f : Int → Option Value) : Prop := ∃ es clock, w.heap[b]? = some (.map es clock) ∧ IEnt es clock f

def lookRes (f : Int → Option Value) (n : Int) (z : Value) (c : Bool) : Value :=
  match f n with
  | some v => if c then .tuple #[v, .bool true] else v
  | none => if c then .tuple #[z, .bool false] else z

section
variable {P : Program} {w : World} {b : Nat} {f : Int → Option Value} {t k e : TypeId}

theorem IMap.lt (h : IMap w b f) : b < w.heap.size := by
  obtain ⟨es, clock, hb, _⟩ := h
  exact (Array.getElem?_eq_some_iff.1 hb).1

theorem IMap.same {w' : World} (h : IMap w b f) (hh : w'.heap[b]? = w.heap[b]?) : IMap w' b f := by
  obtain ⟨es, clock, hb, r⟩ := h
  exact ⟨es, clock, hh.trans hb, r⟩

theorem IMap.congr {g : Int → Option Value} (h : IMap w b f) (hg : ∀ x, g x = f x) : IMap w b g := by
  have : g = f := funext hg
  rw [this]; exact h

theorem IMap.made (w : World) : IMap (w.alloc (.map #[] 0)) w.heap.size (fun _ => none) :=
  ⟨#[], 0, heap_alloc_new w _, ⟨by simp, by simp, by simp⟩, by simp, by simp⟩

theorem IMap.look (h : IMap w b f) (hk : P.underlying k = some (.int .i64)) (ht : P.underlying t = some (.map k e)) {x : Int} (hx : isI64 x) (c : Bool) {z : Value} (hz : (zeroValue e).run P w = .ok z w) :
    (Instr.lookup t (.map (some b)) (.int .i64 x) c).run P w = .ok (lookRes f x z c) w := by
  obtain ⟨es, clock, hb, hs, h1, h2⟩ := h
  have K : Keyed P k := int_keyed hk
  have hkey := keyOf_int_mk hk (wfI hx)
  rcases K.find w hkey es.toList (fun e he => by obtain ⟨y, hy, hw, _⟩ := h1 e he; exact ⟨_, by rw [hy]; exact keyOf_int_mk hk (wfI hw)⟩) with ⟨r1, r2⟩ | ⟨j, e0, r1, r2, r3⟩
  · have hf : f x = none := by
      cases hfx : f x with
      | none => rfl
      | some v =>
        obtain ⟨e, he, hek⟩ := h2 x v hfx
        exact absurd hek (r2 e he)
    simp [Instr.lookup, run_underlying ht, MapKept.run_getObj_map hb, K.check w _ hkey, r1, hz, Result.andThen, lookRes, hf]
  · have hm0 : e0 ∈ es.toList := List.mem_of_getElem? r2
    obtain ⟨y, hy, hw, hfy⟩ := h1 e0 hm0
    have : y = x := by rw [r3] at hy; injection hy with _ hy; exact hy.symm
    subst this
    simp [Instr.lookup, run_underlying ht, MapKept.run_getObj_map hb, K.check w _ hkey, r1, Result.andThen, lookRes, hfy]

theorem IMap.store (h : IMap w b f) (hk : P.underlying k = some (.int .i64)) (ht : P.underlying t = some (.map k e)) {x : Int} (hx : isI64 x) (v : Value) :
    ∃ w', (Instr.mapUpdate t (.map (some b)) (.int .i64 x) v).run P w = .ok () w' ∧ IMap w' b (fun y => if y = x then some v else f y) ∧ w.grownBy w' (some b) ∧ w'.heap.size = w.heap.size := by
  obtain ⟨es, clock, hb, hs, h1, h2⟩ := h
  have K : Keyed P k := int_keyed hk
  have hkey := keyOf_int_mk hk (wfI hx)
  have gr : ∀ o : Obj, w.grownBy (setBlock w b o) (some b) := fun o => ⟨rfl, rfl, rfl, by simp [setBlock], fun i _ hi => heap_setBlock_other hb _ (fun e => hi (by rw [e]))⟩
  rcases K.find w hkey es.toList (fun e he => by obtain ⟨y, hy, hw, _⟩ := h1 e he; exact ⟨_, by rw [hy]; exact keyOf_int_mk hk (wfI hw)⟩) with ⟨r1, r2⟩ | ⟨j, e0, r1, r2, r3⟩
  · refine ⟨setBlock w b (.map (es.push ⟨.int .i64 x, v, clock⟩) (clock + 1)), ?_, ⟨_, _, heap_setBlock_same hb _, stamped_push hs r2, ?_, ?_⟩, gr _, by simp [setBlock]⟩
    · simp [Instr.mapUpdate, run_underlying ht, MapKept.run_getObj_map hb, K.check w false hkey, r1, MapKept.run_setObj_map _ hb, Result.andThen, setBlock]
    · intro e he
      simp only [Array.toList_push, List.mem_append, List.mem_singleton] at he
      rcases he with he | rfl
      · obtain ⟨y, hy, hw, hfy⟩ := h1 e he
        refine ⟨y, hy, hw, ?_⟩
        show (if y = x then some v else f y) = some e.val
        rw [if_neg]; exact hfy
        intro e1; subst e1; exact r2 e he hy
      · exact ⟨x, rfl, hx, by simp⟩
    · intro y u hu
      by_cases hyx : y = x
      · subst hyx; exact ⟨⟨.int .i64 y, v, clock⟩, by simp, rfl⟩
      · simp only [if_neg hyx] at hu
        obtain ⟨e, he, hek⟩ := h2 y u hu
        exact ⟨e, by simp only [Array.toList_push, List.mem_append]; exact Or.inl he, hek⟩
  · have hj : es[j]? = some e0 := by simpa using r2
    have hm0 : e0 ∈ es.toList := List.mem_of_getElem? r2
    have hlist : (es.modify j (fun e' => { e' with key := .int .i64 x, val := v })).toList = es.toList.set j { e0 with key := .int .i64 x, val := v } := by rw [Array.toList_modify, ChangeMaps.modify_eq_set _ _ _ _ r2]
    have hjl : j < es.toList.length := (List.getElem?_eq_some_iff.1 r2).1
    have hnod := ((stamped_iff es clock).1 hs).2.2
    refine ⟨setBlock w b (.map (es.modify j (fun e' => { e' with key := .int .i64 x, val := v })) clock), ?_, ⟨_, _, heap_setBlock_same hb _, stamped_modify hs _ _ (fun _ _ => rfl) (fun e' _ he' => by rw [hj] at he'; cases he'; exact r3.symm), ?_, ?_⟩, gr _, by simp [setBlock]⟩
    · simp [Instr.mapUpdate, run_underlying ht, MapKept.run_getObj_map hb, K.check w false hkey, r1, hj, r3, K.stays w hkey, MapKept.run_setObj_map _ hb, Result.andThen, setBlock]
    · intro e he
      rw [hlist] at he
      obtain ⟨i, hi, ex⟩ := List.getElem_of_mem he
      rw [List.getElem_set] at ex
      split at ex
      · subst ex; exact ⟨x, rfl, hx, by simp⟩
      · rename_i hne
        have hi' : i < es.toList.length := by simpa using hi
        have hm : e ∈ es.toList := ex ▸ List.getElem_mem hi'
        obtain ⟨y, hy, hw, hfy⟩ := h1 e hm
        refine ⟨y, hy, hw, ?_⟩
        show (if y = x then some v else f y) = some e.val
        rw [if_neg]; exact hfy
        intro e1; subst e1
        have := entry_eq_of_key hnod hm hm0 (hy.trans r3.symm)
        subst this
        have hb1 := ((stamped_iff es clock).1 hs).2.1
        have hj' : es.toList[j] = es.toList[i] := by rw [ex]; exact (List.getElem?_eq_some_iff.1 r2).2
        have h3 : (es.toList.map (·.born))[j]'(by simpa using hjl) = (es.toList.map (·.born))[i]'(by simpa using hi') := by simp only [List.getElem_map, hj']
        exact hne ((List.getElem_inj hb1).1 h3)
    · intro y u hu
      by_cases hyx : y = x
      · subst hyx
        exact ⟨{ e0 with key := .int .i64 y, val := v }, by rw [hlist]; exact List.mem_iff_getElem.2 ⟨j, by simpa using hjl, by simp⟩, rfl⟩
      · simp only [if_neg hyx] at hu
        obtain ⟨e, he, hek⟩ := h2 y u hu
        obtain ⟨i, hi, rfl⟩ := List.getElem_of_mem he
        have hne : j ≠ i := by
          rintro rfl
          have : es.toList[j] = e0 := (List.getElem?_eq_some_iff.1 r2).2
          rw [this, r3] at hek
          injection hek with _ h5
          exact hyx h5.symm
        exact ⟨es.toList[i], by rw [hlist]; exact List.mem_iff_getElem.2 ⟨i, by simpa using hi, by rw [List.getElem_set_ne hne]⟩, hek⟩

/-- Ranging over the map in block b, by the iterator in block r: 'left' says which ints are still to come, cnt how many. -/
def ITer (w : World) (b r : Nat) (f : Int → Option Value) (left : Int → Bool) (cnt : Nat) : Prop :=
  ∃ es clock since seen c0, w.heap[b]? = some (.map es clock) ∧ IEnt es clock f ∧ w.heap[r]? = some (.mapIter (some b) since seen c0) ∧ (∀ x ∈ es.toList, x.born < since) ∧ (leftOf es seen).size = cnt ∧
    (∀ e ∈ es.toList, ∀ x, e.key = .int .i64 x → left x = !seen.contains e.born) ∧ (∀ x, left x = true → f x ≠ none) ∧ since ≤ c0 ∧ since ≤ clock

theorem ITer.map {r : Nat} {left : Int → Bool} {cnt : Nat} (h : ITer w b r f left cnt) : IMap w b f := by
  obtain ⟨es, clock, _, _, _, hb, F, _⟩ := h
  exact ⟨es, clock, hb, F⟩

theorem ITer.left_eq {r : Nat} {left : Int → Bool} {cnt : Nat} (h : ITer w b r f left cnt) : w.rangeLeft b r = cnt := by
  obtain ⟨es, clock, since, seen, c0, hb, _, hr, _, hc, _⟩ := h
  simp only [World.rangeLeft, hb, hr]; exact hc

theorem ITer.lt {r : Nat} {left : Int → Bool} {cnt : Nat} (h : ITer w b r f left cnt) : r < w.heap.size := by
  obtain ⟨es, clock, since, seen, c0, hb, _, hr, _, hc, _⟩ := h
  exact (Array.getElem?_eq_some_iff.1 hr).1

theorem ITer.ne {r : Nat} {left : Int → Bool} {cnt : Nat} (h : ITer w b r f left cnt) : r ≠ b := by
  obtain ⟨es, clock, since, seen, c0, hb, _, hr, _⟩ := h
  intro e; rw [e, hb] at hr; cases hr

theorem ITer.same {w' : World} {r : Nat} {left : Int → Bool} {cnt : Nat} (h : ITer w b r f left cnt) (hb' : w'.heap[b]? = w.heap[b]?) (hr' : w'.heap[r]? = w.heap[r]?) : ITer w' b r f left cnt := by
  obtain ⟨es, clock, since, seen, c0, hb, F, hr, rest⟩ := h
  exact ⟨es, clock, since, seen, c0, hb'.trans hb, F, hr'.trans hr, rest⟩

theorem IMap.range (h : IMap w b f) (ht : P.underlying t = some (.map k e)) :
    ∃ w' cnt, (Instr.range t (.map (some b))).run P w = .ok (.pointer (some ⟨w.heap.size, 0, none⟩)) w' ∧ ITer w' b w.heap.size f (fun x => (f x).isSome) cnt ∧ w.grownBy w' none ∧ w'.heap.size = w.heap.size + 1 := by
  have hlt := h.lt
  obtain ⟨es, clock, hb, hs, h1, h2⟩ := h
  refine ⟨_, (leftOf es #[]).size, run_range_map w t k e b es clock ht hb, ⟨es, clock, clock, #[], clock, ((MapKept.heap_alloc w _).2 b hlt).trans hb, ⟨hs, h1, h2⟩, (MapKept.heap_alloc w _).1, hs.1, rfl, ?_, ?_, Nat.le_refl _, Nat.le_refl _⟩, World.grownBy_alloc w _ none, by simp⟩
  · intro e he x hx
    obtain ⟨y, hy, _, hf⟩ := h1 e he
    have : y = x := by rw [hx] at hy; injection hy with _ hy; exact hy.symm
    subst this
    simp [hf]
  · intro x hx e1; simp [e1] at hx

theorem ITer.next {r cnt : Nat} {left : Int → Bool} (h : ITer w b r f left cnt) (ty : TypeId) :
    (cnt = 0 ∧ (∀ x, left x = false) ∧ (Instr.next (.pointer (some ⟨r, 0, none⟩)) false ty).run P w = .ok (.tuple #[.bool false]) w) ∨
    ∃ x v w' cnt', isI64 x ∧ left x = true ∧ f x = some v ∧ (Instr.next (.pointer (some ⟨r, 0, none⟩)) false ty).run P w = .ok (.tuple #[.bool true, .int .i64 x, v]) w' ∧
      ITer w' b r f (fun y => left y && !decide (y = x)) cnt' ∧ cnt' < cnt ∧ w.grownBy w' (some r) ∧ w'.heap.size = w.heap.size ∧ (Instr.entry (.pointer (some ⟨r, 0, none⟩))).run P w' = .ok (.tuple #[.int .i64 x, v]) w' := by
  have hne := h.ne
  obtain ⟨es, clock, since, seen, c0, hb, F, hr, hold, rfl, hl1, hl2, hsc, hsk⟩ := h
  have hst := (stamped_iff es clock).1 F.1
  rcases run_next_at (P := P) w ty r b since c0 seen es clock hr hb hold hsc with ⟨h0, hrun⟩ | ⟨e, he, w1, hal, hrun⟩
  · refine Or.inl ⟨h0, fun x => ?_, hrun⟩
    cases hk : left x
    · rfl
    · cases hfx : f x with
      | none => exact absurd hfx (hl2 x hk)
      | some v =>
        obtain ⟨e, he, hek⟩ := F.2.2 x v hfx
        rw [hl1 e he x hek, all_seen es seen h0 e he] at hk
        cases hk
  · obtain ⟨hem, hes⟩ := mem_left he
    obtain ⟨x, hx, hw, hfx⟩ := F.2.1 e hem
    have hr1 : w1.heap[r]? = some (.mapIter (some b) since seen c0) := by rcases hal with rfl | rfl <;> exact hr
    have hb1 : w1.heap[b]? = some (.map es clock) := by rcases hal with rfl | rfl <;> exact hb
    have hset := heap_set (o' := .mapIter (some b) since (seen.push e.born) clock) hr1
    have hb' : (setBlock w1 r (.mapIter (some b) since (seen.push e.born) clock)).heap[b]? = some (.map es clock) := (hset.2 b (fun e1 => hne e1.symm)).trans hb1
    have hen := run_entry_at (P := P) _ r b since seen es clock e hset.1 hb' hem hst.2.1
    rw [hx] at hrun hen
    refine Or.inr ⟨x, e.val, _, _, hw, by rw [hl1 e hem x hx, hes]; rfl, hfx, hrun,
      ⟨es, clock, since, seen.push e.born, clock, hb', F, hset.1, hold, rfl, fun e' he' y hy => ?_, fun y hy => hl2 y (by simp at hy; exact hy.1), hsk, hsk⟩, left_shrinks es seen e he, ?_, ?_, hen⟩
    · show (left y && !decide (y = x)) = _
      rw [hl1 e' he' y hy, contains_push]
      by_cases hee : e' = e
      · subst hee
        have : y = x := by rw [hx] at hy; injection hy with _ hy; exact hy.symm
        subst this
        simp
      · have h3 : y ≠ x := by
          rintro rfl
          exact hee (entry_eq_of_key hst.2.2 he' hem (hy.trans hx.symm))
        have h4 : (e'.born == e.born) = false := by
          rw [beq_eq_false_iff_ne]
          intro hbb
          obtain ⟨i, hi, rfl⟩ := List.getElem_of_mem he'
          obtain ⟨j, hj, rfl⟩ := List.getElem_of_mem hem
          have h5 : (es.toList.map (·.born))[i]'(by simpa using hi) = (es.toList.map (·.born))[j]'(by simpa using hj) := by simpa only [List.getElem_map] using hbb
          have := (List.getElem_inj hst.2.1).1 h5
          subst this
          exact hee rfl
        simp [h3, h4]
    · rcases hal with rfl | rfl <;> exact ⟨rfl, rfl, rfl, by simp [setBlock], fun i _ hi => hset.2 i (fun e1 => hi (by rw [e1]))⟩
    · rcases hal with rfl | rfl <;> simp [setBlock]
end

section
variable {P : Program} (w : World) {ops : Array Oper} {rest : List Oper} {o : Oper} {a : Act} {Q : Exit → Act → World → Prop}

theorem wpList_look (hg : o.guard = none) (m x : Operand) (t : TypeId) (c : Bool) (hop : o.op = Op.lookup t m x c) (k e : TypeId) (hk : P.underlying k = some (.int .i64)) (ht : P.underlying t = some (.map k e)) {z : Value} (hz : (zeroValue e).run P w = .ok z w)
    (b : Nat) (f : Int → Option Value) (hm : a.eval m = .map (some b)) (h : IMap w b f) (n : Int) (hx : a.eval x = .int .i64 n) (hn : isI64 n) (r : Value) (hr : lookRes f n z c = r)
    (hK : wpList P ops Q rest (a.put o.dst r) w) : wpList P ops Q (o :: rest) a w := by
  subst hr
  refine wpList_plain hg fun K' hK' => ?_
  have hrun := h.look hk ht hn c hz
  unfold Oper.wp
  simp [execOp, hop, hm, hx, hrun, Result.andThen]
  exact hK' _ _ hK

theorem wpList_put (hg : o.guard = none) (m x v : Operand) (t : TypeId) (hop : o.op = Op.mapUpdate t m x v) (k e : TypeId) (hk : P.underlying k = some (.int .i64)) (ht : P.underlying t = some (.map k e))
    (b : Nat) (f : Int → Option Value) (hm : a.eval m = .map (some b)) (h : IMap w b f) (n : Int) (hx : a.eval x = .int .i64 n) (hn : isI64 n) (val : Value) (hv : a.eval v = val)
    (hK : ∀ w', IMap w' b (fun y => if y = n then some val else f y) → w.grownBy w' (some b) → w'.heap.size = w.heap.size → wpList P ops Q rest (a.put o.dst undef) w') : wpList P ops Q (o :: rest) a w := by
  refine wpList_plain hg fun K' hK' => ?_
  obtain ⟨w', hrun, r1, r2, r3⟩ := h.store (P := P) hk ht hn val
  unfold Oper.wp
  simp [execOp, hop, hm, hx, hv, hrun, Result.andThen]
  exact hK' _ _ (hK w' r1 r2 r3)

theorem wpList_rangeI (hg : o.guard = none) (m : Operand) (t : TypeId) (hop : o.op = Op.range t m) (k e : TypeId) (ht : P.underlying t = some (.map k e)) (b : Nat) (f : Int → Option Value)
    (hm : a.eval m = .map (some b)) (h : IMap w b f)
    (hK : ∀ w' cnt, ITer w' b w.heap.size f (fun x => (f x).isSome) cnt → w.grownBy w' none → w'.heap.size = w.heap.size + 1 → wpList P ops Q rest (a.put o.dst (.pointer (some ⟨w.heap.size, 0, none⟩))) w') :
    wpList P ops Q (o :: rest) a w := by
  refine wpList_plain hg fun K' hK' => ?_
  obtain ⟨w', cnt, hrun, r1, r2, r3⟩ := h.range (P := P) ht
  unfold Oper.wp
  simp [execOp, hop, hm, hrun, Result.andThen]
  exact hK' _ _ (hK w' cnt r1 r2 r3)

theorem wpList_nextI (hg : o.guard = none) (it : Operand) (hop : o.op = Op.next it false) (b r : Nat) (f : Int → Option Value) (left : Int → Bool) (cnt : Nat)
    (hit : a.eval it = .pointer (some ⟨r, 0, none⟩)) (h : ITer w b r f left cnt)
    (hDone : cnt = 0 → (∀ x, left x = false) → wpList P ops Q rest (a.put o.dst (.tuple #[.bool false])) w)
    (hMore : ∀ x v w' cnt', isI64 x → left x = true → f x = some v → ITer w' b r f (fun y => left y && !decide (y = x)) cnt' → cnt' < cnt →
      w.grownBy w' (some r) → w'.heap.size = w.heap.size → (Instr.entry (.pointer (some ⟨r, 0, none⟩))).run P w' = .ok (.tuple #[.int .i64 x, v]) w' → wpList P ops Q rest (a.put o.dst (.tuple #[.bool true, .int .i64 x, v])) w') :
    wpList P ops Q (o :: rest) a w := by
  refine wpList_plain hg fun K' hK' => ?_
  unfold Oper.wp
  rcases h.next (P := P) o.type with ⟨h0, hl, hrun⟩ | ⟨x, v, w', cnt', h1, h2, h3, hrun, h4, h5, h6, h7, h8⟩
  · simp [execOp, hop, hit, hrun, Result.andThen]
    exact hK' _ _ (hDone h0 hl)
  · simp [execOp, hop, hit, hrun, Result.andThen]
    exact hK' _ _ (hMore x v w' cnt' h1 h2 h3 h4 h5 h6 h7 h8)
end
end Go.Proofs.Ytgocnjiabfmdpaa

namespace Go.Proofs.Ytgocnjiabfmdpaa
set_option maxRecDepth 8000
open Go.RowKit

inductive Role
  | disk | files | list | keep | iter
  | file (i : Int) | sect (i : Int) | now (i : Int) | dur (i : Int)

/-- Whose block is it, and which of its parts: a ghost. -/
abbrev Lab := Nat → Option (Nat × Role)

def Fresh (L : Lab) (w : World) : Prop := ∀ b, w.heap.size ≤ b → L b = none

def setL (L : Lab) (g : Nat) (t : Nat × Role) : Lab := fun b => if b = g then some t else L b

/-- From w to w' nothing has turned but blocks whose labels are in M, and what is new. -/
structure Fr (M : Nat × Role → Prop) (L : Lab) (w : World) (L' : Lab) (w' : World) : Prop where
  os : w'.os = w.os
  tape : w'.tape = w.tape
  output : w'.output = w.output
  size : w.heap.size ≤ w'.heap.size
  lab : ∀ b, b < w.heap.size → L' b = L b
  fresh : Fresh L' w'
  block : ∀ b, b < w.heap.size → (∀ t, L b = some t → ¬ M t) → w'.heap[b]? = w.heap[b]?

section
variable {M M' : Nat × Role → Prop} {L L1 L2 : Lab} {w w1 w2 : World}

theorem Fr.refl (h : Fresh L w) : Fr M L w L w := ⟨rfl, rfl, rfl, Nat.le_refl _, fun _ _ => rfl, h, fun _ _ _ => rfl⟩

theorem Fr.trans (h : Fr M L w L1 w1) (k : Fr M L1 w1 L2 w2) : Fr M L w L2 w2 :=
  ⟨k.os.trans h.os, k.tape.trans h.tape, k.output.trans h.output, Nat.le_trans h.size k.size,
   fun b hb => (k.lab b (Nat.lt_of_lt_of_le hb h.size)).trans (h.lab b hb), k.fresh,
   fun b hb hm => (k.block b (Nat.lt_of_lt_of_le hb h.size) (fun t ht => hm t (by rw [← h.lab b hb]; exact ht))).trans (h.block b hb hm)⟩

theorem Fr.mono (h : Fr M L w L1 w1) (hm : ∀ t, M t → M' t) : Fr M' L w L1 w1 :=
  ⟨h.os, h.tape, h.output, h.size, h.lab, h.fresh, fun b hb hn => h.block b hb (fun t ht hmt => hn t ht (hm t hmt))⟩

theorem Fr.grown (hL : Fresh L w) {row : Option Nat} (hg : w.grownBy w1 row) (hr : ∀ g, row = some g → g < w.heap.size → ∃ t, L g = some t ∧ M t) : Fr M L w L w1 :=
  ⟨hg.os, hg.tape, hg.output, hg.size, fun _ _ => rfl, fun b hb => hL b (Nat.le_trans hg.size hb), fun b hb hn => hg.block b hb (fun e => by
    obtain ⟨t, ht, hm⟩ := hr b e.symm hb
    exact hn t ht hm)⟩

theorem Fr.below (hL : Fresh L w) (hb : Below w.heap.size w w1) : Fr M L w L w1 :=
  ⟨hb.os, hb.tape, hb.output, hb.size, fun _ _ => rfl, fun b h => hL b (Nat.le_trans hb.size h), fun b h _ => hb.block b h⟩

/-- A block that is new since w gets a label. -/
theorem Fr.label (h : Fr M L w L1 w1) {g : Nat} (h0 : w.heap.size ≤ g) (h1 : g < w1.heap.size) (t : Nat × Role) : Fr M L w (setL L1 g t) w1 :=
  ⟨h.os, h.tape, h.output, h.size, fun b hb => by unfold setL; rw [if_neg (by omega)]; exact h.lab b hb, fun b hb => by unfold setL; rw [if_neg (by omega)]; exact h.fresh b hb, h.block⟩

theorem setL_same (L : Lab) (g : Nat) (t : Nat × Role) : setL L g t g = some t := by simp [setL]
theorem setL_ne (L : Lab) {g b : Nat} (t : Nat × Role) (h : b ≠ g) : setL L g t b = L b := by simp [setL, h]

theorem Fr.alloc (h : Fr M L w L1 w1) (o : Obj) : Fr M L w L1 (w1.alloc o) :=
  ⟨h.os, h.tape, h.output, Nat.le_trans h.size (by simp), h.lab, fun b hb => h.fresh b (by simp at hb; omega), fun b hb hn => (Below.heap_alloc _ _ _ (Nat.lt_of_lt_of_le hb h.size)).trans (h.block b hb hn)⟩

theorem Fr.drew (h : Fr M L w L1 w1) : Fr M L w L1 w1.drew := ⟨h.os, h.tape, h.output, h.size, h.lab, h.fresh, h.block⟩

theorem Fr.setCell (h : Fr M L w L1 w1) {p : Addr} (hp : w.heap.size ≤ p.block ∨ ∃ t, L1 p.block = some t ∧ M t) (u : Value) : Fr M L w L1 (w1.setCell p u) := by
  refine ⟨h.os, h.tape, h.output, by simpa [World.setCell] using h.size, h.lab, fun b hb => h.fresh b (by simpa [World.setCell] using hb), fun b hb hn => ?_⟩
  refine (Below.heap_setCell _ _ _ _ (fun e => ?_)).trans (h.block b hb hn)
  rcases hp with hp | ⟨t, ht, hm⟩
  · omega
  · rw [← e, h.lab b hb] at ht
    exact hn t ht hm

theorem Fr.lt_of_lab (hL : Fresh L w) {b : Nat} {t : Nat × Role} (h : L b = some t) : b < w.heap.size := by
  rcases Nat.lt_or_ge b w.heap.size with hlt | hge
  · exact hlt
  · rw [hL b hge] at h; cases h

theorem Fr.lab_of (h : Fr M L w L1 w1) (hL : Fresh L w) {b : Nat} {t : Nat × Role} (hb : L b = some t) : L1 b = some t := (h.lab b (Fr.lt_of_lab hL hb)).trans hb

theorem Fr.keeps (h : Fr M L w L1 w1) (hL : Fresh L w) {b : Nat} {t : Nat × Role} (hb : L b = some t) (hm : ¬ M t) : w1.heap[b]? = w.heap[b]? :=
  h.block b (Fr.lt_of_lab hL hb) (fun t' ht' => by rw [hb] at ht'; cases ht'; exact hm)
end

def bc (l : List UInt8) : List Value := l.map fun c => Value.int .u8 (c.toNat : Int)
def ic (l : List Int) : List Value := l.map fun x => Value.int .i64 x
def pc (l : List (Int × Int)) : List Value := l.flatMap fun p => [Value.int .i64 p.1, Value.int .i64 p.2]

theorem bc_length (l : List UInt8) : (bc l).length = l.length := by simp [bc]
theorem ic_length (l : List Int) : (ic l).length = l.length := by simp [ic]
theorem pc_length (l : List (Int × Int)) : (pc l).length = l.length * 2 := by
  induction l with
  | nil => rfl
  | cons p l ih => simp only [pc, List.flatMap_cons, List.length_append, List.length_cons, List.length_nil] at ih ⊢; omega
theorem bc_append (a b : List UInt8) : bc (a ++ b) = bc a ++ bc b := by simp [bc]
theorem pc_append (a b : List (Int × Int)) : pc (a ++ b) = pc a ++ pc b := by simp [pc]
theorem pc_get (l : List (Int × Int)) (j : Nat) (h : j < l.length) : (pc l)[2 * j]? = some (.int .i64 l[j].1) ∧ (pc l)[2 * j + 1]? = some (.int .i64 l[j].2) := by
  induction l generalizing j with
  | nil => simp at h
  | cons p l ih =>
    cases j with
    | zero => simp [pc]
    | succ j =>
      have h1 := ih j (by simpa using h)
      have e1 : 2 * (j + 1) = 2 * j + 1 + 1 := by omega
      have e2 : 2 * (j + 1) + 1 = 2 * j + 1 + 1 + 1 := by omega
      simp only [pc, List.flatMap_cons] at h1 ⊢
      rw [e1]
      simpa using h1

/-- A slice of elements of type e that owns its array, which bears the label t. -/
def Sl (L : Lab) (w : World) (e : TypeId) (size : Nat) (v : Value) (n : Nat) (xs : List Value) (t : Nat × Role) : Prop :=
  w.ownsRow 0 e size v n xs ∧ ∀ g, v.ownBlock = some g → L g = some t

section
variable {M : Nat × Role → Prop} {L L1 : Lab} {w w1 : World} {e : TypeId} {size : Nat} {v : Value} {n : Nat} {xs : List Value} {t : Nat × Role}

theorem Sl.nil (L : Lab) (w : World) (e : TypeId) (size : Nat) (t : Nat × Role) : Sl L w e size (.slice none 0 0) 0 [] t := ⟨World.ownsRow_nil w 0 e size, fun g hg => by simp [Value.ownBlock] at hg⟩

theorem ownsRow_of_blocks (h : w.ownsRow 0 e size v n xs) (hk : ∀ g, v.ownBlock = some g → w1.heap[g]? = w.heap[g]?) : w1.ownsRow 0 e size v n xs := by
  refine ⟨h.1, ?_⟩
  rcases h.2 with hn | ⟨g, cap, cur, rfl, hb, hgg, rest⟩
  · exact .inl hn
  · exact .inr ⟨g, cap, cur, rfl, hb, (hk g rfl).trans hgg, rest⟩

theorem Sl.keep (h : Sl L w e size v n xs t) (hL : Fresh L w) (hf : Fr M L w L1 w1) (ht : ¬ M t) : Sl L1 w1 e size v n xs t :=
  ⟨ownsRow_of_blocks h.1 (fun g hg => hf.keeps hL (h.2 g hg) ht), fun g hg => hf.lab_of hL (h.2 g hg)⟩
end

def secF (g : Int → Bool) : Int → Option Value := fun n => if g n = true then some (.bool true) else none
def filesF (fb : Int → Nat) : Int → Option Value := fun i => if isFile i = true then some (.pointer (some ⟨fb i, 0, none⟩)) else none

/-- A file of the program's: its struct lies in block b. -/
def FAt (L : Lab) (w : World) (k : Nat) (i : Int) (b : Nat) (now dur : List UInt8) (sec : Int → Bool) : Prop :=
  ∃ nv dv sb, L b = some (k, .file i) ∧ w.heap[b]? = some (.cells #[nv, dv, .map (some sb)] 82 (0, 0)) ∧ L sb = some (k, .sect i) ∧ IMap w sb (secF sec) ∧
    Sl L w 5 1 nv now.length (bc now) (k, .now i) ∧ Sl L w 5 1 dv dur.length (bc dur) (k, .dur i)

def DBody (L : Lab) (w : World) (k mb : Nat) (pv kv : Value) (fb : Int → Nat) (s : St) : Prop :=
  L mb = some (k, .files) ∧ IMap w mb (filesF fb) ∧ Sl L w 95 2 pv s.pend.length (pc s.pend) (k, .list) ∧ Sl L w 3 1 kv s.keep.length (ic s.keep) (k, .keep) ∧
  ∀ i, isFile i = true → FAt L w k i (fb i) (s.now i) (s.dur i) (s.sec i)

def dcells (mb : Nat) (pv kv : Value) (s : St) : Array Value := #[.map (some mb), pv, .bool s.down, .int .i64 s.lost, .int .i64 s.armed, kv]

/-- The program's disk, number k, at block d. -/
def DAt (L : Lab) (w : World) (k d : Nat) (s : St) : Prop :=
  ∃ mb pv kv fb, L d = some (k, .disk) ∧ w.heap[d]? = some (.cells (dcells mb pv kv s) 78 (0, 0)) ∧ DBody L w k mb pv kv fb s

section
variable {M : Nat × Role → Prop} {L L1 : Lab} {w w1 : World} {k d mb : Nat} {pv kv : Value} {fb : Int → Nat} {s : St}

theorem IMap.keep {b : Nat} {f : Int → Option Value} {t : Nat × Role} (h : IMap w b f) (hl : L b = some t) (hL : Fresh L w) (hf : Fr M L w L1 w1) (ht : ¬ M t) : IMap w1 b f := h.same (hf.keeps hL hl ht)

theorem FAt.keep {i : Int} {b : Nat} {now dur : List UInt8} {sec : Int → Bool} (h : FAt L w k i b now dur sec) (hL : Fresh L w) (hf : Fr M L w L1 w1) (h1 : ¬ M (k, .file i)) (h2 : ¬ M (k, .sect i)) (h3 : ¬ M (k, .now i)) (h4 : ¬ M (k, .dur i)) :
    FAt L1 w1 k i b now dur sec := by
  obtain ⟨nv, dv, sb, a1, a2, a3, a4, a5, a6⟩ := h
  exact ⟨nv, dv, sb, hf.lab_of hL a1, (hf.keeps hL a1 h1).trans a2, hf.lab_of hL a3, a4.keep a3 hL hf h2, a5.keep hL hf h3, a6.keep hL hf h4⟩

theorem DBody.keep (h : DBody L w k mb pv kv fb s) (hL : Fresh L w) (hf : Fr M L w L1 w1) (hm : ∀ r, r ≠ Role.disk → r ≠ Role.iter → ¬ M (k, r)) : DBody L1 w1 k mb pv kv fb s := by
  obtain ⟨a1, a2, a3, a4, a5⟩ := h
  exact ⟨hf.lab_of hL a1, a2.keep a1 hL hf (hm _ (by simp) (by simp)), a3.keep hL hf (hm _ (by simp) (by simp)), a4.keep hL hf (hm _ (by simp) (by simp)), fun i hi => (a5 i hi).keep hL hf (hm _ (by simp) (by simp)) (hm _ (by simp) (by simp)) (hm _ (by simp) (by simp)) (hm _ (by simp) (by simp))⟩

theorem DAt.keep (h : DAt L w k d s) (hL : Fresh L w) (hf : Fr M L w L1 w1) (hm : ∀ r, ¬ M (k, r)) : DAt L1 w1 k d s := by
  obtain ⟨mb, pv, kv, fb, a1, a2, a3⟩ := h
  exact ⟨mb, pv, kv, fb, hf.lab_of hL a1, (hf.keeps hL a1 (hm _)).trans a2, a3.keep hL hf (fun r _ _ => hm r)⟩

theorem DAt.lt (h : DAt L w k d s) : d < w.heap.size := by
  obtain ⟨mb, pv, kv, fb, a1, a2, a3⟩ := h
  exact (Array.getElem?_eq_some_iff.1 a2).1
end

/-- A block that is known whole. -/
theorem blk_cell {w : World} {g : Nat} {t : TypeId} {cs : Array Value} (h : w.heap[g]? = some (.cells cs t (0, 0))) (i : Nat) : w.cell? ⟨g, i, none⟩ = cs[i]? := cell_of_row w g i cs t (0, 0) h
theorem blk_free {w : World} {g : Nat} {t : TypeId} {cs : Array Value} (h : w.heap[g]? = some (.cells cs t (0, 0))) (i : Nat) : w.frozen? ⟨g, i, none⟩ = false := by simp [World.frozen?, h]
theorem blk_lt {w : World} {g : Nat} {o : Obj} (h : w.heap[g]? = some o) : g < w.heap.size := (Array.getElem?_eq_some_iff.1 h).1
theorem blk_set {w : World} {g : Nat} {t : TypeId} {cs : Array Value} (h : w.heap[g]? = some (.cells cs t (0, 0))) (i : Nat) (u : Value) : (w.setCell ⟨g, i, none⟩ u).heap[g]? = some (.cells (cs.setIfInBounds i u) t (0, 0)) := by
  simp [World.setCell, Array.getElem?_modify, h]
theorem blk_far {w : World} {g : Nat} {o : Obj} (h : w.heap[g]? = some o) {p : Addr} (hp : g ≠ p.block) (u : Value) : (w.setCell p u).heap[g]? = some o := (Below.heap_setCell w p u g hp).trans h
theorem blk_alloc {w : World} {g : Nat} {o : Obj} (h : w.heap[g]? = some o) (o' : Obj) : (w.alloc o').heap[g]? = some o := (Below.heap_alloc w o' g (blk_lt h)).trans h

end Go.Proofs.Ytgocnjiabfmdpaa

namespace Go.Proofs.Ytgocnjiabfmdpaa
set_option maxRecDepth 8000
open Go.RowKit

theorem Try.info5 : (Try.prog.info? 5).map (fun i => (i.zero, i.size, i.bytes)) = some (some (.int .u8 0), 1, 1) := by kernel_rfl
theorem Try.info3 : (Try.prog.info? 3).map (fun i => (i.zero, i.size, i.bytes)) = some (some (.int .i64 0), 1, 8) := by kernel_rfl
theorem Try.info95 : (Try.prog.info? 95).map (fun i => (i.zero, i.size, i.bytes)) = some (some (.agg #[.int .i64 0, .int .i64 0]), 2, 16) := by kernel_rfl

section
variable {P : Program}

theorem zeroCells_one (z : Value) (k : Nat) : (Builtin.zeroCells #[z] k).toList = List.replicate k z := by
  unfold Builtin.zeroCells
  apply List.ext_getElem (by simp)
  intro i h1 h2
  simp at h1 h2 ⊢
  rw [Nat.mod_one]; simp

theorem oneCell_rep (k : Nat) : ∀ u ∈ List.replicate k (Value.int .u8 0), u.oneCell' = true := fun u hu => by rw [(List.mem_replicate.1 hu).2]; rfl

/-- append(v, make([]byte, k)...) onto a slice that owns its array. -/
theorem run_append_zeros {w : World} (t tn ty e : TypeId) (i : TypeInfo) (kn : IntKind) (ht : P.underlying t = some (.slice e)) (htn : P.underlying tn = some (.int kn)) (hi : P.info? e = some i) (hz : i.zero = some (.int .u8 0)) (hsize : i.size = 1) (hby : i.bytes = 1)
    (v : Value) (n : Nat) (xs : List Value) (hown : w.ownsRow 0 e 1 v n xs) (k : Nat) (hk : 0 < k) (hb : n + k ≤ 140737488355328) :
    ∃ v' w', (Builtin.append_ #[t, tn] ty #[v, .int .i64 k]).run P w = .ok v' w' ∧ w'.ownsRow 0 e 1 v' (n + k) (xs ++ List.replicate k (.int .u8 0)) ∧ w.grownBy w' v.ownBlock ∧
      (v'.ownBlock = v.ownBlock ∨ v'.ownBlock = some w.heap.size) := by
  have hlen : (xs ++ List.replicate k (Value.int .u8 0)).length = (n + k) * 1 := by rw [List.length_append, hown.1, List.length_replicate]; omega
  have grown : ∀ (old : Nat), (w.drew.alloc (.cells (xs.toArray ++ Builtin.zeroCells #[.int .u8 0] k ++ Builtin.zeroCells #[.int .u8 0] (grownCap w (n + k) old e - (n + k))) e)).ownsRow 0 e 1
        (.slice (some ⟨w.heap.size, 0, none⟩) (n + k) (grownCap w (n + k) old e)) (n + k) (xs ++ List.replicate k (.int .u8 0)) ∧
      ∀ row, w.grownBy (w.drew.alloc (.cells (xs.toArray ++ Builtin.zeroCells #[.int .u8 0] k ++ Builtin.zeroCells #[.int .u8 0] (grownCap w (n + k) old e - (n + k))) e)) row := by
    intro old
    have hge := grownCap_ge w (n + k) old e
    have hcm : grownCap w (n + k) old e ≤ maxLen := grownCap_le_maxLen w (n + k) old e (by unfold maxLen; omega)
    refine ⟨⟨hlen, .inr ⟨w.heap.size, _, _, rfl, Nat.zero_le _, heap_alloc_new w.drew _, hge, hcm, ?_, ?_⟩⟩, fun row => ⟨rfl, rfl, rfl, by simp, fun j hj _ => heap_alloc_old w.drew _ j hj⟩⟩
    · have := hown.1
      simp only [Array.size_append, List.size_toArray, size_zeroCells, List.size_toArray, List.length_cons, List.length_nil]
      omega
    · simp only [Array.toList_append, List.append_assoc, zeroCells_one]
      rw [← List.append_assoc, ← hlen]
      exact List.take_left
  rcases hown.2 with ⟨rfl, rfl⟩ | ⟨g, cap, cur, rfl, hbg, hg, hnc, hcm, hcs, htake⟩
  · have hx : xs = [] := List.eq_nil_of_length_eq_zero (by simpa using hown.1)
    subst hx
    have hr := Lib.run_append_nil_zeros (P := P) w t tn ty e i (.int .u8 0) .i64 kn ht htn hi hz k hk (by omega) (by omega) (by rw [hby]; omega)
    obtain ⟨g1, g2⟩ := grown 0
    simp only [Nat.zero_add, List.nil_append, Array.empty_append] at g1 g2 ⊢
    exact ⟨_, _, hr, g1, g2 _, Or.inr rfl⟩
  · by_cases hroom : n + k ≤ cap
    · have hfit : n + k ≤ cur.size := by omega
      have hst := run_storeCells_at P g n e (List.replicate k (Value.int .u8 0)) 0 cur w hg (by simpa using hfit) (oneCell_rep k)
      simp only [Nat.add_zero, List.length_replicate] at hst
      have hw : IntKind.i64.wrap (k : Int) = k := by rw [IntKind.wrap_i64]; omega
      have hk0 : k ≠ 0 := by omega
      have hneg : ¬ ((k : Int) < 0) := by omega
      have h48 : ¬ (281474976710656 < (k : Int)) := by omega
      have hzc : (Builtin.zeroCells #[Value.int .u8 0] k).toList = List.replicate k (Value.int .u8 0) := zeroCells_one _ _
      have hr : (Builtin.append_ #[t, tn] ty #[.slice (some ⟨g, 0, none⟩) n cap, .int .i64 k]).run P w = .ok (.slice (some ⟨g, 0, none⟩) (n + k) cap) (w.setRow g (cur.toList.take n ++ List.replicate k (Value.int .u8 0) ++ cur.toList.drop (n + k)).toArray) := by
        simp [Builtin.append_, run_underlying ht, run_underlying htn, sizeOf, typeInfo, zeroValue, hi, hz, hsize, hby, asInt, asIntOf, hw, hneg, h48, hk0, hroom, Addr.add_lit, Value.cells, hzc, hst]
      refine ⟨_, _, hr, ⟨hlen, .inr ⟨g, cap, _, rfl, hbg, setRow_heap w g cur _ e _ hg, hroom, hcm, ?_, ?_⟩⟩, ⟨rfl, rfl, rfl, by simp, fun j _ hj => setRow_other w g j _ (fun e => hj (by simp [Value.ownBlock, e]))⟩, Or.inl rfl⟩
      · simp only [List.size_toArray, List.length_append, List.length_take, List.length_drop, Array.length_toList, List.length_replicate]
        omega
      · have ht' : cur.toList.take n = xs := by simpa using htake
        rw [ht', ← hlen]
        exact List.take_left
    · have holds : ∀ j u, xs[j]? = some u → w.drew.cell? ((⟨g, 0, none⟩ : Addr).add j) = some u := hown.cells (g := g) rfl
      have hf := run_firstCells_some (P := P) w.drew i.size n ⟨g, 0, none⟩ n cap xs (by rw [hsize]; exact hown.1) holds
      have hr := Lib.run_append_grow_zeros (P := P) w t tn ty e i (.int .u8 0) .i64 kn ht htn hi hz (some ⟨g, 0, none⟩) n cap xs hf k hk (by omega) (by omega) (by omega) (by rw [hby]; omega) (by rw [hby]; exact growslice_fits (by omega) (by omega))
      obtain ⟨g1, g2⟩ := grown cap
      exact ⟨_, _, hr, g1, g2 _, Or.inr rfl⟩

theorem wpList_append_zeros {w : World} {ops : Array Oper} {rest : List Oper} {o : Oper} {a : Act} {Q : Exit → Act → World → Prop} (hgd : o.guard = none) (s x : Operand) (t tn e : TypeId)
    (ho : o.op = .call { callee := .builtin .append, args := #[s, x], argTypes := #[t, tn] }) (i : TypeInfo) (kn : IntKind) (ht : P.underlying t = some (.slice e)) (htn : P.underlying tn = some (.int kn)) (hi : P.info? e = some i) (hz : i.zero = some (.int .u8 0)) (hsize : i.size = 1) (hby : i.bytes = 1)
    (v : Value) (n : Nat) (xs : List Value) (hs : a.eval s = v) (hown : w.ownsRow 0 e 1 v n xs) (k : Nat) (m : Int) (hx : a.eval x = .int .i64 m) (hmk : m = k) (hk : 0 < k) (hb : n + k ≤ 140737488355328)
    (h : ∀ v' w', w'.ownsRow 0 e 1 v' (n + k) (xs ++ List.replicate k (.int .u8 0)) → w.grownBy w' v.ownBlock → (v'.ownBlock = v.ownBlock ∨ v'.ownBlock = some w.heap.size) → wpList P ops Q rest (a.put o.dst v') w') :
    wpList P ops Q (o :: rest) a w := by
  subst hmk
  obtain ⟨v', w', hr, h1, h2, h3⟩ := run_append_zeros (P := P) t tn o.type e i kn ht htn hi hz hsize hby v n xs hown k hk hb
  exact Lib.wpList_append_run w hgd s x t tn ho _ _ hs hx v' w' hr (h v' w' h1 h2 h3)

/-- copy(v[off:], s) of a string into a slice that owns its array. -/
theorem wpList_copy_str {w : World} {ops : Array Oper} {rest : List Oper} {o : Oper} {a : Act} {Q : Exit → Act → World → Prop} (hgd : o.guard = none) (d s : Operand) (dT sT e : TypeId)
    (ho : o.op = .call { callee := .builtin .copy, args := #[d, s], argTypes := #[dT, sT] }) (i : TypeInfo) (ht : P.underlying dT = some (.slice e)) (hi : P.info? e = some i) (hsize : i.size = 1)
    (g n cap : Nat) (xs : List Value) (hown : w.ownsRow 0 e 1 (.slice (some ⟨g, 0, none⟩) n cap) n xs) (off dl dc : Nat) (hd : a.eval d = .slice (some ⟨g, off, none⟩) dl dc) (hdl : off + dl = n) (str : ByteArray) (hs : a.eval s = .string str) (hfit : str.size ≤ dl)
    (h : ∀ w', w'.ownsRow 0 e 1 (.slice (some ⟨g, 0, none⟩) n cap) n (xs.take off ++ (bc str.data.toList ++ xs.drop (off + str.size))) → w.grownBy w' (some g) → w'.heap.size = w.heap.size → wpList P ops Q rest (a.put o.dst (.int .i64 str.size)) w') :
    wpList P ops Q (o :: rest) a w := by
  have hbl : (bc str.data.toList).length = str.size := by rw [bc_length, Array.length_toList]; rfl
  rcases hown.2 with ⟨hv, _⟩ | ⟨g', cap', cur, hv, hbg, hg, hnc, hcm, hcs, htake⟩
  · cases hv
  · injection hv with hv1 hv2 hv3
    injection hv1 with hv1
    injection hv1 with hv1
    subst hv1; subst hv3
    have h1c : ∀ u ∈ bc str.data.toList, u.oneCell' = true := fun u hu => by unfold bc at hu; obtain ⟨c, _, rfl⟩ := List.mem_map.1 hu; rfl
    have hfc : (Builtin.firstCells 1 str.size (.string str)).run P w = .ok (bc str.data.toList).toArray w := Lib.run_firstCells_string w 1 str
    have hst := run_storeCells_at P g off e (bc str.data.toList) 0 cur w hg (by rw [hbl]; omega) h1c
    simp only [Nat.add_zero, hbl] at hst
    have hmin : Nat.min str.size dl = str.size := Nat.min_eq_left hfit
    have hr : (Builtin.copy_ #[dT, sT] o.type #[.slice (some ⟨g, off, none⟩) dl dc, .string str]).run P w = .ok (.int .i64 str.size) (w.setRow g (cur.toList.take off ++ bc str.data.toList ++ cur.toList.drop (off + str.size)).toArray) := by
      simp [Builtin.copy_, run_underlying ht, sizeOf, typeInfo, hi, hsize, Builtin.lenOf, hmin, hfc, hst, goInt]
    refine wpList_plain hgd fun K' hK' => ?_
    unfold Oper.wp execOp
    simp only [ho, resolve, invoke, builtin, Sem.run_bind, Sem.run_pure, Result.andThen_ok, List.map_toArray, List.map_cons, List.map_nil, hd, hs, hr]
    have ht' : cur.toList.take n = xs := by simpa using htake
    have hcl : cur.toList.length = cap := by simpa using hcs
    have hxl : xs.length = n := by simpa using hown.1
    refine hK' _ _ (h _ ⟨?_, .inr ⟨g, cap, _, rfl, hbg, setRow_heap w g cur _ e _ hg, hnc, hcm, ?_, ?_⟩⟩ ⟨rfl, rfl, rfl, by simp, fun j _ hj => setRow_other w g j _ (fun e => hj (by rw [e]))⟩ (by simp))
    · simp only [List.length_append, List.length_take, List.length_drop, hbl, hxl]; omega
    · simp only [List.size_toArray, List.length_append, List.length_take, List.length_drop, hbl, hcl]; omega
    · rw [Nat.mul_one, ← ht', List.append_assoc]
      have e1 : (cur.toList.take n).take off = cur.toList.take off := by rw [List.take_take]; congr 1; omega
      have e2 : (cur.toList.take n).drop (off + str.size) = (cur.toList.drop (off + str.size)).take (n - (off + str.size)) := by rw [List.drop_take]
      rw [e1, e2]
      have e3 : (cur.toList.take off).length = off := by rw [List.length_take]; omega
      generalize cur.toList.take off = A at e3
      generalize cur.toList.drop (off + str.size) = B
      generalize bc str.data.toList = C at hbl
      rw [List.take_append, e3, List.take_of_length_le (show A.length ≤ n by omega), List.take_append, hbl, List.take_of_length_le (show C.length ≤ n - off by omega), Nat.sub_sub]
end

end Go.Proofs.Ytgocnjiabfmdpaa

namespace Go.Proofs.Ytgocnjiabfmdpaa
set_option maxRecDepth 8000
open Go.RowKit

theorem splice_put (b : List UInt8) (n : Nat) (t : List UInt8) : (bc b ++ List.replicate (n + t.length - b.length) (Value.int .u8 0)).take n ++ (bc t ++ (bc b ++ List.replicate (n + t.length - b.length) (Value.int .u8 0)).drop (n + t.length)) = bc (putL b n t) := by
  unfold putL bc
  simp [List.map_append, List.map_take, List.map_drop]

theorem size_toList (s : ByteArray) : s.data.toList.length = s.size := by rw [Array.length_toList]; rfl

/-- What put leaves. -/
def PutPost (w : World) (bv : Value) (r : List UInt8) (e : Ending) (w' : World) : Prop :=
  ∃ v', e = .returned v' ∧ w'.ownsRow 0 5 1 v' r.length (bc r) ∧ w.grownBy w' bv.ownBlock ∧ (v'.ownBlock = bv.ownBlock ∨ v'.ownBlock = some w.heap.size)

/-- A slice that owns its array is nil, or lies at the head of its block. -/
theorem own_form {w : World} {e : TypeId} {size : Nat} {v : Value} {n : Nat} {xs : List Value} (h : w.ownsRow 0 e size v n xs) : (v = .slice none 0 0 ∧ n = 0) ∨ ∃ g c, v = .slice (some ⟨g, 0, none⟩) n c ∧ n ≤ c ∧ c ≤ 9223372036854775807 := by
  rcases h.2 with ⟨rfl, rfl⟩ | ⟨g, cap, cur, rfl, _, _, hnc, hm, _⟩
  · exact Or.inl ⟨rfl, rfl⟩
  · exact Or.inr ⟨g, cap, rfl, hnc, by unfold maxLen at hm; omega⟩

theorem own_some {w : World} {e : TypeId} {size : Nat} {v : Value} {n : Nat} {xs : List Value} (h : w.ownsRow 0 e size v n xs) (hn : 0 < n) : ∃ g c, v = .slice (some ⟨g, 0, none⟩) n c ∧ n ≤ c ∧ c ≤ 9223372036854775807 := by
  rcases own_form h with ⟨_, h0⟩ | h
  · omega
  · exact h

theorem put_grown {w w1 w2 : World} {v : Value} {g n c : Nat} (h1 : w.grownBy w1 v.ownBlock) (ha : (Value.slice (some ⟨g, 0, none⟩) n c).ownBlock = v.ownBlock ∨ (Value.slice (some ⟨g, 0, none⟩) n c).ownBlock = some w.heap.size) (h2 : w1.grownBy w2 (some g)) : w.grownBy w2 v.ownBlock := by
  refine h1.andThen h2 (fun j hj => ?_)
  cases hj
  rcases ha with ha | ha
  · exact Or.inr ha.symm
  · left
    simp [Value.ownBlock] at ha
    omega

set_option maxHeartbeats 400000 in
theorem put_any (w : World) (bv : Value) (b : List UInt8) (n : Nat) (s : ByteArray) (hown : w.ownsRow 0 5 1 bv b.length (bc b)) (hb : b.length ≤ 16777216) (hc : n + s.size ≤ 16777216) (hs : 0 < s.size) :
    Calls Try.prog 87 #[bv, .int .i64 n, .string s] w (PutPost w bv (putL b n s.data.toList)) := by
  obtain ⟨i0, hi, hz0, hz1, hz2⟩ := info_parts Try.info5
  have hpl := putL_length b n s.data.toList
  have hsp := splice_put b n s.data.toList
  rw [size_toList] at hpl hsp
  have HPL := Lib.hid hpl
  have HSP := Lib.hid hsp
  clear hpl hsp
  by_cases hgt : b.length < n + s.size
  · have hd : ((n : Int) + s.size) - b.length = ((n + s.size - b.length : Nat) : Int) := by omega
    have HD := Lib.hid hd
    clear hd
    rcases own_form hown with ⟨rfl, hb0⟩ | ⟨g, c, rfl, hnc, _⟩
    · have HB := Lib.hid hb0
      clear hb0
      go_enter Try.func87, Try.ntmps87
      go_wp2_with (first
        | (at_builtin; refine wpList_append_zeros rfl (.tmp 16) (.tmp 20) 73 3 5 rfl i0 .i64 Try.underlying73 Try.underlying3 hi hz0 hz1 hz2 (.slice none 0 0) _ _ rfl hown (n + s.size - b.length) _ rfl (by have := HD.out; have := HB.out; omega) (by omega) (by omega) ?_; intro v1 w1 hown1 hg1 hat1; rw [show b.length + (n + s.size - b.length) = n + s.size by omega] at hown1; obtain ⟨g1, c1, rfl, hnc1, hc1⟩ := own_some hown1 (by omega); have HAT := Lib.hid hat1; clear hat1; have hcn' : ¬ c1 = n := (by omega); have hle : (n : Int) ≤ (n : Int) + s.size := (by omega))
        | (with_reducible refine wpList_copy_str rfl (.tmp 24) (.tmp 25) 73 9 5 rfl i0 Try.underlying73 hi hz1 g1 _ c1 _ hown1 n s.size (c1 - n) rfl (by omega) s rfl (by omega) ?_; intro w2 hown2 hg2 hs2))
      go_ret
      rw [HSP.out] at hown2
      exact ⟨_, rfl, by rw [HPL.out, Nat.max_eq_right (by omega)]; exact hown2, put_grown hg1 HAT.out hg2, HAT.out⟩
    · go_enter Try.func87, Try.ntmps87
      go_wp2_with (first
        | (at_builtin; refine wpList_append_zeros rfl (.tmp 16) (.tmp 20) 73 3 5 rfl i0 .i64 Try.underlying73 Try.underlying3 hi hz0 hz1 hz2 (.slice (some ⟨g, 0, none⟩) b.length c) _ _ rfl hown (n + s.size - b.length) _ rfl (by have := HD.out; omega) (by omega) (by omega) ?_; intro v1 w1 hown1 hg1 hat1; rw [show b.length + (n + s.size - b.length) = n + s.size by omega] at hown1; obtain ⟨g1, c1, rfl, hnc1, hc1⟩ := own_some hown1 (by omega); have HAT := Lib.hid hat1; clear hat1; have hcn' : ¬ c1 = n := (by omega); have hle : (n : Int) ≤ (n : Int) + s.size := (by omega))
        | (with_reducible refine wpList_copy_str rfl (.tmp 24) (.tmp 25) 73 9 5 rfl i0 Try.underlying73 hi hz1 g1 _ c1 _ hown1 n s.size (c1 - n) rfl (by omega) s rfl (by omega) ?_; intro w2 hown2 hg2 hs2))
      go_ret
      rw [HSP.out] at hown2
      exact ⟨_, rfl, by rw [HPL.out, Nat.max_eq_right (by omega)]; exact hown2, put_grown hg1 HAT.out hg2, HAT.out⟩
  · rcases own_form hown with ⟨_, hz⟩ | ⟨g, c, rfl, hnc, _⟩
    · omega
    have hcn' : ¬ c = n := by omega
    have hle : (n : Int) ≤ (b.length : Int) := by omega
    go_enter Try.func87, Try.ntmps87
    go_wp2_with (with_reducible refine wpList_copy_str rfl (.tmp 24) (.tmp 25) 73 9 5 rfl i0 Try.underlying73 hi hz1 g _ c _ hown n (b.length - n) (c - n) rfl (by omega) s rfl (by omega) ?_; intro w2 hown2 hg2 hs2)
    go_ret
    have e0 : n + s.size - b.length = 0 := by omega
    have hsp := HSP.out
    rw [e0, List.replicate_zero, List.append_nil] at hsp
    rw [hsp] at hown2
    exact ⟨_, rfl, by rw [HPL.out, Nat.max_eq_left (by omega)]; exact hown2, hg2, Or.inl rfl⟩

end Go.Proofs.Ytgocnjiabfmdpaa
