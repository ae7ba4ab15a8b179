/- Maps keyed by ints, whose elements are any values: look-ups, stores, and ranging in whatever order. -/
import Derived.Maps.RangeWalk
import Derived.Maps.OwnSet
import Derived.Below
import Derived.Lib.Hide
import Derived.WalkKit
namespace Go.Proofs.Yteiojobgjdfdpaa
open Go.RowKit Go.Maps Go.MapKept Go.ChangeMaps


def isI64 (n : Int) : Prop := -9223372036854775808 ≤ n ∧ n ≤ 9223372036854775807

theorem wfI {n : Int} (h : isI64 n) : (Lit.int .i64 n).wf = true := WalkArith.wf_i64 h

/-- The entries of a map from ints: f says which values lie at which ints. -/
def IEnt (es : Array MapEntry) (clock : Nat) (f : Int → Option Value) : Prop :=
  Stamped es clock ∧ (∀ e ∈ es.toList, ∃ x, e.key = .int .i64 x ∧ isI64 x ∧ f x = some e.val) ∧ ∀ x v, f x = some v → ∃ e ∈ es.toList, e.key = .int .i64 x

/-- Block b is a map from ints that holds what f says. -/
def IMap (w : World) (b : Nat) (f : Int → Option Value) : Prop := ∃ es clock, w.heap[b]? = some (.map es clock) ∧ IEnt es clock f

def lookRes (f : Int → Option Value) (n : Int) (z : Value) (c : Bool) : Value :=
  match f n with
  | some v => if c then .tuple #[v, .bool true] else v
  | none => if c then .tuple #[z, .bool false] else z

section
variable {P : Program} {w : World} {b : Nat} {f : Int → Option Value} {t k e : TypeId}

theorem IMap.lt (h : IMap w b f) : b < w.heap.size := by
  obtain ⟨es, clock, hb, _⟩ := h
  exact (Array.getElem?_eq_some_iff.1 hb).1

theorem IMap.same {w' : World} (h : IMap w b f) (hh : w'.heap[b]? = w.heap[b]?) : IMap w' b f := by
  obtain ⟨es, clock, hb, r⟩ := h
  exact ⟨es, clock, hh.trans hb, r⟩

theorem IMap.congr {g : Int → Option Value} (h : IMap w b f) (hg : ∀ x, g x = f x) : IMap w b g := by
  have : g = f := funext hg
  rw [this]; exact h

theorem IMap.made (w : World) : IMap (w.alloc (.map #[] 0)) w.heap.size (fun _ => none) :=
  ⟨#[], 0, heap_alloc_new w _, ⟨by simp, by simp, by simp⟩, by simp, by simp⟩

theorem IMap.look (h : IMap w b f) (hk : P.underlying k = some (.int .i64)) (ht : P.underlying t = some (.map k e)) {x : Int} (hx : isI64 x) (c : Bool) {z : Value} (hz : (zeroValue e).run P w = .ok z w) :
    (Instr.lookup t (.map (some b)) (.int .i64 x) c).run P w = .ok (lookRes f x z c) w := by
  obtain ⟨es, clock, hb, hs, h1, h2⟩ := h
  have K : Keyed P k := int_keyed hk
  have hkey := keyOf_int_mk hk (wfI hx)
  rcases K.find w hkey es.toList (fun e he => by obtain ⟨y, hy, hw, _⟩ := h1 e he; exact ⟨_, by rw [hy]; exact keyOf_int_mk hk (wfI hw)⟩) with ⟨r1, r2⟩ | ⟨j, e0, r1, r2, r3⟩
  · have hf : f x = none := by
      cases hfx : f x with
      | none => rfl
      | some v =>
        obtain ⟨e, he, hek⟩ := h2 x v hfx
        exact absurd hek (r2 e he)
    simp [Instr.lookup, run_underlying ht, MapKept.run_getObj_map hb, K.check w _ hkey, r1, hz, Result.andThen, lookRes, hf]
  · have hm0 : e0 ∈ es.toList := List.mem_of_getElem? r2
    obtain ⟨y, hy, hw, hfy⟩ := h1 e0 hm0
    have : y = x := by rw [r3] at hy; injection hy with _ hy; exact hy.symm
    subst this
    simp [Instr.lookup, run_underlying ht, MapKept.run_getObj_map hb, K.check w _ hkey, r1, Result.andThen, lookRes, hfy]

theorem IMap.store (h : IMap w b f) (hk : P.underlying k = some (.int .i64)) (ht : P.underlying t = some (.map k e)) {x : Int} (hx : isI64 x) (v : Value) :
    ∃ w', (Instr.mapUpdate t (.map (some b)) (.int .i64 x) v).run P w = .ok () w' ∧ IMap w' b (fun y => if y = x then some v else f y) ∧ w.grownBy w' (some b) ∧ w'.heap.size = w.heap.size := by
  obtain ⟨es, clock, hb, hs, h1, h2⟩ := h
  have K : Keyed P k := int_keyed hk
  have hkey := keyOf_int_mk hk (wfI hx)
  have gr : ∀ o : Obj, w.grownBy (setBlock w b o) (some b) := fun o => ⟨rfl, rfl, rfl, by simp [setBlock], fun i _ hi => heap_setBlock_other hb _ (fun e => hi (by rw [e]))⟩
  rcases K.find w hkey es.toList (fun e he => by obtain ⟨y, hy, hw, _⟩ := h1 e he; exact ⟨_, by rw [hy]; exact keyOf_int_mk hk (wfI hw)⟩) with ⟨r1, r2⟩ | ⟨j, e0, r1, r2, r3⟩
  · refine ⟨setBlock w b (.map (es.push ⟨.int .i64 x, v, clock⟩) (clock + 1)), ?_, ⟨_, _, heap_setBlock_same hb _, stamped_push hs r2, ?_, ?_⟩, gr _, by simp [setBlock]⟩
    · simp [Instr.mapUpdate, run_underlying ht, MapKept.run_getObj_map hb, K.check w false hkey, r1, MapKept.run_setObj_map _ hb, Result.andThen, setBlock]
    · intro e he
      simp only [Array.toList_push, List.mem_append, List.mem_singleton] at he
      rcases he with he | rfl
      · obtain ⟨y, hy, hw, hfy⟩ := h1 e he
        refine ⟨y, hy, hw, ?_⟩
        show (if y = x then some v else f y) = some e.val
        rw [if_neg]; exact hfy
        intro e1; subst e1; exact r2 e he hy
      · exact ⟨x, rfl, hx, by simp⟩
    · intro y u hu
      by_cases hyx : y = x
      · subst hyx; exact ⟨⟨.int .i64 y, v, clock⟩, by simp, rfl⟩
      · simp only [if_neg hyx] at hu
        obtain ⟨e, he, hek⟩ := h2 y u hu
        exact ⟨e, by simp only [Array.toList_push, List.mem_append]; exact Or.inl he, hek⟩
  · have hj : es[j]? = some e0 := by simpa using r2
    have hm0 : e0 ∈ es.toList := List.mem_of_getElem? r2
    have hlist : (es.modify j (fun e' => { e' with key := .int .i64 x, val := v })).toList = es.toList.set j { e0 with key := .int .i64 x, val := v } := by rw [Array.toList_modify, ChangeMaps.modify_eq_set _ _ _ _ r2]
    have hjl : j < es.toList.length := (List.getElem?_eq_some_iff.1 r2).1
    have hnod := ((stamped_iff es clock).1 hs).2.2
    refine ⟨setBlock w b (.map (es.modify j (fun e' => { e' with key := .int .i64 x, val := v })) clock), ?_, ⟨_, _, heap_setBlock_same hb _, stamped_modify hs _ _ (fun _ _ => rfl) (fun e' _ he' => by rw [hj] at he'; cases he'; exact r3.symm), ?_, ?_⟩, gr _, by simp [setBlock]⟩
    · simp [Instr.mapUpdate, run_underlying ht, MapKept.run_getObj_map hb, K.check w false hkey, r1, hj, r3, K.stays w hkey, MapKept.run_setObj_map _ hb, Result.andThen, setBlock]
    · intro e he
      rw [hlist] at he
      obtain ⟨i, hi, ex⟩ := List.getElem_of_mem he
      rw [List.getElem_set] at ex
      split at ex
      · subst ex; exact ⟨x, rfl, hx, by simp⟩
      · rename_i hne
        have hi' : i < es.toList.length := by simpa using hi
        have hm : e ∈ es.toList := ex ▸ List.getElem_mem hi'
        obtain ⟨y, hy, hw, hfy⟩ := h1 e hm
        refine ⟨y, hy, hw, ?_⟩
        show (if y = x then some v else f y) = some e.val
        rw [if_neg]; exact hfy
        intro e1; subst e1
        have := entry_eq_of_key hnod hm hm0 (hy.trans r3.symm)
        subst this
        have hb1 := ((stamped_iff es clock).1 hs).2.1
        have hj' : es.toList[j] = es.toList[i] := by rw [ex]; exact (List.getElem?_eq_some_iff.1 r2).2
        have h3 : (es.toList.map (·.born))[j]'(by simpa using hjl) = (es.toList.map (·.born))[i]'(by simpa using hi') := by simp only [List.getElem_map, hj']
        exact hne ((List.getElem_inj hb1).1 h3)
    · intro y u hu
      by_cases hyx : y = x
      · subst hyx
        exact ⟨{ e0 with key := .int .i64 y, val := v }, by rw [hlist]; exact List.mem_iff_getElem.2 ⟨j, by simpa using hjl, by simp⟩, rfl⟩
      · simp only [if_neg hyx] at hu
        obtain ⟨e, he, hek⟩ := h2 y u hu
        obtain ⟨i, hi, rfl⟩ := List.getElem_of_mem he
        have hne : j ≠ i := by
          rintro rfl
          have : es.toList[j] = e0 := (List.getElem?_eq_some_iff.1 r2).2
          rw [this, r3] at hek
          injection hek with _ h5
          exact hyx h5.symm
        exact ⟨es.toList[i], by rw [hlist]; exact List.mem_iff_getElem.2 ⟨i, by simpa using hi, by rw [List.getElem_set_ne hne]⟩, hek⟩

/-- Ranging over the map in block b, by the iterator in block r: 'left' says which ints are still to come, cnt how many. -/
def ITer (w : World) (b r : Nat) (f : Int → Option Value) (left : Int → Bool) (cnt : Nat) : Prop :=
  ∃ es clock since seen c0, w.heap[b]? = some (.map es clock) ∧ IEnt es clock f ∧ w.heap[r]? = some (.mapIter (some b) since seen c0) ∧ (∀ x ∈ es.toList, x.born < since) ∧ (leftOf es seen).size = cnt ∧
    (∀ e ∈ es.toList, ∀ x, e.key = .int .i64 x → left x = !seen.contains e.born) ∧ (∀ x, left x = true → f x ≠ none) ∧ since ≤ c0 ∧ since ≤ clock

theorem ITer.map {r : Nat} {left : Int → Bool} {cnt : Nat} (h : ITer w b r f left cnt) : IMap w b f := by
  obtain ⟨es, clock, _, _, _, hb, F, _⟩ := h
  exact ⟨es, clock, hb, F⟩

theorem ITer.left_eq {r : Nat} {left : Int → Bool} {cnt : Nat} (h : ITer w b r f left cnt) : w.rangeLeft b r = cnt := by
  obtain ⟨es, clock, since, seen, c0, hb, _, hr, _, hc, _⟩ := h
  simp only [World.rangeLeft, hb, hr]; exact hc

theorem ITer.lt {r : Nat} {left : Int → Bool} {cnt : Nat} (h : ITer w b r f left cnt) : r < w.heap.size := by
  obtain ⟨es, clock, since, seen, c0, hb, _, hr, _, hc, _⟩ := h
  exact (Array.getElem?_eq_some_iff.1 hr).1

theorem ITer.ne {r : Nat} {left : Int → Bool} {cnt : Nat} (h : ITer w b r f left cnt) : r ≠ b := by
  obtain ⟨es, clock, since, seen, c0, hb, _, hr, _⟩ := h
  intro e; rw [e, hb] at hr; cases hr

theorem ITer.same {w' : World} {r : Nat} {left : Int → Bool} {cnt : Nat} (h : ITer w b r f left cnt) (hb' : w'.heap[b]? = w.heap[b]?) (hr' : w'.heap[r]? = w.heap[r]?) : ITer w' b r f left cnt := by
  obtain ⟨es, clock, since, seen, c0, hb, F, hr, rest⟩ := h
  exact ⟨es, clock, since, seen, c0, hb'.trans hb, F, hr'.trans hr, rest⟩

theorem IMap.range (h : IMap w b f) (ht : P.underlying t = some (.map k e)) :
    ∃ w' cnt, (Instr.range t (.map (some b))).run P w = .ok (.pointer (some ⟨w.heap.size, 0, none⟩)) w' ∧ ITer w' b w.heap.size f (fun x => (f x).isSome) cnt ∧ w.grownBy w' none ∧ w'.heap.size = w.heap.size + 1 := by
  have hlt := h.lt
  obtain ⟨es, clock, hb, hs, h1, h2⟩ := h
  refine ⟨_, (leftOf es #[]).size, run_range_map w t k e b es clock ht hb, ⟨es, clock, clock, #[], clock, ((MapKept.heap_alloc w _).2 b hlt).trans hb, ⟨hs, h1, h2⟩, (MapKept.heap_alloc w _).1, hs.1, rfl, ?_, ?_, Nat.le_refl _, Nat.le_refl _⟩, World.grownBy_alloc w _ none, by simp⟩
  · intro e he x hx
    obtain ⟨y, hy, _, hf⟩ := h1 e he
    have : y = x := by rw [hx] at hy; injection hy with _ hy; exact hy.symm
    subst this
    simp [hf]
  · intro x hx e1; simp [e1] at hx

theorem ITer.next {r cnt : Nat} {left : Int → Bool} (h : ITer w b r f left cnt) (ty : TypeId) :
    (cnt = 0 ∧ (∀ x, left x = false) ∧ (Instr.next (.pointer (some ⟨r, 0, none⟩)) false ty).run P w = .ok (.tuple #[.bool false]) w) ∨
    ∃ x v w' cnt', isI64 x ∧ left x = true ∧ f x = some v ∧ (Instr.next (.pointer (some ⟨r, 0, none⟩)) false ty).run P w = .ok (.tuple #[.bool true, .int .i64 x, v]) w' ∧
      ITer w' b r f (fun y => left y && !decide (y = x)) cnt' ∧ cnt' < cnt ∧ w.grownBy w' (some r) ∧ w'.heap.size = w.heap.size ∧ (Instr.entry (.pointer (some ⟨r, 0, none⟩))).run P w' = .ok (.tuple #[.int .i64 x, v]) w' := by
  have hne := h.ne
  obtain ⟨es, clock, since, seen, c0, hb, F, hr, hold, rfl, hl1, hl2, hsc, hsk⟩ := h
  have hst := (stamped_iff es clock).1 F.1
  rcases run_next_at (P := P) w ty r b since c0 seen es clock hr hb hold hsc with ⟨h0, hrun⟩ | ⟨e, he, w1, hal, hrun⟩
  · refine Or.inl ⟨h0, fun x => ?_, hrun⟩
    cases hk : left x
    · rfl
    · cases hfx : f x with
      | none => exact absurd hfx (hl2 x hk)
      | some v =>
        obtain ⟨e, he, hek⟩ := F.2.2 x v hfx
        rw [hl1 e he x hek, all_seen es seen h0 e he] at hk
        cases hk
  · obtain ⟨hem, hes⟩ := mem_left he
    obtain ⟨x, hx, hw, hfx⟩ := F.2.1 e hem
    have hr1 : w1.heap[r]? = some (.mapIter (some b) since seen c0) := by rcases hal with rfl | rfl <;> exact hr
    have hb1 : w1.heap[b]? = some (.map es clock) := by rcases hal with rfl | rfl <;> exact hb
    have hset := heap_set (o' := .mapIter (some b) since (seen.push e.born) clock) hr1
    have hb' : (setBlock w1 r (.mapIter (some b) since (seen.push e.born) clock)).heap[b]? = some (.map es clock) := (hset.2 b (fun e1 => hne e1.symm)).trans hb1
    have hen := run_entry_at (P := P) _ r b since seen es clock e hset.1 hb' hem hst.2.1
    rw [hx] at hrun hen
    refine Or.inr ⟨x, e.val, _, _, hw, by rw [hl1 e hem x hx, hes]; rfl, hfx, hrun,
      ⟨es, clock, since, seen.push e.born, clock, hb', F, hset.1, hold, rfl, fun e' he' y hy => ?_, fun y hy => hl2 y (by simp at hy; exact hy.1), hsk, hsk⟩, left_shrinks es seen e he, ?_, ?_, hen⟩
    · show (left y && !decide (y = x)) = _
      rw [hl1 e' he' y hy, contains_push]
      by_cases hee : e' = e
      · subst hee
        have : y = x := by rw [hx] at hy; injection hy with _ hy; exact hy.symm
        subst this
        simp
      · have h3 : y ≠ x := by
          rintro rfl
          exact hee (entry_eq_of_key hst.2.2 he' hem (hy.trans hx.symm))
        have h4 : (e'.born == e.born) = false := by
          rw [beq_eq_false_iff_ne]
          intro hbb
          obtain ⟨i, hi, rfl⟩ := List.getElem_of_mem he'
          obtain ⟨j, hj, rfl⟩ := List.getElem_of_mem hem
          have h5 : (es.toList.map (·.born))[i]'(by simpa using hi) = (es.toList.map (·.born))[j]'(by simpa using hj) := by simpa only [List.getElem_map] using hbb
          have := (List.getElem_inj hst.2.1).1 h5
          subst this
          exact hee rfl
        simp [h3, h4]
    · rcases hal with rfl | rfl <;> exact ⟨rfl, rfl, rfl, by simp [setBlock], fun i _ hi => hset.2 i (fun e1 => hi (by rw [e1]))⟩
    · rcases hal with rfl | rfl <;> simp [setBlock]
end

section
variable {P : Program} (w : World) {ops : Array Oper} {rest : List Oper} {o : Oper} {a : Act} {Q : Exit → Act → World → Prop}

theorem wpList_look (hg : o.guard = none) (m x : Operand) (t : TypeId) (c : Bool) (hop : o.op = Op.lookup t m x c) (k e : TypeId) (hk : P.underlying k = some (.int .i64)) (ht : P.underlying t = some (.map k e)) {z : Value} (hz : (zeroValue e).run P w = .ok z w)
    (b : Nat) (f : Int → Option Value) (hm : a.eval m = .map (some b)) (h : IMap w b f) (n : Int) (hx : a.eval x = .int .i64 n) (hn : isI64 n) (r : Value) (hr : lookRes f n z c = r)
    (hK : wpList P ops Q rest (a.put o.dst r) w) : wpList P ops Q (o :: rest) a w := by
  subst hr
  refine wpList_plain hg fun K' hK' => ?_
  have hrun := h.look hk ht hn c hz
  unfold Oper.wp
  simp [execOp, hop, hm, hx, hrun, Result.andThen]
  exact hK' _ _ hK

theorem wpList_put (hg : o.guard = none) (m x v : Operand) (t : TypeId) (hop : o.op = Op.mapUpdate t m x v) (k e : TypeId) (hk : P.underlying k = some (.int .i64)) (ht : P.underlying t = some (.map k e))
    (b : Nat) (f : Int → Option Value) (hm : a.eval m = .map (some b)) (h : IMap w b f) (n : Int) (hx : a.eval x = .int .i64 n) (hn : isI64 n) (val : Value) (hv : a.eval v = val)
    (hK : ∀ w', IMap w' b (fun y => if y = n then some val else f y) → w.grownBy w' (some b) → w'.heap.size = w.heap.size → wpList P ops Q rest (a.put o.dst undef) w') : wpList P ops Q (o :: rest) a w := by
  refine wpList_plain hg fun K' hK' => ?_
  obtain ⟨w', hrun, r1, r2, r3⟩ := h.store (P := P) hk ht hn val
  unfold Oper.wp
  simp [execOp, hop, hm, hx, hv, hrun, Result.andThen]
  exact hK' _ _ (hK w' r1 r2 r3)

theorem wpList_ins (hg : o.guard = none) (m x v : Operand) (t : TypeId) (hop : o.op = Op.insert t m x v) (k e : TypeId) (hk : P.underlying k = some (.int .i64)) (ht : P.underlying t = some (.map k e))
    (b : Nat) (f : Int → Option Value) (hm : a.eval m = .map (some b)) (h : IMap w b f) (n : Int) (hx : a.eval x = .int .i64 n) (hn : isI64 n) (val : Value) (hv : a.eval v = val)
    (hK : ∀ w', IMap w' b (fun y => if y = n then some val else f y) → w.grownBy w' (some b) → w'.heap.size = w.heap.size → wpList P ops Q rest (a.put o.dst undef) w') : wpList P ops Q (o :: rest) a w := by
  refine wpList_plain hg fun K' hK' => ?_
  obtain ⟨w', hrun, r1, r2, r3⟩ := h.store (P := P) hk ht hn val
  unfold Oper.wp
  simp [execOp, hop, hm, hx, hv, hrun, Result.andThen]
  exact hK' _ _ (hK w' r1 r2 r3)

theorem wpList_rangeI (hg : o.guard = none) (m : Operand) (t : TypeId) (hop : o.op = Op.range t m) (k e : TypeId) (ht : P.underlying t = some (.map k e)) (b : Nat) (f : Int → Option Value)
    (hm : a.eval m = .map (some b)) (h : IMap w b f)
    (hK : ∀ w' cnt, ITer w' b w.heap.size f (fun x => (f x).isSome) cnt → w.grownBy w' none → w'.heap.size = w.heap.size + 1 → wpList P ops Q rest (a.put o.dst (.pointer (some ⟨w.heap.size, 0, none⟩))) w') :
    wpList P ops Q (o :: rest) a w := by
  refine wpList_plain hg fun K' hK' => ?_
  obtain ⟨w', cnt, hrun, r1, r2, r3⟩ := h.range (P := P) ht
  unfold Oper.wp
  simp [execOp, hop, hm, hrun, Result.andThen]
  exact hK' _ _ (hK w' cnt r1 r2 r3)

theorem wpList_nextI (hg : o.guard = none) (it : Operand) (hop : o.op = Op.next it false) (b r : Nat) (f : Int → Option Value) (left : Int → Bool) (cnt : Nat)
    (hit : a.eval it = .pointer (some ⟨r, 0, none⟩)) (h : ITer w b r f left cnt)
    (hDone : cnt = 0 → (∀ x, left x = false) → wpList P ops Q rest (a.put o.dst (.tuple #[.bool false])) w)
    (hMore : ∀ x v w' cnt', isI64 x → left x = true → f x = some v → ITer w' b r f (fun y => left y && !decide (y = x)) cnt' → cnt' < cnt →
      w.grownBy w' (some r) → w'.heap.size = w.heap.size → (Instr.entry (.pointer (some ⟨r, 0, none⟩))).run P w' = .ok (.tuple #[.int .i64 x, v]) w' → wpList P ops Q rest (a.put o.dst (.tuple #[.bool true, .int .i64 x, v])) w') :
    wpList P ops Q (o :: rest) a w := by
  refine wpList_plain hg fun K' hK' => ?_
  unfold Oper.wp
  rcases h.next (P := P) o.type with ⟨h0, hl, hrun⟩ | ⟨x, v, w', cnt', h1, h2, h3, hrun, h4, h5, h6, h7, h8⟩
  · simp [execOp, hop, hit, hrun, Result.andThen]
    exact hK' _ _ (hDone h0 hl)
  · simp [execOp, hop, hit, hrun, Result.andThen]
    exact hK' _ _ (hMore x v w' cnt' h1 h2 h3 h4 h5 h6 h7 h8)
end
end Go.Proofs.Yteiojobgjdfdpaa
