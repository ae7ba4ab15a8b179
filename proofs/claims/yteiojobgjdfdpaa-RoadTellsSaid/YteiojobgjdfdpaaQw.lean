/- Walks: the reference's Few, Same, Ints. -/
import Derived.Test.YteiojobgjdfdpaaQv
import Derived.Test.YteiojobgjdfdpaaCe
import Derived.Laws.StructEq
namespace Go.Proofs.Yteiojobgjdfdpaa
open Go.RowKit

def FewP (n : Int) (l : List Am) : Prop := l.length ≤ 30 ∧ (n ≤ 12 ∨ 2000 < n) ∧ ∀ k, k < l.length → (am l k).a.lo.length ≤ 30 ∧ (am l k).a.hi.length ≤ 30
def FewR (n : Int) (l : List Am) (w : World) (e : Ending) (w' : World) : Prop := ∃ r, e = .returned (.bool r) ∧ (r = true → FewP n l) ∧ w = w'
set_option maxRecDepth 100000 in
set_option maxHeartbeats 8000000 in
theorem few11_any (n : Int) (l : List Am) (A : Option Addr) (c m : Nat) (w : World) (hl : l.length = m) (hA : ArcsAt w.heap.size w A l) (hm : m ≤ 9223372036854775807) :
    Calls Try.prog 12 #[.int .i64 n, .slice A m c] w (FewR n l w) := by
  have HA := Lib.hid (And.intro hl hA)
  clear hl hA
  go_enter Try.func12, Try.ntmps12
  go_wp2_with fail
  go_loop [5] (fun iv => ∃ i : Nat, iv = .int .i64 i ∧ i ≤ m ∧ i ≤ 31 ∧ Hid (∀ k, k < i → (am l k).a.lo.length ≤ 30 ∧ (am l k).a.hi.length ≤ 30)) (fun iv => m - (intOf iv).toNat)
  case atStart => exact ⟨0, rfl, by omega, by omega, Lib.hid (fun k hk => by omega)⟩
  case round =>
    obtain ⟨i, rfl, hi, hi2, hK⟩ := hrel
    by_cases hgo : i < m ∧ i ≤ 30
    · obtain ⟨g1, g2⟩ := hgo
      obtain ⟨b, off, hAe, hbB, k0, k1, k2, k3, kl, kh⟩ := HA.out.2 i (by have := HA.out.1; omega)
      subst hAe
      obtain ⟨n1, hn1⟩ : ∃ n1, (am l i).a.lo.length = n1 := ⟨_, rfl⟩
      obtain ⟨n2, hn2⟩ : ∃ n2, (am l i).a.hi.length = n2 := ⟨_, rfl⟩
      rw [hn1] at k2
      rw [hn2] at k3
      have HN := Lib.hid (And.intro hn1 hn2)
      have g2' : decide ((i : Int) ≤ 30) = true := decide_eq_true (by omega)
      have g2'' : decide (i ≤ 30) = true := decide_eq_true g2
      clear hn1 hn2 k0 k1 kl kh
      by_cases h1 : 30 < n1
      · have h1' : decide (30 < n1) = true := decide_eq_true h1
        have h1'' : decide (30 < (n1 : Int)) = true := decide_eq_true (by omega)
        go_wp2_with fail
        go_ret
        exact ⟨false, by rfl, by simp, rfl⟩
      have h1' : decide (30 < n1) = false := decide_eq_false h1
      have h1'' : decide (30 < (n1 : Int)) = false := decide_eq_false (by omega)
      by_cases h2 : 30 < n2
      · have h2' : decide (30 < n2) = true := decide_eq_true h2
        have h2'' : decide (30 < (n2 : Int)) = true := decide_eq_true (by omega)
        go_wp2_with fail
        go_ret
        exact ⟨false, by rfl, by simp, rfl⟩
      have h2' : decide (30 < n2) = false := decide_eq_false h2
      have h2'' : decide (30 < (n2 : Int)) = false := decide_eq_false (by omega)
      have HX := Lib.hid (And.intro h1 h2)
      clear h1 h2
      go_wp2_with fail
      go_round
      case rel => exact ⟨i + 1, rfl, by omega, by omega, Lib.hid (fun k hk => by
        by_cases e : k < i
        · exact hK.out k e
        · have : k = i := by omega
          subst this
          have := HX.out
          have := HN.out
          omega)⟩
      case measure => simp [intOf]; omega
    · have hfin : ∀ r : Bool, (r = true → m ≤ 30 ∧ (n ≤ 12 ∨ 2000 < n)) → r = true → FewP n l := fun r hr e => by
        obtain ⟨a, b⟩ := hr e
        exact ⟨by rw [HA.out.1]; exact a, b, fun k hk => hK.out k (by rw [HA.out.1] at hk; omega)⟩
      have HF := Lib.hid hfin; clear hfin
      by_cases g1 : i < m
      · have g2 : i = 31 := by omega
        subst g2
        have g3 : decide (m ≤ 30) = false := decide_eq_false (by omega)
        have g3' : decide ((m : Int) ≤ 30) = false := decide_eq_false (by omega)
        have g1' : decide (31 < m) = true := decide_eq_true g1
        have g1'' : decide (31 < (m : Int)) = true := decide_eq_true (by omega)
        go_wp2_with fail
        go_ret
        exact ⟨false, by rfl, by simp, rfl⟩
      · have g2 : i = m := by omega
        subst g2
        have g3 : decide (i ≤ 30) = decide ((i : Int) ≤ 30) := decide_eq_decide.2 (by omega)
        by_cases g4 : i ≤ 30
        · have g4' : decide ((i : Int) ≤ 30) = true := decide_eq_true (by omega)
          have g4'' : decide (i ≤ 30) = true := decide_eq_true g4
          by_cases g5 : n ≤ 12
          · have HY := Lib.hid (HF.out true (fun _ => ⟨g4, .inl g5⟩))
            go_wp2_with fail
            go_ret
            exact ⟨true, by rfl, fun _ => HY.out trivial, rfl⟩
          · by_cases g6 : 2000 < n
            · have HY := Lib.hid (HF.out true (fun _ => ⟨g4, .inr g6⟩))
              go_wp2_with fail
              go_ret
              exact ⟨true, by rfl, fun _ => HY.out trivial, rfl⟩
            · go_wp2_with fail
              go_ret
              exact ⟨false, by rfl, by simp, rfl⟩
        · have g4' : decide ((i : Int) ≤ 30) = false := decide_eq_false (by omega)
          have g4'' : decide (i ≤ 30) = false := decide_eq_false g4
          go_wp2_with fail
          go_ret
          exact ⟨false, by rfl, by simp, rfl⟩

theorem run_neqL (a b c d0 : Int) (w : World) : (binOp .neq 37 (.agg #[.int .i64 a, .int .i64 b]) (.agg #[.int .i64 c, .int .i64 d0])).run Try.prog w = .ok (.bool (!(a == c && b == d0))) w := by
  have e1 : ∀ d w, (Op.equalIn (d + 1) 3 (.int .i64 a) (.int .i64 c)).run Try.prog w = .ok (a == c) w := fun d w => run_equalIn_int w d _ _ _ _ _ Try.underlying3
  have e2 : ∀ d w, (Op.equalIn (d + 1) 3 (.int .i64 b) (.int .i64 d0)).run Try.prog w = .ok (b == d0) w := fun d w => run_equalIn_int w d _ _ _ _ _ Try.underlying3
  have hf : (Try.prog.fieldsOf 37).toList.map (fun f => (f.name, f.type, f.offset)) = [("Time", 3, 0), ("By", 3, 1)] := by kernel_rfl
  obtain ⟨f1, f2, hff⟩ : ∃ f1 f2, (Try.prog.fieldsOf 37).toList = [f1, f2] := by
    rcases hL : (Try.prog.fieldsOf 37).toList with _ | ⟨x, _ | ⟨y, _ | ⟨z, t⟩⟩⟩
    · rw [hL] at hf; simp at hf
    · rw [hL] at hf; simp at hf
    · exact ⟨x, y, rfl⟩
    · rw [hL] at hf; simp at hf
  rw [hff] at hf
  simp only [List.map_cons, List.map_nil, List.cons.injEq, Prod.mk.injEq, and_true] at hf
  obtain ⟨⟨n1, t1, o1⟩, n2, t2, o2⟩ := hf
  rw [run_neq_struct, run_equalIn_struct w 9999 _ _ _ (by kernel_rfl) (by kernel_rfl), hff]
  by_cases h : a = c
  · subst h
    simp [Op.eqFields, n1, n2, t1, t2, o1, o2, part, go_sem, e1, e2]
    by_cases hb : b = d0 <;> simp [hb]
  · have h' : (a == c) = false := by simpa using h
    simp [Op.eqFields, n1, n2, t1, t2, o1, o2, part, go_sem, e1, e2, h']
theorem lbs_ext {l l' : List Lb} (h : l.length = l'.length) (he : ∀ k, k < l.length → lb l k = lb l' k) : l = l' := by
  apply List.ext_getElem h
  intro k h1 h2
  have := he k h1
  unfold lb at this
  rwa [List.getD_eq_getElem?_getD, List.getD_eq_getElem?_getD, List.getElem?_eq_getElem h1, List.getElem?_eq_getElem h2] at this
set_option maxRecDepth 100000 in
set_option maxHeartbeats 8000000 in
theorem same_any (A A' : Option Addr) (l l' : List Lb) (n n' c c' : Nat) (w : World) (hl : l.length = n) (hl' : l'.length = n') (hA : LbsAt w.heap.size w A l) (hA' : LbsAt w.heap.size w A' l') (hn : n ≤ 4000000000000000000) (r : Bool) (hr : r = decide (l = l')) :
    Calls Try.prog 17 #[.slice A n c, .slice A' n' c'] w fun e w' => e = .returned (.bool r) ∧ Below w.heap.size w w' := by
  have HR := Lib.hid (And.intro hr (And.intro hl hl'))
  have HA := Lib.hid (And.intro hA hA')
  clear hr hl hl' hA hA'
  go_enter Try.func17, Try.ntmps17
  by_cases he : n = n'
  · subst he
    go_wp2_with fail
    go_loopw [5] (fun iv wr => ∃ i : Nat, iv = .int .i64 i ∧ i ≤ n ∧ Hid (∀ k, k < i → lb l k = lb l' k) ∧ Hid (Below w.heap.size w wr)) (fun iv _ => n - (intOf iv).toNat)
    case atStart => exact ⟨0, rfl, by omega, Lib.hid (fun k hk => by omega), Lib.hid (Below.refl _ _)⟩
    case round =>
      obtain ⟨i, rfl, hi, hK, HQ⟩ := hrel
      by_cases hgo : i < n
      · obtain ⟨b, off, hAe, hbB, k0, k1⟩ := HA.out.1 i (by have := HR.out.2.1; omega)
        obtain ⟨b', off', hAe', hbB', j0, j1⟩ := HA.out.2 i (by have := HR.out.2.2; omega)
        subst hAe; subst hAe'
        have k0 : wr.cell? ⟨b, off + i * 2, none⟩ = some (.int .i64 (lb l i).1) := (HQ.out.cell (block_lt_of_cell k0)).trans k0
        have k1 : wr.cell? ⟨b, off + i * 2 + 1, none⟩ = some (.int .i64 (lb l i).2) := (HQ.out.cell (block_lt_of_cell k1)).trans k1
        have j0 : wr.cell? ⟨b', off' + i * 2, none⟩ = some (.int .i64 (lb l' i).1) := (HQ.out.cell (block_lt_of_cell j0)).trans j0
        have j1 : wr.cell? ⟨b', off' + i * 2 + 1, none⟩ = some (.int .i64 (lb l' i).2) := (HQ.out.cell (block_lt_of_cell j1)).trans j1
        obtain ⟨x, hx⟩ : ∃ x, lb l i = x := ⟨_, rfl⟩
        obtain ⟨y, hy⟩ : ∃ y, lb l' i = y := ⟨_, rfl⟩
        rw [hx] at k0 k1
        rw [hy] at j0 j1
        obtain ⟨x1, x2⟩ := x
        obtain ⟨y1, y2⟩ := y
        have hne := run_neqL x1 x2 y1 y2
        have HXY := Lib.hid (And.intro hx hy)
        clear hx hy
        by_cases e : x1 = y1 ∧ x2 = y2
        · obtain ⟨rfl, rfl⟩ := e
          have hb : (!(x1 == x1 && x2 == x2)) = false := by simp
          rw [hb] at hne
          go_wp2_with fail
          go_quiet (fail)
          go_wp2_with fail
          go_roundw
          case rel => exact ⟨i + 1, rfl, by omega, Lib.hid (fun k hk => by
            by_cases e : k < i
            · exact hK.out k e
            · have : k = i := by omega
              subst this
              rw [HXY.out.1, HXY.out.2]), Lib.hid (below_drewN HQ.out _)⟩
          case measure => simp [intOf]; omega
        · have hb : (!(x1 == y1 && x2 == y2)) = true := by
            simp only [Bool.not_eq_true', Bool.and_eq_false_iff, beq_eq_false_iff_ne]
            by_cases h1 : x1 = y1
            · exact .inr (fun h2 => e ⟨h1, h2⟩)
            · exact .inl h1
          rw [hb] at hne
          have HE := Lib.hid e; clear e
          go_wp2_with fail
          go_quiet (fail)
          go_wp2_with fail
          go_ret
          refine ⟨?_, below_drewN HQ.out _⟩
          have hf : r = false := by
            rw [HR.out.1]
            refine decide_eq_false (fun h => HE.out ?_)
            rw [h, HXY.out.2] at HXY
            have := HXY.out.1
            injection this with e1 e2
            exact ⟨e1.symm, e2.symm⟩
          rw [hf]; rfl
      · have : i = n := by omega
        subst this
        have hf : r = true := by
          rw [HR.out.1]
          refine decide_eq_true (lbs_ext (by rw [HR.out.2.1, HR.out.2.2]) (fun k hk => hK.out k (by rw [HR.out.2.1] at hk; exact hk)))
        have HF := Lib.hid hf
        clear hf
        go_wp2_with fail
        go_ret
        exact ⟨by rw [HF.out]; rfl, HQ.out⟩
  · have hf : r = false := by
      rw [HR.out.1]
      refine decide_eq_false (fun h => he ?_)
      rw [← HR.out.2.1, ← HR.out.2.2, h]
    have HF := Lib.hid hf
    clear hf
    have h1 : ((n : Int) != (n' : Int)) = true := by simp; omega
    have h2 : (n != n') = true := by simp; omega
    go_wp2_with fail
    go_ret
    exact ⟨by rw [HF.out]; rfl, Below.refl _ _⟩

theorem ints_ext {l l' : List Int} (h : l.length = l'.length) (he : ∀ k, k < l.length → l.getD k 0 = l'.getD k 0) : l = l' := by
  apply List.ext_getElem h
  intro k h1 h2
  have := he k h1
  rwa [List.getD_eq_getElem?_getD, List.getD_eq_getElem?_getD, List.getElem?_eq_getElem h1, List.getElem?_eq_getElem h2] at this
set_option maxRecDepth 100000 in
set_option maxHeartbeats 8000000 in
theorem ints_any (A A' : Option Addr) (l l' : List Int) (n n' c c' : Nat) (w : World) (hl : l.length = n) (hl' : l'.length = n') (hA : IntsAt w.heap.size w A l) (hA' : IntsAt w.heap.size w A' l') (hn : n ≤ 4000000000000000000) (r : Bool) (hr : r = decide (l = l')) :
    Calls Try.prog 20 #[.slice A n c, .slice A' n' c'] w fun e w' => e = .returned (.bool r) ∧ Below w.heap.size w w' := by
  have HR := Lib.hid (And.intro hr (And.intro hl hl'))
  have HA := Lib.hid (And.intro hA hA')
  clear hr hl hl' hA hA'
  go_enter Try.func20, Try.ntmps20
  by_cases he : n = n'
  · subst he
    go_wp2_with fail
    go_loopw [5] (fun iv wr => ∃ i : Nat, iv = .int .i64 i ∧ i ≤ n ∧ Hid (∀ k, k < i → l.getD k 0 = l'.getD k 0) ∧ Hid (Below w.heap.size w wr)) (fun iv _ => n - (intOf iv).toNat)
    case atStart => exact ⟨0, rfl, by omega, Lib.hid (fun k hk => by omega), Lib.hid (Below.refl _ _)⟩
    case round =>
      obtain ⟨i, rfl, hi, hK, HQ⟩ := hrel
      by_cases hgo : i < n
      · obtain ⟨b, off, hAe, hbB, k0⟩ := HA.out.1 i (by have := HR.out.2.1; omega)
        obtain ⟨b', off', hAe', hbB', j0⟩ := HA.out.2 i (by have := HR.out.2.2; omega)
        subst hAe; subst hAe'
        have k0 : wr.cell? ⟨b, off + i, none⟩ = some (.int .i64 (l.getD i 0)) := (HQ.out.cell (block_lt_of_cell k0)).trans k0
        have j0 : wr.cell? ⟨b', off' + i, none⟩ = some (.int .i64 (l'.getD i 0)) := (HQ.out.cell (block_lt_of_cell j0)).trans j0
        obtain ⟨x, hx⟩ : ∃ x, l.getD i 0 = x := ⟨_, rfl⟩
        obtain ⟨y, hy⟩ : ∃ y, l'.getD i 0 = y := ⟨_, rfl⟩
        rw [hx] at k0
        rw [hy] at j0
        have HXY := Lib.hid (And.intro hx hy)
        clear hx hy
        by_cases e : x = y
        · subst e
          go_wp2_with fail
          go_quiet (fail)
          go_wp2_with fail
          go_roundw
          case rel => exact ⟨i + 1, rfl, by omega, Lib.hid (fun k hk => by
            by_cases e : k < i
            · exact hK.out k e
            · have : k = i := by omega
              subst this
              rw [HXY.out.1, HXY.out.2]), Lib.hid (below_drewN HQ.out _)⟩
          case measure => simp [intOf]; omega
        · have e2 : (x != y) = true := by simpa using e
          have HE := Lib.hid e; clear e
          go_wp2_with fail
          go_quiet (fail)
          go_wp2_with fail
          go_ret
          refine ⟨?_, below_drewN HQ.out _⟩
          have hf : r = false := by
            rw [HR.out.1]
            refine decide_eq_false (fun h => HE.out ?_)
            rw [← HXY.out.1, ← HXY.out.2, h]
          rw [hf]; rfl
      · have : i = n := by omega
        subst this
        have hf : r = true := by
          rw [HR.out.1]
          refine decide_eq_true (ints_ext (by rw [HR.out.2.1, HR.out.2.2]) (fun k hk => hK.out k (by rw [HR.out.2.1] at hk; exact hk)))
        have HF := Lib.hid hf
        clear hf
        go_wp2_with fail
        go_ret
        exact ⟨by rw [HF.out]; rfl, HQ.out⟩
  · have hf : r = false := by
      rw [HR.out.1]
      refine decide_eq_false (fun h => he ?_)
      rw [← HR.out.2.1, ← HR.out.2.2, h]
    have HF := Lib.hid hf
    clear hf
    have h1 : ((n : Int) != (n' : Int)) = true := by simp; omega
    have h2 : (n != n') = true := by simp; omega
    go_wp2_with fail
    go_ret
    exact ⟨by rw [HF.out]; rfl, Below.refl _ _⟩

end Go.Proofs.Yteiojobgjdfdpaa
