/- Walk: the reference's Way. -/
import Derived.Test.YteiojobgjdfdpaaQy
namespace Go.Proofs.Yteiojobgjdfdpaa
open Go.RowKit

theorem map_get_int (es : List Int) (j : Nat) (u : Value) (hj : (es.map (Value.int .i64))[j]? = some u) : j < es.length ∧ u = .int .i64 (es.getD j 0) := by
  obtain ⟨h1, h2⟩ := List.getElem?_eq_some_iff.1 hj
  rw [List.length_map] at h1
  refine ⟨h1, ?_⟩
  rw [← h2, List.getElem_map, List.getD_eq_getElem?_getD, List.getElem?_eq_getElem h1]; rfl
set_option maxRecDepth 100000 in
/-- append of a list of ints that lies anywhere. -/
theorem appIL {w : World} {ops : Array Oper} {rest : List Oper} {o : Oper} {a : Act} {Q : Exit → Act → World → Prop} (hgd : o.guard = none) (s x : Operand)
    (ho : o.op = .call { callee := .builtin .append, args := #[s, x], argTypes := #[32, 32] })
    (B : Nat) (v : Value) (l es : List Int) (A : Option Addr) (m c B' : Nat) (hs : a.eval s = v) (hown : OwnI w B v l)
    (hx : a.eval x = .slice A m c) (hm : es.length = m) (hsrc : IntsAt B' w A es) (hb : l.length + m ≤ 1000000) (hbase : B ≤ w.heap.size)
    (h : ∀ v' w', OwnI w' B v' (l ++ es) → w.grownBy w' v.ownBlock → wpList Try.prog ops Q rest (a.put o.dst v') w') : wpList Try.prog ops Q (o :: rest) a w := by
  obtain ⟨i0, hi, hz0, hz1, hz2⟩ := info_parts Try.info3
  subst hm
  have key : ∃ v' w', (Builtin.append_ #[32, 32] o.type #[v, .slice A es.length c]).run Try.prog w = .ok v' w' ∧ OwnI w' B v' (l ++ es) ∧ w.grownBy w' v.ownBlock := by
    cases A with
    | some ad =>
      obtain ⟨v', w', a1, a2, a3, _, a4⟩ := run_append_own_at (P := Try.prog) w B 32 o.type 3 i0 (.int .i64 0) 1 8 Try.underlying32 hi hz0 hz1 hz2 rfl (by decide) v l.length (l.map (Value.int .i64)) hown ad es.length c (es.map (Value.int .i64)) (by simp)
        (fun j u hj => by
          obtain ⟨h1, rfl⟩ := map_get_int es j u hj
          obtain ⟨b, off, e, _, h3⟩ := hsrc j h1
          injection e with e
          subst e
          rw [Go.WideShapes.add_plain]
          exact h3) (fun u hu => by simp at hu; obtain ⟨k, _, rfl⟩ := hu; rfl) (by unfold maxLen; omega) (by omega) hbase
      refine ⟨v', w', a1, ?_, a3⟩
      unfold OwnI
      rw [List.length_append, List.map_append]
      exact a2
    | none =>
      have he : es = [] := by
        cases es with
        | nil => rfl
        | cons d es => obtain ⟨b, off, e, _⟩ := hsrc 0 (by simp); cases e
      subst he
      refine ⟨v, w, ?_, by rw [List.append_nil]; exact hown, ⟨rfl, rfl, rfl, Nat.le_refl _, fun _ _ _ => rfl⟩⟩
      rcases hown.2 with ⟨rfl, hn⟩ | ⟨g, cap, cur, rfl, _, _, hnc, _⟩
      · simp [Builtin.append_, run_underlying Try.underlying32, sizeOf, typeInfo, hi, Builtin.lenOf, Builtin.firstCells]
      · simp [Builtin.append_, run_underlying Try.underlying32, sizeOf, typeInfo, hi, Builtin.lenOf, Builtin.firstCells, loadCells, hnc, storeCells]
  obtain ⟨v', w', a1, a2, a3⟩ := key
  refine wpList_plain hgd fun K' hK' => ?_
  unfold Oper.wp execOp
  simp only [ho, resolve, invoke, builtin, Sem.run_bind, Sem.run_pure, Result.andThen_ok, List.map_toArray, List.map_cons, List.map_nil, hs, hx, a1]
  exact hK' _ _ (h v' w' a2 a3)

set_option maxRecDepth 100000 in
set_option maxHeartbeats 8000000 in
theorem rway_any (AL A : Option Addr) (nl cl m c : Nat) (lab : List Lb) (l : List Am) (dst : Int) (w : World) (hl : lab.length = nl) (hm : l.length = m) (hL : LbsAt w.heap.size w AL lab) (hA : ArcsAt w.heap.size w A l) (hn : nl ≤ 100000) (Z : List Int) (hZ : Z = wayP lab (ends l) m dst) :
    Calls Try.prog 22 #[.slice AL nl cl, .slice A m c, .int .i64 dst] w fun e w' => ∃ A' c', e = .returned (.slice A' Z.length c') ∧ OwnI w' w.heap.size (.slice A' Z.length c') Z ∧ Below w.heap.size w w' := by
  have HH := Lib.hid (And.intro hl (And.intro hm (And.intro hL hA)))
  have HZ0 := Lib.hid hZ
  have hnil : Hid (∀ wr, Below w.heap.size w wr → Z = [] → ∃ (A' : Option Addr) (c' : Nat), Ending.returned (.slice none 0 0) = .returned (.slice A' Z.length c') ∧ OwnI wr w.heap.size (.slice A' Z.length c') Z ∧ Below w.heap.size w wr) := Lib.hid (fun wr hb hz => by
    rw [hz]; exact ⟨none, 0, rfl, OwnI.nil _ _, hb⟩)
  clear hl hm hL hA hZ
  go_enter Try.func22, Try.ntmps22
  go_wp2_with fail
  go_loopw [2, 6, 7, 8] (fun vv _ ov _ wr => ∃ (v : Int) (A' : Option Addr) (c' j : Nat) (acc : List Int), vv = .int .i64 v ∧ ov = .slice A' j c' ∧ j ≤ nl ∧ Hid (acc.length = j) ∧ Hid (OwnI wr w.heap.size (.slice A' j c') acc) ∧
      Hid ((j = 0 → v = dst) ∧ (0 < j → Z = wayR lab (ends l) m (nl + 1 - j) v acc)) ∧ Hid (Below w.heap.size w wr)) (fun _ _ ov _ _ => match ov with | .slice _ n _ => nl + 1 - n | _ => 0)
  case atStart => exact ⟨dst, none, 0, 0, [], rfl, rfl, by omega, Lib.hid rfl, Lib.hid (OwnI.nil _ _), Lib.hid ⟨fun _ => rfl, fun h => by omega⟩, Lib.hid (Below.refl _ _)⟩
  case round =>
    obtain ⟨v, A', c', j, acc, rfl, rfl, hj, hJ, hO, hW, hB⟩ := hrel
    by_cases hto : 0 ≤ v ∧ v < (nl : Int)
    · obtain ⟨n0, rfl⟩ : ∃ n0 : Nat, v = (n0 : Int) := ⟨v.toNat, by omega⟩
      have hto' : n0 < nl := by omega
      obtain ⟨b, off, hAe, hbB, k0, k1⟩ := HH.out.2.2.1 n0 (by have := HH.out.1; omega)
      subst hAe
      have k0 := (hB.out.cell (p := ⟨b, off + n0 * 2, none⟩) hbB).trans k0
      have k1 := (hB.out.cell (p := ⟨b, off + n0 * 2 + 1, none⟩) hbB).trans k1
      obtain ⟨x, hx⟩ : ∃ x, (lb lab n0).1 = x := ⟨_, rfl⟩
      obtain ⟨i, hi⟩ : ∃ x, (lb lab n0).2 = x := ⟨_, rfl⟩
      rw [hx] at k0
      rw [hi] at k1
      have hvr : 0 ≤ (n0 : Int) ∧ (n0 : Int) < lab.length := by have := HH.out.1; omega
      have hv1 : decide ((n0 : Int) < 0) = false := decide_eq_false (by omega)
      have hv2 : decide ((nl : Int) ≤ (n0 : Int)) = false := decide_eq_false (by omega)
      have hv3 : decide ((nl : Int) < (j : Int)) = false := decide_eq_false (by omega)
      by_cases hq : j = 0 ∧ x = -1
      · have hz : Hid (Z = []) := Lib.hid (by
          rw [HZ0.out, wayP, if_neg (by rw [← hW.out.1 hq.1, Int.toNat_natCast, hx, hq.2]; simp)])
        have c1 : ((j : Int) == 0) = true := by simp [hq.1]
        have c2 : (x == -1) = true := by simp [hq.2]
        clear hx hi hvr hq
        have hsz := hB.out.size
        go_wp2_with fail
        go_ret
        exact hnil.out _ (hB.out.alloc hsz _) hz.out
      · have HW2 : Hid (Z = wayR lab (ends l) m (nl + 1 - j) (n0 : Int) acc) := Lib.hid (by
          by_cases h0 : j = 0
          · have hacc : acc = [] := List.eq_nil_of_length_eq_zero (by rw [hJ.out, h0])
            rw [HZ0.out, wayP, ← hW.out.1 h0, if_pos ⟨hvr.1, hvr.2, by rw [Int.toNat_natCast, hx]; exact fun h => hq ⟨h0, h⟩⟩, h0, hacc, HH.out.1, Nat.sub_zero]
          · exact hW.out.2 (by omega))
        have hcase : (((j : Int) == 0) = true ∧ (x == -1) = false) ∨ ((j : Int) == 0) = false := by
          by_cases h0 : j = 0
          · exact .inl ⟨by simp [h0], by simpa using fun h => hq ⟨h0, h⟩⟩
          · exact .inr (by simpa using h0)
        have HE := Lib.hid (And.intro hi hvr)
        clear hx hi hvr hq
        have hsz := hB.out.size
        go_upto_region 5 with fail
        obtain ⟨W2, hW2⟩ : ∃ W2, wr.alloc (.cells #[.int .i64 x, .int .i64 i] 37) = W2 := ⟨_, rfl⟩
        obtain ⟨g, hg⟩ : ∃ g, wr.heap.size = g := ⟨_, rfl⟩
        have q := Blk.new wr 37 #[.int .i64 x, .int .i64 i]
        rw [hW2, hg] at q
        rw [hg] at hsz
        rw [hW2, hg]
        have HB2 : Hid (Below w.heap.size w W2) := Lib.hid (by rw [← hW2]; exact hB.out.alloc hB.out.size _)
        have HO2 : Hid (OwnI W2 w.heap.size (.slice A' j c') acc) := Lib.hid (by rw [← hW2]; exact World.ownsRow.alloc hO.out _)
        have q0 : W2.cell? ⟨g, 0, none⟩ = some (.int .i64 x) := q.cell 0
        have q1 : W2.cell? ⟨g, 1, none⟩ = some (.int .i64 i) := q.cell 1
        have HQ := Lib.hid q
        clear hW2 hg q k0 k1
        have hcase2 : i = -1 ∨ (i ≠ -1 ∧ ¬ (0 ≤ i ∧ i < m ∧ j ≠ nl)) ∨ (i ≠ -1 ∧ 0 ≤ i ∧ i < m ∧ j ≠ nl) := by omega
        rcases hcase with ⟨hc1, hc2⟩ | hc1
        all_goals
          go_upto_region 7 with fail
          rcases hcase2 with rfl | ⟨hne, hr⟩ | ⟨hne, hr⟩
          · have hz : Hid (Z = acc) := Lib.hid (by
              rw [HW2.out, show nl + 1 - j = (nl - j) + 1 by omega]
              exact wayR_end HE.out.2 (by rw [Int.toNat_natCast]; exact HE.out.1))
            go_wp2_with fail
            go_ret
            rw [hz.out]
            exact ⟨A', c', by rw [hJ.out]; rfl, by rw [hJ.out]; exact HO2.out, HB2.out⟩
          · have hz : Hid (Z = []) := Lib.hid (by
              rw [HW2.out]
              exact wayR_bad (by rw [Int.toNat_natCast, HE.out.1]; exact hne) (by rw [Int.toNat_natCast, HE.out.1, hJ.out, HH.out.1]; intro h; exact hr ⟨h.1, h.2.1, h.2.2.1⟩))
            have e2 : (i == -1) = false := by simpa using hne
            clear hne
            by_cases h1 : i < 0
            · have h1' : decide (i < 0) = true := decide_eq_true h1
              clear hr h1
              go_wp2_with fail
              go_ret
              exact hnil.out _ HB2.out hz.out
            · have h1' : decide (i < 0) = false := decide_eq_false h1
              by_cases h2 : (m : Int) ≤ i
              · have h2' : decide ((m : Int) ≤ i) = true := decide_eq_true h2
                clear hr h1 h2
                go_wp2_with fail
                go_ret
                exact hnil.out _ HB2.out hz.out
              · have h2' : decide ((m : Int) ≤ i) = false := decide_eq_false h2
                have h3 : ((j : Int) == (nl : Int)) = true := by simp; omega
                clear hr h1 h2
                go_wp2_with fail
                go_ret
                exact hnil.out _ HB2.out hz.out
          · have e2 : (i == -1) = false := by simpa using hne
            obtain ⟨i0, rfl⟩ : ∃ i0 : Nat, i = (i0 : Int) := ⟨i.toNat, by omega⟩
            obtain ⟨b2, off2, hAe, hbB2, z0, z1, _⟩ := HH.out.2.2.2 i0 (by have := HH.out.2.1; omega)
            subst hAe
            have y0 : W2.cell? ⟨b2, off2 + i0 * 4, none⟩ = some (.int .i64 (am l i0).a.f) := (HB2.out.cell (p := ⟨b2, off2 + i0 * 4, none⟩) hbB2).trans z0
            have y1 : W2.cell? ⟨b2, off2 + i0 * 4 + 1, none⟩ = some (.int .i64 (am l i0).a.t) := (HB2.out.cell (p := ⟨b2, off2 + i0 * 4 + 1, none⟩) hbB2).trans z1
            obtain ⟨f, hf⟩ : ∃ f, (am l i0).a.f = f := ⟨_, rfl⟩
            obtain ⟨t, ht⟩ : ∃ t, (am l i0).a.t = t := ⟨_, rfl⟩
            rw [hf] at y0 z0; rw [ht] at y1
            have hFT := Lib.hid (And.intro hf (And.intro ht hne))
            have hi1 : i0 < m := by omega
            have hj2 : j < nl := by omega
            have h1' : decide ((i0 : Int) < 0) = false := decide_eq_false (by omega)
            have h2' : decide ((m : Int) ≤ (i0 : Int)) = false := decide_eq_false (by omega)
            have h2'' : decide (m ≤ i0) = false := decide_eq_false (by omega)
            have h3' : ((j : Int) == (nl : Int)) = false := by simpa using (by omega : (j : Int) ≠ (nl : Int))
            clear hf ht hne hr z1
            by_cases e3 : t = (n0 : Int)
            · have e4 : (t != (n0 : Int)) = false := by simpa using e3
              have hz : Hid (Z = wayR lab (ends l) m (nl - j) f ((i0 : Int) :: acc)) := Lib.hid (by
                rw [HW2.out, show nl + 1 - j = (nl - j) + 1 by omega, wayR_step HE.out.2 (by rw [Int.toNat_natCast]; exact HE.out.1) hFT.out.2.2 ⟨by omega, by omega, by rw [hJ.out, HH.out.1]; omega, by rw [Int.toNat_natCast]; exact hFT.out.2.1.trans e3⟩]
                congr 1
                rw [Int.toNat_natCast]; exact hFT.out.1)
              have hlit : Hid (OwnI (W2.alloc (.cells #[.int .i64 i0] 3)) w.heap.size (.slice (some ⟨W2.heap.size, 0, none⟩) 1 1) [(i0 : Int)]) := Lib.hid (by
                have := World.ownsRow_lit (e := 3) (size := 1) (base := w.heap.size) W2 #[.int .i64 i0] 1 HB2.out.size (by unfold maxLen; omega) (by simp)
                unfold OwnI
                exact this)
              have hsrc : Hid (IntsAt (W2.alloc (.cells #[.int .i64 i0] 3)).heap.size (W2.alloc (.cells #[.int .i64 i0] 3)) A' acc) := Lib.hid (by
                obtain ⟨a, cap, e, hI⟩ := HO2.out.ints
                injection e with e _ _
                subst e
                have hb := (Below.refl W2.heap.size W2).alloc (Nat.le_refl _) (.cells #[.int .i64 i0] 3)
                exact (hI.below hb).more hb.size)
              have hsz2 := HB2.out.size
              go_wp2_with (at_builtin; go_must (refine appIL rfl (.tmp 67) (.tmp 68) rfl w.heap.size _ [(i0 : Int)] acc A' j c' _ rfl hlit.out rfl hJ.out hsrc.out (by simp; omega) (by simp; omega) ?_); intro v5 w5 hown5 hg5; obtain ⟨A5, n5, c5, hv5⟩ : ∃ A n c, v5 = .slice A n c := ⟨_, _, _, hown5.form.choose_spec.choose_spec⟩; subst hv5; go_must (have hn5 : n5 = j + 1 := own_len hown5 (by rw [List.length_append, hJ.out, List.length_singleton]; omega); subst hn5; have hB5 : Below w.heap.size w w5 := ((HB2.out.alloc hsz2 _).grown hg5 (by simp; omega) (fun k hk => (World.ownsRow.lt hlit.out k hk).1)); have q5 := ((hg5.block g (by have := HQ.out.lt; simp; omega) (fun e => by have e' : W2.heap.size = g := (by first | exact Option.some.inj e | exact (Option.some.inj e).symm); have := HQ.out.lt; omega)).trans (HQ.out.alloc _)); have q6 : w5.cell? ⟨g, 1, none⟩ = some (.int .i64 (i0 : Int)) := Blk.cell q5 1; have y5 : w5.cell? ⟨b2, off2 + i0 * 4, none⟩ = some (.int .i64 f) := (hB5.cell (p := ⟨b2, off2 + i0 * 4, none⟩) hbB2).trans z0); have HI5 := Lib.hid hown5; have HB5 := Lib.hid hB5; clear hown5 hg5 hB5 q5)
              go_roundw
              case rel => exact ⟨f, A5, c5, j + 1, (i0 : Int) :: acc, rfl, rfl, by omega, Lib.hid (by rw [List.length_cons, hJ.out]), Lib.hid HI5.out, Lib.hid ⟨fun h => by omega, fun _ => by rw [hz.out, show nl + 1 - (j + 1) = nl - j by omega]⟩, HB5⟩
              case measure => simp; omega
            · have e4 : (t != (n0 : Int)) = true := by simpa using e3
              have hz : Hid (Z = []) := Lib.hid (by
                rw [HW2.out]
                exact wayR_bad (by rw [Int.toNat_natCast, HE.out.1]; exact hFT.out.2.2) (by rw [Int.toNat_natCast, HE.out.1]; intro h; refine e3 ?_; have := h.2.2.2; rw [Int.toNat_natCast] at this; exact hFT.out.2.1.symm.trans this))
              go_wp2_with fail
              go_ret
              exact hnil.out _ HB2.out hz.out
    · have hz : Hid (Z = []) := Lib.hid (by
        by_cases h0 : j = 0
        · rw [HZ0.out, wayP, if_neg (by rw [← hW.out.1 h0]; intro h; have := HH.out.1; omega)]
        · rw [hW.out.2 (by omega)]
          exact wayR_out (by have := HH.out.1; omega))
      by_cases h1 : v < 0
      · have h1' : decide (v < 0) = true := decide_eq_true h1
        go_wp2_with fail
        go_ret
        exact hnil.out _ hB.out hz.out
      · have h1' : decide (v < 0) = false := decide_eq_false h1
        have h2' : decide ((nl : Int) ≤ v) = true := decide_eq_true (by omega)
        go_wp2_with fail
        go_ret
        exact hnil.out _ hB.out hz.out

end Go.Proofs.Yteiojobgjdfdpaa
