/- Walks: Way. -/
import Derived.Test.YteiojobgjdfdpaaQx
import Derived.Test.YteiojobgjdfdpaaQh
namespace Go.Proofs.Yteiojobgjdfdpaa
open Go.RowKit

/-- The ends of an arc. -/
abbrev ends (l : List Am) (i : Nat) : Int × Int := ((am l i).a.f, (am l i).a.t)
theorem own_len {w : World} {B n c m : Nat} {A : Option Addr} {l : List Int} (h : OwnI w B (.slice A n c) l) (hl : l.length = m) : n = m := by
  obtain ⟨A', c', e⟩ := h.form
  injection e with _ e _
  exact e.trans hl
set_option maxRecDepth 100000 in
set_option maxHeartbeats 8000000 in
theorem way_any (AL A : Option Addr) (nl cl m c : Nat) (lab : List Lb) (l : List Am) (dst : Int) (w : World) (hl : lab.length = nl) (hm : l.length = m) (hL : LbsAt w.heap.size w AL lab) (hA : ArcsAt w.heap.size w A l) (hn : nl ≤ 100000) (Z : List Int) (hZ : Z = wayP lab (ends l) m dst) :
    Calls Try.prog 21 #[.slice AL nl cl, .slice A m c, .int .i64 dst] w fun e w' => ∃ A' c', e = .returned (.slice A' Z.length c') ∧ OwnI w' w.heap.size (.slice A' Z.length c') Z ∧ Below w.heap.size w w' := by
  have HH := Lib.hid (And.intro hl (And.intro hm (And.intro hL hA)))
  have HZ := Lib.hid hZ
  obtain ⟨r2, hr2⟩ : ∃ r2, r2 = decide (0 ≤ dst ∧ dst < (nl : Int)) := ⟨_, rfl⟩
  have HN := Lib.hid (fun w => isNode_any nl dst w r2 hr2)
  clear hl hm hL hA hZ
  go_enter Try.func21, Try.ntmps21
  by_cases hto : 0 ≤ dst ∧ dst < (nl : Int)
  · obtain ⟨n0, rfl⟩ : ∃ n0 : Nat, dst = (n0 : Int) := ⟨dst.toNat, by omega⟩
    rw [decide_eq_true hto] at hr2; subst hr2
    have hto' : n0 < nl := by omega
    obtain ⟨b, off, hAe, hbB, k0, k1⟩ := HH.out.2.2.1 n0 (by have := HH.out.1; omega)
    subst hAe
    obtain ⟨x, hx⟩ : ∃ x, (lb lab n0).1 = x := ⟨_, rfl⟩
    rw [hx] at k0
    clear k1
    by_cases e : x = -1
    · subst e
      have hz0 : Z = [] := by
        rw [HZ.out, wayP, if_neg (by rw [Int.toNat_natCast, hx]; simp)]
      have hz := Lib.hid hz0; clear hz0
      go_wp2_with fail
      refine (HN.out _).mono ?_
      rintro e' w' ⟨rfl, rfl⟩
      go_wp2_with fail
      go_ret
      rw [hz.out]
      exact ⟨none, 0, rfl, OwnI.nil _ _, Below.refl _ _⟩
    · have e2 : (x == -1) = false := by simpa using e
      have hz0 : Z = wayR lab (ends l) m (nl + 1) (n0 : Int) [] := by
        rw [HZ.out, wayP, if_pos ⟨by omega, by have := HH.out.1; omega, by rw [Int.toNat_natCast, hx]; exact e⟩, HH.out.1]
      have HZ2 := Lib.hid hz0
      clear hz0
      clear hx
      go_wp2_with fail
      refine (HN.out _).mono ?_
      rintro e' w' ⟨rfl, rfl⟩
      go_wp2_with fail
      go_loopw [7, 8, 9, 10] (fun wv nv _ _ wr => ∃ (A' : Option Addr) (c' j v : Nat) (acc : List Int), wv = .slice A' j c' ∧ nv = .int .i64 v ∧ v < nl ∧ j ≤ nl ∧ Hid (acc.length = j) ∧ Hid (OwnI wr w.heap.size (.slice A' j c') acc.reverse) ∧ Hid (Z = wayR lab (ends l) m (nl + 1 - j) (v : Int) acc) ∧ Hid (Below w.heap.size w wr)) (fun wv _ _ _ _ => match wv with | .slice _ n _ => nl + 1 - n | _ => 0)
      case atStart => exact ⟨none, 0, 0, n0, [], rfl, rfl, hto', by omega, Lib.hid rfl, Lib.hid (OwnI.nil _ _), HZ2, Lib.hid (Below.refl _ _)⟩
      case round =>
        clear hbB k0 e e2
        obtain ⟨A', c', j, v, acc, rfl, rfl, hv, hj, hJ, hO, hW, hB⟩ := hrel
        obtain ⟨b', off', hAe', hbB', k0, k1⟩ := HH.out.2.2.1 v (by have := HH.out.1; omega)
        injection hAe' with hAe'
        injection hAe' with hAe1 hAe2 _
        subst hAe1; subst hAe2
        clear k0
        have k1 : wr.cell? ⟨b, off + v * 2 + 1, none⟩ = some (.int .i64 (lb lab v).2) := (hB.out.cell (p := ⟨b, off + v * 2 + 1, none⟩) hbB').trans k1
        obtain ⟨i, hi⟩ : ∃ i, (lb lab v).2 = i := ⟨_, rfl⟩
        rw [hi] at k1
        have hvr : 0 ≤ (v : Int) ∧ (v : Int) < lab.length := by have := HH.out.1; omega
        by_cases e : i = -1
        · subst e
          have hz0 : Z = acc := by
            rw [hW.out, show nl + 1 - j = (nl - j) + 1 by omega]
            exact wayR_end hvr (by rw [Int.toNat_natCast]; exact hi)
          have hz := Lib.hid hz0; clear hz0
          clear hi hvr
          have hre := Lib.hid (reverse_any w.heap.size A' j c' acc.reverse wr hO.out (by rw [List.length_reverse]; exact hJ.out) (by omega))
          go_wp2_with fail
          refine hre.out.mono ?_
          rintro e' w' ⟨rfl, ho', hb'⟩
          have HX := Lib.hid (And.intro ho' hb')
          clear ho' hb'
          go_wp2_with fail
          go_ret
          rw [hz.out]
          refine ⟨A', c', by show Ending.returned (.slice A' j c') = _; rw [hJ.out], ?_, hB.out.trans (HX.out.2 hB.out.size)⟩
          have := HX.out.1
          rw [List.reverse_reverse] at this
          rw [hJ.out]; exact this
        · have e2 : (i != -1) = true := by simpa using e
          have hE := Lib.hid (And.intro hi (And.intro hvr e))
          clear hi hvr
          by_cases hr : 0 ≤ i ∧ i < m ∧ j ≠ nl
          · obtain ⟨i0, rfl⟩ : ∃ i0 : Nat, i = (i0 : Int) := ⟨i.toNat, by omega⟩
            obtain ⟨b2, off2, hAe, hbB2, z0, z1, z2, z3, _⟩ := HH.out.2.2.2 i0 (by have := HH.out.2.1; omega)
            subst hAe
            have q0 : wr.cell? ⟨b2, off2 + i0 * 4, none⟩ = some (.int .i64 (am l i0).a.f) := (hB.out.cell (p := ⟨b2, off2 + i0 * 4, none⟩) hbB2).trans z0
            have q1 : wr.cell? ⟨b2, off2 + i0 * 4 + 1, none⟩ = some (.int .i64 (am l i0).a.t) := (hB.out.cell (p := ⟨b2, off2 + i0 * 4 + 1, none⟩) hbB2).trans z1
            obtain ⟨A2, n2, c2, q2⟩ : ∃ A2 n2 c2, wr.cell? ⟨b2, off2 + i0 * 4 + 2, none⟩ = some (.slice A2 n2 c2) := ⟨_, _, _, (hB.out.cell (p := ⟨b2, off2 + i0 * 4 + 2, none⟩) hbB2).trans z2⟩
            obtain ⟨A3, n3, c3, q3⟩ : ∃ A3 n3 c3, wr.cell? ⟨b2, off2 + i0 * 4 + 3, none⟩ = some (.slice A3 n3 c3) := ⟨_, _, _, (hB.out.cell (p := ⟨b2, off2 + i0 * 4 + 3, none⟩) hbB2).trans z3⟩
            clear z0 z1 z2 z3
            obtain ⟨f, hf⟩ : ∃ f, (am l i0).a.f = f := ⟨_, rfl⟩
            obtain ⟨t, ht⟩ : ∃ t, (am l i0).a.t = t := ⟨_, rfl⟩
            rw [hf] at q0; rw [ht] at q1
            have hFT := Lib.hid (And.intro hf ht)
            clear hf ht
            have hi1 : i0 < m := by omega
            have hj1 : j ≠ nl := hr.2.2
            have hj2 : j < nl := by omega
            have hj3 : ((j : Int) == (nl : Int)) = false := by simpa using (by omega : (j : Int) ≠ (nl : Int))
            have hj4 : ¬ m ≤ i0 := by omega
            have hj5 : 0 ≤ (i0 : Int) := by omega
            clear hr e
            by_cases e3 : t = (v : Int)
            · obtain ⟨r3, hr3⟩ : ∃ r3, r3 = decide (0 ≤ f ∧ f < (nl : Int)) := ⟨_, rfl⟩
              have HN3 := Lib.hid (fun w => isNode_any nl f w r3 hr3)
              have e4 : (t != (v : Int)) = false := by simpa using e3
              by_cases h3 : 0 ≤ f ∧ f < (nl : Int)
              · rw [decide_eq_true h3] at hr3; subst hr3
                obtain ⟨f0, rfl⟩ : ∃ f0 : Nat, f = (f0 : Int) := ⟨f.toNat, by omega⟩
                have hz0 : Z = wayR lab (ends l) m (nl - j) (f0 : Int) ((i0 : Int) :: acc) := by
                  rw [hW.out, show nl + 1 - j = (nl - j) + 1 by omega, wayR_step hE.out.2.1 (by rw [Int.toNat_natCast]; exact hE.out.1) hE.out.2.2 ⟨by omega, by omega, by rw [hJ.out, HH.out.1]; exact hj1, by rw [Int.toNat_natCast]; exact hFT.out.2.trans e3⟩]
                  congr 1
                  rw [Int.toNat_natCast]; exact hFT.out.1
                have hz := Lib.hid hz0; clear hz0
                have hsz := hB.out.size
                go_wp2_with fail
                refine (HN3.out _).mono ?_
                rintro e' w' ⟨rfl, rfl⟩
                have hbx := Lib.hid (Blk.new wr 39 #[.int .i64 f0, .int .i64 v, .slice A2 n2 c2, .slice A3 n3 c3])
                go_wp2_with (at_builtin; go_must (refine appIg rfl (.tmp 67) (.tmp 69) rfl w.heap.size _ acc.reverse (i0 : Int) rfl (World.ownsRow.alloc hO.out _) ?hx (by rw [List.length_reverse, hJ.out]; omega) (by simp; omega) ?_); (case hx => (simp [Act.eval]; done)); intro v5 w5 hown5 hg5 _; obtain ⟨A5, n5, c5, hv5⟩ : ∃ A n c, v5 = .slice A n c := ⟨_, _, _, hown5.form.choose_spec.choose_spec⟩; subst hv5; go_must (have hn5 : n5 = j + 1 := own_len hown5 (by rw [List.length_append, List.length_reverse, hJ.out]; rfl); subst hn5; have hB5 : Below w.heap.size w w5 := ((hB.out.alloc hsz _).alloc (by simp; omega) _).grown hg5 (by simp; omega) (fun k hk => (World.ownsRow.lt hO.out k hk).1); have q5 := ((hg5.block _ (by simp; omega) (fun e => by have := (hO.out.own_lt (g := wr.heap.size) e).2; omega)).trans (hbx.out.alloc _)) ; have q6 : w5.cell? ⟨wr.heap.size, 0, none⟩ = some (.int .i64 (f0 : Int)) := Blk.cell q5 0); have HI5 := Lib.hid hown5; have HB5 := Lib.hid hB5; clear hown5 hg5 hB5 q5)
                go_roundw
                case rel => exact ⟨A5, c5, j + 1, f0, (i0 : Int) :: acc, rfl, rfl, by omega, by omega, Lib.hid (by rw [List.length_cons, hJ.out]), Lib.hid (by rw [List.reverse_cons]; exact HI5.out), Lib.hid (by rw [hz.out, show nl + 1 - (j + 1) = nl - j by omega]), HB5⟩
                case measure => simp; omega
              · rw [decide_eq_false h3] at hr3; subst hr3
                have hz0 : Z = [] := by
                  rw [hW.out, show nl + 1 - j = (nl - j) + 1 by omega, wayR_step hE.out.2.1 (by rw [Int.toNat_natCast]; exact hE.out.1) hE.out.2.2 ⟨by omega, by omega, by rw [hJ.out, HH.out.1]; exact hj1, by rw [Int.toNat_natCast]; exact hFT.out.2.trans e3⟩]
                  refine wayR_out (fun h => h3 ?_)
                  rw [Int.toNat_natCast] at h
                  have e5 : (ends l i0).1 = f := hFT.out.1
                  rw [e5, HH.out.1] at h
                  exact h
                have hz := Lib.hid hz0; clear hz0
                have hsz := hB.out.size
                go_wp2_with fail
                refine (HN3.out _).mono ?_
                rintro e' w' ⟨rfl, rfl⟩
                go_wp2_with fail
                go_ret
                rw [hz.out]
                exact ⟨none, 0, rfl, OwnI.nil _ _, hB.out.alloc hsz _⟩
            · have e4 : (t != (v : Int)) = true := by simpa using e3
              have hz0 : Z = [] := by
                rw [hW.out]
                exact wayR_bad (by rw [Int.toNat_natCast, hE.out.1]; exact hE.out.2.2) (by rw [Int.toNat_natCast, hE.out.1]; intro h; refine e3 ?_; have := h.2.2.2; rw [Int.toNat_natCast] at this; exact hFT.out.2.symm.trans this)
              have hz := Lib.hid hz0; clear hz0
              have hsz := hB.out.size
              go_wp2_with fail
              go_ret
              rw [hz.out]
              exact ⟨none, 0, rfl, OwnI.nil _ _, hB.out.alloc hsz _⟩
          · have hz0 : Z = [] := by
              rw [hW.out]
              exact wayR_bad (by rw [Int.toNat_natCast, hE.out.1]; exact e) (by rw [Int.toNat_natCast, hE.out.1, hJ.out, HH.out.1]; intro h; exact hr ⟨h.1, h.2.1, h.2.2.1⟩)
            have hz := Lib.hid hz0; clear hz0
            clear e
            have hnil : ∃ (A' : Option Addr) (c' : Nat), Ending.returned (.slice none 0 0) = .returned (.slice A' Z.length c') ∧ OwnI wr w.heap.size (.slice A' Z.length c') Z ∧ Below w.heap.size w wr := by
              rw [hz.out]; exact ⟨none, 0, rfl, OwnI.nil _ _, hB.out⟩
            have hnil := Lib.hid hnil
            by_cases h1 : i < 0
            · go_wp2_with fail
              go_ret
              obtain ⟨A2, c2, he, ho2, hb2⟩ := hnil.out
              exact ⟨A2, c2, he, ho2, hb2⟩
            · by_cases h2 : (m : Int) ≤ i
              · go_wp2_with fail
                go_ret
                obtain ⟨A2, c2, he, ho2, hb2⟩ := hnil.out
                exact ⟨A2, c2, he, ho2, hb2⟩
              · have h3 : j = nl := by omega
                subst h3
                go_wp2_with fail
                go_ret
                obtain ⟨A2, c2, he, ho2, hb2⟩ := hnil.out
                exact ⟨A2, c2, he, ho2, hb2⟩
  · rw [decide_eq_false hto] at hr2; subst hr2
    have hz0 : Z = [] := by
      rw [HZ.out, wayP, if_neg (by intro h; have := HH.out.1; omega)]
    have hz := Lib.hid hz0; clear hz0
    go_wp2_with fail
    refine (HN.out _).mono ?_
    rintro e' w' ⟨rfl, rfl⟩
    go_wp2_with fail
    go_ret
    rw [hz.out]
    exact ⟨none, 0, rfl, OwnI.nil _ _, Below.refl _ _⟩

end Go.Proofs.Yteiojobgjdfdpaa
