/- Walk of Copy. -/
import Derived.Test.YtgocnjiabfmdpaaDWo
import Derived.Test.YtgocnjiabfmdpaaDWln
import Derived.Deep.RegionLaw
namespace Go.Proofs.Ytgocnjiabfmdpaa
set_option maxRecDepth 8000
open Go.RowKit

/-- The files that the copy has already. -/
def partF (left : Int → Bool) (fb : Int → Nat) : Int → Option Value := fun x => if (isFile x && !left x) = true then some (.pointer (some ⟨fb x, 0, none⟩)) else none

def CopyPost (L : Lab) (w : World) (k2 : Nat) (s : St) (e : Ending) (w' : World) : Prop :=
  ∃ c L', e = .returned (.pointer (some ⟨c, 0, none⟩)) ∧ DAt L' w' k2 c s ∧ Fr (MA k2) L w L' w'

theorem copy_end {L1 : Lab} {wr w1 w2 : World} {k2 C cm : Nat} {cs : Array Value} {pv kv pv' kv' : Value} {fb2 : Int → Nat} {s : St} (hL : Fresh L1 wr) (hcs : cs = dcells cm pv kv s) (hC : wr.heap[C]? = some (.cells cs 78 (0, 0))) (lC : L1 C = some (k2, .disk)) (lm : L1 cm = some (k2, .files))
    (hm : IMap wr cm (filesF fb2)) (hF : ∀ i, isFile i = true → FAt L1 wr k2 i (fb2 i) (s.now i) (s.dur i) (s.sec i))
    (h1 : w1.ownsRow 0 95 2 pv' s.pend.length (pc s.pend)) (b1 : Below wr.heap.size wr w1) (n1 : ∀ g, pv'.ownBlock = some g → wr.heap.size ≤ g)
    (h2 : w2.ownsRow 0 3 1 kv' s.keep.length (ic s.keep)) (b2 : Below (w1.setCell ⟨C, 1, none⟩ pv').heap.size (w1.setCell ⟨C, 1, none⟩ pv') w2) (n2 : ∀ g, kv'.ownBlock = some g → (w1.setCell ⟨C, 1, none⟩ pv').heap.size ≤ g) :
    ∃ L', DAt L' (w2.setCell ⟨C, 5, none⟩ kv') k2 C s ∧ Fr (MA k2) L1 wr L' (w2.setCell ⟨C, 5, none⟩ kv') := by
  obtain ⟨La, g1, s1⟩ := new_label (M := MD k2) (k2, .list) hL h1 b1 n1
  have c1 := g1.lab_of hL lC
  have g2 := Fr.setD g1.fresh c1 1 pv'
  obtain ⟨Lb, g3, s3⟩ := new_label (M := MD k2) (k2, .keep) g2.fresh h2 b2 n2
  have c3 := g3.lab_of g2.fresh c1
  have g4 := Fr.setD g3.fresh c3 5 kv'
  have gT := ((g1.trans g2).trans g3).trans g4
  have hno : ∀ r, r ≠ Role.disk → ¬ MD k2 (k2, r) := fun r hr hh => hr (by injection hh)
  have q0 := (b1.block C (blk_lt hC)).trans hC
  have q1 := blk_set q0 1 pv'
  have q2 := (b2.block C (blk_lt q1)).trans q1
  have q3 := blk_set q2 5 kv'
  rw [hcs] at q3
  exact ⟨Lb, ⟨cm, pv', kv', fb2, gT.lab_of hL lC, q3, gT.lab_of hL lm, hm.keep lm hL gT (hno _ (by simp)), s1.keep g1.fresh ((g2.trans g3).trans g4) (hno _ (by simp)), s3.keep g3.fresh g4 (hno _ (by simp)),
    fun i hi => (hF i hi).keep hL gT (hno _ (by simp)) (hno _ (by simp)) (hno _ (by simp)) (hno _ (by simp))⟩, gT.mono md_ma⟩

set_option maxRecDepth 100000 in
set_option maxHeartbeats 1000000 in
theorem Copy_any {L : Lab} {w : World} {k d : Nat} {s : St} (k2 : Nat) (hk2 : k2 ≠ k) (hL : Fresh L w) (h : DAt L w k d s) (hi : Inv s) : Calls Try.prog 19 #[.pointer (some ⟨d, 0, none⟩)] w (CopyPost L w k2 s) := by
  have hmm := @run_makeMap Try.prog
  have h' := h
  obtain ⟨mb, pv, kv, fb, hdl, hb, hbody⟩ := h
  have c0 := blk_cell hb 0
  have c1 := blk_cell hb 1
  have c2 := blk_cell hb 2
  have c3 := blk_cell hb 3
  have c4 := blk_cell hb 4
  have c5 := blk_cell hb 5
  simp [dcells] at c0 c1 c2 c3 c4 c5
  have ld := blk_lt hb
  have hmap := hbody.2.1
  have lm := hmap.lt
  obtain ⟨PA, pn, pcp, rfl⟩ := own_slice hbody.2.2.1.1
  obtain ⟨KA', kn, kcp, rfl⟩ := own_slice hbody.2.2.2.1.1
  have HB := Lib.hid hb
  obtain ⟨cs, hcs⟩ : ∃ cs : Array Value, cs = #[.map (some (w.heap.size + 1)), .slice PA pn pcp, .bool s.down, .int .i64 s.lost, .int .i64 s.armed, .slice KA' kn kcp] := ⟨_, rfl⟩
  have hmW : IMap ((w.alloc (.cells #[.map (some (w.heap.size + 1)), .slice PA pn pcp, .bool s.down, .int .i64 s.lost, .int .i64 s.armed, .slice KA' kn kcp] 78)).alloc (.map #[] 0)) mb (filesF fb) := hmap.same (by rw [Below.heap_alloc _ _ _ (by simp; omega), Below.heap_alloc _ _ _ lm])
  have hCW : ((w.alloc (.cells #[.map (some (w.heap.size + 1)), .slice PA pn pcp, .bool s.down, .int .i64 s.lost, .int .i64 s.armed, .slice KA' kn kcp] 78)).alloc (.map #[] 0)).heap[w.heap.size]? = some (.cells cs 78 (0, 0)) := by
    rw [hcs]; exact (Below.heap_alloc _ _ _ (by simp)).trans (heap_alloc_new _ _)
  have hcW : IMap ((w.alloc (.cells #[.map (some (w.heap.size + 1)), .slice PA pn pcp, .bool s.down, .int .i64 s.lost, .int .i64 s.armed, .slice KA' kn kcp] 78)).alloc (.map #[] 0)) (w.heap.size + 1) (fun _ => none) := by
    have := IMap.made (w.alloc (.cells #[.map (some (w.heap.size + 1)), .slice PA pn pcp, .bool s.down, .int .i64 s.lost, .int .i64 s.armed, .slice KA' kn kcp] 78))
    simpa using this
  have fA : Fr (MA k2) L w L ((w.alloc (.cells #[.map (some (w.heap.size + 1)), .slice PA pn pcp, .bool s.down, .int .i64 s.lost, .int .i64 s.armed, .slice KA' kn kcp] 78)).alloc (.map #[] 0)) := ((Fr.refl hL).alloc _).alloc _
  have HC := Lib.hid (And.intro hcs (And.intro hCW hcW))
  clear hb hcs hCW hcW
  go_enter Try.func19, Try.ntmps19
  go_wp2_with (at_range; refine wpList_rangeI _ rfl _ 75 rfl 3 79 Try.underlying75 mb _ rfl hmW ?_; intro w0 cnt0 hit0 hg0 hs0)
  go_frame
  have hs0' : w0.heap.size = w.heap.size + 3 := by rw [hs0]; simp
  have hsr : ((w.alloc (.cells #[.map (some (w.heap.size + 1)), .slice PA pn pcp, .bool s.down, .int .i64 s.lost, .int .i64 s.armed, .slice KA' kn kcp] 78)).alloc (.map #[] 0)).heap.size = w.heap.size + 2 := by simp
  rw [hsr] at hit0 ⊢
  have fB := fA.trans (Fr.grown (M := MA k2) fA.fresh hg0 (fun g hg => by cases hg))
  have fC := ((fB.label (g := w.heap.size) (Nat.le_refl _) (by omega) (k2, .disk)).label (g := w.heap.size + 1) (by omega) (by omega) (k2, .files)).label (g := w.heap.size + 2) (by omega) (by omega) (k2, .iter)
  have hC0 : w0.heap[w.heap.size]? = some (.cells cs 78 (0, 0)) := (hg0.block _ (by rw [hsr]; omega) (by simp)).trans HC.out.2.1
  have hM0 : IMap w0 (w.heap.size + 1) (partF (fun x => (filesF fb x).isSome) fb) := (HC.out.2.2.same (hg0.block _ (by rw [hsr]; omega) (by simp))).congr (fun x => by unfold partF; cases hx : isFile x <;> simp [filesF, hx])
  obtain ⟨L0, hL0⟩ : ∃ L0, L0 = setL (setL (setL L w.heap.size (k2, .disk)) (w.heap.size + 1) (k2, .files)) (w.heap.size + 2) (k2, .iter) := ⟨_, rfl⟩
  rw [← hL0] at fC
  have e1 : L0 w.heap.size = some (k2, .disk) := by rw [hL0]; simp [setL]
  have e2 : L0 (w.heap.size + 1) = some (k2, .files) := by rw [hL0]; simp [setL]
  have e3 : L0 (w.heap.size + 2) = some (k2, .iter) := by rw [hL0]; simp [setL]
  have HE := Lib.hid (And.intro e1 (And.intro e2 e3))
  have HC0 := Lib.hid hC0
  clear hs0 hs0' hsr fA fB hL0 e1 e2 e3 hmW hC0
  go_loopw [4] (fun _ wr => ∃ (left : Int → Bool) (cnt : Nat) (L1 : Lab) (fb2 : Int → Nat), ITer wr mb (w.heap.size + 2) (filesF fb) left cnt ∧ Fr (MA k2) L w L1 wr ∧ Hid (L1 w.heap.size = some (k2, .disk) ∧ L1 (w.heap.size + 1) = some (k2, .files) ∧ L1 (w.heap.size + 2) = some (k2, .iter)) ∧
    Hid (wr.heap[w.heap.size]? = some (.cells cs 78 (0, 0))) ∧ IMap wr (w.heap.size + 1) (partF left fb2) ∧ Hid (∀ i, isFile i = true → left i = false → FAt L1 wr k2 i (fb2 i) (s.now i) (s.dur i) (s.sec i))) (fun _ wr => wr.rangeLeft mb (w.heap.size + 2))
  case atStart => exact ⟨_, cnt0, L0, fb, hit0, fC, HE, HC0, hM0, fun i hi hl => by simp [filesF, hi] at hl⟩
  case round =>
    obtain ⟨left, cnt, L1, fb2, hit, hfr, HE1, HC1, hmc, HF⟩ := hrel
    have hnk : ∀ r, ¬ MA k2 (k, r) := fun r hh => hk2 hh.symm
    go_wp2_with (at_next; refine wpList_nextI _ rfl _ rfl mb (w.heap.size + 2) _ left cnt rfl hit ?_ ?_)
    · intro hc0 hl0
      have HL0 := Lib.hid hl0
      clear hl0 hc0
      have qd := (hfr.keeps hL hdl (hnk _)).trans HB.out
      have r1 := blk_cell qd 1
      have r5 := blk_cell qd 5
      simp [dcells] at r1 r5
      have t1 := blk_cell HC1.out 1
      have t5 := blk_cell HC1.out 5
      have u1 := blk_free HC1.out 1
      rw [HC.out.1] at t1 t5
      simp at t1 t5
      have hdC : d ≠ w.heap.size := by omega
      have lwr := blk_lt qd
      have lC := blk_lt HC1.out
      have hsp := (hbody.2.2.1.keep hL hfr (hnk _)).1
      have hsk := (hbody.2.2.2.1.keep hL hfr (hnk _)).1
      have HQD := Lib.hid qd
      clear qd
      go_wp2_with fail
      refine (clone41 (Rd.of_own hsp) (pc_oneCell _) hi.few).mono ?_
      rintro e w1 ⟨pv', rfl, hown1, hb1, hnew1⟩
      have v1 := (hb1.block _ lC).trans HC1.out
      have v2 := blk_cell v1 1
      have v3 := blk_free v1 1
      rw [HC.out.1] at v2
      simp at v2
      have x1 := (hb1.block _ lwr).trans HQD.out
      have x2 := blk_cell (blk_far x1 (p := ⟨w.heap.size, 1, none⟩) hdC pv') 5
      simp [dcells] at x2
      obtain ⟨PA', pn', pcp', rfl⟩ := own_slice hown1
      have hsk1 := ownsRow_of_blocks (w1 := w1.setCell ⟨w.heap.size, 1, none⟩ (.slice PA' pn' pcp')) hsk (fun g hg => by
        refine (Below.heap_setCell _ _ _ _ (fun e => ?_)).trans (hb1.block g (hsk.lt g hg).2)
        have h5 := (hbody.2.2.2.1.keep hL hfr (hnk _)).2 g hg
        rw [e, HE1.out.1] at h5; cases h5)
      have HO := Lib.hid (And.intro hown1 (And.intro hb1 (And.intro hnew1 v1)))
      clear hown1 hb1 hnew1 v1 x1
      go_wp2_with fail
      refine (clone42 (Rd.of_own hsk1) (ic_oneCell _) hi.kept).mono ?_
      rintro e w2 ⟨kv', rfl, hown2, hb2, hnew2⟩
      have y1 := (hb2.block _ (blk_lt (blk_set HO.out.2.2.2 1 (.slice PA' pn' pcp')))).trans (blk_set HO.out.2.2.2 1 (.slice PA' pn' pcp'))
      have y2 := blk_cell y1 5
      have y3 := blk_free y1 5
      rw [HC.out.1] at y2
      simp at y2
      obtain ⟨KB, kn', kcp', rfl⟩ := own_slice hown2
      have hmF : IMap wr (w.heap.size + 1) (filesF fb2) := hmc.congr (fun x => by unfold partF filesF; rw [HL0.out x]; simp)
      obtain ⟨L', z1, z2⟩ := copy_end hfr.fresh HC.out.1 HC1.out HE1.out.1 HE1.out.2.1 hmF (fun i hi => HF.out i hi (HL0.out i)) HO.out.1 HO.out.2.1 HO.out.2.2.1 hown2 hb2 hnew2
      clear y1 hown2 hb2 hnew2
      go_wp2_with fail
      go_ret
      exact ⟨_, L', rfl, z1, hfr.trans z2⟩
    · intro x u w3 cnt1 hx hlx hfx hit1 hlt1 hg1 hs1 hen
      obtain ⟨hxf, rfl⟩ := filesF_some hfx
      have fr1 : Fr (MI k2) L1 wr L1 w3 := Fr.grown hfr.fresh hg1 (fun g hg _ => by injection hg with hg; subst hg; exact ⟨_, HE1.out.2.2, rfl⟩)
      have frT := hfr.trans (fr1.mono (fun t ht => by rw [ht]; rfl : ∀ t, MI k2 t → MA k2 t))
      have hfa := (hbody.2.2.2.2 x hxf).keep hL frT (hnk _) (hnk _) (hnk _) (hnk _)
      obtain ⟨nv, dv, sb, a1, a2, a3, a4, a5, a6⟩ := hfa
      have hC3 := (fr1.keeps hfr.fresh HE1.out.1 (fun hh => by injection hh with _ hh; cases hh)).trans HC1.out
      have hm3 := hmc.keep HE1.out.2.1 hfr.fresh fr1 (fun hh => by injection hh with _ hh; cases hh)
      have k3 := blk_cell hC3 0
      rw [HC.out.1] at k3
      simp at k3
      have hcd := hi.cap x
      have hld := hi.le x
      have HX := Lib.hid (And.intro hC3 (And.intro hm3 hs1))
      clear hC3 hs1
      go_wp2_with fail
      go_region_law (first | (go_simp; go_at_call 60; refine (copied_any (L := L1) (w := w3.drew) k2 x fr1.fresh a2 a5.1 a6.1 a4 hcd (by omega)).mono ?_; rintro e w4 ⟨p, L4, rfl, hfa4, hf4⟩; have hk4 : w4.heap[w.heap.size]? = _ := (hf4.keeps fr1.fresh HE1.out.1 (fun hh => hh)).trans HX.out.1; have k4 := blk_cell hk4 0; rw [HC.out.1] at k4; simp at k4; obtain ⟨w5, hrun, hm5, hg5, hs5⟩ := IMap.store (P := Try.prog) (HX.out.2.1.keep (w := w3.drew) HE1.out.2.1 fr1.fresh hf4 (fun hh => hh)) Try.underlying3 Try.underlying75 hx (.pointer (some ⟨p, 0, none⟩)); clear hk4 hs5))
      all_goals
        have frF : Fr (fun t => t = (k2, Role.files)) L4 w4 L4 w5 := Fr.grown hf4.fresh hg5 (fun g hg _ => by injection hg with hg; subst hg; exact ⟨_, hf4.lab_of fr1.fresh HE1.out.2.1, rfl⟩)
        have n1 := hf4.lab_of fr1.fresh HE1.out.1
        have n2 := hf4.lab_of fr1.fresh HE1.out.2.1
        have n3 := hf4.lab_of fr1.fresh HE1.out.2.2
        have hC5 := (frF.keeps hf4.fresh n1 (fun hh => by injection hh with _ hh; cases hh)).trans ((hf4.keeps fr1.fresh HE1.out.1 (fun hh => hh)).trans HX.out.1)
        have frW := (frT.drew.trans (hf4.mono (fun _ hh => hh.elim : ∀ t, False → MA k2 t))).trans (frF.mono (fun t ht => by rw [ht]; rfl : ∀ t, t = (k2, Role.files) → MA k2 t))
        have lmb : L mb = some (k, .files) := hbody.1
        have frX : Fr (MA k2) L1 w3 L4 w5 := ((Fr.refl fr1.fresh).drew.trans (hf4.mono (fun _ hh => hh.elim : ∀ t, False → MA k2 t))).trans (frF.mono (fun t ht => by rw [ht]; rfl : ∀ t, t = (k2, Role.files) → MA k2 t))
        have hit2 := hit1.same (frX.keeps fr1.fresh (frT.lab_of hL lmb) (hnk _)) ((frF.keeps hf4.fresh n3 (fun hh => by injection hh with _ hh; cases hh)).trans (hf4.keeps fr1.fresh HE1.out.2.2 (fun hh => hh)))
        have hnf : ∀ r, r ≠ Role.files → ¬ (k2, r) = (k2, Role.files) := fun r hr hh => hr (by injection hh)
        have hfa5 := hfa4.keep hf4.fresh frF (hnf _ (by simp)) (hnf _ (by simp)) (hnf _ (by simp)) (hnf _ (by simp))
        have hF5 : ∀ i, isFile i = true → left i = false → FAt L4 w5 k2 i (fb2 i) (s.now i) (s.dur i) (s.sec i) := fun i hi1 hi2 => by
          have g1 := (HF.out i hi1 hi2).keep hfr.fresh fr1 (fun hh => by injection hh with _ hh; cases hh) (fun hh => by injection hh with _ hh; cases hh) (fun hh => by injection hh with _ hh; cases hh) (fun hh => by injection hh with _ hh; cases hh)
          have g2 := g1.keep (w := w3.drew) fr1.fresh hf4 (fun hh => hh) (fun hh => hh) (fun hh => hh) (fun hh => hh)
          exact g2.keep hf4.fresh frF (hnf _ (by simp)) (hnf _ (by simp)) (hnf _ (by simp)) (hnf _ (by simp))
        have HALL := Lib.hid (And.intro hC5 (And.intro frW (And.intro hit2 (And.intro hfa5 (And.intro hF5 (And.intro n1 (And.intro n2 n3)))))))
        clear frF n1 n2 n3 hC5 frW frX hnf hfa5 hF5
        go_wp2_with fail
        go_roundw
        case rel =>
          obtain ⟨q1, q2, q3, q4, q5, q6⟩ := HALL.out
          refine ⟨_, cnt1, L4, upd fb2 x p, q3, q2, q6, q1, hm5.congr (fun y => ?_), fun i hi1 hi2 => ?_⟩
          · unfold partF
            by_cases hy : y = x
            · subst hy; simp [hxf, upd_same]
            · simp [hy, upd_ne _ _ hy]
          · by_cases hy : i = x
            · subst hy; rw [upd_same]; exact q4
            · rw [upd_ne _ _ hy]; exact q5 i hi1 (by simpa [hy] using hi2)
        case measure => rw [hit2.left_eq, hit.left_eq]; exact hlt1

end Go.Proofs.Ytgocnjiabfmdpaa
