/- Walk of settle: a pending sector survives. -/
import Derived.Test.YtgocnjiabfmdpaaDWcd
import Derived.Test.YtgocnjiabfmdpaaDWe
import Derived.Test.YtgocnjiabfmdpaaDMc
import Derived.Deep.RegionHeld3
import Derived.Deep.DeepFit
import Derived.Deep.RegionLaw
namespace Go.Proofs.Ytgocnjiabfmdpaa
set_option maxRecDepth 8000
open Go.RowKit

/-- The struct and the durable part of the file f. -/
def MS (k : Nat) (f : Int) : Nat × Role → Prop := fun t => t = (k, Role.file f) ∨ t = (k, Role.dur f)

/-- settle's end: the durable part is put back into the file. -/
theorem settle_end {L : Lab} {w wd w2 : World} {k d mb sb g c : Nat} {pv kv dv v' : Value} {fb : Int → Nat} {s : St} {f n : Int} (hL : Fresh L w) (hd : L d = some (k, .disk)) (hb : w.heap[d]? = some (.cells (dcells mb pv kv s) 78 (0, 0))) (hbody : DBody L w k mb pv kv fb s)
    (a1 : L (fb f) = some (k, .file f)) (a2 : w.heap[fb f]? = some (.cells #[.slice (some ⟨g, 0, none⟩) (s.now f).length c, dv, .map (some sb)] 82 (0, 0))) (a3 : L sb = some (k, .sect f)) (a4 : IMap w sb (secF (s.sec f)))
    (a5 : Sl L w 5 1 (.slice (some ⟨g, 0, none⟩) (s.now f).length c) (s.now f).length (bc (s.now f)) (k, .now f)) (a6 : Sl L w 5 1 dv (s.dur f).length (bc (s.dur f)) (k, .dur f))
    (hwd : w.grownBy wd none) (hwl : w.heap.size ≤ wd.heap.size) (hown : w2.ownsRow 0 5 1 v' (putL (s.dur f) (64 * n).toNat (secOf (s.now f) n)).length (bc (putL (s.dur f) (64 * n).toNat (secOf (s.now f) n)))) (hg : wd.grownBy w2 dv.ownBlock)
    (hat : v'.ownBlock = dv.ownBlock ∨ v'.ownBlock = some wd.heap.size) : ∃ L', DAt L' (w2.setCell ⟨fb f, 1, none⟩ v') k d (s.setl (f, n)) ∧ Fr (MS k f) L w L' (w2.setCell ⟨fb f, 1, none⟩ v') := by
  have f0 : Fr (MS k f) L w L wd := Fr.grown hL hwd (fun g hg => by cases hg)
  obtain ⟨L', f1, hsl⟩ := put_label (M := MS k f) (t := (k, .dur f)) f0.fresh (Or.inr rfl) hown hg (fun g' hg' => a6.2 g' hg') hat
  have f2 := f0.trans f1
  have hfb2 : L' (fb f) = some (k, .file f) := f2.lab_of hL a1
  have f3 : Fr (MS k f) L' w2 L' (w2.setCell ⟨fb f, 1, none⟩ v') := (Fr.refl f2.fresh).setCell (Or.inr ⟨_, hfb2, Or.inl rfl⟩) v'
  have f4 := f2.trans f3
  have hms : ∀ t, MS k f t → MF k f t := fun t ht => by rcases ht with ht | ht <;> simp [MF, ht]
  have hne : dv.ownBlock ≠ some (fb f) := fun e => by have h1 := a6.2 _ e; rw [a1] at h1; cases h1
  have hb2 : w2.heap[fb f]? = some (.cells #[.slice (some ⟨g, 0, none⟩) (s.now f).length c, dv, .map (some sb)] 82 (0, 0)) :=
    (hg.block (fb f) (Nat.lt_of_lt_of_le (blk_lt a2) hwl) (Ne.symm hne)).trans ((hwd.block (fb f) (blk_lt a2) (by simp)).trans a2)
  have hno : ∀ r, (∀ i, r ≠ Role.file i) → (∀ i, r ≠ Role.dur i) → ¬ MS k f (k, r) := fun r h1 h2 hh => by
    rcases hh with hh | hh <;> injection hh with _ hh
    · exact h1 f hh
    · exact h2 f hh
  have hsl' : Sl L' (w2.setCell ⟨fb f, 1, none⟩ v') 5 1 v' (putL (s.dur f) (64 * n).toNat (secOf (s.now f) n)).length (bc (putL (s.dur f) (64 * n).toNat (secOf (s.now f) n))) (k, .dur f) :=
    hsl.keep (M := fun t => t = (k, .file f)) f2.fresh ((Fr.refl (M := fun t => t = (k, .file f)) f2.fresh).setCell (Or.inr ⟨_, hfb2, rfl⟩) v') (by simp)
  have hd' : (s.setl (f, n)).dur f = putL (s.dur f) (64 * n).toNat (secOf (s.now f) n) := upd_same _ _ _
  refine ⟨L', DAt.head hL hd hb f4 (hno _ (by simp) (by simp)) rfl (hbody.file hL (f4.mono hms) (fun i hi => ⟨rfl, upd_ne _ _ hi, rfl⟩) rfl rfl ?_), f4⟩
  rw [hd']
  exact ⟨_, v', sb, f4.lab_of hL a1, by simpa using blk_set hb2 1 v', f4.lab_of hL a3, a4.keep a3 hL f4 (hno _ (by simp) (by simp)), a5.keep hL f4 (hno _ (by simp) (by simp)), hsl'⟩

set_option maxRecDepth 100000 in
set_option maxHeartbeats 1000000 in
theorem settle_a {L : Lab} {w : World} {k d : Nat} {s : St} (f : Int) (m : Nat) (hL : Fresh L w) (h : DAt L w k d s) (hf : isFile f = true) (hm : m * 64 + 64 ≤ (s.now f).length) (hd : (s.dur f).length ≤ (s.now f).length) (hc : (s.now f).length ≤ 16777216) :
    Calls Try.prog 66 #[.pointer (some ⟨d, 0, none⟩), .agg #[.int .i64 f, .int .i64 m]] w fun e w' => e = .returned (.tuple #[]) ∧ ∃ L', DAt L' w' k d (s.setl (f, m)) ∧ Fr (MS k f) L w L' w' := by
  obtain ⟨mb, pv, kv, fb, hdl, hb, hbody⟩ := h
  have c0 := blk_cell hb 0
  simp [dcells] at c0
  have hbody' := hbody
  obtain ⟨b1, hmap, b3, b4, hfs⟩ := hbody
  obtain ⟨nv, dv, sb, a1, a2, a3, a4, a5, a6⟩ := hfs f hf
  have hif := isFile_iff.1 hf
  have hi64 : isI64 f := by unfold isI64; omega
  have lfb := blk_lt a2
  have ld := blk_lt hb
  obtain ⟨g, c, rfl, hnc, hc1⟩ := own_some a5.1 (by omega)
  have hlook := fun W (hW : IMap W mb (filesF fb)) => (hW.look (P := Try.prog) (k := 3) (t := 75) (e := 79) Try.underlying3 Try.underlying75 hi64 false (zero56 W)).trans (by rw [filesF_in hf, if_neg (by simp)])
  have hl1 := fun n => hlook _ (hmap.same (w' := (w.alloc (.cells #[.int .i64 f, .int .i64 m] 95)).drewN n) (Below.heap_alloc _ _ _ hmap.lt))
  have n0 := blk_cell a2 0
  have n1 := blk_cell a2 1
  simp at n0 n1
  clear hlook
  go_enter Try.func66, Try.ntmps66
  go_wp2_with fail
  go_quiet (fail)
  go_wp2_with fail
  obtain ⟨w1, hw1⟩ : ∃ w1, w1 = (w.alloc (.cells #[.int .i64 f, .int .i64 m] 95)).drewN nq := ⟨_, rfl⟩
  have hh1 : ∀ b o, w.heap[b]? = some o → w1.drew.heap[b]? = some o := fun b o hb => by rw [hw1]; exact blk_alloc hb _
  have q2 := hh1 _ _ a2
  have k0 := blk_cell q2 0
  have k1 := blk_cell q2 1
  have kf := blk_free q2 1
  simp at k0 k1
  have hw1s : w1.drew.heap.size = w.heap.size + 1 := by rw [hw1]; simp
  have hcvw : ∀ W : World, W.heap[g]? = w.heap[g]? → (convert 73 9 (.slice (some ⟨g, m * 64, none⟩) 64 (c - m * 64))).run Try.prog W = .ok (.string (ba (secOf (s.now f) m))) W := fun W hW => conv_at (w := W) g (m * 64) 64 (c - m * 64) (secOf (s.now f) m) (by rw [secOf_length]; omega) (fun i hi => by
    have h1 := World.ownsRow.cellAt (ownsRow_of_blocks (w1 := W) a5.1 (fun g' hg' => by
      simp [Value.ownBlock] at hg'
      subst hg'
      exact hW)) (m * 64 + i) (by rw [Nat.mul_one]; omega)
    rw [h1, secOf_getD _ _ _ hi, show (64 * (m : Int)).toNat + i = m * 64 + i by omega]
    simp [bc, List.getElem?_eq_getElem (show m * 64 + i < (s.now f).length by omega)])
  have lg := Fr.lt_of_lab hL (a5.2 g rfl)
  have hg1 : w1.drew.heap[g]? = w.heap[g]? := by rw [hw1]; exact Below.heap_alloc _ _ _ lg
  have hcv := hcvw _ hg1
  have HCV := Lib.hid hcvw
  clear hcvw
  have hcm : ¬ c = m * 64 := by omega
  have e1 : ((m : Int) * 64).toNat = m * 64 := by omega
  have e2 : ((m : Int) * 64 + 64).toNat = m * 64 + 64 := by omega
  have e3 : (0 : Int) ≤ (m : Int) * 64 := by omega
  have e4 : (m : Int) * 64 ≤ (m : Int) * 64 + 64 := by omega
  have e5 : (m : Int) * 64 + 64 ≤ (c : Int) := by omega
  have e6 : m * 64 + 64 - m * 64 = 64 := by omega
  have hown1 : w1.drew.ownsRow 0 5 1 dv (s.dur f).length (bc (s.dur f)) := ownsRow_of_blocks (w1 := w1.drew) a6.1 (fun g' hg' => by
      have hh := a6.2 g' hg'
      rw [hw1]
      exact Below.heap_alloc _ _ _ (Fr.lt_of_lab hL hh))
  have hdf : dv.ownBlock ≠ some (fb f) := fun e => by
    have h1 := a6.2 _ e
    rw [a1] at h1; cases h1
  have hdg : dv.ownBlock ≠ some g := fun e => by
    have h1 := a6.2 _ e
    rw [a5.2 g rfl] at h1; cases h1
  rw [← hw1]
  have HW := Lib.hid hw1
  have HG1 := Lib.hid hg1
  clear hl1 hw1 hg1
  go_region_law (first | (go_simp; go_at_call 87; refine (put_any _ _ (s.dur f) (m * 64) _ hown1 (by omega) (by rw [ba_size, secOf_length]; omega) (by rw [ba_size, secOf_length]; omega)).mono ?_; rintro e w2 ⟨v', rfl, hown2, hg2, hat2⟩; rw [ba_toList] at hown2; obtain ⟨g2, c2, rfl, _, _⟩ := own_some hown2 (by rw [putL_length, secOf_length]; omega); have q3 := (hg2.block (fb f) (by omega) (Ne.symm hdf)).trans q2; have k20 := blk_cell q3 0; have k21 := blk_cell q3 1; have kf2 := blk_free q3 1; have hcv2 := HCV.out w2 ((hg2.block g (by omega) (Ne.symm hdg)).trans HG1.out); have H := settle_end (n := (m : Int)) (s := s) hL hdl hb hbody' a1 a2 a3 a4 a5 a6 (wd := w1.drew) ⟨(by rw [HW.out]; rfl), (by rw [HW.out]; rfl), (by rw [HW.out]; rfl), (by omega), fun b hb' _ => (by rw [HW.out]; exact Below.heap_alloc _ _ _ hb')⟩ (by omega) (by rw [show (64 * (m : Int)).toNat = m * 64 by omega]; exact hown2) hg2 hat2; simp at k20 k21; clear hat2 hown2 hg2))
  all_goals
    go_wp2_with fail
    go_end0
    exact ⟨rfl, H⟩

set_option maxRecDepth 100000 in
set_option maxHeartbeats 1000000 in
theorem settle_b {L : Lab} {w : World} {k d : Nat} {s : St} (f : Int) (m : Nat) (hL : Fresh L w) (h : DAt L w k d s) (hf : isFile f = true) (hm : m * 64 < (s.now f).length) (hm2 : (s.now f).length < m * 64 + 64) (hd : (s.dur f).length ≤ (s.now f).length) (hc : (s.now f).length ≤ 16777216) :
    Calls Try.prog 66 #[.pointer (some ⟨d, 0, none⟩), .agg #[.int .i64 f, .int .i64 m]] w fun e w' => e = .returned (.tuple #[]) ∧ ∃ L', DAt L' w' k d (s.setl (f, m)) ∧ Fr (MS k f) L w L' w' := by
  obtain ⟨mb, pv, kv, fb, hdl, hb, hbody⟩ := h
  have c0 := blk_cell hb 0
  simp [dcells] at c0
  have hbody' := hbody
  obtain ⟨b1, hmap, b3, b4, hfs⟩ := hbody
  obtain ⟨nv, dv, sb, a1, a2, a3, a4, a5, a6⟩ := hfs f hf
  have hif := isFile_iff.1 hf
  have hi64 : isI64 f := by unfold isI64; omega
  have lfb := blk_lt a2
  have ld := blk_lt hb
  obtain ⟨g, c, rfl, hnc, hc1⟩ := own_some a5.1 (by omega)
  have hlook := fun W (hW : IMap W mb (filesF fb)) => (hW.look (P := Try.prog) (k := 3) (t := 75) (e := 79) Try.underlying3 Try.underlying75 hi64 false (zero56 W)).trans (by rw [filesF_in hf, if_neg (by simp)])
  have hl1 := fun n => hlook _ (hmap.same (w' := (w.alloc (.cells #[.int .i64 f, .int .i64 m] 95)).drewN n) (Below.heap_alloc _ _ _ hmap.lt))
  have n0 := blk_cell a2 0
  have n1 := blk_cell a2 1
  simp at n0 n1
  clear hlook
  go_enter Try.func66, Try.ntmps66
  go_wp2_with fail
  go_quiet (fail)
  go_wp2_with fail
  obtain ⟨w1, hw1⟩ : ∃ w1, w1 = (w.alloc (.cells #[.int .i64 f, .int .i64 m] 95)).drewN nq := ⟨_, rfl⟩
  have hh1 : ∀ b o, w.heap[b]? = some o → w1.drew.heap[b]? = some o := fun b o hb => by rw [hw1]; exact blk_alloc hb _
  have q2 := hh1 _ _ a2
  have k0 := blk_cell q2 0
  have k1 := blk_cell q2 1
  have kf := blk_free q2 1
  simp at k0 k1
  have hw1s : w1.drew.heap.size = w.heap.size + 1 := by rw [hw1]; simp
  have hcvw : ∀ W : World, W.heap[g]? = w.heap[g]? → (convert 73 9 (.slice (some ⟨g, m * 64, none⟩) ((s.now f).length - m * 64) (c - m * 64))).run Try.prog W = .ok (.string (ba (secOf (s.now f) m))) W := fun W hW => conv_at (w := W) g (m * 64) ((s.now f).length - m * 64) (c - m * 64) (secOf (s.now f) m) (by rw [secOf_length]; omega) (fun i hi => by
    have h1 := World.ownsRow.cellAt (ownsRow_of_blocks (w1 := W) a5.1 (fun g' hg' => by
      simp [Value.ownBlock] at hg'
      subst hg'
      exact hW)) (m * 64 + i) (by rw [Nat.mul_one]; omega)
    rw [h1, secOf_getD _ _ _ (by omega), show (64 * (m : Int)).toNat + i = m * 64 + i by omega]
    simp [bc, List.getElem?_eq_getElem (show m * 64 + i < (s.now f).length by omega)])
  have lg := Fr.lt_of_lab hL (a5.2 g rfl)
  have hg1 : w1.drew.heap[g]? = w.heap[g]? := by rw [hw1]; exact Below.heap_alloc _ _ _ lg
  have hcv := hcvw _ hg1
  have HCV := Lib.hid hcvw
  clear hcvw
  have hcm : ¬ c = m * 64 := by omega
  have e1 : ((m : Int) * 64).toNat = m * 64 := by omega
  have e3 : (0 : Int) ≤ (m : Int) * 64 := by omega
  have e4 : (m : Int) * 64 ≤ ((s.now f).length : Int) := by omega
  have e5 : ((s.now f).length : Int) ≤ (c : Int) := by omega
  have hown1 : w1.drew.ownsRow 0 5 1 dv (s.dur f).length (bc (s.dur f)) := ownsRow_of_blocks (w1 := w1.drew) a6.1 (fun g' hg' => by
      have hh := a6.2 g' hg'
      rw [hw1]
      exact Below.heap_alloc _ _ _ (Fr.lt_of_lab hL hh))
  have hdf : dv.ownBlock ≠ some (fb f) := fun e => by
    have h1 := a6.2 _ e
    rw [a1] at h1; cases h1
  have hdg : dv.ownBlock ≠ some g := fun e => by
    have h1 := a6.2 _ e
    rw [a5.2 g rfl] at h1; cases h1
  rw [← hw1]
  have HW := Lib.hid hw1
  have HG1 := Lib.hid hg1
  clear hl1 hw1 hg1
  go_region_law (first | (go_simp; go_at_call 87; refine (put_any _ _ (s.dur f) (m * 64) _ hown1 (by omega) (by rw [ba_size, secOf_length]; omega) (by rw [ba_size, secOf_length]; omega)).mono ?_; rintro e w2 ⟨v', rfl, hown2, hg2, hat2⟩; rw [ba_toList] at hown2; obtain ⟨g2, c2, rfl, _, _⟩ := own_some hown2 (by rw [putL_length, secOf_length]; omega); have q3 := (hg2.block (fb f) (by omega) (Ne.symm hdf)).trans q2; have k20 := blk_cell q3 0; have k21 := blk_cell q3 1; have kf2 := blk_free q3 1; have hcv2 := HCV.out w2 ((hg2.block g (by omega) (Ne.symm hdg)).trans HG1.out); have H := settle_end (n := (m : Int)) (s := s) hL hdl hb hbody' a1 a2 a3 a4 a5 a6 (wd := w1.drew) ⟨(by rw [HW.out]; rfl), (by rw [HW.out]; rfl), (by rw [HW.out]; rfl), (by omega), fun b hb' _ => (by rw [HW.out]; exact Below.heap_alloc _ _ _ hb')⟩ (by omega) (by rw [show (64 * (m : Int)).toNat = m * 64 by omega]; exact hown2) hg2 hat2; simp at k20 k21; clear hat2 hown2 hg2))
  all_goals
    go_wp2_with fail
    go_end0
    exact ⟨rfl, H⟩

theorem settle_any {L : Lab} {w : World} {k d : Nat} {s : St} (f n : Int) (hL : Fresh L w) (h : DAt L w k d s) (hi : Inv s) (hs : s.sec f n = true) :
    Calls Try.prog 66 #[.pointer (some ⟨d, 0, none⟩), .agg #[.int .i64 f, .int .i64 n]] w fun e w' => e = .returned (.tuple #[]) ∧ ∃ L', DAt L' w' k d (s.setl (f, n)) ∧ Fr (MS k f) L w L' w' := by
  obtain ⟨hf, h0, hn⟩ := hi.rng f n hs
  have hd := hi.le f
  have hc := hi.cap f
  obtain ⟨m, rfl⟩ := Int.eq_ofNat_of_zero_le h0
  by_cases hm : m * 64 + 64 ≤ (s.now f).length
  · exact settle_a f m hL h hf hm hd hc
  · exact settle_b f m hL h hf (by omega) (by omega) hd hc

end Go.Proofs.Ytgocnjiabfmdpaa
