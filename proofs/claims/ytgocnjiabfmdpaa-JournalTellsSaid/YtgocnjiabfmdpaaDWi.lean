/- Walk of forget. -/
import Derived.Test.YtgocnjiabfmdpaaDWgh
import Derived.Test.YtgocnjiabfmdpaaDWf
namespace Go.Proofs.Ytgocnjiabfmdpaa
set_option maxRecDepth 8000
open Go.RowKit

theorem own_slice {w : World} {e : TypeId} {size : Nat} {v : Value} {n : Nat} {xs : List Value} (h : w.ownsRow 0 e size v n xs) : ∃ A m c, v = .slice A m c := by
  rcases own_form h with ⟨rfl, _⟩ | ⟨g, c, rfl, _⟩
  · exact ⟨_, _, _, rfl⟩
  · exact ⟨_, _, _, rfl⟩

/-- What forget turns. -/
def MO (k : Nat) (f : Int) : Nat × Role → Prop := fun t => t = (k, Role.disk) ∨ t = (k, Role.list) ∨ t = (k, Role.file f) ∨ t = (k, Role.sect f)

theorem forget_end {L : Lab} {w w1 w2 : World} {k d mb sb : Nat} {pv kv v' nv dv : Value} {fb : Int → Nat} {s : St} {f : Int} {o : Obj} (hL : Fresh L w) (hdl : L d = some (k, .disk)) (hbody : DBody L w k mb pv kv fb s) (a1 : L (fb f) = some (k, .file f))
    (a5 : Sl L w 5 1 nv (s.now f).length (bc (s.now f)) (k, .now f)) (a6 : Sl L w 5 1 dv (s.dur f).length (bc (s.dur f)) (k, .dur f))
    (hown : w1.ownsRow 0 95 2 v' (others f s.pend).length (pc (others f s.pend))) (hg : (w.alloc o).grownBy w1 pv.ownBlock) (hat : v'.ownBlock = pv.ownBlock) (hw2 : w2 = w1.setCell ⟨d, 1, none⟩ v')
    (q0 : w2.heap[d]? = some (.cells (dcells mb v' kv s) 78 (0, 0))) (q1 : w2.heap[fb f]? = some (.cells #[nv, dv, .map (some sb)] 82 (0, 0))) :
    ∃ L', DAt L' ((w2.alloc (.map #[] 0)).setCell ⟨fb f, 2, none⟩ (.map (some w1.heap.size))).drew k d (s.forget f) ∧ Fr (MO k f) L w L' ((w2.alloc (.map #[] 0)).setCell ⟨fb f, 2, none⟩ (.map (some w1.heap.size))).drew := by
  obtain ⟨b1, hmap, b3, b4, hfs⟩ := hbody
  have fa : Fr (MO k f) L w L w1 := ((Fr.refl hL).alloc o).trans (Fr.grown ((Fr.refl (M := MO k f) hL).alloc o).fresh hg (fun g hg' _ => ⟨_, b3.2 g hg', by simp [MO]⟩))
  let M : Nat × Role → Prop := fun t => t = (k, Role.disk) ∨ t = (k, Role.file f)
  have hs2 : w2.heap.size = w1.heap.size := by rw [hw2]; simp
  have f2 : Fr M L w1 L w2 := by rw [hw2]; exact (Fr.refl fa.fresh).setCell (Or.inr ⟨_, hdl, Or.inl rfl⟩) _
  have f3 : Fr M L w1 (setL L w1.heap.size (k, .sect f)) (w2.alloc (.map #[] 0)) := (f2.alloc _).label (Nat.le_refl _) (by simp; omega) _
  have lfb := Fr.lt_of_lab fa.fresh a1
  have f4 : Fr M L w1 (setL L w1.heap.size (k, .sect f)) ((w2.alloc (.map #[] 0)).setCell ⟨fb f, 2, none⟩ (.map (some w1.heap.size))).drew := (f3.setCell (p := ⟨fb f, 2, none⟩) (Or.inr ⟨_, f3.lab_of fa.fresh a1, Or.inr rfl⟩) _).drew
  have f5 : Fr (MO k f) L w (setL L w1.heap.size (k, .sect f)) ((w2.alloc (.map #[] 0)).setCell ⟨fb f, 2, none⟩ (.map (some w1.heap.size))).drew := fa.trans (f4.mono (fun t ht => by rcases ht with ht | ht <;> simp [MO, ht]))
  have hdf : d ≠ fb f := fun e => by rw [e, a1] at hdl; cases hdl
  have hno : ∀ r, r ≠ Role.disk → r ≠ Role.list → r ≠ Role.file f → r ≠ Role.sect f → ¬ MO k f (k, r) := fun r h1 h2 h3 h4 hh => by
    rcases hh with hh | hh | hh | hh <;> injection hh with _ hh
    · exact h1 hh
    · exact h2 hh
    · exact h3 hh
    · exact h4 hh
  have hsl : Sl L w1 95 2 v' (others f s.pend).length (pc (others f s.pend)) (k, .list) := ⟨hown, fun g hg' => b3.2 g (by rw [← hat]; exact hg')⟩
  refine ⟨_, ⟨mb, v', kv, fb, f5.lab_of hL hdl, blk_far (blk_alloc q0 _) (p := ⟨fb f, 2, none⟩) hdf _, f5.lab_of hL b1, hmap.keep b1 hL f5 (hno _ (by simp) (by simp) (by simp) (by simp)),
    hsl.keep fa.fresh f4 (by simp [M]), b4.keep hL f5 (hno _ (by simp) (by simp) (by simp) (by simp)), fun i hi => ?_⟩, f5⟩
  by_cases hif : i = f
  · subst hif
    have hm : IMap (w2.alloc (.map #[] 0)) w1.heap.size (fun _ => none) := by rw [← hs2]; exact IMap.made w2
    have e0 : (s.forget i).sec i = fun _ => false := upd_same _ _ _
    rw [e0]
    exact ⟨nv, dv, w1.heap.size, f5.lab_of hL a1, by have hh := blk_set (blk_alloc q1 (.map #[] 0)) 2 (.map (some w1.heap.size)); simp at hh; exact hh, setL_same _ _ _,
      (hm.same (w' := ((w2.alloc (.map #[] 0)).setCell ⟨fb i, 2, none⟩ (.map (some w1.heap.size))).drew) (Below.heap_setCell _ _ _ _ (by simp; omega))).congr (fun x => by simp [secF]),
      a5.keep hL f5 (hno _ (by simp) (by simp) (by simp) (by simp)), a6.keep hL f5 (hno _ (by simp) (by simp) (by simp) (by simp))⟩
  · have e0 : (s.forget f).sec i = s.sec i := upd_ne _ _ hif
    rw [e0]
    refine (hfs i hi).keep hL f5 ?_ ?_ ?_ ?_ <;> (refine hno _ ?_ ?_ ?_ ?_ <;> (intro hh; first | cases hh; done | (injection hh with hh; exact hif hh)))

set_option maxHeartbeats 1000000 in
theorem forget_any {L : Lab} {w : World} {k d : Nat} {s : St} (f : Int) (hL : Fresh L w) (h : DAt L w k d s) (hfew : s.pend.length ≤ 4194304) (hf : isFile f = true) :
    Calls Try.prog 67 #[.pointer (some ⟨d, 0, none⟩), .int .i64 f] w fun e w' => e = .returned (.tuple #[]) ∧ ∃ L', DAt L' w' k d (s.forget f) ∧ Fr (MO k f) L w L' w' := by
  obtain ⟨mb, pv, kv, fb, hdl, hb, hbody⟩ := h
  have hbody' := hbody
  obtain ⟨b1, hmap, b3, b4, hfs⟩ := hbody
  obtain ⟨nv, dv, sb, a1, a2, a3, a4, a5, a6⟩ := hfs f hf
  have hif := isFile_iff.1 hf
  have hi64 : isI64 f := by unfold isI64; omega
  have c0 := blk_cell hb 0
  have c1 := blk_cell hb 1
  have f1 := blk_free hb 1
  simp [dcells] at c0 c1
  have ld := blk_lt hb
  have hlook := fun W (hW : IMap W mb (filesF fb)) => (hW.look (P := Try.prog) (k := 3) (t := 75) (e := 79) Try.underlying3 Try.underlying75 hi64 false (zero56 W)).trans (by rw [filesF_in hf, if_neg (by simp)])
  have HB := Lib.hid hb
  have HLK := Lib.hid hlook
  clear hb hlook
  go_enter Try.func67, Try.ntmps67
  go_wp2_with fail
  have hown1 := b3.1.alloc (.cells #[.int .i64 f] 3)
  refine (delete_any s.pend f w.heap.size (fun e => by have := (b3.1.lt _ e).2; omega) (by simp) hown1 hfew).mono ?_
  rintro e w1 ⟨v', rfl, hown2, hg2, hat2⟩
  obtain ⟨A, m, c, rfl⟩ := own_slice hown2
  have hwa : w.heap.size + 1 ≤ w1.heap.size := by have := hg2.size; simpa using this
  have hkeep : ∀ b t, L b = some t → t ≠ (k, Role.list) → w1.heap[b]? = w.heap[b]? := fun b t hb ht => by
    have lb := Fr.lt_of_lab hL hb
    refine (hg2.block b (by simp; omega) (fun e => ?_)).trans (Below.heap_alloc _ _ _ lb)
    have := b3.2 b e.symm
    rw [hb] at this
    exact ht (by injection this)
  have qd := (hkeep d _ hdl (by simp)).trans HB.out
  have qf := (hkeep _ _ a1 (by simp)).trans a2
  have qm := hkeep _ _ b1 (by simp)
  have d1 := blk_cell qd 1
  have d2 := blk_free qd 1
  simp [dcells] at d1
  have HQ := Lib.hid (And.intro qd (And.intro qf qm))
  have HT := Lib.hid (And.intro hown2 (And.intro hg2 hat2))
  have hqb : w1.heap[w.heap.size]? = some (.cells #[.int .i64 f] 3 (0, 0)) := (hg2.block w.heap.size (by simp) (fun e => by have := (b3.1.lt _ e.symm).2; omega)).trans (heap_alloc_new w _)
  have HQB := Lib.hid hqb
  have lfb := blk_lt a2
  clear qd qf qm hown2 hg2 hat2 hqb hown1
  go_wp2_with fail
  obtain ⟨w2, hw2⟩ : ∃ w2, w2 = w1.setCell ⟨d, 1, none⟩ (.slice A m c) := ⟨_, rfl⟩
  rw [← hw2]
  have hdf : d ≠ fb f := fun e => by rw [e, a1] at hdl; cases hdl
  have q0 := blk_set HQ.out.1 1 (.slice A m c)
  have q1 := blk_far HQ.out.2.1 (p := ⟨d, 1, none⟩) (Ne.symm hdf) (.slice A m c)
  have q2 := blk_far HQB.out (p := ⟨d, 1, none⟩) (by simp; omega) (.slice A m c)
  rw [← hw2] at q0 q1 q2
  have r0 := blk_cell q0 0
  have r1 := blk_cell q1 2
  have r2 := blk_free q1 2
  have r3 := blk_cell q2 0
  simp [dcells] at r0 r1 r3
  have r0' := alloc_cell r0 (.map #[] 0)
  have r1' := alloc_cell r1 (.map #[] 0)
  have r2' := blk_free (blk_alloc q1 (.map #[] 0)) 2
  have r3' := alloc_cell r3 (.map #[] 0)
  have QQ := Lib.hid (And.intro q0 (And.intro q1 q2))
  clear q0 q1 q2
  have hdm : mb ≠ d := fun e => by rw [e, hdl] at b1; cases b1
  have hs2 : w2.heap.size = w1.heap.size := by rw [hw2]; simp
  have hm2 : IMap w2 mb (filesF fb) := hmap.same (by rw [hw2]; exact (Below.heap_setCell _ _ _ _ hdm).trans HQ.out.2.2)
  have hl1 := HLK.out w2.drew hm2
  have hl2 := HLK.out (w2.alloc (.map #[] 0)).drew (hm2.same (Below.heap_alloc _ _ _ hm2.lt))
  have hmm := @run_makeMap Try.prog
  have lfb2 : fb f < w2.heap.size := by omega
  have ld2 : d < w2.heap.size := by omega
  have lq2 : w.heap.size < w2.heap.size := by omega
  have HW2 := Lib.hid hw2
  clear hw2
  go_region
  all_goals
    go_end0
    exact ⟨rfl, forget_end hL hdl hbody' a1 a5 a6 HT.out.1 HT.out.2.1 HT.out.2.2 HW2.out QQ.out.1 (by simpa using QQ.out.2.1)⟩

end Go.Proofs.Ytgocnjiabfmdpaa
