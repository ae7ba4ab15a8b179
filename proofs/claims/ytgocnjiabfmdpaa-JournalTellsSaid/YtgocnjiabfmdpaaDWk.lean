/- What a write makes of a file, and of the list of pending sectors. -/
import Derived.Test.YtgocnjiabfmdpaaDWi
namespace Go.Proofs.Ytgocnjiabfmdpaa
set_option maxRecDepth 8000
open Go.RowKit

theorem mf_no {k : Nat} {f : Int} {r : Role} (h : ∀ i, r ≠ Role.file i ∧ r ≠ Role.sect i ∧ r ≠ Role.now i ∧ r ≠ Role.dur i) : ¬ MF k f (k, r) := by
  intro hh
  rcases hh with hh | hh | hh | hh <;> injection hh with _ hh
  · exact (h f).1 hh
  · exact (h f).2.1 hh
  · exact (h f).2.2.1 hh
  · exact (h f).2.2.2 hh

theorem wrote_file {L : Lab} {w w1 : World} {k mb sb : Nat} {pv kv v' nv dv : Value} {fb : Int → Nat} {s : St} {f a : Int} {t : List UInt8} (hL : Fresh L w) (hbody : DBody L w k mb pv kv fb s) (a1 : L (fb f) = some (k, .file f)) (a2 : w.heap[fb f]? = some (.cells #[nv, dv, .map (some sb)] 82 (0, 0)))
    (a3 : L sb = some (k, .sect f)) (a4 : IMap w sb (secF (s.sec f))) (a5 : Sl L w 5 1 nv (s.now f).length (bc (s.now f)) (k, .now f)) (a6 : Sl L w 5 1 dv (s.dur f).length (bc (s.dur f)) (k, .dur f))
    (hown : w1.ownsRow 0 5 1 v' (putL (s.now f) a.toNat t).length (bc (putL (s.now f) a.toNat t))) (hg : w.grownBy w1 nv.ownBlock) (hat : v'.ownBlock = nv.ownBlock ∨ v'.ownBlock = some w.heap.size) :
    ∃ L', DBody L' (w1.setCell ⟨fb f, 0, none⟩ v') k mb pv kv fb (s.wrote f a t) ∧ Fr (MF k f) L w L' (w1.setCell ⟨fb f, 0, none⟩ v') := by
  let M : Nat × Role → Prop := fun t => t = (k, Role.file f) ∨ t = (k, Role.now f)
  obtain ⟨L1, f1, hsl⟩ := put_label (M := M) (t := (k, .now f)) hL (Or.inr rfl) hown hg (fun g' hg' => a5.2 g' hg') hat
  have b1 := f1.lab_of hL a1
  have f2 : Fr M L1 w1 L1 (w1.setCell ⟨fb f, 0, none⟩ v') := (Fr.refl f1.fresh).setCell (Or.inr ⟨_, b1, Or.inl rfl⟩) v'
  have f3 := f1.trans f2
  have f4 : Fr (MF k f) L w L1 (w1.setCell ⟨fb f, 0, none⟩ v') := f3.mono (fun t ht => by rcases ht with ht | ht <;> simp [MF, ht])
  have hne : nv.ownBlock ≠ some (fb f) := fun e => by have h1 := a5.2 _ e; rw [a1] at h1; cases h1
  have q1 : w1.heap[fb f]? = some (.cells #[nv, dv, .map (some sb)] 82 (0, 0)) := (hg.block (fb f) (blk_lt a2) (Ne.symm hne)).trans a2
  have q2 := blk_set q1 0 v'
  simp at q2
  have hsl' := hsl.keep (M := fun t => t = (k, .file f)) f1.fresh ((Fr.refl (M := fun t => t = (k, .file f)) f1.fresh).setCell (p := ⟨fb f, 0, none⟩) (Or.inr ⟨_, b1, rfl⟩) v') (by simp)
  refine ⟨L1, hbody.file hL f4 (fun i hi => ⟨upd_ne _ _ hi, rfl, rfl⟩) rfl rfl ?_, f4⟩
  have hn : (s.wrote f a t).now f = putL (s.now f) a.toNat t := upd_same _ _ _
  rw [hn]
  exact ⟨v', dv, sb, f4.lab_of hL a1, q2, f4.lab_of hL a3, a4.keep a3 hL f3 (by simp [M]), hsl', a6.keep hL f3 (by simp [M])⟩

/-- One more sector is pending. -/
theorem sec_step {L : Lab} {w w1 w2 : World} {k d mb sb : Nat} {pv kv v' nv dv : Value} {fb : Int → Nat} {s : St} {f n : Int} {o : Obj} (hL : Fresh L w) (hd : L d = some (k, .disk)) (hb : w.heap[d]? = some (.cells (dcells mb pv kv s) 78 (0, 0))) (hbody : DBody L w k mb pv kv fb s)
    (a1 : L (fb f) = some (k, .file f)) (a2 : w.heap[fb f]? = some (.cells #[nv, dv, .map (some sb)] 82 (0, 0))) (a3 : L sb = some (k, .sect f)) (a5 : Sl L w 5 1 nv (s.now f).length (bc (s.now f)) (k, .now f)) (a6 : Sl L w 5 1 dv (s.dur f).length (bc (s.dur f)) (k, .dur f))
    (hm : IMap w1 sb (fun y => if y = n then some (.bool true) else secF (s.sec f) y)) (hg1 : w.grownBy w1 (some sb)) (hown : w2.ownsRow 0 95 2 v' (s.pend.length + 1) (pc s.pend ++ [.int .i64 f, .int .i64 n])) (hg2 : (w1.alloc o).grownBy w2 pv.ownBlock)
    (hat : v'.ownBlock = pv.ownBlock ∨ v'.ownBlock = some (w1.alloc o).heap.size) (hs : s.sec f n = false) :
    ∃ L', DBody L' (w2.setCell ⟨d, 1, none⟩ v') k mb v' kv fb (s.addSec f n) ∧ L' d = some (k, .disk) ∧ (w2.setCell ⟨d, 1, none⟩ v').heap[d]? = some (.cells (dcells mb v' kv (s.addSec f n)) 78 (0, 0)) ∧ Fr (MA k) L w L' (w2.setCell ⟨d, 1, none⟩ v') := by
  obtain ⟨b1, b2, b3, b4, b5⟩ := hbody
  have f1 : Fr (fun t => t = (k, Role.sect f)) L w L w1 := Fr.grown hL hg1 (fun g hg _ => by injection hg with hg; subst hg; exact ⟨_, a3, rfl⟩)
  have f1a : Fr (fun t => t = (k, Role.sect f)) L w L (w1.alloc o) := f1.alloc o
  let M : Nat × Role → Prop := fun t => t = (k, Role.sect f) ∨ t = (k, Role.list)
  obtain ⟨L1, f2, hsl⟩ := put_label (M := M) (t := (k, .list)) f1a.fresh (Or.inr rfl) hown hg2 (fun g' hg' => b3.2 g' hg') hat
  have f3 : Fr M L w L1 w2 := (f1a.mono (fun t ht => Or.inl ht)).trans f2
  have d1 := f3.lab_of hL hd
  have hmd : ¬ M (k, Role.disk) := by simp [M]
  have q1 := (f3.keeps hL hd hmd).trans hb
  have e0 : s.addSec f n = { s with sec := upd s.sec f (upd (s.sec f) n true), pend := s.pend ++ [(f, n)] } := by unfold St.addSec; rw [if_neg (by rw [hs]; simp)]
  have f4 : Fr (MD k) L1 w2 L1 (w2.setCell ⟨d, 1, none⟩ v') := Fr.setD f3.fresh d1 1 v'
  have f5 : Fr (fun t => M t ∨ MD k t) L w L1 (w2.setCell ⟨d, 1, none⟩ v') := (f3.mono (fun t ht => Or.inl ht)).trans (f4.mono (fun t ht => Or.inr ht))
  have hno : ∀ r, r ≠ Role.sect f → r ≠ Role.list → r ≠ Role.disk → ¬ (M (k, r) ∨ MD k (k, r)) := by
    intro r h1 h2 h3 hh
    rcases hh with (hh | hh) | hh <;> injection hh with _ hh
    · exact h1 hh
    · exact h2 hh
    · exact h3 hh
  have hpc : pc s.pend ++ [.int .i64 f, .int .i64 n] = pc (s.pend ++ [(f, n)]) := by rw [pc_append]; rfl
  refine ⟨L1, ?_, d1, ?_, f5.mono (fun t ht => by rcases ht with (ht | ht) | ht <;> rw [ht] <;> rfl)⟩
  · rw [e0]
    refine ⟨f5.lab_of hL b1, b2.keep b1 hL f5 (hno _ (by simp) (by simp) (by simp)), ?_, b4.keep hL f5 (hno _ (by simp) (by simp) (by simp)), fun i hi => ?_⟩
    · have := hsl.keep f3.fresh f4 (by simp [MD])
      rw [hpc] at this
      simpa using this
    · by_cases hif : i = f
      · subst hif
        have hsec : upd s.sec i (upd (s.sec i) n true) i = upd (s.sec i) n true := upd_same _ _ _
        show FAt _ _ k i (fb i) (s.now i) (s.dur i) (upd s.sec i (upd (s.sec i) n true) i)
        rw [hsec]
        have hm2 : IMap w2 sb (fun y => if y = n then some (.bool true) else secF (s.sec i) y) := by
          refine hm.same ?_
          have hlt : sb < w1.heap.size := hm.lt
          refine (hg2.block sb (by simp; omega) (fun e => ?_)).trans (Below.heap_alloc _ _ _ hlt)
          have := b3.2 sb e.symm
          rw [a3] at this; cases this
        have hm3 := hm2.keep (t := (k, .sect i)) (f3.lab_of hL a3) f3.fresh f4 (by simp [MD])
        refine ⟨nv, dv, sb, f5.lab_of hL a1, (f5.keeps hL a1 (hno _ (by simp) (by simp) (by simp))).trans a2, f5.lab_of hL a3, hm3.congr (fun x => ?_), a5.keep hL f5 (hno _ (by simp) (by simp) (by simp)), a6.keep hL f5 (hno _ (by simp) (by simp) (by simp))⟩
        unfold secF upd
        by_cases hx : x = n <;> simp [hx]
      · show FAt _ _ k i (fb i) (s.now i) (s.dur i) (upd s.sec f (upd (s.sec f) n true) i)
        rw [upd_ne _ _ hif]
        refine (b5 i hi).keep hL f5 ?_ ?_ ?_ ?_ <;> (refine hno _ ?_ ?_ ?_ <;> (intro hh; first | cases hh; done | (injection hh with hh; exact hif hh)))
  · rw [e0]
    exact blk_set q1 1 v'

end Go.Proofs.Ytgocnjiabfmdpaa
