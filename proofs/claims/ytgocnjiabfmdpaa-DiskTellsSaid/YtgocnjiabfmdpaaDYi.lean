/- The reference's add: a write that is possible. -/
import Derived.Test.YtgocnjiabfmdpaaDYh
import Derived.Test.YtgocnjiabfmdpaaDYg
namespace Go.Proofs.Ytgocnjiabfmdpaa
set_option maxRecDepth 8000
open Go.RowKit

theorem Try.info107 : (Try.prog.info? 107).map (fun i => (i.zero, i.size, i.bytes)) = some (some (.agg #[.int .i64 0, .int .i64 0]), 2, 16) := by kernel_rfl

/-- One more sector in the queue. -/
theorem rqueue_end {L : Lab} {w w2 : World} {k d : Nat} {fv qv kv v' : Value} {l : List Fl} {K : List Int} {s s' : St} {f n : Int} {o : Obj} (hL : Fresh L w) (hd : L d = some (k, .disk)) (hb : w.heap[d]? = some (.cells (rcells fv qv kv s) 86 (0, 0))) (hbody : RBody L w k fv qv kv l K s)
    (hown : w2.ownsRow 0 107 2 v' (s.pend.length + 1) (pc s.pend ++ [.int .i64 f, .int .i64 n])) (hg : (w.alloc o).grownBy w2 qv.ownBlock) (hat : v'.ownBlock = qv.ownBlock ∨ v'.ownBlock = some (w.alloc o).heap.size)
    (hs : s'.lost = s.lost ∧ s'.down = s.down ∧ s'.armed = s.armed ∧ s'.pend = s.pend ++ [(f, n)] ∧ s'.now = s.now ∧ s'.dur = s.dur) :
    ∃ L', RAt L' (w2.setCell ⟨d, 1, none⟩ v') k d l K s' ∧ Fr (MA k) L w L' (w2.setCell ⟨d, 1, none⟩ v') := by
  have f0 : Fr (fun t => t = (k, Role.list)) L w L (w.alloc o) := (Fr.refl hL).alloc o
  obtain ⟨L1, f1, hsl⟩ := put_label (M := fun t => t = (k, Role.list)) (t := (k, .list)) f0.fresh rfl hown hg (fun g' hg' => hbody.2.1.2 g' hg') hat
  have f2 := f0.trans f1
  have f3 := Fr.setD f2.fresh (f2.lab_of hL hd) 1 v'
  have f4 : Fr (fun t => t = (k, Role.list) ∨ MD k t) L w L1 (w2.setCell ⟨d, 1, none⟩ v') := (f2.mono (fun _ h => Or.inl h)).trans (f3.mono (fun _ h => Or.inr h))
  obtain ⟨e1, e2, e3, e4, e5, e6⟩ := hs
  refine ⟨L1, ⟨fv, v', kv, f4.lab_of hL hd, ?_, hbody.1.keep hL f4 (by simp [MD]), ?_, ⟨hbody.2.2.1.1.keep hL f4 (by simp [MD]), hbody.2.2.1.2⟩, hbody.2.2.2.same e5 e6⟩, f4.mono (fun t ht => by rcases ht with ht | ht <;> rw [ht] <;> rfl)⟩
  · have h1 := blk_set ((f2.keeps hL hd (by simp)).trans hb) 1 v'
    rw [h1]
    simp [rcells, e1, e2, e3]
  · rw [e4, pc_append, List.length_append]
    exact hsl.keep f2.fresh f3 (by simp [MD])

theorem RAt.below {L : Lab} {w w1 : World} {k d : Nat} {l : List Fl} {K : List Int} {s : St} (h : RAt L w k d l K s) (hL : Fresh L w) (hb : Below w.heap.size w w1) : RAt L w1 k d l K s :=
  h.keep (M := fun _ => False) hL (Fr.below hL hb) (fun _ hh => hh)

set_option maxRecDepth 100000 in
set_option maxHeartbeats 1000000 in
theorem radd_any {L : Lab} {w : World} {k d : Nat} {l : List Fl} {K : List Int} {s : St} (f : Int) (a : Nat) (t : ByteArray) (hL : Fresh L w) (h : RAt L w k d l K s) (hi : Inv s) (hf : isFile f = true) (hat : a + t.size ≤ 16777216) (ht : 0 < t.size) :
    Calls Try.prog 86 #[.pointer (some ⟨d, 0, none⟩), .int .i64 f, .int .i64 a, .string t] w fun e w' => e = .returned (.tuple #[]) ∧ ∃ l' L', RAt L' w' k d l' K ((s.wrote f a t.data.toList).addSecs f (a / 64) (St.secs a t.data.toList)) ∧ Fr (MA k) L w L' w' := by
  have hsz := size_toList t
  have hte2 : t.toList.isEmpty = false := by
    rw [ByteArray.toList_eq]; cases hh : t.data.toList with
    | nil => rw [hh] at hsz; simp at hsz; omega
    | cons => rfl
  have hte3 : ¬ t.toList = [] := fun e => by rw [e] at hte2; cases hte2
  have hrd : Reads l s := by obtain ⟨fv, qv, kv, _, _, hb⟩ := h; exact hb.2.2.2
  have hnow := (hrd f).1
  have hcap := hi.cap f
  have hnum := getF_num l f
  have hif := isFile_iff.1 hf
  have hsecs : St.secs a t.data.toList = (a + t.size - 1) / 64 - a / 64 + 1 := by unfold St.secs; rw [hsz]; omega
  obtain ⟨cnt, hcnt⟩ : ∃ cnt, cnt = St.secs a t.data.toList := ⟨_, rfl⟩
  rw [← hcnt] at hsecs ⊢
  obtain ⟨x, hx⟩ : ∃ x, x = getF l f := ⟨_, rfl⟩
  rw [← hx] at hnow hnum
  obtain ⟨xn, xw, xl⟩ := x
  simp only at hnow hnum
  have hxw : xw.length ≤ 16777216 := by rw [hnow]; exact hcap
  have hrd2 := hrd.wrote f (a : Int) t.data.toList
  rw [← hx] at hrd2
  simp only [Int.toNat_natCast] at hrd2
  have HX := Lib.hid (And.intro hx (And.intro hcnt (And.intro hnow (And.intro hsecs hrd2))))
  have hmem := hi.mem
  have hfewp := hi.few
  have HM := Lib.hid (And.intro hmem (And.intro hi.nodup hfewp))
  subst hnum
  clear hx hcnt hnow hsz hrd hsecs hcap hmem hrd2 hi hfewp
  go_enter Try.func86, Try.ntmps86
  go_wp2_with fail
  refine (rget_any xn h).mono ?_
  rintro e w1 ⟨rfl, hb1⟩
  rw [← HX.out.1]
  unfold fval
  go_wp2_with fail
  refine (rput_any _ xw a t hxw hat ht).mono ?_
  rintro e w2 ⟨rfl, hb2⟩
  obtain ⟨X, hX⟩ : ∃ X, X = w1.heap.size := ⟨_, rfl⟩
  have hXn : (w1.alloc (.cells #[.int .i64 xn, .string (ba xw), .string (ba xl)] 90)).heap[X]? = some (.cells #[.int .i64 xn, .string (ba xw), .string (ba xl)] 90 (0, 0)) := by rw [hX]; exact heap_alloc_new w1 _
  have hX2 := (hb2.block X (blk_lt hXn)).trans hXn
  have k0 := blk_cell hX2 0
  have k1 := blk_cell hX2 1
  have k2 := blk_cell hX2 2
  have kf := blk_free hX2 1
  simp at k0 k1 k2
  rw [← hX]
  have hb3 : Below w.heap.size w (w2.setCell ⟨X, 1, none⟩ (.string (ba (putL xw a t.data.toList)))) := below_setAt ((hb1.alloc (by have := hb1.size; omega) _).trans (hb2.mono (Nat.le_trans hb1.size (by simp)))) (by have := hb1.size; omega) 1 _
  have h3 := h.below hL hb3
  have fr3 : Fr (MA k) L w L (w2.setCell ⟨X, 1, none⟩ (.string (ba (putL xw a t.data.toList)))) := Fr.below hL hb3
  have HXX := Lib.hid (And.intro hX (And.intro hXn (And.intro hX2 hb3)))
  clear hX hXn hX2 hb3 hb2
  go_wp2_with fail
  refine (rset_any (s' := s.wrote xn a t.data.toList) ⟨xn, putL xw a t.data.toList, xl⟩ fr3.fresh h3 hf HX.out.2.2.2.2 ⟨rfl, rfl, rfl, rfl⟩).mono ?_
  rintro e w4 ⟨rfl, L4, h4, f4⟩
  have fr4 : Fr (MA k) L w L4 w4 := fr3.trans (f4.mono md_ma)
  go_wp2_with fail
  obtain ⟨l1, hl1⟩ : ∃ l1, l1 = setF l ⟨xn, putL xw a t.data.toList, xl⟩ := ⟨_, rfl⟩
  rw [← hl1] at h4
  clear hl1
  obtain ⟨i0, hi0, hz0, hz1, hz2⟩ := info_parts Try.info107
  go_loopw [9] (fun n wr => ∃ (i : Nat) (L2 : Lab), i ≤ cnt ∧ n = .int .i64 ((a : Int) / 64 + i) ∧ RAt L2 wr k d l1 K ((s.wrote xn a t.data.toList).addSecs xn (a / 64) i) ∧ Fr (MA k) L w L2 wr) (fun n _ => (cnt + a / 64) - (intOf n).toNat)
  case atStart => exact ⟨0, L4, Nat.zero_le _, by simp, h4, fr4⟩
  case round =>
    obtain ⟨i, L2, hi', rfl, hr2, hfr⟩ := hrel
    have hfr0 := hfr.fresh
    obtain ⟨s2, hs2⟩ : ∃ s2, s2 = (s.wrote xn a t.data.toList).addSecs xn (a / 64) i := ⟨_, rfl⟩
    rw [← hs2] at hr2
    have hm2 : (∀ g m, (g, m) ∈ s2.pend ↔ s2.sec g m = true) ∧ s2.pend.Nodup := by rw [hs2]; exact addSecs_mem (s := s.wrote xn a t.data.toList) i HM.out.1 HM.out.2.1
    have hfew : s2.pend.length ≤ 5000000 := by
      have h1 := addSecs_len (s.wrote xn a t.data.toList) xn (a / 64) i
      rw [← hs2] at h1
      have h2 : (s.wrote xn a t.data.toList).pend = s.pend := rfl
      rw [h2] at h1
      have h3 := HM.out.2.2
      have h4 := HX.out.2.2.2.1
      omega
    have HS2 := Lib.hid (And.intro hs2 hm2)
    clear hs2 hm2
    by_cases hlt : i < cnt
    · have hcond : (a : Int) / 64 + i ≤ (a + t.size - 1) / 64 := by have := HX.out.2.2.2.1; omega
      have hr2' := hr2
      obtain ⟨fv, qv, kv, hd, hb, hbody⟩ := hr2
      have q1 := blk_cell hb 1
      have qf := blk_free hb 1
      have ld := blk_lt hb
      simp [rcells] at q1
      cases hsec : s2.sec xn ((a : Int) / 64 + i)
      · have HSEC := Lib.hid hsec
        clear hsec
        have hdp : qv.ownBlock ≠ some d := fun e => by have := hbody.2.1.2 _ e; rw [hd] at this; cases this
        have HB := Lib.hid (And.intro hb hbody)
        clear hb hbody
        go_wp2_with fail
        refine (rpending_any xn ((a : Int) / 64 + i) hr2' HS2.out.2.1).mono ?_
        rintro e w5 ⟨rfl, rfl⟩
        rw [HSEC.out]
        go_wp2_with (at_builtin; refine wpList_append_own_at _ rfl (.tmp 45) (.tmp 49) 84 rfl 0 107 i0 (.agg #[.int .i64 0, .int .i64 0]) 2 16 Try.underlying84 hi0 hz0 hz1 hz2 rfl (by decide) qv _ _ rfl (HB.out.2.2.1.1.alloc _) ⟨wr.heap.size, 0, none⟩ 1 1 [.int .i64 xn, .int .i64 ((a : Int) / 64 + i)] rfl rfl (World.news_of_block (heap_alloc_new wr _)) (by simp [Value.oneCell']) (by unfold maxLen; omega) (by omega) (by omega) ?_; intro v4 w4 hown4 hg4 hnil4 hat4; obtain ⟨A4, m4, c4, rfl⟩ := own_slice hown4; have q4 := (hg4.block d (by simp; omega) (Ne.symm hdp)).trans (blk_alloc HB.out.1 _); have r4 := blk_cell q4 1; have g4 := blk_free q4 1; simp [rcells] at r4; have H4 := Lib.hid (And.intro hown4 (And.intro hg4 hat4)); clear q4 hown4 hg4 hnil4 hat4)
        go_roundw
        case rel =>
          have e0 : (s.wrote xn a t.data.toList).addSecs xn (a / 64) (i + 1) = { s2 with sec := upd s2.sec xn (upd (s2.sec xn) ((a : Int) / 64 + i) true), pend := s2.pend ++ [(xn, (a : Int) / 64 + i)] } := by
            rw [St.addSecs_succ, ← HS2.out.1]
            unfold St.addSec
            rw [if_neg (by rw [HSEC.out]; simp)]
          obtain ⟨L5, r5, f5⟩ := rqueue_end (s' := (s.wrote xn a t.data.toList).addSecs xn (a / 64) (i + 1)) hfr0 hd HB.out.1 HB.out.2 H4.out.1 H4.out.2.1 H4.out.2.2 (by rw [e0]; exact ⟨rfl, rfl, rfl, rfl, rfl, rfl⟩)
          exact ⟨i + 1, L5, by omega, by push_cast; rw [Int.add_assoc], r5, hfr.trans f5⟩
        case measure => simp [intOf]; omega
      · have HSEC := Lib.hid hsec
        clear hsec hb hbody
        go_wp2_with fail
        refine (rpending_any xn ((a : Int) / 64 + i) hr2' HS2.out.2.1).mono ?_
        rintro e w5 ⟨rfl, rfl⟩
        rw [HSEC.out]
        go_wp2_with fail
        go_roundw
        case rel =>
          have hsame : (s.wrote xn a t.data.toList).addSecs xn (a / 64) (i + 1) = s2 := by
            rw [St.addSecs_succ, ← HS2.out.1]
            unfold St.addSec
            rw [if_pos HSEC.out]
          exact ⟨i + 1, L2, by omega, by push_cast; rw [Int.add_assoc], by rw [hsame]; exact hr2', hfr⟩
        case measure => simp [intOf]; omega
    · have hic : i = cnt := by omega
      have hcond : ¬ (a : Int) / 64 + i ≤ (a + t.size - 1) / 64 := by have := HX.out.2.2.2.1; omega
      have HIC := Lib.hid hic
      clear hic
      go_wp2_with fail
      go_end0
      have h5 := HS2.out.1
      rw [HIC.out] at h5
      rw [h5] at hr2
      exact ⟨rfl, l1, L2, hr2, hfr⟩

end Go.Proofs.Ytgocnjiabfmdpaa
