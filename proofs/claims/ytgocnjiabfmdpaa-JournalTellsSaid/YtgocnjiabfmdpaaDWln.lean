/- Walks of fall, write and Write. Walks of Write, Sync and Arm. Walks of Sync, Truncate and Arm, whatever their arguments. -/
import Derived.Test.YtgocnjiabfmdpaaDWj
import Derived.Test.YtgocnjiabfmdpaaDWk
namespace Go.Proofs.Ytgocnjiabfmdpaa
set_option maxRecDepth 8000
open Go.RowKit

theorem KAt.of_sl {L : Lab} {w : World} {k : Nat} {v : Value} {keep : List Int} (h : Sl L w 3 1 v keep.length (ic keep) (k, .keep)) : KAt L w k v keep := by
  rcases own_form h.1 with ⟨rfl, h0⟩ | ⟨g, c, rfl, _, _⟩
  · have : keep = [] := List.eq_nil_of_length_eq_zero h0
    subst this
    exact ⟨none, 0, rfl, fun j hj => by simp at hj⟩
  · refine ⟨_, c, rfl, fun j hj => ⟨g, 0, rfl, ?_, (h.1.lt g rfl).2, fun i => ?_⟩⟩
    · rw [Nat.zero_add, h.1.cellAt j (by omega)]
      simp [ic, List.getElem?_eq_getElem hj]
    · rw [h.2 g rfl]; simp

theorem fall_any {L : Lab} {w : World} {k d : Nat} {s : St} (hL : Fresh L w) (h : DAt L w k d s) (hi : Inv s) :
    Calls Try.prog 64 #[.pointer (some ⟨d, 0, none⟩)] w fun e w' => e = .returned (.int .i64 8) ∧ ∃ L', DAt L' w' k d (s.crash s.keep) ∧ Fr (MA k) L w L' w' := by
  have h' := h
  obtain ⟨mb, pv, kv, fb, hdl, hb, hbody⟩ := h
  have c5 := blk_cell hb 5
  simp [dcells] at c5
  have hk := KAt.of_sl hbody.2.2.2.1
  have HB := Lib.hid hb
  clear hb
  go_enter Try.func64, Try.ntmps64
  go_wp2_with fail
  refine (crash_any kv s.keep hL h' hi hk).mono ?_
  rintro e w1 ⟨rfl, H⟩
  go_wp2_with fail
  go_ret
  exact ⟨rfl, H⟩

/-- What a call of the disk's leaves: its answer, and the disk's next state. -/
def CallPost (L : Lab) (w : World) (k d : Nat) (r : St × Int) (e : Ending) (w' : World) : Prop :=
  e = .returned (.int .i64 r.2) ∧ ∃ L', DAt L' w' k d r.1 ∧ Fr (MA k) L w L' w'

theorem write_not {L : Lab} {w : World} {k d : Nat} {s : St} (f a : Int) (t : ByteArray) (hL : Fresh L w) (h : DAt L w k d s) (hf : isI64 f) (ha : isI64 a) (ht : t.size ≤ 1000000)
    (hno : s.ready f ≠ 0 ∨ a < 0 ∨ a > 16777216 - t.size ∨ t.data.toList = []) :
    Calls Try.prog 77 #[.pointer (some ⟨d, 0, none⟩), .int .i64 f, .int .i64 a, .string t] w (CallPost L w k d (s.wr f a t.data.toList)) := by
  have hsz := size_toList t
  unfold isI64 at ha
  by_cases hr : s.ready f = 0
  · by_cases h1 : a < 0
    · have HW : Hid (s.wr f a t.data.toList = (s, 1)) := show _ = _ by unfold St.wr; rw [if_neg (by simp [hr]), if_pos h1]
      have HR := Lib.hid hr
      clear hr hno hsz
      go_enter Try.func77, Try.ntmps77
      go_wp2_with fail
      refine (ready_any f hf h).mono ?_
      rintro e w1 ⟨rfl, rfl⟩
      rw [HR.out]
      go_wp2_with fail
      go_ret
      rw [HW.out]
      exact ⟨rfl, L, h, Fr.refl hL⟩
    · by_cases h2 : a > 16777216 - t.size
      · have HW : Hid (s.wr f a t.data.toList = (s, 6)) := show _ = _ by unfold St.wr; rw [if_neg (by simp [hr]), if_neg h1, if_pos (by omega)]
        have HR := Lib.hid hr
        clear hr hno hsz
        go_enter Try.func77, Try.ntmps77
        go_wp2_with fail
        refine (ready_any f hf h).mono ?_
        rintro e w1 ⟨rfl, rfl⟩
        rw [HR.out]
        go_wp2_with fail
        go_ret
        rw [HW.out]
        exact ⟨rfl, L, h, Fr.refl hL⟩
      · have h3 : t.data.toList = [] := by
          rcases hno with hno | hno | hno | hno
          · exact absurd hr hno
          · exact absurd hno h1
          · exact absurd hno h2
          · exact hno
        have HW : Hid (s.wr f a t.data.toList = (s, 0)) := show _ = _ by unfold St.wr; rw [if_neg (by simp [hr]), if_neg h1, if_neg (by omega), if_pos h3]
        have HR := Lib.hid hr
        obtain rfl : t = ByteArray.empty := by rw [← ba_of t, h3]; rfl
        clear hr hno hsz h3
        go_enter Try.func77, Try.ntmps77
        go_wp2_with fail
        refine (ready_any f hf h).mono ?_
        rintro e w1 ⟨rfl, rfl⟩
        rw [HR.out]
        go_wp2_with fail
        go_ret
        rw [HW.out]
        exact ⟨rfl, L, h, Fr.refl hL⟩
  · have HW : Hid (s.wr f a t.data.toList = (s, s.ready f)) := show _ = _ by unfold St.wr; rw [if_pos hr]
    have hb : ((s.ready f : Int) == 0) = false := beq_eq_false_iff_ne.2 hr
    have hb' : ((s.ready f : Int) != 0) = true := bne_iff_ne.2 hr
    clear hr hno hsz
    go_enter Try.func77, Try.ntmps77
    go_wp2_with fail
    refine (ready_any f hf h).mono ?_
    rintro e w1 ⟨rfl, rfl⟩
    go_wp2_with fail
    go_ret
    rw [HW.out]
    exact ⟨rfl, L, h, Fr.refl hL⟩

theorem addSecs_len (s : St) (f n : Int) (k : Nat) : (s.addSecs f n k).pend.length ≤ s.pend.length + k := by
  induction k with
  | zero => exact Nat.le_refl _
  | succ k ih =>
    rw [St.addSecs_succ]
    have : ((s.addSecs f n k).addSec f (n + k)).pend.length ≤ (s.addSecs f n k).pend.length + 1 := by
      unfold St.addSec
      split
      · omega
      · simp
    omega

theorem secF_look (g : Int → Bool) (n : Int) : lookRes (secF g) n (.bool false) false = .bool (g n) := by
  unfold lookRes secF
  cases g n <;> simp

set_option maxRecDepth 100000 in
set_option maxHeartbeats 1000000 in
theorem write_yes {L : Lab} {w : World} {k d : Nat} {s : St} (f : Int) (a : Nat) (t : ByteArray) (hL : Fresh L w) (h : DAt L w k d s) (hi : Inv s) (hr : s.ready f = 0) (hat : a + t.size ≤ 16777216) (ht : 0 < t.size) :
    Calls Try.prog 77 #[.pointer (some ⟨d, 0, none⟩), .int .i64 f, .int .i64 a, .string t] w (CallPost L w k d ((s.wrote f a t.data.toList).addSecs f (a / 64) (St.secs a t.data.toList), 0)) := by
  have h' := h
  have hsz := size_toList t
  have hf := (ready_zero hr).2
  have hif := isFile_iff.1 hf
  have hi64 : isI64 f := by unfold isI64; omega
  obtain ⟨mb, pv, kv, fb, hdl, hb, hbody⟩ := h
  have hbody' := hbody
  obtain ⟨b1, hmap, b3, b4, hfs⟩ := hbody
  obtain ⟨nv, dv, sb, a1, a2, a3, a4, a5, a6⟩ := hfs f hf
  have c0 := blk_cell hb 0
  have n0 := blk_cell a2 0
  have nf := blk_free a2 0
  simp [dcells] at c0 n0
  have hcap := hi.cap f
  have HB := Lib.hid hb
  have HR := Lib.hid hr
  have hte : ¬ t.data.toList = [] := by intro e; rw [e] at hsz; simp at hsz; omega
  have hte2 : t.toList.isEmpty = false := by rw [ByteArray.toList_eq]; cases hh : t.data.toList with | nil => exact absurd hh hte | cons => rfl
  have hte3 : ¬ t.toList = [] := by rw [ByteArray.toList_eq]; exact hte
  clear hte
  have hsecs : St.secs a t.data.toList = (a + t.size - 1) / 64 - a / 64 + 1 := by unfold St.secs; rw [hsz]; omega
  obtain ⟨cnt, hcnt⟩ : ∃ cnt, cnt = St.secs a t.data.toList := ⟨_, rfl⟩
  rw [← hcnt] at hsecs ⊢
  have HC := Lib.hid hcnt
  have HS := Lib.hid hsecs
  have hne : nv.ownBlock ≠ some (fb f) := fun e => by have h1 := a5.2 _ e; rw [a1] at h1; cases h1
  clear hb hr hsz hcnt hsecs
  go_enter Try.func77, Try.ntmps77
  go_wp2_with fail
  refine (ready_any f hi64 h').mono ?_
  rintro e w1 ⟨rfl, rfl⟩
  rw [HR.out]
  go_wp2_with (at_lookup; refine wpList_look _ rfl _ _ 75 false rfl 3 79 Try.underlying3 Try.underlying75 (zero56 _) mb _ rfl hmap f rfl hi64 _ (filesF_in hf false) ?_; rw [if_neg (by simp)])
  refine (put_any _ _ (s.now f) a t a5.1 hcap hat ht).mono ?_
  rintro e w1 ⟨v', rfl, hown1, hg1, hat1⟩
  have q1 := (hg1.block (fb f) (blk_lt a2) (Ne.symm hne)).trans a2
  have k0 := blk_cell q1 0
  have kf := blk_free q1 0
  simp at k0
  obtain ⟨L1, hbd1, hf1⟩ := wrote_file (a := (a : Int)) (t := t.data.toList) hL hbody' a1 a2 a3 a4 a5 a6 (by rw [Int.toNat_natCast]; exact hown1) hg1 hat1
  have hd1 := hf1.lab_of hL hdl
  have hb1 := (hf1.keeps hL hdl mf_disk).trans HB.out
  obtain ⟨A, m, c, rfl⟩ := own_slice hown1
  have HB1 := Lib.hid hb1
  clear hb1 hat1 hown1
  go_wp2_with fail
  go_loopw [11] (fun n wr => ∃ (i : Nat) (L2 : Lab) (pv2 : Value), i ≤ cnt ∧ n = .int .i64 ((a : Int) / 64 + i) ∧ DBody L2 wr k mb pv2 kv fb ((s.wrote f a t.data.toList).addSecs f (a / 64) i) ∧ Hid (wr.heap[d]? = some (.cells (dcells mb pv2 kv ((s.wrote f a t.data.toList).addSecs f (a / 64) i)) 78 (0, 0))) ∧ L2 d = some (k, .disk) ∧ Fr (MA k) L w L2 wr) (fun n _ => (cnt + a / 64) - (intOf n).toNat)
  case atStart => exact ⟨0, L1, pv, Nat.zero_le _, by simp, hbd1, HB1, hd1, hf1.mono (fun t ht => MF.own ht)⟩
  case round =>
    obtain ⟨i, L2, pv2, hi', rfl, hbr, HBR, hdr, hfr⟩ := hrel
    have hfr0 := hfr.fresh
    obtain ⟨s2, hs2⟩ : ∃ s2, s2 = (s.wrote f a t.data.toList).addSecs f (a / 64) i := ⟨_, rfl⟩
    rw [← hs2] at hbr HBR
    have hfew : s2.pend.length ≤ 5000000 := by
      have h1 := addSecs_len (s.wrote f a t.data.toList) f (a / 64) i
      rw [← hs2] at h1
      have h2 : (s.wrote f a t.data.toList).pend = s.pend := rfl
      rw [h2] at h1
      have h3 := hi.few
      have h4 := HS.out
      omega
    have HS2 := Lib.hid hs2
    clear hs2
    obtain ⟨nv2, dv2, sb2, x1, x2, x3, x4, x5, x6⟩ := hbr.2.2.2.2 f hf
    have y3 := hbr.2.2.1
    have e2 := blk_cell x2 2
    have e1 := blk_cell HBR.out 1
    have ef := blk_free HBR.out 1
    simp [dcells] at e1 e2
    by_cases hlt : i < cnt
    · have hn64 : isI64 ((a : Int) / 64 + i) := by have := HS.out; unfold isI64; omega
      have hcond : (a : Int) / 64 + i ≤ (a + t.size - 1) / 64 := by have := HS.out; omega
      cases hsec : s2.sec f ((a : Int) / 64 + i)
      · have HSEC := Lib.hid hsec
        clear hsec
        have lsb := x4.lt
        have hdsb : d ≠ sb2 := fun e => by rw [e, x3] at hdr; cases hdr
        have hdp : pv2.ownBlock ≠ some d := fun e => by have := y3.2 _ e; rw [hdr] at this; cases this
        have hpsb : pv2.ownBlock ≠ some sb2 := fun e => by have := y3.2 _ e; rw [x3] at this; cases this
        obtain ⟨i0, hi0, hz0, hz1, hz2⟩ := info_parts Try.info95
        go_wp2_with (first
          | (at_lookup; refine wpList_look _ rfl _ _ 80 false rfl 3 4 Try.underlying3 Try.underlying80 (zero4 _) sb2 _ rfl x4 _ rfl hn64 (.bool false) (by rw [secF_look, HSEC.out]) ?_)
          | (at_mapUpdate; refine wpList_put _ rfl _ _ _ 80 rfl 3 4 Try.underlying3 Try.underlying80 sb2 _ rfl x4 _ rfl hn64 _ rfl ?_; intro w3 hm3 hg3 hs3; have q3 := (hg3.block d (blk_lt HBR.out) (by simp; exact hdsb)).trans HBR.out; have r1 := blk_cell q3 1; simp [dcells] at r1; have hown3 := ownsRow_of_blocks (w1 := w3) y3.1 (fun g hg => hg3.block g (y3.1.lt g hg).2 (by intro e; exact hpsb (by rw [hg, e]))); have HQ3 := Lib.hid q3; clear q3 hs3)
          | (at_builtin; refine wpList_append_own_at _ rfl (.tmp 71) (.tmp 75) 76 rfl 0 95 i0 (.agg #[.int .i64 0, .int .i64 0]) 2 16 Try.underlying76 hi0 hz0 hz1 hz2 rfl (by decide) pv2 _ _ rfl (hown3.alloc _) ⟨w3.heap.size, 0, none⟩ 1 1 [.int .i64 f, .int .i64 ((a : Int) / 64 + i)] rfl rfl (World.news_of_block (heap_alloc_new w3 _)) (by simp [Value.oneCell']) (by unfold maxLen; omega) (by omega) (by omega) ?_; intro v4 w4 hown4 hg4 hnil4 hat4; obtain ⟨A4, m4, c4, rfl⟩ := own_slice hown4; have H4 := sec_step hfr0 hdr HBR.out hbr x1 x2 x3 x5 x6 hm3 hg3 hown4 hg4 hat4 HSEC.out; have q4 := (hg4.block d (by simp; have := blk_lt HQ3.out; omega) (Ne.symm hdp)).trans (blk_alloc HQ3.out _); have r4 := blk_cell q4 1; have g4 := blk_free q4 1; simp [dcells] at r4; clear q4))
        go_roundw
        case rel =>
          obtain ⟨L4, u1, u2, u3, u4⟩ := H4
          refine ⟨i + 1, L4, .slice A4 m4 c4, by omega, by push_cast; rw [Int.add_assoc], ?_, ?_, u2, hfr.trans u4⟩
          · rw [St.addSecs_succ, ← HS2.out]; exact u1
          · rw [St.addSecs_succ, ← HS2.out]; exact u3
        case measure => simp [intOf]; omega
      · have HSEC := Lib.hid hsec
        clear hsec
        go_wp2_with (at_lookup; refine wpList_look _ rfl _ _ 80 false rfl 3 4 Try.underlying3 Try.underlying80 (zero4 _) sb2 _ rfl x4 _ rfl hn64 (.bool true) (by rw [secF_look, HSEC.out]) ?_)
        go_roundw
        case rel =>
          have hsame : (s.wrote f a t.data.toList).addSecs f (a / 64) (i + 1) = s2 := by
            rw [St.addSecs_succ, ← HS2.out]
            unfold St.addSec
            rw [if_pos HSEC.out]
          refine ⟨i + 1, L2, pv2, by omega, by push_cast; rw [Int.add_assoc], ?_, ?_, hdr, hfr⟩
          · rw [hsame]; exact hbr
          · rw [hsame]; exact HBR
        case measure => simp [intOf]; omega
    · have hic : i = cnt := by omega
      have hcond : ¬ (a : Int) / 64 + i ≤ (a + t.size - 1) / 64 := by have := HS.out; omega
      have HIC := Lib.hid hic
      clear hic
      go_wp2_with fail
      go_ret
      have h5 := HS2.out
      rw [HIC.out] at h5
      refine ⟨rfl, L2, ?_, hfr⟩
      show DAt L2 wr k d ((s.wrote f a t.data.toList).addSecs f (a / 64) cnt)
      rw [← h5]
      exact ⟨mb, pv2, kv, fb, hdr, HBR.out, hbr⟩

theorem write_any {L : Lab} {w : World} {k d : Nat} {s : St} (f a : Int) (t : ByteArray) (hL : Fresh L w) (h : DAt L w k d s) (hi : Inv s) (hf : isI64 f) (ha : isI64 a) (ht : t.size ≤ 1000000) :
    Calls Try.prog 77 #[.pointer (some ⟨d, 0, none⟩), .int .i64 f, .int .i64 a, .string t] w (CallPost L w k d (s.wr f a t.data.toList)) := by
  by_cases hno : s.ready f ≠ 0 ∨ a < 0 ∨ a > 16777216 - t.size ∨ t.data.toList = []
  · exact write_not f a t hL h hf ha ht hno
  · have h1 : s.ready f = 0 := Classical.byContradiction fun e => hno (Or.inl e)
    have h2 : ¬ a < 0 := fun e => hno (Or.inr (Or.inl e))
    have h3 : ¬ a > 16777216 - t.size := fun e => hno (Or.inr (Or.inr (Or.inl e)))
    have h4 : ¬ t.data.toList = [] := fun e => hno (Or.inr (Or.inr (Or.inr e)))
    have hsz := size_toList t
    have h5 : 0 < t.size := by rw [← hsz]; exact List.length_pos_iff.2 h4
    obtain ⟨a', rfl⟩ := Int.eq_ofNat_of_zero_le (show 0 ≤ a by omega)
    have hw : s.wr f a' t.data.toList = ((s.wrote f a' t.data.toList).addSecs f (a' / 64) (St.secs a' t.data.toList), 0) := by
      unfold St.wr
      rw [if_neg (by simp [h1]), if_neg h2, if_neg (by rw [hsz]; exact h3), if_neg h4]
    rw [hw]
    exact write_yes f a' t hL h hi h1 (by omega) h5

end Go.Proofs.Ytgocnjiabfmdpaa

namespace Go.Proofs.Ytgocnjiabfmdpaa
set_option maxRecDepth 8000
open Go.RowKit

theorem count_rest (s : St) : s.count.now = s.now ∧ s.count.dur = s.dur ∧ s.count.sec = s.sec ∧ s.count.pend = s.pend ∧ s.count.down = s.down ∧ s.count.lost = s.lost ∧ s.count.keep = s.keep := by
  unfold St.count
  split <;> exact ⟨rfl, rfl, rfl, rfl, rfl, rfl, rfl⟩

theorem wr_keep (s : St) (f a : Int) (t : List UInt8) : (s.wr f a t).1.keep = s.keep := by
  unfold St.wr
  split
  · rfl
  split
  · rfl
  split
  · rfl
  split
  · rfl
  · exact (addSecs_rest _ _ _ _).2.2.2.2.2

theorem md_ma {k : Nat} : ∀ t, MD k t → MA k t := fun t ht => by rw [ht]; rfl

set_option maxHeartbeats 400000 in
theorem Write_any {L : Lab} {w : World} {k d : Nat} {s : St} (f a : Int) (t : ByteArray) (hL : Fresh L w) (h : DAt L w k d s) (hi : Inv s) (hf : isI64 f) (ha : isI64 a) (ht : t.size ≤ 1000000) :
    Calls Try.prog 46 #[.pointer (some ⟨d, 0, none⟩), .int .i64 f, .int .i64 a, .string t] w (CallPost L w k d (s.write f a t.data.toList)) := by
  cases hh : s.hit
  · have HW : Hid (s.write f a t.data.toList = s.count.wr f a t.data.toList) := show _ = _ by unfold St.write; rw [hh, if_neg (by simp)]
    have HH := Lib.hid hh
    clear hh
    go_enter Try.func46, Try.ntmps46
    go_wp2_with fail
    refine (strikes_any hL h hi.armed).mono ?_
    rintro e w1 ⟨rfl, h1, f1⟩
    rw [HH.out]
    go_wp2_with fail
    refine (write_any f a t f1.fresh h1 hi.count hf ha ht).mono ?_
    rintro e w2 ⟨rfl, L2, h2, f2⟩
    go_wp2_with fail
    go_ret
    rw [HW.out]
    exact ⟨rfl, L2, h2, (f1.mono md_ma).trans f2⟩
  · have HW : Hid (s.write f a t.data.toList = (((s.count.wr f a t.data.toList).1).crash ((s.count.wr f a t.data.toList).1).keep, 8)) := show _ = _ by unfold St.write; rw [hh, if_pos rfl]
    have HH := Lib.hid hh
    clear hh
    go_enter Try.func46, Try.ntmps46
    go_wp2_with fail
    refine (strikes_any hL h hi.armed).mono ?_
    rintro e w1 ⟨rfl, h1, f1⟩
    rw [HH.out]
    go_wp2_with fail
    refine (write_any f a t f1.fresh h1 hi.count hf ha ht).mono ?_
    rintro e w2 ⟨rfl, L2, h2, f2⟩
    go_wp2_with fail
    refine (fall_any f2.fresh h2 (hi.count.wr f a _)).mono ?_
    rintro e w3 ⟨rfl, L3, h3, f3⟩
    go_wp2_with fail
    go_ret
    rw [HW.out]
    exact ⟨rfl, L3, h3, ((f1.mono md_ma).trans f2).trans f3⟩

theorem setls_eq (s : St) (l : List (Int × Int)) : s.setls l = { s with dur := (s.setls l).dur } := by
  obtain ⟨a1, a2, a3, a4, a5, a6, a7⟩ := setls_rest s l
  cases hs : s.setls l
  rw [hs] at a1 a2 a3 a4 a5 a6 a7
  simp only at a1 a2 a3 a4 a5 a6 a7
  subst a1 a2 a3 a4 a5 a6 a7
  rfl

theorem sync_forget {s : St} (h : Inv s) (f : Int) : (s.setls (s.pend.filter (fun p => p.1 == f))).forget f = s.synced f := by
  have h1 := sync_dur h f
  have h2 : (s.setls (s.pend.filter (fun p => p.1 == f))).dur = upd s.dur f (s.now f) := h1
  rw [setls_eq, h2]
  rfl

set_option maxRecDepth 100000 in
set_option maxHeartbeats 1000000 in
theorem Sync_go {L : Lab} {w : World} {k d : Nat} {s : St} (f : Int) (hL : Fresh L w) (h : DAt L w k d s) (hi : Inv s) (hh : s.hit = false) (hr : s.count.ready f = 0) (hl : s.lost = 0) :
    Calls Try.prog 20 #[.pointer (some ⟨d, 0, none⟩), .int .i64 f] w (CallPost L w k d (s.count.synced f, 0)) := by
  have hf := (ready_zero hr).2
  have hif := isFile_iff.1 hf
  have hi64 : isI64 f := by unfold isI64; omega
  have hlc : s.count.lost = 0 := by rw [(count_rest s).2.2.2.2.2.1]; exact hl
  have HH := Lib.hid (And.intro hh hr)
  have hic := hi.count
  have hia := hi.armed
  obtain ⟨sc, hsc⟩ : ∃ sc, sc = s.count := ⟨_, rfl⟩
  rw [← hsc] at hic hlc ⊢
  have HSC := Lib.hid hsc
  clear hh hr hl hsc
  go_enter Try.func20, Try.ntmps20
  go_wp2_with fail
  refine (strikes_any hL h hia).mono ?_
  rintro e w1 ⟨rfl, h1, f1⟩
  rw [HH.out.1]
  rw [← HSC.out] at h1
  go_wp2_with fail
  refine (ready_any f hi64 h1).mono ?_
  rintro e w2 ⟨rfl, rfl⟩
  rw [HSC.out, HH.out.2]
  have h1' := h1
  obtain ⟨mb, pv, kv, fb, hdl, hb, hbody⟩ := h1
  have c1 := blk_cell hb 1
  have c3 := blk_cell hb 3
  simp [dcells] at c1 c3
  rw [hlc] at c3
  have hown := hbody.2.2.1
  obtain ⟨A, n, c, rfl⟩ := own_slice hown.1
  have hn : n = sc.pend.length := by
    rcases own_form hown.1 with ⟨e, e2⟩ | ⟨g, c', e, _⟩
    · injection e with _ e; omega
    · injection e
  subst hn
  have hfew := hic.few
  have HLC := Lib.hid hlc
  clear hlc
  go_wp2_with fail
  go_loopw [35] (fun i wr => ∃ (j : Nat) (L1 : Lab), j ≤ sc.pend.length ∧ i = .int .i64 j ∧ DAt L1 wr k d (sc.setls ((sc.pend.take j).filter (fun p => p.1 == f))) ∧ Fr (MQ k) L w1 L1 wr) (fun i _ => sc.pend.length - (intOf i).toNat)
  case atStart => exact ⟨0, L, Nat.zero_le _, rfl, by simpa [St.setls] using h1', Fr.refl f1.fresh⟩
  case round =>
    obtain ⟨j, L1, hj, rfl, hdr, hfr⟩ := hrel
    by_cases hlt : j < sc.pend.length
    · obtain ⟨g, c', he, _, _⟩ := own_some hown.1 (by omega)
      injection he with he1 _ he2
      subst he1; subst he2
      have hsl := hown.keep f1.fresh hfr (by rintro ⟨i, hh | hh⟩ <;> injection hh with _ hh <;> cases hh)
      obtain ⟨q1, q2⟩ := pc_cells hsl.1 j hlt rfl
      obtain ⟨p, hp⟩ : ∃ p, sc.pend[j] = p := ⟨_, rfl⟩
      rw [hp] at q1 q2
      have HP : Hid (sc.pend[j]? = some p) := show _ = _ by rw [List.getElem?_eq_getElem hlt, hp]
      have htk : (sc.pend.take (j + 1)).filter (fun p => p.1 == f) = (sc.pend.take j).filter (fun p => p.1 == f) ++ (if (p.1 == f) = true then [p] else []) := by
        rw [List.take_succ_eq_append_getElem hlt, hp, List.filter_append]
        congr 1
        by_cases hh : (p.1 == f) = true <;> simp [hh]
      have HTK := Lib.hid htk
      clear hp htk
      cases hpf : (p.1 == f)
      · have HF := Lib.hid hpf
        go_wp2_with fail
        go_roundw
        case rel =>
          refine ⟨j + 1, L1, by omega, by go_num, ?_, hfr.alloc _⟩
          rw [HTK.out, HF.out, if_neg (by simp), List.append_nil]
          exact hdr.alloc hfr.fresh _
        case measure => simp [intOf]; omega
      · have HF := Lib.hid hpf
        have hmem : ∀ q ∈ (sc.pend.take j).filter (fun p => p.1 == f), sc.sec q.1 q.2 = true := fun q hq => hic.pending q (List.mem_of_mem_take (List.mem_filter.1 hq).1)
        have hps : (sc.setls ((sc.pend.take j).filter (fun p => p.1 == f))).sec p.1 p.2 = true := by
          rw [(setls_rest sc _).2.1]
          exact hic.pending p (List.mem_of_getElem? HP.out)
        have HI := Lib.hid (And.intro hmem hps)
        clear hmem hps
        go_wp2_with fail
        refine (settle_any p.1 p.2 ((hfr.alloc _).fresh) (hdr.alloc hfr.fresh _) (hic.setls HI.out.1) HI.out.2).mono ?_
        rintro e w2 ⟨rfl, L2, hd2, hf2⟩
        go_wp2_with fail
        go_roundw
        case rel =>
          refine ⟨j + 1, L2, by omega, by go_num, ?_, (hfr.alloc _).trans (hf2.mono (fun t ht => ⟨p.1, by rcases ht with ht | ht <;> simp [ht]⟩))⟩
          rw [HTK.out, HF.out, if_pos rfl, St.setls_snoc]
          exact hd2
        case measure => simp [intOf]; omega
    · have hje : j = sc.pend.length := by omega
      subst hje
      rw [List.take_length] at hdr
      have hp2 : (sc.setls (sc.pend.filter (fun p => p.1 == f))).pend.length ≤ 4194304 := by rw [(setls_rest sc _).2.2.1]; exact hfew
      go_wp2_with fail
      refine (forget_any f hfr.fresh hdr hp2 hf).mono ?_
      rintro e w3 ⟨rfl, L3, h3, f3⟩
      go_wp2_with fail
      go_ret
      rw [sync_forget hic] at h3
      exact ⟨rfl, L3, h3, ((f1.mono md_ma).trans (hfr.mono (fun t ht => by obtain ⟨i, ht | ht⟩ := ht <;> rw [ht] <;> rfl))).trans (f3.mono (fun t ht => by rcases ht with ht | ht | ht | ht <;> rw [ht] <;> rfl))⟩

end Go.Proofs.Ytgocnjiabfmdpaa

namespace Go.Proofs.Ytgocnjiabfmdpaa
set_option maxRecDepth 8000
open Go.RowKit

set_option maxHeartbeats 400000 in
theorem Sync_any {L : Lab} {w : World} {k d : Nat} {s : St} (f : Int) (hL : Fresh L w) (h : DAt L w k d s) (hi : Inv s) (hf : isI64 f) :
    Calls Try.prog 20 #[.pointer (some ⟨d, 0, none⟩), .int .i64 f] w (CallPost L w k d (s.sync f)) := by
  unfold St.sync
  cases hh : s.hit
  · rw [if_neg (by simp)]
    by_cases hr : s.count.ready f = 0
    · rw [if_neg (fun e => e hr)]
      by_cases hl : s.lost > 0
      · rw [if_pos hl]
        have HH := Lib.hid (And.intro hh hr)
        have hlc : s.count.lost = s.lost := (count_rest s).2.2.2.2.2.1
        have hil := hi.lost
        have hia := hi.armed
        clear hh hr
        go_enter Try.func20, Try.ntmps20
        go_wp2_with fail
        refine (strikes_any hL h hia).mono ?_
        rintro e w1 ⟨rfl, h1, f1⟩
        rw [HH.out.1]
        go_wp2_with fail
        refine (ready_any f hf h1).mono ?_
        rintro e w2 ⟨rfl, rfl⟩
        rw [HH.out.2]
        obtain ⟨mb, pv, kv, fb, hdl, hb, hbody⟩ := h1
        have c3 := blk_cell hb 3
        have f3 := blk_free hb 3
        simp [dcells] at c3
        rw [hlc] at c3
        have HB := Lib.hid hb
        clear hb hlc
        go_wp2_with fail
        go_ret
        exact ⟨rfl, L, DAt.setD f1.fresh hdl HB.out 3 (.int .i64 (s.lost - 1)) rfl hbody, (f1.trans (Fr.setD f1.fresh hdl 3 _)).mono md_ma⟩
      · rw [if_neg hl]
        exact Sync_go f hL h hi hh hr (by have := hi.lost; omega)
    · rw [if_pos hr]
      have HH := Lib.hid hh
      have hb : ((s.count.ready f : Int) == 0) = false := beq_eq_false_iff_ne.2 hr
      have hb' : ((s.count.ready f : Int) != 0) = true := bne_iff_ne.2 hr
      have hia := hi.armed
      clear hr hh
      go_enter Try.func20, Try.ntmps20
      go_wp2_with fail
      refine (strikes_any hL h hia).mono ?_
      rintro e w1 ⟨rfl, h1, f1⟩
      rw [HH.out]
      go_wp2_with fail
      refine (ready_any f hf h1).mono ?_
      rintro e w2 ⟨rfl, rfl⟩
      go_wp2_with fail
      go_ret
      exact ⟨rfl, L, h1, f1.mono md_ma⟩
  · rw [if_pos rfl]
    have HH := Lib.hid hh
    have hk : s.count.keep = s.keep := (count_rest s).2.2.2.2.2.2
    have HK := Lib.hid hk
    have hia := hi.armed
    have hic := hi.count
    clear hh hk
    go_enter Try.func20, Try.ntmps20
    go_wp2_with fail
    refine (strikes_any hL h hia).mono ?_
    rintro e w1 ⟨rfl, h1, f1⟩
    rw [HH.out]
    go_wp2_with fail
    refine (fall_any f1.fresh h1 hic).mono ?_
    rintro e w2 ⟨rfl, L2, h2, f2⟩
    go_wp2_with fail
    go_ret
    rw [HK.out] at h2
    exact ⟨rfl, L2, h2, (f1.mono md_ma).trans f2⟩

theorem own_take {w : World} {e : TypeId} {g n c m : Nat} {xs : List Value} (h : w.ownsRow 0 e 1 (.slice (some ⟨g, 0, none⟩) n c) n xs) (hm : m ≤ n) : w.ownsRow 0 e 1 (.slice (some ⟨g, 0, none⟩) m c) m (xs.take m) := by
  rcases h.2 with ⟨hv, _⟩ | ⟨g', cap', cur, hv, hbg, hg, hnc, hcm, hcs, htake⟩
  · cases hv
  · injection hv with hv1 hv2 hv3
    injection hv1 with hv1
    injection hv1 with hv1
    subst hv1; subst hv3
    refine ⟨by rw [List.length_take, h.1]; omega, .inr ⟨g, c, cur, rfl, hbg, hg, by omega, hcm, hcs, ?_⟩⟩
    rw [← htake, List.take_take]
    congr 1; omega

/-- A file is cut: its struct has the shorter slice, and a copy of it as the durable part. -/
theorem cut_file {L : Lab} {w w2 : World} {k mb sb : Nat} {pv kv n' d' nv dv : Value} {fb : Int → Nat} {s s' : St} {f : Int} {r : List UInt8} (hL : Fresh L w) (hbody : DBody L w k mb pv kv fb s) (a1 : L (fb f) = some (k, .file f)) (a2 : w.heap[fb f]? = some (.cells #[nv, dv, .map (some sb)] 82 (0, 0)))
    (a3 : L sb = some (k, .sect f)) (a4 : IMap w sb (secF (s.sec f))) (hn : Sl L w 5 1 n' r.length (bc r) (k, .now f)) (hb : Below (w.setCell ⟨fb f, 0, none⟩ n').heap.size (w.setCell ⟨fb f, 0, none⟩ n') w2)
    (hown : w2.ownsRow 0 5 1 d' r.length (bc r)) (hnew : ∀ g, d'.ownBlock = some g → (w.setCell ⟨fb f, 0, none⟩ n').heap.size ≤ g)
    (hs : ∀ i, i ≠ f → s'.now i = s.now i ∧ s'.dur i = s.dur i ∧ s'.sec i = s.sec i) (hp : s'.pend = s.pend) (hk : s'.keep = s.keep) (e1 : s'.now f = r) (e2 : s'.dur f = r) (e3 : s'.sec f = s.sec f) :
    ∃ L', DBody L' (w2.setCell ⟨fb f, 1, none⟩ d') k mb pv kv fb s' ∧ Fr (MF k f) L w L' (w2.setCell ⟨fb f, 1, none⟩ d') := by
  let M : Nat × Role → Prop := fun t => t = (k, Role.file f)
  have g1 : Fr M L w L (w.setCell ⟨fb f, 0, none⟩ n') := (Fr.refl (M := M) hL).setCell (Or.inr ⟨_, a1, rfl⟩) _
  obtain ⟨L1, f1, hsl⟩ := new_label (M := M) (k, .dur f) g1.fresh hown hb hnew
  have g2 := g1.trans f1
  have b1 := g2.lab_of hL a1
  have g3 : Fr M L1 w2 L1 (w2.setCell ⟨fb f, 1, none⟩ d') := (Fr.refl (M := M) g2.fresh).setCell (Or.inr ⟨_, b1, rfl⟩) _
  have g4 := g2.trans g3
  have q1 := blk_set a2 0 n'
  have q2 := (hb.block _ (blk_lt q1)).trans q1
  have q3 := blk_set q2 1 d'
  simp at q3
  have hm : ∀ r, r ≠ Role.file f → ¬ M (k, r) := fun r h1 h2 => h1 (by injection h2)
  refine ⟨L1, hbody.file hL (g4.mono (fun t ht => Or.inl ht : ∀ t, M t → MF k f t)) hs hp hk ?_, g4.mono (fun t ht => Or.inl ht)⟩
  rw [e1, e2, e3]
  exact ⟨n', d', sb, g4.lab_of hL a1, q3, g4.lab_of hL a3, a4.keep a3 hL g4 (hm _ (by simp)), hn.keep hL g4 (hm _ (by simp)), hsl.keep g2.fresh g3 (hm _ (by simp))⟩

set_option maxRecDepth 100000 in
set_option maxHeartbeats 1000000 in
theorem Trunc_go {L : Lab} {w : World} {k d : Nat} {s : St} (f : Int) (m : Nat) (hL : Fresh L w) (h : DAt L w k d s) (hi : Inv s) (hh : s.hit = false) (hr : s.count.ready f = 0) (hm : m ≤ (s.now f).length) :
    Calls Try.prog 55 #[.pointer (some ⟨d, 0, none⟩), .int .i64 f, .int .i64 m] w (CallPost L w k d (s.count.cut f m, 0)) := by
  have hf := (ready_zero hr).2
  have hif := isFile_iff.1 hf
  have hi64 : isI64 f := by unfold isI64; omega
  rw [← (count_rest s).1] at hm
  have HH := Lib.hid (And.intro hh hr)
  have hic := hi.count
  have hia := hi.armed
  obtain ⟨sc, hsc⟩ : ∃ sc, sc = s.count := ⟨_, rfl⟩
  rw [← hsc] at hic hm ⊢
  have HSC := Lib.hid hsc
  clear hh hr hsc
  go_enter Try.func55, Try.ntmps55
  go_wp2_with fail
  refine (strikes_any hL h hia).mono ?_
  rintro e w1 ⟨rfl, h1, f1⟩
  rw [HH.out.1]
  rw [← HSC.out] at h1
  go_wp2_with fail
  refine (ready_any f hi64 h1).mono ?_
  rintro e w2 ⟨rfl, rfl⟩
  rw [HSC.out, HH.out.2]
  obtain ⟨mb, pv, kv, fb, hdl, hb, hbody⟩ := h1
  have c0 := blk_cell hb 0
  simp [dcells] at c0
  have hmap := hbody.2.1
  obtain ⟨nv, dv, sb, a1, a2, a3, a4, a5, a6⟩ := hbody.2.2.2.2 f hf
  have n0 := blk_cell a2 0
  have nf := blk_free a2 0
  simp at n0
  have hcap := hic.cap f
  have hfew := hic.few
  have HB := Lib.hid hb
  clear hb
  obtain ⟨nv', hown, hv', hsl⟩ : ∃ nv', w1.ownsRow 0 5 1 nv' m (bc ((sc.now f).take m)) ∧ (∃ A c, nv = .slice A (sc.now f).length c ∧ nv' = .slice A m c ∧ m ≤ c) ∧ Sl L w1 5 1 nv' ((sc.now f).take m).length (bc ((sc.now f).take m)) (k, .now f) := by
    have hl : ((sc.now f).take m).length = m := by rw [List.length_take]; omega
    rcases own_form a5.1 with ⟨rfl, h0⟩ | ⟨g, c, rfl, hc, _⟩
    · have hm0 : m = 0 := by omega
      subst hm0
      exact ⟨.slice none 0 0, World.ownsRow_nil _ _ _ _, ⟨none, 0, by rw [h0], rfl, Nat.le_refl _⟩, by simpa [bc] using Sl.nil L w1 5 1 (k, .now f)⟩
    · have ho := own_take a5.1 hm
      have hbt : (bc (sc.now f)).take m = bc ((sc.now f).take m) := by unfold bc; rw [List.map_take]
      rw [hbt] at ho
      exact ⟨_, ho, ⟨_, c, rfl, rfl, by omega⟩, by rw [hl]; exact ⟨ho, a5.2⟩⟩
  obtain ⟨A, c, rfl, rfl, hmc⟩ := hv'
  have hm1 : (m : Int) ≤ ((sc.now f).length : Int) := by omega
  have hm2 : (m : Int) ≤ (c : Int) := by omega
  go_wp2_with (at_lookup; refine wpList_look _ rfl _ _ 75 false rfl 3 79 Try.underlying3 Try.underlying75 (zero56 _) mb _ rfl hmap f rfl hi64 _ (filesF_in hf false) ?_; rw [if_neg (by simp)])
  have hnb : ∀ g, (Value.slice A m c).ownBlock = some g → g ≠ fb f := fun g hg e => by
    have := hsl.2 g hg
    rw [e, a1] at this; cases this
  have hlen : ((sc.now f).take m).length = m := by rw [List.length_take]; omega
  have hown' := ownsRow_of_blocks (w1 := w1.setCell ⟨fb f, 0, none⟩ (.slice A m c)) hown (fun g hg => Below.heap_setCell _ _ _ _ (hnb g hg))
  refine (clone49 (Rd.of_own hown') (bc_oneCell _) (by omega)).mono ?_
  rintro e w2 ⟨d', rfl, hown2, hb2, hnew2⟩
  have q1 := blk_set a2 0 (.slice A m c)
  have q2 := (hb2.block _ (blk_lt q1)).trans q1
  have c1 := blk_cell q2 1
  have cf := blk_free q2 1
  simp at c1
  obtain ⟨L2, hbd, hf2⟩ := cut_file (s' := { sc with now := upd sc.now f ((sc.now f).take m), dur := upd sc.dur f ((sc.now f).take m) }) f1.fresh hbody a1 a2 a3 a4 hsl hb2 (by rw [hlen]; exact hown2) hnew2 (fun i hi => ⟨upd_ne _ _ hi, upd_ne _ _ hi, rfl⟩) rfl rfl (upd_same _ _ _) (upd_same _ _ _) rfl
  have hda := DAt.head (s' := { sc with now := upd sc.now f ((sc.now f).take m), dur := upd sc.dur f ((sc.now f).take m) }) f1.fresh hdl HB.out hf2 mf_disk rfl hbd
  obtain ⟨A2, m2, c2, rfl⟩ := own_slice hown2
  clear hown2 hlen
  go_wp2_with fail
  refine (forget_any f hf2.fresh hda hfew hf).mono ?_
  rintro e w3 ⟨rfl, L3, h3, f3⟩
  go_wp2_with fail
  go_ret
  exact ⟨rfl, L3, h3, ((f1.mono md_ma).trans (hf2.mono (fun t ht => MF.own ht))).trans (f3.mono (fun t ht => by rcases ht with ht | ht | ht | ht <;> rw [ht] <;> rfl))⟩

set_option maxHeartbeats 400000 in
theorem Trunc_any {L : Lab} {w : World} {k d : Nat} {s : St} (f n : Int) (hL : Fresh L w) (h : DAt L w k d s) (hi : Inv s) (hf : isI64 f) :
    Calls Try.prog 55 #[.pointer (some ⟨d, 0, none⟩), .int .i64 f, .int .i64 n] w (CallPost L w k d (s.trunc f n)) := by
  unfold St.trunc
  cases hh : s.hit
  · rw [if_neg (by simp)]
    by_cases hr : s.count.ready f = 0
    · rw [if_neg (fun e => e hr)]
      by_cases hn : n < 0 ∨ n > (s.now f).length
      · rw [if_pos hn]
        have HH := Lib.hid (And.intro hh hr)
        have hif := (ready_zero hr).2
        have hia := hi.armed
        rw [← (count_rest s).1] at hn
        clear hh hr
        by_cases h0 : n < 0
        · clear hn
          go_enter Try.func55, Try.ntmps55
          go_wp2_with fail
          refine (strikes_any hL h hia).mono ?_
          rintro e w1 ⟨rfl, h1, f1⟩
          rw [HH.out.1]
          go_wp2_with fail
          refine (ready_any f hf h1).mono ?_
          rintro e w2 ⟨rfl, rfl⟩
          rw [HH.out.2]
          have h1' := h1
          obtain ⟨mb, pv, kv, fb, hdl, hb, hbody⟩ := h1
          have c0 := blk_cell hb 0
          simp [dcells] at c0
          have hmap := hbody.2.1
          clear hb
          go_wp2_with (at_lookup; refine wpList_look _ rfl _ _ 75 false rfl 3 79 Try.underlying3 Try.underlying75 (zero56 _) mb _ rfl hmap f rfl hf _ (filesF_in hif false) ?_; rw [if_neg (by simp)])
          go_ret
          exact ⟨rfl, L, h1', f1.mono md_ma⟩
        · have hgt : ((s.count.now f).length : Int) < n := by omega
          clear hn
          go_enter Try.func55, Try.ntmps55
          go_wp2_with fail
          refine (strikes_any hL h hia).mono ?_
          rintro e w1 ⟨rfl, h1, f1⟩
          rw [HH.out.1]
          go_wp2_with fail
          refine (ready_any f hf h1).mono ?_
          rintro e w2 ⟨rfl, rfl⟩
          rw [HH.out.2]
          have h1' := h1
          obtain ⟨mb, pv, kv, fb, hdl, hb, hbody⟩ := h1
          have c0 := blk_cell hb 0
          simp [dcells] at c0
          have hmap := hbody.2.1
          obtain ⟨nv, dv, sb, a1, a2, a3, a4, a5, a6⟩ := hbody.2.2.2.2 f hif
          have n0 := blk_cell a2 0
          simp at n0
          clear hb
          rcases own_form a5.1 with ⟨rfl, hz⟩ | ⟨g, c, rfl, hc, _⟩
          · have hgt2 : (0 : Int) < n := by omega
            have HZ := Lib.hid hz
            clear hz
            go_wp2_with (at_lookup; refine wpList_look _ rfl _ _ 75 false rfl 3 79 Try.underlying3 Try.underlying75 (zero56 _) mb _ rfl hmap f rfl hf _ (filesF_in hif false) ?_; rw [if_neg (by simp)])
            go_ret
            exact ⟨rfl, L, h1', f1.mono md_ma⟩
          · go_wp2_with (at_lookup; refine wpList_look _ rfl _ _ 75 false rfl 3 79 Try.underlying3 Try.underlying75 (zero56 _) mb _ rfl hmap f rfl hf _ (filesF_in hif false) ?_; rw [if_neg (by simp)])
            go_ret
            exact ⟨rfl, L, h1', f1.mono md_ma⟩
      · rw [if_neg hn]
        obtain ⟨m, rfl⟩ := Int.eq_ofNat_of_zero_le (show 0 ≤ n by omega)
        exact Trunc_go f m hL h hi hh hr (by omega)
    · rw [if_pos hr]
      have HH := Lib.hid hh
      have hb : ((s.count.ready f : Int) == 0) = false := beq_eq_false_iff_ne.2 hr
      have hb' : ((s.count.ready f : Int) != 0) = true := bne_iff_ne.2 hr
      have hia := hi.armed
      clear hr hh
      go_enter Try.func55, Try.ntmps55
      go_wp2_with fail
      refine (strikes_any hL h hia).mono ?_
      rintro e w1 ⟨rfl, h1, f1⟩
      rw [HH.out]
      go_wp2_with fail
      refine (ready_any f hf h1).mono ?_
      rintro e w2 ⟨rfl, rfl⟩
      go_wp2_with fail
      go_ret
      exact ⟨rfl, L, h1, f1.mono md_ma⟩
  · rw [if_pos rfl]
    have HH := Lib.hid hh
    have HK := Lib.hid (count_rest s).2.2.2.2.2.2
    have hia := hi.armed
    have hic := hi.count
    clear hh
    go_enter Try.func55, Try.ntmps55
    go_wp2_with fail
    refine (strikes_any hL h hia).mono ?_
    rintro e w1 ⟨rfl, h1, f1⟩
    rw [HH.out]
    go_wp2_with fail
    refine (fall_any f1.fresh h1 hic).mono ?_
    rintro e w2 ⟨rfl, L2, h2, f2⟩
    go_wp2_with fail
    go_ret
    rw [HK.out] at h2
    exact ⟨rfl, L2, h2, (f1.mono md_ma).trans f2⟩

theorem ic_oneCell (l : List Int) : ∀ u ∈ ic l, u.oneCell' = true := fun u hu => by unfold ic at hu; obtain ⟨c, _, rfl⟩ := List.mem_map.1 hu; rfl

set_option maxHeartbeats 400000 in
theorem Arm_any {L : Lab} {w : World} {k d : Nat} {s : St} (n : Int) (v : Value) (keep : List Int) (hL : Fresh L w) (h : DAt L w k d s) (hk : Rd w 1 v keep.length (ic keep)) (hvd : ∀ g, v.ownBlock = some g → 0 < keep.length → g ≠ d) (hkl : keep.length ≤ 1000000) :
    Calls Try.prog 35 #[.pointer (some ⟨d, 0, none⟩), .int .i64 n, v] w fun e w' => e = .returned (.tuple #[]) ∧ ∃ L', DAt L' w' k d (s.arm n keep) ∧ Fr (MA k) L w L' w' := by
  obtain ⟨mb, pv, kv, fb, hdl, hb, hbody⟩ := h
  have c4 := blk_cell hb 4
  have f4 := blk_free hb 4
  simp [dcells] at c4
  have HB := Lib.hid hb
  clear hb
  obtain ⟨mx, hmx⟩ : ∃ mx, mx = max n 0 := ⟨_, rfl⟩
  have HM := Lib.hid hmx
  have HK := Lib.hid hk
  have key : ∀ (mx' : Int), mx' = max n 0 → ∀ (e : Ending) (w1 : World), ClonePost (w.setCell ⟨d, 4, none⟩ (.int .i64 mx')) 3 1 keep.length (ic keep) e w1 → ∃ v', e = .returned v' ∧ (∃ A m c, v' = .slice A m c) ∧ w1.heap[d]? = some (.cells #[.map (some mb), pv, .bool s.down, .int .i64 s.lost, .int .i64 mx', kv] 78 (0, 0)) ∧ ∃ L', DAt L' (w1.setCell ⟨d, 5, none⟩ v') k d (s.arm n keep) ∧ Fr (MA k) L w L' (w1.setCell ⟨d, 5, none⟩ v') := by
    rintro mx' rfl e w1 ⟨v', rfl, hown, hbe, hnew⟩
    have g1 := Fr.setD hL hdl 4 (.int .i64 (max n 0))
    have hbd := hbody.setD hL hdl 4 (.int .i64 (max n 0))
    obtain ⟨L1, g2, hsl⟩ := new_label (M := fun _ => False) (k, .keep) g1.fresh hown hbe hnew
    have hbd2 := hbd.keep g1.fresh g2 (fun _ _ _ h => h)
    have d1 := g2.lab_of g1.fresh hdl
    have q0 := (hbe.block d (by simp; exact blk_lt HB.out)).trans (blk_set HB.out 4 (.int .i64 (max n 0)))
    have hbd3 : DBody L1 w1 k mb pv v' fb (s.arm n keep) := ⟨hbd2.1, hbd2.2.1, hbd2.2.2.1, hsl, hbd2.2.2.2.2⟩
    refine ⟨v', rfl, own_slice hown, q0, L1, ⟨mb, pv, v', fb, d1, ?_, hbd3.setD g2.fresh d1 5 v'⟩, ((g1.mono md_ma).trans (g2.mono (fun _ h => h.elim))).trans ((Fr.setD g2.fresh d1 5 v').mono md_ma)⟩
    exact blk_set q0 5 v'
  have hrd : ∀ mx', Rd (w.setCell ⟨d, 4, none⟩ (.int .i64 mx')) 1 v keep.length (ic keep) := fun mx' => by
    refine ⟨HK.out.1, ?_⟩
    rcases HK.out.2 with h0 | ⟨ad, c, rfl, hc⟩
    · exact Or.inl h0
    · refine Or.inr ⟨ad, c, rfl, fun j u hu => ?_⟩
      refine (World.cell?_of_block (a := ad.add j) (Below.heap_setCell _ _ _ _ ?_)).trans (hc j u hu)
      have : (ad.add j).block = ad.block := by unfold Addr.add; split <;> rfl
      rw [this]
      exact hvd _ rfl (by have := (List.getElem?_eq_some_iff.1 hu).1; rw [ic_length] at this; omega)
  have KEY := Lib.hid key
  clear key hmx
  by_cases h0 : 0 ≤ n
  · have hn : n = max n 0 := by omega
    have HN := Lib.hid hn
    clear hn
    go_enter Try.func35, Try.ntmps35
    go_wp2_with fail
    refine (clone42 (hrd _) (ic_oneCell _) hkl).mono ?_
    intro e w1 hpost
    obtain ⟨v', rfl, ⟨A, m, c, rfl⟩, q0, H⟩ := KEY.out _ HN.out e w1 hpost
    have r5 := blk_cell q0 5
    have rf := blk_free q0 5
    simp at r5
    clear hpost q0
    go_wp2_with fail
    go_end0
    exact ⟨rfl, H⟩
  · have hn : (0 : Int) = max n 0 := by omega
    have HN := Lib.hid hn
    clear hn
    go_enter Try.func35, Try.ntmps35
    go_wp2_with fail
    refine (clone42 (hrd _) (ic_oneCell _) hkl).mono ?_
    intro e w1 hpost
    obtain ⟨v', rfl, ⟨A, m, c, rfl⟩, q0, H⟩ := KEY.out _ HN.out e w1 hpost
    have r5 := blk_cell q0 5
    have rf := blk_free q0 5
    simp at r5
    clear hpost q0
    go_wp2_with fail
    go_end0
    exact ⟨rfl, H⟩

end Go.Proofs.Ytgocnjiabfmdpaa
