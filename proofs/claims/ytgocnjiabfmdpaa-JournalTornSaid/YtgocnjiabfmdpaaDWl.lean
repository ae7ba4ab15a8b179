/- Walks of fall, write and Write. -/
import Derived.Test.YtgocnjiabfmdpaaDWj
import Derived.Test.YtgocnjiabfmdpaaDWk
namespace Go.Proofs.Ytgocnjiabfmdpaa
set_option maxRecDepth 8000
open Go.RowKit

theorem KAt.of_sl {L : Lab} {w : World} {k : Nat} {v : Value} {keep : List Int} (h : Sl L w 3 1 v keep.length (ic keep) (k, .keep)) : KAt L w k v keep := by
  rcases own_form h.1 with ⟨rfl, h0⟩ | ⟨g, c, rfl, _, _⟩
  · have : keep = [] := List.eq_nil_of_length_eq_zero h0
    subst this
    exact ⟨none, 0, rfl, fun j hj => by simp at hj⟩
  · refine ⟨_, c, rfl, fun j hj => ⟨g, 0, rfl, ?_, (h.1.lt g rfl).2, fun i => ?_⟩⟩
    · rw [Nat.zero_add, h.1.cellAt j (by omega)]
      simp [ic, List.getElem?_eq_getElem hj]
    · rw [h.2 g rfl]; simp

theorem fall_any {L : Lab} {w : World} {k d : Nat} {s : St} (hL : Fresh L w) (h : DAt L w k d s) (hi : Inv s) :
    Calls Try.prog 64 #[.pointer (some ⟨d, 0, none⟩)] w fun e w' => e = .returned (.int .i64 8) ∧ ∃ L', DAt L' w' k d (s.crash s.keep) ∧ Fr (MA k) L w L' w' := by
  have h' := h
  obtain ⟨mb, pv, kv, fb, hdl, hb, hbody⟩ := h
  have c5 := blk_cell hb 5
  simp [dcells] at c5
  have hk := KAt.of_sl hbody.2.2.2.1
  have HB := Lib.hid hb
  clear hb
  go_enter Try.func64, Try.ntmps64
  go_wp2_with fail
  refine (crash_any kv s.keep hL h' hi hk).mono ?_
  rintro e w1 ⟨rfl, H⟩
  go_wp2_with fail
  go_ret
  exact ⟨rfl, H⟩

/-- What a call of the disk's leaves: its answer, and the disk's next state. -/
def CallPost (L : Lab) (w : World) (k d : Nat) (r : St × Int) (e : Ending) (w' : World) : Prop :=
  e = .returned (.int .i64 r.2) ∧ ∃ L', DAt L' w' k d r.1 ∧ Fr (MA k) L w L' w'

theorem write_not {L : Lab} {w : World} {k d : Nat} {s : St} (f a : Int) (t : ByteArray) (hL : Fresh L w) (h : DAt L w k d s) (hf : isI64 f) (ha : isI64 a) (ht : t.size ≤ 1000000)
    (hno : s.ready f ≠ 0 ∨ a < 0 ∨ a > 16777216 - t.size ∨ t.data.toList = []) :
    Calls Try.prog 77 #[.pointer (some ⟨d, 0, none⟩), .int .i64 f, .int .i64 a, .string t] w (CallPost L w k d (s.wr f a t.data.toList)) := by
  have hsz := size_toList t
  unfold isI64 at ha
  by_cases hr : s.ready f = 0
  · by_cases h1 : a < 0
    · have HW : Hid (s.wr f a t.data.toList = (s, 1)) := show _ = _ by unfold St.wr; rw [if_neg (by simp [hr]), if_pos h1]
      have HR := Lib.hid hr
      clear hr hno hsz
      go_enter Try.func77, Try.ntmps77
      go_wp2_with fail
      refine (ready_any f hf h).mono ?_
      rintro e w1 ⟨rfl, rfl⟩
      rw [HR.out]
      go_wp2_with fail
      go_ret
      rw [HW.out]
      exact ⟨rfl, L, h, Fr.refl hL⟩
    · by_cases h2 : a > 16777216 - t.size
      · have HW : Hid (s.wr f a t.data.toList = (s, 6)) := show _ = _ by unfold St.wr; rw [if_neg (by simp [hr]), if_neg h1, if_pos (by omega)]
        have HR := Lib.hid hr
        clear hr hno hsz
        go_enter Try.func77, Try.ntmps77
        go_wp2_with fail
        refine (ready_any f hf h).mono ?_
        rintro e w1 ⟨rfl, rfl⟩
        rw [HR.out]
        go_wp2_with fail
        go_ret
        rw [HW.out]
        exact ⟨rfl, L, h, Fr.refl hL⟩
      · have h3 : t.data.toList = [] := by
          rcases hno with hno | hno | hno | hno
          · exact absurd hr hno
          · exact absurd hno h1
          · exact absurd hno h2
          · exact hno
        have HW : Hid (s.wr f a t.data.toList = (s, 0)) := show _ = _ by unfold St.wr; rw [if_neg (by simp [hr]), if_neg h1, if_neg (by omega), if_pos h3]
        have HR := Lib.hid hr
        obtain rfl : t = ByteArray.empty := by rw [← ba_of t, h3]; rfl
        clear hr hno hsz h3
        go_enter Try.func77, Try.ntmps77
        go_wp2_with fail
        refine (ready_any f hf h).mono ?_
        rintro e w1 ⟨rfl, rfl⟩
        rw [HR.out]
        go_wp2_with fail
        go_ret
        rw [HW.out]
        exact ⟨rfl, L, h, Fr.refl hL⟩
  · have HW : Hid (s.wr f a t.data.toList = (s, s.ready f)) := show _ = _ by unfold St.wr; rw [if_pos hr]
    have hb : ((s.ready f : Int) == 0) = false := beq_eq_false_iff_ne.2 hr
    have hb' : ((s.ready f : Int) != 0) = true := bne_iff_ne.2 hr
    clear hr hno hsz
    go_enter Try.func77, Try.ntmps77
    go_wp2_with fail
    refine (ready_any f hf h).mono ?_
    rintro e w1 ⟨rfl, rfl⟩
    go_wp2_with fail
    go_ret
    rw [HW.out]
    exact ⟨rfl, L, h, Fr.refl hL⟩

theorem addSecs_len (s : St) (f n : Int) (k : Nat) : (s.addSecs f n k).pend.length ≤ s.pend.length + k := by
  induction k with
  | zero => exact Nat.le_refl _
  | succ k ih =>
    rw [St.addSecs_succ]
    have : ((s.addSecs f n k).addSec f (n + k)).pend.length ≤ (s.addSecs f n k).pend.length + 1 := by
      unfold St.addSec
      split
      · omega
      · simp
    omega

theorem secF_look (g : Int → Bool) (n : Int) : lookRes (secF g) n (.bool false) false = .bool (g n) := by
  unfold lookRes secF
  cases g n <;> simp

set_option maxRecDepth 100000 in
set_option maxHeartbeats 1000000 in
theorem write_yes {L : Lab} {w : World} {k d : Nat} {s : St} (f : Int) (a : Nat) (t : ByteArray) (hL : Fresh L w) (h : DAt L w k d s) (hi : Inv s) (hr : s.ready f = 0) (hat : a + t.size ≤ 16777216) (ht : 0 < t.size) :
    Calls Try.prog 77 #[.pointer (some ⟨d, 0, none⟩), .int .i64 f, .int .i64 a, .string t] w (CallPost L w k d ((s.wrote f a t.data.toList).addSecs f (a / 64) (St.secs a t.data.toList), 0)) := by
  have h' := h
  have hsz := size_toList t
  have hf := (ready_zero hr).2
  have hif := isFile_iff.1 hf
  have hi64 : isI64 f := by unfold isI64; omega
  obtain ⟨mb, pv, kv, fb, hdl, hb, hbody⟩ := h
  have hbody' := hbody
  obtain ⟨b1, hmap, b3, b4, hfs⟩ := hbody
  obtain ⟨nv, dv, sb, a1, a2, a3, a4, a5, a6⟩ := hfs f hf
  have c0 := blk_cell hb 0
  have n0 := blk_cell a2 0
  have nf := blk_free a2 0
  simp [dcells] at c0 n0
  have hcap := hi.cap f
  have HB := Lib.hid hb
  have HR := Lib.hid hr
  have hte : ¬ t.data.toList = [] := by intro e; rw [e] at hsz; simp at hsz; omega
  have hte2 : t.toList.isEmpty = false := by rw [ByteArray.toList_eq]; cases hh : t.data.toList with | nil => exact absurd hh hte | cons => rfl
  have hte3 : ¬ t.toList = [] := by rw [ByteArray.toList_eq]; exact hte
  clear hte
  have hsecs : St.secs a t.data.toList = (a + t.size - 1) / 64 - a / 64 + 1 := by unfold St.secs; rw [hsz]; omega
  obtain ⟨cnt, hcnt⟩ : ∃ cnt, cnt = St.secs a t.data.toList := ⟨_, rfl⟩
  rw [← hcnt] at hsecs ⊢
  have HC := Lib.hid hcnt
  have HS := Lib.hid hsecs
  have hne : nv.ownBlock ≠ some (fb f) := fun e => by have h1 := a5.2 _ e; rw [a1] at h1; cases h1
  clear hb hr hsz hcnt hsecs
  go_enter Try.func77, Try.ntmps77
  go_wp2_with fail
  refine (ready_any f hi64 h').mono ?_
  rintro e w1 ⟨rfl, rfl⟩
  rw [HR.out]
  go_wp2_with (at_lookup; refine wpList_look _ rfl _ _ 75 false rfl 3 79 Try.underlying3 Try.underlying75 (zero56 _) mb _ rfl hmap f rfl hi64 _ (filesF_in hf false) ?_; rw [if_neg (by simp)])
  refine (put_any _ _ (s.now f) a t a5.1 hcap hat ht).mono ?_
  rintro e w1 ⟨v', rfl, hown1, hg1, hat1⟩
  have q1 := (hg1.block (fb f) (blk_lt a2) (Ne.symm hne)).trans a2
  have k0 := blk_cell q1 0
  have kf := blk_free q1 0
  simp at k0
  obtain ⟨L1, hbd1, hf1⟩ := wrote_file (a := (a : Int)) (t := t.data.toList) hL hbody' a1 a2 a3 a4 a5 a6 (by rw [Int.toNat_natCast]; exact hown1) hg1 hat1
  have hd1 := hf1.lab_of hL hdl
  have hb1 := (hf1.keeps hL hdl mf_disk).trans HB.out
  obtain ⟨A, m, c, rfl⟩ := own_slice hown1
  have HB1 := Lib.hid hb1
  clear hb1 hat1 hown1
  go_wp2_with fail
  go_loopw [11] (fun n wr => ∃ (i : Nat) (L2 : Lab) (pv2 : Value), i ≤ cnt ∧ n = .int .i64 ((a : Int) / 64 + i) ∧ DBody L2 wr k mb pv2 kv fb ((s.wrote f a t.data.toList).addSecs f (a / 64) i) ∧ Hid (wr.heap[d]? = some (.cells (dcells mb pv2 kv ((s.wrote f a t.data.toList).addSecs f (a / 64) i)) 78 (0, 0))) ∧ L2 d = some (k, .disk) ∧ Fr (MA k) L w L2 wr) (fun n _ => (cnt + a / 64) - (intOf n).toNat)
  case atStart => exact ⟨0, L1, pv, Nat.zero_le _, by simp, hbd1, HB1, hd1, hf1.mono (fun t ht => MF.own ht)⟩
  case round =>
    obtain ⟨i, L2, pv2, hi', rfl, hbr, HBR, hdr, hfr⟩ := hrel
    have hfr0 := hfr.fresh
    obtain ⟨s2, hs2⟩ : ∃ s2, s2 = (s.wrote f a t.data.toList).addSecs f (a / 64) i := ⟨_, rfl⟩
    rw [← hs2] at hbr HBR
    have hfew : s2.pend.length ≤ 5000000 := by
      have h1 := addSecs_len (s.wrote f a t.data.toList) f (a / 64) i
      rw [← hs2] at h1
      have h2 : (s.wrote f a t.data.toList).pend = s.pend := rfl
      rw [h2] at h1
      have h3 := hi.few
      have h4 := HS.out
      omega
    have HS2 := Lib.hid hs2
    clear hs2
    obtain ⟨nv2, dv2, sb2, x1, x2, x3, x4, x5, x6⟩ := hbr.2.2.2.2 f hf
    have y3 := hbr.2.2.1
    have e2 := blk_cell x2 2
    have e1 := blk_cell HBR.out 1
    have ef := blk_free HBR.out 1
    simp [dcells] at e1 e2
    by_cases hlt : i < cnt
    · have hn64 : isI64 ((a : Int) / 64 + i) := by have := HS.out; unfold isI64; omega
      have hcond : (a : Int) / 64 + i ≤ (a + t.size - 1) / 64 := by have := HS.out; omega
      cases hsec : s2.sec f ((a : Int) / 64 + i)
      · have HSEC := Lib.hid hsec
        clear hsec
        have lsb := x4.lt
        have hdsb : d ≠ sb2 := fun e => by rw [e, x3] at hdr; cases hdr
        have hdp : pv2.ownBlock ≠ some d := fun e => by have := y3.2 _ e; rw [hdr] at this; cases this
        have hpsb : pv2.ownBlock ≠ some sb2 := fun e => by have := y3.2 _ e; rw [x3] at this; cases this
        obtain ⟨i0, hi0, hz0, hz1, hz2⟩ := info_parts Try.info95
        go_wp2_with (first
          | (at_lookup; refine wpList_look _ rfl _ _ 80 false rfl 3 4 Try.underlying3 Try.underlying80 (zero4 _) sb2 _ rfl x4 _ rfl hn64 (.bool false) (by rw [secF_look, HSEC.out]) ?_)
          | (at_mapUpdate; refine wpList_put _ rfl _ _ _ 80 rfl 3 4 Try.underlying3 Try.underlying80 sb2 _ rfl x4 _ rfl hn64 _ rfl ?_; intro w3 hm3 hg3 hs3; have q3 := (hg3.block d (blk_lt HBR.out) (by simp; exact hdsb)).trans HBR.out; have r1 := blk_cell q3 1; simp [dcells] at r1; have hown3 := ownsRow_of_blocks (w1 := w3) y3.1 (fun g hg => hg3.block g (y3.1.lt g hg).2 (by intro e; exact hpsb (by rw [hg, e]))); have HQ3 := Lib.hid q3; clear q3 hs3)
          | (at_builtin; refine wpList_append_own_at _ rfl (.tmp 71) (.tmp 75) 76 rfl 0 95 i0 (.agg #[.int .i64 0, .int .i64 0]) 2 16 Try.underlying76 hi0 hz0 hz1 hz2 rfl (by decide) pv2 _ _ rfl (hown3.alloc _) ⟨w3.heap.size, 0, none⟩ 1 1 [.int .i64 f, .int .i64 ((a : Int) / 64 + i)] rfl rfl (World.news_of_block (heap_alloc_new w3 _)) (by simp [Value.oneCell']) (by unfold maxLen; omega) (by omega) (by omega) ?_; intro v4 w4 hown4 hg4 hnil4 hat4; obtain ⟨A4, m4, c4, rfl⟩ := own_slice hown4; have H4 := sec_step hfr0 hdr HBR.out hbr x1 x2 x3 x5 x6 hm3 hg3 hown4 hg4 hat4 HSEC.out; have q4 := (hg4.block d (by simp; have := blk_lt HQ3.out; omega) (Ne.symm hdp)).trans (blk_alloc HQ3.out _); have r4 := blk_cell q4 1; have g4 := blk_free q4 1; simp [dcells] at r4; clear q4))
        go_roundw
        case rel =>
          obtain ⟨L4, u1, u2, u3, u4⟩ := H4
          refine ⟨i + 1, L4, .slice A4 m4 c4, by omega, by push_cast; rw [Int.add_assoc], ?_, ?_, u2, hfr.trans u4⟩
          · rw [St.addSecs_succ, ← HS2.out]; exact u1
          · rw [St.addSecs_succ, ← HS2.out]; exact u3
        case measure => simp [intOf]; omega
      · have HSEC := Lib.hid hsec
        clear hsec
        go_wp2_with (at_lookup; refine wpList_look _ rfl _ _ 80 false rfl 3 4 Try.underlying3 Try.underlying80 (zero4 _) sb2 _ rfl x4 _ rfl hn64 (.bool true) (by rw [secF_look, HSEC.out]) ?_)
        go_roundw
        case rel =>
          have hsame : (s.wrote f a t.data.toList).addSecs f (a / 64) (i + 1) = s2 := by
            rw [St.addSecs_succ, ← HS2.out]
            unfold St.addSec
            rw [if_pos HSEC.out]
          refine ⟨i + 1, L2, pv2, by omega, by push_cast; rw [Int.add_assoc], ?_, ?_, hdr, hfr⟩
          · rw [hsame]; exact hbr
          · rw [hsame]; exact HBR
        case measure => simp [intOf]; omega
    · have hic : i = cnt := by omega
      have hcond : ¬ (a : Int) / 64 + i ≤ (a + t.size - 1) / 64 := by have := HS.out; omega
      have HIC := Lib.hid hic
      clear hic
      go_wp2_with fail
      go_ret
      have h5 := HS2.out
      rw [HIC.out] at h5
      refine ⟨rfl, L2, ?_, hfr⟩
      show DAt L2 wr k d ((s.wrote f a t.data.toList).addSecs f (a / 64) cnt)
      rw [← h5]
      exact ⟨mb, pv2, kv, fb, hdr, HBR.out, hbr⟩

theorem write_any {L : Lab} {w : World} {k d : Nat} {s : St} (f a : Int) (t : ByteArray) (hL : Fresh L w) (h : DAt L w k d s) (hi : Inv s) (hf : isI64 f) (ha : isI64 a) (ht : t.size ≤ 1000000) :
    Calls Try.prog 77 #[.pointer (some ⟨d, 0, none⟩), .int .i64 f, .int .i64 a, .string t] w (CallPost L w k d (s.wr f a t.data.toList)) := by
  by_cases hno : s.ready f ≠ 0 ∨ a < 0 ∨ a > 16777216 - t.size ∨ t.data.toList = []
  · exact write_not f a t hL h hf ha ht hno
  · have h1 : s.ready f = 0 := Classical.byContradiction fun e => hno (Or.inl e)
    have h2 : ¬ a < 0 := fun e => hno (Or.inr (Or.inl e))
    have h3 : ¬ a > 16777216 - t.size := fun e => hno (Or.inr (Or.inr (Or.inl e)))
    have h4 : ¬ t.data.toList = [] := fun e => hno (Or.inr (Or.inr (Or.inr e)))
    have hsz := size_toList t
    have h5 : 0 < t.size := by rw [← hsz]; exact List.length_pos_iff.2 h4
    obtain ⟨a', rfl⟩ := Int.eq_ofNat_of_zero_le (show 0 ≤ a by omega)
    have hw : s.wr f a' t.data.toList = ((s.wrote f a' t.data.toList).addSecs f (a' / 64) (St.secs a' t.data.toList), 0) := by
      unfold St.wr
      rw [if_neg (by simp [h1]), if_neg h2, if_neg (by rw [hsz]; exact h3), if_neg h4]
    rw [hw]
    exact write_yes f a' t hL h hi h1 (by omega) h5

end Go.Proofs.Ytgocnjiabfmdpaa
