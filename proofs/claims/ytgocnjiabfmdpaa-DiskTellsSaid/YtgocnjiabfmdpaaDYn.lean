/- The reference's Write, Sync, Truncate, Arm. -/
import Derived.Test.YtgocnjiabfmdpaaDYm
namespace Go.Proofs.Ytgocnjiabfmdpaa
set_option maxRecDepth 8000
open Go.RowKit

/-- Where a crash is scheduled, the ints that choose are the plain state's. -/
def KI (K : List Int) (s : St) : Prop := s.armed ≠ 0 → K = s.keep

theorem wr_armed (s : St) (f a : Int) (t : List UInt8) : (s.wr f a t).1.armed = s.armed := by
  unfold St.wr
  split
  · rfl
  split
  · rfl
  split
  · rfl
  split
  · rfl
  · exact (addSecs_rest _ _ _ _).2.2.2.2.1

theorem KI.same {K : List Int} {s s' : St} (h : KI K s) (h1 : s'.armed = s.armed) (h2 : s'.keep = s.keep) : KI K s' := fun hh => by rw [h2]; exact h (by rw [← h1]; exact hh)

theorem KI.count {K : List Int} {s : St} (h : KI K s) : KI K s.count := by
  unfold St.count
  split
  · exact h
  · rename_i hh
    exact fun _ => h (fun e => hh (Or.inr e))

theorem KI.wr {K : List Int} {s : St} (h : KI K s) (f a : Int) (t : List UInt8) : KI K (s.wr f a t).1 := h.same (wr_armed s f a t) (wr_keep s f a t)

theorem hit_count {s : St} (h : s.hit = true) : s.count.armed = 0 ∧ s.count.down = false := by
  simp only [St.hit, Bool.and_eq_true, Bool.not_eq_true', beq_iff_eq] at h
  unfold St.count
  rw [if_neg (by simp [h.1, h.2])]
  exact ⟨by show s.armed - 1 = 0; omega, h.1⟩

theorem crash_down (s : St) (keep : List Int) : (s.crash keep).down = true := by
  unfold St.crash
  split
  · assumption
  · rfl

theorem KI.crash {K : List Int} {s : St} (h : s.armed = 0) (keep : List Int) : KI K (s.crash keep) := by
  intro hh
  exfalso
  apply hh
  unfold St.crash
  split
  · exact h
  · rfl

theorem KI.comes {K : List Int} {s : St} (h : KI K s) (f a : Int) (t : List UInt8) : KI K (s.comes f a t) := by
  unfold St.comes
  split
  · rename_i hh
    exact KI.crash (by rw [wr_armed]; exact (hit_count hh).1) _
  · exact h.count

theorem comes_hit {s : St} (hh : s.hit = true) (f a : Int) (t : List UInt8) (g : Int) : (s.comes f a t).ready g = 8 := by
  unfold St.comes
  rw [if_pos hh]
  unfold St.ready
  rw [if_pos (crash_down _ _)]

theorem comes_not {s : St} (hh : s.hit = false) (f a : Int) (t : List UInt8) : s.comes f a t = s.count := by
  unfold St.comes
  rw [hh, if_neg (by simp)]

theorem wr_nil (s : St) (f a : Int) : (s.wr f a []).1 = s := by
  unfold St.wr
  split
  · rfl
  split
  · rfl
  split
  · rfl
  · rw [if_pos rfl]

theorem comes_nil (s : St) : s.comes 0 0 [] = if s.hit = true then s.count.crash s.keep else s.count := by
  unfold St.comes
  rw [wr_nil]

/-- What a call leaves of the reference's disk. -/
def RPost (L : Lab) (w : World) (k d : Nat) (r : St × Int) (e : Ending) (w' : World) : Prop :=
  e = .returned (.int .i64 r.2) ∧ ∃ l' L' K', RAt L' w' k d l' K' r.1 ∧ Fr (MA k) L w L' w' ∧ KI K' r.1

theorem Inv.comes {s : St} (h : Inv s) (f a : Int) (t : List UInt8) : Inv (s.comes f a t) := by
  unfold St.comes
  split
  · exact (h.count.wr f a t).crash _
  · exact h.count

set_option maxRecDepth 100000 in
set_option maxHeartbeats 1000000 in
theorem rWrite_any {L : Lab} {w : World} {k d : Nat} {l : List Fl} {K : List Int} {s : St} (f a : Int) (t : ByteArray) (hL : Fresh L w) (h : RAt L w k d l K s) (hi : Inv s) (hK : KI K s) (ha : isI64 a) (ht : t.size ≤ 1000000) :
    Calls Try.prog 58 #[.pointer (some ⟨d, 0, none⟩), .int .i64 f, .int .i64 a, .string t] w (RPost L w k d (s.write f a t.data.toList)) := by
  have hsz := size_toList t
  have hKc := hK.comes f a t.data.toList
  cases hh : s.hit
  · have HW : Hid (s.write f a t.data.toList = s.count.wr f a t.data.toList) := show _ = _ by unfold St.write; rw [hh, if_neg (by simp)]
    have HC : Hid (s.comes f a t.data.toList = s.count) := show _ = _ from comes_not hh _ _ _
    rw [comes_not hh] at hKc
    have HKC := Lib.hid hKc
    clear hh hKc
    by_cases hr : s.count.ready f = 0
    · have HR := Lib.hid hr
      clear hr
      by_cases h0 : a < 0
      · have HQ : Hid (s.count.wr f a t.data.toList = (s.count, 1)) := show _ = _ by unfold St.wr; rw [if_neg (by rw [HR.out]; simp), if_pos h0]
        clear hsz
        go_enter Try.func58, Try.ntmps58
        go_wp2_with fail
        refine (rcomes_any f a t hL h hi hK ha ht).mono ?_
        rintro e w1 ⟨rfl, l1, L1, h1, f1⟩
        rw [HC.out] at h1
        go_wp2_with fail
        refine (rmay_any f h1).mono ?_
        rintro e w2 ⟨rfl, rfl⟩
        rw [HR.out]
        go_wp2_with fail
        go_ret
        rw [HW.out, HQ.out]
        exact ⟨rfl, l1, L1, K, h1, f1, HKC.out⟩
      · cases hfit : fitsB a t.size
        · have HQ : Hid (s.count.wr f a t.data.toList = (s.count, 6)) := show _ = _ by
            unfold St.wr
            simp [fitsB] at hfit
            rw [if_neg (by rw [HR.out]; simp), if_neg h0, if_pos (by rw [hsz]; omega)]
          have HFIT := Lib.hid hfit
          clear hfit hsz
          go_enter Try.func58, Try.ntmps58
          go_wp2_with fail
          refine (rcomes_any f a t hL h hi hK ha ht).mono ?_
          rintro e w1 ⟨rfl, l1, L1, h1, f1⟩
          rw [HC.out] at h1
          go_wp2_with fail
          refine (rmay_any f h1).mono ?_
          rintro e w2 ⟨rfl, rfl⟩
          rw [HR.out]
          go_wp2_with fail
          refine (rfits_any _ a t ha ht).mono ?_
          rintro e w2 ⟨rfl, rfl⟩
          rw [HFIT.out]
          go_wp2_with fail
          go_ret
          rw [HW.out, HQ.out]
          exact ⟨rfl, l1, L1, K, h1, f1, HKC.out⟩
        · have HQ : Hid ((s.count.wr f a t.data.toList).2 = 0) := show _ = _ by
            unfold St.wr
            simp [fitsB] at hfit
            rw [if_neg (by rw [HR.out]; simp), if_neg h0, if_neg (by rw [hsz]; omega)]
            split <;> rfl
          have HFIT := Lib.hid hfit
          clear hfit hsz
          go_enter Try.func58, Try.ntmps58
          go_wp2_with fail
          refine (rcomes_any f a t hL h hi hK ha ht).mono ?_
          rintro e w1 ⟨rfl, l1, L1, h1, f1⟩
          rw [HC.out] at h1
          go_wp2_with fail
          refine (rmay_any f h1).mono ?_
          rintro e w2 ⟨rfl, rfl⟩
          rw [HR.out]
          go_wp2_with fail
          refine (rfits_any _ a t ha ht).mono ?_
          rintro e w2 ⟨rfl, rfl⟩
          rw [HFIT.out]
          go_wp2_with fail
          refine (radd_wr f a t f1.fresh h1 hi.count HR.out HFIT.out).mono ?_
          rintro e w2 ⟨rfl, l2, L2, h2, fr2⟩
          go_wp2_with fail
          go_ret
          rw [HW.out]
          refine ⟨by rw [HQ.out]; rfl, l2, L2, K, h2, f1.trans fr2, HKC.out.wr _ _ _⟩
    · have HQ : Hid (s.count.wr f a t.data.toList = (s.count, s.count.ready f)) := show _ = _ by unfold St.wr; rw [if_pos hr]
      have hb : ((s.count.ready f : Int) == 0) = false := beq_eq_false_iff_ne.2 hr
      have hb' : ((s.count.ready f : Int) != 0) = true := bne_iff_ne.2 hr
      clear hr hsz
      go_enter Try.func58, Try.ntmps58
      go_wp2_with fail
      refine (rcomes_any f a t hL h hi hK ha ht).mono ?_
      rintro e w1 ⟨rfl, l1, L1, h1, f1⟩
      rw [HC.out] at h1
      go_wp2_with fail
      refine (rmay_any f h1).mono ?_
      rintro e w2 ⟨rfl, rfl⟩
      go_wp2_with fail
      go_ret
      rw [HW.out, HQ.out]
      exact ⟨rfl, l1, L1, K, h1, f1, HKC.out⟩
  · have HW : Hid (s.write f a t.data.toList = (s.comes f a t.data.toList, 8)) := show _ = _ by
      unfold St.write St.comes
      rw [hh, if_pos rfl, if_pos rfl, wr_keep, (count_rest s).2.2.2.2.2.2]
    have HR : Hid ((s.comes f a t.data.toList).ready f = 8) := show _ = _ from comes_hit hh _ _ _ _
    have HKC := Lib.hid hKc
    clear hh hKc hsz
    go_enter Try.func58, Try.ntmps58
    go_wp2_with fail
    refine (rcomes_any f a t hL h hi hK ha ht).mono ?_
    rintro e w1 ⟨rfl, l1, L1, h1, f1⟩
    go_wp2_with fail
    refine (rmay_any f h1).mono ?_
    rintro e w2 ⟨rfl, rfl⟩
    rw [HR.out]
    go_wp2_with fail
    go_ret
    rw [HW.out]
    exact ⟨rfl, l1, L1, K, h1, f1, HKC.out⟩

set_option maxRecDepth 100000 in
set_option maxHeartbeats 1000000 in
theorem rSync_any {L : Lab} {w : World} {k d : Nat} {l : List Fl} {K : List Int} {s : St} (f : Int) (hL : Fresh L w) (h : RAt L w k d l K s) (hi : Inv s) (hK : KI K s) :
    Calls Try.prog 56 #[.pointer (some ⟨d, 0, none⟩), .int .i64 f] w (RPost L w k d (s.sync f)) := by
  have hKc := hK.comes 0 0 []
  have hcm := (rcomes_any 0 0 ByteArray.empty hL h hi hK (by unfold isI64; omega) (by decide))
  have hem : (ByteArray.empty).data.toList = [] := rfl
  rw [hem] at hcm
  have HCM := Lib.hid hcm
  have hfld := field1
  have hlost := hi.lost
  clear hcm hem
  cases hh : s.hit
  · rw [comes_not hh] at hKc
    have HC : Hid (s.comes 0 0 [] = s.count) := show _ = _ from comes_not hh _ _ _
    have HKC := Lib.hid hKc
    have hls : s.count.lost = s.lost := (count_rest s).2.2.2.2.2.1
    by_cases hr : s.count.ready f = 0
    · by_cases h0 : s.lost > 0
      · have HW : Hid (s.sync f = ({ s.count with lost := s.lost - 1 }, 9)) := show _ = _ by unfold St.sync; rw [hh, if_neg (by simp), if_neg (by simp [hr]), if_pos h0]
        have HR := Lib.hid hr
        have HLS := Lib.hid hls
        clear hr hh hKc hls
        go_enter Try.func56, Try.ntmps56
        go_wp2_with fail
        refine HCM.out.mono ?_
        rintro e w1 ⟨rfl, l1, L1, h1, f1⟩
        rw [HC.out] at h1
        go_wp2_with fail
        refine (rmay_any f h1).mono ?_
        rintro e w2 ⟨rfl, rfl⟩
        rw [HR.out]
        obtain ⟨fv, qv, kv, hd, hb, hbody⟩ := h1
        have c2 := blk_cell hb 2
        have f2 := blk_free hb 2
        simp [rcells] at c2
        rw [HLS.out] at c2
        have e1 : (rcells fv qv kv s.count).setIfInBounds 2 (.int .i64 (s.lost - 1)) = rcells fv qv kv { s.count with lost := s.lost - 1 } := rfl
        have r1 : RAt L1 (w1.setCell ⟨d, 2, none⟩ (.int .i64 (s.lost - 1))) k d l1 K { s.count with lost := s.lost - 1 } := RAt.setD f1.fresh hd hb 2 _ e1 ⟨hbody.1, hbody.2.1, hbody.2.2.1, hbody.2.2.2⟩
        have fr1 := Fr.setD f1.fresh hd 2 (.int .i64 (s.lost - 1))
        have HF := Lib.hid (And.intro r1 (f1.trans (fr1.mono md_ma)))
        clear hb hbody hd e1 r1 fr1
        go_wp2_with fail
        go_ret
        rw [HW.out]
        exact ⟨rfl, l1, L1, K, HF.out.1, HF.out.2, HKC.out.same rfl rfl⟩
      · have HW : Hid (s.sync f = (s.count.synced f, 0)) := show _ = _ by unfold St.sync; rw [hh, if_neg (by simp), if_neg (by simp [hr]), if_neg h0]
        have HF := Lib.hid (ready_zero hr).2
        have HR := Lib.hid hr
        have HLS := Lib.hid hls
        clear hr hh hKc hls
        go_enter Try.func56, Try.ntmps56
        go_wp2_with fail
        refine HCM.out.mono ?_
        rintro e w1 ⟨rfl, l1, L1, h1, f1⟩
        rw [HC.out] at h1
        go_wp2_with fail
        refine (rmay_any f h1).mono ?_
        rintro e w2 ⟨rfl, rfl⟩
        rw [HR.out]
        have h1' := h1
        obtain ⟨fv, qv, kv, hd, hb, hbody⟩ := h1
        have c2 := blk_cell hb 2
        simp [rcells] at c2
        rw [HLS.out] at c2
        have hrd := (hbody.2.2.2 f).1
        have HRD := Lib.hid hrd
        clear hb hbody hd hrd
        go_wp2_with fail
        refine (rget_any f h1').mono ?_
        rintro e w2 ⟨rfl, hb2⟩
        unfold fval
        rw [HRD.out]
        have h2 := h1'.below f1.fresh hb2
        have f2 : Fr (MA k) L1 w1 L1 w2 := Fr.below f1.fresh hb2
        go_wp2_with fail
        refine (rsettle_any f (s.count.now f) f2.fresh h2 HF.out (by have := hi.count.few; omega)).mono ?_
        rintro e w3 ⟨rfl, l3, L3, h3, f3⟩
        go_wp2_with fail
        go_ret
        rw [HW.out]
        refine ⟨rfl, l3, L3, K, ?_, (f1.trans f2).trans (f3.mono md_ma), HKC.out.same rfl rfl⟩
        rw [upd_self] at h3
        exact h3
    · have HW : Hid (s.sync f = (s.count, s.count.ready f)) := show _ = _ by unfold St.sync; rw [hh, if_neg (by simp), if_pos hr]
      have hb : ((s.count.ready f : Int) == 0) = false := beq_eq_false_iff_ne.2 hr
      have hb' : ((s.count.ready f : Int) != 0) = true := bne_iff_ne.2 hr
      clear hr hh hKc hls
      go_enter Try.func56, Try.ntmps56
      go_wp2_with fail
      refine HCM.out.mono ?_
      rintro e w1 ⟨rfl, l1, L1, h1, f1⟩
      rw [HC.out] at h1
      go_wp2_with fail
      refine (rmay_any f h1).mono ?_
      rintro e w2 ⟨rfl, rfl⟩
      go_wp2_with fail
      go_ret
      rw [HW.out]
      exact ⟨rfl, l1, L1, K, h1, f1, HKC.out⟩
  · have HW : Hid (s.sync f = (s.comes 0 0 [], 8)) := show _ = _ by
      unfold St.sync
      rw [hh, if_pos rfl, comes_nil, hh, if_pos rfl]
    have HR : Hid ((s.comes 0 0 []).ready f = 8) := show _ = _ from comes_hit hh _ _ _ _
    have HKC := Lib.hid hKc
    clear hh hKc
    go_enter Try.func56, Try.ntmps56
    go_wp2_with fail
    refine HCM.out.mono ?_
    rintro e w1 ⟨rfl, l1, L1, h1, f1⟩
    go_wp2_with fail
    refine (rmay_any f h1).mono ?_
    rintro e w2 ⟨rfl, rfl⟩
    rw [HR.out]
    go_wp2_with fail
    go_ret
    rw [HW.out]
    exact ⟨rfl, l1, L1, K, h1, f1, HKC.out⟩

end Go.Proofs.Ytgocnjiabfmdpaa
