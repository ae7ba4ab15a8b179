/- Walks of Write, Sync and Arm. -/
import Derived.Test.YtgocnjiabfmdpaaDWl
namespace Go.Proofs.Ytgocnjiabfmdpaa
set_option maxRecDepth 8000
open Go.RowKit

theorem count_rest (s : St) : s.count.now = s.now ∧ s.count.dur = s.dur ∧ s.count.sec = s.sec ∧ s.count.pend = s.pend ∧ s.count.down = s.down ∧ s.count.lost = s.lost ∧ s.count.keep = s.keep := by
  unfold St.count
  split <;> exact ⟨rfl, rfl, rfl, rfl, rfl, rfl, rfl⟩

theorem wr_keep (s : St) (f a : Int) (t : List UInt8) : (s.wr f a t).1.keep = s.keep := by
  unfold St.wr
  split
  · rfl
  split
  · rfl
  split
  · rfl
  split
  · rfl
  · exact (addSecs_rest _ _ _ _).2.2.2.2.2

theorem md_ma {k : Nat} : ∀ t, MD k t → MA k t := fun t ht => by rw [ht]; rfl

set_option maxHeartbeats 400000 in
theorem Write_any {L : Lab} {w : World} {k d : Nat} {s : St} (f a : Int) (t : ByteArray) (hL : Fresh L w) (h : DAt L w k d s) (hi : Inv s) (hf : isI64 f) (ha : isI64 a) (ht : t.size ≤ 1000000) :
    Calls Try.prog 46 #[.pointer (some ⟨d, 0, none⟩), .int .i64 f, .int .i64 a, .string t] w (CallPost L w k d (s.write f a t.data.toList)) := by
  cases hh : s.hit
  · have HW : Hid (s.write f a t.data.toList = s.count.wr f a t.data.toList) := show _ = _ by unfold St.write; rw [hh, if_neg (by simp)]
    have HH := Lib.hid hh
    clear hh
    go_enter Try.func46, Try.ntmps46
    go_wp2_with fail
    refine (strikes_any hL h hi.armed).mono ?_
    rintro e w1 ⟨rfl, h1, f1⟩
    rw [HH.out]
    go_wp2_with fail
    refine (write_any f a t f1.fresh h1 hi.count hf ha ht).mono ?_
    rintro e w2 ⟨rfl, L2, h2, f2⟩
    go_wp2_with fail
    go_ret
    rw [HW.out]
    exact ⟨rfl, L2, h2, (f1.mono md_ma).trans f2⟩
  · have HW : Hid (s.write f a t.data.toList = (((s.count.wr f a t.data.toList).1).crash ((s.count.wr f a t.data.toList).1).keep, 8)) := show _ = _ by unfold St.write; rw [hh, if_pos rfl]
    have HH := Lib.hid hh
    clear hh
    go_enter Try.func46, Try.ntmps46
    go_wp2_with fail
    refine (strikes_any hL h hi.armed).mono ?_
    rintro e w1 ⟨rfl, h1, f1⟩
    rw [HH.out]
    go_wp2_with fail
    refine (write_any f a t f1.fresh h1 hi.count hf ha ht).mono ?_
    rintro e w2 ⟨rfl, L2, h2, f2⟩
    go_wp2_with fail
    refine (fall_any f2.fresh h2 (hi.count.wr f a _)).mono ?_
    rintro e w3 ⟨rfl, L3, h3, f3⟩
    go_wp2_with fail
    go_ret
    rw [HW.out]
    exact ⟨rfl, L3, h3, ((f1.mono md_ma).trans f2).trans f3⟩

theorem setls_eq (s : St) (l : List (Int × Int)) : s.setls l = { s with dur := (s.setls l).dur } := by
  obtain ⟨a1, a2, a3, a4, a5, a6, a7⟩ := setls_rest s l
  cases hs : s.setls l
  rw [hs] at a1 a2 a3 a4 a5 a6 a7
  simp only at a1 a2 a3 a4 a5 a6 a7
  subst a1 a2 a3 a4 a5 a6 a7
  rfl

theorem sync_forget {s : St} (h : Inv s) (f : Int) : (s.setls (s.pend.filter (fun p => p.1 == f))).forget f = s.synced f := by
  have h1 := sync_dur h f
  have h2 : (s.setls (s.pend.filter (fun p => p.1 == f))).dur = upd s.dur f (s.now f) := h1
  rw [setls_eq, h2]
  rfl

set_option maxRecDepth 100000 in
set_option maxHeartbeats 1000000 in
theorem Sync_go {L : Lab} {w : World} {k d : Nat} {s : St} (f : Int) (hL : Fresh L w) (h : DAt L w k d s) (hi : Inv s) (hh : s.hit = false) (hr : s.count.ready f = 0) (hl : s.lost = 0) :
    Calls Try.prog 20 #[.pointer (some ⟨d, 0, none⟩), .int .i64 f] w (CallPost L w k d (s.count.synced f, 0)) := by
  have hf := (ready_zero hr).2
  have hif := isFile_iff.1 hf
  have hi64 : isI64 f := by unfold isI64; omega
  have hlc : s.count.lost = 0 := by rw [(count_rest s).2.2.2.2.2.1]; exact hl
  have HH := Lib.hid (And.intro hh hr)
  have hic := hi.count
  have hia := hi.armed
  obtain ⟨sc, hsc⟩ : ∃ sc, sc = s.count := ⟨_, rfl⟩
  rw [← hsc] at hic hlc ⊢
  have HSC := Lib.hid hsc
  clear hh hr hl hsc
  go_enter Try.func20, Try.ntmps20
  go_wp2_with fail
  refine (strikes_any hL h hia).mono ?_
  rintro e w1 ⟨rfl, h1, f1⟩
  rw [HH.out.1]
  rw [← HSC.out] at h1
  go_wp2_with fail
  refine (ready_any f hi64 h1).mono ?_
  rintro e w2 ⟨rfl, rfl⟩
  rw [HSC.out, HH.out.2]
  have h1' := h1
  obtain ⟨mb, pv, kv, fb, hdl, hb, hbody⟩ := h1
  have c1 := blk_cell hb 1
  have c3 := blk_cell hb 3
  simp [dcells] at c1 c3
  rw [hlc] at c3
  have hown := hbody.2.2.1
  obtain ⟨A, n, c, rfl⟩ := own_slice hown.1
  have hn : n = sc.pend.length := by
    rcases own_form hown.1 with ⟨e, e2⟩ | ⟨g, c', e, _⟩
    · injection e with _ e; omega
    · injection e
  subst hn
  have hfew := hic.few
  have HLC := Lib.hid hlc
  clear hlc
  go_wp2_with fail
  go_loopw [35] (fun i wr => ∃ (j : Nat) (L1 : Lab), j ≤ sc.pend.length ∧ i = .int .i64 j ∧ DAt L1 wr k d (sc.setls ((sc.pend.take j).filter (fun p => p.1 == f))) ∧ Fr (MQ k) L w1 L1 wr) (fun i _ => sc.pend.length - (intOf i).toNat)
  case atStart => exact ⟨0, L, Nat.zero_le _, rfl, by simpa [St.setls] using h1', Fr.refl f1.fresh⟩
  case round =>
    obtain ⟨j, L1, hj, rfl, hdr, hfr⟩ := hrel
    by_cases hlt : j < sc.pend.length
    · obtain ⟨g, c', he, _, _⟩ := own_some hown.1 (by omega)
      injection he with he1 _ he2
      subst he1; subst he2
      have hsl := hown.keep f1.fresh hfr (by rintro ⟨i, hh | hh⟩ <;> injection hh with _ hh <;> cases hh)
      obtain ⟨q1, q2⟩ := pc_cells hsl.1 j hlt rfl
      obtain ⟨p, hp⟩ : ∃ p, sc.pend[j] = p := ⟨_, rfl⟩
      rw [hp] at q1 q2
      have HP : Hid (sc.pend[j]? = some p) := show _ = _ by rw [List.getElem?_eq_getElem hlt, hp]
      have htk : (sc.pend.take (j + 1)).filter (fun p => p.1 == f) = (sc.pend.take j).filter (fun p => p.1 == f) ++ (if (p.1 == f) = true then [p] else []) := by
        rw [List.take_succ_eq_append_getElem hlt, hp, List.filter_append]
        congr 1
        by_cases hh : (p.1 == f) = true <;> simp [hh]
      have HTK := Lib.hid htk
      clear hp htk
      cases hpf : (p.1 == f)
      · have HF := Lib.hid hpf
        go_wp2_with fail
        go_roundw
        case rel =>
          refine ⟨j + 1, L1, by omega, by go_num, ?_, hfr.alloc _⟩
          rw [HTK.out, HF.out, if_neg (by simp), List.append_nil]
          exact hdr.alloc hfr.fresh _
        case measure => simp [intOf]; omega
      · have HF := Lib.hid hpf
        have hmem : ∀ q ∈ (sc.pend.take j).filter (fun p => p.1 == f), sc.sec q.1 q.2 = true := fun q hq => hic.pending q (List.mem_of_mem_take (List.mem_filter.1 hq).1)
        have hps : (sc.setls ((sc.pend.take j).filter (fun p => p.1 == f))).sec p.1 p.2 = true := by
          rw [(setls_rest sc _).2.1]
          exact hic.pending p (List.mem_of_getElem? HP.out)
        have HI := Lib.hid (And.intro hmem hps)
        clear hmem hps
        go_wp2_with fail
        refine (settle_any p.1 p.2 ((hfr.alloc _).fresh) (hdr.alloc hfr.fresh _) (hic.setls HI.out.1) HI.out.2).mono ?_
        rintro e w2 ⟨rfl, L2, hd2, hf2⟩
        go_wp2_with fail
        go_roundw
        case rel =>
          refine ⟨j + 1, L2, by omega, by go_num, ?_, (hfr.alloc _).trans (hf2.mono (fun t ht => ⟨p.1, by rcases ht with ht | ht <;> simp [ht]⟩))⟩
          rw [HTK.out, HF.out, if_pos rfl, St.setls_snoc]
          exact hd2
        case measure => simp [intOf]; omega
    · have hje : j = sc.pend.length := by omega
      subst hje
      rw [List.take_length] at hdr
      have hp2 : (sc.setls (sc.pend.filter (fun p => p.1 == f))).pend.length ≤ 4194304 := by rw [(setls_rest sc _).2.2.1]; exact hfew
      go_wp2_with fail
      refine (forget_any f hfr.fresh hdr hp2 hf).mono ?_
      rintro e w3 ⟨rfl, L3, h3, f3⟩
      go_wp2_with fail
      go_ret
      rw [sync_forget hic] at h3
      exact ⟨rfl, L3, h3, ((f1.mono md_ma).trans (hfr.mono (fun t ht => by obtain ⟨i, ht | ht⟩ := ht <;> rw [ht] <;> rfl))).trans (f3.mono (fun t ht => by rcases ht with ht | ht | ht | ht <;> rw [ht] <;> rfl))⟩

end Go.Proofs.Ytgocnjiabfmdpaa
