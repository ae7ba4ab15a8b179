/- Walks of Sync, Truncate and Arm, whatever their arguments. -/
import Derived.Test.YtgocnjiabfmdpaaDWm
namespace Go.Proofs.Ytgocnjiabfmdpaa
set_option maxRecDepth 8000
open Go.RowKit

set_option maxHeartbeats 400000 in
theorem Sync_any {L : Lab} {w : World} {k d : Nat} {s : St} (f : Int) (hL : Fresh L w) (h : DAt L w k d s) (hi : Inv s) (hf : isI64 f) :
    Calls Try.prog 20 #[.pointer (some ⟨d, 0, none⟩), .int .i64 f] w (CallPost L w k d (s.sync f)) := by
  unfold St.sync
  cases hh : s.hit
  · rw [if_neg (by simp)]
    by_cases hr : s.count.ready f = 0
    · rw [if_neg (fun e => e hr)]
      by_cases hl : s.lost > 0
      · rw [if_pos hl]
        have HH := Lib.hid (And.intro hh hr)
        have hlc : s.count.lost = s.lost := (count_rest s).2.2.2.2.2.1
        have hil := hi.lost
        have hia := hi.armed
        clear hh hr
        go_enter Try.func20, Try.ntmps20
        go_wp2_with fail
        refine (strikes_any hL h hia).mono ?_
        rintro e w1 ⟨rfl, h1, f1⟩
        rw [HH.out.1]
        go_wp2_with fail
        refine (ready_any f hf h1).mono ?_
        rintro e w2 ⟨rfl, rfl⟩
        rw [HH.out.2]
        obtain ⟨mb, pv, kv, fb, hdl, hb, hbody⟩ := h1
        have c3 := blk_cell hb 3
        have f3 := blk_free hb 3
        simp [dcells] at c3
        rw [hlc] at c3
        have HB := Lib.hid hb
        clear hb hlc
        go_wp2_with fail
        go_ret
        exact ⟨rfl, L, DAt.setD f1.fresh hdl HB.out 3 (.int .i64 (s.lost - 1)) rfl hbody, (f1.trans (Fr.setD f1.fresh hdl 3 _)).mono md_ma⟩
      · rw [if_neg hl]
        exact Sync_go f hL h hi hh hr (by have := hi.lost; omega)
    · rw [if_pos hr]
      have HH := Lib.hid hh
      have hb : ((s.count.ready f : Int) == 0) = false := beq_eq_false_iff_ne.2 hr
      have hb' : ((s.count.ready f : Int) != 0) = true := bne_iff_ne.2 hr
      have hia := hi.armed
      clear hr hh
      go_enter Try.func20, Try.ntmps20
      go_wp2_with fail
      refine (strikes_any hL h hia).mono ?_
      rintro e w1 ⟨rfl, h1, f1⟩
      rw [HH.out]
      go_wp2_with fail
      refine (ready_any f hf h1).mono ?_
      rintro e w2 ⟨rfl, rfl⟩
      go_wp2_with fail
      go_ret
      exact ⟨rfl, L, h1, f1.mono md_ma⟩
  · rw [if_pos rfl]
    have HH := Lib.hid hh
    have hk : s.count.keep = s.keep := (count_rest s).2.2.2.2.2.2
    have HK := Lib.hid hk
    have hia := hi.armed
    have hic := hi.count
    clear hh hk
    go_enter Try.func20, Try.ntmps20
    go_wp2_with fail
    refine (strikes_any hL h hia).mono ?_
    rintro e w1 ⟨rfl, h1, f1⟩
    rw [HH.out]
    go_wp2_with fail
    refine (fall_any f1.fresh h1 hic).mono ?_
    rintro e w2 ⟨rfl, L2, h2, f2⟩
    go_wp2_with fail
    go_ret
    rw [HK.out] at h2
    exact ⟨rfl, L2, h2, (f1.mono md_ma).trans f2⟩

theorem own_take {w : World} {e : TypeId} {g n c m : Nat} {xs : List Value} (h : w.ownsRow 0 e 1 (.slice (some ⟨g, 0, none⟩) n c) n xs) (hm : m ≤ n) : w.ownsRow 0 e 1 (.slice (some ⟨g, 0, none⟩) m c) m (xs.take m) := by
  rcases h.2 with ⟨hv, _⟩ | ⟨g', cap', cur, hv, hbg, hg, hnc, hcm, hcs, htake⟩
  · cases hv
  · injection hv with hv1 hv2 hv3
    injection hv1 with hv1
    injection hv1 with hv1
    subst hv1; subst hv3
    refine ⟨by rw [List.length_take, h.1]; omega, .inr ⟨g, c, cur, rfl, hbg, hg, by omega, hcm, hcs, ?_⟩⟩
    rw [← htake, List.take_take]
    congr 1; omega

/-- A file is cut: its struct has the shorter slice, and a copy of it as the durable part. -/
theorem cut_file {L : Lab} {w w2 : World} {k mb sb : Nat} {pv kv n' d' nv dv : Value} {fb : Int → Nat} {s s' : St} {f : Int} {r : List UInt8} (hL : Fresh L w) (hbody : DBody L w k mb pv kv fb s) (a1 : L (fb f) = some (k, .file f)) (a2 : w.heap[fb f]? = some (.cells #[nv, dv, .map (some sb)] 82 (0, 0)))
    (a3 : L sb = some (k, .sect f)) (a4 : IMap w sb (secF (s.sec f))) (hn : Sl L w 5 1 n' r.length (bc r) (k, .now f)) (hb : Below (w.setCell ⟨fb f, 0, none⟩ n').heap.size (w.setCell ⟨fb f, 0, none⟩ n') w2)
    (hown : w2.ownsRow 0 5 1 d' r.length (bc r)) (hnew : ∀ g, d'.ownBlock = some g → (w.setCell ⟨fb f, 0, none⟩ n').heap.size ≤ g)
    (hs : ∀ i, i ≠ f → s'.now i = s.now i ∧ s'.dur i = s.dur i ∧ s'.sec i = s.sec i) (hp : s'.pend = s.pend) (hk : s'.keep = s.keep) (e1 : s'.now f = r) (e2 : s'.dur f = r) (e3 : s'.sec f = s.sec f) :
    ∃ L', DBody L' (w2.setCell ⟨fb f, 1, none⟩ d') k mb pv kv fb s' ∧ Fr (MF k f) L w L' (w2.setCell ⟨fb f, 1, none⟩ d') := by
  let M : Nat × Role → Prop := fun t => t = (k, Role.file f)
  have g1 : Fr M L w L (w.setCell ⟨fb f, 0, none⟩ n') := (Fr.refl (M := M) hL).setCell (Or.inr ⟨_, a1, rfl⟩) _
  obtain ⟨L1, f1, hsl⟩ := new_label (M := M) (k, .dur f) g1.fresh hown hb hnew
  have g2 := g1.trans f1
  have b1 := g2.lab_of hL a1
  have g3 : Fr M L1 w2 L1 (w2.setCell ⟨fb f, 1, none⟩ d') := (Fr.refl (M := M) g2.fresh).setCell (Or.inr ⟨_, b1, rfl⟩) _
  have g4 := g2.trans g3
  have q1 := blk_set a2 0 n'
  have q2 := (hb.block _ (blk_lt q1)).trans q1
  have q3 := blk_set q2 1 d'
  simp at q3
  have hm : ∀ r, r ≠ Role.file f → ¬ M (k, r) := fun r h1 h2 => h1 (by injection h2)
  refine ⟨L1, hbody.file hL (g4.mono (fun t ht => Or.inl ht : ∀ t, M t → MF k f t)) hs hp hk ?_, g4.mono (fun t ht => Or.inl ht)⟩
  rw [e1, e2, e3]
  exact ⟨n', d', sb, g4.lab_of hL a1, q3, g4.lab_of hL a3, a4.keep a3 hL g4 (hm _ (by simp)), hn.keep hL g4 (hm _ (by simp)), hsl.keep g2.fresh g3 (hm _ (by simp))⟩

set_option maxRecDepth 100000 in
set_option maxHeartbeats 1000000 in
theorem Trunc_go {L : Lab} {w : World} {k d : Nat} {s : St} (f : Int) (m : Nat) (hL : Fresh L w) (h : DAt L w k d s) (hi : Inv s) (hh : s.hit = false) (hr : s.count.ready f = 0) (hm : m ≤ (s.now f).length) :
    Calls Try.prog 55 #[.pointer (some ⟨d, 0, none⟩), .int .i64 f, .int .i64 m] w (CallPost L w k d (s.count.cut f m, 0)) := by
  have hf := (ready_zero hr).2
  have hif := isFile_iff.1 hf
  have hi64 : isI64 f := by unfold isI64; omega
  rw [← (count_rest s).1] at hm
  have HH := Lib.hid (And.intro hh hr)
  have hic := hi.count
  have hia := hi.armed
  obtain ⟨sc, hsc⟩ : ∃ sc, sc = s.count := ⟨_, rfl⟩
  rw [← hsc] at hic hm ⊢
  have HSC := Lib.hid hsc
  clear hh hr hsc
  go_enter Try.func55, Try.ntmps55
  go_wp2_with fail
  refine (strikes_any hL h hia).mono ?_
  rintro e w1 ⟨rfl, h1, f1⟩
  rw [HH.out.1]
  rw [← HSC.out] at h1
  go_wp2_with fail
  refine (ready_any f hi64 h1).mono ?_
  rintro e w2 ⟨rfl, rfl⟩
  rw [HSC.out, HH.out.2]
  obtain ⟨mb, pv, kv, fb, hdl, hb, hbody⟩ := h1
  have c0 := blk_cell hb 0
  simp [dcells] at c0
  have hmap := hbody.2.1
  obtain ⟨nv, dv, sb, a1, a2, a3, a4, a5, a6⟩ := hbody.2.2.2.2 f hf
  have n0 := blk_cell a2 0
  have nf := blk_free a2 0
  simp at n0
  have hcap := hic.cap f
  have hfew := hic.few
  have HB := Lib.hid hb
  clear hb
  obtain ⟨nv', hown, hv', hsl⟩ : ∃ nv', w1.ownsRow 0 5 1 nv' m (bc ((sc.now f).take m)) ∧ (∃ A c, nv = .slice A (sc.now f).length c ∧ nv' = .slice A m c ∧ m ≤ c) ∧ Sl L w1 5 1 nv' ((sc.now f).take m).length (bc ((sc.now f).take m)) (k, .now f) := by
    have hl : ((sc.now f).take m).length = m := by rw [List.length_take]; omega
    rcases own_form a5.1 with ⟨rfl, h0⟩ | ⟨g, c, rfl, hc, _⟩
    · have hm0 : m = 0 := by omega
      subst hm0
      exact ⟨.slice none 0 0, World.ownsRow_nil _ _ _ _, ⟨none, 0, by rw [h0], rfl, Nat.le_refl _⟩, by simpa [bc] using Sl.nil L w1 5 1 (k, .now f)⟩
    · have ho := own_take a5.1 hm
      have hbt : (bc (sc.now f)).take m = bc ((sc.now f).take m) := by unfold bc; rw [List.map_take]
      rw [hbt] at ho
      exact ⟨_, ho, ⟨_, c, rfl, rfl, by omega⟩, by rw [hl]; exact ⟨ho, a5.2⟩⟩
  obtain ⟨A, c, rfl, rfl, hmc⟩ := hv'
  have hm1 : (m : Int) ≤ ((sc.now f).length : Int) := by omega
  have hm2 : (m : Int) ≤ (c : Int) := by omega
  go_wp2_with (at_lookup; refine wpList_look _ rfl _ _ 75 false rfl 3 79 Try.underlying3 Try.underlying75 (zero56 _) mb _ rfl hmap f rfl hi64 _ (filesF_in hf false) ?_; rw [if_neg (by simp)])
  have hnb : ∀ g, (Value.slice A m c).ownBlock = some g → g ≠ fb f := fun g hg e => by
    have := hsl.2 g hg
    rw [e, a1] at this; cases this
  have hlen : ((sc.now f).take m).length = m := by rw [List.length_take]; omega
  have hown' := ownsRow_of_blocks (w1 := w1.setCell ⟨fb f, 0, none⟩ (.slice A m c)) hown (fun g hg => Below.heap_setCell _ _ _ _ (hnb g hg))
  refine (clone49 (Rd.of_own hown') (bc_oneCell _) (by omega)).mono ?_
  rintro e w2 ⟨d', rfl, hown2, hb2, hnew2⟩
  have q1 := blk_set a2 0 (.slice A m c)
  have q2 := (hb2.block _ (blk_lt q1)).trans q1
  have c1 := blk_cell q2 1
  have cf := blk_free q2 1
  simp at c1
  obtain ⟨L2, hbd, hf2⟩ := cut_file (s' := { sc with now := upd sc.now f ((sc.now f).take m), dur := upd sc.dur f ((sc.now f).take m) }) f1.fresh hbody a1 a2 a3 a4 hsl hb2 (by rw [hlen]; exact hown2) hnew2 (fun i hi => ⟨upd_ne _ _ hi, upd_ne _ _ hi, rfl⟩) rfl rfl (upd_same _ _ _) (upd_same _ _ _) rfl
  have hda := DAt.head (s' := { sc with now := upd sc.now f ((sc.now f).take m), dur := upd sc.dur f ((sc.now f).take m) }) f1.fresh hdl HB.out hf2 mf_disk rfl hbd
  obtain ⟨A2, m2, c2, rfl⟩ := own_slice hown2
  clear hown2 hlen
  go_wp2_with fail
  refine (forget_any f hf2.fresh hda hfew hf).mono ?_
  rintro e w3 ⟨rfl, L3, h3, f3⟩
  go_wp2_with fail
  go_ret
  exact ⟨rfl, L3, h3, ((f1.mono md_ma).trans (hf2.mono (fun t ht => MF.own ht))).trans (f3.mono (fun t ht => by rcases ht with ht | ht | ht | ht <;> rw [ht] <;> rfl))⟩

set_option maxHeartbeats 400000 in
theorem Trunc_any {L : Lab} {w : World} {k d : Nat} {s : St} (f n : Int) (hL : Fresh L w) (h : DAt L w k d s) (hi : Inv s) (hf : isI64 f) :
    Calls Try.prog 55 #[.pointer (some ⟨d, 0, none⟩), .int .i64 f, .int .i64 n] w (CallPost L w k d (s.trunc f n)) := by
  unfold St.trunc
  cases hh : s.hit
  · rw [if_neg (by simp)]
    by_cases hr : s.count.ready f = 0
    · rw [if_neg (fun e => e hr)]
      by_cases hn : n < 0 ∨ n > (s.now f).length
      · rw [if_pos hn]
        have HH := Lib.hid (And.intro hh hr)
        have hif := (ready_zero hr).2
        have hia := hi.armed
        rw [← (count_rest s).1] at hn
        clear hh hr
        by_cases h0 : n < 0
        · clear hn
          go_enter Try.func55, Try.ntmps55
          go_wp2_with fail
          refine (strikes_any hL h hia).mono ?_
          rintro e w1 ⟨rfl, h1, f1⟩
          rw [HH.out.1]
          go_wp2_with fail
          refine (ready_any f hf h1).mono ?_
          rintro e w2 ⟨rfl, rfl⟩
          rw [HH.out.2]
          have h1' := h1
          obtain ⟨mb, pv, kv, fb, hdl, hb, hbody⟩ := h1
          have c0 := blk_cell hb 0
          simp [dcells] at c0
          have hmap := hbody.2.1
          clear hb
          go_wp2_with (at_lookup; refine wpList_look _ rfl _ _ 75 false rfl 3 79 Try.underlying3 Try.underlying75 (zero56 _) mb _ rfl hmap f rfl hf _ (filesF_in hif false) ?_; rw [if_neg (by simp)])
          go_ret
          exact ⟨rfl, L, h1', f1.mono md_ma⟩
        · have hgt : ((s.count.now f).length : Int) < n := by omega
          clear hn
          go_enter Try.func55, Try.ntmps55
          go_wp2_with fail
          refine (strikes_any hL h hia).mono ?_
          rintro e w1 ⟨rfl, h1, f1⟩
          rw [HH.out.1]
          go_wp2_with fail
          refine (ready_any f hf h1).mono ?_
          rintro e w2 ⟨rfl, rfl⟩
          rw [HH.out.2]
          have h1' := h1
          obtain ⟨mb, pv, kv, fb, hdl, hb, hbody⟩ := h1
          have c0 := blk_cell hb 0
          simp [dcells] at c0
          have hmap := hbody.2.1
          obtain ⟨nv, dv, sb, a1, a2, a3, a4, a5, a6⟩ := hbody.2.2.2.2 f hif
          have n0 := blk_cell a2 0
          simp at n0
          clear hb
          rcases own_form a5.1 with ⟨rfl, hz⟩ | ⟨g, c, rfl, hc, _⟩
          · have hgt2 : (0 : Int) < n := by omega
            have HZ := Lib.hid hz
            clear hz
            go_wp2_with (at_lookup; refine wpList_look _ rfl _ _ 75 false rfl 3 79 Try.underlying3 Try.underlying75 (zero56 _) mb _ rfl hmap f rfl hf _ (filesF_in hif false) ?_; rw [if_neg (by simp)])
            go_ret
            exact ⟨rfl, L, h1', f1.mono md_ma⟩
          · go_wp2_with (at_lookup; refine wpList_look _ rfl _ _ 75 false rfl 3 79 Try.underlying3 Try.underlying75 (zero56 _) mb _ rfl hmap f rfl hf _ (filesF_in hif false) ?_; rw [if_neg (by simp)])
            go_ret
            exact ⟨rfl, L, h1', f1.mono md_ma⟩
      · rw [if_neg hn]
        obtain ⟨m, rfl⟩ := Int.eq_ofNat_of_zero_le (show 0 ≤ n by omega)
        exact Trunc_go f m hL h hi hh hr (by omega)
    · rw [if_pos hr]
      have HH := Lib.hid hh
      have hb : ((s.count.ready f : Int) == 0) = false := beq_eq_false_iff_ne.2 hr
      have hb' : ((s.count.ready f : Int) != 0) = true := bne_iff_ne.2 hr
      have hia := hi.armed
      clear hr hh
      go_enter Try.func55, Try.ntmps55
      go_wp2_with fail
      refine (strikes_any hL h hia).mono ?_
      rintro e w1 ⟨rfl, h1, f1⟩
      rw [HH.out]
      go_wp2_with fail
      refine (ready_any f hf h1).mono ?_
      rintro e w2 ⟨rfl, rfl⟩
      go_wp2_with fail
      go_ret
      exact ⟨rfl, L, h1, f1.mono md_ma⟩
  · rw [if_pos rfl]
    have HH := Lib.hid hh
    have HK := Lib.hid (count_rest s).2.2.2.2.2.2
    have hia := hi.armed
    have hic := hi.count
    clear hh
    go_enter Try.func55, Try.ntmps55
    go_wp2_with fail
    refine (strikes_any hL h hia).mono ?_
    rintro e w1 ⟨rfl, h1, f1⟩
    rw [HH.out]
    go_wp2_with fail
    refine (fall_any f1.fresh h1 hic).mono ?_
    rintro e w2 ⟨rfl, L2, h2, f2⟩
    go_wp2_with fail
    go_ret
    rw [HK.out] at h2
    exact ⟨rfl, L2, h2, (f1.mono md_ma).trans f2⟩

theorem ic_oneCell (l : List Int) : ∀ u ∈ ic l, u.oneCell' = true := fun u hu => by unfold ic at hu; obtain ⟨c, _, rfl⟩ := List.mem_map.1 hu; rfl

set_option maxHeartbeats 400000 in
theorem Arm_any {L : Lab} {w : World} {k d : Nat} {s : St} (n : Int) (v : Value) (keep : List Int) (hL : Fresh L w) (h : DAt L w k d s) (hk : Rd w 1 v keep.length (ic keep)) (hvd : ∀ g, v.ownBlock = some g → 0 < keep.length → g ≠ d) (hkl : keep.length ≤ 1000000) :
    Calls Try.prog 35 #[.pointer (some ⟨d, 0, none⟩), .int .i64 n, v] w fun e w' => e = .returned (.tuple #[]) ∧ ∃ L', DAt L' w' k d (s.arm n keep) ∧ Fr (MA k) L w L' w' := by
  obtain ⟨mb, pv, kv, fb, hdl, hb, hbody⟩ := h
  have c4 := blk_cell hb 4
  have f4 := blk_free hb 4
  simp [dcells] at c4
  have HB := Lib.hid hb
  clear hb
  obtain ⟨mx, hmx⟩ : ∃ mx, mx = max n 0 := ⟨_, rfl⟩
  have HM := Lib.hid hmx
  have HK := Lib.hid hk
  have key : ∀ (mx' : Int), mx' = max n 0 → ∀ (e : Ending) (w1 : World), ClonePost (w.setCell ⟨d, 4, none⟩ (.int .i64 mx')) 3 1 keep.length (ic keep) e w1 → ∃ v', e = .returned v' ∧ (∃ A m c, v' = .slice A m c) ∧ w1.heap[d]? = some (.cells #[.map (some mb), pv, .bool s.down, .int .i64 s.lost, .int .i64 mx', kv] 78 (0, 0)) ∧ ∃ L', DAt L' (w1.setCell ⟨d, 5, none⟩ v') k d (s.arm n keep) ∧ Fr (MA k) L w L' (w1.setCell ⟨d, 5, none⟩ v') := by
    rintro mx' rfl e w1 ⟨v', rfl, hown, hbe, hnew⟩
    have g1 := Fr.setD hL hdl 4 (.int .i64 (max n 0))
    have hbd := hbody.setD hL hdl 4 (.int .i64 (max n 0))
    obtain ⟨L1, g2, hsl⟩ := new_label (M := fun _ => False) (k, .keep) g1.fresh hown hbe hnew
    have hbd2 := hbd.keep g1.fresh g2 (fun _ _ _ h => h)
    have d1 := g2.lab_of g1.fresh hdl
    have q0 := (hbe.block d (by simp; exact blk_lt HB.out)).trans (blk_set HB.out 4 (.int .i64 (max n 0)))
    have hbd3 : DBody L1 w1 k mb pv v' fb (s.arm n keep) := ⟨hbd2.1, hbd2.2.1, hbd2.2.2.1, hsl, hbd2.2.2.2.2⟩
    refine ⟨v', rfl, own_slice hown, q0, L1, ⟨mb, pv, v', fb, d1, ?_, hbd3.setD g2.fresh d1 5 v'⟩, ((g1.mono md_ma).trans (g2.mono (fun _ h => h.elim))).trans ((Fr.setD g2.fresh d1 5 v').mono md_ma)⟩
    exact blk_set q0 5 v'
  have hrd : ∀ mx', Rd (w.setCell ⟨d, 4, none⟩ (.int .i64 mx')) 1 v keep.length (ic keep) := fun mx' => by
    refine ⟨HK.out.1, ?_⟩
    rcases HK.out.2 with h0 | ⟨ad, c, rfl, hc⟩
    · exact Or.inl h0
    · refine Or.inr ⟨ad, c, rfl, fun j u hu => ?_⟩
      refine (World.cell?_of_block (a := ad.add j) (Below.heap_setCell _ _ _ _ ?_)).trans (hc j u hu)
      have : (ad.add j).block = ad.block := by unfold Addr.add; split <;> rfl
      rw [this]
      exact hvd _ rfl (by have := (List.getElem?_eq_some_iff.1 hu).1; rw [ic_length] at this; omega)
  have KEY := Lib.hid key
  clear key hmx
  by_cases h0 : 0 ≤ n
  · have hn : n = max n 0 := by omega
    have HN := Lib.hid hn
    clear hn
    go_enter Try.func35, Try.ntmps35
    go_wp2_with fail
    refine (clone42 (hrd _) (ic_oneCell _) hkl).mono ?_
    intro e w1 hpost
    obtain ⟨v', rfl, ⟨A, m, c, rfl⟩, q0, H⟩ := KEY.out _ HN.out e w1 hpost
    have r5 := blk_cell q0 5
    have rf := blk_free q0 5
    simp at r5
    clear hpost q0
    go_wp2_with fail
    go_end0
    exact ⟨rfl, H⟩
  · have hn : (0 : Int) = max n 0 := by omega
    have HN := Lib.hid hn
    clear hn
    go_enter Try.func35, Try.ntmps35
    go_wp2_with fail
    refine (clone42 (hrd _) (ic_oneCell _) hkl).mono ?_
    intro e w1 hpost
    obtain ⟨v', rfl, ⟨A, m, c, rfl⟩, q0, H⟩ := KEY.out _ HN.out e w1 hpost
    have r5 := blk_cell q0 5
    have rf := blk_free q0 5
    simp at r5
    clear hpost q0
    go_wp2_with fail
    go_end0
    exact ⟨rfl, H⟩

end Go.Proofs.Ytgocnjiabfmdpaa
