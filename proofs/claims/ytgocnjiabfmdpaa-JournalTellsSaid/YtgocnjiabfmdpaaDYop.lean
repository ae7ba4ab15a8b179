/- The reference's Truncate, Arm; tell. The law's tell: an act, performed with the reference. -/
import Derived.Test.YtgocnjiabfmdpaaDYln
import Derived.Test.YtgocnjiabfmdpaaDXb
namespace Go.Proofs.Ytgocnjiabfmdpaa
set_option maxRecDepth 8000
open Go.RowKit

set_option maxRecDepth 100000 in
set_option maxHeartbeats 1000000 in
theorem rTrunc_any {L : Lab} {w : World} {k d : Nat} {l : List Fl} {K : List Int} {s : St} (f z : Int) (hL : Fresh L w) (h : RAt L w k d l K s) (hi : Inv s) (hK : KI K s) :
    Calls Try.prog 57 #[.pointer (some ⟨d, 0, none⟩), .int .i64 f, .int .i64 z] w (RPost L w k d (s.trunc f z)) := by
  have hKc := hK.comes 0 0 []
  have hcm := (rcomes_any 0 0 ByteArray.empty hL h hi hK (by unfold isI64; omega) (by decide))
  have hem : (ByteArray.empty).data.toList = [] := rfl
  rw [hem] at hcm
  have HCM := Lib.hid hcm
  have hfld := field1
  clear hcm hem
  cases hh : s.hit
  · rw [comes_not hh] at hKc
    have HC : Hid (s.comes 0 0 [] = s.count) := show _ = _ from comes_not hh _ _ _
    have HKC := Lib.hid hKc
    have hnw : s.count.now = s.now := (count_rest s).1
    by_cases hr : s.count.ready f = 0
    · have HF := Lib.hid (ready_zero hr).2
      obtain ⟨X, hX⟩ : ∃ X, X = s.count.now f := ⟨_, rfl⟩
      have hXs : X = s.now f := by rw [hX, hnw]
      have hcap : X.length ≤ 16777216 := by rw [hX]; exact hi.count.cap f
      have hsz : (ba X).size = X.length := ba_size X
      by_cases hz : z < 0 ∨ z > X.length
      · have HW : Hid (s.trunc f z = (s.count, 1)) := show _ = _ by unfold St.trunc; rw [hh, if_neg (by simp), if_neg (by simp [hr]), if_pos (by rw [← hXs]; exact hz)]
        have HR := Lib.hid hr
        have HX := Lib.hid (And.intro hX hXs)
        clear hr hh hKc hnw hX hXs
        by_cases hz0 : z < 0
        · clear hz
          go_enter Try.func57, Try.ntmps57
          go_wp2_with fail
          refine HCM.out.mono ?_
          rintro e w1 ⟨rfl, l1, L1, h1, f1⟩
          rw [HC.out] at h1
          go_wp2_with fail
          refine (rmay_any f h1).mono ?_
          rintro e w2 ⟨rfl, rfl⟩
          rw [HR.out]
          have hrd : (getF l1 f).now = X := by obtain ⟨fv, qv, kv, hd, hb, hbody⟩ := h1; rw [HX.out.1]; exact (hbody.2.2.2 f).1
          have HRD := Lib.hid hrd
          clear hrd
          go_wp2_with fail
          refine (rget_any f h1).mono ?_
          rintro e w2 ⟨rfl, hb2⟩
          unfold fval
          rw [HRD.out]
          have h2 := h1.below f1.fresh hb2
          have f2 : Fr (MA k) L1 w1 L1 w2 := Fr.below f1.fresh hb2
          go_wp2_with fail
          go_ret
          rw [HW.out]
          exact ⟨rfl, l1, L1, K, h2, f1.trans f2, HKC.out⟩
        · have hz1 : (X.length : Int) < z := by omega
          clear hz
          go_enter Try.func57, Try.ntmps57
          go_wp2_with fail
          refine HCM.out.mono ?_
          rintro e w1 ⟨rfl, l1, L1, h1, f1⟩
          rw [HC.out] at h1
          go_wp2_with fail
          refine (rmay_any f h1).mono ?_
          rintro e w2 ⟨rfl, rfl⟩
          rw [HR.out]
          have hrd : (getF l1 f).now = X := by obtain ⟨fv, qv, kv, hd, hb, hbody⟩ := h1; rw [HX.out.1]; exact (hbody.2.2.2 f).1
          have HRD := Lib.hid hrd
          clear hrd
          go_wp2_with fail
          refine (rget_any f h1).mono ?_
          rintro e w2 ⟨rfl, hb2⟩
          unfold fval
          rw [HRD.out]
          have h2 := h1.below f1.fresh hb2
          have f2 : Fr (MA k) L1 w1 L1 w2 := Fr.below f1.fresh hb2
          go_wp2_with fail
          go_ret
          rw [HW.out]
          exact ⟨rfl, l1, L1, K, h2, f1.trans f2, HKC.out⟩
      · have HW : Hid (s.trunc f z = (s.count.cut f z.toNat, 0)) := show _ = _ by unfold St.trunc; rw [hh, if_neg (by simp), if_neg (by simp [hr]), if_neg (by rw [← hXs]; exact hz)]
        obtain ⟨z', rfl⟩ := Int.eq_ofNat_of_zero_le (show 0 ≤ z by omega)
        have hz1 : ¬ (X.length : Int) < (z' : Int) := by omega
        have hz2 : (z' : Int) ≤ (X.length : Int) := by omega
        have hcut : (ba X).extract 0 z' = ba (X.take z') := by rw [ba_cut]; simp
        have HCUT := Lib.hid hcut
        have HR := Lib.hid hr
        have HX := Lib.hid (And.intro hX hXs)
        clear hr hh hKc hnw hX hXs hz hcut
        go_enter Try.func57, Try.ntmps57
        go_wp2_with fail
        refine HCM.out.mono ?_
        rintro e w1 ⟨rfl, l1, L1, h1, f1⟩
        rw [HC.out] at h1
        go_wp2_with fail
        refine (rmay_any f h1).mono ?_
        rintro e w2 ⟨rfl, rfl⟩
        rw [HR.out]
        have hrd : (getF l1 f).now = X := by obtain ⟨fv, qv, kv, hd, hb, hbody⟩ := h1; rw [HX.out.1]; exact (hbody.2.2.2 f).1
        have HRD := Lib.hid hrd
        clear hrd
        go_wp2_with fail
        refine (rget_any f h1).mono ?_
        rintro e w2 ⟨rfl, hb2⟩
        unfold fval
        rw [HRD.out]
        have h2 := h1.below f1.fresh hb2
        have f2 : Fr (MA k) L1 w1 L1 w2 := Fr.below f1.fresh hb2
        go_wp2_with fail
        rw [HCUT.out]
        refine (rsettle_any f (X.take z') f2.fresh h2 HF.out (by have := hi.count.few; omega)).mono ?_
        rintro e w3 ⟨rfl, l3, L3, h3, f3⟩
        go_wp2_with fail
        go_ret
        rw [HW.out]
        refine ⟨rfl, l3, L3, K, ?_, (f1.trans f2).trans (f3.mono md_ma), HKC.out.same rfl rfl⟩
        rw [HX.out.1] at h3
        exact h3
    · have HW : Hid (s.trunc f z = (s.count, s.count.ready f)) := show _ = _ by unfold St.trunc; rw [hh, if_neg (by simp), if_pos hr]
      have hb : ((s.count.ready f : Int) == 0) = false := beq_eq_false_iff_ne.2 hr
      have hb' : ((s.count.ready f : Int) != 0) = true := bne_iff_ne.2 hr
      clear hr hh hKc hnw
      go_enter Try.func57, Try.ntmps57
      go_wp2_with fail
      refine HCM.out.mono ?_
      rintro e w1 ⟨rfl, l1, L1, h1, f1⟩
      rw [HC.out] at h1
      go_wp2_with fail
      refine (rmay_any f h1).mono ?_
      rintro e w2 ⟨rfl, rfl⟩
      go_wp2_with fail
      go_ret
      rw [HW.out]
      exact ⟨rfl, l1, L1, K, h1, f1, HKC.out⟩
  · have HW : Hid (s.trunc f z = (s.comes 0 0 [], 8)) := show _ = _ by
      unfold St.trunc
      rw [hh, if_pos rfl, comes_nil, hh, if_pos rfl]
    have HR : Hid ((s.comes 0 0 []).ready f = 8) := show _ = _ from comes_hit hh _ _ _ _
    have HKC := Lib.hid hKc
    clear hh hKc
    go_enter Try.func57, Try.ntmps57
    go_wp2_with fail
    refine HCM.out.mono ?_
    rintro e w1 ⟨rfl, l1, L1, h1, f1⟩
    go_wp2_with fail
    refine (rmay_any f h1).mono ?_
    rintro e w2 ⟨rfl, rfl⟩
    rw [HR.out]
    go_wp2_with fail
    go_ret
    rw [HW.out]
    exact ⟨rfl, l1, L1, K, h1, f1, HKC.out⟩

theorem ArgI.src {L : Lab} {w : World} {v : Value} {keep : List Int} (h : ArgI L w v keep) : SrcA w v keep.length (ic keep) := by
  rcases h with ⟨rfl | ⟨a, c, rfl⟩, rfl⟩ | ⟨b, off, c, rfl, hl, hb, hc⟩
  · exact Or.inl ⟨rfl, rfl, rfl⟩
  · exact Or.inr ⟨a, c, rfl, fun j u hj => by simp [ic] at hj⟩
  · refine Or.inr ⟨_, c, rfl, fun j u hj => ?_⟩
    have hjl : j < keep.length := by have := (List.getElem?_eq_some_iff.1 hj).1; rwa [ic_length] at this
    have e : (⟨b, off, none⟩ : Addr).add j = ⟨b, off + j, none⟩ := by unfold Addr.add; split <;> simp_all
    rw [e, hc j hjl]
    simp [ic, List.getElem?_eq_getElem hjl] at hj
    rw [hj]

/-- The ints that choose are copied. -/
theorem rarm_end {L : Lab} {w w4 : World} {k d : Nat} {fv qv kv v4 : Value} {l : List Fl} {K K' : List Int} {s s' : St} (hL : Fresh L w) (hd : L d = some (k, .disk)) (hb : w.heap[d]? = some (.cells (rcells fv qv kv s) 86 (0, 0))) (hbody : RBody L w k fv qv kv l K s)
    (hbel : Below w.heap.size w w4) (hown : w4.ownsRow w.heap.size 3 1 v4 K'.length (ic K')) (hs : s'.lost = s.lost ∧ s'.down = s.down ∧ s'.armed = s.armed ∧ s'.pend = s.pend ∧ s'.now = s.now ∧ s'.dur = s.dur) :
    ∃ L', RAt L' (w4.setCell ⟨d, 5, none⟩ v4) k d l K' s' ∧ Fr (MD k) L w L' (w4.setCell ⟨d, 5, none⟩ v4) := by
  obtain ⟨L1, f1, hsl⟩ := new_label (M := fun _ => False) (k, .keep) hL (own_base hown) hbel (fun g hg => (World.ownsRow.lt hown g hg).1)
  have f2 := Fr.setD f1.fresh (f1.lab_of hL hd) 5 v4
  have f3 : Fr (MD k) L w L1 (w4.setCell ⟨d, 5, none⟩ v4) := (f1.mono (fun _ h => h.elim)).trans f2
  obtain ⟨e1, e2, e3, e4, e5, e6⟩ := hs
  refine ⟨L1, ⟨fv, qv, v4, f3.lab_of hL hd, ?_, hbody.1.keep hL f3 (by simp [MD]), ?_, ⟨hsl.keep f1.fresh f2 (by simp [MD]), hbody.2.2.1.2⟩, hbody.2.2.2.same e5 e6⟩, f3⟩
  · have h1 := blk_set ((hbel.block d (blk_lt hb)).trans hb) 5 v4
    rw [h1]
    simp [rcells, e1, e2, e3]
  · rw [e4]; exact hbody.2.1.keep hL f3 (by simp [MD])

set_option maxRecDepth 100000 in
set_option maxHeartbeats 1000000 in
theorem rArm_any {L : Lab} {w : World} {k d : Nat} {l : List Fl} {K : List Int} {s : St} (n : Int) (v : Value) (keep : List Int) (hL : Fresh L w) (h : RAt L w k d l K s) (hk : ArgI L w v keep) (hkl : keep.length ≤ 1000000) :
    Calls Try.prog 36 #[.pointer (some ⟨d, 0, none⟩), .int .i64 n, v] w fun e w' => e = .returned (.tuple #[]) ∧ ∃ L', RAt L' w' k d l keep (s.arm n keep) ∧ Fr (MA k) L w L' w' := by
  obtain ⟨i0, hi, hz0, hz1, hz2⟩ := info_parts Try.info3
  obtain ⟨fv, qv, kv, hd, hb, hbody⟩ := h
  have c4 := blk_cell hb 4
  have f4 := blk_free hb 4
  simp [rcells] at c4
  obtain ⟨mx, hmx⟩ : ∃ mx, mx = max n 0 := ⟨_, rfl⟩
  have e1 : (rcells fv qv kv s).setIfInBounds 4 (.int .i64 mx) = rcells fv qv kv (s.arm n keep) := by rw [hmx]; rfl
  have hb1 := blk_set hb 4 (.int .i64 mx)
  rw [e1] at hb1
  have fr1 := Fr.setD hL hd 4 (.int .i64 mx)
  have hbody1 : RBody L (w.setCell ⟨d, 4, none⟩ (.int .i64 mx)) k fv qv kv l K (s.arm n keep) := by
    have := hbody.keep hL fr1 (fun r hr e => hr (by injection e))
    exact ⟨this.1, this.2.1, this.2.2.1, this.2.2.2⟩
  have hk1 := (hk.keep fr1).src
  have hlw : d < w.heap.size := blk_lt hb
  have key : ∀ mx', mx' = mx → ∃ v4 w4, (Builtin.append_ #[31, 31] 31 #[.slice (some ⟨w.heap.size, 0, none⟩) 0 0, v]).run Try.prog ((w.setCell ⟨d, 4, none⟩ (.int .i64 mx')).alloc (.cells #[] 3)) = .ok v4 w4 ∧ (∃ A m c, v4 = .slice A m c) ∧ (∃ u, w4.cell? ⟨d, 5, none⟩ = some u) ∧ w4.frozen? ⟨d, 5, none⟩ = false ∧
      ∃ L', RAt L' (w4.setCell ⟨d, 5, none⟩ v4) k d l keep (s.arm n keep) ∧ Fr (MA k) L w L' (w4.setCell ⟨d, 5, none⟩ v4) := by
    rintro mx' rfl
    obtain ⟨w1, hw1⟩ : ∃ w1, w1 = w.setCell ⟨d, 4, none⟩ (.int .i64 mx') := ⟨_, rfl⟩
    rw [← hw1] at hb1 fr1 hbody1 hk1 ⊢
    have hsz : w1.heap.size = w.heap.size := by rw [hw1]; simp
    have hmade : (w1.alloc (.cells #[] 3)).ownsRow w1.heap.size 3 1 (.slice (some ⟨w1.heap.size, 0, none⟩) 0 0) 0 [] := World.ownsRow_made w1 #[] 0 (Nat.le_refl _) (by decide) rfl
    have hsrc : SrcA (w1.alloc (.cells #[] 3)) v keep.length (ic keep) := by
      rcases hk1 with hk1 | ⟨ad, c, rfl, hc⟩
      · exact Or.inl hk1
      · exact Or.inr ⟨ad, c, rfl, fun j u hj => alloc_cell (hc j u hj) _⟩
    obtain ⟨v4, w4, hr, hown, hg, hat⟩ := run_append_srcA (P := Try.prog) (w1.alloc (.cells #[] 3)) w1.heap.size 31 31 3 i0 (.int .i64 0) 8 Try.underlying31 hi hz0 hz1 hz2 rfl _ 0 [] hmade v keep.length (ic keep) (ic_length _) hsrc (ic_oneCell _) (by unfold maxLen; omega) (by omega) (by simp)
    have hbel : Below w1.heap.size w1 w4 := ((Below.refl _ _).alloc (Nat.le_refl _) _).grown hg (by simp) (fun g hg' => by simp [Value.ownBlock] at hg'; omega)
    simp only [Nat.zero_add, List.nil_append] at hown
    obtain ⟨L5, r5, f5⟩ := rarm_end (s' := s.arm n keep) fr1.fresh hd hb1 hbody1 hbel hown ⟨rfl, rfl, rfl, rfl, rfl, rfl⟩
    have q4 := (hbel.block d (by omega)).trans hb1
    have q5 := blk_cell q4 5
    simp [rcells] at q5
    rw [hsz] at hr
    exact ⟨v4, w4, hr, own_slice (own_base hown), ⟨_, q5⟩, blk_free q4 5, L5, r5, (fr1.mono md_ma).trans (f5.mono md_ma)⟩
  have KEY := Lib.hid key
  clear key hk1 hbody1 fr1 hb1 e1 hbody hb hd
  by_cases h0 : 0 ≤ n
  · obtain ⟨v4, w4, hr, ⟨A, m, c, rfl⟩, ⟨u, q5⟩, g5, H⟩ := KEY.out n (by omega)
    have HH := Lib.hid H
    clear H hmx
    go_enter Try.func36, Try.ntmps36
    go_wp2_with (at_builtin; refine Lib.wpList_append_run _ rfl (.tmp 12) (.tmp 13) 31 31 rfl _ _ rfl rfl _ _ hr ?_)
    go_end0
    exact ⟨rfl, HH.out⟩
  · obtain ⟨v4, w4, hr, ⟨A, m, c, rfl⟩, ⟨u, q5⟩, g5, H⟩ := KEY.out 0 (by omega)
    have HH := Lib.hid H
    clear H hmx
    go_enter Try.func36, Try.ntmps36
    go_wp2_with (at_builtin; refine Lib.wpList_append_run _ rfl (.tmp 12) (.tmp 13) 31 31 rfl _ _ rfl rfl _ _ hr ?_)
    go_end0
    exact ⟨rfl, HH.out⟩

end Go.Proofs.Ytgocnjiabfmdpaa

namespace Go.Proofs.Ytgocnjiabfmdpaa
set_option maxRecDepth 8000
open Go.RowKit

theorem KI.crashed {K : List Int} {s : St} (h : KI K s) (keep : List Int) : KI K (s.crash keep) := by
  unfold St.crash
  split
  · exact h
  · exact fun hh => absurd rfl hh

set_option maxRecDepth 100000 in
set_option maxHeartbeats 1000000 in
theorem tell_any {L : Lab} {w : World} {k d : Nat} {l : List Fl} {K : List Int} {s : St} (a : Ac) (kv : Value) (hL : Fresh L w) (h : RAt L w k d l K s) (hi : Inv s) (hK : KI K s) (hok : a.ok) (hs : a.s.size ≤ 1000000) (hk : a.keep.length ≤ 1000000) (hkv : ArgI L w kv a.keep) :
    Calls Try.prog 14 #[.pointer (some ⟨d, 0, none⟩), .agg #[.int .i64 a.act, .int .i64 a.f, .int .i64 a.n, .string a.s, kv]] w (RPost L w k d (s.act a)) := by
  obtain ⟨o1, o2, o3⟩ := hok
  have hb7 := bits_seven a.act
  obtain ⟨KA, kc, rfl⟩ := argI_len hkv
  obtain ⟨m, hm⟩ : ∃ m, m = a.act % 8 := ⟨_, rfl⟩
  have hm8 : 0 ≤ m ∧ m < 8 := by omega
  rw [← hm] at hb7
  have HM := Lib.hid hm
  clear hm
  have ha : ∀ o, RAt L (w.alloc o) k d l K s ∧ Fr (MA k) L w L (w.alloc o) := fun o => ⟨h.keep (M := fun _ => False) hL ((Fr.refl hL).alloc o) (fun _ hh => hh), (Fr.refl hL).alloc o⟩
  have HA := Lib.hid ha
  clear ha
  by_cases h2 : m = 2
  · have HR : Hid (s.act a = s.sync a.f) := show _ = _ by unfold St.act; rw [← HM.out, if_pos h2]
    subst h2
    go_enter Try.func14, Try.ntmps14
    go_wp2_with fail
    refine (rSync_any a.f (HA.out _).2.fresh (HA.out _).1 hi hK).mono ?_
    rintro e w1 ⟨rfl, l1, L1, K1, d1, f1, k1⟩
    go_wp2_with fail
    go_ret
    rw [HR.out]
    exact ⟨rfl, l1, L1, K1, d1, (HA.out _).2.trans f1, k1⟩
  by_cases h3 : m = 3
  · have HR : Hid (s.act a = s.trunc a.f a.n) := show _ = _ by unfold St.act; rw [if_neg (show ¬ a.act % 8 = 2 by rw [← HM.out]; omega), if_pos (by rw [← HM.out]; exact h3)]
    subst h3
    go_enter Try.func14, Try.ntmps14
    go_wp2_with fail
    refine (rTrunc_any a.f a.n (HA.out _).2.fresh (HA.out _).1 hi hK).mono ?_
    rintro e w1 ⟨rfl, l1, L1, K1, d1, f1, k1⟩
    go_wp2_with fail
    go_ret
    rw [HR.out]
    exact ⟨rfl, l1, L1, K1, d1, (HA.out _).2.trans f1, k1⟩
  by_cases h4 : m = 4
  · have HR : Hid (s.act a = (s.lose (a.n % 4), 0)) := show _ = _ by unfold St.act; rw [if_neg (show ¬ a.act % 8 = 2 by rw [← HM.out]; omega), if_neg (show ¬ a.act % 8 = 3 by rw [← HM.out]; omega), if_pos (by rw [← HM.out]; exact h4)]
    subst h4
    go_enter Try.func14, Try.ntmps14
    go_wp2_with fail
    refine (rlose_any (bits .and .i64 a.n 3) (HA.out _).2.fresh (HA.out _).1).mono ?_
    rintro e w1 ⟨rfl, d1, f1⟩
    go_wp2_with fail
    go_ret
    rw [HR.out]
    exact ⟨rfl, l, L, K, by rw [← bits_three]; exact d1, (HA.out _).2.trans (f1.mono md_ma), hK.same rfl rfl⟩
  by_cases h5 : m = 5
  · have HR : Hid (s.act a = (s.arm a.n a.keep, 0)) := show _ = _ by unfold St.act; rw [if_neg (show ¬ a.act % 8 = 2 by rw [← HM.out]; omega), if_neg (show ¬ a.act % 8 = 3 by rw [← HM.out]; omega), if_neg (show ¬ a.act % 8 = 4 by rw [← HM.out]; omega), if_pos (by rw [← HM.out]; exact h5)]
    subst h5
    go_enter Try.func14, Try.ntmps14
    go_wp2_with fail
    refine (rArm_any a.n _ a.keep (HA.out _).2.fresh (HA.out _).1 (hkv.keep (HA.out _).2) hk).mono ?_
    rintro e w1 ⟨rfl, L1, d1, f1⟩
    go_wp2_with fail
    go_ret
    rw [HR.out]
    exact ⟨rfl, l, L1, a.keep, d1, (HA.out _).2.trans f1, fun _ => rfl⟩
  by_cases h6 : m = 6
  · have HR : Hid (s.act a = (s.crash a.keep, 0)) := show _ = _ by unfold St.act; rw [if_neg (show ¬ a.act % 8 = 2 by rw [← HM.out]; omega), if_neg (show ¬ a.act % 8 = 3 by rw [← HM.out]; omega), if_neg (show ¬ a.act % 8 = 4 by rw [← HM.out]; omega), if_neg (show ¬ a.act % 8 = 5 by rw [← HM.out]; omega), if_pos (by rw [← HM.out]; exact h6)]
    subst h6
    go_enter Try.func14, Try.ntmps14
    go_wp2_with fail
    refine (rcrash_any _ a.keep (HA.out _).2.fresh (HA.out _).1 hi ((hkv.keep (HA.out _).2).rkat k)).mono ?_
    rintro e w1 ⟨rfl, l1, L1, d1, f1⟩
    go_wp2_with fail
    go_ret
    rw [HR.out]
    exact ⟨rfl, l1, L1, K, d1, (HA.out _).2.trans (f1.mono md_ma), hK.crashed _⟩
  by_cases h7 : m = 7
  · have HR : Hid (s.act a = (s.start, 0)) := show _ = _ by unfold St.act; rw [if_neg (show ¬ a.act % 8 = 2 by rw [← HM.out]; omega), if_neg (show ¬ a.act % 8 = 3 by rw [← HM.out]; omega), if_neg (show ¬ a.act % 8 = 4 by rw [← HM.out]; omega), if_neg (show ¬ a.act % 8 = 5 by rw [← HM.out]; omega), if_neg (show ¬ a.act % 8 = 6 by rw [← HM.out]; omega), if_pos (by rw [← HM.out]; exact h7)]
    subst h7
    go_enter Try.func14, Try.ntmps14
    go_wp2_with fail
    refine (rstart_any (HA.out _).2.fresh (HA.out _).1).mono ?_
    rintro e w1 ⟨rfl, d1, f1⟩
    go_wp2_with fail
    go_ret
    rw [HR.out]
    exact ⟨rfl, l, L, K, d1, (HA.out _).2.trans (f1.mono md_ma), hK.same rfl rfl⟩
  have HR : Hid (s.act a = s.write a.f a.n a.s.data.toList) := show _ = _ by unfold St.act; rw [if_neg (show ¬ a.act % 8 = 2 by rw [← HM.out]; omega), if_neg (show ¬ a.act % 8 = 3 by rw [← HM.out]; omega), if_neg (show ¬ a.act % 8 = 4 by rw [← HM.out]; omega), if_neg (show ¬ a.act % 8 = 5 by rw [← HM.out]; omega), if_neg (show ¬ a.act % 8 = 6 by rw [← HM.out]; omega), if_neg (show ¬ a.act % 8 = 7 by rw [← HM.out]; omega)]
  have hm01 : m = 0 ∨ m = 1 := by omega
  clear h2 h3 h4 h5 h6 h7 hm8
  rcases hm01 with rfl | rfl
  all_goals
    go_enter Try.func14, Try.ntmps14
    go_wp2_with fail
    refine (rWrite_any a.f a.n a.s (HA.out _).2.fresh (HA.out _).1 hi hK o3 hs).mono ?_
    rintro e w1 ⟨rfl, l1, L1, K1, d1, f1, k1⟩
    go_wp2_with fail
    go_ret
    rw [HR.out]
    exact ⟨rfl, l1, L1, K1, d1, (HA.out _).2.trans f1, k1⟩

end Go.Proofs.Ytgocnjiabfmdpaa
