/- Walk of the law WireReads. -/
import Derived.Test.YtamjfnpgjcdepaaQg
namespace Go.Proofs.Ytamjfnpgjcdepaa
open Go.RowKit

theorem numP_dec (s : ByteArray) : ∀ v r, numP (bts s) = some (v, r) → r.length < (bts s).length := fun _ _ h => numP_len h
theorem intP_dec (s : ByteArray) : ∀ v r, intP (bts s) = some (v, r) → r.length < (bts s).length := fun _ _ h => intP_len h

set_option maxHeartbeats 16000000 in
set_option maxRecDepth 100000 in
theorem wireReads_any (s : ByteArray) (a : Option Addr) (cs : List Int) (cap : Nat) (w : World) (hs : s.size ≤ 9223372036854775807) (hl : cs.length ≤ 9223372036854775807) (hat : IntsAt w.heap.size w a cs) :
    Calls Try.prog 4 #[.string s, .slice a cs.length cap] w fun e w' => e = .returned (.bool true) ∧ Below w.heap.size w w' := by
  by_cases h4 : 400 < s.size
  · go_enter Try.func4, Try.ntmps4
    go_wp2_with fail
    refine (small_any _).mono ?_
    rintro e w1 ⟨rfl, hb1⟩
    go_wp2_with fail
    go_ret
    exact ⟨rfl, hb1⟩
  by_cases h20 : 20 < cs.length
  · go_enter Try.func4, Try.ntmps4
    go_wp2_with fail
    refine (small_any _).mono ?_
    rintro e w1 ⟨rfl, hb1⟩
    go_wp2_with fail
    go_ret
    exact ⟨rfl, hb1⟩
  go_enter Try.func4, Try.ntmps4
  go_wp2_with fail
  refine (small_any _).mono ?_
  rintro e w1 ⟨rfl, hb1⟩
  have hs1 := hb1.size
  go_wp2_with fail
  refine (open_any _ _).mono ?_
  rintro e w2 ⟨rfl, hr2, hb2⟩
  have hb2' := hb1.trans (hb2.mono hs1)
  have hs2 := hb2'.size
  have hlt2 := hr2.lt
  go_wp2_with fail
  refine (qopen_any _ _).mono ?_
  rintro e w3 ⟨rfl, hq3, hb3⟩
  have hr3 := Below.rd hb3 hr2
  have hb3' := hb2'.trans (hb3.mono hs2)
  obtain ⟨rb, hrb⟩ : ∃ rb, w1.heap.size = rb := ⟨_, rfl⟩
  obtain ⟨qb, hqb⟩ : ∃ qb, w2.heap.size = qb := ⟨_, rfl⟩
  rw [hrb] at hr3 hlt2 hs1 ⊢
  rw [hqb] at hq3 hlt2 hs2 ⊢
  have hne : rb ≠ qb := by omega
  have hs3 := hb3'.size
  clear hr2 hb1 hb2 hb3 hb2' hrb hqb
  go_wp2_with fail
  go_loopw [8, 9] (fun i _ wr => ∃ (k : Nat) (S : ByteArray) (f : Bool), k ≤ cs.length ∧ i = .int .i64 k ∧ Rd wr rb S f ∧ Rq wr qb S f ∧ (f = true → S.size = 0) ∧ S.size ≤ 400 ∧ Below w.heap.size w wr) (fun i _ _ => cs.length - (intOf i).toNat)
  case atStart => exact ⟨0, s, false, Nat.zero_le _, rfl, hr3, hq3, by simp, by omega, hb3'⟩
  case round =>
    clear hr3 hq3 hb3' hs3
    obtain ⟨k, S, f, hk, rfl, hrd, hrq, hf, hS, hbr⟩ := hrel
    have hsr := hbr.size
    have HF := Lib.hid hf; clear hf
    by_cases hlt : k < cs.length
    · obtain ⟨b, off, rfl, hbB, hc⟩ := hat k hlt
      have hcr := (hbr.cell (p := ⟨b, off + k, none⟩) hbB).trans hc
      obtain ⟨c, hce⟩ : ∃ c, cs.getD k 0 = c := ⟨_, rfl⟩
      rw [hce] at hcr
      clear hce hc
      have hkc : c % 5 = 0 ∨ c % 5 = 1 ∨ c % 5 = 2 ∨ c % 5 = 3 ∨ c % 5 = 4 := by omega
      rcases hkc with hk5 | hk5 | hk5 | hk5 | hk5
      · -- kind 0
        have HK := Lib.hid hk5; clear hk5
        go_wp2_with fail
        refine (kind_any ⟨c, 0, ByteArray.empty, [], none, 0, [], none, 0⟩ 0 HK.out _).mono ?_
        rintro e w4 ⟨rfl, hb4⟩
        have hrd4 := Below.rd hb4 hrd
        have hrq4 := Below.rq hb4 hrq
        have hb4' := hbr.trans (hb4.mono hsr)
        have hs4 := hb4'.size
        have hq4 := hrq4.lt
        clear hb4
        go_wp2_with fail
        refine (wnum_u rb S f _ hrd4 hS).mono ?_
        rintro e v1 ⟨rfl, hrd1, hk1⟩
        have hrq1 := hk1.rq hrq4 (Ne.symm hne)
        have hbv1 := hb4'.trans (hk1.below hs1 hs4)
        have hsv1 := hbv1.size
        clear hk1 hrd4 hrq4
        go_wp2_with fail
        refine (qnum_u qb S f _ hrq1 hS).mono ?_
        rintro e v2 ⟨rfl, hrq5, hk2⟩
        have hrd5 := hk2.rd hrd1 hne
        have hb5 := hbv1.trans (hk2.below hs2 hsv1)
        clear hk2 hrd1 hrq1 hbv1
        have hs5 := hb5.size
        have hle : (ba (opR (numP (bts S)))).size ≤ 400 := by
          rw [ba_size]
          have h1 := op_len (numP_dec S)
          rw [bts_len] at h1
          omega
        have hinv := op_inv (numP_dec S) HF.out
        have HINV := Lib.hid hinv
        obtain ⟨S', hS'⟩ : ∃ S', ba (opR (numP (bts S))) = S' := ⟨_, rfl⟩
        obtain ⟨f', hf'⟩ : ∃ f', opF f (numP (bts S)) = f' := ⟨_, rfl⟩
        rw [hS'] at hle hrd5 hrq5
        rw [hf'] at hrd5 hrq5
        have hinv' : f' = true → S'.size = 0 := by rw [← hS', ← hf']; exact HINV.out
        have HINV' := Lib.hid hinv'
        clear hinv hinv' hS' hf'
        go_wp2_with fail
        refine (left_any rb _ _ _ hrd5).mono ?_
        rintro e w6 ⟨rfl, rfl⟩
        go_wp2_with fail
        refine (qleft_any qb _ _ _ hrq5).mono ?_
        rintro e w6 ⟨rfl, rfl⟩
        go_wp2_with fail
        refine (done_any rb _ _ _ hrd5).mono ?_
        rintro e w6 ⟨rfl, rfl⟩
        go_wp2_with fail
        refine (qdone_any qb _ _ _ hrq5).mono ?_
        rintro e w6 ⟨rfl, rfl⟩
        go_wp2_with fail
        go_roundw
        case rel => exact ⟨k + 1, S', f', by omega, by go_num, hrd5, hrq5, HINV'.out, hle, hb5⟩
        case measure => simp [intOf]; omega
      · -- kind 1
        have HK := Lib.hid hk5; clear hk5
        go_wp2_with fail
        refine (kind_any ⟨c, 0, ByteArray.empty, [], none, 0, [], none, 0⟩ 1 HK.out _).mono ?_
        rintro e w4 ⟨rfl, hb4⟩
        have hrd4 := Below.rd hb4 hrd
        have hrq4 := Below.rq hb4 hrq
        have hb4' := hbr.trans (hb4.mono hsr)
        have hs4 := hb4'.size
        have hq4 := hrq4.lt
        clear hb4
        go_wp2_with fail
        refine (wint_u rb S f _ hrd4 hS).mono ?_
        rintro e v1 ⟨rfl, hrd1, hk1⟩
        have hrq1 := hk1.rq hrq4 (Ne.symm hne)
        have hbv1 := hb4'.trans (hk1.below hs1 hs4)
        have hsv1 := hbv1.size
        clear hk1 hrd4 hrq4
        go_wp2_with fail
        refine (qint_u qb S f _ hrq1 hS).mono ?_
        rintro e v2 ⟨rfl, hrq5, hk2⟩
        have hrd5 := hk2.rd hrd1 hne
        have hb5 := hbv1.trans (hk2.below hs2 hsv1)
        clear hk2 hrd1 hrq1 hbv1
        have hs5 := hb5.size
        have hle : (ba (opR (intP (bts S)))).size ≤ 400 := by
          rw [ba_size]
          have h1 := op_len (intP_dec S)
          rw [bts_len] at h1
          omega
        have hinv := op_inv (intP_dec S) HF.out
        have HINV := Lib.hid hinv
        obtain ⟨S', hS'⟩ : ∃ S', ba (opR (intP (bts S))) = S' := ⟨_, rfl⟩
        obtain ⟨f', hf'⟩ : ∃ f', opF f (intP (bts S)) = f' := ⟨_, rfl⟩
        rw [hS'] at hle hrd5 hrq5
        rw [hf'] at hrd5 hrq5
        have hinv' : f' = true → S'.size = 0 := by rw [← hS', ← hf']; exact HINV.out
        have HINV' := Lib.hid hinv'
        clear hinv hinv' hS' hf'
        go_wp2_with fail
        refine (left_any rb _ _ _ hrd5).mono ?_
        rintro e w6 ⟨rfl, rfl⟩
        go_wp2_with fail
        refine (qleft_any qb _ _ _ hrq5).mono ?_
        rintro e w6 ⟨rfl, rfl⟩
        go_wp2_with fail
        refine (done_any rb _ _ _ hrd5).mono ?_
        rintro e w6 ⟨rfl, rfl⟩
        go_wp2_with fail
        refine (qdone_any qb _ _ _ hrq5).mono ?_
        rintro e w6 ⟨rfl, rfl⟩
        go_wp2_with fail
        go_roundw
        case rel => exact ⟨k + 1, S', f', by omega, by go_num, hrd5, hrq5, HINV'.out, hle, hb5⟩
        case measure => simp [intOf]; omega
      · -- kind 2
        have HK := Lib.hid hk5; clear hk5
        go_wp2_with fail
        refine (kind_any ⟨c, 0, ByteArray.empty, [], none, 0, [], none, 0⟩ 2 HK.out _).mono ?_
        rintro e w4 ⟨rfl, hb4⟩
        have hrd4 := Below.rd hb4 hrd
        have hrq4 := Below.rq hb4 hrq
        have hb4' := hbr.trans (hb4.mono hsr)
        have hs4 := hb4'.size
        have hq4 := hrq4.lt
        clear hb4
        go_wp2_with fail
        refine (wtext_u rb S f _ hrd4 hS).mono ?_
        rintro e v1 ⟨rfl, hrd1, hk1⟩
        have hrq1 := hk1.rq hrq4 (Ne.symm hne)
        have hbv1 := hb4'.trans (hk1.below hs1 hs4)
        have hsv1 := hbv1.size
        clear hk1 hrd4 hrq4
        go_wp2_with fail
        refine (qtext_u qb S f _ hrq1 HF.out hS).mono ?_
        rintro e v2 ⟨rfl, hrq5, hk2⟩
        have hrd5 := hk2.rd hrd1 hne
        have hb5 := hbv1.trans (hk2.below hs2 hsv1)
        clear hk2 hrd1 hrq1 hbv1
        have hs5 := hb5.size
        have hle : (ba (opR (textP (bts S)))).size ≤ 400 := by
          rw [ba_size]
          have h1 := op_len (textP_dec S)
          rw [bts_len] at h1
          omega
        have hinv := op_inv (textP_dec S) HF.out
        have HINV := Lib.hid hinv
        obtain ⟨S', hS'⟩ : ∃ S', ba (opR (textP (bts S))) = S' := ⟨_, rfl⟩
        obtain ⟨f', hf'⟩ : ∃ f', opF f (textP (bts S)) = f' := ⟨_, rfl⟩
        rw [hS'] at hle hrd5 hrq5
        rw [hf'] at hrd5 hrq5
        have hinv' : f' = true → S'.size = 0 := by rw [← hS', ← hf']; exact HINV.out
        have HINV' := Lib.hid hinv'
        clear hinv hinv' hS' hf'
        go_wp2_with fail
        refine (left_any rb _ _ _ hrd5).mono ?_
        rintro e w6 ⟨rfl, rfl⟩
        go_wp2_with fail
        refine (qleft_any qb _ _ _ hrq5).mono ?_
        rintro e w6 ⟨rfl, rfl⟩
        go_wp2_with fail
        refine (done_any rb _ _ _ hrd5).mono ?_
        rintro e w6 ⟨rfl, rfl⟩
        go_wp2_with fail
        refine (qdone_any qb _ _ _ hrq5).mono ?_
        rintro e w6 ⟨rfl, rfl⟩
        go_wp2_with fail
        go_roundw
        case rel => exact ⟨k + 1, S', f', by omega, by go_num, hrd5, hrq5, HINV'.out, hle, hb5⟩
        case measure => simp [intOf]; omega
      · -- kind 3
        have HK := Lib.hid hk5; clear hk5
        go_wp2_with fail
        refine (kind_any ⟨c, 0, ByteArray.empty, [], none, 0, [], none, 0⟩ 3 HK.out _).mono ?_
        rintro e w4 ⟨rfl, hb4⟩
        have hrd4 := Below.rd hb4 hrd
        have hrq4 := Below.rq hb4 hrq
        have hb4' := hbr.trans (hb4.mono hsr)
        have hs4 := hb4'.size
        have hq4 := hrq4.lt
        clear hb4
        go_wp2_with fail
        have hbnd : (opV [] (listP intP (bts S))).length ≤ 9223372036854775807 := by
          cases hn : listP intP (bts S) with
          | none => simp [opV]
          | some x =>
            have h1 := (listP_len _ (fun _ _ _ h => intP_len h) _ x.1 x.2 hn).2
            rw [bts_len] at h1
            show x.1.length ≤ _
            omega
        have HBND := Lib.hid hbnd; clear hbnd
        refine (wnums_u rb S f _ hrd4 HF.out hS).mono ?_
        rintro e v1 ⟨a1, p1, rfl, hi1, hrd1, hk1, hm1⟩
        have hrq1 := hk1.rq hrq4 (Ne.symm hne)
        have hbv1 := hb4'.trans (hk1.below hs1 hs4)
        have hsv1 := hbv1.size
        have HI1 := Lib.hid hi1
        have HM1 := Lib.hid hm1
        clear hk1 hrd4 hrq4 hi1 hm1
        go_wp2_with fail
        refine (qnums_u qb S f _ hrq1 HF.out hS).mono ?_
        rintro e v2 ⟨a2, p2, rfl, hi2, hrq2, hk2⟩
        have HI3 := Lib.hid (HI1.out.keep hk2 HM1.out hq4)
        have HI2 := Lib.hid hi2
        have hrd2 := hk2.rd hrd1 hne
        have hb2 := hbv1.trans (hk2.below hs2 hsv1)
        have hsv2 := hb2.size
        clear hk2 hrd1 hrq1 hbv1 hi2
        go_wp2_with fail
        refine (sameNums_any a1 a2 _ p1 p2 _ HI3.out HI2.out HBND.out).mono ?_
        rintro e v3 ⟨rfl, hb3⟩
        have hrq5 := Below.rq hb3 hrq2
        have hrd5 := Below.rd hb3 hrd2
        have hb5 := hb2.trans (hb3.mono hsv2)
        clear hb3 hrq2 hrd2 hb2
        have hs5 := hb5.size
        have hle : (ba (opR (listP intP (bts S)))).size ≤ 400 := by
          rw [ba_size]
          have h1 := op_len (numsP_dec S)
          rw [bts_len] at h1
          omega
        have hinv := op_inv (numsP_dec S) HF.out
        have HINV := Lib.hid hinv
        obtain ⟨S', hS'⟩ : ∃ S', ba (opR (listP intP (bts S))) = S' := ⟨_, rfl⟩
        obtain ⟨f', hf'⟩ : ∃ f', opF f (listP intP (bts S)) = f' := ⟨_, rfl⟩
        rw [hS'] at hle hrd5 hrq5
        rw [hf'] at hrd5 hrq5
        have hinv' : f' = true → S'.size = 0 := by rw [← hS', ← hf']; exact HINV.out
        have HINV' := Lib.hid hinv'
        clear hinv hinv' hS' hf'
        go_wp2_with fail
        refine (left_any rb _ _ _ hrd5).mono ?_
        rintro e w6 ⟨rfl, rfl⟩
        go_wp2_with fail
        refine (qleft_any qb _ _ _ hrq5).mono ?_
        rintro e w6 ⟨rfl, rfl⟩
        go_wp2_with fail
        refine (done_any rb _ _ _ hrd5).mono ?_
        rintro e w6 ⟨rfl, rfl⟩
        go_wp2_with fail
        refine (qdone_any qb _ _ _ hrq5).mono ?_
        rintro e w6 ⟨rfl, rfl⟩
        go_wp2_with fail
        go_roundw
        case rel => exact ⟨k + 1, S', f', by omega, by go_num, hrd5, hrq5, HINV'.out, hle, hb5⟩
        case measure => simp [intOf]; omega
      · -- kind 4
        have HK := Lib.hid hk5; clear hk5
        go_wp2_with fail
        refine (kind_any ⟨c, 0, ByteArray.empty, [], none, 0, [], none, 0⟩ 4 HK.out _).mono ?_
        rintro e w4 ⟨rfl, hb4⟩
        have hrd4 := Below.rd hb4 hrd
        have hrq4 := Below.rq hb4 hrq
        have hb4' := hbr.trans (hb4.mono hsr)
        have hs4 := hb4'.size
        have hq4 := hrq4.lt
        clear hb4
        go_wp2_with fail
        have hbnd : (opV [] (listP textP (bts S))).length ≤ 9223372036854775807 := by
          cases hn : listP textP (bts S) with
          | none => simp [opV]
          | some x =>
            have h1 := (listP_len _ (fun _ _ _ h => by have := textP_len h; omega) _ x.1 x.2 hn).2
            rw [bts_len] at h1
            show x.1.length ≤ _
            omega
        have HBND := Lib.hid hbnd; clear hbnd
        refine (wtexts_u rb S f _ hrd4 HF.out hS).mono ?_
        rintro e v1 ⟨a1, p1, rfl, hi1, hrd1, hk1, hm1⟩
        have hrq1 := hk1.rq hrq4 (Ne.symm hne)
        have hbv1 := hb4'.trans (hk1.below hs1 hs4)
        have hsv1 := hbv1.size
        have HI1 := Lib.hid hi1
        have HM1 := Lib.hid hm1
        clear hk1 hrd4 hrq4 hi1 hm1
        go_wp2_with fail
        refine (qtexts_u qb S f _ hrq1 HF.out hS).mono ?_
        rintro e v2 ⟨a2, p2, rfl, hi2, hrq2, hk2⟩
        have HI3 := Lib.hid (HI1.out.keep hk2 HM1.out hq4)
        have HI2 := Lib.hid hi2
        have hrd2 := hk2.rd hrd1 hne
        have hb2 := hbv1.trans (hk2.below hs2 hsv1)
        have hsv2 := hb2.size
        clear hk2 hrd1 hrq1 hbv1 hi2
        go_wp2_with fail
        have hc := sameTexts_any a1 a2 _ p1 p2 _ HI3.out HI2.out (by rw [List.length_map]; exact HBND.out)
        rw [List.length_map] at hc
        refine hc.mono ?_
        clear hc
        rintro e v3 ⟨rfl, hb3⟩
        have hrq5 := Below.rq hb3 hrq2
        have hrd5 := Below.rd hb3 hrd2
        have hb5 := hb2.trans (hb3.mono hsv2)
        clear hb3 hrq2 hrd2 hb2
        have hs5 := hb5.size
        have hle : (ba (opR (listP textP (bts S)))).size ≤ 400 := by
          rw [ba_size]
          have h1 := op_len (textsP_dec S)
          rw [bts_len] at h1
          omega
        have hinv := op_inv (textsP_dec S) HF.out
        have HINV := Lib.hid hinv
        obtain ⟨S', hS'⟩ : ∃ S', ba (opR (listP textP (bts S))) = S' := ⟨_, rfl⟩
        obtain ⟨f', hf'⟩ : ∃ f', opF f (listP textP (bts S)) = f' := ⟨_, rfl⟩
        rw [hS'] at hle hrd5 hrq5
        rw [hf'] at hrd5 hrq5
        have hinv' : f' = true → S'.size = 0 := by rw [← hS', ← hf']; exact HINV.out
        have HINV' := Lib.hid hinv'
        clear hinv hinv' hS' hf'
        go_wp2_with fail
        refine (left_any rb _ _ _ hrd5).mono ?_
        rintro e w6 ⟨rfl, rfl⟩
        go_wp2_with fail
        refine (qleft_any qb _ _ _ hrq5).mono ?_
        rintro e w6 ⟨rfl, rfl⟩
        go_wp2_with fail
        refine (done_any rb _ _ _ hrd5).mono ?_
        rintro e w6 ⟨rfl, rfl⟩
        go_wp2_with fail
        refine (qdone_any qb _ _ _ hrq5).mono ?_
        rintro e w6 ⟨rfl, rfl⟩
        go_wp2_with fail
        go_roundw
        case rel => exact ⟨k + 1, S', f', by omega, by go_num, hrd5, hrq5, HINV'.out, hle, hb5⟩
        case measure => simp [intOf]; omega
    · have HB := Lib.hid hbr
      clear hbr
      go_wp2_with fail
      refine (rest_any rb _ _ _ hrd).mono ?_
      rintro e v1 ⟨rfl, hrd1, hk1⟩
      have hrq1 := hk1.rq hrq (Ne.symm hne)
      have HB1 := Lib.hid (HB.out.trans (hk1.below hs1 hsr))
      clear hk1
      go_wp2_with fail
      refine (qtail_any qb _ _ _ hrq1).mono ?_
      rintro e v2 ⟨rfl, hrq2, hk2⟩
      have hrd2 := hk2.rd hrd1 hne
      have HB2 := Lib.hid (HB1.out.trans (hk2.below hs2 HB1.out.size))
      clear hk2
      go_wp2_with fail
      refine (left_any rb _ _ _ hrd2).mono ?_
      rw [show (ba []).size = 0 from rfl]
      rintro e v3 ⟨rfl, rfl⟩
      go_wp2_with fail
      refine (qleft_any qb _ _ _ hrq2).mono ?_
      rw [show (ba []).size = 0 from rfl]
      rintro e v3 ⟨rfl, rfl⟩
      go_wp2_with fail
      refine (done_any rb _ _ _ hrd2).mono ?_
      rintro e v3 ⟨rfl, rfl⟩
      go_wp2_with fail
      refine (qdone_any qb _ _ _ hrq2).mono ?_
      rintro e v3 ⟨rfl, rfl⟩
      go_wp2_with fail
      go_ret
      exact ⟨rfl, HB2.out⟩

end Go.Proofs.Ytamjfnpgjcdepaa
