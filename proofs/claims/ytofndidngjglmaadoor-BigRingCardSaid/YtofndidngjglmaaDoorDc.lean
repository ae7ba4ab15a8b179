/- Walks: Read. -/
import Derived.Test.YtofndidngjglmaaDoorDb
namespace Go.Proofs.YtofndidngjglmaaDoor
open Go.RowKit

theorem itoa_ab (z : Int) : Lib.itoa z = (if z < 0 then [45] else []) ++ Lib.decDigits (ab z).toNat := by
  unfold Lib.itoa ab
  split
  · simp
  · rw [List.nil_append]; congr 1; omega

theorem dd_numT (n : Nat) : NumT (Lib.decDigits n) := ⟨dd_all n, dd_ne n, dd_head n⟩
theorem not45 {l : List UInt8} (h : allD l) : Lib.hasPrefix l [45] = false := by
  cases l with
  | nil => rfl
  | cons b l =>
    have hb := h b (List.mem_cons_self ..)
    unfold isD at hb
    unfold Lib.hasPrefix
    simp only [List.isPrefixOf, Bool.and_true]
    rw [beq_eq_false_iff_ne]
    intro e
    rw [← e] at hb
    have : (45 : UInt8).toNat = 45 := rfl
    omega
theorem cut_itoa (z : Int) : Lib.hasPrefix (Lib.itoa z) [45] = decide (z < 0) ∧ Lib.trimPrefix (Lib.itoa z) [45] = Lib.decDigits (ab z).toNat := by
  rw [itoa_ab]
  by_cases h : z < 0
  · rw [if_pos h]
    have h1 : Lib.hasPrefix ([45] ++ Lib.decDigits (ab z).toNat) [45] = true := by
      unfold Lib.hasPrefix; simp [List.isPrefixOf]
    refine ⟨by rw [h1]; simp [h], ?_⟩
    unfold Lib.trimPrefix
    rw [if_pos h1]; rfl
  · rw [if_neg h, List.nil_append]
    have h1 := not45 (dd_all (ab z).toNat)
    refine ⟨by rw [h1]; simp [h], ?_⟩
    unfold Lib.trimPrefix
    rw [h1]; rfl
theorem itoa_of {l : List UInt8} (hd : NumT (Lib.trimPrefix l [45])) (hn : ¬ (Lib.hasPrefix l [45] = true ∧ Lib.trimPrefix l [45] = [48])) : ∃ z, l = Lib.itoa z := by
  obtain ⟨h1, h2, h3⟩ := hd
  have hdd := dd_of h1 h2 h3
  by_cases hp : Lib.hasPrefix l [45] = true
  · have hl : l = 45 :: Lib.trimPrefix l [45] := by
      cases l with
      | nil => cases hp
      | cons b r =>
        unfold Lib.trimPrefix
        rw [if_pos hp]
        unfold Lib.hasPrefix at hp
        simp only [List.isPrefixOf, Bool.and_true, beq_iff_eq] at hp
        rw [← hp]; rfl
    have hne : Lib.trimPrefix l [45] ≠ [48] := fun e => hn ⟨hp, e⟩
    obtain ⟨n, hnn⟩ : ∃ n, dv (Lib.trimPrefix l [45]) = n := ⟨_, rfl⟩
    rw [hnn] at hdd
    have hn0 : n ≠ 0 := fun e => by
      rw [e] at hdd
      exact hne (by rw [← hdd, dd_lt (by omega)]; rfl)
    refine ⟨-(n : Int), ?_⟩
    rw [itoa_ab, if_pos (by omega)]
    have : (ab (-(n : Int))).toNat = n := by unfold ab; omega
    rw [this, hdd]
    exact hl
  · have hl : Lib.trimPrefix l [45] = l := by unfold Lib.trimPrefix; rw [if_neg hp]
    rw [hl] at hdd
    obtain ⟨n, hnn⟩ : ∃ n, dv l = n := ⟨_, rfl⟩
    rw [hnn] at hdd
    refine ⟨(n : Int), ?_⟩
    rw [itoa_ab, if_neg (by omega)]
    have : (ab (n : Int)).toNat = n := by unfold ab; omega
    rw [this, hdd]; rfl

theorem pw60_ten : pw 60 ≤ ((10 ^ 181 * 10 ^ 181 : Nat) : Int) := by
  have h4 : pw 60 = ((1048576 ^ 60 : Nat) : Int) := by unfold pw; rw [Int.natCast_pow]; rfl
  rw [h4]
  exact_mod_cast (by decide : (1048576 : Nat) ^ 60 ≤ 10 ^ 181 * 10 ^ 181)
theorem long_full {z : Int} (h : 362 < (Lib.decDigits (ab z).toNat).length) : ¬ ab z < pw 60 := by
  intro hl
  have h1 : (ab z).toNat < 10 ^ 181 * 10 ^ 181 := by
    have := pw60_ten
    have := ab_nonneg z
    omega
  obtain ⟨m, hm⟩ : ∃ m, 181 = m := ⟨_, rfl⟩
  rw [hm, ← Nat.pow_add] at h1
  have := dd_len_le (k := m + m) (by omega) h1
  omega

def byt (l : List UInt8) : ByteArray := ⟨l.toArray⟩
theorem bts_byt (l : List UInt8) : bts (byt l) = l := by unfold bts byt; simp
theorem byt_size (l : List UInt8) : (byt l).size = l.length := by rw [← bts_len, bts_byt]

set_option maxRecDepth 100000 in
set_option maxHeartbeats 1000000 in
theorem read_num (z : Int) (s : ByteArray) (w : World) (hz : bts s = Lib.itoa z) (hs : s.size ≤ 100000) :
    Calls Tryd.prog 24 #[.string s] w (ResP z w) := by
  obtain ⟨hc1, hc2⟩ := cut_itoa z
  obtain ⟨d, hd⟩ : ∃ d, d = byt (Lib.decDigits (ab z).toNat) := ⟨_, rfl⟩
  have hbd : bts d = Lib.decDigits (ab z).toNat := by rw [hd, bts_byt]
  have hcut := fun w' => Tryd.strings_CutPrefix s ⟨#[45]⟩ w'
  have e1 : s.data.toList = Lib.itoa z := hz
  have e2 : (⟨#[45]⟩ : ByteArray).data.toList = [45] := rfl
  rw [e1, e2, hc1, hc2] at hcut
  have e3 : (⟨(Lib.decDigits (ab z).toNat).toArray⟩ : ByteArray) = d := hd.symm
  rw [e3] at hcut
  have hdl : d.size ≤ s.size := by
    rw [← bts_len, ← bts_len, hbd, hz, itoa_ab, List.length_append]; omega
  have hisn := fun w' => isNumber_any d w' (by omega) true (by simp only [true_iff]; rw [hbd]; exact dd_numT _)
  have hb : ∀ v, Below w.heap.size w (w.alloc (.cells v 24)) := fun v => (Below.refl _ _).alloc (Nat.le_refl _) _
  have HB := Lib.hid hb; clear hb
  have HCUT := Lib.hid hcut; clear hcut
  have HISN := Lib.hid hisn; clear hisn
  have h48 : z < 0 → ¬ d.toList = [48] := fun h e => by
    rw [ByteArray.toList_eq] at e
    have e : bts d = [48] := e
    have h2 := dv_dd (ab z).toNat
    rw [← hbd, e] at h2
    have h3 : dv [48] = 0 := rfl
    unfold ab at h2
    omega
  have H48 := Lib.hid h48; clear h48
  clear e1 e2 e3 hc1 hc2 hz hd
  by_cases hlong : 362 < d.size
  · have hfull := long_full (z := z) (by rw [← hbd, bts_len]; exact hlong)
    have hfz : fitz z = 0 := if_neg hfull
    have hfe : fite z = 6 := if_neg hfull
    unfold ResP
    rw [hfz, hfe]
    clear hfz hfe hfull
    by_cases hneg : z < 0
    · have h48 := H48.out hneg
      have h48' : (d.toList == [48]) = false := by simpa using h48
      go_enter Tryd.func24, Tryd.ntmps24
      go_wp2_with fail
      (with_reducible refine (HCUT.out _).mono ?_)
      rintro e w1 ⟨rfl, rfl⟩
      go_wp2_with fail
      (with_reducible refine (HISN.out _).mono ?_)
      rintro e w1 ⟨rfl, rfl⟩
      go_wp2_with fail
      refine bodyPost_ret (v := .tuple #[.agg #[.int .i64 0, .slice none 0 0], .int .i64 6]) (by simp [results, Tryd.results24, go_sem]) rfl ?_
      exact ⟨_, rfl, BO.zero _ _, HB.out _⟩

    · go_enter Tryd.func24, Tryd.ntmps24
      go_wp2_with fail
      (with_reducible refine (HCUT.out _).mono ?_)
      rintro e w1 ⟨rfl, rfl⟩
      go_wp2_with fail
      (with_reducible refine (HISN.out _).mono ?_)
      rintro e w1 ⟨rfl, rfl⟩
      go_wp2_with fail
      refine bodyPost_ret (v := .tuple #[.agg #[.int .i64 0, .slice none 0 0], .int .i64 6]) (by simp [results, Tryd.results24, go_sem]) rfl ?_
      exact ⟨_, rfl, BO.zero _ _, HB.out _⟩

  · have hpar := fun w' => parse_any d w' (by rw [hbd]; exact dd_all _) (by omega)
    rw [hbd, dv_dd, Int.toNat_of_nonneg (ab_nonneg z)] at hpar
    have HPAR := Lib.hid hpar; clear hpar
    by_cases hneg : z < 0
    · have hft := fun A c w' => fitting_any z (-1) A c w' (fun _ => (sgn_of_neg hneg).symm)
      have HFT := Lib.hid hft; clear hft
      have h48 := H48.out hneg
      have h48' : (d.toList == [48]) = false := by simpa using h48
      go_enter Tryd.func24, Tryd.ntmps24
      go_wp2_with fail
      (with_reducible refine (HCUT.out _).mono ?_)
      rintro e w1 ⟨rfl, rfl⟩
      go_wp2_with fail
      (with_reducible refine (HISN.out _).mono ?_)
      rintro e w1 ⟨rfl, rfl⟩
      go_wp2_with fail
      (with_reducible refine (HPAR.out _).mono ?_)
      rintro e w2 ⟨v2, rfl, hown2, hb2⟩
      obtain ⟨A2, c2, rfl, _, _, _⟩ := hown2.at_
      go_wp2_with fail
      (with_reducible refine (HFT.out _ _ _).mono ?_)
      rintro e w3 ⟨r, rfl, hr, hb3⟩
      have HR := Lib.hid hr
      obtain ⟨s', A', n', c', rfl⟩ := hr.form
      clear hr
      have hB3 := hb2.trans (hb3.mono hb2.size)
      have hbk : Blk w3 w.heap.size 24 #[.int .i64 0, .slice none 0 0] := (Blk.new w 24 _).below hB3 (by simp)
      have q0 : w3.cell? ⟨w.heap.size, 0, none⟩ = some (.int .i64 0) := hbk.cell 0
      have q1 : w3.cell? ⟨w.heap.size, 1, none⟩ = some (.slice none 0 0) := hbk.cell 1
      have f0 := hbk.frozen 0
      have f1 := hbk.frozen 1
      have hbs := hbk.set2 (.int .i64 s') (.slice A' n' c')
      have hd0 := hbs.cell 0
      have hd1 := hbs.cell 1
      simp at hd0 hd1
      have hb03 := (HB.out _).trans (hB3.mono (by simp))
      have hB6 := (hb03.setCell (p := ⟨w.heap.size, 0, none⟩) (Nat.le_refl _) (.int .i64 s')).setCell (p := ⟨w.heap.size, 1, none⟩) (Nat.le_refl _) (.slice A' n' c')
      go_wp2_with fail
      refine bodyPost_ret (v := .tuple #[.agg #[.int .i64 s', .slice A' n' c'], .int .i64 (fite z)]) (by simp [results, Tryd.results24, go_sem, hd0, hd1]) rfl ?_
      have hof := (hown2.below hb3).far2 (g := w.heap.size) (by simp) (.int .i64 s') (.slice A' n' c')
      exact ⟨_, rfl, HR.out.fito (hof.mono (by simp)), hB6⟩

    · have hft := fun A c w' => fitting_any z 1 A c w' (fun h => (sgn_pos (by omega)).symm)
      have HFT := Lib.hid hft; clear hft
      go_enter Tryd.func24, Tryd.ntmps24
      go_wp2_with fail
      (with_reducible refine (HCUT.out _).mono ?_)
      rintro e w1 ⟨rfl, rfl⟩
      go_wp2_with fail
      (with_reducible refine (HISN.out _).mono ?_)
      rintro e w1 ⟨rfl, rfl⟩
      go_wp2_with fail
      (with_reducible refine (HPAR.out _).mono ?_)
      rintro e w2 ⟨v2, rfl, hown2, hb2⟩
      obtain ⟨A2, c2, rfl, _, _, _⟩ := hown2.at_
      go_wp2_with fail
      (with_reducible refine (HFT.out _ _ _).mono ?_)
      rintro e w3 ⟨r, rfl, hr, hb3⟩
      have HR := Lib.hid hr
      obtain ⟨s', A', n', c', rfl⟩ := hr.form
      clear hr
      have hB3 := hb2.trans (hb3.mono hb2.size)
      have hbk : Blk w3 w.heap.size 24 #[.int .i64 0, .slice none 0 0] := (Blk.new w 24 _).below hB3 (by simp)
      have q0 : w3.cell? ⟨w.heap.size, 0, none⟩ = some (.int .i64 0) := hbk.cell 0
      have q1 : w3.cell? ⟨w.heap.size, 1, none⟩ = some (.slice none 0 0) := hbk.cell 1
      have f0 := hbk.frozen 0
      have f1 := hbk.frozen 1
      have hbs := hbk.set2 (.int .i64 s') (.slice A' n' c')
      have hd0 := hbs.cell 0
      have hd1 := hbs.cell 1
      simp at hd0 hd1
      have hb03 := (HB.out _).trans (hB3.mono (by simp))
      have hB6 := (hb03.setCell (p := ⟨w.heap.size, 0, none⟩) (Nat.le_refl _) (.int .i64 s')).setCell (p := ⟨w.heap.size, 1, none⟩) (Nat.le_refl _) (.slice A' n' c')
      go_wp2_with fail
      refine bodyPost_ret (v := .tuple #[.agg #[.int .i64 s', .slice A' n' c'], .int .i64 (fite z)]) (by simp [results, Tryd.results24, go_sem, hd0, hd1]) rfl ?_
      have hof := (hown2.below hb3).far2 (g := w.heap.size) (by simp) (.int .i64 s') (.slice A' n' c')
      exact ⟨_, rfl, HR.out.fito (hof.mono (by simp)), hB6⟩


set_option maxRecDepth 100000 in
set_option maxHeartbeats 1000000 in
theorem read_bad (s : ByteArray) (w : World) (hz : ∀ z, bts s ≠ Lib.itoa z) (hs : s.size ≤ 100000) :
    Calls Tryd.prog 24 #[.string s] w fun e w' => ∃ r, e = .returned (.tuple #[r, .int .i64 2]) ∧ BO w' w.heap.size r 0 ∧ Below w.heap.size w w' := by
  obtain ⟨d, hd⟩ : ∃ d, d = byt (Lib.trimPrefix (bts s) [45]) := ⟨_, rfl⟩
  have hbd : bts d = Lib.trimPrefix (bts s) [45] := by rw [hd, bts_byt]
  obtain ⟨ng, hng⟩ : ∃ b, Lib.hasPrefix (bts s) [45] = b := ⟨_, rfl⟩
  have hcut := fun w' => Tryd.strings_CutPrefix s ⟨#[45]⟩ w'
  have e1 : s.data.toList = bts s := rfl
  have e2 : (⟨#[45]⟩ : ByteArray).data.toList = [45] := rfl
  have e3 : (⟨(Lib.trimPrefix (bts s) [45]).toArray⟩ : ByteArray) = d := hd.symm
  rw [e1, e2, hng, e3] at hcut
  have hdl : d.size ≤ s.size := by
    rw [← bts_len, ← bts_len, hbd]
    unfold Lib.trimPrefix
    split
    · rw [List.length_drop]; omega
    · exact Nat.le_refl _
  have hb : ∀ v, Below w.heap.size w (w.alloc (.cells v 24)) := fun v => (Below.refl _ _).alloc (Nat.le_refl _) _
  have HB := Lib.hid hb; clear hb
  have HCUT := Lib.hid hcut; clear hcut
  by_cases hnum : NumT (bts d)
  · have hneg : ng = true ∧ bts d = [48] := by
      rcases Classical.em (ng = true ∧ bts d = [48]) with h | h
      · exact h
      · rw [hbd] at hnum h
        rw [← hng] at h
        obtain ⟨z, hzz⟩ := itoa_of hnum h
        exact absurd hzz (hz z)
    have hisn := fun w' => isNumber_any d w' (by omega) true (by simp only [true_iff]; exact hnum)
    have HISN := Lib.hid hisn; clear hisn
    have h48 : d.toList = [48] := by rw [ByteArray.toList_eq]; exact hneg.2
    have hn := hneg.1
    subst hn
    have h48' : (d.toList == [48]) = true := by simpa using h48
    clear e1 e2 e3 hz hd hbd hng hnum hneg
    go_enter Tryd.func24, Tryd.ntmps24
    go_wp2_with fail
    (with_reducible refine (HCUT.out _).mono ?_)
    rintro e w1 ⟨rfl, rfl⟩
    go_wp2_with fail
    (with_reducible refine (HISN.out _).mono ?_)
    rintro e w1 ⟨rfl, rfl⟩
    go_wp2_with fail
    refine bodyPost_ret (v := .tuple #[.agg #[.int .i64 0, .slice none 0 0], .int .i64 2]) (by simp [results, Tryd.results24, go_sem]) rfl ?_
    exact ⟨_, rfl, BO.zero _ _, HB.out _⟩

  · have hisn := fun w' => isNumber_any d w' (by omega) false (by simp only [Bool.false_eq_true, false_iff]; exact hnum)
    have HISN := Lib.hid hisn; clear hisn
    clear e1 e2 e3 hz hd hbd hng hnum
    go_enter Tryd.func24, Tryd.ntmps24
    go_wp2_with fail
    (with_reducible refine (HCUT.out _).mono ?_)
    rintro e w1 ⟨rfl, rfl⟩
    go_wp2_with fail
    (with_reducible refine (HISN.out _).mono ?_)
    rintro e w1 ⟨rfl, rfl⟩
    go_wp2_with fail
    refine bodyPost_ret (v := .tuple #[.agg #[.int .i64 0, .slice none 0 0], .int .i64 2]) (by simp [results, Tryd.results24, go_sem]) rfl ?_
    exact ⟨_, rfl, BO.zero _ _, HB.out _⟩

end Go.Proofs.YtofndidngjglmaaDoor
