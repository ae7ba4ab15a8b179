/- Walks: Read. Walks: the library's calls that text makes, at a slice of strings of the call's own. What the laws' condition on laid variables gives: the table of Itoa; and a world that meets it. -/
import Derived.Test.YtbhdkgieahnojaaGreatDoorXag
import Derived.Lib.AppendIntMem
import Derived.Sort.OwnSorted
import Derived.Deep.LoopGhost
import Derived.ProofKit
import Derived.LaidMore
import Derived.OpenShut
import Derived.Stop.Joined

namespace Go.Proofs.YtbhdkgieahnojaaGreatDoor
open Go.RowKit

theorem itoa_ab (z : Int) : Lib.itoa z = (if z < 0 then [45] else []) ++ Lib.decDigits (ab z).toNat := by
  unfold Lib.itoa ab
  split
  · simp
  · rw [List.nil_append]; congr 1; omega

theorem dd_numT (n : Nat) : NumT (Lib.decDigits n) := ⟨dd_all n, dd_ne n, dd_head n⟩
theorem not45 {l : List UInt8} (h : allD l) : Lib.hasPrefix l [45] = false := by
  cases l with
  | nil => rfl
  | cons b l =>
    have hb := h b (List.mem_cons_self ..)
    unfold isD at hb
    unfold Lib.hasPrefix
    simp only [List.isPrefixOf, Bool.and_true]
    rw [beq_eq_false_iff_ne]
    intro e
    rw [← e] at hb
    have : (45 : UInt8).toNat = 45 := rfl
    omega
theorem cut_itoa (z : Int) : Lib.hasPrefix (Lib.itoa z) [45] = decide (z < 0) ∧ Lib.trimPrefix (Lib.itoa z) [45] = Lib.decDigits (ab z).toNat := by
  rw [itoa_ab]
  by_cases h : z < 0
  · rw [if_pos h]
    have h1 : Lib.hasPrefix ([45] ++ Lib.decDigits (ab z).toNat) [45] = true := by
      unfold Lib.hasPrefix; simp [List.isPrefixOf]
    refine ⟨by rw [h1]; simp [h], ?_⟩
    unfold Lib.trimPrefix
    rw [if_pos h1]; rfl
  · rw [if_neg h, List.nil_append]
    have h1 := not45 (dd_all (ab z).toNat)
    refine ⟨by rw [h1]; simp [h], ?_⟩
    unfold Lib.trimPrefix
    rw [h1]; rfl
theorem itoa_of {l : List UInt8} (hd : NumT (Lib.trimPrefix l [45])) (hn : ¬ (Lib.hasPrefix l [45] = true ∧ Lib.trimPrefix l [45] = [48])) : ∃ z, l = Lib.itoa z := by
  obtain ⟨h1, h2, h3⟩ := hd
  have hdd := dd_of h1 h2 h3
  by_cases hp : Lib.hasPrefix l [45] = true
  · have hl : l = 45 :: Lib.trimPrefix l [45] := by
      cases l with
      | nil => cases hp
      | cons b r =>
        unfold Lib.trimPrefix
        rw [if_pos hp]
        unfold Lib.hasPrefix at hp
        simp only [List.isPrefixOf, Bool.and_true, beq_iff_eq] at hp
        rw [← hp]; rfl
    have hne : Lib.trimPrefix l [45] ≠ [48] := fun e => hn ⟨hp, e⟩
    obtain ⟨n, hnn⟩ : ∃ n, dv (Lib.trimPrefix l [45]) = n := ⟨_, rfl⟩
    rw [hnn] at hdd
    have hn0 : n ≠ 0 := fun e => by
      rw [e] at hdd
      exact hne (by rw [← hdd, dd_lt (by omega)]; rfl)
    refine ⟨-(n : Int), ?_⟩
    rw [itoa_ab, if_pos (by omega)]
    have : (ab (-(n : Int))).toNat = n := by unfold ab; omega
    rw [this, hdd]
    exact hl
  · have hl : Lib.trimPrefix l [45] = l := by unfold Lib.trimPrefix; rw [if_neg hp]
    rw [hl] at hdd
    obtain ⟨n, hnn⟩ : ∃ n, dv l = n := ⟨_, rfl⟩
    rw [hnn] at hdd
    refine ⟨(n : Int), ?_⟩
    rw [itoa_ab, if_neg (by omega)]
    have : (ab (n : Int)).toNat = n := by unfold ab; omega
    rw [this, hdd]; rfl

theorem pw60_ten : pw 60 ≤ ((10 ^ 181 * 10 ^ 181 : Nat) : Int) := by
  have h4 : pw 60 = ((1048576 ^ 60 : Nat) : Int) := by unfold pw; rw [Int.natCast_pow]; rfl
  rw [h4]
  exact_mod_cast (by decide : (1048576 : Nat) ^ 60 ≤ 10 ^ 181 * 10 ^ 181)
theorem long_full {z : Int} (h : 362 < (Lib.decDigits (ab z).toNat).length) : ¬ ab z < pw 60 := by
  intro hl
  have h1 : (ab z).toNat < 10 ^ 181 * 10 ^ 181 := by
    have := pw60_ten
    have := ab_nonneg z
    omega
  obtain ⟨m, hm⟩ : ∃ m, 181 = m := ⟨_, rfl⟩
  rw [hm, ← Nat.pow_add] at h1
  have := dd_len_le (k := m + m) (by omega) h1
  omega

def byt (l : List UInt8) : ByteArray := ⟨l.toArray⟩
theorem bts_byt (l : List UInt8) : bts (byt l) = l := by unfold bts byt; simp
theorem byt_size (l : List UInt8) : (byt l).size = l.length := by rw [← bts_len, bts_byt]

set_option maxRecDepth 100000 in
set_option maxHeartbeats 1000000 in
theorem read_num (z : Int) (s : ByteArray) (w : World) (hz : bts s = Lib.itoa z) (hs : s.size ≤ 100000) :
    Calls Tryz.prog 22 #[.string s] w (ResP z w) := by
  obtain ⟨hc1, hc2⟩ := cut_itoa z
  obtain ⟨d, hd⟩ : ∃ d, d = byt (Lib.decDigits (ab z).toNat) := ⟨_, rfl⟩
  have hbd : bts d = Lib.decDigits (ab z).toNat := by rw [hd, bts_byt]
  have hcut := fun w' => Tryz.strings_CutPrefix s ⟨#[45]⟩ w'
  have e1 : s.data.toList = Lib.itoa z := hz
  have e2 : (⟨#[45]⟩ : ByteArray).data.toList = [45] := rfl
  rw [e1, e2, hc1, hc2] at hcut
  have e3 : (⟨(Lib.decDigits (ab z).toNat).toArray⟩ : ByteArray) = d := hd.symm
  rw [e3] at hcut
  have hdl : d.size ≤ s.size := by
    rw [← bts_len, ← bts_len, hbd, hz, itoa_ab, List.length_append]; omega
  have hisn := fun w' => isNumber_any d w' (by omega) true (by simp only [true_iff]; rw [hbd]; exact dd_numT _)
  have hb : ∀ v, Below w.heap.size w (w.alloc (.cells v 24)) := fun v => (Below.refl _ _).alloc (Nat.le_refl _) _
  have HB := Lib.hid hb; clear hb
  have HCUT := Lib.hid hcut; clear hcut
  have HISN := Lib.hid hisn; clear hisn
  have h48 : z < 0 → ¬ d.toList = [48] := fun h e => by
    rw [ByteArray.toList_eq] at e
    have e : bts d = [48] := e
    have h2 := dv_dd (ab z).toNat
    rw [← hbd, e] at h2
    have h3 : dv [48] = 0 := rfl
    unfold ab at h2
    omega
  have H48 := Lib.hid h48; clear h48
  clear e1 e2 e3 hc1 hc2 hz hd
  by_cases hlong : 362 < d.size
  · have hfull := long_full (z := z) (by rw [← hbd, bts_len]; exact hlong)
    have hfz : fitz z = 0 := if_neg hfull
    have hfe : fite z = 6 := if_neg hfull
    unfold ResP
    rw [hfz, hfe]
    clear hfz hfe hfull
    by_cases hneg : z < 0
    · have h48 := H48.out hneg
      have h48' : (d.toList == [48]) = false := by simpa using h48
      go_enter Tryz.func22, Tryz.ntmps22
      go_wp2_with fail
      (with_reducible refine (HCUT.out _).mono ?_)
      rintro e w1 ⟨rfl, rfl⟩
      go_wp2_with fail
      (with_reducible refine (HISN.out _).mono ?_)
      rintro e w1 ⟨rfl, rfl⟩
      go_wp2_with fail
      refine bodyPost_ret (v := .tuple #[.agg #[.int .i64 0, .slice none 0 0], .int .i64 6]) (by simp [results, Tryz.results22, go_sem]) rfl ?_
      exact ⟨_, rfl, BO.zero _ _, HB.out _⟩

    · go_enter Tryz.func22, Tryz.ntmps22
      go_wp2_with fail
      (with_reducible refine (HCUT.out _).mono ?_)
      rintro e w1 ⟨rfl, rfl⟩
      go_wp2_with fail
      (with_reducible refine (HISN.out _).mono ?_)
      rintro e w1 ⟨rfl, rfl⟩
      go_wp2_with fail
      refine bodyPost_ret (v := .tuple #[.agg #[.int .i64 0, .slice none 0 0], .int .i64 6]) (by simp [results, Tryz.results22, go_sem]) rfl ?_
      exact ⟨_, rfl, BO.zero _ _, HB.out _⟩

  · have hpar := fun w' => parse_any d w' (by rw [hbd]; exact dd_all _) (by omega)
    rw [hbd, dv_dd, Int.toNat_of_nonneg (ab_nonneg z)] at hpar
    have HPAR := Lib.hid hpar; clear hpar
    by_cases hneg : z < 0
    · have hft := fun A c w' => fitting_any z (-1) A c w' (fun _ => (sgn_of_neg hneg).symm)
      have HFT := Lib.hid hft; clear hft
      have h48 := H48.out hneg
      have h48' : (d.toList == [48]) = false := by simpa using h48
      go_enter Tryz.func22, Tryz.ntmps22
      go_wp2_with fail
      (with_reducible refine (HCUT.out _).mono ?_)
      rintro e w1 ⟨rfl, rfl⟩
      go_wp2_with fail
      (with_reducible refine (HISN.out _).mono ?_)
      rintro e w1 ⟨rfl, rfl⟩
      go_wp2_with fail
      (with_reducible refine (HPAR.out _).mono ?_)
      rintro e w2 ⟨v2, rfl, hown2, hb2⟩
      obtain ⟨A2, c2, rfl, _, _, _⟩ := hown2.at_
      go_wp2_with fail
      (with_reducible refine (HFT.out _ _ _).mono ?_)
      rintro e w3 ⟨r, rfl, hr, hb3⟩
      have HR := Lib.hid hr
      obtain ⟨s', A', n', c', rfl⟩ := hr.form
      clear hr
      have hB3 := hb2.trans (hb3.mono hb2.size)
      have hbk : Blk w3 w.heap.size 24 #[.int .i64 0, .slice none 0 0] := (Blk.new w 24 _).below hB3 (by simp)
      have q0 : w3.cell? ⟨w.heap.size, 0, none⟩ = some (.int .i64 0) := hbk.cell 0
      have q1 : w3.cell? ⟨w.heap.size, 1, none⟩ = some (.slice none 0 0) := hbk.cell 1
      have f0 := hbk.frozen 0
      have f1 := hbk.frozen 1
      have hbs := hbk.set2 (.int .i64 s') (.slice A' n' c')
      have hd0 := hbs.cell 0
      have hd1 := hbs.cell 1
      simp at hd0 hd1
      have hb03 := (HB.out _).trans (hB3.mono (by simp))
      have hB6 := (hb03.setCell (p := ⟨w.heap.size, 0, none⟩) (Nat.le_refl _) (.int .i64 s')).setCell (p := ⟨w.heap.size, 1, none⟩) (Nat.le_refl _) (.slice A' n' c')
      go_wp2_with fail
      refine bodyPost_ret (v := .tuple #[.agg #[.int .i64 s', .slice A' n' c'], .int .i64 (fite z)]) (by simp [results, Tryz.results22, go_sem, hd0, hd1]) rfl ?_
      have hof := (hown2.below hb3).far2 (g := w.heap.size) (by simp) (.int .i64 s') (.slice A' n' c')
      exact ⟨_, rfl, HR.out.fito (hof.mono (by simp)), hB6⟩

    · have hft := fun A c w' => fitting_any z 1 A c w' (fun h => (sgn_pos (by omega)).symm)
      have HFT := Lib.hid hft; clear hft
      go_enter Tryz.func22, Tryz.ntmps22
      go_wp2_with fail
      (with_reducible refine (HCUT.out _).mono ?_)
      rintro e w1 ⟨rfl, rfl⟩
      go_wp2_with fail
      (with_reducible refine (HISN.out _).mono ?_)
      rintro e w1 ⟨rfl, rfl⟩
      go_wp2_with fail
      (with_reducible refine (HPAR.out _).mono ?_)
      rintro e w2 ⟨v2, rfl, hown2, hb2⟩
      obtain ⟨A2, c2, rfl, _, _, _⟩ := hown2.at_
      go_wp2_with fail
      (with_reducible refine (HFT.out _ _ _).mono ?_)
      rintro e w3 ⟨r, rfl, hr, hb3⟩
      have HR := Lib.hid hr
      obtain ⟨s', A', n', c', rfl⟩ := hr.form
      clear hr
      have hB3 := hb2.trans (hb3.mono hb2.size)
      have hbk : Blk w3 w.heap.size 24 #[.int .i64 0, .slice none 0 0] := (Blk.new w 24 _).below hB3 (by simp)
      have q0 : w3.cell? ⟨w.heap.size, 0, none⟩ = some (.int .i64 0) := hbk.cell 0
      have q1 : w3.cell? ⟨w.heap.size, 1, none⟩ = some (.slice none 0 0) := hbk.cell 1
      have f0 := hbk.frozen 0
      have f1 := hbk.frozen 1
      have hbs := hbk.set2 (.int .i64 s') (.slice A' n' c')
      have hd0 := hbs.cell 0
      have hd1 := hbs.cell 1
      simp at hd0 hd1
      have hb03 := (HB.out _).trans (hB3.mono (by simp))
      have hB6 := (hb03.setCell (p := ⟨w.heap.size, 0, none⟩) (Nat.le_refl _) (.int .i64 s')).setCell (p := ⟨w.heap.size, 1, none⟩) (Nat.le_refl _) (.slice A' n' c')
      go_wp2_with fail
      refine bodyPost_ret (v := .tuple #[.agg #[.int .i64 s', .slice A' n' c'], .int .i64 (fite z)]) (by simp [results, Tryz.results22, go_sem, hd0, hd1]) rfl ?_
      have hof := (hown2.below hb3).far2 (g := w.heap.size) (by simp) (.int .i64 s') (.slice A' n' c')
      exact ⟨_, rfl, HR.out.fito (hof.mono (by simp)), hB6⟩


set_option maxRecDepth 100000 in
set_option maxHeartbeats 1000000 in
theorem read_bad (s : ByteArray) (w : World) (hz : ∀ z, bts s ≠ Lib.itoa z) (hs : s.size ≤ 100000) :
    Calls Tryz.prog 22 #[.string s] w fun e w' => ∃ r, e = .returned (.tuple #[r, .int .i64 2]) ∧ BO w' w.heap.size r 0 ∧ Below w.heap.size w w' := by
  obtain ⟨d, hd⟩ : ∃ d, d = byt (Lib.trimPrefix (bts s) [45]) := ⟨_, rfl⟩
  have hbd : bts d = Lib.trimPrefix (bts s) [45] := by rw [hd, bts_byt]
  obtain ⟨ng, hng⟩ : ∃ b, Lib.hasPrefix (bts s) [45] = b := ⟨_, rfl⟩
  have hcut := fun w' => Tryz.strings_CutPrefix s ⟨#[45]⟩ w'
  have e1 : s.data.toList = bts s := rfl
  have e2 : (⟨#[45]⟩ : ByteArray).data.toList = [45] := rfl
  have e3 : (⟨(Lib.trimPrefix (bts s) [45]).toArray⟩ : ByteArray) = d := hd.symm
  rw [e1, e2, hng, e3] at hcut
  have hdl : d.size ≤ s.size := by
    rw [← bts_len, ← bts_len, hbd]
    unfold Lib.trimPrefix
    split
    · rw [List.length_drop]; omega
    · exact Nat.le_refl _
  have hb : ∀ v, Below w.heap.size w (w.alloc (.cells v 24)) := fun v => (Below.refl _ _).alloc (Nat.le_refl _) _
  have HB := Lib.hid hb; clear hb
  have HCUT := Lib.hid hcut; clear hcut
  by_cases hnum : NumT (bts d)
  · have hneg : ng = true ∧ bts d = [48] := by
      rcases Classical.em (ng = true ∧ bts d = [48]) with h | h
      · exact h
      · rw [hbd] at hnum h
        rw [← hng] at h
        obtain ⟨z, hzz⟩ := itoa_of hnum h
        exact absurd hzz (hz z)
    have hisn := fun w' => isNumber_any d w' (by omega) true (by simp only [true_iff]; exact hnum)
    have HISN := Lib.hid hisn; clear hisn
    have h48 : d.toList = [48] := by rw [ByteArray.toList_eq]; exact hneg.2
    have hn := hneg.1
    subst hn
    have h48' : (d.toList == [48]) = true := by simpa using h48
    clear e1 e2 e3 hz hd hbd hng hnum hneg
    go_enter Tryz.func22, Tryz.ntmps22
    go_wp2_with fail
    (with_reducible refine (HCUT.out _).mono ?_)
    rintro e w1 ⟨rfl, rfl⟩
    go_wp2_with fail
    (with_reducible refine (HISN.out _).mono ?_)
    rintro e w1 ⟨rfl, rfl⟩
    go_wp2_with fail
    refine bodyPost_ret (v := .tuple #[.agg #[.int .i64 0, .slice none 0 0], .int .i64 2]) (by simp [results, Tryz.results22, go_sem]) rfl ?_
    exact ⟨_, rfl, BO.zero _ _, HB.out _⟩

  · have hisn := fun w' => isNumber_any d w' (by omega) false (by simp only [Bool.false_eq_true, false_iff]; exact hnum)
    have HISN := Lib.hid hisn; clear hisn
    clear e1 e2 e3 hz hd hbd hng hnum
    go_enter Tryz.func22, Tryz.ntmps22
    go_wp2_with fail
    (with_reducible refine (HCUT.out _).mono ?_)
    rintro e w1 ⟨rfl, rfl⟩
    go_wp2_with fail
    (with_reducible refine (HISN.out _).mono ?_)
    rintro e w1 ⟨rfl, rfl⟩
    go_wp2_with fail
    refine bodyPost_ret (v := .tuple #[.agg #[.int .i64 0, .slice none 0 0], .int .i64 2]) (by simp [results, Tryz.results22, go_sem]) rfl ?_
    exact ⟨_, rfl, BO.zero _ _, HB.out _⟩

end Go.Proofs.YtbhdkgieahnojaaGreatDoor

namespace Go.Proofs.YtbhdkgieahnojaaGreatDoor
open Go.RowKit

/-- The table that Itoa reads. -/
def TB (w : World) : Prop := Lib.TabIs Tryz.prog w "internal/strconv.uint64pow10" .u64 Lib.pow10Tab
theorem TB.below {w w' : World} (h : TB w) (hb : Below w.heap.size w w') : TB w' := by
  unfold TB Lib.TabIs World.var? at *
  cases hg : Tryz.prog.globalNamed "internal/strconv.uint64pow10" with
  | none => rw [hg] at h; cases h
  | some g =>
    rw [hg] at h
    simp only [Option.bind_some] at h ⊢
    have hlt : g < w.heap.size := by
      rcases Nat.lt_or_ge g w.heap.size with h' | h'
      · exact h'
      · rw [Array.getElem?_eq_none h'] at h; cases h
    rw [hb.block g hlt]; exact h

/-- A string as a value. -/
def strV (l : List UInt8) : Value := .string (byt l)

theorem Tryz.info9 : (Tryz.prog.info? 9).map (fun i => (i.zero, i.size, i.bytes)) = some (some (.string ByteArray.empty), 1, 16) := by kernel_rfl

/-- A slice of strings that is owned from block B on. -/
def OwnS (w : World) (B : Nat) (v : Value) (l : List (List UInt8)) : Prop := w.ownsRow B 9 1 v l.length (l.map strV)
theorem OwnS.nil (w : World) (B : Nat) : OwnS w B (.slice none 0 0) [] := World.ownsRow_nil w B 9 1
theorem OwnS.below {w w' : World} {B : Nat} {v : Value} {l : List (List UInt8)} (h : OwnS w B v l) (hb : Below w.heap.size w w') : OwnS w' B v l :=
  World.ownsRow.kept (row := none) h ⟨hb.os, hb.tape, hb.output, hb.size, fun k hk _ => hb.block k hk⟩ (by cases v.ownBlock <;> simp)
theorem OwnI.away {w : World} {B B' : Nat} {u v : Value} {m : List Int} {l : List (List UInt8)} (h : OwnI w B u m) (h' : OwnS w B' v l) : u.ownBlock = none ∨ u.ownBlock ≠ v.ownBlock := by
  rcases h.2 with ⟨rfl, _⟩ | ⟨g, cap, cur, rfl, _, hg, _⟩
  · exact .inl rfl
  · right
    rcases h'.2 with ⟨rfl, _⟩ | ⟨g', cap', cur', rfl, _, hg', _⟩
    · intro e; cases e
    · intro e
      have e : g = g' := Option.some.inj e
      subst e
      rw [hg] at hg'
      cases hg'

theorem app1s {w : World} {ops : Array Oper} {rest : List Oper} {o : Oper} {a : Act} {Q : Exit → Act → World → Prop} (hgd : o.guard = none) (s x : Operand)
    (ho : o.op = .call { callee := .builtin .append, args := #[s, x], argTypes := #[81, 81] })
    (B : Nat) (v : Value) (l : List (List UInt8)) (c : List UInt8) (C : ByteArray) (hC : C = byt c) (hs : a.eval s = v) (hown : OwnS w B v l)
    (hx : a.eval x = .slice (some ⟨w.heap.size, 0, none⟩) 1 1) (hb : l.length ≤ 10000000) (hbase : B ≤ w.heap.size)
    (h : ∀ v' w', OwnS w' B v' (l ++ [c]) → Below B w w' → (∀ B2 u m, OwnI w B2 u m → OwnI w' B2 u m) → wpList Tryz.prog ops Q rest (a.put o.dst v') w') : wpList Tryz.prog ops Q (o :: rest) a (w.alloc (.cells #[.string C] 9)) := by
  subst hC
  obtain ⟨i0, hi, hz0, hz1, hz2⟩ := info_parts Tryz.info9
  refine wpList_append_own _ hgd s x 81 ho B 9 i0 (.string ByteArray.empty) 1 16 Tryz.underlying81 hi hz0 hz1 hz2 rfl (by decide) _ _ _ hs (World.ownsRow.alloc hown _) ⟨w.heap.size, 0, none⟩ 1 1 [.string (byt c)] hx rfl ?_ ?_ ?_ ?_ ?_ ?_
  · intro j u hj; match j, hj with | 0, hj => simp at hj; subst hj; simp [Addr.add]
  · intro u hu; simp at hu; subst hu; rfl
  · unfold maxLen; omega
  · omega
  · simp; omega
  · intro v' w1 hown' hgrow _
    refine h v' w1 ?_ ?_ ?_
    · unfold OwnS
      rw [List.map_append, List.length_append]
      exact hown'
    · exact ((Below.refl B w).alloc hbase _).grown hgrow (by simp; omega) (fun k hk => (World.ownsRow.lt hown k hk).1)
    · intro B2 u m hI
      have hI' : OwnI (w.alloc (.cells #[.string (byt c)] 9)) B2 u m := hI.below ((Below.refl _ w).alloc (Nat.le_refl _) _)
      exact World.ownsRow.kept hI' hgrow (OwnI.away hI hown)

theorem itoa_call (m : Int) (h0 : 0 ≤ m) (h1 : m ≤ 1099511627776) (w : World) (ht : TB w) :
    Calls Tryz.prog 90 #[.int .i64 m] w fun e w' => e = .returned (.string (byt (Lib.decDigits m.toNat))) ∧ Below w.heap.size w w' := by
  refine (Tryz.strconv_Itoa m (by omega) (by omega) w ht).mono ?_
  rintro e w' ⟨rfl, k, os, rfl⟩
  refine ⟨?_, Lib.below_grow _ w (Nat.le_refl _) k os⟩
  unfold Lib.itoa byt
  rw [if_neg (by omega)]

theorem repeatL_one (c : UInt8) (n : Nat) : Lib.repeatL [c] n = List.replicate n c := by
  induction n with
  | zero => rfl
  | succ n ih => rw [Lib.repeatL, ih, List.replicate_succ]; rfl

theorem repeat_call (S : ByteArray) (hS : S.size ≤ 12) (w : World) :
    Calls Tryz.prog 91 #[.string ⟨#[48]⟩, .int .i64 (12 - (S.size : Int))] w fun e w' => e = .returned (.string (byt (List.replicate (12 - S.size) 48))) ∧ Below w.heap.size w w' := by
  have h := Tryz.strings_Repeat ⟨#[48]⟩ (12 - S.size) w (by omega) (by
    have : (⟨#[48]⟩ : ByteArray).size = 1 := rfl
    rw [this]; omega)
  have e : ((12 - S.size : Nat) : Int) = 12 - (S.size : Int) := by omega
  rw [e] at h
  refine h.mono ?_
  rintro e w' ⟨rfl, hb⟩
  refine ⟨?_, hb⟩
  have : (⟨#[48]⟩ : ByteArray).data.toList = [48] := rfl
  rw [this, repeatL_one]
  rfl

theorem strV_enc : strV = encStr := rfl

theorem reverse_call {w : World} {B : Nat} {v : Value} {l : List (List UInt8)} (h : OwnS w B v l) (hl : l.length ≤ 10000000) :
    Calls Tryz.prog 92 #[v] w fun e w' => e = .returned (.tuple #[]) ∧ OwnS w' B v l.reverse ∧ Below B w w' := by
  rcases h.2 with ⟨rfl, hn⟩ | ⟨g, cap, cur, rfl, hb, hg, h1, h2, h3, h4⟩
  · have : l = [] := List.eq_nil_of_length_eq_zero hn
    subst this
    refine (Tryz.slices_Reverse_string_empty none 0 w).mono ?_
    rintro e w' ⟨rfl, rfl⟩
    exact ⟨rfl, OwnS.nil _ _, Below.refl _ _⟩
  · rw [Nat.mul_one, strV_enc] at h4
    refine (Tryz.slices_Reverse_string g 0 cap l w (holds_of_block hg h4) (by omega)).mono ?_
    rintro e w' ⟨rfl, n, rfl⟩
    refine ⟨rfl, ?_, ?_⟩
    · have := ownsRow_sorted (n := n) (os := #[]) (ss := l) (ts := l.reverse) (by simp) hb hg h1 h2 h3
      rw [Sort.grow_empty] at this
      unfold OwnS
      rw [strV_enc, List.length_reverse]
      exact this
    · have := (Below.refl B w).grown (grownBy_sorted (n := n) (w := w) (g := g) (os := #[]) l.reverse.toArray) (by have := (Array.getElem?_eq_some_iff.1 hg).1; omega) (fun k hk => by cases hk; exact hb)
      rw [Sort.grow_empty] at this
      exact this

theorem join_flat (xs : List (List UInt8)) : Lib.join xs [] = xs.flatten := by
  induction xs with
  | nil => rfl
  | cons x r ih =>
    cases r with
    | nil => rw [Lib.join_one]; simp
    | cons y r =>
      unfold Lib.join at *
      rw [List.flatten_cons, ← ih]
      simp [List.intercalate]

theorem join_call {w : World} {B : Nat} {v : Value} {l : List (List UInt8)} (h : OwnS w B v l) (hl : l.length ≤ 10000000) (h0 : l ≠ []) (hf : l.flatten.length ≤ 1000000) :
    Calls Tryz.prog 93 #[v, .string ⟨#[]⟩] w fun e w' => e = .returned (.string (byt l.flatten)) ∧ Below w.heap.size w w' := by
  rcases h.2 with ⟨rfl, hn⟩ | ⟨g, cap, cur, rfl, hb, hg, h1, h2, h3, h4⟩
  · exact absurd (List.eq_nil_of_length_eq_zero hn) h0
  · have e1 : (l.map byt).map (·.data.toList) = l := by
      rw [List.map_map]
      have : ((fun x : ByteArray => x.data.toList) ∘ byt) = id := by funext x; exact bts_byt x
      rw [this, List.map_id]
    have e2 : (⟨#[]⟩ : ByteArray).data.toList = [] := rfl
    have hj : Lib.join ((l.map byt).map (·.data.toList)) (⟨#[]⟩ : ByteArray).data.toList = l.flatten := by rw [e1, e2, join_flat]
    have hc := Tryz.strings_Join g 0 cap (l.map byt) ⟨#[]⟩ w (by
      intro j x hx
      rw [List.getElem?_map] at hx
      cases hlj : l[j]? with
      | none => rw [hlj] at hx; cases hx
      | some y =>
        rw [hlj] at hx
        have hx : byt y = x := Option.some.inj hx
        have hjl : j < l.length := by rcases Nat.lt_or_ge j l.length with h | h; exact h; rw [List.getElem?_eq_none h] at hlj; cases hlj
        have := (holds_of_block hg (by rw [Nat.mul_one, strV_enc] at h4; exact h4) j (by simpa using hjl)).1
        rw [this, ← hx]
        simp [encStr, byt, hjl]
        rw [List.getElem?_eq_getElem hjl] at hlj
        rw [Option.some.inj hlj]) (Array.getElem?_eq_some_iff.1 hg).1 (by rw [List.length_map]; omega) (by rw [List.length_map]; exact h1) (by rw [hj]; omega)
    rw [hj, List.length_map] at hc
    exact hc

end Go.Proofs.YtbhdkgieahnojaaGreatDoor

namespace Go.Proofs.YtbhdkgieahnojaaGreatDoor
open Go.ChangeShapes Go.WideShapes Go.ChangeAt Go.RowKit

theorem Tryz.own : ownKnob Tryz.prog.godebug = none := by kernel_rfl
theorem Tryz.laidOut : laidOutB Tryz.prog = true := by kernel_rfl
def laid5 : List (String × DataW Unit) := [("math/bits.deBruijn32tab", Rows.laid_math_bits_deBruijn32tab), ("math/bits.deBruijn64tab", Rows.laid_math_bits_deBruijn64tab), ("internal/strconv.uint64pow10", Rows.laid_internal_strconv_uint64pow10), ("strconv.ErrRange", Rows.laid_strconv_ErrRange), ("strconv.ErrSyntax", Rows.laid_strconv_ErrSyntax)]
theorem laid5_row : Rows.bigTellsRow.laid = laid5 := rfl
theorem tab_data : (Rows.laid_internal_strconv_uint64pow10 : DataW Unit) = Lib.tabData .u64 Lib.pow10Tab := rfl
theorem Tryz.gT : Tryz.prog.globalNamed "internal/strconv.uint64pow10" = some 3 := by kernel_rfl
theorem Tryz.gTType : (Tryz.prog.globals[3]?).map (·.type) = some 154 := by kernel_rfl
theorem Tryz.cells154 : Tryz.prog.cellsOf 154 = 20 := by kernel_rfl
theorem Tryz.cells72 : Tryz.prog.cellsOf 72 = 1 := by kernel_rfl

theorem tb_of_laid {W : World} (h : laidMetH Tryz.prog laid5 W) : TB W := by
  rw [MakeChecks.laidMetH_plain _ _ _ (by kernel_rfl)] at h
  obtain ⟨ps, ⟨g0, t0, cs0, f0, p0, q0, hg0, ht0, hv0, hd0, ⟨g1, t1, cs1, f1, p1, q1, hg1, ht1, hv1, hd1, ⟨g2, t2, cs2, f2, p2, q2, hg2, ht2, hv2, hd2, _, _⟩, _⟩, _⟩, _, _⟩ := h
  obtain rfl := Option.some.inj (Tryz.gT.symm.trans hg2)
  obtain rfl := Option.some.inj (Tryz.gTType.symm.trans ht2)
  rw [tab_data] at hd2
  unfold TB Lib.TabIs
  rw [hv2, ← Lib.cells_of_tab Tryz.underlying154 Tryz.underlying72 Tryz.cells72 Tryz.cells154 hd2]

/-- The door's own heap meets the condition. -/
theorem door_met (os : Os) (args : Array Value) : laidMetH Tryz.prog laid5 ((World.doorLaid Tryz.prog 400 os).forCall (fun _ _ => 0) ⟨#[], args, []⟩).memory :=
  laidMetH_of_parts3 (fuel := 8) (laidMet_of_run' 8 (by kernel_rfl) (by kernel_rfl)) (by kernel_rfl) (by kernel_rfl)

end Go.Proofs.YtbhdkgieahnojaaGreatDoor
