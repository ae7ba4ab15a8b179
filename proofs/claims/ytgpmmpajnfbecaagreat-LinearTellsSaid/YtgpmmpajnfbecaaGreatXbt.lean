/- The reference's Same, FewFracs, Few. Walk of the reference's Right of rows. The reference's Solve, Rank. -/
import Derived.Test.YtgpmmpajnfbecaaGreatXbq
import Derived.Test.YtgpmmpajnfbecaaGreatXas
import Derived.Test.YtgpmmpajnfbecaaGreatXbp
import Derived.Test.YtgpmmpajnfbecaaGreatXbd
import Derived.Test.YtgpmmpajnfbecaaGreatXbs

namespace Go.Proofs.YtgpmmpajnfbecaaGreat
open Go.RowKit

/-- A slice that reads as the numbers xs. -/
def QsAt (w : World) (A : Option Addr) (xs : List Rat) : Prop := ∃ fs : List Fc, FsAt (fun _ => False) w A fs xs
theorem QsAt.below {w w' : World} {A : Option Addr} {xs : List Rat} (h : QsAt w A xs) (hb : Below w.heap.size w w') : QsAt w' A xs := by
  obtain ⟨fs, h⟩ := h
  exact ⟨fs, h.fr (Fr.of_below hb)⟩
theorem QsAt.at_ {w : World} {A : Option Addr} {xs : List Rat} (h : QsAt w A xs) {k : Nat} (hk : k < xs.length) : ∃ (b off : Nat) (f : Fc), A = some ⟨b, off, none⟩ ∧ b < w.heap.size ∧
    w.cell? ⟨b, off + k * 4, none⟩ = some (.int .i64 f.s) ∧ w.cell? ⟨b, off + k * 4 + 1, none⟩ = some (.slice f.A f.n f.c) ∧ w.cell? ⟨b, off + k * 4 + 2, none⟩ = some (.int .i64 f.s') ∧ w.cell? ⟨b, off + k * 4 + 3, none⟩ = some (.slice f.A' f.n' f.c') ∧ FA (fun _ => False) w f (xs.getD k 0) := by
  obtain ⟨fs, hl, h⟩ := h
  obtain ⟨b, off, e, hb, _, h0, h1, h2, h3, h4⟩ := h k (by omega)
  exact ⟨b, off, _, e, hb, h0, h1, h2, h3, h4⟩
theorem QsAt.nil (w : World) (A : Option Addr) : QsAt w A [] := ⟨[], rfl, fun k hk => by cases hk⟩
/-- What a block of fractions reads as. -/
theorem QsAt.of_cells {S : Nat → Prop} {w : World} {g : Nat} {cur : Array Value} {fs : List Fc} {xs : List Rat} (hb : Blk w g 41 cur) (hc : CellsL cur fs) (hl : fs.length = xs.length) (hf : ∀ k, k < fs.length → FA S w (fs.getD k fnil) (xs.getD k 0)) : QsAt w (some ⟨g, 0, none⟩) xs :=
  ⟨fs, hl, fun k hk => by
    obtain ⟨c0, c1, c2, c3⟩ := hc k hk
    exact ⟨g, 0, rfl, hb.lt, fun h => h, by rw [Nat.zero_add, hb.cell]; exact c0, by rw [Nat.zero_add, hb.cell]; exact c1, by rw [Nat.zero_add, hb.cell]; exact c2, by rw [Nat.zero_add, hb.cell]; exact c3, (hf k hk).less (fun _ h => h.elim)⟩⟩

set_option maxRecDepth 100000 in
set_option maxHeartbeats 8000000 in
theorem rlsame_true {A1 A2 : Option Addr} {n c1 c2 : Nat} {xs : List Rat} (w : World) (h1 : QsAt w A1 xs) (h2 : QsAt w A2 xs) (hn : xs.length = n) (hnn : n ≤ 1000000) :
    Calls Tryz.prog 15 #[.slice A1 n c1, .slice A2 n c2] w fun e w' => e = .returned (.bool true) ∧ Below w.heap.size w w' := by
  have H1 := Lib.hid h1; clear h1
  have H2 := Lib.hid h2; clear h2
  have HN := Lib.hid hn; clear hn
  go_enter Tryz.func15, Tryz.ntmps15
  go_wp2_with fail
  go_loopw [5] (fun iv wr => ∃ i : Nat, i ≤ n ∧ iv = .int .i64 i ∧ Below w.heap.size w wr) (fun iv _ => n - (intOf iv).toNat)
  case atStart => exact ⟨0, Nat.zero_le _, rfl, Below.refl _ _⟩
  case round =>
    obtain ⟨i, hi, rfl, hbl⟩ := hrel
    by_cases hgo : i < n
    · obtain ⟨b1, o1, f1, hA1, hB1, c0, c1', c2', c3, hf1⟩ := (H1.out.below hbl).at_ (k := i) (by rw [HN.out]; exact hgo)
      obtain ⟨b2, o2, f2, hA2, hB2, d0, d1, d2, d3, hf2⟩ := (H2.out.below hbl).at_ (k := i) (by rw [HN.out]; exact hgo)
      subst hA1 hA2
      obtain ⟨s1, X1, n1, e1, s2, X2, n2, e2⟩ := f1
      obtain ⟨s3, X3, n3, e3, s4, X4, n4, e4⟩ := f2
      simp only at c0 c1' c2' c3 d0 d1 d2 d3
      have HSB := Lib.hid (fun (W' : World) (hb : Below wr.heap.size wr W') => fsame_any _ _ _ _ _ _ _ _ _ _ _ _ _ _ _ _ _ _ _ _ W' (hf1.below hb).fv (hf2.below hb).fv true (by simp))
      clear hf1 hf2
      have e0 : ∀ W' : World, Below wr.heap.size wr W' → W'.cell? ⟨b1, o1 + i * 4, none⟩ = some (.int .i64 s1) ∧ W'.cell? ⟨b1, o1 + i * 4 + 1, none⟩ = some (.slice X1 n1 e1) ∧ W'.cell? ⟨b1, o1 + i * 4 + 2, none⟩ = some (.int .i64 s2) ∧ W'.cell? ⟨b1, o1 + i * 4 + 3, none⟩ = some (.slice X2 n2 e2) ∧
          W'.cell? ⟨b2, o2 + i * 4, none⟩ = some (.int .i64 s3) ∧ W'.cell? ⟨b2, o2 + i * 4 + 1, none⟩ = some (.slice X3 n3 e3) ∧ W'.cell? ⟨b2, o2 + i * 4 + 2, none⟩ = some (.int .i64 s4) ∧ W'.cell? ⟨b2, o2 + i * 4 + 3, none⟩ = some (.slice X4 n4 e4) := fun W' hW =>
        ⟨(hW.cell (p := ⟨b1, _, none⟩) hB1).trans c0, (hW.cell (p := ⟨b1, _, none⟩) hB1).trans c1', (hW.cell (p := ⟨b1, _, none⟩) hB1).trans c2', (hW.cell (p := ⟨b1, _, none⟩) hB1).trans c3, (hW.cell (p := ⟨b2, _, none⟩) hB2).trans d0, (hW.cell (p := ⟨b2, _, none⟩) hB2).trans d1, (hW.cell (p := ⟨b2, _, none⟩) hB2).trans d2, (hW.cell (p := ⟨b2, _, none⟩) hB2).trans d3⟩
      have E0 := Lib.hid e0; clear e0
      have hB00 : Below wr.heap.size wr wr.drew := (Below.refl _ _).drew
      go_upto_region 6 with fail
      clear c0 c1' c2' c3 d0 d1 d2 d3
      go_cut [26] from 17 to 26 (fun v wx => v = .bool false ∧ Below wr.heap.size wr wx)
      case first =>
        go_region_held3 (fun W' => W'.cell? ⟨b1, o1 + i * 4, none⟩ = some (.int .i64 s1) ∧ W'.cell? ⟨b1, o1 + i * 4 + 1, none⟩ = some (.slice X1 n1 e1) ∧ W'.cell? ⟨b1, o1 + i * 4 + 2, none⟩ = some (.int .i64 s2) ∧ W'.cell? ⟨b1, o1 + i * 4 + 3, none⟩ = some (.slice X2 n2 e2) ∧
            W'.cell? ⟨b2, o2 + i * 4, none⟩ = some (.int .i64 s3) ∧ W'.cell? ⟨b2, o2 + i * 4 + 1, none⟩ = some (.slice X3 n3 e3) ∧ W'.cell? ⟨b2, o2 + i * 4 + 2, none⟩ = some (.int .i64 s4) ∧ W'.cell? ⟨b2, o2 + i * 4 + 3, none⟩ = some (.slice X4 n4 e4))
          (first | exact E0.out _ hB4 | exact E0.out _ hB00 | exact E0.out _ (Below.refl _ _))
          (first | (go_at_call 32; refine (HSB.out _ hB00).mono ?_; rintro e w4 ⟨rfl, hb4⟩; have hB4 : Below wr.heap.size wr w4 := ⟨hb4.os, hb4.tape, hb4.output, hb4.size, hb4.block⟩))
        all_goals
          go_wp2_with fail
          go_meet
          first | exact ⟨rfl, hB4⟩ | exact hB4
      obtain ⟨rfl, hb5⟩ := hcut
      clear E0 hB00 HSB
      have hbb := hbl.trans (hb5.mono hbl.size)
      go_wp2_with fail
      go_roundw
      case rel => exact ⟨i + 1, by omega, rfl, hbb⟩
      case measure => simp [intOf]; omega
    · have : i = n := by omega
      subst this
      go_wp2_with fail
      go_ret
      exact ⟨rfl, hbl⟩

/-- All parts have at most d digits. -/
def FewD (d : Int) (f : Fd) : Prop := (f.l.length : Int) ≤ d ∧ (f.l'.length : Int) ≤ d
set_option maxRecDepth 100000 in
set_option maxHeartbeats 8000000 in
theorem fewF_any {A : Option Addr} {m cap : Nat} {ds : List Fd} {N d : Int} (w : World) (h : FdsAt w A ds) (hm : ds.length = m) (hN0 : 0 ≤ N) (hN1 : N ≤ 1000) :
    Calls Tryz.prog 6 #[.slice A m cap, .int .i64 N, .int .i64 d] w fun e w' => ∃ b, e = .returned (.bool b) ∧ Below w.heap.size w w' ∧ (b = true → (m : Int) ≤ N ∧ ∀ k, k < m → FewD d (ds.getD k dnil)) := by
  have HD := Lib.hid h; clear h
  have HM := Lib.hid hm; clear hm
  go_enter Tryz.func6, Tryz.ntmps6
  go_wp2_with fail
  go_loopw [7] (fun iv wr => ∃ i : Nat, i ≤ m ∧ (i : Int) ≤ N + 1 ∧ iv = .int .i64 i ∧ Below w.heap.size w wr ∧ Hid (∀ k, k < i → FewD d (ds.getD k dnil))) (fun iv _ => m - (intOf iv).toNat)
  case atStart => exact ⟨0, Nat.zero_le _, by omega, rfl, Below.refl _ _, Lib.hid fun k hk => by omega⟩
  case round =>
    obtain ⟨i, hi, hiN, rfl, hbl, hz⟩ := hrel
    by_cases hgo : i < m
    · by_cases hn : (i : Int) ≤ N
      · have hd1 : decide ((i : Int) ≤ N) = true := decide_eq_true hn
        obtain ⟨b1, o1, f1, hA1, hB1, c0, c1, c2, c3, hf1⟩ := (HD.out.below hbl) i (by rw [HM.out]; exact hgo)
        subst hA1
        have h1 := hf1.a1.hn
        have h2 := hf1.a2.hn
        obtain ⟨s1, X1, n1, e1, s2, X2, n2, e2⟩ := f1
        simp only at c0 c1 c2 c3 h1 h2
        have H12 := Lib.hid (And.intro h1 h2)
        clear hf1 h1 h2
        go_wp2_with fail
        clear c0 c1 c2 c3
        by_cases hfw : (n1 : Int) ≤ d ∧ (n2 : Int) ≤ d
        · (with_reducible refine (ffew_any _ _ _ _ _ _ _ _ _ _ true (decide_eq_true hfw)).mono ?_)
          rintro e u1 ⟨rfl, hb1⟩
          have hbb := hbl.trans (hb1.mono hbl.size)
          have HF := Lib.hid (show FewD d (ds.getD i dnil) from ⟨by rw [H12.out.1]; exact hfw.1, by rw [H12.out.2]; exact hfw.2⟩)
          clear hfw hd1
          go_wp2_with fail
          go_roundw
          case rel => exact ⟨i + 1, by omega, by omega, rfl, hbb, Lib.hid fun k hk => by
            by_cases hki : k < i
            · exact hz.out k hki
            · have : k = i := by omega
              subst this
              exact HF.out⟩
          case measure => simp [intOf]; omega
        · (with_reducible refine (ffew_any _ _ _ _ _ _ _ _ _ _ false (decide_eq_false hfw)).mono ?_)
          rintro e u1 ⟨rfl, hb1⟩
          have hbb := hbl.trans (hb1.mono hbl.size)
          clear hfw hd1
          go_wp2_with fail
          go_ret
          exact ⟨false, rfl, hbb, fun h => (by cases h)⟩
      · have hd1 : decide ((i : Int) ≤ N) = false := decide_eq_false hn
        have hd2 : decide ((m : Int) ≤ N) = false := decide_eq_false (by omega)
        go_wp2_with fail
        go_ret
        first | exact ⟨false, rfl, hbl, fun h => (by cases h)⟩ | exact .inl ⟨rfl, hbl⟩
    · have : i = m := by omega
      subst this
      by_cases hn : (i : Int) ≤ N
      · have hd2 : decide ((i : Int) ≤ N) = true := decide_eq_true hn
        go_wp2_with fail
        go_ret
        first | exact ⟨true, rfl, hbl, fun _ => ⟨hn, hz.out⟩⟩ | exact .inr ⟨rfl, hbl, hn, by simpa using hz.out⟩
      · have hd2 : decide ((i : Int) ≤ N) = false := decide_eq_false hn
        go_wp2_with fail
        go_ret
        first | exact ⟨false, rfl, hbl, fun h => (by cases h)⟩ | exact .inl ⟨rfl, hbl⟩

end Go.Proofs.YtgpmmpajnfbecaaGreat

namespace Go.Proofs.YtgpmmpajnfbecaaGreat
open Go.RowKit

set_option maxRecDepth 100000 in
set_option maxHeartbeats 8000000 in
theorem rlright_any {A : Option Addr} {m cap : Nat} {n : Int} {rs : List Rd} (w : World) (h : RdsAt w A rs) (hm : rs.length = m) (hmm : m ≤ 1000000) (b : Bool) (hb : b = true ↔ SysR rs n) :
    Calls Tryz.prog 14 #[.slice A m cap, .int .i64 n] w fun e w' => e = .returned (.bool b) ∧ Below w.heap.size w w' := by
  have HB := Lib.hid hb; clear hb
  have HD := Lib.hid h; clear h
  have HM := Lib.hid hm; clear hm
  go_enter Tryz.func14, Tryz.ntmps14
  by_cases hn0 : n < 0
  · have hd0 : decide (n < 0) = true := by rw [decide_eq_true_eq]; omega
    have hbf : Hid (b = false) := Lib.hid (by
      cases hbv : b with
      | false => rfl
      | true => exact absurd hn0 (by have := (HB.out.1 hbv).1; omega))
    go_wp2_with fail
    go_ret
    exact ⟨by rw [hbf.out]; rfl, Below.refl _ _⟩
  have hd0 : decide (n < 0) = false := by rw [decide_eq_false_iff_not]; omega
  by_cases h40 : n ≤ 40
  rotate_left
  · have hd1 : decide ((40 : Int) < n) = true := by rw [decide_eq_true_eq]; omega
    have hbf : Hid (b = false) := Lib.hid (by
      cases hbv : b with
      | false => rfl
      | true => exact absurd (by have h1 := (HB.out.1 hbv).1; have h2 := (HB.out.1 hbv).2.1; omega) h40)
    go_wp2_with fail
    go_ret
    exact ⟨by rw [hbf.out]; rfl, Below.refl _ _⟩
  have hd1 : decide ((40 : Int) < n) = false := by rw [decide_eq_false_iff_not]; omega
  by_cases hmn : (m : Int) = n
  rotate_left
  · have hne : ((m : Int) != n) = true := by simp; exact hmn
    have hbf : Hid (b = false) := Lib.hid (by
      cases hbv : b with
      | false => rfl
      | true => exact absurd (by have := (HB.out.1 hbv).1; rwa [HM.out] at this) hmn)
    go_wp2_with fail
    go_ret
    exact ⟨by rw [hbf.out]; rfl, Below.refl _ _⟩
  subst hmn
  have hne : ((m : Int) != (m : Int)) = false := by simp
  have h40' : m ≤ 40 := by omega
  go_wp2_with fail
  go_loopw [5] (fun iv wr => ∃ i : Nat, i ≤ m ∧ iv = .int .i64 i ∧ Below w.heap.size w wr ∧ Hid (∀ k, k < i → (rs.getD k rnil).R m)) (fun iv _ => m - (intOf iv).toNat)
  case atStart => exact ⟨0, Nat.zero_le _, rfl, Below.refl _ _, Lib.hid fun k hk => by omega⟩
  case round =>
    obtain ⟨i, hi, rfl, hbl, hz⟩ := hrel
    by_cases hgo : i < m
    · obtain ⟨bb, off, Aa, ca, f, hA, hBB, c0, c1, c2, c3, c4, hla, hfa, hf⟩ := (HD.out.below hbl) i (by rw [HM.out]; exact hgo)
      subst hA
      obtain ⟨s1, A1, n1, d1, s2, A2, n2, d2⟩ := f
      simp only at c1 c2 c3 c4
      obtain ⟨la, hlae⟩ : ∃ l, (rs.getD i rnil).A.length = l := ⟨_, rfl⟩
      rw [hlae] at c0 hla
      have HLA := Lib.hid hlae; clear hlae
      by_cases hl : la = m
      rotate_left
      · have hne2 : ((la : Int) != (m : Int)) = true := by simp; omega
        have hbf : Hid (b = false) := Lib.hid (by
          cases hbv : b with
          | false => rfl
          | true =>
            have h := (HB.out.1 hbv).2.2 i (by rw [HM.out]; exact hgo)
            rw [HM.out] at h
            exact absurd (HLA.out.symm.trans h.1) hl)
        clear hfa hf
        go_wp2_with fail
        go_ret
        exact ⟨by rw [hbf.out]; rfl, hbl⟩
      subst hl
      go_wp2_with fail
      have a1 := hf.a1
      have a2 := hf.a2
      have e1 := hf.e1
      have e2 := hf.e2
      simp only at a1 a2 e1 e2
      by_cases hr : (rs.getD i rnil).v.R
      rotate_left
      · have hr' : ¬ RF s1 (rs.getD i rnil).v.l s2 (rs.getD i rnil).v.l' := by rw [e1, e2]; exact hr
        (with_reducible refine (rfright_any _ a1 a2 false ⟨fun h => (by cases h), fun h => absurd h hr'⟩).mono ?_)
        rintro e u2 ⟨rfl, hb2⟩
        have hbb2 := hbl.trans (hb2.mono hbl.size)
        have hbf : Hid (b = false) := Lib.hid (by
          cases hbv : b with
          | false => rfl
          | true => exact absurd ((HB.out.1 hbv).2.2 i (by rw [HM.out]; exact hgo)).2.2 hr)
        clear hf hfa a1 a2 e1 e2 hr hr' c0 c1 c2 c3 c4
        go_wp2_with fail
        go_ret
        exact ⟨by rw [hbf.out]; rfl, hbb2⟩
      have hr' : RF s1 (rs.getD i rnil).v.l s2 (rs.getD i rnil).v.l' := by rw [e1, e2]; exact hr
      (with_reducible refine (rfright_any _ a1 a2 true ⟨fun _ => hr', fun _ => rfl⟩).mono ?_)
      rintro e u1 ⟨rfl, hb1⟩
      have hbb := hbl.trans (hb1.mono hbl.size)
      have HR := Lib.hid hr
      clear hf hfa a1 a2 e1 e2 hr hr' c0 c1 c2 c3 c4
      go_wp2_with fail
      go_loopw [6] (fun iv wr => ∃ j : Nat, j ≤ la ∧ iv = .int .i64 j ∧ Below w.heap.size w wr ∧ Hid (∀ k, k < j → ((rs.getD i rnil).A.getD k dnil).R)) (fun iv _ => la - (intOf iv).toNat)
      case atStart => exact ⟨0, Nat.zero_le _, rfl, hbb, Lib.hid fun k hk => by omega⟩
      case round =>
        obtain ⟨j, hj, rfl, hbj, hzj⟩ := hrel
        by_cases hgj : j < la
        · obtain ⟨bb', off', Aa', ca', f', hA', hBB', c0, -, -, -, -, hla', hfa, -⟩ := (HD.out.below hbj) i (by rw [HM.out]; exact hgo)
          injection hA' with hA'
          injection hA' with hA1 hA2 _
          subst hA1 hA2
          rw [HLA.out] at c0
          obtain ⟨b2, off2, f2, hA2, hB2, d0, d1', d2', d3, hf2⟩ := hfa j (by rw [HLA.out]; exact hgj)
          subst hA2
          obtain ⟨s1, A1, n1, d1, s2, A2, n2, d2⟩ := f2
          simp only at d0 d1' d2' d3
          go_wp2_with fail
          have a1 := hf2.a1
          have a2 := hf2.a2
          have e1 := hf2.e1
          have e2 := hf2.e2
          simp only at a1 a2 e1 e2
          by_cases hr : ((rs.getD i rnil).A.getD j dnil).R
          rotate_left
          · have hr' : ¬ RF s1 ((rs.getD i rnil).A.getD j dnil).l s2 ((rs.getD i rnil).A.getD j dnil).l' := by rw [e1, e2]; exact hr
            (with_reducible refine (rfright_any _ a1 a2 false ⟨fun h => (by cases h), fun h => absurd h hr'⟩).mono ?_)
            rintro e u2 ⟨rfl, hb2⟩
            have hbb2 := hbj.trans (hb2.mono hbj.size)
            have hbf : Hid (b = false) := Lib.hid (by
              cases hbv : b with
              | false => rfl
              | true => exact absurd (((HB.out.1 hbv).2.2 i (by rw [HM.out]; exact hgo)).2.1 j (by rw [HM.out]; exact hgj)) hr)
            clear hf2 hfa a1 a2 e1 e2 hr hr' c0 d0 d1' d2' d3
            go_wp2_with fail
            go_ret
            exact ⟨by rw [hbf.out]; rfl, hbb2⟩
          have hr' : RF s1 ((rs.getD i rnil).A.getD j dnil).l s2 ((rs.getD i rnil).A.getD j dnil).l' := by rw [e1, e2]; exact hr
          (with_reducible refine (rfright_any _ a1 a2 true ⟨fun _ => hr', fun _ => rfl⟩).mono ?_)
          rintro e u2 ⟨rfl, hb2⟩
          have hbb2 := hbj.trans (hb2.mono hbj.size)
          have HRj := Lib.hid hr
          clear hf2 hfa a1 a2 e1 e2 hr hr' c0 d0 d1' d2' d3
          go_wp2_with fail
          go_roundw
          case rel => exact ⟨j + 1, by omega, rfl, hbb2, Lib.hid fun k hk => by
            by_cases hkj : k < j
            · exact hzj.out k hkj
            · have : k = j := by omega
              subst this
              exact HRj.out⟩
          case measure => simp [intOf]; omega
        · have : j = la := by omega
          subst this
          have HRi := Lib.hid (show (rs.getD i rnil).R j from ⟨HLA.out, hzj.out, HR.out⟩)
          go_wp2_with fail
          go_roundw
          case rel => exact ⟨i + 1, by omega, rfl, hbj, Lib.hid fun k hk => by
            by_cases hki : k < i
            · exact hz.out k hki
            · have : k = i := by omega
              subst this
              exact HRi.out⟩
          case measure => simp [intOf]; omega
    · have : i = m := by omega
      subst this
      have hbt : Hid (b = true) := Lib.hid (HB.out.2 ⟨by rw [HM.out], by rw [HM.out]; omega, fun k hk => by rw [HM.out] at hk ⊢; exact hz.out k hk⟩)
      go_wp2_with fail
      go_ret
      exact ⟨by rw [hbt.out]; rfl, hbl⟩

end Go.Proofs.YtgpmmpajnfbecaaGreat

namespace Go.Proofs.YtgpmmpajnfbecaaGreat
open Go.RowKit

theorem runFree_le {m c : Nat} {X Y : List (List Rat)} {k : Nat} (h : runFree m c X = some (k, Y)) : k ≤ c + m := by
  induction m generalizing c X with
  | zero => simp [runFree] at h; omega
  | succ m ih =>
    rw [runFree] at h
    cases he : elimS X c c with
    | none => rw [he] at h; cases h
    | some p =>
      obtain ⟨b, Z⟩ := p
      rw [he] at h
      cases b with
      | false => simp at h; omega
      | true => have := ih h; omega

/-- A list that is appended to. -/
structure OutI (w : World) (B : Nat) (vo : Value) (fs : List Fc) (xs : List Rat) : Prop where
  own : OwnF w B vo fs
  len : fs.length = xs.length
  q : ∀ k, k < fs.length → FA (fun b => some b = vo.ownBlock) w (fs.getD k fnil) (xs.getD k 0)
theorem OutI.nil (w : World) (B : Nat) : OutI w B (.slice none 0 0) [] [] := ⟨OwnF.nil _ _, rfl, fun k hk => by cases hk⟩
theorem OutI.below {w w' : World} {B : Nat} {vo : Value} {fs : List Fc} {xs : List Rat} (h : OutI w B vo fs xs) (hb : Below w.heap.size w w') : OutI w' B vo fs xs :=
  ⟨h.own.below hb, h.len, fun k hk => (h.q k hk).below hb⟩
theorem OwnF.own_lt {w : World} {N g : Nat} {v : Value} {l : List Fc} (ho : OwnF w N v l) (h : some g = v.ownBlock) : N ≤ g ∧ g < w.heap.size := World.ownsRow.lt ho g h.symm
/-- One more is appended. -/
theorem OutI.step {w w1 w2 : World} {B : Nat} {vo vo' : Value} {fs : List Fc} {xs : List Rat} {f : Fc} {x : Rat} (h : OutI w B vo fs xs) (hb : Below w.heap.size w w1) (ho : OwnF w2 B vo' (fs ++ [f])) (hg : w1.grownBy w2 vo.ownBlock) (hv : vo'.ownBlock = vo.ownBlock ∨ vo'.ownBlock = some w1.heap.size)
    (hf : FA (fun b => some b = vo.ownBlock) w f x) : OutI w2 B vo' (fs ++ [f]) (xs ++ [x]) := by
  have hF : Fr (fun b => some b = vo.ownBlock) w1 w2 := ⟨hg.os, hg.tape, hg.output, hg.size, fun b hb hn => hg.block b hb (fun e => hn e)⟩
  have hst : ∀ {f : Fc} {x : Rat}, FA (fun b => some b = vo.ownBlock) w f x → FA (fun b => some b = vo'.ownBlock) w2 f x := fun h => by
    have hu := ((h.below hb).up).fr (hF.more (fun b hb => .inl hb))
    refine hu.less (fun b hb => ?_)
    rcases hv with hv | hv
    · exact .inl (hb.trans hv)
    · rw [hv] at hb
      injection hb with hb
      exact .inr (by omega)
  refine ⟨ho, by rw [List.length_append, List.length_append, h.len]; rfl, fun k hk => ?_⟩
  rw [List.length_append] at hk
  by_cases hkl : k < fs.length
  · rw [List.getD_eq_getElem?_getD, List.getElem?_append_left hkl, ← List.getD_eq_getElem?_getD, List.getD_eq_getElem?_getD (l := xs ++ [x]), List.getElem?_append_left (by rw [← h.len]; exact hkl), ← List.getD_eq_getElem?_getD]
    exact hst (h.q k hkl)
  · have : k = fs.length := by simp at hk; omega
    subst this
    have e1 : (fs ++ [f]).getD fs.length fnil = f := by rw [List.getD_eq_getElem?_getD, List.getElem?_append_right (Nat.le_refl _), Nat.sub_self]; rfl
    have e2 : (xs ++ [x]).getD fs.length 0 = x := by rw [h.len, List.getD_eq_getElem?_getD, List.getElem?_append_right (Nat.le_refl _), Nat.sub_self]; rfl
    rw [e1, e2]
    exact hst hf
theorem OutI.done {w : World} {B : Nat} {vo : Value} {fs : List Fc} {xs : List Rat} (h : OutI w B vo fs xs) : ∃ A c, vo = .slice A xs.length c ∧ QsAt w A xs := by
  obtain ⟨A, c, rfl, h1, h2, h3⟩ := h.own.at_
  refine ⟨A, c, by rw [h.len], fs, h.len, fun k hk => ?_⟩
  obtain ⟨b, off, e, hb, c0, c1, c2, c3⟩ := h3 k hk
  exact ⟨b, off, e, hb, fun h => h, c0, c1, c2, c3, (h.q k hk).less (fun _ h => h.elim)⟩

set_option maxRecDepth 100000 in
set_option maxHeartbeats 8000000 in
theorem rlrank_any {A : Option Addr} {m cap : Nat} {n : Int} {rs : List Rd} (w : World) (h : RdsAt w A rs) (hm : rs.length = m) (hmm : m ≤ 1000000) :
    Calls Tryz.prog 12 #[.slice A m cap, .int .i64 n] w fun e w' => Below w.heap.size w w' ∧
      ((¬ SysR rs n ∧ e = .returned (.tuple #[.int .i64 0, .int .i64 1])) ∨ (SysR rs n ∧ runRank m 0 0 (rs.map Rd.q) = none ∧ e = .returned (.tuple #[.int .i64 0, .int .i64 6])) ∨
        (SysR rs n ∧ ∃ k : Nat, runRank m 0 0 (rs.map Rd.q) = some k ∧ e = .returned (.tuple #[.int .i64 k, .int .i64 0]))) := by
  have HD := Lib.hid h; clear h
  have HM := Lib.hid hm; clear hm
  go_enter Tryz.func12, Tryz.ntmps12
  go_wp2_with fail
  by_cases hs : SysR rs n
  · (with_reducible refine (rlright_any w HD.out HM.out hmm true ⟨fun _ => hs, fun _ => rfl⟩).mono ?_)
    rintro e u1 ⟨rfl, hb1⟩
    have HS := Lib.hid hs
    have h40 : m ≤ 40 := by have := hs.2.1; rwa [HM.out] at this
    have hnm : n = (m : Int) := by have := hs.1; rw [HM.out] at this; exact this.symm
    have hR : ∀ k, k < m → (rs.getD k rnil).R m := fun k hk => by have := hs.2.2 k (by rw [HM.out]; exact hk); rwa [HM.out] at this
    clear hs
    subst hnm
    go_wp2_with fail
    (with_reducible refine (elimd_any false u1 (HD.out.below hb1) HM.out h40 hR).mono ?_)
    rintro e u2 ⟨hb2, ⟨hn, mv, fv, rfl⟩ | ⟨fr, Y, mv, fv, hsm, rfl, hown, hfl, -⟩⟩
    · have hbb := Lib.hid (hb1.trans (hb2.mono hb1.size))
      have hres := Lib.hid (show runRank m 0 0 (rs.map Rd.q) = none by
        have h := runE_false m 0 0 [] (rs.map Rd.q)
        rw [hn] at h
        cases hq : runRank m 0 0 (rs.map Rd.q) with
        | none => rfl
        | some q => rw [hq] at h; cases h)
      clear hn hb1 hb2 hR
      go_wp2_with fail
      go_ret2
      exact ⟨hbb.out, .inr (.inl ⟨HS.out, hres.out, rfl⟩)⟩
    · have hbb := Lib.hid (hb1.trans (hb2.mono hb1.size))
      obtain ⟨k, hk⟩ : ∃ k, Hid (runRank m 0 0 (rs.map Rd.q) = some k ∧ (m : Int) + -(fr.length : Int) = k ∧ (m : Int) - (fr.length : Int) = k) := by
        have h := runE_false m 0 0 [] (rs.map Rd.q)
        rw [hsm] at h
        cases hq : runRank m 0 0 (rs.map Rd.q) with
        | none => rw [hq] at h; cases h
        | some q =>
          rw [hq] at h
          simp at h
          exact ⟨q, Lib.hid ⟨rfl, by omega, by omega⟩⟩
      obtain ⟨Af, cf, hfv, -⟩ := hown.at_
      subst hfv
      clear hsm hb1 hb2 hR hown
      go_wp2_with fail
      go_ret2
      exact ⟨hbb.out, .inr (.inr ⟨HS.out, k, hk.out.1, by rw [← hk.out.2.2]; rfl⟩)⟩
  · (with_reducible refine (rlright_any w HD.out HM.out hmm false ⟨fun h => (by cases h), fun h => absurd h hs⟩).mono ?_)
    rintro e u1 ⟨rfl, hb1⟩
    have HS := Lib.hid hs; clear hs
    go_wp2_with fail
    go_ret2
    exact ⟨hb1, .inl ⟨HS.out, rfl⟩⟩

set_option maxRecDepth 100000 in
set_option maxHeartbeats 8000000 in
theorem rlsolve_any {A : Option Addr} {m cap : Nat} {n : Int} {rs : List Rd} (w : World) (h : RdsAt w A rs) (hm : rs.length = m) (hmm : m ≤ 1000000) :
    Calls Tryz.prog 8 #[.slice A m cap, .int .i64 n] w fun e w' => Below w.heap.size w w' ∧
      ((¬ SysR rs n ∧ e = .returned (.tuple #[.slice none 0 0, .int .i64 1])) ∨ (SysR rs n ∧ runFree m 0 (rs.map Rd.q) = none ∧ e = .returned (.tuple #[.slice none 0 0, .int .i64 6])) ∨
        (SysR rs n ∧ (∃ (k : Nat) (Y : List (List Rat)), runFree m 0 (rs.map Rd.q) = some (k, Y) ∧ k < m) ∧ e = .returned (.tuple #[.slice none 0 0, .int .i64 16])) ∨
        (SysR rs n ∧ ∃ (Y : List (List Rat)) (Ao : Option Addr) (co : Nat), runFree m 0 (rs.map Rd.q) = some (m, Y) ∧ e = .returned (.tuple #[.slice Ao m co, .int .i64 0]) ∧ QsAt w' Ao ((List.range m).map fun k => (Y.getD k []).getD m 0))) := by
  have HD := Lib.hid h; clear h
  have HM := Lib.hid hm; clear hm
  go_enter Tryz.func8, Tryz.ntmps8
  go_wp2_with fail
  by_cases hs : SysR rs n
  rotate_left
  · (with_reducible refine (rlright_any w HD.out HM.out hmm false ⟨fun h => (by cases h), fun h => absurd h hs⟩).mono ?_)
    rintro e u1 ⟨rfl, hb1⟩
    have HS := Lib.hid hs; clear hs
    go_wp2_with fail
    go_ret2
    exact ⟨hb1, .inl ⟨HS.out, rfl⟩⟩
  (with_reducible refine (rlright_any w HD.out HM.out hmm true ⟨fun _ => hs, fun _ => rfl⟩).mono ?_)
  rintro e u1 ⟨rfl, hb1⟩
  have HS := Lib.hid hs
  have h40 : m ≤ 40 := by have := hs.2.1; rwa [HM.out] at this
  have hnm : n = (m : Int) := by have := hs.1; rw [HM.out] at this; exact this.symm
  have hR : ∀ k, k < m → (rs.getD k rnil).R m := fun k hk => by have := hs.2.2 k (by rw [HM.out]; exact hk); rwa [HM.out] at this
  clear hs
  subst hnm
  go_wp2_with fail
  have hrt := runE_true m 0 (rs.map Rd.q)
  (with_reducible refine (elimd_any true u1 (HD.out.below hb1) HM.out h40 hR).mono ?_)
  rintro e u2 ⟨hb2, ⟨hn, mv, fv, rfl⟩ | ⟨fr, Y, mv, fv, hsm, rfl, hown, hfl, hrows⟩⟩
  · have hbb := Lib.hid (hb1.trans (hb2.mono hb1.size))
    have hres := Lib.hid (show runFree m 0 (rs.map Rd.q) = none by
      rw [hn] at hrt
      cases hq : runFree m 0 (rs.map Rd.q) with
      | none => rfl
      | some q => rw [hq] at hrt; cases hrt)
    clear hn hb1 hb2 hR hrt
    go_wp2_with fail
    go_ret2
    exact ⟨hbb.out, .inr (.inl ⟨HS.out, hres.out, rfl⟩)⟩
  have hbb := hb1.trans (hb2.mono hb1.size)
  obtain ⟨Af, cf, hfv, -⟩ := hown.at_
  obtain ⟨k, hk, hfr⟩ : ∃ k, runFree m 0 (rs.map Rd.q) = some (k, Y) ∧ fr = if k < m then [(k : Int)] else [] := by
    rw [hsm] at hrt
    cases hq : runFree m 0 (rs.map Rd.q) with
    | none => rw [hq] at hrt; cases hrt
    | some q =>
      obtain ⟨k, Z⟩ := q
      rw [hq] at hrt
      simp at hrt
      obtain ⟨h1, rfl⟩ := hrt
      exact ⟨k, rfl, h1⟩
  have hkm := runFree_le hk
  by_cases hkl : k < m
  · rw [if_pos hkl] at hfr
    rw [hfr] at hfv
    subst hfv
    have hres := Lib.hid hk
    have hbb' := Lib.hid hbb
    clear hsm hb1 hb2 hR hown hrt hrows hk hbb hfr
    go_wp2_with fail
    go_ret2
    exact ⟨hbb'.out, .inr (.inr (.inl ⟨HS.out, ⟨k, Y, hres.out, hkl⟩, rfl⟩))⟩
  rw [if_neg hkl] at hfr
  rw [hfr] at hfv
  have : k = m := by omega
  subst this
  have hres := Lib.hid hk
  have HRW := Lib.hid hrows
  obtain ⟨F, hF⟩ : ∃ F, fv.ownBlock = F := ⟨_, rfl⟩
  rw [hF] at HRW
  subst hfv
  clear hsm hb1 hb2 hR hown hrt hrows hk hfr hF
  go_wp2_with fail
  go_loopw [10, 9] (fun iv vo wr => ∃ (i : Nat) (fs : List Fc), i ≤ k ∧ iv = .int .i64 i ∧ Below u2.heap.size u2 wr ∧ Hid (OutI wr u2.heap.size vo fs ((List.range i).map fun j => (Y.getD j []).getD k 0))) (fun iv _ _ => k - (intOf iv).toNat)
  case atStart => exact ⟨0, [], Nat.zero_le _, rfl, Below.refl _ _, Lib.hid (OutI.nil _ _)⟩
  case round =>
    obtain ⟨i, fs, hi, rfl, hbr, hO⟩ := hrel
    obtain ⟨vo, hvo⟩ : ∃ v, u9 = v := ⟨_, rfl⟩
    rw [hvo] at hO ⊢
    clear hvo
    by_cases hgo : i < k
    · obtain ⟨M, cp, rows, rfl, hR0⟩ := HRW.out (by omega)
      have hR := hR0.below hbr
      obtain ⟨-, a1, a2, a3, a4⟩ := hR.cells hgo
      have hv := (hR0.row i hgo).v.up
      obtain ⟨ra, hra⟩ : ∃ p, rows.getD i rwnil = p := ⟨_, rfl⟩
      rw [hra] at a1 a2 a3 a4 hv
      clear hra hR0
      obtain ⟨oA, on, oc, s1, A1, n1, d1, s2, A2, n2, d2⟩ := ra
      simp only at a1 a2 a3 a4 hv
      have hMl := hR.lt
      have HV := Lib.hid (show FA (fun b => some b = vo.ownBlock) wr ⟨s1, A1, n1, d1, s2, A2, n2, d2⟩ ((Y.getD i []).getD k 0) from (hv.below hbr).less (fun b hb => .inr (hO.out.own.own_lt hb).1))
      have hfl9 := hO.out.len
      rw [List.length_map, List.length_range] at hfl9
      have HO := Lib.hid hO.out
      clear hv hR hO
      go_wp2_with (at_builtin; refine appF_at rfl (.tmp 32) (.tmp 38) rfl u2.heap.size vo fs [⟨s1, A1, n1, d1, s2, A2, n2, d2⟩] (some ⟨wr.heap.size, 0, none⟩) 1 1 rfl (HO.out.own.below ((Below.refl _ _).alloc (Nat.le_refl _) _)) rfl rfl (lit_fc wr ⟨s1, A1, n1, d1, s2, A2, n2, d2⟩) (by rw [hfl9]; omega) (by have h1 := hbr.size; simp; omega) ?_; intro v7 w7 hown7 hg7 hat7)
      have hnx : Hid (OutI w7 u2.heap.size v7 (fs ++ [⟨s1, A1, n1, d1, s2, A2, n2, d2⟩]) ((List.range (i + 1)).map fun j => (Y.getD j []).getD k 0)) := Lib.hid (by
        rw [List.range_succ, List.map_append]
        exact HO.out.step ((Below.refl _ _).alloc (Nat.le_refl _) _) hown7 hg7 (by simpa using hat7) HV.out)
      have hb7 : Below u2.heap.size u2 w7 := grown_belF (hbr.alloc hbr.size _) (HO.out.own.below ((Below.refl _ _).alloc (Nat.le_refl _) _)) hg7 (Nat.le_refl _)
      clear hown7 hg7 hat7 HO HV a1 a2 a3 a4
      go_roundw
      case rel => exact ⟨i + 1, _, by omega, rfl, hb7, hnx⟩
      case measure => simp [intOf]; omega
    · have : i = k := by omega
      subst this
      obtain ⟨Ao, co, hvo, hq⟩ := hO.out.done
      rw [List.length_map, List.length_range] at hvo
      subst hvo
      have hfin := Lib.hid (And.intro (hbb.trans (hbr.mono hbb.size)) hq)
      clear hO hq
      go_wp2_with fail
      go_ret2
      exact ⟨hfin.out.1, .inr (.inr (.inr ⟨HS.out, Y, Ao, co, hres.out, rfl, hfin.out.2⟩))⟩

end Go.Proofs.YtgpmmpajnfbecaaGreat
