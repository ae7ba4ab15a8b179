/- Fractions and rows as they came in, right or not; walks of isList, Right. Rows as they came in; walk of Right. append of fractions; slices.Clone of fractions. -/
import Derived.Test.YtgpmmpajnfbecaaGreatXbk
import Derived.Lib.SliceRun
import Derived.Lib.Walk
import Derived.Lib.BufferWrite
import Derived.Maps.AppendAt
import Derived.Laws.OwnMore

namespace Go.Proofs.YtgpmmpajnfbecaaGreat
open Go.RowKit

/-- What a fraction says that came in: two signs, two lists of digits. -/
structure Fd where
  s : Int
  l : List Int
  s' : Int
  l' : List Int
abbrev dnil : Fd := ⟨0, [], 0, []⟩
def Fd.R (d : Fd) : Prop := RF d.s d.l d.s' d.l'
/-- The number of a right one. -/
def Fd.q (d : Fd) : Rat := Rat.divInt (d.s * nv d.l) (d.s' * nv d.l')
structure FdIs (w : World) (f : Fc) (d : Fd) : Prop where
  e1 : f.s = d.s
  e2 : f.s' = d.s'
  a1 : Ar w f.s d.l f.A f.n f.c
  a2 : Ar w f.s' d.l' f.A' f.n' f.c'
theorem FdIs.below {w w' : World} {f : Fc} {d : Fd} (h : FdIs w f d) (hb : Below w.heap.size w w') : FdIs w' f d := ⟨h.e1, h.e2, h.a1.later hb, h.a2.later hb⟩
/-- A slice of such at address A. -/
def FdsAt (w : World) (A : Option Addr) (ds : List Fd) : Prop := ∀ k, k < ds.length → ∃ (b off : Nat) (f : Fc), A = some ⟨b, off, none⟩ ∧ b < w.heap.size ∧
  w.cell? ⟨b, off + k * 4, none⟩ = some (.int .i64 f.s) ∧ w.cell? ⟨b, off + k * 4 + 1, none⟩ = some (.slice f.A f.n f.c) ∧
  w.cell? ⟨b, off + k * 4 + 2, none⟩ = some (.int .i64 f.s') ∧ w.cell? ⟨b, off + k * 4 + 3, none⟩ = some (.slice f.A' f.n' f.c') ∧ FdIs w f (ds.getD k dnil)
theorem FdsAt.below {w w' : World} {A : Option Addr} {ds : List Fd} (h : FdsAt w A ds) (hb : Below w.heap.size w w') : FdsAt w' A ds := fun k hk => by
  obtain ⟨b, off, f, e, hB, h0, h1, h2, h3, h4⟩ := h k hk
  have hc : ∀ i, w'.cell? ⟨b, i, none⟩ = w.cell? ⟨b, i, none⟩ := fun i => hb.cell (p := ⟨b, i, none⟩) hB
  exact ⟨b, off, f, e, Nat.lt_of_lt_of_le hB hb.size, (hc _).trans h0, (hc _).trans h1, (hc _).trans h2, (hc _).trans h3, h4.below hb⟩

set_option maxRecDepth 100000 in
set_option maxHeartbeats 4000000 in
theorem isList_any {A : Option Addr} {m cap n : Nat} {ds : List Fd} (w : World) (h : FdsAt w A ds) (hm : ds.length = m) (hmm : m ≤ 1000000) (hnn : n ≤ 1000000) (b : Bool) (hb : b = true ↔ m = n ∧ ∀ k, k < m → (ds.getD k dnil).R) :
    Calls Tryz.prog 29 #[.slice A m cap, .int .i64 n] w fun e w' => e = .returned (.bool b) ∧ Below w.heap.size w w' := by
  have HB := Lib.hid hb; clear hb
  have HD := Lib.hid h; clear h
  have HM := Lib.hid hm; clear hm
  go_enter Tryz.func29, Tryz.ntmps29
  by_cases hmn : m = n
  · subst hmn
    go_wp2_with fail
    go_loopw [13] (fun iv wr => ∃ i : Nat, i ≤ m ∧ iv = .int .i64 i ∧ Below w.heap.size w wr ∧ Hid (∀ k, k < i → (ds.getD k dnil).R)) (fun iv _ => m - (intOf iv).toNat)
    case atStart => exact ⟨0, Nat.zero_le _, rfl, Below.refl _ _, Lib.hid fun k hk => by omega⟩
    case round =>
      obtain ⟨i, hi, rfl, hbl, hz⟩ := hrel
      by_cases hgo : i < m
      · obtain ⟨bb, off, f, hA, hBB, c0, c1, c2, c3, hf⟩ := (HD.out.below hbl) i (by rw [HM.out]; exact hgo)
        subst hA
        obtain ⟨s1, A1, n1, d1, s2, A2, n2, d2⟩ := f
        simp only at c0 c1 c2 c3
        have hbA : Below wr.heap.size wr (wr.alloc (.cells #[.int .i64 s1, .slice A1 n1 d1, .int .i64 s2, .slice A2 n2 d2] 41)) := (Below.refl _ _).alloc (Nat.le_refl _) _
        have hfA := hf.below hbA
        have hblA := hbl.trans (hbA.mono hbl.size)
        go_wp2_with fail
        clear c0 c1 c2 c3 hf hbA
        have a1 := hfA.a1
        have a2 := hfA.a2
        have e1 := hfA.e1
        have e2 := hfA.e2
        simp only at a1 a2 e1 e2
        by_cases hr : (ds.getD i dnil).R
        · have hr' : RF s1 (ds.getD i dnil).l s2 (ds.getD i dnil).l' := by rw [e1, e2]; exact hr
          (with_reducible refine (fright_any _ a1 a2 true ⟨fun _ => hr', fun _ => rfl⟩).mono ?_)
          rintro e u1 ⟨rfl, hb1⟩
          have hbb := hblA.trans (hb1.mono hblA.size)
          have HR := Lib.hid hr
          clear hfA a1 a2 e1 e2 hr hr'
          go_wp2_with fail
          go_roundw
          case rel => exact ⟨i + 1, by omega, rfl, hbb, Lib.hid fun k hk => by
            by_cases hki : k < i
            · exact hz.out k hki
            · have : k = i := by omega
              subst this
              exact HR.out⟩
          case measure => simp [intOf]; omega
        · have hr' : ¬ RF s1 (ds.getD i dnil).l s2 (ds.getD i dnil).l' := by rw [e1, e2]; exact hr
          (with_reducible refine (fright_any _ a1 a2 false ⟨fun h => (by cases h), fun h => absurd h hr'⟩).mono ?_)
          rintro e u1 ⟨rfl, hb1⟩
          have hbb := hblA.trans (hb1.mono hblA.size)
          have hbf : Hid (b = false) := Lib.hid (by
            cases hbv : b with
            | false => rfl
            | true => exact absurd ((HB.out.1 hbv).2 i hgo) hr)
          clear hfA a1 a2 e1 e2 hr hr'
          go_wp2_with fail
          go_ret
          exact ⟨by rw [hbf.out]; rfl, hbb⟩
      · have : i = m := by omega
        subst this
        have hbt : Hid (b = true) := Lib.hid (HB.out.2 ⟨by simp, hz.out⟩)
        go_wp2_with fail
        go_ret
        exact ⟨by rw [hbt.out]; rfl, hbl⟩
  · have hne : ((m : Int) != (n : Int)) = true := by simp; omega
    have hbf : Hid (b = false) := Lib.hid (by
      cases hbv : b with
      | false => rfl
      | true => exact absurd (HB.out.1 hbv).1 hmn)
    go_wp2_with fail
    go_ret
    exact ⟨by rw [hbf.out]; rfl, Below.refl _ _⟩

end Go.Proofs.YtgpmmpajnfbecaaGreat

namespace Go.Proofs.YtgpmmpajnfbecaaGreat
open Go.RowKit

/-- What a row says that came in. -/
structure Rd where
  A : List Fd
  v : Fd
abbrev rnil : Rd := ⟨[], dnil⟩
def Rd.R (d : Rd) (n : Nat) : Prop := d.A.length = n ∧ (∀ k, k < n → (d.A.getD k dnil).R) ∧ d.v.R
/-- Rows at address A. -/
def RdsAt (w : World) (A : Option Addr) (rs : List Rd) : Prop := ∀ k, k < rs.length → ∃ (b off : Nat) (Aa : Option Addr) (ca : Nat) (f : Fc), A = some ⟨b, off, none⟩ ∧ b < w.heap.size ∧
  w.cell? ⟨b, off + k * 5, none⟩ = some (.slice Aa (rs.getD k rnil).A.length ca) ∧ w.cell? ⟨b, off + k * 5 + 1, none⟩ = some (.int .i64 f.s) ∧ w.cell? ⟨b, off + k * 5 + 2, none⟩ = some (.slice f.A f.n f.c) ∧
  w.cell? ⟨b, off + k * 5 + 3, none⟩ = some (.int .i64 f.s') ∧ w.cell? ⟨b, off + k * 5 + 4, none⟩ = some (.slice f.A' f.n' f.c') ∧
  (rs.getD k rnil).A.length ≤ 1000000 ∧ FdsAt w Aa (rs.getD k rnil).A ∧ FdIs w f (rs.getD k rnil).v
theorem RdsAt.below {w w' : World} {A : Option Addr} {rs : List Rd} (h : RdsAt w A rs) (hb : Below w.heap.size w w') : RdsAt w' A rs := fun k hk => by
  obtain ⟨b, off, Aa, ca, f, e, hB, h0, h1, h2, h3, h4, h5, h6, h7⟩ := h k hk
  have hc : ∀ i, w'.cell? ⟨b, i, none⟩ = w.cell? ⟨b, i, none⟩ := fun i => hb.cell (p := ⟨b, i, none⟩) hB
  exact ⟨b, off, Aa, ca, f, e, Nat.lt_of_lt_of_le hB hb.size, (hc _).trans h0, (hc _).trans h1, (hc _).trans h2, (hc _).trans h3, (hc _).trans h4, h5, h6.below hb, h7.below hb⟩
/-- Rows are a system of n unknowns. -/
def SysR (rs : List Rd) (n : Int) : Prop := (rs.length : Int) = n ∧ rs.length ≤ 40 ∧ ∀ k, k < rs.length → (rs.getD k rnil).R rs.length

set_option maxRecDepth 100000 in
set_option maxHeartbeats 8000000 in
theorem lright_any {A : Option Addr} {m cap : Nat} {n : Int} {rs : List Rd} (w : World) (h : RdsAt w A rs) (hm : rs.length = m) (hmm : m ≤ 1000000) (b : Bool) (hb : b = true ↔ SysR rs n) :
    Calls Tryz.prog 13 #[.slice A m cap, .int .i64 n] w fun e w' => e = .returned (.bool b) ∧ Below w.heap.size w w' := by
  have HB := Lib.hid hb; clear hb
  have HD := Lib.hid h; clear h
  have HM := Lib.hid hm; clear hm
  go_enter Tryz.func13, Tryz.ntmps13
  by_cases hmn : (m : Int) = n
  · subst hmn
    have hne : ((m : Int) != (m : Int)) = false := by simp
    by_cases h40 : m ≤ 40
    · have hgt : decide ((40 : Int) < (m : Int)) = false := by rw [decide_eq_false_iff_not]; omega
      go_wp2_with fail
      go_loopw [17] (fun iv wr => ∃ i : Nat, i ≤ m ∧ iv = .int .i64 i ∧ Below w.heap.size w wr ∧ Hid (∀ k, k < i → (rs.getD k rnil).R m)) (fun iv _ => m - (intOf iv).toNat)
      case atStart => exact ⟨0, Nat.zero_le _, rfl, Below.refl _ _, Lib.hid fun k hk => by omega⟩
      case round =>
        obtain ⟨i, hi, rfl, hbl, hz⟩ := hrel
        by_cases hgo : i < m
        · obtain ⟨bb, off, Aa, ca, f, hA, hBB, c0, c1, c2, c3, c4, hla, hfa, hf⟩ := (HD.out.below hbl) i (by rw [HM.out]; exact hgo)
          subst hA
          obtain ⟨s1, A1, n1, d1, s2, A2, n2, d2⟩ := f
          simp only at c1 c2 c3 c4
          obtain ⟨la, hlae⟩ : ∃ l, (rs.getD i rnil).A.length = l := ⟨_, rfl⟩
          rw [hlae] at c0 hla
          have HLA := Lib.hid hlae; clear hlae
          have hbA : Below wr.heap.size wr (wr.alloc (.cells #[.slice Aa la ca, .int .i64 s1, .slice A1 n1 d1, .int .i64 s2, .slice A2 n2 d2] 43)) := (Below.refl _ _).alloc (Nat.le_refl _) _
          have hfA := hf.below hbA
          have hfaA := hfa.below hbA
          have hblA := hbl.trans (hbA.mono hbl.size)
          have kA := Blk.new wr 43 #[.slice Aa la ca, .int .i64 s1, .slice A1 n1 d1, .int .i64 s2, .slice A2 n2 d2]
          go_wp2_with fail
          clear c0 c1 c2 c3 c4 hf hfa hbA
          obtain ⟨G, hG⟩ : ∃ G, wr.heap.size = G := ⟨_, rfl⟩
          rw [hG] at kA ⊢
          generalize wr.alloc (.cells #[.slice Aa la ca, .int .i64 s1, .slice A1 n1 d1, .int .i64 s2, .slice A2 n2 d2] 43) = W1 at *
          clear hG
          by_cases hl : la = m ∧ ∀ k, k < la → ((rs.getD i rnil).A.getD k dnil).R
          · (with_reducible refine (isList_any (n := m) _ hfaA HLA.out hla (by omega) true ⟨fun _ => hl, fun _ => rfl⟩).mono ?_)
            rintro e u1 ⟨rfl, hb1⟩
            have hbb := hblA.trans (hb1.mono hblA.size)
            have k1 := kA.below hb1 kA.lt
            have hf1 := hfA.below hb1
            have HL := Lib.hid hl
            clear kA hfaA hfA hl
            have q1 := k1.cell 1
            have q2 := k1.cell 2
            have q3 := k1.cell 3
            have q4 := k1.cell 4
            simp at q1 q2 q3 q4
            go_wp2_with fail
            clear q1 q2 q3 q4
            have a1 := hf1.a1
            have a2 := hf1.a2
            have e1 := hf1.e1
            have e2 := hf1.e2
            simp only at a1 a2 e1 e2
            by_cases hr : (rs.getD i rnil).v.R
            · have hr' : RF s1 (rs.getD i rnil).v.l s2 (rs.getD i rnil).v.l' := by rw [e1, e2]; exact hr
              (with_reducible refine (fright_any _ a1 a2 true ⟨fun _ => hr', fun _ => rfl⟩).mono ?_)
              rintro e u2 ⟨rfl, hb2⟩
              have hbb2 := hbb.trans (hb2.mono hbb.size)
              have HR := Lib.hid (show (rs.getD i rnil).R m from ⟨HLA.out.trans HL.out.1, fun k hk => HL.out.2 k (by have := HL.out.1; omega), hr⟩)
              clear k1 hf1 a1 a2 e1 e2 hr hr'
              go_wp2_with fail
              go_roundw
              case rel => exact ⟨i + 1, by omega, rfl, hbb2, Lib.hid fun k hk => by
                by_cases hki : k < i
                · exact hz.out k hki
                · have : k = i := by omega
                  subst this
                  exact HR.out⟩
              case measure => simp [intOf]; omega
            · have hr' : ¬ RF s1 (rs.getD i rnil).v.l s2 (rs.getD i rnil).v.l' := by rw [e1, e2]; exact hr
              (with_reducible refine (fright_any _ a1 a2 false ⟨fun h => (by cases h), fun h => absurd h hr'⟩).mono ?_)
              rintro e u2 ⟨rfl, hb2⟩
              have hbb2 := hbb.trans (hb2.mono hbb.size)
              have hbf : Hid (b = false) := Lib.hid (by
                cases hbv : b with
                | false => rfl
                | true => exact absurd ((HB.out.1 hbv).2.2 i (by rw [HM.out]; exact hgo)).2.2 hr)
              clear k1 hf1 a1 a2 e1 e2 hr hr'
              go_wp2_with fail
              go_ret
              exact ⟨by rw [hbf.out]; rfl, hbb2⟩
          · (with_reducible refine (isList_any (n := m) _ hfaA HLA.out hla (by omega) false ⟨fun h => (by cases h), fun h => absurd h hl⟩).mono ?_)
            rintro e u1 ⟨rfl, hb1⟩
            have hbb := hblA.trans (hb1.mono hblA.size)
            have hbf : Hid (b = false) := Lib.hid (by
              cases hbv : b with
              | false => rfl
              | true =>
                have h := (HB.out.1 hbv).2.2 i (by rw [HM.out]; exact hgo)
                rw [HM.out] at h
                exact absurd ⟨HLA.out.symm.trans h.1, fun k hk => h.2.1 k (by have := HLA.out.symm.trans h.1; omega)⟩ hl)
            clear kA hfaA hfA hl
            go_wp2_with fail
            go_ret
            exact ⟨by rw [hbf.out]; rfl, hbb⟩
        · have : i = m := by omega
          subst this
          have hbt : Hid (b = true) := Lib.hid (HB.out.2 ⟨by rw [HM.out], by rw [HM.out]; exact h40, fun k hk => by rw [HM.out] at hk ⊢; exact hz.out k hk⟩)
          go_wp2_with fail
          go_ret
          exact ⟨by rw [hbt.out]; rfl, hbl⟩
    · have hgt : decide ((40 : Int) < (m : Int)) = true := by rw [decide_eq_true_eq]; omega
      have hbf : Hid (b = false) := Lib.hid (by
        cases hbv : b with
        | false => rfl
        | true => exact absurd (by have := (HB.out.1 hbv).2.1; rwa [HM.out] at this) h40)
      go_wp2_with fail
      go_ret
      exact ⟨by rw [hbf.out]; rfl, Below.refl _ _⟩
  · have hne : ((m : Int) != n) = true := by simp; exact hmn
    have hbf : Hid (b = false) := Lib.hid (by
      cases hbv : b with
      | false => rfl
      | true => exact absurd (by have := (HB.out.1 hbv).1; rwa [HM.out] at this) hmn)
    go_wp2_with fail
    go_ret
    exact ⟨by rw [hbf.out]; rfl, Below.refl _ _⟩

end Go.Proofs.YtgpmmpajnfbecaaGreat

namespace Go.Proofs.YtgpmmpajnfbecaaGreat
open Go.RowKit

theorem Tryz.infoFr : (Tryz.prog.info? 41).map (fun i => (i.zero, i.size, i.bytes)) = some (some (.agg #[.int .i64 0, .slice none 0 0, .int .i64 0, .slice none 0 0]), 4, 64) := by kernel_rfl

/-- The cells of fractions, one behind the other. -/
def fcs (l : List Fc) : List Value := l.flatMap fun f => [Value.int .i64 f.s, .slice f.A f.n f.c, .int .i64 f.s', .slice f.A' f.n' f.c']
theorem fcs_length (l : List Fc) : (fcs l).length = l.length * 4 := by
  induction l with
  | nil => rfl
  | cons p l ih => simp only [fcs, List.flatMap_cons, List.length_append, List.length_cons, List.length_nil] at ih ⊢; omega
theorem fcs_append (a b : List Fc) : fcs (a ++ b) = fcs a ++ fcs b := by simp [fcs]
theorem fcs_get (l : List Fc) (j : Nat) (h : j < l.length) : (fcs l)[j * 4]? = some (.int .i64 (l.getD j fnil).s) ∧ (fcs l)[j * 4 + 1]? = some (.slice (l.getD j fnil).A (l.getD j fnil).n (l.getD j fnil).c) ∧
    (fcs l)[j * 4 + 2]? = some (.int .i64 (l.getD j fnil).s') ∧ (fcs l)[j * 4 + 3]? = some (.slice (l.getD j fnil).A' (l.getD j fnil).n' (l.getD j fnil).c') := by
  induction l generalizing j with
  | nil => simp at h
  | cons p l ih =>
    cases j with
    | zero => simp [fcs]
    | succ j =>
      have h1 := ih j (by simpa using h)
      have e : (j + 1) * 4 = j * 4 + 1 + 1 + 1 + 1 := by omega
      have e3 : ∀ l, fcs (p :: l) = Value.int .i64 p.s :: .slice p.A p.n p.c :: .int .i64 p.s' :: .slice p.A' p.n' p.c' :: fcs l := fun _ => rfl
      rw [e, e3, List.getD_cons_succ]
      simpa using h1
theorem fcs_oneCell (l : List Fc) : ∀ u ∈ fcs l, u.oneCell' = true := by
  intro u hu
  unfold fcs at hu
  obtain ⟨p, _, hp⟩ := List.mem_flatMap.1 hu
  simp at hp
  rcases hp with rfl | rfl | rfl | rfl <;> rfl

/-- Fractions at address A, as they lie. -/
def FcAt (w : World) (A : Option Addr) (fs : List Fc) : Prop := ∀ k, k < fs.length → ∃ (b off : Nat), A = some ⟨b, off, none⟩ ∧ b < w.heap.size ∧
  w.cell? ⟨b, off + k * 4, none⟩ = some (.int .i64 (fs.getD k fnil).s) ∧ w.cell? ⟨b, off + k * 4 + 1, none⟩ = some (.slice (fs.getD k fnil).A (fs.getD k fnil).n (fs.getD k fnil).c) ∧
  w.cell? ⟨b, off + k * 4 + 2, none⟩ = some (.int .i64 (fs.getD k fnil).s') ∧ w.cell? ⟨b, off + k * 4 + 3, none⟩ = some (.slice (fs.getD k fnil).A' (fs.getD k fnil).n' (fs.getD k fnil).c')
theorem FcAt.below {w w' : World} {A : Option Addr} {fs : List Fc} (h : FcAt w A fs) (hb : Below w.heap.size w w') : FcAt w' A fs := fun k hk => by
  obtain ⟨b, off, e, hB, h0, h1, h2, h3⟩ := h k hk
  have hc : ∀ i, w'.cell? ⟨b, i, none⟩ = w.cell? ⟨b, i, none⟩ := fun i => hb.cell (p := ⟨b, i, none⟩) hB
  exact ⟨b, off, e, Nat.lt_of_lt_of_le hB hb.size, (hc _).trans h0, (hc _).trans h1, (hc _).trans h2, (hc _).trans h3⟩
theorem FdsAt.fcs {w : World} {A : Option Addr} {ds : List Fd} (h : FdsAt w A ds) : ∃ fs : List Fc, fs.length = ds.length ∧ FcAt w A fs ∧ ∀ k, k < ds.length → FdIs w (fs.getD k fnil) (ds.getD k dnil) := by
  have h' : ∀ k, ∃ f : Fc, k < ds.length → ∃ (b off : Nat), A = some ⟨b, off, none⟩ ∧ b < w.heap.size ∧
      w.cell? ⟨b, off + k * 4, none⟩ = some (.int .i64 f.s) ∧ w.cell? ⟨b, off + k * 4 + 1, none⟩ = some (.slice f.A f.n f.c) ∧
      w.cell? ⟨b, off + k * 4 + 2, none⟩ = some (.int .i64 f.s') ∧ w.cell? ⟨b, off + k * 4 + 3, none⟩ = some (.slice f.A' f.n' f.c') ∧ FdIs w f (ds.getD k dnil) := fun k => by
    by_cases hk : k < ds.length
    · obtain ⟨b, off, f, hh⟩ := h k hk
      exact ⟨f, fun _ => ⟨b, off, hh⟩⟩
    · exact ⟨fnil, fun hk' => absurd hk' hk⟩
  obtain ⟨F, hF⟩ := Classical.axiomOfChoice h'
  refine ⟨(List.range ds.length).map F, by simp, ?_, ?_⟩
  · intro k hk
    rw [List.length_map, List.length_range] at hk
    have e : ((List.range ds.length).map F).getD k fnil = F k := by simp [List.getD_eq_getElem?_getD, hk]
    rw [e]
    obtain ⟨b, off, h1, h2, h3, h4, h5, h6, _⟩ := hF k hk
    exact ⟨b, off, h1, h2, h3, h4, h5, h6⟩
  · intro k hk
    have e : ((List.range ds.length).map F).getD k fnil = F k := by simp [List.getD_eq_getElem?_getD, hk]
    rw [e]
    obtain ⟨b, off, h1, h2, h3, h4, h5, h6, h7⟩ := hF k hk
    exact h7

/-- A slice value v of fractions, owned from block B on. -/
def OwnF (w : World) (B : Nat) (v : Value) (fs : List Fc) : Prop := w.ownsRow B 41 4 v fs.length (fcs fs)
section
variable {w w' : World} {B B' : Nat} {v : Value} {fs : List Fc}
theorem OwnF.nil (w : World) (B : Nat) : OwnF w B (.slice none 0 0) [] := World.ownsRow_nil w B 41 4
theorem OwnF.below (h : OwnF w B v fs) (hb : Below w.heap.size w w') : OwnF w' B v fs :=
  World.ownsRow.kept (row := none) h ⟨hb.os, hb.tape, hb.output, hb.size, fun k hk _ => hb.block k hk⟩ (by cases v.ownBlock <;> simp)
theorem OwnF.mono (h : OwnF w B v fs) (hb : B' ≤ B) : OwnF w B' v fs := World.ownsRow.mono h hb
theorem OwnF.lt {g n cap : Nat} (h : OwnF w B (.slice (some ⟨g, 0, none⟩) n cap) fs) : B ≤ g ∧ g < w.heap.size := World.ownsRow.lt h g rfl
/-- The block of one that is not empty. -/
theorem OwnF.blk (h : OwnF w B v fs) (hn : 0 < fs.length) : ∃ g cap cur, v = .slice (some ⟨g, 0, none⟩) fs.length cap ∧ B ≤ g ∧ Blk w g 41 cur ∧ CellsL cur fs ∧ fs.length ≤ cap ∧ cap ≤ maxLen := by
  have hh := h
  rcases h.2 with ⟨rfl, h0⟩ | ⟨g, cap, cur, rfl, hb, hg, hnc, hcm, hcs, htake⟩
  · omega
  · refine ⟨g, cap, cur, rfl, hb, hg, fun k hk => ?_, hnc, hcm⟩
    obtain ⟨f0, f1, f2, f3⟩ := fcs_get fs k hk
    have hc : ∀ j, j < fs.length * 4 → cur[j]? = (fcs fs)[j]? := fun j hj => by
      rw [← htake, List.getElem?_take, if_pos hj]
      simp
    exact ⟨(hc _ (by omega)).trans f0, (hc _ (by omega)).trans f1, (hc _ (by omega)).trans f2, (hc _ (by omega)).trans f3⟩
theorem OwnF.at_ (h : OwnF w B v fs) : ∃ A c, v = .slice A fs.length c ∧ fs.length ≤ c ∧ c ≤ 9223372036854775807 ∧ FcAt w A fs := by
  rcases h.2 with ⟨rfl, hn⟩ | ⟨g, cap, cur, rfl, hb, hg, hnc, hcm, hcs, htake⟩
  · have : fs = [] := List.eq_nil_of_length_eq_zero hn
    subst this
    exact ⟨none, 0, rfl, by simp, by omega, fun k hk => by cases hk⟩
  · refine ⟨_, cap, rfl, by omega, by unfold maxLen at hcm; omega, fun k hk => ⟨g, 0, rfl, (Array.getElem?_eq_some_iff.1 hg).1, ?_⟩⟩
    obtain ⟨f0, f1, f2, f3⟩ := fcs_get fs k hk
    rw [Nat.zero_add, World.ownsRow.cellAt h (k * 4) (by omega), World.ownsRow.cellAt h (k * 4 + 1) (by omega), World.ownsRow.cellAt h (k * 4 + 2) (by omega), World.ownsRow.cellAt h (k * 4 + 3) (by omega)]
    exact ⟨f0, f1, f2, f3⟩
end
theorem fc_src {w : World} {ad : Addr} {fs : List Fc} (h : FcAt w (some ad) fs) : ∀ j u, (fcs fs)[j]? = some u → w.cell? (ad.add j) = some u := fun j u hj => by
  have hlt := (List.getElem?_eq_some_iff.1 hj).1
  rw [fcs_length] at hlt
  obtain ⟨b, off, e, _, h0, h1, h2, h3⟩ := h (j / 4) (by omega)
  injection e with e
  subst e
  obtain ⟨f0, f1, f2, f3⟩ := fcs_get fs (j / 4) (by omega)
  rw [← f0] at h0
  rw [← f1] at h1
  rw [← f2] at h2
  rw [← f3] at h3
  rw [Go.WideShapes.add_plain, ← hj]
  rcases (show j = j / 4 * 4 ∨ j = j / 4 * 4 + 1 ∨ j = j / 4 * 4 + 2 ∨ j = j / 4 * 4 + 3 by omega) with e | e | e | e
  · rw [← e] at h0; rw [← h0]
  · rw [← e] at h1; rw [← h1]; congr 2; omega
  · rw [← e] at h2; rw [← h2]; congr 2; omega
  · rw [← e] at h3; rw [← h3]; congr 2; omega

theorem run_appF (w : World) (ty : TypeId) (B : Nat) (v : Value) (ds es : List Fc) (A : Option Addr) (m c : Nat) (hown : OwnF w B v ds) (hm : es.length = m) (hsrc : FcAt w A es) (hb : ds.length + m ≤ 1000000) (hbase : B ≤ w.heap.size) :
    ∃ v' w', (Builtin.append_ #[23, 23] ty #[v, .slice A m c]).run Tryz.prog w = .ok v' w' ∧ OwnF w' B v' (ds ++ es) ∧ w.grownBy w' v.ownBlock ∧ (v'.ownBlock = v.ownBlock ∨ v'.ownBlock = some w.heap.size) := by
  obtain ⟨i0, hi, hz0, hz1, hz2⟩ := info_parts Tryz.infoFr
  subst hm
  have hpl := fcs_length es
  cases A with
  | some ad =>
    obtain ⟨v', w', a1, a2, a3, _, a4⟩ := run_append_own_at (P := Tryz.prog) w B 23 ty 41 i0 (.agg #[.int .i64 0, .slice none 0 0, .int .i64 0, .slice none 0 0]) 4 64 Tryz.underlying23 hi hz0 hz1 hz2 rfl (by decide) v ds.length (fcs ds) hown ad es.length c (fcs es) hpl (fc_src hsrc) (fcs_oneCell es) (by unfold maxLen; omega) (by omega) hbase
    refine ⟨v', w', a1, ?_, a3, a4⟩
    unfold OwnF
    rw [List.length_append, fcs_append]
    exact a2
  | none =>
    have he : es = [] := by
      cases es with
      | nil => rfl
      | cons d es => obtain ⟨b, off, e, _⟩ := hsrc 0 (by simp); cases e
    subst he
    refine ⟨v, w, ?_, by rw [List.append_nil]; exact hown, ⟨rfl, rfl, rfl, Nat.le_refl _, fun _ _ _ => rfl⟩, .inl rfl⟩
    rcases hown.2 with ⟨rfl, hn⟩ | ⟨g, cap, cur, rfl, _, _, hnc, _⟩
    · simp [Builtin.append_, run_underlying Tryz.underlying23, sizeOf, typeInfo, hi, Builtin.lenOf, Builtin.firstCells]
    · simp [Builtin.append_, run_underlying Tryz.underlying23, sizeOf, typeInfo, hi, Builtin.lenOf, Builtin.firstCells, loadCells, hnc, storeCells]

/-- append at a step of a region that draws its order. -/
theorem step_appF {w : World} {ops : Array Oper} {o : Oper} {a : Act} {K : Act → World → Prop} {Q : Exit → Act → World → Prop} {E : Prop} (hgd : o.guard = none) (s x : Operand)
    (ho : o.op = .call { callee := .builtin .append, args := #[s, x], argTypes := #[23, 23] })
    (B : Nat) (v : Value) (ds es : List Fc) (A : Option Addr) (m c : Nat) (hs : a.eval s = v) (hown : OwnF w B v ds)
    (hx : a.eval x = .slice A m c) (hm : es.length = m) (hsrc : FcAt w A es) (hb : ds.length + m ≤ 1000000) (hbase : B ≤ w.heap.size)
    (h : ∀ v' w', OwnF w' B v' (ds ++ es) → w.grownBy w' v.ownBlock → (v'.ownBlock = v.ownBlock ∨ v'.ownBlock = some w.heap.size) → K (a.put o.dst v') w') :
    if Region.wanted o (yielded ops a.tmps) = true then Oper.wp Tryz.prog o a w K Q else E := by
  have hw : Region.wanted o (yielded ops a.tmps) = true := by simp [Region.wanted, hgd]
  rw [if_pos hw]
  obtain ⟨v', w', hr, h2, h3, h4⟩ := run_appF w o.type B v ds es A m c hown hm hsrc hb hbase
  unfold Oper.wp execOp
  simp only [ho, resolve, invoke, builtin, Sem.run_bind, Sem.run_pure, Result.andThen_ok, List.map_toArray, List.map_cons, List.map_nil, hs, hx, hr]
  exact h v' w' h2 h3 h4
/-- append, with where the new slice lies. -/
theorem appF_at {w : World} {ops : Array Oper} {rest : List Oper} {o : Oper} {a : Act} {Q : Exit → Act → World → Prop} (hgd : o.guard = none) (s x : Operand)
    (ho : o.op = .call { callee := .builtin .append, args := #[s, x], argTypes := #[23, 23] })
    (B : Nat) (v : Value) (ds es : List Fc) (A : Option Addr) (m c : Nat) (hs : a.eval s = v) (hown : OwnF w B v ds)
    (hx : a.eval x = .slice A m c) (hm : es.length = m) (hsrc : FcAt w A es) (hb : ds.length + m ≤ 1000000) (hbase : B ≤ w.heap.size)
    (h : ∀ v' w', OwnF w' B v' (ds ++ es) → w.grownBy w' v.ownBlock → (v'.ownBlock = v.ownBlock ∨ v'.ownBlock = some w.heap.size) → wpList Tryz.prog ops Q rest (a.put o.dst v') w') : wpList Tryz.prog ops Q (o :: rest) a w := by
  obtain ⟨v', w', hr, h2, h3, h4⟩ := run_appF w o.type B v ds es A m c hown hm hsrc hb hbase
  refine wpList_plain hgd fun K' hK' => ?_
  unfold Oper.wp execOp
  simp only [ho, resolve, invoke, builtin, Sem.run_bind, Sem.run_pure, Result.andThen_ok, List.map_toArray, List.map_cons, List.map_nil, hs, hx, hr]
  exact hK' _ _ (h v' w' h2 h3 h4)

theorem grown_belF {B : Nat} {w0 w w' : World} {v : Value} {ds : List Fc} (h : Below B w0 w) (hown : OwnF w B v ds) (hg : w.grownBy w' v.ownBlock) (hB : B ≤ w0.heap.size) : Below B w0 w' :=
  ⟨hg.os.trans h.os, hg.tape.trans h.tape, hg.output.trans h.output, Nat.le_trans h.size hg.size, fun k hk => (hg.block k (by have := h.size; omega) (fun e => by have := (World.ownsRow.lt hown k e.symm).1; omega)).trans (h.block k hk)⟩
theorem emptyF (w : World) {B : Nat} (hB : B ≤ w.heap.size) : OwnF (w.alloc (.cells #[] 41)) B (.slice (some ⟨w.heap.size, 0, none⟩) 0 0) [] :=
  ⟨rfl, .inr ⟨w.heap.size, 0, #[], rfl, hB, heap_alloc_new w _, Nat.le_refl _, Nat.zero_le _, rfl, rfl⟩⟩

set_option maxRecDepth 100000 in
set_option maxHeartbeats 4000000 in
theorem fclone_any (fs : List Fc) (A : Option Addr) (n c : Nat) (w : World) (hn : fs.length = n) (hS : FcAt w A fs) (hl : n ≤ 1000) :
    Calls Tryz.prog 38 #[.slice A n c] w fun e w' => ∃ v, e = .returned v ∧ OwnF w' w.heap.size v fs ∧ Below w.heap.size w w' := by
  cases A with
  | none =>
    have hd : fs = [] := by
      cases fs with
      | nil => rfl
      | cons d es => obtain ⟨b, off, e, _⟩ := hS 0 (by simp); cases e
    subst hd
    clear hS
    simp at hn
    subst hn
    have hnn := Lib.run_eql_slice_nil (P := Tryz.prog) w 23 41 none 0 c 0 0 Tryz.underlying23
    go_enter Tryz.func38, Tryz.ntmps38
    go_wp2_with fail
    go_ret
    exact ⟨_, rfl, OwnF.nil _ _, Below.refl _ _⟩
  | some ad =>
    have HS := Lib.hid hS; clear hS
    have hnn := Lib.run_eql_slice_nil (P := Tryz.prog) w 23 41 (some ad) n c 0 0 Tryz.underlying23
    go_enter Tryz.func38, Tryz.ntmps38
    go_wp2_with (at_builtin; refine appF_at rfl (.tmp 5) (.tmp 6) rfl w.heap.size _ [] fs (some ad) n c rfl (emptyF w (Nat.le_refl _)) rfl hn (HS.out.below ((Below.refl _ _).alloc (Nat.le_refl _) _)) (by simp; omega) (by simp) ?_; intro v2 w2 hown2 hg2 hat2; have hb2 := grown_belF ((Below.refl w.heap.size w).alloc (Nat.le_refl _) _) (emptyF w (Nat.le_refl _)) hg2 (Nat.le_refl _))
    go_ret
    exact ⟨_, rfl, by simpa using hown2, hb2⟩

end Go.Proofs.YtgpmmpajnfbecaaGreat
