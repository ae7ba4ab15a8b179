/- Walks: number, fitting, Of, Same. -/
import Derived.Test.YtofndidngjglmaaDoorR
namespace Go.Proofs.YtofndidngjglmaaDoor
open Go.RowKit

/-- A big integer that reads as z. -/
def BV (w : World) (B : Nat) (v : Value) (z : Int) : Prop := ∃ A c, v = .agg #[.int .i64 (sgn z), .slice A (D (ab z)).length c] ∧ (D (ab z)).length ≤ c ∧ c ≤ 9223372036854775807 ∧ IntsAt B w A (D (ab z))
section
variable {w w' : World} {B B' : Nat} {v : Value} {z : Int}
theorem BV.below (h : BV w B v z) (hb : Below B w w') : BV w' B v z := by
  obtain ⟨A, c, e, h1, h2, h3⟩ := h
  exact ⟨A, c, e, h1, h2, h3.below hb⟩
theorem BV.more (h : BV w B v z) (hb : B ≤ B') : BV w B' v z := by
  obtain ⟨A, c, e, h1, h2, h3⟩ := h
  exact ⟨A, c, e, h1, h2, h3.more hb⟩
theorem BV.later (h : BV w w.heap.size v z) (hb : Below w.heap.size w w') : BV w' w'.heap.size v z := (h.below hb).more hb.size
theorem BV.drewN (h : BV w B v z) (n : Nat) : BV (w.drewN n) B v z := h
theorem BV.zero (w : World) (B : Nat) : BV w B (.agg #[.int .i64 0, .slice none 0 0]) 0 := ⟨none, 0, by rw [sgn_zero, ab_zero, D_zero]; rfl, by rw [ab_zero, D_zero]; exact Nat.le_refl _, by omega, by rw [ab_zero, D_zero]; exact IntsAt.nil _ _ _⟩
end

theorem Blk.set2 {w : World} {g : Nat} {t : TypeId} {a0 a1 : Value} (h : Blk w g t #[a0, a1]) (b0 b1 : Value) : Blk ((w.setCell ⟨g, 0, none⟩ b0).setCell ⟨g, 1, none⟩ b1) g t #[b0, b1] := by
  simpa using (h.set_ 0 b0).set_ 1 b1

/-- What number makes of a slice: zero, or a sign and just this slice. -/
def Rz (z : Int) (A : Option Addr) (c : Nat) (r : Value) : Prop := (r = .agg #[.int .i64 0, .slice none 0 0] ∧ z = 0) ∨ r = .agg #[.int .i64 (sgn z), .slice A (D (ab z)).length c]
theorem Rz.form {z : Int} {A : Option Addr} {c : Nat} {r : Value} (h : Rz z A c r) : ∃ s' A' n' c', r = .agg #[.int .i64 s', .slice A' n' c'] := by
  rcases h with ⟨rfl, _⟩ | rfl
  · exact ⟨_, _, _, _, rfl⟩
  · exact ⟨_, _, _, _, rfl⟩
theorem Rz.bv {z : Int} {A : Option Addr} {c B : Nat} {r : Value} {w : World} (h : Rz z A c r) (hc : (D (ab z)).length ≤ c) (hcm : c ≤ 9223372036854775807) (hI : IntsAt B w A (D (ab z))) : BV w B r z := by
  rcases h with ⟨rfl, rfl⟩ | rfl
  · exact BV.zero _ _
  · exact ⟨A, c, rfl, hc, hcm, hI⟩

/-- A big integer that reads as z, whose digits the call owns from block B on. -/
def BO (w : World) (B : Nat) (r : Value) (z : Int) : Prop := ∃ v, r = .agg #[.int .i64 (sgn z), v] ∧ OwnI w B v (D (ab z))
theorem BO.zero (w : World) (B : Nat) : BO w B (.agg #[.int .i64 0, .slice none 0 0]) 0 := ⟨.slice none 0 0, by rw [sgn_zero], by rw [ab_zero, D_zero]; exact OwnI.nil _ _⟩
theorem BO.form {w : World} {B : Nat} {r : Value} {z : Int} (h : BO w B r z) : ∃ s' A' n' c', r = .agg #[.int .i64 s', .slice A' n' c'] := by
  obtain ⟨v, rfl, ho⟩ := h
  obtain ⟨A, c, rfl⟩ := ho.form
  exact ⟨_, _, _, _, rfl⟩
theorem BO.below {w w' : World} {B : Nat} {r : Value} {z : Int} (h : BO w B r z) (hb : Below w.heap.size w w') : BO w' B r z := by
  obtain ⟨v, rfl, ho⟩ := h
  exact ⟨v, rfl, ho.below hb⟩
theorem BO.mono {w : World} {B B' : Nat} {r : Value} {z : Int} (h : BO w B r z) (hb : B' ≤ B) : BO w B' r z := by
  obtain ⟨v, rfl, ho⟩ := h
  exact ⟨v, rfl, ho.mono hb⟩
theorem BO.bv {w : World} {B : Nat} {r : Value} {z : Int} (h : BO w B r z) : BV w w.heap.size r z := by
  obtain ⟨v, rfl, ho⟩ := h
  obtain ⟨A, c, rfl, h1, h2, h3⟩ := ho.at_
  exact ⟨A, c, rfl, h1, h2, h3⟩
theorem Rz.bo {z : Int} {A : Option Addr} {c B : Nat} {r : Value} {w : World} (h : Rz z A c r) (ho : OwnI w B (.slice A (D (ab z)).length c) (D (ab z))) : BO w B r z := by
  rcases h with ⟨rfl, rfl⟩ | rfl
  · exact BO.zero _ _
  · exact ⟨_, rfl, ho⟩

def NumP (z : Int) (A : Option Addr) (c : Nat) (w : World) (e : Ending) (w' : World) : Prop := ∃ r, e = .returned r ∧ Rz z A c r ∧ Below w.heap.size w w'
/-- What a result is where there is room for it, and its error. -/
def fitz (z : Int) : Int := if ab z < pw 60 then z else 0
def fite (z : Int) : Int := if ab z < pw 60 then 0 else 6
def FitP (z : Int) (A : Option Addr) (c : Nat) (w : World) (e : Ending) (w' : World) : Prop := ∃ r, e = .returned (.tuple #[r, .int .i64 (fite z)]) ∧ Rz (fitz z) A c r ∧ Below w.heap.size w w'

theorem Rz.fit {z : Int} {A : Option Addr} {c B : Nat} {r : Value} {w : World} (h : Rz (fitz z) A c r) (hc : (D (ab z)).length ≤ c) (hcm : c ≤ 9223372036854775807) (hI : IntsAt B w A (D (ab z))) : BV w B r (fitz z) := by
  unfold fitz at h ⊢
  split at h
  · rename_i h6
    rw [if_pos h6]; exact h.bv hc hcm hI
  · rename_i h6
    rw [if_neg h6]
    refine h.bv ?_ hcm ?_
    · rw [ab_zero, D_zero]; simp
    · rw [ab_zero, D_zero]; exact IntsAt.nil _ _ _

theorem Rz.fito {z : Int} {A : Option Addr} {c B : Nat} {r : Value} {w : World} (h : Rz (fitz z) A c r) (ho : OwnI w B (.slice A (D (ab z)).length c) (D (ab z))) : BO w B r (fitz z) := by
  unfold fitz at h ⊢
  split at h
  · rename_i h6
    rw [if_pos h6]; exact h.bo ho
  · rename_i h6
    rw [if_neg h6]
    refine h.bo ?_
    rw [ab_zero, D_zero]
    exact OwnI.cut (k := 0) ho rfl (Nat.zero_le _)

theorem ab_of_nil {z : Int} (h : (D (ab z)).length = 0) : z = 0 := by
  rcases Int.lt_or_le 0 (ab z) with h' | h'
  · have := D_len_pos h'; omega
  · unfold ab at h'; omega

set_option maxRecDepth 100000 in
set_option maxHeartbeats 1000000 in
theorem number_any (z s : Int) (A : Option Addr) (c : Nat) (w : World) (hs : z ≠ 0 → s = sgn z) :
    Calls Tryd.prog 29 #[.int .i64 s, .slice A (D (ab z)).length c] w (NumP z A c w) := by
  have hb : ∀ v, Below w.heap.size w (w.alloc (.cells v 24)) := fun v => (Below.refl _ _).alloc (Nat.le_refl _) _
  have HB := Lib.hid hb; clear hb
  by_cases h0 : (D (ab z)).length = 0
  · have hz := ab_of_nil h0
    subst hz
    rw [h0]
    clear hs h0
    go_enter Tryd.func29, Tryd.ntmps29
    go_wp2_with fail
    refine bodyPost_ret (v := .agg #[.int .i64 0, .slice none 0 0]) (by simp [results, Tryd.results29, go_sem]) rfl ?_
    exact ⟨_, rfl, .inl ⟨rfl, rfl⟩, HB.out _⟩
  · have hz : z ≠ 0 := fun h => h0 (by rw [h, ab_zero, D_zero]; rfl)
    have hsz := hs hz
    have hrz : Rz z A c (.agg #[.int .i64 s, .slice A (D (ab z)).length c]) := .inr (by rw [hsz])
    obtain ⟨n, hn⟩ : ∃ n, (D (ab z)).length = n := ⟨_, rfl⟩
    rw [hn] at h0 hrz ⊢
    have hn0 : ((n : Int) == 0) = false := by simp; omega
    have HRZ := Lib.hid hrz
    clear hn hs hsz hrz hz
    go_enter Tryd.func29, Tryd.ntmps29
    go_wp2_with fail
    refine bodyPost_ret (v := .agg #[.int .i64 s, .slice A n c]) (by simp [results, Tryd.results29, go_sem]) rfl ?_
    exact ⟨_, rfl, HRZ.out, HB.out _⟩

set_option maxRecDepth 100000 in
set_option maxHeartbeats 1000000 in
theorem fitting_any (z s : Int) (A : Option Addr) (c : Nat) (w : World) (hs : z ≠ 0 → s = sgn z) :
    Calls Tryd.prog 27 #[.int .i64 s, .slice A (D (ab z)).length c] w (FitP z A c w) := by
  have hb : ∀ v, Below w.heap.size w (w.alloc (.cells v 24)) := fun v => (Below.refl _ _).alloc (Nat.le_refl _) _
  have HB := Lib.hid hb; clear hb
  have hnum := fun w' => number_any z s A c w' hs
  by_cases h6 : ab z < pw 60
  · have hl := (D_len_le (ab_nonneg z)).2 h6
    have hz : fitz z = z := if_pos h6
    have he : fite z = 0 := if_pos h6
    unfold FitP
    rw [hz, he]
    obtain ⟨n, hn⟩ : ∃ n, (D (ab z)).length = n := ⟨_, rfl⟩
    rw [hn] at hl hnum ⊢
    have HNUM := Lib.hid hnum; clear hnum
    clear hn hz he hs h6
    go_enter Tryd.func27, Tryd.ntmps27
    go_wp2_with fail
    refine (HNUM.out _).mono ?_
    rintro e w1 ⟨r, rfl, hr, hb1⟩
    have HR := Lib.hid hr
    obtain ⟨s', A', n', c', rfl⟩ := hr.form
    clear hr
    have hbk : Blk w1 w.heap.size 24 #[.int .i64 0, .slice none 0 0] := (Blk.new w 24 _).below hb1 (by simp)
    have hc0 : w1.cell? ⟨w.heap.size, 0, none⟩ = some (.int .i64 0) := hbk.cell 0
    have hc1 : w1.cell? ⟨w.heap.size, 1, none⟩ = some (.slice none 0 0) := hbk.cell 1
    have hf0 := hbk.frozen 0
    have hf1 := hbk.frozen 1
    have hb2 : Below w.heap.size w w1 := (HB.out _).trans (hb1.mono (by simp))
    have hbs := hbk.set2 (.int .i64 s') (.slice A' n' c')
    have hd0 := hbs.cell 0
    have hd1 := hbs.cell 1
    simp at hd0 hd1
    have hb3 := (hb2.setCell (p := ⟨w.heap.size, 0, none⟩) (Nat.le_refl _) (.int .i64 s')).setCell (p := ⟨w.heap.size, 1, none⟩) (Nat.le_refl _) (.slice A' n' c')
    go_wp2_with fail
    refine bodyPost_ret (v := .tuple #[.agg #[.int .i64 s', .slice A' n' c'], .int .i64 0]) (by simp [results, Tryd.results27, go_sem, hd0, hd1]) rfl ?_
    exact ⟨_, rfl, HR.out, hb3⟩
  · have hl := (D_len_lt (ab_nonneg z) (k := 60)).2 (by omega)
    have hz : fitz z = 0 := if_neg h6
    have he : fite z = 6 := if_neg h6
    unfold FitP
    rw [hz, he]
    obtain ⟨n, hn⟩ : ∃ n, (D (ab z)).length = n := ⟨_, rfl⟩
    rw [hn] at hl ⊢
    clear hn hz he hs h6 hnum
    go_enter Tryd.func27, Tryd.ntmps27
    go_wp2_with fail
    refine bodyPost_ret (v := .tuple #[.agg #[.int .i64 0, .slice none 0 0], .int .i64 6]) (by simp [results, Tryd.results27, go_sem]) rfl ?_
    exact ⟨_, rfl, .inl ⟨rfl, rfl⟩, HB.out _⟩

/-- A result that the call owns, behind a store into another block. -/
theorem OwnI.far {w : World} {B g k : Nat} {v : Value} {l : List Int} (h : OwnI w B v l) (hg : g < B) (u : Value) : OwnI (w.setCell ⟨g, k, none⟩ u) B v l :=
  OwnI.grown (row := some g) h (grown_set (World.grownBy.refl _ _) _) (by
    rcases hv : v.ownBlock with _ | j
    · exact .inl rfl
    · refine .inr ?_
      have := (World.ownsRow.lt h j hv).1
      simp; omega)
theorem BO.far2 {w : World} {B g : Nat} {r : Value} {z : Int} (h : BO w B r z) (hg : g < B) (u u' : Value) : BO ((w.setCell ⟨g, 0, none⟩ u).setCell ⟨g, 1, none⟩ u') B r z := by
  obtain ⟨v, rfl, ho⟩ := h
  exact ⟨v, rfl, (ho.far hg u).far hg u'⟩
theorem OwnI.far2 {w : World} {B g : Nat} {v : Value} {l : List Int} (h : OwnI w B v l) (hg : g < B) (u u' : Value) : OwnI ((w.setCell ⟨g, 0, none⟩ u).setCell ⟨g, 1, none⟩ u') B v l := (h.far hg u).far hg u'

def OfP (z : Int) (w : World) (e : Ending) (w' : World) : Prop := ∃ r, e = .returned r ∧ BO w' w.heap.size r z ∧ Below w.heap.size w w'

set_option maxRecDepth 100000 in
set_option maxHeartbeats 1000000 in
theorem of_any (z : Int) (w : World) (h0 : -9223372036854775808 ≤ z) (h1 : z ≤ 9223372036854775807) : Calls Tryd.prog 16 #[.int .i64 z] w (OfP z w) := by
  have hb : ∀ v, Below w.heap.size w (w.alloc (.cells v 24)) := fun v => (Below.refl _ _).alloc (Nat.le_refl _) _
  have HB := Lib.hid hb; clear hb
  have hsp := fun w' => split_any (ab z) w' (ab_nonneg z) (by unfold ab; omega)
  have HSP := Lib.hid hsp; clear hsp
  by_cases hz : z < 0
  · have hab : ab z = -z := by unfold ab; omega
    have hnum := fun w' A c => number_any z (-1) A c w' (fun _ => (sgn_of_neg hz).symm)
    have HNUM := Lib.hid hnum; clear hnum
    have HAB := Lib.hid hab; clear hab
    go_enter Tryd.func16, Tryd.ntmps16
    go_wp2_with fail
    rw [show IntKind.u64.wrap (-IntKind.u64.wrap z) = ab z by rw [HAB.out, IntKind.wrap_u64, IntKind.wrap_u64]; omega]
    refine (HSP.out _).mono ?_
    rintro e w1 ⟨v1, rfl, hown, hb1⟩
    obtain ⟨A1, c1, rfl, hc1, hm1, _⟩ := hown.at_
    have hnm := HNUM.out w1 A1 c1
    have HC1 := Lib.hid hc1; clear hc1
    obtain ⟨n1, hn1⟩ : ∃ n, (D (ab z)).length = n := ⟨_, rfl⟩
    have HN1 := Lib.hid hn1
    rw [hn1] at hnm ⊢
    clear hn1
    have hbk : Blk w1 w.heap.size 24 #[.int .i64 0, .slice none 0 0] := (Blk.new w 24 _).below hb1 (by simp)
    have hb01 : Below w.heap.size w w1 := (HB.out _).trans (hb1.mono (by simp))
    have hs1 := hb1.size
    go_wp2_with fail
    refine hnm.mono ?_
    rintro e w2 ⟨r, rfl, hr, hb2⟩
    have HR := Lib.hid hr
    obtain ⟨s', A', n', c', rfl⟩ := hr.form
    clear hr
    have hbk2 := hbk.below hb2 (by simp at hs1; omega)
    have hc0 : w2.cell? ⟨w.heap.size, 0, none⟩ = some (.int .i64 0) := hbk2.cell 0
    have hc1 : w2.cell? ⟨w.heap.size, 1, none⟩ = some (.slice none 0 0) := hbk2.cell 1
    have hf0 := hbk2.frozen 0
    have hf1 := hbk2.frozen 1
    have hbs := hbk2.set2 (.int .i64 s') (.slice A' n' c')
    have hd0 := hbs.cell 0
    have hd1 := hbs.cell 1
    simp at hd0 hd1
    have hb02 := hb01.trans (hb2.mono hb01.size)
    have hb3 := (hb02.setCell (p := ⟨w.heap.size, 0, none⟩) (Nat.le_refl _) (.int .i64 s')).setCell (p := ⟨w.heap.size, 1, none⟩) (Nat.le_refl _) (.slice A' n' c')
    have hof := (hown.below hb2).far2 (g := w.heap.size) (by simp) (.int .i64 s') (.slice A' n' c')
    go_wp2_with fail
    refine bodyPost_ret (v := .agg #[.int .i64 s', .slice A' n' c']) (by simp [results, Tryd.results16, go_sem, hd0, hd1]) rfl ?_
    refine ⟨_, rfl, ?_, hb3⟩
    exact HR.out.bo (hof.mono (by simp))
  · have hab : ab z = z := by unfold ab; omega
    have hnum := fun w' A c => number_any z 1 A c w' (fun h => (sgn_pos (by omega)).symm)
    have HNUM := Lib.hid hnum; clear hnum
    have HAB := Lib.hid hab; clear hab
    go_enter Tryd.func16, Tryd.ntmps16
    go_wp2_with fail
    have hzz := HSP.out (w.alloc (.cells #[.int .i64 0, .slice none 0 0] 24))
    rw [HAB.out] at hzz
    have HZZ := Lib.hid hzz; clear hzz HSP
    obtain ⟨HSP, _⟩ : (Hid (∀ _ : Unit, Calls Tryd.prog 30 #[.int .u64 z] (w.alloc (.cells #[.int .i64 0, .slice none 0 0] 24)) fun e w' => ∃ v', e = .returned v' ∧ OwnI w' (w.alloc (.cells #[.int .i64 0, .slice none 0 0] 24)).heap.size v' (D z) ∧ Below (w.alloc (.cells #[.int .i64 0, .slice none 0 0] 24)).heap.size (w.alloc (.cells #[.int .i64 0, .slice none 0 0] 24)) w')) ∧ True := ⟨Lib.hid fun _ => HZZ.out, trivial⟩
    refine (HSP.out ()).mono ?_
    rintro e w1 ⟨v1, rfl, hown, hb1⟩
    obtain ⟨A1, c1, rfl, hc1, hm1, _⟩ := hown.at_
    rw [← HAB.out] at hown hc1 ⊢
    have hnm := HNUM.out w1 A1 c1
    have HC1 := Lib.hid hc1; clear hc1
    obtain ⟨n1, hn1⟩ : ∃ n, (D (ab z)).length = n := ⟨_, rfl⟩
    have HN1 := Lib.hid hn1
    rw [hn1] at hnm ⊢
    clear hn1
    have hbk : Blk w1 w.heap.size 24 #[.int .i64 0, .slice none 0 0] := (Blk.new w 24 _).below hb1 (by simp)
    have hb01 : Below w.heap.size w w1 := (HB.out _).trans (hb1.mono (by simp))
    have hs1 := hb1.size
    go_wp2_with fail
    refine hnm.mono ?_
    rintro e w2 ⟨r, rfl, hr, hb2⟩
    have HR := Lib.hid hr
    obtain ⟨s', A', n', c', rfl⟩ := hr.form
    clear hr
    have hbk2 := hbk.below hb2 (by simp at hs1; omega)
    have hc0 : w2.cell? ⟨w.heap.size, 0, none⟩ = some (.int .i64 0) := hbk2.cell 0
    have hc1 : w2.cell? ⟨w.heap.size, 1, none⟩ = some (.slice none 0 0) := hbk2.cell 1
    have hf0 := hbk2.frozen 0
    have hf1 := hbk2.frozen 1
    have hbs := hbk2.set2 (.int .i64 s') (.slice A' n' c')
    have hd0 := hbs.cell 0
    have hd1 := hbs.cell 1
    simp at hd0 hd1
    have hb02 := hb01.trans (hb2.mono hb01.size)
    have hb3 := (hb02.setCell (p := ⟨w.heap.size, 0, none⟩) (Nat.le_refl _) (.int .i64 s')).setCell (p := ⟨w.heap.size, 1, none⟩) (Nat.le_refl _) (.slice A' n' c')
    have hof := (hown.below hb2).far2 (g := w.heap.size) (by simp) (.int .i64 s') (.slice A' n' c')
    go_wp2_with fail
    refine bodyPost_ret (v := .agg #[.int .i64 s', .slice A' n' c']) (by simp [results, Tryd.results16, go_sem, hd0, hd1]) rfl ?_
    refine ⟨_, rfl, ?_, hb3⟩
    exact HR.out.bo (hof.mono (by simp))

end Go.Proofs.YtofndidngjglmaaDoor
