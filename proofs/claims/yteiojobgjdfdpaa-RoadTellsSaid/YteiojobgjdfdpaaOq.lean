/- Early and Late of both programs, for all arguments, said in one form. -/
import Derived.Test.YteiojobgjdfdpaaOo
import Derived.Test.YteiojobgjdfdpaaQv
namespace Go.Proofs.Yteiojobgjdfdpaa
open Go.RowKit Go.Shelf Go.Sort

/-- What Early and Late return, of both: labels and a code. -/
def ResR (w : World) (G : Net) (good : Prop) (src : Nat) (t : Int) (e : Ending) (w' : World) : Prop :=
  ∃ A n c lab k, e = .returned (.tuple #[.slice A n c, .int .i64 k]) ∧ LbsAt w'.heap.size w' A lab ∧ lab.length = n ∧ n ≤ 100000 ∧ Hid ((good ∧ k = 0 ∧ G.End src t lab) ∨ (¬ good ∧ k = 1 ∧ lab = [])) ∧ Below w.heap.size w w'
theorem ResR.eq {G : Net} {good : Prop} {src : Nat} {t : Int} {lab lab' : List Lb} {k k' : Int} (h : (good ∧ k = 0 ∧ G.End src t lab) ∨ (¬ good ∧ k = 1 ∧ lab = [])) (h' : (good ∧ k' = 0 ∧ G.End src t lab') ∨ (¬ good ∧ k' = 1 ∧ lab' = [])) : k = k' ∧ lab = lab' := by
  rcases h with ⟨g, h1, h2⟩ | ⟨g, h1, h2⟩
  · rcases h' with ⟨g', h1', h2'⟩ | ⟨g', h1', h2'⟩
    · exact ⟨by omega, h2.eq h2'⟩
    · exact absurd g g'
  · rcases h' with ⟨g', h1', h2'⟩ | ⟨g', h1', h2'⟩
    · exact absurd g' g
    · exact ⟨by omega, by rw [h2, h2']⟩
theorem LbsAt.of_row {w : World} {B gl n c : Nat} {lab : List Lb} (h : w.ownsRow B 37 2 (.slice (some ⟨gl, 0, none⟩) n c) n (flat lab)) (hl : lab.length = n) : LbsAt w.heap.size w (some ⟨gl, 0, none⟩) lab := fun k hk => by
  obtain ⟨h1, h2⟩ := flat_get lab k hk
  have e : gq lab k = lb lab k := by
    unfold gq lb; rw [List.getD_eq_getElem?_getD, List.getD_eq_getElem?_getD, List.getElem?_eq_getElem hk]; rfl
  rw [e] at h1 h2
  refine ⟨gl, 0, rfl, (World.ownsRow.lt h gl rfl).2, ?_, ?_⟩
  · rw [Nat.zero_add]; exact (World.ownsRow.cellAt h (k * 2) (by omega)).trans h1
  · rw [Nat.zero_add]; exact (World.ownsRow.cellAt h (k * 2 + 1) (by omega)).trans h2
theorem LbsAt.none (B : Nat) (w : World) (A : Option Addr) : LbsAt B w A [] := fun k hk => by simp at hk
theorem ResR.of_endR {w w' : World} {G : Net} {good : Prop} {src : Nat} {t : Int} {e : Ending} (h : EndR w G src t e w') (hg : good) (hn : G.n ≤ 100000) : ResR w G good src t e w' := by
  obtain ⟨gl, c, lab, rfl, h1, h2, h3, h4⟩ := h
  exact ⟨_, _, c, lab, 0, rfl, LbsAt.of_row h2 h3, h3, hn, Lib.hid (.inl ⟨hg, rfl, h1⟩), h4⟩
theorem ResR.of_endP {w w' : World} {G : Net} {good : Prop} {src : Nat} {t : Int} {e : Ending} (h : EndP w G src t e w') (hg : good) (hn : G.n ≤ 100000) : ResR w G good src t e w' := by
  obtain ⟨gl, lab, rfl, h1, h2, h3, h4⟩ := h
  exact ⟨_, _, _, lab, 0, rfl, LbsAt.of_row h2 h3, h3, hn, Lib.hid (.inl ⟨hg, rfl, h1⟩), h4⟩
theorem ResR.of_bad {w w' : World} {G : Net} {good : Prop} {src : Nat} {t : Int} {e : Ending} (h : e = .returned (.tuple #[.slice none 0 0, .int .i64 1]) ∧ Below w.heap.size w w') (hg : ¬ good) : ResR w G good src t e w' := by
  obtain ⟨rfl, h4⟩ := h
  exact ⟨_, _, _, [], 1, rfl, LbsAt.none _ _ _, rfl, by omega, Lib.hid (.inr ⟨hg, rfl, rfl⟩), h4⟩
abbrev Good (n : Int) (l : List Am) (src t : Int) : Prop := RRight n l ∧ (0 ≤ src ∧ src < n) ∧ IsT t

set_option maxRecDepth 100000 in
set_option maxHeartbeats 8000000 in
theorem rearly_bad (n : Int) (m c : Nat) (A : Option Addr) (l : List Am) (src t : Int) (b : Bool) (w : World) (hl : l.length = m) (hA : ArcsAt w.heap.size w A l) (hx : ¬ Good n l src t) :
    Calls Try.prog 14 #[.int .i64 n, .slice A m c, .int .i64 src, .int .i64 t, .bool b] w fun e w' => e = .returned (.tuple #[.slice none 0 0, .int .i64 1]) ∧ Below w.heap.size w w' := by
  obtain ⟨r1, hr1⟩ : ∃ r : Bool, r = true ↔ RRight n l := ⟨Classical.propDecidable (RRight n l) |> fun d => @decide _ d, by simp⟩
  obtain ⟨r3, hr3⟩ : ∃ r, r = decide (0 ≤ t ∧ t ≤ 1048576) := ⟨_, rfl⟩
  have hcc : r1 = false ∨ (r1 = true ∧ src < 0) ∨ (r1 = true ∧ 0 ≤ src ∧ n ≤ src) ∨ (r1 = true ∧ 0 ≤ src ∧ src < n ∧ r3 = false) := by
    by_cases c1 : RRight n l
    · have e1 := hr1.2 c1
      by_cases c2 : src < 0
      · exact .inr (.inl ⟨e1, c2⟩)
      · by_cases c3 : n ≤ src
        · exact .inr (.inr (.inl ⟨e1, by omega, c3⟩))
        · refine .inr (.inr (.inr ⟨e1, by omega, by omega, ?_⟩))
          rw [hr3]
          exact decide_eq_false (fun h => hx ⟨c1, ⟨by omega, by omega⟩, h⟩)
    · left
      cases h : r1 with
      | false => rfl
      | true => exact absurd (hr1.1 h) c1
  have hRr := rrr_any n l A c m w hl hA r1 hr1
  have HTt := Lib.hid (fun w => rTime_any t w r3 hr3)
  clear hl hA hx hr1 hr3
  go_enter Try.func14, Try.ntmps14
  go_wp2_with fail
  refine hRr.mono ?_
  rintro e w1 ⟨rfl, b1⟩
  have HB1 := Lib.hid b1
  clear b1 hRr
  rcases hcc with rfl | ⟨rfl, h1⟩ | ⟨rfl, h1, h2⟩ | ⟨rfl, h1, h2, rfl⟩
  · go_wp2_with fail
    refine bodyPost_ret (results_tmp2 rfl _ _ _) rfl ?_
    exact ⟨by rfl, HB1.out⟩
  · have h1' : decide (src < 0) = true := decide_eq_true h1
    clear h1
    go_wp2_with fail
    refine bodyPost_ret (results_tmp2 rfl _ _ _) rfl ?_
    exact ⟨by rfl, HB1.out⟩
  · have h1' : decide (src < 0) = false := decide_eq_false (by omega)
    have h2' : decide (n ≤ src) = true := decide_eq_true h2
    clear h1 h2
    go_wp2_with fail
    refine bodyPost_ret (results_tmp2 rfl _ _ _) rfl ?_
    exact ⟨by rfl, HB1.out⟩
  · have h1' : decide (src < 0) = false := decide_eq_false (by omega)
    have h2' : decide (n ≤ src) = false := decide_eq_false (by omega)
    clear h1 h2
    go_wp2_with fail
    refine (HTt.out _).mono ?_
    rintro e w1' ⟨rfl, rfl⟩
    go_wp2_with fail
    refine bodyPost_ret (results_tmp2 rfl _ _ _) rfl ?_
    exact ⟨by rfl, HB1.out⟩

set_option maxRecDepth 100000 in
set_option maxHeartbeats 8000000 in
theorem rlate_bad (n : Int) (m c : Nat) (A : Option Addr) (l : List Am) (src t : Int) (w : World) (hl : l.length = m) (hA : ArcsAt w.heap.size w A l) (hx : ¬ Good n l src t) :
    Calls Try.prog 16 #[.int .i64 n, .slice A m c, .int .i64 src, .int .i64 t] w fun e w' => e = .returned (.tuple #[.slice none 0 0, .int .i64 1]) ∧ Below w.heap.size w w' := by
  obtain ⟨r1, hr1⟩ : ∃ r : Bool, r = true ↔ RRight n l := ⟨Classical.propDecidable (RRight n l) |> fun d => @decide _ d, by simp⟩
  obtain ⟨r3, hr3⟩ : ∃ r, r = decide (0 ≤ t ∧ t ≤ 1048576) := ⟨_, rfl⟩
  have hcc : r1 = false ∨ (r1 = true ∧ src < 0) ∨ (r1 = true ∧ 0 ≤ src ∧ n ≤ src) ∨ (r1 = true ∧ 0 ≤ src ∧ src < n ∧ r3 = false) := by
    by_cases c1 : RRight n l
    · have e1 := hr1.2 c1
      by_cases c2 : src < 0
      · exact .inr (.inl ⟨e1, c2⟩)
      · by_cases c3 : n ≤ src
        · exact .inr (.inr (.inl ⟨e1, by omega, c3⟩))
        · refine .inr (.inr (.inr ⟨e1, by omega, by omega, ?_⟩))
          rw [hr3]
          exact decide_eq_false (fun h => hx ⟨c1, ⟨by omega, by omega⟩, h⟩)
    · left
      cases h : r1 with
      | false => rfl
      | true => exact absurd (hr1.1 h) c1
  have hRr := rrr_any n l A c m w hl hA r1 hr1
  have HTt := Lib.hid (fun w => rTime_any t w r3 hr3)
  clear hl hA hx hr1 hr3
  go_enter Try.func16, Try.ntmps16
  go_wp2_with fail
  refine hRr.mono ?_
  rintro e w1 ⟨rfl, b1⟩
  have HB1 := Lib.hid b1
  clear b1 hRr
  rcases hcc with rfl | ⟨rfl, h1⟩ | ⟨rfl, h1, h2⟩ | ⟨rfl, h1, h2, rfl⟩
  · go_wp2_with fail
    refine bodyPost_ret (results_tmp2 rfl _ _ _) rfl ?_
    exact ⟨by rfl, HB1.out⟩
  · have h1' : decide (src < 0) = true := decide_eq_true h1
    clear h1
    go_wp2_with fail
    refine bodyPost_ret (results_tmp2 rfl _ _ _) rfl ?_
    exact ⟨by rfl, HB1.out⟩
  · have h1' : decide (src < 0) = false := decide_eq_false (by omega)
    have h2' : decide (n ≤ src) = true := decide_eq_true h2
    clear h1 h2
    go_wp2_with fail
    refine bodyPost_ret (results_tmp2 rfl _ _ _) rfl ?_
    exact ⟨by rfl, HB1.out⟩
  · have h1' : decide (src < 0) = false := decide_eq_false (by omega)
    have h2' : decide (n ≤ src) = false := decide_eq_false (by omega)
    clear h1 h2
    go_wp2_with fail
    refine (HTt.out _).mono ?_
    rintro e w1' ⟨rfl, rfl⟩
    go_wp2_with fail
    refine bodyPost_ret (results_tmp2 rfl _ _ _) rfl ?_
    exact ⟨by rfl, HB1.out⟩


theorem lo_of {n src : Int} (h : 0 ≤ src ∧ src < n) : ∃ n0 s0 : Nat, n = n0 ∧ src = s0 ∧ s0 < n0 := ⟨n.toNat, src.toNat, by omega, by omega, by omega⟩
section
variable (n : Int) (m c : Nat) (A : Option Addr) (l : List Am) (src t : Int) (w : World) (hl : l.length = m) (hA : ArcsAt w.heap.size w A l)
include hl hA
theorem early_res (b : Bool) (hm : m ≤ 100) : Calls Try.prog 13 #[.int .i64 n, .slice A m c, .int .i64 src, .int .i64 t, .bool b] w (ResR w (netE n.toNat l b) (Good n l src t) src.toNat t) := by
  by_cases hg : Good n l src t
  · obtain ⟨n0, s0, e1, e2, hs⟩ := lo_of hg.2.1
    subst e1; subst e2
    exact (early_ok n0 m c A l s0 t b w hl hA hg.1 hs hg.2.2 hm).mono fun e w' h => ResR.of_endP h hg (by have := hg.1.2.1; show (n0 : Int).toNat ≤ _; omega)
  · exact (early_bad n m c A l src t b w hl hA hg).mono fun e w' h => ResR.of_bad h hg
theorem late_res (hm : m ≤ 100) : Calls Try.prog 15 #[.int .i64 n, .slice A m c, .int .i64 src, .int .i64 t] w (ResR w (netL n.toNat l) (Good n l src t) src.toNat t) := by
  by_cases hg : Good n l src t
  · obtain ⟨n0, s0, e1, e2, hs⟩ := lo_of hg.2.1
    subst e1; subst e2
    exact (late_ok n0 m c A l s0 t w hl hA hg.1 hs hg.2.2 hm).mono fun e w' h => ResR.of_endP h hg (by have := hg.1.2.1; show (n0 : Int).toNat ≤ _; omega)
  · exact (late_bad n m c A l src t w hl hA hg).mono fun e w' h => ResR.of_bad h hg
theorem rearly_res (b : Bool) : Calls Try.prog 14 #[.int .i64 n, .slice A m c, .int .i64 src, .int .i64 t, .bool b] w (ResR w (netE n.toNat l b) (Good n l src t) src.toNat t) := by
  by_cases hg : Good n l src t
  · obtain ⟨n0, s0, e1, e2, hs⟩ := lo_of hg.2.1
    subst e1; subst e2
    exact (rearly_yes n0 m c A l s0 t b w hl hA hg.1 hs hg.2.2).mono fun e w' h => ResR.of_endR h hg (by have := hg.1.2.1; show (n0 : Int).toNat ≤ _; omega)
  · exact (rearly_bad n m c A l src t b w hl hA hg).mono fun e w' h => ResR.of_bad h hg
theorem rlate_res : Calls Try.prog 16 #[.int .i64 n, .slice A m c, .int .i64 src, .int .i64 t] w (ResR w (netL n.toNat l) (Good n l src t) src.toNat t) := by
  by_cases hg : Good n l src t
  · obtain ⟨n0, s0, e1, e2, hs⟩ := lo_of hg.2.1
    subst e1; subst e2
    exact (rlate_yes n0 m c A l s0 t w hl hA hg.1 hs hg.2.2).mono fun e w' h => ResR.of_endR h hg (by have := hg.1.2.1; show (n0 : Int).toNat ≤ _; omega)
  · exact (rlate_bad n m c A l src t w hl hA hg).mono fun e w' h => ResR.of_bad h hg
end

end Go.Proofs.Yteiojobgjdfdpaa
