/- Walks: Text of a right fraction. Walks: Right of a fraction as it came in; Text of what is not right. Walks: the reference's Right of fractions. -/
import Derived.Test.YtkjpfnbdlbnbkaaGreatDoorXba
import Derived.Test.YtkjpfnbdlbnbkaaGreatDoorXaj
import Derived.Laws.Concat
import Derived.Test.YtkjpfnbdlbnbkaaGreatDoorXax
import Derived.Deep.RegionHeld3
import Derived.Deep.QuietTactic

namespace Go.Proofs.YtkjpfnbdlbnbkaaGreatDoor
open Go.RowKit

theorem text_size {z : Int} (h : ab z < pw 60) : (byt (Lib.itoa z)).size ≤ 1000 := by
  rw [byt_size, itoa_ab]
  have := dd_len_pw 60 (by decide) (ab z) (ab_nonneg z) h
  split <;> simp <;> omega

set_option maxRecDepth 100000 in
set_option maxHeartbeats 4000000 in
theorem ftext_any (s1 s2 : Int) (A1 A2 : Option Addr) (n1 d1 n2 d2 : Nat) (p q : Int) (w : World) (ha : FV w w.heap.size s1 A1 n1 d1 s2 A2 n2 d2 p q) (h1 : ab p < pw 60) (h2 : ab q < pw 60) (f1 : FR p q) (ht : TB w) :
    Calls Tryz.prog 54 #[.agg #[.int .i64 s1, .slice A1 n1 d1, .int .i64 s2, .slice A2 n2 d2]] w fun e w' => e = .returned (.string (byt (Lib.itoa p ++ [47] ++ Lib.itoa q))) ∧ Below w.heap.size w w' := by
  have hl1 := text_size h1
  have hl2 := text_size h2
  have hcat : byt (Lib.itoa p) ++ ⟨#[47]⟩ ++ byt (Lib.itoa q) = byt (Lib.itoa p ++ [47] ++ Lib.itoa q) := by
    rw [show (⟨#[47]⟩ : ByteArray) = byt [47] from rfl, byt_app, byt_app]
  have HT := Lib.hid ht; clear ht
  have H1 := Lib.hid h1; clear h1
  have H2 := Lib.hid h2; clear h2
  have F1 := Lib.hid f1; clear f1
  obtain ⟨S1, hS1⟩ : ∃ S, byt (Lib.itoa p) = S := ⟨_, rfl⟩
  obtain ⟨S2, hS2⟩ : ∃ S, byt (Lib.itoa q) = S := ⟨_, rfl⟩
  obtain ⟨S4, hS4⟩ : ∃ S, byt (Lib.itoa p ++ [47] ++ Lib.itoa q) = S := ⟨_, rfl⟩
  rw [hS1, hS2, hS4] at hcat
  rw [hS1] at hl1
  rw [hS2] at hl2
  rw [hS4]
  obtain ⟨S3, hS3⟩ : ∃ S, S1 ++ ⟨#[47]⟩ = S := ⟨_, rfl⟩
  have hl3 : S3.size ≤ 1001 := by rw [← hS3, ByteArray.size_append]; exact Nat.add_le_add hl1 (Nat.le_refl 1)
  have add1 : ∀ w', (Op.stringOp .add S1 ⟨#[47]⟩).run Tryz.prog w' = .ok (.string S3) w' := fun w' => by
    rw [run_string_add_sum w' S1 ⟨#[47]⟩ (by show S1.size + 1 ≤ _; omega), hS3]
  have add2 : ∀ w', (Op.stringOp .add S3 S2).run Tryz.prog w' = .ok (.string S4) w' := fun w' => by
    rw [run_string_add_sum w' S3 S2 (by omega), ← hcat, hS3]
  have HS1 := Lib.hid hS1; clear hS1
  have HS2 := Lib.hid hS2; clear hS2
  clear hS3 hS4 hcat hl1 hl2 hl3
  go_enter Tryz.func54, Tryz.ntmps54
  go_wp2_with fail
  obtain ⟨W0, hW, hbx, ka⟩ := fbox1 ha
  rw [← hW]
  clear hW ha
  have hT := hbx
  have a0 := ka.c0
  have a1 := ka.c1
  have a2 := ka.c2
  have a3 := ka.c3
  go_wp2_with fail
  clear a0 a1 a2 a3
  (with_reducible refine (fright_pos _ ka.fv H1.out H2.out (FR.pos F1.out) true (decide_eq_true (FR.one F1.out))).mono ?_)
  rintro e u1 ⟨rfl, hb9⟩
  have hT := hT.trans (hb9.mono hT.size)
  have ka := ka.below hb9
  have e0 : ∀ W' : World, Below u1.heap.size u1 W' → W'.cell? ⟨w.heap.size, 0, none⟩ = some (.int .i64 s1) ∧ W'.cell? ⟨w.heap.size, 1, none⟩ = some (.slice A1 n1 d1) ∧ W'.cell? ⟨w.heap.size, 2, none⟩ = some (.int .i64 s2) ∧ W'.cell? ⟨w.heap.size, 3, none⟩ = some (.slice A2 n2 d2) ∧ Below u1.heap.size u1 W' := fun W' hW =>
    ⟨(ka.below hW).c0, (ka.below hW).c1, (ka.below hW).c2, (ka.below hW).c3, hW⟩
  have E0 := Lib.hid e0; clear e0
  have hB00 : Below u1.heap.size u1 u1.drew := (Below.refl _ _).drew
  have htx := fun w' (hb : Below u1.heap.size u1 w') => text_any _ _ w' (ka.below hb).fv.a H1.out (HT.out.below (hT.trans (hb.mono hT.size)))
  have hty := fun w' (hb : Below u1.heap.size u1 w') => text_any _ _ w' (ka.below hb).fv.b H2.out (HT.out.below (hT.trans (hb.mono hT.size)))
  rw [HS1.out] at htx
  rw [HS2.out] at hty
  have HTX := Lib.hid htx; clear htx
  have HTY := Lib.hid hty; clear hty
  have hTs := hT.size
  clear ka
  go_upto_region 3 with fail
  go_region_held3 (fun W' => W'.cell? ⟨w.heap.size, 0, none⟩ = some (.int .i64 s1) ∧ W'.cell? ⟨w.heap.size, 1, none⟩ = some (.slice A1 n1 d1) ∧ W'.cell? ⟨w.heap.size, 2, none⟩ = some (.int .i64 s2) ∧ W'.cell? ⟨w.heap.size, 3, none⟩ = some (.slice A2 n2 d2) ∧ Below u1.heap.size u1 W')
    (first | exact E0.out _ (by assumption) | exact E0.out _ ⟨rfl, rfl, rfl, Nat.le_refl _, fun _ _ => rfl⟩)
    (first
      | (go_at_call 27; have _h := hB4; refine (HTY.out _ hB4).mono ?_; rintro e x5 ⟨rfl, hb5⟩; have hB5 : Below u1.heap.size u1 x5 := hB4.trans (hb5.mono hB4.size))
      | (go_at_call 27; refine (HTX.out _ hB00).mono ?_; rintro e x4 ⟨rfl, hb4⟩; have hB4 : Below u1.heap.size u1 x4 := ⟨hb4.os, hb4.tape, hb4.output, hb4.size, hb4.block⟩))
  all_goals
    go_wp2_with fail
    go_ret
    exact ⟨rfl, hT.trans (hB5.mono hTs)⟩

end Go.Proofs.YtkjpfnbdlbnbkaaGreatDoor

namespace Go.Proofs.YtkjpfnbdlbnbkaaGreatDoor
open Go.RowKit

/-- Signs and digits that are a right fraction. -/
def RF (s1 : Int) (l1 : List Int) (s2 : Int) (l2 : List Int) : Prop := ∃ p q, (s1 = sgn p ∧ l1 = D (ab p) ∧ ab p < pw 60) ∧ (s2 = sgn q ∧ l2 = D (ab q) ∧ ab q < pw 60) ∧ FR p q
theorem int_of_parts {x y : Int} (h1 : sgn x = sgn y) (h2 : D (ab x) = D (ab y)) : x = y := by
  have h3 := congrArg nv h2
  rw [nv_D (ab_nonneg x), nv_D (ab_nonneg y)] at h3
  have h4 := sgn_ab x
  have h5 := sgn_ab y
  rw [h1, h3] at h4
  exact h4.symm.trans h5
theorem RF.iff {p q : Int} (h1 : ab p < pw 60) (h2 : ab q < pw 60) : RF (sgn p) (D (ab p)) (sgn q) (D (ab q)) ↔ FR p q := by
  constructor
  · rintro ⟨p', q', ⟨a1, a2, _⟩, ⟨b1, b2, _⟩, h⟩
    obtain rfl := int_of_parts a1 a2
    obtain rfl := int_of_parts b1 b2
    exact h
  · intro h
    exact ⟨p, q, ⟨rfl, rfl, h1⟩, ⟨rfl, rfl, h2⟩, h⟩
theorem RF.right {s1 s2 : Int} {l1 l2 : List Int} (h : RF s1 l1 s2 l2) : RightP s1 l1 ∧ RightP s2 l2 := by
  obtain ⟨p, q, ⟨a1, a2, a3⟩, ⟨b1, b2, b3⟩, _⟩ := h
  exact ⟨⟨p, a1, a2, a3⟩, ⟨q, b1, b2, b3⟩⟩
theorem Ar.bv {w : World} {s z : Int} {l : List Int} {A : Option Addr} {n c : Nat} (h : Ar w s l A n c) (hs : s = sgn z) (hl : l = D (ab z)) : BV w w.heap.size (.agg #[.int .i64 s, .slice A n c]) z := by
  obtain ⟨rfl, hI, hc, hm⟩ := h
  subst hs hl
  exact ⟨A, c, rfl, hc, hm, hI⟩
theorem Ar.lt {w : World} {s z : Int} {l : List Int} {A : Option Addr} {n c k : Nat} (h : Ar w s l A n c) (hl : l = D (ab z)) (hk : n ≤ k) : ab z < pw k := by
  obtain ⟨rfl, _, _, _⟩ := h
  subst hl
  exact (D_len_le (ab_nonneg z)).1 hk
/-- A fraction as it came in, that is right, reads as one. -/
theorem RF.fv {s1 s2 : Int} {l1 l2 : List Int} {A1 A2 : Option Addr} {n1 d1 n2 d2 : Nat} {w : World} (h : RF s1 l1 s2 l2) (h1 : Ar w s1 l1 A1 n1 d1) (h2 : Ar w s2 l2 A2 n2 d2) :
    ∃ r : Rat, FV w w.heap.size s1 A1 n1 d1 s2 A2 n2 d2 r.num r.den ∧ s1 = sgn r.num ∧ ab r.num < pw 60 ∧ ab (r.den : Int) < pw 60 ∧ (∀ k : Nat, n1 ≤ k → ab r.num < pw k) ∧ (∀ k : Nat, n2 ≤ k → ab (r.den : Int) < pw k) := by
  obtain ⟨p, q, ⟨a1, a2, a3⟩, ⟨b1, b2, b3⟩, hf⟩ := h
  obtain ⟨r, rfl, rfl⟩ := hf.rat
  exact ⟨r, ⟨h1.bv a1 a2, h2.bv b1 b2⟩, a1, a3, b3, fun k hk => h1.lt a2 hk, fun k hk => h2.lt b2 hk⟩

/-- Right, at whatever came in. -/
theorem fright_any {s1 s2 : Int} {l1 l2 : List Int} {A1 A2 : Option Addr} {n1 d1 n2 d2 : Nat} (w : World) (h1 : Ar w s1 l1 A1 n1 d1) (h2 : Ar w s2 l2 A2 n2 d2) (b : Bool) (hb : b = true ↔ RF s1 l1 s2 l2) :
    Calls Tryz.prog 50 #[.agg #[.int .i64 s1, .slice A1 n1 d1, .int .i64 s2, .slice A2 n2 d2]] w fun e w' => e = .returned (.bool b) ∧ Below w.heap.size w w' := by
  by_cases hr : RightP s1 l1 ∧ RightP s2 l2
  · obtain ⟨⟨p, rfl, rfl, a3⟩, ⟨q, rfl, rfl, b3⟩⟩ := hr
    have hf : FV w w.heap.size (sgn p) A1 n1 d1 (sgn q) A2 n2 d2 p q := ⟨h1.bv rfl rfl, h2.bv rfl rfl⟩
    rw [RF.iff a3 b3] at hb
    by_cases h0 : 0 < q
    · refine fright_pos w hf a3 b3 h0 b ?_
      rw [Bool.eq_iff_iff, hb]
      simp only [decide_eq_true_eq]
      exact ⟨fun h => ⟨h0, h⟩, fun h => FR.one h⟩
    · have : b = false := by
        rcases b with _ | _
        · rfl
        · exact absurd (FR.pos (hb.1 rfl)) h0
      subst this
      exact fright_low w hf a3 b3 h0
  · have : b = false := by
      rcases b with _ | _
      · rfl
      · exact absurd (hb.1 rfl).right hr
    subst this
    exact fright_bad w h1 h2 hr

set_option maxRecDepth 100000 in
set_option maxHeartbeats 4000000 in
theorem ftext_bad {s1 s2 : Int} {l1 l2 : List Int} {A1 A2 : Option Addr} {n1 d1 n2 d2 : Nat} (w : World) (h1 : Ar w s1 l1 A1 n1 d1) (h2 : Ar w s2 l2 A2 n2 d2) (hb : ¬ RF s1 l1 s2 l2) :
    Calls Tryz.prog 54 #[.agg #[.int .i64 s1, .slice A1 n1 d1, .int .i64 s2, .slice A2 n2 d2]] w fun e w' => e = .returned (.string ⟨#[]⟩) ∧ Below w.heap.size w w' := by
  have hB1 : Below w.heap.size w (w.alloc (.cells #[.int .i64 s1, .slice A1 n1 d1, .int .i64 s2, .slice A2 n2 d2] 43)) := (Below.refl _ _).alloc (Nat.le_refl _) _
  have hbk : Blk (w.alloc (.cells #[.int .i64 s1, .slice A1 n1 d1, .int .i64 s2, .slice A2 n2 d2] 43)) w.heap.size 43 #[.int .i64 s1, .slice A1 n1 d1, .int .i64 s2, .slice A2 n2 d2] := Blk.new _ _ _
  have hg := fright_any _ (h1.later hB1) (h2.later hB1) false (by simp [hb])
  have HG := Lib.hid hg; clear hg h1 h2 hb
  go_enter Tryz.func54, Tryz.ntmps54
  go_wp2_with fail
  obtain ⟨W, hW⟩ : ∃ W, W = w.alloc (.cells #[.int .i64 s1, .slice A1 n1 d1, .int .i64 s2, .slice A2 n2 d2] 43) := ⟨_, rfl⟩
  rw [← hW] at hB1 hbk HG ⊢
  clear hW
  have f0 : W.cell? ⟨w.heap.size, 0, none⟩ = some (.int .i64 s1) := hbk.cell 0
  have f1 : W.cell? ⟨w.heap.size, 1, none⟩ = some (.slice A1 n1 d1) := hbk.cell 1
  have f2 : W.cell? ⟨w.heap.size, 2, none⟩ = some (.int .i64 s2) := hbk.cell 2
  have f3 : W.cell? ⟨w.heap.size, 3, none⟩ = some (.slice A2 n2 d2) := hbk.cell 3
  go_wp2_with fail
  clear f0 f1 f2 f3 hbk
  (with_reducible refine HG.out.mono ?_)
  rintro e u1 ⟨rfl, hb9⟩
  go_wp2_with fail
  go_ret
  exact ⟨rfl, hB1.trans (hb9.mono hB1.size)⟩

end Go.Proofs.YtkjpfnbdlbnbkaaGreatDoor

namespace Go.Proofs.YtkjpfnbdlbnbkaaGreatDoor
open Go.RowKit

set_option maxRecDepth 100000 in
set_option maxHeartbeats 4000000 in
theorem rfright_any {s1 s2 : Int} {l1 l2 : List Int} {A1 A2 : Option Addr} {n1 d1 n2 d2 : Nat} (w : World) (h1 : Ar w s1 l1 A1 n1 d1) (h2 : Ar w s2 l2 A2 n2 d2) (b : Bool) (hb : b = true ↔ RF s1 l1 s2 l2) :
    Calls Tryz.prog 51 #[.agg #[.int .i64 s1, .slice A1 n1 d1, .int .i64 s2, .slice A2 n2 d2]] w fun e w' => e = .returned (.bool b) ∧ Below w.heap.size w w' := by
  have hB1 : Below w.heap.size w (w.alloc (.cells #[.int .i64 s1, .slice A1 n1 d1, .int .i64 s2, .slice A2 n2 d2] 43)) := (Below.refl _ _).alloc (Nat.le_refl _) _
  have hbk : Blk (w.alloc (.cells #[.int .i64 s1, .slice A1 n1 d1, .int .i64 s2, .slice A2 n2 d2] 43)) w.heap.size 43 #[.int .i64 s1, .slice A1 n1 d1, .int .i64 s2, .slice A2 n2 d2] := Blk.new _ _ _
  have H1 := Lib.hid h1; clear h1
  have H2 := Lib.hid h2; clear h2
  have HB := Lib.hid hb; clear hb
  go_enter Tryz.func51, Tryz.ntmps51
  go_wp2_with fail
  obtain ⟨W, hW⟩ : ∃ W, W = w.alloc (.cells #[.int .i64 s1, .slice A1 n1 d1, .int .i64 s2, .slice A2 n2 d2] 43) := ⟨_, rfl⟩
  rw [← hW] at hB1 hbk ⊢
  clear hW
  have hT := hB1; clear hB1
  have f0 : W.cell? ⟨w.heap.size, 0, none⟩ = some (.int .i64 s1) := hbk.cell 0
  have f1 : W.cell? ⟨w.heap.size, 1, none⟩ = some (.slice A1 n1 d1) := hbk.cell 1
  go_wp2_with fail
  clear f0 f1
  by_cases hr1 : RightP s1 l1
  rotate_left
  · have hbf : b = false := by
      rcases b with _ | _
      · rfl
      · exact absurd (HB.out.1 rfl).right.1 hr1
    subst hbf
    refine (rRight_any s1 l1 A1 n1 d1 _ (H1.out.later hT) false (by simp [hr1])).mono ?_
    rintro e u ⟨rfl, hb9⟩
    go_wp2_with fail
    go_ret
    exact ⟨rfl, hT.trans (hb9.mono hT.size)⟩
  refine (rRight_any s1 l1 A1 n1 d1 _ (H1.out.later hT) true (by simp [hr1])).mono ?_
  rintro e u1 ⟨rfl, hb9⟩
  replace hT := hT.trans (hb9.mono hT.size)
  replace hbk := hbk.below hb9 hbk.lt
  clear hb9
  have f2 : u1.cell? ⟨w.heap.size, 2, none⟩ = some (.int .i64 s2) := hbk.cell 2
  have f3 : u1.cell? ⟨w.heap.size, 3, none⟩ = some (.slice A2 n2 d2) := hbk.cell 3
  go_wp2_with fail
  clear f2 f3
  by_cases hr2 : RightP s2 l2
  rotate_left
  · have hbf : b = false := by
      rcases b with _ | _
      · rfl
      · exact absurd (HB.out.1 rfl).right.2 hr2
    subst hbf
    refine (rRight_any s2 l2 A2 n2 d2 _ (H2.out.later hT) false (by simp [hr2])).mono ?_
    rintro e u ⟨rfl, hb9⟩
    go_wp2_with fail
    go_ret
    exact ⟨rfl, hT.trans (hb9.mono hT.size)⟩
  refine (rRight_any s2 l2 A2 n2 d2 _ (H2.out.later hT) true (by simp [hr2])).mono ?_
  rintro e u2 ⟨rfl, hb9⟩
  replace hT := hT.trans (hb9.mono hT.size)
  replace hbk := hbk.below hb9 hbk.lt
  clear hb9
  obtain ⟨p, hs1, hl1, hp⟩ := hr1
  obtain ⟨q, hs2, hl2, hq⟩ := hr2
  have hx := (H1.out.later hT).bv hs1 hl1
  have hy := (H2.out.later hT).bv hs2 hl2
  have hb := HB.out
  rw [hs1, hl1, hs2, hl2, RF.iff hp hq] at hb
  clear H1 H2 HB
  have f2 : u2.cell? ⟨w.heap.size, 2, none⟩ = some (.int .i64 s2) := hbk.cell 2
  by_cases h0 : 0 < q
  rotate_left
  · have hbf : b = false := by
      rcases b with _ | _
      · rfl
      · exact absurd (FR.pos (hb.1 rfl)) h0
    subst hbf
    have hlt : decide (s2 < 1) = true := by
      rw [hs2]; rcases sgn_three q with ⟨_, h⟩ | ⟨_, h⟩ | ⟨_, h⟩ <;> rw [h] <;> first | rfl | omega
    clear hb hs1 hs2 hl1 hl2
    go_wp2_with fail
    go_ret
    exact ⟨rfl, hT⟩
  have hs21 : s2 = 1 := by rw [hs2, sgn_pos h0]
  subst hs21
  obtain ⟨d, hd⟩ : ∃ d, ((Int.gcd p q : Nat) : Int) = d := ⟨_, rfl⟩
  obtain ⟨N, hN⟩ : ∃ N, Lib.compareInt d 1 = N := ⟨_, rfl⟩
  have hbn : (N == 0) = b := by
    rw [← hN, cmp_zero, ← hd]
    rw [Bool.eq_iff_iff, hb]
    simp only [decide_eq_true_eq]
    exact ⟨fun h => ⟨h0, by first | exact h | omega⟩, fun h => FR.one h⟩
  have f0 : u2.cell? ⟨w.heap.size, 0, none⟩ = some (.int .i64 s1) := hbk.cell 0
  have f1 : u2.cell? ⟨w.heap.size, 1, none⟩ = some (.slice A1 n1 d1) := hbk.cell 1
  have f3 : u2.cell? ⟨w.heap.size, 3, none⟩ = some (.slice A2 n2 d2) := hbk.cell 3
  have hdl : ab d < pw 60 := by rw [← hd]; exact gcd_lt hp hq
  have HDL := Lib.hid hdl; clear hdl
  have HN := Lib.hid hN; clear hN
  have HD := Lib.hid hd; clear hd
  have HP := Lib.hid hp; clear hp
  have HQ := Lib.hid hq; clear hq
  clear hb hs1 hs2 hl1 hl2 h0
  go_wp2_with fail
  clear f0 f1 f2 f3
  (with_reducible refine (rgcd_any _ hx hy HP.out HQ.out).mono ?_)
  rintro e u3 ⟨rg, rfl, hrg, hb9⟩
  replace hT := hT.trans (hb9.mono hT.size)
  rw [HD.out] at hrg
  clear hx hy hbk hb9
  obtain ⟨sg, Ag, ng, cg, rfl⟩ := hrg.form
  go_upto_region 4 with fail
  obtain ⟨Wg, hW, hbx, kg⟩ := box1 hrg
  rw [← hW]
  clear hW
  replace hT := hT.trans (hbx.mono hT.size)
  have e0 : ∀ W' : World, Below Wg.heap.size Wg W' → W'.cell? ⟨u3.heap.size, 0, none⟩ = some (.int .i64 sg) ∧ W'.cell? ⟨u3.heap.size, 1, none⟩ = some (.slice Ag ng cg) ∧ Below Wg.heap.size Wg W' := fun W' hW =>
    ⟨(kg.below hW).c0, (kg.below hW).c1, hW⟩
  have E0 := Lib.hid e0; clear e0
  have h60 : ab 1 < pw 60 := by decide
  have hss := fun (w' : World) (hb : Below Wg.heap.size Wg w') (s : Int) (A : Option Addr) (n c : Nat) (h : BV w' w'.heap.size (.agg #[.int .i64 s, .slice A n c]) 1) => rcmp_any w' (kg.below hb).bv h HDL.out h60
  rw [HN.out] at hss
  have HSS := Lib.hid hss; clear hss
  have hB00 : Below Wg.heap.size Wg Wg.drew := (Below.refl _ _).drew
  have hTs := hT.size
  clear kg
  go_region_held3 (fun W' => W'.cell? ⟨u3.heap.size, 0, none⟩ = some (.int .i64 sg) ∧ W'.cell? ⟨u3.heap.size, 1, none⟩ = some (.slice Ag ng cg) ∧ Below Wg.heap.size Wg W')
    (first | exact E0.out _ (by assumption) | exact E0.out _ ⟨rfl, rfl, rfl, Nat.le_refl _, fun _ _ => rfl⟩)
    (first
      | (go_at_call 25; have _h := hB4; refine (HSS.out _ hB4 _ _ _ _ hq1.bv).mono ?_; rintro e x5 ⟨rfl, hb5⟩; have hB5 : Below Wg.heap.size Wg x5 := hB4.trans (hb5.mono hB4.size))
      | (go_at_call 32; refine (rof_any 1 _ (by omega) (by omega)).mono ?_; rintro e x4 ⟨r1, rfl, hq1, hb4⟩; obtain ⟨s9, A9, n9, c9, rfl⟩ := hq1.form; have hB4 : Below Wg.heap.size Wg x4 := ⟨hb4.os, hb4.tape, hb4.output, hb4.size, hb4.block⟩))
  go_wp2_with fail
  go_ret
  exact ⟨rfl, hT.trans (hB5.mono hTs)⟩

end Go.Proofs.YtkjpfnbdlbnbkaaGreatDoor
