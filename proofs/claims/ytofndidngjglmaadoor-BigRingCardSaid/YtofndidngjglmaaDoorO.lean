/- Walks: closer, common. -/
import Derived.Test.YtofndidngjglmaaDoorN
import Derived.Deep.RegionHeld3
namespace Go.Proofs.YtofndidngjglmaaDoor
open Go.RowKit

/-- A slice value that reads as the ints l, in blocks below B. -/
def Sl (w : World) (B : Nat) (v : Value) (l : List Int) : Prop := ∃ A c, v = .slice A l.length c ∧ l.length ≤ c ∧ c ≤ 9223372036854775807 ∧ IntsAt B w A l
theorem OwnI.sl {w : World} {B : Nat} {v : Value} {l : List Int} (h : OwnI w B v l) : Sl w w.heap.size v l := h.at_
theorem Sl.below {w w' : World} {B : Nat} {v : Value} {l : List Int} (h : Sl w B v l) (hb : Below B w w') : Sl w' B v l := by
  obtain ⟨A, c, e, hc, hm, hI⟩ := h
  exact ⟨A, c, e, hc, hm, hI.below hb⟩
theorem Sl.more {w : World} {B B' : Nat} {v : Value} {l : List Int} (h : Sl w B v l) (hb : B ≤ B') : Sl w B' v l := by
  obtain ⟨A, c, e, hc, hm, hI⟩ := h
  exact ⟨A, c, e, hc, hm, hI.more hb⟩

theorem bcell {W w1 : World} (hb : Below W.heap.size W w1) : (∀ b o, b < W.heap.size → w1.cell? ⟨b, o, none⟩ = W.cell? ⟨b, o, none⟩) ∧ (∀ b o, b < W.heap.size → w1.frozen? ⟨b, o, none⟩ = W.frozen? ⟨b, o, none⟩) :=
  ⟨fun b o h => hb.cell (p := ⟨b, o, none⟩) h, fun b o h => hb.frozen (p := ⟨b, o, none⟩) h⟩

/-- The highest bits of a number. -/
theorem high {X P Q x s : Int} (hP : 0 < P) (hQ : 0 < Q) (hx : X / P = x) (hs : x / Q = s) : ∃ r, 0 ≤ r ∧ r < P * Q ∧ X = s * (P * Q) + r := by
  refine ⟨X % (P * Q), Int.emod_nonneg _ (by have := Int.mul_pos hP hQ; omega), Int.emod_lt_of_pos _ (Int.mul_pos hP hQ), ?_⟩
  rw [← hs, ← hx, Int.ediv_ediv_of_nonneg (by omega), Int.mul_comm (X / (P * Q)), Int.mul_ediv_add_emod]

theorem shr_bits {x : Int} {bl : Nat} (hb : bl = Lib.bitLen x.toNat) (h0 : 1099511627776 ≤ x) (h1 : x < 1152921504606846976) : 41 ≤ bl ∧ bl ≤ 60 ∧ x / 2 ^ (bl - 41) < 2199023255552 ∧ (0 : Int) < 2 ^ (bl - 41) := by
  have h2 := Lib.bitLenAux_bounds 64 x.toNat (by omega) (by omega)
  have h3 : Lib.bitLenAux 64 x.toNat = bl := hb.symm
  rw [h3] at h2
  have h4 := Lib.bitLen_le x.toNat 60 (by omega) (by omega)
  rw [← hb] at h4
  have h5 : 41 ≤ bl := by
    rcases Nat.lt_or_ge 40 bl with h | h
    · omega
    · have h6 : 2 ^ bl ≤ 2 ^ 40 := Nat.pow_le_pow_right (by omega) h
      have := h2.2.2
      omega
  have h6 : (0 : Int) < 2 ^ (bl - 41) := Int.pow_pos (by omega)
  refine ⟨h5, h4, Int.ediv_lt_of_lt_mul h6 ?_, h6⟩
  have h7 : (x.toNat : Int) < ((2 ^ bl : Nat) : Int) := by have := h2.2.2; omega
  rw [Int.natCast_pow] at h7
  have h8 : (2 : Int) ^ bl = 2199023255552 * 2 ^ (bl - 41) := by
    rw [show (2199023255552 : Int) = 2 ^ 41 by decide, ← Int.pow_add]; congr 1; omega
  have h9 : ((2 : Nat) : Int) ^ bl = (2 : Int) ^ bl := rfl
  rw [h9, h8] at h7
  omega

def CloserPost (X Y : Int) (w : World) (e : Ending) (w' : World) : Prop := ∃ v1 v2 X' Y', e = .returned (.tuple #[v1, v2]) ∧ Sl w' w'.heap.size v1 (D X') ∧ Sl w' w'.heap.size v2 (D Y') ∧ 0 ≤ Y' ∧ Y' ≤ X' ∧ Y' < Y ∧ X' ≤ X ∧ Int.gcd X' Y' = Int.gcd X Y ∧ Below w.heap.size w w'

set_option maxRecDepth 100000 in
set_option maxHeartbeats 2000000 in
theorem closer_any (X Y : Int) (Aa Ab : Option Addr) (ca cb : Nat) (w : World) (hIa : IntsAt w.heap.size w Aa (D X)) (hIb : IntsAt w.heap.size w Ab (D Y)) (hca : (D X).length ≤ ca) (hcb : (D Y).length ≤ cb) (hcm : cb ≤ 9223372036854775807) (hY : 0 ≤ Y) (hYX : Y ≤ X) (hlb : 3 ≤ (D Y).length) (hla : (D X).length ≤ 150) :
    Calls Tryd.prog 52 #[.slice Aa (D X).length ca, .slice Ab (D Y).length cb] w (CloserPost X Y w) := by
  have hX : 0 ≤ X := by omega
  have hyl := (D_len_lt hY (k := 2)).1 (by omega)
  have hlab : (D Y).length ≤ (D X).length := by
    have := (D_len_le hX (k := (D X).length)).1 (Nat.le_refl _)
    exact (D_len_le hY).2 (by omega)
  obtain ⟨n, hn⟩ : ∃ n, (D X).length = n := ⟨_, rfl⟩
  have hxn : X < pw n := (D_len_le hX).1 (by omega)
  have hxn1 : pw (n - 1) ≤ X := (D_len_lt hX).1 (by omega)
  obtain ⟨b1, o1, hA1, _, _⟩ := hIa 0 (by omega)
  obtain ⟨b2, o2, hA2, _, _⟩ := hIb 0 (by omega)
  subst hA1; subst hA2
  have hL1 := leading_any X b1 o1 ca n w hIa hX hca (by omega) (by omega) (by omega) (by omega)
  have hL2 := fun (w1 : World) (hb : Below w.heap.size w w1) => leading_any Y b2 o2 cb n w1 ((hIb.below hb).more hb.size) hY hcb (by omega) (by omega) (by omega) (by omega)
  have hcmb := fun (x y : Int) (w1 : World) (hb : Below w.heap.size w w1) => combine_any (D X) (D Y) (some ⟨b1, o1, none⟩) (some ⟨b2, o2, none⟩) ca cb x y w1 ((hIa.below hb).more hb.size) ((hIb.below hb).more hb.size) (Dig_D X) (Dig_D Y) (by omega) (by omega)
  have hdv := fun (w1 : World) (hb : Below w.heap.size w w1) => divide_any X Y (some ⟨b1, o1, none⟩) (some ⟨b2, o2, none⟩) ca cb w1 ((hIa.below hb).more hb.size) ((hIb.below hb).more hb.size) hX (by have := pw_pos 2; omega) (by omega) (by omega)
  have hp3 := pw_pos (n - 3)
  have hx0 : pw 2 ≤ X / pw (n - 3) := by
    refine Int.le_ediv_of_mul_le hp3 ?_
    rw [← pw_add, show 2 + (n - 3) = n - 1 by omega]; exact hxn1
  have hx1 : X / pw (n - 3) < pw 3 := by
    refine Int.ediv_lt_of_lt_mul hp3 ?_
    rw [← pw_add, show 3 + (n - 3) = n by omega]; exact hxn
  have hy0 : 0 ≤ Y / pw (n - 3) := Int.ediv_nonneg hY (by omega)
  have hyx : Y / pw (n - 3) ≤ X / pw (n - 3) := Int.ediv_le_ediv hp3 hYX
  rw [show pw 2 = 1099511627776 by decide] at hx0
  rw [show pw 3 = 1152921504606846976 by decide] at hx1
  rw [hn] at hL1 hcmb hdv ⊢
  obtain ⟨nb, hnb⟩ : ∃ n, (D Y).length = n := ⟨_, rfl⟩
  have hnb3 : 3 ≤ nb ∧ nb ≤ n ∧ n ≤ 150 := by omega
  rw [hnb] at hL2 hcmb hdv ⊢
  obtain ⟨x, hx⟩ : ∃ x, X / pw (n - 3) = x := ⟨_, rfl⟩
  obtain ⟨y, hy⟩ : ∃ x, Y / pw (n - 3) = x := ⟨_, rfl⟩
  rw [hx] at hx0 hx1 hyx hL1
  rw [hy] at hy0 hyx hL2
  obtain ⟨bl, hbl⟩ : ∃ b, b = Lib.bitLen x.toNat := ⟨_, rfl⟩
  obtain ⟨hb1, hb2, hb3, hb4⟩ := shr_bits hbl hx0 hx1
  have hs0 : 0 ≤ y / 2 ^ (bl - 41) := Int.ediv_nonneg hy0 (by omega)
  have hs1 : y / 2 ^ (bl - 41) ≤ x / 2 ^ (bl - 41) := Int.ediv_le_ediv hb4 hyx
  obtain ⟨Q, hQ⟩ : ∃ Q : Int, 2 ^ (bl - 41) = Q := ⟨_, rfl⟩
  rw [hQ] at hb3 hb4 hs0 hs1
  obtain ⟨xh, hxh⟩ : ∃ z, x / Q = z := ⟨_, rfl⟩
  obtain ⟨yh, hyh⟩ : ∃ z, y / Q = z := ⟨_, rfl⟩
  rw [hxh] at hb3 hs1
  rw [hyh] at hs0 hs1
  obtain ⟨r, hr0, hr1, hr⟩ := high hp3 hb4 hx hxh
  obtain ⟨t, ht0, ht1, ht⟩ := high hp3 hb4 hy hyh
  have hPQ := Int.mul_pos hp3 hb4
  have HL1 := Lib.hid hL1; clear hL1
  have HL2 := Lib.hid hL2; clear hL2
  have HC := Lib.hid hcmb; clear hcmb
  have HD := Lib.hid hdv; clear hdv
  have HR := Lib.hid hr; clear hr
  have HT := Lib.hid ht; clear ht
  have HX := Lib.hid hx; clear hx
  have HY := Lib.hid hy; clear hy
  have HXH := Lib.hid hxh; clear hxh
  have HYH := Lib.hid hyh; clear hyh
  have HN := Lib.hid hn; clear hn
  have HNB := Lib.hid hnb; clear hnb
  have HQ := Lib.hid hQ; clear hQ
  have HBL := Lib.hid hbl; clear hbl
  clear hxn hxn1 hyl hlab hla hlb
  go_enter Tryd.func52, Tryd.ntmps52
  go_wp2_with fail
  refine HL1.out.mono ?_
  rintro e w1 ⟨rfl, hb1'⟩
  go_wp2_with fail
  refine (HL2.out w1 hb1').mono ?_
  rintro e w2 ⟨rfl, hb2'⟩
  have hb02 := hb1'.trans (hb2'.mono hb1'.size)
  go_wp2_with fail
  refine (Tryd.bits_Len _ _ (by omega) (by omega)).mono ?_
  rw [← HBL.out]
  rintro e w3 ⟨rfl, rfl⟩
  go_wp2_with fail
  have HRX : Hid (X = xh * (pw (n - 3) * Q) + r) := HR
  have HTY : Hid (Y = yh * (pw (n - 3) * Q) + t) := HT
  have hdx : x / 2 ^ (bl - 41) = xh := by rw [HQ.out]; exact HXH.out
  have hdy : y / 2 ^ (bl - 41) = yh := by rw [HQ.out]; exact HYH.out
  have hsn : ((bl : Int) - 41).toNat = bl - 41 := by omega
  have hst := fun w' => steps_any xh yh w' hs0 hs1 hb3
  have HST := Lib.hid hst; clear hst
  go_region_held3 (fun _ => True) (trivial) (first | (go_at_call 66; refine (HST.out _).mono ?_; rintro e w4 ⟨A, B, C, E, rfl, hle, hlall, hb4'⟩; obtain ⟨hcq, hfq⟩ := bcell hb4'; have hsq := hb4'.size))
  rotate_left
  · obtain ⟨W, hW⟩ : ∃ W, W = ((((w4.setCell ⟨w3.heap.size, 0, none⟩ (.int .i64 A)).setCell ⟨w3.heap.size, 1, none⟩ (.int .i64 B)).setCell ⟨w3.heap.size, 2, none⟩ (.int .i64 C)).setCell ⟨w3.heap.size, 3, none⟩ (.int .i64 E)) := ⟨_, rfl⟩
    rw [← hW]
    obtain ⟨mb, hmb⟩ : ∃ m, w3.heap.size = m := ⟨_, rfl⟩
    have hs3 := hb02.size
    have hbm : Blk W mb 94 #[.int .i64 A, .int .i64 B, .int .i64 C, .int .i64 E] := by
      rw [hW, ← hmb]
      exact Blk.set4 (Blk.below (w := (w3.alloc (.cells #[.int .i64 0, .int .i64 0, .int .i64 0, .int .i64 0] 94)).drew) (Blk.new w3 94 #[.int .i64 0, .int .i64 0, .int .i64 0, .int .i64 0]) hb4' (by simp)) _ _ _ _
    have hbW : Below w.heap.size w W := by
      have h4 : Below w.heap.size w w4 := hb02.trans (((Below.refl w3.heap.size w3).alloc (Nat.le_refl _) (.cells #[.int .i64 0, .int .i64 0, .int .i64 0, .int .i64 0] 94)).drew.mono hs3 |>.trans (hb4'.mono (by simp; omega)))
      rw [hW]
      exact (((h4.setCell (p := ⟨w3.heap.size, 0, none⟩) hs3 _).setCell (p := ⟨w3.heap.size, 1, none⟩) hs3 _).setCell (p := ⟨w3.heap.size, 2, none⟩) hs3 _).setCell (p := ⟨w3.heap.size, 3, none⟩) hs3 _
    rw [hmb]
    obtain ⟨_, _, lb⟩ := hle.out
    clear hW hcq hfq hmb hsq hb4'
    obtain ⟨-, -, hl1⟩ := lb
    by_cases hB0 : B = 0
    · have hB1 : (B == 0) = true := by simpa using hB0
      have k1 := hbm.cell 1
      have hdv := HD.out W hbW
      clear hbm hl1
      go_wp2_with fail
      refine hdv.mono ?_
      rintro e w5 ⟨v1, v2, rfl, hq, hrm, hb5⟩
      go_wp2_with fail
      go_ret2
      have hbb := hbW.trans (hb5.mono hbW.size)
      have hy1 : 1 ≤ Y := by
        have h := HNB.out
        rcases Int.lt_or_le 0 Y with h' | h'
        · exact h'
        · rw [D_np h'] at h; simp at h; omega
      refine ⟨_, v2, Y, X % Y, rfl, ⟨_, cb, by rw [HNB.out]; rfl, hcb, hcm, (hIb.below hbb).more hbb.size⟩, hrm.sl, Int.emod_nonneg _ (by omega), Int.le_of_lt (Int.emod_lt_of_pos _ (by omega)), Int.emod_lt_of_pos _ (by omega), hYX, ?_, hbb⟩
      rw [Int.emod_def, Int.gcd_comm, Int.gcd_comm X Y, Int.gcd_comm _ Y, Int.mul_comm, Int.gcd_sub_mul_right_right]
    · have hB1 : (B == 0) = false := by simpa using hB0
      obtain ⟨q1, q2, q3, q4, q5, q6⟩ := hlall.out _ _ _ hPQ hr0 hr1 ht0 ht1 (by rw [← HRX.out, ← HTY.out]; exact hYX)
      rw [← HRX.out, ← HTY.out] at q1 q2 q3 q4 q5 q6
      have hc1 := fun (w1 : World) (hb : Below w.heap.size w w1) => HC.out A B w1 hb (by omega) (by omega) (by omega) (by omega) (by rw [nv_D hX, nv_D hY]; omega)
      have hc2 := fun (w1 : World) (hb : Below w.heap.size w w1) => HC.out C E w1 hb (by omega) (by omega) (by omega) (by omega) (by rw [nv_D hX, nv_D hY]; omega)
      rw [nv_D hX, nv_D hY] at hc1 hc2
      obtain ⟨X', hX'⟩ : ∃ z, A * X + B * Y = z := ⟨_, rfl⟩
      obtain ⟨Y', hY'⟩ : ∃ z, C * X + E * Y = z := ⟨_, rfl⟩
      rw [hX', hY'] at q2 q5
      rw [hX'] at q6
      rw [hY'] at q1 q3 q4 hc2
      rw [hX'] at hc1
      clear hX' hY'
      have HC1 := Lib.hid hc1; clear hc1
      have HC2 := Lib.hid hc2; clear hc2
      have k0 : W.cell? ⟨mb, 0, none⟩ = some (.int .i64 A) := hbm.cell 0
      have k1 : W.cell? ⟨mb, 1, none⟩ = some (.int .i64 B) := hbm.cell 1
      have k2 : W.cell? ⟨mb, 2, none⟩ = some (.int .i64 C) := hbm.cell 2
      have k3 : W.cell? ⟨mb, 3, none⟩ = some (.int .i64 E) := hbm.cell 3
      have hlt := hbm.lt
      have Q5 := Lib.hid q5; clear q5
      have q7 := q4 hB0
      clear q4
      have e0 : ∀ W' : World, Below W.heap.size W W' → W'.cell? ⟨mb, 0, none⟩ = some (.int .i64 A) ∧ W'.cell? ⟨mb, 1, none⟩ = some (.int .i64 B) ∧ W'.cell? ⟨mb, 2, none⟩ = some (.int .i64 C) ∧ W'.cell? ⟨mb, 3, none⟩ = some (.int .i64 E) ∧ Below W.heap.size W W' := fun W' hW => ⟨(hW.cell (p := ⟨mb, 0, none⟩) hlt).trans k0, (hW.cell (p := ⟨mb, 1, none⟩) hlt).trans k1, (hW.cell (p := ⟨mb, 2, none⟩) hlt).trans k2, (hW.cell (p := ⟨mb, 3, none⟩) hlt).trans k3, hW⟩
      have E0 := Lib.hid e0; clear e0
      have hB00 : Below W.heap.size W W.drew := (Below.refl _ _).drew
      go_wp2_with fail
      go_region_held3 (fun w' => w'.cell? ⟨mb, 0, none⟩ = some (.int .i64 A) ∧ w'.cell? ⟨mb, 1, none⟩ = some (.int .i64 B) ∧ w'.cell? ⟨mb, 2, none⟩ = some (.int .i64 C) ∧ w'.cell? ⟨mb, 3, none⟩ = some (.int .i64 E) ∧ Below W.heap.size W w')
        (first | exact E0.out _ (by assumption))
        (first
          | (go_at_call_of 36 (Value.int .i64 A); refine (HC1.out _ (hbW.trans (Below.mono (by assumption) hbW.size))).mono ?_; rintro e w5 ⟨v1, rfl, hown1, hb5⟩; have hB5 : Below W.heap.size W w5 := hB00.trans (hb5.mono (by simp)))
          | (go_at_call_of 36 (Value.int .i64 C); refine (HC2.out _ (hbW.trans (Below.mono (by assumption) hbW.size))).mono ?_; rintro e w6 ⟨v2, rfl, hown2, hb6⟩; have hB6 : Below W.heap.size W w6 := hB5.trans (hb6.mono hB5.size)))
      go_wp2_with fail
      go_ret2
      exact ⟨v1, v2, X', Y', rfl, (hown1.below hb6).sl, hown2.sl, q1, q2, q7, q6, Q5.out, hbW.trans (hB6.mono hbW.size)⟩
  · obtain ⟨W, hW⟩ : ∃ W, W = w4.alloc (.cells #[.int .i64 A, .int .i64 B, .int .i64 C, .int .i64 E] 94) := ⟨_, rfl⟩
    rw [← hW]
    obtain ⟨mb, hmb⟩ : ∃ m, w4.heap.size = m := ⟨_, rfl⟩
    have hs3 := hb02.size
    have hbm : Blk W mb 94 #[.int .i64 A, .int .i64 B, .int .i64 C, .int .i64 E] := by rw [hW, ← hmb]; exact Blk.new _ _ _
    have hbW : Below w.heap.size w W := by
      have h4 : Below w.heap.size w w4 := hb02.trans (Below.mono (w := w3) (w' := w4) ⟨hb4'.os, hb4'.tape, hb4'.output, hb4'.size, hb4'.block⟩ hs3)
      rw [hW]
      exact h4.alloc h4.size _
    rw [hmb]
    obtain ⟨_, _, lb⟩ := hle.out
    clear hW hcq hfq hmb hsq hb4'
    obtain ⟨-, -, hl1⟩ := lb
    by_cases hB0 : B = 0
    · have hB1 : (B == 0) = true := by simpa using hB0
      have k1 := hbm.cell 1
      have hdv := HD.out W hbW
      clear hbm hl1
      go_wp2_with fail
      refine hdv.mono ?_
      rintro e w5 ⟨v1, v2, rfl, hq, hrm, hb5⟩
      go_wp2_with fail
      go_ret2
      have hbb := hbW.trans (hb5.mono hbW.size)
      have hy1 : 1 ≤ Y := by
        have h := HNB.out
        rcases Int.lt_or_le 0 Y with h' | h'
        · exact h'
        · rw [D_np h'] at h; simp at h; omega
      refine ⟨_, v2, Y, X % Y, rfl, ⟨_, cb, by rw [HNB.out]; rfl, hcb, hcm, (hIb.below hbb).more hbb.size⟩, hrm.sl, Int.emod_nonneg _ (by omega), Int.le_of_lt (Int.emod_lt_of_pos _ (by omega)), Int.emod_lt_of_pos _ (by omega), hYX, ?_, hbb⟩
      rw [Int.emod_def, Int.gcd_comm, Int.gcd_comm X Y, Int.gcd_comm _ Y, Int.mul_comm, Int.gcd_sub_mul_right_right]
    · have hB1 : (B == 0) = false := by simpa using hB0
      obtain ⟨q1, q2, q3, q4, q5, q6⟩ := hlall.out _ _ _ hPQ hr0 hr1 ht0 ht1 (by rw [← HRX.out, ← HTY.out]; exact hYX)
      rw [← HRX.out, ← HTY.out] at q1 q2 q3 q4 q5 q6
      have hc1 := fun (w1 : World) (hb : Below w.heap.size w w1) => HC.out A B w1 hb (by omega) (by omega) (by omega) (by omega) (by rw [nv_D hX, nv_D hY]; omega)
      have hc2 := fun (w1 : World) (hb : Below w.heap.size w w1) => HC.out C E w1 hb (by omega) (by omega) (by omega) (by omega) (by rw [nv_D hX, nv_D hY]; omega)
      rw [nv_D hX, nv_D hY] at hc1 hc2
      obtain ⟨X', hX'⟩ : ∃ z, A * X + B * Y = z := ⟨_, rfl⟩
      obtain ⟨Y', hY'⟩ : ∃ z, C * X + E * Y = z := ⟨_, rfl⟩
      rw [hX', hY'] at q2 q5
      rw [hX'] at q6
      rw [hY'] at q1 q3 q4 hc2
      rw [hX'] at hc1
      clear hX' hY'
      have HC1 := Lib.hid hc1; clear hc1
      have HC2 := Lib.hid hc2; clear hc2
      have k0 : W.cell? ⟨mb, 0, none⟩ = some (.int .i64 A) := hbm.cell 0
      have k1 : W.cell? ⟨mb, 1, none⟩ = some (.int .i64 B) := hbm.cell 1
      have k2 : W.cell? ⟨mb, 2, none⟩ = some (.int .i64 C) := hbm.cell 2
      have k3 : W.cell? ⟨mb, 3, none⟩ = some (.int .i64 E) := hbm.cell 3
      have hlt := hbm.lt
      have Q5 := Lib.hid q5; clear q5
      have q7 := q4 hB0
      clear q4
      have e0 : ∀ W' : World, Below W.heap.size W W' → W'.cell? ⟨mb, 0, none⟩ = some (.int .i64 A) ∧ W'.cell? ⟨mb, 1, none⟩ = some (.int .i64 B) ∧ W'.cell? ⟨mb, 2, none⟩ = some (.int .i64 C) ∧ W'.cell? ⟨mb, 3, none⟩ = some (.int .i64 E) ∧ Below W.heap.size W W' := fun W' hW => ⟨(hW.cell (p := ⟨mb, 0, none⟩) hlt).trans k0, (hW.cell (p := ⟨mb, 1, none⟩) hlt).trans k1, (hW.cell (p := ⟨mb, 2, none⟩) hlt).trans k2, (hW.cell (p := ⟨mb, 3, none⟩) hlt).trans k3, hW⟩
      have E0 := Lib.hid e0; clear e0
      have hB00 : Below W.heap.size W W.drew := (Below.refl _ _).drew
      go_wp2_with fail
      go_region_held3 (fun w' => w'.cell? ⟨mb, 0, none⟩ = some (.int .i64 A) ∧ w'.cell? ⟨mb, 1, none⟩ = some (.int .i64 B) ∧ w'.cell? ⟨mb, 2, none⟩ = some (.int .i64 C) ∧ w'.cell? ⟨mb, 3, none⟩ = some (.int .i64 E) ∧ Below W.heap.size W w')
        (first | exact E0.out _ (by assumption))
        (first
          | (go_at_call_of 36 (Value.int .i64 A); refine (HC1.out _ (hbW.trans (Below.mono (by assumption) hbW.size))).mono ?_; rintro e w5 ⟨v1, rfl, hown1, hb5⟩; have hB5 : Below W.heap.size W w5 := hB00.trans (hb5.mono (by simp)))
          | (go_at_call_of 36 (Value.int .i64 C); refine (HC2.out _ (hbW.trans (Below.mono (by assumption) hbW.size))).mono ?_; rintro e w6 ⟨v2, rfl, hown2, hb6⟩; have hB6 : Below W.heap.size W w6 := hB5.trans (hb6.mono hB5.size)))
      go_wp2_with fail
      go_ret2
      exact ⟨v1, v2, X', Y', rfl, (hown1.below hb6).sl, hown2.sl, q1, q2, q7, q6, Q5.out, hbW.trans (hB6.mono hbW.size)⟩

end Go.Proofs.YtofndidngjglmaaDoor
