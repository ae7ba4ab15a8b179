/- Plain: the quotient, rounded down, and its remainder. Boxes of big integers; what the document's examples are, in plain. Walks: Div. Walks: the law's head. Walks: Add, Sub. What the law on ints needs in plain. -/
import Derived.Test.YtlbjaimgoiimgaaXae
import Derived.Test.YtlbjaimgoiimgaaXac

namespace Go.Proofs.Ytlbjaimgoiimgaa
open Go.RowKit

/-- What Div's results are. -/
def QR (x y q r : Int) : Prop := x = q * y + r ∧ (r = 0 ∨ sgn r = sgn y) ∧ ab r < ab y ∧ ab q ≤ ab x

theorem qr_pos {X Y Q R : Int} (h : Y * Q + R = X) (h0 : 0 ≤ R) (hX : 0 ≤ X) (h1 : R < Y) : 0 ≤ Q ∧ Q ≤ X ∧ (0 < R → Q + 1 ≤ X) := by
  have hQ : 0 ≤ Q := by
    rcases Int.lt_or_le Q 0 with h' | h'
    · have : Y * Q ≤ Y * (-1) := Int.mul_le_mul_of_nonneg_left (by omega) (by omega)
      omega
    · exact h'
  have hQX : 1 * Q ≤ Y * Q := Int.mul_le_mul_of_nonneg_right (by omega) hQ
  exact ⟨hQ, by omega, fun h => by omega⟩

theorem div_same {x y : Int} (hy : y ≠ 0) (h : sgn x = sgn y ∨ ab x % ab y = 0) :
    QR x y (sgn x * sgn y * (ab x / ab y)) (sgn y * (ab x % ab y)) ∧ ab (sgn x * sgn y * (ab x / ab y)) = ab x / ab y ∧ ab (sgn y * (ab x % ab y)) = ab x % ab y ∧
    (sgn x * sgn y * (ab x / ab y) ≠ 0 → sgn x * sgn y = sgn (sgn x * sgn y * (ab x / ab y))) ∧ (sgn y * (ab x % ab y) ≠ 0 → sgn y = sgn (sgn y * (ab x % ab y))) := by
  have hY : 0 < ab y := by unfold ab; omega
  have e1 := Int.mul_ediv_add_emod (ab x) (ab y)
  have e2 := Int.emod_nonneg (ab x) (b := ab y) (by omega)
  have e3 := Int.emod_lt_of_pos (ab x) hY
  obtain ⟨Q, hQ⟩ : ∃ Q, ab x / ab y = Q := ⟨_, rfl⟩
  obtain ⟨R, hR⟩ : ∃ R, ab x % ab y = R := ⟨_, rfl⟩
  rw [hQ, hR] at e1
  rw [hR] at e2 e3 h
  rw [hQ, hR]
  obtain ⟨p1, p2, p3⟩ := qr_pos e1 e2 (ab_nonneg x) e3
  clear hQ hR
  unfold QR
  rcases sgn_cases x with ⟨a1, a2, a3⟩ | ⟨a1, a2, a3⟩ | ⟨a1, a2, a3⟩ <;> rcases sgn_cases y with ⟨b1, b2, b3⟩ | ⟨b1, b2, b3⟩ | ⟨b1, b2, b3⟩ <;> (try (exact absurd b1 hy)) <;> (rw [a2, b2] at h; rw [a3, b3] at e1; rw [a3] at p2 p3; rw [b3] at e3)
  · rw [a2, b2, a3, b3]
    simp only [Int.reduceNeg, Int.neg_mul, Int.one_mul, Int.mul_neg, Int.neg_neg]
    have : -y * Q = -(Q * y) := by rw [Int.neg_mul, Int.mul_comm]
    refine ⟨⟨by omega, ?_, by unfold ab; omega, by unfold ab; omega⟩, by unfold ab; omega, by unfold ab; omega, fun _ => ?_, fun _ => ?_⟩
    · rcases Int.lt_or_le 0 R with h' | h'
      · exact .inr (sgn_of_neg (by omega))
      · exact .inl (by omega)
    · exact (sgn_pos (by omega)).symm
    · exact (sgn_of_neg (by omega)).symm
  · have : R = 0 := by omega
    subst this
    rw [a2, b2, a3, b3]
    simp only [Int.reduceNeg, Int.neg_mul, Int.one_mul, Int.mul_zero]
    have h9 : y * Q = Q * y := Int.mul_comm _ _
    refine ⟨⟨by omega, .inl trivial, by unfold ab; omega, by unfold ab; omega⟩, by unfold ab; omega, rfl, fun _ => ?_, fun h => absurd rfl h⟩
    exact (sgn_of_neg (by omega)).symm
  · subst a1
    have hQ0 : Q = 0 := by omega
    subst hQ0
    have hR0 : R = 0 := by simp at e1; exact e1
    subst hR0
    simp only [Int.mul_zero, Int.zero_mul]
    exact ⟨⟨rfl, .inl trivial, by unfold ab; omega, by unfold ab; omega⟩, rfl, rfl, fun h => absurd rfl h, fun h => absurd rfl h⟩
  · subst a1
    have hQ0 : Q = 0 := by omega
    subst hQ0
    have hR0 : R = 0 := by simp at e1; exact e1
    subst hR0
    simp only [Int.mul_zero, Int.zero_mul]
    exact ⟨⟨rfl, .inl trivial, by unfold ab; omega, by unfold ab; omega⟩, rfl, rfl, fun h => absurd rfl h, fun h => absurd rfl h⟩
  · have : R = 0 := by omega
    subst this
    rw [a2, b2, a3, b3]
    simp only [Int.reduceNeg, Int.neg_mul, Int.one_mul, Int.mul_zero]
    have h9 : -y * Q = -(Q * y) := by rw [Int.neg_mul, Int.mul_comm]
    refine ⟨⟨by omega, .inl trivial, by unfold ab; omega, by unfold ab; omega⟩, by unfold ab; omega, rfl, fun _ => ?_, fun h => absurd rfl h⟩
    exact (sgn_of_neg (by omega)).symm
  · rw [a2, b2, a3, b3]
    simp only [Int.one_mul]
    have h9 : y * Q = Q * y := Int.mul_comm _ _
    refine ⟨⟨by omega, ?_, by unfold ab; omega, by unfold ab; omega⟩, by unfold ab; omega, by unfold ab; omega, fun _ => ?_, fun _ => ?_⟩
    · rcases Int.lt_or_le 0 R with h' | h'
      · exact .inr (sgn_pos (by omega))
      · exact .inl (by omega)
    · exact (sgn_pos (by omega)).symm
    · exact (sgn_pos (by omega)).symm

theorem div_diff {x y : Int} (hy : y ≠ 0) (h : sgn x ≠ sgn y) (hr : 0 < ab x % ab y) :
    QR x y (-(ab x / ab y + 1)) (sgn y * (ab y - ab x % ab y)) ∧ ab (-(ab x / ab y + 1)) = ab x / ab y + 1 ∧ ab (sgn y * (ab y - ab x % ab y)) = ab y - ab x % ab y ∧
    sgn x * sgn y = sgn (-(ab x / ab y + 1)) ∧ sgn y = sgn (sgn y * (ab y - ab x % ab y)) := by
  have hY : 0 < ab y := by unfold ab; omega
  have e1 := Int.mul_ediv_add_emod (ab x) (ab y)
  have e3 := Int.emod_lt_of_pos (ab x) hY
  obtain ⟨Q, hQ⟩ : ∃ Q, ab x / ab y = Q := ⟨_, rfl⟩
  obtain ⟨R, hR⟩ : ∃ R, ab x % ab y = R := ⟨_, rfl⟩
  rw [hQ, hR] at e1
  rw [hR] at e3 hr
  rw [hQ, hR]
  obtain ⟨p1, p2, p3⟩ := qr_pos e1 (by omega) (ab_nonneg x) e3
  have p3 := p3 hr
  clear hQ hR
  unfold QR
  rcases sgn_cases x with ⟨a1, a2, a3⟩ | ⟨a1, a2, a3⟩ | ⟨a1, a2, a3⟩ <;> rcases sgn_cases y with ⟨b1, b2, b3⟩ | ⟨b1, b2, b3⟩ | ⟨b1, b2, b3⟩ <;> (try (exact absurd b1 hy)) <;> (rw [a2, b2] at h; rw [a3, b3] at e1; rw [a3] at p2 p3; rw [b3] at e3) <;> (try (exact absurd rfl h)) <;> (try (exfalso; omega))
  · rw [a2, b2, a3, b3]
    have h9 : -(Q + 1) * y = -(y * Q) - y := by rw [Int.neg_mul, Int.add_mul, Int.one_mul, Int.mul_comm]; omega
    refine ⟨⟨by omega, .inr (sgn_pos (by omega)), by unfold ab; omega, by unfold ab; omega⟩, by unfold ab; omega, by unfold ab; omega, (sgn_of_neg (by omega)).symm, (sgn_pos (by omega)).symm⟩
  · rw [a2, b2, a3, b3]
    have h9 : -(Q + 1) * y = -y * Q - y := by rw [Int.neg_mul, Int.neg_mul, Int.add_mul, Int.one_mul, Int.mul_comm]; omega
    refine ⟨⟨by omega, .inr (sgn_of_neg (by omega)), by unfold ab; omega, by unfold ab; omega⟩, by unfold ab; omega, by unfold ab; omega, (sgn_of_neg (by omega)).symm, (sgn_of_neg (by omega)).symm⟩

end Go.Proofs.Ytlbjaimgoiimgaa

namespace Go.Proofs.Ytlbjaimgoiimgaa
open Go.RowKit

/-- A box at block g that holds z. -/
structure Bx (W : World) (g : Nat) (s : Int) (A : Option Addr) (n c : Nat) (z : Int) : Prop where
  blk : Blk W g 38 #[.int .i64 s, .slice A n c]
  bv : BV W W.heap.size (.agg #[.int .i64 s, .slice A n c]) z
section
variable {W W' w : World} {g B : Nat} {s s' : Int} {A A' : Option Addr} {n c n' c' : Nat} {z z' : Int}
theorem Bx.below (h : Bx W g s A n c z) (hb : Below W.heap.size W W') : Bx W' g s A n c z := ⟨h.blk.below hb h.blk.lt, h.bv.later hb⟩
theorem Bx.c0 (h : Bx W g s A n c z) : W.cell? ⟨g, 0, none⟩ = some (.int .i64 s) := h.blk.cell 0
theorem Bx.c1 (h : Bx W g s A n c z) : W.cell? ⟨g, 1, none⟩ = some (.slice A n c) := h.blk.cell 1
theorem Bx.sg (h : Bx W g s A n c z) : s = sgn z := by
  obtain ⟨A1, c1, e, _⟩ := h.bv
  injection e with e
  have e0 := congrArg (fun (a : Array Value) => a[0]?) e
  simp at e0
  exact e0
theorem box1 (h : BO w B (.agg #[.int .i64 s, .slice A n c]) z) : ∃ W, W = w.alloc (.cells #[.int .i64 s, .slice A n c] 38) ∧ Below w.heap.size w W ∧ Bx W w.heap.size s A n c z := by
  have hb : Below w.heap.size w (w.alloc (.cells #[.int .i64 s, .slice A n c] 38)) := (Below.refl _ _).alloc (Nat.le_refl _) _
  exact ⟨_, rfl, hb, Blk.new _ _ _, h.bv.later hb⟩
theorem box2 (h : BO w B (.agg #[.int .i64 s, .slice A n c]) z) (h' : BO w B (.agg #[.int .i64 s', .slice A' n' c']) z') :
    ∃ W, W = (w.alloc (.cells #[.int .i64 s, .slice A n c] 38)).alloc (.cells #[.int .i64 s', .slice A' n' c'] 38) ∧ Below w.heap.size w W ∧ Bx W w.heap.size s A n c z ∧ Bx W (w.heap.size + 1) s' A' n' c' z' := by
  obtain ⟨W, hW, hb, k1, k2, _⟩ := boxes2 w #[.int .i64 s, .slice A n c] #[.int .i64 s', .slice A' n' c']
  exact ⟨W, hW, hb, ⟨k1, h.bv.later hb⟩, ⟨k2, h'.bv.later hb⟩⟩
end

theorem lt60 {z : Int} (h : ab z < 1208925819614629174706176) : ab z < pw 60 := by
  have := pw_le (show 4 ≤ 60 by omega)
  rw [pw4] at this
  omega

/-- A literal of one block of cells. -/
theorem lit_bv {w : World} {l : List Int} {z : Int} {n : Nat} (h0 : 0 < z) (hD : D z = l) (hn : l.length = n) (hc : n ≤ 9223372036854775807) :
    BV (w.alloc (.cells (l.map (Value.int .i64)).toArray 3)) (w.alloc (.cells (l.map (Value.int .i64)).toArray 3)).heap.size (.agg #[.int .i64 1, .slice (some ⟨w.heap.size, 0, none⟩) n n]) z := by
  have hab : ab z = z := by unfold ab; omega
  have hs : sgn z = 1 := by unfold sgn; split <;> (try split) <;> omega
  subst hn
  refine ⟨some ⟨w.heap.size, 0, none⟩, l.length, by rw [hs, hab, hD], by rw [hab, hD]; exact Nat.le_refl _, hc, ?_⟩
  rw [hab, hD]
  intro k hk
  refine ⟨w.heap.size, 0, rfl, by simp, ?_⟩
  rw [Nat.zero_add]
  have := (Blk.new w 3 (l.map (Value.int .i64)).toArray).cell k
  rw [this]
  simp [hk]

theorem D_two : D 9223372036854775808 = [0, 0, 0, 8] := Nrm.eq_D (l := [0, 0, 0, 8]) ⟨by intro d hd; simp at hd; omega, by intro _; decide⟩
theorem D_x : D 1048577 = [1, 1] := Nrm.eq_D (l := [1, 1]) ⟨by intro d hd; simp at hd; omega, by intro _; decide⟩

theorem qr1 {q r : Int} (h : QR (-7) 2 q r) : q = -4 ∧ r = 1 := by
  obtain ⟨h1, h2, h3, _⟩ := h
  unfold sgn at h2
  unfold ab at h3
  split at h2 <;> (try split at h2) <;> omega
theorem qr2 {q r : Int} (h : QR 7 (-2) q r) : q = -4 ∧ r = -1 := by
  obtain ⟨h1, h2, h3, _⟩ := h
  unfold sgn at h2
  unfold ab at h3
  split at h2 <;> (try split at h2) <;> omega
theorem qr3 {q r : Int} (h : QR (-7) (-2) q r) : q = 3 ∧ r = -1 := by
  obtain ⟨h1, h2, h3, _⟩ := h
  unfold sgn at h2
  unfold ab at h3
  split at h2 <;> (try split at h2) <;> omega

theorem no007 (z : Int) : bts ⟨#[48, 48, 55]⟩ ≠ Lib.itoa z := by
  intro h
  have h1 : bts ⟨#[48, 48, 55]⟩ = [48, 48, 55] := rfl
  rw [h1, itoa_ab] at h
  split at h
  · cases h
  · rw [List.nil_append] at h
    rcases dd_head (ab z).toNat with h2 | h2
    · rw [h2] at h; cases h
    · rw [← h] at h2; exact h2 rfl
theorem noM0 (z : Int) : bts ⟨#[45, 48]⟩ ≠ Lib.itoa z := by
  intro h
  have h1 : bts ⟨#[45, 48]⟩ = [45, 48] := rfl
  rw [h1, itoa_ab] at h
  split at h
  · rename_i hz
    have h3 : [48] = Lib.decDigits (ab z).toNat := by simpa using h
    have h2 := dv_dd (ab z).toNat
    rw [← h3] at h2
    have : dv [48] = 0 := rfl
    unfold ab at h2
    omega
  · rw [List.nil_append] at h
    have := dd_all (ab z).toNat 45 (by rw [← h]; simp)
    unfold isD at this
    have e : (45 : UInt8).toNat = 45 := rfl
    omega
theorem noE (z : Int) : bts ⟨#[]⟩ ≠ Lib.itoa z := by
  intro h
  have h1 : bts ⟨#[]⟩ = [] := rfl
  rw [h1, itoa_ab] at h
  split at h
  · cases h
  · exact dd_ne _ h.symm

theorem theText : byt (Lib.itoa (-9999999999800000000001)) = ⟨#[45, 57, 57, 57, 57, 57, 57, 57, 57, 57, 57, 56, 48, 48, 48, 48, 48, 48, 48, 48, 48, 48, 49]⟩ := by
  have h := dd_of (l := [57, 57, 57, 57, 57, 57, 57, 57, 57, 57, 56, 48, 48, 48, 48, 48, 48, 48, 48, 48, 48, 49]) (by intro b hb; simp at hb; unfold isD; rcases hb with rfl | rfl | rfl | rfl <;> decide) (by simp) (.inr (by decide))
  have h2 : dv [57, 57, 57, 57, 57, 57, 57, 57, 57, 57, 56, 48, 48, 48, 48, 48, 48, 48, 48, 48, 48, 49] = 9999999999800000000001 := by rfl
  rw [h2] at h
  unfold Lib.itoa
  rw [if_pos (by omega)]
  have h3 : Int.natAbs (-9999999999800000000001) = 9999999999800000000001 := rfl
  rw [h3, h]
  rfl

end Go.Proofs.Ytlbjaimgoiimgaa

namespace Go.Proofs.Ytlbjaimgoiimgaa
open Go.RowKit

def DivP (x y : Int) (w : World) (e : Ending) (w' : World) : Prop := ∃ r1 r2 q r, e = .returned (.tuple #[r1, r2, .int .i64 0]) ∧ BO w' w.heap.size r1 q ∧ BO w' w.heap.size r2 r ∧ QR x y q r ∧ Below w.heap.size w w'

set_option maxRecDepth 100000 in
set_option maxHeartbeats 4000000 in
theorem div_any (x y : Int) (vx vy : Value) (w : World) (hx : BV w w.heap.size vx x) (hy : BV w w.heap.size vy y) (hx6 : ab x < pw 60) (hy6 : ab y < pw 60) (hy0 : y ≠ 0) :
    Calls Try.prog 75 #[vx, vy] w (DivP x y w) := by
  obtain ⟨A1, c1, rfl, hc1, hm1, hI1⟩ := hx
  obtain ⟨A2, c2, rfl, hc2, hm2, hI2⟩ := hy
  have hl1 := len60 hx6
  have hl2 := len60 hy6
  have hY : 1 ≤ ab y := by unfold ab; omega
  have hr1 := fun (w' : World) (hb : Below w.heap.size w w') => right_any (sgn x) (D (ab x)) A1 c1 w' ((hI1.below hb).more hb.size) (by omega) true (by simp [rightP_of hx6])
  have hr2 := fun (w' : World) (hb : Below w.heap.size w w') => right_any (sgn y) (D (ab y)) A2 c2 w' ((hI2.below hb).more hb.size) (by omega) true (by simp [rightP_of hy6])
  have hdv := fun (w' : World) (hb : Below w.heap.size w w') => divide_any (ab x) (ab y) A1 A2 c1 c2 w' ((hI1.below hb).more hb.size) ((hI2.below hb).more hb.size) (ab_nonneg _) hY (by omega) (by omega)
  have hq0 := Int.ediv_nonneg (ab_nonneg x) (ab_nonneg y)
  have hm0 := Int.emod_nonneg (ab x) (b := ab y) (by omega)
  have hm1' := Int.emod_lt_of_pos (ab x) (b := ab y) (by omega)
  have hqx : ab x / ab y ≤ ab x := Int.ediv_le_self _ (ab_nonneg x)
  have hds := fun h => div_same (x := x) (y := y) hy0 h
  have hdd := fun h => div_diff (x := x) (y := y) hy0 h
  have hcb := fun (A : Option Addr) (c : Nat) (w' : World) (hb : Below w.heap.size w w') (h : IntsAt w'.heap.size w' A (D (ab x % ab y))) => combine_any (D (ab y)) (D (ab x % ab y)) A2 A c2 c 1 (-1) w' ((hI2.below hb).more hb.size) h (Dig_D _) (Dig_D _) (by omega) (by
    have := (D_len_le hm0 (k := 60)).2 (by omega)
    omega) (by omega) (by omega) (by omega) (by omega) (by rw [nv_D (ab_nonneg _), nv_D hm0]; omega)
  rw [nv_D (ab_nonneg _), nv_D hm0] at hcb
  have hsc := fun (A : Option Addr) (c : Nat) (w' : World) (h : IntsAt w'.heap.size w' A (D (ab x / ab y))) => scale_any (D (ab x / ab y)) A c 1 1 w' h (Dig_D _) (by
    have := (D_len_le hq0 (k := 60)).2 (by omega)
    omega) (by omega) (by omega) (by omega) (by omega)
  rw [nv_D hq0] at hsc
  obtain ⟨n1, hn1⟩ : ∃ n, (D (ab x)).length = n := ⟨_, rfl⟩
  obtain ⟨n2, hn2⟩ : ∃ n, (D (ab y)).length = n := ⟨_, rfl⟩
  rw [hn1] at hr1 hdv ⊢
  rw [hn2] at hr2 hdv hcb ⊢
  have hs1 := sgn_bd x
  have hs2 := sgn_bd y
  have hs20 : sgn y ≠ 0 := by rcases sgn_cases y with ⟨a, b, _⟩ | ⟨a, b, _⟩ | ⟨a, b, _⟩ <;> omega
  obtain ⟨s1, hs1e⟩ : ∃ s, sgn x = s := ⟨_, rfl⟩
  obtain ⟨sy, hs2e⟩ : ∃ s, sgn y = s := ⟨_, rfl⟩
  rw [hs1e] at hr1 hds hdd hs1 ⊢
  rw [hs2e] at hr2 hds hdd hs2 hs20 ⊢
  obtain ⟨Q, hQ⟩ : ∃ z, ab x / ab y = z := ⟨_, rfl⟩
  obtain ⟨R, hR⟩ : ∃ z, ab x % ab y = z := ⟨_, rfl⟩
  rw [hQ] at hdv hds hdd hsc hq0
  rw [hR] at hdv hds hdd hcb hm0
  have HR1 := Lib.hid hr1; clear hr1
  have HR2 := Lib.hid hr2; clear hr2
  have HDV := Lib.hid hdv; clear hdv
  have HDS := Lib.hid hds; clear hds
  have HDD := Lib.hid hdd; clear hdd
  have HSC := Lib.hid hsc; clear hsc
  have HCB := Lib.hid hcb; clear hcb
  clear hn1 hn2 hs1e hs2e hI1 hI2 hx6 hy6 hc1 hc2 hQ hR hqx hm1' hY hy0 hl1 hl2
  have hms : -1 ≤ s1 * sy ∧ s1 * sy ≤ 1 := by
    have a : s1 = -1 ∨ s1 = 0 ∨ s1 = 1 := by omega
    rcases a with rfl | rfl | rfl <;> omega
  have hsy : (sy == 0) = false := by simpa using hs20
  by_cases hss : s1 = sy
  · have hss := hss.symm
    subst hss
    obtain ⟨hqr, haq, har, hsq, hsr⟩ := HDS.out (.inl rfl)
    have HQR := Lib.hid hqr; clear hqr
    have HAQ := Lib.hid haq
    have HAR := Lib.hid har
    have HSQ := Lib.hid hsq; clear hsq
    have HSR := Lib.hid hsr; clear hsr
    clear haq har
    go_enter Try.func75, Try.ntmps75
    go_wp2_with fail
    obtain ⟨w1, hw1, hb1, k1, k2, k3, k4, hsz⟩ := boxes4 w #[.int .i64 sy, .slice A1 n1 c1] #[.int .i64 sy, .slice A2 n2 c2] #[.int .i64 0, .slice none 0 0] #[.int .i64 0, .slice none 0 0]
    rw [← hw1]
    clear hw1
    (with_reducible refine (HR1.out w1 hb1).mono ?_)
    rintro e w2 ⟨rfl, hb2⟩
    have k1 := k1.below hb2 k1.lt
    have k2 := k2.below hb2 k2.lt
    have k3 := k3.below hb2 k3.lt
    have k4 := k4.below hb2 k4.lt
    have hs2' := hb2.size
    have hb2 := hb1.trans (hb2.mono hb1.size)
    have j1 : w2.cell? ⟨w.heap.size + 1, 0, none⟩ = some (.int .i64 sy) := k2.cell 0
    have j2 : w2.cell? ⟨w.heap.size + 1, 1, none⟩ = some (.slice A2 n2 c2) := k2.cell 1
    go_wp2_with fail
    (with_reducible refine (HR2.out w2 hb2).mono ?_)
    rintro e w3 ⟨rfl, hb3⟩
    clear j1 j2
    have k1 := k1.below hb3 k1.lt
    have k2 := k2.below hb3 k2.lt
    have k3 := k3.below hb3 k3.lt
    have k4 := k4.below hb3 k4.lt
    have hs3' := hb3.size
    have hb3 := hb2.trans (hb3.mono hb2.size)
    clear hb1 hb2 HR1 HR2
    obtain ⟨g, hg⟩ : ∃ g, w.heap.size + 1 + 1 = g := ⟨_, rfl⟩
    have hgw : w.heap.size + 1 < g ∧ g + 1 < w3.heap.size := by have := k4.lt; omega
    rw [hg] at k3 k4 ⊢
    clear hg hsz hs2' hs3'
    have j0 : w3.cell? ⟨w.heap.size, 0, none⟩ = some (.int .i64 sy) := k1.cell 0
    have j1 : w3.cell? ⟨w.heap.size, 1, none⟩ = some (.slice A1 n1 c1) := k1.cell 1
    have j2 : w3.cell? ⟨w.heap.size + 1, 0, none⟩ = some (.int .i64 sy) := k2.cell 0
    have j3 : w3.cell? ⟨w.heap.size + 1, 1, none⟩ = some (.slice A2 n2 c2) := k2.cell 1
    go_wp2_with fail
    (with_reducible refine (HDV.out w3 hb3).mono ?_)
    rintro e w4 ⟨vq, vr, rfl, hoq, hor, hb4⟩
    obtain ⟨Aq, cq, rfl, hcq, hmq, hIq⟩ := hoq.at_
    obtain ⟨Ar, cr, rfl, hcr, hmr, hIr⟩ := hor.at_
    have k1 := k1.below hb4 k1.lt
    have k2 := k2.below hb4 k2.lt
    have k3 := k3.below hb4 (by omega)
    have k4 := k4.below hb4 (by omega)
    clear j0 j1 j2 j3
    have j0 : w4.cell? ⟨w.heap.size, 0, none⟩ = some (.int .i64 sy) := k1.cell 0
    have j1 : w4.cell? ⟨w.heap.size, 1, none⟩ = some (.slice A1 n1 c1) := k1.cell 1
    have j2 : w4.cell? ⟨w.heap.size + 1, 0, none⟩ = some (.int .i64 sy) := k2.cell 0
    have j3 : w4.cell? ⟨w.heap.size + 1, 1, none⟩ = some (.slice A2 n2 c2) := k2.cell 1
    have hs34 := hb4.size

    have e0 : ∀ W' : World, Below g w4 W' → W'.cell? ⟨w.heap.size, 0, none⟩ = some (.int .i64 sy) ∧ W'.cell? ⟨w.heap.size, 1, none⟩ = some (.slice A1 n1 c1) ∧ W'.cell? ⟨w.heap.size + 1, 0, none⟩ = some (.int .i64 sy) ∧ W'.cell? ⟨w.heap.size + 1, 1, none⟩ = some (.slice A2 n2 c2) ∧ Below g w4 W' := fun W' hW =>
      ⟨(k1.below hW (by omega)).cell 0, (k1.below hW (by omega)).cell 1, (k2.below hW (by omega)).cell 0, (k2.below hW (by omega)).cell 1, hW⟩
    have E0 := Lib.hid e0; clear e0
    have hwm : IntKind.i64.wrap (sy * sy) = sy * sy := IntWalk.i64_in _ (by omega)
    have hB00 : Below g w4 w4.drew := (Below.refl _ _).drew
    have hB01 : Below w4.heap.size w4 w4.drew := (Below.refl _ _).drew
    have hgW : g + 1 < w4.heap.size := by omega
    obtain ⟨nq, hnq⟩ : ∃ n, (D Q).length = n := ⟨_, rfl⟩
    obtain ⟨nr, hnr⟩ : ∃ n, (D R).length = n := ⟨_, rfl⟩
    have hnumq := fun w' => number_any (sy * sy * Q) (sy * sy) Aq cq w' HSQ.out
    have hnumr := fun w' => number_any (sy * R) sy Ar cr w' HSR.out
    rw [HAQ.out, hnq] at hnumq
    rw [HAR.out, hnr] at hnumr
    rw [hnq, hnr]
    have HNQ := Lib.hid hnumq; clear hnumq
    have HNR := Lib.hid hnumr; clear hnumr
    have HQ1 := Lib.hid hnq; clear hnq
    have HR1' := Lib.hid hnr; clear hnr
    go_wp2_with fail
    clear j0 j1 j2 j3
    go_region_held3 (fun W' => W'.cell? ⟨w.heap.size, 0, none⟩ = some (.int .i64 sy) ∧ W'.cell? ⟨w.heap.size, 1, none⟩ = some (.slice A1 n1 c1) ∧ W'.cell? ⟨w.heap.size + 1, 0, none⟩ = some (.int .i64 sy) ∧ W'.cell? ⟨w.heap.size + 1, 1, none⟩ = some (.slice A2 n2 c2) ∧ Below g w4 W')
      (first | exact E0.out _ (by assumption) | exact E0.out _ ⟨rfl, rfl, rfl, Nat.le_refl _, fun _ _ => rfl⟩)
      (first
        | (go_at_call_of 48 (Value.int .i64 (sy * sy)); (with_reducible refine (HNQ.out _).mono ?_); rintro e w5 ⟨rq, rfl, hrq, hb5⟩; have HRQ := Lib.hid hrq; obtain ⟨sq', Aq', nq', cq', rfl⟩ := hrq.form; clear hrq; have hB5 : Below w4.heap.size w4 w5 := ⟨hb5.os, hb5.tape, hb5.output, hb5.size, hb5.block⟩; have hB5g : Below g w4 w5 := hB5.mono (by omega))
        | (go_at_call_of 48 (Value.int .i64 sy); (with_reducible refine (HNR.out _).mono ?_); rintro e w6 ⟨rr, rfl, hrr, hb6⟩; have HRR := Lib.hid hrr; obtain ⟨sr', Ar', nr', cr', rfl⟩ := hrr.form; clear hrr; have hB6 : Below w4.heap.size w4 w6 := hB5.trans (hb6.mono hB5.size); have hB6g : Below g w4 w6 := hB6.mono (by omega); have hbk := k3.below hB6 (by omega); have hbl := k4.below hB6 (by omega); have q0 : w6.cell? ⟨g, 0, none⟩ = some (.int .i64 0) := hbk.cell 0; have q1 : w6.cell? ⟨g, 1, none⟩ = some (.slice none 0 0) := hbk.cell 1; have f0 := hbk.frozen 0; have f1 := hbk.frozen 1; have q2 : w6.cell? ⟨g + 1, 0, none⟩ = some (.int .i64 0) := hbl.cell 0; have q3 : w6.cell? ⟨g + 1, 1, none⟩ = some (.slice none 0 0) := hbl.cell 1; have f2 := hbl.frozen 0; have f3 := hbl.frozen 1; have hB7 := (hB6g.setCell (p := ⟨g, 0, none⟩) (Nat.le_refl _) (.int .i64 sq')).setCell (p := ⟨g, 1, none⟩) (Nat.le_refl _) (.slice Aq' nq' cq'); have hB8 := (hB7.setCell (p := ⟨g + 1, 0, none⟩) (Nat.le_succ _) (.int .i64 sr')).setCell (p := ⟨g + 1, 1, none⟩) (Nat.le_succ _) (.slice Ar' nr' cr')))
    have hbs := hbk.set2 (.int .i64 sq') (.slice Aq' nq' cq')
    have hbs' := (hbs.far (p := ⟨g + 1, 0, none⟩) (by simp) (.int .i64 sr')).far (p := ⟨g + 1, 1, none⟩) (by simp) (.slice Ar' nr' cr')
    have hbt := ((hbl.far (p := ⟨g, 0, none⟩) (by simp) (.int .i64 sq')).far (p := ⟨g, 1, none⟩) (by simp) (.slice Aq' nq' cq')).set2 (.int .i64 sr') (.slice Ar' nr' cr')
    have hd0 := hbs'.cell 0
    have hd1 := hbs'.cell 1
    have hd2 := hbt.cell 0
    have hd3 := hbt.cell 1
    simp at hd0 hd1 hd2 hd3
    go_wp2_with fail
    refine bodyPost_ret (v := .tuple #[.agg #[.int .i64 sq', .slice Aq' nq' cq'], .agg #[.int .i64 sr', .slice Ar' nr' cr'], .int .i64 0]) (by simp [results, Try.results75, go_sem, hd0, hd1, hd2, hd3]) rfl ?_
    have ho1 := ((hoq.below hB6).far2 (g := g) (by omega) (.int .i64 sq') (.slice Aq' nq' cq')).far2 (g := g + 1) (by omega) (.int .i64 sr') (.slice Ar' nr' cr')
    have ho2 := ((hor.below hB6).far2 (g := g) (by omega) (.int .i64 sq') (.slice Aq' nq' cq')).far2 (g := g + 1) (by omega) (.int .i64 sr') (.slice Ar' nr' cr')
    have hsz3 := hb3.size
    exact ⟨_, _, _, _, rfl, HRQ.out.bo (by rw [HAQ.out]; exact ho1.mono hsz3), HRR.out.bo (by rw [HAR.out]; exact ho2.mono hsz3), HQR.out, (hb3.trans (hb4.mono hsz3)).trans (hB8.mono (by omega))⟩

  · have hne : (s1 != sy) = true := by simpa using hss
    by_cases hR0 : R = 0
    · obtain ⟨hqr, haq, har, hsq, hsr⟩ := HDS.out (.inr hR0)
      have hlen : (D R).length ≤ 0 := by rw [hR0, D_zero]; exact Nat.le_refl _
      have HQR := Lib.hid hqr; clear hqr
      have HAQ := Lib.hid haq
      have HAR := Lib.hid har
      have HSQ := Lib.hid hsq; clear hsq
      have HSR := Lib.hid hsr; clear hsr
      clear haq har hR0
      go_enter Try.func75, Try.ntmps75
      go_wp2_with fail
      obtain ⟨w1, hw1, hb1, k1, k2, k3, k4, hsz⟩ := boxes4 w #[.int .i64 s1, .slice A1 n1 c1] #[.int .i64 sy, .slice A2 n2 c2] #[.int .i64 0, .slice none 0 0] #[.int .i64 0, .slice none 0 0]
      rw [← hw1]
      clear hw1
      (with_reducible refine (HR1.out w1 hb1).mono ?_)
      rintro e w2 ⟨rfl, hb2⟩
      have k1 := k1.below hb2 k1.lt
      have k2 := k2.below hb2 k2.lt
      have k3 := k3.below hb2 k3.lt
      have k4 := k4.below hb2 k4.lt
      have hs2' := hb2.size
      have hb2 := hb1.trans (hb2.mono hb1.size)
      have j1 : w2.cell? ⟨w.heap.size + 1, 0, none⟩ = some (.int .i64 sy) := k2.cell 0
      have j2 : w2.cell? ⟨w.heap.size + 1, 1, none⟩ = some (.slice A2 n2 c2) := k2.cell 1
      go_wp2_with fail
      (with_reducible refine (HR2.out w2 hb2).mono ?_)
      rintro e w3 ⟨rfl, hb3⟩
      clear j1 j2
      have k1 := k1.below hb3 k1.lt
      have k2 := k2.below hb3 k2.lt
      have k3 := k3.below hb3 k3.lt
      have k4 := k4.below hb3 k4.lt
      have hs3' := hb3.size
      have hb3 := hb2.trans (hb3.mono hb2.size)
      clear hb1 hb2 HR1 HR2
      obtain ⟨g, hg⟩ : ∃ g, w.heap.size + 1 + 1 = g := ⟨_, rfl⟩
      have hgw : w.heap.size + 1 < g ∧ g + 1 < w3.heap.size := by have := k4.lt; omega
      rw [hg] at k3 k4 ⊢
      clear hg hsz hs2' hs3'
      have j0 : w3.cell? ⟨w.heap.size, 0, none⟩ = some (.int .i64 s1) := k1.cell 0
      have j1 : w3.cell? ⟨w.heap.size, 1, none⟩ = some (.slice A1 n1 c1) := k1.cell 1
      have j2 : w3.cell? ⟨w.heap.size + 1, 0, none⟩ = some (.int .i64 sy) := k2.cell 0
      have j3 : w3.cell? ⟨w.heap.size + 1, 1, none⟩ = some (.slice A2 n2 c2) := k2.cell 1
      go_wp2_with fail
      (with_reducible refine (HDV.out w3 hb3).mono ?_)
      rintro e w4 ⟨vq, vr, rfl, hoq, hor, hb4⟩
      obtain ⟨Aq, cq, rfl, hcq, hmq, hIq⟩ := hoq.at_
      obtain ⟨Ar, cr, rfl, hcr, hmr, hIr⟩ := hor.at_
      have k1 := k1.below hb4 k1.lt
      have k2 := k2.below hb4 k2.lt
      have k3 := k3.below hb4 (by omega)
      have k4 := k4.below hb4 (by omega)
      clear j0 j1 j2 j3
      have j0 : w4.cell? ⟨w.heap.size, 0, none⟩ = some (.int .i64 s1) := k1.cell 0
      have j1 : w4.cell? ⟨w.heap.size, 1, none⟩ = some (.slice A1 n1 c1) := k1.cell 1
      have j2 : w4.cell? ⟨w.heap.size + 1, 0, none⟩ = some (.int .i64 sy) := k2.cell 0
      have j3 : w4.cell? ⟨w.heap.size + 1, 1, none⟩ = some (.slice A2 n2 c2) := k2.cell 1
      have hs34 := hb4.size

      have e0 : ∀ W' : World, Below g w4 W' → W'.cell? ⟨w.heap.size, 0, none⟩ = some (.int .i64 s1) ∧ W'.cell? ⟨w.heap.size, 1, none⟩ = some (.slice A1 n1 c1) ∧ W'.cell? ⟨w.heap.size + 1, 0, none⟩ = some (.int .i64 sy) ∧ W'.cell? ⟨w.heap.size + 1, 1, none⟩ = some (.slice A2 n2 c2) ∧ Below g w4 W' := fun W' hW =>
        ⟨(k1.below hW (by omega)).cell 0, (k1.below hW (by omega)).cell 1, (k2.below hW (by omega)).cell 0, (k2.below hW (by omega)).cell 1, hW⟩
      have E0 := Lib.hid e0; clear e0
      have hwm : IntKind.i64.wrap (s1 * sy) = s1 * sy := IntWalk.i64_in _ (by omega)
      have hB00 : Below g w4 w4.drew := (Below.refl _ _).drew
      have hB01 : Below w4.heap.size w4 w4.drew := (Below.refl _ _).drew
      have hgW : g + 1 < w4.heap.size := by omega
      obtain ⟨nq, hnq⟩ : ∃ n, (D Q).length = n := ⟨_, rfl⟩
      obtain ⟨nr, hnr⟩ : ∃ n, (D R).length = n := ⟨_, rfl⟩
      have hnumq := fun w' => number_any (s1 * sy * Q) (s1 * sy) Aq cq w' HSQ.out
      have hnumr := fun w' => number_any (sy * R) sy Ar cr w' HSR.out
      rw [HAQ.out, hnq] at hnumq
      rw [HAR.out, hnr] at hnumr
      rw [hnq, hnr]
      rw [hnr] at hlen
      have HNQ := Lib.hid hnumq; clear hnumq
      have HNR := Lib.hid hnumr; clear hnumr
      have HQ1 := Lib.hid hnq; clear hnq
      have HR1' := Lib.hid hnr; clear hnr
      go_wp2_with fail
      clear j0 j1 j2 j3
      go_region_held3 (fun W' => W'.cell? ⟨w.heap.size, 0, none⟩ = some (.int .i64 s1) ∧ W'.cell? ⟨w.heap.size, 1, none⟩ = some (.slice A1 n1 c1) ∧ W'.cell? ⟨w.heap.size + 1, 0, none⟩ = some (.int .i64 sy) ∧ W'.cell? ⟨w.heap.size + 1, 1, none⟩ = some (.slice A2 n2 c2) ∧ Below g w4 W')
        (first | exact E0.out _ (by assumption) | exact E0.out _ ⟨rfl, rfl, rfl, Nat.le_refl _, fun _ _ => rfl⟩)
        (first
          | (go_at_call_of 48 (Value.int .i64 (s1 * sy)); (with_reducible refine (HNQ.out _).mono ?_); rintro e w5 ⟨rq, rfl, hrq, hb5⟩; have HRQ := Lib.hid hrq; obtain ⟨sq', Aq', nq', cq', rfl⟩ := hrq.form; clear hrq; have hB5 : Below w4.heap.size w4 w5 := ⟨hb5.os, hb5.tape, hb5.output, hb5.size, hb5.block⟩; have hB5g : Below g w4 w5 := hB5.mono (by omega))
          | (go_at_call_of 48 (Value.int .i64 sy); (with_reducible refine (HNR.out _).mono ?_); rintro e w6 ⟨rr, rfl, hrr, hb6⟩; have HRR := Lib.hid hrr; obtain ⟨sr', Ar', nr', cr', rfl⟩ := hrr.form; clear hrr; have hB6 : Below w4.heap.size w4 w6 := hB5.trans (hb6.mono hB5.size); have hB6g : Below g w4 w6 := hB6.mono (by omega); have hbk := k3.below hB6 (by omega); have hbl := k4.below hB6 (by omega); have q0 : w6.cell? ⟨g, 0, none⟩ = some (.int .i64 0) := hbk.cell 0; have q1 : w6.cell? ⟨g, 1, none⟩ = some (.slice none 0 0) := hbk.cell 1; have f0 := hbk.frozen 0; have f1 := hbk.frozen 1; have q2 : w6.cell? ⟨g + 1, 0, none⟩ = some (.int .i64 0) := hbl.cell 0; have q3 : w6.cell? ⟨g + 1, 1, none⟩ = some (.slice none 0 0) := hbl.cell 1; have f2 := hbl.frozen 0; have f3 := hbl.frozen 1; have hB7 := (hB6g.setCell (p := ⟨g, 0, none⟩) (Nat.le_refl _) (.int .i64 sq')).setCell (p := ⟨g, 1, none⟩) (Nat.le_refl _) (.slice Aq' nq' cq'); have hB8 := (hB7.setCell (p := ⟨g + 1, 0, none⟩) (Nat.le_succ _) (.int .i64 sr')).setCell (p := ⟨g + 1, 1, none⟩) (Nat.le_succ _) (.slice Ar' nr' cr')))
      have hbs := hbk.set2 (.int .i64 sq') (.slice Aq' nq' cq')
      have hbs' := (hbs.far (p := ⟨g + 1, 0, none⟩) (by simp) (.int .i64 sr')).far (p := ⟨g + 1, 1, none⟩) (by simp) (.slice Ar' nr' cr')
      have hbt := ((hbl.far (p := ⟨g, 0, none⟩) (by simp) (.int .i64 sq')).far (p := ⟨g, 1, none⟩) (by simp) (.slice Aq' nq' cq')).set2 (.int .i64 sr') (.slice Ar' nr' cr')
      have hd0 := hbs'.cell 0
      have hd1 := hbs'.cell 1
      have hd2 := hbt.cell 0
      have hd3 := hbt.cell 1
      simp at hd0 hd1 hd2 hd3
      go_wp2_with fail
      refine bodyPost_ret (v := .tuple #[.agg #[.int .i64 sq', .slice Aq' nq' cq'], .agg #[.int .i64 sr', .slice Ar' nr' cr'], .int .i64 0]) (by simp [results, Try.results75, go_sem, hd0, hd1, hd2, hd3]) rfl ?_
      have ho1 := ((hoq.below hB6).far2 (g := g) (by omega) (.int .i64 sq') (.slice Aq' nq' cq')).far2 (g := g + 1) (by omega) (.int .i64 sr') (.slice Ar' nr' cr')
      have ho2 := ((hor.below hB6).far2 (g := g) (by omega) (.int .i64 sq') (.slice Aq' nq' cq')).far2 (g := g + 1) (by omega) (.int .i64 sr') (.slice Ar' nr' cr')
      have hsz3 := hb3.size
      exact ⟨_, _, _, _, rfl, HRQ.out.bo (by rw [HAQ.out]; exact ho1.mono hsz3), HRR.out.bo (by rw [HAR.out]; exact ho2.mono hsz3), HQR.out, (hb3.trans (hb4.mono hsz3)).trans (hB8.mono (by omega))⟩

    · obtain ⟨hqr, haq, har, hsq, hsr⟩ := HDD.out hss (by omega)
      have hlen : 0 < (D R).length := D_len_pos (by omega)
      have HQR := Lib.hid hqr; clear hqr
      have HAQ := Lib.hid haq
      have HAR := Lib.hid har
      have HSQ := Lib.hid hsq; clear hsq
      have HSR := Lib.hid hsr; clear hsr
      clear haq har
      go_enter Try.func75, Try.ntmps75
      go_wp2_with fail
      obtain ⟨w1, hw1, hb1, k1, k2, k3, k4, hsz⟩ := boxes4 w #[.int .i64 s1, .slice A1 n1 c1] #[.int .i64 sy, .slice A2 n2 c2] #[.int .i64 0, .slice none 0 0] #[.int .i64 0, .slice none 0 0]
      rw [← hw1]
      clear hw1
      (with_reducible refine (HR1.out w1 hb1).mono ?_)
      rintro e w2 ⟨rfl, hb2⟩
      have k1 := k1.below hb2 k1.lt
      have k2 := k2.below hb2 k2.lt
      have k3 := k3.below hb2 k3.lt
      have k4 := k4.below hb2 k4.lt
      have hs2' := hb2.size
      have hb2 := hb1.trans (hb2.mono hb1.size)
      have j1 : w2.cell? ⟨w.heap.size + 1, 0, none⟩ = some (.int .i64 sy) := k2.cell 0
      have j2 : w2.cell? ⟨w.heap.size + 1, 1, none⟩ = some (.slice A2 n2 c2) := k2.cell 1
      go_wp2_with fail
      (with_reducible refine (HR2.out w2 hb2).mono ?_)
      rintro e w3 ⟨rfl, hb3⟩
      clear j1 j2
      have k1 := k1.below hb3 k1.lt
      have k2 := k2.below hb3 k2.lt
      have k3 := k3.below hb3 k3.lt
      have k4 := k4.below hb3 k4.lt
      have hs3' := hb3.size
      have hb3 := hb2.trans (hb3.mono hb2.size)
      clear hb1 hb2 HR1 HR2
      obtain ⟨g, hg⟩ : ∃ g, w.heap.size + 1 + 1 = g := ⟨_, rfl⟩
      have hgw : w.heap.size + 1 < g ∧ g + 1 < w3.heap.size := by have := k4.lt; omega
      rw [hg] at k3 k4 ⊢
      clear hg hsz hs2' hs3'
      have j0 : w3.cell? ⟨w.heap.size, 0, none⟩ = some (.int .i64 s1) := k1.cell 0
      have j1 : w3.cell? ⟨w.heap.size, 1, none⟩ = some (.slice A1 n1 c1) := k1.cell 1
      have j2 : w3.cell? ⟨w.heap.size + 1, 0, none⟩ = some (.int .i64 sy) := k2.cell 0
      have j3 : w3.cell? ⟨w.heap.size + 1, 1, none⟩ = some (.slice A2 n2 c2) := k2.cell 1
      go_wp2_with fail
      (with_reducible refine (HDV.out w3 hb3).mono ?_)
      rintro e w4 ⟨vq, vr, rfl, hoq, hor, hb4⟩
      obtain ⟨Aq, cq, rfl, hcq, hmq, hIq⟩ := hoq.at_
      obtain ⟨Ar, cr, rfl, hcr, hmr, hIr⟩ := hor.at_
      have k1 := k1.below hb4 k1.lt
      have k2 := k2.below hb4 k2.lt
      have k3 := k3.below hb4 (by omega)
      have k4 := k4.below hb4 (by omega)
      clear j0 j1 j2 j3
      have j0 : w4.cell? ⟨w.heap.size, 0, none⟩ = some (.int .i64 s1) := k1.cell 0
      have j1 : w4.cell? ⟨w.heap.size, 1, none⟩ = some (.slice A1 n1 c1) := k1.cell 1
      have j2 : w4.cell? ⟨w.heap.size + 1, 0, none⟩ = some (.int .i64 sy) := k2.cell 0
      have j3 : w4.cell? ⟨w.heap.size + 1, 1, none⟩ = some (.slice A2 n2 c2) := k2.cell 1
      have hs34 := hb4.size

      go_wp2_with fail
      (with_reducible refine (HSC.out Aq cq w4 hIq).mono ?_)
      rintro e w5 ⟨v5, rfl, ho5, hb5⟩
      rw [Int.one_mul] at ho5
      obtain ⟨A5, c5, rfl, hc5, hm5, hI5⟩ := ho5.at_
      have k1 := k1.below hb5 k1.lt
      have k2 := k2.below hb5 k2.lt
      have k3 := k3.below hb5 (by omega)
      have k4 := k4.below hb5 (by omega)
      clear j0 j1 j2 j3
      have j3 : w5.cell? ⟨w.heap.size + 1, 1, none⟩ = some (.slice A2 n2 c2) := k2.cell 1
      have hs45 := hb5.size
      have hb05 : Below w.heap.size w w5 := hb3.trans ((hb4.trans (hb5.mono hs34)).mono hb3.size)
      go_wp2_with fail
      (with_reducible refine (HCB.out Ar cr w5 hb05 ((hIr.below hb5).more hs45)).mono ?_)
      rintro e w6' ⟨v6, rfl, ho6, hb6'⟩
      rw [show 1 * ab y + -1 * R = ab y - R by omega] at ho6
      obtain ⟨A6, c6, rfl, hc6, hm6, hI6⟩ := ho6.at_
      have k1 := k1.below hb6' k1.lt
      have k2 := k2.below hb6' k2.lt
      have k3 := k3.below hb6' (by omega)
      have k4 := k4.below hb6' (by omega)
      clear j3
      have j0 : w6'.cell? ⟨w.heap.size, 0, none⟩ = some (.int .i64 s1) := k1.cell 0
      have j1 : w6'.cell? ⟨w.heap.size, 1, none⟩ = some (.slice A1 n1 c1) := k1.cell 1
      have j2 : w6'.cell? ⟨w.heap.size + 1, 0, none⟩ = some (.int .i64 sy) := k2.cell 0
      have j3 : w6'.cell? ⟨w.heap.size + 1, 1, none⟩ = some (.slice A2 n2 c2) := k2.cell 1
      have hs56 := hb6'.size
      have hb46 : Below w3.heap.size w3 w6' := hb4.trans ((hb5.trans (hb6'.mono hs45)).mono hs34)
      have ho5' := (ho5.below hb6').mono (B' := w3.heap.size) hs34
      have ho6' := ho6.mono (B' := w3.heap.size) (by omega)

      have e0 : ∀ W' : World, Below g w6' W' → W'.cell? ⟨w.heap.size, 0, none⟩ = some (.int .i64 s1) ∧ W'.cell? ⟨w.heap.size, 1, none⟩ = some (.slice A1 n1 c1) ∧ W'.cell? ⟨w.heap.size + 1, 0, none⟩ = some (.int .i64 sy) ∧ W'.cell? ⟨w.heap.size + 1, 1, none⟩ = some (.slice A2 n2 c2) ∧ Below g w6' W' := fun W' hW =>
        ⟨(k1.below hW (by omega)).cell 0, (k1.below hW (by omega)).cell 1, (k2.below hW (by omega)).cell 0, (k2.below hW (by omega)).cell 1, hW⟩
      have E0 := Lib.hid e0; clear e0
      have hwm : IntKind.i64.wrap (s1 * sy) = s1 * sy := IntWalk.i64_in _ (by omega)
      have hB00 : Below g w6' w6'.drew := (Below.refl _ _).drew
      have hB01 : Below w6'.heap.size w6' w6'.drew := (Below.refl _ _).drew
      have hgW : g + 1 < w6'.heap.size := by omega
      obtain ⟨nq, hnq⟩ : ∃ n, (D (Q + 1)).length = n := ⟨_, rfl⟩
      obtain ⟨nr, hnr⟩ : ∃ n, (D (ab y - R)).length = n := ⟨_, rfl⟩
      have hnumq := fun w' => number_any (-(Q + 1)) (s1 * sy) A5 c5 w' (fun _ => HSQ.out)
      have hnumr := fun w' => number_any (sy * (ab y - R)) sy A6 c6 w' (fun _ => HSR.out)
      rw [HAQ.out, hnq] at hnumq
      rw [HAR.out, hnr] at hnumr
      rw [hnq, hnr]
      have HNQ := Lib.hid hnumq; clear hnumq
      have HNR := Lib.hid hnumr; clear hnumr
      have HQ1 := Lib.hid hnq; clear hnq
      have HR1' := Lib.hid hnr; clear hnr
      go_wp2_with fail
      clear j0 j1 j2 j3
      go_region_held3 (fun W' => W'.cell? ⟨w.heap.size, 0, none⟩ = some (.int .i64 s1) ∧ W'.cell? ⟨w.heap.size, 1, none⟩ = some (.slice A1 n1 c1) ∧ W'.cell? ⟨w.heap.size + 1, 0, none⟩ = some (.int .i64 sy) ∧ W'.cell? ⟨w.heap.size + 1, 1, none⟩ = some (.slice A2 n2 c2) ∧ Below g w6' W')
        (first | exact E0.out _ (by assumption) | exact E0.out _ ⟨rfl, rfl, rfl, Nat.le_refl _, fun _ _ => rfl⟩)
        (first
          | (go_at_call_of 48 (Value.int .i64 (s1 * sy)); (with_reducible refine (HNQ.out _).mono ?_); rintro e w5 ⟨rq, rfl, hrq, hb5⟩; have HRQ := Lib.hid hrq; obtain ⟨sq', Aq', nq', cq', rfl⟩ := hrq.form; clear hrq; have hB5 : Below w6'.heap.size w6' w5 := ⟨hb5.os, hb5.tape, hb5.output, hb5.size, hb5.block⟩; have hB5g : Below g w6' w5 := hB5.mono (by omega))
          | (go_at_call_of 48 (Value.int .i64 sy); (with_reducible refine (HNR.out _).mono ?_); rintro e w6 ⟨rr, rfl, hrr, hb6⟩; have HRR := Lib.hid hrr; obtain ⟨sr', Ar', nr', cr', rfl⟩ := hrr.form; clear hrr; have hB6 : Below w6'.heap.size w6' w6 := hB5.trans (hb6.mono hB5.size); have hB6g : Below g w6' w6 := hB6.mono (by omega); have hbk := k3.below hB6 (by omega); have hbl := k4.below hB6 (by omega); have q0 : w6.cell? ⟨g, 0, none⟩ = some (.int .i64 0) := hbk.cell 0; have q1 : w6.cell? ⟨g, 1, none⟩ = some (.slice none 0 0) := hbk.cell 1; have f0 := hbk.frozen 0; have f1 := hbk.frozen 1; have q2 : w6.cell? ⟨g + 1, 0, none⟩ = some (.int .i64 0) := hbl.cell 0; have q3 : w6.cell? ⟨g + 1, 1, none⟩ = some (.slice none 0 0) := hbl.cell 1; have f2 := hbl.frozen 0; have f3 := hbl.frozen 1; have hB7 := (hB6g.setCell (p := ⟨g, 0, none⟩) (Nat.le_refl _) (.int .i64 sq')).setCell (p := ⟨g, 1, none⟩) (Nat.le_refl _) (.slice Aq' nq' cq'); have hB8 := (hB7.setCell (p := ⟨g + 1, 0, none⟩) (Nat.le_succ _) (.int .i64 sr')).setCell (p := ⟨g + 1, 1, none⟩) (Nat.le_succ _) (.slice Ar' nr' cr')))
      have hbs := hbk.set2 (.int .i64 sq') (.slice Aq' nq' cq')
      have hbs' := (hbs.far (p := ⟨g + 1, 0, none⟩) (by simp) (.int .i64 sr')).far (p := ⟨g + 1, 1, none⟩) (by simp) (.slice Ar' nr' cr')
      have hbt := ((hbl.far (p := ⟨g, 0, none⟩) (by simp) (.int .i64 sq')).far (p := ⟨g, 1, none⟩) (by simp) (.slice Aq' nq' cq')).set2 (.int .i64 sr') (.slice Ar' nr' cr')
      have hd0 := hbs'.cell 0
      have hd1 := hbs'.cell 1
      have hd2 := hbt.cell 0
      have hd3 := hbt.cell 1
      simp at hd0 hd1 hd2 hd3
      go_wp2_with fail
      refine bodyPost_ret (v := .tuple #[.agg #[.int .i64 sq', .slice Aq' nq' cq'], .agg #[.int .i64 sr', .slice Ar' nr' cr'], .int .i64 0]) (by simp [results, Try.results75, go_sem, hd0, hd1, hd2, hd3]) rfl ?_
      have ho1 := ((ho5'.below hB6).far2 (g := g) (by omega) (.int .i64 sq') (.slice Aq' nq' cq')).far2 (g := g + 1) (by omega) (.int .i64 sr') (.slice Ar' nr' cr')
      have ho2 := ((ho6'.below hB6).far2 (g := g) (by omega) (.int .i64 sq') (.slice Aq' nq' cq')).far2 (g := g + 1) (by omega) (.int .i64 sr') (.slice Ar' nr' cr')
      have hsz3 := hb3.size
      exact ⟨_, _, _, _, rfl, HRQ.out.bo (by rw [HAQ.out]; exact ho1.mono hsz3), HRR.out.bo (by rw [HAR.out]; exact ho2.mono hsz3), HQR.out, (hb3.trans (hb46.mono hsz3)).trans (hB8.mono (by omega))⟩


end Go.Proofs.Ytlbjaimgoiimgaa

namespace Go.Proofs.Ytlbjaimgoiimgaa
open Go.RowKit

theorem box1v {w : World} {s : Int} {A : Option Addr} {n c : Nat} {z : Int} (h : BV w w.heap.size (.agg #[.int .i64 s, .slice A n c]) z) : ∃ W, W = w.alloc (.cells #[.int .i64 s, .slice A n c] 38) ∧ Below w.heap.size w W ∧ Bx W w.heap.size s A n c z := by
  have hb : Below w.heap.size w (w.alloc (.cells #[.int .i64 s, .slice A n c] 38)) := (Below.refl _ _).alloc (Nat.le_refl _) _
  exact ⟨_, rfl, hb, Blk.new _ _ _, h.later hb⟩

end Go.Proofs.Ytlbjaimgoiimgaa

namespace Go.Proofs.Ytlbjaimgoiimgaa
open Go.RowKit

set_option maxRecDepth 100000 in
set_option maxHeartbeats 1000000 in
theorem add_any (x y : Int) (vx vy : Value) (w : World) (hx : BV w w.heap.size vx x) (hy : BV w w.heap.size vy y) (hx6 : ab x < pw 60) (hy6 : ab y < pw 60) :
    Calls Try.prog 38 #[vx, vy] w (ResP (x + y) w) := by
  have hsum := fun (w' : World) (hb : Below w.heap.size w w') => sum_any x y y vx vy w' ((hx.below hb).more hb.size) ((hy.below hb).more hb.size) hx6 hy6 rfl
  obtain ⟨A1, c1, rfl, -, -, -⟩ := hx
  obtain ⟨A2, c2, rfl, -, -, -⟩ := hy
  obtain ⟨n1, hn1⟩ : ∃ n, (D (ab x)).length = n := ⟨_, rfl⟩
  obtain ⟨n2, hn2⟩ : ∃ n, (D (ab y)).length = n := ⟨_, rfl⟩
  have hs2 := sgn_bd y
  rw [hn1, hn2] at hsum
  rw [hn1, hn2]
  obtain ⟨s1, hs1e⟩ : ∃ s, sgn x = s := ⟨_, rfl⟩
  obtain ⟨s2, hs2e⟩ : ∃ s, sgn y = s := ⟨_, rfl⟩
  rw [hs1e, hs2e] at hsum
  rw [hs2e] at hs2
  rw [hs1e, hs2e]
  have HS := Lib.hid hsum; clear hsum hn1 hn2 hs1e hs2e
  go_enter Try.func38, Try.ntmps38
  go_wp2_with fail
  obtain ⟨w1, hw1, hb1, k1, k2, k3, hsz⟩ := boxes3 w #[.int .i64 s1, .slice A1 n1 c1] #[.int .i64 s2, .slice A2 n2 c2] #[.int .i64 0, .slice none 0 0]
  rw [← hw1]
  clear hw1
  (with_reducible refine (HS.out w1 hb1).mono ?_)
  rintro e w2 ⟨r, rfl, hr, hb2⟩
  have HR := Lib.hid hr
  obtain ⟨s', A', n', c', rfl⟩ := hr.form
  clear hr
  obtain ⟨g, hg⟩ : ∃ g, w.heap.size + 1 + 1 = g := ⟨_, rfl⟩
  rw [hg] at k3 ⊢
  have hgw : w.heap.size ≤ g ∧ g < w1.heap.size := by have := k3.lt; omega
  clear hg
  have hbk := k3.below hb2 hgw.2
  have q0 : w2.cell? ⟨g, 0, none⟩ = some (.int .i64 0) := hbk.cell 0
  have q1 : w2.cell? ⟨g, 1, none⟩ = some (.slice none 0 0) := hbk.cell 1
  have f0 := hbk.frozen 0
  have f1 := hbk.frozen 1
  have hb02 := hb1.trans (hb2.mono hb1.size)
  have hB6 := (hb02.setCell (p := ⟨g, 0, none⟩) hgw.1 (.int .i64 s')).setCell (p := ⟨g, 1, none⟩) hgw.1 (.slice A' n' c')
  have hbs := hbk.set2 (.int .i64 s') (.slice A' n' c')
  have hd0 := hbs.cell 0
  have hd1 := hbs.cell 1
  simp at hd0 hd1
  go_wp2_with fail
  refine bodyPost_ret (v := .tuple #[.agg #[.int .i64 s', .slice A' n' c'], .int .i64 (fite (x + y))]) (by simp [results, Try.results38, go_sem, hd0, hd1]) rfl ?_
  exact ⟨_, rfl, (HR.out.far2 (g := g) hgw.2 (.int .i64 s') (.slice A' n' c')).mono hb1.size, hB6⟩

set_option maxRecDepth 100000 in
set_option maxHeartbeats 1000000 in
theorem sub_any (x y : Int) (vx vy : Value) (w : World) (hx : BV w w.heap.size vx x) (hy : BV w w.heap.size vy y) (hx6 : ab x < pw 60) (hy6 : ab y < pw 60) :
    Calls Try.prog 44 #[vx, vy] w (ResP (x - y) w) := by
  have hsum := fun (w' : World) (hb : Below w.heap.size w w') => sum_any x y (-y) vx vy w' ((hx.below hb).more hb.size) ((hy.below hb).more hb.size) hx6 hy6 (ab_neg y).symm
  rw [sgn_neg, ← Int.sub_eq_add_neg] at hsum
  obtain ⟨A1, c1, rfl, -, -, -⟩ := hx
  obtain ⟨A2, c2, rfl, -, -, -⟩ := hy
  obtain ⟨n1, hn1⟩ : ∃ n, (D (ab x)).length = n := ⟨_, rfl⟩
  obtain ⟨n2, hn2⟩ : ∃ n, (D (ab y)).length = n := ⟨_, rfl⟩
  have hs2 := sgn_bd y
  rw [hn1, hn2] at hsum
  rw [hn1, hn2]
  obtain ⟨s1, hs1e⟩ : ∃ s, sgn x = s := ⟨_, rfl⟩
  obtain ⟨s2, hs2e⟩ : ∃ s, sgn y = s := ⟨_, rfl⟩
  rw [hs1e, hs2e] at hsum
  rw [hs2e] at hs2
  rw [hs1e, hs2e]
  have HS := Lib.hid hsum; clear hsum hn1 hn2 hs1e hs2e
  go_enter Try.func44, Try.ntmps44
  go_wp2_with fail
  obtain ⟨w1, hw1, hb1, k1, k2, k3, hsz⟩ := boxes3 w #[.int .i64 s1, .slice A1 n1 c1] #[.int .i64 s2, .slice A2 n2 c2] #[.int .i64 0, .slice none 0 0]
  rw [← hw1]
  clear hw1
  (with_reducible refine (HS.out w1 hb1).mono ?_)
  rintro e w2 ⟨r, rfl, hr, hb2⟩
  have HR := Lib.hid hr
  obtain ⟨s', A', n', c', rfl⟩ := hr.form
  clear hr
  obtain ⟨g, hg⟩ : ∃ g, w.heap.size + 1 + 1 = g := ⟨_, rfl⟩
  rw [hg] at k3 ⊢
  have hgw : w.heap.size ≤ g ∧ g < w1.heap.size := by have := k3.lt; omega
  clear hg
  have hbk := k3.below hb2 hgw.2
  have q0 : w2.cell? ⟨g, 0, none⟩ = some (.int .i64 0) := hbk.cell 0
  have q1 : w2.cell? ⟨g, 1, none⟩ = some (.slice none 0 0) := hbk.cell 1
  have f0 := hbk.frozen 0
  have f1 := hbk.frozen 1
  have hb02 := hb1.trans (hb2.mono hb1.size)
  have hB6 := (hb02.setCell (p := ⟨g, 0, none⟩) hgw.1 (.int .i64 s')).setCell (p := ⟨g, 1, none⟩) hgw.1 (.slice A' n' c')
  have hbs := hbk.set2 (.int .i64 s') (.slice A' n' c')
  have hd0 := hbs.cell 0
  have hd1 := hbs.cell 1
  simp at hd0 hd1
  go_wp2_with fail
  refine bodyPost_ret (v := .tuple #[.agg #[.int .i64 s', .slice A' n' c'], .int .i64 (fite (x - y))]) (by simp [results, Try.results44, go_sem, hd0, hd1]) rfl ?_
  exact ⟨_, rfl, (HR.out.far2 (g := g) hgw.2 (.int .i64 s') (.slice A' n' c')).mono hb1.size, hB6⟩

end Go.Proofs.Ytlbjaimgoiimgaa

namespace Go.Proofs.Ytlbjaimgoiimgaa
open Go.RowKit

theorem right_yes (z : Int) (v : Value) (w : World) (h : BV w w.heap.size v z) (hz : ab z < pw 60) :
    Calls Try.prog 47 #[v] w fun e w' => e = .returned (.bool true) ∧ Below w.heap.size w w' := by
  obtain ⟨A, c, rfl, hlc, hcm, hI⟩ := h
  have := len60 hz
  exact right_any (sgn z) (D (ab z)) A c w hI (by omega) true (by simp [rightP_of hz])

theorem itoa_inj {a b : Int} (h : Lib.itoa a = Lib.itoa b) : a = b := by
  have h1 := cut_itoa a
  have h2 := cut_itoa b
  rw [h] at h1
  have h3 : decide (a < 0) = decide (b < 0) := h1.1.symm.trans h2.1
  have h4 : Lib.decDigits (ab a).toNat = Lib.decDigits (ab b).toNat := h1.2.symm.trans h2.2
  have h5 := congrArg dv h4
  rw [dv_dd, dv_dd] at h5
  have h6 : a < 0 ↔ b < 0 := by simpa using h3
  unfold ab at h5
  omega
theorem byt_inj {a b : List UInt8} (h : byt a = byt b) : a = b := by rw [← bts_byt a, ← bts_byt b, h]

theorem toList_ne {S1 S2 : ByteArray} (h : S1 ≠ S2) : (S1.toList == S2.toList) = false := by
  rw [beq_eq_false_iff_ne]
  intro e
  rw [ByteArray.toList_eq, ByteArray.toList_eq] at e
  exact h (ByteArray.ext (Array.toList_inj.1 e))
theorem isI.lo {z : Int} (h : isI z) : -9223372036854775808 ≤ z := h.1
theorem isI.hi {z : Int} (h : isI z) : z ≤ 9223372036854775807 := h.2
theorem isI.lt {z : Int} (h : isI z) : ab z < pw 60 := lt60 (by unfold isI at h; unfold ab; omega)
theorem isI.add {a b : Int} (ha : isI a) (hb : isI b) : ab (a + b) < pw 60 := lt60 (by unfold isI at *; unfold ab; omega)
theorem isI.sub {a b : Int} (ha : isI a) (hb : isI b) : ab (a - b) < pw 60 := lt60 (by unfold isI at *; unfold ab; omega)
theorem pw7 : pw 7 = 1393796574908163946345982392040522594123776 := by decide
theorem isI.mul {a b : Int} (ha : isI a) (hb : isI b) : ab (a * b) < pw 60 := by
  have h7 := pw_le (show 7 ≤ 60 by omega)
  rw [pw7] at h7
  rw [ab_mul]
  have h1 : ab a ≤ 9223372036854775808 := by unfold isI at ha; unfold ab; omega
  have h2 : ab b ≤ 9223372036854775808 := by unfold isI at hb; unfold ab; omega
  have h3 : ab a * ab b ≤ 9223372036854775808 * 9223372036854775808 := Int.mul_le_mul h1 h2 (ab_nonneg _) (by omega)
  omega
theorem isI.neg {a : Int} (ha : isI a) : ab (-a) < pw 60 := by rw [ab_neg]; exact ha.lt
theorem half_mul {a b : Int} (ha : -1073741824 < a ∧ a < 1073741824) (hb : -1073741824 < b ∧ b < 1073741824) : -1152921504606846976 ≤ a * b ∧ a * b ≤ 1152921504606846976 := by
  have h1 : ab a ≤ 1073741824 := by unfold ab; omega
  have h2 : ab b ≤ 1073741824 := by unfold ab; omega
  have h3 : ab a * ab b ≤ 1073741824 * 1073741824 := Int.mul_le_mul h1 h2 (ab_nonneg _) (by omega)
  rw [← ab_mul] at h3
  unfold ab at h3
  omega
theorem addP {a b : Int} (ha : isI a) (hb : isI b) : fite (a + b) = 0 ∧ fitz (a + b) = a + b := ⟨if_pos (ha.add hb), if_pos (ha.add hb)⟩
theorem subP {a b : Int} (ha : isI a) (hb : isI b) : fite (a - b) = 0 ∧ fitz (a - b) = a - b := ⟨if_pos (ha.sub hb), if_pos (ha.sub hb)⟩
theorem mulP {a b : Int} (ha : isI a) (hb : isI b) : fite (a * b) = 0 ∧ fitz (a * b) = a * b := ⟨if_pos (ha.mul hb), if_pos (ha.mul hb)⟩

end Go.Proofs.Ytlbjaimgoiimgaa
