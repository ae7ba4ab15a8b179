/- Plain: decimal digits: what is read of them, and how they are cut into pieces. No program. Walks: Mul. Walks: isNumber, parse, Read. Walks: Read. Walks: the library's calls that text makes, at a slice of strings of the call's own. What the laws' condition on laid variables gives: the table of Itoa; and a world that meets it. -/
import Derived.Test.YtlbjaimgoiimgaaXac
import Derived.Lib.ItoaNum
import Derived.Lib.Atoi
import Derived.Lib.SmallJoins
import Derived.Test.YtlbjaimgoiimgaaXab
import Derived.Lib.AppendIntMem
import Derived.Sort.OwnSorted
import Derived.Deep.LoopGhost
import Derived.ProofKit
import Derived.LaidMore
import Derived.OpenShut
import Derived.Stop.Joined

namespace Go.Proofs.Ytlbjaimgoiimgaa
open Go.RowKit

theorem dd_lt {n : Nat} (h : n < 10) : Lib.decDigits n = [UInt8.ofNat (48 + n)] := Lib.decDigits_one h
theorem dd_ge {n : Nat} (h : ¬ n < 10) : Lib.decDigits n = Lib.decDigits (n / 10) ++ [UInt8.ofNat (48 + n % 10)] := by
  rw [Lib.decDigits, dif_neg h]

def isD (b : UInt8) : Prop := 48 ≤ b.toNat ∧ b.toNat ≤ 57
def allD (l : List UInt8) : Prop := ∀ b ∈ l, isD b
/-- What decimal digits spell. -/
def dv (l : List UInt8) : Nat := l.foldl (fun a b => a * 10 + (b.toNat - 48)) 0
theorem dv_foldl (l : List UInt8) (a : Nat) : l.foldl (fun a b => a * 10 + (b.toNat - 48)) a = a * 10 ^ l.length + dv l := by
  induction l generalizing a with
  | nil => simp [dv]
  | cons b l ih =>
    unfold dv
    simp only [List.foldl_cons, List.length_cons]
    rw [ih, ih (0 * 10 + (b.toNat - 48)), Nat.pow_succ, Nat.zero_mul, Nat.zero_add, Nat.add_mul, Nat.mul_assoc, Nat.mul_comm 10, Nat.add_assoc]
theorem dv_append (a b : List UInt8) : dv (a ++ b) = dv a * 10 ^ b.length + dv b := by
  unfold dv
  rw [List.foldl_append, dv_foldl]
  rfl
theorem dv_one (c : UInt8) : dv [c] = c.toNat - 48 := by show 0 * 10 + (c.toNat - 48) = _; omega
theorem dv_snoc (a : List UInt8) (c : UInt8) : dv (a ++ [c]) = dv a * 10 + (c.toNat - 48) := by
  rw [dv_append, dv_one, List.length_singleton, Nat.pow_one]
theorem dv_cons (b : UInt8) (l : List UInt8) : dv (b :: l) = (b.toNat - 48) * 10 ^ l.length + dv l := by
  have := dv_append [b] l
  rw [dv_one] at this
  exact this
theorem dv_lt {l : List UInt8} (h : allD l) : dv l < 10 ^ l.length := by
  induction l with
  | nil => decide
  | cons b l ih =>
    have h1 := ih (fun c hc => h c (List.mem_cons_of_mem _ hc))
    have h2 := h b (List.mem_cons_self ..)
    unfold isD at h2
    rw [dv_cons, List.length_cons, Nat.pow_succ]
    have h3 : (b.toNat - 48) * 10 ^ l.length ≤ 9 * 10 ^ l.length := Nat.mul_le_mul_right _ (by omega)
    omega

theorem ofNat_toNat {n : Nat} (h : n < 10) : (UInt8.ofNat (48 + n)).toNat = 48 + n := by
  rw [UInt8.toNat_ofNat']; omega
theorem isD_ofNat {n : Nat} (h : n < 10) : isD (UInt8.ofNat (48 + n)) := by unfold isD; rw [ofNat_toNat h]; omega

theorem dd_all (n : Nat) : allD (Lib.decDigits n) := by
  induction n using Nat.strongRecOn with
  | _ n ih =>
    by_cases h : n < 10
    · rw [dd_lt h]; intro b hb; rw [List.mem_singleton] at hb; subst hb; exact isD_ofNat h
    · rw [dd_ge h]; intro b hb
      rcases List.mem_append.1 hb with h1 | h1
      · exact ih _ (by omega) b h1
      · rw [List.mem_singleton] at h1; subst h1; exact isD_ofNat (by omega)
theorem dd_ne (n : Nat) : Lib.decDigits n ≠ [] := by
  by_cases h : n < 10
  · rw [dd_lt h]; simp
  · rw [dd_ge h]; simp
theorem dv_dd (n : Nat) : dv (Lib.decDigits n) = n := by
  induction n using Nat.strongRecOn with
  | _ n ih =>
    by_cases h : n < 10
    · rw [dd_lt h]; show 0 * 10 + ((UInt8.ofNat (48 + n)).toNat - 48) = n; rw [ofNat_toNat h]; omega
    · rw [dd_ge h, dv_snoc, ih _ (by omega), ofNat_toNat (by omega)]; omega
/-- No zero leads, but that of 0 itself. -/
theorem dd_head (n : Nat) : Lib.decDigits n = [48] ∨ (Lib.decDigits n).head? ≠ some 48 := by
  induction n using Nat.strongRecOn with
  | _ n ih =>
    by_cases h : n < 10
    · rw [dd_lt h]
      by_cases h0 : n = 0
      · subst h0; exact .inl rfl
      · refine .inr (fun e => ?_)
        have e := Option.some.inj e
        have h1 := ofNat_toNat h
        rw [e] at h1
        have h2 : (48 : UInt8).toNat = 48 := rfl
        omega
    · rw [dd_ge h]
      right
      obtain ⟨c, r, hr⟩ : ∃ c r, Lib.decDigits (n / 10) = c :: r := by
        cases hd : Lib.decDigits (n / 10) with
        | nil => exact absurd hd (dd_ne _)
        | cons c r => exact ⟨c, r, rfl⟩
      rcases ih (n / 10) (by omega) with h1 | h1
      · have h2 := dv_dd (n / 10)
        rw [h1] at h2
        have h3 : dv [48] = 0 := rfl
        omega
      · rw [hr] at h1 ⊢
        simpa using h1

theorem u8_eq {b : UInt8} (h : isD b) : b = UInt8.ofNat (48 + (b.toNat - 48)) := by
  apply UInt8.toNat_inj.1
  unfold isD at h
  rw [ofNat_toNat (by omega)]; omega

theorem dd_of {l : List UInt8} (h : allD l) (hne : l ≠ []) (hh : l = [48] ∨ l.head? ≠ some 48) : Lib.decDigits (dv l) = l := by
  have key : ∀ n (l : List UInt8), l.length = n → allD l → l ≠ [] → (l = [48] ∨ l.head? ≠ some 48) → Lib.decDigits (dv l) = l := by
    intro n
    induction n with
    | zero => intro l hl _ hne; exact absurd (List.eq_nil_of_length_eq_zero hl) hne
    | succ n ih =>
      intro l hl h hne hh
      obtain ⟨a, c, rfl⟩ : ∃ a c, l = a ++ [c] := by
        refine ⟨l.dropLast, l.getLast hne, (List.dropLast_concat_getLast hne).symm⟩
      have hc := h c (by simp)
      have hc2 := u8_eq hc
      unfold isD at hc
      have ha : allD a := fun b hb => h b (by simp [hb])
      rcases List.eq_nil_or_concat a with rfl | ⟨a', d, rfl⟩
      · rw [List.nil_append]
        have : dv [c] = c.toNat - 48 := by show 0 * 10 + (c.toNat - 48) = _; omega
        rw [this, dd_lt (by omega), ← hc2]
      · rw [List.concat_eq_append] at *
        have hane : a' ++ [d] ≠ [] := by simp
        have hih := ih (a' ++ [d]) (by simp at hl ⊢; omega) ha hane (by
          rcases hh with hh | hh
          · have := congrArg List.length hh; simp at this
          · right
            intro e
            apply hh
            rw [List.head?_append, e]; rfl)
        have hpos : 0 < dv (a' ++ [d]) := by
          rcases Nat.eq_zero_or_pos (dv (a' ++ [d])) with h0 | h0
          · rw [h0, dd_lt (by omega)] at hih
            exfalso
            rcases hh with hh | hh
            · have := congrArg List.length hh; simp at this
            · apply hh
              rw [← hih]; rfl
          · exact h0
        rw [dv_snoc, dd_ge (by omega)]
        have e1 : (dv (a' ++ [d]) * 10 + (c.toNat - 48)) / 10 = dv (a' ++ [d]) := by omega
        have e2 : (dv (a' ++ [d]) * 10 + (c.toNat - 48)) % 10 = c.toNat - 48 := by omega
        rw [e1, e2, hih, ← hc2]
  exact key _ l rfl h hne hh

/-- A number below 10^k with zeros ahead of it. -/
def pad (k m : Nat) : List UInt8 := List.replicate (k - (Lib.decDigits m).length) 48 ++ Lib.decDigits m

theorem dd_len_le {m k : Nat} (hk : 1 ≤ k) (h : m < 10 ^ k) : (Lib.decDigits m).length ≤ k := by
  induction k generalizing m with
  | zero => omega
  | succ k ih =>
    by_cases h9 : m < 10
    · rw [dd_lt h9]; simp
    · rw [dd_ge h9, List.length_append, List.length_singleton]
      rcases Nat.eq_zero_or_pos k with h0 | h0
      · subst h0; omega
      · have := ih h0 (m := m / 10) (by rw [Nat.pow_succ] at h; omega)
        omega
theorem dd_pad (k q m : Nat) (hq : 0 < q) (hk : 1 ≤ k) (hm : m < 10 ^ k) : Lib.decDigits (q * 10 ^ k + m) = Lib.decDigits q ++ pad k m := by
  induction k generalizing m with
  | zero => omega
  | succ k ih =>
    rw [Nat.pow_succ] at hm ⊢
    rw [dd_ge (by have : 0 < 10 ^ k := Nat.pow_pos (by omega); have : 1 * 1 ≤ q * 10 ^ k := Nat.mul_le_mul hq this; rw [← Nat.mul_assoc]; omega)]
    have e1 : (q * (10 ^ k * 10) + m) / 10 = q * 10 ^ k + m / 10 := by rw [← Nat.mul_assoc]; omega
    have e2 : (q * (10 ^ k * 10) + m) % 10 = m % 10 := by rw [← Nat.mul_assoc]; omega
    rw [e1, e2]
    rcases Nat.eq_zero_or_pos k with h0 | h0
    · subst h0
      have : m / 10 = 0 := by omega
      rw [this]
      have hm10 : m < 10 := by omega
      unfold pad
      rw [dd_lt hm10, Nat.mod_eq_of_lt hm10]
      simp
    · rw [ih (m / 10) h0 (by omega), List.append_assoc]
      congr 1
      unfold pad
      by_cases h9 : m < 10
      · have : m / 10 = 0 := by omega
        rw [this, dd_lt (n := 0) (by omega), dd_lt h9, Nat.mod_eq_of_lt h9]
        have e : k + 1 - 1 = (k - 1) + 1 := by omega
        simp only [List.length_singleton]
        rw [e, List.replicate_succ', List.append_assoc, List.append_assoc]
        rfl
      · rw [dd_ge h9, List.length_append, List.length_singleton, List.append_assoc]
        congr 2
        omega

end Go.Proofs.Ytlbjaimgoiimgaa

namespace Go.Proofs.Ytlbjaimgoiimgaa
open Go.RowKit

def ResP (z : Int) (w : World) (e : Ending) (w' : World) : Prop := ∃ r, e = .returned (.tuple #[r, .int .i64 (fite z)]) ∧ BO w' w.heap.size r (fitz z) ∧ Below w.heap.size w w'

theorem rightP_of {z : Int} (h : ab z < pw 60) : RightP (sgn z) (D (ab z)) := ⟨z, rfl, rfl, h⟩
theorem len60 {z : Int} (h : ab z < pw 60) : (D (ab z)).length ≤ 60 := (D_len_le (ab_nonneg z)).2 h
theorem ab_mul (x y : Int) : ab (x * y) = ab x * ab y := by unfold ab; rw [Int.natAbs_mul]; rfl
theorem sgn_mul (x y : Int) : sgn (x * y) = sgn x * sgn y := by
  unfold sgn
  rcases Int.lt_trichotomy x 0 with hx | hx | hx <;> rcases Int.lt_trichotomy y 0 with hy | hy | hy
  · rw [if_neg (by have := Int.mul_pos_of_neg_of_neg hx hy; omega), if_neg (by have := Int.mul_pos_of_neg_of_neg hx hy; omega), if_pos hx, if_pos hy]; rfl
  · subst hy; simp
  · rw [if_pos (Int.mul_neg_of_neg_of_pos hx hy), if_pos hx, if_neg (by omega), if_neg (by omega)]; rfl
  · subst hx; simp
  · subst hx; simp
  · subst hx; simp
  · rw [if_pos (Int.mul_neg_of_pos_of_neg hx hy), if_neg (by omega), if_neg (by omega), if_pos hy]; rfl
  · subst hy; simp
  · have := Int.mul_pos hx hy
    rw [if_neg (by omega), if_neg (by omega), if_neg (by omega), if_neg (by omega), if_neg (by omega), if_neg (by omega)]; rfl

theorem boxes2 (w : World) (a b : Array Value) : ∃ W, W = (w.alloc (.cells a 38)).alloc (.cells b 38) ∧ Below w.heap.size w W ∧ Blk W w.heap.size 38 a ∧ Blk W (w.heap.size + 1) 38 b ∧ W.heap.size = w.heap.size + 2 := by
  refine ⟨_, rfl, ((Below.refl _ _).alloc (Nat.le_refl _) _).alloc (by simp) _, (Blk.new _ _ _).alloc _, ?_, by simp⟩
  have := Blk.new (w.alloc (.cells a 38)) 38 b
  rw [World.size_alloc] at this
  exact this
theorem boxes3 (w : World) (a b c : Array Value) : ∃ W, W = ((w.alloc (.cells a 38)).alloc (.cells b 38)).alloc (.cells c 38) ∧ Below w.heap.size w W ∧ Blk W w.heap.size 38 a ∧ Blk W (w.heap.size + 1) 38 b ∧ Blk W (w.heap.size + 1 + 1) 38 c ∧ W.heap.size = w.heap.size + 3 := by
  obtain ⟨W, hW, h1, h2, h3, h4⟩ := boxes2 w a b
  rw [← hW]
  have h5 := Blk.new W 38 c
  rw [h4] at h5
  exact ⟨_, rfl, h1.alloc h1.size _, h2.alloc _, h3.alloc _, h5, by simp [h4]⟩
theorem boxes4 (w : World) (a b c d : Array Value) : ∃ W, W = (((w.alloc (.cells a 38)).alloc (.cells b 38)).alloc (.cells c 38)).alloc (.cells d 38) ∧ Below w.heap.size w W ∧ Blk W w.heap.size 38 a ∧ Blk W (w.heap.size + 1) 38 b ∧ Blk W (w.heap.size + 1 + 1) 38 c ∧ Blk W (w.heap.size + 1 + 1 + 1) 38 d ∧ W.heap.size = w.heap.size + 4 := by
  obtain ⟨W, hW, h1, h2, h3, h4, h5⟩ := boxes3 w a b c
  rw [← hW]
  have h6 := Blk.new W 38 d
  rw [h5] at h6
  exact ⟨_, rfl, h1.alloc h1.size _, h2.alloc _, h3.alloc _, h4.alloc _, h6, by simp [h5]⟩

set_option maxRecDepth 100000 in
set_option maxHeartbeats 2000000 in
theorem mul_any (x y : Int) (vx vy : Value) (w : World) (hx : BV w w.heap.size vx x) (hy : BV w w.heap.size vy y) (hx6 : ab x < pw 60) (hy6 : ab y < pw 60) :
    Calls Try.prog 53 #[vx, vy] w (ResP (x * y) w) := by
  obtain ⟨A1, c1, rfl, hc1, hm1, hI1⟩ := hx
  obtain ⟨A2, c2, rfl, hc2, hm2, hI2⟩ := hy
  have hl1 := len60 hx6
  have hl2 := len60 hy6
  have hr1 := fun (w' : World) (hb : Below w.heap.size w w') => right_any (sgn x) (D (ab x)) A1 c1 w' ((hI1.below hb).more hb.size) (by omega) true (by simp [rightP_of hx6])
  have hr2 := fun (w' : World) (hb : Below w.heap.size w w') => right_any (sgn y) (D (ab y)) A2 c2 w' ((hI2.below hb).more hb.size) (by omega) true (by simp [rightP_of hy6])
  have htm := fun (w' : World) (hb : Below w.heap.size w w') => times_any (D (ab x)) (D (ab y)) A1 A2 c1 c2 w' ((hI1.below hb).more hb.size) ((hI2.below hb).more hb.size) (Dig_D _) (Dig_D _) (by omega) (by omega)
  rw [nv_D (ab_nonneg _), nv_D (ab_nonneg _), ← ab_mul] at htm
  have hft := fun A c w' => fitting_any (x * y) (sgn x * sgn y) A c w' (fun _ => (sgn_mul x y).symm)
  obtain ⟨n1, hn1⟩ : ∃ n, (D (ab x)).length = n := ⟨_, rfl⟩
  obtain ⟨n2, hn2⟩ : ∃ n, (D (ab y)).length = n := ⟨_, rfl⟩
  rw [hn1] at hr1 htm hl1 ⊢
  rw [hn2] at hr2 htm hl2 ⊢
  have hs1 := sgn_bd x
  have hs2 := sgn_bd y
  obtain ⟨s1, hs1e⟩ : ∃ s, sgn x = s := ⟨_, rfl⟩
  obtain ⟨s2, hs2e⟩ : ∃ s, sgn y = s := ⟨_, rfl⟩
  rw [hs1e] at hr1 hft hs1 ⊢
  rw [hs2e] at hr2 hft hs2 ⊢
  have HR1 := Lib.hid hr1; clear hr1
  have HR2 := Lib.hid hr2; clear hr2
  have HTM := Lib.hid htm; clear htm
  have HFT := Lib.hid hft; clear hft
  clear hn1 hn2 hs1e hs2e hI1 hI2 hx6 hy6 hc1 hc2
  have hms : -1 ≤ s1 * s2 ∧ s1 * s2 ≤ 1 := by
    have a : s1 = -1 ∨ s1 = 0 ∨ s1 = 1 := by omega
    rcases a with rfl | rfl | rfl <;> omega
  go_enter Try.func53, Try.ntmps53
  go_wp2_with fail
  obtain ⟨w1, hw1, hb1, k1, k2, k3, hsz⟩ := boxes3 w #[.int .i64 s1, .slice A1 n1 c1] #[.int .i64 s2, .slice A2 n2 c2] #[.int .i64 0, .slice none 0 0]
  rw [← hw1]
  clear hw1
  refine (HR1.out w1 hb1).mono ?_
  rintro e w2 ⟨rfl, hb2⟩
  have k1 := k1.below hb2 k1.lt
  have k2 := k2.below hb2 k2.lt
  have k3 := k3.below hb2 k3.lt
  have hs2' := hb2.size
  have hb2 := hb1.trans (hb2.mono hb1.size)
  have j1 : w2.cell? ⟨w.heap.size + 1, 0, none⟩ = some (.int .i64 s2) := k2.cell 0
  have j2 : w2.cell? ⟨w.heap.size + 1, 1, none⟩ = some (.slice A2 n2 c2) := k2.cell 1
  go_wp2_with fail
  refine (HR2.out w2 hb2).mono ?_
  rintro e w3 ⟨rfl, hb3⟩
  clear j1 j2
  have k1 := k1.below hb3 k1.lt
  have k2 := k2.below hb3 k2.lt
  have k3 := k3.below hb3 k3.lt
  have hs3' := hb3.size
  have hb3 := hb2.trans (hb3.mono hb2.size)
  clear hb1 hb2 HR1 HR2
  obtain ⟨g, hg⟩ : ∃ g, w.heap.size + 1 + 1 = g := ⟨_, rfl⟩
  have hgw : w.heap.size + 1 < g ∧ g < w3.heap.size := by have := k3.lt; omega
  rw [hg] at k3 ⊢
  clear hg
  have e0 : ∀ W' : World, Below g w3 W' → W'.cell? ⟨w.heap.size, 0, none⟩ = some (.int .i64 s1) ∧ W'.cell? ⟨w.heap.size, 1, none⟩ = some (.slice A1 n1 c1) ∧ W'.cell? ⟨w.heap.size + 1, 0, none⟩ = some (.int .i64 s2) ∧ W'.cell? ⟨w.heap.size + 1, 1, none⟩ = some (.slice A2 n2 c2) ∧ Below g w3 W' := fun W' hW =>
    ⟨(k1.below hW (by omega)).cell 0, (k1.below hW (by omega)).cell 1, (k2.below hW (by omega)).cell 0, (k2.below hW (by omega)).cell 1, hW⟩
  have E0 := Lib.hid e0; clear e0
  have hwm : IntKind.i64.wrap (s1 * s2) = s1 * s2 := IntWalk.i64_in _ (by omega)
  have hB00 : Below g w3 w3.drew := (Below.refl _ _).drew
  have hB01 : Below w3.heap.size w3 w3.drew := (Below.refl _ _).drew
  go_wp2_with fail
  go_region_held3 (fun W' => W'.cell? ⟨w.heap.size, 0, none⟩ = some (.int .i64 s1) ∧ W'.cell? ⟨w.heap.size, 1, none⟩ = some (.slice A1 n1 c1) ∧ W'.cell? ⟨w.heap.size + 1, 0, none⟩ = some (.int .i64 s2) ∧ W'.cell? ⟨w.heap.size + 1, 1, none⟩ = some (.slice A2 n2 c2) ∧ Below g w3 W')
    (first | exact E0.out _ (by assumption))
    (first
      | (go_at_call 73; refine (HTM.out _ (hb3.trans (Below.mono (B := w3.heap.size) (by assumption) hb3.size))).mono ?_; rintro e w4 ⟨v4, rfl, hown4, hb4⟩; have hB4 : Below w3.heap.size w3 w4 := hB01.trans (hb4.mono (by simp)); have hB4g : Below g w3 w4 := hB4.mono (by omega); obtain ⟨A4, c4, rfl, hc4, hm4, hI4⟩ := hown4.at_)
      | (go_at_call 72; refine (HFT.out _ _ _).mono ?_; rintro e w5 ⟨r, rfl, hr, hb5⟩; have HR := Lib.hid hr; obtain ⟨s', A', n', c', rfl⟩ := hr.form; clear hr; have hB5 : Below w3.heap.size w3 w5 := hB4.trans (hb5.mono hB4.size); have hB5g : Below g w3 w5 := hB5.mono (by omega); have hbk := k3.below hB5 (by omega); have q0 : w5.cell? ⟨g, 0, none⟩ = some (.int .i64 0) := hbk.cell 0; have q1 : w5.cell? ⟨g, 1, none⟩ = some (.slice none 0 0) := hbk.cell 1; have f0 := hbk.frozen 0; have f1 := hbk.frozen 1; have hB6 := (hB5g.setCell (p := ⟨g, 0, none⟩) (Nat.le_refl _) (.int .i64 s')).setCell (p := ⟨g, 1, none⟩) (Nat.le_refl _) (.slice A' n' c')))
  go_goals
  have hbs := hbk.set2 (.int .i64 s') (.slice A' n' c')
  have hd0 := hbs.cell 0
  have hd1 := hbs.cell 1
  simp at hd0 hd1
  go_wp2_with fail
  refine bodyPost_ret (v := .tuple #[.agg #[.int .i64 s', .slice A' n' c'], .int .i64 (fite (x * y))]) (by simp [results, Try.results53, go_sem, hd0, hd1]) rfl ?_
  have hof := (hown4.below hb5).far2 (g := g) (by simp; omega) (.int .i64 s') (.slice A' n' c')
  exact ⟨_, rfl, HR.out.fito (hof.mono (by have := hb3.size; first | omega | (simp; omega))), hb3.trans (hB6.mono (by omega))⟩

end Go.Proofs.Ytlbjaimgoiimgaa

namespace Go.Proofs.Ytlbjaimgoiimgaa
open Go.RowKit Go.Joins

def bts (s : ByteArray) : List UInt8 := s.data.toList
/-- Decimal digits without leading zeros. -/
def NumT (l : List UInt8) : Prop := allD l ∧ l ≠ [] ∧ (l = [48] ∨ l.head? ≠ some 48)

theorem bts_len (s : ByteArray) : (bts s).length = s.size := by unfold bts; simp
theorem bts_get (s : ByteArray) (k : Nat) (h : k < s.size) : (bts s)[k]? = some s[k] := by
  unfold bts
  rw [List.getElem?_eq_getElem (by simpa using h)]; rfl
theorem bts_mem (s : ByteArray) (k : Nat) (h : k < s.size) : s[k] ∈ bts s := List.mem_of_getElem? (bts_get s k h)
theorem bts_snoc (s : ByteArray) (k : Nat) (h : k < s.size) : (bts s).take (k + 1) = (bts s).take k ++ [s[k]] := by
  unfold bts
  rw [List.take_succ_eq_append_getElem (by simpa using h)]; rfl

theorem decFrom_all {l : List UInt8} (h : allD l) (a : Nat) : Lib.decFrom a l = some (a * 10 ^ l.length + dv l) := by
  induction l generalizing a with
  | nil => simp [Lib.decFrom, dv]
  | cons b l ih =>
    have hb := h b (List.mem_cons_self ..)
    unfold isD at hb
    unfold Lib.decFrom Lib.digitVal
    rw [if_pos hb]
    show Lib.decFrom (a * 10 + (b.toNat - 48)) l = _
    rw [ih (fun c hc => h c (List.mem_cons_of_mem _ hc)), dv_cons, List.length_cons, Nat.pow_succ, Nat.add_mul, Nat.mul_assoc, Nat.mul_comm 10, Nat.add_assoc]
theorem atoi_all {l : List UInt8} (h : allD l) (hne : l ≠ []) : Lib.atoi l = some (dv l : Int) := by
  cases l with
  | nil => exact absurd rfl hne
  | cons b l =>
    have hb := h b (List.mem_cons_self ..)
    unfold isD at hb
    show (if (b == 45) = true then (Lib.decNat l).map fun (m : Nat) => -(m : Int) else if (b == 43) = true then (Lib.decNat l).map fun (m : Nat) => (m : Int) else (Lib.decNat (b :: l)).map fun (m : Nat) => (m : Int)) = _
    rw [if_neg (by
      intro e
      have := congrArg UInt8.toNat (eq_of_beq e)
      have e2 : (45 : UInt8).toNat = 45 := rfl
      omega), if_neg (by
      intro e
      have := congrArg UInt8.toNat (eq_of_beq e)
      have e2 : (43 : UInt8).toNat = 43 := rfl
      omega)]
    unfold Lib.decNat
    rw [if_neg (by simp), decFrom_all h]
    simp

theorem ten_nat {k : Nat} (h : k ≤ 362) : 10 ^ k ≤ 1048576 ^ 60 * 1048576 := by
  obtain ⟨m, hm⟩ : ∃ m, m = 181 := ⟨_, rfl⟩
  obtain ⟨j, hj⟩ : ∃ m, m = 30 := ⟨_, rfl⟩
  have h1 : 10 ^ k ≤ 10 ^ (m * 2) := Nat.pow_le_pow_right (by omega) (by omega)
  have h2 : 10 ^ (m * 2) ≤ 1048576 ^ (j * 2) * 1048576 := by
    rw [Nat.pow_mul, Nat.pow_mul 1048576, hm, hj]
    decide
  rw [hj] at h2
  exact Nat.le_trans h1 h2
theorem ten_pw {k : Nat} (h : k ≤ 362) : ((10 ^ k : Nat) : Int) ≤ pw 61 := by
  have h3 : ((10 ^ k : Nat) : Int) ≤ ((1048576 ^ 60 * 1048576 : Nat) : Int) := by exact_mod_cast ten_nat h
  have h4 : ((1048576 ^ 60 * 1048576 : Nat) : Int) = pw 61 := by
    unfold pw
    rw [Int.pow_succ, Int.natCast_mul, Int.natCast_pow]; rfl
  rw [h4] at h3
  exact h3

end Go.Proofs.Ytlbjaimgoiimgaa

namespace Go.Proofs.Ytlbjaimgoiimgaa
open Go.RowKit

theorem itoa_ab (z : Int) : Lib.itoa z = (if z < 0 then [45] else []) ++ Lib.decDigits (ab z).toNat := by
  unfold Lib.itoa ab
  split
  · simp
  · rw [List.nil_append]; congr 1; omega

theorem dd_numT (n : Nat) : NumT (Lib.decDigits n) := ⟨dd_all n, dd_ne n, dd_head n⟩
theorem not45 {l : List UInt8} (h : allD l) : Lib.hasPrefix l [45] = false := by
  cases l with
  | nil => rfl
  | cons b l =>
    have hb := h b (List.mem_cons_self ..)
    unfold isD at hb
    unfold Lib.hasPrefix
    simp only [List.isPrefixOf, Bool.and_true]
    rw [beq_eq_false_iff_ne]
    intro e
    rw [← e] at hb
    have : (45 : UInt8).toNat = 45 := rfl
    omega
theorem cut_itoa (z : Int) : Lib.hasPrefix (Lib.itoa z) [45] = decide (z < 0) ∧ Lib.trimPrefix (Lib.itoa z) [45] = Lib.decDigits (ab z).toNat := by
  rw [itoa_ab]
  by_cases h : z < 0
  · rw [if_pos h]
    have h1 : Lib.hasPrefix ([45] ++ Lib.decDigits (ab z).toNat) [45] = true := by
      unfold Lib.hasPrefix; simp [List.isPrefixOf]
    refine ⟨by rw [h1]; simp [h], ?_⟩
    unfold Lib.trimPrefix
    rw [if_pos h1]; rfl
  · rw [if_neg h, List.nil_append]
    have h1 := not45 (dd_all (ab z).toNat)
    refine ⟨by rw [h1]; simp [h], ?_⟩
    unfold Lib.trimPrefix
    rw [h1]; rfl
theorem itoa_of {l : List UInt8} (hd : NumT (Lib.trimPrefix l [45])) (hn : ¬ (Lib.hasPrefix l [45] = true ∧ Lib.trimPrefix l [45] = [48])) : ∃ z, l = Lib.itoa z := by
  obtain ⟨h1, h2, h3⟩ := hd
  have hdd := dd_of h1 h2 h3
  by_cases hp : Lib.hasPrefix l [45] = true
  · have hl : l = 45 :: Lib.trimPrefix l [45] := by
      cases l with
      | nil => cases hp
      | cons b r =>
        unfold Lib.trimPrefix
        rw [if_pos hp]
        unfold Lib.hasPrefix at hp
        simp only [List.isPrefixOf, Bool.and_true, beq_iff_eq] at hp
        rw [← hp]; rfl
    have hne : Lib.trimPrefix l [45] ≠ [48] := fun e => hn ⟨hp, e⟩
    obtain ⟨n, hnn⟩ : ∃ n, dv (Lib.trimPrefix l [45]) = n := ⟨_, rfl⟩
    rw [hnn] at hdd
    have hn0 : n ≠ 0 := fun e => by
      rw [e] at hdd
      exact hne (by rw [← hdd, dd_lt (by omega)]; rfl)
    refine ⟨-(n : Int), ?_⟩
    rw [itoa_ab, if_pos (by omega)]
    have : (ab (-(n : Int))).toNat = n := by unfold ab; omega
    rw [this, hdd]
    exact hl
  · have hl : Lib.trimPrefix l [45] = l := by unfold Lib.trimPrefix; rw [if_neg hp]
    rw [hl] at hdd
    obtain ⟨n, hnn⟩ : ∃ n, dv l = n := ⟨_, rfl⟩
    rw [hnn] at hdd
    refine ⟨(n : Int), ?_⟩
    rw [itoa_ab, if_neg (by omega)]
    have : (ab (n : Int)).toNat = n := by unfold ab; omega
    rw [this, hdd]; rfl

theorem pw60_ten : pw 60 ≤ ((10 ^ 181 * 10 ^ 181 : Nat) : Int) := by
  have h4 : pw 60 = ((1048576 ^ 60 : Nat) : Int) := by unfold pw; rw [Int.natCast_pow]; rfl
  rw [h4]
  exact_mod_cast (by decide : (1048576 : Nat) ^ 60 ≤ 10 ^ 181 * 10 ^ 181)
theorem long_full {z : Int} (h : 362 < (Lib.decDigits (ab z).toNat).length) : ¬ ab z < pw 60 := by
  intro hl
  have h1 : (ab z).toNat < 10 ^ 181 * 10 ^ 181 := by
    have := pw60_ten
    have := ab_nonneg z
    omega
  obtain ⟨m, hm⟩ : ∃ m, 181 = m := ⟨_, rfl⟩
  rw [hm, ← Nat.pow_add] at h1
  have := dd_len_le (k := m + m) (by omega) h1
  omega

def byt (l : List UInt8) : ByteArray := ⟨l.toArray⟩
theorem bts_byt (l : List UInt8) : bts (byt l) = l := by unfold bts byt; simp
theorem byt_size (l : List UInt8) : (byt l).size = l.length := by rw [← bts_len, bts_byt]

end Go.Proofs.Ytlbjaimgoiimgaa

namespace Go.Proofs.Ytlbjaimgoiimgaa
open Go.RowKit

/-- The table that Itoa reads. -/
def TB (w : World) : Prop := Lib.TabIs Try.prog w "internal/strconv.uint64pow10" .u64 Lib.pow10Tab
theorem TB.below {w w' : World} (h : TB w) (hb : Below w.heap.size w w') : TB w' := by
  unfold TB Lib.TabIs World.var? at *
  cases hg : Try.prog.globalNamed "internal/strconv.uint64pow10" with
  | none => rw [hg] at h; cases h
  | some g =>
    rw [hg] at h
    simp only [Option.bind_some] at h ⊢
    have hlt : g < w.heap.size := by
      rcases Nat.lt_or_ge g w.heap.size with h' | h'
      · exact h'
      · rw [Array.getElem?_eq_none h'] at h; cases h
    rw [hb.block g hlt]; exact h

/-- A string as a value. -/
def strV (l : List UInt8) : Value := .string (byt l)

theorem Try.info9 : (Try.prog.info? 9).map (fun i => (i.zero, i.size, i.bytes)) = some (some (.string ByteArray.empty), 1, 16) := by kernel_rfl

/-- A slice of strings that is owned from block B on. -/
def OwnS (w : World) (B : Nat) (v : Value) (l : List (List UInt8)) : Prop := w.ownsRow B 9 1 v l.length (l.map strV)
theorem OwnS.nil (w : World) (B : Nat) : OwnS w B (.slice none 0 0) [] := World.ownsRow_nil w B 9 1
theorem OwnS.below {w w' : World} {B : Nat} {v : Value} {l : List (List UInt8)} (h : OwnS w B v l) (hb : Below w.heap.size w w') : OwnS w' B v l :=
  World.ownsRow.kept (row := none) h ⟨hb.os, hb.tape, hb.output, hb.size, fun k hk _ => hb.block k hk⟩ (by cases v.ownBlock <;> simp)
theorem OwnI.away {w : World} {B B' : Nat} {u v : Value} {m : List Int} {l : List (List UInt8)} (h : OwnI w B u m) (h' : OwnS w B' v l) : u.ownBlock = none ∨ u.ownBlock ≠ v.ownBlock := by
  rcases h.2 with ⟨rfl, _⟩ | ⟨g, cap, cur, rfl, _, hg, _⟩
  · exact .inl rfl
  · right
    rcases h'.2 with ⟨rfl, _⟩ | ⟨g', cap', cur', rfl, _, hg', _⟩
    · intro e; cases e
    · intro e
      have e : g = g' := Option.some.inj e
      subst e
      rw [hg] at hg'
      cases hg'

theorem strV_enc : strV = encStr := rfl

end Go.Proofs.Ytlbjaimgoiimgaa

namespace Go.Proofs.Ytlbjaimgoiimgaa
open Go.ChangeShapes Go.WideShapes Go.ChangeAt Go.RowKit

theorem Try.own : ownKnob Try.prog.godebug = none := by kernel_rfl
theorem Try.laidOut : laidOutB Try.prog = true := by kernel_rfl
theorem Try.cells79 : Try.prog.cellsOf 79 = 1 := by kernel_rfl

end Go.Proofs.Ytlbjaimgoiimgaa
