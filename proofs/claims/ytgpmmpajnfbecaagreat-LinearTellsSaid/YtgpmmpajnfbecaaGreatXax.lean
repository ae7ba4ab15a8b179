/- Walks: the reference's Right. Walks: the reference's kept, Neg and Compare. Walks: the reference's Compare. -/
import Derived.Test.YtgpmmpajnfbecaaGreatXaw
import Derived.Test.YtgpmmpajnfbecaaGreatXao

namespace Go.Proofs.YtgpmmpajnfbecaaGreat
open Go.RowKit

theorem RightP.parts {s : Int} {l : List Int} : RightP s l ↔ Dig l ∧ ((s = 0 ∧ l.length = 0) ∨ ((s = 1 ∨ s = -1) ∧ 0 < l.length ∧ l.length ≤ 60 ∧ l.getD (l.length - 1) 0 ≠ 0)) := by
  constructor
  · rintro ⟨z, rfl, rfl, h3⟩
    have hn := Nrm_D (ab z)
    refine ⟨hn.1, ?_⟩
    by_cases h0 : z = 0
    · left; subst h0; rw [ab_zero, D_zero]; exact ⟨rfl, rfl⟩
    · right
      have hp : 0 < ab z := by unfold ab; omega
      have hl := D_len_pos hp
      exact ⟨by unfold sgn; split <;> (try split) <;> omega, hl, (D_len_le (ab_nonneg z)).2 h3, hn.2 hl⟩
  · rintro ⟨hd, h | ⟨h1, h2, h3, h4⟩⟩
    · obtain ⟨rfl, h⟩ := h
      have := List.eq_nil_of_length_eq_zero h
      subst this
      exact RightP.nil
    · exact RightP.mk h1 ⟨hd, fun _ => h4⟩ h2 h3

set_option maxRecDepth 100000 in
set_option maxHeartbeats 4000000 in
theorem rRight_any (s : Int) (l : List Int) (A : Option Addr) (n c : Nat) (w : World) (h : Ar w s l A n c) (res : Bool) (hres : res = true ↔ RightP s l) :
    Calls Tryz.prog 57 #[.agg #[.int .i64 s, .slice A n c]] w fun e w' => e = .returned (.bool res) ∧ Below w.heap.size w w' := by
  obtain ⟨hn, hI, hc, hm⟩ := h
  rw [RightP.parts, hn] at hres
  have hnn : l.length ≤ n ∧ n ≤ l.length := by omega
  have hn9 : n ≤ 9223372036854775807 := by omega
  have HRES := Lib.hid hres; clear hres hn hc hm
  obtain ⟨W, hW, hbx, k1⟩ : ∃ W, W = w.alloc (.cells #[.int .i64 s, .slice A n c] 39) ∧ Below w.heap.size w W ∧ Blk W w.heap.size 39 #[.int .i64 s, .slice A n c] := ⟨_, rfl, (Below.refl _ _).alloc (Nat.le_refl _) _, Blk.new _ _ _⟩
  go_enter Tryz.func57, Tryz.ntmps57
  go_wp2_with fail
  rw [← hW]
  clear hW
  have j0 : W.cell? ⟨w.heap.size, 0, none⟩ = some (.int .i64 s) := k1.cell 0
  have j1 : W.cell? ⟨w.heap.size, 1, none⟩ = some (.slice A n c) := k1.cell 1
  go_loop [3] (fun i => ∃ k : Nat, k ≤ n ∧ i = .int .i64 k ∧ Hid (Dig (l.take k))) (fun i => n - (intOf i).toNat)
  case atStart => exact ⟨0, Nat.zero_le _, rfl, Lib.hid Dig.nil⟩
  case round =>
    obtain ⟨k, hk, rfl, hdg⟩ := hrel
    by_cases hlt : k < n
    · obtain ⟨b, off, hA, hbB, hck⟩ := hI k (by omega)
      subst hA
      have hck' := (hbx.cell (p := ⟨b, off + k, none⟩) hbB).trans hck
      have hnd : ¬ (0 ≤ l.getD k 0 ∧ l.getD k 0 < 1048576) → res = false := fun h => by
        rcases res with _ | _
        · rfl
        · exact absurd ((HRES.out.1 rfl).1.getD (by omega)) h
      have hts := take_snoc (l := l) (k := k) (by omega)
      obtain ⟨d, hdd⟩ : ∃ d, l.getD k 0 = d := ⟨_, rfl⟩
      rw [hdd] at hck' hnd hts
      clear hdd hck
      have HND := Lib.hid hnd; clear hnd
      have HTS := Lib.hid hts; clear hts
      by_cases hd0 : d < 0
      · have := HND.out (by omega)
        subst this
        go_wp2_with fail
        go_ret
        exact ⟨rfl, hbx⟩
      · by_cases hd1 : 1048576 ≤ d
        · have := HND.out (by omega)
          subst this
          go_wp2_with fail
          go_ret
          exact ⟨rfl, hbx⟩
        · go_wp2_with fail
          go_round
          case rel => exact ⟨k + 1, by omega, by go_num, Lib.hid (by rw [HTS.out]; exact hdg.out.snoc (by omega) (by omega))⟩
          case measure => simp [intOf]; omega
    · have : k = n := by omega
      subst this
      have hdg' := hdg.out
      rw [List.take_of_length_le (by omega)] at hdg'
      have HDG := Lib.hid hdg'; clear hdg'
      have hno : ¬ ((s = 0 ∧ k = 0) ∨ ((s = 1 ∨ s = -1) ∧ 0 < k ∧ k ≤ 60 ∧ l.getD (k - 1) 0 ≠ 0)) → res = false := fun h => by
        rcases res with _ | _
        · rfl
        · exact absurd (HRES.out.1 rfl).2 h
      have hyes : ((s = 0 ∧ k = 0) ∨ ((s = 1 ∨ s = -1) ∧ 0 < k ∧ k ≤ 60 ∧ l.getD (k - 1) 0 ≠ 0)) → res = true := fun h => HRES.out.2 ⟨HDG.out, h⟩
      have HNO := Lib.hid hno; clear hno
      have HYES := Lib.hid hyes; clear hyes
      clear hlt
      have finish : ∀ (r : Bool), True := fun _ => trivial
      clear finish
      by_cases c1 : s < -1
      · have := HNO.out (by omega)
        subst this
        go_wp2_with fail
        go_ret
        exact ⟨rfl, hbx⟩
      by_cases c2 : 1 < s
      · have := HNO.out (by omega)
        subst this
        go_wp2_with fail
        go_ret
        exact ⟨rfl, hbx⟩
      have d1 : decide (s < -1) = false := decide_eq_false c1
      have d2 : decide (1 < s) = false := decide_eq_false c2
      by_cases c3 : 60 < k
      · have := HNO.out (by omega)
        subst this
        have d3 : decide ((60 : Int) < (k : Int)) = true := decide_eq_true (by omega)
        go_wp2_with fail
        go_ret
        exact ⟨rfl, hbx⟩
      have d3 : decide ((60 : Int) < (k : Int)) = false := decide_eq_false (by omega)
      have hs : s = 0 ∨ s = 1 ∨ s = -1 := by omega
      clear c1 c2 d1 d2
      by_cases c4 : k = 0
      · subst c4
        rcases hs with rfl | rfl | rfl
        · have := HYES.out (.inl ⟨rfl, rfl⟩)
          subst this
          go_wp2_with fail
          go_ret
          exact ⟨rfl, hbx⟩
        all_goals
          have := HNO.out (by omega)
          subst this
          go_wp2_with fail
          go_ret
          exact ⟨rfl, hbx⟩
      · have d4 : ((k : Int) == 0) = false := by simp; omega
        rcases hs with rfl | hs
        · have := HNO.out (by omega)
          subst this
          go_wp2_with fail
          go_ret
          exact ⟨rfl, hbx⟩
        · obtain ⟨b, off, hA, hbB, hck⟩ := hI (k - 1) (by omega)
          subst hA
          have hck' := (hbx.cell (p := ⟨b, off + (k - 1), none⟩) hbB).trans hck
          obtain ⟨t, ht⟩ : ∃ d, l.getD (k - 1) 0 = d := ⟨_, rfl⟩
          rw [ht] at hck' HNO HYES
          clear ht hck
          by_cases ht0 : t = 0
          · have := HNO.out (by omega)
            subst this
            subst ht0
            rcases hs with rfl | rfl
            all_goals
              go_wp2_with fail
              go_ret
              exact ⟨rfl, hbx⟩
          · have := HYES.out (.inr ⟨hs, by omega, by omega, ht0⟩)
            subst this
            have ht1 : (t != 0) = true := by simpa using ht0
            rcases hs with rfl | rfl
            all_goals
              go_wp2_with fail
              go_ret
              exact ⟨rfl, hbx⟩

end Go.Proofs.YtgpmmpajnfbecaaGreat

namespace Go.Proofs.YtgpmmpajnfbecaaGreat
open Go.RowKit

theorem BO.len {w : World} {B : Nat} {s : Int} {A : Option Addr} {n c : Nat} {z : Int} (h : BO w B (.agg #[.int .i64 s, .slice A n c]) z) : (D (ab z)).length = n ∧ s = sgn z := by
  obtain ⟨v, e, ho⟩ := h
  injection e with e
  have e0 := congrArg (fun (a : Array Value) => a[0]?) e
  have e1 := congrArg (fun (a : Array Value) => a[1]?) e
  simp at e0 e1
  obtain ⟨A', c', rfl⟩ := ho.form
  injection e1 with _ e2 _
  exact ⟨e2.symm, e0⟩

set_option maxRecDepth 100000 in
set_option maxHeartbeats 2000000 in
theorem rkept_any (z : Int) (v : Value) (w : World) (B : Nat) (h : BO w B v z) :
    Calls Tryz.prog 73 #[v] w fun e w' => ∃ r, e = .returned (.tuple #[r, .int .i64 (fite z)]) ∧ BO w' B r (fitz z) ∧ Below w.heap.size w w' := by
  obtain ⟨s, A, n, c, rfl⟩ := h.form
  have hl := (D_len_le (z := ab z) (ab_nonneg z) (k := 60))
  rw [h.len.1] at hl
  have hb2 := fun (o1 o2 : Obj) => ((Below.refl w.heap.size w).alloc (Nat.le_refl _) o1).alloc (by simp) o2
  have HB2 := Lib.hid hb2; clear hb2
  have ho := fun (o1 o2 : Obj) => h.below (HB2.out o1 o2)
  have HO := Lib.hid ho; clear ho h
  by_cases hf : ab z < pw 60
  · rw [(fits hf).1, (fits hf).2]
    have hn : decide ((60 : Int) < (n : Int)) = false := decide_eq_false (by have := hl.2 hf; omega)
    clear hf hl
    go_enter Tryz.func73, Tryz.ntmps73
    go_wp2_with fail
    refine bodyPost_ret (v := .tuple #[.agg #[.int .i64 s, .slice A n c], .int .i64 0]) (by simp [results, Tryz.results73, go_sem]) rfl ?_
    exact ⟨_, rfl, HO.out _ _, HB2.out _ _⟩
  · have e1 : fite z = 6 := if_neg hf
    have e2 : fitz z = 0 := if_neg hf
    rw [e1, e2]
    have hn : decide ((60 : Int) < (n : Int)) = true := decide_eq_true (by
      rcases Nat.lt_or_ge 60 n with g | g
      · omega
      · exact absurd (hl.1 g) hf)
    clear hf hl e1 e2
    go_enter Tryz.func73, Tryz.ntmps73
    go_wp2_with fail
    refine bodyPost_ret (v := .tuple #[.agg #[.int .i64 0, .slice none 0 0], .int .i64 6]) (by simp [results, Tryz.results73, go_sem]) rfl ?_
    exact ⟨_, rfl, BO.zero _ _, HB2.out _ _⟩

/-- Neg of a right big integer. -/
theorem bv_sv {w : World} {s : Int} {A : Option Addr} {n c : Nat} {z : Int} (h : BV w w.heap.size (.agg #[.int .i64 s, .slice A n c]) z) : Sv w (.slice A n c) (D (ab z)) ∧ s = sgn z ∧ (D (ab z)).length = n := by
  obtain ⟨A', c', e, h1, h2, h3⟩ := h
  injection e with e
  have e0 := congrArg (fun (a : Array Value) => a[0]?) e
  have e1 := congrArg (fun (a : Array Value) => a[1]?) e
  simp at e0 e1
  obtain ⟨rfl, rfl, rfl⟩ := e1
  exact ⟨⟨_, _, rfl, h1, h2, h3⟩, e0, rfl⟩
theorem bv_ar {w : World} {s : Int} {A : Option Addr} {n c : Nat} {z : Int} (h : BV w w.heap.size (.agg #[.int .i64 s, .slice A n c]) z) : Ar w s (D (ab z)) A n c := by
  obtain ⟨A', c', e, h1, h2, h3⟩ := h
  injection e with e
  have e1 := congrArg (fun (a : Array Value) => a[1]?) e
  simp at e1
  obtain ⟨rfl, rfl, rfl⟩ := e1
  exact ⟨rfl, h3, h1, h2⟩
theorem rRight_yes {w : World} {s : Int} {A : Option Addr} {n c : Nat} {z : Int} (h : BV w w.heap.size (.agg #[.int .i64 s, .slice A n c]) z) (hz : ab z < pw 60) :
    Calls Tryz.prog 57 #[.agg #[.int .i64 s, .slice A n c]] w fun e w' => e = .returned (.bool true) ∧ Below w.heap.size w w' :=
  rRight_any s (D (ab z)) A n c w (bv_ar h) true (by simp only [true_iff]; exact ⟨z, (bv_sv h).2.1, rfl, hz⟩)
theorem sgn_nv (z : Int) : sgn z * nv (D (ab z)) = z := by rw [nv_D (ab_nonneg z)]; exact sgn_ab z
theorem sgn_or (z : Int) : sgn z = 1 ∨ sgn z = -1 ∨ nv (D (ab z)) = 0 := by
  rw [nv_D (ab_nonneg z)]
  unfold sgn ab
  split
  · exact .inr (.inl rfl)
  · split
    · exact .inr (.inr (by omega))
    · exact .inl rfl

set_option maxRecDepth 100000 in
set_option maxHeartbeats 2000000 in
theorem rneg_any {s : Int} {A : Option Addr} {n c : Nat} {z : Int} (w : World) (h : BV w w.heap.size (.agg #[.int .i64 s, .slice A n c]) z) (hz : ab z < pw 60) :
    Calls Tryz.prog 65 #[.agg #[.int .i64 s, .slice A n c]] w fun e w' => ∃ r, e = .returned r ∧ BO w' w.heap.size r (-z) ∧ Below w.heap.size w w' := by
  have hsb := sgn_bd z
  have hs := (bv_sv h).2.1
  have hn60 : (D (ab z)).length ≤ 60 := (D_len_le (ab_nonneg z)).2 hz
  have hmd := fun (w' : World) (hb : Below w.heap.size w w') => rmade_any (D (ab z)) (-s) (-z) (.slice A n c) w' (bv_sv (h.later hb)).1 (Dig_D _) (by omega) (by rw [hs, Int.neg_mul, sgn_nv]) (by rw [hs]; rcases sgn_or z with h | h | h <;> omega)
  have hrt := fun (w' : World) (hb : Below w.heap.size w w') => rRight_yes (h.later hb) hz
  rw [← hs] at hsb
  obtain ⟨hs0, hs1⟩ := hsb
  have HMD := Lib.hid hmd; clear hmd
  have HRT := Lib.hid hrt; clear hrt
  clear hs hn60 hz h
  obtain ⟨W, hW, hbx, k1, k2, hsz⟩ := boxes2 w #[.int .i64 s, .slice A n c] #[.int .i64 0, .slice none 0 0]
  have hlt : w.heap.size + 1 < W.heap.size := k2.lt
  go_enter Tryz.func65, Tryz.ntmps65
  go_wp2_with fail
  rw [← hW]
  clear hW hsz
  have hT := hbx
  have a0 := k1.cell 0
  have a1 := k1.cell 1
  simp at a0 a1
  go_wp2_with fail
  clear a0 a1
  (with_reducible refine (HRT.out _ hT).mono ?_)
  rintro e u1 ⟨rfl, hb9⟩
  have hT := hT.trans (hb9.mono hT.size)
  have k1 := k1.below hb9 k1.lt
  have k2 := k2.below hb9 k2.lt
  have a0 := k1.cell 0
  have a1 := k1.cell 1
  simp at a0 a1
  have hl2 := k2.lt
  go_wp2_with fail
  clear a0 a1
  (with_reducible refine (HMD.out _ hT).mono ?_)
  rintro e u2 ⟨r, rfl, hr, hb9⟩
  have hT := hT.trans (hb9.mono hT.size)
  have k2 := k2.below hb9 hl2
  obtain ⟨s', A', n', c', rfl⟩ := hr.form
  have gR : w.heap.size ≤ w.heap.size + 1 := by omega
  have r0 := k2.cell 0
  have r1 := k2.cell 1
  have f0 := k2.frozen 0
  have f1 := k2.frozen 1
  simp at r0 r1
  have hbs := k2.set2 (.int .i64 s') (.slice A' n' c')
  have x0 := hbs.cell 0
  have x1 := hbs.cell 1
  simp at x0 x1
  go_wp2_with fail
  refine bodyPost_ret (v := .agg #[.int .i64 s', .slice A' n' c']) (by simp [results, Tryz.results65, go_sem, x0, x1]) rfl ?_
  exact ⟨_, rfl, (hr.far2 hl2 _ _).mono (by omega), below_st hT gR _ _⟩

end Go.Proofs.YtgpmmpajnfbecaaGreat

namespace Go.Proofs.YtgpmmpajnfbecaaGreat
open Go.RowKit

theorem cmp_res {x y : Int} (hne : x ≠ y) (hs : sgn x = sgn y) (b : Bool) (hb : b = decide (ab x < ab y)) : Lib.compareInt x y = if b = decide (0 < sgn x) then -1 else 1 := by
  subst hb
  have hx : x < 0 ∨ 0 < x := by
    rcases Int.lt_trichotomy x 0 with h | h | h
    · exact .inl h
    · exfalso
      subst h
      rw [sgn_zero] at hs
      unfold sgn at hs
      split at hs
      · omega
      · split at hs <;> omega
    · exact .inr h
  rcases hx with h | h
  · rw [sgn_of_neg h] at hs ⊢
    have hy : y < 0 := by unfold sgn at hs; split at hs; assumption; split at hs <;> omega
    rw [show decide ((0 : Int) < -1) = false from rfl]
    rcases Int.lt_or_gt_of_ne hne with g | g
    · rw [cmp_of_lt g, if_pos (decide_eq_false (by unfold ab; omega))]
    · rw [cmp_of_gt g, if_neg (by simp; unfold ab; omega)]
  · rw [sgn_pos h] at hs ⊢
    have hy : 0 < y := by unfold sgn at hs; split at hs; omega; split at hs <;> omega
    rw [show decide ((0 : Int) < 1) = true from rfl]
    rcases Int.lt_or_gt_of_ne hne with g | g
    · rw [cmp_of_lt g, if_pos (decide_eq_true (by unfold ab; omega))]
    · rw [cmp_of_gt g, if_neg (by simp; unfold ab; omega)]

set_option maxRecDepth 100000 in
set_option maxHeartbeats 4000000 in
theorem rcmp_any {s1 s2 : Int} {A1 A2 : Option Addr} {n1 c1 n2 c2 : Nat} {x y : Int} (w : World) (h1 : BV w w.heap.size (.agg #[.int .i64 s1, .slice A1 n1 c1]) x) (h2 : BV w w.heap.size (.agg #[.int .i64 s2, .slice A2 n2 c2]) y) (hx : ab x < pw 60) (hy : ab y < pw 60) :
    Calls Tryz.prog 59 #[.agg #[.int .i64 s1, .slice A1 n1 c1], .agg #[.int .i64 s2, .slice A2 n2 c2]] w fun e w' => e = .returned (.int .i64 (Lib.compareInt x y)) ∧ Below w.heap.size w w' := by
  have hs1 := (bv_sv h1).2.1
  have hs2 := (bv_sv h2).2.1
  have hsg : s1 ≠ s2 → Lib.compareInt x y = if s1 < s2 then -1 else 1 := fun h => by
    rw [hs1, hs2] at h ⊢
    rw [← compare_sgn h]
    rcases Int.lt_or_gt_of_ne h with g | g
    · rw [cmp_of_lt g, if_pos g]
    · rw [cmp_of_gt g, if_neg (by omega)]
  have hsm : x ≠ y → s1 = s2 → ∀ b : Bool, b = decide (ab x < ab y) → Lib.compareInt x y = if b = decide (0 < s1) then -1 else 1 := fun h1 h2 b hb => by
    rw [hs1]; rw [hs1, hs2] at h2; exact cmp_res h1 h2 b hb
  have heq : x = y → Lib.compareInt x y = 0 := cmp_of_eq
  obtain ⟨C, hC⟩ : ∃ C, Lib.compareInt x y = C := ⟨_, rfl⟩
  rw [hC] at hsg hsm heq ⊢
  have HEQ := Lib.hid heq; clear heq hC
  have hl1 : (D (ab x)).length ≤ 1000 := by have := (D_len_le (ab_nonneg x)).2 hx; omega
  have hl2 : (D (ab y)).length ≤ 1000 := by have := (D_len_le (ab_nonneg y)).2 hy; omega
  obtain ⟨b, hb⟩ : ∃ b, decide (ab x < ab y) = b := ⟨_, rfl⟩
  have hls := fun (w' : World) (hbw : Below w.heap.size w w') => rless_any (D (ab x)) (D (ab y)) (.slice A1 n1 c1) (.slice A2 n2 c2) w' (bv_sv (h1.later hbw)).1 (bv_sv (h2.later hbw)).1 (Dig_D _) (Dig_D _) hl1 hl2 b (by rw [nv_D (ab_nonneg x), nv_D (ab_nonneg y)]; exact hb.symm)
  have hr1 := fun (w' : World) (hbw : Below w.heap.size w w') => rRight_yes (h1.later hbw) hx
  have hr2 := fun (w' : World) (hbw : Below w.heap.size w w') => rRight_yes (h2.later hbw) hy
  have hsa := fun (w' : World) (hbw : Below w.heap.size w w') => refSame_any x y _ _ w' (h1.later hbw) (h2.later hbw)
  have HLS := Lib.hid hls; clear hls
  have HR1 := Lib.hid hr1; clear hr1
  have HR2 := Lib.hid hr2; clear hr2
  have HSA := Lib.hid hsa; clear hsa
  have HSG := Lib.hid hsg; clear hsg
  have HSM := Lib.hid hsm; clear hsm
  have HB := Lib.hid hb; clear hb
  clear hs1 hs2 hl1 hl2 h1 h2 hx hy
  obtain ⟨W, hW, hbx, k1, k2, hsz⟩ := boxes2 w #[.int .i64 s1, .slice A1 n1 c1] #[.int .i64 s2, .slice A2 n2 c2]
  go_enter Tryz.func59, Tryz.ntmps59
  go_wp2_with fail
  rw [← hW]
  clear hW hsz
  have hT := hbx
  have a0 := k1.cell 0
  have a1 := k1.cell 1
  simp at a0 a1
  go_wp2_with fail
  clear a0 a1
  (with_reducible refine (HR1.out _ hT).mono ?_)
  rintro e u1 ⟨rfl, hb9⟩
  have hT := hT.trans (hb9.mono hT.size)
  have k1 := k1.below hb9 k1.lt
  have k2 := k2.below hb9 k2.lt
  have b0 := k2.cell 0
  have b1 := k2.cell 1
  simp at b0 b1
  go_wp2_with fail
  clear b0 b1
  (with_reducible refine (HR2.out _ hT).mono ?_)
  rintro e u2 ⟨rfl, hb9⟩
  have hT := hT.trans (hb9.mono hT.size)
  have k1 := k1.below hb9 k1.lt
  have k2 := k2.below hb9 k2.lt
  have a0 := k1.cell 0
  have a1 := k1.cell 1
  have b0 := k2.cell 0
  have b1 := k2.cell 1
  simp at a0 a1 b0 b1
  go_wp2_with fail
  clear a0 a1 b0 b1
  (with_reducible refine (HSA.out _ hT).mono ?_)
  rintro e u3 ⟨rfl, hb9⟩
  have hT := hT.trans (hb9.mono hT.size)
  have k1 := k1.below hb9 k1.lt
  have k2 := k2.below hb9 k2.lt
  by_cases hxy : x = y
  · rw [decide_eq_true hxy]
    have hc0 := HEQ.out hxy
    subst hc0
    clear hxy
    go_wp2_with fail
    go_ret
    exact ⟨rfl, hT⟩
  rw [decide_eq_false hxy]
  have a0 := k1.cell 0
  have a1 := k1.cell 1
  have b0 := k2.cell 0
  have b1 := k2.cell 1
  simp at a0 a1 b0 b1
  by_cases hss : s1 = s2
  · have hr := HSM.out hxy hss b HB.out.symm
    subst hss
    have hdc := fun nq => (HLS.out (u3.drewN nq) (below_dr hT nq)).mono fun _ _ h => (⟨h.1, h.2.symm⟩ : _ ∧ _ = _)
    have HDC := Lib.hid hdc; clear hdc hxy HSM HSG
    by_cases hp : 0 < s1
    · have d1 : decide (0 < s1) = true := decide_eq_true hp
      rw [d1] at hr
      rcases b with _ | _
      all_goals
        simp only [reduceCtorEq, if_false, if_true] at hr
        subst hr
        go_wp2_with fail
        go_quiet ((go_at_call 83; exact Calls.quiet_of_same (HDC.out _)))
        go_wp2_with fail
        go_ret
        exact ⟨rfl, below_dr hT _⟩
    · have d1 : decide (0 < s1) = false := decide_eq_false hp
      rw [d1] at hr
      rcases b with _ | _
      all_goals
        simp only [reduceCtorEq, if_false, if_true] at hr
        subst hr
        go_wp2_with fail
        go_quiet ((go_at_call 83; exact Calls.quiet_of_same (HDC.out _)))
        go_wp2_with fail
        go_ret
        exact ⟨rfl, below_dr hT _⟩
  · have hr := HSG.out hss
    have d0 : (s1 != s2) = true := by simpa using hss
    by_cases hlt : s1 < s2
    · have d1 : decide (s1 < s2) = true := decide_eq_true hlt
      rw [if_pos hlt] at hr
      subst hr
      clear hss hlt hxy
      go_wp2_with fail
      go_ret
      exact ⟨rfl, hT⟩
    · have d1 : decide (s1 < s2) = false := decide_eq_false hlt
      rw [if_neg hlt] at hr
      subst hr
      clear hss hlt hxy
      go_wp2_with fail
      go_ret
      exact ⟨rfl, hT⟩

end Go.Proofs.YtgpmmpajnfbecaaGreat
