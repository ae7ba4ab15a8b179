/- Walks: subtract. Plain: the digits of a quotient. Walks: order; slices.Clone and slices.Equal in our words. -/
import Derived.Test.YtgpmmpajnfbecaaGreatXac
import Derived.Test.YtgpmmpajnfbecaaGreatXab
import Derived.Test.YtgpmmpajnfbecaaGreatShelf
import Derived.Deep.QuietTactic
import Derived.BigQuiet

namespace Go.Proofs.YtgpmmpajnfbecaaGreat
open Go.RowKit

theorem getD_drop (l : List Int) (o k : Nat) : (l.drop o).getD k 0 = l.getD (o + k) 0 := by
  rw [List.getD_eq_getElem?_getD, List.getD_eq_getElem?_getD, List.getElem?_drop]
theorem grown_trans {w w1 w2 : World} {r : Option Nat} (h1 : w.grownBy w1 r) (h2 : w1.grownBy w2 r) : w.grownBy w2 r :=
  ⟨h2.os.trans h1.os, h2.tape.trans h1.tape, h2.output.trans h1.output, Nat.le_trans h1.size h2.size, fun k hk hr => (h2.block k (Nat.lt_of_lt_of_le hk h1.size) hr).trans (h1.block k hk hr)⟩
theorem grown_set {w w1 : World} {g k : Nat} (h : w.grownBy w1 (some g)) (v : Value) : w.grownBy (w1.setCell ⟨g, k, none⟩ v) (some g) :=
  grown_trans h ⟨rfl, rfl, rfl, by simp, fun j _ hr => Below.heap_setCell w1 ⟨g, k, none⟩ v j (fun e => hr (by rw [e]))⟩

/-- The value of n digits from o on. -/
def wn (U : List Int) (o n : Nat) : Int := nv ((U.drop o).take n)
theorem wn_succ (U : List Int) (o n : Nat) : wn U o (n + 1) = wn U o n + pw n * U.getD (o + n) 0 := by
  unfold wn
  rw [nv_take_succ', getD_drop]
theorem wn_zero (U : List Int) (o : Nat) : wn U o 0 = 0 := rfl
theorem wn_congr {U V : List Int} {o n : Nat} (h : ∀ j, j < n → U.getD (o + j) 0 = V.getD (o + j) 0) : wn U o n = wn V o n := by
  induction n with
  | zero => rfl
  | succ n ih => rw [wn_succ, wn_succ, ih (fun j hj => h j (by omega)), h n (by omega)]
theorem wn_bd {U : List Int} {o n : Nat} (h : ∀ j, j < n → 0 ≤ U.getD (o + j) 0 ∧ U.getD (o + j) 0 < 1048576) : 0 ≤ wn U o n ∧ wn U o n < pw n := by
  induction n with
  | zero => rw [wn_zero, pw_zero]; decide
  | succ n ih =>
    have h1 := ih (fun j hj => h j (by omega))
    have h2 := h n (by omega)
    have h3 := pw_pos n
    rw [wn_succ, pw_succ]
    have h4 : pw n * 0 ≤ pw n * U.getD (o + n) 0 := Int.mul_le_mul_of_nonneg_left h2.1 (by omega)
    have h5 : pw n * U.getD (o + n) 0 ≤ pw n * 1048575 := Int.mul_le_mul_of_nonneg_left (by omega) (by omega)
    omega

theorem sub_step {A P c T f V t d u : Int} (h : A + P * c = T - f * V) (hu : u = c + (t - f * d)) :
    A + P * (u % 1048576) + 1048576 * P * (u / 1048576) = T + P * t - f * (V + P * d) := by
  have e1 : u % 1048576 + 1048576 * (u / 1048576) = u := by omega
  rw [Int.mul_comm 1048576 P, Int.mul_assoc, Int.add_assoc, ← Int.mul_add, e1, hu, Int.mul_add, Int.mul_sub, Int.mul_add]
  have e3 : P * (f * d) = f * (P * d) := by rw [← Int.mul_assoc, Int.mul_comm P f, Int.mul_assoc]
  rw [e3]
  omega

def SubPost (U lv : List Int) (g off N cN B n : Nat) (tp f : Int) (w : World) (e : Ending) (w' : World) : Prop := ∃ (U' : List Int) (t : Int), e = .returned (.bool (decide (0 ≤ t))) ∧ U'.length = N ∧ OwnI w' B (.slice (some ⟨g, 0, none⟩) N cN) U' ∧
  (∀ j, (j < off ∨ off + n < j) → U'.getD j 0 = U.getD j 0) ∧ (∀ j, j < n → 0 ≤ U'.getD (off + j) 0 ∧ U'.getD (off + j) 0 < 1048576) ∧ U'.getD (off + n) 0 = t ∧
  wn U' off n + pw n * t = wn U off n + pw n * tp - f * nv lv ∧ w.grownBy w' (some g)

set_option maxRecDepth 100000 in
set_option maxHeartbeats 1000000 in
theorem subtract_any (U lv : List Int) (g off N cN cu cv B n : Nat) (Av : Option Addr) (f : Int) (w : World) (hn : lv.length = n) (hU : U.length = N) (hoff : off + n < N) (hN : N ≤ 1000) (hcu : n + 1 ≤ cu)
    (hO : OwnI w B (.slice (some ⟨g, 0, none⟩) N cN) U) (hI : IntsAt B w Av lv) (hdv : Dig lv) (hf0 : -1 ≤ f) (hf1 : f < 1048576)
    (hW : ∀ j, j < n → 0 ≤ U.getD (off + j) 0 ∧ U.getD (off + j) 0 < 1048576) (tp : Int) (htp : U.getD (off + n) 0 = tp) (hT : -2097152 ≤ tp ∧ tp ≤ 2097152) :
    Calls Tryz.prog 116 #[.slice (some ⟨g, off, none⟩) (n + 1) cu, .slice Av n cv, .int .i64 f] w (SubPost U lv g off N cN B n tp f w) := by
  have HN := Lib.hid hn
  have HU := Lib.hid hU
  have hnn : lv.length ≤ n ∧ n ≤ lv.length := by omega
  clear hn hU
  have hBg := hO.lt.1
  have HW := Lib.hid hW; clear hW
  have HTP := Lib.hid htp; clear htp
  go_enter Tryz.func116, Tryz.ntmps116
  go_wp2_with fail
  go_loopw [7, 12] (fun cc i wr => ∃ (k : Nat) (c' : Int) (U' : List Int), k ≤ n ∧ i = .int .i64 k ∧ cc = .int .i64 c' ∧ -2097152 ≤ c' ∧ c' ≤ 2097152 ∧ Hid (U'.length = N) ∧ OwnI wr B (.slice (some ⟨g, 0, none⟩) N cN) U' ∧
    Hid (∀ j, (j < off ∨ off + k ≤ j) → U'.getD j 0 = U.getD j 0) ∧ Hid (∀ j, j < k → 0 ≤ U'.getD (off + j) 0 ∧ U'.getD (off + j) 0 < 1048576) ∧ Hid (wn U' off k + pw k * c' = wn U off k - f * nv (lv.take k)) ∧ w.grownBy wr (some g)) (fun _ i _ => n - (intOf i).toNat)
  case atStart => exact ⟨0, 0, U, Nat.zero_le _, rfl, rfl, by omega, by omega, HU, hO, Lib.hid (fun _ _ => rfl), Lib.hid (fun j h => by cases h), Lib.hid (by simp [wn_zero, nv]), World.grownBy.refl _ _⟩
  case round =>
    obtain ⟨k, c', U', hk, rfl, rfl, h0, h1, hl, hown, hsame, hdg, hv, hgr⟩ := hrel
    have hbB : Below B w wr := (Below.refl B w).grown hgr (by have := hO.lt; omega) (fun j e => by cases e; exact hBg)
    by_cases hlt : k < n
    · obtain ⟨b, o, hA, hbl, hc⟩ := hI k (by omega)
      subst hA
      have hcv := (hbB.cell (p := ⟨b, o + k, none⟩) hbl).trans hc
      have hd1 := hdv.getD (k := k) (by omega)
      have hxs := nv_take_succ (l := lv) (k := k) (by omega)
      obtain ⟨d, hdd⟩ : ∃ d, lv.getD k 0 = d := ⟨_, rfl⟩
      rw [hdd] at hcv hd1 hxs
      clear hdd hc
      have HXS := Lib.hid hxs; clear hxs
      have hcu := hown.cell (k := off + k) hl.out (by omega)
      rw [hsame.out (off + k) (.inr (Nat.le_refl _))] at hcu
      have hff := hown.frozen (k := off + k) hl.out
      have hu1 := HW.out k hlt
      have hws := wn_succ U off k
      obtain ⟨u, hu⟩ : ∃ u, U.getD (off + k) 0 = u := ⟨_, rfl⟩
      rw [hu] at hcu hu1 hws
      clear hu
      have HWS := Lib.hid hws; clear hws
      have hm := mul_bd (x := f) (d := d) (M := 1048576) (by omega) (by omega) hd1.1 (by omega) (by omega)
      go_wp2_with fail
      go_roundw
      case rel => exact ⟨k + 1, _, U'.set (off + k) ((c' + (u - f * d)) % 1048576), by omega, by go_num, rfl, by omega, by omega, Lib.hid (by simp [hl.out]), by (rw [and_low]; exact hown.store hl.out (off + k) _), Lib.hid (fun j hj => by
          rw [getD_set (by rw [hl.out]; omega), if_neg (by omega)]; exact hsame.out j (by omega)), Lib.hid (fun j hj => by
          rw [getD_set (by rw [hl.out]; omega)]
          split
          · omega
          · exact hdg.out j (by omega)), Lib.hid (by
          rw [wn_succ, wn_congr (V := U') (fun j hj => by rw [getD_set (by rw [hl.out]; omega), if_neg (by omega)]), getD_set (by rw [hl.out]; omega), if_pos rfl, HWS.out, HXS.out, pw_succ]
          exact sub_step hv.out rfl), grown_set hgr _⟩
      case measure => simp [intOf]; omega
    · have : k = n := by omega
      subst this
      have hcu := hown.cell (k := off + k) hl.out (by omega)
      rw [hsame.out (off + k) (.inr (Nat.le_refl _)), HTP.out] at hcu
      have hff := hown.frozen (k := off + k) hl.out
      have hvv := hv.out
      rw [List.take_of_length_le (by omega)] at hvv
      have HVV := Lib.hid hvv; clear hvv
      by_cases ht : 0 ≤ tp + c'
      all_goals
        go_wp2_with fail
        go_ret
        refine ⟨U'.set (off + k) (tp + c'), tp + c', ?_, by simp [hl.out], hown.store hl.out _ _, fun j hj => ?_, fun j hj => ?_, ?_, ?_, grown_set hgr _⟩
        · simp [ht]
        · rw [getD_set (by rw [hl.out]; omega), if_neg (by omega)]; exact hsame.out j (by omega)
        · rw [getD_set (by rw [hl.out]; omega), if_neg (by omega)]; exact hdg.out j hj
        · rw [getD_set (by rw [hl.out]; omega), if_pos rfl]
        · rw [wn_congr (V := U') (fun j hj => by rw [getD_set (by rw [hl.out]; omega), if_neg (by omega)]), Int.mul_add]
          have := HVV.out
          omega

end Go.Proofs.YtgpmmpajnfbecaaGreat

namespace Go.Proofs.YtgpmmpajnfbecaaGreat
open Go.RowKit

/-- The guess of a digit of the quotient is right, or one too great. -/
theorem guess_hi {P V T t3 f1 G : Int} (hP : 0 < P) (hV0 : f1 * P ≤ V) (hT1 : T < (t3 + 1) * P) (hTV : T < 1048576 * V) (hG : G = 1048575 ∨ t3 < (G + 1) * f1) (hG0 : 0 ≤ G) : T - G * V < V := by
  rcases hG with rfl | h
  · omega
  · have h1 : (t3 + 1) * P ≤ (G + 1) * f1 * P := Int.mul_le_mul_of_nonneg_right (by omega) (by omega)
    have h2 : (G + 1) * (f1 * P) ≤ (G + 1) * V := Int.mul_le_mul_of_nonneg_left hV0 (by omega)
    rw [Int.mul_assoc] at h1
    have h3 : (G + 1) * V = G * V + V := by rw [Int.add_mul, Int.one_mul]
    omega
theorem guess_lo {P V T t3 f1 G : Int} (hP : 0 < P) (hf : 1048576 ≤ f1) (hV0 : f1 * P ≤ V) (hV1 : V < (f1 + 1) * P) (hT0 : t3 * P ≤ T) (hG : G * f1 ≤ t3) (hG0 : 0 ≤ G) (hG1 : G ≤ 1048575) : -V ≤ T - G * V := by
  have h1 : G * V ≤ G * ((f1 + 1) * P) := Int.mul_le_mul_of_nonneg_left (by omega) hG0
  have h2 : G * f1 * P ≤ t3 * P := Int.mul_le_mul_of_nonneg_right hG (by omega)
  have h3 : G * P ≤ f1 * P := Int.mul_le_mul_of_nonneg_right (by omega) (by omega)
  have h4 : G * ((f1 + 1) * P) = G * f1 * P + G * P := by rw [Int.add_mul, Int.one_mul, Int.mul_add, Int.mul_assoc]
  omega

theorem nv_drop_wn (U : List Int) (o n : Nat) : nv (U.drop o) = wn U o n + pw n * nv (U.drop (o + n)) := by
  have h := nv_append ((U.drop o).take n) ((U.drop o).drop n)
  rw [List.take_append_drop, List.drop_drop] at h
  rw [h]
  unfold wn
  rcases Nat.lt_or_ge (U.drop o).length n with hl | hl
  · rw [List.length_drop] at hl
    have e : U.drop (o + n) = [] := List.drop_of_length_le (by omega)
    rw [e, nv_nil, Int.mul_zero, Int.mul_zero]
  · rw [List.length_take, Nat.min_eq_left hl]

theorem nv_tail_congr {U V : List Int} {o : Nat} (hl : U.length = V.length) (h : ∀ j, o ≤ j → U.getD j 0 = V.getD j 0) : nv (U.drop o) = nv (V.drop o) := by
  rw [nv_drop_wn U o U.length, nv_drop_wn V o U.length, wn_congr (V := V) (fun j _ => h (o + j) (by omega)), List.drop_of_length_le (l := U) (by omega), List.drop_of_length_le (l := V) (by omega)]

/-- What lies above the window is zero. -/
theorem above_zero {U : List Int} {j n : Nat} {V : Int} (hd : Dig U) (hR : nv (U.drop (j + 1)) < V) (hV : V < pw n) : nv (U.drop (j + 1 + n)) = 0 := by
  have h1 := nv_drop_wn U (j + 1) n
  have h2 := (hd.drop (j + 1 + n)).nv_nonneg
  have h3 := wn_bd (U := U) (o := j + 1) (n := n) (fun i _ => hd.getD' _)
  rcases Int.lt_or_le 0 (nv (U.drop (j + 1 + n))) with h | h
  · have : pw n * 1 ≤ pw n * nv (U.drop (j + 1 + n)) := Int.mul_le_mul_of_nonneg_left (by omega) (by have := pw_pos n; omega)
    omega
  · omega

/-- The window of a digit of the quotient: its value, and the bound of it. -/
theorem window {U : List Int} {j n : Nat} {V : Int} (hd : Dig U) (hj : j < U.length) (hR : nv (U.drop (j + 1)) < V) (hV : V < pw n) :
    nv (U.drop j) = wn U j (n + 1) ∧ 0 ≤ wn U j (n + 1) ∧ wn U j (n + 1) < 1048576 * V := by
  have h0 := above_zero hd hR hV
  have h1 := nv_drop_wn U j (n + 1)
  rw [show j + (n + 1) = j + 1 + n by omega, h0, Int.mul_zero, Int.add_zero] at h1
  have h2 := drop_cons hj
  have h3 := hd.getD' j
  have h4 := (hd.drop (j + 1)).nv_nonneg
  rw [h2, nv_cons] at h1
  refine ⟨by rw [h2, nv_cons, h1], by omega, by omega⟩

theorem after_window {U U' : List Int} {j n : Nat} (hd : Dig U) (hl : U'.length = U.length) (h0 : nv (U.drop (j + 1 + n)) = 0) (hs : ∀ i, (i < j ∨ j + n < i) → U'.getD i 0 = U.getD i 0)
    (hw : ∀ i, i < n → 0 ≤ U'.getD (j + i) 0 ∧ U'.getD (j + i) 0 < 1048576) (ht : U'.getD (j + n) 0 = 0) :
    Dig U' ∧ nv (U'.drop j) = wn U' j n ∧ nv U' = nv U + pw j * (wn U' j n - nv (U.drop j)) := by
  have hD : Dig U' := Dig.of_getD (fun k _ => by
    by_cases h1 : k < j ∨ j + n < k
    · rw [hs k h1]; exact hd.getD' k
    · by_cases h2 : k = j + n
      · rw [h2, ht]; decide
      · have := hw (k - j) (by omega)
        rw [show j + (k - j) = k by omega] at this
        exact this)
  have h1 := nv_drop_wn U' j (n + 1)
  rw [show j + (n + 1) = j + 1 + n by omega, nv_tail_congr (o := j + 1 + n) hl (fun i hi => hs i (by omega)), h0, Int.mul_zero, Int.add_zero, wn_succ, ht, Int.mul_zero, Int.add_zero] at h1
  have h2 := nv_drop_wn U' 0 j
  have h3 := nv_drop_wn U 0 j
  rw [Nat.zero_add, List.drop_zero, wn_congr (V := U) (fun i hi => hs (0 + i) (by omega)), h1] at h2
  rw [Nat.zero_add, List.drop_zero] at h3
  refine ⟨hD, h1, ?_⟩
  rw [h2, h3, Int.mul_sub]
  omega

/-- Where the first two digits of a divisor lie. -/
theorem first_two {l : List Int} {n : Nat} (hd : Dig l) (hn : l.length = n) (h2 : 2 ≤ n) : (l.getD (n - 1) 0 * 1048576 + l.getD (n - 2) 0) * pw (n - 2) ≤ nv l ∧ nv l < (l.getD (n - 1) 0 * 1048576 + l.getD (n - 2) 0 + 1) * pw (n - 2) := by
  obtain ⟨k, rfl⟩ : ∃ k, n = k + 2 := ⟨n - 2, by omega⟩
  have e := nv_take_all l (k := k + 2) (by omega)
  rw [nv_take_succ', nv_take_succ', pw_succ] at e
  have h := (hd.take k).nv_lt
  have h0 := (hd.take k).nv_nonneg
  rw [List.length_take, Nat.min_eq_left (by omega)] at h
  simp only [Nat.add_sub_cancel, show k + 2 - 1 = k + 1 from rfl]
  rw [← e, Int.add_mul, Int.add_mul, Int.add_mul, Int.one_mul]
  have e1 : l.getD (k + 1) 0 * 1048576 * pw k = 1048576 * pw k * l.getD (k + 1) 0 := by rw [Int.mul_assoc, Int.mul_comm]
  have e2 : l.getD k 0 * pw k = pw k * l.getD k 0 := Int.mul_comm _ _
  omega
theorem first_three {U : List Int} {j n : Nat} (hd : Dig U) (h2 : 2 ≤ n) : (U.getD (j + n) 0 * 1099511627776 + U.getD (j + (n - 1)) 0 * 1048576 + U.getD (j + (n - 2)) 0) * pw (n - 2) ≤ wn U j (n + 1) ∧
    wn U j (n + 1) < (U.getD (j + n) 0 * 1099511627776 + U.getD (j + (n - 1)) 0 * 1048576 + U.getD (j + (n - 2)) 0 + 1) * pw (n - 2) := by
  obtain ⟨k, rfl⟩ : ∃ k, n = k + 2 := ⟨n - 2, by omega⟩
  have h := wn_bd (U := U) (o := j) (n := k) (fun i _ => hd.getD' _)
  rw [wn_succ, wn_succ, wn_succ, pw_succ (k + 1), pw_succ k]
  simp only [Nat.add_sub_cancel, show k + 2 - 1 = k + 1 from rfl]
  obtain ⟨a, ha⟩ : ∃ a, U.getD (j + (k + 2)) 0 = a := ⟨_, rfl⟩
  obtain ⟨b, hb⟩ : ∃ a, U.getD (j + (k + 1)) 0 = a := ⟨_, rfl⟩
  obtain ⟨c, hc⟩ : ∃ a, U.getD (j + k) 0 = a := ⟨_, rfl⟩
  rw [ha, hb, hc]
  obtain ⟨p, hp⟩ : ∃ p, pw k = p := ⟨_, rfl⟩
  rw [hp] at h ⊢
  have e0 : ∀ z : Int, (a * 1099511627776 + b * 1048576 + c + z) * p = 1099511627776 * (p * a) + 1048576 * (p * b) + p * c + z * p := fun z => by
    rw [Int.add_mul, Int.add_mul, Int.add_mul, Int.mul_comm c p, Int.mul_assoc a, Int.mul_assoc b, Int.mul_left_comm a, Int.mul_left_comm b, Int.mul_comm a p, Int.mul_comm b p]
  have e1 := e0 0
  have e2 := e0 1
  rw [Int.add_zero, Int.zero_mul] at e1
  rw [Int.one_mul] at e2
  have e3 : 1048576 * p * b = 1048576 * (p * b) := Int.mul_assoc _ _ _
  have e4 : 1048576 * (1048576 * p) * a = 1099511627776 * (p * a) := by rw [← Int.mul_assoc 1048576 1048576, Int.mul_assoc]; rfl
  omega

theorem top_bd {y : Int} {n : Nat} (hy : 0 ≤ y) (hn : (D y).length = n) (h1 : 1 ≤ n) : pw (n - 1) * (D y).getD (n - 1) 0 ≤ y ∧ y < pw (n - 1) * ((D y).getD (n - 1) 0 + 1) := by
  obtain ⟨k, rfl⟩ : ∃ k, n = k + 1 := ⟨n - 1, by omega⟩
  have e := nv_take_all (D y) (k := k + 1) (by omega)
  rw [nv_D hy, nv_take_succ'] at e
  have h := ((Dig_D y).take k).nv_lt
  have h0 := ((Dig_D y).take k).nv_nonneg
  rw [List.length_take, Nat.min_eq_left (by omega)] at h
  rw [Nat.add_sub_cancel, Int.mul_add, Int.mul_one]
  omega

/-- The factor that lets the first digit have all its bits. -/
theorem scaled {y : Int} {n bl : Nat} (hy : 0 ≤ y) (hn : (D y).length = n) (h1 : 1 ≤ n) (hb : 1 ≤ bl) (hb2 : bl ≤ 20) (ht : (D y).getD (n - 1) 0 + 1 ≤ 2 ^ bl) (ht1 : 1 ≤ (D y).getD (n - 1) 0) {f : Int} (hf : f = 2 ^ (20 - bl)) :
    1 ≤ f ∧ f ≤ 524288 ∧ pw (n - 1) ≤ y ∧ f * y < pw n := by
  have ⟨h2, h3⟩ := top_bd hy hn h1
  have hfp : 1 ≤ f := by
    rw [hf]
    have : (0 : Int) < 2 ^ (20 - bl) := Int.pow_pos (by omega)
    omega
  have hff : f * 2 ^ bl = 1048576 := by
    rw [hf, ← Int.pow_add, show 20 - bl + bl = 20 by omega]; rfl
  have hp := pw_pos (n - 1)
  refine ⟨hfp, ?_, ?_, ?_⟩
  · have : f * 2 ≤ f * 2 ^ bl := Int.mul_le_mul_of_nonneg_left (by
      obtain ⟨j, rfl⟩ : ∃ j, bl = j + 1 := ⟨bl - 1, by omega⟩
      rw [Int.pow_succ]
      have : (0 : Int) < 2 ^ j := Int.pow_pos (by omega)
      omega) (by omega)
    omega
  · have : pw (n - 1) * 1 ≤ pw (n - 1) * (D y).getD (n - 1) 0 := Int.mul_le_mul_of_nonneg_left ht1 (by omega)
    omega
  · have a1 : f * y < f * (pw (n - 1) * ((D y).getD (n - 1) 0 + 1)) := Int.mul_lt_mul_of_pos_left h3 (by omega)
    have a2 : f * ((D y).getD (n - 1) 0 + 1) ≤ f * 2 ^ bl := Int.mul_le_mul_of_nonneg_left ht (by omega)
    have a3 : pw (n - 1) * (f * ((D y).getD (n - 1) 0 + 1)) ≤ pw (n - 1) * (f * 2 ^ bl) := Int.mul_le_mul_of_nonneg_left a2 (by omega)
    rw [hff] at a3
    have a4 : f * (pw (n - 1) * ((D y).getD (n - 1) 0 + 1)) = pw (n - 1) * (f * ((D y).getD (n - 1) 0 + 1)) := by
      rw [← Int.mul_assoc, Int.mul_comm f, Int.mul_assoc]
    have a5 : pw n = 1048576 * pw (n - 1) := by rw [← pw_succ, show n - 1 + 1 = n by omega]
    omega

theorem scaled_lt {f x : Int} {m : Nat} (hf : f ≤ 524288) (hx : 0 ≤ x) (h : x < pw m) : f * x < pw (m + 1) := by
  rw [pw_succ]
  have h1 : f * x ≤ 524288 * x := Int.mul_le_mul_of_nonneg_right hf hx
  omega
theorem le_scaled {f x : Int} (hf : 1 ≤ f) (hx : 0 ≤ x) : x ≤ f * x := by
  have h1 : 1 * x ≤ f * x := Int.mul_le_mul_of_nonneg_right hf hx
  omega

/-- Of a quotient and a remainder that both are scaled. -/
theorem unscale {f x y q u : Int} (hf : 1 ≤ f) (hy : 1 ≤ y) (h : u + f * y * q = f * x) (h0 : 0 ≤ u) (h1 : u < f * y) : q = x / y ∧ u / f = x % y := by
  have e : u = f * (x - y * q) := by
    rw [Int.mul_sub, ← Int.mul_assoc]; omega
  have e2 : u / f = x - y * q := by rw [e]; exact Int.mul_ediv_cancel_left _ (by omega)
  have r0 : 0 ≤ x - y * q := by
    rw [← e2]; exact Int.ediv_nonneg h0 (by omega)
  have r1 : x - y * q < y := by
    rw [← e2]; exact Int.ediv_lt_of_lt_mul (by omega) (by rw [Int.mul_comm]; exact h1)
  have e3 : x = (x - y * q) + y * q := by omega
  have e4 : x / y = q := by
    rw [e3, Int.add_mul_ediv_left _ _ (by omega), Int.ediv_eq_zero_of_lt r0 r1]; omega
  have e5 : x % y = x - y * q := by rw [Int.emod_def, e4]
  exact ⟨e4.symm, by rw [e2, e5]⟩

/-- The digits of a quotient: one round. -/
theorem round_q {V Pj q tq T T' nU nU' tot : Int} (h : nU + V * (1048576 * Pj * tq) = tot) (hU : nU' = nU + Pj * (T' - T)) (hT : T' = T - q * V) : nU' + V * (Pj * (q + 1048576 * tq)) = tot := by
  rw [hU, hT, ← h, Int.mul_add Pj, Int.mul_add V]
  have e1 : Pj * (T - q * V - T) = -(V * (Pj * q)) := by
    rw [show T - q * V - T = -(q * V) by omega, Int.mul_neg, ← Int.mul_assoc, Int.mul_comm]
  have e2 : Pj * (1048576 * tq) = 1048576 * Pj * tq := by rw [← Int.mul_assoc, Int.mul_comm Pj]
  rw [e1, e2]
  omega

end Go.Proofs.YtgpmmpajnfbecaaGreat

namespace Go.Proofs.YtgpmmpajnfbecaaGreat
open Go.RowKit

theorem D_len_cmp {x y : Int} (hx : 0 ≤ x) (hy : 0 ≤ y) (h : (D x).length < (D y).length) : x < y := by
  have h1 := (D_len_le hx (k := (D x).length)).1 (Nat.le_refl _)
  have h2 := (D_len_lt hy (k := (D x).length)).1 h
  omega

theorem quiet_add_same {P : Program} {f : FuncId} {args : Array Value} {w : World} {a n : Nat} {v : Value}
    (h : Calls P f args (w.drewN (a + n)) fun e w' => e = .returned v ∧ w' = w.drewN (a + n)) :
    Calls P f args (w.drewN (a + n)) fun e w'' => e = .returned v ∧ ∃ m, w'' = w.drewN (a + m) :=
  h.mono fun _ _ ⟨he, hm⟩ => ⟨he, n, hm⟩
set_option maxHeartbeats 1000000 in
theorem order_any (x y : Int) (Aa Ab : Option Addr) (ca cb : Nat) (w : World) (B : Nat) (hIa : IntsAt B w Aa (D x)) (hIb : IntsAt B w Ab (D y)) (hx : 0 ≤ x) (hy : 0 ≤ y) (hla : (D x).length ≤ 1000) (hlb : (D y).length ≤ 1000) :
    Calls Tryz.prog 95 #[.slice Aa (D x).length ca, .slice Ab (D y).length cb] w fun e w' => e = .returned (.int .i64 (Lib.compareInt x y)) ∧ ∃ n, w' = w.drewN n := by
  have hlt := fun h => D_len_cmp hx hy h
  have hgt := fun h => D_len_cmp hy hx h
  have hxv := nv_D hx
  have hyv := nv_D hy
  have hda := Dig_D x
  have hdb := Dig_D y
  obtain ⟨la, ela⟩ : ∃ l, D x = l := ⟨_, rfl⟩
  obtain ⟨lb, elb⟩ : ∃ l, D y = l := ⟨_, rfl⟩
  rw [ela] at hIa hla hlt hgt hxv hda ⊢
  rw [elb] at hIb hlb hlt hgt hyv hdb ⊢
  clear ela elb
  obtain ⟨na, hna⟩ : ∃ n, la.length = n := ⟨_, rfl⟩
  obtain ⟨nb, hnb⟩ : ∃ n, lb.length = n := ⟨_, rfl⟩
  have hza : la.length ≤ na ∧ na ≤ la.length := by omega
  have hzb : lb.length ≤ nb ∧ nb ≤ lb.length := by omega
  rw [hna] at hla hlt hgt ⊢
  rw [hnb] at hlb hlt hgt ⊢
  clear hna hnb
  have HLT := Lib.hid hlt; clear hlt
  have HGT := Lib.hid hgt; clear hgt
  have HX := Lib.hid hxv; clear hxv
  have HY := Lib.hid hyv; clear hyv
  by_cases hne : na = nb
  · subst hne
    go_enter Tryz.func95, Tryz.ntmps95
    go_wp2_with fail
    go_loopw [5] (fun i wr => ∃ k : Nat, k ≤ na ∧ i = .int .i64 ((k : Int) - 1) ∧ Hid (la.drop k = lb.drop k) ∧ ∃ q, wr = w.drewN q) (fun i _ => (intOf i + 1).toNat)
    case atStart => exact ⟨na, Nat.le_refl _, rfl, Lib.hid (by rw [List.drop_of_length_le (by omega), List.drop_of_length_le (by omega)]), 0, rfl⟩
    case round =>
      obtain ⟨k, hk, rfl, hd, q, rfl⟩ := hrel
      by_cases h0 : 0 < k
      · obtain ⟨j, rfl⟩ : ∃ j, k = j + 1 := ⟨k - 1, by omega⟩
        obtain ⟨b1, off1, hA1, hB1, hc1⟩ := hIa j (by omega)
        obtain ⟨b2, off2, hA2, hB2, hc2⟩ := hIb j (by omega)
        subst hA1; subst hA2
        have e1 := drop_cons (l := la) (k := j) (by omega)
        have e2 := drop_cons (l := lb) (k := j) (by omega)
        have h3 := fun h => nv_lt_of hda hdb (by omega) (k := j) (by omega) hd.out h
        have h4 := fun h => nv_lt_of hdb hda (by omega) (k := j) (by omega) hd.out.symm h
        obtain ⟨u, hu⟩ : ∃ u, la.getD j 0 = u := ⟨_, rfl⟩
        obtain ⟨v, hv⟩ : ∃ u, lb.getD j 0 = u := ⟨_, rfl⟩
        rw [hu] at hc1 e1 h3 h4
        rw [hv] at hc2 e2 h3 h4
        clear hu hv
        have HE1 := Lib.hid e1; clear e1
        have HE2 := Lib.hid e2; clear e2
        have H3 := Lib.hid h3; clear h3
        have H4 := Lib.hid h4; clear h4
        have hcw1 : (w.drewN q).cell? ⟨b1, off1 + j, none⟩ = some (.int .i64 u) := hc1
        have hcw2 : (w.drewN q).cell? ⟨b2, off2 + j, none⟩ = some (.int .i64 v) := hc2
        have hi : ((j : Int) + 1 - 1) = j := by omega
        by_cases huv : u = v
        · subst huv
          go_wp2_with fail
          go_quiet (fail)
          go_wp2_with fail
          go_roundw
          case rel => exact ⟨j, by omega, by first | rfl | (congr 1; omega), Lib.hid (by rw [HE1.out, HE2.out, hd.out]), _, rfl⟩
          case measure => simp [intOf]
        · have huv' : (u != v) = true := by simpa using huv
          have hcmp : Lib.compareInt u v = Lib.compareInt x y := by
            have k3 := H3.out
            have k4 := H4.out
            rw [HX.out, HY.out] at k3 k4
            unfold Lib.compareInt
            rcases Int.lt_or_le u v with h | h
            · have := k3 h
              rw [if_pos h, if_pos this]
            · have := k4 (by omega)
              rw [if_neg (by omega), if_pos (by omega), if_neg (by omega), if_pos (by omega)]
          have HC := Lib.hid hcmp; clear hcmp
          go_wp2_with fail
          go_quiet (fail)
          go_wp2_with fail
          go_quiet ((go_at_call 102; exact quiet_add_same (Tryz.cmp_Compare_int _ _ _)))
          go_wp2_with fail
          go_ret
          exact ⟨by rw [HC.out]; rfl, _, by rw [World.drewN_drewN, World.drewN_drewN]⟩
      · have : k = 0 := by omega
        subst this
        have he := hd.out
        rw [List.drop_zero, List.drop_zero] at he
        have hxy : x = y := by rw [← HX.out, ← HY.out, he]
        have hcmp : Lib.compareInt x y = 0 := by
          unfold Lib.compareInt
          rw [if_neg (by omega), if_neg (by omega)]
        have HC := Lib.hid hcmp; clear hxy he hcmp
        go_wp2_with fail
        go_ret
        exact ⟨by rw [HC.out]; rfl, _, rfl⟩
  · have hne' : decide (na = nb) = false := by simpa using hne
    have hcmp : Lib.compareInt (na : Int) (nb : Int) = Lib.compareInt x y := by
      unfold Lib.compareInt
      rcases Nat.lt_or_ge na nb with h | h
      · have := HLT.out h
        rw [if_pos (by omega), if_pos (by omega)]
      · have := HGT.out (by omega)
        rw [if_neg (by omega), if_pos (by omega), if_neg (by omega), if_pos (by omega)]
    have HC := Lib.hid hcmp; clear hcmp
    go_enter Tryz.func95, Tryz.ntmps95
    go_wp2_with (go_at_call 102; refine (Tryz.cmp_Compare_int _ _ _).mono ?_; rintro e w' ⟨rfl, rfl⟩)
    go_ret
    exact ⟨by rw [← HC.out]; rfl, 0, rfl⟩

theorem clone_any (l : List Int) (A : Option Addr) (c : Nat) (w : World) (hI : IntsAt w.heap.size w A l) (hl : l.length ≤ 1000000) :
    Calls Tryz.prog 94 #[.slice A l.length c] w fun e w' => ∃ v', e = .returned v' ∧ OwnI w' w.heap.size v' l ∧ Below w.heap.size w w' := by
  rcases A with _ | a
  · have : l = [] := by
      cases l with
      | nil => rfl
      | cons d l => obtain ⟨b, off, h, _⟩ := hI 0 (by simp); cases h
    subst this
    exact (Tryz.slices_Clone_int_nil _ _ _).mono fun e w' ⟨he, hw⟩ => ⟨_, he, OwnI.nil _ _, by rw [hw]; exact Below.refl _ _⟩
  · rcases Nat.eq_zero_or_pos l.length with h | h
    · have : l = [] := List.eq_nil_of_length_eq_zero h
      subst this
      exact (Tryz.slices_Clone_int_zero a c w).mono fun e w' ⟨v', he, ho, _, hb⟩ => ⟨v', he, ho, hb⟩
    · obtain ⟨b, off, ha, _, _⟩ := hI 0 h
      injection ha with ha
      subst ha
      refine (Tryz.slices_Clone_int b off l.length c l w (Nat.le_refl _) (by omega) (fun j hj => ?_)).mono fun e w' ⟨v', he, ho, _, hb⟩ => ⟨v', he, by rw [List.take_length] at ho; exact ho, hb⟩
      obtain ⟨b', off', ha, _, hc⟩ := hI j hj
      injection ha with ha
      injection ha with h1 h2
      subst h1; subst h2
      exact hc

/-- slices.Equal. -/
theorem equal_any (la lb : List Int) (Aa Ab : Option Addr) (ca cb B : Nat) (w : World) (hIa : IntsAt B w Aa la) (hIb : IntsAt B w Ab lb) (hla : la.length ≤ 9223372036854775807) (hlb : lb.length ≤ 9223372036854775807) :
    Calls Tryz.prog 79 #[.slice Aa la.length ca, .slice Ab lb.length cb] w fun e w' => e = .returned (.bool (decide (la = lb))) ∧ ∃ n, w' = w.drewN n := by
  by_cases hne : la.length = lb.length
  · rcases Nat.eq_zero_or_pos la.length with h | h
    · have h1 : la = [] := List.eq_nil_of_length_eq_zero h
      have h2 : lb = [] := List.eq_nil_of_length_eq_zero (by omega)
      subst h1; subst h2
      exact (Tryz.slices_Equal_int_empty Aa Ab ca 0 cb w (by omega)).mono fun e w' ⟨he, hw⟩ => ⟨by rw [he]; rfl, 0, hw⟩
    · obtain ⟨b1, o1, h1, _, _⟩ := hIa 0 h
      obtain ⟨b2, o2, h2, _, _⟩ := hIb 0 (by omega)
      subst h1; subst h2
      refine (Tryz.slices_Equal_int b1 o1 la.length ca b2 o2 lb.length cb la lb w (Nat.le_refl _) (Nat.le_refl _) hla hlb (fun j hj => ?_) (fun j hj => ?_)).mono fun e w' ⟨he, hw⟩ => ⟨by
        rw [he, List.take_length, List.take_length]; congr 2; rw [Bool.eq_iff_iff]; simp, hw⟩
      · obtain ⟨b', off', ha, _, hc⟩ := hIa j hj
        injection ha with ha
        injection ha with h1 h2
        subst h1; subst h2
        exact hc
      · obtain ⟨b', off', ha, _, hc⟩ := hIb j hj
        injection ha with ha
        injection ha with h1 h2
        subst h1; subst h2
        exact hc
  · exact (Tryz.slices_Equal_int_lens Aa Ab la.length ca lb.length cb w hne).mono fun e w' ⟨he, hw⟩ => ⟨by
      rw [he]; congr 2; simp; intro h; exact hne (by rw [h]), 0, hw⟩

end Go.Proofs.YtgpmmpajnfbecaaGreat
