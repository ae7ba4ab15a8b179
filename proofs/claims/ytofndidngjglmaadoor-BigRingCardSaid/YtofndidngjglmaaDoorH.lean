/- Walks: subtract. -/
import Derived.Test.YtofndidngjglmaaDoorF
namespace Go.Proofs.YtofndidngjglmaaDoor
open Go.RowKit

theorem getD_drop (l : List Int) (o k : Nat) : (l.drop o).getD k 0 = l.getD (o + k) 0 := by
  rw [List.getD_eq_getElem?_getD, List.getD_eq_getElem?_getD, List.getElem?_drop]
theorem drop_set_ge (l : List Int) (o k : Nat) (z : Int) : (l.set (o + k) z).drop o = (l.drop o).set k z := by
  rw [List.drop_set, if_neg (by omega)]
  congr 1; omega
theorem grown_trans {w w1 w2 : World} {r : Option Nat} (h1 : w.grownBy w1 r) (h2 : w1.grownBy w2 r) : w.grownBy w2 r :=
  ⟨h2.os.trans h1.os, h2.tape.trans h1.tape, h2.output.trans h1.output, Nat.le_trans h1.size h2.size, fun k hk hr => (h2.block k (Nat.lt_of_lt_of_le hk h1.size) hr).trans (h1.block k hk hr)⟩
theorem grown_set {w w1 : World} {g k : Nat} (h : w.grownBy w1 (some g)) (v : Value) : w.grownBy (w1.setCell ⟨g, k, none⟩ v) (some g) :=
  grown_trans h ⟨rfl, rfl, rfl, by simp, fun j _ hr => Below.heap_setCell w1 ⟨g, k, none⟩ v j (fun e => hr (by rw [e]))⟩

/-- The value of n digits from o on. -/
def wn (U : List Int) (o n : Nat) : Int := nv ((U.drop o).take n)
theorem wn_succ (U : List Int) (o n : Nat) : wn U o (n + 1) = wn U o n + pw n * U.getD (o + n) 0 := by
  unfold wn
  rw [nv_take_succ', getD_drop]
theorem wn_zero (U : List Int) (o : Nat) : wn U o 0 = 0 := rfl
theorem wn_congr {U V : List Int} {o n : Nat} (h : ∀ j, j < n → U.getD (o + j) 0 = V.getD (o + j) 0) : wn U o n = wn V o n := by
  induction n with
  | zero => rfl
  | succ n ih => rw [wn_succ, wn_succ, ih (fun j hj => h j (by omega)), h n (by omega)]
theorem wn_bd {U : List Int} {o n : Nat} (h : ∀ j, j < n → 0 ≤ U.getD (o + j) 0 ∧ U.getD (o + j) 0 < 1048576) : 0 ≤ wn U o n ∧ wn U o n < pw n := by
  induction n with
  | zero => rw [wn_zero, pw_zero]; decide
  | succ n ih =>
    have h1 := ih (fun j hj => h j (by omega))
    have h2 := h n (by omega)
    have h3 := pw_pos n
    rw [wn_succ, pw_succ]
    have h4 : pw n * 0 ≤ pw n * U.getD (o + n) 0 := Int.mul_le_mul_of_nonneg_left h2.1 (by omega)
    have h5 : pw n * U.getD (o + n) 0 ≤ pw n * 1048575 := Int.mul_le_mul_of_nonneg_left (by omega) (by omega)
    omega

theorem sub_step {A P c T f V t d u : Int} (h : A + P * c = T - f * V) (hu : u = c + (t - f * d)) :
    A + P * (u % 1048576) + 1048576 * P * (u / 1048576) = T + P * t - f * (V + P * d) := by
  have e1 : u % 1048576 + 1048576 * (u / 1048576) = u := by omega
  rw [Int.mul_comm 1048576 P, Int.mul_assoc, Int.add_assoc, ← Int.mul_add, e1, hu, Int.mul_add, Int.mul_sub, Int.mul_add]
  have e3 : P * (f * d) = f * (P * d) := by rw [← Int.mul_assoc, Int.mul_comm P f, Int.mul_assoc]
  rw [e3]
  omega

def SubPost (U lv : List Int) (g off N cN B n : Nat) (tp f : Int) (w : World) (e : Ending) (w' : World) : Prop := ∃ (U' : List Int) (t : Int), e = .returned (.bool (decide (0 ≤ t))) ∧ U'.length = N ∧ OwnI w' B (.slice (some ⟨g, 0, none⟩) N cN) U' ∧
  (∀ j, (j < off ∨ off + n < j) → U'.getD j 0 = U.getD j 0) ∧ (∀ j, j < n → 0 ≤ U'.getD (off + j) 0 ∧ U'.getD (off + j) 0 < 1048576) ∧ U'.getD (off + n) 0 = t ∧
  wn U' off n + pw n * t = wn U off n + pw n * tp - f * nv lv ∧ w.grownBy w' (some g)

set_option maxRecDepth 100000 in
set_option maxHeartbeats 1000000 in
theorem subtract_any (U lv : List Int) (g off N cN cu cv B n : Nat) (Av : Option Addr) (f : Int) (w : World) (hn : lv.length = n) (hU : U.length = N) (hoff : off + n < N) (hN : N ≤ 1000) (hcu : n + 1 ≤ cu)
    (hO : OwnI w B (.slice (some ⟨g, 0, none⟩) N cN) U) (hI : IntsAt B w Av lv) (hdv : Dig lv) (hf0 : -1 ≤ f) (hf1 : f < 1048576)
    (hW : ∀ j, j < n → 0 ≤ U.getD (off + j) 0 ∧ U.getD (off + j) 0 < 1048576) (tp : Int) (htp : U.getD (off + n) 0 = tp) (hT : -2097152 ≤ tp ∧ tp ≤ 2097152) :
    Calls Tryd.prog 64 #[.slice (some ⟨g, off, none⟩) (n + 1) cu, .slice Av n cv, .int .i64 f] w (SubPost U lv g off N cN B n tp f w) := by
  have HN := Lib.hid hn
  have HU := Lib.hid hU
  have hnn : lv.length ≤ n ∧ n ≤ lv.length := by omega
  clear hn hU
  have hBg := hO.lt.1
  have HW := Lib.hid hW; clear hW
  have HTP := Lib.hid htp; clear htp
  go_enter Tryd.func64, Tryd.ntmps64
  go_wp2_with fail
  go_loopw [7, 12] (fun cc i wr => ∃ (k : Nat) (c' : Int) (U' : List Int), k ≤ n ∧ i = .int .i64 k ∧ cc = .int .i64 c' ∧ -2097152 ≤ c' ∧ c' ≤ 2097152 ∧ Hid (U'.length = N) ∧ OwnI wr B (.slice (some ⟨g, 0, none⟩) N cN) U' ∧
    Hid (∀ j, (j < off ∨ off + k ≤ j) → U'.getD j 0 = U.getD j 0) ∧ Hid (∀ j, j < k → 0 ≤ U'.getD (off + j) 0 ∧ U'.getD (off + j) 0 < 1048576) ∧ Hid (wn U' off k + pw k * c' = wn U off k - f * nv (lv.take k)) ∧ w.grownBy wr (some g)) (fun _ i _ => n - (intOf i).toNat)
  case atStart => exact ⟨0, 0, U, Nat.zero_le _, rfl, rfl, by omega, by omega, HU, hO, Lib.hid (fun _ _ => rfl), Lib.hid (fun j h => by cases h), Lib.hid (by simp [wn_zero, nv]), World.grownBy.refl _ _⟩
  case round =>
    obtain ⟨k, c', U', hk, rfl, rfl, h0, h1, hl, hown, hsame, hdg, hv, hgr⟩ := hrel
    have hbB : Below B w wr := (Below.refl B w).grown hgr (by have := hO.lt; omega) (fun j e => by cases e; exact hBg)
    by_cases hlt : k < n
    · obtain ⟨b, o, hA, hbl, hc⟩ := hI k (by omega)
      subst hA
      have hcv := (hbB.cell (p := ⟨b, o + k, none⟩) hbl).trans hc
      have hd1 := hdv.getD (k := k) (by omega)
      have hxs := nv_take_succ (l := lv) (k := k) (by omega)
      obtain ⟨d, hdd⟩ : ∃ d, lv.getD k 0 = d := ⟨_, rfl⟩
      rw [hdd] at hcv hd1 hxs
      clear hdd hc
      have HXS := Lib.hid hxs; clear hxs
      have hcu := hown.cell (k := off + k) hl.out (by omega)
      rw [hsame.out (off + k) (.inr (Nat.le_refl _))] at hcu
      have hff := hown.frozen (k := off + k) hl.out
      have hu1 := HW.out k hlt
      have hws := wn_succ U off k
      obtain ⟨u, hu⟩ : ∃ u, U.getD (off + k) 0 = u := ⟨_, rfl⟩
      rw [hu] at hcu hu1 hws
      clear hu
      have HWS := Lib.hid hws; clear hws
      have hm := mul_bd (x := f) (d := d) (M := 1048576) (by omega) (by omega) hd1.1 (by omega) (by omega)
      go_wp2_with fail
      go_roundw
      case rel => exact ⟨k + 1, _, U'.set (off + k) ((c' + (u - f * d)) % 1048576), by omega, by go_num, rfl, by omega, by omega, Lib.hid (by simp [hl.out]), by (rw [and_low]; exact hown.store hl.out (off + k) _), Lib.hid (fun j hj => by
          rw [getD_set (by rw [hl.out]; omega), if_neg (by omega)]; exact hsame.out j (by omega)), Lib.hid (fun j hj => by
          rw [getD_set (by rw [hl.out]; omega)]
          split
          · omega
          · exact hdg.out j (by omega)), Lib.hid (by
          rw [wn_succ, wn_congr (V := U') (fun j hj => by rw [getD_set (by rw [hl.out]; omega), if_neg (by omega)]), getD_set (by rw [hl.out]; omega), if_pos rfl, HWS.out, HXS.out, pw_succ]
          exact sub_step hv.out rfl), grown_set hgr _⟩
      case measure => simp [intOf]; omega
    · have : k = n := by omega
      subst this
      have hcu := hown.cell (k := off + k) hl.out (by omega)
      rw [hsame.out (off + k) (.inr (Nat.le_refl _)), HTP.out] at hcu
      have hff := hown.frozen (k := off + k) hl.out
      have hvv := hv.out
      rw [List.take_of_length_le (by omega)] at hvv
      have HVV := Lib.hid hvv; clear hvv
      by_cases ht : 0 ≤ tp + c'
      all_goals
        go_wp2_with fail
        go_ret
        refine ⟨U'.set (off + k) (tp + c'), tp + c', ?_, by simp [hl.out], hown.store hl.out _ _, fun j hj => ?_, fun j hj => ?_, ?_, ?_, grown_set hgr _⟩
        · simp [ht]
        · rw [getD_set (by rw [hl.out]; omega), if_neg (by omega)]; exact hsame.out j (by omega)
        · rw [getD_set (by rw [hl.out]; omega), if_neg (by omega)]; exact hdg.out j hj
        · rw [getD_set (by rw [hl.out]; omega), if_pos rfl]
        · rw [wn_congr (V := U') (fun j hj => by rw [getD_set (by rw [hl.out]; omega), if_neg (by omega)]), Int.mul_add]
          have := HVV.out
          omega

end Go.Proofs.YtofndidngjglmaaDoor
