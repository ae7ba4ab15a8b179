/- Walks: the reference's less, plus and minus. Walks: divideShort, split. Walks: times. -/
import Derived.Test.YtkjpfnbdlbnbkaaGreatDoorXab
import Derived.Deep.QuietTactic
import Derived.BigQuiet
import Derived.Lib.MinMax
import Derived.Laws.Bits64b

namespace Go.Proofs.YtkjpfnbdlbnbkaaGreatDoor
open Go.RowKit

theorem nv_take_any (l : List Int) (k : Nat) : nv (l.take (k + 1)) = nv (l.take k) + pw k * l.getD k 0 := by
  rcases Nat.lt_or_ge k l.length with h | h
  · exact nv_take_succ h
  · rw [List.take_of_length_le (by omega), List.take_of_length_le (by omega), List.getD_eq_getElem?_getD, List.getElem?_eq_none h]
    simp
theorem nv_drop (l : List Int) (k : Nat) : nv l = nv (l.take k) + pw k * nv (l.drop k) := by
  rcases Nat.lt_or_ge k l.length with h | h
  · have h1 := nv_append (l.take k) (l.drop k)
    rw [List.take_append_drop, List.length_take, Nat.min_eq_left (by omega)] at h1
    exact h1
  · rw [List.take_of_length_le h, List.drop_eq_nil_of_le h, nv_nil]; simp
theorem nv_drop_any (l : List Int) (k : Nat) : nv (l.drop k) = l.getD k 0 + 1048576 * nv (l.drop (k + 1)) := by
  rcases Nat.lt_or_ge k l.length with h | h
  · rw [List.drop_eq_getElem_cons h, nv_cons, List.getD_eq_getElem?_getD, List.getElem?_eq_getElem h]; rfl
  · rw [List.drop_eq_nil_of_le h, List.drop_eq_nil_of_le (by omega), List.getD_eq_getElem?_getD, List.getElem?_eq_none h]; rfl
theorem Dig.take_lt {l : List Int} (h : Dig l) (k : Nat) : 0 ≤ nv (l.take k) ∧ nv (l.take k) < pw k := by
  have h1 := (h.take k).nv_nonneg
  have h2 := (h.take k).nv_lt
  have h3 := pw_le (show (l.take k).length ≤ k by rw [List.length_take]; omega)
  omega
/-- Where the higher digits agree and one differs, it decides. -/
theorem less_of {a b : List Int} (ha : Dig a) (hb : Dig b) {k : Nat} (h : nv (a.drop (k + 1)) = nv (b.drop (k + 1))) (hd : a.getD k 0 < b.getD k 0) : nv a < nv b := by
  have h1 := nv_drop a k
  have h2 := nv_drop b k
  rw [nv_drop_any] at h1 h2
  have h3 := ha.take_lt k
  have h4 := hb.take_lt k
  rw [h] at h1
  obtain ⟨U, hU⟩ : ∃ U, nv (b.drop (k + 1)) = U := ⟨_, rfl⟩
  rw [hU] at h1 h2
  have h5 : pw k * (a.getD k 0 + 1048576 * U) + pw k ≤ pw k * (b.getD k 0 + 1048576 * U) := by
    have h6 := Int.mul_add (pw k) (a.getD k 0 + 1048576 * U) 1
    rw [Int.mul_one] at h6
    rw [← h6]
    exact Int.mul_le_mul_of_nonneg_left (by omega) (by have := pw_pos k; omega)
  omega

set_option maxRecDepth 100000 in
set_option maxHeartbeats 2000000 in
theorem rless_any (a b : List Int) (va vb : Value) (w : World) (h1 : Sv w va a) (h2 : Sv w vb b) (ha : Dig a) (hb : Dig b) (hla : a.length ≤ 1000) (hlb : b.length ≤ 1000) (r : Bool) (hr : r = decide (nv a < nv b)) :
    Calls Tryz.prog 64 #[va, vb] w fun e w' => e = .returned (.bool r) ∧ w = w' := by
  have hda := fun i d (hd : a.getD i 0 = d) => rdigit_any a i va w h1 d hd
  have hdb := fun i d (hd : b.getD i 0 = d) => rdigit_any b i vb w h2 d hd
  obtain ⟨A, c, rfl, _, _, _⟩ := h1
  obtain ⟨B, c', rfl, _, _, _⟩ := h2
  obtain ⟨n, hn⟩ : ∃ n, a.length = n := ⟨_, rfl⟩
  obtain ⟨m, hm⟩ : ∃ n, b.length = n := ⟨_, rfl⟩
  have hN : (max n m : Nat) ≤ 1000 := by omega
  have hmax : max (n : Int) (m : Int) = ((max n m : Nat) : Int) := by omega
  have hdr : nv (a.drop (max n m)) = nv (b.drop (max n m)) := by rw [List.drop_eq_nil_of_le (by omega), List.drop_eq_nil_of_le (by omega)]
  rw [hn] at hda hla ⊢
  rw [hm] at hdb hlb ⊢
  obtain ⟨N, hNN⟩ : ∃ N, (max n m : Nat) = N := ⟨_, rfl⟩
  rw [hNN] at hN hmax hdr
  have HDA := Lib.hid hda; clear hda
  have HDB := Lib.hid hdb; clear hdb
  have HDR := Lib.hid hdr; clear hdr
  have HR := Lib.hid hr; clear hr
  have HA := Lib.hid ha; clear ha
  have HB := Lib.hid hb; clear hb
  clear hn hm hNN
  go_enter Tryz.func64, Tryz.ntmps64
  go_wp2_with fail
  clear hmax
  go_loop [5] (fun i => ∃ k : Nat, k ≤ N ∧ i = .int .i64 ((k : Int) - 1) ∧ Hid (nv (a.drop k) = nv (b.drop k))) (fun i => (intOf i + 1).toNat)
  case atStart => exact ⟨N, Nat.le_refl _, rfl, HDR⟩
  case round =>
    obtain ⟨k, hk, rfl, hv⟩ := hrel
    by_cases h0 : 0 < k
    · obtain ⟨j, rfl⟩ : ∃ j, k = j + 1 := ⟨k - 1, by omega⟩
      have hj : ((j + 1 : Nat) : Int) - 1 = (j : Int) := by omega
      rw [hj]
      clear hj h0
      obtain ⟨x, hx⟩ : ∃ x, a.getD j 0 = x := ⟨_, rfl⟩
      obtain ⟨y, hy⟩ : ∃ x, b.getD j 0 = x := ⟨_, rfl⟩
      have HX := Lib.hid hx; clear hx
      have HY := Lib.hid hy; clear hy
      go_wp2_with fail
      (with_reducible refine (HDA.out j x HX.out).mono ?_)
      rintro e w1 ⟨rfl, rfl⟩
      go_wp2_with fail
      (with_reducible refine (HDB.out j y HY.out).mono ?_)
      rintro e w1 ⟨rfl, rfl⟩
      by_cases hxy : x = y
      · subst hxy
        go_wp2_with fail
        go_round
        case rel => exact ⟨j, by omega, by first | rfl | go_num, Lib.hid (by rw [nv_drop_any, nv_drop_any b, HX.out, HY.out, hv.out])⟩
        case measure => simp [intOf]
      · have hne : (x != y) = true := by simpa using hxy
        have hres : decide (x < y) = r := by
          rw [HR.out, decide_eq_decide]
          constructor
          · intro h; exact less_of HA.out HB.out hv.out (by rw [HX.out, HY.out]; exact h)
          · intro h
            rcases Int.lt_or_gt_of_ne hxy with g | g
            · exact g
            · have := less_of HB.out HA.out hv.out.symm (by rw [HX.out, HY.out]; exact g)
              omega
        have HRES := Lib.hid hres; clear hres
        go_wp2_with fail
        (with_reducible refine (HDA.out j x HX.out).mono ?_)
        rintro e w1 ⟨rfl, rfl⟩
        go_wp2_with fail
        (with_reducible refine (HDB.out j y HY.out).mono ?_)
        rintro e w1 ⟨rfl, rfl⟩
        go_wp2_with fail
        go_ret
        exact ⟨by rw [← HRES.out]; rfl, rfl⟩
    · have : k = 0 := by omega
      subst this
      have hres : r = false := by
        rw [HR.out, decide_eq_false_iff_not]
        have := hv.out
        rw [List.drop_zero, List.drop_zero] at this
        omega
      subst hres
      go_wp2_with fail
      go_ret
      exact ⟨rfl, rfl⟩

theorem plus_step {a b o : List Int} {k : Nat} {c x y : Int} (hl : o.length = k) (h : nv o + pw k * c = nv (a.take k) + nv (b.take k)) (hx : a.getD k 0 = x) (hy : b.getD k 0 = y) :
    nv (o ++ [(x + y + c) % 1048576]) + pw (k + 1) * ((x + y + c) / 1048576) = nv (a.take (k + 1)) + nv (b.take (k + 1)) := by
  rw [nv_snoc, hl, nv_take_any, nv_take_any, hx, hy, pw_succ]
  have e1 : 1048576 * pw k * ((x + y + c) / 1048576) = pw k * (1048576 * ((x + y + c) / 1048576)) := by rw [Int.mul_comm 1048576, Int.mul_assoc]
  rw [e1]
  have e2 : pw k * ((x + y + c) % 1048576) + pw k * (1048576 * ((x + y + c) / 1048576)) = pw k * (x + y + c) := by rw [← Int.mul_add]; congr 1; omega
  have e3 : pw k * (x + y + c) = pw k * x + pw k * y + pw k * c := by rw [Int.mul_add, Int.mul_add]
  omega
theorem plus_end {a b o : List Int} {k : Nat} {c : Int} (ha : Dig a) (hb : Dig b) (ho : Dig o) (h : nv o + pw k * c = nv (a.take k) + nv (b.take k)) (hk : a.length < k) (hk2 : b.length < k) (hc : 0 ≤ c) : c = 0 := by
  rw [List.take_of_length_le (by omega), List.take_of_length_le (by omega)] at h
  have h1 := ha.nv_lt
  have h2 := hb.nv_lt
  have h3 := pw_le (show a.length ≤ k - 1 by omega)
  have h4 := pw_le (show b.length ≤ k - 1 by omega)
  have h5 := pw_succ (k - 1)
  rw [show k - 1 + 1 = k by omega] at h5
  have h6 := ho.nv_nonneg
  have h7 := pw_pos (k - 1)
  rcases Int.lt_or_eq_of_le hc with g | g
  · have : pw k * 1 ≤ pw k * c := Int.mul_le_mul_of_nonneg_left (by omega) (by omega)
    omega
  · exact g.symm

set_option maxRecDepth 100000 in
set_option maxHeartbeats 2000000 in
theorem rplus_any (a b : List Int) (va vb : Value) (w : World) (h1 : Sv w va a) (h2 : Sv w vb b) (ha : Dig a) (hb : Dig b) (hla : a.length ≤ 1000) (hlb : b.length ≤ 1000) :
    Calls Tryz.prog 63 #[va, vb] w fun e w' => ∃ v', e = .returned v' ∧ OwnI w' w.heap.size v' (D (nv a + nv b)) ∧ Below w.heap.size w w' := by
  have hda := fun (w' : World) (hb : Below w.heap.size w w') i d (hd : a.getD i 0 = d) => rdigit_any a i va w' (h1.later hb) d hd
  have hdb := fun (w' : World) (hb : Below w.heap.size w w') i d (hd : b.getD i 0 = d) => rdigit_any b i vb w' (h2.later hb) d hd
  obtain ⟨A, c, rfl, _, _, _⟩ := h1
  obtain ⟨B, c', rfl, _, _, _⟩ := h2
  obtain ⟨n, hn⟩ : ∃ n, a.length = n := ⟨_, rfl⟩
  obtain ⟨m, hm⟩ : ∃ n, b.length = n := ⟨_, rfl⟩
  have hnm : a.length ≤ n ∧ b.length ≤ m := by omega
  rw [hn] at hda hla ⊢
  rw [hm] at hdb hlb ⊢
  have HDA := Lib.hid hda; clear hda
  have HDB := Lib.hid hdb; clear hdb
  have HA := Lib.hid ha; clear ha
  have HB := Lib.hid hb; clear hb
  clear hn hm
  go_enter Tryz.func63, Tryz.ntmps63
  go_wp2_with fail
  go_loopw [5, 6, 7] (fun o cc i wr => ∃ (k : Nat) (l : List Int) (z : Int), i = .int .i64 k ∧ cc = .int .i64 z ∧ OwnI wr w.heap.size o l ∧ Hid (l.length = k) ∧ Dig l ∧ 0 ≤ z ∧ z ≤ 1 ∧ Hid (nv l + pw k * z = nv (a.take k) + nv (b.take k)) ∧ k ≤ max n m + 1 ∧ Below w.heap.size w wr) (fun _ _ i _ => (2000 - intOf i).toNat)
  case atStart => exact ⟨0, [], 0, rfl, rfl, OwnI.nil _ _, Lib.hid rfl, Dig.nil, by omega, by omega, Lib.hid rfl, by omega, Below.refl _ _⟩
  case round =>
    obtain ⟨k, l, z, rfl, rfl, hown, hlen, hdig, hz0, hz1, hv, hk, hbw⟩ := hrel
    have hs := hbw.size
    have hl9 : l.length ≤ 10000000 := by have := hlen.out; omega
    by_cases hgo : k < n ∨ k < m ∨ 0 < z
    · have hk2 : k < max n m + 1 := by
        rcases hgo with g | g | g
        · omega
        · omega
        · rcases Nat.lt_or_ge k (max n m + 1) with g2 | g2
          · exact g2
          · have := plus_end HA.out HB.out hdig hv.out (by omega) (by omega) hz0
            omega
      obtain ⟨x, hx⟩ : ∃ x, a.getD k 0 = x := ⟨_, rfl⟩
      obtain ⟨y, hy⟩ : ∃ x, b.getD k 0 = x := ⟨_, rfl⟩
      have bx := HA.out.getD' k
      have by_ := HB.out.getD' k
      rw [hx] at bx
      rw [hy] at by_
      obtain ⟨bx0, bx1⟩ := bx
      obtain ⟨by0, by1⟩ := by_
      have hst := plus_step hlen.out hv.out hx hy
      have HST := Lib.hid hst; clear hst
      have HX := Lib.hid hx; clear hx
      have HY := Lib.hid hy; clear hy
      have hpart : (k < n) ∨ (¬ k < n ∧ k < m) ∨ (¬ k < n ∧ ¬ k < m ∧ 0 < z) := by omega
      clear hgo hnm
      rcases hpart with g1 | ⟨g1, g2⟩ | ⟨g1, g2, g3⟩
      · have q1 : decide (k < n) = true := by simpa using g1
        go_wp2_with fail
        (with_reducible refine (HDA.out _ hbw k x HX.out).mono ?_)
        rintro e w1 ⟨rfl, rfl⟩
        go_wp2_with fail
        (with_reducible refine (HDB.out _ hbw k y HY.out).mono ?_)
        rintro e w1 ⟨rfl, rfl⟩
        go_wp2_with (first
          | (at_builtin; refine appI rfl (.tmp 34) (.tmp 37) rfl w.heap.size _ l ((x + y + z) % 1048576) rfl hown rfl hl9 hs ?_; intro v1 w1 hown1 hb1))
        go_roundw
        case rel => exact ⟨k + 1, _, _, by go_num, rfl, hown1, Lib.hid (by simp [hlen.out]), hdig.snoc (by omega) (by omega), by omega, by omega, HST, by omega, hbw.trans hb1⟩
        case measure => simp [intOf]; omega
      · have q1 : decide (k < n) = false := by simpa using g1
        have q2 : decide (k < m) = true := by simpa using g2
        go_wp2_with fail
        (with_reducible refine (HDA.out _ hbw k x HX.out).mono ?_)
        rintro e w1 ⟨rfl, rfl⟩
        go_wp2_with fail
        (with_reducible refine (HDB.out _ hbw k y HY.out).mono ?_)
        rintro e w1 ⟨rfl, rfl⟩
        go_wp2_with (first
          | (at_builtin; refine appI rfl (.tmp 34) (.tmp 37) rfl w.heap.size _ l ((x + y + z) % 1048576) rfl hown rfl hl9 hs ?_; intro v1 w1 hown1 hb1))
        go_roundw
        case rel => exact ⟨k + 1, _, _, by go_num, rfl, hown1, Lib.hid (by simp [hlen.out]), hdig.snoc (by omega) (by omega), by omega, by omega, HST, by omega, hbw.trans hb1⟩
        case measure => simp [intOf]; omega
      · have q1 : decide (k < n) = false := by simpa using g1
        have q2 : decide (k < m) = false := by simpa using g2
        go_wp2_with fail
        (with_reducible refine (HDA.out _ hbw k x HX.out).mono ?_)
        rintro e w1 ⟨rfl, rfl⟩
        go_wp2_with fail
        (with_reducible refine (HDB.out _ hbw k y HY.out).mono ?_)
        rintro e w1 ⟨rfl, rfl⟩
        go_wp2_with (first
          | (at_builtin; refine appI rfl (.tmp 34) (.tmp 37) rfl w.heap.size _ l ((x + y + z) % 1048576) rfl hown rfl hl9 hs ?_; intro v1 w1 hown1 hb1))
        go_roundw
        case rel => exact ⟨k + 1, _, _, by go_num, rfl, hown1, Lib.hid (by simp [hlen.out]), hdig.snoc (by omega) (by omega), by omega, by omega, HST, by omega, hbw.trans hb1⟩
        case measure => simp [intOf]; omega
    · have hz : z = 0 := by omega
      subst hz
      have g1 : ¬ k < n := by omega
      have g2 : ¬ k < m := by omega
      have q1 : decide (k < n) = false := by simpa using g1
      have q2 : decide (k < m) = false := by simpa using g2
      have he : nv l = nv a + nv b := by
        have := hv.out
        rw [List.take_of_length_le (by omega), List.take_of_length_le (by omega)] at this
        omega
      have HE := Lib.hid he; clear he hgo hnm
      go_wp2_with fail
      (with_reducible refine (rtrim_any l _ _ hown.sv hdig (by have := hlen.out; omega)).mono ?_)
      rintro e w1 ⟨v1, rfl, hv1, hb1⟩
      go_wp2_with fail
      go_ret
      exact ⟨_, rfl, by rw [← HE.out]; exact hv1.mono hs, hbw.trans (hb1.mono hs)⟩

theorem below_dr {B : Nat} {w w' : World} (h : Below B w w') (n : Nat) : Below B w (w'.drewN n) := ⟨h.os, h.tape, h.output, h.size, h.block⟩
theorem minus_step {a b o : List Int} {k : Nat} {c x y d e : Int} (hl : o.length = k) (h : nv o - pw k * c = nv (a.take k) - nv (b.take k)) (hx : a.getD k 0 = x) (hy : b.getD k 0 = y) (hde : d - 1048576 * e = x - y - c) :
    nv (o ++ [d]) - pw (k + 1) * e = nv (a.take (k + 1)) - nv (b.take (k + 1)) := by
  rw [nv_snoc, hl, nv_take_any, nv_take_any, hx, hy, pw_succ]
  have e1 : 1048576 * pw k * e = pw k * (1048576 * e) := by rw [Int.mul_comm 1048576, Int.mul_assoc]
  rw [e1]
  have e2 : pw k * d - pw k * (1048576 * e) = pw k * (x - y - c) := by rw [← Int.mul_sub, hde]
  have e3 : pw k * (x - y - c) = pw k * x - pw k * y - pw k * c := by rw [Int.mul_sub, Int.mul_sub]
  omega

set_option maxRecDepth 100000 in
set_option maxHeartbeats 2000000 in
theorem rminus_any (a b : List Int) (va vb : Value) (w : World) (h1 : Sv w va a) (h2 : Sv w vb b) (ha : Dig a) (hb : Dig b) (hla : a.length ≤ 1000) (hlb : b.length ≤ a.length) (hge : nv b ≤ nv a) :
    Calls Tryz.prog 65 #[va, vb] w fun e w' => ∃ v', e = .returned v' ∧ OwnI w' w.heap.size v' (D (nv a - nv b)) ∧ Below w.heap.size w w' := by
  have hdb := fun (w' : World) (hb : Below w.heap.size w w') i d (hd : b.getD i 0 = d) => rdigit_any b i vb w' (h2.later hb) d hd
  obtain ⟨A, c, rfl, _, _, hI⟩ := h1
  obtain ⟨B, c', rfl, _, _, _⟩ := h2
  obtain ⟨n, hn⟩ : ∃ n, a.length = n := ⟨_, rfl⟩
  obtain ⟨m, hm⟩ : ∃ n, b.length = n := ⟨_, rfl⟩
  have hnm : a.length ≤ n ∧ b.length ≤ n := by omega
  rw [hn] at hla ⊢
  rw [hm] at hdb ⊢
  have HDB := Lib.hid hdb; clear hdb
  have HA := Lib.hid ha; clear ha
  have HB := Lib.hid hb; clear hb
  have HGE := Lib.hid hge; clear hge
  have HIA := Lib.hid hI; clear hI
  have HNN : Hid (a.length = n) := Lib.hid hn
  clear hn hm hlb
  go_enter Tryz.func65, Tryz.ntmps65
  go_wp2_with fail
  go_loopw [5, 6, 7] (fun o cc i wr => ∃ (k : Nat) (l : List Int) (z : Int), i = .int .i64 k ∧ cc = .int .i64 z ∧ OwnI wr w.heap.size o l ∧ Hid (l.length = k) ∧ Dig l ∧ 0 ≤ z ∧ z ≤ 1 ∧ Hid (nv l - pw k * z = nv (a.take k) - nv (b.take k)) ∧ k ≤ n ∧ Below w.heap.size w wr) (fun _ _ i _ => (2000 - intOf i).toNat)
  case atStart => exact ⟨0, [], 0, rfl, rfl, OwnI.nil _ _, Lib.hid rfl, Dig.nil, by omega, by omega, Lib.hid rfl, by omega, Below.refl _ _⟩
  case round =>
    obtain ⟨k, l, z, rfl, rfl, hown, hlen, hdig, hz0, hz1, hv, hk, hbw⟩ := hrel
    have hs := hbw.size
    have hl9 : l.length ≤ 10000000 := by have := hlen.out; omega
    by_cases hlt : k < n
    · obtain ⟨bb, off, hA, hbb, hc⟩ := HIA.out k (by have := HNN.out; omega)
      subst hA
      have hc := (hbw.cell (p := ⟨bb, off + k, none⟩) hbb).trans hc
      obtain ⟨x, hx⟩ : ∃ x, a.getD k 0 = x := ⟨_, rfl⟩
      obtain ⟨y, hy⟩ : ∃ x, b.getD k 0 = x := ⟨_, rfl⟩
      have bx := HA.out.getD' k
      have by_ := HB.out.getD' k
      rw [hx] at bx hc
      rw [hy] at by_
      obtain ⟨bx0, bx1⟩ := bx
      obtain ⟨by0, by1⟩ := by_
      have hst := fun d e (h : d - 1048576 * e = x - y - z) => minus_step hlen.out hv.out hx hy h
      have HST := Lib.hid hst; clear hst
      have HX := Lib.hid hx; clear hx
      have hdc := fun nq => (HDB.out (wr.drewN nq) (below_dr hbw nq) k y hy).mono fun _ _ h => (⟨h.1, h.2.symm⟩ : _ ∧ _ = _)
      have HDC := Lib.hid hdc; clear hdc
      have HY := Lib.hid hy; clear hy
      clear hnm
      have how := fun q => (show OwnI (wr.drewN q) w.heap.size _ l from hown)
      have HOW := Lib.hid how; clear how
      by_cases hneg : x - y - z < 0
      · have q1 : decide (x - y - z < 0) = true := by simpa using hneg
        go_wp2_with fail
        go_quiet ((go_at_call 98; exact Calls.quiet_of_same (HDC.out _)))
        go_wp2_with (first
          | (at_builtin; refine appI rfl (.tmp 29) (.tmp 31) rfl w.heap.size _ l (x - y - z + 1048576) rfl (HOW.out _) rfl hl9 hs ?_; intro v1 w1 hown1 hb1))
        go_roundw
        case rel => exact ⟨k + 1, _, 1, by go_num, rfl, hown1, Lib.hid (by simp [hlen.out]), hdig.snoc (by omega) (by omega), by omega, by omega, Lib.hid (HST.out _ _ (by omega)), by omega, (below_dr hbw _).trans hb1⟩
        case measure => simp [intOf]; omega
      · have q1 : decide (x - y - z < 0) = false := by simpa using hneg
        go_wp2_with fail
        go_quiet ((go_at_call 98; exact Calls.quiet_of_same (HDC.out _)))
        go_wp2_with (first
          | (at_builtin; refine appI rfl (.tmp 29) (.tmp 31) rfl w.heap.size _ l (x - y - z) rfl (HOW.out _) rfl hl9 hs ?_; intro v1 w1 hown1 hb1))
        go_roundw
        case rel => exact ⟨k + 1, _, 0, by go_num, rfl, hown1, Lib.hid (by simp [hlen.out]), hdig.snoc (by omega) (by omega), by omega, by omega, Lib.hid (HST.out _ _ (by omega)), by omega, (below_dr hbw _).trans hb1⟩
        case measure => simp [intOf]; omega
    · have he : nv l = nv a - nv b := by
        have h1 := hv.out
        rw [List.take_of_length_le (by omega), List.take_of_length_le (by omega)] at h1
        have h2 := hdig.nv_lt
        have h3 := pw_le (show l.length ≤ k by have := hlen.out; omega)
        have h4 := HGE.out
        rcases Int.lt_or_eq_of_le hz0 with g | g
        · have : pw k * 1 ≤ pw k * z := Int.mul_le_mul_of_nonneg_left (by omega) (by have := pw_pos k; omega)
          omega
        · rw [← g, Int.mul_zero] at h1; omega
      have HE := Lib.hid he; clear he hnm
      go_wp2_with fail
      (with_reducible refine (rtrim_any l _ _ hown.sv hdig (by have := hlen.out; omega)).mono ?_)
      rintro e w1 ⟨v1, rfl, hv1, hb1⟩
      go_wp2_with fail
      go_ret
      exact ⟨_, rfl, by rw [← HE.out]; exact hv1.mono hs, hbw.trans (hb1.mono hs)⟩

end Go.Proofs.YtkjpfnbdlbnbkaaGreatDoor

namespace Go.Proofs.YtkjpfnbdlbnbkaaGreatDoor
open Go.RowKit

theorem two63 : (2 : Int) ^ 63 = 9223372036854775808 := by decide

theorem or_low {r d : Int} (h0 : 0 ≤ r) (h1 : r < 4398046511104) (d0 : 0 ≤ d) (d1 : d < 1048576) : bits BinOp.or IntKind.i64 (r * 1048576) d = r * 1048576 + d := by
  have e : (2 : Int) ^ 20 = 1048576 := by decide
  exact bits_join .i64 63 (by decide) (fun n h0 h1 => by rw [two63] at h1; rw [IntKind.wrap_i64]; omega) 20 (r * 1048576) d (by omega) (by rw [e]; omega) (by rw [two63]; omega) d0 (by rw [e]; omega) (by rw [two63]; omega)

theorem div_step {f r d q r' t tq : Int} (h : t = f * tq + r) (e : r * 1048576 + d = f * q + r') : d + 1048576 * t = f * (q + 1048576 * tq) + r' := by
  rw [h, Int.mul_add, Int.mul_add, ← Int.mul_assoc 1048576 f, Int.mul_comm 1048576 f, Int.mul_assoc]
  omega

theorem drop_cons {l : List Int} {k : Nat} (h : k < l.length) : l.drop k = l.getD k 0 :: l.drop (k + 1) := by
  rw [List.drop_eq_getElem_cons h, List.getD_eq_getElem?_getD, List.getElem?_eq_getElem h]; rfl
theorem drop_set_eq {l : List Int} {k : Nat} (h : k < l.length) (z : Int) : (l.set k z).drop k = z :: l.drop (k + 1) := by
  rw [List.drop_eq_getElem_cons (by simpa using h), List.getElem_set_self, List.drop_set_of_lt (by omega)]

theorem quo_lt {f r d : Int} (hf : 1 ≤ f) (h0 : 0 ≤ r) (h1 : r < f) (d0 : 0 ≤ d) (d1 : d < 1048576) : 0 ≤ (r * 1048576 + d) / f ∧ (r * 1048576 + d) / f < 1048576 := by
  refine ⟨Int.ediv_nonneg (by omega) (by omega), Int.ediv_lt_of_lt_mul (by omega) ?_⟩
  have : (r + 1) * 1048576 ≤ f * 1048576 := Int.mul_le_mul_of_nonneg_right (by omega) (by omega)
  rw [Int.mul_comm 1048576 f]
  omega

set_option maxHeartbeats 400000 in
theorem divideShort_any (l : List Int) (A : Option Addr) (cA : Nat) (f : Int) (w : World) (hI : IntsAt w.heap.size w A l) (hd : Dig l) (hl : l.length ≤ 200) (hf0 : 1 ≤ f) (hf1 : f ≤ 1099511627776) :
    Calls Tryz.prog 83 #[.slice A l.length cA, .int .i64 f] w fun e w' => ∃ v', e = .returned (.tuple #[v', .int .i64 (nv l % f)]) ∧ OwnI w' w.heap.size v' (D (nv l / f)) ∧ Below w.heap.size w w' := by
  obtain ⟨n, hn⟩ : ∃ n, l.length = n := ⟨_, rfl⟩
  have hnn : l.length ≤ n ∧ n ≤ l.length := by omega
  rw [hn] at hl ⊢
  have HN := Lib.hid hn; clear hn
  go_enter Tryz.func83, Tryz.ntmps83
  go_wp2_with (at_make; refine makeI rfl (.tmp 10) (.tmp 10) rfl w.heap.size n n _ _ rfl rfl rfl rfl (by omega) (by omega) (Nat.le_refl _) ?_; intro w0 hown0 hb0 hsz0)
  have hlt0 := hown0.lt.2
  go_loopw [7, 8] (fun cc i wr => ∃ (k : Nat) (r : Int) (qs : List Int), k ≤ n ∧ i = .int .i64 (k - 1) ∧ cc = .int .i64 r ∧ 0 ≤ r ∧ r < f ∧ Hid (qs.length = n) ∧ OwnI wr w.heap.size (.slice (some ⟨w.heap.size, 0, none⟩) n n) qs ∧ Dig (qs.drop k) ∧ Hid (nv (l.drop k) = f * nv (qs.drop k) + r) ∧ Below w.heap.size w wr) (fun _ i _ => (intOf i + 1).toNat)
  case atStart => exact ⟨n, 0, List.replicate n 0, Nat.le_refl _, rfl, rfl, by omega, by omega, Lib.hid (by simp), hown0, by (rw [List.drop_of_length_le (by simp)]; exact Dig.nil), Lib.hid (by rw [List.drop_of_length_le (by omega), List.drop_of_length_le (by simp)]; simp [nv]), hb0⟩
  case round =>
    obtain ⟨k, r, qs, hk, rfl, rfl, h0, h1, hql, hown, hdg, hv, hb⟩ := hrel
    have hs := hb.size
    by_cases hlt : 0 < k
    · obtain ⟨j, rfl⟩ : ∃ j, k = j + 1 := ⟨k - 1, by omega⟩
      obtain ⟨b, off, hA, hbB, hc⟩ := hI j (by omega)
      subst hA
      have hd1 := hd.getD (k := j) (by omega)
      have hc := (hb.cell (p := ⟨b, off + j, none⟩) hbB).trans hc
      have hdc := drop_cons (l := l) (k := j) (by omega)
      obtain ⟨d, hdd⟩ : ∃ d, l.getD j 0 = d := ⟨_, rfl⟩
      rw [hdd] at hc hd1 hdc
      clear hdd
      have HDC := Lib.hid hdc; clear hdc
      have hfc := hown.cell (k := j) hql.out (by omega)
      have hff := hown.frozen (k := j) hql.out
      obtain ⟨u, hu⟩ : ∃ u, qs.getD j 0 = u := ⟨_, rfl⟩
      rw [hu] at hfc
      clear hu
      have hor := or_low (r := r) (d := d) h0 (by omega) hd1.1 hd1.2
      have hq := quo_lt hf0 h0 h1 hd1.1 hd1.2
      have hm0 := Int.emod_nonneg (r * 1048576 + d) (b := f) (by omega)
      have hm1 := Int.emod_lt_of_pos (r * 1048576 + d) (b := f) (by omega)
      have hz : (f == 0) = false := by simp; omega
      have HR := Lib.hid (Int.mul_ediv_add_emod (r * 1048576 + d) f)
      go_wp2_with fail
      go_roundw
      case rel => exact ⟨j, _, qs.set j ((r * 1048576 + d) / f), by omega, by first | rfl | (congr 1; omega), rfl, hm0, hm1, Lib.hid (by simp [hql.out]), hown.store hql.out j _, by
          rw [drop_set_eq (by rw [hql.out]; omega)]
          intro x hx
          rcases List.mem_cons.1 hx with rfl | hx
          · exact hq
          · exact hdg x hx, Lib.hid (by
          rw [drop_set_eq (by rw [hql.out]; omega), HDC.out, nv_cons, nv_cons]
          exact div_step hv.out HR.out.symm), by exact hb.setCell (p := ⟨w.heap.size, j, none⟩) (Nat.le_refl _) _⟩
      case measure => simp [intOf]
    · have : k = 0 := by omega
      subst this
      have hv' := hv.out
      rw [List.drop_zero, List.drop_zero] at hv'
      rw [List.drop_zero] at hdg
      have hq : nv l / f = nv qs ∧ nv l % f = r := by
        rw [hv', Int.add_comm]
        exact ⟨by rw [Int.add_mul_ediv_left _ _ (by omega), Int.ediv_eq_zero_of_lt h0 h1, Int.zero_add], by rw [Int.add_mul_emod_self_left, Int.emod_eq_of_lt h0 h1]⟩
      have HQ := Lib.hid hq; clear hv' hq
      go_wp2_with (refine (trim_any qs _ _ w.heap.size hown hdg (by rw [hql.out]; omega)).mono ?_; rintro e w1 ⟨v1, rfl, hown1, rfl⟩)
      go_ret2
      rw [HQ.out.1, HQ.out.2]
      exact ⟨_, rfl, hown1, hb⟩

theorem split_any (z : Int) (w : World) (h0 : 0 ≤ z) (h1 : z < 18446744073709551616) :
    Calls Tryz.prog 90 #[.int .u64 z] w fun e w' => ∃ v', e = .returned v' ∧ OwnI w' w.heap.size v' (D z) ∧ Below w.heap.size w w' := by
  go_enter Tryz.func90, Tryz.ntmps90
  go_wp2_with fail
  go_loopw [0, 3] (fun x d wr => ∃ (l' : List Int) (c' : Int), x = .int .u64 c' ∧ 0 ≤ c' ∧ c' < 18446744073709551616 ∧ OwnI wr w.heap.size d l' ∧ l'.length ≤ 4 ∧ Hid (D z = l' ++ D c') ∧ Hid (nv l' + pw l'.length * c' = z) ∧ Dig l' ∧ Below w.heap.size w wr) (fun x _ _ => (intOf x).toNat)
  case atStart => exact ⟨[], z, rfl, h0, h1, OwnI.nil _ _, by simp, Lib.hid rfl, Lib.hid (by simp [nv, pw]), Dig.nil, Below.refl _ _⟩
  case round =>
    obtain ⟨l', c', rfl, hc0, hc1, hown, hl, hD, hv, hdg, hb⟩ := hrel
    have hs := hb.size
    by_cases hp : 0 < c'
    · have hl3 : l'.length < 4 := by
        rcases Nat.lt_or_ge l'.length 4 with h | h
        · exact h
        · have e : l'.length = 4 := by omega
          have e1 := hv.out
          rw [e] at e1
          have e2 : pw 4 = 1208925819614629174706176 := by decide
          rw [e2] at e1
          have := hdg.nv_nonneg
          omega
      have hand : bits BinOp.and IntKind.u64 c' 1048575 = c' % 1048576 := by
        have h := bits_and_u64_nat c'.toNat 1048575 (by omega) (by omega)
        rw [show c'.toNat &&& 1048575 = c'.toNat % 1048576 from Nat.and_two_pow_sub_one_eq_mod _ 20, Int.toNat_of_nonneg hc0] at h
        have h2 : ((c'.toNat % 1048576 : Nat) : Int) = c' % 1048576 := by omega
        exact h.trans h2
      go_wp2_with (first
        | (at_builtin; refine appI rfl (.tmp 8) (.tmp 12) rfl w.heap.size _ l' (c' % 1048576) rfl hown rfl (by omega) (by omega) ?_; intro v1 w1 hown1 hb1))
      go_roundw
      case rel => exact ⟨_, _, rfl, by omega, by omega, hown1, by simp; omega, Lib.hid (by rw [hD.out, D_pos hp]; simp), Lib.hid (by
        rw [← hv.out, nv_snoc, List.length_append, List.length_singleton, pw_succ, Int.mul_comm 1048576, Int.mul_assoc, Int.add_assoc, ← Int.mul_add]
        congr 2; omega), hdg.snoc (by omega) (by omega), hb.trans hb1⟩
      case measure => simp [intOf]; omega
    · have : c' = 0 := by omega
      subst this
      go_wp2_with fail
      go_ret
      exact ⟨_, rfl, by rw [hD.out, D_zero, List.append_nil]; exact hown, hb⟩

end Go.Proofs.YtkjpfnbdlbnbkaaGreatDoor

namespace Go.Proofs.YtkjpfnbdlbnbkaaGreatDoor
open Go.RowKit

theorem nv_set {l : List Int} {k : Nat} (h : k < l.length) (z : Int) : nv (l.set k z) = nv l + pw k * (z - l.getD k 0) := by
  have h1 := nv_split (l.set k z) (k + 1) (by simp; omega)
  have h2 := nv_split l (k + 1) (by omega)
  have hk : (l.take k).length = k := by rw [List.length_take]; omega
  rw [take_set_succ h, nv_snoc, hk, List.drop_set_of_lt (by omega)] at h1
  rw [nv_take_succ h] at h2
  rw [h1, h2, Int.mul_sub]
  omega
theorem getD_set {l : List Int} {k : Nat} (h : k < l.length) (z : Int) (j : Nat) : (l.set k z).getD j 0 = if j = k then z else l.getD j 0 := by
  rw [List.getD_eq_getElem?_getD, List.getD_eq_getElem?_getD, List.getElem?_set]
  by_cases e : k = j
  · subst e; simp [h]
  · rw [if_neg e, if_neg (fun h => e h.symm)]

def Bnd (l : List Int) (M : Int) : Prop := ∀ j, 0 ≤ l.getD j 0 ∧ l.getD j 0 ≤ M
theorem Bnd.set {l : List Int} {M M' : Int} (h : Bnd l M) (hM : M ≤ M') {k : Nat} (hk : k < l.length) {z : Int} (h0 : 0 ≤ z) (h1 : z ≤ M') : Bnd (l.set k z) M' := fun j => by
  rw [getD_set hk]
  split
  · exact ⟨h0, h1⟩
  · exact ⟨(h j).1, Int.le_trans (h j).2 hM⟩

theorem mul_dd {x y : Int} (hx : 0 ≤ x ∧ x < 1048576) (hy : 0 ≤ y ∧ y < 1048576) : 0 ≤ x * y ∧ x * y ≤ 1099511627776 := by
  have h1 : x * y ≤ 1048576 * y := Int.mul_le_mul_of_nonneg_right (by omega) hy.1
  exact ⟨Int.mul_nonneg hx.1 hy.1, by omega⟩

theorem inner_step {R A P x t y Pj V : Int} (h : R = A + P * (x * t)) (hV : V = R + P * Pj * (x * y)) : V = A + P * (x * (t + Pj * y)) := by
  rw [hV, h, Int.mul_add, Int.mul_add, Int.mul_assoc P Pj]
  have : Pj * (x * y) = x * (Pj * y) := by rw [← Int.mul_assoc, Int.mul_comm Pj x, Int.mul_assoc]
  rw [this]; omega

theorem third_step {ta P c d r Z : Int} (h : ta + P * (c + (d + 1048576 * r)) = Z) : ta + P * ((c + d) % 1048576) + 1048576 * P * ((c + d) / 1048576 + r) = Z := by
  rw [Int.mul_comm 1048576 P, Int.mul_assoc, Int.add_assoc, ← Int.mul_add, ← h]
  congr 2; omega

set_option maxHeartbeats 1000000 in
theorem times_any (la lb : List Int) (Aa Ab : Option Addr) (ca cb : Nat) (w : World) (hIa : IntsAt w.heap.size w Aa la) (hIb : IntsAt w.heap.size w Ab lb) (hda : Dig la) (hdb : Dig lb) (hla : la.length ≤ 62) (hlb : lb.length ≤ 62) :
    Calls Tryz.prog 67 #[.slice Aa la.length ca, .slice Ab lb.length cb] w fun e w' => ∃ v', e = .returned v' ∧ OwnI w' w.heap.size v' (D (nv la * nv lb)) ∧ Below w.heap.size w w' := by
  obtain ⟨na, hna⟩ : ∃ n, la.length = n := ⟨_, rfl⟩
  obtain ⟨nb, hnb⟩ : ∃ n, lb.length = n := ⟨_, rfl⟩
  have hza : la.length ≤ na ∧ na ≤ la.length := by omega
  have hzb : lb.length ≤ nb ∧ nb ≤ lb.length := by omega
  have hZ : nv la * nv lb < pw (na + nb) := by
    have h1 := hda.nv_lt
    have h2 := hdb.nv_lt
    rw [pw_add, ← hna, ← hnb]
    exact Int.lt_of_le_of_lt (Int.mul_le_mul_of_nonneg_right (by omega) hdb.nv_nonneg) (Int.mul_lt_mul_of_pos_left h2 (pw_pos _))
  rw [hna] at hla ⊢
  rw [hnb] at hlb ⊢
  have HNA := Lib.hid hna; clear hna
  have HNB := Lib.hid hnb; clear hnb
  have HZ := Lib.hid hZ; clear hZ
  obtain ⟨m, hm⟩ : ∃ m, na + nb = m := ⟨_, rfl⟩
  have hmm : na + nb ≤ m ∧ m ≤ na + nb := by omega
  have HM := Lib.hid hm; clear hm
  have hmul : ∀ i, i < na → i * nb + nb ≤ 3844 := fun i hi => by
    have h1 : (i + 1) * nb ≤ 62 * 62 := Nat.mul_le_mul (by omega) hlb
    rw [Nat.succ_mul] at h1
    exact h1
  have HMUL := Lib.hid hmul; clear hmul
  go_enter Tryz.func67, Tryz.ntmps67
  go_wp2_with (at_make; refine makeI rfl (.tmp 17) (.tmp 17) rfl w.heap.size m m _ _ rfl rfl (by omega) (by omega) (by omega) (by omega) (Nat.le_refl _) ?_; intro w0 hown0 hb0 hsz0)
  have hlt0 := hown0.lt.2
  go_loopw [21] (fun i wr => ∃ (k : Nat) (rs : List Int) (T : Nat), k ≤ na ∧ i = .int .i64 k ∧ T ≤ k * nb ∧ Hid (rs.length = m) ∧ OwnI wr w.heap.size (.slice (some ⟨w.heap.size, 0, none⟩) m m) rs ∧ Hid (Bnd rs (1099511627776 * T)) ∧ Hid (nv rs = nv (la.take k) * nv lb) ∧ Below w.heap.size w wr) (fun i _ => na - (intOf i).toNat)
  case atStart => exact ⟨0, List.replicate m 0, 0, Nat.zero_le _, rfl, by simp, Lib.hid (by simp), hown0, Lib.hid (fun j => by
    have : (List.replicate m (0:Int)).getD j 0 = 0 := by
      rw [List.getD_eq_getElem?_getD, List.getElem?_replicate]; split <;> rfl
    rw [this]; decide), Lib.hid (by rw [nv_replicate]; simp [nv]), hb0⟩
  case round =>
    obtain ⟨i, rs, T, hi, rfl, hT, hrl, hown, hbd, hv, hb⟩ := hrel
    have hs := hb.size
    by_cases hlt : i < na
    · obtain ⟨b, off, hA, hbB, hc⟩ := hIa i (by omega)
      subst hA
      have hx := hda.getD (k := i) (by omega)
      have hca := (hb.cell (p := ⟨b, off + i, none⟩) hbB).trans hc
      have hxs := nv_take_succ (l := la) (k := i) (by omega)
      obtain ⟨x, hxx⟩ : ∃ d, la.getD i 0 = d := ⟨_, rfl⟩
      rw [hxx] at hca hx hxs
      clear hxx hc
      have HXS := Lib.hid hxs; clear hxs
      have hT2 : T ≤ 3844 := by have := HMUL.out i hlt; omega
      have hiT : i * nb + nb ≤ 3844 := HMUL.out i hlt
      go_wp2_with fail
      obtain ⟨w1, hw1⟩ : ∃ w1 : World, w1 = wr := ⟨_, rfl⟩
      subst hw1
      go_loopw [28] (fun jv wr => ∃ (j : Nat) (rs' : List Int) (T' : Nat), j ≤ nb ∧ jv = .int .i64 j ∧ T' ≤ i * nb + j ∧ Hid (rs'.length = m) ∧ OwnI wr w.heap.size (.slice (some ⟨w.heap.size, 0, none⟩) m m) rs' ∧ Hid (Bnd rs' (1099511627776 * T')) ∧ Hid (nv rs' = nv (la.take i) * nv lb + pw i * (x * nv (lb.take j))) ∧ Below w.heap.size w wr) (fun j _ => nb - (intOf j).toNat)
      case atStart => exact ⟨0, rs, T, Nat.zero_le _, rfl, by omega, hrl, hown, hbd, Lib.hid (by rw [hv.out]; simp [nv]), hb⟩
      case round =>
        obtain ⟨j, rs', T', hj, rfl, hT', hrl', hown', hbd', hv', hb'⟩ := hrel
        have hs' := hb'.size
        by_cases hjl : j < nb
        · obtain ⟨b2, off2, hA2, hbB2, hc2⟩ := hIb j (by omega)
          subst hA2
          have hy := hdb.getD (k := j) (by omega)
          have hcb := (hb'.cell (p := ⟨b2, off2 + j, none⟩) hbB2).trans hc2
          have hys := nv_take_succ (l := lb) (k := j) (by omega)
          obtain ⟨y, hyy⟩ : ∃ d, lb.getD j 0 = d := ⟨_, rfl⟩
          rw [hyy] at hcb hy hys
          clear hyy hc2
          have HYS := Lib.hid hys; clear hys
          have hfc := hown'.cell (k := i + j) hrl'.out (by omega)
          have hff := hown'.frozen (k := i + j) hrl'.out
          have hxy := mul_dd hx hy
          have hbj := hbd'.out (i + j)
          have hst := fun z => nv_set (l := rs') (k := i + j) (by rw [hrl'.out]; omega) z
          obtain ⟨u, hu⟩ : ∃ u, rs'.getD (i + j) 0 = u := ⟨_, rfl⟩
          rw [hu] at hfc hbj hst
          clear hu
          have HST := Lib.hid hst; clear hst
          have hT3 : T' ≤ 3844 := by omega
          go_wp2_with fail
          go_roundw
          case rel => exact ⟨j + 1, rs'.set (i + j) (u + x * y), T' + 1, by omega, by go_num, by omega, Lib.hid (by simp [hrl'.out]), hown'.store hrl'.out (i + j) _, Lib.hid (hbd'.out.set (by omega) (by rw [hrl'.out]; omega) (by omega) (by omega)), Lib.hid (by
              rw [HST.out, HYS.out]
              refine inner_step hv'.out ?_
              rw [← pw_add]
              congr 2; omega), by exact hb'.setCell (p := ⟨w.heap.size, i + j, none⟩) (Nat.le_refl _) _⟩
          case measure => simp [intOf]; omega
        · have : j = nb := by omega
          subst this
          go_wp2_with fail
          go_roundw
          case rel => exact ⟨i + 1, rs', T', by omega, by go_num, by rw [Nat.succ_mul]; omega, hrl', hown', hbd', Lib.hid (by
              rw [hv'.out, HXS.out, List.take_of_length_le (l := lb) (by omega), Int.add_mul, Int.mul_assoc]), hb'⟩
          case measure => simp [intOf]; omega
    · have : i = na := by omega
      subst this
      have hT2 : T ≤ 3844 := by
        have : i * nb ≤ 62 * 62 := Nat.mul_le_mul hla hlb
        omega
      have hvv := hv.out
      rw [List.take_of_length_le (by omega)] at hvv
      have HV := Lib.hid hvv; clear hvv
      go_wp2_with fail
      obtain ⟨w1, hw1⟩ : ∃ w1 : World, w1 = wr := ⟨_, rfl⟩
      subst hw1
      go_loopw [10, 48] (fun cc iv wr => ∃ (k : Nat) (c' : Int) (rs' : List Int), k ≤ m ∧ iv = .int .i64 k ∧ cc = .int .i64 c' ∧ 0 ≤ c' ∧ c' ≤ 4503599627370496 ∧ Hid (rs'.length = m) ∧ OwnI wr w.heap.size (.slice (some ⟨w.heap.size, 0, none⟩) m m) rs' ∧ Hid (∀ j, k ≤ j → 0 ≤ rs'.getD j 0 ∧ rs'.getD j 0 ≤ 4503599627370496) ∧ Dig (rs'.take k) ∧ Hid (nv (rs'.take k) + pw k * (c' + nv (rs'.drop k)) = nv la * nv lb) ∧ Below w.heap.size w wr) (fun _ k _ => m - (intOf k).toNat)
      case atStart => exact ⟨0, 0, rs, Nat.zero_le _, rfl, rfl, by omega, by omega, hrl, hown, Lib.hid (fun j _ => by have := hbd.out j; omega), Dig.nil, Lib.hid (by rw [← HV.out]; simp [nv, pw]), hb⟩
      case round =>
        obtain ⟨k, c', rs', hk, rfl, rfl, h0, h1, hrl', hown', hbd', hdg, hv', hb'⟩ := hrel
        have hs' := hb'.size
        by_cases hkl : k < m
        · have hfc := hown'.cell (k := k) hrl'.out (by omega)
          have hff := hown'.frozen (k := k) hrl'.out
          have hbk := hbd'.out k (Nat.le_refl _)
          have hdc := drop_cons (l := rs') (k := k) (by rw [hrl'.out]; omega)
          obtain ⟨d, hdd⟩ : ∃ d, rs'.getD k 0 = d := ⟨_, rfl⟩
          rw [hdd] at hfc hbk hdc
          clear hdd
          have HDC := Lib.hid hdc; clear hdc
          have hkl' : (rs'.take k).length = k := by rw [List.length_take, hrl'.out]; omega
          have HKL := Lib.hid hkl'; clear hkl'
          go_wp2_with fail
          go_roundw
          case rel => exact ⟨k + 1, _, rs'.set k ((c' + d) % 1048576), by omega, by go_num, rfl, by omega, by omega, Lib.hid (by simp [hrl'.out]), by (rw [and_low]; exact hown'.store hrl'.out k _), Lib.hid (fun j hj => by
              rw [getD_set (by rw [hrl'.out]; omega), if_neg (by omega)]; exact hbd'.out j (by omega)), by
              rw [take_set_succ (by rw [hrl'.out]; omega)]; exact hdg.snoc (by omega) (by omega), Lib.hid (by
              rw [take_set_succ (by rw [hrl'.out]; omega), nv_snoc, HKL.out, List.drop_set_of_lt (by omega), pw_succ]
              refine third_step ?_
              rw [← nv_cons, ← HDC.out]
              exact hv'.out), by exact hb'.setCell (p := ⟨w.heap.size, k, none⟩) (Nat.le_refl _) _⟩
          case measure => simp [intOf]; omega
        · have : k = m := by omega
          subst this
          have hv2 := hv'.out
          rw [List.take_of_length_le (Nat.le_of_eq hrl'.out), List.drop_of_length_le (Nat.le_of_eq hrl'.out), nv_nil, Int.add_zero] at hv2
          rw [List.take_of_length_le (Nat.le_of_eq hrl'.out)] at hdg
          have hnn := hdg.nv_nonneg
          have hcz : c' = 0 := by
            have h2 := HZ.out
            rw [← hv2, HM.out] at h2
            rcases Int.lt_or_le 0 c' with h | h
            · have h3 : pw k * 1 ≤ pw k * c' := Int.mul_le_mul_of_nonneg_left (by omega) (by have := pw_pos k; omega)
              omega
            · omega
          subst hcz
          rw [Int.mul_zero, Int.add_zero] at hv2
          have HV2 := Lib.hid hv2; clear hv2
          clear hnn
          go_wp2_with fail
          refine (trim_any rs' _ _ w.heap.size hown' hdg (by rw [hrl'.out]; omega)).mono ?_
          rintro e w2 ⟨v1, rfl, hown1, rfl⟩
          go_wp2_with fail
          go_ret
          exact ⟨_, rfl, by rw [← HV2.out]; exact hown1, hb'⟩

end Go.Proofs.YtkjpfnbdlbnbkaaGreatDoor
