/- Walks: scale, combine. -/
import Derived.Test.YtofndidngjglmaaDoorA
namespace Go.Proofs.YtofndidngjglmaaDoor
open Go.RowKit

theorem take_set_succ {l : List Int} {k : Nat} (h : k < l.length) (z : Int) : (l.set k z).take (k + 1) = l.take k ++ [z] := by
  rw [List.take_succ_eq_append_getElem (by simpa using h), List.getElem_set_self, List.take_set_of_le (Nat.le_refl k)]
theorem nv_take_succ' (l : List Int) (k : Nat) : nv (l.take (k + 1)) = nv (l.take k) + pw k * l.getD k 0 := by
  rcases Nat.lt_or_ge k l.length with h | h
  · exact nv_take_succ h
  · rw [nv_take_all l (by omega), nv_take_all l h, List.getD_eq_getElem?_getD, List.getElem?_eq_none h]
    simp
theorem mul_bd {x d M : Int} (h0 : -M ≤ x) (h1 : x ≤ M) (d0 : 0 ≤ d) (d1 : d ≤ 1048575) (hM : 0 ≤ M) : -(M * 1048575) ≤ x * d ∧ x * d ≤ M * 1048575 := by
  have a1 : x * d ≤ M * d := Int.mul_le_mul_of_nonneg_right h1 d0
  have a2 : M * d ≤ M * 1048575 := Int.mul_le_mul_of_nonneg_left d1 hM
  have a3 : -M * d ≤ x * d := Int.mul_le_mul_of_nonneg_right h0 d0
  rw [Int.neg_mul] at a3
  omega

set_option maxHeartbeats 400000 in
theorem scale_any (l : List Int) (A : Option Addr) (cA : Nat) (f c : Int) (w : World) (hI : IntsAt w.heap.size w A l) (hd : Dig l) (hl : l.length ≤ 200) (hf0 : 0 ≤ f) (hf1 : f ≤ 1099511627776) (hc0 : 0 ≤ c) (hc1 : c ≤ 1099511627776) :
    Calls Tryd.prog 35 #[.slice A l.length cA, .int .i64 f, .int .i64 c] w fun e w' => ∃ v', e = .returned v' ∧ OwnI w' w.heap.size v' (D (f * nv l + c)) ∧ Below w.heap.size w w' := by
  obtain ⟨n, hn⟩ : ∃ n, l.length = n := ⟨_, rfl⟩
  have hnn : l.length ≤ n ∧ n ≤ l.length := by omega
  have hZ : f * nv l + c < pw 1000 := by
    have h1 := hd.nv_lt
    have h0 := hd.nv_nonneg
    have h2 : f * nv l ≤ 1099511627776 * nv l := Int.mul_le_mul_of_nonneg_right hf1 h0
    have h3 := pw_le (a := l.length) (b := 200) hl
    have h4 : pw 1000 = pw 800 * pw 200 := pw_add 800 200
    have h5 : pw 3 * pw 200 ≤ pw 800 * pw 200 := Int.mul_le_mul_of_nonneg_right (pw_le (by omega)) (by have := pw_pos 200; omega)
    have h6 : pw 3 = 1152921504606846976 := by decide
    rw [h6] at h5
    have := pw_pos 200
    omega
  rw [hn] at hl ⊢
  have HN := Lib.hid hn; clear hn
  have HZ := Lib.hid hZ; clear hZ
  go_enter Tryd.func35, Tryd.ntmps35
  go_wp2_with (at_make; refine makeI rfl (.tmp 11) (.tmp 14) rfl w.heap.size n (n + 2) _ _ rfl rfl rfl (by omega) (by omega) (by omega) (Nat.le_refl _) ?_; intro w0 hown0 hb0 hsz0)
  have hlt0 := hown0.lt.2
  go_loopw [2, 18] (fun cc i wr => ∃ (k : Nat) (c' : Int) (rs : List Int), k ≤ n ∧ i = .int .i64 k ∧ cc = .int .i64 c' ∧ 0 ≤ c' ∧ c' ≤ 2199023255552 ∧ Hid (rs.length = n) ∧ OwnI wr w.heap.size (.slice (some ⟨w.heap.size, 0, none⟩) n (n + 2)) rs ∧ Dig (rs.take k) ∧ Hid (nv (rs.take k) + pw k * c' = f * nv (l.take k) + c) ∧ Below w.heap.size w wr) (fun _ i _ => n - (intOf i).toNat)
  case atStart => exact ⟨0, c, List.replicate n 0, Nat.zero_le _, rfl, rfl, hc0, by omega, Lib.hid (by simp), hown0, Dig.nil, Lib.hid (by simp [nv, pw]), hb0⟩
  case round =>
    obtain ⟨k, c', rs, hk, rfl, rfl, h0, h1, hrl, hown, hdg, hv, hb⟩ := hrel
    have hs := hb.size
    by_cases hlt : k < n
    · obtain ⟨b, off, hA, hbB, hc⟩ := hI k (by omega)
      subst hA
      have hd1 := hd.getD (k := k) (by omega)
      have hc := (hb.cell (p := ⟨b, off + k, none⟩) hbB).trans hc
      obtain ⟨d, hdd⟩ : ∃ d, l.getD k 0 = d := ⟨_, rfl⟩
      rw [hdd] at hc hd1
      have HD := Lib.hid hdd; clear hdd
      have hm := mul_bd (x := f) (d := d) (M := 1099511627776) (by omega) hf1 hd1.1 (by omega) (by omega)
      have hm0 : 0 ≤ f * d := Int.mul_nonneg hf0 hd1.1
      have hfc := hown.cell hrl.out hlt
      have hff := hown.frozen (k := k) hrl.out
      obtain ⟨u, hu⟩ : ∃ u, rs.getD k 0 = u := ⟨_, rfl⟩
      rw [hu] at hfc
      clear hu
      go_wp2_with fail
      go_roundw
      case rel => exact ⟨k + 1, _, rs.set k ((c' + f * d) % 1048576), by omega, by go_num, rfl, by omega, by omega, Lib.hid (by simp [hrl.out]), by first | exact hown.store hrl.out k _ | (rw [and_low]; exact hown.store hrl.out k _), by
          rw [take_set_succ (by rw [hrl.out]; exact hlt)]; exact hdg.snoc (by omega) (by omega), Lib.hid (by
          have hkl : (rs.take k).length = k := by rw [List.length_take, hrl.out]; omega
          rw [take_set_succ (by rw [hrl.out]; exact hlt), nv_snoc, hkl, nv_take_succ' l, HD.out, pw_succ, Int.mul_comm 1048576, Int.mul_assoc, Int.add_assoc, ← Int.mul_add]
          have e1 : (c' + f * d) % 1048576 + 1048576 * ((c' + f * d) / 1048576) = c' + f * d := by omega
          rw [e1, Int.mul_add, ← Int.add_assoc, hv.out, Int.mul_add]
          have e2 : pw k * (f * d) = f * (pw k * d) := by rw [← Int.mul_assoc, Int.mul_comm (pw k) f, Int.mul_assoc]
          rw [e2]; omega), by exact hb.setCell (p := ⟨w.heap.size, k, none⟩) (Nat.le_refl _) _⟩
      case measure => simp [intOf]; omega
    · have hkn : k = n := by omega
      subst hkn
      have hv' := hv.out
      rw [List.take_of_length_le (Nat.le_of_eq hrl.out), List.take_of_length_le (Nat.le_of_eq HN.out)] at hv'
      rw [List.take_of_length_le (Nat.le_of_eq hrl.out)] at hdg
      have hv2 : nv rs + pw rs.length * c' = f * nv l + c := by rw [hrl.out]; exact hv'
      have HV := Lib.hid hv2; clear hv2 hv'
      go_wp2_with fail
      refine (carried_any rs c' _ _ w.heap.size hown hdg hs h0 (by omega) (by rw [HV.out]; exact HZ.out) (by rw [hrl.out]; omega)).mono ?_
      rintro e w1 ⟨v1, rfl, hown1, hb1⟩
      go_wp2_with fail
      go_ret
      exact ⟨_, rfl, by rw [← HV.out]; exact hown1, hb.trans hb1⟩

end Go.Proofs.YtofndidngjglmaaDoor
