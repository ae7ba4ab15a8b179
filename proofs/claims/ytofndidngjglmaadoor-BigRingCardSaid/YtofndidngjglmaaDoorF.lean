/- Walks: times. -/
import Derived.Test.YtofndidngjglmaaDoorE
namespace Go.Proofs.YtofndidngjglmaaDoor
open Go.RowKit

theorem nv_set {l : List Int} {k : Nat} (h : k < l.length) (z : Int) : nv (l.set k z) = nv l + pw k * (z - l.getD k 0) := by
  have h1 := nv_split (l.set k z) (k + 1) (by simp; omega)
  have h2 := nv_split l (k + 1) (by omega)
  have hk : (l.take k).length = k := by rw [List.length_take]; omega
  rw [take_set_succ h, nv_snoc, hk, List.drop_set_of_lt (by omega)] at h1
  rw [nv_take_succ h] at h2
  rw [h1, h2, Int.mul_sub]
  omega
theorem getD_set {l : List Int} {k : Nat} (h : k < l.length) (z : Int) (j : Nat) : (l.set k z).getD j 0 = if j = k then z else l.getD j 0 := by
  rw [List.getD_eq_getElem?_getD, List.getD_eq_getElem?_getD, List.getElem?_set]
  by_cases e : k = j
  · subst e; simp [h]
  · rw [if_neg e, if_neg (fun h => e h.symm)]

def Bnd (l : List Int) (M : Int) : Prop := ∀ j, 0 ≤ l.getD j 0 ∧ l.getD j 0 ≤ M
theorem Bnd.set {l : List Int} {M M' : Int} (h : Bnd l M) (hM : M ≤ M') {k : Nat} (hk : k < l.length) {z : Int} (h0 : 0 ≤ z) (h1 : z ≤ M') : Bnd (l.set k z) M' := fun j => by
  rw [getD_set hk]
  split
  · exact ⟨h0, h1⟩
  · exact ⟨(h j).1, Int.le_trans (h j).2 hM⟩

theorem mul_dd {x y : Int} (hx : 0 ≤ x ∧ x < 1048576) (hy : 0 ≤ y ∧ y < 1048576) : 0 ≤ x * y ∧ x * y ≤ 1099511627776 := by
  have h1 : x * y ≤ 1048576 * y := Int.mul_le_mul_of_nonneg_right (by omega) hy.1
  exact ⟨Int.mul_nonneg hx.1 hy.1, by omega⟩

theorem inner_step {R A P x t y Pj V : Int} (h : R = A + P * (x * t)) (hV : V = R + P * Pj * (x * y)) : V = A + P * (x * (t + Pj * y)) := by
  rw [hV, h, Int.mul_add, Int.mul_add, Int.mul_assoc P Pj]
  have : Pj * (x * y) = x * (Pj * y) := by rw [← Int.mul_assoc, Int.mul_comm Pj x, Int.mul_assoc]
  rw [this]; omega

theorem third_step {ta P c d r Z : Int} (h : ta + P * (c + (d + 1048576 * r)) = Z) : ta + P * ((c + d) % 1048576) + 1048576 * P * ((c + d) / 1048576 + r) = Z := by
  rw [Int.mul_comm 1048576 P, Int.mul_assoc, Int.add_assoc, ← Int.mul_add, ← h]
  congr 2; omega

set_option maxHeartbeats 1000000 in
theorem times_any (la lb : List Int) (Aa Ab : Option Addr) (ca cb : Nat) (w : World) (hIa : IntsAt w.heap.size w Aa la) (hIb : IntsAt w.heap.size w Ab lb) (hda : Dig la) (hdb : Dig lb) (hla : la.length ≤ 62) (hlb : lb.length ≤ 62) :
    Calls Tryd.prog 28 #[.slice Aa la.length ca, .slice Ab lb.length cb] w fun e w' => ∃ v', e = .returned v' ∧ OwnI w' w.heap.size v' (D (nv la * nv lb)) ∧ Below w.heap.size w w' := by
  obtain ⟨na, hna⟩ : ∃ n, la.length = n := ⟨_, rfl⟩
  obtain ⟨nb, hnb⟩ : ∃ n, lb.length = n := ⟨_, rfl⟩
  have hza : la.length ≤ na ∧ na ≤ la.length := by omega
  have hzb : lb.length ≤ nb ∧ nb ≤ lb.length := by omega
  have hZ : nv la * nv lb < pw (na + nb) := by
    have h1 := hda.nv_lt
    have h2 := hdb.nv_lt
    rw [pw_add, ← hna, ← hnb]
    exact Int.lt_of_le_of_lt (Int.mul_le_mul_of_nonneg_right (by omega) hdb.nv_nonneg) (Int.mul_lt_mul_of_pos_left h2 (pw_pos _))
  rw [hna] at hla ⊢
  rw [hnb] at hlb ⊢
  have HNA := Lib.hid hna; clear hna
  have HNB := Lib.hid hnb; clear hnb
  have HZ := Lib.hid hZ; clear hZ
  obtain ⟨m, hm⟩ : ∃ m, na + nb = m := ⟨_, rfl⟩
  have hmm : na + nb ≤ m ∧ m ≤ na + nb := by omega
  have HM := Lib.hid hm; clear hm
  have hmul : ∀ i, i < na → i * nb + nb ≤ 3844 := fun i hi => by
    have h1 : (i + 1) * nb ≤ 62 * 62 := Nat.mul_le_mul (by omega) hlb
    rw [Nat.succ_mul] at h1
    exact h1
  have HMUL := Lib.hid hmul; clear hmul
  go_enter Tryd.func28, Tryd.ntmps28
  go_wp2_with (at_make; refine makeI rfl (.tmp 17) (.tmp 17) rfl w.heap.size m m _ _ rfl rfl (by omega) (by omega) (by omega) (by omega) (Nat.le_refl _) ?_; intro w0 hown0 hb0 hsz0)
  have hlt0 := hown0.lt.2
  go_loopw [21] (fun i wr => ∃ (k : Nat) (rs : List Int) (T : Nat), k ≤ na ∧ i = .int .i64 k ∧ T ≤ k * nb ∧ Hid (rs.length = m) ∧ OwnI wr w.heap.size (.slice (some ⟨w.heap.size, 0, none⟩) m m) rs ∧ Hid (Bnd rs (1099511627776 * T)) ∧ Hid (nv rs = nv (la.take k) * nv lb) ∧ Below w.heap.size w wr) (fun i _ => na - (intOf i).toNat)
  case atStart => exact ⟨0, List.replicate m 0, 0, Nat.zero_le _, rfl, by simp, Lib.hid (by simp), hown0, Lib.hid (fun j => by
    have : (List.replicate m (0:Int)).getD j 0 = 0 := by
      rw [List.getD_eq_getElem?_getD, List.getElem?_replicate]; split <;> rfl
    rw [this]; decide), Lib.hid (by rw [nv_replicate]; simp [nv]), hb0⟩
  case round =>
    obtain ⟨i, rs, T, hi, rfl, hT, hrl, hown, hbd, hv, hb⟩ := hrel
    have hs := hb.size
    by_cases hlt : i < na
    · obtain ⟨b, off, hA, hbB, hc⟩ := hIa i (by omega)
      subst hA
      have hx := hda.getD (k := i) (by omega)
      have hca := (hb.cell (p := ⟨b, off + i, none⟩) hbB).trans hc
      have hxs := nv_take_succ (l := la) (k := i) (by omega)
      obtain ⟨x, hxx⟩ : ∃ d, la.getD i 0 = d := ⟨_, rfl⟩
      rw [hxx] at hca hx hxs
      clear hxx hc
      have HXS := Lib.hid hxs; clear hxs
      have hT2 : T ≤ 3844 := by have := HMUL.out i hlt; omega
      have hiT : i * nb + nb ≤ 3844 := HMUL.out i hlt
      go_wp2_with fail
      obtain ⟨w1, hw1⟩ : ∃ w1 : World, w1 = wr := ⟨_, rfl⟩
      subst hw1
      go_loopw [28] (fun jv wr => ∃ (j : Nat) (rs' : List Int) (T' : Nat), j ≤ nb ∧ jv = .int .i64 j ∧ T' ≤ i * nb + j ∧ Hid (rs'.length = m) ∧ OwnI wr w.heap.size (.slice (some ⟨w.heap.size, 0, none⟩) m m) rs' ∧ Hid (Bnd rs' (1099511627776 * T')) ∧ Hid (nv rs' = nv (la.take i) * nv lb + pw i * (x * nv (lb.take j))) ∧ Below w.heap.size w wr) (fun j _ => nb - (intOf j).toNat)
      case atStart => exact ⟨0, rs, T, Nat.zero_le _, rfl, by omega, hrl, hown, hbd, Lib.hid (by rw [hv.out]; simp [nv]), hb⟩
      case round =>
        obtain ⟨j, rs', T', hj, rfl, hT', hrl', hown', hbd', hv', hb'⟩ := hrel
        have hs' := hb'.size
        by_cases hjl : j < nb
        · obtain ⟨b2, off2, hA2, hbB2, hc2⟩ := hIb j (by omega)
          subst hA2
          have hy := hdb.getD (k := j) (by omega)
          have hcb := (hb'.cell (p := ⟨b2, off2 + j, none⟩) hbB2).trans hc2
          have hys := nv_take_succ (l := lb) (k := j) (by omega)
          obtain ⟨y, hyy⟩ : ∃ d, lb.getD j 0 = d := ⟨_, rfl⟩
          rw [hyy] at hcb hy hys
          clear hyy hc2
          have HYS := Lib.hid hys; clear hys
          have hfc := hown'.cell (k := i + j) hrl'.out (by omega)
          have hff := hown'.frozen (k := i + j) hrl'.out
          have hxy := mul_dd hx hy
          have hbj := hbd'.out (i + j)
          have hst := fun z => nv_set (l := rs') (k := i + j) (by rw [hrl'.out]; omega) z
          obtain ⟨u, hu⟩ : ∃ u, rs'.getD (i + j) 0 = u := ⟨_, rfl⟩
          rw [hu] at hfc hbj hst
          clear hu
          have HST := Lib.hid hst; clear hst
          have hT3 : T' ≤ 3844 := by omega
          go_wp2_with fail
          go_roundw
          case rel => exact ⟨j + 1, rs'.set (i + j) (u + x * y), T' + 1, by omega, by go_num, by omega, Lib.hid (by simp [hrl'.out]), hown'.store hrl'.out (i + j) _, Lib.hid (hbd'.out.set (by omega) (by rw [hrl'.out]; omega) (by omega) (by omega)), Lib.hid (by
              rw [HST.out, HYS.out]
              refine inner_step hv'.out ?_
              rw [← pw_add]
              congr 2; omega), by exact hb'.setCell (p := ⟨w.heap.size, i + j, none⟩) (Nat.le_refl _) _⟩
          case measure => simp [intOf]; omega
        · have : j = nb := by omega
          subst this
          go_wp2_with fail
          go_roundw
          case rel => exact ⟨i + 1, rs', T', by omega, by go_num, by rw [Nat.succ_mul]; omega, hrl', hown', hbd', Lib.hid (by
              rw [hv'.out, HXS.out, List.take_of_length_le (l := lb) (by omega), Int.add_mul, Int.mul_assoc]), hb'⟩
          case measure => simp [intOf]; omega
    · have : i = na := by omega
      subst this
      have hT2 : T ≤ 3844 := by
        have : i * nb ≤ 62 * 62 := Nat.mul_le_mul hla hlb
        omega
      have hvv := hv.out
      rw [List.take_of_length_le (by omega)] at hvv
      have HV := Lib.hid hvv; clear hvv
      go_wp2_with fail
      obtain ⟨w1, hw1⟩ : ∃ w1 : World, w1 = wr := ⟨_, rfl⟩
      subst hw1
      go_loopw [10, 48] (fun cc iv wr => ∃ (k : Nat) (c' : Int) (rs' : List Int), k ≤ m ∧ iv = .int .i64 k ∧ cc = .int .i64 c' ∧ 0 ≤ c' ∧ c' ≤ 4503599627370496 ∧ Hid (rs'.length = m) ∧ OwnI wr w.heap.size (.slice (some ⟨w.heap.size, 0, none⟩) m m) rs' ∧ Hid (∀ j, k ≤ j → 0 ≤ rs'.getD j 0 ∧ rs'.getD j 0 ≤ 4503599627370496) ∧ Dig (rs'.take k) ∧ Hid (nv (rs'.take k) + pw k * (c' + nv (rs'.drop k)) = nv la * nv lb) ∧ Below w.heap.size w wr) (fun _ k _ => m - (intOf k).toNat)
      case atStart => exact ⟨0, 0, rs, Nat.zero_le _, rfl, rfl, by omega, by omega, hrl, hown, Lib.hid (fun j _ => by have := hbd.out j; omega), Dig.nil, Lib.hid (by rw [← HV.out]; simp [nv, pw]), hb⟩
      case round =>
        obtain ⟨k, c', rs', hk, rfl, rfl, h0, h1, hrl', hown', hbd', hdg, hv', hb'⟩ := hrel
        have hs' := hb'.size
        by_cases hkl : k < m
        · have hfc := hown'.cell (k := k) hrl'.out (by omega)
          have hff := hown'.frozen (k := k) hrl'.out
          have hbk := hbd'.out k (Nat.le_refl _)
          have hdc := drop_cons (l := rs') (k := k) (by rw [hrl'.out]; omega)
          obtain ⟨d, hdd⟩ : ∃ d, rs'.getD k 0 = d := ⟨_, rfl⟩
          rw [hdd] at hfc hbk hdc
          clear hdd
          have HDC := Lib.hid hdc; clear hdc
          have hkl' : (rs'.take k).length = k := by rw [List.length_take, hrl'.out]; omega
          have HKL := Lib.hid hkl'; clear hkl'
          go_wp2_with fail
          go_roundw
          case rel => exact ⟨k + 1, _, rs'.set k ((c' + d) % 1048576), by omega, by go_num, rfl, by omega, by omega, Lib.hid (by simp [hrl'.out]), by (rw [and_low]; exact hown'.store hrl'.out k _), Lib.hid (fun j hj => by
              rw [getD_set (by rw [hrl'.out]; omega), if_neg (by omega)]; exact hbd'.out j (by omega)), by
              rw [take_set_succ (by rw [hrl'.out]; omega)]; exact hdg.snoc (by omega) (by omega), Lib.hid (by
              rw [take_set_succ (by rw [hrl'.out]; omega), nv_snoc, HKL.out, List.drop_set_of_lt (by omega), pw_succ]
              refine third_step ?_
              rw [← nv_cons, ← HDC.out]
              exact hv'.out), by exact hb'.setCell (p := ⟨w.heap.size, k, none⟩) (Nat.le_refl _) _⟩
          case measure => simp [intOf]; omega
        · have : k = m := by omega
          subst this
          have hv2 := hv'.out
          rw [List.take_of_length_le (Nat.le_of_eq hrl'.out), List.drop_of_length_le (Nat.le_of_eq hrl'.out), nv_nil, Int.add_zero] at hv2
          rw [List.take_of_length_le (Nat.le_of_eq hrl'.out)] at hdg
          have hnn := hdg.nv_nonneg
          have hcz : c' = 0 := by
            have h2 := HZ.out
            rw [← hv2, HM.out] at h2
            rcases Int.lt_or_le 0 c' with h | h
            · have h3 : pw k * 1 ≤ pw k * c' := Int.mul_le_mul_of_nonneg_left (by omega) (by have := pw_pos k; omega)
              omega
            · omega
          subst hcz
          rw [Int.mul_zero, Int.add_zero] at hv2
          have HV2 := Lib.hid hv2; clear hv2
          clear hnn
          go_wp2_with fail
          refine (trim_any rs' _ _ w.heap.size hown' hdg (by rw [hrl'.out]; omega)).mono ?_
          rintro e w2 ⟨v1, rfl, hown1, rfl⟩
          go_wp2_with fail
          go_ret
          exact ⟨_, rfl, by rw [← HV2.out]; exact hown1, hb'⟩

end Go.Proofs.YtofndidngjglmaaDoor
