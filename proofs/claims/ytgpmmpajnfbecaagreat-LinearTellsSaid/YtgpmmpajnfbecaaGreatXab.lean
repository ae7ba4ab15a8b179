/- Walks: scale, combine. Walks: combine. Walks: divideShort, split. -/
import Derived.Test.YtgpmmpajnfbecaaGreatXaa
import Derived.Laws.Bits64b

namespace Go.Proofs.YtgpmmpajnfbecaaGreat
open Go.RowKit

theorem take_set_succ {l : List Int} {k : Nat} (h : k < l.length) (z : Int) : (l.set k z).take (k + 1) = l.take k ++ [z] := by
  rw [List.take_succ_eq_append_getElem (by simpa using h), List.getElem_set_self, List.take_set_of_le (Nat.le_refl k)]
theorem nv_take_succ' (l : List Int) (k : Nat) : nv (l.take (k + 1)) = nv (l.take k) + pw k * l.getD k 0 := by
  rcases Nat.lt_or_ge k l.length with h | h
  · exact nv_take_succ h
  · rw [nv_take_all l (by omega), nv_take_all l h, List.getD_eq_getElem?_getD, List.getElem?_eq_none h]
    simp
theorem mul_bd {x d M : Int} (h0 : -M ≤ x) (h1 : x ≤ M) (d0 : 0 ≤ d) (d1 : d ≤ 1048575) (hM : 0 ≤ M) : -(M * 1048575) ≤ x * d ∧ x * d ≤ M * 1048575 := by
  have a1 : x * d ≤ M * d := Int.mul_le_mul_of_nonneg_right h1 d0
  have a2 : M * d ≤ M * 1048575 := Int.mul_le_mul_of_nonneg_left d1 hM
  have a3 : -M * d ≤ x * d := Int.mul_le_mul_of_nonneg_right h0 d0
  rw [Int.neg_mul] at a3
  omega

set_option maxHeartbeats 400000 in
theorem scale_any (l : List Int) (A : Option Addr) (cA : Nat) (f c : Int) (w : World) (hI : IntsAt w.heap.size w A l) (hd : Dig l) (hl : l.length ≤ 200) (hf0 : 0 ≤ f) (hf1 : f ≤ 1099511627776) (hc0 : 0 ≤ c) (hc1 : c ≤ 1099511627776) :
    Calls Tryz.prog 105 #[.slice A l.length cA, .int .i64 f, .int .i64 c] w fun e w' => ∃ v', e = .returned v' ∧ OwnI w' w.heap.size v' (D (f * nv l + c)) ∧ Below w.heap.size w w' := by
  obtain ⟨n, hn⟩ : ∃ n, l.length = n := ⟨_, rfl⟩
  have hnn : l.length ≤ n ∧ n ≤ l.length := by omega
  have hZ : f * nv l + c < pw 1000 := by
    have h1 := hd.nv_lt
    have h0 := hd.nv_nonneg
    have h2 : f * nv l ≤ 1099511627776 * nv l := Int.mul_le_mul_of_nonneg_right hf1 h0
    have h3 := pw_le (a := l.length) (b := 200) hl
    have h4 : pw 1000 = pw 800 * pw 200 := pw_add 800 200
    have h5 : pw 3 * pw 200 ≤ pw 800 * pw 200 := Int.mul_le_mul_of_nonneg_right (pw_le (by omega)) (by have := pw_pos 200; omega)
    have h6 : pw 3 = 1152921504606846976 := by decide
    rw [h6] at h5
    have := pw_pos 200
    omega
  rw [hn] at hl ⊢
  have HN := Lib.hid hn; clear hn
  have HZ := Lib.hid hZ; clear hZ
  go_enter Tryz.func105, Tryz.ntmps105
  go_wp2_with (at_make; refine makeI rfl (.tmp 11) (.tmp 14) rfl w.heap.size n (n + 2) _ _ rfl rfl rfl (by omega) (by omega) (by omega) (Nat.le_refl _) ?_; intro w0 hown0 hb0 hsz0)
  have hlt0 := hown0.lt.2
  go_loopw [2, 18] (fun cc i wr => ∃ (k : Nat) (c' : Int) (rs : List Int), k ≤ n ∧ i = .int .i64 k ∧ cc = .int .i64 c' ∧ 0 ≤ c' ∧ c' ≤ 2199023255552 ∧ Hid (rs.length = n) ∧ OwnI wr w.heap.size (.slice (some ⟨w.heap.size, 0, none⟩) n (n + 2)) rs ∧ Dig (rs.take k) ∧ Hid (nv (rs.take k) + pw k * c' = f * nv (l.take k) + c) ∧ Below w.heap.size w wr) (fun _ i _ => n - (intOf i).toNat)
  case atStart => exact ⟨0, c, List.replicate n 0, Nat.zero_le _, rfl, rfl, hc0, by omega, Lib.hid (by simp), hown0, Dig.nil, Lib.hid (by simp [nv, pw]), hb0⟩
  case round =>
    obtain ⟨k, c', rs, hk, rfl, rfl, h0, h1, hrl, hown, hdg, hv, hb⟩ := hrel
    have hs := hb.size
    by_cases hlt : k < n
    · obtain ⟨b, off, hA, hbB, hc⟩ := hI k (by omega)
      subst hA
      have hd1 := hd.getD (k := k) (by omega)
      have hc := (hb.cell (p := ⟨b, off + k, none⟩) hbB).trans hc
      obtain ⟨d, hdd⟩ : ∃ d, l.getD k 0 = d := ⟨_, rfl⟩
      rw [hdd] at hc hd1
      have HD := Lib.hid hdd; clear hdd
      have hm := mul_bd (x := f) (d := d) (M := 1099511627776) (by omega) hf1 hd1.1 (by omega) (by omega)
      have hm0 : 0 ≤ f * d := Int.mul_nonneg hf0 hd1.1
      have hfc := hown.cell hrl.out hlt
      have hff := hown.frozen (k := k) hrl.out
      obtain ⟨u, hu⟩ : ∃ u, rs.getD k 0 = u := ⟨_, rfl⟩
      rw [hu] at hfc
      clear hu
      go_wp2_with fail
      go_roundw
      case rel => exact ⟨k + 1, _, rs.set k ((c' + f * d) % 1048576), by omega, by go_num, rfl, by omega, by omega, Lib.hid (by simp [hrl.out]), by first | exact hown.store hrl.out k _ | (rw [and_low]; exact hown.store hrl.out k _), by
          rw [take_set_succ (by rw [hrl.out]; exact hlt)]; exact hdg.snoc (by omega) (by omega), Lib.hid (by
          have hkl : (rs.take k).length = k := by rw [List.length_take, hrl.out]; omega
          rw [take_set_succ (by rw [hrl.out]; exact hlt), nv_snoc, hkl, nv_take_succ' l, HD.out, pw_succ, Int.mul_comm 1048576, Int.mul_assoc, Int.add_assoc, ← Int.mul_add]
          have e1 : (c' + f * d) % 1048576 + 1048576 * ((c' + f * d) / 1048576) = c' + f * d := by omega
          rw [e1, Int.mul_add, ← Int.add_assoc, hv.out, Int.mul_add]
          have e2 : pw k * (f * d) = f * (pw k * d) := by rw [← Int.mul_assoc, Int.mul_comm (pw k) f, Int.mul_assoc]
          rw [e2]; omega), by exact hb.setCell (p := ⟨w.heap.size, k, none⟩) (Nat.le_refl _) _⟩
      case measure => simp [intOf]; omega
    · have hkn : k = n := by omega
      subst hkn
      have hv' := hv.out
      rw [List.take_of_length_le (Nat.le_of_eq hrl.out), List.take_of_length_le (Nat.le_of_eq HN.out)] at hv'
      rw [List.take_of_length_le (Nat.le_of_eq hrl.out)] at hdg
      have hv2 : nv rs + pw rs.length * c' = f * nv l + c := by rw [hrl.out]; exact hv'
      have HV := Lib.hid hv2; clear hv2 hv'
      go_wp2_with fail
      refine (carried_any rs c' _ _ w.heap.size hown hdg hs h0 (by omega) (by rw [HV.out]; exact HZ.out) (by rw [hrl.out]; omega)).mono ?_
      rintro e w1 ⟨v1, rfl, hown1, hb1⟩
      go_wp2_with fail
      go_ret
      exact ⟨_, rfl, by rw [← HV.out]; exact hown1, hb.trans hb1⟩

end Go.Proofs.YtgpmmpajnfbecaaGreat

namespace Go.Proofs.YtgpmmpajnfbecaaGreat
open Go.RowKit

theorem getD_out {l : List Int} {k : Nat} (h : l.length ≤ k) : l.getD k 0 = 0 := by
  rw [List.getD_eq_getElem?_getD, List.getElem?_eq_none h]; rfl

theorem comb_step {P a b x y ta tb tr c' u : Int} (h : tr + P * c' = x * ta + y * tb) (hu : u = c' + x * a + y * b) :
    tr + P * (u % 1048576) + 1048576 * P * (u / 1048576) = x * (ta + P * a) + y * (tb + P * b) := by
  have e1 : u % 1048576 + 1048576 * (u / 1048576) = u := by omega
  rw [Int.mul_comm 1048576 P, Int.mul_assoc, Int.add_assoc, ← Int.mul_add, e1, hu, Int.mul_add, Int.mul_add, Int.mul_add, Int.mul_add]
  have e2 : P * (x * a) = x * (P * a) := by rw [← Int.mul_assoc, Int.mul_comm P x, Int.mul_assoc]
  have e3 : P * (y * b) = y * (P * b) := by rw [← Int.mul_assoc, Int.mul_comm P y, Int.mul_assoc]
  rw [e2, e3]
  omega

theorem comb_bd {la lb : List Int} {x y : Int} (hda : Dig la) (hdb : Dig lb) (hla : la.length ≤ 200) (hlb : lb.length ≤ 200) (hx1 : x ≤ 2199023255552) (hy1 : y ≤ 2199023255552) : x * nv la + y * nv lb < pw 1000 := by
  have h1 := hda.nv_lt
  have h0 := hda.nv_nonneg
  have h1' := hdb.nv_lt
  have h0' := hdb.nv_nonneg
  have h2 : x * nv la ≤ 2199023255552 * nv la := Int.mul_le_mul_of_nonneg_right hx1 h0
  have h2' : y * nv lb ≤ 2199023255552 * nv lb := Int.mul_le_mul_of_nonneg_right hy1 h0'
  have h3 := pw_le (a := la.length) (b := 200) hla
  have h3' := pw_le (a := lb.length) (b := 200) hlb
  have h4 : pw 1000 = pw 800 * pw 200 := pw_add 800 200
  have h5 : pw 3 * pw 200 ≤ pw 800 * pw 200 := Int.mul_le_mul_of_nonneg_right (pw_le (by omega)) (by have := pw_pos 200; omega)
  have h6 : pw 3 = 1152921504606846976 := by decide
  rw [h6] at h5
  have := pw_pos 200
  omega

set_option maxRecDepth 100000 in
set_option maxHeartbeats 1000000 in
theorem combine_lt (la lb : List Int) (Aa Ab : Option Addr) (ca cb : Nat) (x y : Int) (w : World) (hIa : IntsAt w.heap.size w Aa la) (hIb : IntsAt w.heap.size w Ab lb) (hda : Dig la) (hdb : Dig lb) (hla : la.length ≤ 200) (hlb : lb.length ≤ 200)
    (hx0 : -2199023255552 ≤ x) (hx1 : x ≤ 2199023255552) (hy0 : -2199023255552 ≤ y) (hy1 : y ≤ 2199023255552) (hp : 0 ≤ x * nv la + y * nv lb) (hle : la.length < lb.length) :
    Calls Tryz.prog 96 #[.slice Aa la.length ca, .int .i64 x, .slice Ab lb.length cb, .int .i64 y] w fun e w' => ∃ v', e = .returned v' ∧ OwnI w' w.heap.size v' (D (x * nv la + y * nv lb)) ∧ Below w.heap.size w w' := by
  obtain ⟨na, hna⟩ : ∃ n, la.length = n := ⟨_, rfl⟩
  obtain ⟨nb, hnb⟩ : ∃ n, lb.length = n := ⟨_, rfl⟩
  have hza : la.length ≤ na ∧ na ≤ la.length := by omega
  have hzb : lb.length ≤ nb ∧ nb ≤ lb.length := by omega
  have hZ := comb_bd hda hdb hla hlb hx1 hy1
  rw [hna] at hla ⊢
  rw [hnb] at hlb ⊢
  rw [hna, hnb] at hle
  have HNA := Lib.hid hna; clear hna
  have HNB := Lib.hid hnb; clear hnb
  have HZ := Lib.hid hZ; clear hZ
  have HP := Lib.hid hp; clear hp
  go_enter Tryz.func96, Tryz.ntmps96
  go_wp2_with (at_make; refine makeI rfl (.tmp 18) (.tmp 20) rfl w.heap.size nb (nb + 1) _ _ rfl rfl rfl (by omega) (by omega) (by omega) (Nat.le_refl _) ?_; intro w0 hown0 hb0 hsz0)
  have hlt0 := hown0.lt.2
  go_loopw [11, 23] (fun cc i wr => ∃ (k : Nat) (c' : Int) (rs : List Int), k ≤ nb ∧ i = .int .i64 k ∧ cc = .int .i64 c' ∧ -8796093022208 ≤ c' ∧ c' ≤ 8796093022208 ∧ Hid (rs.length = nb) ∧ OwnI wr w.heap.size (.slice (some ⟨w.heap.size, 0, none⟩) nb (nb + 1)) rs ∧ Dig (rs.take k) ∧ Hid (nv (rs.take k) + pw k * c' = x * nv (la.take k) + y * nv (lb.take k)) ∧ Below w.heap.size w wr) (fun _ i _ => nb - (intOf i).toNat)
  case atStart => exact ⟨0, 0, List.replicate nb 0, Nat.zero_le _, rfl, rfl, by omega, by omega, Lib.hid (by simp), hown0, Dig.nil, Lib.hid (by simp [nv]), hb0⟩
  case round =>
    obtain ⟨k, c', rs, hk, rfl, rfl, h0, h1, hrl, hown, hdg, hv, hb⟩ := hrel
    have hs := hb.size
    by_cases hlt : k < nb
    · have hda1 := hda.getD' k
      have hdb1 := hdb.getD' k
      have hca : k < na → ∃ b off, Aa = some ⟨b, off, none⟩ ∧ wr.cell? ⟨b, off + k, none⟩ = some (.int .i64 (la.getD k 0)) := fun h => by
        obtain ⟨b, off, hA, hbB, hc⟩ := hIa k (by omega)
        exact ⟨b, off, hA, (hb.cell (p := ⟨b, off + k, none⟩) hbB).trans hc⟩
      have hcb : k < nb → ∃ b off, Ab = some ⟨b, off, none⟩ ∧ wr.cell? ⟨b, off + k, none⟩ = some (.int .i64 (lb.getD k 0)) := fun h => by
        obtain ⟨b, off, hA, hbB, hc⟩ := hIb k (by omega)
        exact ⟨b, off, hA, (hb.cell (p := ⟨b, off + k, none⟩) hbB).trans hc⟩
      have hza' : na ≤ k → la.getD k 0 = 0 := fun h => getD_out (by omega)
      have hzb' : nb ≤ k → lb.getD k 0 = 0 := fun h => getD_out (by omega)
      have hstep := fun u => comb_step (P := pw k) (a := la.getD k 0) (b := lb.getD k 0) (u := u) hv.out
      rw [← nv_take_succ', ← nv_take_succ'] at hstep
      obtain ⟨da, hdda⟩ : ∃ d, la.getD k 0 = d := ⟨_, rfl⟩
      obtain ⟨db, hddb⟩ : ∃ d, lb.getD k 0 = d := ⟨_, rfl⟩
      rw [hdda] at hca hda1 hza' hstep
      rw [hddb] at hcb hdb1 hzb' hstep
      clear hdda hddb
      have hma := mul_bd (x := x) (d := da) (M := 2199023255552) hx0 hx1 hda1.1 (by omega) (by omega)
      have hmb := mul_bd (x := y) (d := db) (M := 2199023255552) hy0 hy1 hdb1.1 (by omega) (by omega)
      have hfc := hown.cell hrl.out hlt
      have hff := hown.frozen (k := k) hrl.out
      obtain ⟨u, hu⟩ : ∃ u, rs.getD k 0 = u := ⟨_, rfl⟩
      rw [hu] at hfc
      clear hu
      have HS := Lib.hid hstep; clear hstep
      have HZA := Lib.hid hza'; clear hza'
      have HZB := Lib.hid hzb'; clear hzb'
      have key : ∀ t : Int, t = c' + x * da + y * db → OwnI (wr.setCell ⟨w.heap.size, k, none⟩ (.int .i64 (bits BinOp.and IntKind.i64 t 1048575))) w.heap.size (.slice (some ⟨w.heap.size, 0, none⟩) nb (nb + 1)) (rs.set k (t % 1048576)) ∧ Dig ((rs.set k (t % 1048576)).take (k + 1)) ∧ nv ((rs.set k (t % 1048576)).take (k + 1)) + pw (k + 1) * (t / 1048576) = x * nv (la.take (k + 1)) + y * nv (lb.take (k + 1)) ∧ Below w.heap.size w (wr.setCell ⟨w.heap.size, k, none⟩ (.int .i64 (bits BinOp.and IntKind.i64 t 1048575))) := by
        intro t ht
        have hkl : (rs.take k).length = k := by rw [List.length_take, hrl.out]; omega
        refine ⟨by rw [and_low]; exact hown.store hrl.out k _, ?_, ?_, hb.setCell (p := ⟨w.heap.size, k, none⟩) (Nat.le_refl _) _⟩
        · rw [take_set_succ (by rw [hrl.out]; exact hlt)]; exact hdg.snoc (by omega) (by omega)
        · rw [take_set_succ (by rw [hrl.out]; exact hlt), nv_snoc, hkl, pw_succ]
          exact HS.out t ht
      have KEY := Lib.hid key; clear key
      by_cases hka : k < na
      · obtain ⟨b1, off1, hA1, hc1⟩ := hca hka
        subst hA1
        clear hca
        by_cases hkb : k < nb
        · obtain ⟨b2, off2, hA2, hc2⟩ := hcb hkb
          subst hA2
          clear hcb
          go_wp2_with fail
          go_roundw
          case rel =>
            obtain ⟨k1, k2, k3, k4⟩ := KEY.out (c' + x * da + y * db) rfl
            exact ⟨k + 1, _, _, by omega, by go_num, rfl, by omega, by omega, Lib.hid (by simp [hrl.out]), k1, k2, Lib.hid k3, k4⟩
          case measure => simp [intOf]; omega
        · omega
      · clear hca
        by_cases hkb : k < nb
        · obtain ⟨b2, off2, hA2, hc2⟩ := hcb hkb
          subst hA2
          clear hcb
          go_wp2_with fail
          go_roundw
          case rel =>
            obtain ⟨k1, k2, k3, k4⟩ := KEY.out (c' + y * db) (by rw [HZA.out (by omega)]; simp)
            exact ⟨k + 1, _, _, by omega, by go_num, rfl, by omega, by omega, Lib.hid (by simp [hrl.out]), k1, k2, Lib.hid k3, k4⟩
          case measure => simp [intOf]; omega
        · omega
    · have hkn : k = nb := by omega
      subst hkn
      have hv' := hv.out
      rw [List.take_of_length_le (Nat.le_of_eq hrl.out), List.take_of_length_le (l := la) (by omega), List.take_of_length_le (l := lb) (by omega)] at hv'
      rw [List.take_of_length_le (Nat.le_of_eq hrl.out)] at hdg
      have hv2 : nv rs + pw rs.length * c' = x * nv la + y * nv lb := by rw [hrl.out]; exact hv'
      have hc0 : 0 ≤ c' := by
        have h1 := HP.out
        rw [← hv2] at h1
        have h2 := hdg.nv_lt
        rcases Int.lt_or_le c' 0 with h | h
        · have h3 : pw rs.length * c' ≤ pw rs.length * (-1) := Int.mul_le_mul_of_nonneg_left (by omega) (by have := pw_pos rs.length; omega)
          omega
        · exact h
      have HV := Lib.hid hv2; clear hv2 hv'
      go_wp2_with fail
      refine (carried_any rs c' _ _ w.heap.size hown hdg hs hc0 (by omega) (by rw [HV.out]; exact HZ.out) (by rw [hrl.out]; omega)).mono ?_
      rintro e w1 ⟨v1, rfl, hown1, hb1⟩
      go_wp2_with fail
      go_ret
      exact ⟨_, rfl, by rw [← HV.out]; exact hown1, hb.trans hb1⟩

set_option maxRecDepth 100000 in
set_option maxHeartbeats 1000000 in
theorem combine_ge (la lb : List Int) (Aa Ab : Option Addr) (ca cb : Nat) (x y : Int) (w : World) (hIa : IntsAt w.heap.size w Aa la) (hIb : IntsAt w.heap.size w Ab lb) (hda : Dig la) (hdb : Dig lb) (hla : la.length ≤ 200) (hlb : lb.length ≤ 200)
    (hx0 : -2199023255552 ≤ x) (hx1 : x ≤ 2199023255552) (hy0 : -2199023255552 ≤ y) (hy1 : y ≤ 2199023255552) (hp : 0 ≤ x * nv la + y * nv lb) (hle : lb.length ≤ la.length) :
    Calls Tryz.prog 96 #[.slice Aa la.length ca, .int .i64 x, .slice Ab lb.length cb, .int .i64 y] w fun e w' => ∃ v', e = .returned v' ∧ OwnI w' w.heap.size v' (D (x * nv la + y * nv lb)) ∧ Below w.heap.size w w' := by
  obtain ⟨na, hna⟩ : ∃ n, la.length = n := ⟨_, rfl⟩
  obtain ⟨nb, hnb⟩ : ∃ n, lb.length = n := ⟨_, rfl⟩
  have hza : la.length ≤ na ∧ na ≤ la.length := by omega
  have hzb : lb.length ≤ nb ∧ nb ≤ lb.length := by omega
  have hZ := comb_bd hda hdb hla hlb hx1 hy1
  rw [hna] at hla ⊢
  rw [hnb] at hlb ⊢
  rw [hna, hnb] at hle
  have HNA := Lib.hid hna; clear hna
  have HNB := Lib.hid hnb; clear hnb
  have HZ := Lib.hid hZ; clear hZ
  have HP := Lib.hid hp; clear hp
  go_enter Tryz.func96, Tryz.ntmps96
  go_wp2_with (at_make; refine makeI rfl (.tmp 18) (.tmp 20) rfl w.heap.size na (na + 1) _ _ rfl rfl rfl (by omega) (by omega) (by omega) (Nat.le_refl _) ?_; intro w0 hown0 hb0 hsz0)
  have hlt0 := hown0.lt.2
  go_loopw [11, 23] (fun cc i wr => ∃ (k : Nat) (c' : Int) (rs : List Int), k ≤ na ∧ i = .int .i64 k ∧ cc = .int .i64 c' ∧ -8796093022208 ≤ c' ∧ c' ≤ 8796093022208 ∧ Hid (rs.length = na) ∧ OwnI wr w.heap.size (.slice (some ⟨w.heap.size, 0, none⟩) na (na + 1)) rs ∧ Dig (rs.take k) ∧ Hid (nv (rs.take k) + pw k * c' = x * nv (la.take k) + y * nv (lb.take k)) ∧ Below w.heap.size w wr) (fun _ i _ => na - (intOf i).toNat)
  case atStart => exact ⟨0, 0, List.replicate na 0, Nat.zero_le _, rfl, rfl, by omega, by omega, Lib.hid (by simp), hown0, Dig.nil, Lib.hid (by simp [nv]), hb0⟩
  case round =>
    obtain ⟨k, c', rs, hk, rfl, rfl, h0, h1, hrl, hown, hdg, hv, hb⟩ := hrel
    have hs := hb.size
    by_cases hlt : k < na
    · have hda1 := hda.getD' k
      have hdb1 := hdb.getD' k
      have hca : k < na → ∃ b off, Aa = some ⟨b, off, none⟩ ∧ wr.cell? ⟨b, off + k, none⟩ = some (.int .i64 (la.getD k 0)) := fun h => by
        obtain ⟨b, off, hA, hbB, hc⟩ := hIa k (by omega)
        exact ⟨b, off, hA, (hb.cell (p := ⟨b, off + k, none⟩) hbB).trans hc⟩
      have hcb : k < nb → ∃ b off, Ab = some ⟨b, off, none⟩ ∧ wr.cell? ⟨b, off + k, none⟩ = some (.int .i64 (lb.getD k 0)) := fun h => by
        obtain ⟨b, off, hA, hbB, hc⟩ := hIb k (by omega)
        exact ⟨b, off, hA, (hb.cell (p := ⟨b, off + k, none⟩) hbB).trans hc⟩
      have hza' : na ≤ k → la.getD k 0 = 0 := fun h => getD_out (by omega)
      have hzb' : nb ≤ k → lb.getD k 0 = 0 := fun h => getD_out (by omega)
      have hstep := fun u => comb_step (P := pw k) (a := la.getD k 0) (b := lb.getD k 0) (u := u) hv.out
      rw [← nv_take_succ', ← nv_take_succ'] at hstep
      obtain ⟨da, hdda⟩ : ∃ d, la.getD k 0 = d := ⟨_, rfl⟩
      obtain ⟨db, hddb⟩ : ∃ d, lb.getD k 0 = d := ⟨_, rfl⟩
      rw [hdda] at hca hda1 hza' hstep
      rw [hddb] at hcb hdb1 hzb' hstep
      clear hdda hddb
      have hma := mul_bd (x := x) (d := da) (M := 2199023255552) hx0 hx1 hda1.1 (by omega) (by omega)
      have hmb := mul_bd (x := y) (d := db) (M := 2199023255552) hy0 hy1 hdb1.1 (by omega) (by omega)
      have hfc := hown.cell hrl.out hlt
      have hff := hown.frozen (k := k) hrl.out
      obtain ⟨u, hu⟩ : ∃ u, rs.getD k 0 = u := ⟨_, rfl⟩
      rw [hu] at hfc
      clear hu
      have HS := Lib.hid hstep; clear hstep
      have HZA := Lib.hid hza'; clear hza'
      have HZB := Lib.hid hzb'; clear hzb'
      have key : ∀ t : Int, t = c' + x * da + y * db → OwnI (wr.setCell ⟨w.heap.size, k, none⟩ (.int .i64 (bits BinOp.and IntKind.i64 t 1048575))) w.heap.size (.slice (some ⟨w.heap.size, 0, none⟩) na (na + 1)) (rs.set k (t % 1048576)) ∧ Dig ((rs.set k (t % 1048576)).take (k + 1)) ∧ nv ((rs.set k (t % 1048576)).take (k + 1)) + pw (k + 1) * (t / 1048576) = x * nv (la.take (k + 1)) + y * nv (lb.take (k + 1)) ∧ Below w.heap.size w (wr.setCell ⟨w.heap.size, k, none⟩ (.int .i64 (bits BinOp.and IntKind.i64 t 1048575))) := by
        intro t ht
        have hkl : (rs.take k).length = k := by rw [List.length_take, hrl.out]; omega
        refine ⟨by rw [and_low]; exact hown.store hrl.out k _, ?_, ?_, hb.setCell (p := ⟨w.heap.size, k, none⟩) (Nat.le_refl _) _⟩
        · rw [take_set_succ (by rw [hrl.out]; exact hlt)]; exact hdg.snoc (by omega) (by omega)
        · rw [take_set_succ (by rw [hrl.out]; exact hlt), nv_snoc, hkl, pw_succ]
          exact HS.out t ht
      have KEY := Lib.hid key; clear key
      by_cases hka : k < na
      · obtain ⟨b1, off1, hA1, hc1⟩ := hca hka
        subst hA1
        clear hca
        by_cases hkb : k < nb
        · obtain ⟨b2, off2, hA2, hc2⟩ := hcb hkb
          subst hA2
          clear hcb
          go_wp2_with fail
          go_roundw
          case rel =>
            obtain ⟨k1, k2, k3, k4⟩ := KEY.out (c' + x * da + y * db) rfl
            exact ⟨k + 1, _, _, by omega, by go_num, rfl, by omega, by omega, Lib.hid (by simp [hrl.out]), k1, k2, Lib.hid k3, k4⟩
          case measure => simp [intOf]; omega
        · clear hcb
          go_wp2_with fail
          go_roundw
          case rel =>
            obtain ⟨k1, k2, k3, k4⟩ := KEY.out (c' + x * da) (by rw [HZB.out (by omega)]; simp)
            exact ⟨k + 1, _, _, by omega, by go_num, rfl, by omega, by omega, Lib.hid (by simp [hrl.out]), k1, k2, Lib.hid k3, k4⟩
          case measure => simp [intOf]; omega
      · omega
    · have hkn : k = na := by omega
      subst hkn
      have hv' := hv.out
      rw [List.take_of_length_le (Nat.le_of_eq hrl.out), List.take_of_length_le (l := la) (by omega), List.take_of_length_le (l := lb) (by omega)] at hv'
      rw [List.take_of_length_le (Nat.le_of_eq hrl.out)] at hdg
      have hv2 : nv rs + pw rs.length * c' = x * nv la + y * nv lb := by rw [hrl.out]; exact hv'
      have hc0 : 0 ≤ c' := by
        have h1 := HP.out
        rw [← hv2] at h1
        have h2 := hdg.nv_lt
        rcases Int.lt_or_le c' 0 with h | h
        · have h3 : pw rs.length * c' ≤ pw rs.length * (-1) := Int.mul_le_mul_of_nonneg_left (by omega) (by have := pw_pos rs.length; omega)
          omega
        · exact h
      have HV := Lib.hid hv2; clear hv2 hv'
      go_wp2_with fail
      refine (carried_any rs c' _ _ w.heap.size hown hdg hs hc0 (by omega) (by rw [HV.out]; exact HZ.out) (by rw [hrl.out]; omega)).mono ?_
      rintro e w1 ⟨v1, rfl, hown1, hb1⟩
      go_wp2_with fail
      go_ret
      exact ⟨_, rfl, by rw [← HV.out]; exact hown1, hb.trans hb1⟩

theorem combine_any (la lb : List Int) (Aa Ab : Option Addr) (ca cb : Nat) (x y : Int) (w : World) (hIa : IntsAt w.heap.size w Aa la) (hIb : IntsAt w.heap.size w Ab lb) (hda : Dig la) (hdb : Dig lb) (hla : la.length ≤ 200) (hlb : lb.length ≤ 200)
    (hx0 : -2199023255552 ≤ x) (hx1 : x ≤ 2199023255552) (hy0 : -2199023255552 ≤ y) (hy1 : y ≤ 2199023255552) (hp : 0 ≤ x * nv la + y * nv lb) :
    Calls Tryz.prog 96 #[.slice Aa la.length ca, .int .i64 x, .slice Ab lb.length cb, .int .i64 y] w fun e w' => ∃ v', e = .returned v' ∧ OwnI w' w.heap.size v' (D (x * nv la + y * nv lb)) ∧ Below w.heap.size w w' := by
  rcases Nat.lt_or_ge la.length lb.length with h | h
  · exact combine_lt la lb Aa Ab ca cb x y w hIa hIb hda hdb hla hlb hx0 hx1 hy0 hy1 hp h
  · exact combine_ge la lb Aa Ab ca cb x y w hIa hIb hda hdb hla hlb hx0 hx1 hy0 hy1 hp h

end Go.Proofs.YtgpmmpajnfbecaaGreat

namespace Go.Proofs.YtgpmmpajnfbecaaGreat
open Go.RowKit

theorem two63 : (2 : Int) ^ 63 = 9223372036854775808 := by decide

theorem or_low {r d : Int} (h0 : 0 ≤ r) (h1 : r < 4398046511104) (d0 : 0 ≤ d) (d1 : d < 1048576) : bits BinOp.or IntKind.i64 (r * 1048576) d = r * 1048576 + d := by
  have e : (2 : Int) ^ 20 = 1048576 := by decide
  exact bits_join .i64 63 (by decide) (fun n h0 h1 => by rw [two63] at h1; rw [IntKind.wrap_i64]; omega) 20 (r * 1048576) d (by omega) (by rw [e]; omega) (by rw [two63]; omega) d0 (by rw [e]; omega) (by rw [two63]; omega)

theorem div_step {f r d q r' t tq : Int} (h : t = f * tq + r) (e : r * 1048576 + d = f * q + r') : d + 1048576 * t = f * (q + 1048576 * tq) + r' := by
  rw [h, Int.mul_add, Int.mul_add, ← Int.mul_assoc 1048576 f, Int.mul_comm 1048576 f, Int.mul_assoc]
  omega

theorem drop_cons {l : List Int} {k : Nat} (h : k < l.length) : l.drop k = l.getD k 0 :: l.drop (k + 1) := by
  rw [List.drop_eq_getElem_cons h, List.getD_eq_getElem?_getD, List.getElem?_eq_getElem h]; rfl
theorem drop_set_eq {l : List Int} {k : Nat} (h : k < l.length) (z : Int) : (l.set k z).drop k = z :: l.drop (k + 1) := by
  rw [List.drop_eq_getElem_cons (by simpa using h), List.getElem_set_self, List.drop_set_of_lt (by omega)]

theorem quo_lt {f r d : Int} (hf : 1 ≤ f) (h0 : 0 ≤ r) (h1 : r < f) (d0 : 0 ≤ d) (d1 : d < 1048576) : 0 ≤ (r * 1048576 + d) / f ∧ (r * 1048576 + d) / f < 1048576 := by
  refine ⟨Int.ediv_nonneg (by omega) (by omega), Int.ediv_lt_of_lt_mul (by omega) ?_⟩
  have : (r + 1) * 1048576 ≤ f * 1048576 := Int.mul_le_mul_of_nonneg_right (by omega) (by omega)
  rw [Int.mul_comm 1048576 f]
  omega

set_option maxHeartbeats 400000 in
theorem divideShort_any (l : List Int) (A : Option Addr) (cA : Nat) (f : Int) (w : World) (hI : IntsAt w.heap.size w A l) (hd : Dig l) (hl : l.length ≤ 200) (hf0 : 1 ≤ f) (hf1 : f ≤ 1099511627776) :
    Calls Tryz.prog 100 #[.slice A l.length cA, .int .i64 f] w fun e w' => ∃ v', e = .returned (.tuple #[v', .int .i64 (nv l % f)]) ∧ OwnI w' w.heap.size v' (D (nv l / f)) ∧ Below w.heap.size w w' := by
  obtain ⟨n, hn⟩ : ∃ n, l.length = n := ⟨_, rfl⟩
  have hnn : l.length ≤ n ∧ n ≤ l.length := by omega
  rw [hn] at hl ⊢
  have HN := Lib.hid hn; clear hn
  go_enter Tryz.func100, Tryz.ntmps100
  go_wp2_with (at_make; refine makeI rfl (.tmp 10) (.tmp 10) rfl w.heap.size n n _ _ rfl rfl rfl rfl (by omega) (by omega) (Nat.le_refl _) ?_; intro w0 hown0 hb0 hsz0)
  have hlt0 := hown0.lt.2
  go_loopw [7, 8] (fun cc i wr => ∃ (k : Nat) (r : Int) (qs : List Int), k ≤ n ∧ i = .int .i64 (k - 1) ∧ cc = .int .i64 r ∧ 0 ≤ r ∧ r < f ∧ Hid (qs.length = n) ∧ OwnI wr w.heap.size (.slice (some ⟨w.heap.size, 0, none⟩) n n) qs ∧ Dig (qs.drop k) ∧ Hid (nv (l.drop k) = f * nv (qs.drop k) + r) ∧ Below w.heap.size w wr) (fun _ i _ => (intOf i + 1).toNat)
  case atStart => exact ⟨n, 0, List.replicate n 0, Nat.le_refl _, rfl, rfl, by omega, by omega, Lib.hid (by simp), hown0, by (rw [List.drop_of_length_le (by simp)]; exact Dig.nil), Lib.hid (by rw [List.drop_of_length_le (by omega), List.drop_of_length_le (by simp)]; simp [nv]), hb0⟩
  case round =>
    obtain ⟨k, r, qs, hk, rfl, rfl, h0, h1, hql, hown, hdg, hv, hb⟩ := hrel
    have hs := hb.size
    by_cases hlt : 0 < k
    · obtain ⟨j, rfl⟩ : ∃ j, k = j + 1 := ⟨k - 1, by omega⟩
      obtain ⟨b, off, hA, hbB, hc⟩ := hI j (by omega)
      subst hA
      have hd1 := hd.getD (k := j) (by omega)
      have hc := (hb.cell (p := ⟨b, off + j, none⟩) hbB).trans hc
      have hdc := drop_cons (l := l) (k := j) (by omega)
      obtain ⟨d, hdd⟩ : ∃ d, l.getD j 0 = d := ⟨_, rfl⟩
      rw [hdd] at hc hd1 hdc
      clear hdd
      have HDC := Lib.hid hdc; clear hdc
      have hfc := hown.cell (k := j) hql.out (by omega)
      have hff := hown.frozen (k := j) hql.out
      obtain ⟨u, hu⟩ : ∃ u, qs.getD j 0 = u := ⟨_, rfl⟩
      rw [hu] at hfc
      clear hu
      have hor := or_low (r := r) (d := d) h0 (by omega) hd1.1 hd1.2
      have hq := quo_lt hf0 h0 h1 hd1.1 hd1.2
      have hm0 := Int.emod_nonneg (r * 1048576 + d) (b := f) (by omega)
      have hm1 := Int.emod_lt_of_pos (r * 1048576 + d) (b := f) (by omega)
      have hz : (f == 0) = false := by simp; omega
      have HR := Lib.hid (Int.mul_ediv_add_emod (r * 1048576 + d) f)
      go_wp2_with fail
      go_roundw
      case rel => exact ⟨j, _, qs.set j ((r * 1048576 + d) / f), by omega, by first | rfl | (congr 1; omega), rfl, hm0, hm1, Lib.hid (by simp [hql.out]), hown.store hql.out j _, by
          rw [drop_set_eq (by rw [hql.out]; omega)]
          intro x hx
          rcases List.mem_cons.1 hx with rfl | hx
          · exact hq
          · exact hdg x hx, Lib.hid (by
          rw [drop_set_eq (by rw [hql.out]; omega), HDC.out, nv_cons, nv_cons]
          exact div_step hv.out HR.out.symm), by exact hb.setCell (p := ⟨w.heap.size, j, none⟩) (Nat.le_refl _) _⟩
      case measure => simp [intOf]
    · have : k = 0 := by omega
      subst this
      have hv' := hv.out
      rw [List.drop_zero, List.drop_zero] at hv'
      rw [List.drop_zero] at hdg
      have hq : nv l / f = nv qs ∧ nv l % f = r := by
        rw [hv', Int.add_comm]
        exact ⟨by rw [Int.add_mul_ediv_left _ _ (by omega), Int.ediv_eq_zero_of_lt h0 h1, Int.zero_add], by rw [Int.add_mul_emod_self_left, Int.emod_eq_of_lt h0 h1]⟩
      have HQ := Lib.hid hq; clear hv' hq
      go_wp2_with (refine (trim_any qs _ _ w.heap.size hown hdg (by rw [hql.out]; omega)).mono ?_; rintro e w1 ⟨v1, rfl, hown1, rfl⟩)
      go_ret2
      rw [HQ.out.1, HQ.out.2]
      exact ⟨_, rfl, hown1, hb⟩

theorem split_any (z : Int) (w : World) (h0 : 0 ≤ z) (h1 : z < 18446744073709551616) :
    Calls Tryz.prog 80 #[.int .u64 z] w fun e w' => ∃ v', e = .returned v' ∧ OwnI w' w.heap.size v' (D z) ∧ Below w.heap.size w w' := by
  go_enter Tryz.func80, Tryz.ntmps80
  go_wp2_with fail
  go_loopw [0, 3] (fun x d wr => ∃ (l' : List Int) (c' : Int), x = .int .u64 c' ∧ 0 ≤ c' ∧ c' < 18446744073709551616 ∧ OwnI wr w.heap.size d l' ∧ l'.length ≤ 4 ∧ Hid (D z = l' ++ D c') ∧ Hid (nv l' + pw l'.length * c' = z) ∧ Dig l' ∧ Below w.heap.size w wr) (fun x _ _ => (intOf x).toNat)
  case atStart => exact ⟨[], z, rfl, h0, h1, OwnI.nil _ _, by simp, Lib.hid rfl, Lib.hid (by simp [nv, pw]), Dig.nil, Below.refl _ _⟩
  case round =>
    obtain ⟨l', c', rfl, hc0, hc1, hown, hl, hD, hv, hdg, hb⟩ := hrel
    have hs := hb.size
    by_cases hp : 0 < c'
    · have hl3 : l'.length < 4 := by
        rcases Nat.lt_or_ge l'.length 4 with h | h
        · exact h
        · have e : l'.length = 4 := by omega
          have e1 := hv.out
          rw [e] at e1
          have e2 : pw 4 = 1208925819614629174706176 := by decide
          rw [e2] at e1
          have := hdg.nv_nonneg
          omega
      have hand : bits BinOp.and IntKind.u64 c' 1048575 = c' % 1048576 := by
        have h := bits_and_u64_nat c'.toNat 1048575 (by omega) (by omega)
        rw [show c'.toNat &&& 1048575 = c'.toNat % 1048576 from Nat.and_two_pow_sub_one_eq_mod _ 20, Int.toNat_of_nonneg hc0] at h
        have h2 : ((c'.toNat % 1048576 : Nat) : Int) = c' % 1048576 := by omega
        exact h.trans h2
      go_wp2_with (first
        | (at_builtin; refine appI rfl (.tmp 8) (.tmp 12) rfl w.heap.size _ l' (c' % 1048576) rfl hown rfl (by omega) (by omega) ?_; intro v1 w1 hown1 hb1))
      go_roundw
      case rel => exact ⟨_, _, rfl, by omega, by omega, hown1, by simp; omega, Lib.hid (by rw [hD.out, D_pos hp]; simp), Lib.hid (by
        rw [← hv.out, nv_snoc, List.length_append, List.length_singleton, pw_succ, Int.mul_comm 1048576, Int.mul_assoc, Int.add_assoc, ← Int.mul_add]
        congr 2; omega), hdg.snoc (by omega) (by omega), hb.trans hb1⟩
      case measure => simp [intOf]; omega
    · have : c' = 0 := by omega
      subst this
      go_wp2_with fail
      go_ret
      exact ⟨_, rfl, by rw [hD.out, D_zero, List.append_nil]; exact hown, hb⟩

end Go.Proofs.YtgpmmpajnfbecaaGreat
