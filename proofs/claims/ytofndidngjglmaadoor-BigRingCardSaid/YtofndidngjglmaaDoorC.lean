/- Walks: combine. -/
import Derived.Test.YtofndidngjglmaaDoorB
namespace Go.Proofs.YtofndidngjglmaaDoor
open Go.RowKit

theorem getD_out {l : List Int} {k : Nat} (h : l.length ≤ k) : l.getD k 0 = 0 := by
  rw [List.getD_eq_getElem?_getD, List.getElem?_eq_none h]; rfl

theorem comb_step {P a b x y ta tb tr c' u : Int} (h : tr + P * c' = x * ta + y * tb) (hu : u = c' + x * a + y * b) :
    tr + P * (u % 1048576) + 1048576 * P * (u / 1048576) = x * (ta + P * a) + y * (tb + P * b) := by
  have e1 : u % 1048576 + 1048576 * (u / 1048576) = u := by omega
  rw [Int.mul_comm 1048576 P, Int.mul_assoc, Int.add_assoc, ← Int.mul_add, e1, hu, Int.mul_add, Int.mul_add, Int.mul_add, Int.mul_add]
  have e2 : P * (x * a) = x * (P * a) := by rw [← Int.mul_assoc, Int.mul_comm P x, Int.mul_assoc]
  have e3 : P * (y * b) = y * (P * b) := by rw [← Int.mul_assoc, Int.mul_comm P y, Int.mul_assoc]
  rw [e2, e3]
  omega

theorem comb_bd {la lb : List Int} {x y : Int} (hda : Dig la) (hdb : Dig lb) (hla : la.length ≤ 200) (hlb : lb.length ≤ 200) (hx1 : x ≤ 2199023255552) (hy1 : y ≤ 2199023255552) : x * nv la + y * nv lb < pw 1000 := by
  have h1 := hda.nv_lt
  have h0 := hda.nv_nonneg
  have h1' := hdb.nv_lt
  have h0' := hdb.nv_nonneg
  have h2 : x * nv la ≤ 2199023255552 * nv la := Int.mul_le_mul_of_nonneg_right hx1 h0
  have h2' : y * nv lb ≤ 2199023255552 * nv lb := Int.mul_le_mul_of_nonneg_right hy1 h0'
  have h3 := pw_le (a := la.length) (b := 200) hla
  have h3' := pw_le (a := lb.length) (b := 200) hlb
  have h4 : pw 1000 = pw 800 * pw 200 := pw_add 800 200
  have h5 : pw 3 * pw 200 ≤ pw 800 * pw 200 := Int.mul_le_mul_of_nonneg_right (pw_le (by omega)) (by have := pw_pos 200; omega)
  have h6 : pw 3 = 1152921504606846976 := by decide
  rw [h6] at h5
  have := pw_pos 200
  omega

set_option maxRecDepth 100000 in
set_option maxHeartbeats 1000000 in
theorem combine_lt (la lb : List Int) (Aa Ab : Option Addr) (ca cb : Nat) (x y : Int) (w : World) (hIa : IntsAt w.heap.size w Aa la) (hIb : IntsAt w.heap.size w Ab lb) (hda : Dig la) (hdb : Dig lb) (hla : la.length ≤ 200) (hlb : lb.length ≤ 200)
    (hx0 : -2199023255552 ≤ x) (hx1 : x ≤ 2199023255552) (hy0 : -2199023255552 ≤ y) (hy1 : y ≤ 2199023255552) (hp : 0 ≤ x * nv la + y * nv lb) (hle : la.length < lb.length) :
    Calls Tryd.prog 36 #[.slice Aa la.length ca, .int .i64 x, .slice Ab lb.length cb, .int .i64 y] w fun e w' => ∃ v', e = .returned v' ∧ OwnI w' w.heap.size v' (D (x * nv la + y * nv lb)) ∧ Below w.heap.size w w' := by
  obtain ⟨na, hna⟩ : ∃ n, la.length = n := ⟨_, rfl⟩
  obtain ⟨nb, hnb⟩ : ∃ n, lb.length = n := ⟨_, rfl⟩
  have hza : la.length ≤ na ∧ na ≤ la.length := by omega
  have hzb : lb.length ≤ nb ∧ nb ≤ lb.length := by omega
  have hZ := comb_bd hda hdb hla hlb hx1 hy1
  rw [hna] at hla ⊢
  rw [hnb] at hlb ⊢
  rw [hna, hnb] at hle
  have HNA := Lib.hid hna; clear hna
  have HNB := Lib.hid hnb; clear hnb
  have HZ := Lib.hid hZ; clear hZ
  have HP := Lib.hid hp; clear hp
  go_enter Tryd.func36, Tryd.ntmps36
  go_wp2_with (at_make; refine makeI rfl (.tmp 18) (.tmp 20) rfl w.heap.size nb (nb + 1) _ _ rfl rfl rfl (by omega) (by omega) (by omega) (Nat.le_refl _) ?_; intro w0 hown0 hb0 hsz0)
  have hlt0 := hown0.lt.2
  go_loopw [11, 23] (fun cc i wr => ∃ (k : Nat) (c' : Int) (rs : List Int), k ≤ nb ∧ i = .int .i64 k ∧ cc = .int .i64 c' ∧ -8796093022208 ≤ c' ∧ c' ≤ 8796093022208 ∧ Hid (rs.length = nb) ∧ OwnI wr w.heap.size (.slice (some ⟨w.heap.size, 0, none⟩) nb (nb + 1)) rs ∧ Dig (rs.take k) ∧ Hid (nv (rs.take k) + pw k * c' = x * nv (la.take k) + y * nv (lb.take k)) ∧ Below w.heap.size w wr) (fun _ i _ => nb - (intOf i).toNat)
  case atStart => exact ⟨0, 0, List.replicate nb 0, Nat.zero_le _, rfl, rfl, by omega, by omega, Lib.hid (by simp), hown0, Dig.nil, Lib.hid (by simp [nv]), hb0⟩
  case round =>
    obtain ⟨k, c', rs, hk, rfl, rfl, h0, h1, hrl, hown, hdg, hv, hb⟩ := hrel
    have hs := hb.size
    by_cases hlt : k < nb
    · have hda1 := hda.getD' k
      have hdb1 := hdb.getD' k
      have hca : k < na → ∃ b off, Aa = some ⟨b, off, none⟩ ∧ wr.cell? ⟨b, off + k, none⟩ = some (.int .i64 (la.getD k 0)) := fun h => by
        obtain ⟨b, off, hA, hbB, hc⟩ := hIa k (by omega)
        exact ⟨b, off, hA, (hb.cell (p := ⟨b, off + k, none⟩) hbB).trans hc⟩
      have hcb : k < nb → ∃ b off, Ab = some ⟨b, off, none⟩ ∧ wr.cell? ⟨b, off + k, none⟩ = some (.int .i64 (lb.getD k 0)) := fun h => by
        obtain ⟨b, off, hA, hbB, hc⟩ := hIb k (by omega)
        exact ⟨b, off, hA, (hb.cell (p := ⟨b, off + k, none⟩) hbB).trans hc⟩
      have hza' : na ≤ k → la.getD k 0 = 0 := fun h => getD_out (by omega)
      have hzb' : nb ≤ k → lb.getD k 0 = 0 := fun h => getD_out (by omega)
      have hstep := fun u => comb_step (P := pw k) (a := la.getD k 0) (b := lb.getD k 0) (u := u) hv.out
      rw [← nv_take_succ', ← nv_take_succ'] at hstep
      obtain ⟨da, hdda⟩ : ∃ d, la.getD k 0 = d := ⟨_, rfl⟩
      obtain ⟨db, hddb⟩ : ∃ d, lb.getD k 0 = d := ⟨_, rfl⟩
      rw [hdda] at hca hda1 hza' hstep
      rw [hddb] at hcb hdb1 hzb' hstep
      clear hdda hddb
      have hma := mul_bd (x := x) (d := da) (M := 2199023255552) hx0 hx1 hda1.1 (by omega) (by omega)
      have hmb := mul_bd (x := y) (d := db) (M := 2199023255552) hy0 hy1 hdb1.1 (by omega) (by omega)
      have hfc := hown.cell hrl.out hlt
      have hff := hown.frozen (k := k) hrl.out
      obtain ⟨u, hu⟩ : ∃ u, rs.getD k 0 = u := ⟨_, rfl⟩
      rw [hu] at hfc
      clear hu
      have HS := Lib.hid hstep; clear hstep
      have HZA := Lib.hid hza'; clear hza'
      have HZB := Lib.hid hzb'; clear hzb'
      have key : ∀ t : Int, t = c' + x * da + y * db → OwnI (wr.setCell ⟨w.heap.size, k, none⟩ (.int .i64 (bits BinOp.and IntKind.i64 t 1048575))) w.heap.size (.slice (some ⟨w.heap.size, 0, none⟩) nb (nb + 1)) (rs.set k (t % 1048576)) ∧ Dig ((rs.set k (t % 1048576)).take (k + 1)) ∧ nv ((rs.set k (t % 1048576)).take (k + 1)) + pw (k + 1) * (t / 1048576) = x * nv (la.take (k + 1)) + y * nv (lb.take (k + 1)) ∧ Below w.heap.size w (wr.setCell ⟨w.heap.size, k, none⟩ (.int .i64 (bits BinOp.and IntKind.i64 t 1048575))) := by
        intro t ht
        have hkl : (rs.take k).length = k := by rw [List.length_take, hrl.out]; omega
        refine ⟨by rw [and_low]; exact hown.store hrl.out k _, ?_, ?_, hb.setCell (p := ⟨w.heap.size, k, none⟩) (Nat.le_refl _) _⟩
        · rw [take_set_succ (by rw [hrl.out]; exact hlt)]; exact hdg.snoc (by omega) (by omega)
        · rw [take_set_succ (by rw [hrl.out]; exact hlt), nv_snoc, hkl, pw_succ]
          exact HS.out t ht
      have KEY := Lib.hid key; clear key
      by_cases hka : k < na
      · obtain ⟨b1, off1, hA1, hc1⟩ := hca hka
        subst hA1
        clear hca
        by_cases hkb : k < nb
        · obtain ⟨b2, off2, hA2, hc2⟩ := hcb hkb
          subst hA2
          clear hcb
          go_wp2_with fail
          go_roundw
          case rel =>
            obtain ⟨k1, k2, k3, k4⟩ := KEY.out (c' + x * da + y * db) rfl
            exact ⟨k + 1, _, _, by omega, by go_num, rfl, by omega, by omega, Lib.hid (by simp [hrl.out]), k1, k2, Lib.hid k3, k4⟩
          case measure => simp [intOf]; omega
        · omega
      · clear hca
        by_cases hkb : k < nb
        · obtain ⟨b2, off2, hA2, hc2⟩ := hcb hkb
          subst hA2
          clear hcb
          go_wp2_with fail
          go_roundw
          case rel =>
            obtain ⟨k1, k2, k3, k4⟩ := KEY.out (c' + y * db) (by rw [HZA.out (by omega)]; simp)
            exact ⟨k + 1, _, _, by omega, by go_num, rfl, by omega, by omega, Lib.hid (by simp [hrl.out]), k1, k2, Lib.hid k3, k4⟩
          case measure => simp [intOf]; omega
        · omega
    · have hkn : k = nb := by omega
      subst hkn
      have hv' := hv.out
      rw [List.take_of_length_le (Nat.le_of_eq hrl.out), List.take_of_length_le (l := la) (by omega), List.take_of_length_le (l := lb) (by omega)] at hv'
      rw [List.take_of_length_le (Nat.le_of_eq hrl.out)] at hdg
      have hv2 : nv rs + pw rs.length * c' = x * nv la + y * nv lb := by rw [hrl.out]; exact hv'
      have hc0 : 0 ≤ c' := by
        have h1 := HP.out
        rw [← hv2] at h1
        have h2 := hdg.nv_lt
        rcases Int.lt_or_le c' 0 with h | h
        · have h3 : pw rs.length * c' ≤ pw rs.length * (-1) := Int.mul_le_mul_of_nonneg_left (by omega) (by have := pw_pos rs.length; omega)
          omega
        · exact h
      have HV := Lib.hid hv2; clear hv2 hv'
      go_wp2_with fail
      refine (carried_any rs c' _ _ w.heap.size hown hdg hs hc0 (by omega) (by rw [HV.out]; exact HZ.out) (by rw [hrl.out]; omega)).mono ?_
      rintro e w1 ⟨v1, rfl, hown1, hb1⟩
      go_wp2_with fail
      go_ret
      exact ⟨_, rfl, by rw [← HV.out]; exact hown1, hb.trans hb1⟩

set_option maxRecDepth 100000 in
set_option maxHeartbeats 1000000 in
theorem combine_ge (la lb : List Int) (Aa Ab : Option Addr) (ca cb : Nat) (x y : Int) (w : World) (hIa : IntsAt w.heap.size w Aa la) (hIb : IntsAt w.heap.size w Ab lb) (hda : Dig la) (hdb : Dig lb) (hla : la.length ≤ 200) (hlb : lb.length ≤ 200)
    (hx0 : -2199023255552 ≤ x) (hx1 : x ≤ 2199023255552) (hy0 : -2199023255552 ≤ y) (hy1 : y ≤ 2199023255552) (hp : 0 ≤ x * nv la + y * nv lb) (hle : lb.length ≤ la.length) :
    Calls Tryd.prog 36 #[.slice Aa la.length ca, .int .i64 x, .slice Ab lb.length cb, .int .i64 y] w fun e w' => ∃ v', e = .returned v' ∧ OwnI w' w.heap.size v' (D (x * nv la + y * nv lb)) ∧ Below w.heap.size w w' := by
  obtain ⟨na, hna⟩ : ∃ n, la.length = n := ⟨_, rfl⟩
  obtain ⟨nb, hnb⟩ : ∃ n, lb.length = n := ⟨_, rfl⟩
  have hza : la.length ≤ na ∧ na ≤ la.length := by omega
  have hzb : lb.length ≤ nb ∧ nb ≤ lb.length := by omega
  have hZ := comb_bd hda hdb hla hlb hx1 hy1
  rw [hna] at hla ⊢
  rw [hnb] at hlb ⊢
  rw [hna, hnb] at hle
  have HNA := Lib.hid hna; clear hna
  have HNB := Lib.hid hnb; clear hnb
  have HZ := Lib.hid hZ; clear hZ
  have HP := Lib.hid hp; clear hp
  go_enter Tryd.func36, Tryd.ntmps36
  go_wp2_with (at_make; refine makeI rfl (.tmp 18) (.tmp 20) rfl w.heap.size na (na + 1) _ _ rfl rfl rfl (by omega) (by omega) (by omega) (Nat.le_refl _) ?_; intro w0 hown0 hb0 hsz0)
  have hlt0 := hown0.lt.2
  go_loopw [11, 23] (fun cc i wr => ∃ (k : Nat) (c' : Int) (rs : List Int), k ≤ na ∧ i = .int .i64 k ∧ cc = .int .i64 c' ∧ -8796093022208 ≤ c' ∧ c' ≤ 8796093022208 ∧ Hid (rs.length = na) ∧ OwnI wr w.heap.size (.slice (some ⟨w.heap.size, 0, none⟩) na (na + 1)) rs ∧ Dig (rs.take k) ∧ Hid (nv (rs.take k) + pw k * c' = x * nv (la.take k) + y * nv (lb.take k)) ∧ Below w.heap.size w wr) (fun _ i _ => na - (intOf i).toNat)
  case atStart => exact ⟨0, 0, List.replicate na 0, Nat.zero_le _, rfl, rfl, by omega, by omega, Lib.hid (by simp), hown0, Dig.nil, Lib.hid (by simp [nv]), hb0⟩
  case round =>
    obtain ⟨k, c', rs, hk, rfl, rfl, h0, h1, hrl, hown, hdg, hv, hb⟩ := hrel
    have hs := hb.size
    by_cases hlt : k < na
    · have hda1 := hda.getD' k
      have hdb1 := hdb.getD' k
      have hca : k < na → ∃ b off, Aa = some ⟨b, off, none⟩ ∧ wr.cell? ⟨b, off + k, none⟩ = some (.int .i64 (la.getD k 0)) := fun h => by
        obtain ⟨b, off, hA, hbB, hc⟩ := hIa k (by omega)
        exact ⟨b, off, hA, (hb.cell (p := ⟨b, off + k, none⟩) hbB).trans hc⟩
      have hcb : k < nb → ∃ b off, Ab = some ⟨b, off, none⟩ ∧ wr.cell? ⟨b, off + k, none⟩ = some (.int .i64 (lb.getD k 0)) := fun h => by
        obtain ⟨b, off, hA, hbB, hc⟩ := hIb k (by omega)
        exact ⟨b, off, hA, (hb.cell (p := ⟨b, off + k, none⟩) hbB).trans hc⟩
      have hza' : na ≤ k → la.getD k 0 = 0 := fun h => getD_out (by omega)
      have hzb' : nb ≤ k → lb.getD k 0 = 0 := fun h => getD_out (by omega)
      have hstep := fun u => comb_step (P := pw k) (a := la.getD k 0) (b := lb.getD k 0) (u := u) hv.out
      rw [← nv_take_succ', ← nv_take_succ'] at hstep
      obtain ⟨da, hdda⟩ : ∃ d, la.getD k 0 = d := ⟨_, rfl⟩
      obtain ⟨db, hddb⟩ : ∃ d, lb.getD k 0 = d := ⟨_, rfl⟩
      rw [hdda] at hca hda1 hza' hstep
      rw [hddb] at hcb hdb1 hzb' hstep
      clear hdda hddb
      have hma := mul_bd (x := x) (d := da) (M := 2199023255552) hx0 hx1 hda1.1 (by omega) (by omega)
      have hmb := mul_bd (x := y) (d := db) (M := 2199023255552) hy0 hy1 hdb1.1 (by omega) (by omega)
      have hfc := hown.cell hrl.out hlt
      have hff := hown.frozen (k := k) hrl.out
      obtain ⟨u, hu⟩ : ∃ u, rs.getD k 0 = u := ⟨_, rfl⟩
      rw [hu] at hfc
      clear hu
      have HS := Lib.hid hstep; clear hstep
      have HZA := Lib.hid hza'; clear hza'
      have HZB := Lib.hid hzb'; clear hzb'
      have key : ∀ t : Int, t = c' + x * da + y * db → OwnI (wr.setCell ⟨w.heap.size, k, none⟩ (.int .i64 (bits BinOp.and IntKind.i64 t 1048575))) w.heap.size (.slice (some ⟨w.heap.size, 0, none⟩) na (na + 1)) (rs.set k (t % 1048576)) ∧ Dig ((rs.set k (t % 1048576)).take (k + 1)) ∧ nv ((rs.set k (t % 1048576)).take (k + 1)) + pw (k + 1) * (t / 1048576) = x * nv (la.take (k + 1)) + y * nv (lb.take (k + 1)) ∧ Below w.heap.size w (wr.setCell ⟨w.heap.size, k, none⟩ (.int .i64 (bits BinOp.and IntKind.i64 t 1048575))) := by
        intro t ht
        have hkl : (rs.take k).length = k := by rw [List.length_take, hrl.out]; omega
        refine ⟨by rw [and_low]; exact hown.store hrl.out k _, ?_, ?_, hb.setCell (p := ⟨w.heap.size, k, none⟩) (Nat.le_refl _) _⟩
        · rw [take_set_succ (by rw [hrl.out]; exact hlt)]; exact hdg.snoc (by omega) (by omega)
        · rw [take_set_succ (by rw [hrl.out]; exact hlt), nv_snoc, hkl, pw_succ]
          exact HS.out t ht
      have KEY := Lib.hid key; clear key
      by_cases hka : k < na
      · obtain ⟨b1, off1, hA1, hc1⟩ := hca hka
        subst hA1
        clear hca
        by_cases hkb : k < nb
        · obtain ⟨b2, off2, hA2, hc2⟩ := hcb hkb
          subst hA2
          clear hcb
          go_wp2_with fail
          go_roundw
          case rel =>
            obtain ⟨k1, k2, k3, k4⟩ := KEY.out (c' + x * da + y * db) rfl
            exact ⟨k + 1, _, _, by omega, by go_num, rfl, by omega, by omega, Lib.hid (by simp [hrl.out]), k1, k2, Lib.hid k3, k4⟩
          case measure => simp [intOf]; omega
        · clear hcb
          go_wp2_with fail
          go_roundw
          case rel =>
            obtain ⟨k1, k2, k3, k4⟩ := KEY.out (c' + x * da) (by rw [HZB.out (by omega)]; simp)
            exact ⟨k + 1, _, _, by omega, by go_num, rfl, by omega, by omega, Lib.hid (by simp [hrl.out]), k1, k2, Lib.hid k3, k4⟩
          case measure => simp [intOf]; omega
      · omega
    · have hkn : k = na := by omega
      subst hkn
      have hv' := hv.out
      rw [List.take_of_length_le (Nat.le_of_eq hrl.out), List.take_of_length_le (l := la) (by omega), List.take_of_length_le (l := lb) (by omega)] at hv'
      rw [List.take_of_length_le (Nat.le_of_eq hrl.out)] at hdg
      have hv2 : nv rs + pw rs.length * c' = x * nv la + y * nv lb := by rw [hrl.out]; exact hv'
      have hc0 : 0 ≤ c' := by
        have h1 := HP.out
        rw [← hv2] at h1
        have h2 := hdg.nv_lt
        rcases Int.lt_or_le c' 0 with h | h
        · have h3 : pw rs.length * c' ≤ pw rs.length * (-1) := Int.mul_le_mul_of_nonneg_left (by omega) (by have := pw_pos rs.length; omega)
          omega
        · exact h
      have HV := Lib.hid hv2; clear hv2 hv'
      go_wp2_with fail
      refine (carried_any rs c' _ _ w.heap.size hown hdg hs hc0 (by omega) (by rw [HV.out]; exact HZ.out) (by rw [hrl.out]; omega)).mono ?_
      rintro e w1 ⟨v1, rfl, hown1, hb1⟩
      go_wp2_with fail
      go_ret
      exact ⟨_, rfl, by rw [← HV.out]; exact hown1, hb.trans hb1⟩

theorem combine_any (la lb : List Int) (Aa Ab : Option Addr) (ca cb : Nat) (x y : Int) (w : World) (hIa : IntsAt w.heap.size w Aa la) (hIb : IntsAt w.heap.size w Ab lb) (hda : Dig la) (hdb : Dig lb) (hla : la.length ≤ 200) (hlb : lb.length ≤ 200)
    (hx0 : -2199023255552 ≤ x) (hx1 : x ≤ 2199023255552) (hy0 : -2199023255552 ≤ y) (hy1 : y ≤ 2199023255552) (hp : 0 ≤ x * nv la + y * nv lb) :
    Calls Tryd.prog 36 #[.slice Aa la.length ca, .int .i64 x, .slice Ab lb.length cb, .int .i64 y] w fun e w' => ∃ v', e = .returned v' ∧ OwnI w' w.heap.size v' (D (x * nv la + y * nv lb)) ∧ Below w.heap.size w w' := by
  rcases Nat.lt_or_ge la.length lb.length with h | h
  · exact combine_lt la lb Aa Ab ca cb x y w hIa hIb hda hdb hla hlb hx0 hx1 hy0 hy1 hp h
  · exact combine_ge la lb Aa Ab ca cb x y w hIa hIb hda hdb hla hlb hx0 hx1 hy0 hy1 hp h

end Go.Proofs.YtofndidngjglmaaDoor
