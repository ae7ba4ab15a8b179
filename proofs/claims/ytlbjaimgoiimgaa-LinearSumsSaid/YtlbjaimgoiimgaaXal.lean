/- Walks: the reference's times. Walks: the reference's over (division by bisection). Walks: the reference's tenth, made, kept. Walks: the reference's Right. Walks: the reference's kept, Neg and Compare. Walks: the reference's Compare. -/
import Derived.Test.YtlbjaimgoiimgaaXak
import Derived.Test.YtlbjaimgoiimgaaXab
import Derived.IntWalk
import Derived.Test.YtlbjaimgoiimgaaXac
import Derived.Test.YtlbjaimgoiimgaaXah

namespace Go.Proofs.Ytlbjaimgoiimgaa
open Go.RowKit

theorem mul_dd2 {x y : Int} (hx0 : 0 ≤ x) (hx1 : x < 1048576) (hy0 : 0 ≤ y) (hy1 : y < 1048576) : 0 ≤ x * y ∧ x * y ≤ 1099509530625 := by
  have h1 : x * y ≤ 1048575 * 1048575 := Int.mul_le_mul (by omega) (by omega) hy0 (by omega)
  exact ⟨Int.mul_nonneg hx0 hy0, by omega⟩
theorem times_step {o : List Int} {i j : Nat} {c x y u A t Z : Int} (hl : i + j < o.length) (hu : o.getD (i + j) 0 = u) (h : nv o + pw (i + j) * c = A + pw i * (x * t)) (hZ : Z = u + x * y + c) :
    nv (o.set (i + j) (Z % 1048576)) + pw (i + j + 1) * (Z / 1048576) = A + pw i * (x * (t + pw j * y)) := by
  rw [nv_set hl, hu, pw_succ]
  have e1 : 1048576 * pw (i + j) * (Z / 1048576) = pw (i + j) * (1048576 * (Z / 1048576)) := by rw [Int.mul_comm 1048576, Int.mul_assoc]
  have e2 : pw (i + j) * (Z % 1048576 - u) + pw (i + j) * (1048576 * (Z / 1048576)) = pw (i + j) * (x * y + c) := by rw [← Int.mul_add]; congr 1; omega
  have e3 : pw (i + j) * (x * y + c) = pw (i + j) * (x * y) + pw (i + j) * c := Int.mul_add _ _ _
  have e4 : pw i * (x * (t + pw j * y)) = pw i * (x * t) + pw (i + j) * (x * y) := by
    rw [Int.mul_add x, Int.mul_add, pw_add, Int.mul_assoc]
    congr 2
    rw [← Int.mul_assoc, Int.mul_comm x, Int.mul_assoc]
  rw [e1, e4]
  omega
theorem times_end {o la lb : List Int} {i : Nat} {c x : Int} (ho : Dig o) (ha : Dig la) (hb : Dig lb) (hx : nv (la.take (i + 1)) = nv (la.take i) + pw i * x) (hc : 0 ≤ c)
    (h : nv o + pw (i + (lb.length + 1)) * c = nv (la.take i) * nv lb + pw i * (x * nv lb)) : c = 0 := by
  have h1 : nv (la.take i) * nv lb + pw i * (x * nv lb) = nv (la.take (i + 1)) * nv lb := by rw [hx, Int.add_mul, Int.mul_assoc]
  rw [h1] at h
  have h2 := (ha.take_lt (i + 1))
  have h3 := hb.nv_lt
  have h4 := hb.nv_nonneg
  have h5 : nv (la.take (i + 1)) * nv lb ≤ pw (i + 1) * nv lb := Int.mul_le_mul_of_nonneg_right (by omega) h4
  have h6 : pw (i + 1) * nv lb < pw (i + 1) * pw lb.length := Int.mul_lt_mul_of_pos_left h3 (pw_pos _)
  rw [← pw_add, show i + 1 + lb.length = i + (lb.length + 1) by omega] at h6
  have h7 := ho.nv_nonneg
  rcases Int.lt_or_eq_of_le hc with g | g
  · have : pw (i + (lb.length + 1)) * 1 ≤ pw (i + (lb.length + 1)) * c := Int.mul_le_mul_of_nonneg_left (by omega) (by have := pw_pos (i + (lb.length + 1)); omega)
    omega
  · exact g.symm
theorem Dig.set {l : List Int} (h : Dig l) (k : Nat) {z : Int} (h0 : 0 ≤ z) (h1 : z < 1048576) : Dig (l.set k z) := by
  intro d hd
  rcases List.mem_or_eq_of_mem_set hd with h' | rfl
  · exact h d h'
  · exact ⟨h0, h1⟩
theorem Dig.zeros (n : Nat) : Dig (List.replicate n 0) := by
  intro d hd
  obtain rfl := List.eq_of_mem_replicate hd
  decide

set_option maxRecDepth 100000 in
set_option maxHeartbeats 4000000 in
theorem rtimes_any (la lb : List Int) (va vb : Value) (w : World) (h1 : Sv w va la) (h2 : Sv w vb lb) (hda : Dig la) (hdb : Dig lb) (hla : la.length ≤ 1000) (hlb : lb.length ≤ 1000) :
    Calls Try.prog 93 #[va, vb] w fun e w' => ∃ v', e = .returned v' ∧ OwnI w' w.heap.size v' (D (nv la * nv lb)) ∧ Below w.heap.size w w' := by
  have hdg := fun (w' : World) (hb : Below w.heap.size w w') i d (hd : lb.getD i 0 = d) => rdigit_any lb i vb w' (h2.later hb) d hd
  obtain ⟨Aa, ca, rfl, _, _, hIa⟩ := h1
  obtain ⟨Ab, cb, rfl, _, _, _⟩ := h2
  obtain ⟨na, hna⟩ : ∃ n, la.length = n := ⟨_, rfl⟩
  obtain ⟨nb, hnb⟩ : ∃ n, lb.length = n := ⟨_, rfl⟩
  rw [hna] at hla ⊢
  rw [hnb] at hlb hdg ⊢
  have HNA := Lib.hid hna; clear hna
  have HNB := Lib.hid hnb; clear hnb
  have HDG := Lib.hid hdg; clear hdg
  have HIA := Lib.hid hIa; clear hIa
  have HDA := Lib.hid hda; clear hda
  have HDB := Lib.hid hdb; clear hdb
  obtain ⟨m, hm⟩ : ∃ m, na + nb = m := ⟨_, rfl⟩
  have hmm : na + nb ≤ m ∧ m ≤ na + nb := by omega
  have HM := Lib.hid hm; clear hm
  go_enter Try.func93, Try.ntmps93
  go_wp2_with (at_make; refine makeI rfl (.tmp 14) (.tmp 14) rfl w.heap.size m m _ _ rfl rfl (by omega) (by omega) (by omega) (by omega) (Nat.le_refl _) ?_; intro w0 hown0 hb0 hsz0)
  have hlt0 := hown0.lt.2
  go_loopw [6] (fun iv wr => ∃ (i : Nat) (rs : List Int), i ≤ na ∧ iv = .int .i64 i ∧ Hid (rs.length = m) ∧ OwnI wr w.heap.size (.slice (some ⟨w.heap.size, 0, none⟩) m m) rs ∧ Hid (Dig rs) ∧ Hid (nv rs = nv (la.take i) * nv lb) ∧ Below w.heap.size w wr) (fun i _ => na - (intOf i).toNat)
  case atStart => exact ⟨0, List.replicate m 0, Nat.zero_le _, rfl, Lib.hid (by simp), hown0, Lib.hid (Dig.zeros _), Lib.hid (by rw [nv_replicate]; simp [nv]), hb0⟩
  case round =>
    obtain ⟨i, rs, hi, rfl, hrl, hown, hdig, hv, hb⟩ := hrel
    have hs := hb.size
    by_cases hlt : i < na
    · obtain ⟨b, off, hA, hbB, hc⟩ := HIA.out i (by have := HNA.out; omega)
      subst hA
      have hx := HDA.out.getD (k := i) (by have := HNA.out; omega)
      have hca := (hb.cell (p := ⟨b, off + i, none⟩) hbB).trans hc
      have hxs := nv_take_succ (l := la) (k := i) (by have := HNA.out; omega)
      obtain ⟨x, hxx⟩ : ∃ d, la.getD i 0 = d := ⟨_, rfl⟩
      rw [hxx] at hca hx hxs hc
      obtain ⟨hx0, hx1⟩ := hx
      have HCW := Lib.hid hc; clear hc
      clear hxx
      have HXS := Lib.hid hxs; clear hxs
      go_wp2_with fail
      obtain ⟨w1, hw1⟩ : ∃ w1 : World, w1 = wr := ⟨_, rfl⟩
      subst hw1
      go_loopw [7, 8] (fun cc jv wr => ∃ (j : Nat) (c : Int) (rs' : List Int), j ≤ nb + 1 ∧ jv = .int .i64 j ∧ cc = .int .i64 c ∧ 0 ≤ c ∧ c < 1048576 ∧ Hid (rs'.length = m) ∧ OwnI wr w.heap.size (.slice (some ⟨w.heap.size, 0, none⟩) m m) rs' ∧ Hid (Dig rs') ∧ Hid (nv rs' + pw (i + j) * c = nv (la.take i) * nv lb + pw i * (x * nv (lb.take j))) ∧ Below w.heap.size w wr) (fun _ j _ => nb + 5 - (intOf j).toNat)
      case atStart => exact ⟨0, 0, rs, Nat.zero_le _, rfl, rfl, by omega, by omega, hrl, hown, hdig, Lib.hid (by rw [hv.out]; simp [nv]), hb⟩
      case round =>
        obtain ⟨j, c, rs', hj, rfl, rfl, hc0, hc1, hrl', hown', hdig', hv', hb'⟩ := hrel
        have hs' := hb'.size
        have hca := (hb'.cell (p := ⟨b, off + i, none⟩) hbB).trans HCW.out
        by_cases hgo : j < nb ∨ 0 < c
        · have hj2 : j ≤ nb := by
            rcases Nat.lt_or_ge j (nb + 1) with g | g
            · omega
            · obtain rfl : j = nb + 1 := by omega
              have h9 := hv'.out
              rw [List.take_of_length_le (l := lb) (by have := HNB.out; omega), ← HNB.out] at h9
              have := times_end hdig'.out HDA.out HDB.out HXS.out hc0 h9
              omega
          obtain ⟨y, hy⟩ : ∃ d, lb.getD j 0 = d := ⟨_, rfl⟩
          have by_ := HDB.out.getD' j
          rw [hy] at by_
          obtain ⟨hy0, hy1⟩ := by_
          have hfc := hown'.cell (k := i + j) hrl'.out (by omega)
          have hff := hown'.frozen (k := i + j) hrl'.out
          have bu := hdig'.out.getD' (i + j)
          obtain ⟨u, hu⟩ : ∃ u, rs'.getD (i + j) 0 = u := ⟨_, rfl⟩
          rw [hu] at hfc bu
          obtain ⟨hu0, hu1⟩ := bu
          have hst := fun Z (hZ : Z = u + x * y + c) => times_step (by rw [hrl'.out]; omega) hu hv'.out hZ
          have hys := nv_take_any lb j
          rw [hy] at hys
          rw [← hys] at hst
          have HST := Lib.hid hst; clear hst hys hu
          have hdc := fun nq => (HDG.out (wr.drewN nq) (below_dr hb' nq) j y hy).mono fun _ _ h => (⟨h.1, h.2.symm⟩ : _ ∧ _ = _)
          have HDC := Lib.hid hdc; clear hdc hy
          have hxy := mul_dd2 hx0 hx1 hy0 hy1
          obtain ⟨P, hP⟩ : ∃ P, x * y = P := ⟨_, rfl⟩
          rw [hP] at hxy
          obtain ⟨hP0, hP1⟩ := hxy
          have HP := Lib.hid hP; clear hP
          have hpart : (j < nb) ∨ (¬ j < nb ∧ 0 < c) := by omega
          have HZZ : Hid (u + P + c = u + x * y + c) := Lib.hid (by rw [HP.out])
          have hownq := fun q (z : Int) => (show OwnI ((wr.drewN q).setCell ⟨w.heap.size, i + j, none⟩ (.int .i64 z)) w.heap.size _ _ from hown'.store hrl'.out (i + j) z)
          have HOQ := Lib.hid hownq; clear hownq
          have f1 : IntKind.i64.wrap ((i : Int) + (j : Int)) = (i : Int) + (j : Int) := IntWalk.i64_in _ (by omega)
          have f2 : IntKind.i64.wrap (x * y) = P := by rw [HP.out]; exact IntWalk.i64_in _ (by omega)
          have f3 : IntKind.i64.wrap (u + P) = u + P := IntWalk.i64_in _ (by omega)
          have f4 : IntKind.i64.wrap (u + P + c) = u + P + c := IntWalk.i64_in _ (by omega)
          have f5 : 0 ≤ (i : Int) + (j : Int) := by omega
          have f6 : ((i : Int) + (j : Int)).toNat = i + j := by omega
          have f7 : (i : Int) + (j : Int) < (m : Int) := by omega
          clear hgo
          rcases hpart with g1 | ⟨g1, g2⟩
          · have q1 : decide (j < nb) = true := by simpa using g1
            go_wp2_with fail
            go_quiet ((go_at_call 94; exact Calls.quiet_of_same (HDC.out _)))
            clear f2 f3 f4
            go_wp2_with fail
            go_roundw
            case rel => exact ⟨j + 1, _, _, by omega, by go_num, rfl, by omega, by omega, Lib.hid (by simp [hrl'.out]), HOQ.out _ _, Lib.hid (hdig'.out.set _ (by omega) (by omega)), Lib.hid (HST.out _ HZZ.out), (below_dr hb' _).setCell (p := ⟨w.heap.size, i + j, none⟩) (Nat.le_refl _) _⟩
            case measure => simp [intOf]; omega
          · have q1 : decide (j < nb) = false := by simpa using g1
            go_wp2_with fail
            go_quiet ((go_at_call 94; exact Calls.quiet_of_same (HDC.out _)))
            clear f2 f3 f4
            go_wp2_with fail
            go_roundw
            case rel => exact ⟨j + 1, _, _, by omega, by go_num, rfl, by omega, by omega, Lib.hid (by simp [hrl'.out]), HOQ.out _ _, Lib.hid (hdig'.out.set _ (by omega) (by omega)), Lib.hid (HST.out _ HZZ.out), (below_dr hb' _).setCell (p := ⟨w.heap.size, i + j, none⟩) (Nat.le_refl _) _⟩
            case measure => simp [intOf]; omega
        · have hc : c = 0 := by omega
          subst hc
          have g1 : ¬ j < nb := by omega
          have q1 : decide (j < nb) = false := by simpa using g1
          have hv2 := hv'.out
          rw [List.take_of_length_le (l := lb) (by have := HNB.out; omega), Int.mul_zero, Int.add_zero] at hv2
          have HV2 := Lib.hid hv2; clear hv2 hgo
          go_wp2_with fail
          go_roundw
          case rel => exact ⟨i + 1, rs', by omega, by go_num, hrl', hown', hdig', Lib.hid (by rw [HV2.out, HXS.out, Int.add_mul, Int.mul_assoc]), hb'⟩
          case measure => simp [intOf]; omega
    · have : i = na := by omega
      subst this
      have hvv := hv.out
      rw [List.take_of_length_le (by have := HNA.out; omega)] at hvv
      have HV := Lib.hid hvv; clear hvv
      go_wp2_with fail
      (with_reducible refine (rtrim_any rs _ _ hown.sv hdig.out (by have := hrl.out; omega)).mono ?_)
      rintro e w1 ⟨v1, rfl, hv1, hb1⟩
      go_wp2_with fail
      go_ret
      exact ⟨_, rfl, by rw [← HV.out]; exact hv1.mono hs, hb.trans (hb1.mono hs)⟩

end Go.Proofs.Ytlbjaimgoiimgaa

namespace Go.Proofs.Ytlbjaimgoiimgaa
open Go.RowKit

theorem Sv.later' {w w' : World} {v : Value} {l : List Int} (h : Sv w v l) (hb : Below w.heap.size w w') : Sv w' v l := h.later hb
theorem sv_lit1 (w : World) (z : Int) : Sv (w.alloc (.cells #[.int .i64 z] 3)) (.slice (some ⟨w.heap.size, 0, none⟩) 1 1) [z] := by
  refine ⟨_, _, rfl, Nat.le_refl _, by decide, fun k hk => ⟨w.heap.size, 0, rfl, by simp, ?_⟩⟩
  have hk0 : k = 0 := by simpa using hk
  subst hk0
  exact cell_of_row _ _ 0 _ _ (0, 0) (heap_alloc_new w _)
theorem ownI_lit1 (w : World) (z : Int) : OwnI (w.alloc (.cells #[.int .i64 z] 3)) w.heap.size (.slice (some ⟨w.heap.size, 0, none⟩) 1 1) [z] :=
  World.ownsRow_lit (e := 3) (size := 1) (base := w.heap.size) w #[.int .i64 z] 1 (Nat.le_refl _) (by unfold maxLen; omega) (by simp)
theorem nv_one (z : Int) : nv [z] = z := by rw [nv_cons, nv_nil]; omega
theorem dig_one {z : Int} (h0 : 0 ≤ z) (h1 : z < 1048576) : Dig [z] := fun d hd => by
  rw [List.mem_singleton] at hd; subst hd; exact ⟨h0, h1⟩
theorem D_len_mono {x y : Int} (hx : 0 ≤ x) (h : x ≤ y) : (D x).length ≤ (D y).length := by
  rw [D_len_le hx]
  have := (D_len_le (z := y) (by omega)).1 (Nat.le_refl _)
  omega
theorem over_step {A Y Q R d X : Int} (hY : 1 ≤ Y) (hQ : Q = A / Y) (hR : R = A % Y) (hX : X = d + 1048576 * R) :
    (d + 1048576 * A) / Y = X / Y + 1048576 * Q ∧ (d + 1048576 * A) % Y = X % Y := by
  have h1 : A = Y * Q + R := by rw [hQ, hR]; exact (Int.mul_ediv_add_emod A Y).symm
  have h2 : d + 1048576 * A = X + Y * (1048576 * Q) := by
    have : Y * (1048576 * Q) = 1048576 * (Y * Q) := by rw [← Int.mul_assoc, Int.mul_comm Y, Int.mul_assoc]
    omega
  rw [h2, Int.add_mul_ediv_left _ _ (by omega), Int.add_mul_emod_self_left]
  exact ⟨rfl, rfl⟩
theorem over_bd {d R Y X : Int} (h0 : 0 ≤ d) (h1 : d < 1048576) (hR0 : 0 ≤ R) (hR : R < Y) (hX : X = d + 1048576 * R) : 0 ≤ X ∧ X < Y * 1048576 := by omega
theorem over_fin {lo X Y : Int} (hY : 1 ≤ Y) (h1 : Y * lo ≤ X) (h2 : X < Y * (lo + 1)) : lo = X / Y ∧ X - Y * lo = X % Y := by
  have h3 : Y * (lo + 1) = Y * lo + Y := by rw [Int.mul_add, Int.mul_one]
  have h4 : X / Y = lo := by
    rw [show X = (X - Y * lo) + Y * lo by omega, Int.add_mul_ediv_left _ _ (by omega), Int.ediv_eq_zero_of_lt (by omega) (by omega)]
    omega
  refine ⟨h4.symm, ?_⟩
  have := Int.mul_ediv_add_emod X Y
  rw [h4] at this
  omega

set_option maxRecDepth 100000 in
set_option maxHeartbeats 4000000 in
theorem rover_any (la lb : List Int) (va vb : Value) (w : World) (h1 : Sv w va la) (h2 : Sv w vb lb) (hda : Dig la) (hdb : Dig lb) (hla : la.length ≤ 400) (hlb : lb.length ≤ 400) (Y : Int) (hYb : nv lb = Y) (hY : 1 ≤ Y) :
    Calls Try.prog 78 #[va, vb] w fun e w' => ∃ v1 v2, e = .returned (.tuple #[v1, v2]) ∧ OwnI w' w.heap.size v1 (D (nv la / Y)) ∧ OwnI w' w.heap.size v2 (D (nv la % Y)) ∧ Below w.heap.size w w' := by
  obtain ⟨Aa, ca, rfl, _, _, hIa⟩ := h1
  have hvb := h2
  have HVB := Lib.hid hvb; clear hvb
  obtain ⟨Ab, cb, rfl, _, _, _⟩ := h2
  obtain ⟨n, hn⟩ : ∃ n, la.length = n := ⟨_, rfl⟩
  obtain ⟨nb, hnb⟩ : ∃ n, lb.length = n := ⟨_, rfl⟩
  have hYlt : Y < pw 400 := by
    have := hdb.nv_lt
    have := pw_le hlb
    omega
  rw [hn] at hla ⊢
  rw [hnb] at hlb HVB ⊢
  have HN := Lib.hid hn; clear hn
  have HNB := Lib.hid hnb; clear hnb
  have HYB := Lib.hid hYb; clear hYb
  have HIA := Lib.hid hIa; clear hIa
  have HDA := Lib.hid hda; clear hda
  have HDB := Lib.hid hdb; clear hdb
  have HYL := Lib.hid hYlt; clear hYlt
  have HY := Lib.hid hY; clear hY
  go_enter Try.func78, Try.ntmps78
  go_wp2_with (at_make; refine makeI rfl (.tmp 13) (.tmp 13) rfl w.heap.size n n _ _ rfl rfl rfl rfl (by omega) (by omega) (Nat.le_refl _) ?_; intro w0 hown0 hb0 hsz0)
  have hlt0 := hown0.lt.2
  go_loopw [7, 8] (fun rv iv wr => ∃ (k : Nat) (qs : List Int) (R : Int), k ≤ n ∧ iv = .int .i64 ((k : Int) - 1) ∧ OwnI wr (w.heap.size + 1) rv (D R) ∧ Hid (qs.length = n) ∧ OwnI wr w.heap.size (.slice (some ⟨w.heap.size, 0, none⟩) n n) qs ∧ Hid (Dig qs) ∧ Hid (nv (qs.take k) = 0) ∧ Hid (nv (qs.drop k) = nv (la.drop k) / Y) ∧ Hid (R = nv (la.drop k) % Y) ∧ Below w.heap.size w wr) (fun _ i _ => (intOf i + 1).toNat)
  case atStart => exact ⟨n, List.replicate n 0, 0, Nat.le_refl _, rfl, by rw [D_zero]; exact OwnI.nil _ _, Lib.hid (by simp), hown0, Lib.hid (Dig.zeros _), Lib.hid (by rw [List.take_of_length_le (by simp), nv_replicate] <;> simp), Lib.hid (by rw [List.drop_eq_nil_of_le (by simp), List.drop_eq_nil_of_le (by rw [HN.out]; exact Nat.le_refl _), nv_nil] <;> simp), Lib.hid (by rw [List.drop_eq_nil_of_le (by rw [HN.out]; exact Nat.le_refl _), nv_nil] <;> simp), hb0⟩
  case round =>
    obtain ⟨k, qs, R, hk, rfl, hr, hql, hown, hdig, hq0, hqv, hRv, hb⟩ := hrel
    have hs := hb.size
    have hsw : w.heap.size < wr.heap.size := hown.lt.2
    by_cases hk0 : 0 < k
    · obtain ⟨i, rfl⟩ : ∃ i, k = i + 1 := ⟨k - 1, by omega⟩
      have hj : ((i + 1 : Nat) : Int) - 1 = (i : Int) := by omega
      rw [hj]
      clear hj hk0
      obtain ⟨b, off, hA, hbB, hc⟩ := HIA.out i (by have := HN.out; omega)
      subst hA
      have hcw := (hb.cell (p := ⟨b, off + i, none⟩) hbB).trans hc
      have hx := HDA.out.getD (k := i) (by have := HN.out; omega)
      have hdr := nv_drop_any la i
      obtain ⟨d, hd⟩ : ∃ d, la.getD i 0 = d := ⟨_, rfl⟩
      rw [hd] at hcw hx hdr
      obtain ⟨hd0, hd1⟩ := hx
      clear hd hc
      have hR0 : 0 ≤ R := by rw [hRv.out]; exact Int.emod_nonneg _ (by have := HY.out; omega)
      have hR1 : R < Y := by rw [hRv.out]; exact Int.emod_lt_of_pos _ (by have := HY.out; omega)
      obtain ⟨X, hX⟩ : ∃ X, X = d + 1048576 * R := ⟨_, rfl⟩
      obtain ⟨hX0, hX1⟩ := over_bd hd0 hd1 hR0 hR1 hX
      have hst := over_step HY.out rfl hRv.out hX
      rw [← hqv.out, ← hdr] at hst
      have HST := Lib.hid hst; clear hst hdr
      have hXD : nv (d :: D R) = X := by rw [nv_cons, nv_D hR0, hX]
      have HXD := Lib.hid hXD; clear hXD
      have hRl : (D R).length ≤ 400 := (D_len_le hR0).2 (by have := HYL.out; omega)
      have HX0 := Lib.hid hX0; clear hX0
      have HX1 := Lib.hid hX1; clear hX1
      have HR0 := Lib.hid hR0; clear hR0
      clear hX hR1
      have hXl : X < pw 401 := by
        have h1 := HX1.out
        have h2 := HYL.out
        rw [show (401 : Nat) = 400 + 1 from rfl, pw_succ]
        omega
      have HXL := Lib.hid hXl; clear hXl
      obtain ⟨Ar, cr, hrv, hrc, hrm, hrI⟩ := hr.sv
      have hrown := hr
      subst hrv
      have hlit := ownI_lit1 wr d
      have hIr : IntsAt (wr.alloc (.cells #[.int .i64 d] 3)).heap.size (wr.alloc (.cells #[.int .i64 d] 3)) Ar (D R) := (hrI.below ((Below.refl _ wr).alloc (Nat.le_refl _) _)).more (by simp)
      have HLIT := Lib.hid hlit; clear hlit
      have HIR := Lib.hid hIr; clear hIr
      obtain ⟨nr, hnr⟩ : ∃ n, (D R).length = n := ⟨_, rfl⟩
      rw [hnr] at hrown hrc hRl ⊢
      have HNR := Lib.hid hnr; clear hnr
      clear hrI
      go_wp2_with (first
        | (at_builtin; refine appSl rfl (.tmp 26) (.tmp 27) rfl wr.heap.size _ [d] rfl HLIT.out Ar nr cr (D R) rfl HNR.out HIR.out (by simp; omega) (by simp) ?_; intro v1 w1 hown1 hb1))
      have hb1' : Below wr.heap.size wr w1 := ((Below.refl _ wr).alloc (Nat.le_refl _) _).trans hb1
      (with_reducible refine (rtrim_any (d :: D R) _ _ hown1.sv (by have := (dig_one hd0 hd1).append (Dig_D R); rw [List.singleton_append] at this; exact this) (by rw [List.length_cons, HNR.out]; omega)).mono ?_)
      rintro e w2 ⟨v2, rfl, hv2, hb2⟩
      rw [HXD.out] at hv2
      have hb2' : Below wr.heap.size wr w2 := hb1'.trans (hb2.mono hb1'.size)
      have hv2' := hv2.mono hb1'.size
      clear hown1 hb1 hb1' hb2
      have hxx : Y * 0 ≤ X ∧ X < Y * 1048576 := by have := HX0.out; have := HX1.out; omega
      have HXX := Lib.hid hxx; clear hxx
      go_wp2_with fail
      obtain ⟨wo, hwo⟩ : ∃ wo : World, wo = wr := ⟨_, rfl⟩
      subst hwo
      go_loopw [9, 10] (fun lv hv wx => ∃ lo hi : Int, lv = .int .i64 lo ∧ hv = .int .i64 hi ∧ 0 ≤ lo ∧ lo < hi ∧ hi ≤ 1048576 ∧ Hid (Y * lo ≤ X ∧ X < Y * hi) ∧ Below w2.heap.size w2 wx) (fun lo hi _ => (intOf hi - intOf lo).toNat)
      case atStart => exact ⟨0, 1048576, rfl, rfl, by omega, by omega, by omega, HXX, Below.refl _ _⟩
      case round =>
        obtain ⟨lo, hi, rfl, rfl, hl0, hlh, hh, hXX, hb9⟩ := hrel
        have hbq := hb.trans ((hb2'.trans (hb9.mono hb2'.size)).mono hs)
        have hv9 := hv2'.below hb9
        by_cases hgo : 1 < hi - lo
        · obtain ⟨M, hM⟩ : ∃ M, (lo + hi) / 2 = M := ⟨_, rfl⟩
          have hM0 : lo < M := by omega
          have hM1 : M < hi := by omega
          have hbz := hbq.alloc hbq.size (.cells #[.int .i64 M] 3)
          have hsvb := HVB.out.later' hbz
          have HSVB := Lib.hid hsvb; clear hsvb
          have hdm := dig_one (z := M) (by omega) (by omega)
          have HDM := Lib.hid hdm; clear hdm
          go_wp2_with fail
          have HMM := Lib.hid hM; clear hM
          (with_reducible refine (rtimes_any lb [M] _ _ _ HSVB.out (sv_lit1 wr M) HDB.out HDM.out (by rw [HNB.out]; omega) (by simp)).mono ?_)
          rintro e u1 ⟨v3, rfl, hv3, hbu⟩
          rw [nv_one, HYB.out] at hv3
          have hb9u : Below wr.heap.size wr u1 := ((Below.refl _ wr).alloc (Nat.le_refl _) _).trans (hbu.mono (by simp))
          have hv9u := hv9.below hb9u
          have hYM0 : 0 ≤ Y * M := Int.mul_nonneg (by have := HY.out; omega) (by omega)
          have hYM : Y * M < pw 401 := by
            have h1 : Y * M ≤ Y * 1048576 := Int.mul_le_mul_of_nonneg_left (by omega) (by have := HY.out; omega)
            have h2 := HYL.out
            rw [show (401 : Nat) = 400 + 1 from rfl, pw_succ]
            omega
          have hl3 : (D (Y * M)).length ≤ 1000 := by have := (D_len_le hYM0).2 hYM; omega
          have hlX : (D X).length ≤ 1000 := by have := (D_len_le HX0.out).2 HXL.out; omega
          have hnX : nv (D X) = X := nv_D HX0.out
          have hnM : nv (D (Y * M)) = Y * M := nv_D hYM0
          obtain ⟨bb, hbb⟩ : ∃ b, decide (nv (D X) < nv (D (Y * M))) = b := ⟨_, rfl⟩
          have hls := rless_any (D X) (D (Y * M)) v2 v3 u1 hv9u.sv hv3.sv (Dig_D _) (Dig_D _) hlX hl3 bb hbb.symm
          rw [hnX, hnM] at hbb
          have HLS := Lib.hid hls; clear hls
          have HBB := Lib.hid hbb; clear hbb hnX hnM hl3 hlX hYM hYM0
          go_wp2_with fail
          (with_reducible refine HLS.out.mono ?_)
          rintro e u2 ⟨rfl, rfl⟩
          rcases bb with _ | _
          · go_wp2_with fail
            go_roundw
            case rel => exact ⟨M, hi, by rw [HMM.out], rfl, by omega, by omega, hh, Lib.hid ⟨by have := of_decide_eq_false HBB.out; omega, hXX.out.2⟩, hb9.trans (hb9u.mono hb9.size)⟩
            case measure => simp [intOf]; omega
          · go_wp2_with fail
            go_roundw
            case rel => exact ⟨lo, M, rfl, by rw [HMM.out], hl0, hM0, by omega, Lib.hid ⟨hXX.out.1, of_decide_eq_true HBB.out⟩, hb9.trans (hb9u.mono hb9.size)⟩
            case measure => simp [intOf]; omega
        · obtain rfl : hi = lo + 1 := by omega
          obtain ⟨g1, g2⟩ := over_fin HY.out hXX.out.1 hXX.out.2
          have G1 := Lib.hid g1; clear g1
          have G2 := Lib.hid g2; clear g2
          have hq9 := hown.below (hb2'.trans (hb9.mono hb2'.size))
          have hfc := hq9.cell (k := i) hql.out (by omega)
          have hff := hq9.frozen (k := i) hql.out
          obtain ⟨uu, huu⟩ : ∃ d, qs.getD i 0 = d := ⟨_, rfl⟩
          rw [huu] at hfc
          have hqs := hq9.store hql.out i lo
          have hvV := hv9.far (g := w.heap.size) (k := i) hsw (.int .i64 lo)
          have hbV := hbq.setCell (p := ⟨w.heap.size, i, none⟩) (Nat.le_refl _) (.int .i64 lo)
          have HUU := Lib.hid huu; clear huu
          go_wp2_with fail
          clear hfc hff
          obtain ⟨V, hV⟩ : ∃ V, V = wr.setCell ⟨w.heap.size, i, none⟩ (.int .i64 lo) := ⟨_, rfl⟩
          have hsV : V.heap.size = wr.heap.size := by rw [hV]; simp
          rw [← hV] at hqs hvV hbV ⊢
          clear hV
          rw [← hsV]
          clear hsV
          have hbz := hbV.alloc hbV.size (.cells #[.int .i64 lo] 3)
          (with_reducible refine (rtrim_any [lo] _ _ (sv_lit1 V lo) (dig_one hl0 (by omega)) (by simp)).mono ?_)
          rintro e u1 ⟨v4, rfl, hv4, hbu1⟩
          rw [nv_one] at hv4
          have hVu1 : Below V.heap.size V u1 := ((Below.refl _ V).alloc (Nat.le_refl _) _).trans (hbu1.mono (by simp))
          have hbu := hbV.trans (hVu1.mono hbV.size)
          have hsvb := HVB.out.later' hbu
          have HSVB := Lib.hid hsvb; clear hsvb
          go_wp2_with fail
          (with_reducible refine (rtimes_any lb (D lo) _ _ _ HSVB.out hv4.sv HDB.out (Dig_D lo) (by rw [HNB.out]; omega) (by have := (D_len_le hl0 (k := 1)).2 (by rw [pw_one]; omega); omega)).mono ?_)
          rintro e u2 ⟨v5, rfl, hv5, hbu2⟩
          rw [nv_D hl0, HYB.out] at hv5
          have hVu2 := hVu1.trans (hbu2.mono hVu1.size)
          have hvu2 := hvV.below hVu2
          have hYlo0 : 0 ≤ Y * lo := Int.mul_nonneg (by have := HY.out; omega) hl0
          have hlX : (D X).length ≤ 1000 := by have := (D_len_le HX0.out).2 HXL.out; omega
          have hmi := rminus_any (D X) (D (Y * lo)) v2 v5 u2 hvu2.sv hv5.sv (Dig_D _) (Dig_D _) hlX (D_len_mono hYlo0 hXX.out.1) (by rw [nv_D HX0.out, nv_D hYlo0]; exact hXX.out.1)
          rw [nv_D HX0.out, nv_D hYlo0, G2.out] at hmi
          have HMI := Lib.hid hmi; clear hmi hlX hYlo0
          go_wp2_with fail
          (with_reducible refine HMI.out.mono ?_)
          rintro e u3 ⟨v6, rfl, hv6, hbu3⟩
          have hVu3 := hVu2.trans (hbu3.mono hVu2.size)
          have hbf := hbV.trans (hVu3.mono hbV.size)
          have hqf := hqs.below hVu3
          have hsz6 : w.heap.size + 1 ≤ u2.heap.size := by have := hVu2.size; have := hqs.lt.2; omega
          go_wp2_with fail
          go_roundw
          case rel => exact ⟨i, qs.set i lo, X % Y, by omega, rfl, hv6.mono hsz6, Lib.hid (by simp [hql.out]), hqf, Lib.hid (hdig.out.set i hl0 (by omega)), Lib.hid (by
              have h1 := hq0.out
              rw [nv_take_any, HUU.out] at h1
              have h2 := (hdig.out.take i).nv_nonneg
              have h3 := hdig.out.getD' i
              rw [HUU.out] at h3
              have h4 : 0 ≤ pw i * uu := Int.mul_nonneg (by have := pw_pos i; omega) h3.1
              rw [List.take_set_of_le (Nat.le_refl _)]
              omega), Lib.hid (by
              rw [nv_drop_any, getD_set (by rw [hql.out]; omega), if_pos rfl, List.drop_set_of_lt (by omega), HST.out.1, G1.out]), Lib.hid HST.out.2.symm, hbf⟩
          case measure => simp [intOf]
    · have : k = 0 := by omega
      subst this
      have h1 := hqv.out
      have h2 := hRv.out
      rw [List.drop_zero, List.drop_zero] at h1
      rw [List.drop_zero] at h2
      have HV1 := Lib.hid h1; clear h1
      have HV2 := Lib.hid h2; clear h2
      go_wp2_with fail
      (with_reducible refine (rtrim_any qs _ _ hown.sv hdig.out (by rw [hql.out]; omega)).mono ?_)
      rintro e w1 ⟨v1, rfl, hv1, hb1⟩
      go_wp2_with fail
      go_ret2
      exact ⟨_, _, rfl, by rw [← HV1.out]; exact hv1.mono hs, by rw [← HV2.out]; exact (hr.below hb1).mono (by omega), hb.trans (hb1.mono hs)⟩

end Go.Proofs.Ytlbjaimgoiimgaa

namespace Go.Proofs.Ytlbjaimgoiimgaa
open Go.RowKit

/-- made: zero, or a sign and the digits. -/
theorem rmade_any (l : List Int) (s : Int) (z : Int) (v : Value) (w : World) (h1 : Sv w v l) (hd : Dig l) (hl : l.length ≤ 400) (hz : z = s * nv l) (hs : s = 1 ∨ s = -1 ∨ nv l = 0) :
    Calls Try.prog 65 #[.int .i64 s, v] w fun e w' => ∃ r, e = .returned r ∧ BO w' w.heap.size r z ∧ Below w.heap.size w w' := by
  have hnn := hd.nv_nonneg
  have htr := fun (w' : World) (hb : Below w.heap.size w w') => rtrim_any l v w' (h1.later hb) hd (by omega)
  have hab : ab z = nv l := by
    rw [hz]
    rcases hs with rfl | rfl | h
    · unfold ab; omega
    · unfold ab; omega
    · rw [h]; simp [ab]
  have hsg : nv l ≠ 0 → s = sgn z := by
    intro h0
    rcases hs with rfl | rfl | h
    · rw [hz, sgn_pos (by omega)]
    · rw [hz, sgn_of_neg (by omega)]
    · exact absurd h h0
  obtain ⟨X, hX⟩ : ∃ X, nv l = X := ⟨_, rfl⟩
  rw [hX] at htr hab hsg hnn
  have HTR := Lib.hid htr; clear htr
  have HAB := Lib.hid hab; clear hab
  have HSG := Lib.hid hsg; clear hsg
  have HX0 := Lib.hid hnn; clear hnn
  clear hX hz hs hd hl h1
  go_enter Try.func65, Try.ntmps65
  go_wp2_with fail
  have hb0 : Below w.heap.size w (w.alloc (.cells #[.int .i64 0, .slice none 0 0] 38)) := (Below.refl _ _).alloc (Nat.le_refl _) _
  have kR : Blk (w.alloc (.cells #[.int .i64 0, .slice none 0 0] 38)) w.heap.size 38 #[.int .i64 0, .slice none 0 0] := Blk.new _ _ _
  obtain ⟨W0, hW⟩ : ∃ W, W = w.alloc (.cells #[.int .i64 0, .slice none 0 0] 38) := ⟨_, rfl⟩
  have hlt : w.heap.size < W0.heap.size := by rw [hW]; simp
  rw [← hW] at hb0 kR ⊢
  clear hW
  (with_reducible refine (HTR.out _ hb0).mono ?_)
  rintro e u1 ⟨v1, rfl, hv1, hb1⟩
  have hT := hb0.trans (hb1.mono hb0.size)
  have kR := kR.below hb1 kR.lt
  have gR : w.heap.size ≤ w.heap.size := Nat.le_refl _
  obtain ⟨A1, c1, rfl⟩ := hv1.form
  have r0 := kR.cell 0
  have r1 := kR.cell 1
  have f0 := kR.frozen 0
  have f1 := kR.frozen 1
  simp at r0 r1
  by_cases h0 : X = 0
  · have hl0 : (D X).length = 0 := by rw [h0, D_zero]; rfl
    have hz0 : z = 0 := by have := HAB.out; unfold ab at this; omega
    rw [hl0]
    clear hl0
    have hbs := kR.set2 (.int .i64 0) (.slice none 0 0)
    have x0 := hbs.cell 0
    have x1 := hbs.cell 1
    simp at x0 x1
    have HZ0 := Lib.hid hz0; clear hz0 h0
    go_wp2_with fail
    refine bodyPost_ret (v := .agg #[.int .i64 0, .slice none 0 0]) (by simp [results, Try.results65, go_sem, x0, x1]) rfl ?_
    exact ⟨_, rfl, by rw [HZ0.out]; exact BO.zero _ _, below_st hT gR _ _⟩
  · have hlp := D_len_pos (z := X) (by have := HX0.out; omega)
    obtain ⟨n, hn⟩ : ∃ n, (D X).length = n := ⟨_, rfl⟩
    have hBO : BO u1 W0.heap.size (.agg #[.int .i64 s, .slice A1 (D X).length c1]) z := by
      rw [HSG.out h0]
      exact ⟨_, rfl, by rw [HAB.out]; exact hv1⟩
    rw [hn] at hlp hBO ⊢
    have hlp' : ((n : Int) == 0) = false := by simp; omega
    have hbs := kR.set2 (.int .i64 s) (.slice A1 n c1)
    have x0 := hbs.cell 0
    have x1 := hbs.cell 1
    simp at x0 x1
    clear hn h0 hv1
    go_wp2_with fail
    refine bodyPost_ret (v := .agg #[.int .i64 s, .slice A1 n c1]) (by simp [results, Try.results65, go_sem, x0, x1]) rfl ?_
    exact ⟨_, rfl, (hBO.far2 hlt _ _).mono (by omega), below_st hT gR _ _⟩

end Go.Proofs.Ytlbjaimgoiimgaa

namespace Go.Proofs.Ytlbjaimgoiimgaa
open Go.RowKit

theorem RightP.parts {s : Int} {l : List Int} : RightP s l ↔ Dig l ∧ ((s = 0 ∧ l.length = 0) ∨ ((s = 1 ∨ s = -1) ∧ 0 < l.length ∧ l.length ≤ 60 ∧ l.getD (l.length - 1) 0 ≠ 0)) := by
  constructor
  · rintro ⟨z, rfl, rfl, h3⟩
    have hn := Nrm_D (ab z)
    refine ⟨hn.1, ?_⟩
    by_cases h0 : z = 0
    · left; subst h0; rw [ab_zero, D_zero]; exact ⟨rfl, rfl⟩
    · right
      have hp : 0 < ab z := by unfold ab; omega
      have hl := D_len_pos hp
      exact ⟨by unfold sgn; split <;> (try split) <;> omega, hl, (D_len_le (ab_nonneg z)).2 h3, hn.2 hl⟩
  · rintro ⟨hd, h | ⟨h1, h2, h3, h4⟩⟩
    · obtain ⟨rfl, h⟩ := h
      have := List.eq_nil_of_length_eq_zero h
      subst this
      exact RightP.nil
    · exact RightP.mk h1 ⟨hd, fun _ => h4⟩ h2 h3

set_option maxRecDepth 100000 in
set_option maxHeartbeats 4000000 in
theorem rRight_any (s : Int) (l : List Int) (A : Option Addr) (n c : Nat) (w : World) (h : Ar w s l A n c) (res : Bool) (hres : res = true ↔ RightP s l) :
    Calls Try.prog 61 #[.agg #[.int .i64 s, .slice A n c]] w fun e w' => e = .returned (.bool res) ∧ Below w.heap.size w w' := by
  obtain ⟨hn, hI, hc, hm⟩ := h
  rw [RightP.parts, hn] at hres
  have hnn : l.length ≤ n ∧ n ≤ l.length := by omega
  have hn9 : n ≤ 9223372036854775807 := by omega
  have HRES := Lib.hid hres; clear hres hn hc hm
  obtain ⟨W, hW, hbx, k1⟩ : ∃ W, W = w.alloc (.cells #[.int .i64 s, .slice A n c] 38) ∧ Below w.heap.size w W ∧ Blk W w.heap.size 38 #[.int .i64 s, .slice A n c] := ⟨_, rfl, (Below.refl _ _).alloc (Nat.le_refl _) _, Blk.new _ _ _⟩
  go_enter Try.func61, Try.ntmps61
  go_wp2_with fail
  rw [← hW]
  clear hW
  have j0 : W.cell? ⟨w.heap.size, 0, none⟩ = some (.int .i64 s) := k1.cell 0
  have j1 : W.cell? ⟨w.heap.size, 1, none⟩ = some (.slice A n c) := k1.cell 1
  go_loop [3] (fun i => ∃ k : Nat, k ≤ n ∧ i = .int .i64 k ∧ Hid (Dig (l.take k))) (fun i => n - (intOf i).toNat)
  case atStart => exact ⟨0, Nat.zero_le _, rfl, Lib.hid Dig.nil⟩
  case round =>
    obtain ⟨k, hk, rfl, hdg⟩ := hrel
    by_cases hlt : k < n
    · obtain ⟨b, off, hA, hbB, hck⟩ := hI k (by omega)
      subst hA
      have hck' := (hbx.cell (p := ⟨b, off + k, none⟩) hbB).trans hck
      have hnd : ¬ (0 ≤ l.getD k 0 ∧ l.getD k 0 < 1048576) → res = false := fun h => by
        rcases res with _ | _
        · rfl
        · exact absurd ((HRES.out.1 rfl).1.getD (by omega)) h
      have hts := take_snoc (l := l) (k := k) (by omega)
      obtain ⟨d, hdd⟩ : ∃ d, l.getD k 0 = d := ⟨_, rfl⟩
      rw [hdd] at hck' hnd hts
      clear hdd hck
      have HND := Lib.hid hnd; clear hnd
      have HTS := Lib.hid hts; clear hts
      by_cases hd0 : d < 0
      · have := HND.out (by omega)
        subst this
        go_wp2_with fail
        go_ret
        exact ⟨rfl, hbx⟩
      · by_cases hd1 : 1048576 ≤ d
        · have := HND.out (by omega)
          subst this
          go_wp2_with fail
          go_ret
          exact ⟨rfl, hbx⟩
        · go_wp2_with fail
          go_round
          case rel => exact ⟨k + 1, by omega, by go_num, Lib.hid (by rw [HTS.out]; exact hdg.out.snoc (by omega) (by omega))⟩
          case measure => simp [intOf]; omega
    · have : k = n := by omega
      subst this
      have hdg' := hdg.out
      rw [List.take_of_length_le (by omega)] at hdg'
      have HDG := Lib.hid hdg'; clear hdg'
      have hno : ¬ ((s = 0 ∧ k = 0) ∨ ((s = 1 ∨ s = -1) ∧ 0 < k ∧ k ≤ 60 ∧ l.getD (k - 1) 0 ≠ 0)) → res = false := fun h => by
        rcases res with _ | _
        · rfl
        · exact absurd (HRES.out.1 rfl).2 h
      have hyes : ((s = 0 ∧ k = 0) ∨ ((s = 1 ∨ s = -1) ∧ 0 < k ∧ k ≤ 60 ∧ l.getD (k - 1) 0 ≠ 0)) → res = true := fun h => HRES.out.2 ⟨HDG.out, h⟩
      have HNO := Lib.hid hno; clear hno
      have HYES := Lib.hid hyes; clear hyes
      clear hlt
      have finish : ∀ (r : Bool), True := fun _ => trivial
      clear finish
      by_cases c1 : s < -1
      · have := HNO.out (by omega)
        subst this
        go_wp2_with fail
        go_ret
        exact ⟨rfl, hbx⟩
      by_cases c2 : 1 < s
      · have := HNO.out (by omega)
        subst this
        go_wp2_with fail
        go_ret
        exact ⟨rfl, hbx⟩
      have d1 : decide (s < -1) = false := decide_eq_false c1
      have d2 : decide (1 < s) = false := decide_eq_false c2
      by_cases c3 : 60 < k
      · have := HNO.out (by omega)
        subst this
        have d3 : decide ((60 : Int) < (k : Int)) = true := decide_eq_true (by omega)
        go_wp2_with fail
        go_ret
        exact ⟨rfl, hbx⟩
      have d3 : decide ((60 : Int) < (k : Int)) = false := decide_eq_false (by omega)
      have hs : s = 0 ∨ s = 1 ∨ s = -1 := by omega
      clear c1 c2 d1 d2
      by_cases c4 : k = 0
      · subst c4
        rcases hs with rfl | rfl | rfl
        · have := HYES.out (.inl ⟨rfl, rfl⟩)
          subst this
          go_wp2_with fail
          go_ret
          exact ⟨rfl, hbx⟩
        all_goals
          have := HNO.out (by omega)
          subst this
          go_wp2_with fail
          go_ret
          exact ⟨rfl, hbx⟩
      · have d4 : ((k : Int) == 0) = false := by simp; omega
        rcases hs with rfl | hs
        · have := HNO.out (by omega)
          subst this
          go_wp2_with fail
          go_ret
          exact ⟨rfl, hbx⟩
        · obtain ⟨b, off, hA, hbB, hck⟩ := hI (k - 1) (by omega)
          subst hA
          have hck' := (hbx.cell (p := ⟨b, off + (k - 1), none⟩) hbB).trans hck
          obtain ⟨t, ht⟩ : ∃ d, l.getD (k - 1) 0 = d := ⟨_, rfl⟩
          rw [ht] at hck' HNO HYES
          clear ht hck
          by_cases ht0 : t = 0
          · have := HNO.out (by omega)
            subst this
            subst ht0
            rcases hs with rfl | rfl
            all_goals
              go_wp2_with fail
              go_ret
              exact ⟨rfl, hbx⟩
          · have := HYES.out (.inr ⟨hs, by omega, by omega, ht0⟩)
            subst this
            have ht1 : (t != 0) = true := by simpa using ht0
            rcases hs with rfl | rfl
            all_goals
              go_wp2_with fail
              go_ret
              exact ⟨rfl, hbx⟩

end Go.Proofs.Ytlbjaimgoiimgaa

namespace Go.Proofs.Ytlbjaimgoiimgaa
open Go.RowKit

theorem BO.len {w : World} {B : Nat} {s : Int} {A : Option Addr} {n c : Nat} {z : Int} (h : BO w B (.agg #[.int .i64 s, .slice A n c]) z) : (D (ab z)).length = n ∧ s = sgn z := by
  obtain ⟨v, e, ho⟩ := h
  injection e with e
  have e0 := congrArg (fun (a : Array Value) => a[0]?) e
  have e1 := congrArg (fun (a : Array Value) => a[1]?) e
  simp at e0 e1
  obtain ⟨A', c', rfl⟩ := ho.form
  injection e1 with _ e2 _
  exact ⟨e2.symm, e0⟩

/-- Neg of a right big integer. -/
theorem bv_sv {w : World} {s : Int} {A : Option Addr} {n c : Nat} {z : Int} (h : BV w w.heap.size (.agg #[.int .i64 s, .slice A n c]) z) : Sv w (.slice A n c) (D (ab z)) ∧ s = sgn z ∧ (D (ab z)).length = n := by
  obtain ⟨A', c', e, h1, h2, h3⟩ := h
  injection e with e
  have e0 := congrArg (fun (a : Array Value) => a[0]?) e
  have e1 := congrArg (fun (a : Array Value) => a[1]?) e
  simp at e0 e1
  obtain ⟨rfl, rfl, rfl⟩ := e1
  exact ⟨⟨_, _, rfl, h1, h2, h3⟩, e0, rfl⟩
theorem bv_ar {w : World} {s : Int} {A : Option Addr} {n c : Nat} {z : Int} (h : BV w w.heap.size (.agg #[.int .i64 s, .slice A n c]) z) : Ar w s (D (ab z)) A n c := by
  obtain ⟨A', c', e, h1, h2, h3⟩ := h
  injection e with e
  have e1 := congrArg (fun (a : Array Value) => a[1]?) e
  simp at e1
  obtain ⟨rfl, rfl, rfl⟩ := e1
  exact ⟨rfl, h3, h1, h2⟩
theorem rRight_yes {w : World} {s : Int} {A : Option Addr} {n c : Nat} {z : Int} (h : BV w w.heap.size (.agg #[.int .i64 s, .slice A n c]) z) (hz : ab z < pw 60) :
    Calls Try.prog 61 #[.agg #[.int .i64 s, .slice A n c]] w fun e w' => e = .returned (.bool true) ∧ Below w.heap.size w w' :=
  rRight_any s (D (ab z)) A n c w (bv_ar h) true (by simp only [true_iff]; exact ⟨z, (bv_sv h).2.1, rfl, hz⟩)
theorem sgn_nv (z : Int) : sgn z * nv (D (ab z)) = z := by rw [nv_D (ab_nonneg z)]; exact sgn_ab z
theorem sgn_or (z : Int) : sgn z = 1 ∨ sgn z = -1 ∨ nv (D (ab z)) = 0 := by
  rw [nv_D (ab_nonneg z)]
  unfold sgn ab
  split
  · exact .inr (.inl rfl)
  · split
    · exact .inr (.inr (by omega))
    · exact .inl rfl

set_option maxRecDepth 100000 in
set_option maxHeartbeats 2000000 in
theorem rneg_any {s : Int} {A : Option Addr} {n c : Nat} {z : Int} (w : World) (h : BV w w.heap.size (.agg #[.int .i64 s, .slice A n c]) z) (hz : ab z < pw 60) :
    Calls Try.prog 62 #[.agg #[.int .i64 s, .slice A n c]] w fun e w' => ∃ r, e = .returned r ∧ BO w' w.heap.size r (-z) ∧ Below w.heap.size w w' := by
  have hsb := sgn_bd z
  have hs := (bv_sv h).2.1
  have hn60 : (D (ab z)).length ≤ 60 := (D_len_le (ab_nonneg z)).2 hz
  have hmd := fun (w' : World) (hb : Below w.heap.size w w') => rmade_any (D (ab z)) (-s) (-z) (.slice A n c) w' (bv_sv (h.later hb)).1 (Dig_D _) (by omega) (by rw [hs, Int.neg_mul, sgn_nv]) (by rw [hs]; rcases sgn_or z with h | h | h <;> omega)
  have hrt := fun (w' : World) (hb : Below w.heap.size w w') => rRight_yes (h.later hb) hz
  rw [← hs] at hsb
  obtain ⟨hs0, hs1⟩ := hsb
  have HMD := Lib.hid hmd; clear hmd
  have HRT := Lib.hid hrt; clear hrt
  clear hs hn60 hz h
  obtain ⟨W, hW, hbx, k1, k2, hsz⟩ := boxes2 w #[.int .i64 s, .slice A n c] #[.int .i64 0, .slice none 0 0]
  have hlt : w.heap.size + 1 < W.heap.size := k2.lt
  go_enter Try.func62, Try.ntmps62
  go_wp2_with fail
  rw [← hW]
  clear hW hsz
  have hT := hbx
  have a0 := k1.cell 0
  have a1 := k1.cell 1
  simp at a0 a1
  go_wp2_with fail
  clear a0 a1
  (with_reducible refine (HRT.out _ hT).mono ?_)
  rintro e u1 ⟨rfl, hb9⟩
  have hT := hT.trans (hb9.mono hT.size)
  have k1 := k1.below hb9 k1.lt
  have k2 := k2.below hb9 k2.lt
  have a0 := k1.cell 0
  have a1 := k1.cell 1
  simp at a0 a1
  have hl2 := k2.lt
  go_wp2_with fail
  clear a0 a1
  (with_reducible refine (HMD.out _ hT).mono ?_)
  rintro e u2 ⟨r, rfl, hr, hb9⟩
  have hT := hT.trans (hb9.mono hT.size)
  have k2 := k2.below hb9 hl2
  obtain ⟨s', A', n', c', rfl⟩ := hr.form
  have gR : w.heap.size ≤ w.heap.size + 1 := by omega
  have r0 := k2.cell 0
  have r1 := k2.cell 1
  have f0 := k2.frozen 0
  have f1 := k2.frozen 1
  simp at r0 r1
  have hbs := k2.set2 (.int .i64 s') (.slice A' n' c')
  have x0 := hbs.cell 0
  have x1 := hbs.cell 1
  simp at x0 x1
  go_wp2_with fail
  refine bodyPost_ret (v := .agg #[.int .i64 s', .slice A' n' c']) (by simp [results, Try.results62, go_sem, x0, x1]) rfl ?_
  exact ⟨_, rfl, (hr.far2 hl2 _ _).mono (by omega), below_st hT gR _ _⟩

end Go.Proofs.Ytlbjaimgoiimgaa

namespace Go.Proofs.Ytlbjaimgoiimgaa
open Go.RowKit

theorem cmp_res {x y : Int} (hne : x ≠ y) (hs : sgn x = sgn y) (b : Bool) (hb : b = decide (ab x < ab y)) : Lib.compareInt x y = if b = decide (0 < sgn x) then -1 else 1 := by
  subst hb
  have hx : x < 0 ∨ 0 < x := by
    rcases Int.lt_trichotomy x 0 with h | h | h
    · exact .inl h
    · exfalso
      subst h
      rw [sgn_zero] at hs
      unfold sgn at hs
      split at hs
      · omega
      · split at hs <;> omega
    · exact .inr h
  rcases hx with h | h
  · rw [sgn_of_neg h] at hs ⊢
    have hy : y < 0 := by unfold sgn at hs; split at hs; assumption; split at hs <;> omega
    rw [show decide ((0 : Int) < -1) = false from rfl]
    rcases Int.lt_or_gt_of_ne hne with g | g
    · rw [cmp_of_lt g, if_pos (decide_eq_false (by unfold ab; omega))]
    · rw [cmp_of_gt g, if_neg (by simp; unfold ab; omega)]
  · rw [sgn_pos h] at hs ⊢
    have hy : 0 < y := by unfold sgn at hs; split at hs; omega; split at hs <;> omega
    rw [show decide ((0 : Int) < 1) = true from rfl]
    rcases Int.lt_or_gt_of_ne hne with g | g
    · rw [cmp_of_lt g, if_pos (decide_eq_true (by unfold ab; omega))]
    · rw [cmp_of_gt g, if_neg (by simp; unfold ab; omega)]

end Go.Proofs.Ytlbjaimgoiimgaa
