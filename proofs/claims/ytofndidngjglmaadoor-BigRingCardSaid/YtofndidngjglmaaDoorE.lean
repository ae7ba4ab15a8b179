/- Walks: divideShort, split. -/
import Derived.Test.YtofndidngjglmaaDoorC
import Derived.Laws.Bits64b
namespace Go.Proofs.YtofndidngjglmaaDoor
open Go.RowKit

theorem two63 : (2 : Int) ^ 63 = 9223372036854775808 := by decide

theorem or_low {r d : Int} (h0 : 0 ≤ r) (h1 : r < 4398046511104) (d0 : 0 ≤ d) (d1 : d < 1048576) : bits BinOp.or IntKind.i64 (r * 1048576) d = r * 1048576 + d := by
  have e : (2 : Int) ^ 20 = 1048576 := by decide
  exact bits_join .i64 63 (by decide) (fun n h0 h1 => by rw [two63] at h1; rw [IntKind.wrap_i64]; omega) 20 (r * 1048576) d (by omega) (by rw [e]; omega) (by rw [two63]; omega) d0 (by rw [e]; omega) (by rw [two63]; omega)

theorem div_step {f r d q r' t tq : Int} (h : t = f * tq + r) (e : r * 1048576 + d = f * q + r') : d + 1048576 * t = f * (q + 1048576 * tq) + r' := by
  rw [h, Int.mul_add, Int.mul_add, ← Int.mul_assoc 1048576 f, Int.mul_comm 1048576 f, Int.mul_assoc]
  omega

theorem drop_cons {l : List Int} {k : Nat} (h : k < l.length) : l.drop k = l.getD k 0 :: l.drop (k + 1) := by
  rw [List.drop_eq_getElem_cons h, List.getD_eq_getElem?_getD, List.getElem?_eq_getElem h]; rfl
theorem drop_set_eq {l : List Int} {k : Nat} (h : k < l.length) (z : Int) : (l.set k z).drop k = z :: l.drop (k + 1) := by
  rw [List.drop_eq_getElem_cons (by simpa using h), List.getElem_set_self, List.drop_set_of_lt (by omega)]

theorem quo_lt {f r d : Int} (hf : 1 ≤ f) (h0 : 0 ≤ r) (h1 : r < f) (d0 : 0 ≤ d) (d1 : d < 1048576) : 0 ≤ (r * 1048576 + d) / f ∧ (r * 1048576 + d) / f < 1048576 := by
  refine ⟨Int.ediv_nonneg (by omega) (by omega), Int.ediv_lt_of_lt_mul (by omega) ?_⟩
  have : (r + 1) * 1048576 ≤ f * 1048576 := Int.mul_le_mul_of_nonneg_right (by omega) (by omega)
  rw [Int.mul_comm 1048576 f]
  omega

set_option maxHeartbeats 400000 in
theorem divideShort_any (l : List Int) (A : Option Addr) (cA : Nat) (f : Int) (w : World) (hI : IntsAt w.heap.size w A l) (hd : Dig l) (hl : l.length ≤ 200) (hf0 : 1 ≤ f) (hf1 : f ≤ 1099511627776) :
    Calls Tryd.prog 40 #[.slice A l.length cA, .int .i64 f] w fun e w' => ∃ v', e = .returned (.tuple #[v', .int .i64 (nv l % f)]) ∧ OwnI w' w.heap.size v' (D (nv l / f)) ∧ Below w.heap.size w w' := by
  obtain ⟨n, hn⟩ : ∃ n, l.length = n := ⟨_, rfl⟩
  have hnn : l.length ≤ n ∧ n ≤ l.length := by omega
  rw [hn] at hl ⊢
  have HN := Lib.hid hn; clear hn
  go_enter Tryd.func40, Tryd.ntmps40
  go_wp2_with (at_make; refine makeI rfl (.tmp 10) (.tmp 10) rfl w.heap.size n n _ _ rfl rfl rfl rfl (by omega) (by omega) (Nat.le_refl _) ?_; intro w0 hown0 hb0 hsz0)
  have hlt0 := hown0.lt.2
  go_loopw [7, 8] (fun cc i wr => ∃ (k : Nat) (r : Int) (qs : List Int), k ≤ n ∧ i = .int .i64 (k - 1) ∧ cc = .int .i64 r ∧ 0 ≤ r ∧ r < f ∧ Hid (qs.length = n) ∧ OwnI wr w.heap.size (.slice (some ⟨w.heap.size, 0, none⟩) n n) qs ∧ Dig (qs.drop k) ∧ Hid (nv (l.drop k) = f * nv (qs.drop k) + r) ∧ Below w.heap.size w wr) (fun _ i _ => (intOf i + 1).toNat)
  case atStart => exact ⟨n, 0, List.replicate n 0, Nat.le_refl _, rfl, rfl, by omega, by omega, Lib.hid (by simp), hown0, by (rw [List.drop_of_length_le (by simp)]; exact Dig.nil), Lib.hid (by rw [List.drop_of_length_le (by omega), List.drop_of_length_le (by simp)]; simp [nv]), hb0⟩
  case round =>
    obtain ⟨k, r, qs, hk, rfl, rfl, h0, h1, hql, hown, hdg, hv, hb⟩ := hrel
    have hs := hb.size
    by_cases hlt : 0 < k
    · obtain ⟨j, rfl⟩ : ∃ j, k = j + 1 := ⟨k - 1, by omega⟩
      obtain ⟨b, off, hA, hbB, hc⟩ := hI j (by omega)
      subst hA
      have hd1 := hd.getD (k := j) (by omega)
      have hc := (hb.cell (p := ⟨b, off + j, none⟩) hbB).trans hc
      have hdc := drop_cons (l := l) (k := j) (by omega)
      obtain ⟨d, hdd⟩ : ∃ d, l.getD j 0 = d := ⟨_, rfl⟩
      rw [hdd] at hc hd1 hdc
      clear hdd
      have HDC := Lib.hid hdc; clear hdc
      have hfc := hown.cell (k := j) hql.out (by omega)
      have hff := hown.frozen (k := j) hql.out
      obtain ⟨u, hu⟩ : ∃ u, qs.getD j 0 = u := ⟨_, rfl⟩
      rw [hu] at hfc
      clear hu
      have hor := or_low (r := r) (d := d) h0 (by omega) hd1.1 hd1.2
      have hq := quo_lt hf0 h0 h1 hd1.1 hd1.2
      have hm0 := Int.emod_nonneg (r * 1048576 + d) (b := f) (by omega)
      have hm1 := Int.emod_lt_of_pos (r * 1048576 + d) (b := f) (by omega)
      have hz : (f == 0) = false := by simp; omega
      have HR := Lib.hid (Int.mul_ediv_add_emod (r * 1048576 + d) f)
      go_wp2_with fail
      go_roundw
      case rel => exact ⟨j, _, qs.set j ((r * 1048576 + d) / f), by omega, by first | rfl | (congr 1; omega), rfl, hm0, hm1, Lib.hid (by simp [hql.out]), hown.store hql.out j _, by
          rw [drop_set_eq (by rw [hql.out]; omega)]
          intro x hx
          rcases List.mem_cons.1 hx with rfl | hx
          · exact hq
          · exact hdg x hx, Lib.hid (by
          rw [drop_set_eq (by rw [hql.out]; omega), HDC.out, nv_cons, nv_cons]
          exact div_step hv.out HR.out.symm), by exact hb.setCell (p := ⟨w.heap.size, j, none⟩) (Nat.le_refl _) _⟩
      case measure => simp [intOf]
    · have : k = 0 := by omega
      subst this
      have hv' := hv.out
      rw [List.drop_zero, List.drop_zero] at hv'
      rw [List.drop_zero] at hdg
      have hq : nv l / f = nv qs ∧ nv l % f = r := by
        rw [hv', Int.add_comm]
        exact ⟨by rw [Int.add_mul_ediv_left _ _ (by omega), Int.ediv_eq_zero_of_lt h0 h1, Int.zero_add], by rw [Int.add_mul_emod_self_left, Int.emod_eq_of_lt h0 h1]⟩
      have HQ := Lib.hid hq; clear hv' hq
      go_wp2_with (refine (trim_any qs _ _ w.heap.size hown hdg (by rw [hql.out]; omega)).mono ?_; rintro e w1 ⟨v1, rfl, hown1, rfl⟩)
      go_ret2
      rw [HQ.out.1, HQ.out.2]
      exact ⟨_, rfl, hown1, hb⟩

theorem split_any (z : Int) (w : World) (h0 : 0 ≤ z) (h1 : z < 18446744073709551616) :
    Calls Tryd.prog 30 #[.int .u64 z] w fun e w' => ∃ v', e = .returned v' ∧ OwnI w' w.heap.size v' (D z) ∧ Below w.heap.size w w' := by
  go_enter Tryd.func30, Tryd.ntmps30
  go_wp2_with fail
  go_loopw [0, 3] (fun x d wr => ∃ (l' : List Int) (c' : Int), x = .int .u64 c' ∧ 0 ≤ c' ∧ c' < 18446744073709551616 ∧ OwnI wr w.heap.size d l' ∧ l'.length ≤ 4 ∧ Hid (D z = l' ++ D c') ∧ Hid (nv l' + pw l'.length * c' = z) ∧ Dig l' ∧ Below w.heap.size w wr) (fun x _ _ => (intOf x).toNat)
  case atStart => exact ⟨[], z, rfl, h0, h1, OwnI.nil _ _, by simp, Lib.hid rfl, Lib.hid (by simp [nv, pw]), Dig.nil, Below.refl _ _⟩
  case round =>
    obtain ⟨l', c', rfl, hc0, hc1, hown, hl, hD, hv, hdg, hb⟩ := hrel
    have hs := hb.size
    by_cases hp : 0 < c'
    · have hl3 : l'.length < 4 := by
        rcases Nat.lt_or_ge l'.length 4 with h | h
        · exact h
        · have e : l'.length = 4 := by omega
          have e1 := hv.out
          rw [e] at e1
          have e2 : pw 4 = 1208925819614629174706176 := by decide
          rw [e2] at e1
          have := hdg.nv_nonneg
          omega
      have hand : bits BinOp.and IntKind.u64 c' 1048575 = c' % 1048576 := by
        have h := bits_and_u64_nat c'.toNat 1048575 (by omega) (by omega)
        rw [show c'.toNat &&& 1048575 = c'.toNat % 1048576 from Nat.and_two_pow_sub_one_eq_mod _ 20, Int.toNat_of_nonneg hc0] at h
        have h2 : ((c'.toNat % 1048576 : Nat) : Int) = c' % 1048576 := by omega
        exact h.trans h2
      go_wp2_with (first
        | (at_builtin; refine appI rfl (.tmp 8) (.tmp 12) rfl w.heap.size _ l' (c' % 1048576) rfl hown rfl (by omega) (by omega) ?_; intro v1 w1 hown1 hb1))
      go_roundw
      case rel => exact ⟨_, _, rfl, by omega, by omega, hown1, by simp; omega, Lib.hid (by rw [hD.out, D_pos hp]; simp), Lib.hid (by
        rw [← hv.out, nv_snoc, List.length_append, List.length_singleton, pw_succ, Int.mul_comm 1048576, Int.mul_assoc, Int.add_assoc, ← Int.mul_add]
        congr 2; omega), hdg.snoc (by omega) (by omega), hb.trans hb1⟩
      case measure => simp [intOf]; omega
    · have : c' = 0 := by omega
      subst this
      go_wp2_with fail
      go_ret
      exact ⟨_, rfl, by rw [hD.out, D_zero, List.append_nil]; exact hown, hb⟩

end Go.Proofs.YtofndidngjglmaaDoor
