/- Walks: order; slices.Clone and slices.Equal in our words. -/
import Derived.Test.YtofndidngjglmaaDoorE
import Derived.Test.YtofndidngjglmaaDoorShelf
import Derived.Deep.QuietTactic
import Derived.BigQuiet
namespace Go.Proofs.YtofndidngjglmaaDoor
open Go.RowKit

theorem D_len_cmp {x y : Int} (hx : 0 ≤ x) (hy : 0 ≤ y) (h : (D x).length < (D y).length) : x < y := by
  have h1 := (D_len_le hx (k := (D x).length)).1 (Nat.le_refl _)
  have h2 := (D_len_lt hy (k := (D x).length)).1 h
  omega

theorem quiet_add_same {P : Program} {f : FuncId} {args : Array Value} {w : World} {a n : Nat} {v : Value}
    (h : Calls P f args (w.drewN (a + n)) fun e w' => e = .returned v ∧ w' = w.drewN (a + n)) :
    Calls P f args (w.drewN (a + n)) fun e w'' => e = .returned v ∧ ∃ m, w'' = w.drewN (a + m) :=
  h.mono fun _ _ ⟨he, hm⟩ => ⟨he, n, hm⟩
theorem quiet_add {P : Program} {f : FuncId} {args : Array Value} {w : World} {a n : Nat} {v : Value}
    (h : Calls P f args (w.drewN (a + n)) fun e w' => e = .returned v ∧ ∃ m, w' = (w.drewN (a + n)).drewN m) :
    Calls P f args (w.drewN (a + n)) fun e w'' => e = .returned v ∧ ∃ m, w'' = w.drewN (a + m) :=
  h.mono fun _ _ ⟨he, m, hm⟩ => ⟨he, n + m, by rw [hm, World.drewN_drewN, Nat.add_assoc]⟩

set_option maxHeartbeats 1000000 in
theorem order_any (x y : Int) (Aa Ab : Option Addr) (ca cb : Nat) (w : World) (B : Nat) (hIa : IntsAt B w Aa (D x)) (hIb : IntsAt B w Ab (D y)) (hx : 0 ≤ x) (hy : 0 ≤ y) (hla : (D x).length ≤ 1000) (hlb : (D y).length ≤ 1000) :
    Calls Tryd.prog 32 #[.slice Aa (D x).length ca, .slice Ab (D y).length cb] w fun e w' => e = .returned (.int .i64 (Lib.compareInt x y)) ∧ ∃ n, w' = w.drewN n := by
  have hlt := fun h => D_len_cmp hx hy h
  have hgt := fun h => D_len_cmp hy hx h
  have hxv := nv_D hx
  have hyv := nv_D hy
  have hda := Dig_D x
  have hdb := Dig_D y
  obtain ⟨la, ela⟩ : ∃ l, D x = l := ⟨_, rfl⟩
  obtain ⟨lb, elb⟩ : ∃ l, D y = l := ⟨_, rfl⟩
  rw [ela] at hIa hla hlt hgt hxv hda ⊢
  rw [elb] at hIb hlb hlt hgt hyv hdb ⊢
  clear ela elb
  obtain ⟨na, hna⟩ : ∃ n, la.length = n := ⟨_, rfl⟩
  obtain ⟨nb, hnb⟩ : ∃ n, lb.length = n := ⟨_, rfl⟩
  have hza : la.length ≤ na ∧ na ≤ la.length := by omega
  have hzb : lb.length ≤ nb ∧ nb ≤ lb.length := by omega
  rw [hna] at hla hlt hgt ⊢
  rw [hnb] at hlb hlt hgt ⊢
  clear hna hnb
  have HLT := Lib.hid hlt; clear hlt
  have HGT := Lib.hid hgt; clear hgt
  have HX := Lib.hid hxv; clear hxv
  have HY := Lib.hid hyv; clear hyv
  by_cases hne : na = nb
  · subst hne
    go_enter Tryd.func32, Tryd.ntmps32
    go_wp2_with fail
    go_loopw [5] (fun i wr => ∃ k : Nat, k ≤ na ∧ i = .int .i64 ((k : Int) - 1) ∧ Hid (la.drop k = lb.drop k) ∧ ∃ q, wr = w.drewN q) (fun i _ => (intOf i + 1).toNat)
    case atStart => exact ⟨na, Nat.le_refl _, rfl, Lib.hid (by rw [List.drop_of_length_le (by omega), List.drop_of_length_le (by omega)]), 0, rfl⟩
    case round =>
      obtain ⟨k, hk, rfl, hd, q, rfl⟩ := hrel
      by_cases h0 : 0 < k
      · obtain ⟨j, rfl⟩ : ∃ j, k = j + 1 := ⟨k - 1, by omega⟩
        obtain ⟨b1, off1, hA1, hB1, hc1⟩ := hIa j (by omega)
        obtain ⟨b2, off2, hA2, hB2, hc2⟩ := hIb j (by omega)
        subst hA1; subst hA2
        have e1 := drop_cons (l := la) (k := j) (by omega)
        have e2 := drop_cons (l := lb) (k := j) (by omega)
        have h3 := fun h => nv_lt_of hda hdb (by omega) (k := j) (by omega) hd.out h
        have h4 := fun h => nv_lt_of hdb hda (by omega) (k := j) (by omega) hd.out.symm h
        obtain ⟨u, hu⟩ : ∃ u, la.getD j 0 = u := ⟨_, rfl⟩
        obtain ⟨v, hv⟩ : ∃ u, lb.getD j 0 = u := ⟨_, rfl⟩
        rw [hu] at hc1 e1 h3 h4
        rw [hv] at hc2 e2 h3 h4
        clear hu hv
        have HE1 := Lib.hid e1; clear e1
        have HE2 := Lib.hid e2; clear e2
        have H3 := Lib.hid h3; clear h3
        have H4 := Lib.hid h4; clear h4
        have hcw1 : (w.drewN q).cell? ⟨b1, off1 + j, none⟩ = some (.int .i64 u) := hc1
        have hcw2 : (w.drewN q).cell? ⟨b2, off2 + j, none⟩ = some (.int .i64 v) := hc2
        have hi : ((j : Int) + 1 - 1) = j := by omega
        by_cases huv : u = v
        · subst huv
          go_wp2_with fail
          go_quiet (fail)
          go_wp2_with fail
          go_roundw
          case rel => exact ⟨j, by omega, by first | rfl | (congr 1; omega), Lib.hid (by rw [HE1.out, HE2.out, hd.out]), _, rfl⟩
          case measure => simp [intOf]
        · have huv' : (u != v) = true := by simpa using huv
          have hcmp : Lib.compareInt u v = Lib.compareInt x y := by
            have k3 := H3.out
            have k4 := H4.out
            rw [HX.out, HY.out] at k3 k4
            unfold Lib.compareInt
            rcases Int.lt_or_le u v with h | h
            · have := k3 h
              rw [if_pos h, if_pos this]
            · have := k4 (by omega)
              rw [if_neg (by omega), if_pos (by omega), if_neg (by omega), if_pos (by omega)]
          have HC := Lib.hid hcmp; clear hcmp
          go_wp2_with fail
          go_quiet (fail)
          go_wp2_with fail
          go_quiet ((go_at_call 31; exact quiet_add_same (Tryd.cmp_Compare_int _ _ _)))
          go_wp2_with fail
          go_ret
          exact ⟨by rw [HC.out]; rfl, _, by rw [World.drewN_drewN, World.drewN_drewN]⟩
      · have : k = 0 := by omega
        subst this
        have he := hd.out
        rw [List.drop_zero, List.drop_zero] at he
        have hxy : x = y := by rw [← HX.out, ← HY.out, he]
        have hcmp : Lib.compareInt x y = 0 := by
          unfold Lib.compareInt
          rw [if_neg (by omega), if_neg (by omega)]
        have HC := Lib.hid hcmp; clear hxy he hcmp
        go_wp2_with fail
        go_ret
        exact ⟨by rw [HC.out]; rfl, _, rfl⟩
  · have hne' : decide (na = nb) = false := by simpa using hne
    have hcmp : Lib.compareInt (na : Int) (nb : Int) = Lib.compareInt x y := by
      unfold Lib.compareInt
      rcases Nat.lt_or_ge na nb with h | h
      · have := HLT.out h
        rw [if_pos (by omega), if_pos (by omega)]
      · have := HGT.out (by omega)
        rw [if_neg (by omega), if_pos (by omega), if_neg (by omega), if_pos (by omega)]
    have HC := Lib.hid hcmp; clear hcmp
    go_enter Tryd.func32, Tryd.ntmps32
    go_wp2_with (go_at_call 31; refine (Tryd.cmp_Compare_int _ _ _).mono ?_; rintro e w' ⟨rfl, rfl⟩)
    go_ret
    exact ⟨by rw [← HC.out]; rfl, 0, rfl⟩

theorem clone_any (l : List Int) (A : Option Addr) (c : Nat) (w : World) (hI : IntsAt w.heap.size w A l) (hl : l.length ≤ 1000000) :
    Calls Tryd.prog 38 #[.slice A l.length c] w fun e w' => ∃ v', e = .returned v' ∧ OwnI w' w.heap.size v' l ∧ Below w.heap.size w w' := by
  rcases A with _ | a
  · have : l = [] := by
      cases l with
      | nil => rfl
      | cons d l => obtain ⟨b, off, h, _⟩ := hI 0 (by simp); cases h
    subst this
    exact (Tryd.slices_Clone_int_nil _ _ _).mono fun e w' ⟨he, hw⟩ => ⟨_, he, OwnI.nil _ _, by rw [hw]; exact Below.refl _ _⟩
  · rcases Nat.eq_zero_or_pos l.length with h | h
    · have : l = [] := List.eq_nil_of_length_eq_zero h
      subst this
      exact (Tryd.slices_Clone_int_zero a c w).mono fun e w' ⟨v', he, ho, _, hb⟩ => ⟨v', he, ho, hb⟩
    · obtain ⟨b, off, ha, _, _⟩ := hI 0 h
      injection ha with ha
      subst ha
      refine (Tryd.slices_Clone_int b off l.length c l w (Nat.le_refl _) (by omega) (fun j hj => ?_)).mono fun e w' ⟨v', he, ho, _, hb⟩ => ⟨v', he, by rw [List.take_length] at ho; exact ho, hb⟩
      obtain ⟨b', off', ha, _, hc⟩ := hI j hj
      injection ha with ha
      injection ha with h1 h2
      subst h1; subst h2
      exact hc

/-- slices.Equal. -/
theorem equal_any (la lb : List Int) (Aa Ab : Option Addr) (ca cb B : Nat) (w : World) (hIa : IntsAt B w Aa la) (hIb : IntsAt B w Ab lb) (hla : la.length ≤ 9223372036854775807) (hlb : lb.length ≤ 9223372036854775807) :
    Calls Tryd.prog 33 #[.slice Aa la.length ca, .slice Ab lb.length cb] w fun e w' => e = .returned (.bool (decide (la = lb))) ∧ ∃ n, w' = w.drewN n := by
  by_cases hne : la.length = lb.length
  · rcases Nat.eq_zero_or_pos la.length with h | h
    · have h1 : la = [] := List.eq_nil_of_length_eq_zero h
      have h2 : lb = [] := List.eq_nil_of_length_eq_zero (by omega)
      subst h1; subst h2
      exact (Tryd.slices_Equal_int_empty Aa Ab ca 0 cb w (by omega)).mono fun e w' ⟨he, hw⟩ => ⟨by rw [he]; rfl, 0, hw⟩
    · obtain ⟨b1, o1, h1, _, _⟩ := hIa 0 h
      obtain ⟨b2, o2, h2, _, _⟩ := hIb 0 (by omega)
      subst h1; subst h2
      refine (Tryd.slices_Equal_int b1 o1 la.length ca b2 o2 lb.length cb la lb w (Nat.le_refl _) (Nat.le_refl _) hla hlb (fun j hj => ?_) (fun j hj => ?_)).mono fun e w' ⟨he, hw⟩ => ⟨by
        rw [he, List.take_length, List.take_length]; congr 2; rw [Bool.eq_iff_iff]; simp, hw⟩
      · obtain ⟨b', off', ha, _, hc⟩ := hIa j hj
        injection ha with ha
        injection ha with h1 h2
        subst h1; subst h2
        exact hc
      · obtain ⟨b', off', ha, _, hc⟩ := hIb j hj
        injection ha with ha
        injection ha with h1 h2
        subst h1; subst h2
        exact hc
  · exact (Tryd.slices_Equal_int_lens Aa Ab la.length ca lb.length cb w hne).mono fun e w' ⟨he, hw⟩ => ⟨by
      rw [he]; congr 2; simp; intro h; exact hne (by rw [h]), 0, hw⟩

end Go.Proofs.YtofndidngjglmaaDoor
