/- Walks: isNumber, parse, Read. Walks: Read. Walks: the library's calls that text makes, at a slice of strings of the call's own. -/
import Derived.Test.YtkjpfnbdlbnbkaaGreatDoorXah
import Derived.Test.YtkjpfnbdlbnbkaaGreatDoorXaf
import Derived.Lib.SmallJoins
import Derived.Test.YtkjpfnbdlbnbkaaGreatDoorXae
import Derived.Lib.AppendIntMem
import Derived.Sort.OwnSorted
import Derived.Deep.LoopGhost

namespace Go.Proofs.YtkjpfnbdlbnbkaaGreatDoor
open Go.RowKit Go.Joins

def bts (s : ByteArray) : List UInt8 := s.data.toList
/-- Decimal digits without leading zeros. -/
def NumT (l : List UInt8) : Prop := allD l ∧ l ≠ [] ∧ (l = [48] ∨ l.head? ≠ some 48)

theorem bts_len (s : ByteArray) : (bts s).length = s.size := by unfold bts; simp
theorem bts_get (s : ByteArray) (k : Nat) (h : k < s.size) : (bts s)[k]? = some s[k] := by
  unfold bts
  rw [List.getElem?_eq_getElem (by simpa using h)]; rfl
theorem bts_mem (s : ByteArray) (k : Nat) (h : k < s.size) : s[k] ∈ bts s := List.mem_of_getElem? (bts_get s k h)
theorem bts_snoc (s : ByteArray) (k : Nat) (h : k < s.size) : (bts s).take (k + 1) = (bts s).take k ++ [s[k]] := by
  unfold bts
  rw [List.take_succ_eq_append_getElem (by simpa using h)]; rfl

set_option maxHeartbeats 1000000 in
theorem isNumber_bad (s : ByteArray) (w : World) (hs : s.size ≤ 9223372036854775807) (res : Bool) (hres : res = true ↔ NumT (bts s)) (hp : 0 < s.size) :
    Calls Tryz.prog 76 #[.string s] w fun e w' => e = .returned (.bool res) ∧ w = w' := by
  have hbad : ∀ k (h : k < s.size), ¬ isD s[k] → res = false := fun k h hn => by
    rcases hb : res with _ | _
    · rfl
    · exact absurd ((hres.1 hb).1 _ (bts_mem s k h)) hn
  have HB := Lib.hid hbad; clear hbad
  have HR := Lib.hid hres; clear hres
  go_enter Tryz.func76, Tryz.ntmps76
  go_wp2_with fail
  go_loop [6] (fun i => ∃ k : Nat, k ≤ s.size ∧ i = .int .i64 k ∧ Hid (allD ((bts s).take k))) (fun i => s.size - (intOf i).toNat)
  case atStart => exact ⟨0, Nat.zero_le _, rfl, Lib.hid (fun b hb => by cases hb)⟩
  case round =>
    obtain ⟨k, hk, rfl, hall⟩ := hrel
    by_cases hlt : k < s.size
    · have hsn := bts_snoc s k hlt
      have HS := Lib.hid hsn; clear hsn
      by_cases h1 : (s[k].toNat : Int) < 48
      · have := HB.out k hlt (by unfold isD; omega)
        subst this
        go_wp2_with fail
        go_ret
        exact ⟨rfl, rfl⟩
      · by_cases h2 : 57 < (s[k].toNat : Int)
        · have := HB.out k hlt (by unfold isD; omega)
          subst this
          go_wp2_with fail
          go_ret
          exact ⟨rfl, rfl⟩
        · go_wp2_with fail
          go_round
          case rel => exact ⟨k + 1, by omega, by go_num, Lib.hid (by
            rw [HS.out]
            intro b hb
            rcases List.mem_append.1 hb with h | h
            · exact hall.out b h
            · rw [List.mem_singleton] at h; subst h; unfold isD; omega)⟩
          case measure => simp [intOf]; omega
    · have hke : k = s.size := by omega
      have hall' := hall.out
      rw [List.take_of_length_le (by rw [bts_len]; omega)] at hall'
      have HA := Lib.hid hall'; clear hall'
      have hte := ByteArray.toList_eq s
      have HTE := Lib.hid hte; clear hte
      go_wp2_with fail
      · have h48 : s.toList = [48] := by assumption
        go_ret
        refine ⟨?_, rfl⟩
        have : res = true := HR.out.2 ⟨HA.out, by unfold bts; rw [← HTE.out, h48]; simp, .inl (by unfold bts; rw [← HTE.out, h48])⟩
        rw [this]; rfl
      · have h0 : s.toList = [] := by assumption
        exfalso
        rw [HTE.out] at h0
        have h1 : (bts s).length = 0 := by unfold bts; rw [h0]; rfl
        rw [bts_len] at h1
        omega
      · have h48 : ¬ s.toList = [48] := by assumption
        have h0 : ¬ s.toList = [] := by assumption
        go_ret
        refine ⟨?_, rfl⟩
        have hh : (bts s).head? = some s[0] := by rw [List.head?_eq_getElem?, bts_get s 0 hp]
        have e1 : (s.toList == [48]) = false := by simpa using h48
        have e2 : s.toList.isEmpty = false := by simpa using h0
        have : (s.toList == [48] || !s.toList.isEmpty && ((s[0].toNat : Int) != 48)) = res := by
          rw [e1, e2, Bool.eq_iff_iff, HR.out]
          simp only [Bool.not_false, Bool.true_and, Bool.false_or, bne_iff_ne]
          constructor
          · intro hn
            refine ⟨HA.out, by unfold bts; rw [← HTE.out]; exact h0, .inr (fun e => ?_)⟩
            rw [hh] at e
            have e := Option.some.inj e
            rw [e] at hn
            exact hn rfl
          · rintro ⟨_, _, h3 | h3⟩
            · exact absurd (by rw [HTE.out]; exact h3) h48
            · intro e
              apply h3
              rw [hh]
              congr 1
              apply UInt8.toNat_inj.1
              have : (48 : UInt8).toNat = 48 := rfl
              omega
        rw [← this]; rfl

theorem isNumber_any (s : ByteArray) (w : World) (hs : s.size ≤ 9223372036854775807) (res : Bool) (hres : res = true ↔ NumT (bts s)) :
    Calls Tryz.prog 76 #[.string s] w fun e w' => e = .returned (.bool res) ∧ w = w' := by
  rcases Nat.eq_zero_or_pos s.size with h | h
  · have he : bts s = [] := List.eq_nil_of_length_eq_zero (by rw [bts_len]; exact h)
    have hr : res = false := by
      rcases hb : res with _ | _
      · rfl
      · exact absurd he (hres.1 hb).2.1
    subst hr
    have hs0 : s = ⟨#[]⟩ := by
      apply ByteArray.ext
      apply Array.toList_inj.1
      exact he
    subst hs0
    clear hres he h hs
    go_enter Tryz.func76, Tryz.ntmps76
    go_wp2_with fail
    go_loop [6] (fun i => i = .int .i64 0) (fun _ => 0)
    case atStart => rfl
    case round =>
      subst hrel
      go_wp2_with fail
      go_ret
      exact ⟨rfl, rfl⟩
  · exact isNumber_bad s w hs res hres h

theorem decFrom_all {l : List UInt8} (h : allD l) (a : Nat) : Lib.decFrom a l = some (a * 10 ^ l.length + dv l) := by
  induction l generalizing a with
  | nil => simp [Lib.decFrom, dv]
  | cons b l ih =>
    have hb := h b (List.mem_cons_self ..)
    unfold isD at hb
    unfold Lib.decFrom Lib.digitVal
    rw [if_pos hb]
    show Lib.decFrom (a * 10 + (b.toNat - 48)) l = _
    rw [ih (fun c hc => h c (List.mem_cons_of_mem _ hc)), dv_cons, List.length_cons, Nat.pow_succ, Nat.add_mul, Nat.mul_assoc, Nat.mul_comm 10, Nat.add_assoc]
theorem atoi_all {l : List UInt8} (h : allD l) (hne : l ≠ []) : Lib.atoi l = some (dv l : Int) := by
  cases l with
  | nil => exact absurd rfl hne
  | cons b l =>
    have hb := h b (List.mem_cons_self ..)
    unfold isD at hb
    show (if (b == 45) = true then (Lib.decNat l).map fun (m : Nat) => -(m : Int) else if (b == 43) = true then (Lib.decNat l).map fun (m : Nat) => (m : Int) else (Lib.decNat (b :: l)).map fun (m : Nat) => (m : Int)) = _
    rw [if_neg (by
      intro e
      have := congrArg UInt8.toNat (eq_of_beq e)
      have e2 : (45 : UInt8).toNat = 45 := rfl
      omega), if_neg (by
      intro e
      have := congrArg UInt8.toNat (eq_of_beq e)
      have e2 : (43 : UInt8).toNat = 43 := rfl
      omega)]
    unfold Lib.decNat
    rw [if_neg (by simp), decFrom_all h]
    simp

theorem ten_nat {k : Nat} (h : k ≤ 362) : 10 ^ k ≤ 1048576 ^ 60 * 1048576 := by
  obtain ⟨m, hm⟩ : ∃ m, m = 181 := ⟨_, rfl⟩
  obtain ⟨j, hj⟩ : ∃ m, m = 30 := ⟨_, rfl⟩
  have h1 : 10 ^ k ≤ 10 ^ (m * 2) := Nat.pow_le_pow_right (by omega) (by omega)
  have h2 : 10 ^ (m * 2) ≤ 1048576 ^ (j * 2) * 1048576 := by
    rw [Nat.pow_mul, Nat.pow_mul 1048576, hm, hj]
    decide
  rw [hj] at h2
  exact Nat.le_trans h1 h2
theorem ten_pw {k : Nat} (h : k ≤ 362) : ((10 ^ k : Nat) : Int) ≤ pw 61 := by
  have h3 : ((10 ^ k : Nat) : Int) ≤ ((1048576 ^ 60 * 1048576 : Nat) : Int) := by exact_mod_cast ten_nat h
  have h4 : ((1048576 ^ 60 * 1048576 : Nat) : Int) = pw 61 := by
    unfold pw
    rw [Int.pow_succ, Int.natCast_mul, Int.natCast_pow]; rfl
  rw [h4] at h3
  exact h3

set_option maxRecDepth 100000 in
set_option maxHeartbeats 1000000 in
theorem parse_any (s : ByteArray) (w : World) (hall : allD (bts s)) (hs : s.size ≤ 362) :
    Calls Tryz.prog 77 #[.string s] w fun e w' => ∃ v, e = .returned v ∧ OwnI w' w.heap.size v (D (dv (bts s))) ∧ Below w.heap.size w w' := by
  have HALL := Lib.hid hall; clear hall
  have hz0 : D (dv ((bts s).take 0) : Int) = [] := D_zero
  have HZ := Lib.hid hz0; clear hz0
  go_enter Tryz.func77, Tryz.ntmps77
  go_wp2_with fail
  go_loopw [0, 3] (fun sv dvv wr => ∃ (r : ByteArray) (k : Nat), sv = .string r ∧ k + r.size ≤ 362 ∧ Hid (bts r = (bts s).drop k ∧ k + r.size = s.size) ∧ (k = 0 ∨ r.size % 12 = 0) ∧ Sl wr wr.heap.size dvv (D (dv ((bts s).take k))) ∧ OwnI wr w.heap.size dvv (D (dv ((bts s).take k))) ∧ Below w.heap.size w wr) (fun sv _ _ => match sv with | .string r => r.size | _ => 0)
  case atStart => exact ⟨s, 0, rfl, by omega, Lib.hid ⟨rfl, by omega⟩, .inl rfl, by rw [HZ.out]; exact (OwnI.nil w w.heap.size).sl, by rw [HZ.out]; exact OwnI.nil _ _, Below.refl _ _⟩
  case round =>
    obtain ⟨r, k, rfl, hk, hr, hmod, ⟨A, c, rfl, hc, hm, hI⟩, hown, hb⟩ := hrel
    have hs1 := hb.size
    by_cases hp : 0 < r.size
    · obtain ⟨n, hn⟩ : ∃ n, (r.size - 1) % 12 + 1 = n := ⟨_, rfl⟩
      have hn2 : 1 ≤ n ∧ n ≤ 12 ∧ n ≤ r.size := by omega
      have hnk : k = 0 ∨ n = 12 := by omega
      have hch : (r.extract 0 n).data.toList = (bts r).take n := by rw [Lib.extract_data, List.drop_zero, Nat.sub_zero]; rfl
      have hlr : (bts r).length = r.size := bts_len r
      have hch2 : (bts r).take n = ((bts s).drop k).take n := by rw [hr.out.1]
      have hcl : ((bts r).take n).length = n := by rw [List.length_take, hlr]; omega
      have hca : allD ((bts r).take n) := fun b hb => by
        rw [hch2] at hb
        exact HALL.out b (List.mem_of_mem_drop (List.mem_of_mem_take hb))
      have hcs : (r.extract 0 n).size ≤ 18 := by
        have : (r.extract 0 n).size = n := by rw [Lib.size_eq, hch, hcl]
        omega
      have hat := Tryz.strconv_Atoi (r.extract 0 n) (dv ((bts r).take n)) hcs (by rw [hch]; exact atoi_all hca (fun e => by rw [e] at hcl; simp at hcl; omega)) wr
      have hpl := dv_lt hca
      rw [hcl] at hpl
      have hpl2 : dv ((bts r).take n) < 1000000000000 := Nat.lt_of_lt_of_le hpl (by
        have : (10 : Nat) ^ n ≤ 10 ^ 12 := Nat.pow_le_pow_right (by omega) hn2.2.1
        omega)
      have hstep : dv ((bts s).take (k + n)) = 1000000000000 * dv ((bts s).take k) + dv ((bts r).take n) := by
        rw [List.take_add, dv_append, ← hch2, hcl]
        rcases hnk with h | h
        · subst h; simp [dv]
        · rw [h, Nat.mul_comm]
      have hvl : dv ((bts s).take k) < 10 ^ k := by
        have := dv_lt (l := (bts s).take k) (fun b hb => HALL.out b (List.mem_of_mem_take hb))
        rw [List.length_take, bts_len, Nat.min_eq_left (by have := hr.out.2; omega)] at this
        exact this
      have hdl : (D (dv ((bts s).take k) : Int)).length ≤ 61 := (D_len_le (by omega)).2 (Int.lt_of_lt_of_le (by
        have : ((dv ((bts s).take k) : Nat) : Int) < ((10 ^ k : Nat) : Int) := by exact_mod_cast hvl
        exact this) (ten_pw (k := k) (by omega)))
      have hsc := fun (w1 : World) (hb1 : Below wr.heap.size wr w1) => scale_any (D (dv ((bts s).take k) : Int)) A c 1000000000000 (dv ((bts r).take n) : Int) w1 ((hI.below hb1).more hb1.size) (Dig_D _) (by omega) (by omega) (by omega) (by omega) (by omega)
      rw [nv_D (by omega)] at hsc
      have hz : (1000000000000 * (dv ((bts s).take k) : Int) + (dv ((bts r).take n) : Int)) = (dv ((bts s).take (k + n)) : Int) := by rw [hstep]; omega
      rw [hz] at hsc
      have hrn : bts (r.extract n r.size) = (bts s).drop (k + n) := by
        unfold bts
        rw [Lib.extract_data]
        have e := hr.out.1
        unfold bts at e
        rw [e, List.drop_drop, List.take_of_length_le]
        rw [List.length_drop, ← Lib.size_eq]
        have := hr.out.2
        omega
      have hrs : (r.extract n r.size).size = r.size - n := by rw [ByteArray.size_extract]; omega
      obtain ⟨L, hL⟩ : ∃ l, (D (dv ((bts s).take k) : Int)).length = l := ⟨_, rfl⟩
      obtain ⟨pt, hpt⟩ : ∃ l, dv ((bts r).take n) = l := ⟨_, rfl⟩
      rw [hL] at hsc ⊢
      rw [hpt] at hsc hat hpl2
      have HAT := Lib.hid hat; clear hat
      have HSC := Lib.hid hsc; clear hsc
      have HRN := Lib.hid hrn; clear hrn
      have HRS := Lib.hid hrs; clear hrs
      clear hch hlr hch2 hcl hca hcs hpl hstep hvl hdl hz hL hpt hown hI hc
      go_wp2_with fail
      (with_reducible refine HAT.out.mono ?_)
      rintro e w1 ⟨rfl, t, rfl⟩
      have hb1 : Below wr.heap.size wr (Lib.bytesWorld wr 5 t) := below_bytesWorld _ _ _ _ (Nat.le_refl _)
      obtain ⟨w1, hw1⟩ : ∃ W, Lib.bytesWorld wr 5 t = W := ⟨_, rfl⟩
      rw [hw1] at hb1 ⊢
      clear hw1
      go_wp2_with fail
      (with_reducible refine (HSC.out w1 hb1).mono ?_)
      rintro e w2 ⟨v2, rfl, hown2, hb2⟩
      go_wp2_with fail
      go_roundw
      case rel => exact ⟨r.extract n r.size, k + n, by rw [hn], by rw [HRS.out]; omega, Lib.hid ⟨HRN.out, by rw [HRS.out]; have := hr.out.2; omega⟩, .inr (by rw [HRS.out]; omega), hown2.sl, hown2.mono (Nat.le_trans hs1 hb1.size), hb.trans ((hb1.trans (hb2.mono hb1.size)).mono hs1)⟩
      case measure => rw [hn]; show (r.extract n r.size).size < r.size; rw [HRS.out]; omega
    · have h0 : r.size = 0 := by omega
      have hk2 : k = s.size := by have := hr.out.2; omega
      have he : (bts s).take k = bts s := List.take_of_length_le (by rw [bts_len]; omega)
      rw [he] at hown ⊢
      clear he hI hc
      go_wp2_with fail
      go_ret
      exact ⟨_, rfl, hown, hb⟩

end Go.Proofs.YtkjpfnbdlbnbkaaGreatDoor

namespace Go.Proofs.YtkjpfnbdlbnbkaaGreatDoor
open Go.RowKit

theorem itoa_ab (z : Int) : Lib.itoa z = (if z < 0 then [45] else []) ++ Lib.decDigits (ab z).toNat := by
  unfold Lib.itoa ab
  split
  · simp
  · rw [List.nil_append]; congr 1; omega

theorem dd_numT (n : Nat) : NumT (Lib.decDigits n) := ⟨dd_all n, dd_ne n, dd_head n⟩
theorem not45 {l : List UInt8} (h : allD l) : Lib.hasPrefix l [45] = false := by
  cases l with
  | nil => rfl
  | cons b l =>
    have hb := h b (List.mem_cons_self ..)
    unfold isD at hb
    unfold Lib.hasPrefix
    simp only [List.isPrefixOf, Bool.and_true]
    rw [beq_eq_false_iff_ne]
    intro e
    rw [← e] at hb
    have : (45 : UInt8).toNat = 45 := rfl
    omega
theorem cut_itoa (z : Int) : Lib.hasPrefix (Lib.itoa z) [45] = decide (z < 0) ∧ Lib.trimPrefix (Lib.itoa z) [45] = Lib.decDigits (ab z).toNat := by
  rw [itoa_ab]
  by_cases h : z < 0
  · rw [if_pos h]
    have h1 : Lib.hasPrefix ([45] ++ Lib.decDigits (ab z).toNat) [45] = true := by
      unfold Lib.hasPrefix; simp [List.isPrefixOf]
    refine ⟨by rw [h1]; simp [h], ?_⟩
    unfold Lib.trimPrefix
    rw [if_pos h1]; rfl
  · rw [if_neg h, List.nil_append]
    have h1 := not45 (dd_all (ab z).toNat)
    refine ⟨by rw [h1]; simp [h], ?_⟩
    unfold Lib.trimPrefix
    rw [h1]; rfl
theorem itoa_of {l : List UInt8} (hd : NumT (Lib.trimPrefix l [45])) (hn : ¬ (Lib.hasPrefix l [45] = true ∧ Lib.trimPrefix l [45] = [48])) : ∃ z, l = Lib.itoa z := by
  obtain ⟨h1, h2, h3⟩ := hd
  have hdd := dd_of h1 h2 h3
  by_cases hp : Lib.hasPrefix l [45] = true
  · have hl : l = 45 :: Lib.trimPrefix l [45] := by
      cases l with
      | nil => cases hp
      | cons b r =>
        unfold Lib.trimPrefix
        rw [if_pos hp]
        unfold Lib.hasPrefix at hp
        simp only [List.isPrefixOf, Bool.and_true, beq_iff_eq] at hp
        rw [← hp]; rfl
    have hne : Lib.trimPrefix l [45] ≠ [48] := fun e => hn ⟨hp, e⟩
    obtain ⟨n, hnn⟩ : ∃ n, dv (Lib.trimPrefix l [45]) = n := ⟨_, rfl⟩
    rw [hnn] at hdd
    have hn0 : n ≠ 0 := fun e => by
      rw [e] at hdd
      exact hne (by rw [← hdd, dd_lt (by omega)]; rfl)
    refine ⟨-(n : Int), ?_⟩
    rw [itoa_ab, if_pos (by omega)]
    have : (ab (-(n : Int))).toNat = n := by unfold ab; omega
    rw [this, hdd]
    exact hl
  · have hl : Lib.trimPrefix l [45] = l := by unfold Lib.trimPrefix; rw [if_neg hp]
    rw [hl] at hdd
    obtain ⟨n, hnn⟩ : ∃ n, dv l = n := ⟨_, rfl⟩
    rw [hnn] at hdd
    refine ⟨(n : Int), ?_⟩
    rw [itoa_ab, if_neg (by omega)]
    have : (ab (n : Int)).toNat = n := by unfold ab; omega
    rw [this, hdd]; rfl

theorem pw60_ten : pw 60 ≤ ((10 ^ 181 * 10 ^ 181 : Nat) : Int) := by
  have h4 : pw 60 = ((1048576 ^ 60 : Nat) : Int) := by unfold pw; rw [Int.natCast_pow]; rfl
  rw [h4]
  exact_mod_cast (by decide : (1048576 : Nat) ^ 60 ≤ 10 ^ 181 * 10 ^ 181)
theorem long_full {z : Int} (h : 362 < (Lib.decDigits (ab z).toNat).length) : ¬ ab z < pw 60 := by
  intro hl
  have h1 : (ab z).toNat < 10 ^ 181 * 10 ^ 181 := by
    have := pw60_ten
    have := ab_nonneg z
    omega
  obtain ⟨m, hm⟩ : ∃ m, 181 = m := ⟨_, rfl⟩
  rw [hm, ← Nat.pow_add] at h1
  have := dd_len_le (k := m + m) (by omega) h1
  omega

def byt (l : List UInt8) : ByteArray := ⟨l.toArray⟩
theorem bts_byt (l : List UInt8) : bts (byt l) = l := by unfold bts byt; simp
theorem byt_size (l : List UInt8) : (byt l).size = l.length := by rw [← bts_len, bts_byt]

set_option maxRecDepth 100000 in
set_option maxHeartbeats 1000000 in
theorem read_num (z : Int) (s : ByteArray) (w : World) (hz : bts s = Lib.itoa z) (hs : s.size ≤ 100000) :
    Calls Tryz.prog 18 #[.string s] w (ResP z w) := by
  obtain ⟨hc1, hc2⟩ := cut_itoa z
  obtain ⟨d, hd⟩ : ∃ d, d = byt (Lib.decDigits (ab z).toNat) := ⟨_, rfl⟩
  have hbd : bts d = Lib.decDigits (ab z).toNat := by rw [hd, bts_byt]
  have hcut := fun w' => Tryz.strings_CutPrefix s ⟨#[45]⟩ w'
  have e1 : s.data.toList = Lib.itoa z := hz
  have e2 : (⟨#[45]⟩ : ByteArray).data.toList = [45] := rfl
  rw [e1, e2, hc1, hc2] at hcut
  have e3 : (⟨(Lib.decDigits (ab z).toNat).toArray⟩ : ByteArray) = d := hd.symm
  rw [e3] at hcut
  have hdl : d.size ≤ s.size := by
    rw [← bts_len, ← bts_len, hbd, hz, itoa_ab, List.length_append]; omega
  have hisn := fun w' => isNumber_any d w' (by omega) true (by simp only [true_iff]; rw [hbd]; exact dd_numT _)
  have hb : ∀ v, Below w.heap.size w (w.alloc (.cells v 24)) := fun v => (Below.refl _ _).alloc (Nat.le_refl _) _
  have HB := Lib.hid hb; clear hb
  have HCUT := Lib.hid hcut; clear hcut
  have HISN := Lib.hid hisn; clear hisn
  have h48 : z < 0 → ¬ d.toList = [48] := fun h e => by
    rw [ByteArray.toList_eq] at e
    have e : bts d = [48] := e
    have h2 := dv_dd (ab z).toNat
    rw [← hbd, e] at h2
    have h3 : dv [48] = 0 := rfl
    unfold ab at h2
    omega
  have H48 := Lib.hid h48; clear h48
  clear e1 e2 e3 hc1 hc2 hz hd
  by_cases hlong : 362 < d.size
  · have hfull := long_full (z := z) (by rw [← hbd, bts_len]; exact hlong)
    have hfz : fitz z = 0 := if_neg hfull
    have hfe : fite z = 6 := if_neg hfull
    unfold ResP
    rw [hfz, hfe]
    clear hfz hfe hfull
    by_cases hneg : z < 0
    · have h48 := H48.out hneg
      have h48' : (d.toList == [48]) = false := by simpa using h48
      go_enter Tryz.func18, Tryz.ntmps18
      go_wp2_with fail
      (with_reducible refine (HCUT.out _).mono ?_)
      rintro e w1 ⟨rfl, rfl⟩
      go_wp2_with fail
      (with_reducible refine (HISN.out _).mono ?_)
      rintro e w1 ⟨rfl, rfl⟩
      go_wp2_with fail
      refine bodyPost_ret (v := .tuple #[.agg #[.int .i64 0, .slice none 0 0], .int .i64 6]) (by simp [results, Tryz.results18, go_sem]) rfl ?_
      exact ⟨_, rfl, BO.zero _ _, HB.out _⟩

    · go_enter Tryz.func18, Tryz.ntmps18
      go_wp2_with fail
      (with_reducible refine (HCUT.out _).mono ?_)
      rintro e w1 ⟨rfl, rfl⟩
      go_wp2_with fail
      (with_reducible refine (HISN.out _).mono ?_)
      rintro e w1 ⟨rfl, rfl⟩
      go_wp2_with fail
      refine bodyPost_ret (v := .tuple #[.agg #[.int .i64 0, .slice none 0 0], .int .i64 6]) (by simp [results, Tryz.results18, go_sem]) rfl ?_
      exact ⟨_, rfl, BO.zero _ _, HB.out _⟩

  · have hpar := fun w' => parse_any d w' (by rw [hbd]; exact dd_all _) (by omega)
    rw [hbd, dv_dd, Int.toNat_of_nonneg (ab_nonneg z)] at hpar
    have HPAR := Lib.hid hpar; clear hpar
    by_cases hneg : z < 0
    · have hft := fun A c w' => fitting_any z (-1) A c w' (fun _ => (sgn_of_neg hneg).symm)
      have HFT := Lib.hid hft; clear hft
      have h48 := H48.out hneg
      have h48' : (d.toList == [48]) = false := by simpa using h48
      go_enter Tryz.func18, Tryz.ntmps18
      go_wp2_with fail
      (with_reducible refine (HCUT.out _).mono ?_)
      rintro e w1 ⟨rfl, rfl⟩
      go_wp2_with fail
      (with_reducible refine (HISN.out _).mono ?_)
      rintro e w1 ⟨rfl, rfl⟩
      go_wp2_with fail
      (with_reducible refine (HPAR.out _).mono ?_)
      rintro e w2 ⟨v2, rfl, hown2, hb2⟩
      obtain ⟨A2, c2, rfl, _, _, _⟩ := hown2.at_
      go_wp2_with fail
      (with_reducible refine (HFT.out _ _ _).mono ?_)
      rintro e w3 ⟨r, rfl, hr, hb3⟩
      have HR := Lib.hid hr
      obtain ⟨s', A', n', c', rfl⟩ := hr.form
      clear hr
      have hB3 := hb2.trans (hb3.mono hb2.size)
      have hbk : Blk w3 w.heap.size 24 #[.int .i64 0, .slice none 0 0] := (Blk.new w 24 _).below hB3 (by simp)
      have q0 : w3.cell? ⟨w.heap.size, 0, none⟩ = some (.int .i64 0) := hbk.cell 0
      have q1 : w3.cell? ⟨w.heap.size, 1, none⟩ = some (.slice none 0 0) := hbk.cell 1
      have f0 := hbk.frozen 0
      have f1 := hbk.frozen 1
      have hbs := hbk.set2 (.int .i64 s') (.slice A' n' c')
      have hd0 := hbs.cell 0
      have hd1 := hbs.cell 1
      simp at hd0 hd1
      have hb03 := (HB.out _).trans (hB3.mono (by simp))
      have hB6 := (hb03.setCell (p := ⟨w.heap.size, 0, none⟩) (Nat.le_refl _) (.int .i64 s')).setCell (p := ⟨w.heap.size, 1, none⟩) (Nat.le_refl _) (.slice A' n' c')
      go_wp2_with fail
      refine bodyPost_ret (v := .tuple #[.agg #[.int .i64 s', .slice A' n' c'], .int .i64 (fite z)]) (by simp [results, Tryz.results18, go_sem, hd0, hd1]) rfl ?_
      have hof := (hown2.below hb3).far2 (g := w.heap.size) (by simp) (.int .i64 s') (.slice A' n' c')
      exact ⟨_, rfl, HR.out.fito (hof.mono (by simp)), hB6⟩

    · have hft := fun A c w' => fitting_any z 1 A c w' (fun h => (sgn_pos (by omega)).symm)
      have HFT := Lib.hid hft; clear hft
      go_enter Tryz.func18, Tryz.ntmps18
      go_wp2_with fail
      (with_reducible refine (HCUT.out _).mono ?_)
      rintro e w1 ⟨rfl, rfl⟩
      go_wp2_with fail
      (with_reducible refine (HISN.out _).mono ?_)
      rintro e w1 ⟨rfl, rfl⟩
      go_wp2_with fail
      (with_reducible refine (HPAR.out _).mono ?_)
      rintro e w2 ⟨v2, rfl, hown2, hb2⟩
      obtain ⟨A2, c2, rfl, _, _, _⟩ := hown2.at_
      go_wp2_with fail
      (with_reducible refine (HFT.out _ _ _).mono ?_)
      rintro e w3 ⟨r, rfl, hr, hb3⟩
      have HR := Lib.hid hr
      obtain ⟨s', A', n', c', rfl⟩ := hr.form
      clear hr
      have hB3 := hb2.trans (hb3.mono hb2.size)
      have hbk : Blk w3 w.heap.size 24 #[.int .i64 0, .slice none 0 0] := (Blk.new w 24 _).below hB3 (by simp)
      have q0 : w3.cell? ⟨w.heap.size, 0, none⟩ = some (.int .i64 0) := hbk.cell 0
      have q1 : w3.cell? ⟨w.heap.size, 1, none⟩ = some (.slice none 0 0) := hbk.cell 1
      have f0 := hbk.frozen 0
      have f1 := hbk.frozen 1
      have hbs := hbk.set2 (.int .i64 s') (.slice A' n' c')
      have hd0 := hbs.cell 0
      have hd1 := hbs.cell 1
      simp at hd0 hd1
      have hb03 := (HB.out _).trans (hB3.mono (by simp))
      have hB6 := (hb03.setCell (p := ⟨w.heap.size, 0, none⟩) (Nat.le_refl _) (.int .i64 s')).setCell (p := ⟨w.heap.size, 1, none⟩) (Nat.le_refl _) (.slice A' n' c')
      go_wp2_with fail
      refine bodyPost_ret (v := .tuple #[.agg #[.int .i64 s', .slice A' n' c'], .int .i64 (fite z)]) (by simp [results, Tryz.results18, go_sem, hd0, hd1]) rfl ?_
      have hof := (hown2.below hb3).far2 (g := w.heap.size) (by simp) (.int .i64 s') (.slice A' n' c')
      exact ⟨_, rfl, HR.out.fito (hof.mono (by simp)), hB6⟩


set_option maxRecDepth 100000 in
set_option maxHeartbeats 1000000 in
theorem read_bad (s : ByteArray) (w : World) (hz : ∀ z, bts s ≠ Lib.itoa z) (hs : s.size ≤ 100000) :
    Calls Tryz.prog 18 #[.string s] w fun e w' => ∃ r, e = .returned (.tuple #[r, .int .i64 2]) ∧ BO w' w.heap.size r 0 ∧ Below w.heap.size w w' := by
  obtain ⟨d, hd⟩ : ∃ d, d = byt (Lib.trimPrefix (bts s) [45]) := ⟨_, rfl⟩
  have hbd : bts d = Lib.trimPrefix (bts s) [45] := by rw [hd, bts_byt]
  obtain ⟨ng, hng⟩ : ∃ b, Lib.hasPrefix (bts s) [45] = b := ⟨_, rfl⟩
  have hcut := fun w' => Tryz.strings_CutPrefix s ⟨#[45]⟩ w'
  have e1 : s.data.toList = bts s := rfl
  have e2 : (⟨#[45]⟩ : ByteArray).data.toList = [45] := rfl
  have e3 : (⟨(Lib.trimPrefix (bts s) [45]).toArray⟩ : ByteArray) = d := hd.symm
  rw [e1, e2, hng, e3] at hcut
  have hdl : d.size ≤ s.size := by
    rw [← bts_len, ← bts_len, hbd]
    unfold Lib.trimPrefix
    split
    · rw [List.length_drop]; omega
    · exact Nat.le_refl _
  have hb : ∀ v, Below w.heap.size w (w.alloc (.cells v 24)) := fun v => (Below.refl _ _).alloc (Nat.le_refl _) _
  have HB := Lib.hid hb; clear hb
  have HCUT := Lib.hid hcut; clear hcut
  by_cases hnum : NumT (bts d)
  · have hneg : ng = true ∧ bts d = [48] := by
      rcases Classical.em (ng = true ∧ bts d = [48]) with h | h
      · exact h
      · rw [hbd] at hnum h
        rw [← hng] at h
        obtain ⟨z, hzz⟩ := itoa_of hnum h
        exact absurd hzz (hz z)
    have hisn := fun w' => isNumber_any d w' (by omega) true (by simp only [true_iff]; exact hnum)
    have HISN := Lib.hid hisn; clear hisn
    have h48 : d.toList = [48] := by rw [ByteArray.toList_eq]; exact hneg.2
    have hn := hneg.1
    subst hn
    have h48' : (d.toList == [48]) = true := by simpa using h48
    clear e1 e2 e3 hz hd hbd hng hnum hneg
    go_enter Tryz.func18, Tryz.ntmps18
    go_wp2_with fail
    (with_reducible refine (HCUT.out _).mono ?_)
    rintro e w1 ⟨rfl, rfl⟩
    go_wp2_with fail
    (with_reducible refine (HISN.out _).mono ?_)
    rintro e w1 ⟨rfl, rfl⟩
    go_wp2_with fail
    refine bodyPost_ret (v := .tuple #[.agg #[.int .i64 0, .slice none 0 0], .int .i64 2]) (by simp [results, Tryz.results18, go_sem]) rfl ?_
    exact ⟨_, rfl, BO.zero _ _, HB.out _⟩

  · have hisn := fun w' => isNumber_any d w' (by omega) false (by simp only [Bool.false_eq_true, false_iff]; exact hnum)
    have HISN := Lib.hid hisn; clear hisn
    clear e1 e2 e3 hz hd hbd hng hnum
    go_enter Tryz.func18, Tryz.ntmps18
    go_wp2_with fail
    (with_reducible refine (HCUT.out _).mono ?_)
    rintro e w1 ⟨rfl, rfl⟩
    go_wp2_with fail
    (with_reducible refine (HISN.out _).mono ?_)
    rintro e w1 ⟨rfl, rfl⟩
    go_wp2_with fail
    refine bodyPost_ret (v := .tuple #[.agg #[.int .i64 0, .slice none 0 0], .int .i64 2]) (by simp [results, Tryz.results18, go_sem]) rfl ?_
    exact ⟨_, rfl, BO.zero _ _, HB.out _⟩

end Go.Proofs.YtkjpfnbdlbnbkaaGreatDoor

namespace Go.Proofs.YtkjpfnbdlbnbkaaGreatDoor
open Go.RowKit

/-- The table that Itoa reads. -/
def TB (w : World) : Prop := Lib.TabIs Tryz.prog w "internal/strconv.uint64pow10" .u64 Lib.pow10Tab
theorem TB.below {w w' : World} (h : TB w) (hb : Below w.heap.size w w') : TB w' := by
  unfold TB Lib.TabIs World.var? at *
  cases hg : Tryz.prog.globalNamed "internal/strconv.uint64pow10" with
  | none => rw [hg] at h; cases h
  | some g =>
    rw [hg] at h
    simp only [Option.bind_some] at h ⊢
    have hlt : g < w.heap.size := by
      rcases Nat.lt_or_ge g w.heap.size with h' | h'
      · exact h'
      · rw [Array.getElem?_eq_none h'] at h; cases h
    rw [hb.block g hlt]; exact h

/-- A string as a value. -/
def strV (l : List UInt8) : Value := .string (byt l)

theorem Tryz.info9 : (Tryz.prog.info? 9).map (fun i => (i.zero, i.size, i.bytes)) = some (some (.string ByteArray.empty), 1, 16) := by kernel_rfl

/-- A slice of strings that is owned from block B on. -/
def OwnS (w : World) (B : Nat) (v : Value) (l : List (List UInt8)) : Prop := w.ownsRow B 9 1 v l.length (l.map strV)
theorem OwnS.nil (w : World) (B : Nat) : OwnS w B (.slice none 0 0) [] := World.ownsRow_nil w B 9 1
theorem OwnS.below {w w' : World} {B : Nat} {v : Value} {l : List (List UInt8)} (h : OwnS w B v l) (hb : Below w.heap.size w w') : OwnS w' B v l :=
  World.ownsRow.kept (row := none) h ⟨hb.os, hb.tape, hb.output, hb.size, fun k hk _ => hb.block k hk⟩ (by cases v.ownBlock <;> simp)
theorem OwnI.away {w : World} {B B' : Nat} {u v : Value} {m : List Int} {l : List (List UInt8)} (h : OwnI w B u m) (h' : OwnS w B' v l) : u.ownBlock = none ∨ u.ownBlock ≠ v.ownBlock := by
  rcases h.2 with ⟨rfl, _⟩ | ⟨g, cap, cur, rfl, _, hg, _⟩
  · exact .inl rfl
  · right
    rcases h'.2 with ⟨rfl, _⟩ | ⟨g', cap', cur', rfl, _, hg', _⟩
    · intro e; cases e
    · intro e
      have e : g = g' := Option.some.inj e
      subst e
      rw [hg] at hg'
      cases hg'

theorem app1s {w : World} {ops : Array Oper} {rest : List Oper} {o : Oper} {a : Act} {Q : Exit → Act → World → Prop} (hgd : o.guard = none) (s x : Operand)
    (ho : o.op = .call { callee := .builtin .append, args := #[s, x], argTypes := #[76, 76] })
    (B : Nat) (v : Value) (l : List (List UInt8)) (c : List UInt8) (C : ByteArray) (hC : C = byt c) (hs : a.eval s = v) (hown : OwnS w B v l)
    (hx : a.eval x = .slice (some ⟨w.heap.size, 0, none⟩) 1 1) (hb : l.length ≤ 10000000) (hbase : B ≤ w.heap.size)
    (h : ∀ v' w', OwnS w' B v' (l ++ [c]) → Below B w w' → (∀ B2 u m, OwnI w B2 u m → OwnI w' B2 u m) → wpList Tryz.prog ops Q rest (a.put o.dst v') w') : wpList Tryz.prog ops Q (o :: rest) a (w.alloc (.cells #[.string C] 9)) := by
  subst hC
  obtain ⟨i0, hi, hz0, hz1, hz2⟩ := info_parts Tryz.info9
  refine wpList_append_own _ hgd s x 76 ho B 9 i0 (.string ByteArray.empty) 1 16 Tryz.underlying76 hi hz0 hz1 hz2 rfl (by decide) _ _ _ hs (World.ownsRow.alloc hown _) ⟨w.heap.size, 0, none⟩ 1 1 [.string (byt c)] hx rfl ?_ ?_ ?_ ?_ ?_ ?_
  · intro j u hj; match j, hj with | 0, hj => simp at hj; subst hj; simp [Addr.add]
  · intro u hu; simp at hu; subst hu; rfl
  · unfold maxLen; omega
  · omega
  · simp; omega
  · intro v' w1 hown' hgrow _
    refine h v' w1 ?_ ?_ ?_
    · unfold OwnS
      rw [List.map_append, List.length_append]
      exact hown'
    · exact ((Below.refl B w).alloc hbase _).grown hgrow (by simp; omega) (fun k hk => (World.ownsRow.lt hown k hk).1)
    · intro B2 u m hI
      have hI' : OwnI (w.alloc (.cells #[.string (byt c)] 9)) B2 u m := hI.below ((Below.refl _ w).alloc (Nat.le_refl _) _)
      exact World.ownsRow.kept hI' hgrow (OwnI.away hI hown)

theorem itoa_call (m : Int) (h0 : 0 ≤ m) (h1 : m ≤ 1099511627776) (w : World) (ht : TB w) :
    Calls Tryz.prog 84 #[.int .i64 m] w fun e w' => e = .returned (.string (byt (Lib.decDigits m.toNat))) ∧ Below w.heap.size w w' := by
  refine (Tryz.strconv_Itoa m (by omega) (by omega) w ht).mono ?_
  rintro e w' ⟨rfl, k, os, rfl⟩
  refine ⟨?_, Lib.below_grow _ w (Nat.le_refl _) k os⟩
  unfold Lib.itoa byt
  rw [if_neg (by omega)]

theorem repeatL_one (c : UInt8) (n : Nat) : Lib.repeatL [c] n = List.replicate n c := by
  induction n with
  | zero => rfl
  | succ n ih => rw [Lib.repeatL, ih, List.replicate_succ]; rfl

theorem repeat_call (S : ByteArray) (hS : S.size ≤ 12) (w : World) :
    Calls Tryz.prog 85 #[.string ⟨#[48]⟩, .int .i64 (12 - (S.size : Int))] w fun e w' => e = .returned (.string (byt (List.replicate (12 - S.size) 48))) ∧ Below w.heap.size w w' := by
  have h := Tryz.strings_Repeat ⟨#[48]⟩ (12 - S.size) w (by omega) (by
    have : (⟨#[48]⟩ : ByteArray).size = 1 := rfl
    rw [this]; omega)
  have e : ((12 - S.size : Nat) : Int) = 12 - (S.size : Int) := by omega
  rw [e] at h
  refine h.mono ?_
  rintro e w' ⟨rfl, hb⟩
  refine ⟨?_, hb⟩
  have : (⟨#[48]⟩ : ByteArray).data.toList = [48] := rfl
  rw [this, repeatL_one]
  rfl

theorem strV_enc : strV = encStr := rfl

theorem reverse_call {w : World} {B : Nat} {v : Value} {l : List (List UInt8)} (h : OwnS w B v l) (hl : l.length ≤ 10000000) :
    Calls Tryz.prog 86 #[v] w fun e w' => e = .returned (.tuple #[]) ∧ OwnS w' B v l.reverse ∧ Below B w w' := by
  rcases h.2 with ⟨rfl, hn⟩ | ⟨g, cap, cur, rfl, hb, hg, h1, h2, h3, h4⟩
  · have : l = [] := List.eq_nil_of_length_eq_zero hn
    subst this
    refine (Tryz.slices_Reverse_string_empty none 0 w).mono ?_
    rintro e w' ⟨rfl, rfl⟩
    exact ⟨rfl, OwnS.nil _ _, Below.refl _ _⟩
  · rw [Nat.mul_one, strV_enc] at h4
    refine (Tryz.slices_Reverse_string g 0 cap l w (holds_of_block hg h4) (by omega)).mono ?_
    rintro e w' ⟨rfl, n, rfl⟩
    refine ⟨rfl, ?_, ?_⟩
    · have := ownsRow_sorted (n := n) (os := #[]) (ss := l) (ts := l.reverse) (by simp) hb hg h1 h2 h3
      rw [Sort.grow_empty] at this
      unfold OwnS
      rw [strV_enc, List.length_reverse]
      exact this
    · have := (Below.refl B w).grown (grownBy_sorted (n := n) (w := w) (g := g) (os := #[]) l.reverse.toArray) (by have := (Array.getElem?_eq_some_iff.1 hg).1; omega) (fun k hk => by cases hk; exact hb)
      rw [Sort.grow_empty] at this
      exact this

theorem join_flat (xs : List (List UInt8)) : Lib.join xs [] = xs.flatten := by
  induction xs with
  | nil => rfl
  | cons x r ih =>
    cases r with
    | nil => rw [Lib.join_one]; simp
    | cons y r =>
      unfold Lib.join at *
      rw [List.flatten_cons, ← ih]
      simp [List.intercalate]

theorem join_call {w : World} {B : Nat} {v : Value} {l : List (List UInt8)} (h : OwnS w B v l) (hl : l.length ≤ 10000000) (h0 : l ≠ []) (hf : l.flatten.length ≤ 1000000) :
    Calls Tryz.prog 87 #[v, .string ⟨#[]⟩] w fun e w' => e = .returned (.string (byt l.flatten)) ∧ Below w.heap.size w w' := by
  rcases h.2 with ⟨rfl, hn⟩ | ⟨g, cap, cur, rfl, hb, hg, h1, h2, h3, h4⟩
  · exact absurd (List.eq_nil_of_length_eq_zero hn) h0
  · have e1 : (l.map byt).map (·.data.toList) = l := by
      rw [List.map_map]
      have : ((fun x : ByteArray => x.data.toList) ∘ byt) = id := by funext x; exact bts_byt x
      rw [this, List.map_id]
    have e2 : (⟨#[]⟩ : ByteArray).data.toList = [] := rfl
    have hj : Lib.join ((l.map byt).map (·.data.toList)) (⟨#[]⟩ : ByteArray).data.toList = l.flatten := by rw [e1, e2, join_flat]
    have hc := Tryz.strings_Join g 0 cap (l.map byt) ⟨#[]⟩ w (by
      intro j x hx
      rw [List.getElem?_map] at hx
      cases hlj : l[j]? with
      | none => rw [hlj] at hx; cases hx
      | some y =>
        rw [hlj] at hx
        have hx : byt y = x := Option.some.inj hx
        have hjl : j < l.length := by rcases Nat.lt_or_ge j l.length with h | h; exact h; rw [List.getElem?_eq_none h] at hlj; cases hlj
        have := (holds_of_block hg (by rw [Nat.mul_one, strV_enc] at h4; exact h4) j (by simpa using hjl)).1
        rw [this, ← hx]
        simp [encStr, byt, hjl]
        rw [List.getElem?_eq_getElem hjl] at hlj
        rw [Option.some.inj hlj]) (Array.getElem?_eq_some_iff.1 hg).1 (by rw [List.length_map]; omega) (by rw [List.length_map]; exact h1) (by rw [hj]; omega)
    rw [hj, List.length_map] at hc
    exact hc

end Go.Proofs.YtkjpfnbdlbnbkaaGreatDoor
