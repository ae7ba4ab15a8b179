/- Walks: isNumber, parse, Read. -/
import Derived.Test.YtofndidngjglmaaDoorDa
import Derived.Test.YtofndidngjglmaaDoorT
import Derived.Test.YtofndidngjglmaaDoorO
import Derived.Lib.SmallJoins
import Derived.Test.YtofndidngjglmaaDoorG
namespace Go.Proofs.YtofndidngjglmaaDoor
open Go.RowKit Go.Joins

def bts (s : ByteArray) : List UInt8 := s.data.toList
/-- Decimal digits without leading zeros. -/
def NumT (l : List UInt8) : Prop := allD l ∧ l ≠ [] ∧ (l = [48] ∨ l.head? ≠ some 48)

theorem bts_len (s : ByteArray) : (bts s).length = s.size := by unfold bts; simp
theorem bts_get (s : ByteArray) (k : Nat) (h : k < s.size) : (bts s)[k]? = some s[k] := by
  unfold bts
  rw [List.getElem?_eq_getElem (by simpa using h)]; rfl
theorem bts_mem (s : ByteArray) (k : Nat) (h : k < s.size) : s[k] ∈ bts s := List.mem_of_getElem? (bts_get s k h)
theorem bts_snoc (s : ByteArray) (k : Nat) (h : k < s.size) : (bts s).take (k + 1) = (bts s).take k ++ [s[k]] := by
  unfold bts
  rw [List.take_succ_eq_append_getElem (by simpa using h)]; rfl

set_option maxHeartbeats 1000000 in
theorem isNumber_bad (s : ByteArray) (w : World) (hs : s.size ≤ 9223372036854775807) (res : Bool) (hres : res = true ↔ NumT (bts s)) (hp : 0 < s.size) :
    Calls Tryd.prog 46 #[.string s] w fun e w' => e = .returned (.bool res) ∧ w = w' := by
  have hbad : ∀ k (h : k < s.size), ¬ isD s[k] → res = false := fun k h hn => by
    rcases hb : res with _ | _
    · rfl
    · exact absurd ((hres.1 hb).1 _ (bts_mem s k h)) hn
  have HB := Lib.hid hbad; clear hbad
  have HR := Lib.hid hres; clear hres
  go_enter Tryd.func46, Tryd.ntmps46
  go_wp2_with fail
  go_loop [6] (fun i => ∃ k : Nat, k ≤ s.size ∧ i = .int .i64 k ∧ Hid (allD ((bts s).take k))) (fun i => s.size - (intOf i).toNat)
  case atStart => exact ⟨0, Nat.zero_le _, rfl, Lib.hid (fun b hb => by cases hb)⟩
  case round =>
    obtain ⟨k, hk, rfl, hall⟩ := hrel
    by_cases hlt : k < s.size
    · have hsn := bts_snoc s k hlt
      have HS := Lib.hid hsn; clear hsn
      by_cases h1 : (s[k].toNat : Int) < 48
      · have := HB.out k hlt (by unfold isD; omega)
        subst this
        go_wp2_with fail
        go_ret
        exact ⟨rfl, rfl⟩
      · by_cases h2 : 57 < (s[k].toNat : Int)
        · have := HB.out k hlt (by unfold isD; omega)
          subst this
          go_wp2_with fail
          go_ret
          exact ⟨rfl, rfl⟩
        · go_wp2_with fail
          go_round
          case rel => exact ⟨k + 1, by omega, by go_num, Lib.hid (by
            rw [HS.out]
            intro b hb
            rcases List.mem_append.1 hb with h | h
            · exact hall.out b h
            · rw [List.mem_singleton] at h; subst h; unfold isD; omega)⟩
          case measure => simp [intOf]; omega
    · have hke : k = s.size := by omega
      have hall' := hall.out
      rw [List.take_of_length_le (by rw [bts_len]; omega)] at hall'
      have HA := Lib.hid hall'; clear hall'
      have hte := ByteArray.toList_eq s
      have HTE := Lib.hid hte; clear hte
      go_wp2_with fail
      · have h48 : s.toList = [48] := by assumption
        go_ret
        refine ⟨?_, rfl⟩
        have : res = true := HR.out.2 ⟨HA.out, by unfold bts; rw [← HTE.out, h48]; simp, .inl (by unfold bts; rw [← HTE.out, h48])⟩
        rw [this]; rfl
      · have h0 : s.toList = [] := by assumption
        exfalso
        rw [HTE.out] at h0
        have h1 : (bts s).length = 0 := by unfold bts; rw [h0]; rfl
        rw [bts_len] at h1
        omega
      · have h48 : ¬ s.toList = [48] := by assumption
        have h0 : ¬ s.toList = [] := by assumption
        go_ret
        refine ⟨?_, rfl⟩
        have hh : (bts s).head? = some s[0] := by rw [List.head?_eq_getElem?, bts_get s 0 hp]
        have e1 : (s.toList == [48]) = false := by simpa using h48
        have e2 : s.toList.isEmpty = false := by simpa using h0
        have : (s.toList == [48] || !s.toList.isEmpty && ((s[0].toNat : Int) != 48)) = res := by
          rw [e1, e2, Bool.eq_iff_iff, HR.out]
          simp only [Bool.not_false, Bool.true_and, Bool.false_or, bne_iff_ne]
          constructor
          · intro hn
            refine ⟨HA.out, by unfold bts; rw [← HTE.out]; exact h0, .inr (fun e => ?_)⟩
            rw [hh] at e
            have e := Option.some.inj e
            rw [e] at hn
            exact hn rfl
          · rintro ⟨_, _, h3 | h3⟩
            · exact absurd (by rw [HTE.out]; exact h3) h48
            · intro e
              apply h3
              rw [hh]
              congr 1
              apply UInt8.toNat_inj.1
              have : (48 : UInt8).toNat = 48 := rfl
              omega
        rw [← this]; rfl

theorem isNumber_any (s : ByteArray) (w : World) (hs : s.size ≤ 9223372036854775807) (res : Bool) (hres : res = true ↔ NumT (bts s)) :
    Calls Tryd.prog 46 #[.string s] w fun e w' => e = .returned (.bool res) ∧ w = w' := by
  rcases Nat.eq_zero_or_pos s.size with h | h
  · have he : bts s = [] := List.eq_nil_of_length_eq_zero (by rw [bts_len]; exact h)
    have hr : res = false := by
      rcases hb : res with _ | _
      · rfl
      · exact absurd he (hres.1 hb).2.1
    subst hr
    have hs0 : s = ⟨#[]⟩ := by
      apply ByteArray.ext
      apply Array.toList_inj.1
      exact he
    subst hs0
    clear hres he h hs
    go_enter Tryd.func46, Tryd.ntmps46
    go_wp2_with fail
    go_loop [6] (fun i => i = .int .i64 0) (fun _ => 0)
    case atStart => rfl
    case round =>
      subst hrel
      go_wp2_with fail
      go_ret
      exact ⟨rfl, rfl⟩
  · exact isNumber_bad s w hs res hres h

theorem decFrom_all {l : List UInt8} (h : allD l) (a : Nat) : Lib.decFrom a l = some (a * 10 ^ l.length + dv l) := by
  induction l generalizing a with
  | nil => simp [Lib.decFrom, dv]
  | cons b l ih =>
    have hb := h b (List.mem_cons_self ..)
    unfold isD at hb
    unfold Lib.decFrom Lib.digitVal
    rw [if_pos hb]
    show Lib.decFrom (a * 10 + (b.toNat - 48)) l = _
    rw [ih (fun c hc => h c (List.mem_cons_of_mem _ hc)), dv_cons, List.length_cons, Nat.pow_succ, Nat.add_mul, Nat.mul_assoc, Nat.mul_comm 10, Nat.add_assoc]
theorem atoi_all {l : List UInt8} (h : allD l) (hne : l ≠ []) : Lib.atoi l = some (dv l : Int) := by
  cases l with
  | nil => exact absurd rfl hne
  | cons b l =>
    have hb := h b (List.mem_cons_self ..)
    unfold isD at hb
    show (if (b == 45) = true then (Lib.decNat l).map fun (m : Nat) => -(m : Int) else if (b == 43) = true then (Lib.decNat l).map fun (m : Nat) => (m : Int) else (Lib.decNat (b :: l)).map fun (m : Nat) => (m : Int)) = _
    rw [if_neg (by
      intro e
      have := congrArg UInt8.toNat (eq_of_beq e)
      have e2 : (45 : UInt8).toNat = 45 := rfl
      omega), if_neg (by
      intro e
      have := congrArg UInt8.toNat (eq_of_beq e)
      have e2 : (43 : UInt8).toNat = 43 := rfl
      omega)]
    unfold Lib.decNat
    rw [if_neg (by simp), decFrom_all h]
    simp

theorem ten_nat {k : Nat} (h : k ≤ 362) : 10 ^ k ≤ 1048576 ^ 60 * 1048576 := by
  obtain ⟨m, hm⟩ : ∃ m, m = 181 := ⟨_, rfl⟩
  obtain ⟨j, hj⟩ : ∃ m, m = 30 := ⟨_, rfl⟩
  have h1 : 10 ^ k ≤ 10 ^ (m * 2) := Nat.pow_le_pow_right (by omega) (by omega)
  have h2 : 10 ^ (m * 2) ≤ 1048576 ^ (j * 2) * 1048576 := by
    rw [Nat.pow_mul, Nat.pow_mul 1048576, hm, hj]
    decide
  rw [hj] at h2
  exact Nat.le_trans h1 h2
theorem ten_pw {k : Nat} (h : k ≤ 362) : ((10 ^ k : Nat) : Int) ≤ pw 61 := by
  have h3 : ((10 ^ k : Nat) : Int) ≤ ((1048576 ^ 60 * 1048576 : Nat) : Int) := by exact_mod_cast ten_nat h
  have h4 : ((1048576 ^ 60 * 1048576 : Nat) : Int) = pw 61 := by
    unfold pw
    rw [Int.pow_succ, Int.natCast_mul, Int.natCast_pow]; rfl
  rw [h4] at h3
  exact h3

set_option maxRecDepth 100000 in
set_option maxHeartbeats 1000000 in
theorem parse_any (s : ByteArray) (w : World) (hall : allD (bts s)) (hs : s.size ≤ 362) :
    Calls Tryd.prog 47 #[.string s] w fun e w' => ∃ v, e = .returned v ∧ OwnI w' w.heap.size v (D (dv (bts s))) ∧ Below w.heap.size w w' := by
  have HALL := Lib.hid hall; clear hall
  have hz0 : D (dv ((bts s).take 0) : Int) = [] := D_zero
  have HZ := Lib.hid hz0; clear hz0
  go_enter Tryd.func47, Tryd.ntmps47
  go_wp2_with fail
  go_loopw [0, 3] (fun sv dvv wr => ∃ (r : ByteArray) (k : Nat), sv = .string r ∧ k + r.size ≤ 362 ∧ Hid (bts r = (bts s).drop k ∧ k + r.size = s.size) ∧ (k = 0 ∨ r.size % 12 = 0) ∧ Sl wr wr.heap.size dvv (D (dv ((bts s).take k))) ∧ OwnI wr w.heap.size dvv (D (dv ((bts s).take k))) ∧ Below w.heap.size w wr) (fun sv _ _ => match sv with | .string r => r.size | _ => 0)
  case atStart => exact ⟨s, 0, rfl, by omega, Lib.hid ⟨rfl, by omega⟩, .inl rfl, by rw [HZ.out]; exact (OwnI.nil w w.heap.size).sl, by rw [HZ.out]; exact OwnI.nil _ _, Below.refl _ _⟩
  case round =>
    obtain ⟨r, k, rfl, hk, hr, hmod, ⟨A, c, rfl, hc, hm, hI⟩, hown, hb⟩ := hrel
    have hs1 := hb.size
    by_cases hp : 0 < r.size
    · obtain ⟨n, hn⟩ : ∃ n, (r.size - 1) % 12 + 1 = n := ⟨_, rfl⟩
      have hn2 : 1 ≤ n ∧ n ≤ 12 ∧ n ≤ r.size := by omega
      have hnk : k = 0 ∨ n = 12 := by omega
      have hch : (r.extract 0 n).data.toList = (bts r).take n := by rw [Lib.extract_data, List.drop_zero, Nat.sub_zero]; rfl
      have hlr : (bts r).length = r.size := bts_len r
      have hch2 : (bts r).take n = ((bts s).drop k).take n := by rw [hr.out.1]
      have hcl : ((bts r).take n).length = n := by rw [List.length_take, hlr]; omega
      have hca : allD ((bts r).take n) := fun b hb => by
        rw [hch2] at hb
        exact HALL.out b (List.mem_of_mem_drop (List.mem_of_mem_take hb))
      have hcs : (r.extract 0 n).size ≤ 18 := by
        have : (r.extract 0 n).size = n := by rw [Lib.size_eq, hch, hcl]
        omega
      have hat := Tryd.strconv_Atoi (r.extract 0 n) (dv ((bts r).take n)) hcs (by rw [hch]; exact atoi_all hca (fun e => by rw [e] at hcl; simp at hcl; omega)) wr
      have hpl := dv_lt hca
      rw [hcl] at hpl
      have hpl2 : dv ((bts r).take n) < 1000000000000 := Nat.lt_of_lt_of_le hpl (by
        have : (10 : Nat) ^ n ≤ 10 ^ 12 := Nat.pow_le_pow_right (by omega) hn2.2.1
        omega)
      have hstep : dv ((bts s).take (k + n)) = 1000000000000 * dv ((bts s).take k) + dv ((bts r).take n) := by
        rw [List.take_add, dv_append, ← hch2, hcl]
        rcases hnk with h | h
        · subst h; simp [dv]
        · rw [h, Nat.mul_comm]
      have hvl : dv ((bts s).take k) < 10 ^ k := by
        have := dv_lt (l := (bts s).take k) (fun b hb => HALL.out b (List.mem_of_mem_take hb))
        rw [List.length_take, bts_len, Nat.min_eq_left (by have := hr.out.2; omega)] at this
        exact this
      have hdl : (D (dv ((bts s).take k) : Int)).length ≤ 61 := (D_len_le (by omega)).2 (Int.lt_of_lt_of_le (by
        have : ((dv ((bts s).take k) : Nat) : Int) < ((10 ^ k : Nat) : Int) := by exact_mod_cast hvl
        exact this) (ten_pw (k := k) (by omega)))
      have hsc := fun (w1 : World) (hb1 : Below wr.heap.size wr w1) => scale_any (D (dv ((bts s).take k) : Int)) A c 1000000000000 (dv ((bts r).take n) : Int) w1 ((hI.below hb1).more hb1.size) (Dig_D _) (by omega) (by omega) (by omega) (by omega) (by omega)
      rw [nv_D (by omega)] at hsc
      have hz : (1000000000000 * (dv ((bts s).take k) : Int) + (dv ((bts r).take n) : Int)) = (dv ((bts s).take (k + n)) : Int) := by rw [hstep]; omega
      rw [hz] at hsc
      have hrn : bts (r.extract n r.size) = (bts s).drop (k + n) := by
        unfold bts
        rw [Lib.extract_data]
        have e := hr.out.1
        unfold bts at e
        rw [e, List.drop_drop, List.take_of_length_le]
        rw [List.length_drop, ← Lib.size_eq]
        have := hr.out.2
        omega
      have hrs : (r.extract n r.size).size = r.size - n := by rw [ByteArray.size_extract]; omega
      obtain ⟨L, hL⟩ : ∃ l, (D (dv ((bts s).take k) : Int)).length = l := ⟨_, rfl⟩
      obtain ⟨pt, hpt⟩ : ∃ l, dv ((bts r).take n) = l := ⟨_, rfl⟩
      rw [hL] at hsc ⊢
      rw [hpt] at hsc hat hpl2
      have HAT := Lib.hid hat; clear hat
      have HSC := Lib.hid hsc; clear hsc
      have HRN := Lib.hid hrn; clear hrn
      have HRS := Lib.hid hrs; clear hrs
      clear hch hlr hch2 hcl hca hcs hpl hstep hvl hdl hz hL hpt hown hI hc
      go_wp2_with fail
      (with_reducible refine HAT.out.mono ?_)
      rintro e w1 ⟨rfl, t, rfl⟩
      have hb1 : Below wr.heap.size wr (Lib.bytesWorld wr 5 t) := below_bytesWorld _ _ _ _ (Nat.le_refl _)
      obtain ⟨w1, hw1⟩ : ∃ W, Lib.bytesWorld wr 5 t = W := ⟨_, rfl⟩
      rw [hw1] at hb1 ⊢
      clear hw1
      go_wp2_with fail
      (with_reducible refine (HSC.out w1 hb1).mono ?_)
      rintro e w2 ⟨v2, rfl, hown2, hb2⟩
      go_wp2_with fail
      go_roundw
      case rel => exact ⟨r.extract n r.size, k + n, by rw [hn], by rw [HRS.out]; omega, Lib.hid ⟨HRN.out, by rw [HRS.out]; have := hr.out.2; omega⟩, .inr (by rw [HRS.out]; omega), hown2.sl, hown2.mono (Nat.le_trans hs1 hb1.size), hb.trans ((hb1.trans (hb2.mono hb1.size)).mono hs1)⟩
      case measure => rw [hn]; show (r.extract n r.size).size < r.size; rw [HRS.out]; omega
    · have h0 : r.size = 0 := by omega
      have hk2 : k = s.size := by have := hr.out.2; omega
      have he : (bts s).take k = bts s := List.take_of_length_le (by rw [bts_len]; omega)
      rw [he] at hown ⊢
      clear he hI hc
      go_wp2_with fail
      go_ret
      exact ⟨_, rfl, hown, hb⟩

end Go.Proofs.YtofndidngjglmaaDoor
