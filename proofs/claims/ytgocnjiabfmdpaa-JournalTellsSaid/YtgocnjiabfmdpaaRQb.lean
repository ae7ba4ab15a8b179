/- Walk of the reference's Back: the int whose decimal form a string is. -/
import Derived.Test.YtgocnjiabfmdpaaRQa
namespace Go.Proofs.Ytgocnjiabfmdpaa.Wire
set_option maxRecDepth 8000
open Go.RowKit

theorem wrap64_i64 (n : Int) : isI64 (wrap64 n) := by
  unfold isI64 wrap64
  omega

def BackNo (w : World) (e : Ending) (w' : World) : Prop := (∃ v, e = .returned (.tuple #[.int .i64 v, .bool false])) ∧ Below w.heap.size w w'
theorem BackNo.of {w w' : World} (v : Int) (h : Below w.heap.size w w') : BackNo w (.returned (.tuple #[.int .i64 v, .bool false])) w' := ⟨⟨v, rfl⟩, h⟩

theorem enc_ne {s : ByteArray} {v : Int} (h : encInt v ≠ bts s ++ [59]) : ((ba (encInt v)).toList == (s ++ ⟨#[59]⟩).toList) = false := by
  rw [beq_eq_false_iff_ne, ByteArray.toList_eq, ByteArray.toList_eq]
  intro hh
  apply h
  have e1 : (s ++ ⟨#[59]⟩ : ByteArray) = ba (bts s ++ [59]) := by rw [← ba_append, ba_bts]; rfl
  rw [e1] at hh
  exact hh
theorem enc_eq {s : ByteArray} {v : Int} (h : encInt v = bts s ++ [59]) : ((ba (encInt v)).toList == (s ++ ⟨#[59]⟩).toList) = true := by
  have e1 : (s ++ ⟨#[59]⟩ : ByteArray) = ba (bts s ++ [59]) := by rw [← ba_append, ba_bts]; rfl
  rw [e1, h]
  exact beq_self_eq_true _

set_option maxHeartbeats 4000000 in
theorem back_no (s : ByteArray) (w : World) (hs : s.size ≤ 1000000) (h : ∀ v, isI64 v → encInt v ≠ bts s ++ [59]) :
    Calls Try.prog 110 #[.string s] w (BackNo w) := by
  have H := Lib.hid h; clear h
  rcases Nat.eq_zero_or_pos s.size with h0 | h0
  · have h0' : s.size ≤ 0 := by omega
    clear h0
    go_enter Try.func110, Try.ntmps110
    go_wp2_with fail
    go_loopw [5, 6] (fun n i wr => n = .int .i64 0 ∧ i = .int .i64 0 ∧ wr = w) (fun _ _ _ => 0)
    case atStart => exact ⟨rfl, rfl, rfl⟩
    case round =>
      obtain ⟨rfl, rfl, rfl⟩ := hrel
      go_wp2_with fail
      refine (rInt_any 0 _ (by unfold isI64; omega)).mono ?_
      rintro e w1 ⟨rfl, hb1⟩
      have hne := enc_ne (H.out 0 (by unfold isI64; omega))
      go_wp2_with fail
      go_ret2
      exact BackNo.of _ hb1
  · by_cases h45 : (((s[0]'h0).toNat : Int) == 45) = true
    · go_enter Try.func110, Try.ntmps110
      go_wp2_with fail
      go_loopw [5, 6] (fun n i wr => ∃ (k : Nat) (m : Int), k ≤ s.size ∧ i = .int .i64 k ∧ n = .int .i64 m ∧ isI64 m ∧ wr = w) (fun _ i _ => s.size - (intOf i).toNat)
      case atStart => exact ⟨1, 0, by omega, rfl, rfl, by unfold isI64; omega, rfl⟩
      case round =>
        obtain ⟨k, m, hk, rfl, rfl, hm, rfl⟩ := hrel
        by_cases hlt : k < s.size
        · by_cases h1 : (s[k]'hlt).toNat < 48
          · go_wp2_with fail
            go_ret2
            exact BackNo.of _ (Below.refl _ _)
          · by_cases h2 : 57 < (s[k]'hlt).toNat
            · go_wp2_with fail
              go_ret2
              exact BackNo.of _ (Below.refl _ _)
            · by_cases h3 : 20 < k
              · go_wp2_with fail
                go_ret2
                exact BackNo.of _ (Below.refl _ _)
              · go_wp2_with fail
                go_roundw
                case rel => exact ⟨k + 1, _, by omega, by go_num, rfl, wrap64_i64 _, by trivial⟩
                case measure => simp [intOf]; omega
        · have hn := enc_ne (H.out m hm)
          go_wp2_with fail
          refine (rInt_any m _ hm).mono ?_
          rintro e w1 ⟨rfl, hb1⟩
          go_wp2_with fail
          go_ret2
          exact BackNo.of _ hb1
    · have h45' : (((s[0]'h0).toNat : Int) == 45) = false := by simpa using h45
      clear h45
      go_enter Try.func110, Try.ntmps110
      go_wp2_with fail
      go_loopw [5, 6] (fun n i wr => ∃ (k : Nat) (m : Int), k ≤ s.size ∧ i = .int .i64 k ∧ n = .int .i64 m ∧ isI64 m ∧ wr = w) (fun _ i _ => s.size - (intOf i).toNat)
      case atStart => exact ⟨0, 0, by omega, rfl, rfl, by unfold isI64; omega, rfl⟩
      case round =>
        obtain ⟨k, m, hk, rfl, rfl, hm, rfl⟩ := hrel
        by_cases hlt : k < s.size
        · by_cases h1 : (s[k]'hlt).toNat < 48
          · go_wp2_with fail
            go_ret2
            exact BackNo.of _ (Below.refl _ _)
          · by_cases h2 : 57 < (s[k]'hlt).toNat
            · go_wp2_with fail
              go_ret2
              exact BackNo.of _ (Below.refl _ _)
            · by_cases h3 : 20 < k
              · go_wp2_with fail
                go_ret2
                exact BackNo.of _ (Below.refl _ _)
              · go_wp2_with fail
                go_roundw
                case rel => exact ⟨k + 1, _, by omega, by go_num, rfl, wrap64_i64 _, by trivial⟩
                case measure => simp [intOf]; omega
        · have hm2 := wrap64_i64 (-m)
          have hn := enc_ne (H.out _ hm2)
          have HM2 := Lib.hid hm2
          have HN := Lib.hid hn
          clear hm2 hn
          go_wp2_with fail
          refine (rInt_any _ _ HM2.out).mono ?_
          rintro e w1 ⟨rfl, hb1⟩
          have hn := HN.out
          go_wp2_with fail
          go_ret2
          exact BackNo.of _ hb1

theorem dg_len19 {n : Nat} (h : n ≤ 9223372036854775808) : (dg n).length ≤ 19 := dg_len 18 n (by omega)

set_option maxHeartbeats 4000000 in
/-- No sign: the digits of a number. -/
theorem back_pos (s : ByteArray) (w : World) (n : Nat) (hn : n ≤ 9223372036854775807) (h : bts s = dg n) :
    Calls Try.prog 110 #[.string s] w fun e w' => e = .returned (.tuple #[.int .i64 n, .bool true]) ∧ Below w.heap.size w w' := by
  have hl := dg_len19 (n := n) (by omega)
  have hp := dg_pos n
  have hsz : s.size = (dg n).length := by rw [← h, bts_len]
  have h0 : 0 < s.size := by omega
  have h19 : s.size ≤ 19 := by omega
  have hdig : ∀ k (hk : k < s.size), 48 ≤ (s[k]'hk).toNat ∧ (s[k]'hk).toNat ≤ 57 := by
    intro k hk
    have h1 := dg_all n ((bts s)[k]'(by rw [bts_len]; exact hk)) (by rw [← h]; exact List.getElem_mem _)
    rw [bts_get hk] at h1
    simpa [isDg] using h1
  have h45 : (((s[0]'h0).toNat : Int) == 45) = false := by
    have := hdig 0 h0
    rw [beq_eq_false_iff_ne]; omega
  have hval : val (bts s) = n := by rw [h, val_dg]
  have hmono := fun k (hk : k ≤ s.size) => val_mono (bts s) k s.size hk (by rw [bts_len]; exact Nat.le_refl _)
  have htop : val ((bts s).take s.size) = n := by rw [← hval, ← bts_len, List.take_length]
  simp only [htop] at hmono
  have hfin := enc_eq (s := s) (v := (n : Int)) (by unfold encInt; rw [if_neg (by omega), Int.toNat_natCast, h])
  have HFIN := Lib.hid hfin; clear hfin
  have HM := Lib.hid hmono; clear hmono
  have HD := Lib.hid hdig; clear hdig
  have HT := Lib.hid htop; clear htop
  clear hval h hsz hp hl
  have hn0 : (0 : Int) ≤ n := by omega
  go_enter Try.func110, Try.ntmps110
  go_wp2_with fail
  go_loopw [5, 6] (fun m i wr => ∃ k : Nat, k ≤ s.size ∧ i = .int .i64 k ∧ m = .int .i64 (-(val ((bts s).take k) : Int)) ∧ wr = w) (fun _ i _ => s.size - (intOf i).toNat)
  case atStart => exact ⟨0, by omega, rfl, rfl, rfl⟩
  case round =>
    obtain ⟨k, hk, rfl, rfl, rfl⟩ := hrel
    by_cases hlt : k < s.size
    · obtain ⟨g1, g2⟩ := HD.out k hlt
      have hv := val_at hlt
      have hm := HM.out (k + 1) (by omega)
      rw [hv] at hm
      have HV := Lib.hid hv; clear hv
      obtain ⟨N, hN⟩ : ∃ N, val ((bts s).take k) = N := ⟨_, rfl⟩
      rw [hN] at hm ⊢
      have HN := Lib.hid hN; clear hN
      have hm2 : (N : Int) * 10 + ((s[k]'hlt).toNat - 48) ≤ 9223372036854775807 := by omega
      have hN0 : (N : Int) ≤ 922337203685477580 := by omega
      have hN1 : (0 : Int) ≤ N := by omega
      clear hm
      go_wp2_with fail
      go_roundw
      case rel => exact ⟨k + 1, by omega, by go_num, by rw [HV.out, HN.out]; congr 1; omega, by trivial⟩
      case measure => simp [intOf]; omega
    · have hke : k = s.size := by omega
      subst hke
      rw [HT.out]
      go_wp2_with fail
      refine (rInt_any (n : Int) _ (by unfold isI64; omega)).mono ?_
      rintro e w1 ⟨rfl, hb1⟩
      have hf := HFIN.out
      go_wp2_with fail
      go_ret2
      exact ⟨rfl, hb1⟩

set_option maxHeartbeats 4000000 in
/-- A sign, then the digits of a positive number. -/
theorem back_neg (s : ByteArray) (w : World) (n : Nat) (hn : n ≤ 9223372036854775808) (hpos : 0 < n) (h : bts s = 45 :: dg n) :
    Calls Try.prog 110 #[.string s] w fun e w' => e = .returned (.tuple #[.int .i64 (-(n : Int)), .bool true]) ∧ Below w.heap.size w w' := by
  have hl := dg_len19 (n := n) (by omega)
  have hp := dg_pos n
  have hsz : s.size = (dg n).length + 1 := by rw [← bts_len, h]; rfl
  have h0 : 0 < s.size := by omega
  have h19 : s.size ≤ 20 := by omega
  have hat : ∀ k (hk : k + 1 < s.size), (dg n)[k]'(by omega) = s[k + 1]'hk := by
    intro k hk
    have h1 := bts_get hk
    rw [← h1]
    simp only [h, List.getElem_cons_succ]
  have hdig : ∀ k (hk : k + 1 < s.size), 48 ≤ (s[k + 1]'hk).toNat ∧ (s[k + 1]'hk).toNat ≤ 57 := by
    intro k hk
    have h1 := dg_all n ((dg n)[k]'(by omega)) (List.getElem_mem _)
    rw [hat k hk] at h1
    simpa [isDg] using h1
  have h45 : (((s[0]'h0).toNat : Int) == 45) = true := by
    have h1 := bts_get h0
    rw [← h1]
    simp only [h, List.getElem_cons_zero]
    rfl
  have hstep : ∀ k (hk : k + 1 < s.size), val ((dg n).take (k + 1)) = val ((dg n).take k) * 10 + ((s[k + 1]'hk).toNat - 48) := by
    intro k hk
    rw [val_step (dg n) k (by omega), hat k hk]
  have hmono := fun k (hk : k ≤ (dg n).length) => val_mono (dg n) k (dg n).length hk (Nat.le_refl _)
  have htop : val ((dg n).take (dg n).length) = n := by rw [List.take_length, val_dg]
  simp only [htop] at hmono
  have hfin := enc_eq (s := s) (v := -(n : Int)) (by unfold encInt; rw [if_pos (by omega), h, show (-(n : Int)).natAbs = n by omega]; rfl)
  have HFIN := Lib.hid hfin; clear hfin
  have HM := Lib.hid hmono; clear hmono
  have HD := Lib.hid hdig; clear hdig
  have HT := Lib.hid htop; clear htop
  have HS := Lib.hid hstep; clear hstep
  have HSZ := Lib.hid hsz
  clear h hp hat
  have hn0 : (0 : Int) ≤ n := by omega
  obtain ⟨D, hD⟩ : ∃ D, dg n = D := ⟨_, rfl⟩
  rw [hD] at HM HT HS HSZ hsz hl
  clear hD
  have hsz1 : s.size ≤ D.length + 1 := by omega
  have hsz2 : D.length + 1 ≤ s.size := by omega
  clear hsz
  go_enter Try.func110, Try.ntmps110
  go_wp2_with fail
  go_loopw [5, 6] (fun m i wr => ∃ k : Nat, k ≤ D.length ∧ i = .int .i64 (k + 1 : Nat) ∧ m = .int .i64 (-(val (D.take k) : Int)) ∧ wr = w) (fun _ i _ => s.size - (intOf i).toNat)
  case atStart => exact ⟨0, by omega, rfl, rfl, rfl⟩
  case round =>
    obtain ⟨k, hk, rfl, rfl, rfl⟩ := hrel
    by_cases hlt : k + 1 < s.size
    · obtain ⟨g1, g2⟩ := HD.out k hlt
      have hv := HS.out k hlt
      have hm := HM.out (k + 1) (by omega)
      rw [hv] at hm
      have HV := Lib.hid hv; clear hv
      obtain ⟨N, hN⟩ : ∃ N, val (D.take k) = N := ⟨_, rfl⟩
      rw [hN] at hm ⊢
      have HN := Lib.hid hN; clear hN
      have hm2 : (N : Int) * 10 + ((s[k + 1]'hlt).toNat - 48) ≤ 9223372036854775808 := by omega
      have hN0 : (N : Int) ≤ 922337203685477580 := by omega
      have hN1 : (0 : Int) ≤ N := by omega
      clear hm
      go_wp2_with fail
      go_roundw
      case rel => exact ⟨k + 1, by omega, by go_num, by rw [HV.out, HN.out]; congr 1; omega, by trivial⟩
      case measure => simp [intOf]; omega
    · have hke : k = D.length := by omega
      subst hke
      rw [HT.out]
      go_wp2_with fail
      refine (rInt_any (-(n : Int)) _ (by unfold isI64; omega)).mono ?_
      rintro e w1 ⟨rfl, hb1⟩
      have hf := HFIN.out
      go_wp2_with fail
      go_ret2
      exact ⟨rfl, hb1⟩

end Go.Proofs.Ytgocnjiabfmdpaa.Wire
