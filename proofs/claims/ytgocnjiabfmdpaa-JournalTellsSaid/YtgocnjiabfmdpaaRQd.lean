/- Walks of the reference's reader: number, Num, Int, Text. -/
import Derived.Test.YtgocnjiabfmdpaaRQc
namespace Go.Proofs.Ytgocnjiabfmdpaa.Wire
set_option maxRecDepth 8000
open Go.RowKit

theorem isI64_toNat {n : Int} (h : isI64 n) (_h0 : 0 ≤ n) : n.toNat ≤ 9223372036854775807 := by unfold isI64 at h; omega

theorem body_chars {body : List UInt8} {v : Int} (h : body ++ [59] = encInt v) : ∀ c ∈ body, isDg c = true ∨ c = 45 := by
  unfold encInt at h
  by_cases h0 : v < 0
  · rw [if_pos h0] at h
    have h' : body ++ [59] = (45 :: dg v.natAbs) ++ [59] := h
    have h1 : body = 45 :: dg v.natAbs := List.append_cancel_right h'
    rw [h1]
    intro c hc
    rcases List.mem_cons.1 hc with rfl | hc
    · exact .inr rfl
    · exact .inl (dg_all _ c hc)
  · rw [if_neg h0] at h
    have h1 : body = dg v.toNat := List.append_cancel_right h
    rw [h1]
    intro c hc
    exact .inl (dg_all _ c hc)
theorem body_ne {body : List UInt8} {v : Int} (h : body ++ [59] = encInt v) {e : UInt8} (he : isDg e = false) (h45 : e ≠ 45) : ∀ c ∈ body, c ≠ e := by
  intro c hc hh
  subst hh
  rcases body_chars h c hc with h1 | h1
  · rw [he] at h1; cases h1
  · exact h45 h1

set_option maxHeartbeats 1000000 in
theorem qnumber_some (b : Nat) (s : ByteArray) (f : Bool) (w : World) (h : Rq w b s f) (hs : s.size ≤ 10000000) (e : UInt8) (z : Int) (hz : z = (e.toNat : Int)) (he : isDg e = false) (h45 : e ≠ 45) (v : Nat) (r : List UInt8)
    (hd : digP (Int.toNat 9223372036854775807) e (bts s) = some (v, r)) :
    Calls Try.prog 104 #[.pointer (some ⟨b, 0, none⟩), .int .u8 z] w fun x w' => x = .returned (.int .i64 v) ∧ Rq w' b (ba r) f ∧ Keep b w w' := by
  have hv : v ≤ 9223372036854775807 := (digP_le hd).1
  have hi := digP_inv hd
  have hb : dg v ++ [59] = encInt (v : Int) := by unfold encInt; rw [if_neg (by omega), Int.toNat_natCast]
  have hne := body_ne hb he h45
  have hv' : isI64 (v : Int) := by unfold isI64; omega
  have HC := Lib.hid (fun w' (hq : Rq w' b s f) => ahead_some b s f w' hq hs e z hz (dg v) r v hv' hi hb hne)
  clear hd hi hb hne hv' hz he h45
  have hv0 : (0 : Int) ≤ v := by omega
  go_enter Try.func104, Try.ntmps104
  go_wp2_with fail
  refine (HC.out _ h).mono ?_
  rintro e w1 ⟨rfl, hr1, hk1⟩
  go_wp2_with fail
  go_ret
  exact ⟨rfl, hr1, hk1⟩

set_option maxHeartbeats 1000000 in
theorem qnumber_none (b : Nat) (s : ByteArray) (f : Bool) (w : World) (h : Rq w b s f) (hs : s.size ≤ 10000000) (e : UInt8) (z : Int) (hz : z = (e.toNat : Int)) (he : isDg e = false) (h45 : e ≠ 45)
    (hd : digP (Int.toNat 9223372036854775807) e (bts s) = none) :
    Calls Try.prog 104 #[.pointer (some ⟨b, 0, none⟩), .int .u8 z] w fun x w' => x = .returned (.int .i64 0) ∧ Rq w' b (ba []) true ∧ Keep b w w' := by
  by_cases hex : ∃ body r v, isI64 v ∧ bts s = body ++ e :: r ∧ body ++ [59] = encInt v
  · obtain ⟨body, r, v, hv, hsp, hb⟩ := hex
    have hneg : v < 0 := by
      rcases Int.lt_or_le v 0 with h0 | h0
      · exact h0
      · exfalso
        have h1 : body = dg v.toNat := by
          unfold encInt at hb
          rw [if_neg (by omega)] at hb
          exact List.append_cancel_right hb
        have h2 := digP_dg (most := Int.toNat 9223372036854775807) he (isI64_toNat hv h0) r
        rw [hsp, h1, h2] at hd
        cases hd
    have hne := body_ne hb he h45
    have HC := Lib.hid (fun w' (hq : Rq w' b s f) => ahead_some b s f w' hq hs e z hz body r v hv hsp hb hne)
    clear hd hb hne hv hz he h45 hsp
    go_enter Try.func104, Try.ntmps104
    go_wp2_with fail
    refine (HC.out _ h).mono ?_
    rintro e w1 ⟨rfl, hr1, hk1⟩
    go_wp2_with fail
    refine (qfail_any b _ _ _ hr1).mono ?_
    rintro e w2 ⟨rfl, hr2, hk2⟩
    go_wp2_with fail
    go_ret
    exact ⟨rfl, hr2, hk1.trans hk2⟩
  · have HC := Lib.hid (fun w' (hq : Rq w' b s f) => ahead_none b s f w' hq hs e z hz (fun body r v hv hsp hb => hex ⟨body, r, v, hv, hsp, hb⟩))
    clear hd hz he h45 hex
    go_enter Try.func104, Try.ntmps104
    go_wp2_with fail
    refine (HC.out _ h).mono ?_
    rintro e w1 ⟨rfl, hr1, hk1⟩
    go_wp2_with fail
    go_ret
    exact ⟨rfl, hr1, hk1⟩

set_option maxHeartbeats 400000 in
theorem qnum_some (b : Nat) (s : ByteArray) (f : Bool) (w : World) (h : Rq w b s f) (hs : s.size ≤ 10000000) (v : Nat) (r : List UInt8) (hd : numP (bts s) = some (v, r)) :
    Calls Try.prog 94 #[.pointer (some ⟨b, 0, none⟩)] w fun x w' => x = .returned (.int .i64 v) ∧ Rq w' b (ba r) f ∧ Keep b w w' := by
  have HD := Lib.hid hd; clear hd
  go_enter Try.func94, Try.ntmps94
  go_wp2_with fail
  refine (qnumber_some b s f _ h hs 59 59 rfl notDg59 (by decide) v r HD.out).mono ?_
  rintro e w1 ⟨rfl, hr1, hk1⟩
  go_wp2_with fail
  go_ret
  exact ⟨rfl, hr1, hk1⟩

set_option maxHeartbeats 400000 in
theorem qnum_none (b : Nat) (s : ByteArray) (f : Bool) (w : World) (h : Rq w b s f) (hs : s.size ≤ 10000000) (hd : numP (bts s) = none) :
    Calls Try.prog 94 #[.pointer (some ⟨b, 0, none⟩)] w fun x w' => x = .returned (.int .i64 0) ∧ Rq w' b (ba []) true ∧ Keep b w w' := by
  have HD := Lib.hid hd; clear hd
  go_enter Try.func94, Try.ntmps94
  go_wp2_with fail
  refine (qnumber_none b s f _ h hs 59 59 rfl notDg59 (by decide) HD.out).mono ?_
  rintro e w1 ⟨rfl, hr1, hk1⟩
  go_wp2_with fail
  go_ret
  exact ⟨rfl, hr1, hk1⟩

theorem encInt_split (v : Int) : ∃ body, body ++ [59] = encInt v := by
  unfold encInt
  by_cases h0 : v < 0
  · rw [if_pos h0]; exact ⟨45 :: dg v.natAbs, rfl⟩
  · rw [if_neg h0]; exact ⟨_, rfl⟩

set_option maxHeartbeats 1000000 in
theorem qtext_some (b : Nat) (s : ByteArray) (w : World) (h : Rq w b s false) (hs : s.size ≤ 10000000) (v : List UInt8) (r : List UInt8) (hd : textP (bts s) = some (v, r)) :
    Calls Try.prog 93 #[.pointer (some ⟨b, 0, none⟩)] w fun x w' => x = .returned (.string (ba v)) ∧ Rq w' b (ba r) false ∧ Keep b w w' := by
  unfold textP at hd
  cases hn : lenP (bts s) with
  | none => rw [hn] at hd; cases hd
  | some x =>
    obtain ⟨n, t⟩ := x
    rw [hn] at hd
    simp only at hd
    split at hd
    · rename_i ht
      simp only [Option.some.injEq, Prod.mk.injEq] at hd
      obtain ⟨rfl, rfl⟩ := hd
      have hnt : n < t.length := by
        rcases Nat.lt_or_ge n t.length with h | h
        · exact h
        · rw [List.getElem?_eq_none h] at ht; cases ht
      have hle := (digP_le hn).2
      rw [bts_len] at hle
      have HN := Lib.hid hn; clear hn
      obtain ⟨T, hT⟩ : ∃ T, ba t = T := ⟨_, rfl⟩
      have ht' : t = bts T := by rw [← hT]; rfl
      subst ht'
      rw [bts_len] at hnt hle
      have e1 : T.extract 0 n = ba ((bts T).take n) := extract_take T n
      have E1 := Lib.hid e1; clear e1
      have hz0 : (bts (T.extract n T.size))[0]? = some 44 := by
        rw [extract_drop, bts_ba, List.getElem?_drop]; exact ht
      have HZ0 := Lib.hid hz0
      have e2 : ba ((bts (T.extract n T.size)).drop 1) = ba ((bts T).drop (n + 1)) := by
        rw [extract_drop, bts_ba, List.drop_drop]
      have E2 := Lib.hid e2; clear e2
      clear ht hT hz0
      go_enter Try.func93, Try.ntmps93
      go_wp2_with fail
      refine (qnumber_some b s false _ h hs 58 58 rfl notDg58 (by decide) n (bts T) HN.out).mono ?_
      rintro e w1 ⟨rfl, hr1, hk1⟩
      rw [ba_bts] at hr1
      have c0 := hr1.cell0
      have c1 := hr1.cell1
      have f0 := hr1.free 0
      have hr1' := hr1.set0 (T.extract n T.size)
      have HR1 := Lib.hid hr1'
      clear hr1'
      go_wp2_with fail
      refine (qclose_yes b _ _ _ HR1.out 44 44 rfl HZ0.out).mono ?_
      rintro e w2 ⟨rfl, hr2, hk2⟩
      go_wp2_with fail
      go_ret
      exact ⟨by rw [← E1.out]; rfl, by rw [← E2.out]; exact hr2, (hk1.set 0 _).trans hk2⟩
    · cases hd

set_option maxHeartbeats 1000000 in
theorem qtext_none (b : Nat) (s : ByteArray) (f : Bool) (w : World) (h : Rq w b s f) (hf : f = true → s.size = 0) (hs : s.size ≤ 10000000) (hd : textP (bts s) = none) :
    Calls Try.prog 93 #[.pointer (some ⟨b, 0, none⟩)] w fun x w' => x = .returned (.string (ba [])) ∧ Rq w' b (ba []) true ∧ Keep b w w' := by
  unfold textP at hd
  cases hn : lenP (bts s) with
  | none =>
    have HN := Lib.hid hn; clear hn hd
    clear hf
    go_enter Try.func93, Try.ntmps93
    go_wp2_with fail
    refine (qnumber_none b s f _ h hs 58 58 rfl notDg58 (by decide) HN.out).mono ?_
    rintro e w1 ⟨rfl, hr1, hk1⟩
    have c0 := hr1.cell0
    have c1 := hr1.cell1
    go_wp2_with fail
    refine (qfail_any b _ _ _ hr1).mono ?_
    rintro e w2 ⟨rfl, hr2, hk2⟩
    go_wp2_with fail
    go_ret
    exact ⟨rfl, hr2, hk1.trans hk2⟩
  | some x =>
    obtain ⟨n, t⟩ := x
    rw [hn] at hd
    simp only at hd
    have hle := (digP_le hn).2
    rw [bts_len] at hle
    have hf' : f = false := by
      cases f with
      | false => rfl
      | true => have := hf rfl; omega
    subst hf'
    clear hf
    split at hd
    · cases hd
    · rename_i ht
      have hn2 : n ≤ 9223372036854775807 := (digP_le hn).1
      have HN := Lib.hid hn; clear hn
      obtain ⟨T, hT⟩ : ∃ T, ba t = T := ⟨_, rfl⟩
      have ht' : t = bts T := by rw [← hT]; rfl
      subst ht'
      rw [bts_len] at hle
      clear hT
      rcases Nat.lt_or_ge n T.size with hnt | hnt
      · have hz0 : ¬ (bts (T.extract n T.size))[0]? = some 44 := by
          rw [extract_drop, bts_ba, List.getElem?_drop]; exact ht
        have HZ0 := Lib.hid hz0
        clear ht hz0
        go_enter Try.func93, Try.ntmps93
        go_wp2_with fail
        refine (qnumber_some b s false _ h hs 58 58 rfl notDg58 (by decide) n (bts T) HN.out).mono ?_
        rintro e w1 ⟨rfl, hr1, hk1⟩
        rw [ba_bts] at hr1
        have c0 := hr1.cell0
        have c1 := hr1.cell1
        have f0 := hr1.free 0
        have hr1' := hr1.set0 (T.extract n T.size)
        have HR1 := Lib.hid hr1'
        clear hr1'
        go_wp2_with fail
        refine (qclose_no b _ _ _ HR1.out 44 44 rfl HZ0.out).mono ?_
        rintro e w2 ⟨rfl, hr2, hk2⟩
        go_wp2_with fail
        go_ret
        exact ⟨rfl, hr2, (hk1.set 0 _).trans hk2⟩
      · clear ht
        go_enter Try.func93, Try.ntmps93
        go_wp2_with fail
        refine (qnumber_some b s false _ h hs 58 58 rfl notDg58 (by decide) n (bts T) HN.out).mono ?_
        rintro e w1 ⟨rfl, hr1, hk1⟩
        rw [ba_bts] at hr1
        have c0 := hr1.cell0
        have c1 := hr1.cell1
        go_wp2_with fail
        refine (qfail_any b _ _ _ hr1).mono ?_
        rintro e w2 ⟨rfl, hr2, hk2⟩
        go_wp2_with fail
        go_ret
        exact ⟨rfl, hr2, hk1.trans hk2⟩

end Go.Proofs.Ytgocnjiabfmdpaa.Wire
