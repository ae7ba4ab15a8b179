/- Walks of the reference's reader: ahead, number. -/
import Derived.Test.YtgocnjiabfmdpaaRQb
namespace Go.Proofs.Ytgocnjiabfmdpaa.Wire
set_option maxRecDepth 8000
open Go.RowKit

theorem back_ok (s : ByteArray) (w : World) (v : Int) (hv : isI64 v) (h : bts s ++ [59] = encInt v) :
    Calls Try.prog 110 #[.string s] w fun e w' => e = .returned (.tuple #[.int .i64 v, .bool true]) ∧ Below w.heap.size w w' := by
  unfold isI64 at hv
  unfold encInt at h
  by_cases h0 : v < 0
  · rw [if_pos h0] at h
    have h' : bts s ++ [59] = (45 :: dg v.natAbs) ++ [59] := h
    have h1 : bts s = 45 :: dg v.natAbs := List.append_cancel_right h'
    have := back_neg s w v.natAbs (by omega) (by omega) h1
    rw [show (-(v.natAbs : Int)) = v by omega] at this
    exact this
  · rw [if_neg h0] at h
    have h1 : bts s = dg v.toNat := List.append_cancel_right h
    have := back_pos s w v.toNat (by omega) h1
    rw [show ((v.toNat : Nat) : Int) = v by omega] at this
    exact this

theorem body_len {body : List UInt8} {v : Int} (hv : isI64 v) (h : body ++ [59] = encInt v) : body.length ≤ 20 := by
  unfold isI64 at hv
  have h1 := congrArg List.length h
  have h2 := dg_len19 (n := v.natAbs) (by omega)
  have h3 := dg_len19 (n := v.toNat) (by omega)
  unfold encInt at h1
  split at h1
  · simp only [List.length_append, List.length_cons, List.length_nil] at h1; omega
  · simp only [List.length_append, List.length_cons, List.length_nil] at h1; omega

set_option maxHeartbeats 4000000 in
theorem ahead_some (b : Nat) (s : ByteArray) (f : Bool) (w : World) (h : Rq w b s f) (_hs : s.size ≤ 10000000) (e : UInt8) (z : Int) (hz : z = (e.toNat : Int)) (body r : List UInt8) (v : Int) (hv : isI64 v)
    (hsp : bts s = body ++ e :: r) (hb : body ++ [59] = encInt v) (hne : ∀ c ∈ body, c ≠ e) :
    Calls Try.prog 109 #[.pointer (some ⟨b, 0, none⟩), .int .u8 z] w fun x w' => x = .returned (.int .i64 v) ∧ Rq w' b (ba r) f ∧ Keep b w w' := by
  have hbl := body_len hv hb
  have hsz : s.size = body.length + 1 + r.length := by rw [← bts_len, hsp]; simp; omega
  have hlt : body.length < s.size := by omega
  have hat : ∀ k (hk : k < s.size), k < body.length → (((s[k]'hk).toNat : Int) != z) = true := by
    intro k hk hkb
    have h1 := bt_get hk
    rw [hsp, List.getElem?_append_left hkb, List.getElem?_eq_getElem hkb] at h1
    have h2 := hne (body[k]) (List.getElem_mem hkb)
    rw [Option.some.inj h1] at h2
    rw [bne_iff_ne, hz]
    intro hh
    apply h2
    apply UInt8.toNat_inj.1
    omega
  have hend : ∀ k (hk : k < s.size), k = body.length → (((s[k]'hk).toNat : Int) != z) = false := by
    rintro k hk rfl
    have h1 := bt_get hk
    rw [hsp, List.getElem?_append_right (Nat.le_refl _)] at h1
    simp only [Nat.sub_self, List.getElem?_cons_zero, Option.some.injEq] at h1
    rw [← h1, hz]; simp
  have hbk : bts (s.extract 0 body.length) ++ [59] = encInt v := by
    rw [extract_take, bts_ba, hsp, List.take_left]; exact hb
  have hrest : s.extract (body.length + 1) s.size = ba r := by
    rw [extract_drop, hsp]
    congr 1
    rw [List.drop_append]; simp
  obtain ⟨c, hc⟩ : ∃ c, body.length = c := ⟨_, rfl⟩
  have c0 := h.cell0
  have f0 := h.free 0
  have HSET := Lib.hid (h.set0 (s.extract (c + 1) s.size))
  simp only [hc] at hbl hlt hat hend hbk hrest
  have HAT := Lib.hid hat; clear hat
  have hend := hend c hlt rfl
  have HBK := Lib.hid hbk; clear hbk
  have HREST := Lib.hid hrest; clear hrest
  have HV := Lib.hid hv; clear hv
  clear hsp hb hne hz hsz hc
  go_enter Try.func109, Try.ntmps109
  go_wp2_with fail
  go_loopw [5] (fun i wr => ∃ k : Nat, k ≤ c ∧ i = .int .i64 k ∧ wr = w) (fun i _ => s.size - (intOf i).toNat)
  case atStart => exact ⟨0, by omega, rfl, rfl⟩
  case round =>
    obtain ⟨k, hk, rfl, rfl⟩ := hrel
    by_cases hkc : k < c
    · have hks : k < s.size := by omega
      have b0 := HAT.out k hks hkc
      go_wp2_with fail
      go_roundw
      case rel => exact ⟨k + 1, by omega, by go_num, by trivial⟩
      case measure => simp [intOf]; omega
    · obtain rfl : k = c := by omega
      go_wp2_with fail
      refine (back_ok (s.extract 0 k) _ v HV.out HBK.out).mono ?_
      rintro e w1 ⟨rfl, hb1⟩
      have hr1 := Below.rq hb1 h
      have c1 := hr1.cell0
      have f1 := hr1.free 0
      have HS1 := Lib.hid (hr1.set0 (s.extract (k + 1) s.size))
      have HK1 := Lib.hid ((Below.keep (b := b) hb1).set 0 (.string (s.extract (k + 1) s.size)))
      clear hb1
      go_wp2_with fail
      go_ret
      exact ⟨rfl, by rw [← HREST.out]; exact HS1.out, HK1.out⟩

set_option maxHeartbeats 4000000 in
theorem ahead_none (b : Nat) (s : ByteArray) (f : Bool) (w : World) (h : Rq w b s f) (hs : s.size ≤ 10000000) (e : UInt8) (z : Int) (hz : z = (e.toNat : Int))
    (hno : ∀ body r v, isI64 v → bts s = body ++ e :: r → body ++ [59] ≠ encInt v) :
    Calls Try.prog 109 #[.pointer (some ⟨b, 0, none⟩), .int .u8 z] w fun x w' => x = .returned (.int .i64 0) ∧ Rq w' b (ba []) true ∧ Keep b w w' := by
  have hbk : ∀ k (hk : k < s.size), (((s[k]'hk).toNat : Int) != z) = false → ∀ v, isI64 v → encInt v ≠ bts (s.extract 0 k) ++ [59] := by
    intro k hk hh v hv he
    refine hno ((bts s).take k) ((bts s).drop (k + 1)) v hv ?_ ?_
    · have h1 : (bts s)[k]'(by rw [bts_len]; exact hk) = e := by
        rw [bts_get hk]
        apply UInt8.toNat_inj.1
        rw [bne_eq_false_iff_eq] at hh
        omega
      conv => lhs; rw [← List.take_append_drop k (bts s)]
      rw [List.drop_eq_getElem_cons (by rw [bts_len]; exact hk), h1]
    · rw [he, extract_take, bts_ba]
  have HBK := Lib.hid hbk
  clear hbk hno hz
  have c0 := h.cell0
  have f0 := h.free 0
  go_enter Try.func109, Try.ntmps109
  go_wp2_with fail
  go_loopw [5] (fun i wr => ∃ k : Nat, k ≤ s.size ∧ k ≤ 21 ∧ i = .int .i64 k ∧ wr = w) (fun i _ => s.size - (intOf i).toNat)
  case atStart => exact ⟨0, by omega, by omega, rfl, rfl⟩
  case round =>
    obtain ⟨k, hk, hk21, rfl, rfl⟩ := hrel
    by_cases hks : k < s.size
    · have b0 : (((s[k]'hks).toNat : Int) != z) = true ∨ (((s[k]'hks).toNat : Int) != z) = false := by cases (((s[k]'hks).toNat : Int) != z) <;> simp
      by_cases hk2 : k < 21
      · rcases b0 with b0 | b0
        · go_wp2_with fail
          go_roundw
          case rel => exact ⟨k + 1, by omega, by omega, by go_num, by trivial⟩
          case measure => simp [intOf]; omega
        · have HB := Lib.hid (HBK.out k hks b0)
          go_wp2_with fail
          refine (back_no (s.extract 0 k) _ (by rw [ByteArray.size_extract]; omega) HB.out).mono ?_
          rintro e w1 ⟨⟨v, rfl⟩, hb1⟩
          have hr1 := Below.rq hb1 h
          have HB1 := Lib.hid hb1
          clear hb1
          go_wp2_with fail
          refine (qfail_any b s f _ hr1).mono ?_
          rintro e w2 ⟨rfl, hr2, hk2⟩
          go_wp2_with fail
          go_ret
          exact ⟨rfl, hr2, (Below.keep HB1.out).trans hk2⟩
      · rcases b0 with b0 | b0
        · go_wp2_with fail
          refine (qfail_any b s f _ h).mono ?_
          rintro e w2 ⟨rfl, hr2, hk2⟩
          go_wp2_with fail
          go_ret
          exact ⟨rfl, hr2, hk2⟩
        · have HB := Lib.hid (HBK.out k hks b0)
          go_wp2_with fail
          refine (back_no (s.extract 0 k) _ (by rw [ByteArray.size_extract]; omega) HB.out).mono ?_
          rintro e w1 ⟨⟨v, rfl⟩, hb1⟩
          have hr1 := Below.rq hb1 h
          have HB1 := Lib.hid hb1
          clear hb1
          go_wp2_with fail
          refine (qfail_any b s f _ hr1).mono ?_
          rintro e w2 ⟨rfl, hr2, hk2⟩
          go_wp2_with fail
          go_ret
          exact ⟨rfl, hr2, (Below.keep HB1.out).trans hk2⟩
    · go_wp2_with fail
      refine (qfail_any b s f _ h).mono ?_
      rintro e w2 ⟨rfl, hr2, hk2⟩
      go_wp2_with fail
      go_ret
      exact ⟨rfl, hr2, hk2⟩

end Go.Proofs.Ytgocnjiabfmdpaa.Wire
