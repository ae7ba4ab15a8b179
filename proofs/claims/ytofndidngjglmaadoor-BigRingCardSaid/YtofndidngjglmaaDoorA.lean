/- Walks: trim, carried. -/
import Derived.Test.YtofndidngjglmaaDoorM
namespace Go.Proofs.YtofndidngjglmaaDoor
open Go.RowKit

theorem trim_any (l : List Int) (v : Value) (w : World) (B : Nat) (h : OwnI w B v l) (hd : Dig l) (hl : l.length ≤ 1000000) :
    Calls Tryd.prog 48 #[v] w fun e w' => ∃ v', e = .returned v' ∧ OwnI w' B v' (D (nv l)) ∧ w = w' := by
  obtain ⟨A, c, rfl, hnc, _, hI⟩ := h.at_
  obtain ⟨n, hn⟩ : ∃ n, l.length = n := ⟨_, rfl⟩
  have hnn : l.length ≤ n ∧ n ≤ l.length := by omega
  rw [hn] at h hl hnc ⊢
  have HN := Lib.hid hn; clear hn
  go_enter Tryd.func48, Tryd.ntmps48
  go_wp2_with fail
  go_loop [3] (fun k => ∃ m : Nat, m ≤ n ∧ k = .int .i64 m ∧ Hid (nv (l.take m) = nv l)) (fun k => (intOf k).toNat)
  case atStart => exact ⟨n, Nat.le_refl _, rfl, Lib.hid (nv_take_all l (by omega))⟩
  case round =>
    obtain ⟨m, hm, rfl, hv⟩ := hrel
    by_cases h0 : 0 < m
    · obtain ⟨b, off, hA, _, hc⟩ := hI (m - 1) (by omega)
      subst hA
      obtain ⟨d, hd⟩ : ∃ d, l.getD (m - 1) 0 = d := ⟨_, rfl⟩
      rw [hd] at hc
      have HD := Lib.hid hd; clear hd
      by_cases hz : d = 0
      · subst hz
        go_wp2_with fail
        go_round
        case rel => exact ⟨m - 1, by omega, by congr 1; omega, Lib.hid (by
          have h1 := hv.out
          obtain ⟨j, rfl⟩ : ∃ j, m = j + 1 := ⟨m - 1, by omega⟩
          rw [nv_take_succ (by omega)] at h1
          have h2 := HD.out
          rw [Nat.add_sub_cancel] at h2 ⊢
          rw [h2, Int.mul_zero, Int.add_zero] at h1
          exact h1)⟩
        case measure => simp [intOf]; omega
      · have hz' : (d == 0) = false := by simpa using hz
        go_wp2_with fail
        go_ret
        refine ⟨_, rfl, ?_, rfl⟩
        rw [← D_take hd (k := m) (by omega) hv.out (fun _ => by rw [HD.out]; exact hz)]
        exact h.cut HN.out hm
    · have : m = 0 := by omega
      subst this
      go_wp2_with fail
      go_ret
      refine ⟨_, rfl, ?_, rfl⟩
      rw [← D_take hd (k := 0) (by omega) hv.out (fun h => by cases h)]
      exact h.cut HN.out hm

theorem carried_any (l : List Int) (c : Int) (v : Value) (w : World) (B : Nat) (h : OwnI w B v l) (hd : Dig l) (hB : B ≤ w.heap.size) (h0 : 0 ≤ c) (h1 : c < 9223372036854775807) (hZ : nv l + pw l.length * c < pw 1000) (hl : l.length ≤ 1000) :
    Calls Tryd.prog 51 #[v, .int .i64 c] w fun e w' => ∃ v', e = .returned v' ∧ OwnI w' B v' (D (nv l + pw l.length * c)) ∧ Below B w w' := by
  have HZ := Lib.hid hZ; clear hZ
  go_enter Tryd.func51, Tryd.ntmps51
  go_wp2_with fail
  go_loopw [0, 1] (fun d k wr => ∃ (l' : List Int) (c' : Int), k = .int .i64 c' ∧ 0 ≤ c' ∧ c' < 9223372036854775807 ∧ OwnI wr B d l' ∧ Dig l' ∧ Below B w wr ∧ l'.length ≤ 1000 ∧ Hid (nv l' + pw l'.length * c' = nv l + pw l.length * c)) (fun _ k _ => (intOf k).toNat)
  case atStart => exact ⟨l, c, rfl, h0, h1, h, hd, Below.refl _ _, hl, Lib.hid rfl⟩
  case round =>
    obtain ⟨l', c', rfl, hc0, hc1, hown, hdig, hb, hl', hv⟩ := hrel
    have hs := hb.size
    by_cases hp : 0 < c'
    · have hl2 : l'.length < 1000 := by
        have e1 := hv.out
        have e2 := HZ.out
        rw [← e1] at e2
        have e3 := hdig.nv_nonneg
        have e4 : pw l'.length * 1 ≤ pw l'.length * c' := Int.mul_le_mul_of_nonneg_left (by omega) (by have := pw_pos l'.length; omega)
        rcases Nat.lt_or_ge l'.length 1000 with h | h
        · exact h
        · have := pw_le h
          omega
      go_wp2_with (first
        | (at_builtin; refine appI rfl (.tmp 9) (.tmp 12) rfl B _ l' (bits BinOp.and IntKind.i64 c' 1048575) rfl hown rfl (by omega) (by omega) ?_; intro v1 w1 hown1 hb1))
      rw [and_low] at hown1
      go_roundw
      case rel => exact ⟨_, _, rfl, by omega, by omega, hown1, hdig.snoc (by omega) (by omega), hb.trans hb1, by simp; omega, Lib.hid (by
        rw [← hv.out, nv_snoc, List.length_append, List.length_singleton, pw_succ, Int.mul_comm 1048576, Int.mul_assoc, Int.add_assoc, ← Int.mul_add]
        congr 2; omega)⟩
      case measure => simp [intOf]; omega
    · have : c' = 0 := by omega
      subst this
      go_wp2_with fail
      refine (trim_any l' _ _ B hown hdig (by omega)).mono ?_
      rintro e w1 ⟨v1, rfl, hown1, rfl⟩
      go_wp2_with fail
      go_ret
      exact ⟨_, rfl, by rw [← hv.out, Int.mul_zero, Int.add_zero]; exact hown1, hb⟩

end Go.Proofs.YtofndidngjglmaaDoor
