/- Walks of the reference's reader: lists. -/
import Derived.Test.YtamjfnpgjcdepaaQd
namespace Go.Proofs.Ytamjfnpgjcdepaa
open Go.RowKit

theorem Below.rqB {B b : Nat} {w w' : World} {s : ByteArray} {f : Bool} (h : Below B w w') (hb : b < B) (hr : Rq w b s f) : Rq w' b s f := by
  unfold Rq at hr ⊢
  rw [h.block b hb]; exact hr

/-- What the reference leaves where it reads a list of ints. -/
def PostIq (w : World) (b : Nat) (s : ByteArray) (x : Ending) (w' : World) : Prop :=
  match listP intP (bts s) with
  | some (xs, t) => ∃ v, x = .returned v ∧ OwnI w' w.heap.size v xs ∧ Rq w' b (ba t) false ∧ Keep b w w'
  | none => x = .returned (.slice none 0 0) ∧ Rq w' b (ba []) true ∧ Keep b w w'

/-- The state at the head of the reference's loop: all is well, or a value was not there. -/
def QI (b n : Nat) (r : List UInt8) (B : Nat) (k : Nat) (v : Value) (wr : World) : Prop :=
  (∃ ys t, repP intP k r = some (ys, t) ∧ OwnI wr B v ys ∧ Rq wr b (ba t) false) ∨ (repP intP n r = none ∧ Rq wr b (ba []) true)

set_option maxHeartbeats 4000000 in
theorem qnums_any (b : Nat) (s : ByteArray) (f : Bool) (w : World) (h : Rq w b s f) (hf : f = true → s.size = 0) (hs : s.size ≤ 10000000) :
    Calls Try.prog 32 #[.pointer (some ⟨b, 0, none⟩)] w (PostIq w b s) := by
  have hblt := h.lt
  cases hn : cntP (bts s) with
  | none =>
    have hp : listP intP (bts s) = none := by unfold listP; rw [hn]
    have hpost : ∀ x w', x = .returned (.slice none 0 0) → Rq w' b (ba []) true → Keep b w w' → PostIq w b s x w' := by
      intro x w' h1 h2 h3; unfold PostIq; rw [hp]; exact ⟨h1, h2, h3⟩
    have HP := Lib.hid hpost; clear hpost hp
    have HN := Lib.hid hn; clear hn
    clear hf
    go_enter Try.func32, Try.ntmps32
    go_wp2_with fail
    refine (qnumber_none b s f _ h hs 91 91 rfl notDg91 (by decide) HN.out).mono ?_
    rintro e w1 ⟨rfl, hr1, hk1⟩
    have c1 := hr1.cell0
    have c2 := hr1.cell1
    go_wp2_with fail
    go_loopw [4, 5] (fun v i wr => v = .slice none 0 0 ∧ i = .int .i64 0 ∧ wr = w1) (fun _ _ _ => 0)
    case atStart => exact ⟨rfl, rfl, rfl⟩
    case round =>
      obtain ⟨rfl, rfl, rfl⟩ := hrel
      go_wp2_with fail
      go_ret
      exact HP.out _ _ rfl hr1 hk1
  | some x =>
    obtain ⟨n, r⟩ := x
    have hf' : f = false := by
      cases f with
      | false => rfl
      | true =>
        have := hf rfl
        have he : bts s = [] := List.eq_nil_of_length_eq_zero (by rw [bts_len]; exact this)
        rw [he, cntP_nil] at hn; cases hn
    subst hf'
    clear hf
    have hnm : n ≤ 9223372036854775807 := (digP_le hn).1
    have hrl := (digP_le hn).2
    rw [bts_len] at hrl
    have hp : listP intP (bts s) = match repP intP n r with
      | none => none
      | some (xs, t) => if t[0]? = some 93 then some (xs, t.drop 1) else none := by simp only [listP, hn]; rcases repP intP n r with _ | ⟨xs, t⟩ <;> rfl
    have hnone : (∀ xs t, repP intP n r = some (xs, t) → ¬ t[0]? = some 93) → ∀ x w', x = .returned (.slice none 0 0) → Rq w' b (ba []) true → Keep b w w' → PostIq w b s x w' := by
      intro h0 x w' h1 h2 h3
      unfold PostIq; rw [hp]
      cases hh : repP intP n r with
      | none => exact ⟨h1, h2, h3⟩
      | some y =>
        obtain ⟨xs, t⟩ := y
        simp only [if_neg (h0 xs t hh)]
        exact ⟨h1, h2, h3⟩
    have hsome : ∀ xs t, repP intP n r = some (xs, t) → t[0]? = some 93 → ∀ x w' v, x = .returned v → OwnI w' w.heap.size v xs → Rq w' b (ba (t.drop 1)) false → Keep b w w' → PostIq w b s x w' := by
      intro xs t hh h93 x w' v h1 h2 h3 h4
      unfold PostIq; rw [hp, hh]
      simp only [if_pos h93]
      exact ⟨v, h1, h2, h3, h4⟩
    have HNONE := Lib.hid hnone; clear hnone
    have HSOME := Lib.hid hsome; clear hsome
    clear hp
    have HN := Lib.hid hn; clear hn
    go_enter Try.func32, Try.ntmps32
    go_wp2_with fail
    refine (qnumber_some b s false _ h hs 91 91 rfl notDg91 (by decide) n r HN.out).mono ?_
    rintro e w1 ⟨rfl, hr1, hk1⟩
    go_wp2_with fail
    go_loopw [4, 5] (fun v i wr => ∃ k : Nat, k ≤ n ∧ i = .int .i64 k ∧ QI b n r w.heap.size k v wr ∧ Keep b w wr) (fun _ i _ => n - (intOf i).toNat)
    case atStart => exact ⟨0, Nat.zero_le _, rfl, .inl ⟨[], r, rfl, OwnI.nil _ _, hr1⟩, hk1⟩
    case round =>
      obtain ⟨k, hk, rfl, hq, hkr⟩ := hrel
      have hsz := hkr.size
      rcases hq with ⟨ys, t, hrep, hown, hrr⟩ | ⟨hrn, hrr⟩
      · obtain ⟨hl1, hl2⟩ := repP_len intP (fun _ _ _ h => intP_len h) k r ys t hrep
        have hbs : (ba t).size ≤ 10000000 := by rw [ba_size]; omega
        obtain ⟨T, hT⟩ : ∃ T, ba t = T := ⟨_, rfl⟩
        have hTt : t = bts T := by rw [← hT]; rfl
        subst hTt
        clear hT
        rw [ba_bts] at hrr hbs
        have c1 := hrr.cell1
        by_cases hkn : k < n
        · cases hi : intP (bts T) with
          | none =>
            have hrn : repP intP n r = none := by
              cases hh : repP intP n r with
              | none => rfl
              | some y =>
                exfalso
                have h1 := repP_mono intP (n := n) (l := r) (by rw [hh]; rfl) (k + 1) (by omega)
                rw [repP_succ, hrep] at h1
                simp only [hi] at h1
                cases h1
            have HRN := Lib.hid hrn; clear hrn
            have HI := Lib.hid hi; clear hi
            have HREP := Lib.hid hrep; clear hrep
            go_wp2_with fail
            refine (qint_none b T false _ hrr (by omega) HI.out).mono ?_
            rintro e w2 ⟨rfl, hr2, hk2⟩
            have hs2 := hk2.size
            have hown2 := hown.keep hk2 hblt
            clear c1
            go_wp2_with (first
              | (at_builtin; refine app1i rfl (.tmp 20) (.tmp 23) rfl w.heap.size _ _ 0 rfl hown2 rfl (by omega) (by omega) ?_; intro v3 w3 hown3 hb3))
            go_roundw
            case rel => exact ⟨k + 1, by omega, by go_num, .inr ⟨HRN.out, Below.rqB hb3 hblt hr2⟩, Below.keepB (hkr.trans hk2) hb3⟩
            case measure => simp [intOf]; omega
          | some x =>
            obtain ⟨z, r'⟩ := x
            have hz := intP_i64 hi
            have hrep' : repP intP (k + 1) r = some (ys ++ [z], r') := by
              rw [repP_succ, hrep]; simp only [hi]
            have HI := Lib.hid hi; clear hi
            have HREP := Lib.hid hrep'; clear hrep hrep'
            go_wp2_with fail
            refine (qint_some b T false _ hrr (by omega) z r' HI.out).mono ?_
            rintro e w2 ⟨rfl, hr2, hk2⟩
            have hs2 := hk2.size
            have hown2 := hown.keep hk2 hblt
            clear c1
            go_wp2_with (first
              | (at_builtin; refine app1i rfl (.tmp 20) (.tmp 23) rfl w.heap.size _ _ z rfl hown2 rfl (by omega) (by omega) ?_; intro v3 w3 hown3 hb3))
            go_roundw
            case rel => exact ⟨k + 1, by omega, by go_num, .inl ⟨_, _, HREP.out, hown3, Below.rqB hb3 hblt hr2⟩, Below.keepB (hkr.trans hk2) hb3⟩
            case measure => simp [intOf]; omega
        · obtain rfl : k = n := by omega
          by_cases h93 : (bts T)[0]? = some 93
          · have HS := Lib.hid (HSOME.out ys (bts T) hrep h93)
            have H93 := Lib.hid h93
            have HREP := Lib.hid hrep; clear hrep h93
            go_wp2_with fail
            refine (qclose_yes b T false _ hrr 93 93 rfl H93.out).mono ?_
            rintro e w2 ⟨rfl, hr2, hk2⟩
            have hown2 := hown.keep hk2 hblt
            go_wp2_with fail
            go_ret
            exact HS.out _ _ _ rfl hown2 hr2 (hkr.trans hk2)
          · have HN' := Lib.hid (HNONE.out (by
              intro xs t' hh
              rw [hrep] at hh
              simp only [Option.some.injEq, Prod.mk.injEq] at hh
              rw [← hh.2]; exact h93))
            have H93 := Lib.hid h93
            have HREP := Lib.hid hrep; clear hrep h93
            go_wp2_with fail
            refine (qclose_no b T false _ hrr 93 93 rfl H93.out).mono ?_
            rintro e w2 ⟨rfl, hr2, hk2⟩
            go_wp2_with fail
            go_ret
            exact HN'.out _ _ rfl hr2 (hkr.trans hk2)
      · have HN' := Lib.hid (HNONE.out (by intro xs t' hh; rw [hrn] at hh; cases hh))
        have c1 := hrr.cell1
        clear hrn
        by_cases hkn : k < n
        · go_wp2_with fail
          go_ret
          exact HN'.out _ _ rfl hrr hkr
        · go_wp2_with fail
          go_ret
          exact HN'.out _ _ rfl hrr hkr

end Go.Proofs.Ytamjfnpgjcdepaa
