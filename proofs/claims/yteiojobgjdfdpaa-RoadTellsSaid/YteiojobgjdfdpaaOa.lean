/- Walks: the reference's time, Connected. -/
import Derived.Test.YteiojobgjdfdpaaSb
namespace Go.Proofs.Yteiojobgjdfdpaa
open Go.RowKit

set_option maxRecDepth 100000 in
theorem r12Time_any (t : Int) (w : World) (r : Bool) (hr : r = decide (0 ≤ t ∧ t ≤ 1048576)) :
    Calls Try.prog 57 #[.int .i64 t] w fun e w' => e = .returned (.bool r) ∧ w = w' := by
  have HR := Lib.hid hr; clear hr
  go_enter Try.func57, Try.ntmps57
  by_cases h1 : 0 ≤ t
  · by_cases h2 : t ≤ 1048576
    · go_wp2_with fail
      go_ret
      exact ⟨by rw [HR.out, decide_eq_true ⟨h1, h2⟩]; rfl, rfl⟩
    · go_wp2_with fail
      go_ret
      exact ⟨by rw [HR.out, decide_eq_false (by omega)]; rfl, rfl⟩
  · go_wp2_with fail
    go_ret
    exact ⟨by rw [HR.out, decide_eq_false (by omega)]; rfl, rfl⟩

set_option maxRecDepth 100000 in
set_option maxHeartbeats 8000000 in
theorem connected_any (l : List Am) (A : Option Addr) (c m : Nat) (p : List Int) (A' : Option Addr) (c' n : Nat) (w : World) (hl : l.length = m) (hA : ArcsAt w.heap.size w A l) (hp : p.length = n) (hI : IntsAt w.heap.size w A' p) (hn12 : n ≤ 2000) (r : Bool) (hr : r = true ↔ WayP l p) :
    Calls Try.prog 58 #[.slice A m c, .slice A' n c'] w fun e w' => e = .returned (.bool r) ∧ Below w.heap.size w w' := by
  have HA := Lib.hid (And.intro hl hA); clear hA hl
  have HP := Lib.hid (And.intro hp hI); clear hp hI
  have hr0 : ¬ WayP l p → r = false := fun h => by
    cases r with
    | false => rfl
    | true => exact absurd (hr.1 rfl) h
  have HR := Lib.hid (And.intro hr hr0); clear hr hr0
  go_enter Try.func58, Try.ntmps58
  go_wp2_with fail
  go_loopw [5] (fun iv wr => ∃ i : Nat, iv = .int .i64 i ∧ i ≤ n ∧ Hid (∀ k, k < i → (0 ≤ p.getD k 0 ∧ p.getD k 0 < m) ∧ (0 < k → (am l (p.getD (k - 1) 0).toNat).a.t = (am l (p.getD k 0).toNat).a.f)) ∧ Hid (Below w.heap.size w wr)) (fun iv _ => n - (intOf iv).toNat)
  case atStart => exact ⟨0, rfl, by omega, Lib.hid (fun k hk => by omega), Lib.hid (Below.refl _ _)⟩
  case round =>
    obtain ⟨i, rfl, hi, hK, hB⟩ := hrel
    by_cases hgo : i < n
    · have hgl : i < p.length := by have := HP.out.1; omega
      obtain ⟨b, off, hAe, hbB, k0⟩ := (HP.out.2.below hB.out) i hgl
      subst hAe
      obtain ⟨x, hx⟩ : ∃ x, p.getD i 0 = x := ⟨_, rfl⟩
      rw [hx] at k0
      have HX := Lib.hid hx; clear hx
      by_cases hx2 : 0 ≤ x ∧ x < (m : Int)
      rotate_left
      · have hrf := HR.out.2 (fun h => by
          have h2 := (h.2 i hgl).1
          rw [HX.out, HA.out.1] at h2
          exact hx2 h2)
        subst hrf
        by_cases hxn : x < 0
        · go_wp2_with fail
          go_quiet (fail)
          go_wp2_with fail
          go_ret
          exact ⟨by rfl, below_drewN hB.out _⟩
        · have hxm : decide ((m : Int) ≤ x) = true := decide_eq_true (by omega)
          have hxn2 : decide (x < 0) = false := decide_eq_false hxn
          clear hxn
          go_wp2_with fail
          go_quiet (fail)
          go_wp2_with fail
          go_ret
          exact ⟨by rfl, below_drewN hB.out _⟩
      · obtain ⟨xn, rfl⟩ : ∃ xn : Nat, x = (xn : Int) := ⟨x.toNat, by omega⟩
        have hxl : xn < m := by omega
        have hxlt : decide ((xn : Int) < 0) = false := decide_eq_false (by omega)
        have hxle : decide ((m : Int) ≤ (xn : Int)) = false := decide_eq_false (by omega)
        have hxle' : decide (m ≤ xn) = false := decide_eq_false (by omega)
        cases i with
        | zero =>
          have k0 : wr.cell? ⟨b, off, none⟩ = some (.int .i64 xn) := k0
          go_wp2_with fail
          go_quiet (fail)
          go_wp2_with fail
          go_roundw
          case rel => exact ⟨1, rfl, by omega, Lib.hid (fun k hk => by
            have : k = 0 := by omega
            subst this
            rw [HX.out]
            exact ⟨hx2, fun h => by omega⟩), Lib.hid (below_drewN hB.out _)⟩
          case measure => simp [intOf]; omega
        | succ j =>
          obtain ⟨b', off', hAe, _, j0⟩ := (HP.out.2.below hB.out) j (by omega)
          injection hAe with hAe
          injection hAe with e1 e2 _
          subst e1; subst e2
          have hyy := (hK.out j (by omega)).1
          obtain ⟨y, hy⟩ : ∃ y, p.getD j 0 = y := ⟨_, rfl⟩
          rw [hy] at j0 hyy
          have HY := Lib.hid hy; clear hy
          obtain ⟨yn, rfl⟩ : ∃ yn : Nat, y = (yn : Int) := ⟨y.toNat, by omega⟩
          have hyl : yn < m := by omega
          obtain ⟨g, o, hAe, hg, _, z1, _⟩ := (HA.out.2.below hB.out) yn (by have := HA.out.1; omega)
          obtain ⟨g', o', hAe', _, z2, _⟩ := (HA.out.2.below hB.out) xn (by have := HA.out.1; omega)
          subst hAe
          injection hAe' with hAe'
          injection hAe' with e1 e2 _
          subst e1; subst e2
          have hns : ¬ (am l yn).a.t = (am l xn).a.f → r = false := fun hne => HR.out.2 (fun h => hne (by
            have h2 := (h.2 (j + 1) hgl).2 (by omega)
            rw [Nat.add_sub_cancel, HX.out, HY.out, Int.toNat_natCast, Int.toNat_natCast] at h2
            exact h2))
          obtain ⟨u, hu⟩ : ∃ u, (am l yn).a.t = u := ⟨_, rfl⟩
          obtain ⟨v, hv⟩ : ∃ v, (am l xn).a.f = v := ⟨_, rfl⟩
          rw [hu] at z1 hns
          rw [hv] at z2 hns
          have HUV := Lib.hid (And.intro hu hv); clear hu hv
          have hwr : IntKind.i64.wrap ((j : Int) + 1 - 1) = j := by rw [IntKind.wrap_i64]; omega
          have hwq : ((j : Int) + 1 - 1) = j := by omega
          have hmx : max (j : Int) 0 = j := by omega
          have k0 : wr.cell? ⟨b, off + (j + 1), none⟩ = some (.int .i64 xn) := k0
          by_cases huv : u = v
          · subst huv
            have hneq : (u != u) = false := by simp
            go_wp2_with fail
            go_quiet (fail)
            go_wp2_with fail
            go_roundw
            case rel => exact ⟨j + 1 + 1, by simp, by omega, Lib.hid (fun k hk => by
              by_cases e : k < j + 1
              · exact hK.out k e
              · have : k = j + 1 := by omega
                subst this
                rw [Nat.add_sub_cancel, HX.out, HY.out, Int.toNat_natCast, Int.toNat_natCast, HUV.out.1, HUV.out.2]
                exact ⟨hx2, fun _ => rfl⟩), Lib.hid (below_drewN hB.out _)⟩
            case measure => simp [intOf]; omega
          · have hrf := hns huv
            subst hrf
            have hneq : (u != v) = true := by simpa using huv
            clear hns
            go_wp2_with fail
            go_quiet (fail)
            go_wp2_with fail
            go_ret
            exact ⟨by rfl, below_drewN hB.out _⟩
    · have e : i = n := by omega
      subst e
      have hrt := HR.out.1.2 ⟨by have := HP.out.1; omega, fun k hk => by rw [HA.out.1]; exact hK.out k (by have := HP.out.1; omega)⟩
      subst hrt
      have h20 : decide (i ≤ 2000) = true := decide_eq_true hn12
      have h20' : decide ((i : Int) ≤ 2000) = true := decide_eq_true (by omega)
      go_wp2_with fail
      go_ret
      exact ⟨by rfl, hB.out⟩

end Go.Proofs.Yteiojobgjdfdpaa
