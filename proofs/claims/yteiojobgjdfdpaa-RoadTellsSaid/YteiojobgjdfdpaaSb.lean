/- Walks: label's isIndex, isTime, areValid, isWay. -/
import Derived.Test.YteiojobgjdfdpaaQp
namespace Go.Proofs.Yteiojobgjdfdpaa
open Go.RowKit

def ValidP (l : List Am) : Prop := l.length ≤ 20000 ∧ ∀ k, k < l.length → (am l k).a.ok
def WayP (l : List Am) (p : List Int) : Prop := p.length ≤ 2000 ∧ ∀ k, k < p.length → (0 ≤ p.getD k 0 ∧ p.getD k 0 < l.length) ∧ (0 < k → (am l (p.getD (k - 1) 0).toNat).a.t = (am l (p.getD k 0).toNat).a.f)

set_option maxRecDepth 100000 in
theorem lIndex_any (t n : Int) (w : World) (r : Bool) (hr : r = decide (0 ≤ t ∧ t < n)) :
    Calls Try.prog 59 #[.int .i64 t, .int .i64 n] w fun e w' => e = .returned (.bool r) ∧ w = w' := by
  have HR := Lib.hid hr; clear hr
  go_enter Try.func59, Try.ntmps59
  by_cases h1 : 0 ≤ t
  · by_cases h2 : t < n
    · go_wp2_with fail
      go_ret
      exact ⟨by rw [HR.out, decide_eq_true ⟨h1, h2⟩]; rfl, rfl⟩
    · go_wp2_with fail
      go_ret
      exact ⟨by rw [HR.out, decide_eq_false (by omega)]; rfl, rfl⟩
  · go_wp2_with fail
    go_ret
    exact ⟨by rw [HR.out, decide_eq_false (by omega)]; rfl, rfl⟩
set_option maxRecDepth 100000 in
theorem lTime_any (t : Int) (w : World) (r : Bool) (hr : r = decide (0 ≤ t ∧ t ≤ 1048576)) :
    Calls Try.prog 56 #[.int .i64 t] w fun e w' => e = .returned (.bool r) ∧ w = w' := by
  have HR := Lib.hid hr; clear hr
  go_enter Try.func56, Try.ntmps56
  by_cases h1 : 0 ≤ t
  · by_cases h2 : t ≤ 1048576
    · go_wp2_with fail
      go_ret
      exact ⟨by rw [HR.out, decide_eq_true ⟨h1, h2⟩]; rfl, rfl⟩
    · go_wp2_with fail
      go_ret
      exact ⟨by rw [HR.out, decide_eq_false (by omega)]; rfl, rfl⟩
  · go_wp2_with fail
    go_ret
    exact ⟨by rw [HR.out, decide_eq_false (by omega)]; rfl, rfl⟩

set_option maxRecDepth 100000 in
set_option maxHeartbeats 8000000 in
theorem valid_any (l : List Am) (A : Option Addr) (c m : Nat) (w : World) (hl : l.length = m) (hA : ArcsAt w.heap.size w A l) (r : Bool) (hr : r = true ↔ ValidP l) :
    Calls Try.prog 54 #[.slice A m c] w fun e w' => e = .returned (.bool r) ∧ Below w.heap.size w w' := by
  have HA := Lib.hid (And.intro hl hA); clear hA
  have hr0 : ¬ ValidP l → r = false := fun h => by
    cases r with
    | false => rfl
    | true => exact absurd (hr.1 rfl) h
  have HR := Lib.hid (And.intro hr hr0); clear hr hr0
  go_enter Try.func54, Try.ntmps54
  by_cases h3 : 20000 < m
  · have hrf := HR.out.2 (fun h => by have := h.1; omega)
    subst hrf
    clear hl
    have h3' : decide (20000 < (m : Int)) = true := decide_eq_true (by omega)
    have h3'' : decide (20000 < m) = true := decide_eq_true (by omega)
    go_wp2_with fail
    go_ret
    exact ⟨by rfl, Below.refl _ _⟩
  clear hl
  have h3' : decide (20000 < m) = false := decide_eq_false (by omega)
  have HB := Lib.hid h3
  go_wp2_with fail
  go_loopw [10] (fun iv wr => ∃ i : Nat, iv = .int .i64 i ∧ i ≤ m ∧ Hid (∀ k, k < i → (am l k).a.ok) ∧ Hid (Below w.heap.size w wr)) (fun iv _ => m - (intOf iv).toNat)
  case atStart => exact ⟨0, rfl, by omega, Lib.hid (fun k hk => by omega), Lib.hid (Below.refl _ _)⟩
  case round =>
    obtain ⟨i, rfl, hi, hK, hB⟩ := hrel
    by_cases hgo : i < m
    · have hgl : i < l.length := by have := HA.out.1; omega
      have hAr := HA.out.2.below hB.out
      obtain ⟨b, off, hAe, hbB, k0, k1, k2, k3, kl, kh⟩ := hAr i hgl
      have HAr := Lib.hid hAr; clear hAr
      subst hAe
      obtain ⟨r1, hr1⟩ : ∃ r : Bool, r = true ↔ (am l i).a.ok := ⟨Classical.propDecidable (am l i).a.ok |> fun d => @decide _ d, by simp⟩
      have hC0 : ∀ W', Below wr.heap.size wr W' → Calls Try.prog 46 #[(am l i).v] W' fun e w' => e = .returned (.bool r1) ∧ Below W'.heap.size W' w' := fun W' hb => arc_any (HAr.out.below (hb.mono hB.out.size)) (Nat.le_trans hB.out.size hb.size) hgl r1 hr1
      have hok : r1 = true → (am l i).a.ok := fun a => hr1.1 a
      have hno : r1 = false → r = false := fun h => HR.out.2 (fun hh => by
        have := hr1.2 (hh.2 i hgl); rw [h] at this; cases this)
      obtain ⟨x, hx⟩ : ∃ x, am l i = x := ⟨_, rfl⟩
      have HX := Lib.hid hx
      rw [hx] at hC0 hok k0 k1 k2 k3
      clear hx kl kh hr1
      obtain ⟨⟨f, t, lo, hi2⟩, A1, c1, A2, c2⟩ := x
      simp only [Am.v] at hC0 hok k0 k1 k2 k3
      obtain ⟨n1, hn1⟩ : ∃ n1, lo.length = n1 := ⟨_, rfl⟩
      obtain ⟨n2, hn2⟩ : ∃ n2, hi2.length = n2 := ⟨_, rfl⟩
      rw [hn1] at k2 hC0
      rw [hn2] at k3 hC0
      clear hn1 hn2
      have HC := Lib.hid hC0; clear hC0
      have HOK := Lib.hid hok; clear hok
      have HNO := Lib.hid hno; clear hno
      have hBn : Below wr.heap.size wr (wr.alloc (.cells #[.int .i64 f, .int .i64 t, .slice A1 n1 c1, .slice A2 n2 c2] 39)) := (Below.refl _ _).alloc (Nat.le_refl _) _
      have HBN := Lib.hid hBn; clear hBn
      go_wp2_with fail
      refine (HC.out _ (by first | exact HBN.out | exact Below.refl _ _)).mono ?_
      rintro e w2 ⟨rfl, hb2⟩
      have hB2 : Below wr.heap.size wr w2 := by first | exact hb2 | exact HBN.out.trans (hb2.mono HBN.out.size)
      have HB2 := Lib.hid (hB.out.trans (hB2.mono hB.out.size))
      clear hb2 hB2
      cases r1 with
      | false =>
        have hrf := HNO.out rfl
        subst hrf
        go_wp2_with fail
        go_ret
        exact ⟨by rfl, HB2.out⟩
      | true =>
        have HY := Lib.hid (HOK.out rfl)
        go_wp2_with fail
        go_roundw
        case rel => exact ⟨i + 1, rfl, by omega, Lib.hid (fun k hk => by
          by_cases e : k < i
          · exact hK.out k e
          · have : k = i := by omega
            subst this
            rw [HX.out]
            exact HY.out), HB2⟩
        case measure => simp [intOf]; omega
    · have e : i = m := by omega
      subst e
      have hrt := HR.out.1.2 ⟨by have := HB.out; have := HA.out.1; omega, fun k hk => hK.out k (by have := HA.out.1; omega)⟩
      subst hrt
      go_wp2_with fail
      go_ret
      exact ⟨by rfl, hB.out⟩

set_option maxRecDepth 100000 in
set_option maxHeartbeats 8000000 in
theorem isWay_any (l : List Am) (A : Option Addr) (c m : Nat) (p : List Int) (A' : Option Addr) (c' n : Nat) (w : World) (hl : l.length = m) (hA : ArcsAt w.heap.size w A l) (hp : p.length = n) (hI : IntsAt w.heap.size w A' p) (r : Bool) (hr : r = true ↔ WayP l p) :
    Calls Try.prog 55 #[.slice A m c, .slice A' n c'] w fun e w' => e = .returned (.bool r) ∧ Below w.heap.size w w' := by
  have HA := Lib.hid (And.intro hl hA); clear hA hl
  have HP := Lib.hid (And.intro hp hI); clear hp hI
  have hr0 : ¬ WayP l p → r = false := fun h => by
    cases r with
    | false => rfl
    | true => exact absurd (hr.1 rfl) h
  have HR := Lib.hid (And.intro hr hr0); clear hr hr0
  go_enter Try.func55, Try.ntmps55
  by_cases h3 : 2000 < n
  · have hrf := HR.out.2 (fun h => by have := h.1; have := HP.out.1; omega)
    subst hrf
    have h3' : decide (2000 < (n : Int)) = true := decide_eq_true (by omega)
    have h3'' : decide (2000 < n) = true := decide_eq_true (by omega)
    go_wp2_with fail
    go_ret
    exact ⟨by rfl, Below.refl _ _⟩
  have h3' : decide (2000 < n) = false := decide_eq_false (by omega)
  have HB := Lib.hid h3
  go_wp2_with fail
  go_loopw [12] (fun iv wr => ∃ i : Nat, iv = .int .i64 i ∧ i ≤ n ∧ Hid (∀ k, k < i → (0 ≤ p.getD k 0 ∧ p.getD k 0 < m) ∧ (0 < k → (am l (p.getD (k - 1) 0).toNat).a.t = (am l (p.getD k 0).toNat).a.f)) ∧ Hid (Below w.heap.size w wr)) (fun iv _ => n - (intOf iv).toNat)
  case atStart => exact ⟨0, rfl, by omega, Lib.hid (fun k hk => by omega), Lib.hid (Below.refl _ _)⟩
  case round =>
    obtain ⟨i, rfl, hi, hK, hB⟩ := hrel
    by_cases hgo : i < n
    · have hgl : i < p.length := by have := HP.out.1; omega
      obtain ⟨b, off, hAe, hbB, k0⟩ := (HP.out.2.below hB.out) i hgl
      subst hAe
      obtain ⟨x, hx⟩ : ∃ x, p.getD i 0 = x := ⟨_, rfl⟩
      rw [hx] at k0
      obtain ⟨r1, hr1⟩ : ∃ r, r = decide (0 ≤ x ∧ x < (m : Int)) := ⟨_, rfl⟩
      have HIx := Lib.hid (fun d => (lIndex_any x m (wr.drewN d) r1 hr1).mono (R' := fun e w' => e = .returned (.bool r1) ∧ w' = wr.drewN d) (fun _ _ ⟨a, b⟩ => ⟨a, b.symm⟩))
      have HX := Lib.hid hx; clear hx
      cases r1 with
      | false =>
        have hrf := HR.out.2 (fun h => by
          have h2 := (h.2 i hgl).1
          rw [HX.out, HA.out.1] at h2
          rw [decide_eq_true h2] at hr1
          cases hr1)
        subst hrf
        clear hr1
        go_wp2_with fail
        go_quiet ((go_at_call 59; with_reducible exact Calls.quiet_of_same (HIx.out _)))
        go_wp2_with fail
        go_ret
        exact ⟨by rfl, below_drewN hB.out _⟩
      | true =>
        have hx2 := of_decide_eq_true hr1.symm
        clear hr1
        cases i with
        | zero =>
          have k0 : wr.cell? ⟨b, off, none⟩ = some (.int .i64 x) := k0
          go_wp2_with fail
          go_quiet ((go_at_call 59; with_reducible exact Calls.quiet_of_same (HIx.out _)))
          go_wp2_with fail
          go_roundw
          case rel => exact ⟨1, rfl, by omega, Lib.hid (fun k hk => by
            have : k = 0 := by omega
            subst this
            rw [HX.out]
            exact ⟨hx2, fun h => by omega⟩), Lib.hid (below_drewN hB.out _)⟩
          case measure => simp [intOf]; omega
        | succ j =>
          obtain ⟨b', off', hAe, _, j0⟩ := (HP.out.2.below hB.out) j (by omega)
          injection hAe with hAe
          injection hAe with e1 e2 _
          subst e1; subst e2
          have hyy := (hK.out j (by omega)).1
          obtain ⟨y, hy⟩ : ∃ y, p.getD j 0 = y := ⟨_, rfl⟩
          rw [hy] at j0 hyy
          have HY := Lib.hid hy; clear hy
          obtain ⟨xn, rfl⟩ : ∃ xn : Nat, x = (xn : Int) := ⟨x.toNat, by omega⟩
          obtain ⟨yn, rfl⟩ : ∃ yn : Nat, y = (yn : Int) := ⟨y.toNat, by omega⟩
          have hxl : xn < m := by omega
          have hyl : yn < m := by omega
          obtain ⟨g, o, hAe, hg, _, z1, _⟩ := (HA.out.2.below hB.out) yn (by have := HA.out.1; omega)
          obtain ⟨g', o', hAe', _, z2, _⟩ := (HA.out.2.below hB.out) xn (by have := HA.out.1; omega)
          subst hAe
          injection hAe' with hAe'
          injection hAe' with e1 e2 _
          subst e1; subst e2
          have hns : ¬ (am l yn).a.t = (am l xn).a.f → r = false := fun hne => HR.out.2 (fun h => hne (by
            have h2 := (h.2 (j + 1) hgl).2 (by omega)
            rw [Nat.add_sub_cancel, HX.out, HY.out, Int.toNat_natCast, Int.toNat_natCast] at h2
            exact h2))
          obtain ⟨u, hu⟩ : ∃ u, (am l yn).a.t = u := ⟨_, rfl⟩
          obtain ⟨v, hv⟩ : ∃ v, (am l xn).a.f = v := ⟨_, rfl⟩
          rw [hu] at z1 hns
          rw [hv] at z2 hns
          have HUV := Lib.hid (And.intro hu hv); clear hu hv
          have hwr : IntKind.i64.wrap ((j : Int) + 1 - 1) = j := by rw [IntKind.wrap_i64]; omega
          have hwq : ((j : Int) + 1 - 1) = j := by omega
          have k0 : wr.cell? ⟨b, off + (j + 1), none⟩ = some (.int .i64 xn) := k0
          by_cases huv : u = v
          · subst huv
            have hneq : (u != u) = false := by simp
            go_wp2_with fail
            go_quiet ((go_at_call 59; with_reducible exact Calls.quiet_of_same (HIx.out _)))
            go_wp2_with fail
            go_roundw
            case rel => exact ⟨j + 1 + 1, by simp, by omega, Lib.hid (fun k hk => by
              by_cases e : k < j + 1
              · exact hK.out k e
              · have : k = j + 1 := by omega
                subst this
                rw [Nat.add_sub_cancel, HX.out, HY.out, Int.toNat_natCast, Int.toNat_natCast, HUV.out.1, HUV.out.2]
                exact ⟨hx2, fun _ => rfl⟩), Lib.hid (below_drewN hB.out _)⟩
            case measure => simp [intOf]; omega
          · have hrf := hns huv
            subst hrf
            have hneq : (u != v) = true := by simpa using huv
            clear hns
            go_wp2_with fail
            go_quiet ((go_at_call 59; with_reducible exact Calls.quiet_of_same (HIx.out _)))
            go_wp2_with fail
            go_ret
            exact ⟨by rfl, below_drewN hB.out _⟩
    · have e : i = n := by omega
      subst e
      have hrt := HR.out.1.2 ⟨by have := HB.out; have := HP.out.1; omega, fun k hk => by rw [HA.out.1]; exact hK.out k (by have := HP.out.1; omega)⟩
      subst hrt
      go_wp2_with fail
      go_ret
      exact ⟨by rfl, hB.out⟩

end Go.Proofs.Yteiojobgjdfdpaa
