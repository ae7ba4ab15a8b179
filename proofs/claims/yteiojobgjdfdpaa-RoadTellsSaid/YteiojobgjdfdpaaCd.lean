/- Walks: the reference's Few, Hour, Time, Right, Took. -/
import Derived.Test.YteiojobgjdfdpaaCb
import Derived.OwnWalk
namespace Go.Proofs.Yteiojobgjdfdpaa
open Go.RowKit

theorem below_drewN {B : Nat} {w w' : World} (h : Below B w w') (n : Nat) : Below B w (w'.drewN n) := ⟨h.os, h.tape, h.output, h.size, h.block⟩

set_option maxRecDepth 100000 in
theorem rTime_any (t : Int) (w : World) (r : Bool) (hr : r = decide (0 ≤ t ∧ t ≤ 1048576)) :
    Calls Try.prog 23 #[.int .i64 t] w fun e w' => e = .returned (.bool r) ∧ w = w' := by
  have HR := Lib.hid hr; clear hr
  go_enter Try.func23, Try.ntmps23
  by_cases h1 : 0 ≤ t
  · by_cases h2 : t ≤ 1048576
    · go_wp2_with fail
      go_ret
      exact ⟨by rw [HR.out, decide_eq_true ⟨h1, h2⟩]; rfl, rfl⟩
    · go_wp2_with fail
      go_ret
      exact ⟨by rw [HR.out, decide_eq_false (by omega)]; rfl, rfl⟩
  · go_wp2_with fail
    go_ret
    exact ⟨by rw [HR.out, decide_eq_false (by omega)]; rfl, rfl⟩

set_option maxRecDepth 100000 in
theorem rHour_any (u : Int) (w : World) (h0 : 0 ≤ u) (h9 : u ≤ 1000000000) :
    Calls Try.prog 80 #[.int .i64 u] w fun e w' => e = .returned (.int .i64 (hr u)) ∧ w = w' := by
  have e := hr_eq h0
  have q1 : u.tdiv 60 = u / 60 := Int.tdiv_eq_ediv_of_nonneg h0
  have q2 : (u / 60).tmod 24 = u / 60 % 24 := Int.tmod_eq_emod_of_nonneg (by omega)
  rw [e] at q2
  have q3 : 0 ≤ u / 60 := by omega
  have q4 : u / 60 ≤ 1000000000 := by omega
  obtain ⟨q, hq⟩ : ∃ q, u / 60 = q := ⟨_, rfl⟩
  rw [hq] at q1 q2 q3 q4
  clear hq e
  have hlt := hr_lt u
  obtain ⟨h, hh⟩ : ∃ h, hr u = h := ⟨_, rfl⟩
  rw [hh] at q2 hlt ⊢
  clear hh
  go_enter Try.func80, Try.ntmps80
  go_wp2_with fail
  go_ret
  exact ⟨by rfl, rfl⟩

set_option maxRecDepth 100000 in
set_option maxHeartbeats 4000000 in
theorem rright_any (a : Arc) (A A' : Option Addr) (c c' : Nat) (w : World) (hM : ArcM w a A A') (r : Bool) (hr : r = true ↔ a.ok) :
    Calls Try.prog 47 #[.agg #[.int .i64 a.f, .int .i64 a.t, .slice A a.lo.length c, .slice A' a.hi.length c']] w fun e w' => e = .returned (.bool r) ∧ Below w.heap.size w w' := by
  have HM := Lib.hid hM; clear hM
  have hr0 : (a.f < 0 ∨ a.t < 0 ∨ a.lo.length ≠ 24 ∨ a.hi.length ≠ 24) → r = false := fun h => by
    cases r with
    | false => rfl
    | true =>
      obtain ⟨h1, h2, h3, h4, _⟩ := hr.1 rfl
      omega
  have hr1 : ∀ h, h < 24 → (a.lo.getD h 0 < 0 ∨ a.hi.getD h 0 < a.lo.getD h 0 ∨ 600 < a.hi.getD h 0) → r = false := fun h hh hb => by
    cases r with
    | false => rfl
    | true => exact absurd (hr.1 rfl) (Arc.ok.of_false hh hb)
  have hr2 : 0 ≤ a.f → 0 ≤ a.t → a.lo.length = 24 → a.hi.length = 24 → (∀ h, h < 24 → 0 ≤ a.lo.getD h 0 ∧ a.lo.getD h 0 ≤ a.hi.getD h 0 ∧ a.hi.getD h 0 ≤ 600) → r = true := fun h1 h2 h3 h4 h5 => hr.2 ⟨h1, h2, h3, h4, h5⟩
  have HR0 := Lib.hid hr0; clear hr0
  have HR1 := Lib.hid hr1; clear hr1
  have HR2 := Lib.hid hr2; clear hr2 hr
  obtain ⟨n, hn⟩ : ∃ n, a.lo.length = n := ⟨_, rfl⟩
  obtain ⟨m, hm⟩ : ∃ m, a.hi.length = m := ⟨_, rfl⟩
  obtain ⟨f, hf⟩ : ∃ f, a.f = f := ⟨_, rfl⟩
  obtain ⟨t, ht⟩ : ∃ t, a.t = t := ⟨_, rfl⟩
  rw [hf, ht, hn, hm] at HR0 HR2
  rw [hf, ht, hn, hm]
  have HN := Lib.hid (And.intro hn hm); clear hn hm hf ht
  go_enter Try.func47, Try.ntmps47
  have hA0 : Below w.heap.size w (w.alloc (.cells #[.int .i64 f, .int .i64 t, .slice A n c, .slice A' m c'] 39)) := (Below.refl _ _).alloc (Nat.le_refl _) _
  by_cases h1 : f < 0
  · have hrf := HR0.out (.inl h1)
    subst hrf
    go_wp2_with fail
    go_ret
    exact ⟨rfl, hA0⟩
  by_cases h2 : t < 0
  · have hrf := HR0.out (.inr (.inl h2))
    subst hrf
    go_wp2_with fail
    go_ret
    exact ⟨rfl, hA0⟩
  by_cases h3 : n ≠ 24
  · have hrf := HR0.out (.inr (.inr (.inl h3)))
    subst hrf
    have h3' : ((n : Int) != 24) = true := by simp; omega
    go_wp2_with fail
    go_ret
    exact ⟨rfl, hA0⟩
  by_cases h4 : m ≠ 24
  · have hrf := HR0.out (.inr (.inr (.inr h4)))
    subst hrf
    have h3' : n = 24 := by omega
    subst h3'
    have h4' : ((m : Int) != 24) = true := by simp; omega
    go_wp2_with fail
    go_ret
    exact ⟨rfl, hA0⟩
  have h3' : n = 24 := by omega
  have h4' : m = 24 := by omega
  subst h3'; subst h4'
  have HFT := Lib.hid (And.intro h1 h2)
  have HK := Lib.hid (Blk.new w 39 #[.int .i64 f, .int .i64 t, .slice A 24 c, .slice A' 24 c'])
  go_wp2_with fail
  obtain ⟨W0, hW0⟩ : ∃ W, w.alloc (.cells #[.int .i64 f, .int .i64 t, .slice A 24 c, .slice A' 24 c'] 39) = W := ⟨_, rfl⟩
  rw [hW0] at hA0 HK ⊢
  clear hW0
  have HM0 := Lib.hid (HM.out.below hA0)
  have HA0 := Lib.hid hA0; clear hA0
  go_loopw [3] (fun iv wr => ∃ i : Nat, i ≤ 24 ∧ iv = .int .i64 i ∧ Hid (∀ h, h < i → 0 ≤ a.lo.getD h 0 ∧ a.lo.getD h 0 ≤ a.hi.getD h 0 ∧ a.hi.getD h 0 ≤ 600) ∧ ∃ q, wr = W0.drewN q) (fun iv _ => 24 - (intOf iv).toNat)
  case atStart => exact ⟨0, Nat.zero_le _, rfl, Lib.hid (fun h hh => by omega), 0, rfl⟩
  case round =>
    obtain ⟨i, hi, rfl, hI, q, rfl⟩ := hrel
    by_cases hgo : i < 24
    · obtain ⟨k1, o1, hA, hb1, c1⟩ := HM0.out.lo.get (k := i) (by have := HN.out; omega)
      obtain ⟨k2, o2, hA', hb2, c2⟩ := HM0.out.hi.get (k := i) (by have := HN.out; omega)
      subst hA; subst hA'
      have hno := HR1.out i hgo
      have hyes : (0 ≤ a.lo.getD i 0 ∧ a.lo.getD i 0 ≤ a.hi.getD i 0 ∧ a.hi.getD i 0 ≤ 600) → Hid (∀ h, h < i + 1 → 0 ≤ a.lo.getD h 0 ∧ a.lo.getD h 0 ≤ a.hi.getD h 0 ∧ a.hi.getD h 0 ≤ 600) := fun hh => Lib.hid (fun h h1 => by
        by_cases e : h < i
        · exact hI.out h e
        · have : h = i := by omega
          subst this
          exact hh)
      obtain ⟨x, hx⟩ : ∃ x, a.lo.getD i 0 = x := ⟨_, rfl⟩
      obtain ⟨y, hy⟩ : ∃ y, a.hi.getD i 0 = y := ⟨_, rfl⟩
      rw [hx] at c1 hno hyes
      rw [hy] at c2 hno hyes
      have HNO := Lib.hid hno; clear hno
      have HYES := Lib.hid hyes; clear hyes
      clear hx hy
      have d1 : (W0.drewN q).cell? ⟨k1, o1 + i, none⟩ = some (.int .i64 x) := c1
      have d2 : (W0.drewN q).cell? ⟨k2, o2 + i, none⟩ = some (.int .i64 y) := c2
      obtain ⟨m0, m1, m2, m3⟩ := box_cells HK.out
      obtain ⟨n0, n1, n2, n3⟩ := box_cells (HK.out.drewN q)
      have hb01 : ((i : Nat) : Int) < 24 := by omega
      by_cases g1 : x < 0
      · have hrf := HNO.out (.inl g1)
        subst hrf
        go_wp2_with fail
        go_quiet (fail)
        go_wp2_with fail
        go_ret
        exact ⟨rfl, below_drewN (below_drewN HA0.out _) _⟩
      by_cases g2 : y < x
      · have hrf := HNO.out (.inr (.inl g2))
        subst hrf
        go_wp2_with fail
        go_quiet (fail)
        go_wp2_with fail
        go_ret
        exact ⟨rfl, below_drewN (below_drewN HA0.out _) _⟩
      by_cases g3 : 600 < y
      · have hrf := HNO.out (.inr (.inr g3))
        subst hrf
        go_wp2_with fail
        go_quiet (fail)
        go_wp2_with fail
        go_ret
        exact ⟨rfl, below_drewN (below_drewN HA0.out _) _⟩
      have HY := HYES.out (by omega)
      go_wp2_with fail
      go_quiet (fail)
      go_wp2_with fail
      go_roundw
      case rel => exact ⟨i + 1, by omega, rfl, HY, _, rfl⟩
      case measure => simp [intOf]; omega
    · have : i = 24 := by omega
      subst this
      have hrt := HR2.out (by have := HFT.out.1; omega) (by have := HFT.out.2; omega) trivial trivial hI.out
      subst hrt
      go_wp2_with fail
      go_ret
      exact ⟨rfl, below_drewN HA0.out _⟩

end Go.Proofs.Yteiojobgjdfdpaa
