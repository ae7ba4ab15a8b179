/- Walks: the reference's Valid and Sign. -/
import Derived.Test.YtmlhladdoalfdaaEs
namespace Go.Proofs.Ytmlhladdoalfdaa
open Go.RowKit

theorem holds_at {es : List En} (hn : es.Nodup) {p : En} {k : Nat} (hk : k < es.length) : holds es p k = decide (es.getD k e0 = p) := by
  unfold holds
  by_cases h : es.getD k e0 = p
  · have h1 := pos_of_get hn hk h
    rw [decide_eq_true h, h1]
    simp [hk]
  · rw [decide_eq_false h, Bool.and_eq_false_iff]
    by_cases h2 : p ∈ es
    · right
      rw [decide_eq_false]
      intro e
      have e' : pos es p = k := by omega
      exact h (by rw [← e']; exact pos_get h2)
    · left
      rw [decide_eq_false]
      exact fun h' => h2 (pos_lt.2 h')
theorem holds_off {es : List En} {p : En} {k : Int} (hk : k < 0 ∨ (es.length : Int) ≤ k) : holds es p k = false := by
  unfold holds
  rw [Bool.and_eq_false_iff]
  by_cases h : pos es p < es.length
  · right
    rw [decide_eq_false]
    omega
  · left
    rw [decide_eq_false h]

set_option maxRecDepth 100000 in
set_option maxHeartbeats 4000000 in
theorem qvalid_any {S : Nat → Prop} {r : Nat} {es : List En} {w : World} (h : RQ w S r es) (hn : es.Nodup) (p : En) (k : Int) :
    Calls Try.prog 14 #[.pointer (some ⟨r, 0, none⟩), .agg #[.int .i64 p.1, .string p.2, .int .i64 k]] w fun e w' => e = .returned (.bool (holds es p k)) ∧ Below w.heap.size w w' := by
  obtain ⟨v, h1, h3, -⟩ := h
  obtain ⟨A, c, rfl, hc, hcm, hS⟩ := h3.at_
  have hr := h1.lt
  have k0 : w.cell? ⟨r, 0, none⟩ = some (.slice A es.length c) := h1.cell 0
  have hb1 := (Below.refl w.heap.size w).alloc (Nat.le_refl _) (.cells #[.int .i64 p.1, .string p.2, .int .i64 k] 24)
  have HS := Lib.hid hS
  obtain ⟨z, hz⟩ : ∃ z, es.length = z := ⟨_, rfl⟩
  by_cases hneg : k < 0
  · have hh := holds_off (es := es) (p := p) (.inl hneg)
    rw [hh]
    rw [hz] at k0
    have hd0 : decide ((0 : Int) ≤ k) = false := by simp; omega
    clear hh hz h1 h3 hS hc
    obtain ⟨xk, xt⟩ := p
    simp only at hb1
    go_enter Try.func14, Try.ntmps14
    go_wp2_with fail
    go_quiet (fail)
    go_wp2_with fail
    go_ret
    exact ⟨rfl, below_drewN hb1 _⟩
  · obtain ⟨m, rfl⟩ : ∃ m : Nat, k = m := ⟨k.toNat, by omega⟩
    by_cases hbig : z ≤ m
    · have hh := holds_off (es := es) (p := p) (k := (m : Int)) (.inr (by omega))
      rw [hh]
      rw [hz] at k0
      have hd : decide (m < z) = false := by simp; omega
      have hd0 : decide ((0 : Int) ≤ (m : Int)) = true := by simp
      clear hh hz h1 h3 hS hc hneg
      obtain ⟨xk, xt⟩ := p
      simp only at hb1
      go_enter Try.func14, Try.ntmps14
      go_wp2_with fail
      go_quiet (fail)
      go_wp2_with fail
      go_ret
      exact ⟨rfl, below_drewN hb1 _⟩
    · have hh := holds_at hn (p := p) (k := m) (by omega)
      rw [hh]
      obtain ⟨b2, o2, hA2, hB2, y0, y1⟩ := HS.out m (by omega)
      subst hA2
      obtain ⟨e, he⟩ : ∃ e, es.getD m e0 = e := ⟨_, rfl⟩
      rw [he] at y0 y1 ⊢
      rw [hz] at k0
      have hd : (m : Int) < (z : Int) := by omega
      have hd0 : decide ((0 : Int) ≤ (m : Int)) = true := by simp
      clear hh hz he h1 h3 hS hc hneg
      obtain ⟨xk, xt⟩ := p
      obtain ⟨ek, et⟩ := e
      simp only at hb1 y0 y1
      by_cases g1 : ek = xk
      · subst g1
        by_cases g2 : et = xt
        · subst g2
          have hdd : Hid (decide (((ek, et) : En) = (ek, et)) = true) := Lib.hid (by simp)
          rw [hdd.out]
          clear hdd
          go_enter Try.func14, Try.ntmps14
          go_wp2_with fail
          go_quiet (fail)
          go_wp2_with fail
          go_ret
          exact ⟨rfl, below_drewN hb1 _⟩
        · have hdd : Hid (decide (((ek, et) : En) = (ek, xt)) = false) := Lib.hid (by simpa using g2)
          rw [hdd.out]
          have g2' := toList_ne g2
          clear hdd g2
          go_enter Try.func14, Try.ntmps14
          go_wp2_with fail
          go_quiet (fail)
          go_wp2_with fail
          go_ret
          exact ⟨rfl, below_drewN hb1 _⟩
      · have hdd : Hid (decide (((ek, et) : En) = (xk, xt)) = false) := Lib.hid (by simp [g1])
        rw [hdd.out]
        have g1' : (ek == xk) = false := by simpa using g1
        clear hdd g1
        go_enter Try.func14, Try.ntmps14
        go_wp2_with fail
        go_quiet (fail)
        go_wp2_with fail
        go_ret
        exact ⟨rfl, below_drewN hb1 _⟩

end Go.Proofs.Ytmlhladdoalfdaa
