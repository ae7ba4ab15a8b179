/- Walks: Compare, Same (the program's and the reference's), few. Walks: the law's helper: a quotient and a remainder are two ints. Walks: Neg, Gcd. -/
import Derived.Test.YtgpmmpajnfbecaaGreatXai
import Derived.Test.YtgpmmpajnfbecaaGreatXag

namespace Go.Proofs.YtgpmmpajnfbecaaGreat
open Go.RowKit

theorem compare_sgn {x y : Int} (h : sgn x ≠ sgn y) : Lib.compareInt (sgn x) (sgn y) = Lib.compareInt x y := by
  unfold Lib.compareInt
  rcases sgn_cases x with ⟨a1, a2, a3⟩ | ⟨a1, a2, a3⟩ | ⟨a1, a2, a3⟩ <;> rcases sgn_cases y with ⟨b1, b2, b3⟩ | ⟨b1, b2, b3⟩ | ⟨b1, b2, b3⟩ <;> rw [a2, b2] at h ⊢ <;> first | (exact absurd rfl h) | skip
  all_goals
    repeat (first | rw [if_pos (by omega)] | rw [if_neg (by omega)])
theorem compare_ab {x y : Int} (h : sgn x = sgn y) : sgn x * Lib.compareInt (ab x) (ab y) = Lib.compareInt x y := by
  unfold Lib.compareInt
  rcases sgn_cases x with ⟨a1, a2, a3⟩ | ⟨a1, a2, a3⟩ | ⟨a1, a2, a3⟩ <;> rcases sgn_cases y with ⟨b1, b2, b3⟩ | ⟨b1, b2, b3⟩ | ⟨b1, b2, b3⟩ <;> rw [a2, b2] at h <;> first | (exfalso; omega) | (rw [a2, a3, b3])
  · rcases Int.lt_trichotomy x y with h | h | h
    · rw [if_neg (by omega), if_pos (by omega), if_pos h]; rfl
    · rw [if_neg (by omega), if_neg (by omega), if_neg (by omega), if_neg (by omega)]; rfl
    · rw [if_pos (by omega), if_neg (by omega), if_pos (by omega)]; rfl
  · subst a1; subst b1; rfl
  · rw [Int.one_mul]
theorem compare_bd (x y : Int) : -1 ≤ Lib.compareInt x y ∧ Lib.compareInt x y ≤ 1 := by unfold Lib.compareInt; split <;> (try split) <;> omega

set_option maxRecDepth 100000 in
set_option maxHeartbeats 2000000 in
theorem compare_any (x y : Int) (vx vy : Value) (w : World) (hx : BV w w.heap.size vx x) (hy : BV w w.heap.size vy y) (hx6 : ab x < pw 60) (hy6 : ab y < pw 60) :
    Calls Tryz.prog 101 #[vx, vy] w fun e w' => e = .returned (.int .i64 (Lib.compareInt x y)) ∧ Below w.heap.size w w' := by
  obtain ⟨A1, c1, rfl, hc1, hm1, hI1⟩ := hx
  obtain ⟨A2, c2, rfl, hc2, hm2, hI2⟩ := hy
  have hl1 := len60 hx6
  have hl2 := len60 hy6
  have hr1 := fun (w' : World) (hb : Below w.heap.size w w') => right_any (sgn x) (D (ab x)) A1 c1 w' ((hI1.below hb).more hb.size) (by omega) true (by simp [rightP_of hx6])
  have hr2 := fun (w' : World) (hb : Below w.heap.size w w') => right_any (sgn y) (D (ab y)) A2 c2 w' ((hI2.below hb).more hb.size) (by omega) true (by simp [rightP_of hy6])
  have hor := fun (w' : World) (hb : Below w.heap.size w w') => order_any (ab x) (ab y) A1 A2 c1 c2 w' w'.heap.size ((hI1.below hb).more hb.size) ((hI2.below hb).more hb.size) (ab_nonneg _) (ab_nonneg _) (by omega) (by omega)
  have hcs := fun h => compare_sgn (x := x) (y := y) h
  have hca := fun h => compare_ab (x := x) (y := y) h
  obtain ⟨n1, hn1⟩ : ∃ n, (D (ab x)).length = n := ⟨_, rfl⟩
  obtain ⟨n2, hn2⟩ : ∃ n, (D (ab y)).length = n := ⟨_, rfl⟩
  rw [hn1] at hr1 hor ⊢
  rw [hn2] at hr2 hor ⊢
  obtain ⟨s1, hs1e⟩ : ∃ s, sgn x = s := ⟨_, rfl⟩
  obtain ⟨s2, hs2e⟩ : ∃ s, sgn y = s := ⟨_, rfl⟩
  have hs1 := sgn_bd x
  rw [hs1e] at hr1 hcs hca hs1 ⊢
  rw [hs2e] at hr2 hcs hca ⊢
  have hcb := compare_bd (ab x) (ab y)
  obtain ⟨cz, hcz⟩ : ∃ z, Lib.compareInt (ab x) (ab y) = z := ⟨_, rfl⟩
  rw [hcz] at hor hca hcb
  have HR1 := Lib.hid hr1; clear hr1
  have HR2 := Lib.hid hr2; clear hr2
  have HOR := Lib.hid hor; clear hor
  have HCS := Lib.hid hcs; clear hcs
  have HCA := Lib.hid hca; clear hca
  clear hn1 hn2 hs1e hs2e hI1 hI2 hx6 hy6 hc1 hc2 hcz
  by_cases hss : s1 = s2
  · subst hss
    have hfin := HCA.out rfl
    have HF := Lib.hid hfin; clear hfin
    have hwm : IntKind.i64.wrap (s1 * cz) = s1 * cz := IntWalk.i64_in _ (by
      have a : s1 = -1 ∨ s1 = 0 ∨ s1 = 1 := by omega
      rcases a with rfl | rfl | rfl <;> omega)
    go_enter Tryz.func101, Tryz.ntmps101
    go_wp2_with fail
    obtain ⟨w1, hw1, hb1, k1, k2, hsz⟩ := boxes2 w #[.int .i64 s1, .slice A1 n1 c1] #[.int .i64 s1, .slice A2 n2 c2]
    rw [← hw1]
    clear hw1
    (with_reducible refine (HR1.out w1 hb1).mono ?_)
    rintro e w2 ⟨rfl, hb2⟩
    have k1 := k1.below hb2 k1.lt
    have k2 := k2.below hb2 k2.lt
    have hb2 := hb1.trans (hb2.mono hb1.size)
    have j1 : w2.cell? ⟨w.heap.size + 1, 0, none⟩ = some (.int .i64 s1) := k2.cell 0
    have j2 : w2.cell? ⟨w.heap.size + 1, 1, none⟩ = some (.slice A2 n2 c2) := k2.cell 1
    go_wp2_with fail
    (with_reducible refine (HR2.out w2 hb2).mono ?_)
    rintro e w3 ⟨rfl, hb3⟩
    clear j1 j2
    have k1 := k1.below hb3 k1.lt
    have k2 := k2.below hb3 k2.lt
    have hb3 := hb2.trans (hb3.mono hb2.size)
    have j0 : w3.cell? ⟨w.heap.size, 0, none⟩ = some (.int .i64 s1) := k1.cell 0
    have j1 : w3.cell? ⟨w.heap.size, 1, none⟩ = some (.slice A1 n1 c1) := k1.cell 1
    have j2 : w3.cell? ⟨w.heap.size + 1, 0, none⟩ = some (.int .i64 s1) := k2.cell 0
    have j3 : w3.cell? ⟨w.heap.size + 1, 1, none⟩ = some (.slice A2 n2 c2) := k2.cell 1
    go_wp2_with fail
    go_quiet ((go_at_call 95; exact Calls.quiet_of (HOR.out _ (below_drewN hb3 _))))
    go_wp2_with fail
    go_ret
    exact ⟨by rw [← HF.out]; rfl, below_drewN hb3 _⟩
  · have hfin := HCS.out hss
    have HF := Lib.hid hfin; clear hfin
    have hne : (s1 != s2) = true := by simpa using hss
    go_enter Tryz.func101, Tryz.ntmps101
    go_wp2_with fail
    obtain ⟨w1, hw1, hb1, k1, k2, hsz⟩ := boxes2 w #[.int .i64 s1, .slice A1 n1 c1] #[.int .i64 s2, .slice A2 n2 c2]
    rw [← hw1]
    clear hw1
    (with_reducible refine (HR1.out w1 hb1).mono ?_)
    rintro e w2 ⟨rfl, hb2⟩
    have k1 := k1.below hb2 k1.lt
    have k2 := k2.below hb2 k2.lt
    have hb2 := hb1.trans (hb2.mono hb1.size)
    have j1 : w2.cell? ⟨w.heap.size + 1, 0, none⟩ = some (.int .i64 s2) := k2.cell 0
    have j2 : w2.cell? ⟨w.heap.size + 1, 1, none⟩ = some (.slice A2 n2 c2) := k2.cell 1
    go_wp2_with fail
    (with_reducible refine (HR2.out w2 hb2).mono ?_)
    rintro e w3 ⟨rfl, hb3⟩
    clear j1 j2
    have k1 := k1.below hb3 k1.lt
    have k2 := k2.below hb3 k2.lt
    have hb3 := hb2.trans (hb3.mono hb2.size)
    have j0 : w3.cell? ⟨w.heap.size, 0, none⟩ = some (.int .i64 s1) := k1.cell 0
    have j2 : w3.cell? ⟨w.heap.size + 1, 0, none⟩ = some (.int .i64 s2) := k2.cell 0
    go_wp2_with fail
    (with_reducible refine (Tryz.cmp_Compare_int _ _ _).mono ?_)
    rintro e w4 ⟨rfl, rfl⟩
    go_wp2_with fail
    go_ret
    exact ⟨by rw [← HF.out]; rfl, hb3⟩

/-- Two big integers are the same just where they are one. -/
theorem same_iff {x y : Int} : (sgn x = sgn y ∧ D (ab x) = D (ab y)) ↔ x = y := by
  constructor
  · rintro ⟨h1, h2⟩
    have h3 := D_inj (ab_nonneg x) (ab_nonneg y) h2
    have e1 := sgn_ab x
    have e2 := sgn_ab y
    rw [h1, h3] at e1
    omega
  · rintro rfl; exact ⟨rfl, rfl⟩

set_option maxRecDepth 100000 in
set_option maxHeartbeats 1000000 in
theorem same_any (x y : Int) (vx vy : Value) (w : World) (hx : BV w w.heap.size vx x) (hy : BV w w.heap.size vy y) :
    Calls Tryz.prog 55 #[vx, vy] w fun e w' => e = .returned (.bool (decide (x = y))) ∧ Below w.heap.size w w' := by
  obtain ⟨A1, c1, rfl, hc1, hm1, hI1⟩ := hx
  obtain ⟨A2, c2, rfl, hc2, hm2, hI2⟩ := hy
  have heq := fun (w' : World) (hb : Below w.heap.size w w') => equal_any (D (ab x)) (D (ab y)) A1 A2 c1 c2 w.heap.size w' (hI1.below hb) (hI2.below hb) (by omega) (by omega)
  have hres : ∀ b : Bool, (sgn x = sgn y → b = decide (D (ab x) = D (ab y))) → (sgn x ≠ sgn y → b = false) → b = decide (x = y) := by
    intro b h1 h2
    by_cases hs : sgn x = sgn y
    · rw [h1 hs, decide_eq_decide]
      exact ⟨fun h => same_iff.1 ⟨hs, h⟩, fun h => (same_iff.2 h).2⟩
    · rw [h2 hs]
      symm
      rw [decide_eq_false_iff_not]
      exact fun h => hs (same_iff.2 h).1
  have hbx : Below w.heap.size w ((w.alloc (.cells #[.int .i64 (sgn x), .slice A1 (D (ab x)).length c1] 39)).alloc (.cells #[.int .i64 (sgn y), .slice A2 (D (ab y)).length c2] 39)) := ((Below.refl _ _).alloc (Nat.le_refl _) _).alloc (by simp) _
  obtain ⟨dd, hdd⟩ : ∃ b, decide (D (ab x) = D (ab y)) = b := ⟨_, rfl⟩
  rw [hdd] at heq hres
  obtain ⟨n1, hn1⟩ : ∃ n, (D (ab x)).length = n := ⟨_, rfl⟩
  obtain ⟨n2, hn2⟩ : ∃ n, (D (ab y)).length = n := ⟨_, rfl⟩
  rw [hn1, hn2] at heq hbx
  rw [hn1, hn2]
  obtain ⟨s1, hs1e⟩ : ∃ s, sgn x = s := ⟨_, rfl⟩
  obtain ⟨s2, hs2e⟩ : ∃ s, sgn y = s := ⟨_, rfl⟩
  rw [hs1e, hs2e] at hres hbx
  rw [hs1e, hs2e]
  have HE := Lib.hid heq; clear heq
  have HRS := Lib.hid hres; clear hres
  have HBX := Lib.hid hbx; clear hbx
  clear hn1 hn2 hs1e hs2e hI1 hI2 hc1 hc2 hdd
  by_cases hss : s1 = s2
  · have hfin := HRS.out dd (fun _ => rfl) (fun h => absurd hss h)
    subst hss
    rw [← hfin]
    clear hfin
    go_enter Tryz.func55, Tryz.ntmps55
    go_wp2_with fail
    (with_reducible refine (HE.out _ HBX.out).mono ?_)
    rintro e w4 ⟨rfl, q, rfl⟩
    go_wp2_with fail
    go_ret
    exact ⟨rfl, below_drewN HBX.out _⟩
  · have hfin := HRS.out false (fun h => absurd h hss) (fun _ => rfl)
    have hb : (s1 == s2) = false := by simpa using hss
    rw [← hfin]
    clear hfin
    go_enter Tryz.func55, Tryz.ntmps55
    go_wp2_with fail
    go_ret
    exact ⟨rfl, HBX.out⟩

/-- The reference's Same, at big integers that are right. -/
theorem refSame_len {x y : Int} (h : (D (ab x)).length ≠ (D (ab y)).length) : decide (x = y) = false := by
  rw [decide_eq_false_iff_not]; rintro rfl; exact h rfl
theorem refSame_sgn {x y : Int} (h : sgn x ≠ sgn y) : decide (x = y) = false := by
  rw [decide_eq_false_iff_not]; rintro rfl; exact h rfl

set_option maxRecDepth 100000 in
set_option maxHeartbeats 2000000 in
theorem refSame_any (x y : Int) (vx vy : Value) (w : World) (hx : BV w w.heap.size vx x) (hy : BV w w.heap.size vy y) :
    Calls Tryz.prog 82 #[vx, vy] w fun e w' => e = .returned (.bool (decide (x = y))) ∧ Below w.heap.size w w' := by
  obtain ⟨A1, c1, rfl, hc1, hm1, hI1⟩ := hx
  obtain ⟨A2, c2, rfl, hc2, hm2, hI2⟩ := hy
  have hbx : Below w.heap.size w ((w.alloc (.cells #[.int .i64 (sgn x), .slice A1 (D (ab x)).length c1] 39)).alloc (.cells #[.int .i64 (sgn y), .slice A2 (D (ab y)).length c2] 39)) := ((Below.refl _ _).alloc (Nat.le_refl _) _).alloc (by simp) _
  by_cases hss : sgn x = sgn y
  · by_cases hll : (D (ab x)).length = (D (ab y)).length
    · have hdec : ∀ b : Bool, (D (ab x) = D (ab y) → b = true) → (D (ab x) ≠ D (ab y) → b = false) → b = decide (x = y) := by
        intro b h1 h2
        by_cases hd : D (ab x) = D (ab y)
        · rw [h1 hd]; symm; rw [decide_eq_true_iff]; exact same_iff.1 ⟨hss, hd⟩
        · rw [h2 hd]; symm; rw [decide_eq_false_iff_not]; exact fun h => hd (same_iff.2 h).2
      rw [← hss, ← hll] at hbx ⊢
      obtain ⟨lx, hlx⟩ : ∃ l, D (ab x) = l := ⟨_, rfl⟩
      obtain ⟨ly, hly⟩ : ∃ l, D (ab y) = l := ⟨_, rfl⟩
      rw [hlx, hly] at hdec hll
      rw [hlx] at hbx hI1 hc1 ⊢
      rw [hly] at hI2 hc2
      obtain ⟨n, hn⟩ : ∃ n, lx.length = n := ⟨_, rfl⟩
      have hnn : lx.length ≤ n ∧ n ≤ lx.length ∧ ly.length ≤ n ∧ n ≤ ly.length := by omega
      rw [hn] at hbx hc1 ⊢
      obtain ⟨s, hs⟩ : ∃ s, sgn x = s := ⟨_, rfl⟩
      rw [hs] at hbx ⊢
      have hnm : n ≤ 9223372036854775807 := by omega
      obtain ⟨W, hW⟩ : ∃ W, W = (w.alloc (.cells #[.int .i64 s, .slice A1 n c1] 39)).alloc (.cells #[.int .i64 s, .slice A2 n c2] 39) := ⟨_, rfl⟩
      obtain ⟨W', hW', _, k1, k2, _⟩ := boxes2 w #[.int .i64 s, .slice A1 n c1] #[.int .i64 s, .slice A2 n c2]
      rw [← hW'] at hW
      subst hW
      have HDEC := Lib.hid hdec
      clear hdec hn hs hll hlx hly hss hc1 hc2
      go_enter Tryz.func82, Tryz.ntmps82
      go_wp2_with fail
      rw [← hW'] at hbx ⊢
      clear hW'
      go_loopw [5] (fun i wr => ∃ k : Nat, k ≤ n ∧ i = .int .i64 k ∧ Hid (lx.take k = ly.take k) ∧ ∃ q, wr = W.drewN q) (fun i _ => n - (intOf i).toNat)
      case atStart => exact ⟨0, Nat.zero_le _, rfl, Lib.hid rfl, 0, rfl⟩
      case round =>
        obtain ⟨k, hk, rfl, ht, q, rfl⟩ := hrel
        have j1 : (W.drewN q).cell? ⟨w.heap.size, 1, none⟩ = some (.slice A1 n c1) := k1.cell 1
        have j2 : (W.drewN q).cell? ⟨w.heap.size + 1, 1, none⟩ = some (.slice A2 n c2) := k2.cell 1
        by_cases hlt : k < n
        · obtain ⟨b1, o1, hA1, hB1, hk1⟩ := hI1 k (by omega)
          obtain ⟨b2, o2, hA2, hB2, hk2⟩ := hI2 k (by omega)
          subst hA1; subst hA2
          have hk1 : (W.drewN q).cell? ⟨b1, o1 + k, none⟩ = some (.int .i64 (lx.getD k 0)) := (hbx.cell (p := ⟨b1, o1 + k, none⟩) hB1).trans hk1
          have hk2 : (W.drewN q).cell? ⟨b2, o2 + k, none⟩ = some (.int .i64 (ly.getD k 0)) := (hbx.cell (p := ⟨b2, o2 + k, none⟩) hB2).trans hk2
          have jW1 : W.cell? ⟨w.heap.size, 1, none⟩ = some (.slice (some ⟨b1, o1, none⟩) n c1) := k1.cell 1
          have jW2 : W.cell? ⟨w.heap.size + 1, 1, none⟩ = some (.slice (some ⟨b2, o2, none⟩) n c2) := k2.cell 1
          have hkW1 : W.cell? ⟨b1, o1 + k, none⟩ = some (.int .i64 (lx.getD k 0)) := hk1
          have hkW2 : W.cell? ⟨b2, o2 + k, none⟩ = some (.int .i64 (ly.getD k 0)) := hk2
          have e1 := take_snoc (l := lx) (k := k) (by omega)
          have e2 := take_snoc (l := ly) (k := k) (by omega)
          have hne : lx.getD k 0 ≠ ly.getD k 0 → lx ≠ ly := fun h e => h (by rw [e])
          obtain ⟨u, hu⟩ : ∃ u, lx.getD k 0 = u := ⟨_, rfl⟩
          obtain ⟨v, hv⟩ : ∃ u, ly.getD k 0 = u := ⟨_, rfl⟩
          rw [hu] at hk1 e1 hne hkW1
          rw [hv] at hk2 e2 hne hkW2
          clear hu hv
          have HE1 := Lib.hid e1; clear e1
          have HE2 := Lib.hid e2; clear e2
          have HNE := Lib.hid hne; clear hne
          by_cases huv : u = v
          · subst huv
            go_wp2_with fail
            go_quiet (fail)
            go_wp2_with fail
            go_roundw
            case rel => exact ⟨k + 1, by omega, by go_num, Lib.hid (by rw [HE1.out, HE2.out, ht.out]), _, rfl⟩
            case measure => simp [intOf]; omega
          · have huv' : (u != v) = true := by simpa using huv
            go_wp2_with fail
            go_quiet (fail)
            go_wp2_with fail
            go_ret
            exact ⟨by rw [← HDEC.out false (fun h => absurd h (HNE.out huv)) (fun _ => rfl)]; rfl, below_drewN (below_drewN hbx _) _⟩
        · have : k = n := by omega
          subst this
          have he := ht.out
          rw [List.take_of_length_le (l := lx) (by omega), List.take_of_length_le (l := ly) (by omega)] at he
          have HE := Lib.hid he; clear he
          go_wp2_with fail
          go_ret
          exact ⟨by rw [← HDEC.out true (fun _ => rfl) (fun h => absurd HE.out h)]; rfl, below_drewN hbx _⟩
    · rw [refSame_len hll]
      obtain ⟨n1, hn1⟩ : ∃ n, (D (ab x)).length = n := ⟨_, rfl⟩
      obtain ⟨n2, hn2⟩ : ∃ n, (D (ab y)).length = n := ⟨_, rfl⟩
      rw [hn1, hn2] at hll hbx
      rw [hn1, hn2]
      rw [← hss] at hbx ⊢
      obtain ⟨s, hs⟩ : ∃ s, sgn x = s := ⟨_, rfl⟩
      rw [hs] at hbx ⊢
      have hd : decide (n1 = n2) = false := by simpa using hll
      have HBX := Lib.hid hbx
      clear hn1 hn2 hs hss hbx hI1 hI2 hc1 hc2
      go_enter Tryz.func82, Tryz.ntmps82
      go_wp2_with fail
      go_ret
      exact ⟨rfl, HBX.out⟩
  · rw [refSame_sgn hss]
    obtain ⟨n1, hn1⟩ : ∃ n, (D (ab x)).length = n := ⟨_, rfl⟩
    obtain ⟨n2, hn2⟩ : ∃ n, (D (ab y)).length = n := ⟨_, rfl⟩
    rw [hn1, hn2] at hbx
    rw [hn1, hn2]
    obtain ⟨s1, hs1⟩ : ∃ s, sgn x = s := ⟨_, rfl⟩
    obtain ⟨s2, hs2⟩ : ∃ s, sgn y = s := ⟨_, rfl⟩
    rw [hs1, hs2] at hss hbx
    rw [hs1, hs2]
    have hd : (s1 != s2) = true := by simpa using hss
    have HBX := Lib.hid hbx
    clear hn1 hn2 hs1 hs2 hss hbx hI1 hI2 hc1 hc2
    go_enter Tryz.func82, Tryz.ntmps82
    go_wp2_with fail
    go_ret
    exact ⟨rfl, HBX.out⟩

end Go.Proofs.YtgpmmpajnfbecaaGreat

namespace Go.Proofs.YtgpmmpajnfbecaaGreat
open Go.RowKit

end Go.Proofs.YtgpmmpajnfbecaaGreat

namespace Go.Proofs.YtgpmmpajnfbecaaGreat
open Go.RowKit

set_option maxRecDepth 100000 in
set_option maxHeartbeats 1000000 in
theorem neg_any (x : Int) (vx : Value) (w : World) (hx : BV w w.heap.size vx x) (hx6 : ab x < pw 60) :
    Calls Tryz.prog 92 #[vx] w (OfP (-x) w) := by
  obtain ⟨A1, c1, rfl, hc1, hm1, hI1⟩ := hx
  have hl1 := len60 hx6
  have hr1 := fun (w' : World) (hb : Below w.heap.size w w') => right_any (sgn x) (D (ab x)) A1 c1 w' ((hI1.below hb).more hb.size) (by omega) true (by simp [rightP_of hx6])
  have hclo := fun (w' : World) (hb : Below w.heap.size w w') => clone_any (D (ab x)) A1 c1 w' ((hI1.below hb).more hb.size) (by omega)
  rw [← ab_neg x] at hclo
  have hnum := fun A c w' => number_any (-x) (-sgn x) A c w' (fun _ => (sgn_neg x).symm)
  have HNUM := Lib.hid hnum; clear hnum
  rw [ab_neg x] at hclo
  obtain ⟨l, hl⟩ : ∃ l, D (ab x) = l := ⟨_, rfl⟩
  have hlz : D (ab (-x)) = l := by rw [ab_neg, hl]
  have HLZ := Lib.hid hlz; clear hlz
  rw [hl] at hr1 hclo ⊢
  obtain ⟨n1, hn1⟩ : ∃ n, l.length = n := ⟨_, rfl⟩
  have HN1 := Lib.hid hn1
  rw [hn1] at hr1 hclo ⊢
  have hs1 := sgn_bd x
  obtain ⟨s1, hs1e⟩ : ∃ s, sgn x = s := ⟨_, rfl⟩
  rw [hs1e] at hr1 hs1 HNUM ⊢
  have HR1 := Lib.hid hr1; clear hr1
  have HCLO := Lib.hid hclo; clear hclo
  clear hn1 hs1e hI1 hx6 hc1 hl hl1
  go_enter Tryz.func92, Tryz.ntmps92
  go_wp2_with fail
  obtain ⟨w1, hw1, hb1, k1, k3, hsz⟩ := boxes2 w #[.int .i64 s1, .slice A1 n1 c1] #[.int .i64 0, .slice none 0 0]
  rw [← hw1]
  clear hw1
  (with_reducible refine (HR1.out w1 hb1).mono ?_)
  rintro e w3 ⟨rfl, hb2⟩
  have k1 := k1.below hb2 k1.lt
  have k3 := k3.below hb2 k3.lt
  have hs3' := hb2.size
  have hb3 := hb1.trans (hb2.mono hb1.size)
  clear hb1 hb2 HR1
  obtain ⟨g, hg⟩ : ∃ g, w.heap.size + 1 = g := ⟨_, rfl⟩
  have hgw : w.heap.size < g ∧ g < w3.heap.size := by have := k3.lt; omega
  rw [hg] at k3 ⊢
  clear hg hsz hs3'
  have e0 : ∀ W' : World, Below g w3 W' → W'.cell? ⟨w.heap.size, 0, none⟩ = some (.int .i64 s1) ∧ W'.cell? ⟨w.heap.size, 1, none⟩ = some (.slice A1 n1 c1) ∧ Below g w3 W' := fun W' hW =>
    ⟨(k1.below hW (by omega)).cell 0, (k1.below hW (by omega)).cell 1, hW⟩
  have E0 := Lib.hid e0; clear e0
  have hwm : IntKind.i64.wrap (-s1) = -s1 := IntWalk.i64_in _ (by omega)
  have hB00 : Below g w3 w3.drew := (Below.refl _ _).drew
  have hB01 : Below w3.heap.size w3 w3.drew := (Below.refl _ _).drew
  go_wp2_with fail
  go_region_held3 (fun W' => W'.cell? ⟨w.heap.size, 0, none⟩ = some (.int .i64 s1) ∧ W'.cell? ⟨w.heap.size, 1, none⟩ = some (.slice A1 n1 c1) ∧ Below g w3 W')
    (first | exact E0.out _ (by assumption) | exact E0.out _ ⟨rfl, rfl, rfl, Nat.le_refl _, fun _ _ => rfl⟩)
    (first
      | (go_at_call 94; refine (HCLO.out w3.drew ⟨hb3.os, hb3.tape, hb3.output, hb3.size, hb3.block⟩).mono ?_; rintro e w4 ⟨v4, rfl, hown4, hb4⟩; have hB4 : Below w3.heap.size w3 w4 := ⟨hb4.os, hb4.tape, hb4.output, hb4.size, hb4.block⟩; have hB4g : Below g w3 w4 := hB4.mono (by omega); rw [← HLZ.out] at hown4; obtain ⟨A4, c4, rfl, hc4, hm4, hI4⟩ := hown4.at_)
      | (go_at_call 77; refine (HNUM.out _ _ _).mono ?_; rintro e w5 ⟨r, rfl, hr, hb5⟩; have HR := Lib.hid hr; obtain ⟨s', A', n', c', rfl⟩ := hr.form; clear hr; have hB5 : Below w3.heap.size w3 w5 := hB4.trans (hb5.mono hB4.size); have hB5g : Below g w3 w5 := hB5.mono (by omega); have hbk := k3.below hB5 (by omega); have q0 : w5.cell? ⟨g, 0, none⟩ = some (.int .i64 0) := hbk.cell 0; have q1 : w5.cell? ⟨g, 1, none⟩ = some (.slice none 0 0) := hbk.cell 1; have f0 := hbk.frozen 0; have f1 := hbk.frozen 1; have hB6 := (hB5g.setCell (p := ⟨g, 0, none⟩) (Nat.le_refl _) (.int .i64 s')).setCell (p := ⟨g, 1, none⟩) (Nat.le_refl _) (.slice A' n' c')))
  have hbs := hbk.set2 (.int .i64 s') (.slice A' n' c')
  have hd0 := hbs.cell 0
  have hd1 := hbs.cell 1
  simp at hd0 hd1
  go_wp2_with fail
  refine bodyPost_ret (v := .agg #[.int .i64 s', .slice A' n' c']) (by simp [results, Tryz.results92, go_sem, hd0, hd1]) rfl ?_
  have hof := (hown4.below hb5).far2 (g := g) (by first | omega | (simp; omega)) (.int .i64 s') (.slice A' n' c')
  exact ⟨_, rfl, HR.out.bo (hof.mono (by have := hb3.size; first | omega | (simp; omega))), hb3.trans (hB6.mono (by omega))⟩

def GcdP (x y : Int) (w : World) (e : Ending) (w' : World) : Prop := ∃ r, e = .returned (.tuple #[r, .int .i64 0]) ∧ BO w' w.heap.size r (Int.gcd x y) ∧ Below w.heap.size w w'

set_option maxRecDepth 100000 in
set_option maxHeartbeats 1000000 in
theorem gcd_any (x y : Int) (vx vy : Value) (w : World) (hx : BV w w.heap.size vx x) (hy : BV w w.heap.size vy y) (hx6 : ab x < pw 60) (hy6 : ab y < pw 60) :
    Calls Tryz.prog 54 #[vx, vy] w (GcdP x y w) := by
  obtain ⟨A1, c1, rfl, hc1, hm1, hI1⟩ := hx
  obtain ⟨A2, c2, rfl, hc2, hm2, hI2⟩ := hy
  have hl1 := len60 hx6
  have hl2 := len60 hy6
  have hr1 := fun (w' : World) (hb : Below w.heap.size w w') => right_any (sgn x) (D (ab x)) A1 c1 w' ((hI1.below hb).more hb.size) (by omega) true (by simp [rightP_of hx6])
  have hr2 := fun (w' : World) (hb : Below w.heap.size w w') => right_any (sgn y) (D (ab y)) A2 c2 w' ((hI2.below hb).more hb.size) (by omega) true (by simp [rightP_of hy6])
  have hcm := fun (w' : World) (hb : Below w.heap.size w w') => common_any (ab x) (ab y) A1 A2 c1 c2 w' ((hI1.below hb).more hb.size) ((hI2.below hb).more hb.size) hc1 hc2 hm1 hm2 (ab_nonneg _) (ab_nonneg _) (by omega) (by omega)
  have hgg : Int.gcd (ab x) (ab y) = Int.gcd x y := by unfold Int.gcd ab; simp
  rw [hgg] at hcm
  obtain ⟨G, hG⟩ : ∃ G : Int, (Int.gcd x y : Int) = G := ⟨_, rfl⟩
  have hG0 : 0 ≤ G := by omega
  have haG : ab G = G := by unfold ab; omega
  rw [hG, ← haG] at hcm
  unfold GcdP
  rw [hG]
  have hnum := fun A c w' => number_any G 1 A c w' (fun h => (sgn_pos (by omega)).symm)
  have HNUM := Lib.hid hnum; clear hnum
  obtain ⟨n1, hn1⟩ : ∃ n, (D (ab x)).length = n := ⟨_, rfl⟩
  obtain ⟨n2, hn2⟩ : ∃ n, (D (ab y)).length = n := ⟨_, rfl⟩
  rw [hn1] at hr1 hcm ⊢
  rw [hn2] at hr2 hcm ⊢
  obtain ⟨s1, hs1e⟩ : ∃ s, sgn x = s := ⟨_, rfl⟩
  obtain ⟨sy, hs2e⟩ : ∃ s, sgn y = s := ⟨_, rfl⟩
  rw [hs1e] at hr1 ⊢
  rw [hs2e] at hr2 ⊢
  have HR1 := Lib.hid hr1; clear hr1
  have HR2 := Lib.hid hr2; clear hr2
  have HCM := Lib.hid hcm; clear hcm
  clear hn1 hn2 hs1e hs2e hI1 hI2 hx6 hy6 hc1 hc2 hgg hG haG hl1 hl2
  go_enter Tryz.func54, Tryz.ntmps54
  go_wp2_with fail
  obtain ⟨w1, hw1, hb1, k1, k2, k3, hsz⟩ := boxes3 w #[.int .i64 s1, .slice A1 n1 c1] #[.int .i64 sy, .slice A2 n2 c2] #[.int .i64 0, .slice none 0 0]
  rw [← hw1]
  clear hw1
  (with_reducible refine (HR1.out w1 hb1).mono ?_)
  rintro e w2 ⟨rfl, hb2⟩
  have k1 := k1.below hb2 k1.lt
  have k2 := k2.below hb2 k2.lt
  have k3 := k3.below hb2 k3.lt
  have hs2' := hb2.size
  have hb2 := hb1.trans (hb2.mono hb1.size)
  have j1 : w2.cell? ⟨w.heap.size + 1, 0, none⟩ = some (.int .i64 sy) := k2.cell 0
  have j2 : w2.cell? ⟨w.heap.size + 1, 1, none⟩ = some (.slice A2 n2 c2) := k2.cell 1
  go_wp2_with fail
  (with_reducible refine (HR2.out w2 hb2).mono ?_)
  rintro e w3 ⟨rfl, hb3⟩
  clear j1 j2
  have k1 := k1.below hb3 k1.lt
  have k2 := k2.below hb3 k2.lt
  have k3 := k3.below hb3 k3.lt
  have hs3' := hb3.size
  have hb3 := hb2.trans (hb3.mono hb2.size)
  clear hb1 hb2 HR1 HR2
  obtain ⟨g, hg⟩ : ∃ g, w.heap.size + 1 + 1 = g := ⟨_, rfl⟩
  have hgw : w.heap.size + 1 < g ∧ g < w3.heap.size := by have := k3.lt; omega
  rw [hg] at k3 ⊢
  clear hg hsz hs2' hs3'
  have j1 : w3.cell? ⟨w.heap.size, 1, none⟩ = some (.slice A1 n1 c1) := k1.cell 1
  have j3 : w3.cell? ⟨w.heap.size + 1, 1, none⟩ = some (.slice A2 n2 c2) := k2.cell 1
  go_wp2_with fail
  (with_reducible refine (HCM.out w3 hb3).mono ?_)
  rintro e w4 ⟨v4, rfl, hown4, hb4⟩
  obtain ⟨A4, c4, rfl, hc4, hm4, hI4⟩ := hown4.at_
  go_wp2_with fail
  (with_reducible refine (HNUM.out _ _ _).mono ?_)
  rintro e w5 ⟨r, rfl, hr, hb5⟩
  have HR := Lib.hid hr
  obtain ⟨s', A', n', c', rfl⟩ := hr.form
  clear hr
  have hB5 : Below w3.heap.size w3 w5 := hb4.trans (hb5.mono hb4.size)
  have hbk := k3.below hB5 (by omega)
  have q0 : w5.cell? ⟨g, 0, none⟩ = some (.int .i64 0) := hbk.cell 0
  have q1 : w5.cell? ⟨g, 1, none⟩ = some (.slice none 0 0) := hbk.cell 1
  have f0 := hbk.frozen 0
  have f1 := hbk.frozen 1
  have hB6 := ((hB5.mono (B' := g) (by omega)).setCell (p := ⟨g, 0, none⟩) (Nat.le_refl _) (.int .i64 s')).setCell (p := ⟨g, 1, none⟩) (Nat.le_refl _) (.slice A' n' c')
  have hbs := hbk.set2 (.int .i64 s') (.slice A' n' c')
  have hd0 := hbs.cell 0
  have hd1 := hbs.cell 1
  simp at hd0 hd1
  go_wp2_with fail
  refine bodyPost_ret (v := .tuple #[.agg #[.int .i64 s', .slice A' n' c'], .int .i64 0]) (by simp [results, Tryz.results54, go_sem, hd0, hd1]) rfl ?_
  have hof := (hown4.below hb5).far2 (g := g) (by first | omega | (simp; omega)) (.int .i64 s') (.slice A' n' c')
  exact ⟨_, rfl, HR.out.bo (hof.mono (by have := hb3.size; first | omega | (simp; omega))), hb3.trans (hB6.mono (by omega))⟩

end Go.Proofs.YtgpmmpajnfbecaaGreat
