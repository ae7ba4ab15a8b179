/- Walks: the reference's Took, Pass, Last. -/
import Derived.Test.YteiojobgjdfdpaaCd
namespace Go.Proofs.Yteiojobgjdfdpaa
open Go.RowKit

theorem rright_yes (a : Arc) (A A' : Option Addr) (c c' : Nat) (w : World) (hM : ArcM w a A A') (h : a.ok) :
    Calls Try.prog 47 #[.agg #[.int .i64 a.f, .int .i64 a.t, .slice A 24 c, .slice A' 24 c']] w fun e w' => e = .returned (.bool true) ∧ Below w.heap.size w w' := by
  have hR := rright_any a A A' c c' w hM true (by simp [h])
  rwa [h.2.2.1, h.2.2.2.1] at hR
theorem rright_no (a : Arc) (A A' : Option Addr) (c c' n m : Nat) (w : World) (hM : ArcM w a A A') (h : ¬ a.ok) (hn : a.lo.length = n) (hm : a.hi.length = m) :
    Calls Try.prog 47 #[.agg #[.int .i64 a.f, .int .i64 a.t, .slice A n c, .slice A' m c']] w fun e w' => e = .returned (.bool false) ∧ Below w.heap.size w w' := by
  subst hn; subst hm
  exact rright_any a A A' c c' w hM false (by simp [h])

set_option maxRecDepth 100000 in
set_option maxHeartbeats 4000000 in
theorem rtook_yes (a : Arc) (A A' : Option Addr) (c c' : Nat) (b : Bool) (t : Int) (w : World) (hM : ArcM w a A A') (h : a.ok) (ht : IsT t) :
    Calls Try.prog 71 #[.agg #[.int .i64 a.f, .int .i64 a.t, .slice A 24 c, .slice A' 24 c'], .int .i64 t, .bool b] w fun e w' => e = .returned (.int .i64 (a.mm b t)) ∧ Below w.heap.size w w' := by
  have hA0 : Below w.heap.size w (w.alloc (.cells #[.int .i64 a.f, .int .i64 a.t, .slice A 24 c, .slice A' 24 c'] 39)) := (Below.refl _ _).alloc (Nat.le_refl _) _
  have HK := Lib.hid (Blk.new w 39 #[.int .i64 a.f, .int .i64 a.t, .slice A 24 c, .slice A' 24 c'])
  have HM := Lib.hid hM; clear hM
  obtain ⟨ht0, ht1⟩ := ht
  have HH := Lib.hid h; clear h
  have hmm : a.mm b t = (a.row b).getD (hr t) 0 := rfl
  obtain ⟨z, hz⟩ : ∃ z, a.mm b t = z := ⟨_, rfl⟩
  rw [hz] at hmm ⊢
  have HMM := Lib.hid hmm; clear hmm hz
  go_enter Try.func71, Try.ntmps71
  go_wp2_with fail
  refine (rright_yes a A A' c c' _ (HM.out.below hA0) HH.out).mono ?_
  rintro e w1 ⟨rfl, hb1⟩
  have hB1 := hA0.trans (hb1.mono hA0.size)
  have HK1 := Lib.hid (HK.out.below hb1 (by simp))
  obtain ⟨k0, k1, k2, k3⟩ := box_cells HK1.out
  have HM1 := Lib.hid ((HM.out.below hA0).below hb1)
  have HB1 := Lib.hid hB1
  clear hb1 hA0 hB1
  go_wp2_with fail
  refine (rTime_any t _ true (by simp; omega)).mono ?_
  rintro e w2 ⟨rfl, rfl⟩
  have HQ : Hid (∀ q, Calls Try.prog 80 #[.int .i64 t] (w1.drewN q) fun e w' => e = .returned (.int .i64 (hr t)) ∧ w' = w1.drewN q) := Lib.hid (fun q => (rHour_any t (w1.drewN q) ht0 (by omega)).mono (by rintro e w' ⟨rfl, rfl⟩; exact ⟨rfl, rfl⟩))
  have hlt := hr_lt t
  have hlt0 : ((hr t : Nat) : Int) < 24 := by omega
  obtain ⟨b1, o1, rfl, hb1, c1⟩ := HM1.out.lo.get (k := hr t) (by rw [HH.out.2.2.1]; exact hlt)
  obtain ⟨b2, o2, rfl, hb2, c2⟩ := HM1.out.hi.get (k := hr t) (by rw [HH.out.2.2.2.1]; exact hlt)
  obtain ⟨h, hh⟩ : ∃ h, hr t = h := ⟨_, rfl⟩
  rw [hh] at HQ hlt hlt0 c1 c2 HMM
  clear hh
  obtain ⟨x, hx⟩ : ∃ x, a.lo.getD h 0 = x := ⟨_, rfl⟩
  obtain ⟨y, hy⟩ : ∃ y, a.hi.getD h 0 = y := ⟨_, rfl⟩
  rw [hx] at c1
  rw [hy] at c2
  have HX := Lib.hid (And.intro hx hy); clear hx hy
  cases b
  · have e : z = x := by rw [HMM.out]; exact HX.out.1
    subst e
    go_wp2_with fail
    go_quiet ((go_at_call 80; exact Calls.quiet_of_same (HQ.out _)))
    go_wp2_with fail
    go_ret
    exact ⟨by rfl, below_drewN HB1.out _⟩
  · have e : z = y := by rw [HMM.out]; exact HX.out.2
    subst e
    go_wp2_with fail
    go_quiet ((go_at_call 80; exact Calls.quiet_of_same (HQ.out _)))
    go_wp2_with fail
    go_ret
    exact ⟨by rfl, below_drewN HB1.out _⟩

set_option maxRecDepth 100000 in
set_option maxHeartbeats 4000000 in
theorem rtook_bad (a : Arc) (A A' : Option Addr) (c c' n m : Nat) (b : Bool) (t : Int) (w : World) (hM : ArcM w a A A') (h : ¬ a.ok) (hn : a.lo.length = n) (hm : a.hi.length = m) :
    Calls Try.prog 71 #[.agg #[.int .i64 a.f, .int .i64 a.t, .slice A n c, .slice A' m c'], .int .i64 t, .bool b] w fun e w' => e = .returned (.int .i64 (-1)) ∧ Below w.heap.size w w' := by
  have hA0 : Below w.heap.size w (w.alloc (.cells #[.int .i64 a.f, .int .i64 a.t, .slice A n c, .slice A' m c'] 39)) := (Below.refl _ _).alloc (Nat.le_refl _) _
  have HR := Lib.hid (rright_no a A A' c c' n m _ (hM.below hA0) h hn hm)
  clear hM h hn hm
  go_enter Try.func71, Try.ntmps71
  go_wp2_with fail
  refine HR.out.mono ?_
  rintro e w1 ⟨rfl, hb1⟩
  go_wp2_with fail
  go_ret
  exact ⟨by rfl, hA0.trans (hb1.mono hA0.size)⟩

set_option maxRecDepth 100000 in
set_option maxHeartbeats 4000000 in
theorem rtook_out (a : Arc) (A A' : Option Addr) (c c' : Nat) (b : Bool) (t : Int) (w : World) (hM : ArcM w a A A') (h : a.ok) (ht : ¬ IsT t) :
    Calls Try.prog 71 #[.agg #[.int .i64 a.f, .int .i64 a.t, .slice A 24 c, .slice A' 24 c'], .int .i64 t, .bool b] w fun e w' => e = .returned (.int .i64 (-1)) ∧ Below w.heap.size w w' := by
  have hA0 : Below w.heap.size w (w.alloc (.cells #[.int .i64 a.f, .int .i64 a.t, .slice A 24 c, .slice A' 24 c'] 39)) := (Below.refl _ _).alloc (Nat.le_refl _) _
  have HR := Lib.hid (rright_yes a A A' c c' _ (hM.below hA0) h)
  have HT := Lib.hid (fun w => rTime_any t w false (by unfold IsT at ht; exact (decide_eq_false ht).symm))
  clear hM h ht
  go_enter Try.func71, Try.ntmps71
  go_wp2_with fail
  refine HR.out.mono ?_
  rintro e w1 ⟨rfl, hb1⟩
  go_wp2_with fail
  refine (HT.out _).mono ?_
  rintro e w2 ⟨rfl, rfl⟩
  go_wp2_with fail
  go_ret
  exact ⟨by rfl, hA0.trans (hb1.mono hA0.size)⟩

/-- Took, whatever the arc. -/
theorem rtook_any (a : Arc) (A A' : Option Addr) (c c' : Nat) (b : Bool) (t : Int) (w : World) (hM : ArcM w a A A') :
    Calls Try.prog 71 #[.agg #[.int .i64 a.f, .int .i64 a.t, .slice A a.lo.length c, .slice A' a.hi.length c'], .int .i64 t, .bool b] w fun e w' => e = .returned (.int .i64 (a.took b t)) ∧ Below w.heap.size w w' := by
  by_cases h : a.ok
  · rw [h.2.2.1, h.2.2.2.1]
    by_cases ht : IsT t
    · rw [Arc.took_yes h ht]
      exact rtook_yes a A A' c c' b t w hM h ht
    · rw [Arc.took_no (fun hh => ht hh.2)]
      exact rtook_out a A A' c c' b t w hM h ht
  · rw [Arc.took_no (fun hh => h hh.1)]
    exact rtook_bad a A A' c c' _ _ b t w hM h rfl rfl

set_option maxRecDepth 100000 in
set_option maxHeartbeats 4000000 in
theorem rpass_yes (a : Arc) (A A' : Option Addr) (c c' : Nat) (b : Bool) (t : Int) (w : World) (hM : ArcM w a A A') (h : a.ok) (ht : IsT t) :
    Calls Try.prog 42 #[.agg #[.int .i64 a.f, .int .i64 a.t, .slice A 24 c, .slice A' 24 c'], .int .i64 t, .bool b] w fun e w' => ∃ z, e = .returned (.int .i64 z) ∧ Hid (Arr a b t z) ∧ 0 ≤ z ∧ z ≤ t + 600 ∧ Below w.heap.size w w' := by
  have hA0 : Below w.heap.size w (w.alloc (.cells #[.int .i64 a.f, .int .i64 a.t, .slice A 24 c, .slice A' 24 c'] 39)) := (Below.refl _ _).alloc (Nat.le_refl _) _
  have HK := Lib.hid (Blk.new w 39 #[.int .i64 a.f, .int .i64 a.t, .slice A 24 c, .slice A' 24 c'])
  have HM := Lib.hid hM; clear hM
  have HT := Lib.hid ht
  obtain ⟨ht0, ht1⟩ := ht
  have HH := Lib.hid h; clear h
  go_enter Try.func42, Try.ntmps42
  go_wp2_with fail
  refine (rtook_yes a A A' c c' b t _ (HM.out.below hA0) HH.out HT.out).mono ?_
  rintro e w1 ⟨rfl, hb1⟩
  have hB1 := hA0.trans (hb1.mono hA0.size)
  have HK1 := Lib.hid (HK.out.below hb1 (by simp))
  have HTI := Lib.hid (Till.one (a := a) (b := b) HT.out)
  obtain ⟨hm0, hm1⟩ := HH.out.mm b t
  obtain ⟨z0, hz0⟩ : ∃ z, a.mm b t = z := ⟨_, rfl⟩
  rw [hz0] at HTI hm0 hm1 ⊢
  clear hz0
  go_wp2_with fail
  have HB1 := Lib.hid hB1
  clear HK hb1 hB1 hA0
  go_loopw [8, 9] (fun zv uv wr => ∃ z u : Int, zv = .int .i64 z ∧ uv = .int .i64 u ∧ t < u ∧ u ≤ 1048577 ∧ 0 ≤ z ∧ z ≤ t + 600 ∧ Hid (Till a b t u z) ∧ Hid (Below w.heap.size w wr) ∧ Hid (Blk wr w.heap.size 39 #[.int .i64 a.f, .int .i64 a.t, .slice A 24 c, .slice A' 24 c'])) (fun _ uv _ => (1048600 - intOf uv).toNat)
  case atStart => exact ⟨t + z0, t + 1, rfl, rfl, by omega, by omega, by omega, by omega, HTI, HB1, HK1⟩
  case round =>
    obtain ⟨z, u, rfl, rfl, hu0, hu1, hz0, hz1, hI, hB, hK⟩ := hrel
    by_cases hgo : u ≤ z
    · by_cases hgt : u ≤ 1048576
      · obtain ⟨k0, k1, k2, k3⟩ := box_cells hK.out
        go_wp2_with fail
        refine (rtook_yes a A A' c c' b u _ (HM.out.below hB.out) HH.out ⟨by omega, hgt⟩).mono ?_
        rintro e w3 ⟨rfl, hb3⟩
        obtain ⟨hm0, hm1⟩ := HH.out.mm b u
        have HTI := Lib.hid (hI.out.minute (by omega) hgt)
        obtain ⟨y, hy⟩ : ∃ z, a.mm b u = z := ⟨_, rfl⟩
        rw [hy] at HTI hm0 hm1 ⊢
        clear hy k0 k1 k2 k3
        have hBn := Lib.hid (hB.out.trans (hb3.mono hB.out.size))
        have hKn := Lib.hid (hK.out.below hb3 hK.out.lt)
        clear hb3
        go_wp2_with fail
        go_roundw
        case rel => exact ⟨_, _, rfl, rfl, by omega, by omega, by omega, by omega, HTI, hBn, hKn⟩
        case measure => simp [intOf]; omega
      · go_wp2_with fail
        go_ret
        exact ⟨z, rfl, Lib.hid (hI.out.done HH.out (.inr (by omega))), hz0, hz1, hB.out⟩
    · go_wp2_with fail
      go_ret
      exact ⟨z, rfl, Lib.hid (hI.out.done HH.out (.inl (by omega))), hz0, hz1, hB.out⟩

set_option maxRecDepth 100000 in
set_option maxHeartbeats 4000000 in
theorem rpass_neg (n m : Nat) (f t0 : Int) (A A' : Option Addr) (c c' : Nat) (b : Bool) (t : Int) (w : World) (hT : ∀ w1, Below w.heap.size w w1 → Calls Try.prog 71 #[.agg #[.int .i64 f, .int .i64 t0, .slice A n c, .slice A' m c'], .int .i64 t, .bool b] w1 fun e w' => e = .returned (.int .i64 (-1)) ∧ Below w1.heap.size w1 w') :
    Calls Try.prog 42 #[.agg #[.int .i64 f, .int .i64 t0, .slice A n c, .slice A' m c'], .int .i64 t, .bool b] w fun e w' => e = .returned (.int .i64 (-1)) ∧ Below w.heap.size w w' := by
  have hA0 : Below w.heap.size w (w.alloc (.cells #[.int .i64 f, .int .i64 t0, .slice A n c, .slice A' m c'] 39)) := (Below.refl _ _).alloc (Nat.le_refl _) _
  have HT := Lib.hid hT; clear hT
  go_enter Try.func42, Try.ntmps42
  go_wp2_with fail
  refine (HT.out _ hA0).mono ?_
  rintro e w1 ⟨rfl, hb1⟩
  go_wp2_with fail
  go_ret
  exact ⟨by rfl, hA0.trans (hb1.mono hA0.size)⟩

/-- Pass, whatever the arc. -/
theorem rpass_any (a : Arc) (A A' : Option Addr) (c c' : Nat) (b : Bool) (t : Int) (w : World) (hM : ArcM w a A A') :
    Calls Try.prog 42 #[.agg #[.int .i64 a.f, .int .i64 a.t, .slice A a.lo.length c, .slice A' a.hi.length c'], .int .i64 t, .bool b] w fun e w' => ∃ z, e = .returned (.int .i64 z) ∧ Hid (PassP a b t z) ∧ Below w.heap.size w w' := by
  by_cases h : a.ok
  · by_cases ht : IsT t
    · rw [h.2.2.1, h.2.2.2.1]
      exact (rpass_yes a A A' c c' b t w hM h ht).mono fun e w' ⟨z, he, hz, _, _, hb⟩ => ⟨z, he, Lib.hid (.inl ⟨h, ht, hz.out⟩), hb⟩
    · exact (rpass_neg _ _ _ _ A A' c c' b t w (fun w1 hb => by
        have := rtook_any a A A' c c' b t w1 (hM.below hb)
        rwa [Arc.took_no (fun hh => ht hh.2)] at this)).mono fun e w' ⟨he, hb⟩ => ⟨-1, he, Lib.hid (.inr ⟨fun hh => ht hh.2, rfl⟩), hb⟩
  · exact (rpass_neg _ _ _ _ A A' c c' b t w (fun w1 hb => by
        have := rtook_any a A A' c c' b t w1 (hM.below hb)
        rwa [Arc.took_no (fun hh => h hh.1)] at this)).mono fun e w' ⟨he, hb⟩ => ⟨-1, he, Lib.hid (.inr ⟨fun hh => h hh.1, rfl⟩), hb⟩

set_option maxRecDepth 100000 in
set_option maxHeartbeats 4000000 in
theorem rlast_yes (a : Arc) (A A' : Option Addr) (c c' : Nat) (b : Bool) (y : Int) (w : World) (hM : ArcM w a A A') (h : a.ok) (hy8 : -9223372036854775808 ≤ y) (hy9 : y ≤ 9223372036854775807) :
    Calls Try.prog 45 #[.agg #[.int .i64 a.f, .int .i64 a.t, .slice A 24 c, .slice A' 24 c'], .int .i64 y, .bool b] w fun e w' => ∃ z, e = .returned (.int .i64 z) ∧ Hid (LastA a b y z) ∧ Below w.heap.size w w' := by
  have hA0 : Below w.heap.size w (w.alloc (.cells #[.int .i64 a.f, .int .i64 a.t, .slice A 24 c, .slice A' 24 c'] 39)) := (Below.refl _ _).alloc (Nat.le_refl _) _
  have HK := Lib.hid (Blk.new w 39 #[.int .i64 a.f, .int .i64 a.t, .slice A 24 c, .slice A' 24 c'])
  have HM := Lib.hid hM; clear hM
  have HH := Lib.hid h; clear h
  go_enter Try.func45, Try.ntmps45
  go_wp2_with fail
  refine (rright_yes a A A' c c' _ (HM.out.below hA0) HH.out).mono ?_
  rintro e w1 ⟨rfl, hb1⟩
  have hB1 := hA0.trans (hb1.mono hA0.size)
  have HK1 := Lib.hid (HK.out.below hb1 (by simp))
  have HO := Lib.hid (Over.first (b := b) (y := y) HH.out (min y 1048576 + 1) (by omega))
  have hs1 : -9223372036854775808 ≤ min y 1048576 := by omega
  have hs2 : min y 1048576 ≤ 1048576 := by omega
  go_wp2_with fail
  obtain ⟨s, hs⟩ : ∃ s, min y 1048576 = s := ⟨_, rfl⟩
  rw [hs] at HO hs1 hs2 ⊢
  clear hs
  have HB1 := Lib.hid hB1
  clear HK hb1 hB1 hA0
  go_loopw [7] (fun sv wr => ∃ s : Int, sv = .int .i64 s ∧ -9223372036854775808 ≤ s ∧ s ≤ 1048576 ∧ Hid (Over a b y (s + 1)) ∧ Hid (Below w.heap.size w wr) ∧ Hid (Blk wr w.heap.size 39 #[.int .i64 a.f, .int .i64 a.t, .slice A 24 c, .slice A' 24 c'])) (fun sv _ => (intOf sv + 1).toNat)
  case atStart => exact ⟨s, rfl, by omega, by omega, HO, HB1, HK1⟩
  case round =>
    obtain ⟨s, rfl, hs0, hs1, hI, hB, hK⟩ := hrel
    by_cases hgo : 0 ≤ s
    · obtain ⟨k0, k1, k2, k3⟩ := box_cells hK.out
      go_wp2_with fail
      refine (rpass_yes a A A' c c' b s _ (HM.out.below hB.out) HH.out ⟨hgo, hs1⟩).mono ?_
      rintro e w3 ⟨z, rfl, hz, hz0, hz1, hb3⟩
      have hBn := Lib.hid (hB.out.trans (hb3.mono hB.out.size))
      have hKn := Lib.hid (hK.out.below hb3 hK.out.lt)
      clear hb3
      by_cases hzy : z ≤ y
      · have HZ := Lib.hid (hI.out.stop ⟨hgo, hs1⟩ hz.out hzy)
        go_wp2_with fail
        go_ret
        exact ⟨_, by rfl, HZ, hBn.out⟩
      · have HZ := Lib.hid (show Over a b y (s - 1 + 1) by rw [show s - 1 + 1 = s by omega]; exact hI.out.step ⟨hgo, hs1⟩ hz.out (by omega))
        go_wp2_with fail
        go_roundw
        case rel => exact ⟨_, rfl, by omega, by omega, HZ, hBn, hKn⟩
        case measure => simp [intOf]; omega
    · go_wp2_with fail
      go_ret
      exact ⟨-1, rfl, Lib.hid (Over.none hI.out (by omega)), hB.out⟩

set_option maxRecDepth 100000 in
set_option maxHeartbeats 4000000 in
theorem rlast_bad (a : Arc) (A A' : Option Addr) (c c' n m : Nat) (b : Bool) (t : Int) (w : World) (hM : ArcM w a A A') (h : ¬ a.ok) (hn : a.lo.length = n) (hm : a.hi.length = m) :
    Calls Try.prog 45 #[.agg #[.int .i64 a.f, .int .i64 a.t, .slice A n c, .slice A' m c'], .int .i64 t, .bool b] w fun e w' => e = .returned (.int .i64 (-1)) ∧ Below w.heap.size w w' := by
  have hA0 : Below w.heap.size w (w.alloc (.cells #[.int .i64 a.f, .int .i64 a.t, .slice A n c, .slice A' m c'] 39)) := (Below.refl _ _).alloc (Nat.le_refl _) _
  have HR := Lib.hid (rright_no a A A' c c' n m _ (hM.below hA0) h hn hm)
  clear hM h hn hm
  go_enter Try.func45, Try.ntmps45
  go_wp2_with fail
  refine HR.out.mono ?_
  rintro e w1 ⟨rfl, hb1⟩
  go_wp2_with fail
  go_ret
  exact ⟨by rfl, hA0.trans (hb1.mono hA0.size)⟩

/-- Last, whatever the arc. -/
theorem rlast_any (a : Arc) (A A' : Option Addr) (c c' : Nat) (b : Bool) (y : Int) (w : World) (hM : ArcM w a A A') (hy8 : -9223372036854775808 ≤ y) (hy9 : y ≤ 9223372036854775807) :
    Calls Try.prog 45 #[.agg #[.int .i64 a.f, .int .i64 a.t, .slice A a.lo.length c, .slice A' a.hi.length c'], .int .i64 y, .bool b] w fun e w' => ∃ z, e = .returned (.int .i64 z) ∧ Hid (LastP a b y z) ∧ Below w.heap.size w w' := by
  by_cases h : a.ok
  · rw [h.2.2.1, h.2.2.2.1]
    exact (rlast_yes a A A' c c' b y w hM h hy8 hy9).mono fun e w' ⟨z, he, hz, hb⟩ => ⟨z, he, Lib.hid (.inl ⟨h, hz.out⟩), hb⟩
  · exact (rlast_bad a A A' c c' _ _ b y w hM h rfl rfl).mono fun e w' ⟨he, hb⟩ => ⟨-1, he, Lib.hid (.inr ⟨h, rfl⟩), hb⟩

end Go.Proofs.Yteiojobgjdfdpaa
