/- Walks: clock's Pass and Last. -/
import Derived.Test.YteiojobgjdfdpaaCb
namespace Go.Proofs.Yteiojobgjdfdpaa
open Go.RowKit

set_option maxRecDepth 100000 in
set_option maxHeartbeats 4000000 in
theorem pass_yes (a : Arc) (A A' : Option Addr) (c c' : Nat) (b : Bool) (t : Int) (w : World) (hM : ArcM w a A A') (h : a.ok) (ht : IsT t) :
    Calls Try.prog 24 #[.agg #[.int .i64 a.f, .int .i64 a.t, .slice A 24 c, .slice A' 24 c'], .int .i64 t, .bool b] w fun e w' => ∃ z, e = .returned (.int .i64 z) ∧ Hid (Arr a b t z) ∧ Below w.heap.size w w' := by
  have hA0 : Below w.heap.size w (w.alloc (.cells #[.int .i64 a.f, .int .i64 a.t, .slice A 24 c, .slice A' 24 c'] 39)) := (Below.refl _ _).alloc (Nat.le_refl _) _
  have HK := Lib.hid (Blk.new w 39 #[.int .i64 a.f, .int .i64 a.t, .slice A 24 c, .slice A' 24 c'])
  have HM := Lib.hid hM; clear hM
  have HT := Lib.hid ht
  obtain ⟨ht0, ht1⟩ := ht
  have HH := Lib.hid h; clear h
  go_enter Try.func24, Try.ntmps24
  go_wp2_with fail
  refine (right_yes a A A' c c' _ (HM.out.below hA0) HH.out).mono ?_
  rintro e w1 ⟨rfl, hb1⟩
  have hB1 := hA0.trans (hb1.mono hA0.size)
  have HK1 := Lib.hid (HK.out.below hb1 (by simp))
  obtain ⟨k0, k1, k2, k3⟩ := box_cells HK1.out
  go_wp2_with fail
  refine (isTime_any t _ true (by simp; omega)).mono ?_
  rintro e w2 ⟨rfl, rfl⟩
  go_wp2_with fail
  refine (minutes_any a A A' c c' b t _ ((HM.out.below hA0).below hb1) HH.out ht0 (by omega)).mono ?_
  rintro e w3 ⟨rfl, hb3⟩
  have hB3 := hB1.trans (hb3.mono hB1.size)
  have HK3 := Lib.hid (HK1.out.below hb3 HK1.out.lt)
  have HTI := Lib.hid (Till.first (a := a) (b := b) HT.out)
  obtain ⟨hm0, hm1⟩ := HH.out.mm b t
  obtain ⟨z0, hz0⟩ : ∃ z, a.mm b t = z := ⟨_, rfl⟩
  rw [hz0] at HTI hm0 hm1 ⊢
  clear hz0 k0 k1 k2 k3
  go_wp2_with fail
  refine (hourStart_any t _ ht0 (by omega)).mono ?_
  rintro e w2 ⟨rfl, rfl⟩
  have hs1 : t - 59 ≤ t - t % 60 := by omega
  have hs2 : t - t % 60 ≤ t := by omega
  have hs3 : (t - t % 60) % 60 = 0 := by omega
  obtain ⟨s, hs⟩ : ∃ s, t - t % 60 = s := ⟨_, rfl⟩
  rw [hs] at HTI hs1 hs2 hs3 ⊢
  clear hs
  have HS3 := Lib.hid hs3; clear hs3
  go_wp2_with fail
  have HB3 := Lib.hid hB3
  clear HK HK1 hb1 hb3 hB1 hA0 hB3
  go_loopw [7, 8] (fun zv uv wr => ∃ z u : Int, zv = .int .i64 z ∧ uv = .int .i64 u ∧ t < u ∧ u ≤ 1048700 ∧ 0 ≤ z ∧ z ≤ t + 600 ∧ Hid (u % 60 = 0 ∧ Till a b t u z) ∧ Hid (Below w.heap.size w wr) ∧ Hid (Blk wr w.heap.size 39 #[.int .i64 a.f, .int .i64 a.t, .slice A 24 c, .slice A' 24 c'])) (fun _ uv _ => (1048700 - intOf uv).toNat)
  case atStart => exact ⟨t + z0, s + 60, rfl, rfl, by omega, by omega, by omega, by omega, Lib.hid ⟨by have := HS3.out; omega, HTI.out⟩, HB3, HK3⟩
  case round =>
    obtain ⟨z, u, rfl, rfl, hu0, hu1, hz0, hz1, hI, hB, hK⟩ := hrel
    by_cases hgo : u < z
    · by_cases hgt : u ≤ 1048576
      · obtain ⟨k0, k1, k2, k3⟩ := box_cells hK.out
        go_wp2_with fail
        refine (isTime_any u _ true (by simp; omega)).mono ?_
        rintro e w2 ⟨rfl, rfl⟩
        go_wp2_with fail
        refine (minutes_any a A A' c c' b u _ (HM.out.below hB.out) HH.out (by omega) (by omega)).mono ?_
        rintro e w3 ⟨rfl, hb3⟩
        obtain ⟨hm0, hm1⟩ := HH.out.mm b u
        have HTI := Lib.hid (And.intro (show (u + 60) % 60 = 0 by have := hI.out.1; omega) (hI.out.2.hour hI.out.1 (by omega) hgt))
        obtain ⟨y, hy⟩ : ∃ z, a.mm b u = z := ⟨_, rfl⟩
        rw [hy] at HTI hm0 hm1 ⊢
        clear hy k0 k1 k2 k3
        have hBn := Lib.hid (hB.out.trans (hb3.mono hB.out.size))
        have hKn := Lib.hid (hK.out.below hb3 hK.out.lt)
        clear hb3
        go_wp2_with fail
        go_roundw
        case rel => exact ⟨_, _, rfl, rfl, by omega, by omega, by omega, by omega, HTI, hBn, hKn⟩
        case measure => simp [intOf]; omega
      · go_wp2_with fail
        refine (isTime_any u _ false (by simp; omega)).mono ?_
        rintro e w2 ⟨rfl, rfl⟩
        go_wp2_with fail
        go_ret
        exact ⟨z, rfl, Lib.hid (hI.out.2.done HH.out (.inr (by omega))), hB.out⟩
    · go_wp2_with fail
      go_ret
      exact ⟨z, rfl, Lib.hid (hI.out.2.done HH.out (.inl (by omega))), hB.out⟩

set_option maxRecDepth 100000 in
set_option maxHeartbeats 4000000 in
theorem pass_bad (a : Arc) (A A' : Option Addr) (c c' n m : Nat) (b : Bool) (t : Int) (w : World) (hM : ArcM w a A A') (h : ¬ a.ok) (hn : a.lo.length = n) (hm : a.hi.length = m) :
    Calls Try.prog 24 #[.agg #[.int .i64 a.f, .int .i64 a.t, .slice A n c, .slice A' m c'], .int .i64 t, .bool b] w fun e w' => e = .returned (.int .i64 (-1)) ∧ Below w.heap.size w w' := by
  have hA0 : Below w.heap.size w (w.alloc (.cells #[.int .i64 a.f, .int .i64 a.t, .slice A n c, .slice A' m c'] 39)) := (Below.refl _ _).alloc (Nat.le_refl _) _
  have HR := Lib.hid (right_no a A A' c c' n m _ (hM.below hA0) h hn hm)
  clear hM h hn hm
  go_enter Try.func24, Try.ntmps24
  go_wp2_with fail
  refine HR.out.mono ?_
  rintro e w1 ⟨rfl, hb1⟩
  go_wp2_with fail
  go_ret
  exact ⟨by rfl, hA0.trans (hb1.mono hA0.size)⟩

set_option maxRecDepth 100000 in
set_option maxHeartbeats 4000000 in
theorem pass_out (a : Arc) (A A' : Option Addr) (c c' : Nat) (b : Bool) (t : Int) (w : World) (hM : ArcM w a A A') (h : a.ok) (ht : ¬ IsT t) :
    Calls Try.prog 24 #[.agg #[.int .i64 a.f, .int .i64 a.t, .slice A 24 c, .slice A' 24 c'], .int .i64 t, .bool b] w fun e w' => e = .returned (.int .i64 (-1)) ∧ Below w.heap.size w w' := by
  have hA0 : Below w.heap.size w (w.alloc (.cells #[.int .i64 a.f, .int .i64 a.t, .slice A 24 c, .slice A' 24 c'] 39)) := (Below.refl _ _).alloc (Nat.le_refl _) _
  have HR := Lib.hid (right_yes a A A' c c' _ (hM.below hA0) h)
  have HT := Lib.hid (fun w => isTime_any t w false (by unfold IsT at ht; exact (decide_eq_false ht).symm))
  clear hM h ht
  go_enter Try.func24, Try.ntmps24
  go_wp2_with fail
  refine HR.out.mono ?_
  rintro e w1 ⟨rfl, hb1⟩
  go_wp2_with fail
  refine (HT.out _).mono ?_
  rintro e w2 ⟨rfl, rfl⟩
  go_wp2_with fail
  go_ret
  exact ⟨by rfl, hA0.trans (hb1.mono hA0.size)⟩

/-- Pass, whatever the arc. -/
theorem pass_any (a : Arc) (A A' : Option Addr) (c c' : Nat) (b : Bool) (t : Int) (w : World) (hM : ArcM w a A A') :
    Calls Try.prog 24 #[.agg #[.int .i64 a.f, .int .i64 a.t, .slice A a.lo.length c, .slice A' a.hi.length c'], .int .i64 t, .bool b] w fun e w' => ∃ z, e = .returned (.int .i64 z) ∧ Hid (PassP a b t z) ∧ Below w.heap.size w w' := by
  by_cases h : a.ok
  · rw [h.2.2.1, h.2.2.2.1]
    by_cases ht : IsT t
    · exact (pass_yes a A A' c c' b t w hM h ht).mono fun e w' ⟨z, he, hz, hb⟩ => ⟨z, he, Lib.hid (.inl ⟨h, ht, hz.out⟩), hb⟩
    · exact (pass_out a A A' c c' b t w hM h ht).mono fun e w' ⟨he, hb⟩ => ⟨-1, he, Lib.hid (.inr ⟨fun hh => ht hh.2, rfl⟩), hb⟩
  · exact (pass_bad a A A' c c' _ _ b t w hM h rfl rfl).mono fun e w' ⟨he, hb⟩ => ⟨-1, he, Lib.hid (.inr ⟨fun hh => h hh.1, rfl⟩), hb⟩

set_option maxRecDepth 100000 in
set_option maxHeartbeats 4000000 in
theorem last_yes (a : Arc) (A A' : Option Addr) (c c' : Nat) (b : Bool) (y : Int) (w : World) (hM : ArcM w a A A') (h : a.ok) (hy9 : y ≤ 9223372036854775807) (hy : 0 ≤ y) :
    Calls Try.prog 44 #[.agg #[.int .i64 a.f, .int .i64 a.t, .slice A 24 c, .slice A' 24 c'], .int .i64 y, .bool b] w fun e w' => ∃ z, e = .returned (.int .i64 z) ∧ Hid (LastA a b y z) ∧ Below w.heap.size w w' := by
  have hA0 : Below w.heap.size w (w.alloc (.cells #[.int .i64 a.f, .int .i64 a.t, .slice A 24 c, .slice A' 24 c'] 39)) := (Below.refl _ _).alloc (Nat.le_refl _) _
  have HK := Lib.hid (Blk.new w 39 #[.int .i64 a.f, .int .i64 a.t, .slice A 24 c, .slice A' 24 c'])
  have HM := Lib.hid hM; clear hM
  have HH := Lib.hid h; clear h
  go_enter Try.func44, Try.ntmps44
  go_wp2_with fail
  refine (right_yes a A A' c c' _ (HM.out.below hA0) HH.out).mono ?_
  rintro e w1 ⟨rfl, hb1⟩
  have hB1 := hA0.trans (hb1.mono hA0.size)
  have HK1 := Lib.hid (HK.out.below hb1 (by simp))
  have hq0 : 0 ≤ min y 1048576 := by omega
  have hq1 : min y 1048576 ≤ 1048576 := by omega
  go_wp2_with fail
  refine (hourStart_any (min y 1048576) _ hq0 (by omega)).mono ?_
  rintro e w2 ⟨rfl, rfl⟩
  have HO := Lib.hid (And.intro (show (min y 1048576 - min y 1048576 % 60) % 60 = 0 by omega) (Over.first (b := b) (y := y) HH.out (min y 1048576 - min y 1048576 % 60 + 60) (by omega)))
  have hs1 : 0 ≤ min y 1048576 - min y 1048576 % 60 := by omega
  have hs2 : min y 1048576 - min y 1048576 % 60 ≤ 1048576 := by omega
  obtain ⟨s, hs⟩ : ∃ s, min y 1048576 - min y 1048576 % 60 = s := ⟨_, rfl⟩
  rw [hs] at HO hs1 hs2 ⊢
  clear hs
  go_wp2_with fail
  have HB1 := Lib.hid hB1
  clear HK hb1 hB1 hA0
  go_loopw [7] (fun sv wr => ∃ s : Int, sv = .int .i64 s ∧ -60 ≤ s ∧ s ≤ 1048576 ∧ Hid (s % 60 = 0 ∧ Over a b y (s + 60)) ∧ Hid (Below w.heap.size w wr) ∧ Hid (Blk wr w.heap.size 39 #[.int .i64 a.f, .int .i64 a.t, .slice A 24 c, .slice A' 24 c'])) (fun sv _ => (intOf sv + 60).toNat)
  case atStart => exact ⟨s, rfl, by omega, by omega, HO, HB1, HK1⟩
  case round =>
    obtain ⟨s, rfl, hs0, hs1, hI, hB, hK⟩ := hrel
    by_cases hgo : 0 ≤ s
    · obtain ⟨k0, k1, k2, k3⟩ := box_cells hK.out
      go_wp2_with fail
      refine (minutes_any a A A' c c' b s _ (HM.out.below hB.out) HH.out (by omega) (by omega)).mono ?_
      rintro e w3 ⟨rfl, hb3⟩
      obtain ⟨hm0, hm1⟩ := HH.out.mm b s
      have HF := Lib.hid (fun (u : Int) => hI.out.2.found (u := u) hI.out.1 hgo)
      have HN := Lib.hid (fun (hm : min (y - a.mm b s) (min (s + 59) 1048576) < s) => And.intro (show (s - 60) % 60 = 0 by have := hI.out.1; omega) (show Over a b y (s - 60 + 60) by rw [show s - 60 + 60 = s by omega]; exact hI.out.2.hour hI.out.1 hm))
      obtain ⟨m, hm⟩ : ∃ z, a.mm b s = z := ⟨_, rfl⟩
      rw [hm] at HF HN hm0 hm1 ⊢
      clear hm k0 k1 k2 k3
      have hBn := Lib.hid (hB.out.trans (hb3.mono hB.out.size))
      have hKn := Lib.hid (hK.out.below hb3 hK.out.lt)
      clear hb3
      obtain ⟨u, hu⟩ : ∃ u, min (y - m) (min (s + 59) 1048576) = u := ⟨_, rfl⟩
      rw [hu] at HF HN
      have hcase : (y - m ≤ s + 60 - 1 ∧ y - m ≤ 1048576 ∧ u = y - m) ∨ (s + 60 - 1 < y - m ∧ s + 60 - 1 ≤ 1048576 ∧ u = s + 60 - 1) ∨ (s + 60 - 1 < y - m ∧ 1048576 < s + 60 - 1 ∧ u = 1048576) ∨ (y - m ≤ s + 60 - 1 ∧ 1048576 < y - m ∧ u = 1048576) := by omega
      clear hu
      rcases hcase with ⟨g1, g2, rfl⟩ | ⟨g1, g2, rfl⟩ | ⟨g1, g2, rfl⟩ | ⟨g1, g2, rfl⟩
      · by_cases hsu : s ≤ y - m
        · have HZ := Lib.hid (HF.out _ rfl hsu)
          go_wp2_with fail
          go_ret
          exact ⟨_, by rfl, HZ, hBn.out⟩
        · have HZ := Lib.hid (HN.out (by omega))
          go_wp2_with fail
          go_roundw
          case rel => exact ⟨_, rfl, by omega, by omega, HZ, hBn, hKn⟩
          case measure => simp [intOf]; omega
      · have HZ := Lib.hid (HF.out _ rfl (by omega))
        go_wp2_with fail
        go_ret
        exact ⟨_, by rfl, HZ, hBn.out⟩
      · have HZ := Lib.hid (HF.out _ rfl (by omega))
        go_wp2_with fail
        go_ret
        exact ⟨_, by rfl, HZ, hBn.out⟩
      · have HZ := Lib.hid (HF.out _ rfl (by omega))
        go_wp2_with fail
        go_ret
        exact ⟨_, by rfl, HZ, hBn.out⟩
    · go_wp2_with fail
      go_ret
      exact ⟨-1, rfl, Lib.hid (Over.none hI.out.2 (by have := hI.out.1; omega)), hB.out⟩

set_option maxRecDepth 100000 in
set_option maxHeartbeats 4000000 in
theorem last_bad (a : Arc) (A A' : Option Addr) (c c' n m : Nat) (b : Bool) (t : Int) (w : World) (hM : ArcM w a A A') (h : ¬ a.ok) (hn : a.lo.length = n) (hm : a.hi.length = m) :
    Calls Try.prog 44 #[.agg #[.int .i64 a.f, .int .i64 a.t, .slice A n c, .slice A' m c'], .int .i64 t, .bool b] w fun e w' => e = .returned (.int .i64 (-1)) ∧ Below w.heap.size w w' := by
  have hA0 : Below w.heap.size w (w.alloc (.cells #[.int .i64 a.f, .int .i64 a.t, .slice A n c, .slice A' m c'] 39)) := (Below.refl _ _).alloc (Nat.le_refl _) _
  have HR := Lib.hid (right_no a A A' c c' n m _ (hM.below hA0) h hn hm)
  clear hM h hn hm
  go_enter Try.func44, Try.ntmps44
  go_wp2_with fail
  refine HR.out.mono ?_
  rintro e w1 ⟨rfl, hb1⟩
  go_wp2_with fail
  go_ret
  exact ⟨by rfl, hA0.trans (hb1.mono hA0.size)⟩

set_option maxRecDepth 100000 in
set_option maxHeartbeats 4000000 in
theorem last_neg (a : Arc) (A A' : Option Addr) (c c' : Nat) (b : Bool) (t : Int) (w : World) (hM : ArcM w a A A') (h : a.ok) (ht : t < 0) :
    Calls Try.prog 44 #[.agg #[.int .i64 a.f, .int .i64 a.t, .slice A 24 c, .slice A' 24 c'], .int .i64 t, .bool b] w fun e w' => e = .returned (.int .i64 (-1)) ∧ Below w.heap.size w w' := by
  have hA0 : Below w.heap.size w (w.alloc (.cells #[.int .i64 a.f, .int .i64 a.t, .slice A 24 c, .slice A' 24 c'] 39)) := (Below.refl _ _).alloc (Nat.le_refl _) _
  have HR := Lib.hid (right_yes a A A' c c' _ (hM.below hA0) h)
  clear hM h
  go_enter Try.func44, Try.ntmps44
  go_wp2_with fail
  refine HR.out.mono ?_
  rintro e w1 ⟨rfl, hb1⟩
  go_wp2_with fail
  go_ret
  exact ⟨by rfl, hA0.trans (hb1.mono hA0.size)⟩

/-- Last, whatever the arc. -/
theorem last_any (a : Arc) (A A' : Option Addr) (c c' : Nat) (b : Bool) (y : Int) (w : World) (hM : ArcM w a A A') (hy9 : y ≤ 9223372036854775807) :
    Calls Try.prog 44 #[.agg #[.int .i64 a.f, .int .i64 a.t, .slice A a.lo.length c, .slice A' a.hi.length c'], .int .i64 y, .bool b] w fun e w' => ∃ z, e = .returned (.int .i64 z) ∧ Hid (LastP a b y z) ∧ Below w.heap.size w w' := by
  by_cases h : a.ok
  · rw [h.2.2.1, h.2.2.2.1]
    by_cases ht : 0 ≤ y
    · exact (last_yes a A A' c c' b y w hM h hy9 ht).mono fun e w' ⟨z, he, hz, hb⟩ => ⟨z, he, Lib.hid (.inl ⟨h, hz.out⟩), hb⟩
    · exact (last_neg a A A' c c' b y w hM h (by omega)).mono fun e w' ⟨he, hb⟩ => ⟨-1, he, Lib.hid (.inl ⟨h, LastA.of_neg h (by omega)⟩), hb⟩
  · exact (last_bad a A A' c c' _ _ b y w hM h rfl rfl).mono fun e w' ⟨he, hb⟩ => ⟨-1, he, Lib.hid (.inr ⟨h, rfl⟩), hb⟩

end Go.Proofs.Yteiojobgjdfdpaa
