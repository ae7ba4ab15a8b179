/- Walks: the law ClockOrder. -/
import Derived.Test.YtbojonafadhciaaCi
namespace Go.Proofs.Ytbojonafadhciaa
open Go.RowKit

set_option maxRecDepth 100000 in
set_option maxHeartbeats 8000000 in
theorem order_law_few (f0 t0 : Int) (A A' : Option Addr) (c c' n m : Nat) (t : Int) (q : Nat) (b : Bool) (w : World) (h : ¬ (n ≤ 40 ∧ m ≤ 40)) :
    Calls Try.prog 4 #[.agg #[.int .i64 f0, .int .i64 t0, .slice A n c, .slice A' m c'], .int .i64 t, .int .u16 q, .bool b] w fun e w' => e = .returned (.bool true) ∧ Below w.heap.size w w' := by
  have hA0 : Below w.heap.size w (w.alloc (.cells #[.int .i64 f0, .int .i64 t0, .slice A n c, .slice A' m c'] 24)) := (Below.refl _ _).alloc (Nat.le_refl _) _
  have hK := Blk.new w 24 #[.int .i64 f0, .int .i64 t0, .slice A n c, .slice A' m c']
  have HF := Lib.hid (fun w => few_any f0 t0 A A' n m c c' w false (decide_eq_false h).symm); clear h
  go_enter Try.func4, Try.ntmps4
  go_wp2_with fail
  refine (small_any _).mono ?_
  rintro e w1 ⟨rfl, hb1⟩
  obtain ⟨k0, k1, k2, k3⟩ := box_cells (hK.below hb1 (by simp))
  have hB1 := hA0.trans (hb1.mono hA0.size)
  go_wp2_with fail
  refine (HF.out _).mono ?_
  rintro e w2 ⟨rfl, hb2⟩
  go_wp2_with fail
  go_ret
  exact ⟨by rfl, hB1.trans (hb2.mono hB1.size)⟩

set_option maxRecDepth 100000 in
set_option maxHeartbeats 8000000 in
theorem order_law_bad (a : Arc) (A A' : Option Addr) (c c' n m : Nat) (t : Int) (q : Nat) (b : Bool) (w : World) (hM : ArcM w a A A') (h : n ≤ 40 ∧ m ≤ 40) (ho : ¬ a.ok) (hn : a.lo.length = n) (hm : a.hi.length = m) :
    Calls Try.prog 4 #[.agg #[.int .i64 a.f, .int .i64 a.t, .slice A n c, .slice A' m c'], .int .i64 t, .int .u16 q, .bool b] w fun e w' => e = .returned (.bool true) ∧ Below w.heap.size w w' := by
  have hA0 : Below w.heap.size w (w.alloc (.cells #[.int .i64 a.f, .int .i64 a.t, .slice A n c, .slice A' m c'] 24)) := (Below.refl _ _).alloc (Nat.le_refl _) _
  have HK := Lib.hid (Blk.new w 24 #[.int .i64 a.f, .int .i64 a.t, .slice A n c, .slice A' m c'])
  have HF := Lib.hid (fun w => few_any a.f a.t A A' n m c c' w true (decide_eq_true h).symm); clear h
  have HR := Lib.hid (fun w' (hb : Below w.heap.size w w') => right_no a A A' c c' n m w' (hM.below hb) ho hn hm); clear hM ho hn hm
  go_enter Try.func4, Try.ntmps4
  go_wp2_with fail
  refine (small_any _).mono ?_
  rintro e w1 ⟨rfl, hb1⟩
  have hK1 := HK.out.below hb1 (by simp)
  obtain ⟨k0, k1, k2, k3⟩ := box_cells hK1
  have hB1 := hA0.trans (hb1.mono hA0.size)
  go_wp2_with fail
  refine (HF.out _).mono ?_
  rintro e w2 ⟨rfl, hb2⟩
  have hB2 := hB1.trans (hb2.mono hB1.size)
  have hK2 := hK1.below hb2 hK1.lt
  clear k0 k1 k2 k3
  obtain ⟨k0, k1, k2, k3⟩ := box_cells hK2
  go_wp2_with fail
  refine (HR.out _ hB2).mono ?_
  rintro e w3 ⟨rfl, hb3⟩
  go_wp2_with fail
  go_ret
  exact ⟨by rfl, hB2.trans (hb3.mono hB2.size)⟩

set_option maxRecDepth 100000 in
set_option maxHeartbeats 8000000 in
theorem order_law_ok (a : Arc) (A A' : Option Addr) (c c' : Nat) (t : Int) (q : Nat) (b : Bool) (w : World) (hM : ArcM w a A A') (ho : a.ok) (hq : q < 65536) :
    Calls Try.prog 4 #[.agg #[.int .i64 a.f, .int .i64 a.t, .slice A 24 c, .slice A' 24 c'], .int .i64 t, .int .u16 q, .bool b] w fun e w' => e = .returned (.bool true) ∧ Below w.heap.size w w' := by
  have hA0 : Below w.heap.size w (w.alloc (.cells #[.int .i64 a.f, .int .i64 a.t, .slice A 24 c, .slice A' 24 c'] 24)) := (Below.refl _ _).alloc (Nat.le_refl _) _
  have HL := Lib.hid (show Lie w (w.alloc (.cells #[.int .i64 a.f, .int .i64 a.t, .slice A 24 c, .slice A' 24 c'] 24)) w.heap.size a A c A' c' from ⟨hM.below hA0, Blk.new w 24 #[.int .i64 a.f, .int .i64 a.t, .slice A 24 c, .slice A' 24 c'], hA0⟩)
  clear hA0 hM
  have HO := Lib.hid ho; clear ho
  go_enter Try.func4, Try.ntmps4
  go_wp2_with fail
  obtain ⟨G, hG⟩ : ∃ G, w.heap.size = G := ⟨_, rfl⟩
  rw [hG] at HL ⊢
  have HG := Lib.hid hG; clear hG
  refine (small_any _).mono ?_
  rintro e w1 ⟨rfl, hb1⟩
  have HL1 := Lib.hid (HL.out.below hb1)
  clear HL hb1
  obtain ⟨k0, k1, k2, k3⟩ := box_cells HL1.out.k
  go_wp2_with fail
  refine (few_any a.f a.t A A' 24 24 c c' _ true (by decide)).mono ?_
  rintro e w2 ⟨rfl, hb2⟩
  have HL2 := Lib.hid (HL1.out.below hb2)
  clear HL1 hb2 k0 k1 k2 k3
  obtain ⟨k0, k1, k2, k3⟩ := box_cells HL2.out.k
  go_wp2_with fail
  refine (right_yes a A A' c c' _ HL2.out.m HO.out).mono ?_
  rintro e w3 ⟨rfl, hb3⟩
  have HL3 := Lib.hid (HL2.out.below hb3)
  clear HL2 hb3 k0 k1 k2 k3
  obtain ⟨k0, k1, k2, k3⟩ := box_cells HL3.out.k
  by_cases ht0 : t < 0
  · go_wp2_with fail
    go_ret
    exact ⟨by rfl, HL3.out.bl⟩
  by_cases ht1 : 1048576 < t
  · go_wp2_with fail
    go_ret
    exact ⟨by rfl, HL3.out.bl⟩
  have HT := Lib.hid (show IsT t from ⟨by omega, by omega⟩)
  go_wp2_with fail
  refine (pass_yes a A A' c c' b t _ HL3.out.m HO.out HT.out).mono ?_
  rintro e w4 ⟨p, rfl, hp, hb4⟩
  have HL4 := Lib.hid (HL3.out.below hb4)
  clear HL3 hb4 k0 k1 k2 k3
  obtain ⟨k0, k1, k2, k3⟩ := box_cells HL4.out.k
  have hpt : t ≤ p := hp.out.ge HO.out
  have hm0 := (HO.out.mm b t).1
  have hm1 := (HO.out.mm b t).2
  have hpm := hp.out.le_took HT.out
  have HU := Lib.hid (show IsT (min (t + (q : Int)) 1048576) from ⟨by omega, by omega⟩)
  have hu0 : t ≤ min (t + (q : Int)) 1048576 := by omega
  have hu1 : min (t + (q : Int)) 1048576 ≤ 1048576 := by omega
  obtain ⟨m, hm⟩ : ∃ m, a.mm b t = m := ⟨_, rfl⟩
  rw [hm] at hm0 hm1 hpm
  have HMM := Lib.hid hm; clear hm
  go_wp2_with fail
  refine (took_yes a A A' c c' b t _ HL4.out.m HO.out HT.out).mono ?_
  rintro e w5 ⟨rfl, hb5⟩
  have HL5 := Lib.hid (HL4.out.below hb5)
  clear HL4 hb5 k0 k1 k2 k3
  obtain ⟨k0, k1, k2, k3⟩ := box_cells HL5.out.k
  rw [HMM.out]
  have hpu := hp.out.le _ hu0 hu1
  have hn0 := (HO.out.mm b (min (t + (q : Int)) 1048576)).1
  have hn1 := (HO.out.mm b (min (t + (q : Int)) 1048576)).2
  obtain ⟨u, hu⟩ : ∃ u, min (t + (q : Int)) 1048576 = u := ⟨_, rfl⟩
  have HUU := Lib.hid hu
  rw [hu] at hpu hn0 hn1 HU hu0 hu1
  obtain ⟨n, hn⟩ : ∃ m, a.mm b u = m := ⟨_, rfl⟩
  rw [hn] at hpu hn0 hn1
  have HNN := Lib.hid hn; clear hn
  go_wp2_with fail
  refine (took_yes a A A' c c' b u _ HL5.out.m HO.out HU.out).mono ?_
  rintro e w6 ⟨rfl, hb6⟩
  have HL6 := Lib.hid (HL5.out.below hb6)
  clear HL5 hb6 k0 k1 k2 k3
  obtain ⟨k0, k1, k2, k3⟩ := box_cells HL6.out.k
  rw [HNN.out]
  go_wp2_with fail
  refine (pass_yes a A A' c c' b u _ HL6.out.m HO.out HU.out).mono ?_
  rintro e w7 ⟨p', rfl, hp', hb7⟩
  have HL7 := Lib.hid (HL6.out.below hb7)
  clear HL6 hb7 k0 k1 k2 k3
  obtain ⟨k0, k1, k2, k3⟩ := box_cells HL7.out.k
  have hpp : p ≤ p' := hp.out.mono hp'.out hu0
  go_wp2_with fail
  clear k0 k1 k2 k3
  have HPT := Lib.hid (And.intro hpt hpm)
  clear hpu hpp hu hpt hpm
  have hp99 : p ≤ 1050000 := by have := HPT.out.2; omega
  go_loopw [12, 13] (fun fv kv wr => ∃ (fo : Bool) (k : Int), fv = .bool fo ∧ kv = .int .i64 k ∧ t ≤ k ∧ k ≤ 1048577 ∧ Hid (fo = true ∨ ∀ v, t ≤ v → v < k → v + a.mm b v ≠ p) ∧ Hid (Lie w wr G a A c A' c')) (fun _ kv _ => (1048600 - intOf kv).toNat)
  case atStart => exact ⟨false, t, rfl, rfl, by omega, by omega, Lib.hid (.inr (fun v h1 h2 => by omega)), HL7⟩
  case round =>
    obtain ⟨fo, k, rfl, rfl, hk0, hk1, hI, hLr⟩ := hrel
    clear HL7
    cases fo with
    | true =>
      by_cases hkp : k ≤ p
      · by_cases hkm : k ≤ 1048576
        · go_wp2_with fail
          go_ret
          exact ⟨by rfl, hLr.out.bl⟩
        · go_wp2_with fail
          go_ret
          exact ⟨by rfl, hLr.out.bl⟩
      · go_wp2_with fail
        go_ret
        exact ⟨by rfl, hLr.out.bl⟩
    | false =>
      have hno := hI.out.resolve_left (by simp)
      have hex : k ≤ p ∧ k ≤ 1048576 := by
        obtain ⟨v, v1, v2, v3⟩ := hp.out.at_
        have h1 := (HO.out.mm b v).1
        apply Classical.byContradiction
        intro hh
        exact hno v v1 (by omega) v3.symm
      obtain ⟨hkp, hkm⟩ := hex
      have HNO := Lib.hid hno; clear hno
      obtain ⟨k0, k1, k2, k3⟩ := box_cells hLr.out.k
      go_wp2_with fail
      refine (took_yes a A A' c c' b k _ hLr.out.m HO.out ⟨by omega, hkm⟩).mono ?_
      rintro e wn ⟨rfl, hbn⟩
      have HLn := Lib.hid (hLr.out.below hbn)
      clear hbn k0 k1 k2 k3
      have hy0 := (HO.out.mm b k).1
      have hy1 := (HO.out.mm b k).2
      obtain ⟨y, hy⟩ : ∃ m, a.mm b k = m := ⟨_, rfl⟩
      rw [hy] at hy0 hy1 ⊢
      have HY := Lib.hid hy; clear hy
      by_cases he : k + y = p
      · have he' : ((k + y) == p) = true := by simp [he]
        have HE := Lib.hid he; clear he
        go_wp2_with fail
        go_roundw
        case rel => exact ⟨true, k + 1, rfl, rfl, by omega, by omega, Lib.hid (.inl rfl), HLn⟩
        case measure => simp [intOf]; omega
      · have he' : ((k + y) == p) = false := by simp [he]
        have HE : Hid (∀ v, t ≤ v → v < k + 1 → v + a.mm b v ≠ p) := Lib.hid (fun v h1 h2 => by
          by_cases hv : v < k
          · exact HNO.out v h1 hv
          · have : v = k := by omega
            subst this
            rw [HY.out]
            exact he)
        clear he
        go_wp2_with fail
        go_roundw
        case rel => exact ⟨false, k + 1, rfl, rfl, by omega, by omega, Lib.hid (.inr HE.out), HLn⟩
        case measure => simp [intOf]; omega

theorem order_law_any (a : Arc) (A A' : Option Addr) (c c' : Nat) (t : Int) (q : Nat) (b : Bool) (w : World) (hM : ArcM w a A A') (hq : q < 65536) :
    Calls Try.prog 4 #[.agg #[.int .i64 a.f, .int .i64 a.t, .slice A a.lo.length c, .slice A' a.hi.length c'], .int .i64 t, .int .u16 q, .bool b] w fun e w' => e = .returned (.bool true) ∧ Below w.heap.size w w' := by
  by_cases hf : a.lo.length ≤ 40 ∧ a.hi.length ≤ 40
  · by_cases h : a.ok
    · rw [h.2.2.1, h.2.2.2.1]
      exact order_law_ok a A A' c c' t q b w hM h hq
    · exact order_law_bad a A A' c c' _ _ t q b w hM hf h rfl rfl
  · exact order_law_few _ _ A A' c c' _ _ t q b w hf

end Go.Proofs.Ytbojonafadhciaa
