/- Walks: the law ClockLast. -/
import Derived.Test.YtbojonafadhciaaCh
import Derived.Test.YtbojonafadhciaaCd
namespace Go.Proofs.Ytbojonafadhciaa
open Go.RowKit

/-- The arc as it lies, in a variable. -/
structure Lie (w wr : World) (G : Nat) (a : Arc) (A : Option Addr) (c : Nat) (A' : Option Addr) (c' : Nat) : Prop where
  m : ArcM wr a A A'
  k : Blk wr G 24 #[.int .i64 a.f, .int .i64 a.t, .slice A 24 c, .slice A' 24 c']
  bl : Below w.heap.size w wr
theorem Lie.below {w wr w' : World} {G : Nat} {a : Arc} {A : Option Addr} {c : Nat} {A' : Option Addr} {c' : Nat} (h : Lie w wr G a A c A' c') (hb : Below wr.heap.size wr w') : Lie w w' G a A c A' c' :=
  ⟨h.m.below hb, h.k.below hb h.k.lt, h.bl.trans (hb.mono h.bl.size)⟩

theorem last_ok (a : Arc) (A A' : Option Addr) (c c' : Nat) (b : Bool) (y : Int) (w : World) (hM : ArcM w a A A') (h : a.ok) (hy9 : y ≤ 9223372036854775807) :
    Calls Try.prog 16 #[.agg #[.int .i64 a.f, .int .i64 a.t, .slice A 24 c, .slice A' 24 c'], .int .i64 y, .bool b] w fun e w' => ∃ z, e = .returned (.int .i64 z) ∧ Hid (LastA a b y z) ∧ Below w.heap.size w w' := by
  have hh := last_any a A A' c c' b y w hM hy9
  rw [h.2.2.1, h.2.2.2.1] at hh
  exact hh.mono fun e w' ⟨z, he, hz, hb⟩ => ⟨z, he, Lib.hid (hz.out.la h), hb⟩

set_option maxRecDepth 100000 in
set_option maxHeartbeats 8000000 in
theorem last_law_few (f0 t0 : Int) (A A' : Option Addr) (c c' n m : Nat) (y t : Int) (b : Bool) (w : World) (h : ¬ (n ≤ 40 ∧ m ≤ 40)) :
    Calls Try.prog 5 #[.agg #[.int .i64 f0, .int .i64 t0, .slice A n c, .slice A' m c'], .int .i64 y, .int .i64 t, .bool b] w fun e w' => e = .returned (.bool true) ∧ Below w.heap.size w w' := by
  have hA0 : Below w.heap.size w (w.alloc (.cells #[.int .i64 f0, .int .i64 t0, .slice A n c, .slice A' m c'] 24)) := (Below.refl _ _).alloc (Nat.le_refl _) _
  have hK := Blk.new w 24 #[.int .i64 f0, .int .i64 t0, .slice A n c, .slice A' m c']
  have HF := Lib.hid (fun w => few_any f0 t0 A A' n m c c' w false (decide_eq_false h).symm); clear h
  go_enter Try.func5, Try.ntmps5
  go_wp2_with fail
  refine (small_any _).mono ?_
  rintro e w1 ⟨rfl, hb1⟩
  obtain ⟨k0, k1, k2, k3⟩ := box_cells (hK.below hb1 (by simp))
  have hB1 := hA0.trans (hb1.mono hA0.size)
  go_wp2_with fail
  refine (HF.out _).mono ?_
  rintro e w2 ⟨rfl, hb2⟩
  go_wp2_with fail
  go_ret
  exact ⟨by rfl, hB1.trans (hb2.mono hB1.size)⟩

set_option maxRecDepth 100000 in
set_option maxHeartbeats 8000000 in
theorem last_law_bad (a : Arc) (A A' : Option Addr) (c c' n m : Nat) (y t : Int) (b : Bool) (w : World) (hM : ArcM w a A A') (h : n ≤ 40 ∧ m ≤ 40) (ho : ¬ a.ok) (hn : a.lo.length = n) (hm : a.hi.length = m) :
    Calls Try.prog 5 #[.agg #[.int .i64 a.f, .int .i64 a.t, .slice A n c, .slice A' m c'], .int .i64 y, .int .i64 t, .bool b] w fun e w' => e = .returned (.bool true) ∧ Below w.heap.size w w' := by
  have hA0 : Below w.heap.size w (w.alloc (.cells #[.int .i64 a.f, .int .i64 a.t, .slice A n c, .slice A' m c'] 24)) := (Below.refl _ _).alloc (Nat.le_refl _) _
  have HK := Lib.hid (Blk.new w 24 #[.int .i64 a.f, .int .i64 a.t, .slice A n c, .slice A' m c'])
  have HF := Lib.hid (fun w => few_any a.f a.t A A' n m c c' w true (decide_eq_true h).symm); clear h
  have HR := Lib.hid (fun w' (hb : Below w.heap.size w w') => right_no a A A' c c' n m w' (hM.below hb) ho hn hm); clear hM ho hn hm
  go_enter Try.func5, Try.ntmps5
  go_wp2_with fail
  refine (small_any _).mono ?_
  rintro e w1 ⟨rfl, hb1⟩
  have hK1 := HK.out.below hb1 (by simp)
  obtain ⟨k0, k1, k2, k3⟩ := box_cells hK1
  have hB1 := hA0.trans (hb1.mono hA0.size)
  go_wp2_with fail
  refine (HF.out _).mono ?_
  rintro e w2 ⟨rfl, hb2⟩
  have hB2 := hB1.trans (hb2.mono hB1.size)
  have hK2 := hK1.below hb2 hK1.lt
  clear k0 k1 k2 k3
  obtain ⟨k0, k1, k2, k3⟩ := box_cells hK2
  go_wp2_with fail
  refine (HR.out _ hB2).mono ?_
  rintro e w3 ⟨rfl, hb3⟩
  go_wp2_with fail
  go_ret
  exact ⟨by rfl, hB2.trans (hb3.mono hB2.size)⟩

set_option maxRecDepth 100000 in
set_option maxHeartbeats 8000000 in
theorem last_law_ok (a : Arc) (A A' : Option Addr) (c c' : Nat) (y t : Int) (b : Bool) (w : World) (hM : ArcM w a A A') (ho : a.ok) (hy9 : y ≤ 9223372036854775807) :
    Calls Try.prog 5 #[.agg #[.int .i64 a.f, .int .i64 a.t, .slice A 24 c, .slice A' 24 c'], .int .i64 y, .int .i64 t, .bool b] w fun e w' => e = .returned (.bool true) ∧ Below w.heap.size w w' := by
  have hA0 : Below w.heap.size w (w.alloc (.cells #[.int .i64 a.f, .int .i64 a.t, .slice A 24 c, .slice A' 24 c'] 24)) := (Below.refl _ _).alloc (Nat.le_refl _) _
  have HL := Lib.hid (show Lie w (w.alloc (.cells #[.int .i64 a.f, .int .i64 a.t, .slice A 24 c, .slice A' 24 c'] 24)) w.heap.size a A c A' c' from ⟨hM.below hA0, Blk.new w 24 #[.int .i64 a.f, .int .i64 a.t, .slice A 24 c, .slice A' 24 c'], hA0⟩)
  clear hA0 hM
  have HO := Lib.hid ho; clear ho
  go_enter Try.func5, Try.ntmps5
  go_wp2_with fail
  obtain ⟨G, hG⟩ : ∃ G, w.heap.size = G := ⟨_, rfl⟩
  rw [hG] at HL ⊢
  have HG := Lib.hid hG; clear hG
  refine (small_any _).mono ?_
  rintro e w1 ⟨rfl, hb1⟩
  have HL1 := Lib.hid (HL.out.below hb1)
  clear HL hb1
  obtain ⟨k0, k1, k2, k3⟩ := box_cells HL1.out.k
  go_wp2_with fail
  refine (few_any a.f a.t A A' 24 24 c c' _ true (by decide)).mono ?_
  rintro e w2 ⟨rfl, hb2⟩
  have HL2 := Lib.hid (HL1.out.below hb2)
  clear HL1 hb2 k0 k1 k2 k3
  obtain ⟨k0, k1, k2, k3⟩ := box_cells HL2.out.k
  go_wp2_with fail
  refine (right_yes a A A' c c' _ HL2.out.m HO.out).mono ?_
  rintro e w3 ⟨rfl, hb3⟩
  have HL3 := Lib.hid (HL2.out.below hb3)
  clear HL2 hb3 k0 k1 k2 k3
  obtain ⟨k0, k1, k2, k3⟩ := box_cells HL3.out.k
  go_wp2_with fail
  refine (last_ok a A A' c c' b y _ HL3.out.m HO.out hy9).mono ?_
  rintro e w4 ⟨z, rfl, hz, hb4⟩
  have HL4 := Lib.hid (HL3.out.below hb4)
  clear HL3 hb4 k0 k1 k2 k3
  obtain ⟨k0, k1, k2, k3⟩ := box_cells HL4.out.k
  have hz0 := hz.out.low
  have hz1 := hz.out.high
  have hz2 : z ≤ max y (-1) := by have h1 := hz.out.out; have h2 := (HO.out.mm b z).1; omega
  have hz3 : z ≤ y ∨ z = -1 := by omega
  have HZ3 := Lib.hid hz3; clear hz3
  by_cases hz9 : 0 ≤ z
  · go_wp2_with fail
    refine (pass_yes a A A' c c' b z _ HL4.out.m HO.out ⟨hz9, hz1⟩).mono ?_
    rintro e w5 ⟨p, rfl, hp, hb5⟩
    have HL5 := Lib.hid (HL4.out.below hb5)
    clear HL4 hb5 k0 k1 k2 k3
    obtain ⟨k0, k1, k2, k3⟩ := box_cells HL5.out.k
    have hpy0 : p ≤ y := (hz.out.iff ⟨hz9, hz1⟩ hp.out).2 (Int.le_refl _)
    by_cases hg : z < 1048576
    · go_wp2_with fail
      refine (pass_yes a A A' c c' b (z + 1) _ HL5.out.m HO.out ⟨by omega, by omega⟩).mono ?_
      rintro e w6 ⟨p', rfl, hp', hb6⟩
      have HL6 := Lib.hid (HL5.out.below hb6)
      clear HL5 hb6 k0 k1 k2 k3
      obtain ⟨k0, k1, k2, k3⟩ := box_cells HL6.out.k
      have hpy : ¬ p' ≤ y := fun hh => by have := (hz.out.iff ⟨by omega, by omega⟩ hp'.out).1 hh; omega
      by_cases ht0 : t < 0
      · go_wp2_with fail
        go_ret
        exact ⟨by rfl, HL6.out.bl⟩
      by_cases ht1 : 1048576 < t
      · go_wp2_with fail
        go_ret
        exact ⟨by rfl, HL6.out.bl⟩
      go_wp2_with fail
      refine (pass_yes a A A' c c' b t _ HL6.out.m HO.out ⟨by omega, by omega⟩).mono ?_
      rintro e w7 ⟨q, rfl, hq, hb7⟩
      have HL7 := Lib.hid (HL6.out.below hb7)
      clear HL6 hb7 k0 k1 k2 k3
      obtain ⟨k0, k1, k2, k3⟩ := box_cells HL7.out.k
      have HI := Lib.hid (hz.out.iff ⟨by omega, by omega⟩ hq.out)
      by_cases hle : t ≤ z
      · have hqy : q ≤ y := HI.out.2 hle
        go_wp2_with fail
        go_ret
        exact ⟨by rfl, HL7.out.bl⟩
      · have hqy : ¬ q ≤ y := fun hh => hle (HI.out.1 hh)
        have HE := Lib.hid (show (decide (q ≤ y) == decide (t ≤ z)) = true by simp [hqy, hle])
        go_wp2_with fail
        go_ret
        exact ⟨by show Ending.returned (.bool (decide (q ≤ y) == decide (t ≤ z))) = _; rw [HE.out], HL7.out.bl⟩
    · by_cases ht0 : t < 0
      · go_wp2_with fail
        go_ret
        exact ⟨by rfl, HL5.out.bl⟩
      by_cases ht1 : 1048576 < t
      · go_wp2_with fail
        go_ret
        exact ⟨by rfl, HL5.out.bl⟩
      go_wp2_with fail
      refine (pass_yes a A A' c c' b t _ HL5.out.m HO.out ⟨by omega, by omega⟩).mono ?_
      rintro e w6 ⟨q, rfl, hq, hb6⟩
      have HL6 := Lib.hid (HL5.out.below hb6)
      clear HL5 hb6 k0 k1 k2 k3
      obtain ⟨k0, k1, k2, k3⟩ := box_cells HL6.out.k
      have HI := Lib.hid (hz.out.iff ⟨by omega, by omega⟩ hq.out)
      by_cases hle : t ≤ z
      · have hqy : q ≤ y := HI.out.2 hle
        go_wp2_with fail
        go_ret
        exact ⟨by rfl, HL6.out.bl⟩
      · have hqy : ¬ q ≤ y := fun hh => hle (HI.out.1 hh)
        have HE := Lib.hid (show (decide (q ≤ y) == decide (t ≤ z)) = true by simp [hqy, hle])
        go_wp2_with fail
        go_ret
        exact ⟨by show Ending.returned (.bool (decide (q ≤ y) == decide (t ≤ z))) = _; rw [HE.out], HL6.out.bl⟩
  · have hg : z < 1048576 := by omega
    go_wp2_with fail
    refine (pass_yes a A A' c c' b (z + 1) _ HL4.out.m HO.out ⟨by omega, by omega⟩).mono ?_
    rintro e w5 ⟨p', rfl, hp', hb5⟩
    have HL5 := Lib.hid (HL4.out.below hb5)
    clear HL4 hb5 k0 k1 k2 k3
    obtain ⟨k0, k1, k2, k3⟩ := box_cells HL5.out.k
    have hpy : ¬ p' ≤ y := fun hh => by have := (hz.out.iff ⟨by omega, by omega⟩ hp'.out).1 hh; omega
    by_cases ht0 : t < 0
    · go_wp2_with fail
      go_ret
      exact ⟨by rfl, HL5.out.bl⟩
    by_cases ht1 : 1048576 < t
    · go_wp2_with fail
      go_ret
      exact ⟨by rfl, HL5.out.bl⟩
    go_wp2_with fail
    refine (pass_yes a A A' c c' b t _ HL5.out.m HO.out ⟨by omega, by omega⟩).mono ?_
    rintro e w6 ⟨q, rfl, hq, hb6⟩
    have HL6 := Lib.hid (HL5.out.below hb6)
    clear HL5 hb6 k0 k1 k2 k3
    obtain ⟨k0, k1, k2, k3⟩ := box_cells HL6.out.k
    have HI := Lib.hid (hz.out.iff ⟨by omega, by omega⟩ hq.out)
    by_cases hle : t ≤ z
    · have hqy : q ≤ y := HI.out.2 hle
      go_wp2_with fail
      go_ret
      exact ⟨by rfl, HL6.out.bl⟩
    · have hqy : ¬ q ≤ y := fun hh => hle (HI.out.1 hh)
      have HE := Lib.hid (show (decide (q ≤ y) == decide (t ≤ z)) = true by simp [hqy, hle])
      go_wp2_with fail
      go_ret
      exact ⟨by show Ending.returned (.bool (decide (q ≤ y) == decide (t ≤ z))) = _; rw [HE.out], HL6.out.bl⟩


theorem last_law_any (a : Arc) (A A' : Option Addr) (c c' : Nat) (y t : Int) (b : Bool) (w : World) (hM : ArcM w a A A') (hy9 : y ≤ 9223372036854775807) :
    Calls Try.prog 5 #[.agg #[.int .i64 a.f, .int .i64 a.t, .slice A a.lo.length c, .slice A' a.hi.length c'], .int .i64 y, .int .i64 t, .bool b] w fun e w' => e = .returned (.bool true) ∧ Below w.heap.size w w' := by
  by_cases hf : a.lo.length ≤ 40 ∧ a.hi.length ≤ 40
  · by_cases h : a.ok
    · rw [h.2.2.1, h.2.2.2.1]
      exact last_law_ok a A A' c c' y t b w hM h hy9
    · exact last_law_bad a A A' c c' _ _ y t b w hM hf h rfl rfl
  · exact last_law_few _ _ A A' c c' _ _ y t b w hf

end Go.Proofs.Ytbojonafadhciaa
