/- Walks: the reference's Read of fractions. Printed by a program (rfread.py). Walks: the operations of fractions as those of rational numbers, where there is room. Printed by a program (grat.py). Walks: order of fractions (Euclid's algorithm). -/
import Derived.Test.YtkjpfnbdlbnbkaaGreatDoorXbg
import Derived.Test.YtkjpfnbdlbnbkaaGreatDoorXav
import Derived.Test.YtkjpfnbdlbnbkaaGreatDoorXbf
import Derived.Test.YtkjpfnbdlbnbkaaGreatDoorXbc

namespace Go.Proofs.YtkjpfnbdlbnbkaaGreatDoor
open Go.RowKit

theorem stroke_at {s a b : List UInt8} {i : Nat} (hs : s = a ++ 47 :: b) (ha : (47 : UInt8) ∉ a) (hi : s[i]? = some 47) (hn : (47 : UInt8) ∉ s.take i) : i = a.length := by
  subst hs
  rcases Nat.lt_trichotomy i a.length with h | h | h
  · rw [List.getElem?_append_left h] at hi
    exact absurd (List.mem_of_getElem? hi) ha
  · exact h
  · exact absurd (by rw [List.take_append, List.mem_append]; right; rw [show i - a.length = (i - a.length - 1) + 1 by omega, List.take_succ_cons]; exact List.mem_cons_self ..) hn

theorem ext_take (s : ByteArray) (n : Nat) : s.extract 0 n = byt ((bts s).take n) := by
  apply ByteArray.ext
  apply Array.toList_inj.1
  rw [ByteArray.data_extract, Array.toList_extract]
  unfold byt bts
  simp
theorem ext_drop (s : ByteArray) (n : Nat) : s.extract n s.size = byt ((bts s).drop n) := by
  apply ByteArray.ext
  apply Array.toList_inj.1
  rw [ByteArray.data_extract, Array.toList_extract]
  unfold byt bts
  simp only [List.extract_eq_take_drop]
  exact List.take_of_length_le (by rw [List.length_drop, Array.length_toList]; exact Nat.le_refl _)

set_option maxRecDepth 100000 in
set_option maxHeartbeats 8000000 in
theorem rfread_none (s : ByteArray) (w : World) (hs : s.size ≤ 300) (hn : (47 : UInt8) ∉ bts s) :
    Calls Tryz.prog 47 #[.string s] w fun e w' => e = .returned (.tuple #[.agg #[.int .i64 0, .slice none 0 0, .int .i64 0, .slice none 0 0], .int .i64 2]) ∧ Below w.heap.size w w' := by
  have HNN := Lib.hid hn; clear hn
  go_enter Tryz.func47, Tryz.ntmps47
  go_wp2_with fail
  obtain ⟨W0, hW⟩ : ∃ W, W = w.alloc (.cells #[.int .i64 0, .slice none 0 0, .int .i64 0, .slice none 0 0] 43) := ⟨_, rfl⟩
  have hT : Below w.heap.size w W0 := by rw [hW]; exact (Below.refl _ _).alloc (Nat.le_refl _) _
  have kR : Blk W0 w.heap.size 43 #[.int .i64 0, .slice none 0 0, .int .i64 0, .slice none 0 0] := by rw [hW]; exact Blk.new _ _ _
  rw [← hW]
  clear hW
  go_loop [4] (fun iv => ∃ i : Nat, i ≤ s.size ∧ iv = .int .i64 i) (fun iv => s.size - (intOf iv).toNat)
  case atStart => exact ⟨0, Nat.zero_le _, rfl⟩
  case round =>
    obtain ⟨i, hi, rfl⟩ := hrel
    by_cases hgo : i < s.size
    · have hne : ((s[i].toNat : Int) == 47) = false := by
        rw [beq_eq_false_iff_ne]
        intro h
        have h1 : s[i] = 47 := UInt8.toNat_inj.1 (by have h2 : (47 : UInt8).toNat = 47 := rfl; omega)
        exact HNN.out (h1 ▸ bts_mem s i hgo)
      go_wp2_with fail
      go_round
      case rel => exact ⟨i + 1, by omega, rfl⟩
      case measure => simp [intOf]; omega
    · have : s.size = i := by omega
      subst this
      have r0 := kR.cell 0
      have r1 := kR.cell 1
      have r2 := kR.cell 2
      have r3 := kR.cell 3
      have q0' := kR.frozen 0
      have q1' := kR.frozen 1
      have q2' := kR.frozen 2
      have q3' := kR.frozen 3
      simp at r0 r1 r2 r3
      have hbs := kR.set4 (.int .i64 0) (.slice none 0 0) (.int .i64 0) (.slice none 0 0)
      have x0 := hbs.cell 0
      have x1 := hbs.cell 1
      have x2 := hbs.cell 2
      have x3 := hbs.cell 3
      simp at x0 x1 x2 x3
      go_wp2_with fail
      refine bodyPost_ret (v := .tuple #[.agg #[.int .i64 0, .slice none 0 0, .int .i64 0, .slice none 0 0], .int .i64 2]) (by simp [results, Tryz.results47, go_sem, x0, x1, x2, x3]) rfl ?_
      exact ⟨rfl, below_st4 hT (Nat.le_refl _) _ _ _ _⟩

set_option maxRecDepth 100000 in
set_option maxHeartbeats 8000000 in
theorem rfread_a (s : ByteArray) (w : World) (hs : s.size ≤ 300) (a b : List UInt8) (hab : bts s = a ++ 47 :: b) (ha : (47 : UInt8) ∉ a) (Z1 E1 Z2 E2 : Int) (h1 : ReadR (byt a) Z1 E1) (h2 : ReadR (byt b) Z2 E2) (hE : (E1 != 0) = true) :
    Calls Tryz.prog 47 #[.string s] w fun e w' => e = .returned (.tuple #[.agg #[.int .i64 0, .slice none 0 0, .int .i64 0, .slice none 0 0], .int .i64 2]) ∧ Below w.heap.size w w' := by
  have HR1 := Lib.hid h1; clear h1
  have HR2 := Lib.hid h2; clear h2
  have HNN := Lib.hid ha; clear ha
  have HAB := Lib.hid hab; clear hab
  have hlen : s.size = a.length + 1 + b.length := by rw [← bts_len, HAB.out, List.length_append, List.length_cons]; omega
  have hx1 : s.extract 0 a.length = byt a := by rw [ext_take, HAB.out]; simp
  have hx2 : s.extract (a.length + 1) s.size = byt b := by rw [ext_drop, HAB.out, show a ++ 47 :: b = (a ++ [47]) ++ b by simp, show a.length + 1 = (a ++ [47]).length by simp, List.drop_left]
  have hza : (byt a).size ≤ 400 := by rw [byt_size]; omega
  have hzb : (byt b).size ≤ 400 := by rw [byt_size]; omega
  have HX1 := Lib.hid hx1; clear hx1
  have HX2 := Lib.hid hx2; clear hx2
  have HZA := Lib.hid hza; clear hza
  have HZB := Lib.hid hzb; clear hzb
  have HL := Lib.hid hlen; clear hlen
  go_enter Tryz.func47, Tryz.ntmps47
  go_wp2_with fail
  obtain ⟨W0, hW⟩ : ∃ W, W = w.alloc (.cells #[.int .i64 0, .slice none 0 0, .int .i64 0, .slice none 0 0] 43) := ⟨_, rfl⟩
  have hT : Below w.heap.size w W0 := by rw [hW]; exact (Below.refl _ _).alloc (Nat.le_refl _) _
  have kR : Blk W0 w.heap.size 43 #[.int .i64 0, .slice none 0 0, .int .i64 0, .slice none 0 0] := by rw [hW]; exact Blk.new _ _ _
  rw [← hW]
  clear hW
  go_loop [4] (fun iv => ∃ i : Nat, i ≤ s.size ∧ iv = .int .i64 i ∧ Hid ((47 : UInt8) ∉ (bts s).take i)) (fun iv => s.size - (intOf iv).toNat)
  case atStart => exact ⟨0, Nat.zero_le _, rfl, Lib.hid (fun h => by cases h)⟩
  case round =>
    obtain ⟨i, hi, rfl, hv⟩ := hrel
    have hgo : i < s.size := by
      rcases Nat.lt_or_ge i s.size with h | h
      · exact h
      · exfalso
        have h1 := hv.out
        rw [List.take_of_length_le (by rw [bts_len]; omega), HAB.out] at h1
        exact h1 (by simp)
    by_cases h47 : s[i] = 47
    rotate_left
    · have hne : ((s[i].toNat : Int) == 47) = false := by
        rw [beq_eq_false_iff_ne]
        intro h
        exact h47 (UInt8.toNat_inj.1 (by have h2 : (47 : UInt8).toNat = 47 := rfl; omega))
      have hnew := Lib.hid (show (47 : UInt8) ∉ (bts s).take (i + 1) by
        rw [bts_snoc s i hgo, List.mem_append, List.mem_singleton]
        rintro (h | h)
        · exact hv.out h
        · exact h47 h.symm)
      clear h47
      go_wp2_with fail
      go_round
      case rel => exact ⟨i + 1, by omega, rfl, hnew⟩
      case measure => simp [intOf]; omega
    have hia : i = a.length := stroke_at HAB.out HNN.out (by rw [bts_get s i hgo, h47]) hv.out
    clear hv
    have h47n : (s[i].toNat : Int) = 47 := by rw [h47]; rfl
    clear h47
    have hne2 : ((i : Int) == (s.size : Int)) = false := by rw [beq_eq_false_iff_ne]; omega
    have hx1 : s.extract 0 i = byt a := by rw [hia]; exact HX1.out
    have hx2 : s.extract (i + 1) s.size = byt b := by rw [hia]; exact HX2.out
    clear hia
    go_wp2_with fail
    (with_reducible refine (rread_any _ _ HZA.out Z1 _ HR1.out).mono ?_)
    rintro e u1 ⟨r1, rfl, hr1, hb9⟩
    replace hT := hT.trans (hb9.mono hT.size)
    replace kR := kR.below hb9 kR.lt
    clear hb9
    obtain ⟨sA, AA, nA, cA, rfl⟩ := hr1.form
    go_wp2_with fail
    obtain ⟨W1, hW, hbx, k1⟩ := box1 hr1
    rw [← hW]
    clear hW
    replace hr1 := hr1.below hbx
    replace hT := hT.trans (hbx.mono hT.size)
    replace kR := kR.below hbx kR.lt
    clear hbx
    (with_reducible refine (rread_any _ _ HZB.out Z2 _ HR2.out).mono ?_)
    rintro e u2 ⟨r2, rfl, hr2, hb9⟩
    replace hT := hT.trans (hb9.mono hT.size)
    replace kR := kR.below hb9 kR.lt
    replace k1 := k1.below hb9
    replace hr1 := hr1.below hb9
    clear hb9
    obtain ⟨sB, AB, nB, cB, rfl⟩ := hr2.form
    obtain ⟨W2, hW, hbx, k2⟩ := box1 hr2
    have k1w := k1.below hbx
    have z0 := k1w.c0
    have z1 := k1w.c1
    have z2 := k2.c0
    have z3 := k2.c1
    replace hT := hT.trans (hbx.mono hT.size)
    replace kR := kR.below hbx kR.lt
    replace hT := hT.alloc hT.size (.cells #[.int .i64 sA, .slice AA nA cA, .int .i64 sB, .slice AB nB cB] 43)
    replace kR := kR.alloc (.cells #[.int .i64 sA, .slice AA nA cA, .int .i64 sB, .slice AB nB cB] 43)
    rw [hW] at z0 z1 z2 z3 hT kR
    clear hW hbx k1w hr1 hr2
    have r0 := kR.cell 0
    have r1 := kR.cell 1
    have r2 := kR.cell 2
    have r3 := kR.cell 3
    have q0' := kR.frozen 0
    have q1' := kR.frozen 1
    have q2' := kR.frozen 2
    have q3' := kR.frozen 3
    simp at r0 r1 r2 r3
    have hbs := kR.set4 (.int .i64 0) (.slice none 0 0) (.int .i64 0) (.slice none 0 0)
    have x0 := hbs.cell 0
    have x1 := hbs.cell 1
    have x2 := hbs.cell 2
    have x3 := hbs.cell 3
    simp at x0 x1 x2 x3
    go_wp2_with fail
    refine bodyPost_ret (v := .tuple #[.agg #[.int .i64 0, .slice none 0 0, .int .i64 0, .slice none 0 0], .int .i64 2]) (by simp [results, Tryz.results47, go_sem, x0, x1, x2, x3]) rfl ?_
    exact ⟨rfl, below_st4 hT (Nat.le_refl _) _ _ _ _⟩

set_option maxRecDepth 100000 in
set_option maxHeartbeats 8000000 in
theorem rfread_b (s : ByteArray) (w : World) (hs : s.size ≤ 300) (a b : List UInt8) (hab : bts s = a ++ 47 :: b) (ha : (47 : UInt8) ∉ a) (Z1 E1 Z2 E2 : Int) (h1 : ReadR (byt a) Z1 E1) (h2 : ReadR (byt b) Z2 E2) (hE1 : E1 = 0) (hE : (E2 != 0) = true) :
    Calls Tryz.prog 47 #[.string s] w fun e w' => e = .returned (.tuple #[.agg #[.int .i64 0, .slice none 0 0, .int .i64 0, .slice none 0 0], .int .i64 2]) ∧ Below w.heap.size w w' := by
  subst hE1
  have HR1 := Lib.hid h1; clear h1
  have HR2 := Lib.hid h2; clear h2
  have HNN := Lib.hid ha; clear ha
  have HAB := Lib.hid hab; clear hab
  have hlen : s.size = a.length + 1 + b.length := by rw [← bts_len, HAB.out, List.length_append, List.length_cons]; omega
  have hx1 : s.extract 0 a.length = byt a := by rw [ext_take, HAB.out]; simp
  have hx2 : s.extract (a.length + 1) s.size = byt b := by rw [ext_drop, HAB.out, show a ++ 47 :: b = (a ++ [47]) ++ b by simp, show a.length + 1 = (a ++ [47]).length by simp, List.drop_left]
  have hza : (byt a).size ≤ 400 := by rw [byt_size]; omega
  have hzb : (byt b).size ≤ 400 := by rw [byt_size]; omega
  have HX1 := Lib.hid hx1; clear hx1
  have HX2 := Lib.hid hx2; clear hx2
  have HZA := Lib.hid hza; clear hza
  have HZB := Lib.hid hzb; clear hzb
  have HL := Lib.hid hlen; clear hlen
  go_enter Tryz.func47, Tryz.ntmps47
  go_wp2_with fail
  obtain ⟨W0, hW⟩ : ∃ W, W = w.alloc (.cells #[.int .i64 0, .slice none 0 0, .int .i64 0, .slice none 0 0] 43) := ⟨_, rfl⟩
  have hT : Below w.heap.size w W0 := by rw [hW]; exact (Below.refl _ _).alloc (Nat.le_refl _) _
  have kR : Blk W0 w.heap.size 43 #[.int .i64 0, .slice none 0 0, .int .i64 0, .slice none 0 0] := by rw [hW]; exact Blk.new _ _ _
  rw [← hW]
  clear hW
  go_loop [4] (fun iv => ∃ i : Nat, i ≤ s.size ∧ iv = .int .i64 i ∧ Hid ((47 : UInt8) ∉ (bts s).take i)) (fun iv => s.size - (intOf iv).toNat)
  case atStart => exact ⟨0, Nat.zero_le _, rfl, Lib.hid (fun h => by cases h)⟩
  case round =>
    obtain ⟨i, hi, rfl, hv⟩ := hrel
    have hgo : i < s.size := by
      rcases Nat.lt_or_ge i s.size with h | h
      · exact h
      · exfalso
        have h1 := hv.out
        rw [List.take_of_length_le (by rw [bts_len]; omega), HAB.out] at h1
        exact h1 (by simp)
    by_cases h47 : s[i] = 47
    rotate_left
    · have hne : ((s[i].toNat : Int) == 47) = false := by
        rw [beq_eq_false_iff_ne]
        intro h
        exact h47 (UInt8.toNat_inj.1 (by have h2 : (47 : UInt8).toNat = 47 := rfl; omega))
      have hnew := Lib.hid (show (47 : UInt8) ∉ (bts s).take (i + 1) by
        rw [bts_snoc s i hgo, List.mem_append, List.mem_singleton]
        rintro (h | h)
        · exact hv.out h
        · exact h47 h.symm)
      clear h47
      go_wp2_with fail
      go_round
      case rel => exact ⟨i + 1, by omega, rfl, hnew⟩
      case measure => simp [intOf]; omega
    have hia : i = a.length := stroke_at HAB.out HNN.out (by rw [bts_get s i hgo, h47]) hv.out
    clear hv
    have h47n : (s[i].toNat : Int) = 47 := by rw [h47]; rfl
    clear h47
    have hne2 : ((i : Int) == (s.size : Int)) = false := by rw [beq_eq_false_iff_ne]; omega
    have hx1 : s.extract 0 i = byt a := by rw [hia]; exact HX1.out
    have hx2 : s.extract (i + 1) s.size = byt b := by rw [hia]; exact HX2.out
    clear hia
    go_wp2_with fail
    (with_reducible refine (rread_any _ _ HZA.out Z1 _ HR1.out).mono ?_)
    rintro e u1 ⟨r1, rfl, hr1, hb9⟩
    replace hT := hT.trans (hb9.mono hT.size)
    replace kR := kR.below hb9 kR.lt
    clear hb9
    obtain ⟨sA, AA, nA, cA, rfl⟩ := hr1.form
    go_wp2_with fail
    obtain ⟨W1, hW, hbx, k1⟩ := box1 hr1
    rw [← hW]
    clear hW
    replace hr1 := hr1.below hbx
    replace hT := hT.trans (hbx.mono hT.size)
    replace kR := kR.below hbx kR.lt
    clear hbx
    (with_reducible refine (rread_any _ _ HZB.out Z2 _ HR2.out).mono ?_)
    rintro e u2 ⟨r2, rfl, hr2, hb9⟩
    replace hT := hT.trans (hb9.mono hT.size)
    replace kR := kR.below hb9 kR.lt
    replace k1 := k1.below hb9
    replace hr1 := hr1.below hb9
    clear hb9
    obtain ⟨sB, AB, nB, cB, rfl⟩ := hr2.form
    obtain ⟨W2, hW, hbx, k2⟩ := box1 hr2
    have k1w := k1.below hbx
    have z0 := k1w.c0
    have z1 := k1w.c1
    have z2 := k2.c0
    have z3 := k2.c1
    replace hT := hT.trans (hbx.mono hT.size)
    replace kR := kR.below hbx kR.lt
    replace hT := hT.alloc hT.size (.cells #[.int .i64 sA, .slice AA nA cA, .int .i64 sB, .slice AB nB cB] 43)
    replace kR := kR.alloc (.cells #[.int .i64 sA, .slice AA nA cA, .int .i64 sB, .slice AB nB cB] 43)
    rw [hW] at z0 z1 z2 z3 hT kR
    clear hW hbx k1w hr1 hr2
    have r0 := kR.cell 0
    have r1 := kR.cell 1
    have r2 := kR.cell 2
    have r3 := kR.cell 3
    have q0' := kR.frozen 0
    have q1' := kR.frozen 1
    have q2' := kR.frozen 2
    have q3' := kR.frozen 3
    simp at r0 r1 r2 r3
    have hbs := kR.set4 (.int .i64 0) (.slice none 0 0) (.int .i64 0) (.slice none 0 0)
    have x0 := hbs.cell 0
    have x1 := hbs.cell 1
    have x2 := hbs.cell 2
    have x3 := hbs.cell 3
    simp at x0 x1 x2 x3
    go_wp2_with fail
    refine bodyPost_ret (v := .tuple #[.agg #[.int .i64 0, .slice none 0 0, .int .i64 0, .slice none 0 0], .int .i64 2]) (by simp [results, Tryz.results47, go_sem, x0, x1, x2, x3]) rfl ?_
    exact ⟨rfl, below_st4 hT (Nat.le_refl _) _ _ _ _⟩

set_option maxRecDepth 100000 in
set_option maxHeartbeats 8000000 in
theorem rfread_c (s : ByteArray) (w : World) (hs : s.size ≤ 300) (a b : List UInt8) (hab : bts s = a ++ 47 :: b) (ha : (47 : UInt8) ∉ a) (Z1 E1 Z2 E2 : Int) (h1 : ReadR (byt a) Z1 E1) (h2 : ReadR (byt b) Z2 E2) (hE1 : E1 = 0) (hE2 : E2 = 0) (hp : ab Z1 < pw 60) (hq : ab Z2 < pw 60) (hf : ¬ FR Z1 Z2) :
    Calls Tryz.prog 47 #[.string s] w fun e w' => e = .returned (.tuple #[.agg #[.int .i64 0, .slice none 0 0, .int .i64 0, .slice none 0 0], .int .i64 2]) ∧ Below w.heap.size w w' := by
  subst hE1
  subst hE2
  have HPF := Lib.hid (And.intro hp (And.intro hq hf)); clear hp hq hf
  have HR1 := Lib.hid h1; clear h1
  have HR2 := Lib.hid h2; clear h2
  have HNN := Lib.hid ha; clear ha
  have HAB := Lib.hid hab; clear hab
  have hlen : s.size = a.length + 1 + b.length := by rw [← bts_len, HAB.out, List.length_append, List.length_cons]; omega
  have hx1 : s.extract 0 a.length = byt a := by rw [ext_take, HAB.out]; simp
  have hx2 : s.extract (a.length + 1) s.size = byt b := by rw [ext_drop, HAB.out, show a ++ 47 :: b = (a ++ [47]) ++ b by simp, show a.length + 1 = (a ++ [47]).length by simp, List.drop_left]
  have hza : (byt a).size ≤ 400 := by rw [byt_size]; omega
  have hzb : (byt b).size ≤ 400 := by rw [byt_size]; omega
  have HX1 := Lib.hid hx1; clear hx1
  have HX2 := Lib.hid hx2; clear hx2
  have HZA := Lib.hid hza; clear hza
  have HZB := Lib.hid hzb; clear hzb
  have HL := Lib.hid hlen; clear hlen
  go_enter Tryz.func47, Tryz.ntmps47
  go_wp2_with fail
  obtain ⟨W0, hW⟩ : ∃ W, W = w.alloc (.cells #[.int .i64 0, .slice none 0 0, .int .i64 0, .slice none 0 0] 43) := ⟨_, rfl⟩
  have hT : Below w.heap.size w W0 := by rw [hW]; exact (Below.refl _ _).alloc (Nat.le_refl _) _
  have kR : Blk W0 w.heap.size 43 #[.int .i64 0, .slice none 0 0, .int .i64 0, .slice none 0 0] := by rw [hW]; exact Blk.new _ _ _
  rw [← hW]
  clear hW
  go_loop [4] (fun iv => ∃ i : Nat, i ≤ s.size ∧ iv = .int .i64 i ∧ Hid ((47 : UInt8) ∉ (bts s).take i)) (fun iv => s.size - (intOf iv).toNat)
  case atStart => exact ⟨0, Nat.zero_le _, rfl, Lib.hid (fun h => by cases h)⟩
  case round =>
    obtain ⟨i, hi, rfl, hv⟩ := hrel
    have hgo : i < s.size := by
      rcases Nat.lt_or_ge i s.size with h | h
      · exact h
      · exfalso
        have h1 := hv.out
        rw [List.take_of_length_le (by rw [bts_len]; omega), HAB.out] at h1
        exact h1 (by simp)
    by_cases h47 : s[i] = 47
    rotate_left
    · have hne : ((s[i].toNat : Int) == 47) = false := by
        rw [beq_eq_false_iff_ne]
        intro h
        exact h47 (UInt8.toNat_inj.1 (by have h2 : (47 : UInt8).toNat = 47 := rfl; omega))
      have hnew := Lib.hid (show (47 : UInt8) ∉ (bts s).take (i + 1) by
        rw [bts_snoc s i hgo, List.mem_append, List.mem_singleton]
        rintro (h | h)
        · exact hv.out h
        · exact h47 h.symm)
      clear h47
      go_wp2_with fail
      go_round
      case rel => exact ⟨i + 1, by omega, rfl, hnew⟩
      case measure => simp [intOf]; omega
    have hia : i = a.length := stroke_at HAB.out HNN.out (by rw [bts_get s i hgo, h47]) hv.out
    clear hv
    have h47n : (s[i].toNat : Int) = 47 := by rw [h47]; rfl
    clear h47
    have hne2 : ((i : Int) == (s.size : Int)) = false := by rw [beq_eq_false_iff_ne]; omega
    have hx1 : s.extract 0 i = byt a := by rw [hia]; exact HX1.out
    have hx2 : s.extract (i + 1) s.size = byt b := by rw [hia]; exact HX2.out
    clear hia
    go_wp2_with fail
    (with_reducible refine (rread_any _ _ HZA.out Z1 _ HR1.out).mono ?_)
    rintro e u1 ⟨r1, rfl, hr1, hb9⟩
    replace hT := hT.trans (hb9.mono hT.size)
    replace kR := kR.below hb9 kR.lt
    clear hb9
    obtain ⟨sA, AA, nA, cA, rfl⟩ := hr1.form
    go_wp2_with fail
    obtain ⟨W1, hW, hbx, k1⟩ := box1 hr1
    rw [← hW]
    clear hW
    replace hr1 := hr1.below hbx
    replace hT := hT.trans (hbx.mono hT.size)
    replace kR := kR.below hbx kR.lt
    clear hbx
    (with_reducible refine (rread_any _ _ HZB.out Z2 _ HR2.out).mono ?_)
    rintro e u2 ⟨r2, rfl, hr2, hb9⟩
    replace hT := hT.trans (hb9.mono hT.size)
    replace kR := kR.below hb9 kR.lt
    replace k1 := k1.below hb9
    replace hr1 := hr1.below hb9
    clear hb9
    obtain ⟨sB, AB, nB, cB, rfl⟩ := hr2.form
    obtain ⟨W2, hW, hbx, k2⟩ := box1 hr2
    have k1w := k1.below hbx
    have z0 := k1w.c0
    have z1 := k1w.c1
    have z2 := k2.c0
    have z3 := k2.c1
    replace hT := hT.trans (hbx.mono hT.size)
    replace kR := kR.below hbx kR.lt
    have hf1 : FV W2 W2.heap.size sA AA nA cA sB AB nB cB Z1 Z2 := ⟨k1w.bv, k2.bv⟩
    obtain ⟨W3, hW3, hbx3, kX⟩ := fbox1 hf1
    rw [show W2.heap.size = u2.heap.size + 1 by rw [hW]; simp] at kX
    replace hr1 := (hr1.below hbx).below hbx3
    replace hr2 := (hr2.below hbx).below hbx3
    replace hT := hT.trans (hbx3.mono hT.size)
    replace kR := kR.below hbx3 kR.lt
    have y0 := kX.c0
    have y1 := kX.c1
    have y2 := kX.c2
    have y3 := kX.c3
    rw [hW3, hW] at y0 y1 y2 y3
    rw [hW] at z0 z1 z2 z3
    go_wp2_with fail
    clear z0 z1 z2 z3 y0 y1 y2 y3
    rw [← hW, ← hW3]
    clear hW hW3 hbx hbx3 k1w k1 k2 hf1
    (with_reducible refine (rftext_bad _ (bv_ar kX.fv.a) (bv_ar kX.fv.b) (by rw [(bv_sv kX.fv.a).2.1, (bv_sv kX.fv.b).2.1, RF.iff HPF.out.1 HPF.out.2.1]; exact HPF.out.2.2)).mono ?_)
    rintro e u3 ⟨rfl, hb9⟩
    replace hT := hT.trans (hb9.mono hT.size)
    replace kR := kR.below hb9 kR.lt
    replace kX := kX.below hb9
    replace hr1 := hr1.below hb9
    replace hr2 := hr2.below hb9
    have hse : s.toList.isEmpty = false := by
      rw [ByteArray.toList_eq]
      have h9 := HAB.out
      unfold bts at h9
      rw [h9]
      cases a <;> rfl
    clear kX hr1 hr2
    have r0 := kR.cell 0
    have r1 := kR.cell 1
    have r2 := kR.cell 2
    have r3 := kR.cell 3
    have q0' := kR.frozen 0
    have q1' := kR.frozen 1
    have q2' := kR.frozen 2
    have q3' := kR.frozen 3
    simp at r0 r1 r2 r3
    have hbs := kR.set4 (.int .i64 0) (.slice none 0 0) (.int .i64 0) (.slice none 0 0)
    have x0 := hbs.cell 0
    have x1 := hbs.cell 1
    have x2 := hbs.cell 2
    have x3 := hbs.cell 3
    simp at x0 x1 x2 x3
    go_wp2_with fail
    refine bodyPost_ret (v := .tuple #[.agg #[.int .i64 0, .slice none 0 0, .int .i64 0, .slice none 0 0], .int .i64 2]) (by simp [results, Tryz.results47, go_sem, x0, x1, x2, x3]) rfl ?_
    exact ⟨rfl, below_st4 hT (Nat.le_refl _) _ _ _ _⟩

set_option maxRecDepth 100000 in
set_option maxHeartbeats 8000000 in
theorem rfread_d (s : ByteArray) (w : World) (hs : s.size ≤ 300) (a b : List UInt8) (hab : bts s = a ++ 47 :: b) (ha : (47 : UInt8) ∉ a) (Z1 E1 Z2 E2 : Int) (h1 : ReadR (byt a) Z1 E1) (h2 : ReadR (byt b) Z2 E2) (hE1 : E1 = 0) (hE2 : E2 = 0) (hp : ab Z1 < pw 60) (hq : ab Z2 < pw 60) (hf : FR Z1 Z2) (hst : bts s = Lib.itoa Z1 ++ 47 :: Lib.itoa Z2) :
    Calls Tryz.prog 47 #[.string s] w fun e w' => ∃ r, e = .returned (.tuple #[r, .int .i64 0]) ∧ FO w' w.heap.size r Z1 Z2 ∧ Below w.heap.size w w' := by
  subst hE1
  subst hE2
  have HPF := Lib.hid (And.intro hp (And.intro hq hf)); clear hp hq hf
  have hss : byt (Lib.itoa Z1 ++ [47] ++ Lib.itoa Z2) = s := by
    rw [show Lib.itoa Z1 ++ [47] ++ Lib.itoa Z2 = Lib.itoa Z1 ++ 47 :: Lib.itoa Z2 by simp, ← hst]
    unfold byt bts
    simp
  have HSS := Lib.hid hss; clear hss hst
  have HR1 := Lib.hid h1; clear h1
  have HR2 := Lib.hid h2; clear h2
  have HNN := Lib.hid ha; clear ha
  have HAB := Lib.hid hab; clear hab
  have hlen : s.size = a.length + 1 + b.length := by rw [← bts_len, HAB.out, List.length_append, List.length_cons]; omega
  have hx1 : s.extract 0 a.length = byt a := by rw [ext_take, HAB.out]; simp
  have hx2 : s.extract (a.length + 1) s.size = byt b := by rw [ext_drop, HAB.out, show a ++ 47 :: b = (a ++ [47]) ++ b by simp, show a.length + 1 = (a ++ [47]).length by simp, List.drop_left]
  have hza : (byt a).size ≤ 400 := by rw [byt_size]; omega
  have hzb : (byt b).size ≤ 400 := by rw [byt_size]; omega
  have HX1 := Lib.hid hx1; clear hx1
  have HX2 := Lib.hid hx2; clear hx2
  have HZA := Lib.hid hza; clear hza
  have HZB := Lib.hid hzb; clear hzb
  have HL := Lib.hid hlen; clear hlen
  go_enter Tryz.func47, Tryz.ntmps47
  go_wp2_with fail
  obtain ⟨W0, hW⟩ : ∃ W, W = w.alloc (.cells #[.int .i64 0, .slice none 0 0, .int .i64 0, .slice none 0 0] 43) := ⟨_, rfl⟩
  have hT : Below w.heap.size w W0 := by rw [hW]; exact (Below.refl _ _).alloc (Nat.le_refl _) _
  have kR : Blk W0 w.heap.size 43 #[.int .i64 0, .slice none 0 0, .int .i64 0, .slice none 0 0] := by rw [hW]; exact Blk.new _ _ _
  rw [← hW]
  clear hW
  go_loop [4] (fun iv => ∃ i : Nat, i ≤ s.size ∧ iv = .int .i64 i ∧ Hid ((47 : UInt8) ∉ (bts s).take i)) (fun iv => s.size - (intOf iv).toNat)
  case atStart => exact ⟨0, Nat.zero_le _, rfl, Lib.hid (fun h => by cases h)⟩
  case round =>
    obtain ⟨i, hi, rfl, hv⟩ := hrel
    have hgo : i < s.size := by
      rcases Nat.lt_or_ge i s.size with h | h
      · exact h
      · exfalso
        have h1 := hv.out
        rw [List.take_of_length_le (by rw [bts_len]; omega), HAB.out] at h1
        exact h1 (by simp)
    by_cases h47 : s[i] = 47
    rotate_left
    · have hne : ((s[i].toNat : Int) == 47) = false := by
        rw [beq_eq_false_iff_ne]
        intro h
        exact h47 (UInt8.toNat_inj.1 (by have h2 : (47 : UInt8).toNat = 47 := rfl; omega))
      have hnew := Lib.hid (show (47 : UInt8) ∉ (bts s).take (i + 1) by
        rw [bts_snoc s i hgo, List.mem_append, List.mem_singleton]
        rintro (h | h)
        · exact hv.out h
        · exact h47 h.symm)
      clear h47
      go_wp2_with fail
      go_round
      case rel => exact ⟨i + 1, by omega, rfl, hnew⟩
      case measure => simp [intOf]; omega
    have hia : i = a.length := stroke_at HAB.out HNN.out (by rw [bts_get s i hgo, h47]) hv.out
    clear hv
    have h47n : (s[i].toNat : Int) = 47 := by rw [h47]; rfl
    clear h47
    have hne2 : ((i : Int) == (s.size : Int)) = false := by rw [beq_eq_false_iff_ne]; omega
    have hx1 : s.extract 0 i = byt a := by rw [hia]; exact HX1.out
    have hx2 : s.extract (i + 1) s.size = byt b := by rw [hia]; exact HX2.out
    clear hia
    go_wp2_with fail
    have HL1 := Lib.hid (And.intro kR.lt hT.size)
    (with_reducible refine (rread_any _ _ HZA.out Z1 _ HR1.out).mono ?_)
    rintro e u1 ⟨r1, rfl, hr1, hb9⟩
    replace hT := hT.trans (hb9.mono hT.size)
    replace kR := kR.below hb9 kR.lt
    clear hb9
    obtain ⟨sA, AA, nA, cA, rfl⟩ := hr1.form
    go_wp2_with fail
    obtain ⟨W1, hW, hbx, k1⟩ := box1 hr1
    rw [← hW]
    clear hW
    replace hr1 := hr1.below hbx
    replace hT := hT.trans (hbx.mono hT.size)
    replace kR := kR.below hbx kR.lt
    clear hbx
    have HL2 := Lib.hid (And.intro kR.lt hT.size)
    (with_reducible refine (rread_any _ _ HZB.out Z2 _ HR2.out).mono ?_)
    rintro e u2 ⟨r2, rfl, hr2, hb9⟩
    replace hT := hT.trans (hb9.mono hT.size)
    replace kR := kR.below hb9 kR.lt
    replace k1 := k1.below hb9
    replace hr1 := hr1.below hb9
    clear hb9
    obtain ⟨sB, AB, nB, cB, rfl⟩ := hr2.form
    obtain ⟨W2, hW, hbx, k2⟩ := box1 hr2
    have k1w := k1.below hbx
    have z0 := k1w.c0
    have z1 := k1w.c1
    have z2 := k2.c0
    have z3 := k2.c1
    replace hT := hT.trans (hbx.mono hT.size)
    replace kR := kR.below hbx kR.lt
    have hf1 : FV W2 W2.heap.size sA AA nA cA sB AB nB cB Z1 Z2 := ⟨k1w.bv, k2.bv⟩
    obtain ⟨W3, hW3, hbx3, kX⟩ := fbox1 hf1
    rw [show W2.heap.size = u2.heap.size + 1 by rw [hW]; simp] at kX
    replace hr1 := (hr1.below hbx).below hbx3
    replace hr2 := (hr2.below hbx).below hbx3
    replace hT := hT.trans (hbx3.mono hT.size)
    replace kR := kR.below hbx3 kR.lt
    have y0 := kX.c0
    have y1 := kX.c1
    have y2 := kX.c2
    have y3 := kX.c3
    rw [hW3, hW] at y0 y1 y2 y3
    rw [hW] at z0 z1 z2 z3
    go_wp2_with fail
    clear z0 z1 z2 z3 y0 y1 y2 y3
    rw [← hW, ← hW3]
    clear hW hW3 hbx hbx3 k1w k1 k2 hf1
    (with_reducible refine (rftext_any _ _ _ _ _ _ _ _ _ _ _ kX.fv HPF.out.1 HPF.out.2.1 HPF.out.2.2).mono ?_)
    rintro e u3 ⟨rfl, hb9⟩
    replace hT := hT.trans (hb9.mono hT.size)
    replace kR := kR.below hb9 kR.lt
    replace kX := kX.below hb9
    replace hr1 := hr1.below hb9
    replace hr2 := hr2.below hb9
    rw [HSS.out]
    have y0 := kX.c0
    have y1 := kX.c1
    have y2 := kX.c2
    have y3 := kX.c3
    have r0 := kR.cell 0
    have r1 := kR.cell 1
    have r2 := kR.cell 2
    have r3 := kR.cell 3
    have q0' := kR.frozen 0
    have q1' := kR.frozen 1
    have q2' := kR.frozen 2
    have q3' := kR.frozen 3
    simp at r0 r1 r2 r3
    have hbs := kR.set4 (.int .i64 sA) (.slice AA nA cA) (.int .i64 sB) (.slice AB nB cB)
    have x0 := hbs.cell 0
    have x1 := hbs.cell 1
    have x2 := hbs.cell 2
    have x3 := hbs.cell 3
    simp at x0 x1 x2 x3
    go_wp2_with fail
    refine bodyPost_ret (v := .tuple #[.agg #[.int .i64 sA, .slice AA nA cA, .int .i64 sB, .slice AB nB cB], .int .i64 0]) (by simp [results, Tryz.results47, go_sem, x0, x1, x2, x3]) rfl ?_
    exact ⟨_, rfl, FO.mk2 ((hr1.far4 HL1.out.1 _ _ _ _).mono HL1.out.2) ((hr2.far4 HL2.out.1 _ _ _ _).mono HL2.out.2), below_st4 hT (Nat.le_refl _) _ _ _ _⟩


/-- The reference's Read of a text that is a fraction's. -/
theorem rfread_yes (s : ByteArray) (w : World) (hs : s.size ≤ 300) (x : Rat) (hx : bts s = ftx x) (hr : Rb x 60 60) :
    Calls Tryz.prog 47 #[.string s] w fun e w' => ∃ r, e = .returned (.tuple #[r, .int .i64 0]) ∧ FO w' w.heap.size r x.num x.den ∧ Below w.heap.size w w' :=
  rfread_d s w hs (Lib.itoa x.num) (Lib.itoa x.den) hx (itoa47 _) x.num 0 x.den 0 (.inl ⟨x.num, bts_byt _, (fits hr.n).2.symm, (fits hr.n).1.symm⟩) (.inl ⟨x.den, bts_byt _, (fits hr.d).2.symm, (fits hr.d).1.symm⟩) rfl rfl hr.n hr.d (FR.of x) hx
/-- The reference's Read of a text that is no fraction's. -/
theorem rfread_no (s : ByteArray) (w : World) (hs : s.size ≤ 300) (hn : ∀ x, Rb x 60 60 → bts s ≠ ftx x) :
    Calls Tryz.prog 47 #[.string s] w fun e w' => e = .returned (.tuple #[.agg #[.int .i64 0, .slice none 0 0, .int .i64 0, .slice none 0 0], .int .i64 2]) ∧ Below w.heap.size w w' := by
  rcases split47 (bts s) with h | ⟨a, b, ha, hab⟩
  · exact rfread_none s w hs h
  have hread : ∀ t : List UInt8, ∃ Z E, ReadR (byt t) Z E ∧ (E = 0 → ab Z < pw 60 ∧ t = Lib.itoa Z) := by
    intro t
    by_cases hz : ∃ z, bts (byt t) = Lib.itoa z
    · obtain ⟨z, hz⟩ := hz
      refine ⟨fitz z, fite z, .inl ⟨z, hz, rfl, rfl⟩, fun h => ?_⟩
      have hf : ab z < pw 60 := Classical.byContradiction fun hf => by
        rw [show fite z = 6 from if_neg hf] at h
        omega
      rw [(fits hf).2]
      exact ⟨hf, by rw [← hz, bts_byt]⟩
    · exact ⟨0, 2, .inr ⟨fun z h => hz ⟨z, h⟩, rfl, rfl⟩, fun h => by omega⟩
  obtain ⟨Z1, E1, h1, g1⟩ := hread a
  obtain ⟨Z2, E2, h2, g2⟩ := hread b
  by_cases e1 : E1 = 0
  · by_cases e2 : E2 = 0
    · refine rfread_c s w hs a b hab ha Z1 E1 Z2 E2 h1 h2 e1 e2 (g1 e1).1 (g2 e2).1 (fun hf => ?_)
      obtain ⟨x, hx1, hx2⟩ := hf.rat
      refine hn x ⟨by rw [← hx1]; exact (g1 e1).1, by rw [← hx2]; exact (g2 e2).1⟩ ?_
      rw [hab, (g1 e1).2, (g2 e2).2, hx1, hx2]
      rfl
    · exact rfread_b s w hs a b hab ha Z1 E1 Z2 E2 h1 h2 e1 (by rw [bne_iff_ne]; exact e2)
  · exact rfread_a s w hs a b hab ha Z1 E1 Z2 E2 h1 h2 (by rw [bne_iff_ne]; exact e1)

end Go.Proofs.YtkjpfnbdlbnbkaaGreatDoor

namespace Go.Proofs.YtkjpfnbdlbnbkaaGreatDoor
open Go.RowKit

/-- A fraction is returned with OK, that the call owns. -/
def RetF (x : Rat) (w : World) (e : Ending) (w' : World) : Prop := ∃ r, e = .returned (.tuple #[r, .int .i64 0]) ∧ FO w' w.heap.size r x.num x.den ∧ Below w.heap.size w w'
theorem radd {s1 s2 s3 s4 : Int} {A1 A2 A3 A4 : Option Addr} {n1 d1 n2 d2 n3 d3 n4 d4 : Nat} {x y : Rat} {k m k' m' : Nat} (w : World) (ha : FV w w.heap.size s1 A1 n1 d1 s2 A2 n2 d2 x.num x.den) (hb : FV w w.heap.size s3 A3 n3 d3 s4 A4 n4 d4 y.num y.den) (hx : Rb x k m) (hy : Rb y k' m') (h : k + m' < 60 ∧ k' + m < 60 ∧ m + m' ≤ 60 ∧ k ≤ 60 ∧ k' ≤ 60 ∧ m ≤ 60 ∧ m' ≤ 60) :
    Calls Tryz.prog 35 #[.agg #[.int .i64 s1, .slice A1 n1 d1, .int .i64 s2, .slice A2 n2 d2], .agg #[.int .i64 s3, .slice A3 n3 d3, .int .i64 s4, .slice A4 n4 d4]] w (RetF (x + y) w) := by
  obtain ⟨e1, e2, e3, e4, e5, e6, e7⟩ := h
  have c1 := ab_mul_lt hx.n hy.d rfl
  have c2 := ab_mul_lt hy.n hx.d rfl
  have c3 := ab_add_lt c1 c2 e1 e2
  have c4 := ab_mul_lt hx.d hy.d rfl
  refine (fadd_fit _ _ _ _ _ _ _ _ _ _ _ _ _ _ _ _ _ _ _ _ w ha hb (up hx.n e4) (up hx.d e6) (up hy.n e5) (up hy.d e7) (FR.of x) (FR.of y) (up c1 (by omega)) (up c2 (by omega)) c3 (up c4 e3)).mono ?_
  rintro e w' ⟨r, rfl, hr, hb⟩
  have hd := den2_ne x y
  unfold newE newN newD at *
  rw [if_neg hd] at hr ⊢
  rw [if_neg hd, rat_add] at hr
  exact ⟨r, rfl, hr, hb⟩
theorem rsub {s1 s2 s3 s4 : Int} {A1 A2 A3 A4 : Option Addr} {n1 d1 n2 d2 n3 d3 n4 d4 : Nat} {x y : Rat} {k m k' m' : Nat} (w : World) (ha : FV w w.heap.size s1 A1 n1 d1 s2 A2 n2 d2 x.num x.den) (hb : FV w w.heap.size s3 A3 n3 d3 s4 A4 n4 d4 y.num y.den) (hx : Rb x k m) (hy : Rb y k' m') (h : k + m' < 60 ∧ k' + m < 60 ∧ m + m' ≤ 60 ∧ k ≤ 60 ∧ k' ≤ 60 ∧ m ≤ 60 ∧ m' ≤ 60) :
    Calls Tryz.prog 37 #[.agg #[.int .i64 s1, .slice A1 n1 d1, .int .i64 s2, .slice A2 n2 d2], .agg #[.int .i64 s3, .slice A3 n3 d3, .int .i64 s4, .slice A4 n4 d4]] w (RetF (x - y) w) := by
  obtain ⟨e1, e2, e3, e4, e5, e6, e7⟩ := h
  have c1 := ab_mul_lt hx.n hy.d rfl
  have c2 := ab_mul_lt hy.n hx.d rfl
  have c3 := ab_sub_lt c1 c2 e1 e2
  have c4 := ab_mul_lt hx.d hy.d rfl
  refine (fsub_fit _ _ _ _ _ _ _ _ _ _ _ _ _ _ _ _ _ _ _ _ w ha hb (up hx.n e4) (up hx.d e6) (up hy.n e5) (up hy.d e7) (FR.of x) (FR.of y) (up c1 (by omega)) (up c2 (by omega)) c3 (up c4 e3)).mono ?_
  rintro e w' ⟨r, rfl, hr, hb⟩
  have hd := den2_ne x y
  unfold newE newN newD at *
  rw [if_neg hd] at hr ⊢
  rw [if_neg hd, rat_sub] at hr
  exact ⟨r, rfl, hr, hb⟩
theorem rmul {s1 s2 s3 s4 : Int} {A1 A2 A3 A4 : Option Addr} {n1 d1 n2 d2 n3 d3 n4 d4 : Nat} {x y : Rat} {k m k' m' : Nat} (w : World) (ha : FV w w.heap.size s1 A1 n1 d1 s2 A2 n2 d2 x.num x.den) (hb : FV w w.heap.size s3 A3 n3 d3 s4 A4 n4 d4 y.num y.den) (hx : Rb x k m) (hy : Rb y k' m') (h : k + k' ≤ 60 ∧ m + m' ≤ 60 ∧ k ≤ 60 ∧ k' ≤ 60 ∧ m ≤ 60 ∧ m' ≤ 60) :
    Calls Tryz.prog 40 #[.agg #[.int .i64 s1, .slice A1 n1 d1, .int .i64 s2, .slice A2 n2 d2], .agg #[.int .i64 s3, .slice A3 n3 d3, .int .i64 s4, .slice A4 n4 d4]] w (RetF (x * y) w) := by
  obtain ⟨e1, e2, e4, e5, e6, e7⟩ := h
  have c1 := up (ab_mul_lt hx.n hy.n rfl) e1
  have c4 := up (ab_mul_lt hx.d hy.d rfl) e2
  refine (fmul_any _ _ _ _ _ _ _ _ _ _ _ _ _ _ _ _ _ _ _ _ w ha hb (up hx.n e4) (up hx.d e6) (up hy.n e5) (up hy.d e7) (FR.of x) (FR.of y)).mono ?_
  rintro e w' ⟨r, rfl, hr, hb⟩
  have hd := den2_ne x y
  unfold QE QN QD at *
  rw [if_pos ⟨c1, c4⟩] at hr ⊢
  rw [if_pos ⟨c1, c4⟩] at hr
  unfold newE newN newD at *
  rw [if_neg hd] at hr ⊢
  rw [if_neg hd, rat_mul] at hr
  exact ⟨r, rfl, hr, hb⟩
theorem rdiv {s1 s2 s3 s4 : Int} {A1 A2 A3 A4 : Option Addr} {n1 d1 n2 d2 n3 d3 n4 d4 : Nat} {x y : Rat} {k m k' m' : Nat} (w : World) (ha : FV w w.heap.size s1 A1 n1 d1 s2 A2 n2 d2 x.num x.den) (hb : FV w w.heap.size s3 A3 n3 d3 s4 A4 n4 d4 y.num y.den) (hx : Rb x k m) (hy : Rb y k' m') (h0 : y ≠ 0) (h : k + m' ≤ 60 ∧ m + k' ≤ 60 ∧ k ≤ 60 ∧ k' ≤ 60 ∧ m ≤ 60 ∧ m' ≤ 60) :
    Calls Tryz.prog 42 #[.agg #[.int .i64 s1, .slice A1 n1 d1, .int .i64 s2, .slice A2 n2 d2], .agg #[.int .i64 s3, .slice A3 n3 d3, .int .i64 s4, .slice A4 n4 d4]] w (RetF (x / y) w) := by
  obtain ⟨e1, e2, e4, e5, e6, e7⟩ := h
  have c1 := up (ab_mul_lt hx.n hy.d rfl) e1
  have c4 := up (ab_mul_lt hx.d hy.n rfl) e2
  refine (fdiv_any _ _ _ _ _ _ _ _ _ _ _ _ _ _ _ _ _ _ _ _ w ha hb (up hx.n e4) (up hx.d e6) (up hy.n e5) (up hy.d e7) (FR.of x) (FR.of y)).mono ?_
  rintro e w' ⟨r, rfl, hr, hb⟩
  have hd : (x.den : Int) * y.num ≠ 0 := Int.mul_ne_zero (den_ne x) (num_ne h0)
  unfold QE QN QD at *
  rw [if_pos ⟨c1, c4⟩] at hr ⊢
  rw [if_pos ⟨c1, c4⟩] at hr
  unfold newE newN newD at *
  rw [if_neg hd] at hr ⊢
  rw [if_neg hd, rat_div] at hr
  exact ⟨r, rfl, hr, hb⟩
/-- By 0 nothing is divided. -/
theorem rdiv0 {s1 s2 s3 s4 : Int} {A1 A2 A3 A4 : Option Addr} {n1 d1 n2 d2 n3 d3 n4 d4 : Nat} {x y : Rat} {k m k' m' : Nat} (w : World) (ha : FV w w.heap.size s1 A1 n1 d1 s2 A2 n2 d2 x.num x.den) (hb : FV w w.heap.size s3 A3 n3 d3 s4 A4 n4 d4 y.num y.den) (hx : Rb x k m) (hy : Rb y k' m') (h0 : y = 0) (h : m + k' ≤ 60 ∧ k + m' ≤ 60 ∧ k ≤ 60 ∧ k' ≤ 60 ∧ m ≤ 60 ∧ m' ≤ 60) :
    Calls Tryz.prog 42 #[.agg #[.int .i64 s1, .slice A1 n1 d1, .int .i64 s2, .slice A2 n2 d2], .agg #[.int .i64 s3, .slice A3 n3 d3, .int .i64 s4, .slice A4 n4 d4]] w fun e w' => ∃ r, e = .returned (.tuple #[r, .int .i64 15]) ∧ FO w' w.heap.size r 0 0 ∧ Below w.heap.size w w' := by
  obtain ⟨e1, e2, e4, e5, e6, e7⟩ := h
  have c1 := up (ab_mul_lt hx.n hy.d rfl) e2
  have c4 := up (ab_mul_lt hx.d hy.n rfl) e1
  refine (fdiv_any _ _ _ _ _ _ _ _ _ _ _ _ _ _ _ _ _ _ _ _ w ha hb (up hx.n e4) (up hx.d e6) (up hy.n e5) (up hy.d e7) (FR.of x) (FR.of y)).mono ?_
  rintro e w' ⟨r, rfl, hr, hb⟩
  have hd : (x.den : Int) * y.num = 0 := by rw [h0]; simp
  unfold QE QN QD at *
  rw [if_pos ⟨c1, c4⟩] at hr ⊢
  rw [if_pos ⟨c1, c4⟩] at hr
  unfold newE newN newD at *
  rw [if_pos hd] at hr ⊢
  rw [if_pos hd] at hr
  exact ⟨r, rfl, hr, hb⟩
/-- New of two integers of which the second one is not 0. -/
theorem rnew {s1 s2 : Int} {A1 A2 : Option Addr} {n1 d1 n2 d2 : Nat} {p q : Int} (w : World) (h1 : BV w w.heap.size (.agg #[.int .i64 s1, .slice A1 n1 d1]) p) (h2 : BV w w.heap.size (.agg #[.int .i64 s2, .slice A2 n2 d2]) q) (hp : ab p < pw 60) (hq : ab q < pw 60) (h0 : q ≠ 0) :
    Calls Tryz.prog 48 #[.agg #[.int .i64 s1, .slice A1 n1 d1], .agg #[.int .i64 s2, .slice A2 n2 d2]] w (RetF (Rat.divInt p q) w) := by
  refine (new_any _ _ _ _ _ _ _ _ p q w h1 h2 hp hq).mono ?_
  rintro e w' ⟨r, rfl, hr, hb⟩
  unfold newE newN newD at *
  rw [if_neg h0] at hr ⊢
  rw [if_neg h0] at hr
  exact ⟨r, rfl, hr, hb⟩
theorem rof (p q : Int) (w : World) (hp : isI p) (hq : isI q) (h0 : q ≠ 0) : Calls Tryz.prog 44 #[.int .i64 p, .int .i64 q] w (RetF (Rat.divInt p q) w) := by
  refine (fof_any p q w hp hq).mono ?_
  rintro e w' ⟨r, rfl, hr, hb⟩
  unfold newE newN newD at *
  rw [if_neg h0] at hr ⊢
  rw [if_neg h0] at hr
  exact ⟨r, rfl, hr, hb⟩
/-- The laws' own of. -/
theorem rlof (p q : Int) (w : World) (hp : isI p) (hq : isI q) (h0 : q ≠ 0) : Calls Tryz.prog 91 #[.int .i64 p, .int .i64 q] w fun e w' => ∃ r, e = .returned r ∧ FO w' w.heap.size r (Rat.divInt p q).num (Rat.divInt p q).den ∧ Below w.heap.size w w' := by
  refine (lof_any p q w hp hq).mono ?_
  rintro e w' ⟨r, rfl, hr, hb⟩
  unfold newN newD at *
  rw [if_neg h0] at hr
  rw [if_neg h0] at hr
  exact ⟨r, rfl, hr, hb⟩
theorem rright {s1 s2 : Int} {A1 A2 : Option Addr} {n1 d1 n2 d2 : Nat} {x : Rat} (w : World) (h : FV w w.heap.size s1 A1 n1 d1 s2 A2 n2 d2 x.num x.den) (hx : Rb x 60 60) :
    Calls Tryz.prog 50 #[.agg #[.int .i64 s1, .slice A1 n1 d1, .int .i64 s2, .slice A2 n2 d2]] w fun e w' => e = .returned (.bool true) ∧ Below w.heap.size w w' :=
  fright_pos w h hx.n hx.d (FR.of x).1 true (decide_eq_true (FR.of x).2)
theorem rsame {s1 s2 s3 s4 : Int} {A1 A2 A3 A4 : Option Addr} {n1 d1 n2 d2 n3 d3 n4 d4 : Nat} {x y : Rat} (w : World) (ha : FV w w.heap.size s1 A1 n1 d1 s2 A2 n2 d2 x.num x.den) (hb : FV w w.heap.size s3 A3 n3 d3 s4 A4 n4 d4 y.num y.den) (b : Bool) (hbb : decide (x = y) = b) :
    Calls Tryz.prog 39 #[.agg #[.int .i64 s1, .slice A1 n1 d1, .int .i64 s2, .slice A2 n2 d2], .agg #[.int .i64 s3, .slice A3 n3 d3, .int .i64 s4, .slice A4 n4 d4]] w fun e w' => e = .returned (.bool b) ∧ Below w.heap.size w w' :=
  fsame_any _ _ _ _ _ _ _ _ _ _ _ _ _ _ _ _ _ _ _ _ w ha hb b ((same_rat x y).trans hbb)
/-- A box with what an owned fraction is. -/
theorem fbox {u : World} {B : Nat} {s1 s2 : Int} {A1 A2 : Option Addr} {n1 d1 n2 d2 : Nat} {p q : Int} (h : FO u B (.agg #[.int .i64 s1, .slice A1 n1 d1, .int .i64 s2, .slice A2 n2 d2]) p q) :
    ∃ W, W = u.alloc (.cells #[.int .i64 s1, .slice A1 n1 d1, .int .i64 s2, .slice A2 n2 d2] 43) ∧ Below u.heap.size u W ∧ Bf 43 W u.heap.size s1 A1 n1 d1 s2 A2 n2 d2 p q := fbox1 h.fv

end Go.Proofs.YtkjpfnbdlbnbkaaGreatDoor

namespace Go.Proofs.YtkjpfnbdlbnbkaaGreatDoor
open Go.RowKit

section
variable {w w' W W' : World} {B g g' ga gb : Nat} {s1 s2 s3 s4 t1 t2 : Int} {A1 A2 A3 A4 C1 C2 : Option Addr} {n1 d1 n2 d2 n3 d3 n4 d4 m1 e1 m2 e2 : Nat} {p1 q1 p2 q2 r1 r2 z : Int} {s : Int} {A : Option Addr} {n c : Nat}
theorem BV.set4 (h : BV w B (.agg #[.int .i64 s, .slice A n c]) z) (hn : Nb A n g) (u0 u1 u2 u3 : Value) :
    BV ((((w.setCell ⟨g, 0, none⟩ u0).setCell ⟨g, 1, none⟩ u1).setCell ⟨g, 2, none⟩ u2).setCell ⟨g, 3, none⟩ u3) B (.agg #[.int .i64 s, .slice A n c]) z :=
  (((h.set hn 0 u0).set hn 1 u1).set hn 2 u2).set hn 3 u3
theorem Blk.far4 {t : TypeId} {cs : Array Value} (h : Blk w g' t cs) (hg : g' ≠ g) (u0 u1 u2 u3 : Value) :
    Blk ((((w.setCell ⟨g, 0, none⟩ u0).setCell ⟨g, 1, none⟩ u1).setCell ⟨g, 2, none⟩ u2).setCell ⟨g, 3, none⟩ u3) g' t cs :=
  (((h.far (p := ⟨g, 0, none⟩) hg u0).far (p := ⟨g, 1, none⟩) hg u1).far (p := ⟨g, 2, none⟩) hg u2).far (p := ⟨g, 3, none⟩) hg u3
/-- A fraction stored into its own box, whose parts lie elsewhere. -/
theorem Bf.put {t : TypeId} {a0 a1 a2 a3 : Value} (h : Blk W g t #[a0, a1, a2, a3]) (ha : BV W W.heap.size (.agg #[.int .i64 s1, .slice A1 n1 d1]) p1) (hb : BV W W.heap.size (.agg #[.int .i64 s2, .slice A2 n2 d2]) q1) (na : Nb A1 n1 g) (nb : Nb A2 n2 g) :
    Bf t ((((W.setCell ⟨g, 0, none⟩ (.int .i64 s1)).setCell ⟨g, 1, none⟩ (.slice A1 n1 d1)).setCell ⟨g, 2, none⟩ (.int .i64 s2)).setCell ⟨g, 3, none⟩ (.slice A2 n2 d2)) g s1 A1 n1 d1 s2 A2 n2 d2 p1 q1 := by
  refine ⟨h.set4 _ _ _ _, ?_, ?_⟩
  · have := ha.set4 na (.int .i64 s1) (.slice A1 n1 d1) (.int .i64 s2) (.slice A2 n2 d2)
    simpa using this
  · have := hb.set4 nb (.int .i64 s1) (.slice A1 n1 d1) (.int .i64 s2) (.slice A2 n2 d2)
    simpa using this
theorem Bf.set4 {t : TypeId} (h : Bf t W g' s1 A1 n1 d1 s2 A2 n2 d2 p1 q1) (hg : g' ≠ g) (na : Nb A1 n1 g) (nb : Nb A2 n2 g) (u0 u1 u2 u3 : Value) :
    Bf t ((((W.setCell ⟨g, 0, none⟩ u0).setCell ⟨g, 1, none⟩ u1).setCell ⟨g, 2, none⟩ u2).setCell ⟨g, 3, none⟩ u3) g' s1 A1 n1 d1 s2 A2 n2 d2 p1 q1 := by
  refine ⟨h.blk.far4 hg _ _ _ _, ?_, ?_⟩
  · have := h.fv.a.set4 na u0 u1 u2 u3
    simpa using this
  · have := h.fv.b.set4 nb u0 u1 u2 u3
    simpa using this
/-- Two boxes, of which each gets a fraction. -/
theorem Bf.both {t : TypeId} {ca cb : Array Value} {a0 a1 a2 a3 b0 b1 b2 b3 : Value} (hca : ca = #[a0, a1, a2, a3]) (hcb : cb = #[b0, b1, b2, b3]) (ka : Blk W ga t ca) (kb : Blk W gb t cb) (hne : ga ≠ gb)
    (v1 : BV W W.heap.size (.agg #[.int .i64 s1, .slice A1 n1 d1]) p1) (v2 : BV W W.heap.size (.agg #[.int .i64 s2, .slice A2 n2 d2]) q1) (v3 : BV W W.heap.size (.agg #[.int .i64 s3, .slice A3 n3 d3]) p2) (v4 : BV W W.heap.size (.agg #[.int .i64 s4, .slice A4 n4 d4]) q2)
    (x1 : Nb A1 n1 ga ∧ Nb A1 n1 gb) (x2 : Nb A2 n2 ga ∧ Nb A2 n2 gb) (x3 : Nb A3 n3 ga ∧ Nb A3 n3 gb) (x4 : Nb A4 n4 ga ∧ Nb A4 n4 gb) :
    Bf t ((((((((W.setCell ⟨ga, 0, none⟩ (.int .i64 s1)).setCell ⟨ga, 1, none⟩ (.slice A1 n1 d1)).setCell ⟨ga, 2, none⟩ (.int .i64 s2)).setCell ⟨ga, 3, none⟩ (.slice A2 n2 d2)).setCell ⟨gb, 0, none⟩ (.int .i64 s3)).setCell ⟨gb, 1, none⟩ (.slice A3 n3 d3)).setCell ⟨gb, 2, none⟩ (.int .i64 s4)).setCell ⟨gb, 3, none⟩ (.slice A4 n4 d4)) ga s1 A1 n1 d1 s2 A2 n2 d2 p1 q1 ∧
    Bf t ((((((((W.setCell ⟨ga, 0, none⟩ (.int .i64 s1)).setCell ⟨ga, 1, none⟩ (.slice A1 n1 d1)).setCell ⟨ga, 2, none⟩ (.int .i64 s2)).setCell ⟨ga, 3, none⟩ (.slice A2 n2 d2)).setCell ⟨gb, 0, none⟩ (.int .i64 s3)).setCell ⟨gb, 1, none⟩ (.slice A3 n3 d3)).setCell ⟨gb, 2, none⟩ (.int .i64 s4)).setCell ⟨gb, 3, none⟩ (.slice A4 n4 d4)) gb s3 A3 n3 d3 s4 A4 n4 d4 p2 q2 := by
  subst hca hcb
  have k1 := Bf.put ka v1 v2 x1.1 x2.1
  have w3 := v3.set4 x3.1 (.int .i64 s1) (.slice A1 n1 d1) (.int .i64 s2) (.slice A2 n2 d2)
  have w4 := v4.set4 x4.1 (.int .i64 s1) (.slice A1 n1 d1) (.int .i64 s2) (.slice A2 n2 d2)
  have kb1 := kb.far4 hne.symm (.int .i64 s1) (.slice A1 n1 d1) (.int .i64 s2) (.slice A2 n2 d2)
  exact ⟨k1.set4 hne x1.2 x2.2 _ _ _ _, Bf.put kb1 (by simpa using w3) (by simpa using w4) x3.2 x4.2⟩
theorem Bf.drew {t : TypeId} (h : Bf t W g s1 A1 n1 d1 s2 A2 n2 d2 p1 q1) : Bf t W.drew g s1 A1 n1 d1 s2 A2 n2 d2 p1 q1 := ⟨h.blk.drewN 1, h.fv.a, h.fv.b⟩
theorem BO.nb (h : BO w B (.agg #[.int .i64 s, .slice A n c]) z) (hg : g < B) : Nb A n g := Nb.high h hg
end

theorem qr_bd {p q x r : Int} (hq : 0 < q) (h : QR p q x r) : ab x ≤ ab p ∧ 0 ≤ r ∧ r < q := by
  obtain ⟨a1, a2, a3⟩ := floor_of hq h
  refine ⟨?_, a2, a3⟩
  unfold ab
  rcases Int.lt_or_le x 0 with g | g
  · have : (x + 1) * q ≤ (x + 1) * 1 := Int.mul_le_mul_of_nonpos_left (by omega) (by omega)
    rw [Int.add_mul] at this
    omega
  · have : x * 1 ≤ x * q := Int.mul_le_mul_of_nonneg_left (by omega) g
    omega
/-- The signs of what is left over, and the order. -/
theorem sgn_nn {r : Int} (h : 0 ≤ r) : sgn r = if r = 0 then 0 else 1 := by
  unfold sgn; rw [if_neg (by omega)]

set_option maxRecDepth 100000 in
set_option maxHeartbeats 8000000 in
theorem forder_any (s1 s2 s3 s4 : Int) (A1 A2 A3 A4 : Option Addr) (n1 d1 n2 d2 n3 d3 n4 d4 : Nat) (p1 q1 p2 q2 : Int) (w : World) (ha : FV w w.heap.size s1 A1 n1 d1 s2 A2 n2 d2 p1 q1) (hb : FV w w.heap.size s3 A3 n3 d3 s4 A4 n4 d4 p2 q2) (h1 : ab p1 < pw 60) (h2 : ab q1 < pw 60) (h3 : ab p2 < pw 60) (h4 : ab q2 < pw 60) (f1 : 0 < q1) (f2 : 0 < q2) :
    Calls Tryz.prog 96 #[.agg #[.int .i64 s1, .slice A1 n1 d1, .int .i64 s2, .slice A2 n2 d2], .agg #[.int .i64 s3, .slice A3 n3 d3, .int .i64 s4, .slice A4 n4 d4]] w fun e w' => e = .returned (.int .i64 (ordI p1 q1 p2 q2)) ∧ Below w.heap.size w w' := by
  have na2 : Nb A2 n2 w.heap.size ∧ Nb A2 n2 (w.heap.size + 1) := ⟨Nb.low ha.b (Nat.le_refl _), Nb.low ha.b (by omega)⟩
  have na4 : Nb A4 n4 w.heap.size ∧ Nb A4 n4 (w.heap.size + 1) := ⟨Nb.low hb.b (Nat.le_refl _), Nb.low hb.b (by omega)⟩
  obtain ⟨G, hG⟩ : ∃ G, ordI p1 q1 p2 q2 = G := ⟨_, rfl⟩
  rw [hG]
  have HG := Lib.hid hG; clear hG
  have H1 := Lib.hid h1; clear h1
  have H2 := Lib.hid h2; clear h2
  have H3 := Lib.hid h3; clear h3
  have H4 := Lib.hid h4; clear h4
  have NA2 := Lib.hid na2; clear na2
  have NA4 := Lib.hid na4; clear na4
  go_enter Tryz.func96, Tryz.ntmps96
  go_wp2_with fail
  obtain ⟨W0, hW, hbx, ka, kb⟩ := fboxes1 ha hb
  have hsz0 : w.heap.size + 1 < W0.heap.size := kb.blk.lt
  rw [← hW]
  clear hW ha hb
  go_loopg [5] (q1.toNat) (fun g S wr => ∃ (s1 s2 s3 s4 : Int) (A1 A2 A3 A4 : Option Addr) (n1 d1 n2 d2 n3 d3 n4 d4 : Nat) (p1 q1 p2 q2 z : Int), g = q1.toNat ∧ S = .int .i64 z ∧ (z = 1 ∨ z = -1) ∧ Bf 43 wr w.heap.size s1 A1 n1 d1 s2 A2 n2 d2 p1 q1 ∧ Bf 43 wr (w.heap.size + 1) s3 A3 n3 d3 s4 A4 n4 d4 p2 q2 ∧ Hid (Nb A2 n2 w.heap.size ∧ Nb A2 n2 (w.heap.size + 1)) ∧ Hid (Nb A4 n4 w.heap.size ∧ Nb A4 n4 (w.heap.size + 1)) ∧ Hid (ab p1 < pw 60) ∧ Hid (ab q1 < pw 60) ∧ Hid (ab p2 < pw 60) ∧ Hid (ab q2 < pw 60) ∧ 0 < q1 ∧ 0 < q2 ∧ Hid (z * ordI p1 q1 p2 q2 = G) ∧ Below w.heap.size w wr)
  case atStart => exact ⟨s1, s2, s3, s4, A1, A2, A3, A4, n1, d1, n2, d2, n3, d3, n4, d4, p1, q1, p2, q2, 1, rfl, rfl, .inl rfl, ka, kb, NA2, NA4, H1, H2, H3, H4, f1, f2, Lib.hid (by rw [Int.one_mul]; exact HG.out), hbx⟩
  case round =>
    clear ka kb H1 H2 H3 H4 NA2 NA4 HG hbx f1 f2
    obtain ⟨s1, s2, s3, s4, A1, A2, A3, A4, n1, d1, n2, d2, n3, d3, n4, d4, p1, q1, p2, q2, z, hg, rfl, hz, ka, kb, N2, N4, H1, H2, H3, H4, f1, f2, HG, hT⟩ := hrel
    have hgt : q1.toNat ≤ q1.toNat := Nat.le_refl _
    have HGM := Lib.hid hg; clear hg hgt
    have F1 := Lib.hid f1; clear f1
    have F2 := Lib.hid f2; clear f2
    have a0 := ka.c0
    have a1 := ka.c1
    have a2 := ka.c2
    have a3 := ka.c3
    go_wp2_with fail
    clear a0 a1 a2 a3
    (with_reducible refine (div_any _ _ _ _ _ ka.fv.a ka.fv.b H1.out H2.out (by have := F1.out; omega)).mono ?_)
    rintro e u2 ⟨rz, rm, x, r1, rfl, hrz, hrm, hqr, hb9⟩
    have lt0 := ka.blk.lt
    have lt1 := kb.blk.lt
    have hT := hT.trans (hb9.mono hT.size)
    have ka := ka.below hb9
    have kb := kb.below hb9
    have HQ1 := Lib.hid hqr; clear hqr
    obtain ⟨sx, Ax, nx, cx, rfl⟩ := hrz.form
    obtain ⟨sr, Ar, nr, cr, rfl⟩ := hrm.form
    have nbr : Nb Ar nr w.heap.size ∧ Nb Ar nr (w.heap.size + 1) := ⟨hrm.nb lt0, hrm.nb lt1⟩
    have NBR := Lib.hid nbr; clear nbr
    have hsz := hb9.size
    have nr1 : u2.heap.size + 1 ≠ w.heap.size := by omega
    have nr2 : u2.heap.size + 1 ≠ w.heap.size + 1 := by omega
    have NR := Lib.hid (And.intro nr1 nr2); clear nr1 nr2 hsz
    have kbz := kb.below (((Below.refl _ u2).alloc (Nat.le_refl _) (.cells #[.int .i64 sx, .slice Ax nx cx] 24)).alloc (by simp) (.cells #[.int .i64 sr, .slice Ar nr cr] 24))
    have b0 := kbz.c0
    have b1 := kbz.c1
    have b2 := kbz.c2
    have b3 := kbz.c3
    go_wp2_with fail
    clear b0 b1 b2 b3 kbz
    obtain ⟨Wx, hW, hbx, kx, kr⟩ := box2 hrz hrm
    rw [← hW]
    clear hW
    have hT := hT.trans (hbx.mono hT.size)
    have ka := ka.below hbx
    have kb := kb.below hbx
    (with_reducible refine (div_any _ _ _ _ _ kb.fv.a kb.fv.b H3.out H4.out (by have := F2.out; omega)).mono ?_)
    rintro e u3 ⟨ry, rt, y, r2, rfl, hry, hrt, hqr, hb9⟩
    have lt0 := ka.blk.lt
    have lt1 := kb.blk.lt
    have hT := hT.trans (hb9.mono hT.size)
    have ka := ka.below hb9
    have kb := kb.below hb9
    have kx := kx.below hb9
    have kr := kr.below hb9
    have HQ2 := Lib.hid hqr; clear hqr
    obtain ⟨sy, Ay, ny, cy, rfl⟩ := hry.form
    obtain ⟨st, At, nt, ct, rfl⟩ := hrt.form
    have nbt : Nb At nt w.heap.size ∧ Nb At nt (w.heap.size + 1) := ⟨hrt.nb lt0, hrt.nb lt1⟩
    have NBT := Lib.hid nbt; clear nbt
    have hsz := hb9.size
    have nt1 : u3.heap.size + 1 ≠ w.heap.size := by omega
    have nt2 : u3.heap.size + 1 ≠ w.heap.size + 1 := by omega
    have NT := Lib.hid (And.intro nt1 nt2); clear nt1 nt2 lt0 lt1 hsz
    obtain ⟨W2, hW, hbx2, ky, kt⟩ := box2 hry hrt
    have kxz := kx.below hbx2
    have b0 := kxz.c0
    have b1 := kxz.c1
    have e0 := ky.c0
    have e1 := ky.c1
    rw [hW] at b0 b1 e0 e1
    go_wp2_with fail
    clear b0 b1 e0 e1 kxz
    rw [← hW]
    clear hW
    have hT := hT.trans (hbx2.mono hT.size)
    have ka := ka.below hbx2
    have kb := kb.below hbx2
    have kx := kx.below hbx2
    have kr := kr.below hbx2
    (with_reducible refine (compare_any _ _ _ _ _ kx.bv ky.bv (by have := (qr_bd F1.out HQ1.out).1; have := H1.out; omega) (by have := (qr_bd F2.out HQ2.out).1; have := H3.out; omega)).mono ?_)
    rintro e u4 ⟨rfl, hb9⟩
    have hT := hT.trans (hb9.mono hT.size)
    have ka := ka.below hb9
    have kb := kb.below hb9
    have kr := kr.below hb9
    have kt := kt.below hb9
    clear kx ky
    by_cases hxy : x = y
    rotate_left
    · have ho := ord_ne F1.out F2.out HQ1.out HQ2.out hxy
      have hg2 := HG.out
      rw [ho] at hg2
      clear ho
      rcases cmp_cases x y with ⟨_, hc⟩ | ⟨hc, _⟩ | ⟨_, hc⟩
      · rw [hc] at hg2 ⊢
        rcases hz with rfl | rfl
        all_goals
          subst hg2
          go_wp2_with fail
          go_ret
          exact ⟨rfl, hT⟩
      · exact absurd hc hxy
      · rw [hc] at hg2 ⊢
        rcases hz with rfl | rfl
        all_goals
          subst hg2
          go_wp2_with fail
          go_ret
          exact ⟨rfl, hT⟩
    subst hxy
    rw [cmp_of_eq rfl]
    have hr1 := qr_bd F1.out HQ1.out
    have hr2 := qr_bd F2.out HQ2.out
    have ho := ord_eq HQ1.out HQ2.out
    have hsr : sr = sgn r1 := kr.sg
    have hst : st = sgn r2 := kt.sg
    have hab1 : ab r1 < pw 60 := by have := H2.out; unfold ab at *; omega
    have hab2 : ab r2 < pw 60 := by have := H4.out; unfold ab at *; omega
    have HB1 := Lib.hid hab1; clear hab1
    have HB2 := Lib.hid hab2; clear hab2
    have c0 := kr.c0
    have c1 := kt.c0
    have hg2 := HG.out
    rw [ho] at hg2
    clear ho
    by_cases hz1 : r1 = 0
    · have hcmp := ord_zero F1.out F2.out hr1.2.1 hr2.2.1 (.inl hz1)
      rw [hcmp] at hg2
      clear hcmp
      have hs1 : sr = 0 := by rw [hsr, hz1]; rfl
      subst hs1
      rw [← hsr, ← hst] at hg2
      rcases Int.lt_or_eq_of_le hr2.2.1 with g | g
      · have hs2 : st = 1 := by rw [hst, sgn_pos g]
        subst hs2
        rw [cmp_of_lt (by decide)] at hg2
        have HCM := Lib.hid (cmp_of_lt (show (0 : Int) < 1 by decide))
        clear hsr hst hr1 hr2 hz1 g
        rcases hz with rfl | rfl
        all_goals
          subst hg2
          go_wp2_with fail
          (with_reducible refine (Tryz.cmp_Compare_int _ _ _).mono ?_)
          rintro e w' ⟨rfl, rfl⟩
          rw [HCM.out]
          go_wp2_with fail
          go_ret
          exact ⟨rfl, hT⟩
      · have hs2 : st = 0 := by rw [hst, ← g]; rfl
        subst hs2
        rw [cmp_of_eq rfl] at hg2
        have HCM := Lib.hid (cmp_of_eq (show (0 : Int) = 0 from rfl))
        clear hsr hst hr1 hr2 hz1 g
        rcases hz with rfl | rfl
        all_goals
          subst hg2
          go_wp2_with fail
          (with_reducible refine (Tryz.cmp_Compare_int _ _ _).mono ?_)
          rintro e w' ⟨rfl, rfl⟩
          rw [HCM.out]
          go_wp2_with fail
          go_ret
          exact ⟨rfl, hT⟩
    · have hs1 : sr = 1 := by rw [hsr, sgn_pos (by omega)]
      subst hs1
      rcases Int.lt_or_eq_of_le hr2.2.1 with g | g
      · have hs2 : st = 1 := by rw [hst, sgn_pos g]
        subst hs2
        rw [show ordI r1 q1 r2 q2 = -ordI q1 r1 q2 r2 from ord_turn _ _ _ _] at hg2
        have hg3 : -z * ordI q1 r1 q2 r2 = G := by rw [← hg2, Int.neg_mul, Int.mul_neg]
        have HG3 := Lib.hid hg3; clear hg3 hg2
        have hlt : r1 < q1 := hr1.2.2
        have R1 : 0 < r1 := by omega
        clear hsr hst hr1 hr2 hz1
        have a2 := ka.c2
        have a3 := ka.c3
        have b2 := kb.c2
        have b3 := kb.c3
        have r1' := kr.c1
        have t1' := kt.c1
        have a0 := ka.c0
        have a1 := ka.c1
        have b0 := kb.c0
        have b1 := kb.c1
        have fa0 := ka.blk.frozen 0
        have fa1 := ka.blk.frozen 1
        have fa2 := ka.blk.frozen 2
        have fa3 := ka.blk.frozen 3
        have fb0 := kb.blk.frozen 0
        have fb1 := kb.blk.frozen 1
        have fb2 := kb.blk.frozen 2
        have fb3 := kb.blk.frozen 3
        obtain ⟨gr, hgr⟩ : ∃ g, u2.heap.size + 1 = g := ⟨_, rfl⟩
        obtain ⟨gt, hgt⟩ : ∃ g, u3.heap.size + 1 = g := ⟨_, rfl⟩
        obtain ⟨ga, hga⟩ : ∃ g, w.heap.size = g := ⟨_, rfl⟩
        have nr1 := NR.out.1
        have nr2 := NR.out.2
        have nt1 := NT.out.1
        have nt2 := NT.out.2
        have nga : ga + 1 ≠ ga := by omega
        have nga' : ga ≠ ga + 1 := by omega
        rw [hgr] at nr1 nr2 c0 r1'
        rw [hgt] at nt1 nt2 c1 t1'
        rw [hga] at nr1 nr2 nt1 nt2 a0 a1 a2 a3 b0 b1 b2 b3 fa0 fa1 fa2 fa3 fb0 fb1 fb2 fb3
        rw [hgr, hgt, hga]
        have m1 := nr1.symm
        have m2 := nr2.symm
        have m3 := nt1.symm
        have m4 := nt2.symm
        go_wp2_with fail
        go_region
        clear a0 a1 a2 a3 b0 b1 b2 b3 fa0 fa1 fa2 fa3 fb0 fb1 fb2 fb3 c0 c1 r1' t1'
        subst hga
        obtain ⟨ka, kb⟩ := Bf.both (ga := w.heap.size) (gb := w.heap.size + 1) rfl rfl ka.blk kb.blk (by omega) ka.fv.b kr.bv kb.fv.b kt.bv N2.out NBR.out N4.out NBT.out
        have hT := below_st4 (below_st4 hT (Nat.le_refl _) (.int .i64 s2) (.slice A2 n2 d2) (.int .i64 1) (.slice Ar nr cr)) (show w.heap.size ≤ w.heap.size + 1 by omega) (.int .i64 s4) (.slice A4 n4 d4) (.int .i64 1) (.slice At nt ct)
        have ka := ka.drew
        have kb := kb.drew
        have hT := hT.drew
        have z0 : -1 ≤ z ∧ z ≤ 1 := by omega
        obtain ⟨z0, z1⟩ := z0
        have hz' : -z = 1 ∨ -z = -1 := by omega
        have HZ := Lib.hid hz'; clear hz'
        clear hz
        go_wp2_with fail
        go_roundg r1.toNat
        case measure => have := HGM.out; omega
        case rel => exact ⟨s2, 1, s4, 1, A2, Ar, A4, At, n2, d2, nr, cr, n4, d4, nt, ct, q1, r1, q2, r2, -z, rfl, rfl, HZ.out, ka, kb, NBR, NBT, H2, HB1, H4, HB2, R1, g, HG3, hT⟩
      · have hs2 : st = 0 := by rw [hst, ← g]; rfl
        have hcmp := ord_zero F1.out F2.out hr1.2.1 hr2.2.1 (.inr g.symm)
        rw [hcmp] at hg2
        clear hcmp
        rw [← hsr, ← hst] at hg2
        subst hs2
        rw [cmp_of_gt (by decide)] at hg2
        have HCM := Lib.hid (cmp_of_gt (show (0 : Int) < 1 by decide))
        clear hsr hst hr1 hr2 hz1 g
        rcases hz with rfl | rfl
        all_goals
          subst hg2
          go_wp2_with fail
          (with_reducible refine (Tryz.cmp_Compare_int _ _ _).mono ?_)
          rintro e w' ⟨rfl, rfl⟩
          rw [HCM.out]
          go_wp2_with fail
          go_ret
          exact ⟨rfl, hT⟩

end Go.Proofs.YtkjpfnbdlbnbkaaGreatDoor
