/- Walks: the law on ints (o). Printed by a program. -/
import Derived.Test.YtofndidngjglmaaDoorDj
namespace Go.Proofs.YtofndidngjglmaaDoor
open Go.RowKit

set_option maxRecDepth 100000 in
set_option maxHeartbeats 8000000 in
theorem ints_o (a : Int) (ha : isI a) (hmn : a = -9223372036854775808) (w : World) (ht : TB w) :
    Calls Tryd.prog 7 #[.int .i64 a, .int .i64 a] w fun e w' => e = .returned (.bool true) ∧ Below w.heap.size w w' := by
  have HA := Lib.hid ha
  have HB := Lib.hid ha
  have HT := Lib.hid ht; clear ht
  have hiv : IntV (-a) = .tuple #[.int .i64 0, .bool false] := IntV.no (by unfold isI; omega)
  have hiva : IntV a = .tuple #[.int .i64 a, .bool true] := IntV.yes ha
  have HIV := Lib.hid hiv; clear hiv
  have HIVA := Lib.hid hiva; clear hiva
  obtain ⟨S1, hS1⟩ : ∃ S, byt (Lib.itoa a) = S := ⟨_, rfl⟩
  have HS1 := Lib.hid hS1; clear hS1
  have hcmp : Lib.compareInt a a = 0 := by unfold Lib.compareInt; rw [if_neg (by omega), if_neg (by omega)]
  have HC := Lib.hid hcmp; clear hcmp
  clear ha
  subst hmn
  go_enter Tryd.func7, Tryd.ntmps7
  go_wp2_with fail
  (with_reducible refine (small_any _ HT.out).mono ?_)
  rintro e u0 ⟨rfl, hb0⟩
  have hT := hb0
  go_wp2_with fail
  (with_reducible refine (of_any _ _ HA.out.lo HA.out.hi).mono ?_)
  rintro e u1 ⟨r1, rfl, hr1, hb1⟩
  have hT := hT.trans (hb1.mono hT.size)
  obtain ⟨s1, A1, n1, c1, rfl⟩ := hr1.form
  go_wp2_with fail
  obtain ⟨Wx, hW, hbx, kx⟩ := box1 hr1
  rw [← hW]
  clear hW
  have hT := hT.trans (hbx.mono hT.size)
  (with_reducible refine (of_any _ _ HB.out.lo HB.out.hi).mono ?_)
  rintro e u2 ⟨r2, rfl, hr2, hb2⟩
  have hT := hT.trans (hb2.mono hT.size)
  have kx := kx.below hb2
  obtain ⟨s2, A2, n2, c2, rfl⟩ := hr2.form
  have kxz := kx.below ((Below.refl _ u2).alloc (Nat.le_refl _) (.cells #[.int .i64 s2, .slice A2 n2 c2] 24))
  have kxz0 := kxz.c0
  have kxz1 := kxz.c1
  go_wp2_with fail
  clear kxz0 kxz1
  clear kxz
  obtain ⟨Wy, hW, hbx, ky⟩ := box1 hr2
  rw [← hW]
  clear hW
  have hT := hT.trans (hbx.mono hT.size)
  have kx := kx.below hbx
  (with_reducible refine (int_any _ _ _ kx.bv HA.out.lt).mono ?_)
  rintro e u3 ⟨rfl, hb3⟩
  have hT := hT.trans (hb3.mono hT.size)
  have kx := kx.below hb3
  have ky := ky.below hb3
  rw [HIVA.out]
  have kx0 := kx.c0
  have kx1 := kx.c1
  go_wp2_with fail
  clear kx0 kx1
  (with_reducible refine (neg_any _ _ _ kx.bv HA.out.lt).mono ?_)
  rintro e u4 ⟨r4, rfl, hr4, hb4⟩
  have hT := hT.trans (hb4.mono hT.size)
  have kx := kx.below hb4
  have ky := ky.below hb4
  go_wp2_with fail
  (with_reducible refine (int_any _ _ _ hr4.bv HA.out.neg).mono ?_)
  rintro e u5 ⟨rfl, hb5⟩
  have hT := hT.trans (hb5.mono hT.size)
  have kx := kx.below hb5
  have ky := ky.below hb5
  rw [HIV.out]
  have kx0 := kx.c0
  have kx1 := kx.c1
  have ky0 := ky.c0
  have ky1 := ky.c1
  obtain ⟨gx, hgx⟩ : ∃ g, u1.heap.size = g := ⟨_, rfl⟩
  obtain ⟨gy, hgy⟩ : ∃ g, u2.heap.size = g := ⟨_, rfl⟩
  rw [hgx] at kx kx0 kx1 ⊢
  rw [hgy] at ky ky0 ky1 ⊢
  clear hgx hgy
  have e0 : ∀ W' : World, Below u5.heap.size u5 W' → W'.cell? ⟨gx, 0, none⟩ = some (.int .i64 s1) ∧ W'.cell? ⟨gx, 1, none⟩ = some (.slice A1 n1 c1) ∧ W'.cell? ⟨gy, 0, none⟩ = some (.int .i64 s2) ∧ W'.cell? ⟨gy, 1, none⟩ = some (.slice A2 n2 c2) ∧ Below u5.heap.size u5 W' := fun W' hW =>
    ⟨(kx.below hW).c0, (kx.below hW).c1, (ky.below hW).c0, (ky.below hW).c1, hW⟩
  have E0 := Lib.hid e0; clear e0
  have hB00 : Below u5.heap.size u5 u5.drew := (Below.refl _ _).drew
  have hrt := fun w' (hb : Below u5.heap.size u5 w') => right_yes _ _ w' (kx.below hb).bv HA.out.lt
  have htx := fun w' (hb : Below u5.heap.size u5 w') => text_any _ _ w' (kx.below hb).bv HA.out.lt (HT.out.below (hT.trans (hb.mono hT.size)))
  have hty := fun w' (hb : Below u5.heap.size u5 w') => text_any _ _ w' (ky.below hb).bv HB.out.lt (HT.out.below (hT.trans (hb.mono hT.size)))
  rw [HS1.out] at htx
  rw [HS1.out] at hty
  have HRT := Lib.hid hrt; clear hrt
  have HTX := Lib.hid htx; clear htx
  have HTY := Lib.hid hty; clear hty
  have hTs := hT.size
  go_wp2_with fail
  refine wp_region_noPanic ?_
  refine wp_region_held_drew (S := (fun W' => W'.cell? ⟨gx, 0, none⟩ = some (.int .i64 s1) ∧ W'.cell? ⟨gx, 1, none⟩ = some (.slice A1 n1 c1) ∧ W'.cell? ⟨gy, 0, none⟩ = some (.int .i64 s2) ∧ W'.cell? ⟨gy, 1, none⟩ = some (.slice A2 n2 c2) ∧ Below u5.heap.size u5 W')) (by kernel_rfl) (E0.out _ hB00) (fun hHeld => ?_)
  refine wpAnyH_take (i := 0) (oi := { dst := some 42, op := Op.load 24 (Operand.tmp 6), type := 24, pos := "law.go:193", after := #[], guard := none }) (v := ?_) rfl (by kernel_rfl) (by kernel_rfl) (by kernel_rfl) (fun _ _ _ h => h) (Or.inl ⟨by rfl, ?_⟩) (by assumption) ?_
  rotate_left
  · (intro w hSw; (try dsimp only at hSw); go_simp; try with_reducible rfl)
  (try simp only [Act.put, List.setIfInBounds_toArray, List.set_cons_zero, List.set_cons_succ])
  refine wpAnyH_ready (rs := [1]) (by kernel_rfl) (by simp) ?_
  refine AllReadyH.cons (o := { dst := some 43, op := Op.call { callee := Callee.value (Operand.func 11), args := #[Operand.tmp 42], argTypes := #[24] }, type := 4, pos := "law.go:193", after := #[{ on := 0, ground := Ground.data }], guard := none }) rfl (fun K hK => ?_) AllReadyH.nil
  go_simp
  refine (HRT.out u5.drew hB00).mono ?_
  rintro e w6 ⟨rfl, hb6⟩
  have hB6 : Below u5.heap.size u5 w6 := ⟨hb6.os, hb6.tape, hb6.output, hb6.size, hb6.block⟩
  (try go_simp)
  refine hK.out _ _ (E0.out _ hB6) (fun hHeld => ?_)
  clear hK K
  (try simp only [Act.put, List.setIfInBounds_toArray, List.set_cons_zero, List.set_cons_succ])
  refine wpAnyH_take (i := 2) (oi := { dst := some 44, op := Op.unOp UnOp.not 4 (Operand.tmp 43), type := 4, pos := "law.go:193", after := #[{ on := 1, ground := Ground.data }], guard := none }) (v := ?_) rfl (by kernel_rfl) (by kernel_rfl) (by kernel_rfl) (fun _ _ _ h => h) (Or.inl ⟨by rfl, ?_⟩) (by assumption) ?_
  rotate_left
  · (intro w hSw; (try dsimp only at hSw); go_simp; try with_reducible rfl)
  (try simp only [Act.put, List.setIfInBounds_toArray, List.set_cons_zero, List.set_cons_succ])
  refine wpAnyH_take (i := 3) (oi := { dst := some 45, op := Op.move (Operand.tmp 44), type := 4, pos := "law.go:193", after := #[{ on := 2, ground := Ground.data }, { on := 1, ground := Ground.chain }], guard := none }) (v := ?_) rfl (by kernel_rfl) (by kernel_rfl) (by kernel_rfl) (fun _ _ _ h => h) (Or.inl ⟨by rfl, ?_⟩) (by assumption) ?_
  rotate_left
  · (intro w hSw; (try dsimp only at hSw); go_simp; try with_reducible rfl)
  (try simp only [Act.put, List.setIfInBounds_toArray, List.set_cons_zero, List.set_cons_succ])
  refine wpAnyH_take (i := 4) (oi := { dst := some 46, op := Op.move (Operand.tmp 9), type := 4, pos := "law.go:193", after := #[{ on := 3, ground := Ground.guard }], guard := some (3, false) }) (v := ?_) rfl (by kernel_rfl) (by kernel_rfl) (by kernel_rfl) (fun _ _ _ h => h) (Or.inl ⟨by rfl, ?_⟩) (by assumption) ?_
  rotate_left
  · (intro w hSw; (try dsimp only at hSw); go_simp; try with_reducible rfl)
  (try simp only [Act.put, List.setIfInBounds_toArray, List.set_cons_zero, List.set_cons_succ])
  refine wpAnyH_take (i := 5) (oi := { dst := some 47, op := Op.unOp UnOp.not 4 (Operand.tmp 46), type := 4, pos := "law.go:193", after := #[{ on := 4, ground := Ground.data }, { on := 3, ground := Ground.guard }], guard := some (3, false) }) (v := ?_) rfl (by kernel_rfl) (by kernel_rfl) (by kernel_rfl) (fun _ _ _ h => h) (Or.inl ⟨by rfl, ?_⟩) (by assumption) ?_
  rotate_left
  · (intro w hSw; (try dsimp only at hSw); go_simp; try with_reducible rfl)
  (try simp only [Act.put, List.setIfInBounds_toArray, List.set_cons_zero, List.set_cons_succ])
  refine wpAnyH_take (i := 6) (oi := { dst := some 48, op := Op.pick (Operand.tmp 45) (Operand.const (Value.bool true)) (Operand.tmp 47), type := 4, pos := "law.go:193", after := #[{ on := 3, ground := Ground.data }, { on := 5, ground := Ground.data }], guard := none }) (v := ?_) rfl (by kernel_rfl) (by kernel_rfl) (by kernel_rfl) (fun _ _ _ h => h) (Or.inl ⟨by rfl, ?_⟩) (by assumption) ?_
  rotate_left
  · (intro w hSw; (try dsimp only at hSw); go_simp; try with_reducible rfl)
  (try simp only [Act.put, List.setIfInBounds_toArray, List.set_cons_zero, List.set_cons_succ])
  refine wpAnyH_take (i := 7) (oi := { dst := some 49, op := Op.move (Operand.tmp 48), type := 4, pos := "law.go:193", after := #[{ on := 6, ground := Ground.data }, { on := 3, ground := Ground.chain }], guard := none }) (v := ?_) rfl (by kernel_rfl) (by kernel_rfl) (by kernel_rfl) (fun _ _ _ h => h) (Or.inl ⟨by rfl, ?_⟩) (by assumption) ?_
  rotate_left
  · (intro w hSw; (try dsimp only at hSw); go_simp; try with_reducible rfl)
  (try simp only [Act.put, List.setIfInBounds_toArray, List.set_cons_zero, List.set_cons_succ])
  refine wpAnyH_take (i := 8) (oi := { dst := some 50, op := Op.move (Operand.tmp 8), type := 3, pos := "law.go:193", after := #[{ on := 7, ground := Ground.guard }], guard := some (7, false) }) (v := ?_) rfl (by kernel_rfl) (by kernel_rfl) (by kernel_rfl) (fun _ _ _ h => h) (Or.inl ⟨by rfl, ?_⟩) (by assumption) ?_
  rotate_left
  · (intro w hSw; (try dsimp only at hSw); go_simp; try with_reducible rfl)
  (try simp only [Act.put, List.setIfInBounds_toArray, List.set_cons_zero, List.set_cons_succ])
  refine wpAnyH_take (i := 9) (oi := { dst := some 51, op := Op.move (Operand.tmp 0), type := 3, pos := "law.go:193", after := #[{ on := 7, ground := Ground.guard }], guard := some (7, false) }) (v := ?_) rfl (by kernel_rfl) (by kernel_rfl) (by kernel_rfl) (fun _ _ _ h => h) (Or.inl ⟨by rfl, ?_⟩) (by assumption) ?_
  rotate_left
  · (intro w hSw; (try dsimp only at hSw); go_simp; try with_reducible rfl)
  (try simp only [Act.put, List.setIfInBounds_toArray, List.set_cons_zero, List.set_cons_succ])
  refine wpAnyH_take (i := 10) (oi := { dst := some 52, op := Op.binOp BinOp.neq 3 (Operand.tmp 50) (Operand.tmp 51) 3, type := 4, pos := "law.go:193", after := #[{ on := 8, ground := Ground.data }, { on := 9, ground := Ground.data }, { on := 7, ground := Ground.guard }], guard := some (7, false) }) (v := ?_) rfl (by kernel_rfl) (by kernel_rfl) (by kernel_rfl) (fun _ _ _ h => h) (Or.inl ⟨by rfl, ?_⟩) (by assumption) ?_
  rotate_left
  · (intro w hSw; (try dsimp only at hSw); go_simp; try with_reducible rfl)
  (try simp only [Act.put, List.setIfInBounds_toArray, List.set_cons_zero, List.set_cons_succ])
  refine wpAnyH_take (i := 11) (oi := { dst := some 53, op := Op.pick (Operand.tmp 49) (Operand.const (Value.bool true)) (Operand.tmp 52), type := 4, pos := "law.go:193", after := #[{ on := 7, ground := Ground.data }, { on := 10, ground := Ground.data }], guard := none }) (v := ?_) rfl (by kernel_rfl) (by kernel_rfl) (by kernel_rfl) (fun _ _ _ h => h) (Or.inl ⟨by rfl, ?_⟩) (by assumption) ?_
  rotate_left
  · (intro w hSw; (try dsimp only at hSw); go_simp; try with_reducible rfl)
  (try simp only [Act.put, List.setIfInBounds_toArray, List.set_cons_zero, List.set_cons_succ])
  refine wpAnyH_take (i := 12) (oi := { dst := some 54, op := Op.move (Operand.tmp 53), type := 4, pos := "law.go:193", after := #[{ on := 11, ground := Ground.data }, { on := 7, ground := Ground.chain }], guard := none }) (v := ?_) rfl (by kernel_rfl) (by kernel_rfl) (by kernel_rfl) (fun _ _ _ h => h) (Or.inl ⟨by rfl, ?_⟩) (by assumption) ?_
  rotate_left
  · (intro w hSw; (try dsimp only at hSw); go_simp; try with_reducible rfl)
  (try simp only [Act.put, List.setIfInBounds_toArray, List.set_cons_zero, List.set_cons_succ])
  refine wpAnyH_take (i := 13) (oi := { dst := some 55, op := Op.move (Operand.tmp 11), type := 4, pos := "law.go:193", after := #[{ on := 12, ground := Ground.guard }], guard := some (12, false) }) (v := ?_) rfl (by kernel_rfl) (by kernel_rfl) (by kernel_rfl) (fun _ _ _ h => h) (Or.inl ⟨by rfl, ?_⟩) (by assumption) ?_
  rotate_left
  · (intro w hSw; (try dsimp only at hSw); go_simp; try with_reducible rfl)
  (try simp only [Act.put, List.setIfInBounds_toArray, List.set_cons_zero, List.set_cons_succ])
  refine wpAnyH_take (i := 14) (oi := { dst := some 56, op := Op.move (Operand.tmp 0), type := 3, pos := "law.go:193", after := #[{ on := 12, ground := Ground.guard }], guard := some (12, false) }) (v := ?_) rfl (by kernel_rfl) (by kernel_rfl) (by kernel_rfl) (fun _ _ _ h => h) (Or.inl ⟨by rfl, ?_⟩) (by assumption) ?_
  rotate_left
  · (intro w hSw; (try dsimp only at hSw); go_simp; try with_reducible rfl)
  (try simp only [Act.put, List.setIfInBounds_toArray, List.set_cons_zero, List.set_cons_succ])
  refine wpAnyH_take (i := 15) (oi := { dst := some 57, op := Op.binOp BinOp.neq 3 (Operand.tmp 56) (Operand.const (Value.int IntKind.i64 (-9223372036854775808))) 3, type := 4, pos := "law.go:193", after := #[{ on := 14, ground := Ground.data }, { on := 12, ground := Ground.guard }], guard := some (12, false) }) (v := ?_) rfl (by kernel_rfl) (by kernel_rfl) (by kernel_rfl) (fun _ _ _ h => h) (Or.inl ⟨by rfl, ?_⟩) (by assumption) ?_
  rotate_left
  · (intro w hSw; (try dsimp only at hSw); go_simp; try with_reducible rfl)
  (try simp only [Act.put, List.setIfInBounds_toArray, List.set_cons_zero, List.set_cons_succ])
  refine wpAnyH_take (i := 16) (oi := { dst := some 58, op := Op.binOp BinOp.neq 4 (Operand.tmp 55) (Operand.tmp 57) 4, type := 4, pos := "law.go:193", after := #[{ on := 13, ground := Ground.data }, { on := 15, ground := Ground.data }, { on := 12, ground := Ground.guard }], guard := some (12, false) }) (v := ?_) rfl (by kernel_rfl) (by kernel_rfl) (by kernel_rfl) (fun _ _ _ h => h) (Or.inl ⟨by rfl, ?_⟩) (by assumption) ?_
  rotate_left
  · (intro w hSw; (try dsimp only at hSw); go_simp; try with_reducible rfl)
  (try simp only [Act.put, List.setIfInBounds_toArray, List.set_cons_zero, List.set_cons_succ])
  refine wpAnyH_take (i := 17) (oi := { dst := some 59, op := Op.pick (Operand.tmp 54) (Operand.const (Value.bool true)) (Operand.tmp 58), type := 4, pos := "law.go:193", after := #[{ on := 12, ground := Ground.data }, { on := 16, ground := Ground.data }], guard := none }) (v := ?_) rfl (by kernel_rfl) (by kernel_rfl) (by kernel_rfl) (fun _ _ _ h => h) (Or.inl ⟨by rfl, ?_⟩) (by assumption) ?_
  rotate_left
  · (intro w hSw; (try dsimp only at hSw); go_simp; try with_reducible rfl)
  (try simp only [Act.put, List.setIfInBounds_toArray, List.set_cons_zero, List.set_cons_succ])
  refine wpAnyH_take (i := 18) (oi := { dst := some 60, op := Op.move (Operand.tmp 59), type := 4, pos := "law.go:193", after := #[{ on := 17, ground := Ground.data }, { on := 12, ground := Ground.chain }], guard := none }) (v := ?_) rfl (by kernel_rfl) (by kernel_rfl) (by kernel_rfl) (fun _ _ _ h => h) (Or.inl ⟨by rfl, ?_⟩) (by assumption) ?_
  rotate_left
  · (intro w hSw; (try dsimp only at hSw); go_simp; try with_reducible rfl)
  (try simp only [Act.put, List.setIfInBounds_toArray, List.set_cons_zero, List.set_cons_succ])
  refine wpAnyH_take (i := 19) (oi := { dst := some 61, op := Op.move (Operand.tmp 11), type := 4, pos := "law.go:193", after := #[{ on := 18, ground := Ground.guard }], guard := some (18, false) }) (v := ?_) rfl (by kernel_rfl) (by kernel_rfl) (by kernel_rfl) (fun _ _ _ h => h) (Or.inl ⟨by rfl, ?_⟩) (by assumption) ?_
  rotate_left
  · (intro w hSw; (try dsimp only at hSw); go_simp; try with_reducible rfl)
  (try simp only [Act.put, List.setIfInBounds_toArray, List.set_cons_zero, List.set_cons_succ])
  refine wpAnyH_take (i := 20) (oi := { dst := some 62, op := Op.move (Operand.tmp 61), type := 4, pos := "law.go:193", after := #[{ on := 19, ground := Ground.data }, { on := 18, ground := Ground.chain }, { on := 18, ground := Ground.guard }], guard := some (18, false) }) (v := ?_) rfl (by kernel_rfl) (by kernel_rfl) (by kernel_rfl) (fun _ _ _ h => h) (Or.inl ⟨by rfl, ?_⟩) (by assumption) ?_
  rotate_left
  · (intro w hSw; (try dsimp only at hSw); go_simp; try with_reducible rfl)
  (try simp only [Act.put, List.setIfInBounds_toArray, List.set_cons_zero, List.set_cons_succ])
  refine wpAnyH_take (i := 21) (oi := { dst := some 63, op := Op.move (Operand.tmp 10), type := 3, pos := "law.go:193", after := #[{ on := 20, ground := Ground.guard }], guard := some (20, true) }) (v := undef) rfl (by kernel_rfl) (by kernel_rfl) (by kernel_rfl) (fun _ _ _ h => h) (Or.inr ⟨by rfl, rfl⟩) (by assumption) ?_
  (try simp only [Act.put, List.setIfInBounds_toArray, List.set_cons_zero, List.set_cons_succ])
  refine wpAnyH_take (i := 22) (oi := { dst := some 64, op := Op.move (Operand.tmp 0), type := 3, pos := "law.go:193", after := #[{ on := 20, ground := Ground.guard }], guard := some (20, true) }) (v := undef) rfl (by kernel_rfl) (by kernel_rfl) (by kernel_rfl) (fun _ _ _ h => h) (Or.inr ⟨by rfl, rfl⟩) (by assumption) ?_
  (try simp only [Act.put, List.setIfInBounds_toArray, List.set_cons_zero, List.set_cons_succ])
  refine wpAnyH_take (i := 23) (oi := { dst := some 65, op := Op.unOp UnOp.neg 3 (Operand.tmp 64), type := 3, pos := "law.go:193", after := #[{ on := 22, ground := Ground.data }, { on := 20, ground := Ground.guard }], guard := some (20, true) }) (v := undef) rfl (by kernel_rfl) (by kernel_rfl) (by kernel_rfl) (fun _ _ _ h => h) (Or.inr ⟨by rfl, rfl⟩) (by assumption) ?_
  (try simp only [Act.put, List.setIfInBounds_toArray, List.set_cons_zero, List.set_cons_succ])
  refine wpAnyH_take (i := 24) (oi := { dst := some 66, op := Op.binOp BinOp.neq 3 (Operand.tmp 63) (Operand.tmp 65) 3, type := 4, pos := "law.go:193", after := #[{ on := 21, ground := Ground.data }, { on := 23, ground := Ground.data }, { on := 20, ground := Ground.guard }], guard := some (20, true) }) (v := undef) rfl (by kernel_rfl) (by kernel_rfl) (by kernel_rfl) (fun _ _ _ h => h) (Or.inr ⟨by rfl, rfl⟩) (by assumption) ?_
  (try simp only [Act.put, List.setIfInBounds_toArray, List.set_cons_zero, List.set_cons_succ])
  refine wpAnyH_take (i := 25) (oi := { dst := some 67, op := Op.pick (Operand.tmp 62) (Operand.tmp 66) (Operand.const (Value.bool false)), type := 4, pos := "law.go:193", after := #[{ on := 20, ground := Ground.data }, { on := 24, ground := Ground.data }, { on := 18, ground := Ground.guard }], guard := some (18, false) }) (v := ?_) rfl (by kernel_rfl) (by kernel_rfl) (by kernel_rfl) (fun _ _ _ h => h) (Or.inl ⟨by rfl, ?_⟩) (by assumption) ?_
  rotate_left
  · (intro w hSw; (try dsimp only at hSw); go_simp; try with_reducible rfl)
  (try simp only [Act.put, List.setIfInBounds_toArray, List.set_cons_zero, List.set_cons_succ])
  refine wpAnyH_take (i := 26) (oi := { dst := some 68, op := Op.pick (Operand.tmp 60) (Operand.const (Value.bool true)) (Operand.tmp 67), type := 4, pos := "law.go:193", after := #[{ on := 18, ground := Ground.data }, { on := 25, ground := Ground.data }], guard := none }) (v := ?_) rfl (by kernel_rfl) (by kernel_rfl) (by kernel_rfl) (fun _ _ _ h => h) (Or.inl ⟨by rfl, ?_⟩) (by assumption) ?_
  rotate_left
  · (intro w hSw; (try dsimp only at hSw); go_simp; try with_reducible rfl)
  (try simp only [Act.put, List.setIfInBounds_toArray, List.set_cons_zero, List.set_cons_succ])
  refine wpAnyH_take (i := 27) (oi := { dst := some 69, op := Op.move (Operand.tmp 68), type := 4, pos := "law.go:193", after := #[{ on := 26, ground := Ground.data }, { on := 20, ground := Ground.chain }], guard := none }) (v := ?_) rfl (by kernel_rfl) (by kernel_rfl) (by kernel_rfl) (fun _ _ _ h => h) (Or.inl ⟨by rfl, ?_⟩) (by assumption) ?_
  rotate_left
  · (intro w hSw; (try dsimp only at hSw); go_simp; try with_reducible rfl)
  (try simp only [Act.put, List.setIfInBounds_toArray, List.set_cons_zero, List.set_cons_succ])
  refine wpAnyH_take (i := 28) (oi := { dst := some 70, op := Op.load 24 (Operand.tmp 6), type := 24, pos := "law.go:193", after := #[{ on := 27, ground := Ground.guard }], guard := some (27, false) }) (v := ?_) rfl (by kernel_rfl) (by kernel_rfl) (by kernel_rfl) (fun _ _ _ h => h) (Or.inl ⟨by rfl, ?_⟩) (by assumption) ?_
  rotate_left
  · (intro w hSw; (try dsimp only at hSw); go_simp; try with_reducible rfl)
  (try simp only [Act.put, List.setIfInBounds_toArray, List.set_cons_zero, List.set_cons_succ])
  refine wpAnyH_take (i := 30) (oi := { dst := some 72, op := Op.load 24 (Operand.tmp 7), type := 24, pos := "law.go:193", after := #[{ on := 27, ground := Ground.guard }], guard := some (27, false) }) (v := ?_) rfl (by kernel_rfl) (by kernel_rfl) (by kernel_rfl) (fun _ _ _ h => h) (Or.inl ⟨by rfl, ?_⟩) (by assumption) ?_
  rotate_left
  · (intro w hSw; (try dsimp only at hSw); go_simp; try with_reducible rfl)
  (try simp only [Act.put, List.setIfInBounds_toArray, List.set_cons_zero, List.set_cons_succ])
  refine wpAnyH_take (i := 33) (oi := { dst := some 75, op := Op.move (Operand.tmp 0), type := 3, pos := "law.go:193", after := #[{ on := 27, ground := Ground.guard }], guard := some (27, false) }) (v := ?_) rfl (by kernel_rfl) (by kernel_rfl) (by kernel_rfl) (fun _ _ _ h => h) (Or.inl ⟨by rfl, ?_⟩) (by assumption) ?_
  rotate_left
  · (intro w hSw; (try dsimp only at hSw); go_simp; try with_reducible rfl)
  (try simp only [Act.put, List.setIfInBounds_toArray, List.set_cons_zero, List.set_cons_succ])
  refine wpAnyH_take (i := 34) (oi := { dst := some 76, op := Op.move (Operand.tmp 1), type := 3, pos := "law.go:193", after := #[{ on := 27, ground := Ground.guard }], guard := some (27, false) }) (v := ?_) rfl (by kernel_rfl) (by kernel_rfl) (by kernel_rfl) (fun _ _ _ h => h) (Or.inl ⟨by rfl, ?_⟩) (by assumption) ?_
  rotate_left
  · (intro w hSw; (try dsimp only at hSw); go_simp; try with_reducible rfl)
  (try simp only [Act.put, List.setIfInBounds_toArray, List.set_cons_zero, List.set_cons_succ])
  refine wpAnyH_take (i := 35) (oi := { dst := some 77, op := Op.binOp BinOp.eql 3 (Operand.tmp 75) (Operand.tmp 76) 3, type := 4, pos := "law.go:193", after := #[{ on := 33, ground := Ground.data }, { on := 34, ground := Ground.data }, { on := 27, ground := Ground.guard }], guard := some (27, false) }) (v := ?_) rfl (by kernel_rfl) (by kernel_rfl) (by kernel_rfl) (fun _ _ _ h => h) (Or.inl ⟨by rfl, ?_⟩) (by assumption) ?_
  rotate_left
  · (intro w hSw; (try dsimp only at hSw); go_simp; try with_reducible rfl)
  (try simp only [Act.put, List.setIfInBounds_toArray, List.set_cons_zero, List.set_cons_succ])
  refine wpAnyH_ready (rs := [29]) (by kernel_rfl) (by simp) ?_
  refine AllReadyH.cons (o := { dst := some 71, op := Op.call { callee := Callee.value (Operand.func 23), args := #[Operand.tmp 70], argTypes := #[24] }, type := 9, pos := "law.go:193", after := #[{ on := 28, ground := Ground.data }, { on := 27, ground := Ground.chain }, { on := 27, ground := Ground.guard }], guard := some (27, false) }) rfl (fun K hK => ?_) AllReadyH.nil
  go_simp
  refine (HTX.out _ hB6).mono ?_
  rintro e w7 ⟨rfl, hb7⟩
  have hB7 : Below u5.heap.size u5 w7 := hB6.trans (hb7.mono hB6.size)
  (try go_simp)
  refine hK.out _ _ (E0.out _ hB7) (fun hHeld => ?_)
  clear hK K
  (try simp only [Act.put, List.setIfInBounds_toArray, List.set_cons_zero, List.set_cons_succ])
  refine wpAnyH_ready (rs := [31]) (by kernel_rfl) (by simp) ?_
  refine AllReadyH.cons (o := { dst := some 73, op := Op.call { callee := Callee.value (Operand.func 23), args := #[Operand.tmp 72], argTypes := #[24] }, type := 9, pos := "law.go:193", after := #[{ on := 30, ground := Ground.data }, { on := 29, ground := Ground.chain }, { on := 27, ground := Ground.guard }], guard := some (27, false) }) rfl (fun K hK => ?_) AllReadyH.nil
  go_simp
  refine (HTY.out _ hB7).mono ?_
  rintro e w8 ⟨rfl, hb8⟩
  have hB8 : Below u5.heap.size u5 w8 := hB7.trans (hb8.mono hB7.size)
  (try go_simp)
  refine hK.out _ _ (E0.out _ hB8) (fun hHeld => ?_)
  clear hK K
  (try simp only [Act.put, List.setIfInBounds_toArray, List.set_cons_zero, List.set_cons_succ])
  refine wpAnyH_take (i := 32) (oi := { dst := some 74, op := Op.binOp BinOp.eql 9 (Operand.tmp 71) (Operand.tmp 73) 9, type := 4, pos := "law.go:193", after := #[{ on := 29, ground := Ground.data }, { on := 31, ground := Ground.data }, { on := 27, ground := Ground.guard }], guard := some (27, false) }) (v := ?_) rfl (by kernel_rfl) (by kernel_rfl) (by kernel_rfl) (fun _ _ _ h => h) (Or.inl ⟨by rfl, ?_⟩) (by assumption) ?_
  rotate_left
  · (intro w hSw; (try dsimp only at hSw); go_simp; try with_reducible rfl)
  (try simp only [Act.put, List.setIfInBounds_toArray, List.set_cons_zero, List.set_cons_succ])
  refine wpAnyH_take (i := 36) (oi := { dst := some 78, op := Op.binOp BinOp.neq 4 (Operand.tmp 74) (Operand.tmp 77) 4, type := 4, pos := "law.go:193", after := #[{ on := 32, ground := Ground.data }, { on := 35, ground := Ground.data }, { on := 27, ground := Ground.guard }], guard := some (27, false) }) (v := ?_) rfl (by kernel_rfl) (by kernel_rfl) (by kernel_rfl) (fun _ _ _ h => h) (Or.inl ⟨by rfl, ?_⟩) (by assumption) ?_
  rotate_left
  · (intro w hSw; (try dsimp only at hSw); go_simp; try with_reducible rfl)
  (try simp only [Act.put, List.setIfInBounds_toArray, List.set_cons_zero, List.set_cons_succ])
  refine wpAnyH_take (i := 37) (oi := { dst := some 79, op := Op.pick (Operand.tmp 69) (Operand.const (Value.bool true)) (Operand.tmp 78), type := 4, pos := "law.go:193", after := #[{ on := 27, ground := Ground.data }, { on := 36, ground := Ground.data }], guard := none }) (v := ?_) rfl (by kernel_rfl) (by kernel_rfl) (by kernel_rfl) (fun _ _ _ h => h) (Or.inl ⟨by rfl, ?_⟩) (by assumption) ?_
  rotate_left
  · (intro w hSw; (try dsimp only at hSw); go_simp; try with_reducible rfl)
  (try simp only [Act.put, List.setIfInBounds_toArray, List.set_cons_zero, List.set_cons_succ])
  refine wpAnyH_done (by kernel_rfl) ?_ _
  refine NoPanic.normal ?_
  clear kx0 kx1 ky0 ky1
  have hT := hT.trans (hB8.mono hT.size)
  have kx := kx.below hB8
  have ky := ky.below hB8
  have kx0 := kx.c0
  have kx1 := kx.c1
  have ky0 := ky.c0
  have ky1 := ky.c1
  go_wp2_with fail
  clear kx0 kx1 ky0 ky1
  (with_reducible refine (add_any _ _ _ _ _ kx.bv ky.bv HA.out.lt HB.out.lt).mono ?_)
  rintro e u6 ⟨r5, rfl, hr5, hb9⟩
  have hT := hT.trans (hb9.mono hT.size)
  have kx := kx.below hb9
  have ky := ky.below hb9
  rw [(addP HA.out HB.out).1]
  rw [(addP HA.out HB.out).2] at hr5
  obtain ⟨s5, A5, n5, c5, rfl⟩ := hr5.form
  have kxz := kx.below ((Below.refl _ u6).alloc (Nat.le_refl _) (.cells #[.int .i64 s5, .slice A5 n5 c5] 24))
  have kxz0 := kxz.c0
  have kxz1 := kxz.c1
  have kyz := ky.below ((Below.refl _ u6).alloc (Nat.le_refl _) (.cells #[.int .i64 s5, .slice A5 n5 c5] 24))
  have kyz0 := kyz.c0
  have kyz1 := kyz.c1
  go_wp2_with fail
  clear kxz0 kxz1
  clear kxz
  clear kyz0 kyz1
  clear kyz
  obtain ⟨Ws, hW, hbx, ks⟩ := box1 hr5
  rw [← hW]
  clear hW
  have hT := hT.trans (hbx.mono hT.size)
  have kx := kx.below hbx
  have ky := ky.below hbx
  (with_reducible refine (sub_any _ _ _ _ _ kx.bv ky.bv HA.out.lt HB.out.lt).mono ?_)
  rintro e u7 ⟨r6, rfl, hr6, hb9⟩
  have hT := hT.trans (hb9.mono hT.size)
  have kx := kx.below hb9
  have ky := ky.below hb9
  have ks := ks.below hb9
  rw [(subP HA.out HB.out).1]
  rw [(subP HA.out HB.out).2] at hr6
  obtain ⟨s6, A6, n6, c6, rfl⟩ := hr6.form
  have kxz := kx.below ((Below.refl _ u7).alloc (Nat.le_refl _) (.cells #[.int .i64 s6, .slice A6 n6 c6] 24))
  have kxz0 := kxz.c0
  have kxz1 := kxz.c1
  have kyz := ky.below ((Below.refl _ u7).alloc (Nat.le_refl _) (.cells #[.int .i64 s6, .slice A6 n6 c6] 24))
  have kyz0 := kyz.c0
  have kyz1 := kyz.c1
  go_wp2_with fail
  clear kxz0 kxz1
  clear kxz
  clear kyz0 kyz1
  clear kyz
  obtain ⟨Wd, hW, hbx, kd⟩ := box1 hr6
  rw [← hW]
  clear hW
  have hT := hT.trans (hbx.mono hT.size)
  have kx := kx.below hbx
  have ky := ky.below hbx
  have ks := ks.below hbx
  (with_reducible refine (mul_any _ _ _ _ _ kx.bv ky.bv HA.out.lt HB.out.lt).mono ?_)
  rintro e u8 ⟨r7, rfl, hr7, hb9⟩
  have hT := hT.trans (hb9.mono hT.size)
  have kx := kx.below hb9
  have ky := ky.below hb9
  have ks := ks.below hb9
  have kd := kd.below hb9
  rw [(mulP HA.out HB.out).1]
  rw [(mulP HA.out HB.out).2] at hr7
  obtain ⟨s7, A7, n7, c7, rfl⟩ := hr7.form
  have kxz := kx.below ((Below.refl _ u8).alloc (Nat.le_refl _) (.cells #[.int .i64 s7, .slice A7 n7 c7] 24))
  have kxz0 := kxz.c0
  have kxz1 := kxz.c1
  have kyz := ky.below ((Below.refl _ u8).alloc (Nat.le_refl _) (.cells #[.int .i64 s7, .slice A7 n7 c7] 24))
  have kyz0 := kyz.c0
  have kyz1 := kyz.c1
  go_wp2_with fail
  clear kxz0 kxz1
  clear kxz
  clear kyz0 kyz1
  clear kyz
  obtain ⟨Wp, hW, hbx, kp⟩ := box1 hr7
  rw [← hW]
  clear hW
  have hT := hT.trans (hbx.mono hT.size)
  have kx := kx.below hbx
  have ky := ky.below hbx
  have ks := ks.below hbx
  have kd := kd.below hbx
  (with_reducible refine (compare_any _ _ _ _ _ kx.bv ky.bv HA.out.lt HB.out.lt).mono ?_)
  rintro e u9 ⟨rfl, hb9⟩
  have hT := hT.trans (hb9.mono hT.size)
  have kx := kx.below hb9
  have ky := ky.below hb9
  have ks := ks.below hb9
  have kd := kd.below hb9
  have kp := kp.below hb9
  rw [HC.out]
  go_wp2_with fail
  go_ret
  exact ⟨rfl, hT⟩

end Go.Proofs.YtofndidngjglmaaDoor
