/- Walks: the law's examples. -/
import Derived.Test.YtbojonafadhciaaCg
namespace Go.Proofs.Ytbojonafadhciaa
open Go.RowKit

theorem busy_ok : busyA.ok := by
  unfold Arc.ok
  decide
theorem busy_hi : ∀ h, h < 24 → busyA.hi.getD h 0 = if h = 8 then 50 else 20 := by decide
theorem busy_lo : ∀ h, h < 24 → busyA.lo.getD h 0 = 10 := by decide
theorem busy_true (u : Int) (h : 0 ≤ u) : busyA.mm true u = if u / 60 % 24 = 8 then 50 else 20 := by
  show busyA.hi.getD (hr u) 0 = _
  rw [busy_hi _ (hr_lt u)]
  have := hr_eq h
  by_cases e : hr u = 8
  · rw [if_pos e, if_pos (by omega)]
  · rw [if_neg e, if_neg (by omega)]
theorem busy_false (u : Int) : busyA.mm false u = 10 := busy_lo _ (hr_lt u)
theorem busy_arr {t u z : Int} (h0 : 0 ≤ t) (h1 : t ≤ u) (h2 : u ≤ 1048576) (hz : z = u + (if u / 60 % 24 = 8 then 50 else 20)) (hm : ∀ v, t ≤ v → z ≤ v + (if v / 60 % 24 = 8 then 50 else 20)) : Arr busyA true t z :=
  ⟨fun v h _ => by rw [busy_true v (by omega)]; exact hm v h, ⟨u, h1, h2, by rw [busy_true u (by omega)]; exact hz⟩⟩
theorem arr1 : Arr busyA true 479 499 := busy_arr (u := 479) (by omega) (by omega) (by omega) (by decide) (fun v hv => by split <;> omega)
theorem arr2 : Arr busyA true 480 530 := busy_arr (u := 480) (by omega) (by omega) (by omega) (by decide) (fun v hv => by split <;> omega)
theorem arr3 : Arr busyA true 535 560 := busy_arr (u := 540) (by omega) (by omega) (by omega) (by decide) (fun v hv => by split <;> omega)
theorem arr4 : Arr busyA true 540 560 := busy_arr (u := 540) (by omega) (by omega) (by omega) (by decide) (fun v hv => by split <;> omega)
theorem arr5 : Arr busyA false 480 490 := ⟨fun v h _ => by rw [busy_false]; omega, ⟨480, by omega, by omega, by rw [busy_false]; rfl⟩⟩
theorem last1 : LastA busyA true 530 480 := ⟨by omega, by omega, fun _ => by rw [busy_true _ (by omega)]; decide, fun v h h0 _ => by rw [busy_true v h0]; split <;> omega⟩
theorem last2 : LastA busyA true 529 479 := ⟨by omega, by omega, fun _ => by rw [busy_true _ (by omega)]; decide, fun v h h0 _ => by rw [busy_true v h0]; split <;> omega⟩
theorem last3 : LastA busyA true 19 (-1) := ⟨by omega, by omega, fun h => by omega, fun v h h0 _ => by rw [busy_true v h0]; split <;> omega⟩
theorem last4 : LastA busyA true 20 0 := ⟨by omega, by omega, fun _ => by rw [busy_true _ (by omega)]; decide, fun v h h0 _ => by rw [busy_true v h0]; split <;> omega⟩
theorem mm1 : busyA.mm true 479 = 20 := by rw [busy_true _ (by omega)]; decide
theorem mm2 : busyA.mm true 480 = 50 := by rw [busy_true _ (by omega)]; decide
theorem mm3 : busyA.mm true 540 = 20 := by rw [busy_true _ (by omega)]; decide

/-- The example as it lies, in its variable. -/
structure Bsy (w wr : World) (G : Nat) (A : Option Addr) (c : Nat) (A' : Option Addr) (c' : Nat) : Prop where
  m : ArcM wr busyA A A'
  k : Blk wr G 24 #[.int .i64 0, .int .i64 0, .slice A 24 c, .slice A' 24 c']
  bl : Below w.heap.size w wr
theorem Bsy.below {w wr w' : World} {G : Nat} {A : Option Addr} {c : Nat} {A' : Option Addr} {c' : Nat} (h : Bsy w wr G A c A' c') (hb : Below wr.heap.size wr w') : Bsy w w' G A c A' c' :=
  ⟨h.m.below hb, h.k.below hb h.k.lt, h.bl.trans (hb.mono h.bl.size)⟩

set_option maxRecDepth 100000 in
set_option maxHeartbeats 8000000 in
theorem small_any (w : World) : Calls Try.prog 8 #[] w fun e w' => e = .returned (.bool true) ∧ Below w.heap.size w w' := by
  have hid : IsT 479 ∧ IsT 480 ∧ IsT 535 ∧ IsT 540 := by unfold IsT; omega
  have HT := Lib.hid hid; clear hid
  go_enter Try.func8, Try.ntmps8
  go_wp2_with fail
  refine (busy_any _).mono ?_
  rintro e w1 ⟨A, c, A', c', rfl, hm, hb1⟩
  go_wp2_with fail

  have HB := Lib.hid (show Bsy w (w1.alloc (.cells #[.int .i64 0, .int .i64 0, .slice A 24 c, .slice A' 24 c'] 24)) w1.heap.size A c A' c' from ⟨hm.below ((Below.refl _ _).alloc (Nat.le_refl _) _), Blk.new _ _ _, hb1.trans (((Below.refl _ _).alloc (Nat.le_refl _) _).mono hb1.size)⟩)
  obtain ⟨W, hW⟩ : ∃ W, w1.alloc (.cells #[.int .i64 0, .int .i64 0, .slice A 24 c, .slice A' 24 c'] 24) = W := ⟨_, rfl⟩
  rw [hW] at HB ⊢
  clear hW hm hb1
  obtain ⟨G, hG⟩ : ∃ G, w1.heap.size = G := ⟨_, rfl⟩
  rw [hG] at HB ⊢
  clear hG
  refine (right_yes busyA A A' c c' _ HB.out.m busy_ok).mono ?_
  rintro e x0 ⟨rfl, hx⟩
  have HB' := Lib.hid (HB.out.below hx)
  clear HB hx
  have HB := HB'
  clear HB'
  obtain ⟨k0, k1, k2, k3⟩ := box_cells HB.out.k
  go_wp2_with fail
  clear k0 k1 k2 k3
  refine (took_yes busyA A A' c c' true 479 _ HB.out.m busy_ok HT.out.1).mono ?_
  rintro e x1 ⟨rfl, hx⟩
  rw [mm1]
  have HB' := Lib.hid (HB.out.below hx)
  clear HB hx
  have HB := HB'
  clear HB'
  obtain ⟨k0, k1, k2, k3⟩ := box_cells HB.out.k
  go_wp2_with fail
  clear k0 k1 k2 k3
  refine (took_yes busyA A A' c c' true 480 _ HB.out.m busy_ok HT.out.2.1).mono ?_
  rintro e x2 ⟨rfl, hx⟩
  rw [mm2]
  have HB' := Lib.hid (HB.out.below hx)
  clear HB hx
  have HB := HB'
  clear HB'
  obtain ⟨k0, k1, k2, k3⟩ := box_cells HB.out.k
  go_wp2_with fail
  clear k0 k1 k2 k3
  refine (took_yes busyA A A' c c' true 540 _ HB.out.m busy_ok HT.out.2.2.2).mono ?_
  rintro e x3 ⟨rfl, hx⟩
  rw [mm3]
  have HB' := Lib.hid (HB.out.below hx)
  clear HB hx
  have HB := HB'
  clear HB'
  obtain ⟨k0, k1, k2, k3⟩ := box_cells HB.out.k
  go_wp2_with fail
  clear k0 k1 k2 k3
  refine (pass_yes busyA A A' c c' true 479 _ HB.out.m busy_ok HT.out.1).mono ?_
  rintro e x4 ⟨z, rfl, hz, hx⟩
  have hz' := hz.out.eq arr1
  subst hz'
  clear hz
  have HB' := Lib.hid (HB.out.below hx)
  clear HB hx
  have HB := HB'
  clear HB'
  obtain ⟨k0, k1, k2, k3⟩ := box_cells HB.out.k
  go_wp2_with fail
  clear k0 k1 k2 k3
  refine (pass_yes busyA A A' c c' true 480 _ HB.out.m busy_ok HT.out.2.1).mono ?_
  rintro e x5 ⟨z, rfl, hz, hx⟩
  have hz' := hz.out.eq arr2
  subst hz'
  clear hz
  have HB' := Lib.hid (HB.out.below hx)
  clear HB hx
  have HB := HB'
  clear HB'
  obtain ⟨k0, k1, k2, k3⟩ := box_cells HB.out.k
  go_wp2_with fail
  clear k0 k1 k2 k3
  refine (pass_yes busyA A A' c c' true 535 _ HB.out.m busy_ok HT.out.2.2.1).mono ?_
  rintro e x6 ⟨z, rfl, hz, hx⟩
  have hz' := hz.out.eq arr3
  subst hz'
  clear hz
  have HB' := Lib.hid (HB.out.below hx)
  clear HB hx
  have HB := HB'
  clear HB'
  obtain ⟨k0, k1, k2, k3⟩ := box_cells HB.out.k
  go_wp2_with fail
  clear k0 k1 k2 k3
  refine (pass_yes busyA A A' c c' true 540 _ HB.out.m busy_ok HT.out.2.2.2).mono ?_
  rintro e x7 ⟨z, rfl, hz, hx⟩
  have hz' := hz.out.eq arr4
  subst hz'
  clear hz
  have HB' := Lib.hid (HB.out.below hx)
  clear HB hx
  have HB := HB'
  clear HB'
  obtain ⟨k0, k1, k2, k3⟩ := box_cells HB.out.k
  go_wp2_with fail
  clear k0 k1 k2 k3
  refine (pass_yes busyA A A' c c' false 480 _ HB.out.m busy_ok HT.out.2.1).mono ?_
  rintro e x8 ⟨z, rfl, hz, hx⟩
  have hz' := hz.out.eq arr5
  subst hz'
  clear hz
  have HB' := Lib.hid (HB.out.below hx)
  clear HB hx
  have HB := HB'
  clear HB'
  obtain ⟨k0, k1, k2, k3⟩ := box_cells HB.out.k
  go_wp2_with fail
  clear k0 k1 k2 k3
  refine (last_yes busyA A A' c c' true 530 _ HB.out.m busy_ok (by omega) (by omega)).mono ?_
  rintro e x9 ⟨z, rfl, hz, hx⟩
  have hz' := hz.out.eq last1
  subst hz'
  clear hz
  have HB' := Lib.hid (HB.out.below hx)
  clear HB hx
  have HB := HB'
  clear HB'
  obtain ⟨k0, k1, k2, k3⟩ := box_cells HB.out.k
  go_wp2_with fail
  clear k0 k1 k2 k3
  refine (last_yes busyA A A' c c' true 529 _ HB.out.m busy_ok (by omega) (by omega)).mono ?_
  rintro e x10 ⟨z, rfl, hz, hx⟩
  have hz' := hz.out.eq last2
  subst hz'
  clear hz
  have HB' := Lib.hid (HB.out.below hx)
  clear HB hx
  have HB := HB'
  clear HB'
  obtain ⟨k0, k1, k2, k3⟩ := box_cells HB.out.k
  go_wp2_with fail
  clear k0 k1 k2 k3
  refine (last_yes busyA A A' c c' true 19 _ HB.out.m busy_ok (by omega) (by omega)).mono ?_
  rintro e x11 ⟨z, rfl, hz, hx⟩
  have hz' := hz.out.eq last3
  subst hz'
  clear hz
  have HB' := Lib.hid (HB.out.below hx)
  clear HB hx
  have HB := HB'
  clear HB'
  obtain ⟨k0, k1, k2, k3⟩ := box_cells HB.out.k
  go_wp2_with fail
  clear k0 k1 k2 k3
  refine (last_yes busyA A A' c c' true 20 _ HB.out.m busy_ok (by omega) (by omega)).mono ?_
  rintro e x12 ⟨z, rfl, hz, hx⟩
  have hz' := hz.out.eq last4
  subst hz'
  clear hz
  have HB' := Lib.hid (HB.out.below hx).bl
  go_wp2_with fail
  go_ret
  exact ⟨by rfl, HB'.out⟩

end Go.Proofs.Ytbojonafadhciaa
