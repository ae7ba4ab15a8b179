/- Walks: steps, closer, common. -/
import Derived.Test.YtofndidngjglmaaDoorL
import Derived.Test.YtofndidngjglmaaDoorI
import Derived.Laws.Rows
namespace Go.Proofs.YtofndidngjglmaaDoor
open Go.RowKit

def Blk (w : World) (g : Nat) (t : TypeId) (cs : Array Value) : Prop := w.heap[g]? = some (.cells cs t (0, 0))
section
variable {w w' : World} {g : Nat} {t : TypeId} {cs : Array Value}
theorem Blk.lt (h : Blk w g t cs) : g < w.heap.size := by
  rcases Nat.lt_or_ge g w.heap.size with hlt | hge
  · exact hlt
  · unfold Blk at h; rw [Array.getElem?_eq_none hge] at h; cases h
theorem Blk.cell (h : Blk w g t cs) (i : Nat) : w.cell? ⟨g, i, none⟩ = cs[i]? := cell_of_row w g i cs t (0, 0) h
theorem Blk.frozen (h : Blk w g t cs) (i : Nat) : w.frozen? ⟨g, i, none⟩ = false := by
  unfold Blk at h
  simp [World.frozen?, h]
theorem Blk.new (w : World) (t : TypeId) (cs : Array Value) : Blk (w.alloc (.cells cs t)) w.heap.size t cs := heap_alloc_new w _
theorem Blk.drewN (h : Blk w g t cs) (n : Nat) : Blk (w.drewN n) g t cs := h
theorem Blk.alloc (h : Blk w g t cs) (o : Obj) : Blk (w.alloc o) g t cs := (Below.heap_alloc w o g h.lt).trans h
theorem Blk.set_ (h : Blk w g t cs) (i : Nat) (u : Value) : Blk (w.setCell ⟨g, i, none⟩ u) g t (cs.setIfInBounds i u) := by
  unfold Blk at h ⊢
  simp [World.setCell, Array.getElem?_modify, h]
theorem Blk.far (h : Blk w g t cs) {p : Addr} (hp : g ≠ p.block) (u : Value) : Blk (w.setCell p u) g t cs := (Below.heap_setCell w p u g hp).trans h
theorem Blk.below {B : Nat} (h : Blk w g t cs) (hb : Below B w w') (hg : g < B) : Blk w' g t cs := (hb.block g hg).trans h
theorem Blk.set4 {a0 a1 a2 a3 : Value} (h : Blk w g t #[a0, a1, a2, a3]) (b0 b1 b2 b3 : Value) : Blk ((((w.setCell ⟨g, 0, none⟩ b0).setCell ⟨g, 1, none⟩ b1).setCell ⟨g, 2, none⟩ b2).setCell ⟨g, 3, none⟩ b3) g t #[b0, b1, b2, b3] := by
  simpa using (((h.set_ 0 b0).set_ 1 b1).set_ 2 b2).set_ 3 b3
end

set_option maxRecDepth 100000 in
set_option maxHeartbeats 2000000 in
theorem steps_any (xh yh : Int) (w : World) (h0 : 0 ≤ yh) (h1 : yh ≤ xh) (h2 : xh < 2199023255552) :
    Calls Tryd.prog 66 #[.int .i64 xh, .int .i64 yh] w fun e w' => ∃ A B C E : Int, e = .returned (.agg #[.int .i64 A, .int .i64 B, .int .i64 C, .int .i64 E]) ∧ Hid (∃ x y, Lehm xh yh x y A B C E) ∧ Hid (LehmAll xh yh A B C E) ∧ Below w.heap.size w w' := by
  obtain ⟨hl, ha⟩ := lehm_start h0 h1 h2
  have HL := Lib.hid hl
  have HA := Lib.hid ha
  clear hl ha
  go_enter Tryd.func66, Tryd.ntmps66
  go_wp2_with fail
  go_loopw [0, 1, 6] (fun xv yv _ wr => ∃ x y A B C E : Int, xv = .int .i64 x ∧ yv = .int .i64 y ∧ Hid (Lehm xh yh x y A B C E) ∧ Hid (LehmAll xh yh A B C E) ∧ Blk wr (w.heap.size + 1) 94 #[.int .i64 A, .int .i64 B, .int .i64 C, .int .i64 E] ∧ Blk wr w.heap.size 94 #[.int .i64 0, .int .i64 0, .int .i64 0, .int .i64 0] ∧ Below w.heap.size w wr) (fun _ yv _ _ => (intOf yv).toNat)
  case atStart => exact ⟨xh, yh, 1, 0, 0, 1, rfl, rfl, HL, HA, by have := Blk.new (w.alloc (.cells #[.int .i64 0, .int .i64 0, .int .i64 0, .int .i64 0] 94)) 94 #[.int .i64 1, .int .i64 0, .int .i64 0, .int .i64 1]; rw [World.size_alloc] at this; exact this, (Blk.new w 94 _).alloc _, ((Below.refl _ w).alloc (Nat.le_refl _) _).alloc (by simp) _⟩
  case round =>
    obtain ⟨x, y, A, B, C, E, rfl, rfl, hl, ha, hbm, hbr, hb⟩ := hrel
    obtain ⟨-, -, c1, c2, c3, c4, c5, c6, c7, c8, -, b1, b2, b3, b4, b5, b6, b7, b8⟩ := hl.out
    have k0 : wr.cell? ⟨w.heap.size + 1, 0, none⟩ = some (.int .i64 A) := hbm.cell 0
    have k1 : wr.cell? ⟨w.heap.size + 1, 1, none⟩ = some (.int .i64 B) := hbm.cell 1
    have k2 : wr.cell? ⟨w.heap.size + 1, 2, none⟩ = some (.int .i64 C) := hbm.cell 2
    have k3 : wr.cell? ⟨w.heap.size + 1, 3, none⟩ = some (.int .i64 E) := hbm.cell 3
    have f0 := hbm.frozen 0
    have f1 := hbm.frozen 1
    have f2 := hbm.frozen 2
    have f3 := hbm.frozen 3
    have r0 : wr.cell? ⟨w.heap.size, 0, none⟩ = some (.int .i64 0) := hbr.cell 0
    have r1 : wr.cell? ⟨w.heap.size, 1, none⟩ = some (.int .i64 0) := hbr.cell 1
    have r2 : wr.cell? ⟨w.heap.size, 2, none⟩ = some (.int .i64 0) := hbr.cell 2
    have r3 : wr.cell? ⟨w.heap.size, 3, none⟩ = some (.int .i64 0) := hbr.cell 3
    have g0 := hbr.frozen 0
    have g1 := hbr.frozen 1
    have g2 := hbr.frozen 2
    have g3 := hbr.frozen 3
    by_cases hC : y + C = 0
    · have hC' : ((y + C : Int) != 0) = false := by simpa using hC
      go_wp2_with fail
      refine bodyPost_ret (results_cell_row rfl _ _ w.heap.size 94 #[.int .i64 A, .int .i64 B, .int .i64 C, .int .i64 E] (0, 0) _ rfl (hbr.set4 _ _ _ _) Tryd.underlying94 rfl (by kernel_rfl)) rfl ?_
      exact ⟨A, B, C, E, rfl, Lib.hid ⟨x, y, hl.out⟩, ha, (((hb.setCell (p := ⟨w.heap.size, 0, none⟩) (Nat.le_refl _) _).setCell (p := ⟨w.heap.size, 1, none⟩) (Nat.le_refl _) _).setCell (p := ⟨w.heap.size, 2, none⟩) (Nat.le_refl _) _).setCell (p := ⟨w.heap.size, 3, none⟩) (Nat.le_refl _) _⟩
    · by_cases hE : y + E = 0
      · have hC' : ((y + C : Int) != 0) = true := by simpa using hC
        have hE' : ((y + E : Int) != 0) = false := by simpa using hE
        go_wp2_with fail
        refine bodyPost_ret (results_cell_row rfl _ _ w.heap.size 94 #[.int .i64 A, .int .i64 B, .int .i64 C, .int .i64 E] (0, 0) _ rfl (hbr.set4 _ _ _ _) Tryd.underlying94 rfl (by kernel_rfl)) rfl ?_
        exact ⟨A, B, C, E, rfl, Lib.hid ⟨x, y, hl.out⟩, ha, (((hb.setCell (p := ⟨w.heap.size, 0, none⟩) (Nat.le_refl _) _).setCell (p := ⟨w.heap.size, 1, none⟩) (Nat.le_refl _) _).setCell (p := ⟨w.heap.size, 2, none⟩) (Nat.le_refl _) _).setCell (p := ⟨w.heap.size, 3, none⟩) (Nat.le_refl _) _⟩
      · have hC' : ((y + C : Int) != 0) = true := by simpa using hC
        have hE' : ((y + E : Int) != 0) = true := by simpa using hE
        have hC2 : ((y + C : Int) == 0) = false := by simpa using hC
        have hE2 : ((y + E : Int) == 0) = false := by simpa using hE
        have hq0 : 0 ≤ (x + A) / (y + C) := Int.ediv_nonneg (by omega) (by omega)
        have hp0 : 0 ≤ (x + B) / (y + E) := Int.ediv_nonneg (by omega) (by omega)
        have hq2 : (x + A) / (y + C) ≤ x + A := Int.ediv_le_self _ (by omega)
        have hp2 : (x + B) / (y + E) ≤ x + B := Int.ediv_le_self _ (by omega)
        have hst := fun h => lehm_step hl.out ha.out (by omega) (by omega) (q := (x + A) / (y + C)) rfl h
        obtain ⟨q, hq⟩ : ∃ q, (x + A) / (y + C) = q := ⟨_, rfl⟩
        obtain ⟨p, hp⟩ : ∃ p, (x + B) / (y + E) = p := ⟨_, rfl⟩
        rw [hq] at hq0 hq2 hst
        rw [hp] at hp0 hp2 hst
        by_cases hpq : q = p
        · obtain ⟨hst1, hst2, hst3⟩ := hst hpq
          have HS1 := Lib.hid hst1
          have HS2 := Lib.hid hst2
          obtain ⟨-, -, d1, d2, d3, d4, d5, d6, d7, d8, -, e1, e2, e3, e4, e5, e6, e7, e8⟩ := hst1
          clear hst2 hst
          subst hpq
          go_wp2_with fail
          go_roundw
          case rel => exact ⟨_, _, _, _, _, _, rfl, rfl, HS1, HS2, hbm.set4 _ _ _ _, (((hbr.far (by simp) _).far (by simp) _).far (by simp) _).far (by simp) _, (((hb.setCell (p := ⟨w.heap.size + 1, 0, none⟩) (by simp) _).setCell (p := ⟨w.heap.size + 1, 1, none⟩) (by simp) _).setCell (p := ⟨w.heap.size + 1, 2, none⟩) (by simp) _).setCell (p := ⟨w.heap.size + 1, 3, none⟩) (by simp) _⟩
          case measure => simp [intOf]; omega
        · have hpq' : (q != p) = true := by simpa using hpq
          clear hst
          go_wp2_with fail
          refine bodyPost_ret (results_cell_row rfl _ _ w.heap.size 94 #[.int .i64 A, .int .i64 B, .int .i64 C, .int .i64 E] (0, 0) _ rfl (hbr.set4 _ _ _ _) Tryd.underlying94 rfl (by kernel_rfl)) rfl ?_
          exact ⟨A, B, C, E, rfl, Lib.hid ⟨x, y, hl.out⟩, ha, (((hb.setCell (p := ⟨w.heap.size, 0, none⟩) (Nat.le_refl _) _).setCell (p := ⟨w.heap.size, 1, none⟩) (Nat.le_refl _) _).setCell (p := ⟨w.heap.size, 2, none⟩) (Nat.le_refl _) _).setCell (p := ⟨w.heap.size, 3, none⟩) (Nat.le_refl _) _⟩

end Go.Proofs.YtofndidngjglmaaDoor
