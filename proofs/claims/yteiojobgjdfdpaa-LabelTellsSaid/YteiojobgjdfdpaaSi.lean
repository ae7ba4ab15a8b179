/- Walks: the law's arc. -/
import Derived.Test.YteiojobgjdfdpaaSh
import Derived.Test.YteiojobgjdfdpaaCf
import Derived.Deep.Cut
import Derived.Deep.CutRange
namespace Go.Proofs.Yteiojobgjdfdpaa
open Go.RowKit

structure AzI (w wr : World) (G N : Nat) (f t : Int) (v1 v2 : Value) (l1 l2 : List Int) : Prop where
  bl : Below w.heap.size w wr
  k0 : Blk wr w.heap.size 39 #[.int .i64 0, .int .i64 0, .slice none 0 0, .slice none 0 0]
  k : Blk wr G 39 #[.int .i64 f, .int .i64 t, v1, v2]
  o1 : OwnI wr N v1 l1
  o2 : OwnI wr N v2 l2
  ne : ∀ b, v1.ownBlock = some b → v2.ownBlock = some b → False
  g : w.heap.size < G
  gN : G < N
  N : N ≤ wr.heap.size

theorem AzI.low {w wr w5 : World} {G N : Nat} {f t : Int} {v1 v1' v2 : Value} {l1 l2 : List Int} {c : Int} (h : AzI w wr G N f t v1 v2 l1 l2) (hown : OwnI w5 N v1' (l1 ++ [c])) (hg : (wr.alloc (.cells #[.int .i64 c] 3)).grownBy w5 v1.ownBlock) (hat : v1'.ownBlock = v1.ownBlock ∨ v1'.ownBlock = some (wr.heap.size + 1)) :
    G < w5.heap.size ∧ w5.frozen? ⟨G, 2, none⟩ = false ∧ (∃ u, w5.cell? ⟨G, 2, none⟩ = some u) ∧ AzI w (w5.setCell ⟨G, 2, none⟩ v1') G N f t v1' v2 (l1 ++ [c]) l2 := by
  obtain ⟨a1, a2, a3⟩ := two_app h.N h.o1 h.o2 h.ne hg hat
  have k := h.k.below a3 h.gN
  have k0 := h.k0.below a3 (by have := h.g; have := h.gN; omega)
  have k' := k.set_ 2 v1'
  have hf := k.cell 2
  simp at k' hf
  refine ⟨k.lt, k.frozen 2, ⟨_, hf⟩, ⟨?_, k0.far (by have := h.g; simp; omega) _, k', hown.put _ h.gN, a1.put _ h.gN, a2, h.g, h.gN, by have := a3.size; have := h.N; simp; omega⟩⟩
  have hb : Below w.heap.size w w5 := h.bl.trans (a3.mono (by have := h.g; have := h.gN; omega))
  exact hb.setCell (by have := h.g; simp; omega) _
theorem AzI.high {w wr w5 : World} {G N : Nat} {f t : Int} {v1 v2' v2 : Value} {l1 l2 : List Int} {c : Int} (h : AzI w wr G N f t v1 v2 l1 l2) (hown : OwnI w5 N v2' (l2 ++ [c])) (hg : (wr.alloc (.cells #[.int .i64 c] 3)).grownBy w5 v2.ownBlock) (hat : v2'.ownBlock = v2.ownBlock ∨ v2'.ownBlock = some (wr.heap.size + 1)) :
    G < w5.heap.size ∧ w5.frozen? ⟨G, 3, none⟩ = false ∧ (∃ u, w5.cell? ⟨G, 3, none⟩ = some u) ∧ AzI w (w5.setCell ⟨G, 3, none⟩ v2') G N f t v1 v2' l1 (l2 ++ [c]) := by
  obtain ⟨a1, a2, a3⟩ := two_app h.N h.o2 h.o1 (fun b h1 h2 => h.ne b h2 h1) hg hat
  have k := h.k.below a3 h.gN
  have k0 := h.k0.below a3 (by have := h.g; have := h.gN; omega)
  have k' := k.set_ 3 v2'
  have hf := k.cell 3
  simp at k' hf
  refine ⟨k.lt, k.frozen 3, ⟨_, hf⟩, ⟨?_, k0.far (by have := h.g; simp; omega) _, k', a1.put _ h.gN, hown.put _ h.gN, fun b h1 h2 => a2 b h2 h1, h.g, h.gN, by have := a3.size; have := h.N; simp; omega⟩⟩
  have hb : Below w.heap.size w w5 := h.bl.trans (a3.mono (by have := h.g; have := h.gN; omega))
  exact hb.setCell (by have := h.g; simp; omega) _

theorem rep_succ (c : Int) (i : Nat) : List.replicate i c ++ [c] = List.replicate (i + 1) c := by rw [List.replicate_succ']
set_option maxRecDepth 100000 in
set_option maxHeartbeats 4000000 in
theorem arc12_any (f t p q : Int) (w : World) :
    Calls Try.prog 72 #[.int .i64 f, .int .i64 t, .int .i64 p, .int .i64 q] w fun e w' => ∃ A c A' c', e = .returned (.agg #[.int .i64 f, .int .i64 t, .slice A 24 c, .slice A' 24 c']) ∧ ArcM w' ⟨f, t, List.replicate 24 p, List.replicate 24 q⟩ A A' ∧ Below w.heap.size w w' := by
  go_enter Try.func72, Try.ntmps72
  go_wp2_with fail
  have hA1 : Below w.heap.size w (w.alloc (.cells #[.int .i64 0, .int .i64 0, .slice none 0 0, .slice none 0 0] 39)) := (Below.refl _ _).alloc (Nat.le_refl _) _
  have hA2 := hA1.alloc hA1.size (.cells #[.int .i64 f, .int .i64 t, .slice none 0 0, .slice none 0 0] 39)
  have k2 := (Blk.new w 39 #[.int .i64 0, .int .i64 0, .slice none 0 0, .slice none 0 0]).alloc (.cells #[.int .i64 f, .int .i64 t, .slice none 0 0, .slice none 0 0] 39)
  have k3 := Blk.new (w.alloc (.cells #[.int .i64 0, .int .i64 0, .slice none 0 0, .slice none 0 0] 39)) 39 #[.int .i64 f, .int .i64 t, .slice none 0 0, .slice none 0 0]
  rw [World.size_alloc] at k3
  obtain ⟨W2, hW2⟩ : ∃ W, (w.alloc (.cells #[.int .i64 0, .int .i64 0, .slice none 0 0, .slice none 0 0] 39)).alloc (.cells #[.int .i64 f, .int .i64 t, .slice none 0 0, .slice none 0 0] 39) = W := ⟨_, rfl⟩
  rw [hW2] at hA2 k2 k3 ⊢
  clear hW2 hA1
  obtain ⟨G, hG⟩ : ∃ G, w.heap.size + 1 = G := ⟨_, rfl⟩
  rw [hG] at k3 ⊢
  have hI0 := Lib.hid (show AzI w W2 G (G + 1) f t (.slice none 0 0) (.slice none 0 0) (List.replicate 0 p) (List.replicate 0 q) from ⟨hA2, k2, k3, OwnI.nil _ _, OwnI.nil _ _, fun b h => by simp [Value.ownBlock] at h, by omega, by omega, k3.lt⟩)
  clear hA2 k2 k3 hG
  go_loopw [10] (fun iv wr => ∃ (i : Nat) (v1 v2 : Value), i ≤ 24 ∧ iv = .int .i64 i ∧ Hid (AzI w wr G (G + 1) f t v1 v2 (List.replicate i p) (List.replicate i q))) (fun iv _ => 24 - (intOf iv).toNat)
  case atStart => exact ⟨0, _, _, Nat.zero_le _, rfl, hI0⟩
  case round =>
    obtain ⟨i, v1, v2, hi, rfl, hI⟩ := hrel
    clear hI0
    by_cases hgo : i < 24
    · have hI1 := hI.out
      obtain ⟨c0, c1, c2, c3⟩ := box_cells hI1.k
      have hGl := hI1.k.lt
      clear hI1
      go_upto_region 6 with (at_builtin; refine appIg rfl (.tmp 19) (.tmp 21) rfl (G + 1) v1 _ p rfl hI.out.o1 rfl (by simp; omega) hI.out.N ?_; intro v5 w5 hown5 hg5 hat5; obtain ⟨A5, n5, c5, hv5⟩ : ∃ A n c, v5 = .slice A n c := ⟨_, _, _, hown5.form.choose_spec.choose_spec⟩; subst hv5; obtain ⟨f1, f2, ⟨f3, f4⟩, hI5⟩ := hI.out.low hown5 hg5 hat5; have HI5 := Lib.hid hI5; clear hown5 hg5 hat5 hI5)
      obtain ⟨w6, hw6⟩ : ∃ W, w5.setCell ⟨G, 2, none⟩ (.slice A5 n5 c5) = W := ⟨_, rfl⟩
      rw [hw6] at HI5 ⊢
      clear hw6 c0 c1 c2 c3 hGl f1 f2 f4 hI
      obtain ⟨c0, c1, c2, c3⟩ := box_cells HI5.out.k
      have hGl := HI5.out.k.lt
      go_wp2_with (at_builtin; refine appIg rfl (.tmp 25) (.tmp 27) rfl (G + 1) v2 _ q rfl HI5.out.o2 rfl (by simp; omega) HI5.out.N ?_; intro v7 w7 hown7 hg7 hat7; obtain ⟨A7, n7, c7, hv7⟩ : ∃ A n c, v7 = .slice A n c := ⟨_, _, _, hown7.form.choose_spec.choose_spec⟩; subst hv7; obtain ⟨f1, f2, ⟨f3, f4⟩, hI7⟩ := HI5.out.high hown7 hg7 hat7; have HI7 := Lib.hid hI7; clear hown7 hg7 hat7 hI7)
      have hnx : Hid (AzI w (w7.setCell ⟨G, 3, none⟩ (.slice A7 n7 c7)) G (G + 1) f t (.slice A5 n5 c5) (.slice A7 n7 c7) (List.replicate (i + 1) p) (List.replicate (i + 1) q)) := Lib.hid (by
        rw [← rep_succ, ← rep_succ]
        exact HI7.out)
      clear HI7 HI5 c0 c1 c2 c3 hGl f1 f2 f4
      go_roundw
      case rel => exact ⟨i + 1, _, _, by omega, rfl, hnx⟩
      case measure => simp [intOf]; omega
    · have : i = 24 := by omega
      subst this
      have hI1 := hI.out
      obtain ⟨c0, c1, c2, c3⟩ := box_cells hI1.k
      have hGl := hI1.k.lt
      obtain ⟨g2, p2, e2, hN2, hg2, hc2⟩ := hI1.o2.some_of (by simp)
      obtain ⟨g1, p1, e1, hN1, hg1, hc1⟩ := hI1.o1.some_of (by simp)
      rw [List.length_replicate] at e1 e2
      subst e1; subst e2
      have o1' := hI1.o1
      have o2' := hI1.o2
      obtain ⟨d0, d1, d2, d3⟩ := box_cells hI1.k0
      have y0 := hI1.k0.frozen 0
      have y1 := hI1.k0.frozen 1
      have y2 := hI1.k0.frozen 2
      have y3 := hI1.k0.frozen 3
      have hl0 := hI1.k0.lt
      have hGg := hI1.g
      have kf := (((hI1.k0.set_ 0 (.int .i64 f)).set_ 1 (.int .i64 t)).set_ 2 (.slice (some ⟨g1, 0, none⟩) 24 p1)).set_ 3 (.slice (some ⟨g2, 0, none⟩) 24 p2)
      simp at kf
      obtain ⟨v0, v1, v2, v3⟩ := box_cells kf
      have HV := Lib.hid (And.intro v0 (And.intro v1 (And.intro v2 v3)))
      clear kf v0 v1 v2 v3
      have HGG := Lib.hid hGg; clear hGg
      have HF := Lib.hid (And.intro o1' (And.intro o2' hI1.bl))
      clear hI hI1 o1' o2' hN1 hN2
      go_wp2_with fail
      have HFIN : Hid (ArcM ((((wr.setCell ⟨w.heap.size, 0, none⟩ (.int .i64 f)).setCell ⟨w.heap.size, 1, none⟩ (.int .i64 t)).setCell ⟨w.heap.size, 2, none⟩ (.slice (some ⟨g1, 0, none⟩) 24 p1)).setCell ⟨w.heap.size, 3, none⟩ (.slice (some ⟨g2, 0, none⟩) 24 p2)) ⟨f, t, List.replicate 24 p, List.replicate 24 q⟩ (some ⟨g1, 0, none⟩) (some ⟨g2, 0, none⟩) ∧ Below w.heap.size w ((((wr.setCell ⟨w.heap.size, 0, none⟩ (.int .i64 f)).setCell ⟨w.heap.size, 1, none⟩ (.int .i64 t)).setCell ⟨w.heap.size, 2, none⟩ (.slice (some ⟨g1, 0, none⟩) 24 p1)).setCell ⟨w.heap.size, 3, none⟩ (.slice (some ⟨g2, 0, none⟩) 24 p2))) := Lib.hid (by
        obtain ⟨a1, a2, a5⟩ := HF.out
        have hG1 := HGG.out
        have b1 := (((a1.put (G := w.heap.size) (o := 0) (.int .i64 f) (by omega)).put (G := w.heap.size) (o := 1) (.int .i64 t) (by omega)).put (G := w.heap.size) (o := 2) (.slice (some ⟨g1, 0, none⟩) 24 p1) (by omega)).put (G := w.heap.size) (o := 3) (.slice (some ⟨g2, 0, none⟩) 24 p2) (show w.heap.size < G + 1 by omega)
        have b2 := (((a2.put (G := w.heap.size) (o := 0) (.int .i64 f) (by omega)).put (G := w.heap.size) (o := 1) (.int .i64 t) (by omega)).put (G := w.heap.size) (o := 2) (.slice (some ⟨g1, 0, none⟩) 24 p1) (by omega)).put (G := w.heap.size) (o := 3) (.slice (some ⟨g2, 0, none⟩) 24 p2) (show w.heap.size < G + 1 by omega)
        obtain ⟨x1, y1, e1, i1⟩ := b1.ints
        obtain ⟨x2, y2, e2, i2⟩ := b2.ints
        injection e1 with e1 _ _
        injection e2 with e2 _ _
        subst e1; subst e2
        exact ⟨⟨i1, i2⟩, (((a5.setCell (Nat.le_refl _) _).setCell (Nat.le_refl _) _).setCell (Nat.le_refl _) _).setCell (Nat.le_refl _) _⟩)
      obtain ⟨V, hV⟩ : ∃ V, (((wr.setCell ⟨w.heap.size, 0, none⟩ (.int .i64 f)).setCell ⟨w.heap.size, 1, none⟩ (.int .i64 t)).setCell ⟨w.heap.size, 2, none⟩ (.slice (some ⟨g1, 0, none⟩) 24 p1)).setCell ⟨w.heap.size, 3, none⟩ (.slice (some ⟨g2, 0, none⟩) 24 p2) = V := ⟨_, rfl⟩
      rw [hV] at HV HFIN ⊢
      clear hV HF
      obtain ⟨v0, v1, v2, v3⟩ := HV.out
      refine bodyPost_ret (v := .agg #[.int .i64 f, .int .i64 t, .slice (some ⟨g1, 0, none⟩) 24 p1, .slice (some ⟨g2, 0, none⟩) 24 p2]) (by simp [results, Try.results72, go_sem, v0, v1, v2, v3]) rfl ?_
      exact ⟨_, _, _, _, rfl, HFIN.out.1, HFIN.out.2⟩

end Go.Proofs.Yteiojobgjdfdpaa
