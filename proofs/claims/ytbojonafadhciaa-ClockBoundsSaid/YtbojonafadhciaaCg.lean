/- Walks: the law's busy. -/
import Derived.Test.YtbojonafadhciaaCf
import Derived.Deep.Cut
import Derived.Deep.CutRange
namespace Go.Proofs.Ytbojonafadhciaa
open Go.RowKit

theorem rep_succ (c : Int) (i : Nat) : List.replicate i c ++ [c] = List.replicate (i + 1) c := by rw [List.replicate_succ']
theorem OwnI.some_of {w : World} {N : Nat} {v : Value} {l : List Int} (h : OwnI w N v l) (hl : 0 < l.length) : ∃ g c, v = .slice (some ⟨g, 0, none⟩) l.length c ∧ N ≤ g ∧ g < w.heap.size ∧ l.length ≤ c := by
  rcases h.2 with ⟨rfl, hn⟩ | ⟨g, cap, cur, rfl, hb, hg, hnc, hcm, hcs, htake⟩
  · omega
  · exact ⟨g, cap, rfl, hb, (Array.getElem?_eq_some_iff.1 hg).1, hnc⟩

set_option maxRecDepth 100000 in
set_option maxHeartbeats 4000000 in
theorem busy_any (w : World) :
    Calls Try.prog 18 #[] w fun e w' => ∃ A c A' c', e = .returned (.agg #[.int .i64 0, .int .i64 0, .slice A 24 c, .slice A' 24 c']) ∧ ArcM w' busyA A A' ∧ Below w.heap.size w w' := by
  go_enter Try.func18, Try.ntmps18
  go_wp2_with fail
  have hA1 : Below w.heap.size w (w.alloc (.cells #[.int .i64 0, .int .i64 0, .slice none 0 0, .slice none 0 0] 24)) := (Below.refl _ _).alloc (Nat.le_refl _) _
  have hA2 := hA1.alloc hA1.size (.cells #[.int .i64 0, .int .i64 0, .slice none 0 0, .slice none 0 0] 24)
  have k2 := (Blk.new w 24 #[.int .i64 0, .int .i64 0, .slice none 0 0, .slice none 0 0]).alloc (.cells #[.int .i64 0, .int .i64 0, .slice none 0 0, .slice none 0 0] 24)
  have k3 := Blk.new (w.alloc (.cells #[.int .i64 0, .int .i64 0, .slice none 0 0, .slice none 0 0] 24)) 24 #[.int .i64 0, .int .i64 0, .slice none 0 0, .slice none 0 0]
  rw [World.size_alloc] at k3
  obtain ⟨W2, hW2⟩ : ∃ W, (w.alloc (.cells #[.int .i64 0, .int .i64 0, .slice none 0 0, .slice none 0 0] 24)).alloc (.cells #[.int .i64 0, .int .i64 0, .slice none 0 0, .slice none 0 0] 24) = W := ⟨_, rfl⟩
  rw [hW2] at hA2 k2 k3 ⊢
  clear hW2 hA1
  obtain ⟨G, hG⟩ : ∃ G, w.heap.size + 1 = G := ⟨_, rfl⟩
  rw [hG] at k3 ⊢
  have hI0 := Lib.hid (show BzI w W2 G (G + 1) (.slice none 0 0) (.slice none 0 0) (List.replicate 0 10) (List.replicate 0 20) from ⟨hA2, k2, k3, OwnI.nil _ _, OwnI.nil _ _, fun b h => by simp [Value.ownBlock] at h, by omega, by omega, k3.lt⟩)
  clear hA2 k2 k3 hG
  go_loopw [2] (fun iv wr => ∃ (i : Nat) (v1 v2 : Value), i ≤ 24 ∧ iv = .int .i64 i ∧ Hid (BzI w wr G (G + 1) v1 v2 (List.replicate i 10) (List.replicate i 20))) (fun iv _ => 24 - (intOf iv).toNat)
  case atStart => exact ⟨0, _, _, Nat.zero_le _, rfl, hI0⟩
  case round =>
    obtain ⟨i, v1, v2, hi, rfl, hI⟩ := hrel
    clear hI0
    by_cases hgo : i < 24
    · have hI1 := hI.out
      obtain ⟨c0, c1, c2, c3⟩ := box_cells hI1.k
      have hGl := hI1.k.lt
      clear hI1
      go_upto_region 6 with (at_builtin; refine appIg rfl (.tmp 8) (.tmp 9) rfl (G + 1) v1 _ 10 rfl hI.out.o1 rfl (by simp; omega) hI.out.N ?_; intro v5 w5 hown5 hg5 hat5; obtain ⟨A5, n5, c5, hv5⟩ : ∃ A n c, v5 = .slice A n c := ⟨_, _, _, hown5.form.choose_spec.choose_spec⟩; subst hv5; obtain ⟨f1, f2, ⟨f3, f4⟩, hI5⟩ := hI.out.low hown5 hg5 hat5; have HI5 := Lib.hid hI5; clear hown5 hg5 hat5 hI5)
      obtain ⟨w6, hw6⟩ : ∃ W, w5.setCell ⟨G, 2, none⟩ (.slice A5 n5 c5) = W := ⟨_, rfl⟩
      rw [hw6] at HI5 ⊢
      clear hw6 c0 c1 c2 c3 hGl f1 f2 f4 hI
      obtain ⟨c0, c1, c2, c3⟩ := box_cells HI5.out.k
      have hGl := HI5.out.k.lt
      go_wp2_with (at_builtin; refine appIg rfl (.tmp 13) (.tmp 14) rfl (G + 1) v2 _ 20 rfl HI5.out.o2 rfl (by simp; omega) HI5.out.N ?_; intro v7 w7 hown7 hg7 hat7; obtain ⟨A7, n7, c7, hv7⟩ : ∃ A n c, v7 = .slice A n c := ⟨_, _, _, hown7.form.choose_spec.choose_spec⟩; subst hv7; obtain ⟨f1, f2, ⟨f3, f4⟩, hI7⟩ := HI5.out.high hown7 hg7 hat7; have HI7 := Lib.hid hI7; clear hown7 hg7 hat7 hI7)
      have hnx : Hid (BzI w (w7.setCell ⟨G, 3, none⟩ (.slice A7 n7 c7)) G (G + 1) (.slice A5 n5 c5) (.slice A7 n7 c7) (List.replicate (i + 1) 10) (List.replicate (i + 1) 20)) := Lib.hid (by
        rw [← rep_succ, ← rep_succ]
        exact HI7.out)
      clear HI7 HI5 c0 c1 c2 c3 hGl f1 f2 f4
      go_roundw
      case rel => exact ⟨i + 1, _, _, by omega, rfl, hnx⟩
      case measure => simp [intOf]; omega
    · have : i = 24 := by omega
      subst this
      have hI1 := hI.out
      obtain ⟨c0, c1, c2, c3⟩ := box_cells hI1.k
      have hGl := hI1.k.lt
      obtain ⟨g2, p2, e2, hN2, hg2, hc2⟩ := hI1.o2.some_of (by simp)
      obtain ⟨g1, p1, e1, hN1, hg1, hc1⟩ := hI1.o1.some_of (by simp)
      rw [List.length_replicate] at e1 e2
      subst e1; subst e2
      have hg12 : g1 ≠ g2 := fun e => by subst e; exact hI1.ne _ rfl rfl
      have o2' := hI1.o2.store (by simp) 8 50
      have hc := hI1.o2.cell (k := 8) (by simp) (by omega)
      have hfz := hI1.o2.frozen (k := 8) (by simp)
      have k' := hI1.k.far (p := ⟨g2, 8, none⟩) (by simp; omega) (.int .i64 50)
      have k0' := hI1.k0.far (p := ⟨g2, 8, none⟩) (by have := hI1.g; simp; omega) (.int .i64 50)
      have o1' : OwnI (wr.setCell ⟨g2, 8, none⟩ (.int .i64 50)) (G + 1) (.slice (some ⟨g1, 0, none⟩) 24 p1) (List.replicate 24 10) :=
        World.ownsRow.kept (row := some g2) hI1.o1 ⟨rfl, rfl, rfl, by simp, fun k hk hn => Below.heap_setCell wr _ _ k (fun e => hn (by rw [e]))⟩ (.inr (fun e => hg12 (by injection e)))
      have hbl : Below w.heap.size w (wr.setCell ⟨g2, 8, none⟩ (.int .i64 50)) := hI1.bl.setCell (by have := hI1.g; simp; omega) _
      obtain ⟨d0, d1, d2, d3⟩ := box_cells hI1.k0
      have y0 := hI1.k0.frozen 0
      have y1 := hI1.k0.frozen 1
      have y2 := hI1.k0.frozen 2
      have y3 := hI1.k0.frozen 3
      have hl0 := hI1.k0.lt
      have hGg := hI1.g
      have kf := (((k0'.set_ 0 (.int .i64 0)).set_ 1 (.int .i64 0)).set_ 2 (.slice (some ⟨g1, 0, none⟩) 24 p1)).set_ 3 (.slice (some ⟨g2, 0, none⟩) 24 p2)
      simp at kf
      obtain ⟨v0, v1, v2, v3⟩ := box_cells kf
      have HV := Lib.hid (And.intro v0 (And.intro v1 (And.intro v2 v3)))
      clear kf v0 v1 v2 v3
      have HGG := Lib.hid hGg; clear hGg
      have HF := Lib.hid (And.intro o1' (And.intro o2' (And.intro k' (And.intro k0' hbl))))
      clear hI hI1 o1' o2' k0' hbl hN1 hN2 hg12
      obtain ⟨q0, q1, q2, q3⟩ := box_cells k'
      clear k'
      go_wp2_with fail
      have HFIN : Hid (ArcM (((((wr.setCell ⟨g2, 8, none⟩ (.int .i64 50)).setCell ⟨w.heap.size, 0, none⟩ (.int .i64 0)).setCell ⟨w.heap.size, 1, none⟩ (.int .i64 0)).setCell ⟨w.heap.size, 2, none⟩ (.slice (some ⟨g1, 0, none⟩) 24 p1)).setCell ⟨w.heap.size, 3, none⟩ (.slice (some ⟨g2, 0, none⟩) 24 p2)) busyA (some ⟨g1, 0, none⟩) (some ⟨g2, 0, none⟩) ∧ Below w.heap.size w (((((wr.setCell ⟨g2, 8, none⟩ (.int .i64 50)).setCell ⟨w.heap.size, 0, none⟩ (.int .i64 0)).setCell ⟨w.heap.size, 1, none⟩ (.int .i64 0)).setCell ⟨w.heap.size, 2, none⟩ (.slice (some ⟨g1, 0, none⟩) 24 p1)).setCell ⟨w.heap.size, 3, none⟩ (.slice (some ⟨g2, 0, none⟩) 24 p2))) := Lib.hid (by
        obtain ⟨a1, a2, _, _, a5⟩ := HF.out
        have hG1 := HGG.out
        have b1 := (((a1.put (G := w.heap.size) (o := 0) (.int .i64 0) (by omega)).put (G := w.heap.size) (o := 1) (.int .i64 0) (by omega)).put (G := w.heap.size) (o := 2) (.slice (some ⟨g1, 0, none⟩) 24 p1) (by omega)).put (G := w.heap.size) (o := 3) (.slice (some ⟨g2, 0, none⟩) 24 p2) (show w.heap.size < G + 1 by omega)
        have b2 := (((a2.put (G := w.heap.size) (o := 0) (.int .i64 0) (by omega)).put (G := w.heap.size) (o := 1) (.int .i64 0) (by omega)).put (G := w.heap.size) (o := 2) (.slice (some ⟨g1, 0, none⟩) 24 p1) (by omega)).put (G := w.heap.size) (o := 3) (.slice (some ⟨g2, 0, none⟩) 24 p2) (show w.heap.size < G + 1 by omega)
        obtain ⟨x1, y1, e1, i1⟩ := b1.ints
        obtain ⟨x2, y2, e2, i2⟩ := b2.ints
        injection e1 with e1 _ _
        injection e2 with e2 _ _
        subst e1; subst e2
        exact ⟨⟨i1, i2⟩, (((a5.setCell (Nat.le_refl _) _).setCell (Nat.le_refl _) _).setCell (Nat.le_refl _) _).setCell (Nat.le_refl _) _⟩)
      obtain ⟨V, hV⟩ : ∃ V, ((((wr.setCell ⟨g2, 8, none⟩ (.int .i64 50)).setCell ⟨w.heap.size, 0, none⟩ (.int .i64 0)).setCell ⟨w.heap.size, 1, none⟩ (.int .i64 0)).setCell ⟨w.heap.size, 2, none⟩ (.slice (some ⟨g1, 0, none⟩) 24 p1)).setCell ⟨w.heap.size, 3, none⟩ (.slice (some ⟨g2, 0, none⟩) 24 p2) = V := ⟨_, rfl⟩
      rw [hV] at HV HFIN ⊢
      clear hV HF
      obtain ⟨v0, v1, v2, v3⟩ := HV.out
      refine bodyPost_ret (v := .agg #[.int .i64 0, .int .i64 0, .slice (some ⟨g1, 0, none⟩) 24 p1, .slice (some ⟨g2, 0, none⟩) 24 p2]) (by simp [results, Try.results18, go_sem, v0, v1, v2, v3]) rfl ?_
      exact ⟨_, _, _, _, rfl, HFIN.out.1, HFIN.out.2⟩

end Go.Proofs.Ytbojonafadhciaa
