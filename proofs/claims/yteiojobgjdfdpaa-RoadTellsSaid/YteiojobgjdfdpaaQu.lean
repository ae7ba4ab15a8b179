/- Walks: group. -/
import Derived.Test.YteiojobgjdfdpaaQk
import Derived.Deep.RegionLaw
namespace Go.Proofs.Yteiojobgjdfdpaa
open Go.RowKit

set_option maxRecDepth 100000 in
theorem tEnd_any (x : Am) (w : World) :
    Calls Try.prog 43 #[x.v] w fun e w' => e = .returned (.int .i64 x.a.t) ∧ Below w.heap.size w w' := by
  obtain ⟨⟨f, t, lo, hi⟩, A, c, A', c'⟩ := x
  go_enter Try.func43, Try.ntmps43
  go_wp2_with fail
  go_ret
  exact ⟨by rfl, (Below.refl _ _).alloc (Nat.le_refl _) _⟩

def tF (s : Nat → Nat) (k u : Nat) : List Int := ((List.range k).filter (fun i => decide (s i = u))).map (fun i : Nat => (i : Int))
theorem tF_succ (s : Nat → Nat) (k u : Nat) : tF s (k + 1) u = if u = s k then tF s k (s k) ++ [(k : Int)] else tF s k u := by
  unfold tF
  rw [List.range_succ, List.filter_append, List.map_append]
  by_cases h : u = s k
  · rw [if_pos h]; subst h; simp
  · rw [if_neg h]
    have : decide (s k = u) = false := decide_eq_false (fun e => h e.symm)
    simp [this]
theorem tF_len (s : Nat → Nat) (k u : Nat) : (tF s k u).length ≤ k := by
  unfold tF
  rw [List.length_map]
  exact Nat.le_trans (List.length_filter_le _ _) (by simp)
def tGrpP (w : World) (n m : Nat) (s : Nat → Nat) (e : Ending) (w' : World) : Prop :=
  ∃ gg, e = .returned (.slice (some ⟨gg, 0, none⟩) n n) ∧ GrpAt w' w.heap.size gg n (tF s m) ∧ w.heap.size ≤ gg ∧ Below w.heap.size w w'
set_option maxRecDepth 100000 in
set_option maxHeartbeats 8000000 in
theorem tGroup_any (n m c : Nat) (A : Option Addr) (l : List Am) (s : Nat → Nat) (w : World) (hl : l.length = m) (hA : ArcsAt w.heap.size w A l) (hs : ∀ k, k < m → (am l k).a.t = (s k : Int) ∧ s k < n) (hn9 : n ≤ 100000) (hm9 : m ≤ 100000) :
    Calls Try.prog 36 #[.int .i64 n, .slice A m c, .func (.func 43) #[] #[]] w (tGrpP w n m s) := by
  have h1 := run_mkG n hn9
  have HA := Lib.hid (And.intro hl (And.intro hA hs)); clear hl hA hs
  go_enter Try.func36, Try.ntmps36
  go_wp2_with fail
  clear h1
  go_loopw [14] (fun iv wr => ∃ i : Nat, iv = .int .i64 i ∧ i ≤ m ∧ Hid (GrpAt wr w.heap.size w.heap.size n (tF s i)) ∧ Hid (Below w.heap.size w wr)) (fun iv _ => m - (intOf iv).toNat)
  case atStart => exact ⟨0, rfl, by omega, Lib.hid (by have := GrpAt.start w w.heap.size n; exact this), Lib.hid ((Below.refl _ _).alloc (Nat.le_refl _) _)⟩
  case round =>
    obtain ⟨i, rfl, hi, hG, hB⟩ := hrel
    by_cases hgo : i < m
    · obtain ⟨b, off, hAe, hbB, k0, k1, k2, k3, kl, kh⟩ := (HA.out.2.1.below hB.out) i (by rw [HA.out.1]; exact hgo)
      subst hAe
      obtain ⟨hsi, hsn⟩ := HA.out.2.2 i hgo
      have HE := Lib.hid (tEnd_any (am l i))
      obtain ⟨x, hx⟩ : ∃ x, am l i = x := ⟨_, rfl⟩
      rw [hx] at HE hsi k0 k1 k2 k3 kl kh
      clear hx
      obtain ⟨⟨f, t, lo, hi2⟩, A1, c1, A2, c2⟩ := x
      simp only at HE hsi k0 k1 k2 k3 kl kh
      rw [hsi] at HE k1
      obtain ⟨u, hu⟩ : ∃ u, s i = u := ⟨_, rfl⟩
      rw [hu] at HE hsn k1
      have HU := Lib.hid hu; clear hu hsi kl kh
      have hwr : w.heap.size ≤ wr.heap.size := hB.out.size
      obtain ⟨n1, hn1⟩ : ∃ n1, lo.length = n1 := ⟨_, rfl⟩
      obtain ⟨n2, hn2⟩ : ∃ n2, hi2.length = n2 := ⟨_, rfl⟩
      rw [hn1] at k2
      rw [hn2] at k3
      simp only [Am.v, hn1, hn2] at HE
      clear hn1 hn2
      obtain ⟨vs, hV⟩ := hG.out
      have hwr2 := hV.k.lt
      have K1 := Blk.new wr 39 #[.int .i64 f, .int .i64 u, .slice A1 n1 c1, .slice A2 n2 c2]
      have V1 := hV.alloc (.cells #[.int .i64 f, .int .i64 u, .slice A1 n1 c1, .slice A2 n2 c2] 39)
      have HB1 : Hid (Below w.heap.size w (wr.alloc (.cells #[.int .i64 f, .int .i64 u, .slice A1 n1 c1, .slice A2 n2 c2] 39))) := Lib.hid (hB.out.alloc hwr _)
      go_upto_region 5 with fail
      obtain ⟨g9, hg9⟩ : ∃ g9, wr.heap.size = g9 := ⟨_, rfl⟩
      rw [hg9] at K1 hwr hwr2 ⊢
      generalize wr.alloc (.cells #[.int .i64 f, .int .i64 u, .slice A1 n1 c1, .slice A2 n2 c2] 39) = W1 at *
      clear hg9 hG hB hV k0 k1 k2 k3
      have hggl := V1.k.lt
      have hown1 := V1.o u hsn
      have c1' : W1.cell? ⟨w.heap.size, u, none⟩ = some (vs u) := V1.cell hsn
      have HV1 := Lib.hid V1; clear V1
      have hflen : (tF s i u).length ≤ 1000000 := by have := tF_len s i u; omega
      have h9l := K1.lt
      have hNl : w.heap.size ≤ W1.heap.size := by omega
      have HO1 := Lib.hid hown1; clear hown1
      obtain ⟨b10, b11, b12, b13⟩ := box_cells K1
      go_region_law
        (first
          | (go_simp; go_at_call 43; refine (HE.out _).mono ?_; rintro e w4 ⟨rfl, hb4⟩; have hB4 : Below W1.heap.size W1 w4 := (by first | exact hB2.trans (hb4.mono hB2.size) | exact (hB2.alloc hB2.size _).trans (hb4.mono (by have := hB2.size; simp; omega))); have K3 := K1.below hB4 h9l; have h9l4 := K3.lt; have c4' : w4.cell? ⟨w.heap.size, u, none⟩ = some (vs u) := (hB4.cell (p := ⟨w.heap.size, u, none⟩) hggl).trans c1'; (try (have L4 : Blk w4 W1.heap.size 3 #[.int .i64 i] := L2.below hb4 L2.lt)); (try (have L6 : Blk w4 w2.heap.size 3 #[.int .i64 i] := Blk.below (w := w2.alloc (.cells #[.int .i64 i] 3)) (Blk.new w2 _ _) hb4 (by simp))); have hggl4 := Nat.lt_of_lt_of_le hggl hB4.size)
          | (go_simp; go_at_call 43; refine (HE.out _).mono ?_; rintro e w2 ⟨rfl, hb2⟩; have hB2 : Below W1.heap.size W1 w2 := (by first | exact (Below.refl W1.heap.size W1).drew.trans hb2 | exact ((Below.refl W1.heap.size W1).alloc (Nat.le_refl _) _).drew.trans (hb2.mono (by simp))); have K2 := K1.below hB2 h9l; obtain ⟨b20, b21, b22, b23⟩ := box_cells K2; have h9l2 := K2.lt; have hggl2 := Nat.lt_of_lt_of_le hggl hB2.size; have c2' : w2.cell? ⟨w.heap.size, u, none⟩ = some (vs u) := (hB2.cell (p := ⟨w.heap.size, u, none⟩) hggl).trans c1'; (try (have L2 : Blk w2 W1.heap.size 3 #[.int .i64 i] := Blk.below (w := (W1.alloc (.cells #[.int .i64 i] 3)).drew) (Blk.new W1 _ _) hb2 (by simp))))
          | (refine step_appI rfl (.tmp 28) (.tmp 30) rfl w.heap.size (vs u) (tF s i u) i w4.heap.size ?hs ?ho ?hx ?hc hflen ?hB ?_; (case hs => exact rfl); (case hx => (simp [Act.eval]; done)); (case hc => exact (Blk.new w4 3 #[.int .i64 i]).cell 0); (case ho => exact (World.ownsRow.alloc (HO1.out.below hB4) (.cells #[.int .i64 i] 3))); (case hB => (have := hB4.size; simp; omega)); intro v5 w5 ho5 hg5 hat5; have HA5 := Lib.hid (GrpV.app ((HV1.out.below hB4).alloc (.cells #[.int .i64 i] 3)) hsn ho5 hg5 hat5); have K5 : Blk w5 g9 39 #[.int .i64 f, .int .i64 u, .slice A1 n1 c1, .slice A2 n2 c2] := (hg5.block g9 (by have := K3.lt; simp; omega) (fun e => (K3.not_own (by decide) (HO1.out.below hB4)) e.symm)).trans (K3.alloc (.cells #[.int .i64 i] 3)); have k5 := GrpV.grown ((HV1.out.below hB4).alloc (.cells #[.int .i64 i] 3)) hsn hg5; have c5' : w5.cell? ⟨w.heap.size, u, none⟩ = some (vs u) := (World.cell?_of_block (a := ⟨w.heap.size, u, none⟩) (k5.trans (GrpV.k ((HV1.out.below hB4).alloc (.cells #[.int .i64 i] 3))).symm)).trans (GrpV.cell ((HV1.out.below hB4).alloc (.cells #[.int .i64 i] 3)) hsn); have f5' := k5.frozen u; obtain ⟨A5, d5, hv5⟩ := ho5.form; subst hv5; have hB5 := Lib.hid (((HB1.out.trans (hB4.mono hNl)).alloc (by have := hB4.size; omega) (.cells #[.int .i64 i] 3)).grown hg5 (by have := hB4.size; simp; omega) (fun k hk => (World.ownsRow.lt (HO1.out.below hB4) k hk).1)); have hgg5 := k5.lt; clear k5 ho5 hg5 hat5)
          | (refine step_appI rfl (.tmp 28) (.tmp 30) rfl w.heap.size (vs u) (tF s i u) i W1.heap.size ?hs ?ho ?hx ?hc hflen ?hB ?_; (case hs => exact rfl); (case hx => (simp [Act.eval]; done)); (case hc => exact (L4.cell 0)); (case ho => exact (HO1.out.below hB4)); (case hB => (have := hB4.size; simp; omega)); intro v5 w5 ho5 hg5 hat5; have HA5 := Lib.hid (GrpV.app (HV1.out.below hB4) hsn ho5 hg5 hat5); have K5 : Blk w5 g9 39 #[.int .i64 f, .int .i64 u, .slice A1 n1 c1, .slice A2 n2 c2] := (hg5.block g9 (by have := K3.lt; simp; omega) (fun e => (K3.not_own (by decide) (HO1.out.below hB4)) e.symm)).trans K3; have k5 := GrpV.grown (HV1.out.below hB4) hsn hg5; have c5' : w5.cell? ⟨w.heap.size, u, none⟩ = some (vs u) := (World.cell?_of_block (a := ⟨w.heap.size, u, none⟩) (k5.trans (GrpV.k (HV1.out.below hB4)).symm)).trans (GrpV.cell (HV1.out.below hB4) hsn); have f5' := k5.frozen u; obtain ⟨A5, d5, hv5⟩ := ho5.form; subst hv5; have hB5 := Lib.hid ((HB1.out.trans (hB4.mono hNl)).grown hg5 (by have := hB4.size; simp; omega) (fun k hk => (World.ownsRow.lt (HO1.out.below hB4) k hk).1)); have hgg5 := k5.lt; clear k5 ho5 hg5 hat5)
          | (refine step_appI rfl (.tmp 28) (.tmp 30) rfl w.heap.size (vs u) (tF s i u) i w2.heap.size ?hs ?ho ?hx ?hc hflen ?hB ?_; (case hs => exact rfl); (case hx => (simp [Act.eval]; done)); (case hc => exact (L6.cell 0)); (case ho => exact (HO1.out.below hB4)); (case hB => (have := hB4.size; simp; omega)); intro v5 w5 ho5 hg5 hat5; have HA5 := Lib.hid (GrpV.app (HV1.out.below hB4) hsn ho5 hg5 hat5); have K5 : Blk w5 g9 39 #[.int .i64 f, .int .i64 u, .slice A1 n1 c1, .slice A2 n2 c2] := (hg5.block g9 (by have := K3.lt; simp; omega) (fun e => (K3.not_own (by decide) (HO1.out.below hB4)) e.symm)).trans K3; have k5 := GrpV.grown (HV1.out.below hB4) hsn hg5; have c5' : w5.cell? ⟨w.heap.size, u, none⟩ = some (vs u) := (World.cell?_of_block (a := ⟨w.heap.size, u, none⟩) (k5.trans (GrpV.k (HV1.out.below hB4)).symm)).trans (GrpV.cell (HV1.out.below hB4) hsn); have f5' := k5.frozen u; obtain ⟨A5, d5, hv5⟩ := ho5.form; subst hv5; have hB5 := Lib.hid ((HB1.out.trans (hB4.mono hNl)).grown hg5 (by have := hB4.size; simp; omega) (fun k hk => (World.ownsRow.lt (HO1.out.below hB4) k hk).1)); have hgg5 := k5.lt; clear k5 ho5 hg5 hat5))
      all_goals
        go_wp2_with fail
        have HF : Hid (GrpAt (w5.setCell ⟨w.heap.size, u, none⟩ (.slice A5 (tF s i u).length.succ d5)) w.heap.size w.heap.size n (tF s (i + 1))) := Lib.hid (by
          have := HA5.out
          rw [show (tF s i u ++ [(i : Int)]).length = (tF s i u).length.succ by simp] at this
          refine (show (fun k => if k = u then tF s i u ++ [(i : Int)] else tF s i k) = tF s (i + 1) from ?_) ▸ this
          funext k
          rw [tF_succ, HU.out])
        have HB6 := Lib.hid (hB5.out.setCell (p := ⟨w.heap.size, u, none⟩) (Nat.le_refl _) (.slice A5 (tF s i u).length.succ d5))
        clear HA5 hB5 K1 K2 K3 K5 HE HV1 HO1
        go_roundw
        case rel => exact ⟨i + 1, rfl, by omega, HF, HB6⟩
        case measure => simp [intOf]; omega
    · have e : i = m := by omega
      subst e
      go_wp2_with fail
      go_ret
      exact ⟨_, by rfl, hG.out, Nat.le_refl _, hB.out⟩

end Go.Proofs.Yteiojobgjdfdpaa
