/- Walks: reach. -/
import Derived.Test.YteiojobgjdfdpaaQh
namespace Go.Proofs.Yteiojobgjdfdpaa
open Go.RowKit Go.Sort

theorem ownsRow_fr {w w' : World} {S : Nat → Prop} {B k g c sz : Nat} {e : TypeId} {xs : List Value} (h : w.ownsRow B e sz (.slice (some ⟨g, 0, none⟩) k c) k xs) (hf : Fr S w w') (hn : ¬ S g) : w'.ownsRow B e sz (.slice (some ⟨g, 0, none⟩) k c) k xs := by
  have hlt := (World.ownsRow.lt h g rfl).2
  refine ⟨h.1, ?_⟩
  rcases h.2 with ⟨hv, _⟩ | ⟨g', cap, cur, hv, hb, hg, r⟩
  · cases hv
  · have hv' := hv
    injection hv' with e1 e2 e3
    injection e1 with e1
    injection e1 with e1
    subst e1
    exact .inr ⟨g, cap, cur, hv, hb, (hf.2.2.2.2 g hlt hn).trans hg, r⟩
theorem SAt.qfr {w w' : World} {N G gl gd n : Nat} {bk : Bool} {lab : List Lb} {dn : List Nat} {v v' : Value} {q q' : List En} (h : SAt w N G gl gd n bk lab dn v q) (hf : Fr (QB G v) w w') (hs : Srch w' G bk (.slice (some ⟨gl, 0, none⟩) n n) (.slice (some ⟨gd, 0, none⟩) n n) v') (ho : OwnQ w' (G + 1) v' q') (hh : Heap q' q'.length) : SAt w' N G gl gd n bk lab dn v' q' := by
  have lo := h.lo
  have hn : ∀ g, g < G → ¬ QB G v g := fun g hg hq => by
    rcases hq with e | e
    · omega
    · have := (World.ownsRow.lt h.oq g e).1
      omega
  exact ⟨hs, h.len, ownsRow_fr h.l hf (hn _ lo.1), ownsRow_fr h.d hf (hn _ lo.2.1), ho, hh, lo⟩

set_option maxRecDepth 100000 in
set_option maxHeartbeats 8000000 in
theorem reach_no (N G gl gd n : Nat) (bk : Bool) (lab : List Lb) (dn : List Nat) (v : Value) (q : List En) (k : Nat) (t i : Int) (w : World) (h : SAt w N G gl gd n bk lab dn v q) (hk : k < n)
    (h8 : -9000000000000000000 ≤ t) (h9 : t ≤ 9000000000000000000) (hl : -9000000000000000000 ≤ (lb lab k).1 ∧ (lb lab k).1 ≤ 9000000000000000000) (hc : ¬ (IsT t ∧ k ∉ dn ∧ bet bk (t, i) (lb lab k))) :
    Calls Try.prog 40 #[.pointer (some ⟨G, 0, none⟩), .int .i64 k, .int .i64 t, .int .i64 i] w fun e w' => e = .returned (.tuple #[]) ∧ Below w.heap.size w w' := by
  obtain ⟨W, hW⟩ : ∃ W, w.alloc (.cells #[.int .i64 t, .int .i64 i] 37) = W := ⟨_, rfl⟩
  have hB : Below w.heap.size w W := by rw [← hW]; exact (Below.refl _ _).alloc (Nat.le_refl _) _
  have b1 : Blk W w.heap.size 37 #[.int .i64 t, .int .i64 i] := by rw [← hW]; exact Blk.new w _ _
  have hW1 := h.below hB
  have x1 := cell_regrown (show W.cell? ⟨w.heap.size, 0, none⟩ = some (.int .i64 t) from b1.cell 0)
  have x2 := cell_regrown (show W.cell? ⟨w.heap.size, 1, none⟩ = some (.int .i64 i) from b1.cell 1)
  have x3 := cell_regrown (show W.cell? ⟨G, 1, none⟩ = some (.slice (some ⟨gl, 0, none⟩) n n) from hW1.s.cell 1)
  have x4 := cell_regrown (show W.cell? ⟨G, 2, none⟩ = some (.slice (some ⟨gd, 0, none⟩) n n) from hW1.s.cell 2)
  have x5 := cell_regrown (hW1.settled hk)
  have x6 := cell_regrown (hW1.labels hk).1
  have x7 := cell_regrown (hW1.labels hk).2
  obtain ⟨r1, hr1⟩ : ∃ r, decide (IsT t) = r := ⟨_, rfl⟩
  obtain ⟨r2, hr2⟩ : ∃ r, decide (k ∈ dn) = r := ⟨_, rfl⟩
  obtain ⟨r3, hr3⟩ : ∃ r, decide (bet bk (t, i) ((lb lab k).1, (lb lab k).2)) = r := ⟨_, rfl⟩
  rw [hr2] at x5
  have p4 : W.cell? ⟨G, 2, none⟩ = some (.slice (some ⟨gd, 0, none⟩) n n) := hW1.s.cell 2
  have p5 := hW1.settled hk
  rw [hr2] at p5
  have hcc : r1 = false ∨ r2 = true ∨ (r1 = true ∧ r2 = false ∧ r3 = false) := by
    subst hr1; subst hr2; subst hr3
    by_cases c1 : IsT t
    · by_cases c2 : k ∈ dn
      · exact .inr (.inl (decide_eq_true c2))
      · exact .inr (.inr ⟨decide_eq_true c1, decide_eq_false c2, decide_eq_false (fun c3 => hc ⟨c1, c2, c3⟩)⟩)
    · exact .inl (decide_eq_false c1)
  have q1 : ∀ d os, Calls Try.prog 35 #[.int .i64 t] (grow (redrawn W d) os) fun e w'' => e = .returned (.bool r1) ∧ ∃ p : Regrown, w'' = grow (redrawn W p.d) p.os := fun d os => Calls.regrown_of ((isTime2_any t _ r1 hr1.symm).mono (R' := fun e w' => e = .returned (.bool r1) ∧ Below _ _ w') (by rintro e w' ⟨rfl, rfl⟩; exact ⟨rfl, Below.refl _ _⟩))
  have q2 : ∀ d os, Calls Try.prog 68 #[.pointer (some ⟨G, 0, none⟩), .agg #[.int .i64 t, .int .i64 i], .agg #[.int .i64 (lb lab k).1, .int .i64 (lb lab k).2]] (grow (redrawn W d) os) fun e w'' => e = .returned (.bool r3) ∧ ∃ p : Regrown, w'' = grow (redrawn W p.d) p.os :=
    fun d os => Calls.regrown_of (isBetter_any G bk t i _ _ _ (cell_regrown (show W.cell? ⟨G, 0, none⟩ = some (.bool bk) from hW1.s.cell 0) d os) h8 h9 hl.1 hl.2 r3 hr3)
  obtain ⟨t0, ht0⟩ : ∃ x, (lb lab k).1 = x := ⟨_, rfl⟩
  obtain ⟨i0, hi0⟩ : ∃ x, (lb lab k).2 = x := ⟨_, rfl⟩
  rw [ht0] at x6 q2
  rw [hi0] at x7 q2
  have S1 := Lib.hid (fun d => (isTime2_any t (W.drewN d) r1 hr1.symm).mono (R' := fun e w' => e = .returned (.bool r1) ∧ w' = W.drewN d) (fun _ _ ⟨a, b⟩ => ⟨a, b.symm⟩))
  have Q1 := Lib.hid q1; clear q1
  have Q2 := Lib.hid q2; clear q2
  have HB := Lib.hid hB; clear hB
  clear hr1 hr2 hr3 ht0 hi0 b1 hW1 h hc hl
  go_enter Try.func40, Try.ntmps40
  go_upto_region 1 with fail
  clear hW
  rcases hcc with rfl | rfl | ⟨rfl, rfl, rfl⟩
  · go_quiet ((go_at_call 35; with_reducible exact Calls.quiet_of_same (S1.out _)))
    go_wp2_with fail
    refine bodyPost_ret (results_none rfl _ _ _) rfl ?_
    exact ⟨by rfl, below_drewN HB.out _⟩
  · clear Q1 Q2 x1 x2 x3 x4 x5 x6 x7
    cases r1 with
    | false =>
      go_quiet ((go_at_call 35; with_reducible exact Calls.quiet_of_same (S1.out _)))
      go_wp2_with fail
      refine bodyPost_ret (results_none rfl _ _ _) rfl ?_
      exact ⟨by rfl, below_drewN HB.out _⟩
    | true =>
      go_quiet ((go_at_call 35; with_reducible exact Calls.quiet_of_same (S1.out _)))
      go_wp2_with fail
      refine bodyPost_ret (results_none rfl _ _ _) rfl ?_
      exact ⟨by rfl, below_drewN HB.out _⟩
  · clear p4 p5 S1
    refine wp_region_quiet_below (by kernel_rfl) (by kernel_rfl) ?_
    iterate 25 (quiet_step (first | (go_at_call 35; with_reducible exact Q1.out _ _) | (go_at_call 68; with_reducible exact Q2.out _ _)))
    refine wpQuiet_nil ?_
    intro w6 hw6
    have HB6 := Lib.hid (show Go.RowKit.Below W.heap.size W w6 by obtain ⟨p, rfl⟩ := hw6; exact below_regrown W p.d p.os)
    clear hw6 x1 x2 x3 x4 x5 x6 x7 Q1 Q2
    go_wp2_with fail
    refine bodyPost_ret (results_none rfl _ _ _) rfl ?_
    exact ⟨by rfl, HB.out.trans (HB6.out.mono HB.out.size)⟩

set_option maxRecDepth 100000 in
set_option maxHeartbeats 8000000 in
theorem reach_yes (N G gl gd n : Nat) (bk : Bool) (lab : List Lb) (dn : List Nat) (v : Value) (q : List En) (k : Nat) (t i : Int) (w : World) (h : SAt w N G gl gd n bk lab dn v q) (hk : k < n)
    (h8 : -9000000000000000000 ≤ t) (h9 : t ≤ 9000000000000000000) (hl : -9000000000000000000 ≤ (lb lab k).1 ∧ (lb lab k).1 ≤ 9000000000000000000) (hc : IsT t ∧ k ∉ dn ∧ bet bk (t, i) (lb lab k)) (hq9 : q.length ≤ 800000) :
    Calls Try.prog 40 #[.pointer (some ⟨G, 0, none⟩), .int .i64 k, .int .i64 t, .int .i64 i] w (ReachP w N G gl gd n bk lab dn v q k t i) := by
  obtain ⟨W, hW⟩ : ∃ W, w.alloc (.cells #[.int .i64 t, .int .i64 i] 37) = W := ⟨_, rfl⟩
  have hB : Below w.heap.size w W := by rw [← hW]; exact (Below.refl _ _).alloc (Nat.le_refl _) _
  have b1 : Blk W w.heap.size 37 #[.int .i64 t, .int .i64 i] := by rw [← hW]; exact Blk.new w _ _
  have hW1 := h.below hB
  have x1 := cell_regrown (show W.cell? ⟨w.heap.size, 0, none⟩ = some (.int .i64 t) from b1.cell 0)
  have x2 := cell_regrown (show W.cell? ⟨w.heap.size, 1, none⟩ = some (.int .i64 i) from b1.cell 1)
  have x3 := cell_regrown (show W.cell? ⟨G, 1, none⟩ = some (.slice (some ⟨gl, 0, none⟩) n n) from hW1.s.cell 1)
  have x4 := cell_regrown (show W.cell? ⟨G, 2, none⟩ = some (.slice (some ⟨gd, 0, none⟩) n n) from hW1.s.cell 2)
  have x5 := cell_regrown (hW1.settled hk)
  have x6 := cell_regrown (hW1.labels hk).1
  have x7 := cell_regrown (hW1.labels hk).2
  obtain ⟨r1, hr1⟩ : ∃ r, decide (IsT t) = r := ⟨_, rfl⟩
  obtain ⟨r2, hr2⟩ : ∃ r, decide (k ∈ dn) = r := ⟨_, rfl⟩
  obtain ⟨r3, hr3⟩ : ∃ r, decide (bet bk (t, i) ((lb lab k).1, (lb lab k).2)) = r := ⟨_, rfl⟩
  rw [hr2] at x5
  obtain ⟨e1, e2, e3⟩ : r1 = true ∧ r2 = false ∧ r3 = true := ⟨hr1 ▸ decide_eq_true hc.1, hr2 ▸ decide_eq_false hc.2.1, hr3 ▸ decide_eq_true hc.2.2⟩
  have q1 : ∀ d os, Calls Try.prog 35 #[.int .i64 t] (grow (redrawn W d) os) fun e w'' => e = .returned (.bool r1) ∧ ∃ p : Regrown, w'' = grow (redrawn W p.d) p.os := fun d os => Calls.regrown_of ((isTime2_any t _ r1 hr1.symm).mono (R' := fun e w' => e = .returned (.bool r1) ∧ Below _ _ w') (by rintro e w' ⟨rfl, rfl⟩; exact ⟨rfl, Below.refl _ _⟩))
  have q2 : ∀ d os, Calls Try.prog 68 #[.pointer (some ⟨G, 0, none⟩), .agg #[.int .i64 t, .int .i64 i], .agg #[.int .i64 (lb lab k).1, .int .i64 (lb lab k).2]] (grow (redrawn W d) os) fun e w'' => e = .returned (.bool r3) ∧ ∃ p : Regrown, w'' = grow (redrawn W p.d) p.os :=
    fun d os => Calls.regrown_of (isBetter_any G bk t i _ _ _ (cell_regrown (show W.cell? ⟨G, 0, none⟩ = some (.bool bk) from hW1.s.cell 0) d os) h8 h9 hl.1 hl.2 r3 hr3)
  obtain ⟨t0, ht0⟩ : ∃ x, (lb lab k).1 = x := ⟨_, rfl⟩
  obtain ⟨i0, hi0⟩ : ∃ x, (lb lab k).2 = x := ⟨_, rfl⟩
  rw [ht0] at x6 q2
  rw [hi0] at x7 q2
  have Q1 := Lib.hid q1; clear q1
  have Q2 := Lib.hid q2; clear q2
  have HB := Lib.hid hB; clear hB
  have HW := Lib.hid hW1
  have HC := Lib.hid hc
  have HB1 := Lib.hid b1
  have HH := Lib.hid h
  clear hr1 hr2 hr3 ht0 hi0 b1 hW1 h hc hl
  subst e1; subst e2; subst e3
  go_enter Try.func40, Try.ntmps40
  go_upto_region 1 with fail
  clear hW
  refine wp_region_quiet_below (by kernel_rfl) (by kernel_rfl) ?_
  iterate 25 (quiet_step (first | (go_at_call 35; with_reducible exact Q1.out _ _) | (go_at_call 68; with_reducible exact Q2.out _ _)))
  refine wpQuiet_nil ?_
  intro w6 hw6
  have HB6 := Lib.hid (show Go.RowKit.Below W.heap.size W w6 by obtain ⟨p, rfl⟩ := hw6; exact below_regrown W p.d p.os)
  clear hw6 x1 x2 x3 x4 x5 x6 x7 Q1 Q2
  have H6 := HW.out.below HB6.out
  have b6 := HB1.out.below HB6.out HB1.out.lt
  have y1 : w6.cell? ⟨w.heap.size, 0, none⟩ = some (.int .i64 t) := b6.cell 0
  have y2 : w6.cell? ⟨w.heap.size, 1, none⟩ = some (.int .i64 i) := b6.cell 1
  have y3 : w6.cell? ⟨G, 1, none⟩ = some (.slice (some ⟨gl, 0, none⟩) n n) := H6.s.cell 1
  obtain ⟨y4, y5⟩ := H6.labels hk
  have y6 : w6.frozen? ⟨gl, k * 2, none⟩ = false := World.ownsRow.frozenAt H6.l _
  have y7 : w6.frozen? ⟨gl, k * 2 + 1, none⟩ = false := World.ownsRow.frozenAt H6.l _
  have HP := Lib.hid (H6.put hk (t, i))
  clear b6 H6
  go_wp2_with fail
  go_region
  all_goals
    have HFr : Hid (Fr (SB G gl gd v) w (st2 w6 gl k (t, i)).drew) := Lib.hid (((Fr.of_below HB.out).tr (Fr.of_below HB6.out)).tr (Fr.st2 _ w6 gl k (t, i) (.inr (.inl rfl)))).drew
    have HS7 : Hid (SAt (st2 w6 gl k (t, i)).drew N G gl gd n bk (lab.set k (t, i)) dn v q) := Lib.hid (HP.out.below (Below.refl _ _).drew)
    obtain ⟨W7, hW7⟩ : ∃ W7, ((w6.setCell ⟨gl, k * 2, none⟩ (.int .i64 t)).setCell ⟨gl, k * 2 + 1, none⟩ (.int .i64 i)).drew = W7 := ⟨_, rfl⟩
    have hW7' : (st2 w6 gl k (t, i)).drew = W7 := hW7
    rw [hW7'] at HFr HS7
    rw [hW7]
    clear hW7 hW7' y1 y2 y3 y4 y5 y6 y7 HP
    have hG7 : W7.cell? ⟨G, 0, none⟩ = some (.bool bk) := HS7.out.s.cell 0
    have C1 := Lib.hid (fun w8 h => cost_any G bk t w8 h h8 h9)
    obtain ⟨c, hc⟩ : ∃ c, cst bk t = c := ⟨_, rfl⟩
    have C2 := Lib.hid (fun w8 a b => heapPush_any q G bk (.slice (some ⟨gl, 0, none⟩) n n) (.slice (some ⟨gd, 0, none⟩) n n) v c k w8 a b (by omega) HS7.out.hp)
    rw [hc] at C1
    have HC2 := Lib.hid hc; clear hc
    go_wp2_with fail
    go_region_held3 (fun _ => True) (trivial)
      (first
        | (go_at_call 70; refine (C1.out _ (by exact hG7)).mono ?_; rintro e w8 ⟨rfl, rfl⟩)
        | (go_at_call 69; refine (C2.out _ (by exact HS7.out.s) (by exact HS7.out.oq)).mono ?_; rintro e w8 ⟨rfl, v8, q8, hs8, ho8, hl8, hh8, hm8, hf8, ha8⟩))
    all_goals
      go_wp2_with fail
      go_end0
      have hf8' : Fr (QB G v) W7 w8 := hf8
      refine ⟨by rfl, v8, q8, ?_, by omega, fun y => (hm8 y).trans ?_, HFr.out.trans hf8' (fun b h => h) (fun b _ h => ?_), ?_⟩
      · rw [if_pos HC.out]
        exact HS7.out.qfr hf8' hs8 ho8 (by rw [hl8]; exact hh8)
      · rw [HC2.out]
        exact ⟨fun h => h.elim .inl (fun e => .inr ⟨HC.out, e⟩), fun h => h.elim .inl (fun e => .inr e.2)⟩
      · rcases h with h | h
        · exact .inl h
        · exact .inr (.inr (.inr h))
      · rcases ha8 with h | ⟨b, h, h'⟩
        · exact .inl h
        · exact .inr ⟨b, h, Nat.le_trans HFr.out.size h'⟩

theorem reach_any (N G gl gd n : Nat) (bk : Bool) (lab : List Lb) (dn : List Nat) (v : Value) (q : List En) (k : Nat) (t i : Int) (w : World) (h : SAt w N G gl gd n bk lab dn v q) (hk : k < n)
    (h8 : -9000000000000000000 ≤ t) (h9 : t ≤ 9000000000000000000) (hl : -9000000000000000000 ≤ (lb lab k).1 ∧ (lb lab k).1 ≤ 9000000000000000000) (hq9 : q.length ≤ 800000) :
    Calls Try.prog 40 #[.pointer (some ⟨G, 0, none⟩), .int .i64 k, .int .i64 t, .int .i64 i] w (ReachP w N G gl gd n bk lab dn v q k t i) := by
  by_cases hc : IsT t ∧ k ∉ dn ∧ bet bk (t, i) (lb lab k)
  · exact reach_yes N G gl gd n bk lab dn v q k t i w h hk h8 h9 hl hc hq9
  · refine (reach_no N G gl gd n bk lab dn v q k t i w h hk h8 h9 hl hc).mono ?_
    rintro e w' ⟨rfl, hb⟩
    exact ⟨rfl, v, q, by rw [if_neg hc]; exact h.below hb, by omega, fun y => ⟨.inl, fun h => h.elim id (fun h => absurd h.1 hc)⟩, Fr.of_below hb, .inl rfl⟩

end Go.Proofs.Yteiojobgjdfdpaa
