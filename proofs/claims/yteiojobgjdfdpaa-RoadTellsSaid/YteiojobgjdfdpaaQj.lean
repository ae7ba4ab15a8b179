/- Walks: begin. -/
import Derived.Test.YteiojobgjdfdpaaQi
import Derived.Laws.MakeOwn
namespace Go.Proofs.Yteiojobgjdfdpaa
open Go.RowKit

theorem Try.infoLb : (Try.prog.info? 37).map (fun i => (i.zero, i.size, i.bytes)) = some (some (.agg #[.int .i64 0, .int .i64 0]), 2, 16) := by kernel_rfl
theorem Try.infoBo : (Try.prog.info? 4).map (fun i => (i.zero, i.size, i.bytes)) = some (some (.bool false), 1, 1) := by kernel_rfl
abbrev zL (n : Nat) : List Lb := List.replicate n (0, 0)
theorem made_L (n : Nat) : madeCells (Value.agg #[.int .i64 0, .int .i64 0]).cells (n * 2) = (flat (zL n)).toArray := by
  apply Array.ext'
  unfold madeCells
  simp only [Value.cells]
  apply List.ext_getElem
  · simp [flat_len]
  · intro i h1 h2
    have hi : i < n * 2 := by simpa using h1
    have hz : gq (zL n) (i / 2) = (0, 0) := by
      unfold gq
      rw [List.getD_eq_getElem?_getD, List.getElem?_replicate, if_pos (by omega)]; rfl
    obtain ⟨g1, g2⟩ := flat_get (zL n) (i / 2) (by simp; omega)
    rw [hz] at g1 g2
    have hi2 : i % 2 = 0 ∨ i % 2 = 1 := by omega
    have he : (flat (zL n))[i]? = some (.int .i64 0) := by
      rcases hi2 with e | e
      · rw [show i / 2 * 2 = i by omega] at g1; exact g1
      · rw [show i / 2 * 2 + 1 = i by omega] at g2; exact g2
    have he2 : (flat (zL n))[i] = .int .i64 0 := by
      rw [List.getElem?_eq_getElem (by simpa using h2)] at he
      injection he
    rw [he2]
    rcases hi2 with e | e <;> simp [e]
theorem made_B (n : Nat) : madeCells (Value.bool false).cells n = (bools n []).toArray := by
  apply Array.ext'
  unfold madeCells bools
  simp only [Value.cells]
  apply List.ext_getElem
  · simp
  · intro i h1 h2
    simp [Nat.mod_one]
theorem run_mkL (n : Nat) (hm : n ≤ 100000) (w : World) : (Instr.makeSlice 23 (.int .i64 n) (.int .i64 n)).run Try.prog w = .ok (.slice (some ⟨w.heap.size, 0, none⟩) n n) (w.alloc (.cells (flat (zL n)).toArray 37)) := by
  obtain ⟨i0, hi, hz0, hz1, hz2⟩ := info_parts Try.infoLb
  have hr := run_make (P := Try.prog) w 23 37 i0 _ Try.underlying23 hi hz0 .i64 .i64 (n : Int) (n : Int) (by omega) (by omega) (by rw [hz2]; omega) (by omega)
  simp only [Int.toNat_natCast] at hr
  rw [hr, hz1, made_L]
theorem run_mkB (n : Nat) (hm : n ≤ 100000) (w : World) : (Instr.makeSlice 66 (.int .i64 n) (.int .i64 n)).run Try.prog w = .ok (.slice (some ⟨w.heap.size, 0, none⟩) n n) (w.alloc (.cells (bools n []).toArray 4)) := by
  obtain ⟨i0, hi, hz0, hz1, hz2⟩ := info_parts Try.infoBo
  have hr := run_make (P := Try.prog) w 66 4 i0 _ Try.underlying66 hi hz0 .i64 .i64 (n : Int) (n : Int) (by omega) (by omega) (by rw [hz2]; omega) (by omega)
  simp only [Int.toNat_natCast] at hr
  rw [hr, hz1, Nat.mul_one, made_B]
theorem sat_zero (w : World) (n : Nat) (hm : n ≤ 100000) (bk : Bool) (W : World) (G gl gd : Nat) (hs : Srch W G bk (.slice (some ⟨gl, 0, none⟩) n n) (.slice (some ⟨gd, 0, none⟩) n n) (.slice none 0 0)) (hl : Blk W gl 37 (flat (zL n)).toArray) (hd : Blk W gd 4 (bools n []).toArray) (h1 : w.heap.size ≤ gl) (h2 : w.heap.size ≤ gd) (lo : gl < G ∧ gd < G ∧ gl ≠ gd) :
    SAt W w.heap.size G gl gd n bk (zL n) [] (.slice none 0 0) [] := by
  refine ⟨hs, by simp, ⟨by rw [flat_len]; simp, .inr ⟨gl, n, _, rfl, h1, hl, Nat.le_refl _, by unfold maxLen; omega, by simp [flat_len], ?_⟩⟩, ⟨by simp [bools], .inr ⟨gd, n, _, rfl, h2, hd, Nat.le_refl _, by unfold maxLen; omega, by simp [bools], ?_⟩⟩, World.ownsRow_nil _ _ _ _, Heap.nil _, lo⟩
  · rw [List.take_of_length_le (by simp [flat_len])]
  · rw [List.take_of_length_le (by simp [bools])]

theorem begin_blocks (w : World) (t1 t2 t3 : TypeId) (c1 c2 c3 : Array Value) :
    Blk (((w.alloc (.cells c1 t1)).alloc (.cells c2 t2)).alloc (.cells c3 t3)).drew w.heap.size t1 c1 ∧ Blk (((w.alloc (.cells c1 t1)).alloc (.cells c2 t2)).alloc (.cells c3 t3)).drew (w.heap.size + 1) t2 c2 ∧
    Blk (((w.alloc (.cells c1 t1)).alloc (.cells c2 t2)).alloc (.cells c3 t3)).drew (w.heap.size + 1 + 1) t3 c3 := by
  have b2 := Blk.new (w.alloc (.cells c1 t1)) t2 c2
  have b3 := Blk.new ((w.alloc (.cells c1 t1)).alloc (.cells c2 t2)) t3 c3
  rw [World.size_alloc] at b2 b3
  rw [World.size_alloc] at b3
  exact ⟨((Blk.new w t1 c1).alloc _).alloc _, b2.alloc _, b3⟩
def BeginP (w : World) (n : Nat) (bk : Bool) (k : Nat) (t : Int) (e : Ending) (w' : World) : Prop :=
  ∃ G gl gd v q, e = .returned (.pointer (some ⟨G, 0, none⟩)) ∧ SAt w' w.heap.size G gl gd n bk ((List.replicate n ((-1, -1) : Lb)).set k (t, -1)) [] v q ∧ q.length ≤ 1 ∧ (∀ y, y ∈ q ↔ y = (cst bk t, (k : Int))) ∧ Below w.heap.size w w'
set_option maxRecDepth 100000 in
set_option maxHeartbeats 8000000 in
theorem begin_any (n : Nat) (bk : Bool) (k : Nat) (t : Int) (w : World) (hk : k < n) (hm : n ≤ 100000) (ht : IsT t) :
    Calls Try.prog 38 #[.int .i64 n, .int .i64 k, .int .i64 t, .bool bk] w (BeginP w n bk k t) := by
  have h1 := run_mkL n hm
  have h2 := run_mkB n hm
  go_enter Try.func38, Try.ntmps38
  go_wp2_with fail
  go_region
  · obtain ⟨W0, hW0⟩ : ∃ W0, (((w.alloc (.cells (flat (zL n)).toArray 37)).alloc (.cells (bools n []).toArray 4)).alloc (.cells #[.bool bk, .slice (some ⟨w.heap.size, 0, none⟩) n n, .slice (some ⟨w.heap.size + 1, 0, none⟩) n n, .slice none 0 0] 70)).drew = W0 := ⟨_, rfl⟩
    have HB : Hid (Below w.heap.size w W0) := Lib.hid (by rw [← hW0]; exact ((((Below.refl _ _).alloc (Nat.le_refl _) _).alloc (by simp) _).alloc (by simp; omega) _).drew)
    have kk := begin_blocks w 37 4 70 (flat (zL n)).toArray (bools n []).toArray #[.bool bk, .slice (some ⟨w.heap.size, 0, none⟩) n n, .slice (some ⟨w.heap.size + 1, 0, none⟩) n n, .slice none 0 0]
    rw [hW0] at kk ⊢
    have HS : Hid (SAt W0 w.heap.size (w.heap.size + 1 + 1) (w.heap.size) (w.heap.size + 1) n bk (zL n) [] (.slice none 0 0) []) := Lib.hid (sat_zero w n hm bk W0 _ _ _ kk.2.2 kk.1 kk.2.1 (by omega) (by omega) (by omega))
    clear kk hW0
    have a1 : W0.cell? ⟨w.heap.size + 1 + 1, 1, none⟩ = some (.slice (some ⟨w.heap.size, 0, none⟩) n n) := HS.out.s.cell 1
    go_wp2_with fail
    clear a1
    go_loopw [23] (fun iv wr => ∃ (i : Nat) (lab : List Lb), iv = .int .i64 i ∧ i ≤ n ∧ Hid (SAt wr w.heap.size (w.heap.size + 1 + 1) (w.heap.size) (w.heap.size + 1) n bk lab [] (.slice none 0 0) []) ∧ Hid (∀ j, j < i → lb lab j = (-1, -1)) ∧ Hid (Below w.heap.size w wr)) (fun iv _ => n - (intOf iv).toNat)
    case atStart => exact ⟨0, zL n, rfl, by omega, HS, Lib.hid (fun j hj => by omega), HB⟩
    case round =>
      obtain ⟨i, lab, rfl, hi, hS, hj, hB⟩ := hrel
      by_cases hgo : i < n
      · have a1 : wr.cell? ⟨w.heap.size + 1 + 1, 1, none⟩ = some (.slice (some ⟨w.heap.size, 0, none⟩) n n) := hS.out.s.cell 1
        obtain ⟨a2, a3⟩ := hS.out.labels hgo
        have a4 : wr.frozen? ⟨w.heap.size, i * 2, none⟩ = false := World.ownsRow.frozenAt hS.out.l _
        have a5 : wr.frozen? ⟨w.heap.size, i * 2 + 1, none⟩ = false := World.ownsRow.frozenAt hS.out.l _
        have HP := Lib.hid (hS.out.put hgo (-1, -1))
        have HB2 : Hid (Below w.heap.size w (st2 wr (w.heap.size) i (-1, -1))) := Lib.hid ((hB.out.setCell (p := ⟨w.heap.size, i * 2, none⟩) (by simp) _).setCell (p := ⟨w.heap.size, i * 2 + 1, none⟩) (by simp) _)
        go_wp2_with fail
        go_roundw
        case rel => exact ⟨i + 1, lab.set i (-1, -1), rfl, by omega, HP, Lib.hid (fun j hj' => by
          rw [lb_set (by rw [hS.out.len]; exact hgo)]
          split
          · rfl
          · exact hj.out j (by omega)), HB2⟩
        case measure => simp [intOf]; omega
      · have e : i = n := by omega
        subst e
        have hlab : lab = List.replicate i ((-1, -1) : Lb) := by
          apply List.ext_getElem
          · rw [hS.out.len]; simp
          · intro j h1 h2
            have := hj.out j (by simpa using h2)
            unfold lb at this
            rw [List.getD_eq_getElem?_getD, List.getElem?_eq_getElem h1] at this
            simpa using this
        subst hlab
        have HR := Lib.hid (reach_any w.heap.size (w.heap.size + 1 + 1) (w.heap.size) (w.heap.size + 1) i bk _ [] _ [] k t (-1) wr hS.out hk (by have := ht.1; omega) (by have := ht.2; omega) (by rw [show lb (List.replicate i ((-1, -1) : Lb)) k = (-1, -1) from hj.out k hk]; exact ⟨by decide, by decide⟩) (by simp))
        have hcond : IsT t ∧ k ∉ ([] : List Nat) ∧ bet bk (t, -1) (lb (List.replicate i ((-1, -1) : Lb)) k) := by
          refine ⟨ht, by simp, ?_⟩
          rw [show lb (List.replicate i ((-1, -1) : Lb)) k = (-1, -1) from hj.out k hk]
          exact .inr ⟨fun e => by have := ht.1; have e : t = -1 := e; omega, .inl rfl⟩
        have HC := Lib.hid hcond
        clear hcond
        go_wp2_with fail
        refine HR.out.mono ?_
        rintro e w9 ⟨rfl, v9, q9, hs9, hl9, hm9, hf9, ha9⟩
        rw [if_pos HC.out] at hs9
        have HZ := Lib.hid (And.intro hs9 (And.intro hl9 (And.intro hm9 hf9)))
        clear hs9 hl9 hm9 hf9 ha9
        go_wp2_with fail
        go_ret
        obtain ⟨hs9, hl9, hm9, hf9⟩ := HZ.out
        refine ⟨_, _, _, v9, q9, by rfl, hs9, hl9, fun y => (hm9 y).trans ?_, hB.out.trans (hf9.below (fun b hb => ?_) hB.out.size)⟩
        · simp only [List.not_mem_nil, false_or]
          exact ⟨fun h => h.2, fun h => ⟨⟨HC.out.1, not_false, HC.out.2.2⟩, h⟩⟩
        · rcases hb with e | e | e | e
          · omega
          · omega
          · omega
          · cases e
  · obtain ⟨W0, hW0⟩ : ∃ W0, (((w.alloc (.cells (bools n []).toArray 4)).alloc (.cells (flat (zL n)).toArray 37)).alloc (.cells #[.bool bk, .slice (some ⟨w.heap.size + 1, 0, none⟩) n n, .slice (some ⟨w.heap.size, 0, none⟩) n n, .slice none 0 0] 70)).drew = W0 := ⟨_, rfl⟩
    have HB : Hid (Below w.heap.size w W0) := Lib.hid (by rw [← hW0]; exact ((((Below.refl _ _).alloc (Nat.le_refl _) _).alloc (by simp) _).alloc (by simp; omega) _).drew)
    have kk := begin_blocks w 4 37 70 (bools n []).toArray (flat (zL n)).toArray #[.bool bk, .slice (some ⟨w.heap.size + 1, 0, none⟩) n n, .slice (some ⟨w.heap.size, 0, none⟩) n n, .slice none 0 0]
    rw [hW0] at kk ⊢
    have HS : Hid (SAt W0 w.heap.size (w.heap.size + 1 + 1) (w.heap.size + 1) (w.heap.size) n bk (zL n) [] (.slice none 0 0) []) := Lib.hid (sat_zero w n hm bk W0 _ _ _ kk.2.2 kk.2.1 kk.1 (by omega) (by omega) (by omega))
    clear kk hW0
    have a1 : W0.cell? ⟨w.heap.size + 1 + 1, 1, none⟩ = some (.slice (some ⟨w.heap.size + 1, 0, none⟩) n n) := HS.out.s.cell 1
    go_wp2_with fail
    clear a1
    go_loopw [23] (fun iv wr => ∃ (i : Nat) (lab : List Lb), iv = .int .i64 i ∧ i ≤ n ∧ Hid (SAt wr w.heap.size (w.heap.size + 1 + 1) (w.heap.size + 1) (w.heap.size) n bk lab [] (.slice none 0 0) []) ∧ Hid (∀ j, j < i → lb lab j = (-1, -1)) ∧ Hid (Below w.heap.size w wr)) (fun iv _ => n - (intOf iv).toNat)
    case atStart => exact ⟨0, zL n, rfl, by omega, HS, Lib.hid (fun j hj => by omega), HB⟩
    case round =>
      obtain ⟨i, lab, rfl, hi, hS, hj, hB⟩ := hrel
      by_cases hgo : i < n
      · have a1 : wr.cell? ⟨w.heap.size + 1 + 1, 1, none⟩ = some (.slice (some ⟨w.heap.size + 1, 0, none⟩) n n) := hS.out.s.cell 1
        obtain ⟨a2, a3⟩ := hS.out.labels hgo
        have a4 : wr.frozen? ⟨w.heap.size + 1, i * 2, none⟩ = false := World.ownsRow.frozenAt hS.out.l _
        have a5 : wr.frozen? ⟨w.heap.size + 1, i * 2 + 1, none⟩ = false := World.ownsRow.frozenAt hS.out.l _
        have HP := Lib.hid (hS.out.put hgo (-1, -1))
        have HB2 : Hid (Below w.heap.size w (st2 wr (w.heap.size + 1) i (-1, -1))) := Lib.hid ((hB.out.setCell (p := ⟨w.heap.size + 1, i * 2, none⟩) (by simp) _).setCell (p := ⟨w.heap.size + 1, i * 2 + 1, none⟩) (by simp) _)
        go_wp2_with fail
        go_roundw
        case rel => exact ⟨i + 1, lab.set i (-1, -1), rfl, by omega, HP, Lib.hid (fun j hj' => by
          rw [lb_set (by rw [hS.out.len]; exact hgo)]
          split
          · rfl
          · exact hj.out j (by omega)), HB2⟩
        case measure => simp [intOf]; omega
      · have e : i = n := by omega
        subst e
        have hlab : lab = List.replicate i ((-1, -1) : Lb) := by
          apply List.ext_getElem
          · rw [hS.out.len]; simp
          · intro j h1 h2
            have := hj.out j (by simpa using h2)
            unfold lb at this
            rw [List.getD_eq_getElem?_getD, List.getElem?_eq_getElem h1] at this
            simpa using this
        subst hlab
        have HR := Lib.hid (reach_any w.heap.size (w.heap.size + 1 + 1) (w.heap.size + 1) (w.heap.size) i bk _ [] _ [] k t (-1) wr hS.out hk (by have := ht.1; omega) (by have := ht.2; omega) (by rw [show lb (List.replicate i ((-1, -1) : Lb)) k = (-1, -1) from hj.out k hk]; exact ⟨by decide, by decide⟩) (by simp))
        have hcond : IsT t ∧ k ∉ ([] : List Nat) ∧ bet bk (t, -1) (lb (List.replicate i ((-1, -1) : Lb)) k) := by
          refine ⟨ht, by simp, ?_⟩
          rw [show lb (List.replicate i ((-1, -1) : Lb)) k = (-1, -1) from hj.out k hk]
          exact .inr ⟨fun e => by have := ht.1; have e : t = -1 := e; omega, .inl rfl⟩
        have HC := Lib.hid hcond
        clear hcond
        go_wp2_with fail
        refine HR.out.mono ?_
        rintro e w9 ⟨rfl, v9, q9, hs9, hl9, hm9, hf9, ha9⟩
        rw [if_pos HC.out] at hs9
        have HZ := Lib.hid (And.intro hs9 (And.intro hl9 (And.intro hm9 hf9)))
        clear hs9 hl9 hm9 hf9 ha9
        go_wp2_with fail
        go_ret
        obtain ⟨hs9, hl9, hm9, hf9⟩ := HZ.out
        refine ⟨_, _, _, v9, q9, by rfl, hs9, hl9, fun y => (hm9 y).trans ?_, hB.out.trans (hf9.below (fun b hb => ?_) hB.out.size)⟩
        · simp only [List.not_mem_nil, false_or]
          exact ⟨fun h => h.2, fun h => ⟨⟨HC.out.1, not_false, HC.out.2.2⟩, h⟩⟩
        · rcases hb with e | e | e | e
          · omega
          · omega
          · omega
          · cases e

end Go.Proofs.Yteiojobgjdfdpaa
