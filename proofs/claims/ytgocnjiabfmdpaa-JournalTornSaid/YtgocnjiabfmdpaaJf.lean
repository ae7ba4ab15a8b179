/- Walk of Append. -/
import Derived.Test.YtgocnjiabfmdpaaJe
import Derived.Deep.AppendLies
import Derived.Deep.RegionLaw
namespace Go.Proofs.Ytgocnjiabfmdpaa
set_option maxRecDepth 8000
open Go.RowKit Wire

def japp (s : St) (f : Int) (a : List (List UInt8)) (bad : Bool) (v : List UInt8) : (St × List (List UInt8) × Bool) × Int :=
  if bad = true then ((s, a, true), 7)
  else if 20000 < v.length then ((s, a, false), 3)
  else if 1048576 < (jforms a).length + (jform v).length then ((s, a, false), 6)
  else if (s.write f (jforms a).length (jform v)).2 ≠ 0 then (((s.write f (jforms a).length (jform v)).1, a, true), (s.write f (jforms a).length (jform v)).2)
  else (((s.write f (jforms a).length (jform v)).1, a ++ [v], false), 0)

theorem japp_bad (s : St) (f : Int) (a : List (List UInt8)) (v : List UInt8) : japp s f a true v = ((s, a, true), 7) := by unfold japp; rw [if_pos rfl]
theorem japp_long {s : St} {f : Int} {a : List (List UInt8)} {v : List UInt8} (h : 20000 < v.length) : japp s f a false v = ((s, a, false), 3) := by unfold japp; rw [if_neg (by simp), if_pos h]
theorem japp_full {s : St} {f : Int} {a : List (List UInt8)} {v : List UInt8} (h : ¬ 20000 < v.length) (h2 : 1048576 < (jforms a).length + (jform v).length) : japp s f a false v = ((s, a, false), 6) := by unfold japp; rw [if_neg (by simp), if_neg h, if_pos h2]
theorem japp_fail {s : St} {f : Int} {a : List (List UInt8)} {v : List UInt8} {r : St × Int} (h : ¬ 20000 < v.length) (h2 : ¬ 1048576 < (jforms a).length + (jform v).length) (hr : s.write f (jforms a).length (jform v) = r) (h3 : r.2 ≠ 0) : japp s f a false v = ((r.1, a, true), r.2) := by
  unfold japp; rw [if_neg (by simp), if_neg h, if_neg h2, hr, if_pos h3]
theorem japp_ok {s : St} {f : Int} {a : List (List UInt8)} {v : List UInt8} {r : St × Int} (h : ¬ 20000 < v.length) (h2 : ¬ 1048576 < (jforms a).length + (jform v).length) (hr : s.write f (jforms a).length (jform v) = r) (h3 : r.2 = 0) : japp s f a false v = ((r.1, a ++ [v], false), 0) := by
  unfold japp; rw [if_neg (by simp), if_neg h, if_neg h2, hr, if_neg (by simpa using h3)]

/-- The record is appended to the slice, and both fields are stored. -/
theorem jat_push {L : Lab} {w wA w3 : World} {kj j d : Nat} {f : Int} {a : List (List UInt8)} {rv : Value} {v : List UInt8} {g cap : Nat} (hL : Fresh L w) (a1 : L j = some (kj, .disk)) (a2 : w.heap[j]? = some (.cells (jcells d f rv a false) 101 (0, 0)))
    (a3 : Sl L w 9 1 rv a.length (a.map strV) (kj, .list)) (fA : Fr (fun _ => False) L w L wA) (hown : w3.ownsRow 0 9 1 (.slice (some ⟨g, 0, none⟩) (a.length + 1) cap) (a.length + 1) (a.map strV ++ [.string (ba v)]))
    (hg : wA.grownBy w3 rv.ownBlock) (hat : rv.ownBlock = some g ∨ g = wA.heap.size) :
    w3.heap[j]? = some (.cells (jcells d f rv a false) 101 (0, 0)) ∧ ∃ L', JAt L' ((w3.setCell ⟨j, 2, none⟩ (.slice (some ⟨g, 0, none⟩) (a.length + 1) cap)).setCell ⟨j, 3, none⟩ (.int .i64 ((jforms (a ++ [v])).length : Nat))) kj j d f (a ++ [v]) false ∧
      Fr (MA kj) L w L' ((w3.setCell ⟨j, 2, none⟩ (.slice (some ⟨g, 0, none⟩) (a.length + 1) cap)).setCell ⟨j, 3, none⟩ (.int .i64 ((jforms (a ++ [v])).length : Nat))) := by
  have hjw := Fr.lt_of_lab hL a1
  have hjr : some j ≠ rv.ownBlock := fun e => by
    have h1 := a3.2 j e.symm
    rw [a1] at h1; cases h1
  have h3 : w3.heap[j]? = some (.cells (jcells d f rv a false) 101 (0, 0)) := (hg.block j (Nat.lt_of_lt_of_le hjw fA.size) hjr).trans ((fA.keeps hL a1 (fun hh => hh)).trans a2)
  refine ⟨h3, ?_⟩
  have f3 : Fr (MA kj) L w L w3 := (fA.mono (fun _ hh => hh.elim)).trans (Fr.grown (M := MA kj) fA.fresh hg (fun g' hg' _ => ⟨(kj, .list), a3.2 g' hg', rfl⟩))
  have hgl := (World.ownsRow.lt hown g rfl).2
  have hgj : g ≠ j := fun e => by
    subst e
    rcases hat with h | h
    · exact hjr h.symm
    · have := fA.size; omega
  have key : ∀ L', Fr (MA kj) L w L' w3 → L' g = some (kj, .list) → ∃ L', JAt L' ((w3.setCell ⟨j, 2, none⟩ (.slice (some ⟨g, 0, none⟩) (a.length + 1) cap)).setCell ⟨j, 3, none⟩ (.int .i64 ((jforms (a ++ [v])).length : Nat))) kj j d f (a ++ [v]) false ∧
      Fr (MA kj) L w L' ((w3.setCell ⟨j, 2, none⟩ (.slice (some ⟨g, 0, none⟩) (a.length + 1) cap)).setCell ⟨j, 3, none⟩ (.int .i64 ((jforms (a ++ [v])).length : Nat))) := fun L' fr hgL => by
    have hj' := fr.lab_of hL a1
    have s1 := fr_set kj hj' fr.fresh 2 (.slice (some ⟨g, 0, none⟩) (a.length + 1) cap)
    have s2 := fr_set kj hj' s1.fresh 3 (.int .i64 ((jforms (a ++ [v])).length : Nat))
    refine ⟨L', ⟨.slice (some ⟨g, 0, none⟩) (a.length + 1) cap, hj', ?_, ⟨?_, fun g' hg' => ?_⟩⟩, (fr.trans s1).trans s2⟩
    · rw [blk_set (blk_set h3 2 _) 3]; rfl
    · rw [List.map_append, List.length_append]
      exact ownsRow_of_blocks hown (fun g' hg' => by
        have : g = g' := by simpa [Value.ownBlock] using hg'
        subst this
        exact (Below.heap_setCell _ _ _ _ (by simpa using hgj)).trans (Below.heap_setCell _ _ _ _ (by simpa using hgj)))
    · have : g = g' := by simpa [Value.ownBlock] using hg'
      subst this; exact hgL
  rcases hat with h | h
  · exact key L f3 (a3.2 g h)
  · exact key (setL L g (kj, .list)) (f3.label (by have := fA.size; omega) hgl _) (setL_same _ _ _)

set_option maxRecDepth 100000 in
set_option maxHeartbeats 4000000 in
theorem japp_any {L : Lab} {w : World} {k kj j d : Nat} {s : St} {a : List (List UInt8)} {bad : Bool} (f : Int) (t : ByteArray) (hk : k ≠ kj) (hL : Fresh L w) (hd : DAt L w k d s) (hj : JAt L w kj j d f a bad) (hi : Inv s) (hf : isI64 f) (ht : t.size ≤ 900000) (hal : (jforms a).length ≤ 20000000) :
    Calls Try.prog 29 #[.pointer (some ⟨j, 0, none⟩), .string t] w (JPost L w k kj j d f (japp s f a bad (bts t))) := by
  have hj' := hj
  obtain ⟨rv, a1, a2, a3⟩ := hj
  have c0 := blk_cell a2 0
  have c1 := blk_cell a2 1
  have c3 := blk_cell a2 3
  have c4 := blk_cell a2 4
  simp [jcells] at c0 c1 c3 c4
  cases bad
  · by_cases hlong : 20000 < t.size
    · have HJ := Lib.hid (japp_long (s := s) (f := f) (a := a) (v := bts t) (by rw [bts_len]; exact hlong))
      go_enter Try.func29, Try.ntmps29
      go_wp2_with fail
      go_ret
      rw [HJ.out]
      exact ⟨rfl, L, hd, hj', Fr.refl hL⟩
    · have hz : (ba (jform (bts t))).size = (jform (bts t)).length := ba_size _
      have hl1 := jform_len_le (bts t) (by rw [bts_len]; omega)
      rw [bts_len] at hl1
      by_cases hfull : 1048576 < (jforms a).length + (jform (bts t)).length
      · have HJ := Lib.hid (japp_full (s := s) (f := f) (a := a) (v := bts t) (by rw [bts_len]; exact hlong) hfull)
        obtain ⟨F, hF⟩ : ∃ F, F = jform (bts t) := ⟨_, rfl⟩
        have cf := form_any t w (by omega)
        rw [← hF] at hz hl1 hfull cf
        clear hF
        go_enter Try.func29, Try.ntmps29
        go_wp2_with fail
        refine cf.mono ?_
        rintro e w1 ⟨rfl, hb1⟩
        have f1 : Fr (MJ k kj) L w L w1 := Fr.below hL hb1
        have c0 := blk_cell ((hb1.block j hj'.lt).trans a2) 3
        simp [jcells] at c0
        go_wp2_with fail
        go_ret
        rw [HJ.out]
        have f2 : Fr (fun _ => False) L w L w1 := Fr.below hL hb1
        exact ⟨rfl, L, hd.keep hL f2 (fun _ hh => hh), hj'.keep hL f2 (fun _ hh => hh), f1⟩
      · obtain ⟨F, hF⟩ : ∃ F, F = jform (bts t) := ⟨_, rfl⟩
        have cf := form_any t w (by omega)
        have hnot : ¬ 20000 < (bts t).length := by rw [bts_len]; exact hlong
        have HF := Lib.hid (And.intro hF (And.intro hfull hnot))
        rw [← hF] at hz hl1 hfull cf
        clear hF hnot
        go_enter Try.func29, Try.ntmps29
        go_wp2_with fail
        refine cf.mono ?_
        rintro e w1 ⟨rfl, hb1⟩
        have f1 : Fr (fun _ => False) L w L w1 := Fr.below hL hb1
        have d1 := hd.keep hL f1 (fun _ hh => hh)
        have j1 := hj'.keep hL f1 (fun _ hh => hh)
        have g2 := (f1.keeps hL a1 (fun hh => hh)).trans a2
        have e0 := blk_cell g2 0
        have e1 := blk_cell g2 1
        have e3 := blk_cell g2 3
        simp [jcells] at e0 e1 e3
        go_wp2_with fail
        go_still_tail 13, (by kernel_rfl)
        change wpList _ _ _ _ _ w1.drew
        have f2 : Fr (fun _ => False) L w1 L w1.drew := (Fr.refl f1.fresh).drew
        have d2 := d1.keep f1.fresh f2 (fun _ hh => hh)
        have j2 := j1.keep f1.fresh f2 (fun _ hh => hh)
        go_wp2_with fail
        refine (Write_any f ((jforms a).length : Nat) (ba F) f2.fresh d2 hi hf (by unfold isI64; omega) (by omega)).mono ?_
        rintro e w3 ⟨rfl, L3, d3, f3⟩
        rw [ba_toList] at d3 ⊢
        have j3 := j2.keep f2.fresh f3 (na' hk)
        obtain ⟨r, hr⟩ : ∃ r, s.write f ((jforms a).length : Nat) F = r := ⟨_, rfl⟩
        rw [hr] at d3 ⊢
        have fr3 : Fr (MJ k kj) L w L3 w3 := ((f1.trans f2).mono (fun _ hh => hh.elim)).trans (f3.mono mj0)
        by_cases hx : r.2 = 0
        · have HJ := Lib.hid (japp_ok (a := a) (v := bts t) HF.out.2.2 HF.out.2.1 (by rw [← HF.out.1]; exact hr) hx)
          obtain ⟨rv3, b1, b2, b3⟩ := j3
          have q2 := blk_cell b2 2
          simp [jcells] at q2
          obtain ⟨i0, hi0, hz0, hz1, hz2⟩ := info_parts Try.info9
          have hcnt := jforms_count a
          have HB := Lib.hid (And.intro b1 (And.intro b2 b3))
          have HLN : Hid (((jforms a).length : Int) + (F.length : Int) = ((jforms (a ++ [bts t])).length : Nat)) := show _ = _ by rw [jforms_snoc, List.length_append, HF.out.1]; rfl
          have hown3 := b3.1
          clear b1 b2 b3 hr
          obtain ⟨sx, x⟩ := r
          simp only at hx
          subst hx
          go_wp2_with fail
          go_region_law (first
            | (go_simp; go_at_call 73; refine (clone_any t _ (by omega)).mono ?_; rintro e w4 ⟨rfl, hb4⟩; have z4 := blk_cell ((hb4.block j (Fr.lt_of_lab f3.fresh HB.out.1)).trans HB.out.2.1) 2; simp [jcells] at z4; have z4b := alloc_cell z4 (.cells #[.string t] 9); have hown4 := (ownsRow_of_blocks (w1 := w4) hown3 (fun g hg => hb4.block g (World.ownsRow.lt hown3 g hg).2)).alloc (.cells #[.string t] 9); have HA4 : Hid (Fr (fun _ => False) L3 w3 L3 (w4.alloc (.cells #[.string t] 9))) := (((Fr.refl f3.fresh).drew).trans (Fr.below (M := fun _ => False) (w := w3.drew) f3.fresh hb4)).alloc _; clear hb4)
            | (refine step_append_lies _ rfl (.tmp 48) (.tmp 51) 57 rfl 0 9 i0 (.string ByteArray.empty) 1 16 Try.underlying57 hi0 hz0 hz1 hz2 rfl (by decide) rv3 a.length (a.map strV) (by simp [Act.eval]) hown4 ⟨w4.heap.size, 0, none⟩ 1 1 [.string t] (by simp [Act.eval]) rfl (World.news_of_block (heap_alloc_new w4 _)) (by simp [Value.oneCell']) (by omega) (by unfold maxLen; omega) (by omega) (by omega) _ rfl ?_; intro g cap w5 hown5 hg5 hat5 hlt5; have H5 := Lib.hid (jat_push (v := bts t) f3.fresh HB.out.1 HB.out.2.1 HB.out.2.2 (HA4.out) (by rw [show ba (bts t) = t from ba_of t]; exact hown5) hg5 hat5); have q5 := blk_cell H5.out.1 2; have r5 := blk_free H5.out.1 2; simp [jcells] at q5; have q6 := blk_cell (blk_set H5.out.1 2 (.slice (some ⟨g, 0, none⟩) (a.length + 1) cap)) 3; have r6 := blk_free (blk_set H5.out.1 2 (.slice (some ⟨g, 0, none⟩) (a.length + 1) cap)) 3; simp [jcells] at q6; clear hown5 hg5 hat5))
          all_goals
            go_wp2_with fail
            go_ret
            rw [HJ.out, HLN.out]
            obtain ⟨h5, L5, h6, h7⟩ := H5.out
            exact ⟨rfl, L5, d3.keep f3.fresh h7 (na hk), h6, fr3.trans (h7.mono mj1)⟩
        · have HJ := Lib.hid (japp_fail (a := a) (v := bts t) HF.out.2.2 HF.out.2.1 (by rw [← HF.out.1]; exact hr) hx)
          have jb := j3.setBad true
          obtain ⟨rv3, b1, b2, b3⟩ := j3
          have fs := fr_set kj b1 f3.fresh 4 (.bool true)
          have q4 := blk_free b2 4
          have q0 := blk_cell b2 4
          have ds := d3.keep f3.fresh fs (na hk)
          have HH := Lib.hid (And.intro jb (And.intro (fr3.trans (fs.mono mj1)) ds))
          clear jb fs ds hr
          obtain ⟨sx, x⟩ := r
          simp [jcells] at q0
          have hb : ((x : Int) != 0) = true := bne_iff_ne.2 hx
          simp only at hx
          go_wp2_with fail
          go_ret
          rw [HJ.out]
          exact ⟨rfl, L3, HH.out.2.2, HH.out.1, HH.out.2.1⟩
  · have HJ := Lib.hid (japp_bad s f a (bts t))
    go_enter Try.func29, Try.ntmps29
    go_wp2_with fail
    go_ret
    rw [HJ.out]
    exact ⟨rfl, L, hd, hj', Fr.refl hL⟩

end Go.Proofs.Ytgocnjiabfmdpaa
