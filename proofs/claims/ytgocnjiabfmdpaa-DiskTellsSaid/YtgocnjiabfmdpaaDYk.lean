/- The reference's settle: a string becomes a file and its durable part. -/
import Derived.Test.YtgocnjiabfmdpaaDYj
namespace Go.Proofs.Ytgocnjiabfmdpaa
set_option maxRecDepth 8000
open Go.RowKit

/-- The sectors of other files than f, up to j. -/
def keptQ (l : List (Int × Int)) (f : Int) (j : Nat) : List (Int × Int) := (l.take j).filter (fun p => !(p.1 == f))

theorem keptQ_succ (l : List (Int × Int)) (f : Int) (j : Nat) (hj : j < l.length) : keptQ l f (j + 1) = keptQ l f j ++ (if l[j].1 = f then [] else [l[j]]) := by
  unfold keptQ
  rw [List.take_succ_eq_append_getElem hj, List.filter_append]
  congr 1
  by_cases h : l[j].1 = f
  · rw [if_pos h, List.filter_cons_of_neg (by simp [h])]; rfl
  · rw [if_neg h, List.filter_cons_of_pos (by simp [h])]; rfl

theorem keptQ_len (l : List (Int × Int)) (f : Int) (j : Nat) : (keptQ l f j).length ≤ l.length := by
  unfold keptQ
  refine Nat.le_trans (List.length_filter_le _ _) ?_
  rw [List.length_take]; omega

theorem rq_end {L : Lab} {w w4 : World} {k d B : Nat} {fv qv kv v4 : Value} {l : List Fl} {q : List (Int × Int)} {K : List Int} {s s' : St} (hL : Fresh L w) (hd : L d = some (k, .disk)) (hb : w.heap[d]? = some (.cells (rcells fv qv kv s) 86 (0, 0))) (hbody : RBody L w k fv qv kv l K s)
    (hbel : Below w.heap.size w w4) (hown : w4.ownsRow B 107 2 v4 q.length (pc q)) (hB : w.heap.size ≤ B) (hs : s'.lost = s.lost ∧ s'.down = s.down ∧ s'.armed = s.armed ∧ s'.pend = q ∧ s'.now = s.now ∧ s'.dur = s.dur) :
    ∃ L', RAt L' (w4.setCell ⟨d, 1, none⟩ v4) k d l K s' ∧ Fr (MD k) L w L' (w4.setCell ⟨d, 1, none⟩ v4) := by
  obtain ⟨L1, f1, hsl⟩ := new_label (M := fun _ => False) (k, .list) hL (own_base hown) hbel (fun g hg => Nat.le_trans hB (World.ownsRow.lt hown g hg).1)
  have f2 := Fr.setD f1.fresh (f1.lab_of hL hd) 1 v4
  have f3 : Fr (MD k) L w L1 (w4.setCell ⟨d, 1, none⟩ v4) := (f1.mono (fun _ h => h.elim)).trans f2
  obtain ⟨e1, e2, e3, e4, e5, e6⟩ := hs
  refine ⟨L1, ⟨fv, v4, kv, f3.lab_of hL hd, ?_, hbody.1.keep hL f3 (by simp [MD]), ?_, ⟨hbody.2.2.1.1.keep hL f3 (by simp [MD]), hbody.2.2.1.2⟩, hbody.2.2.2.same e5 e6⟩, f3⟩
  · have h1 := blk_set ((hbel.block d (blk_lt hb)).trans hb) 1 v4
    rw [h1]
    simp [rcells, e1, e2, e3]
  · rw [e4]; exact hsl.keep f1.fresh f2 (by simp [MD])

set_option maxRecDepth 100000 in
set_option maxHeartbeats 1000000 in
theorem rsettle_any {L : Lab} {w : World} {k d : Nat} {l : List Fl} {K : List Int} {s : St} (f : Int) (Y : List UInt8) (hL : Fresh L w) (h : RAt L w k d l K s) (hf : isFile f = true) (hfew : s.pend.length ≤ 5000000) :
    Calls Try.prog 84 #[.pointer (some ⟨d, 0, none⟩), .int .i64 f, .string (ba Y)] w fun e w' => e = .returned (.tuple #[]) ∧ ∃ l' L', RAt L' w' k d l' K ({ s with now := upd s.now f Y, dur := upd s.dur f Y }.forget f) ∧ Fr (MD k) L w L' w' := by
  have hrd : Reads l s := by obtain ⟨fv, qv, kv, _, _, hb⟩ := h; exact hb.2.2.2
  obtain ⟨s1, hs1⟩ : ∃ s1 : St, s1 = { s with now := upd s.now f Y, dur := upd s.dur f Y } := ⟨_, rfl⟩
  have hrd1 : Reads (setF l ⟨f, Y, Y⟩) s1 := by rw [hs1]; exact hrd.set (f := f) rfl rfl
  have hp1 : s1.pend = s.pend := by rw [hs1]
  obtain ⟨i0, hi0, hz0, hz1, hz2⟩ := info_parts Try.info107
  rw [← hs1]
  have HS := Lib.hid (And.intro hs1 (And.intro hrd1 hp1))
  clear hs1 hrd1 hp1 hrd
  go_enter Try.func84, Try.ntmps84
  go_wp2_with fail
  refine (rset_any (s' := s1) ⟨f, Y, Y⟩ hL h hf HS.out.2.1 (by rw [HS.out.1]; exact ⟨rfl, rfl, rfl, rfl⟩)).mono ?_
  rintro e w1 ⟨rfl, L1, h1, f1⟩
  obtain ⟨fv, qv, kv, hd, hb, hbody⟩ := h1
  have c0 := blk_cell hb 1
  have ld := blk_lt hb
  simp [rcells] at c0
  obtain ⟨A, c, rfl, hm, hcells⟩ := own_pairs hbody.2.1.1
  have hlen : s1.pend.length ≤ 5000000 := by rw [HS.out.2.2]; exact hfew
  obtain ⟨Q, hQ⟩ : ∃ Q, Q = s1.pend := ⟨_, rfl⟩
  rw [← hQ] at c0 hm hcells hlen
  obtain ⟨S, hS⟩ : ∃ S, S = w1.heap.size := ⟨_, rfl⟩
  rw [← hS] at ld
  have HC := Lib.hid hcells
  have HB := Lib.hid (And.intro hb (And.intro hbody (And.intro hd (And.intro hQ hS))))
  clear hb hbody hcells hQ hS hd
  go_wp2_with fail
  go_loopw [6, 7] (fun v i wr => ∃ j : Nat, j ≤ Q.length ∧ i = .int .i64 j ∧ Hid (wr.ownsRow S 107 2 v (keptQ Q f j).length (pc (keptQ Q f j))) ∧ Hid (Below S w1 wr)) (fun _ i _ => Q.length - (intOf i).toNat)
  case atStart => exact ⟨0, Nat.zero_le _, rfl, World.ownsRow_nil _ _ _ _, Below.refl _ _⟩
  case round =>
    obtain ⟨j, hj, rfl, HO, HBW⟩ := hrel
    have hcl : ∀ b o, b < S → wr.cell? ⟨b, o, none⟩ = w1.cell? ⟨b, o, none⟩ := fun b o hb => HBW.out.cell (p := ⟨b, o, none⟩) hb
    have c0r := (hcl d 1 ld).trans c0
    by_cases hlt : j < Q.length
    · obtain ⟨g, rfl, lg, h1, h2⟩ := HC.out j hlt
      rw [← HB.out.2.2.2.2] at lg
      have h1r := (hcl g (j * 2) lg).trans h1
      have h2r := (hcl g (j * 2 + 1) lg).trans h2
      have hks := keptQ_succ Q f j hlt
      have hkl := keptQ_len Q f j
      obtain ⟨y, hy⟩ : ∃ y, Q[j] = y := ⟨_, rfl⟩
      rw [hy] at h1r h2r hks
      have HK := Lib.hid hks
      clear hks hy h1 h2 hcl
      by_cases hnf : y.1 = f
      · go_wp2_with fail
        go_roundw
        case rel =>
          refine ⟨j + 1, by omega, by go_num, ?_, HBW.out⟩
          have h5 := HO.out
          rw [HK.out, if_pos hnf, List.append_nil]
          exact h5
        case measure => simp [intOf]; omega
      · go_wp2_with (at_builtin; refine wpList_append_own_at _ rfl (.tmp 33) (.tmp 41) 84 rfl S 107 i0 (.agg #[.int .i64 0, .int .i64 0]) 2 16 Try.underlying84 hi0 hz0 hz1 hz2 rfl (by decide) u6 (keptQ Q f j).length (pc (keptQ Q f j)) rfl (World.ownsRow.alloc (w := wr) HO.out _) ⟨wr.heap.size, 0, none⟩ 1 1 [.int .i64 y.1, .int .i64 y.2] rfl rfl (World.news_of_block (heap_alloc_new wr _)) (by simp [Value.oneCell']) (by unfold maxLen; omega) (by omega) (by have := HBW.out.size; have := HB.out.2.2.2.2; simp; omega) ?_; intro v4 w4 hown4 hg4 hnil4 hat4; have H4 := Lib.hid (And.intro hown4 hg4); clear hown4 hg4 hnil4 hat4)
        go_roundw
        case rel =>
          refine ⟨j + 1, by omega, by go_num, ?_, ?_⟩
          · have h5 := H4.out.1
            rw [HK.out, if_neg hnf, pc_append, List.length_append]
            exact h5
          · exact (HBW.out.alloc (by have := HBW.out.size; have := HB.out.2.2.2.2; omega) _).grown H4.out.2 (by have := HBW.out.size; have := HB.out.2.2.2.2; simp; omega) (fun k hk => (World.ownsRow.lt HO.out k hk).1)
        case measure => simp [intOf]; omega
    · obtain rfl : j = Q.length := by omega
      have q4 := (HBW.out.block d ld).trans HB.out.1
      have e4 := blk_free q4 1
      clear q4
      obtain ⟨A4, m4, c4, rfl⟩ := own_slice (own_base HO.out)
      go_wp2_with fail
      go_end0
      obtain ⟨L5, r5, f5⟩ := rq_end (s' := s1.forget f) f1.fresh HB.out.2.2.1 HB.out.1 HB.out.2.1 (by rw [← HB.out.2.2.2.2]; exact HBW.out) HO.out (by rw [← HB.out.2.2.2.2]; exact Nat.le_refl _) (by
        refine ⟨rfl, rfl, rfl, ?_, rfl, rfl⟩
        unfold keptQ
        rw [List.take_length, HB.out.2.2.2.1]
        rfl)
      exact ⟨rfl, _, L5, r5, f1.trans f5⟩

end Go.Proofs.Ytgocnjiabfmdpaa
