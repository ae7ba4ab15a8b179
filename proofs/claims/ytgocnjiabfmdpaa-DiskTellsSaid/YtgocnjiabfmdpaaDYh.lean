/- The reference's set: a file is put at the list's end, in the place of the one with its number. -/
import Derived.Test.YtgocnjiabfmdpaaDYe
import Derived.Test.YtgocnjiabfmdpaaDWi
import Derived.BigQuiet
namespace Go.Proofs.Ytgocnjiabfmdpaa
set_option maxRecDepth 8000
open Go.RowKit

theorem Try.info90 : (Try.prog.info? 90).map (fun i => (i.zero, i.size, i.bytes)) = some (some (.agg #[.int .i64 0, .string ByteArray.empty, .string ByteArray.empty]), 3, 40) := by kernel_rfl

theorem fc_append (a b : List Fl) : fc (a ++ b) = fc a ++ fc b := by simp [fc]

/-- The files but the one with the number n, up to j. -/
def keptF (l : List Fl) (n : Int) (j : Nat) : List Fl := (l.take j).filter (fun y => !(y.num == n))

theorem keptF_succ (l : List Fl) (n : Int) (j : Nat) (hj : j < l.length) : keptF l n (j + 1) = keptF l n j ++ (if l[j].num = n then [] else [l[j]]) := by
  unfold keptF
  rw [List.take_succ_eq_append_getElem hj, List.filter_append]
  congr 1
  by_cases h : l[j].num = n
  · rw [if_pos h, List.filter_cons_of_neg (by simp [h])]; rfl
  · rw [if_neg h, List.filter_cons_of_pos (by simp [h])]; rfl

theorem keptF_len (l : List Fl) (n : Int) (j : Nat) : (keptF l n j).length ≤ l.length := by
  unfold keptF
  refine Nat.le_trans (List.length_filter_le _ _) ?_
  rw [List.length_take]; omega

theorem own_base {w : World} {B : Nat} {e : TypeId} {size : Nat} {v : Value} {n : Nat} {xs : List Value} (h : w.ownsRow B e size v n xs) : w.ownsRow 0 e size v n xs := by
  refine ⟨h.1, ?_⟩
  rcases h.2 with hn | ⟨g, cap, cur, hv, hb, rest⟩
  · exact .inl hn
  · exact .inr ⟨g, cap, cur, hv, Nat.zero_le _, rest⟩

theorem rset_end {L : Lab} {w w4 : World} {k d B : Nat} {fv qv kv v4 : Value} {l l' : List Fl} {K : List Int} {s s' : St} (hL : Fresh L w) (hd : L d = some (k, .disk)) (hb : w.heap[d]? = some (.cells (rcells fv qv kv s) 86 (0, 0))) (hbody : RBody L w k fv qv kv l K s)
    (hbel : Below w.heap.size w w4) (hown : w4.ownsRow B 90 3 v4 l'.length (fc l')) (hB : w.heap.size ≤ B) (hf : FewF l') (hr : Reads l' s') (hs : s'.lost = s.lost ∧ s'.down = s.down ∧ s'.armed = s.armed ∧ s'.pend = s.pend) :
    ∃ L', RAt L' (w4.setCell ⟨d, 0, none⟩ v4) k d l' K s' ∧ Fr (MD k) L w L' (w4.setCell ⟨d, 0, none⟩ v4) := by
  obtain ⟨L1, f1, hsl⟩ := new_label (M := fun _ => False) (k, .files) hL (own_base hown) hbel (fun g hg => Nat.le_trans hB (World.ownsRow.lt hown g hg).1)
  have f2 := Fr.setD f1.fresh (f1.lab_of hL hd) 0 v4
  have f3 : Fr (MD k) L w L1 (w4.setCell ⟨d, 0, none⟩ v4) := (f1.mono (fun _ h => h.elim)).trans f2
  obtain ⟨e1, e2, e3, e4⟩ := hs
  refine ⟨L1, ⟨v4, qv, kv, f3.lab_of hL hd, ?_, hsl.keep f1.fresh f2 (by simp [MD]), ?_, ⟨hbody.2.2.1.1.keep hL f3 (by simp [MD]), hf⟩, hr⟩, f3⟩
  · have h1 := blk_set ((hbel.block d (blk_lt hb)).trans hb) 0 v4
    rw [h1]
    simp [rcells, e1, e2, e3]
  · rw [e4]; exact hbody.2.1.keep hL f3 (by simp [MD])

set_option maxRecDepth 100000 in
set_option maxHeartbeats 1000000 in
theorem rset_any {L : Lab} {w : World} {k d : Nat} {l : List Fl} {K : List Int} {s s' : St} (x : Fl) (hL : Fresh L w) (h : RAt L w k d l K s) (hx : isFile x.num = true) (hr : Reads (setF l x) s')
    (hs : s'.lost = s.lost ∧ s'.down = s.down ∧ s'.armed = s.armed ∧ s'.pend = s.pend) :
    Calls Try.prog 99 #[.pointer (some ⟨d, 0, none⟩), fval x] w fun e w' => e = .returned (.tuple #[]) ∧ ∃ L', RAt L' w' k d (setF l x) K s' ∧ Fr (MD k) L w L' w' := by
  obtain ⟨i0, hi0, hz0, hz1, hz2⟩ := info_parts Try.info90
  obtain ⟨fv, qv, kv, hd, hb, hbody⟩ := h
  have c0 := blk_cell hb 0
  have ld := blk_lt hb
  simp [rcells] at c0
  obtain ⟨A, c, rfl, hm, hcells⟩ := own_files hbody.1.1
  have hlen := hbody.2.2.1.2.len
  obtain ⟨xn, xw, xl⟩ := x
  have HC := Lib.hid hcells
  have HB := Lib.hid (And.intro hb (And.intro hbody (And.intro hd (And.intro hr hs))))
  clear hb hbody hcells hd hr hs
  obtain ⟨S, hS⟩ : ∃ S, S = w.heap.size := ⟨_, rfl⟩
  have HS := Lib.hid hS
  unfold fval
  go_enter Try.func99, Try.ntmps99
  go_wp2_with fail
  obtain ⟨wa, hwa⟩ : ∃ wa, wa = w.alloc (.cells #[.int .i64 xn, .string (ba xw), .string (ba xl)] 90 (0, 0)) := ⟨_, rfl⟩
  have q0 : wa.heap[S]? = some (.cells #[.int .i64 xn, .string (ba xw), .string (ba xl)] 90 (0, 0)) := by rw [hwa, hS]; exact heap_alloc_new w _
  have hSa : S < wa.heap.size := blk_lt q0
  have b0 := blk_cell q0 0
  have b1 := blk_cell q0 1
  have b2 := blk_cell q0 2
  simp at b0 b1 b2
  have c0a : wa.cell? ⟨d, 0, none⟩ = some (.slice A l.length c) := by rw [hwa]; exact (World.cell?_alloc_lt w _ ⟨d, 0, none⟩ ld).trans c0
  have hca : ∀ j (hj : j < l.length), ∃ g, A = some ⟨g, 0, none⟩ ∧ g < S ∧ wa.cell? ⟨g, j * 3, none⟩ = some (.int .i64 l[j].num) ∧ wa.cell? ⟨g, j * 3 + 1, none⟩ = some (.string (ba l[j].now)) ∧ wa.cell? ⟨g, j * 3 + 2, none⟩ = some (.string (ba l[j].last)) := fun j hj => by
    obtain ⟨g, e, lg, h1, h2, h3⟩ := HC.out j hj
    rw [hwa, hS]
    exact ⟨g, e, lg, (World.cell?_alloc_lt w _ ⟨g, j * 3, none⟩ lg).trans h1, (World.cell?_alloc_lt w _ ⟨g, j * 3 + 1, none⟩ lg).trans h2, (World.cell?_alloc_lt w _ ⟨g, j * 3 + 2, none⟩ lg).trans h3⟩
  rw [← hS]
  rw [← hwa]
  have qda : wa.heap[d]? = w.heap[d]? := by rw [hwa]; exact Below.heap_alloc w _ d ld
  have hbwa : Below S w wa := by rw [hwa]; exact (Below.refl S w).alloc (by rw [hS]; exact Nat.le_refl _) _
  have HW := Lib.hid (And.intro qda hbwa)
  clear qda hbwa
  have HCA := Lib.hid hca
  have ldS : d < S := by rw [hS]; exact ld
  clear hwa hca hS
  go_loopw [4, 5] (fun v i wr => ∃ j : Nat, j ≤ l.length ∧ i = .int .i64 j ∧ Hid (wr.ownsRow (S + 1) 90 3 v (keptF l xn j).length (fc (keptF l xn j))) ∧ Hid (Below (S + 1) wa wr)) (fun _ i _ => l.length - (intOf i).toNat)
  case atStart => exact ⟨0, Nat.zero_le _, rfl, World.ownsRow_nil _ _ _ _, Below.refl _ _⟩
  case round =>
    obtain ⟨j, hj, rfl, HO, HBW⟩ := hrel
    have hcl : ∀ b o, b < S + 1 → wr.cell? ⟨b, o, none⟩ = wa.cell? ⟨b, o, none⟩ := fun b o hb => HBW.out.cell (p := ⟨b, o, none⟩) hb
    have c0r := (hcl d 0 (by omega)).trans c0a
    have b0r := (hcl S 0 (by omega)).trans b0
    have b1r := (hcl S 1 (by omega)).trans b1
    have b2r := (hcl S 2 (by omega)).trans b2
    by_cases hlt : j < l.length
    · obtain ⟨g, rfl, lg, h1, h2, h3⟩ := HCA.out j hlt
      have h1r := (hcl g (j * 3) (by omega)).trans h1
      have h2r := (hcl g (j * 3 + 1) (by omega)).trans h2
      have h3r := (hcl g (j * 3 + 2) (by omega)).trans h3
      have hks := keptF_succ l xn j hlt
      have hkl := keptF_len l xn j
      obtain ⟨y, hy⟩ : ∃ y, l[j] = y := ⟨_, rfl⟩
      rw [hy] at h1r h2r h3r hks
      have HK := Lib.hid hks
      clear hks hy h1 h2 h3 hcl
      by_cases hnf : y.num = xn
      · go_wp2_with fail
        go_quiet (fail)
        go_wp2_with fail
        go_roundw
        case rel =>
          refine ⟨j + 1, by omega, by go_num, ?_, Go.below_drewN HBW.out nq⟩
          have h5 := HO.out
          rw [HK.out, if_pos hnf, List.append_nil]
          exact h5
        case measure => simp [intOf]; omega
      · go_wp2_with fail
        go_quiet (fail)
        go_wp2_with (at_builtin; refine wpList_append_own_at _ rfl (.tmp 26) (.tmp 34) 83 rfl (S + 1) 90 i0 (.agg #[.int .i64 0, .string ByteArray.empty, .string ByteArray.empty]) 3 40 Try.underlying83 hi0 hz0 hz1 hz2 rfl (by decide) u4 (keptF l xn j).length (fc (keptF l xn j)) rfl (World.ownsRow.alloc (w := wr.drewN nq) HO.out _) ⟨wr.heap.size, 0, none⟩ 1 1 [.int .i64 y.num, .string (ba y.now), .string (ba y.last)] rfl rfl (World.news_of_block (heap_alloc_new (wr.drewN nq) _)) (by simp [Value.oneCell']) (by unfold maxLen; omega) (by omega) (by have := HBW.out.size; simp; omega) ?_; intro v4 w4 hown4 hg4 hnil4 hat4; have H4 := Lib.hid (And.intro hown4 hg4); clear hown4 hg4 hnil4 hat4)
        go_roundw
        case rel =>
          refine ⟨j + 1, by omega, by go_num, ?_, ?_⟩
          · have h5 := H4.out.1
            rw [HK.out, if_neg hnf, fc_append, List.length_append]
            exact h5
          · exact ((Go.below_drewN HBW.out nq).alloc (by have := HBW.out.size; show S + 1 ≤ wr.heap.size; omega) _).grown H4.out.2 (by have := HBW.out.size; simp; omega) (fun k hk => (World.ownsRow.lt HO.out k hk).1)
        case measure => simp [intOf]; omega
    · obtain rfl : j = l.length := by omega
      have hkl := keptF_len l xn l.length
      go_wp2_with (at_builtin; refine wpList_append_own_at _ rfl (.tmp 37) (.tmp 39) 83 rfl (S + 1) 90 i0 (.agg #[.int .i64 0, .string ByteArray.empty, .string ByteArray.empty]) 3 40 Try.underlying83 hi0 hz0 hz1 hz2 rfl (by decide) u4 (keptF l xn l.length).length (fc (keptF l xn l.length)) rfl (World.ownsRow.alloc (w := wr) HO.out _) ⟨wr.heap.size, 0, none⟩ 1 1 [.int .i64 xn, .string (ba xw), .string (ba xl)] rfl rfl (World.news_of_block (heap_alloc_new wr _)) (by simp [Value.oneCell']) (by unfold maxLen; omega) (by omega) (by have := HBW.out.size; simp; omega) ?_; intro v4 w4 hown4 hg4 hnil4 hat4; have hb4 : Below (S + 1) wa w4 := (HBW.out.alloc (by have := HBW.out.size; omega) _).grown hg4 (by have := HBW.out.size; simp; omega) (fun k hk => (World.ownsRow.lt HO.out k hk).1); have q4 := (hb4.block d (by omega)).trans (HW.out.1.trans HB.out.1); have k4 := blk_cell q4 0; have e4 := blk_free q4 0; simp [rcells] at k4; obtain ⟨A4, m4, c4, rfl⟩ := own_slice (own_base hown4); have H4 := Lib.hid (And.intro hown4 hb4); clear hown4 hg4 hnil4 hat4 hb4 q4)
      go_end0
      refine ⟨rfl, ?_⟩
      have hS := HS.out
      have hb5 : Below S w w4 := HW.out.2.trans ⟨H4.out.2.os, H4.out.2.tape, H4.out.2.output, H4.out.2.size, fun b hb => H4.out.2.block b (by omega)⟩
      have h6 : w4.ownsRow (S + 1) 90 3 (.slice A4 m4 c4) (setF l ⟨xn, xw, xl⟩).length (fc (setF l ⟨xn, xw, xl⟩)) := by
        have h7 := H4.out.1
        unfold keptF at h7
        rw [List.take_length] at h7
        unfold setF
        rw [fc_append, List.length_append]
        exact h7
      exact rset_end (B := S + 1) hL HB.out.2.2.1 HB.out.1 HB.out.2.1 (by rw [← hS]; exact hb5) h6 (by omega) (HB.out.2.1.2.2.1.2.setF hx) HB.out.2.2.2.1 HB.out.2.2.2.2

end Go.Proofs.Ytgocnjiabfmdpaa
