/- Walk of New. -/
import Derived.Test.YtgocnjiabfmdpaaDWln
namespace Go.Proofs.Ytgocnjiabfmdpaa
set_option maxRecDepth 8000
open Go.RowKit

theorem below_alloc' {w W : World} (h : Below w.heap.size w W) (o : Obj) : Below w.heap.size w (W.alloc o) := h.alloc h.size o

/-- The labels of a new disk whose first block is B. -/
def newL (L : Lab) (B k : Nat) : Lab := fun b =>
  if b < B then L b else if b = B then some (k, .files) else if b = B + 1 then some (k, .disk) else if b < B + 34 then (if (b - B) % 2 = 0 then some (k, .sect (((b - B - 2) / 2 : Nat) : Int)) else some (k, .file (((b - B - 3) / 2 : Nat) : Int))) else none

structure NewAt (w wr : World) (i : Nat) : Prop where
  size : wr.heap.size = w.heap.size + 2 + 2 * i
  below : Below w.heap.size w wr
  disk : wr.heap[w.heap.size + 1]? = some (.cells #[.map (some w.heap.size), .slice none 0 0, .bool false, .int .i64 0, .int .i64 0, .slice none 0 0] 78 (0, 0))
  files : IMap wr w.heap.size (fun x => if 0 ≤ x ∧ x < i then some (.pointer (some ⟨w.heap.size + 3 + 2 * x.toNat, 0, none⟩)) else none)
  maps : ∀ j, j < i → wr.heap[w.heap.size + 2 + 2 * j]? = some (.map #[] 0)
  strs : ∀ j, j < i → wr.heap[w.heap.size + 3 + 2 * j]? = some (.cells #[.slice none 0 0, .slice none 0 0, .map (some (w.heap.size + 2 + 2 * j))] 82 (0, 0))

theorem NewAt.done {L : Lab} {w wr : World} (h : NewAt w wr 16) (k : Nat) : DAt (newL L w.heap.size k) wr k (w.heap.size + 1) St.new ∧ Fr (fun _ => False) L w (newL L w.heap.size k) wr := by
  have hsz := h.size
  refine ⟨⟨w.heap.size, .slice none 0 0, .slice none 0 0, fun x => w.heap.size + 3 + 2 * x.toNat, by simp only [newL]; rw [if_neg (by omega), if_neg (by omega)]; simp, h.disk, by simp [newL], h.files.congr (fun x => ?_), Sl.nil _ _ _ _ _, Sl.nil _ _ _ _ _, fun i hi => ?_⟩, ⟨h.below.os, h.below.tape, h.below.output, h.below.size, fun b hb => by simp [newL, hb], fun b hb => ?_, fun b hb _ => h.below.block b hb⟩⟩
  · unfold filesF
    by_cases hx : 0 ≤ x ∧ x < 16
    · rw [if_pos (isFile_iff.2 hx), if_pos (by simpa using hx)]
    · rw [if_neg (fun e => hx (isFile_iff.1 e)), if_neg (by simpa using hx)]
  · obtain ⟨h0, h1⟩ := isFile_iff.1 hi
    obtain ⟨j, rfl⟩ := Int.eq_ofNat_of_zero_le h0
    have hj : j < 16 := by omega
    refine ⟨.slice none 0 0, .slice none 0 0, w.heap.size + 2 + 2 * j, ?_, ?_, ?_, ?_, Sl.nil _ _ _ _ _, Sl.nil _ _ _ _ _⟩
    · simp only [newL, Int.toNat_natCast]
      rw [if_neg (by omega), if_neg (by omega), if_neg (by omega), if_pos (by omega), if_neg (by omega)]
      congr 3; omega
    · exact h.strs j hj
    · simp only [newL]
      rw [if_neg (by omega), if_neg (by omega), if_neg (by omega), if_pos (by omega), if_pos (by omega)]
      congr 3; omega
    · exact ⟨#[], 0, h.maps j hj, ⟨by simp, by simp, by simp⟩, by simp, by intro x v hv; simp [secF, St.new] at hv⟩
  · simp only [newL]
    rw [if_neg (by omega), if_neg (by omega), if_neg (by omega), if_neg (by omega)]

theorem NewAt.start (w : World) : NewAt w ((w.alloc (.map #[] 0)).alloc (.cells #[.map (some w.heap.size), .slice none 0 0, .bool false, .int .i64 0, .int .i64 0, .slice none 0 0] 78)) 0 := by
  refine ⟨by simp, ((Below.refl _ _).alloc (Nat.le_refl _) _).alloc (by simp) _, ?_, ?_, fun j hj => by omega, fun j hj => by omega⟩
  · have := heap_alloc_new (w.alloc (.map #[] 0)) (.cells #[.map (some w.heap.size), .slice none 0 0, .bool false, .int .i64 0, .int .i64 0, .slice none 0 0] 78)
    simpa using this
  · exact ((IMap.made w).same (Below.heap_alloc _ _ _ (by simp))).congr (fun x => by rw [if_neg]; omega)

theorem NewAt.step {w wr w4 : World} {i : Nat} (hn : NewAt w wr i)
    (hm : IMap w4 w.heap.size (fun y => if y = (i : Int) then some (.pointer (some ⟨wr.heap.size + 1, 0, none⟩)) else (if 0 ≤ y ∧ y < i then some (.pointer (some ⟨w.heap.size + 3 + 2 * y.toNat, 0, none⟩)) else none)))
    (hg : ((wr.alloc (.map #[] 0)).alloc (.cells #[.slice none 0 0, .slice none 0 0, .map (some wr.heap.size)] 82)).grownBy w4 (some w.heap.size)) (hs : w4.heap.size = ((wr.alloc (.map #[] 0)).alloc (.cells #[.slice none 0 0, .slice none 0 0, .map (some wr.heap.size)] 82)).heap.size) : NewAt w w4 (i + 1) := by
  have hsz := hn.size
  have hs2 : w4.heap.size = wr.heap.size + 2 := by rw [hs]; simp
  have hk : ∀ b o, wr.heap[b]? = some o → b ≠ w.heap.size → w4.heap[b]? = some o := fun b o hb hne => (hg.block b (by have := blk_lt hb; simp; omega) (by simp; exact hne)).trans (blk_alloc (blk_alloc hb _) _)
  refine ⟨by omega, ?_, hk _ _ hn.disk (by omega), hm.congr (fun x => ?_), fun j hj => ?_, fun j hj => ?_⟩
  · exact (below_alloc' (below_alloc' hn.below _) _).grown hg (by have := hn.below.size; simp; omega) (fun k hk => by cases hk; exact Nat.le_refl _)
  · by_cases hx : x = (i : Int)
    · subst hx
      rw [if_pos rfl, if_pos (by omega)]
      congr 4; simp; omega
    · rw [if_neg hx]
      by_cases h2 : 0 ≤ x ∧ x < (i : Int)
      · rw [if_pos h2, if_pos (by omega)]
      · rw [if_neg h2, if_neg (by omega)]
  · by_cases hji : j = i
    · subst hji
      rw [← hsz]
      exact (hg.block _ (by simp; omega) (by simp; omega)).trans ((Below.heap_alloc _ _ _ (by simp)).trans (heap_alloc_new _ _))
    · exact hk _ _ (hn.maps j (by omega)) (by omega)
  · by_cases hji : j = i
    · subst hji
      have e1 : w.heap.size + 3 + 2 * j = (wr.alloc (.map #[] 0)).heap.size := by simp; omega
      rw [← hsz, e1]
      exact (hg.block _ (by simp) (by simp; omega)).trans (heap_alloc_new _ _)
    · exact hk _ _ (hn.strs j (by omega)) (by omega)

def NewPost (L : Lab) (w : World) (k : Nat) (e : Ending) (w' : World) : Prop :=
  ∃ d L', e = .returned (.pointer (some ⟨d, 0, none⟩)) ∧ DAt L' w' k d St.new ∧ Fr (fun _ => False) L w L' w'

set_option maxRecDepth 100000 in
set_option maxHeartbeats 1000000 in
theorem New_any {L : Lab} {w : World} (k : Nat) : Calls Try.prog 11 #[] w (NewPost L w k) := by
  have hmm := @run_makeMap Try.prog
  go_enter Try.func11, Try.ntmps11
  go_wp2_with fail
  go_loopw [6] (fun i wr => ∃ i' : Nat, i' ≤ 16 ∧ i = .int .i64 i' ∧ NewAt w wr i') (fun i _ => 16 - (intOf i).toNat)
  case atStart => exact ⟨0, by omega, rfl, NewAt.start w⟩
  case round =>
    obtain ⟨i, hi, rfl, hn⟩ := hrel
    by_cases hlt : i < 16
    · have c0 := blk_cell hn.disk 0
      simp at c0
      have lb := blk_lt hn.disk
      have hi64 : isI64 (i : Int) := by unfold isI64; omega
      have HS := Lib.hid hn.size
      have hf := (hn.files.same (w' := (wr.alloc (.map #[] 0)).alloc (.cells #[.slice none 0 0, .slice none 0 0, .map (some wr.heap.size)] 82)) (by rw [Below.heap_alloc _ _ _ (by have := hn.files.lt; simp; omega), Below.heap_alloc _ _ _ hn.files.lt]))
      go_wp2_with (at_mapUpdate; refine wpList_put _ rfl _ _ _ 75 rfl 3 79 Try.underlying3 Try.underlying75 w.heap.size _ rfl hf (i : Int) rfl hi64 _ rfl ?_; intro w4 hm4 hg4 hs4; have HS4 := Lib.hid hs4; clear hs4; go_frame)
      go_roundw
      case rel => exact ⟨i + 1, by omega, by go_num, hn.step hm4 hg4 HS4.out⟩
      case measure => simp [intOf]; omega
    · have hi16 : i = 16 := by omega
      subst hi16
      go_wp2_with fail
      go_ret
      obtain ⟨h1, h2⟩ := hn.done (L := L) k
      exact ⟨_, _, rfl, h1, h2⟩

end Go.Proofs.Ytgocnjiabfmdpaa
