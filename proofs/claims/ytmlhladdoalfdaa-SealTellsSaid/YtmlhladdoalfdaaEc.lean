/- Rings as they lie in memory; walks of New, isKey, the clones. -/
import Derived.Test.YtmlhladdoalfdaaEb
import Derived.Shelf.SlMaps.Clone
import Derived.Lib.Strings
import Derived.Lib.Walk
import Derived.Lib.BufferWrite
import Derived.Lib.UnsafeStr
import Derived.Laws.MakeOwn
import Derived.Maps.AppendAt
import Derived.BigQuiet
import Derived.Deep.QuietTactic
namespace Go.Proofs.Ytmlhladdoalfdaa
open Go.RowKit

/-- Nothing has turned but new blocks, and the blocks of S. -/
def Fr (S : Nat → Prop) (w w' : World) : Prop :=
  w'.os = w.os ∧ w'.tape = w.tape ∧ w'.output = w.output ∧ w.heap.size ≤ w'.heap.size ∧ ∀ b, b < w.heap.size → ¬ S b → w'.heap[b]? = w.heap[b]?
theorem Fr.size {S : Nat → Prop} {w w' : World} (h : Fr S w w') : w.heap.size ≤ w'.heap.size := h.2.2.2.1
theorem Fr.of_below {S : Nat → Prop} {w w' : World} (h : Below w.heap.size w w') : Fr S w w' := ⟨h.os, h.tape, h.output, h.size, fun b hb _ => h.block b hb⟩
theorem Fr.trans {S S' T : Nat → Prop} {w w' w'' : World} (h : Fr S w w') (h' : Fr S' w' w'') (h1 : ∀ b, S b → T b) (h2 : ∀ b, b < w.heap.size → S' b → T b) : Fr T w w'' :=
  ⟨h'.1.trans h.1, h'.2.1.trans h.2.1, h'.2.2.1.trans h.2.2.1, Nat.le_trans h.size h'.size, fun b hb hn =>
    (h'.2.2.2.2 b (Nat.lt_of_lt_of_le hb h.size) (fun hs => hn (h2 b hb hs))).trans (h.2.2.2.2 b hb (fun hs => hn (h1 b hs)))⟩
theorem Fr.below {S : Nat → Prop} {B : Nat} {w w' : World} (h : Fr S w w') (hS : ∀ b, S b → B ≤ b) (hB : B ≤ w.heap.size) : Below B w w' :=
  ⟨h.1, h.2.1, h.2.2.1, h.size, fun b hb => h.2.2.2.2 b (by omega) (fun hs => by have := hS b hs; omega)⟩

/-- A ring: the struct in block r, its row, its map; S: its blocks. -/
def Ring (w : World) (S : Nat → Prop) (r : Nat) (es : List En) : Prop :=
  ∃ m v, Blk w r 48 #[v, .map (some m)] ∧ EMap w m (marks es) ∧ OwnE w 0 v es ∧ S r ∧ S m ∧ (∀ g, v.ownBlock = some g → S g) ∧ ∀ b, S b → b < w.heap.size

theorem Blk.fr {S : Nat → Prop} {w w' : World} {g : Nat} {t : TypeId} {cs : Array Value} (h : Blk w g t cs) (hf : Fr S w w') (hn : ¬ S g) : Blk w' g t cs := (hf.2.2.2.2 g h.lt hn).trans h
theorem OwnE.fr {S : Nat → Prop} {w w' : World} {B : Nat} {v : Value} {es : List En} (h : OwnE w B v es) (hf : Fr S w w') (hn : ∀ g, v.ownBlock = some g → ¬ S g) : OwnE w' B v es := by
  rcases h.2 with ⟨rfl, h2⟩ | ⟨g, cap, cur, rfl, hb, hg, rest⟩
  · exact ⟨h.1, .inl ⟨rfl, h2⟩⟩
  · exact ⟨h.1, .inr ⟨g, cap, cur, rfl, hb, (hf.2.2.2.2 g (Array.getElem?_eq_some_iff.1 hg).1 (hn g rfl)).trans hg, rest⟩⟩
theorem Ring.fr {S T : Nat → Prop} {w w' : World} {r : Nat} {es : List En} (h : Ring w T r es) (hf : Fr S w w') (hd : ∀ b, T b → ¬ S b) : Ring w' T r es := by
  obtain ⟨m, v, h1, h2, h3, h4, h5, h6, h7⟩ := h
  exact ⟨m, v, h1.fr hf (hd _ h4), h2.same (hf.2.2.2.2 m h2.lt (hd _ h5)), h3.fr hf (fun g hg => hd _ (h6 g hg)), h4, h5, h6, fun b hb => Nat.lt_of_lt_of_le (h7 b hb) hf.size⟩
theorem Ring.below {T : Nat → Prop} {w w' : World} {r : Nat} {es : List En} (h : Ring w T r es) (hb : Below w.heap.size w w') : Ring w' T r es := h.fr (S := fun _ => False) (Fr.of_below hb) (fun _ _ h => h)

theorem isKey_any (k : Int) (w : World) (b : Bool) (hb : b = (decide (0 ≤ k) && decide (k < 5000))) :
    Calls Try.prog 21 #[.int .i64 k] w fun e w' => e = .returned (.bool b) ∧ w = w' := by
  by_cases h0 : 0 ≤ k
  · by_cases h1 : k < 5000
    · have : b = true := by rw [hb]; simp [h0, h1]
      subst this
      clear hb
      go_enter Try.func21, Try.ntmps21
      go_wp2_with fail
      go_ret
      exact ⟨rfl, rfl⟩
    · have : b = false := by rw [hb]; simp [h1]
      subst this
      clear hb
      go_enter Try.func21, Try.ntmps21
      go_wp2_with fail
      go_ret
      exact ⟨rfl, rfl⟩
  · have : b = false := by rw [hb]; simp [h0]
    subst this
    clear hb
    go_enter Try.func21, Try.ntmps21
    go_wp2_with fail
    go_ret
    exact ⟨rfl, rfl⟩

theorem new_any (w : World) : Calls Try.prog 9 #[] w fun e w' => ∃ r S, e = .returned (.pointer (some ⟨r, 0, none⟩)) ∧ Ring w' S r [] ∧ (∀ b, S b → w.heap.size ≤ b) ∧ Below w.heap.size w w' := by
  have hmm := @run_makeMap Try.prog
  go_enter Try.func9, Try.ntmps9
  go_wp2_with fail
  go_ret
  refine ⟨_, fun b => b = w.heap.size ∨ b = w.heap.size + 1, rfl, ⟨w.heap.size, .slice none 0 0, ?_, ?_, OwnE.nil _ _, .inr rfl, .inl rfl, (fun g hg => by cases hg), ?_⟩, ?_, ?_⟩
  · have := Blk.new (w.alloc (.map #[] 0)) 48 #[.slice none 0 0, .map (some w.heap.size)]
    simpa using this
  · refine ((EMap.made w).same (Below.heap_alloc _ _ _ (by simp))).congr fun x => by rw [marks_out (by simp)]
  · intro b hb
    simp
    omega
  · intro b hb
    omega
  · exact ((Below.refl _ w).alloc (Nat.le_refl _) _).alloc (by simp) _

theorem Try.infoB : (Try.prog.info? 5).map (fun i => (i.zero, i.size, i.bytes)) = some (some (.int .u8 0), 1, 1) := by kernel_rfl

set_option maxRecDepth 100000 in
set_option maxHeartbeats 4000000 in
theorem litClone_any (s : ByteArray) (w : World) (hl : s.size ≤ 1000) :
    Calls Try.prog 28 #[.string s] w fun e w' => e = .returned (.string s) ∧ Below w.heap.size w w' := by
  by_cases h0 : s.size = 0
  · have hs : s = ⟨#[]⟩ := ByteArray.ext (Array.eq_empty_of_size_eq_zero h0)
    subst hs
    go_enter Try.func28, Try.ntmps28
    go_wp2_with fail
    go_ret
    exact ⟨rfl, Below.refl _ _⟩
  · obtain ⟨i0, hi, hz0, hz1, hz2⟩ := info_parts Try.infoB
    have hinfo : (Try.prog.info? 5).map (·.size) = some 1 := by rw [hi]; simp [hz1]
    have hco : Try.prog.cellsOf 5 = 1 := by simp [Program.cellsOf, hi, hz1]
    obtain ⟨M, hM⟩ : ∃ M, M = madeCells (Value.int .u8 0).cells (((s.size : Nat) : Int).toNat * i0.size) := ⟨_, rfl⟩
    have hMs : M.size = s.size := by rw [hM, size_madeCells, hz1]; simp
    have hmk : ∀ W : World, (Instr.makeSlice 59 (.int .i64 (s.size : Int)) (.int .i64 (s.size : Int))).run Try.prog W = .ok (.slice (some ⟨W.heap.size, 0, none⟩) s.size s.size) (W.alloc (.cells M 5)) := fun W => by
      have h := run_make (P := Try.prog) W 59 5 i0 (.int .u8 0) Try.underlying59 hi hz0 .i64 .i64 (s.size : Int) (s.size : Int) (by omega) (by omega) (by rw [hz2]; omega) (by omega)
      rw [← hM] at h
      simpa using h
    clear hM
    have hcp := Lib.run_copy_row_string (P := Try.prog) (w.alloc (.cells M 5)) 59 9 3 5 w.heap.size 0 s.size s.size s M 5 Try.underlying59 hinfo (heap_alloc_new w _) (Nat.le_refl _) (by omega)
    obtain ⟨Y, hY⟩ : ∃ Y, Y = (M.toList.take 0 ++ Lib.byteCells s.data.toList ++ M.toList.drop (0 + s.size)).toArray := ⟨_, rfl⟩
    rw [← hY] at hcp
    have hYl : Y.toList = Lib.byteCells s.data.toList := by
      rw [hY, List.toList_toArray, List.take_zero, List.nil_append, List.drop_of_length_le (by rw [Array.length_toList]; omega), List.append_nil]
    have hYs : Y.size = s.size := by rw [← Array.length_toList, hYl, Lib.byteCells_length, ← Lib.size_eq]
    have hgY : ((w.alloc (.cells M 5)).setRow w.heap.size Y).heap[w.heap.size]? = some (.cells Y 5 (0, 0)) := setRow_heap _ _ M _ 5 (0, 0) (heap_alloc_new w _)
    have hne : s.data.toList ≠ [] := fun e => h0 (by rw [Lib.size_eq, e]; rfl)
    have hUS := Lib.run_unsafeString_row (P := Try.prog) ((w.alloc (.cells M 5)).setRow w.heap.size Y) 60 3 9 5 Try.underlying60 hco w.heap.size Y.size (by unfold World.shape?; rw [hgY]) s.data.toList hne (by rw [← Lib.size_eq]; omega) (by rw [← Lib.size_eq]; omega)
      (fun j x hx => Lib.cells_of_row hgY Y.size j _ (by rw [List.take_of_length_le (by rw [Array.length_toList]; exact Nat.le_refl _), hYl]; simp [Lib.byteCells, hx]))
    rw [← Lib.size_eq] at hUS
    clear hY
    go_enter Try.func28, Try.ntmps28
    go_wp2
    go_ret
    have hb1 : Below w.heap.size w (w.alloc (.cells M 5)) := (Below.refl _ w).alloc (Nat.le_refl _) _
    have hb2 : Below w.heap.size (w.alloc (.cells M 5)) ((w.alloc (.cells M 5)).setRow w.heap.size Y) := ⟨rfl, rfl, rfl, by simp, fun k hk => setRow_other _ _ _ _ (by omega)⟩
    exact ⟨rfl, Lib.below_freeze (hb1.trans hb2) (p := ⟨w.heap.size, 0, none⟩) (Nat.le_refl _) _⟩

theorem strClone_any (s : ByteArray) (w : World) (hl : s.size ≤ 1000) :
    Calls Try.prog 26 #[.string s] w fun e w' => e = .returned (.string s) ∧ Below w.heap.size w w' := by
  go_enter Try.func26, Try.ntmps26
  go_wp2_with fail
  refine (litClone_any s _ hl).mono ?_
  rintro e w1 ⟨rfl, hb⟩
  go_wp2_with fail
  go_ret
  exact ⟨rfl, hb⟩

end Go.Proofs.Ytmlhladdoalfdaa
