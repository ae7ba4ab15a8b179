/- Walk of All: a copy of the list of the records. -/
import Derived.Test.YtgocnjiabfmdpaaJd
import Derived.Laws.CopyOwn
namespace Go.Proofs.Ytgocnjiabfmdpaa
set_option maxRecDepth 8000
open Go.RowKit Wire

theorem own_full {w : World} {B g n : Nat} {l : List Value} (hB : B ≤ g) (hg : w.heap[g]? = some (.cells l.toArray 9 (0, 0))) (hn : l.length = n) (hm : n ≤ maxLen) : w.ownsRow B 9 1 (.slice (some ⟨g, 0, none⟩) n n) n l :=
  ⟨by rw [hn, Nat.mul_one], .inr ⟨g, n, l.toArray, rfl, hB, hg, Nat.le_refl _, hm, by rw [List.size_toArray, hn, Nat.mul_one], by rw [List.toList_toArray, Nat.mul_one, ← hn, List.take_length]⟩⟩

set_option maxHeartbeats 1000000 in
theorem jall_any {L : Lab} {w : World} {kj j d : Nat} {f : Int} {a : List (List UInt8)} {bad : Bool} (hj : JAt L w kj j d f a bad) (hlen : a.length ≤ 10000000) :
    Calls Try.prog 42 #[.pointer (some ⟨j, 0, none⟩)] w fun e w' => ∃ v, e = .returned v ∧ OwnS w' w.heap.size v a ∧ Below w.heap.size w w' := by
  have hjl := hj.lt
  obtain ⟨rv, a1, a2, a3⟩ := hj
  obtain ⟨i0, hi, hz0, hz1, hz2⟩ := info_parts Try.info9
  have hinfo : (Try.prog.info? 9).map (·.size) = some 1 := by rw [hi]; simp [hz1]
  obtain ⟨A, c, rfl⟩ : ∃ A c, rv = .slice A a.length c := by
    rcases a3.1.2 with ⟨rfl, h0⟩ | ⟨g, c, _, rfl, _⟩
    · exact ⟨none, 0, by rw [h0]⟩
    · exact ⟨_, c, rfl⟩
  obtain ⟨M, hM⟩ : ∃ M, M = (madeCells (Value.string ByteArray.empty).cells (((a.length : Nat) : Int).toNat * i0.size)).toList := ⟨_, rfl⟩
  have hMs : M.length = a.length := by rw [hM, Array.length_toList, size_madeCells, hz1]; simp
  have hmk : (Instr.makeSlice 57 (.int .i64 (a.length : Int)) (.int .i64 (a.length : Int))).run Try.prog w = .ok (.slice (some ⟨w.heap.size, 0, none⟩) a.length a.length) (w.alloc (.cells M.toArray 9)) := by
    have h := run_make (P := Try.prog) w 57 9 i0 (.string ByteArray.empty) Try.underlying57 hi hz0 .i64 .i64 (a.length : Int) (a.length : Int) (by omega) (by omega) (by rw [hz2]; omega) (by omega)
    rw [hM, Array.toArray_toList]
    simpa using h
  clear hM
  have al2 := blk_alloc a2 (.cells M.toArray 9)
  have c2 := blk_cell a2 2
  have d2 := blk_cell al2 2
  simp [jcells] at c2 d2
  have hsrc : ∀ ii u, (a.map strV)[ii]? = some u → ∃ g, A = some ⟨g, 0, none⟩ ∧ (w.alloc (.cells M.toArray 9)).cell? ((⟨g, 0, none⟩ : Addr).add ii) = some u := fun ii u hu => by
    have hii : ii < a.length := by have := (List.getElem?_eq_some_iff.1 hu).1; simpa using this
    obtain ⟨g, rfl, _, hgl, hc⟩ := a3.cellS ii hii
    refine ⟨g, rfl, ?_⟩
    have e : (⟨g, 0, none⟩ : Addr).add ii = ⟨g, ii, none⟩ := by unfold Addr.add; split <;> simp_all
    rw [e, alloc_cell hc]
    rw [List.getElem?_map, List.getElem?_eq_getElem hii] at hu
    rw [List.getD_eq_getElem?_getD, List.getElem?_eq_getElem hii]
    exact hu
  have hpos : 0 < (a.map strV).length → some (⟨w.heap.size, 0, none⟩ : Addr) = some ⟨w.heap.size, 0, none⟩ ∧ ∃ ad, A = some ad ∧ ∀ ii u, (a.map strV)[ii]? = some u → (w.alloc (.cells M.toArray 9)).cell? (ad.add ii) = some u := fun h0 => ⟨rfl, by
    obtain ⟨u, hu⟩ : ∃ u, (a.map strV)[0]? = some u := ⟨_, List.getElem?_eq_getElem h0⟩
    obtain ⟨g, rfl, _⟩ := hsrc 0 u hu
    refine ⟨_, rfl, fun ii v hv => ?_⟩
    obtain ⟨g', e, h⟩ := hsrc ii v hv
    injection e with e
    rw [e]; exact h⟩
  have h1c : ∀ v ∈ a.map strV, v.oneCell' = true := fun v hv => by obtain ⟨c, _, rfl⟩ := List.mem_map.1 hv; rfl
  have hmin : (a.map strV).length = Nat.min a.length a.length := by rw [List.length_map, show Nat.min a.length a.length = a.length from Nat.min_self _]
  have hfit : 0 + (a.map strV).length ≤ M.length := by rw [List.length_map]; omega
  have HS := Lib.hid (And.intro hpos (And.intro h1c (And.intro hmin hfit)))
  clear hsrc hpos h1c hmin hfit
  go_enter Try.func42, Try.ntmps42
  go_wp2_with (with_reducible (refine wpList_copy_splice rfl (.tmp 10) (.tmp 14) 57 57 rfl 9 Try.underlying57 hinfo (some ⟨w.heap.size, 0, none⟩) A a.length a.length a.length c rfl rfl w.heap.size 0 M 9 (heap_alloc_new w _) (a.map strV) HS.out.2.2.1 HS.out.1 HS.out.2.2.2 HS.out.2.1 w.heap.size w ((Below.refl _ w).alloc (Nat.le_refl _) _) (Nat.le_refl _) ?_; intro w2 hg2 hb2))

  go_ret
  refine ⟨_, rfl, own_full (Nat.le_refl _) (by
    have h := hg2.out
    have e : splice M 0 (a.map strV) = a.map strV := by
      unfold splice
      rw [List.take_zero, List.nil_append, List.drop_of_length_le (by simp; omega), List.append_nil]
    rw [e] at h
    exact h) (by simp) (by unfold maxLen; omega), hb2⟩

end Go.Proofs.Ytgocnjiabfmdpaa
