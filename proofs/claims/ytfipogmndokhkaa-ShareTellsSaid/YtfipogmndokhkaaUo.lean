/- The small examples of share, as contracts. -/
import Derived.Test.YtfipogmndokhkaaUn
namespace Go.Proofs.Ytfipogmndokhkaa
open Go.RowKit

theorem line_pol : Pol 2 (fun x => 2 * x + 5) := ⟨[5, 2], rfl, fun x => by simp [ev]⟩
theorem cg_lin (x : Int) : Cg (2 * x + 5) (2 * x + 5) := Cg.refl _
theorem thru_a : Thru (fun x => 2 * x + 5) [(1, 7), (2, 9)] := Thru.of_mem fun d hd => by
  simp at hd
  rcases hd with rfl | rfl <;> exact Cg.of_eq (by decide)
theorem thru_m : Thru (fun x => 2 * x + 5) [(1, 7), (2, 9), (3, 11)] := Thru.of_mem fun d hd => by
  simp at hd
  rcases hd with rfl | rfl | rfl <;> exact Cg.of_eq (by decide)
theorem apart12 : Apart [1, 2] := Apart.of_get fun i j hij hj => by
  simp at hj
  have : i = 0 ∧ j = 1 := by omega
  obtain ⟨rfl, rfl⟩ := this
  rintro ⟨t, ht⟩
  simp at ht
  omega
theorem line_only {g : Int → Int} (hg : Pol 2 g) (h1 : Cg (g 1) 7) (h2 : Cg (g 2) 9) (x : Int) : Cg (g x) (2 * x + 5) := by
  refine Pol.same [1, 2] hg line_pol apart12 (fun r hr => ?_) x
  simp at hr
  rcases hr with rfl | rfl
  · exact h1
  · exact h2
theorem not_bad : ¬ OnP [(1, 7), (2, 9), (3, 12)] 2 := fun ⟨g, hg, ht⟩ => by
  have h := (line_only hg (ht.mem (1, 7) (by simp)) (ht.mem (2, 9) (by simp)) 3).symm.trans (ht.mem (3, 12) (by simp))
  obtain ⟨t, h⟩ := h
  simp at h
  omega
theorem not_six : ¬ OnP [(0, 6), (1, 7), (2, 9)] 2 := fun ⟨g, hg, ht⟩ => by
  have h := (line_only hg (ht.mem (1, 7) (by simp)) (ht.mem (2, 9) (by simp)) 0).symm.trans (ht.mem (0, 6) (by simp))
  obtain ⟨t, h⟩ := h
  simp at h
  omega
theorem is_five : OnP [(0, 5), (1, 7), (2, 9)] 2 := ⟨_, line_pol, Thru.of_mem fun d hd => by
  simp at hd
  rcases hd with rfl | rfl | rfl <;> exact Cg.of_eq (by decide)⟩
theorem apart01 : Apart [0, 1] := Apart.of_get fun i j hij hj => by
  simp at hj
  have : i = 0 ∧ j = 1 := by omega
  obtain ⟨rfl, rfl⟩ := this
  rintro ⟨t, ht⟩
  simp at ht
  omega
theorem few_on (y : Int) : OnP [(0, y), (1, 7)] 2 := onP_few apart01 (Nat.le_refl _)
theorem rt_a : Rt [(1, 7), (2, 9)] := fun d hd => by
  simp at hd
  rcases hd with rfl | rfl <;> decide
theorem rt_m : Rt [(1, 7), (2, 9), (3, 11)] := fun d hd => by
  simp at hd
  rcases hd with rfl | rfl | rfl <;> decide
theorem rt_b : Rt [(1, 7), (2, 9), (3, 12)] := fun d hd => by
  simp at hd
  rcases hd with rfl | rfl | rfl <;> decide
theorem rt_1 : Rt [(1, 7)] := fun d hd => by
  simp at hd
  subst hd
  decide
theorem rt_t : Rt [(1, 7), (1, 7)] := fun d hd => by
  simp at hd
  subst hd
  decide

section
variable (A : Option Addr) (c : Nat) (w : World)
theorem ex_a (hS : ShAt w.heap.size w A [(1, 7), (2, 9)]) (hc : 2 ≤ c) (hm : c ≤ 9223372036854775807) :
    Calls Try.prog 10 #[.slice A 2 c, .int .i64 2] w fun e w' => e = .returned (.tuple #[.int .i64 5, .int .i64 0]) ∧ Below w.heap.size w w' :=
  join_ok [(1, 7), (2, 9)] A c w 2 hS (by decide) hc hm (by decide) (by decide) rt_a (by decide) (by decide) _ line_pol thru_a
theorem ex_m (hS : ShAt w.heap.size w A [(1, 7), (2, 9), (3, 11)]) (hc : 3 ≤ c) (hm : c ≤ 9223372036854775807) :
    Calls Try.prog 10 #[.slice A 3 c, .int .i64 2] w fun e w' => e = .returned (.tuple #[.int .i64 5, .int .i64 0]) ∧ Below w.heap.size w w' :=
  join_ok [(1, 7), (2, 9), (3, 11)] A c w 2 hS (by decide) hc hm (by decide) (by decide) rt_m (by decide) (by decide) _ line_pol thru_m
theorem ex_b (hS : ShAt w.heap.size w A [(1, 7), (2, 9), (3, 12)]) (hc : 3 ≤ c) (hm : c ≤ 9223372036854775807) :
    Calls Try.prog 10 #[.slice A 3 c, .int .i64 2] w fun e w' => e = .returned (.tuple #[.int .i64 0, .int .i64 23]) ∧ Below w.heap.size w w' :=
  join_check [(1, 7), (2, 9), (3, 12)] A c w 2 hS (by decide) hc hm (by decide) (by decide) rt_b (by decide) (by decide) not_bad
theorem ex_1 (hS : ShAt w.heap.size w A [(1, 7)]) :
    Calls Try.prog 10 #[.slice A 1 c, .int .i64 2] w fun e w' => e = .returned (.tuple #[.int .i64 0, .int .i64 21]) ∧ Below w.heap.size w w' :=
  join_few [(1, 7)] A c w 2 hS (by decide) (by decide) (by decide) rt_1 (by decide) (by decide)
theorem ex_t (hS : ShAt w.heap.size w A [(1, 7), (1, 7)]) :
    Calls Try.prog 10 #[.slice A 2 c, .int .i64 2] w fun e w' => e = .returned (.tuple #[.int .i64 0, .int .i64 5]) ∧ Below w.heap.size w w' :=
  join_twice [(1, 7), (1, 7)] A c w 2 hS (by decide) (by decide) (by decide) rt_t (by decide)
theorem ex_f1 (y : Int) (h0 : 0 ≤ y) (h1 : y < 2147483647) (hS : ShAt w.heap.size w A [(1, 7)]) :
    Calls Try.prog 13 #[.slice A 1 c, .int .i64 2, .int .i64 y] w fun e w' => e = .returned (.bool true) ∧ Below w.heap.size w w' :=
  fits_good [(1, 7)] A c w 2 y hS (by decide) (by decide) (by decide) h0 h1 rt_1 (by decide) true (by simp; exact few_on y)
theorem ex_f2 (hS : ShAt w.heap.size w A [(1, 7), (2, 9)]) :
    Calls Try.prog 13 #[.slice A 2 c, .int .i64 2, .int .i64 5] w fun e w' => e = .returned (.bool true) ∧ Below w.heap.size w w' :=
  fits_good [(1, 7), (2, 9)] A c w 2 5 hS (by decide) (by decide) (by decide) (by decide) (by decide) rt_a (by decide) true (by simp; exact is_five)
theorem ex_f3 (hS : ShAt w.heap.size w A [(1, 7), (2, 9)]) :
    Calls Try.prog 13 #[.slice A 2 c, .int .i64 2, .int .i64 6] w fun e w' => e = .returned (.bool false) ∧ Below w.heap.size w w' :=
  fits_good [(1, 7), (2, 9)] A c w 2 6 hS (by decide) (by decide) (by decide) (by decide) (by decide) rt_a (by decide) false (by simp; exact not_six)
theorem ex_s : Calls Try.prog 8 #[.int .i64 5, .int .i64 1, .int .i64 3, .int .i64 9] w fun e w' => ∃ v, e = .returned (.tuple #[v, .int .i64 0]) ∧ OwnS w' w.heap.size v [(1, 5), (2, 5), (3, 5)] ∧ Below w.heap.size w w' :=
  split_good 5 1 3 9 w (by decide)
end

/-- Shares that were just laid. -/
theorem lit1 (w : World) (x y : Int) : ShAt (w.alloc (.cells #[.int .i64 x, .int .i64 y] 39)).heap.size (w.alloc (.cells #[.int .i64 x, .int .i64 y] 39)) (some ⟨w.heap.size, 0, none⟩) [(x, y)] := fun j hj => by
  have : j = 0 := by simpa using hj
  subst this
  have k0 := Blk.new w 39 #[.int .i64 x, .int .i64 y]
  exact ⟨w.heap.size, 0, rfl, by simp, k0.cell 0, k0.cell 1⟩
theorem lit2 (w : World) (x y x' y' : Int) : ShAt (w.alloc (.cells #[.int .i64 x, .int .i64 y, .int .i64 x', .int .i64 y'] 39)).heap.size (w.alloc (.cells #[.int .i64 x, .int .i64 y, .int .i64 x', .int .i64 y'] 39)) (some ⟨w.heap.size, 0, none⟩) [(x, y), (x', y')] := fun j hj => by
  have k0 := Blk.new w 39 #[.int .i64 x, .int .i64 y, .int .i64 x', .int .i64 y']
  have : j = 0 ∨ j = 1 := by simp at hj; omega
  rcases this with rfl | rfl
  · exact ⟨w.heap.size, 0, rfl, by simp, k0.cell 0, k0.cell 1⟩
  · exact ⟨w.heap.size, 0, rfl, by simp, k0.cell 2, k0.cell 3⟩
theorem lit3 (w : World) (x y x' y' x2 y2 : Int) : ShAt (w.alloc (.cells #[.int .i64 x, .int .i64 y, .int .i64 x', .int .i64 y', .int .i64 x2, .int .i64 y2] 39)).heap.size (w.alloc (.cells #[.int .i64 x, .int .i64 y, .int .i64 x', .int .i64 y', .int .i64 x2, .int .i64 y2] 39)) (some ⟨w.heap.size, 0, none⟩) [(x, y), (x', y'), (x2, y2)] := fun j hj => by
  have k0 := Blk.new w 39 #[.int .i64 x, .int .i64 y, .int .i64 x', .int .i64 y', .int .i64 x2, .int .i64 y2]
  have : j = 0 ∨ j = 1 ∨ j = 2 := by simp at hj; omega
  rcases this with rfl | rfl | rfl
  · exact ⟨w.heap.size, 0, rfl, by simp, k0.cell 0, k0.cell 1⟩
  · exact ⟨w.heap.size, 0, rfl, by simp, k0.cell 2, k0.cell 3⟩
  · exact ⟨w.heap.size, 0, rfl, by simp, k0.cell 4, k0.cell 5⟩
theorem emptyS (w : World) {B : Nat} (hB : B ≤ w.heap.size) : OwnS (w.alloc (.cells #[] 39)) B (.slice (some ⟨w.heap.size, 0, none⟩) 0 0) [] :=
  ⟨rfl, .inr ⟨w.heap.size, 0, #[], rfl, hB, heap_alloc_new w _, Nat.le_refl _, Nat.zero_le _, rfl, rfl⟩⟩

end Go.Proofs.Ytfipogmndokhkaa
