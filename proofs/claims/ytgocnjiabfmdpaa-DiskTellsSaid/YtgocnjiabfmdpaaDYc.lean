/- The reference's get. -/
import Derived.Test.YtgocnjiabfmdpaaDYb
namespace Go.Proofs.Ytgocnjiabfmdpaa
set_option maxRecDepth 8000
open Go.RowKit

theorem fc_get (l : List Fl) (j : Nat) (h : j < l.length) : (fc l)[3 * j]? = some (.int .i64 l[j].num) ∧ (fc l)[3 * j + 1]? = some (.string (ba l[j].now)) ∧ (fc l)[3 * j + 2]? = some (.string (ba l[j].last)) := by
  induction l generalizing j with
  | nil => simp at h
  | cons p l ih =>
    cases j with
    | zero => simp [fc]
    | succ j =>
      have h1 := ih j (by simpa using h)
      have e1 : 3 * (j + 1) = 3 * j + 1 + 1 + 1 := by omega
      have e3 : 3 * j + 1 + 1 + 1 + 2 = 3 * j + 2 + 1 + 1 + 1 := by omega
      simp only [fc, List.flatMap_cons] at h1 ⊢
      rw [e1, e3]
      simpa using h1

theorem own_files {w : World} {v : Value} {l : List Fl} (h : w.ownsRow 0 90 3 v l.length (fc l)) : ∃ A c, v = .slice A l.length c ∧ l.length ≤ 9223372036854775807 ∧ ∀ j (hj : j < l.length), ∃ g, A = some ⟨g, 0, none⟩ ∧ g < w.heap.size ∧
    w.cell? ⟨g, j * 3, none⟩ = some (.int .i64 l[j].num) ∧ w.cell? ⟨g, j * 3 + 1, none⟩ = some (.string (ba l[j].now)) ∧ w.cell? ⟨g, j * 3 + 2, none⟩ = some (.string (ba l[j].last)) := by
  rcases own_form h with ⟨rfl, hz⟩ | ⟨g, c, rfl, hnc, hc1⟩
  · exact ⟨none, 0, by rw [hz], by omega, fun j hj => by omega⟩
  · refine ⟨_, c, rfl, by omega, fun j hj => ⟨g, rfl, ((h.lt) g rfl).2, ?_⟩⟩
    obtain ⟨f1, f2, f3⟩ := fc_get l j hj
    have hc := h.cells (g := g) rfl
    have key : ∀ i u, (fc l)[i]? = some u → w.cell? ⟨g, i, none⟩ = some u := fun i u hu => by
      have := hc i u hu
      rwa [Go.WideShapes.add_plain, Nat.zero_add] at this
    exact ⟨by rw [Nat.mul_comm]; exact key _ _ f1, by rw [Nat.mul_comm]; exact key _ _ f2, by rw [Nat.mul_comm]; exact key _ _ f3⟩

theorem getF_drop (l : List Fl) (f : Int) (j : Nat) (hj : j < l.length) : getF (l.drop j) f = if l[j].num = f then l[j] else getF (l.drop (j + 1)) f := by
  rw [List.drop_eq_getElem_cons hj]
  rfl

def fval (x : Fl) : Value := .agg #[.int .i64 x.num, .string (ba x.now), .string (ba x.last)]

set_option maxRecDepth 100000 in
set_option maxHeartbeats 1000000 in
theorem rget_any {L : Lab} {w : World} {k d : Nat} {l : List Fl} {K : List Int} {s : St} (f : Int) (h : RAt L w k d l K s) :
    Calls Try.prog 59 #[.pointer (some ⟨d, 0, none⟩), .int .i64 f] w fun e w' => e = .returned (fval (getF l f)) ∧ Below w.heap.size w w' := by
  obtain ⟨fv, qv, kv, hd, hb, hbody⟩ := h
  have c0 := blk_cell hb 0
  have ld := blk_lt hb
  simp [rcells] at c0
  obtain ⟨A, c, rfl, hm, hcells⟩ := own_files hbody.1.1
  have HC := Lib.hid hcells
  clear hb hbody hcells hd
  go_enter Try.func59, Try.ntmps59
  go_wp2_with fail
  go_loopw [5] (fun i wr => ∃ j : Nat, j ≤ l.length ∧ i = .int .i64 j ∧ Hid (wr = w.alloc (.cells #[.int .i64 0, .string ByteArray.empty, .string ByteArray.empty] 90 (0, 0)) ∧ getF (l.drop j) f = getF l f)) (fun i _ => l.length - (intOf i).toNat)
  case atStart => exact ⟨0, Nat.zero_le _, rfl, rfl, rfl⟩
  case round =>
    obtain ⟨j, hj, rfl, HR⟩ := hrel
    obtain ⟨hw, hg⟩ := HR.out
    subst hw
    have c0' := (World.cell?_alloc_lt w (.cells #[.int .i64 0, .string ByteArray.empty, .string ByteArray.empty] 90 (0, 0)) ⟨d, 0, none⟩ ld).trans c0
    have r0 : (w.alloc (.cells #[.int .i64 0, .string ByteArray.empty, .string ByteArray.empty] 90 (0, 0))).heap[w.heap.size]? = some (.cells #[.int .i64 0, .string ByteArray.empty, .string ByteArray.empty] 90 (0, 0)) := heap_alloc_new w _
    by_cases hlt : j < l.length
    · obtain ⟨g, rfl, lg, h1, h2, h3⟩ := HC.out j hlt
      have hgd := getF_drop l f j hlt
      obtain ⟨x, hx⟩ : ∃ x, l[j] = x := ⟨_, rfl⟩
      rw [hx] at h1 h2 h3 hgd
      have h1' := (World.cell?_alloc_lt w (.cells #[.int .i64 0, .string ByteArray.empty, .string ByteArray.empty] 90 (0, 0)) ⟨g, j * 3, none⟩ lg).trans h1
      have h2' := (World.cell?_alloc_lt w (.cells #[.int .i64 0, .string ByteArray.empty, .string ByteArray.empty] 90 (0, 0)) ⟨g, j * 3 + 1, none⟩ lg).trans h2
      have h3' := (World.cell?_alloc_lt w (.cells #[.int .i64 0, .string ByteArray.empty, .string ByteArray.empty] 90 (0, 0)) ⟨g, j * 3 + 2, none⟩ lg).trans h3
      have HG := Lib.hid (And.intro hg (And.intro hgd hx))
      clear hg hgd hx HR h1 h2 h3
      by_cases hnf : x.num = f
      · go_wp2_with fail
        refine bodyPost_ret (results_cell_row rfl _ _ w.heap.size 90 _ (0, 0) _ rfl (heap_alloc_new w _) Try.underlying90 rfl (by kernel_rfl)) rfl ?_
        rw [← HG.out.1, HG.out.2.1, if_pos hnf, ← hnf]
        exact ⟨rfl, (Below.refl _ _).alloc (Nat.le_refl _) _⟩
      · go_wp2_with fail
        go_roundw
        case rel => exact ⟨j + 1, by omega, by go_num, trivial, by rw [← HG.out.1, HG.out.2.1, if_neg hnf]⟩
        case measure => simp [intOf]; omega
    · have hje : j = l.length := by omega
      subst hje
      rw [List.drop_length] at hg
      have HG := Lib.hid hg
      clear hg HR
      go_wp2_with fail
      refine bodyPost_ret (results_cell_row rfl _ _ w.heap.size 90 _ (0, 0) _ rfl (heap_alloc_new w _) Try.underlying90 rfl (by kernel_rfl)) rfl ?_
      rw [← HG.out]
      exact ⟨rfl, (Below.refl _ _).alloc (Nat.le_refl _) _⟩

end Go.Proofs.Ytgocnjiabfmdpaa
