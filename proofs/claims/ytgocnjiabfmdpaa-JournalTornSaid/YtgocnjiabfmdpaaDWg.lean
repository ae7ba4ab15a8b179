/- Walks of slices.IndexFunc and slices.DeleteFunc at sectors, with forget's function; forget. -/
import Derived.Test.YtgocnjiabfmdpaaDWe
import Derived.Test.YtgocnjiabfmdpaaDMc
import Derived.BigRegion
namespace Go.Proofs.Ytgocnjiabfmdpaa
set_option maxRecDepth 8000
open Go.RowKit

def sv (p : Int × Int) : Value := .agg #[.int .i64 p.1, .int .i64 p.2]

theorem same_any {w : World} (p : Int × Int) (f : Int) (q : Nat) (hq : w.cell? ⟨q, 0, none⟩ = some (.int .i64 f)) :
    Calls Try.prog 89 #[.agg #[.int .i64 p.1, .int .i64 p.2], .pointer (some ⟨q, 0, none⟩)] w fun e w' => e = .returned (.bool (p.1 == f)) ∧ Below w.heap.size w w' := by
  have lq : q < w.heap.size := World.block_lt_of_cell? w _ hq
  go_enter Try.func89, Try.ntmps89
  go_wp2_with fail
  go_ret
  exact ⟨rfl, (Below.refl _ _).alloc (Nat.le_refl _) _⟩

/-- The sectors of a slice of them. -/
theorem pc_cells {w : World} {g n c : Nat} {l : List (Int × Int)} (h : w.ownsRow 0 95 2 (.slice (some ⟨g, 0, none⟩) n c) n (pc l)) (j : Nat) (hj : j < l.length) (hn : l.length = n) :
    w.cell? ⟨g, j * 2, none⟩ = some (.int .i64 l[j].1) ∧ w.cell? ⟨g, j * 2 + 1, none⟩ = some (.int .i64 l[j].2) := by
  obtain ⟨h1, h2⟩ := pc_get l j hj
  exact ⟨by rw [h.cellAt (j * 2) (by omega), Nat.mul_comm]; exact h1, by rw [h.cellAt (j * 2 + 1) (by omega), Nat.mul_comm]; exact h2⟩

def IdxPost (w : World) (f : Int) (l : List (Int × Int)) (e : Ending) (w' : World) : Prop :=
  Below w.heap.size w w' ∧ ((e = .returned (.int .i64 (-1)) ∧ ∀ p ∈ l, p.1 ≠ f) ∨ ∃ j : Nat, e = .returned (.int .i64 j) ∧ ∃ h : j < l.length, l[j].1 = f ∧ ∀ i (hi : i < j), (l[i]'(by omega)).1 ≠ f)

set_option maxHeartbeats 400000 in
theorem index_any {w : World} {v : Value} (l : List (Int × Int)) (f : Int) (q : Nat) (hq : w.cell? ⟨q, 0, none⟩ = some (.int .i64 f)) (hown : w.ownsRow 0 95 2 v l.length (pc l)) (hl : l.length ≤ 4194304) :
    Calls Try.prog 103 #[v, .func (.func 89) #[] #[.pointer (some ⟨q, 0, none⟩)]] w (IdxPost w f l) := by
  have lq : q < w.heap.size := World.block_lt_of_cell? w _ hq
  rcases own_form hown with ⟨rfl, hz⟩ | ⟨g, c, rfl, hnc, hc1⟩
  · have hl0 : l = [] := List.eq_nil_of_length_eq_zero hz
    subst hl0
    go_enter Try.func103, Try.ntmps103
    go_wp2_with fail
    refine wp_loop_rounds 1 ?_
    rw [rounds_succ]
    go_wp2_with fail
    go_ret
    exact ⟨Below.refl _ _, Or.inl ⟨rfl, by simp⟩⟩
  · have hcells := fun j hj => pc_cells hown j hj rfl
    have lg : g < w.heap.size := ((hown.lt) g rfl).2
    go_enter Try.func103, Try.ntmps103
    go_wp2_with fail
    go_loopw [8] (fun i wr => ∃ j : Nat, j ≤ l.length ∧ i = .int .i64 j ∧ Below w.heap.size w wr ∧ ∀ i (hi : i < j) (hil : i < l.length), l[i].1 ≠ f) (fun i _ => l.length - (intOf i).toNat)
    case atStart => exact ⟨0, Nat.zero_le _, rfl, Below.refl _ _, fun i hi => by omega⟩
    case round =>
      obtain ⟨j, hj, rfl, hbr, hno⟩ := hrel
      have HNO := Lib.hid hno
      clear hno
      by_cases hlt : j < l.length
      · obtain ⟨h1, h2⟩ := hcells j hlt
        have h3 := (hbr.cell (p := ⟨g, j * 2, none⟩) lg).trans h1
        have h4 := (hbr.cell (p := ⟨g, j * 2 + 1, none⟩) lg).trans h2
        have h5 := (hbr.cell (p := ⟨q, 0, none⟩) lq).trans hq
        have hlj : ∃ p, l[j] = p := ⟨_, rfl⟩
        obtain ⟨p, hp⟩ := hlj
        rw [hp] at h3 h4
        have HP := Lib.hid hp
        clear h1 h2 hp
        by_cases hpf : p.1 = f
        · have HB : Hid ((p.1 == f) = true) := show _ = _ by simp [hpf]
          have HPF := Lib.hid hpf
          clear hpf
          go_wp2_with fail
          refine (same_any p f q h5).mono ?_
          rintro e w1 ⟨rfl, hb1⟩
          rw [HB.out]
          go_wp2_with fail
          go_ret
          exact ⟨hbr.trans (hb1.mono hbr.size), Or.inr ⟨j, rfl, hlt, by rw [HP.out]; exact HPF.out, fun i hi => HNO.out i hi (by omega)⟩⟩
        · have HB : Hid ((p.1 == f) = false) := show _ = _ by simp [hpf]
          have HPF := Lib.hid hpf
          clear hpf
          go_wp2_with fail
          refine (same_any p f q h5).mono ?_
          rintro e w1 ⟨rfl, hb1⟩
          rw [HB.out]
          go_wp2_with fail
          go_roundw
          case rel =>
            refine ⟨j + 1, by omega, by go_num, hbr.trans (hb1.mono hbr.size), fun i hi hil => ?_⟩
            by_cases hij : i = j
            · subst hij; rw [HP.out]; exact HPF.out
            · exact HNO.out i (by omega) hil
          case measure => simp [intOf]; omega
      · go_wp2_with fail
        go_ret
        refine ⟨hbr, Or.inl ⟨rfl, fun p hp => ?_⟩⟩
        obtain ⟨i, hi, rfl⟩ := List.getElem_of_mem hp
        exact HNO.out i (by omega) hi

end Go.Proofs.Ytgocnjiabfmdpaa
