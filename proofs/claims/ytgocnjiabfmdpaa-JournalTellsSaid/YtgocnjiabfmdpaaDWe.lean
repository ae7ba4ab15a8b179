/- Walks of slices.Clone at bytes, at sectors and at ints. -/
import Derived.Test.YtgocnjiabfmdpaaDWcd
namespace Go.Proofs.Ytgocnjiabfmdpaa
set_option maxRecDepth 8000
open Go.RowKit

/-- A slice that reads as the cells xs: nil, or at an address. -/
def Rd (w : World) (size : Nat) (v : Value) (n : Nat) (xs : List Value) : Prop :=
  xs.length = n * size ∧ ((v = .slice none 0 0 ∧ n = 0) ∨ ∃ ad c, v = .slice (some ad) n c ∧ ∀ j u, xs[j]? = some u → w.cell? (ad.add j) = some u)

theorem Rd.of_own {w : World} {e : TypeId} {size n : Nat} {v : Value} {xs : List Value} (h : w.ownsRow 0 e size v n xs) : Rd w size v n xs := by
  refine ⟨h.1, ?_⟩
  rcases own_form h with h0 | ⟨g, c, rfl, _, _⟩
  · exact Or.inl h0
  · exact Or.inr ⟨_, c, rfl, h.cells (g := g) rfl⟩

/-- What Clone leaves: the same cells in a block of their own, or nil. -/
def ClonePost (w : World) (e : TypeId) (size n : Nat) (xs : List Value) (en : Ending) (w' : World) : Prop :=
  ∃ v', en = .returned v' ∧ w'.ownsRow 0 e size v' n xs ∧ Below w.heap.size w w' ∧ ∀ g, v'.ownBlock = some g → w.heap.size ≤ g

theorem alloc_cell {w : World} {a : Addr} {u : Value} (h : w.cell? a = some u) (o : Obj) : (w.alloc o).cell? a = some u :=
  (World.cell?_alloc_lt w o a (World.block_lt_of_cell? w a h)).trans h

theorem clone_end {w w1 : World} {e T : TypeId} {size n : Nat} {v' : Value} {xs : List Value} (hown : w1.ownsRow 0 e size v' (0 + n) ([] ++ xs)) (hg : (w.alloc (.cells #[] T)).grownBy w1 (Value.slice (some ⟨w.heap.size, 0, none⟩) 0 0).ownBlock)
    (hat : v'.ownBlock = (Value.slice (some ⟨w.heap.size, 0, none⟩) 0 0).ownBlock ∨ v'.ownBlock = some (w.alloc (.cells #[] T)).heap.size) : w1.ownsRow 0 e size v' n xs ∧ Below w.heap.size w w1 ∧ ∀ g, v'.ownBlock = some g → w.heap.size ≤ g := by
  refine ⟨by simpa using hown, ((Below.refl _ _).alloc (Nat.le_refl _) _).grown hg (by simp) (fun k hk => by simp [Value.ownBlock] at hk; omega), fun g hg' => ?_⟩
  rcases hat with hat | hat
  · rw [hat] at hg'; simp [Value.ownBlock] at hg'; omega
  · rw [hat] at hg'; simp at hg'; omega

set_option maxHeartbeats 400000 in
theorem clone49 {w : World} {v : Value} {n : Nat} {xs : List Value} (h : Rd w 1 v n xs) (h1 : ∀ u ∈ xs, u.oneCell' = true) (hn : n ≤ 16777216) : Calls Try.prog 75 #[v] w (ClonePost w 5 1 n xs) := by
  obtain ⟨hl, h⟩ := h
  obtain ⟨i0, hi, hz0, hz1, hz2⟩ := info_parts Try.info5
  rcases h with ⟨rfl, rfl⟩ | ⟨ad, c, rfl, hc⟩
  · have hx : Hid (xs = []) := show _ = _ from List.eq_nil_of_length_eq_zero (by simpa using hl)
    clear hl
    have hnn := Lib.run_eql_slice_nil (P := Try.prog) w 73 5 none 0 0 0 0 Try.underlying73
    go_enter Try.func75, Try.ntmps75
    go_wp2_with fail
    go_ret
    rw [hx.out]
    exact ⟨_, rfl, World.ownsRow_nil _ _ _ _, Below.refl _ _, fun g hg => by simp [Value.ownBlock] at hg⟩
  · have HL := Lib.hid hl
    have HC := Lib.hid hc
    have hnn := Lib.run_eql_slice_nil (P := Try.prog) w 73 5 (some ad) n c 0 0 Try.underlying73
    clear hl hc
    go_enter Try.func75, Try.ntmps75
    go_wp2_with (at_builtin; refine wpList_append_own_at _ rfl (.tmp 5) (.tmp 6) 73 rfl 0 5 i0 (.int .u8 0) 1 1 Try.underlying73 hi hz0 hz1 hz2 rfl (by decide) _ _ _ rfl (World.ownsRow_made w #[] 0 (Nat.zero_le _) (by decide) rfl) ad n c xs rfl HL.out (fun j u hu => alloc_cell (HC.out j u hu) _) h1 (by unfold maxLen; omega) (by omega) (by omega) ?_; intro v1 w1 hown1 hg1 hnil1 hat1; have H := clone_end hown1 hg1 hat1; clear hown1 hg1 hnil1 hat1)
    go_ret
    exact ⟨_, rfl, H.1, H.2.1, H.2.2⟩

set_option maxHeartbeats 400000 in
theorem clone42 {w : World} {v : Value} {n : Nat} {xs : List Value} (h : Rd w 1 v n xs) (h1 : ∀ u ∈ xs, u.oneCell' = true) (hn : n ≤ 1000000) : Calls Try.prog 62 #[v] w (ClonePost w 3 1 n xs) := by
  obtain ⟨hl, h⟩ := h
  obtain ⟨i0, hi, hz0, hz1, hz2⟩ := info_parts Try.info3
  rcases h with ⟨rfl, rfl⟩ | ⟨ad, c, rfl, hc⟩
  · have hx : Hid (xs = []) := show _ = _ from List.eq_nil_of_length_eq_zero (by simpa using hl)
    clear hl
    have hnn := Lib.run_eql_slice_nil (P := Try.prog) w 31 3 none 0 0 0 0 Try.underlying31
    go_enter Try.func62, Try.ntmps62
    go_wp2_with fail
    go_ret
    rw [hx.out]
    exact ⟨_, rfl, World.ownsRow_nil _ _ _ _, Below.refl _ _, fun g hg => by simp [Value.ownBlock] at hg⟩
  · have HL := Lib.hid hl
    have HC := Lib.hid hc
    have hnn := Lib.run_eql_slice_nil (P := Try.prog) w 31 3 (some ad) n c 0 0 Try.underlying31
    clear hl hc
    go_enter Try.func62, Try.ntmps62
    go_wp2_with (at_builtin; refine wpList_append_own_at _ rfl (.tmp 5) (.tmp 6) 31 rfl 0 3 i0 (.int .i64 0) 1 8 Try.underlying31 hi hz0 hz1 hz2 rfl (by decide) _ _ _ rfl (World.ownsRow_made w #[] 0 (Nat.zero_le _) (by decide) rfl) ad n c xs rfl HL.out (fun j u hu => alloc_cell (HC.out j u hu) _) h1 (by unfold maxLen; omega) (by omega) (by omega) ?_; intro v1 w1 hown1 hg1 hnil1 hat1; have H := clone_end hown1 hg1 hat1; clear hown1 hg1 hnil1 hat1)
    go_ret
    exact ⟨_, rfl, H.1, H.2.1, H.2.2⟩

set_option maxHeartbeats 400000 in
theorem clone41 {w : World} {v : Value} {n : Nat} {xs : List Value} (h : Rd w 2 v n xs) (h1 : ∀ u ∈ xs, u.oneCell' = true) (hn : n ≤ 4194304) : Calls Try.prog 61 #[v] w (ClonePost w 95 2 n xs) := by
  obtain ⟨hl, h⟩ := h
  obtain ⟨i0, hi, hz0, hz1, hz2⟩ := info_parts Try.info95
  rcases h with ⟨rfl, rfl⟩ | ⟨ad, c, rfl, hc⟩
  · have hx : Hid (xs = []) := show _ = _ from List.eq_nil_of_length_eq_zero (by simpa using hl)
    clear hl
    have hnn := Lib.run_eql_slice_nil (P := Try.prog) w 76 95 none 0 0 0 0 Try.underlying76
    go_enter Try.func61, Try.ntmps61
    go_wp2_with fail
    go_ret
    rw [hx.out]
    exact ⟨_, rfl, World.ownsRow_nil _ _ _ _, Below.refl _ _, fun g hg => by simp [Value.ownBlock] at hg⟩
  · have HL := Lib.hid hl
    have HC := Lib.hid hc
    have hnn := Lib.run_eql_slice_nil (P := Try.prog) w 76 95 (some ad) n c 0 0 Try.underlying76
    clear hl hc
    go_enter Try.func61, Try.ntmps61
    go_wp2_with (at_builtin; refine wpList_append_own_at _ rfl (.tmp 5) (.tmp 6) 76 rfl 0 95 i0 (.agg #[.int .i64 0, .int .i64 0]) 2 16 Try.underlying76 hi hz0 hz1 hz2 rfl (by decide) _ _ _ rfl (World.ownsRow_made w #[] 0 (Nat.zero_le _) (by decide) rfl) ad n c xs rfl HL.out (fun j u hu => alloc_cell (HC.out j u hu) _) h1 (by unfold maxLen; omega) (by omega) (by omega) ?_; intro v1 w1 hown1 hg1 hnil1 hat1; have H := clone_end hown1 hg1 hat1; clear hown1 hg1 hnil1 hat1)
    go_ret
    exact ⟨_, rfl, H.1, H.2.1, H.2.2⟩

end Go.Proofs.Ytgocnjiabfmdpaa
