/- Walks: polynomial; slices of shares that are made. -/
import Derived.Test.YtfipogmndokhkaaUh
namespace Go.Proofs.Ytfipogmndokhkaa
open Go.RowKit

/-- The numbers of a seed. -/
def lc (seed : Int) : Nat → Int
  | 0 => seed % 2147483648
  | i + 1 => (1103515245 * lc seed i + 12345) % 2147483648
theorem lc_range (seed : Int) (i : Nat) : 0 ≤ lc seed i ∧ lc seed i < 2147483648 := by
  cases i <;> unfold lc <;> omega
/-- The coefficients of the polynomial of a secret. -/
def cf (secret seed : Int) (i : Nat) : Int := if i = 0 then secret else lc seed i % 2147483647
def cfs (secret seed : Int) (k : Nat) : List Int := (List.range k).map (cf secret seed)
theorem cfs_length (secret seed : Int) (k : Nat) : (cfs secret seed k).length = k := by simp [cfs]
theorem cf_range {secret : Int} (h0 : 0 ≤ secret) (h1 : secret < 2147483647) (seed : Int) (i : Nat) : 0 ≤ cf secret seed i ∧ cf secret seed i < 2147483647 := by
  unfold cf
  split
  · omega
  · omega
theorem cfs_range {secret : Int} (h0 : 0 ≤ secret) (h1 : secret < 2147483647) (seed : Int) (k : Nat) : ∀ c ∈ cfs secret seed k, 0 ≤ c ∧ c < 2147483647 := fun c hc => by
  obtain ⟨i, _, rfl⟩ := List.mem_map.1 hc
  exact cf_range h0 h1 seed i
theorem cfs_succ (secret seed : Int) (k : Nat) : cfs secret seed (k + 1) = cfs secret seed k ++ [cf secret seed k] := by
  unfold cfs
  rw [List.range_succ, List.map_append]
  rfl
theorem set_pad (l : List Int) (r : Nat) (z : Int) : (l ++ List.replicate (r + 1) 0).set l.length z = (l ++ [z]) ++ List.replicate r 0 := by
  rw [List.set_append_right _ _ (Nat.le_refl _), Nat.sub_self, List.replicate_succ, List.set_cons_zero, List.append_assoc]
  rfl

set_option maxRecDepth 100000 in
set_option maxHeartbeats 2000000 in
theorem polynomial_any (secret : Int) (k : Nat) (seed : Int) (w : World) (hk1 : 1 ≤ k) (hk2 : k ≤ 20) :
    Calls Try.prog 19 #[.int .i64 secret, .int .i64 k, .int .i64 seed] w fun e w' => ∃ v, e = .returned v ∧ OwnI w' w.heap.size v (cfs secret seed k) ∧ Below w.heap.size w w' := by
  go_enter Try.func19, Try.ntmps19
  go_wp2_with (at_make; refine makeI rfl (.tmp 10) (.tmp 10) rfl w.heap.size k k _ _ rfl rfl rfl rfl (by omega) (by omega) (Nat.le_refl _) ?_; intro w0 hown0 hb0 hsz0; have hlt0 := hown0.lt.2; obtain ⟨u0, hc0⟩ : ∃ u0 : Int, w0.cell? ⟨w.heap.size, 0, none⟩ = some (.int .i64 u0) := ⟨_, hown0.cell (k := 0) (by simp) hk1⟩; have hf0 := hown0.frozen (k := 0) (by simp))
  have hst := hown0.store (by simp) 0 secret
  have hb1 := hb0.setCell (p := ⟨w.heap.size, 0, none⟩) (Nat.le_refl _) (.int .i64 secret)
  have hl0 : Hid ((List.replicate k (0 : Int)).set 0 secret = cfs secret seed 1 ++ List.replicate (k - 1) 0) := Lib.hid (by
    obtain ⟨j, rfl⟩ : ∃ j, k = j + 1 := ⟨k - 1, by omega⟩
    rfl)
  obtain ⟨W, hW⟩ : ∃ W, w0.setCell ⟨w.heap.size, 0, none⟩ (.int .i64 secret) = W := ⟨_, rfl⟩
  have hWs : W.heap.size = w.heap.size + 1 := by rw [← hW]; simpa using hsz0
  rw [hW] at hst hb1 ⊢
  rw [hl0.out] at hst
  clear hW hown0 hb0 hc0 hf0 hlt0
  refine (low31_any seed _).mono ?_
  rintro e w1 ⟨rfl, rfl⟩
  have hlc : Hid (seed % 2147483648 = lc seed 0) := Lib.hid rfl
  go_wp2_with fail
  go_loopw [8, 9] (fun xv iv wr => ∃ (x : Int) (i : Nat), 1 ≤ i ∧ i ≤ k ∧ xv = .int .i64 x ∧ iv = .int .i64 i ∧ 0 ≤ x ∧ x < 2147483648 ∧ Hid (x = lc seed (i - 1)) ∧ Below w.heap.size w wr ∧
    OwnI wr w.heap.size (.slice (some ⟨w.heap.size, 0, none⟩) k k) (cfs secret seed i ++ List.replicate (k - i) 0)) (fun _ iv _ => k - (intOf iv).toNat)
  case atStart => exact ⟨_, 1, Nat.le_refl _, hk1, rfl, rfl, by omega, by omega, hlc, hb1, hst⟩
  case round =>
    obtain ⟨x, i, hi1, hi2, rfl, rfl, hx0, hx1, hx, hb, hown⟩ := hrel
    by_cases hgo : i < k
    · have hlen : (cfs secret seed i ++ List.replicate (k - i) (0 : Int)).length = k := by simp [cfs_length]; omega
      have hlt := hown.lt.2
      have hcc := hown.cell (k := i) hlen hgo
      have hff := hown.frozen (k := i) hlen
      have hs := hb.size
      obtain ⟨y, hy⟩ : ∃ y, (1103515245 * x + 12345) % 2147483648 = y := ⟨_, rfl⟩
      have hy0 : 0 ≤ y ∧ y < 2147483648 := by omega
      have hyl : y = lc seed i := by
        obtain ⟨j, rfl⟩ : ∃ j, i = j + 1 := ⟨i - 1, by omega⟩
        rw [lc, ← hy, hx.out]
        rfl
      have hst2 := hown.store hlen i (y % 2147483647)
      have e2 : (cfs secret seed i ++ List.replicate (k - i) (0 : Int)).set i (y % 2147483647) = cfs secret seed (i + 1) ++ List.replicate (k - (i + 1)) 0 := by
        have h := set_pad (cfs secret seed i) (k - (i + 1)) (y % 2147483647)
        rw [cfs_length, show k - (i + 1) + 1 = k - i by omega] at h
        rw [h, cfs_succ, cf, if_neg (by omega), hyl]
      rw [e2] at hst2
      obtain ⟨u, hu⟩ : ∃ u, (cfs secret seed i ++ List.replicate (k - i) (0 : Int)).getD i 0 = u := ⟨_, rfl⟩
      rw [hu] at hcc
      have HST := Lib.hid (And.intro hst2 (And.intro hyl hy)); clear hst2 hyl
      obtain ⟨hy0, hy1⟩ := hy0
      clear hu e2 hown hlen
      go_wp2_with fail
      refine (low31_any _ _).mono ?_
      rintro e w1 ⟨rfl, rfl⟩
      rw [hy]
      clear hy
      go_wp2_with fail
      go_roundw
      case rel => exact ⟨y, i + 1, by omega, by omega, rfl, rfl, hy0, hy1, Lib.hid HST.out.2.1, hb.setCell (p := ⟨w.heap.size, i, none⟩) (Nat.le_refl _) _, HST.out.1⟩
      case measure => simp [intOf]; omega
    · have : i = k := by omega
      subst this
      rw [Nat.sub_self, List.replicate_zero, List.append_nil] at hown
      have HO := Lib.hid hown; clear hown
      go_wp2_with fail
      go_ret
      exact ⟨_, rfl, HO.out, hb⟩

end Go.Proofs.Ytfipogmndokhkaa
