/- Walks: the reference's at. -/
import Derived.Test.YtfipogmndokhkaaVf
namespace Go.Proofs.Ytfipogmndokhkaa
open Go.RowKit

set_option maxRecDepth 100000 in
set_option maxHeartbeats 8000000 in
theorem rat_any (ds : List (Int × Int)) (A : Option Addr) (n c : Nat) (dl : List Int) (v : Value) (x : Int) (B : Nat) (w : World) (hS : ShAt w.heap.size w A ds) (hn : ds.length = n) (hfd : Fd ds) (ho : OwnI w B v dl) (hdr : ∀ d ∈ dl, 0 ≤ d ∧ d < 2147483647) (hk : dl.length ≤ n) (hl : n ≤ 1000) (hx0 : 0 ≤ x) (hx1 : x ≤ 20) :
    Calls Try.prog 31 #[.slice A n c, v, .int .i64 x] w fun e w' => e = .returned (.int .i64 (nest (nw (fun i => (ds.getD i (0, 0)).1) (fun i => dl.getD i 0) dl.length) x % 2147483647)) ∧ Below w.heap.size w w' := by
  obtain ⟨A2, c2, rfl, hnc, hcm, hI⟩ := ho.at_
  clear ho
  have HS := Lib.hid hS; clear hS
  have HI := Lib.hid hI; clear hI
  have HF := Lib.hid hfd; clear hfd
  have HD := Lib.hid hdr; clear hdr
  obtain ⟨k, hkk⟩ : ∃ k, dl.length = k := ⟨_, rfl⟩
  rw [hkk] at hk hnc ⊢
  obtain ⟨L, hL⟩ : ∃ L, nw (fun i => (ds.getD i (0, 0)).1) (fun i => dl.getD i 0) k = L := ⟨_, rfl⟩
  have hLl := nw_len (fun i => (ds.getD i (0, 0)).1) (fun i => dl.getD i 0) k
  have hLg : ∀ i, i < k → L.getD i (0, 0) = ((ds.getD i (0, 0)).1, dl.getD i 0) := fun i hi => by rw [← hL]; exact nw_get _ _ hi
  rw [hL] at hLl ⊢
  have HL := Lib.hid (And.intro hLl hLg); clear hLl hLg hL
  have HN := Lib.hid (And.intro hn hkk); clear hn hkk
  go_enter Try.func31, Try.ntmps31
  go_wp2_with fail
  go_loopw [7, 8] (fun yv iv wr => ∃ (y : Int) (i : Nat), i ≤ k ∧ yv = .int .i64 y ∧ iv = .int .i64 ((i : Int) - 1) ∧ 0 ≤ y ∧ y < 2147483647 ∧ Hid (Cg y (nest (L.drop i) x)) ∧ Below w.heap.size w wr) (fun _ iv _ => (intOf iv + 1).toNat)
  case atStart => exact ⟨0, k, Nat.le_refl _, rfl, rfl, by omega, by omega, Lib.hid (by rw [List.drop_eq_nil_of_le (by rw [HL.out.1]; exact Nat.le_refl _)]; exact Cg.refl 0), Below.refl _ _⟩
  case round =>
    obtain ⟨y, i, hi, rfl, rfl, hy0, hy1, hv, hb⟩ := hrel
    by_cases hgo : 0 < i
    · obtain ⟨j, rfl⟩ : ∃ j, i = j + 1 := ⟨i - 1, by omega⟩
      have hj : ((j + 1 : Nat) : Int) - 1 = (j : Int) := by omega
      rw [hj]
      have hjn : j < n := by omega
      obtain ⟨b, off, hA, _, c0, _⟩ := (HS.out.below hb) j (by have := HN.out.1; omega)
      obtain ⟨b2, off2, hA2, _, d0⟩ := (HI.out.below hb) j (by have := HN.out.2; omega)
      subst hA; subst hA2
      obtain ⟨u0, u1, _, _⟩ := HF.out.get (k := j) (by have := HN.out.1; omega)
      obtain ⟨t0, t1⟩ := ints_get j HD.out
      have hnd := nest_drop L x j (by have := HL.out.1; omega)
      rw [HL.out.2 j (by omega)] at hnd
      obtain ⟨X, hX⟩ : ∃ X, (ds.getD j (0, 0)).1 = X := ⟨_, rfl⟩
      obtain ⟨D, hDD⟩ : ∃ X, dl.getD j 0 = X := ⟨_, rfl⟩
      rw [hX] at c0 u0 u1 hnd
      rw [hDD] at d0 t0 t1 hnd
      simp only at hnd
      clear hX hDD
      obtain ⟨Z, hZ⟩ : ∃ Z, (x - X) % 2147483647 = Z := ⟨_, rfl⟩
      have hZ0 : 0 ≤ Z ∧ Z < 2147483647 := by omega
      obtain ⟨hZ0, hZ1⟩ := hZ0
      have hq : ∀ q', Calls Try.prog 16 #[.int .i64 (x - X)] (wr.drewN q') fun e w' => e = .returned (.int .i64 Z) ∧ w' = wr.drewN q' := fun q' => (mod_any (x - X) _).mono (by rintro e w' ⟨rfl, rfl⟩; exact ⟨by rw [hZ], rfl⟩)
      have HQ := Lib.hid hq; clear hq
      obtain ⟨m0, m1⟩ := mulb hy0 hy1 hZ0 hZ1
      have hw1 : IntKind.i64.wrap (x - X) = x - X := by rw [IntKind.wrap_i64]; omega
      have hw2 : IntKind.i64.wrap (y * Z) = y * Z := by rw [IntKind.wrap_i64]; omega
      have hw3 : IntKind.i64.wrap (y * Z + D) = y * Z + D := by rw [IntKind.wrap_i64]; omega
      have hnew : Hid (Cg ((y * Z + D) % 2147483647) (nest (L.drop j) x)) := Lib.hid (by
        rw [hnd, ← hZ]
        exact (Cg.mod _).trans ((hv.out.mul (Cg.mod _)).add (Cg.refl D)))
      clear hnd hZ
      go_wp2_with fail
      go_quiet ((go_at_call 16; exact Calls.quiet_of_same (HQ.out _)))
      go_wp2_with fail
      go_roundw
      case rel => exact ⟨_, j, by omega, rfl, rfl, by omega, by omega, hnew, below_drewN hb _⟩
      case measure => simp [intOf]
    · have : i = 0 := by omega
      subst this
      have hf : Hid (nest L x % 2147483647 = y) := Lib.hid (by
        have h := hv.out.emod
        rw [List.drop_zero, Int.emod_eq_of_lt hy0 hy1] at h
        exact h.symm)
      go_wp2_with fail
      go_ret
      exact ⟨by rw [hf.out]; rfl, hb⟩

end Go.Proofs.Ytfipogmndokhkaa
