/- Walks: the reference's On. -/
import Derived.Test.YtfipogmndokhkaaVh
namespace Go.Proofs.Ytfipogmndokhkaa
open Go.RowKit

theorem nw_take (ds : List (Int × Int)) (D : Nat → Int) (m : Nat) : nw (fun i => ((ds.take m).getD i (0, 0)).1) (fun i => (il D m).getD i 0) m = nw (fun i => (ds.getD i (0, 0)).1) D m := by
  unfold nw
  refine List.map_congr_left fun i hi => ?_
  have h := List.mem_range.1 hi
  dsimp only
  rw [getD_take h, il_get D h]

set_option maxRecDepth 100000 in
set_option maxHeartbeats 16000000 in
theorem ron_any (ds : List (Int × Int)) (A : Option Addr) (n c k : Nat) (w : World) (hS : ShAt w.heap.size w A ds) (hn : ds.length = n) (_hl : n ≤ 1000) (hnc : n ≤ c) (hcm : c ≤ 9223372036854775807) (hfd : Fd ds) (ha : Apart (ds.map (·.1))) (hk1 : 1 ≤ k) (hk2 : k ≤ 20) (b : Bool) (hb : b = true ↔ OnP ds k) :
    Calls Try.prog 26 #[.slice A n c, .int .i64 k] w fun e w' => ∃ z : Int, e = .returned (.tuple #[.int .i64 z, .bool b]) ∧ (b = true → k ≤ n → ∀ f, Pol k f → Thru f ds → z = f 0 % 2147483647) ∧ (b = false → z = 0) ∧ Below w.heap.size w w' := by
  obtain ⟨m, hm⟩ : ∃ m, min k n = m := ⟨_, rfl⟩
  have hmk : m ≤ k := by omega
  have hmn : m ≤ n := by omega
  have hmI : min (k : Int) (n : Int) = (m : Int) := by omega
  have htl : (ds.take m).length = m := by rw [List.length_take]; omega
  have hta : Apart ((ds.take m).map (·.1)) := by rw [List.map_take]; exact ha.take m
  have hP := fun (w1 : World) (h : Below w.heap.size w w1) => rpoly_any (ds.take m) A m c w1 (((hS.below h).more h.size).take m) htl (by omega) (hfd.take m) hta
  have hAt := fun (D : Nat → Int) (hD : ∀ j, j < m → 0 ≤ D j ∧ D j < 2147483647) (x : Int) (hx0 : 0 ≤ x) (hx1 : x ≤ 20) (v : Value) (B : Nat) (w1 : World) (ho : OwnI w1 B v (il D m)) (h : Below w.heap.size w w1) =>
    rat_any (ds.take m) A m c (il D m) v x B w1 (((hS.below h).more h.size).take m) htl (hfd.take m) ho (fun d hd => by obtain ⟨j, hj, rfl⟩ := List.mem_map.1 hd; exact hD j (List.mem_range.1 hj)) (by rw [il_len]; exact Nat.le_refl _) (by omega) hx0 hx1
  simp only [il_len, nw_take] at hAt
  have hNew : ∀ D : Nat → Int, (∀ j, j < m → Wd (fun i => ((ds.take m).getD i (0, 0)).1) (fun i => ((ds.take m).getD i (0, 0)).2) 0 j (D j)) → Pol k (nest (nw (fun i => (ds.getD i (0, 0)).1) D m)) ∧ ∀ i, i < m → Cg (nest (nw (fun i => (ds.getD i (0, 0)).1) D m) (ds.getD i (0, 0)).1) (ds.getD i (0, 0)).2 := fun D hD => by
    have hp := nest_pol (nw (fun i => (ds.getD i (0, 0)).1) D m)
    rw [nw_len] at hp
    refine ⟨hp.mono hmk, fun i hi => ?_⟩
    have h := newton (fun i j hi hj h => by
      rw [getD_take hi, getD_take hj]
      exact Fd.apart ha (by omega) (by omega) h) hD m (Nat.le_refl _) i hi
    have e : nw (fun i => ((ds.take m).getD i (0, 0)).1) D m = nw (fun i => (ds.getD i (0, 0)).1) D m := by
      unfold nw
      exact List.map_congr_left fun i hi => by dsimp only; rw [getD_take (List.mem_range.1 hi)]
    rw [e, getD_take hi] at h
    exact h
  have HP := Lib.hid hP; clear hP
  have HAT := Lib.hid hAt; clear hAt
  have HNEW := Lib.hid hNew; clear hNew
  have HS := Lib.hid hS; clear hS
  have HF := Lib.hid hfd; clear hfd
  have HAP := Lib.hid ha; clear ha
  have HB := Lib.hid hb; clear hb
  have HN := Lib.hid hn; clear hn
  have HM := Lib.hid hm; clear hm htl hta
  have hmc : m ≤ c := by omega
  go_enter Try.func26, Try.ntmps26
  go_wp2_with fail
  refine (HP.out _ (Below.refl _ _)).mono ?_
  rintro e w1 ⟨v, rfl, D, hown, hD, hb1⟩
  obtain ⟨hpol, hval⟩ := HNEW.out D (fun j hj => (hD j hj).2)
  have HDR : Hid (∀ j, j < m → 0 ≤ D j ∧ D j < 2147483647) := Lib.hid fun j hj => (hD j hj).1
  clear hD
  have hat := fun x hx0 hx1 w2 (h : Below w1.heap.size w1 w2) => HAT.out D HDR.out x hx0 hx1 v w.heap.size w2 (hown.below h) (hb1.trans (h.mono hb1.size))
  obtain ⟨f, hf⟩ : ∃ f, nest (nw (fun i => (ds.getD i (0, 0)).1) D m) = f := ⟨_, rfl⟩
  rw [hf] at hpol hval hat
  have HAT2 := Lib.hid hat; clear hat hf
  have HPV := Lib.hid (And.intro hpol hval); clear hpol hval hown
  have hs1 := hb1.size
  go_wp2_with fail
  go_loopw [8] (fun iv wr => ∃ i : Nat, k ≤ i ∧ (i ≤ n ∨ i = k) ∧ iv = .int .i64 i ∧ Below w1.heap.size w1 wr ∧ Hid (∀ j, j < i → j < n → Cg (f (ds.getD j (0, 0)).1) (ds.getD j (0, 0)).2)) (fun iv _ => n - (intOf iv).toNat)
  case atStart => exact ⟨k, Nat.le_refl _, .inr rfl, rfl, Below.refl _ _, Lib.hid fun j hj hjn => HPV.out.2 j (by have := HM.out; omega)⟩
  case round =>
    obtain ⟨i, hki, hin, rfl, hb, hv⟩ := hrel
    have hs := hb.size
    by_cases hgo : i < n
    · have hb0 := hb1.trans (hb.mono hs1)
      obtain ⟨bb, off, hA, hBB, c0, c1⟩ := (HS.out.below hb0) i (by have := HN.out; omega)
      subst hA
      obtain ⟨x0, x1, y0, y1⟩ := HF.out.get (k := i) (by have := HN.out; omega)
      have hmi : m ≤ k := by omega
      have hk_eq : Hid (m = k) := Lib.hid (by have := HM.out; omega)
      have hcall := HAT2.out _ x0 x1
      have hbad : f (ds.getD i (0, 0)).1 % 2147483647 ≠ (ds.getD i (0, 0)).2 → b = false := fun hne => by
        cases hbb : b with
        | false => rfl
        | true =>
          exfalso
          obtain ⟨g, hg, htg⟩ := HB.out.1 hbb
          have h1 := poly_eq HAP.out (k := k) (by have := HN.out; omega) HPV.out.1 hg (fun j hj => by
            rw [List.length_take] at hj
            have := HN.out
            rw [getD_take (by omega)]
            exact HPV.out.2 j (by have := hk_eq.out; omega)) (htg.take k) (ds.getD i (0, 0)).1
          have h2 := htg i (by have := HN.out; omega)
          have h3 := (h1.trans h2).emod
          rw [Int.emod_eq_of_lt y0 y1] at h3
          exact hne h3
      have hgood : f (ds.getD i (0, 0)).1 % 2147483647 = (ds.getD i (0, 0)).2 → Cg (f (ds.getD i (0, 0)).1) (ds.getD i (0, 0)).2 := fun h => (Cg.mod _).symm.trans (Cg.of_eq h)
      obtain ⟨X, hX⟩ : ∃ X, (ds.getD i (0, 0)).1 = X := ⟨_, rfl⟩
      obtain ⟨Y, hY⟩ : ∃ X, (ds.getD i (0, 0)).2 = X := ⟨_, rfl⟩
      have HXY := Lib.hid (And.intro hX hY)
      rw [hX] at c0 x0 x1 hcall hbad hgood
      rw [hY] at c1 y0 y1 hbad hgood
      obtain ⟨Z, hZ⟩ : ∃ Z, f X % 2147483647 = Z := ⟨_, rfl⟩
      rw [hZ] at hcall hbad hgood
      have HC := Lib.hid hcall; clear hcall
      have HBAD := Lib.hid hbad; clear hbad
      have HGOOD := Lib.hid hgood; clear hgood
      clear hX hY hZ
      have e0 : ∀ W' : World, Below wr.heap.size wr W' → W'.cell? ⟨bb, off + i * 2, none⟩ = some (.int .i64 X) ∧ W'.cell? ⟨bb, off + i * 2 + 1, none⟩ = some (.int .i64 Y) ∧ Below wr.heap.size wr W' := fun W' hW => ⟨(hW.cell (p := ⟨bb, off + i * 2, none⟩) (by show bb < _; omega)).trans c0, (hW.cell (p := ⟨bb, off + i * 2 + 1, none⟩) (by show bb < _; omega)).trans c1, hW⟩
      have E0 := Lib.hid e0; clear e0
      have hB00 : Below wr.heap.size wr wr.drew := (Below.refl _ _).drew
      by_cases hzy : Z = Y
      · subst hzy
        have hnew : Hid (∀ j, j < i + 1 → j < n → Cg (f (ds.getD j (0, 0)).1) (ds.getD j (0, 0)).2) := Lib.hid fun j hj hjn => by
          by_cases h : j < i
          · exact hv.out j h hjn
          · have : j = i := by omega
            subst this
            rw [HXY.out.1, HXY.out.2]
            exact HGOOD.out rfl
        go_wp2_with fail
        go_region_held3 (fun W' => W'.cell? ⟨bb, off + i * 2, none⟩ = some (.int .i64 X) ∧ W'.cell? ⟨bb, off + i * 2 + 1, none⟩ = some (.int .i64 Z) ∧ Below wr.heap.size wr W')
          (first | exact E0.out _ (by assumption) | exact E0.out _ ⟨rfl, rfl, rfl, Nat.le_refl _, fun _ _ => rfl⟩)
          (first
            | (go_at_call 31; refine (HC.out _ (hb.trans (hB00.mono hs))).mono ?_; rintro e w4 ⟨rfl, hb4⟩; have hB4 : Below wr.heap.size wr w4 := ⟨hb4.os, hb4.tape, hb4.output, hb4.size, hb4.block⟩))
        go_wp2_with fail
        go_roundw
        case rel => exact ⟨i + 1, by omega, .inl (by omega), rfl, hb.trans (hB4.mono hs), hnew⟩
        case measure => simp [intOf]; omega
      · have hzb : (Z != Y) = true := by simpa using hzy
        have hrf : Hid (b = false) := Lib.hid (HBAD.out hzy)
        clear hzy
        go_wp2_with fail
        go_region_held3 (fun W' => W'.cell? ⟨bb, off + i * 2, none⟩ = some (.int .i64 X) ∧ W'.cell? ⟨bb, off + i * 2 + 1, none⟩ = some (.int .i64 Y) ∧ Below wr.heap.size wr W')
          (first | exact E0.out _ (by assumption) | exact E0.out _ ⟨rfl, rfl, rfl, Nat.le_refl _, fun _ _ => rfl⟩)
          (first
            | (go_at_call 31; refine (HC.out _ (hb.trans (hB00.mono hs))).mono ?_; rintro e w4 ⟨rfl, hb4⟩; have hB4 : Below wr.heap.size wr w4 := ⟨hb4.os, hb4.tape, hb4.output, hb4.size, hb4.block⟩))
        go_wp2_with fail
        go_ret2
        exact ⟨_, by rw [hrf.out]; rfl, fun h => (by rw [hrf.out] at h; cases h), fun _ => rfl, (hb1.trans (hb.mono hs1)).trans (hB4.mono (Nat.le_trans hs1 hs))⟩
    · have hthru : Thru f ds := fun j hj => hv.out j (by have := HN.out; omega) (by have := HN.out; omega)
      have hbt : Hid (b = true) := Lib.hid (HB.out.2 ⟨f, HPV.out.1, hthru⟩)
      have hz : Hid (k ≤ n → ∀ g, Pol k g → Thru g ds → f 0 % 2147483647 = g 0 % 2147483647) := Lib.hid fun hkn g hg htg => (poly_eq HAP.out (k := k) (by have := HN.out; omega) HPV.out.1 hg (hthru.take k) (htg.take k) 0).emod
      clear hthru
      have hcall := HAT2.out 0 (by decide) (by decide)
      have HC := Lib.hid hcall; clear hcall
      have hgoI : ¬ (i : Int) < (n : Int) := by omega
      go_wp2_with fail
      refine (HC.out _ hb).mono ?_
      rintro e w4 ⟨rfl, hb4⟩
      go_wp2_with fail
      go_ret2
      exact ⟨_, by rw [hbt.out]; rfl, fun _ h g hg htg => hz.out h g hg htg, fun h => (by rw [hbt.out] at h; cases h), (hb1.trans (hb.mono hs1)).trans (hb4.mono (Nat.le_trans hs1 hs))⟩

end Go.Proofs.Ytfipogmndokhkaa
