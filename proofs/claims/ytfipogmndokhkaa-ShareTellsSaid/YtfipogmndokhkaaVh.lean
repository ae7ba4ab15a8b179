/- Walks: the reference's poly. -/
import Derived.Test.YtfipogmndokhkaaVg
namespace Go.Proofs.Ytfipogmndokhkaa
open Go.RowKit

theorem rinverse_exact {n : Int} (h0 : 0 ≤ n) (h1 : n < 2147483647) (hn : ¬ Cg n 0) : ∃ z : Int, 0 ≤ z ∧ z < 2147483647 ∧ Cg (n * z) 1 ∧ ∀ w, Calls Try.prog 32 #[.int .i64 n] w fun e w' => e = .returned (.int .i64 z) ∧ w' = w := by
  obtain ⟨v, hv⟩ := has_inv hn
  have hz : Cg (n * (v % 2147483647)) 1 := ((Cg.refl n).mul (Cg.mod v)).trans hv
  refine ⟨v % 2147483647, by omega, by omega, hz, fun w => (rinverse_any n w h0 h1).mono ?_⟩
  rintro e w' ⟨z, rfl, z0, z1, h, rfl⟩
  have h2 := ((h.out hn).trans hz.symm).cancel hn
  exact ⟨by rw [h2.eq z0 z1 (by omega) (by omega)], rfl⟩

section
variable (X Y : Nat → Int)
/-- The difference at j after s steps. -/
def Lv (s j : Nat) (z : Int) : Prop := (0 ≤ z ∧ z < 2147483647) ∧ Wd X Y (j - min s j) (min s j) z
variable {X Y}
theorem Lv.zero {j : Nat} (h : 0 ≤ Y j ∧ Y j < 2147483647) : Lv X Y 0 j (Y j) := ⟨h, by rw [Nat.zero_min]; exact Wd.zero X Y _ (by rw [Nat.sub_zero])⟩
theorem Lv.low {s j : Nat} {z : Int} (h : Lv X Y s j z) (hj : j ≤ s) : Lv X Y (s + 1) j z := by
  unfold Lv at h ⊢
  rw [Nat.min_eq_right hj] at h
  rw [Nat.min_eq_right (by omega)]
  exact h
theorem Lv.step {s i : Nat} {z1 z2 v u z : Int} (hi : s + 1 ≤ i) (h1 : Lv X Y s (i - 1) z1) (h2 : Lv X Y s i z2) (hu : Cg u (X i - X (i - (s + 1)))) (hv : Cg (u * v) 1) (hz : z = (z2 - z1) % 2147483647 * v % 2147483647) : Lv X Y (s + 1) i z := by
  unfold Lv at h1 h2 ⊢
  rw [Nat.min_eq_left (by omega)] at h1 h2 ⊢
  refine ⟨by omega, ?_⟩
  obtain ⟨a, rfl⟩ : ∃ a, i = a + s + 1 := ⟨i - (s + 1), by omega⟩
  rw [show a + s + 1 - 1 - s = a by omega] at h1
  rw [show a + s + 1 - s = a + 1 by omega] at h2
  rw [show a + s + 1 - (s + 1) = a by omega] at hu ⊢
  exact Wd.step h1.2 h2.2 ((hu.symm.mul (Cg.refl v)).trans hv) (by rw [hz]; exact (Cg.mod _).trans ((Cg.mod _).mul (Cg.refl v)))
end
theorem Fd.apart {ds : List (Int × Int)} (ha : Apart (ds.map (·.1))) {i j : Nat} (hi : i < ds.length) (hj : j < ds.length) (h : i ≠ j) : ¬ Cg (ds.getD i (0, 0)).1 (ds.getD j (0, 0)).1 := by
  have := ha.get i j (by simpa using hi) (by simpa using hj) h
  rwa [fst_get, fst_get] at this
theorem il_pad (F : Nat → Int) {n i : Nat} (hi : i < n) : (il F i ++ List.replicate (n - i) 0).set i (F i) = il F (i + 1) ++ List.replicate (n - (i + 1)) 0 := by
  have h := pad_set (il F i) (n - (i + 1)) (0 : Int) (F i)
  rw [il_len, show n - (i + 1) + 1 = n - i by omega] at h
  rw [h]
  congr 1
  unfold il
  rw [List.range_succ, List.map_append]
  rfl

set_option maxRecDepth 100000 in
set_option maxHeartbeats 16000000 in
theorem rpoly_any (ds : List (Int × Int)) (A : Option Addr) (k c : Nat) (w : World) (hS : ShAt w.heap.size w A ds) (hk : ds.length = k) (hl : k ≤ 1000) (hfd : Fd ds) (ha : Apart (ds.map (·.1))) :
    Calls Try.prog 30 #[.slice A k c] w fun e w' => ∃ v, e = .returned v ∧ ∃ D : Nat → Int, OwnI w' w.heap.size v (il D k) ∧ (∀ j, j < k → (0 ≤ D j ∧ D j < 2147483647) ∧ Wd (fun i => (ds.getD i (0, 0)).1) (fun i => (ds.getD i (0, 0)).2) 0 j (D j)) ∧ Below w.heap.size w w' := by
  have HS := Lib.hid hS; clear hS
  have hXr : ∀ i, i < k → 0 ≤ (ds.getD i (0, 0)).1 ∧ (ds.getD i (0, 0)).1 ≤ 20 ∧ 0 ≤ (ds.getD i (0, 0)).2 ∧ (ds.getD i (0, 0)).2 < 2147483647 := fun i hi => hfd.get (by omega)
  have hXa : ∀ i j, i < k → j < k → i ≠ j → ¬ Cg (ds.getD i (0, 0)).1 (ds.getD j (0, 0)).1 := fun i j hi hj h => Fd.apart ha (by omega) (by omega) h
  obtain ⟨X, hX⟩ : ∃ X : Nat → Int, (fun i => (ds.getD i (0, 0)).1) = X := ⟨_, rfl⟩
  obtain ⟨Y, hY⟩ : ∃ Y : Nat → Int, (fun i => (ds.getD i (0, 0)).2) = Y := ⟨_, rfl⟩
  have hXi : ∀ i, (ds.getD i (0, 0)).1 = X i := fun i => by rw [← hX]
  have hYi : ∀ i, (ds.getD i (0, 0)).2 = Y i := fun i => by rw [← hY]
  rw [hX, hY]
  simp only [hXi, hYi] at hXr hXa
  have HXY := Lib.hid (And.intro hXi hYi)
  have HXR := Lib.hid hXr
  have HXA := Lib.hid hXa
  have HK := Lib.hid hk
  clear hX hY hXi hYi hXr hXa hk hfd ha
  go_enter Try.func30, Try.ntmps30
  go_wp2_with (at_make; refine makeI rfl (.tmp 8) (.tmp 8) rfl w.heap.size k k _ _ rfl rfl rfl rfl (by omega) (by omega) (Nat.le_refl _) ?_; intro w2 hown2 hb2 hsz2)
  go_loopw [4] (fun iv wr => ∃ i : Nat, i ≤ k ∧ iv = .int .i64 i ∧ Below w.heap.size w wr ∧ OwnI wr w.heap.size (.slice (some ⟨w.heap.size, 0, none⟩) k k) (il Y i ++ List.replicate (k - i) 0)) (fun iv _ => k - (intOf iv).toNat)
  case atStart => exact ⟨0, Nat.zero_le _, rfl, hb2, hown2⟩
  case round =>
    obtain ⟨i, hi, rfl, hb, ho⟩ := hrel
    by_cases hgo : i < k
    · obtain ⟨b, off, hA, _, _, c1⟩ := (HS.out.below hb) i (by have := HK.out; omega)
      subst hA
      rw [HXY.out.2] at c1
      have hlen : (il Y i ++ List.replicate (k - i) (0 : Int)).length = k := by simp [il_len]; omega
      have c0 := ho.cell hlen hgo
      have f0 := ho.frozen (k := i) hlen
      have l0 := ho.lt.2
      have hst := ho.store hlen i (Y i)
      rw [il_pad Y hgo] at hst
      obtain ⟨y, hy⟩ : ∃ y, Y i = y := ⟨_, rfl⟩
      rw [hy] at c1 hst
      obtain ⟨u, hu⟩ : ∃ u, (il Y i ++ List.replicate (k - i) (0 : Int)).getD i 0 = u := ⟨_, rfl⟩
      rw [hu] at c0
      have HST := Lib.hid hst; clear hst
      clear hu hy ho hlen
      go_wp2_with fail
      go_roundw
      case rel => exact ⟨i + 1, by omega, rfl, hb.setCell (p := ⟨w.heap.size, i, none⟩) (Nat.le_refl _) _, HST.out⟩
      case measure => simp [intOf]; omega
    · have : k = i := by omega
      subst this
      rw [Nat.sub_self, List.replicate_zero, List.append_nil] at ho
      have HO := Lib.hid ho; clear ho
      go_wp2_with fail
      go_loopw [5] (fun sv wr => ∃ (s : Nat) (D : Nat → Int), s ≤ k ∧ sv = .int .i64 ((s : Int) + 1) ∧ Below w.heap.size w wr ∧ Hid (OwnI wr w.heap.size (.slice (some ⟨w.heap.size, 0, none⟩) k k) (il D k) ∧ ∀ j, j < k → Lv X Y s j (D j))) (fun sv _ => k + 1 - (intOf sv).toNat)
      case atStart => exact ⟨0, Y, Nat.zero_le _, rfl, hb, Lib.hid ⟨HO.out, fun j hj => Lv.zero (HXR.out j hj).2.2⟩⟩
      case round =>
        obtain ⟨s, D, hs, rfl, hb, ho⟩ := hrel
        by_cases hgo2 : s + 1 < k
        · have hgoI : (s : Int) + 1 < (k : Int) := by omega
          go_wp2_with fail
          go_loopw [6] (fun iv wr => ∃ (i : Nat) (D : Nat → Int), s ≤ i ∧ i < k ∧ iv = .int .i64 i ∧ Below w.heap.size w wr ∧ Hid (OwnI wr w.heap.size (.slice (some ⟨w.heap.size, 0, none⟩) k k) (il D k) ∧ ∀ j, j < k → if i < j then Lv X Y (s + 1) j (D j) else Lv X Y s j (D j))) (fun iv _ => (intOf iv).toNat)
          case atStart => exact ⟨k - 1, D, by omega, by omega, by congr 1; omega, hb, Lib.hid ⟨ho.out.1, fun j hj => by rw [if_neg (by omega)]; exact ho.out.2 j hj⟩⟩
          case round =>
            obtain ⟨i, D, hsi, hik, rfl, hb, ho⟩ := hrel
            by_cases hgo3 : s + 1 ≤ i
            · have hgoI : (s : Int) + 1 ≤ (i : Int) := by omega
              obtain ⟨e, he⟩ : ∃ e : Nat, i - (s + 1) = e := ⟨_, rfl⟩
              obtain ⟨p, hp⟩ : ∃ p : Nat, i - 1 = p := ⟨_, rfl⟩
              have hpi : p < i := by omega
              have hpk : p < k := by omega
              have hek : e < k := by omega
              have hei : e < i := by omega
              obtain ⟨b, off, hA, _, c0, _⟩ := (HS.out.below hb) i (by have := HK.out; omega)
              subst hA
              obtain ⟨b', off', hA', _, c1, _⟩ := (HS.out.below hb) e (by have := HK.out; omega)
              injection hA' with hA'
              injection hA' with q1 q2
              subst q1; subst q2
              have d0 := ho.out.1.cell (il_len _ _) hik
              have d1 := ho.out.1.cell (il_len _ _) hpk
              have f0 := ho.out.1.frozen (k := i) (il_len _ _)
              have l0 := ho.out.1.lt.2
              rw [il_get _ hik] at d0
              rw [il_get _ hpk] at d1
              rw [HXY.out.1] at c0 c1
              obtain ⟨x0, x1, _, _⟩ := HXR.out i hik
              obtain ⟨x2, x3, _, _⟩ := HXR.out e hek
              have v0 := ho.out.2 i hik
              have v1 := ho.out.2 p hpk
              rw [if_neg (by omega)] at v0 v1
              obtain ⟨⟨z0, z1⟩, _⟩ := v0
              obtain ⟨⟨z2, z3⟩, _⟩ := v1
              have hxa := HXA.out i e hik hek (by omega)
              obtain ⟨u, hu⟩ : ∃ u, (X i - X e) % 2147483647 = u := ⟨_, rfl⟩
              have hu0 : 0 ≤ u ∧ u < 2147483647 := by omega
              obtain ⟨hu0, hu1⟩ := hu0
              have hun : ¬ Cg u 0 := fun h => hxa (Cg.sub0.1 ((Cg.mod _).symm.trans (by rw [hu]; exact h)))
              obtain ⟨v, hv0, hv1, hv2, hvc⟩ := rinverse_exact hu0 hu1 hun
              obtain ⟨t, ht⟩ : ∃ t, (D i - D p) % 2147483647 = t := ⟨_, rfl⟩
              have ht0 : 0 ≤ t ∧ t < 2147483647 := by omega
              obtain ⟨ht0, ht1⟩ := ht0
              obtain ⟨r, hr⟩ : ∃ r, t * v % 2147483647 = r := ⟨_, rfl⟩
              obtain ⟨m0, m1⟩ := mulb ht0 ht1 hv0 hv1
              have hnew : Lv X Y (s + 1) i r := by
                have w0 := ho.out.2 i hik
                have w1 := ho.out.2 p hpk
                rw [if_neg (by omega)] at w0 w1
                rw [← hp] at w1
                refine Lv.step (u := u) (v := v) hgo3 w1 w0 ?_ hv2 ?_
                · rw [he, ← hu]
                  exact Cg.mod _
                · rw [← hr, ← ht, hp]
              have hst := ho.out.1.store (il_len _ _) i r
              rw [il_set] at hst
              have hall : ∀ j, j < k → if p < j then Lv X Y (s + 1) j (bendF D i r j) else Lv X Y s j (bendF D i r j) := fun j hj => by
                unfold bendF
                by_cases h1 : j = i
                · subst h1
                  rw [if_pos hpi, if_pos rfl]
                  exact hnew
                · rw [if_neg h1]
                  have h2 := ho.out.2 j hj
                  by_cases h3 : i < j
                  · rw [if_pos h3] at h2
                    rw [if_pos (by omega)]
                    exact h2
                  · rw [if_neg h3] at h2
                    rw [if_neg (by omega)]
                    exact h2
              have HNEW := Lib.hid (And.intro hst hall); clear hst hall hnew
              have hm1 : Calls Try.prog 16 #[.int .i64 (D i - D p)] wr.drew fun e w' => e = .returned (.int .i64 t) ∧ w' = wr.drew := (mod_any (D i - D p) _).mono (by rintro e w' ⟨rfl, rfl⟩; exact ⟨by rw [ht], rfl⟩)
              have hm2 : Calls Try.prog 16 #[.int .i64 (X i - X e)] wr.drew fun e w' => e = .returned (.int .i64 u) ∧ w' = wr.drew := (mod_any (X i - X e) _).mono (by rintro e w' ⟨rfl, rfl⟩; exact ⟨by rw [hu], rfl⟩)
              obtain ⟨y1, hy1⟩ : ∃ y, D i = y := ⟨_, rfl⟩
              obtain ⟨y2, hy2⟩ : ∃ y, D p = y := ⟨_, rfl⟩
              obtain ⟨y3, hy3⟩ : ∃ y, X i = y := ⟨_, rfl⟩
              obtain ⟨y4, hy4⟩ : ∃ y, X e = y := ⟨_, rfl⟩
              rw [hy1] at d0 z0 z1 hm1
              rw [hy2] at d1 z2 z3 hm1
              rw [hy3] at c0 x0 x1 hm2
              rw [hy4] at c1 x2 x3 hm2
              have HM1 := Lib.hid hm1
              have HM2 := Lib.hid hm2
              have HVC := Lib.hid (hvc wr.drew)
              have hw1 : IntKind.i64.wrap (y1 - y2) = y1 - y2 := by rw [IntKind.wrap_i64]; omega
              have hw2 : IntKind.i64.wrap (y3 - y4) = y3 - y4 := by rw [IntKind.wrap_i64]; omega
              have hw3 : IntKind.i64.wrap (t * v) = t * v := by rw [IntKind.wrap_i64]; omega
              have hw4 : IntKind.i64.wrap ((i : Int) - 1) = (p : Int) := by rw [IntKind.wrap_i64]; omega
              have hw5 : IntKind.i64.wrap ((i : Int) - ((s : Int) + 1)) = (e : Int) := by rw [IntKind.wrap_i64]; omega
              have i1 : (p : Int) < (k : Int) := by omega
              have i2 : (e : Int) < (k : Int) := by omega
              have i3 : (i : Int) < (k : Int) := by omega
              have HP := Lib.hid hp
              clear hm1 hm2 hvc hv2 hxa hun hu ht he hp hy1 hy2 hy3 hy4
              go_wp2_with fail
              go_still_tail 31, (by kernel_rfl)
              still_call HM1.out
              repeat still_step
              still_call HM2.out
              repeat still_step
              still_call HVC.out
              repeat still_step
              refine wpStill_nil ?_
              change wpList _ _ _ _ _ wr.drew
              have e0 : wr.drew.cell? ⟨w.heap.size, i, none⟩ = some (.int .i64 y1) := d0
              have e1 : wr.drew.frozen? ⟨w.heap.size, i, none⟩ = false := f0
              have e2 : w.heap.size < wr.drew.heap.size := l0
              go_wp2_with fail
              go_roundw
              case rel => exact ⟨p, _, by have := HP.out; omega, hpk, by congr 1, (hb.setCell (p := ⟨w.heap.size, i, none⟩) (Nat.le_refl _) _).drew, Lib.hid ⟨HNEW.out.1, HNEW.out.2⟩⟩
              case measure => simp [intOf]; omega
            · have : i = s := by omega
              subst this
              have hlv : ∀ j, j < k → Lv X Y (i + 1) j (D j) := fun j hj => by
                have h1 := ho.out.2 j hj
                by_cases h2 : i < j
                · rw [if_pos h2] at h1
                  exact h1
                · rw [if_neg h2] at h1
                  exact h1.low (by omega)
              have HLV := Lib.hid (And.intro ho.out.1 hlv); clear hlv
              go_wp2_with fail
              go_roundw
              case rel => exact ⟨i + 1, D, by omega, by congr 1, hb, HLV⟩
              case measure => simp [intOf]; omega
        · have hD : Hid (∀ j, j < k → (0 ≤ D j ∧ D j < 2147483647) ∧ Wd X Y 0 j (D j)) := Lib.hid fun j hj => by
            obtain ⟨h1, h2⟩ := ho.out.2 j hj
            rw [Nat.min_eq_right (by omega), Nat.sub_self] at h2
            exact ⟨h1, h2⟩
          have hgoI : ¬ (s : Int) + 1 < (k : Int) := by omega
          go_wp2_with fail
          go_ret
          exact ⟨_, rfl, D, ho.out.1, hD.out, hb⟩

end Go.Proofs.Ytfipogmndokhkaa
