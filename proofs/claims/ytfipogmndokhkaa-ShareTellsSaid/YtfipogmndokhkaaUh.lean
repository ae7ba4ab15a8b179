/- Walks: onOne. -/
import Derived.Test.YtfipogmndokhkaaUg
import Derived.Deep.RegionHeld3
namespace Go.Proofs.Ytfipogmndokhkaa
open Go.RowKit

theorem has_inv {a : Int} (h : ¬ Cg a 0) : ∃ v, Cg (a * v) 1 := by
  have h1 : ¬ Cg (a % 2147483647) 0 := fun h2 => h ((Cg.mod a).symm.trans h2)
  exact ⟨_, ((Cg.mod a).symm.mul (Cg.refl _)).trans (fermat 2147483645 (by decide) _ (by omega) h1)⟩
/-- Through points that are apart there is a polynomial. -/
theorem has_poly {Xs : List Int} (Ys : List Int) (ha : Apart Xs) : ∃ f, Pol Xs.length f ∧ ∀ i, i < Xs.length → Cg (f (Xs.getD i 0)) (Ys.getD i 0) := by
  have h : ∀ i, ∃ v, i < Xs.length → Cg (pf Xs i (Xs.getD i 0) Xs.length * v) 1 := fun i => by
    by_cases hi : i < Xs.length
    · obtain ⟨v, hv⟩ := has_inv (pf_self ha i hi Xs.length (Nat.le_refl _))
      exact ⟨v, fun _ => hv⟩
    · exact ⟨0, fun h => absurd h hi⟩
  have hV : ∀ i, i < Xs.length → Cg (pf Xs i (Xs.getD i 0) Xs.length * Classical.choose (h i)) 1 := fun i hi => Classical.choose_spec (h i) hi
  refine ⟨fun x => lag Xs Ys (fun i => Classical.choose (h i)) Xs.length x Xs.length, lag_pol Xs Ys _ _ _ (Nat.le_refl _), fun i hi => ?_⟩
  have := lag_at (Ys := Ys) ha rfl hV i hi _ (Nat.le_refl _)
  rwa [if_pos hi] at this

/-- f has all values of the points. -/
def Thru (f : Int → Int) (ds : List (Int × Int)) : Prop := ∀ i, i < ds.length → Cg (f (ds.getD i (0, 0)).1) (ds.getD i (0, 0)).2
/-- There is a polynomial of a degree less than k through the points. -/
def OnP (ds : List (Int × Int)) (k : Nat) : Prop := ∃ f, Pol k f ∧ Thru f ds
theorem Thru.mem {f : Int → Int} {ds : List (Int × Int)} (h : Thru f ds) : ∀ d ∈ ds, Cg (f d.1) d.2 := fun d hd => by
  obtain ⟨i, hi, rfl⟩ := List.mem_iff_getElem.1 hd
  have := h i hi
  rwa [List.getD_eq_getElem?_getD, List.getElem?_eq_getElem hi] at this
theorem Thru.of_mem {f : Int → Int} {ds : List (Int × Int)} (h : ∀ d ∈ ds, Cg (f d.1) d.2) : Thru f ds := fun i hi => by
  rw [List.getD_eq_getElem?_getD, List.getElem?_eq_getElem hi]
  exact h _ (List.getElem_mem hi)
theorem apart_of {ds : List (Int × Int)} (hf : Fd ds) (hn : (ds.map (·.1)).Nodup) : Apart (ds.map (·.1)) := by
  refine Apart.of_get fun i j hij hj hc => ?_
  have hj' : j < ds.length := by simpa using hj
  obtain ⟨a1, a2, _, _⟩ := hf.get (k := i) (by omega)
  obtain ⟨b1, b2, _, _⟩ := hf.get (k := j) hj'
  rw [fst_get, fst_get] at hc
  have e := hc.eq a1 (by omega) b1 (by omega)
  rw [← fst_get, ← fst_get, List.getD_eq_getElem?_getD, List.getD_eq_getElem?_getD, List.getElem?_eq_getElem hj, List.getElem?_eq_getElem (show i < (ds.map (·.1)).length by omega)] at e
  have := (List.getElem_inj (h₀ := by omega) (h₁ := hj) hn).1 (show (ds.map (·.1))[i] = (ds.map (·.1))[j] from e)
  omega
theorem Apart.take {l : List Int} (h : Apart l) (k : Nat) : Apart (l.take k) := Apart.of_get fun i j hij hj => by
  rw [List.length_take] at hj
  rw [getD_take (by omega), getD_take (by omega)]
  exact h.get i j (by omega) (by omega) (by omega)
theorem Fd.take {ds : List (Int × Int)} (h : Fd ds) (k : Nat) : Fd (ds.take k) := fun d hd => h d (List.mem_of_mem_take hd)
theorem poly_of {ds : List (Int × Int)} (ha : Apart (ds.map (·.1))) : ∃ f, Pol ds.length f ∧ Thru f ds := by
  obtain ⟨f, h1, h2⟩ := has_poly (ds.map (·.2)) ha
  rw [List.length_map] at h1 h2
  refine ⟨f, h1, fun i hi => ?_⟩
  have := h2 i hi
  rwa [fst_get, snd_get] at this
theorem onP_few {ds : List (Int × Int)} {k : Nat} (ha : Apart (ds.map (·.1))) (hk : ds.length ≤ k) : OnP ds k := by
  obtain ⟨f, h1, h2⟩ := poly_of ha
  exact ⟨f, h1.mono hk, h2⟩
/-- The polynomial through the first k points. -/
theorem first_poly {ds : List (Int × Int)} {k : Nat} (ha : Apart (ds.map (·.1))) (hk : k ≤ ds.length) : ∃ f, Pol k f ∧ Thru f (ds.take k) := by
  have h1 := ha.take k
  rw [← List.map_take] at h1
  obtain ⟨f, h2, h3⟩ := poly_of h1
  rw [List.length_take, Nat.min_eq_left hk] at h2
  exact ⟨f, h2, h3⟩
theorem poly_eq {ds : List (Int × Int)} {f g : Int → Int} {k : Nat} (ha : Apart (ds.map (·.1))) (hk : k ≤ ds.length) (hf : Pol k f) (hg : Pol k g) (h1 : Thru f (ds.take k)) (h2 : Thru g (ds.take k)) (x : Int) : Cg (f x) (g x) := by
  have h3 := ha.take k
  rw [← List.map_take] at h3
  refine Pol.same_le ((ds.take k).map (·.1)) (k := k) (by simp; omega) hf hg h3 (fun r hr => ?_) x
  obtain ⟨d, hd, rfl⟩ := List.mem_map.1 hr
  exact (h1.mem d hd).trans (h2.mem d hd).symm
theorem Thru.take {f : Int → Int} {ds : List (Int × Int)} (h : Thru f ds) (k : Nat) : Thru f (ds.take k) := Thru.of_mem fun d hd => h.mem d (List.mem_of_mem_take hd)

/-- interpolate, where a polynomial through the points is known. -/
theorem interp_exact {ds : List (Int × Int)} (A : Option Addr) (c : Nat) (x : Int) (w : World) (hS : ShAt w.heap.size w A ds) (hl : ds.length ≤ 1000) (hfd : Fd ds) (hx0 : 0 ≤ x) (hx1 : x ≤ 20)
    (ha : Apart (ds.map (·.1))) {n : Nat} (hn : ds.length = n) {f : Int → Int} (hf : Pol n f) (ht : Thru f ds) :
    Calls Try.prog 24 #[.slice A n c, .int .i64 x] w fun e w' => e = .returned (.int .i64 (f x % 2147483647)) ∧ Below w.heap.size w w' := by
  subst hn
  refine (interpolate_any ds A c x w hS hl hfd hx0 hx1).mono ?_
  rintro e w' ⟨z, rfl, hz0, hz1, hv, hb⟩
  have h := (hv.out ha f hf ht).emod
  rw [Int.emod_eq_of_lt hz0 hz1] at h
  exact ⟨by rw [h], hb⟩

set_option maxRecDepth 100000 in
set_option maxHeartbeats 4000000 in
theorem onOne_any (ds : List (Int × Int)) (A : Option Addr) (c : Nat) (k : Nat) (w : World) (hS : ShAt w.heap.size w A ds) (hl : ds.length ≤ 1000) (hlc : ds.length ≤ c) (hcm : c ≤ 9223372036854775807) (hfd : Fd ds) (ha : Apart (ds.map (·.1))) (hk1 : 1 ≤ k) (r : Bool) (hr : r = true ↔ OnP ds k) :
    Calls Try.prog 23 #[.slice A ds.length c, .int .i64 k] w fun e w' => e = .returned (.bool r) ∧ Below w.heap.size w w' := by
  have HR := Lib.hid hr; clear hr
  obtain ⟨n, hn⟩ : ∃ n, ds.length = n := ⟨_, rfl⟩
  by_cases hnk : n ≤ k
  · have : r = true := HR.out.2 (onP_few ha (by omega))
    subst this
    rw [hn] at hl hlc ⊢
    clear hn hS hfd ha
    go_enter Try.func23, Try.ntmps23
    go_wp2_with fail
    go_ret
    exact ⟨rfl, Below.refl _ _⟩
  · obtain ⟨f, hf, ht⟩ := first_poly (k := k) ha (by omega)
    obtain ⟨b, off, hA, hB, _⟩ := hS 0 (by omega)
    subst hA
    have hI : ∀ (x : Int), 0 ≤ x → x ≤ 20 → ∀ w1 : World, Below w.heap.size w w1 → Calls Try.prog 24 #[.slice (some ⟨b, off, none⟩) k c, .int .i64 x] w1 fun e w' => e = .returned (.int .i64 (f x % 2147483647)) ∧ Below w1.heap.size w1 w' := fun x hx0 hx1 w1 hb1 =>
      interp_exact _ c x w1 (((hS.below hb1).more hb1.size).take k) (by rw [List.length_take]; omega) (hfd.take k) hx0 hx1 (by rw [List.map_take]; exact ha.take k) (by rw [List.length_take]; omega) hf ht
    have HI := Lib.hid hI; clear hI
    have HS := Lib.hid hS; clear hS
    have HT := Lib.hid hfd; clear hfd
    have HP := Lib.hid (And.intro ha (And.intro hf ht)); clear ha hf ht
    rw [hn] at hl hlc ⊢
    have HN := Lib.hid hn; clear hn
    have HFX : Hid (∀ i, f (ds.getD i (0, 0)).1 % 2147483647 = (ds.getD i (0, 0)).2 → 0 ≤ (ds.getD i (0, 0)).2 → Cg (f (ds.getD i (0, 0)).1) (ds.getD i (0, 0)).2) := Lib.hid fun i h _ => (Cg.mod _).symm.trans (Cg.of_eq h)
    have hsub : ((n : Int) - (k : Int)) = ((n - k : Nat) : Int) := by omega
    go_enter Try.func23, Try.ntmps23
    go_wp2_with fail
    go_loopw [15] (fun iv wr => ∃ i : Nat, i ≤ n - k ∧ iv = .int .i64 i ∧ Below w.heap.size w wr ∧ Hid (∀ j, j < k + i → Cg (f (ds.getD j (0, 0)).1) (ds.getD j (0, 0)).2)) (fun iv _ => n - (intOf iv).toNat)
    case atStart => exact ⟨0, Nat.zero_le _, rfl, Below.refl _ _, Lib.hid fun j hj => by
      have h := HP.out.2.2 j (by rw [List.length_take]; have := HN.out; omega)
      rwa [getD_take (by omega)] at h⟩
    case round =>
      obtain ⟨i, hi, rfl, hb, hv⟩ := hrel
      have hs := hb.size
      by_cases hgo : i < n - k
      · obtain ⟨b', off', hA', _, hc0, hc1⟩ := (HS.out.below hb) (k + i) (by have := HN.out; omega)
        injection hA' with hA'
        injection hA' with e1 e2
        subst e1; subst e2
        obtain ⟨hu0, hu1, hu2, hu3⟩ := HT.out.get (k := k + i) (by have := HN.out; omega)
        have hval := HI.out _ hu0 hu1
        have hfx := HFX.out (k + i)
        have hne : (f (ds.getD (k + i) (0, 0)).1 % 2147483647 ≠ (ds.getD (k + i) (0, 0)).2) → r = false := fun hne => by
          cases hrr : r with
          | false => rfl
          | true =>
            exfalso
            obtain ⟨g, hg, htg⟩ := HR.out.1 hrr
            have h1 := poly_eq HP.out.1 (by have := HN.out; omega) HP.out.2.1 hg HP.out.2.2 (htg.take k) (ds.getD (k + i) (0, 0)).1
            have h2 := htg (k + i) (by have := HN.out; omega)
            have h3 := (h1.trans h2).emod
            rw [Int.emod_eq_of_lt hu2 hu3] at h3
            exact hne h3
        have ea : off + (k + i) * 2 = off + k * 2 + i * 2 := by omega
        rw [ea] at hc0 hc1
        obtain ⟨d, hd⟩ : ∃ d, ds.getD (k + i) (0, 0) = d := ⟨_, rfl⟩
        rw [hd] at hc0 hc1 hu0 hu1 hu2 hu3 hval hfx hne
        have HDD := Lib.hid hd; clear hd
        obtain ⟨X, Y⟩ := d
        simp only at hc0 hc1 hu0 hu1 hu2 hu3 hval hfx hne
        obtain ⟨Z, hZ⟩ : ∃ Z, f X % 2147483647 = Z := ⟨_, rfl⟩
        rw [hZ] at hval hfx hne
        have HVAL := Lib.hid hval; clear hval
        have HFXX := Lib.hid hfx; clear hfx
        have HNE := Lib.hid hne; clear hne
        clear ea hZ
        have hkc : k ≤ c := by omega
        go_wp2_with fail
        have hb2 := hb.alloc hs (.cells #[.int .i64 X, .int .i64 Y] 39)
        have k2 := Blk.new wr 39 #[.int .i64 X, .int .i64 Y]
        obtain ⟨W, hW⟩ : ∃ W, wr.alloc (.cells #[.int .i64 X, .int .i64 Y] 39) = W := ⟨_, rfl⟩
        obtain ⟨g, hg⟩ : ∃ g, wr.heap.size = g := ⟨_, rfl⟩
        rw [hW] at k2 hb2 ⊢
        rw [hg] at k2 ⊢
        clear hW hg hc0 hc1 hb hs
        have hsW := hb2.size
        have hgW := k2.lt
        have e0 : ∀ W' : World, Below W.heap.size W W' → W'.cell? ⟨g, 0, none⟩ = some (.int .i64 X) ∧ W'.cell? ⟨g, 1, none⟩ = some (.int .i64 Y) ∧ Below W.heap.size W W' := fun W' hW => ⟨(k2.below hW k2.lt).cell 0, (k2.below hW k2.lt).cell 1, hW⟩
        have E0 := Lib.hid e0; clear e0
        have hB00 : Below W.heap.size W W.drew := (Below.refl _ _).drew
        clear k2
        by_cases hzy : Z = Y
        · subst hzy
          have hnew := Lib.hid (HFXX.out rfl hu2)
          go_region_held3 (fun W' => W'.cell? ⟨g, 0, none⟩ = some (.int .i64 X) ∧ W'.cell? ⟨g, 1, none⟩ = some (.int .i64 Z) ∧ Below W.heap.size W W')
            (first | exact E0.out _ (by assumption) | exact E0.out _ ⟨rfl, rfl, rfl, Nat.le_refl _, fun _ _ => rfl⟩)
            (first
              | (go_at_call 24; refine (HVAL.out _ (hb2.trans (hB00.mono hsW))).mono ?_; rintro e w4 ⟨rfl, hb4⟩; have hB4 : Below W.heap.size W w4 := ⟨hb4.os, hb4.tape, hb4.output, hb4.size, hb4.block⟩))
          go_wp2_with fail
          go_roundw
          case rel => exact ⟨i + 1, by omega, rfl, hb2.trans (hB4.mono hsW), Lib.hid fun j hj => by
            by_cases hji : j < k + i
            · exact hv.out j hji
            · have : j = k + i := by omega
              subst this
              rw [HDD.out]
              exact hnew.out⟩
          case measure => simp [intOf]; omega
        · have hzb : (Z != Y) = true := by simpa using hzy
          have hrf : Hid (r = false) := Lib.hid (HNE.out hzy)
          clear hzy
          go_region_held3 (fun W' => W'.cell? ⟨g, 0, none⟩ = some (.int .i64 X) ∧ W'.cell? ⟨g, 1, none⟩ = some (.int .i64 Y) ∧ Below W.heap.size W W')
            (first | exact E0.out _ (by assumption) | exact E0.out _ ⟨rfl, rfl, rfl, Nat.le_refl _, fun _ _ => rfl⟩)
            (first
              | (go_at_call 24; refine (HVAL.out _ (hb2.trans (hB00.mono hsW))).mono ?_; rintro e w4 ⟨rfl, hb4⟩; have hB4 : Below W.heap.size W w4 := ⟨hb4.os, hb4.tape, hb4.output, hb4.size, hb4.block⟩))
          go_wp2_with fail
          go_ret
          exact ⟨by rw [hrf.out]; rfl, hb2.trans (hB4.mono hsW)⟩
      · have : i = n - k := by omega
        subst this
        have hrt : Hid (r = true) := Lib.hid (HR.out.2 ⟨f, HP.out.2.1, fun j hj => hv.out j (by have := HN.out; omega)⟩)
        go_wp2_with fail
        go_ret
        exact ⟨by rw [hrt.out]; rfl, hb⟩

end Go.Proofs.Ytfipogmndokhkaa
