/- Walks: the claim's comesBack, isSound; label's Check. -/
import Derived.Test.YteiojobgjdfdpaaSf
import Derived.Carry
namespace Go.Proofs.Yteiojobgjdfdpaa
open Go.RowKit Go.Sort

def M0 (src k : Nat) : Option Bool := if k = src then some true else none
theorem M0.gi {F : Nat → Nat} {src : Nat} (_hF : F src = src) : GI F src [] (M0 src) := by
  refine ⟨if_pos rfl, fun v hv => ?_, fun v hv _ => ?_, fun v hv => by simp at hv⟩
  · unfold M0 at hv
    by_cases e : v = src
    · rw [e]; exact ⟨0, rfl⟩
    · rw [if_neg e] at hv; cases hv
  · unfold M0 at hv
    by_cases e : v = src
    · rw [if_pos e] at hv; cases hv
    · rw [if_neg e] at hv; cases hv
theorem M0.map {w : World} {mb src : Nat} (h : IMap w mb (fun y => if y = (src : Int) then some (.bool true) else (none : Option Value))) : IMap w mb (mf (M0 src)) := h.congr (fun x => by
  unfold mf M0
  by_cases e : x = (src : Int)
  · rw [if_pos (by omega), if_pos (by omega), if_pos e]; rfl
  · rw [if_neg e]
    by_cases h : 0 ≤ x
    · rw [if_pos h, if_neg (by omega)]; rfl
    · rw [if_neg h])

set_option maxRecDepth 100000 in
set_option maxHeartbeats 8000000 in
theorem comes_any (l : List Am) (A : Option Addr) (m c src : Nat) (t : Int) (b : Bool) (L : Option Addr) (n c2 : Nat) (lab : List Lb) (w : World) (hl : l.length = m) (hA : ArcsAt w.heap.size w A l) (hR : RRight n l) (hn : lab.length = n) (hL : LbsAt w.heap.size w L lab) (hs : src < n) (hfo : ∀ v, v < n → FollP l src t b lab v) (r : Bool) (hr : r = true ↔ ∀ v, v < n → (lb lab v).1 ≠ -1 → Back (par l src lab) src v) :
    Calls Try.prog 74 #[clv A m c src t b L n c2] w fun e w' => e = .returned (.bool r) ∧ Below w.heap.size w w' := by
  have hn2 : n ≤ 2000 := by have := hR.2.1; omega
  have hr0 : ¬ (∀ v, v < n → (lb lab v).1 ≠ -1 → Back (par l src lab) src v) → r = false := fun h => by
    cases r with
    | false => rfl
    | true => exact absurd (hr.1 rfl) h
  have HR := Lib.hid (And.intro hr hr0); clear hr hr0
  have HGo := Lib.hid (fun (M : Nat → Option Bool) (v : Nat) (W : World) hG hv hre hA hL hM => goes_any l A m c src t b L n c2 lab (w.heap.size + 1) w.heap.size hl hR hn (by omega) hfo n [] M v W (by simp) List.nodup_nil (by simp) (by simp) hG hv hre hA hL hM)
  have HA := Lib.hid (And.intro hA (And.intro hL hn))
  have hfs : par l src lab src = src := par_src
  clear hl hA hR hn hL hfo
  have hs64 : isI64 (src : Int) := by unfold isI64; omega
  obtain ⟨W0, hW0⟩ : ∃ W, w.alloc (.cells #[.slice A m c, .int .i64 src, .int .i64 t, .bool b, .slice L n c2] 79) = W := ⟨_, rfl⟩
  have hB0 := (Below.refl w.heap.size w).alloc (Nat.le_refl _) (.cells #[.slice A m c, .int .i64 src, .int .i64 t, .bool b, .slice L n c2] 79)
  have hk0 := Blk.new w 79 #[.slice A m c, .int .i64 src, .int .i64 t, .bool b, .slice L n c2]
  have hsz0 : W0.heap.size = w.heap.size + 1 := by rw [← hW0]; simp
  rw [hW0] at hB0 hk0
  obtain ⟨w2, hrun, hm2, hg2, hs2⟩ := (IMap.made W0).store (P := Try.prog) Try.underlying3 Try.underlying99 hs64 (.bool true)
  rw [hsz0] at hrun hm2 hg2
  have hF2 : Fr (· = w.heap.size + 1) w w2 := (Fr.of_below (hB0.alloc hB0.size (.map #[] 0))).tr (Fr.of_grown hg2)
  have hk2 : Blk w2 w.heap.size 79 #[.slice A m c, .int .i64 src, .int .i64 t, .bool b, .slice L n c2] := (hk0.alloc _).fr (Fr.of_grown hg2) (by omega)
  have hM2 := M0.map hm2
  have hl2 := hk2.lt
  have hl3 := hm2.lt
  have a1 : (W0.alloc (.map #[] 0)).cell? ⟨w.heap.size, 1, none⟩ = some (.int .i64 src) := (hk0.alloc _).cell 1
  have a4 : w2.cell? ⟨w.heap.size, 4, none⟩ = some (.slice L n c2) := hk2.cell 4
  have H2 := Lib.hid (And.intro hF2 (And.intro hk2 hM2))
  clear hm2 hg2 hs2 hF2 hk2 hM2 hB0 hk0
  have hmm := @run_makeMap Try.prog
  obtain ⟨F, hF⟩ : ∃ F, par l src lab = F := ⟨_, rfl⟩
  rw [hF] at HR HGo hfs
  clear hF
  have HFS := Lib.hid hfs; clear hfs
  go_enter Try.func74, Try.ntmps74
  go_wp2_with fail
  clear hrun hmm hW0 hsz0 a1
  go_loopw [12] (fun iv wr => ∃ (i : Nat) (M : Nat → Option Bool), iv = .int .i64 i ∧ i ≤ n ∧ Hid (GI F src [] M ∧ IMap wr (w.heap.size + 1) (mf M) ∧ Fr (· = w.heap.size + 1) w2 wr) ∧ Hid (∀ k, k < i → (lb lab k).1 ≠ -1 → Back F src k)) (fun iv _ => n - (intOf iv).toNat)
  case atStart => exact ⟨0, M0 src, rfl, by omega, Lib.hid ⟨M0.gi HFS.out, H2.out.2.2, Fr.refl _ _⟩, Lib.hid (fun k hk => by omega)⟩
  case round =>
    obtain ⟨i, M, rfl, hi, hI, hK⟩ := hrel
    clear a4
    have hFw : Fr (· = w.heap.size + 1) w wr := H2.out.1.tr hI.out.2.2
    have hBw : Below w.heap.size w wr := hFw.below (fun b hb => by omega) (Nat.le_refl _)
    have HBw := Lib.hid hBw
    by_cases hgo : i < n
    · have hkr := H2.out.2.1.fr hI.out.2.2 (by omega)
      have hkl := hkr.lt
      have a0 : wr.cell? ⟨w.heap.size, 0, none⟩ = some (.slice A m c) := hkr.cell 0
      have a1 : wr.cell? ⟨w.heap.size, 1, none⟩ = some (.int .i64 src) := hkr.cell 1
      have a2 : wr.cell? ⟨w.heap.size, 2, none⟩ = some (.int .i64 t) := hkr.cell 2
      have a3 : wr.cell? ⟨w.heap.size, 3, none⟩ = some (.bool b) := hkr.cell 3
      have a4 : wr.cell? ⟨w.heap.size, 4, none⟩ = some (.slice L n c2) := hkr.cell 4
      obtain ⟨r2, hr2⟩ : ∃ r2, r2 = decide ((lb lab i).1 ≠ -1) := ⟨_, rfl⟩
      have HIR := Lib.hid (isReached_any A m c src t b L n c2 lab i wr HA.out.2.2 ((HA.out.2.1.below hBw).more hBw.size) hgo r2 hr2)
      clear hFw hBw
      cases r2 with
      | false =>
        have hre := of_decide_eq_false hr2.symm
        have HKn : Hid (∀ k, k < i + 1 → (lb lab k).1 ≠ -1 → Back F src k) := Lib.hid (fun k hk hne => by
          by_cases e : k < i
          · exact hK.out k e hne
          · have : k = i := by omega
            subst this
            exact absurd hne hre)
        clear hre hr2
        go_wp2_with fail
        refine HIR.out.mono ?_
        rintro e w3 ⟨rfl, hb3⟩
        have HIn : Hid (GI F src [] M ∧ IMap w3 (w.heap.size + 1) (mf M) ∧ Fr (· = w.heap.size + 1) w2 w3) := Lib.hid ⟨hI.out.1, hI.out.2.1.same (hb3.block _ hI.out.2.1.lt), hI.out.2.2.tr (Fr.of_below hb3)⟩
        clear hb3
        go_wp2_with fail
        go_roundw
        case rel => exact ⟨i + 1, M, rfl, by omega, HIn, HKn⟩
        case measure => simp [intOf]; omega
      | true =>
        have hre := of_decide_eq_true hr2.symm
        have HRE := Lib.hid hre
        clear hre hr2
        go_wp2_with fail
        refine HIR.out.mono ?_
        rintro e w3 ⟨rfl, hb3⟩
        have hM3 := hI.out.2.1.same (hb3.block _ hI.out.2.1.lt)
        have hF3 := hI.out.2.2.tr (Fr.of_below hb3)
        have hBw3 : Below w.heap.size w w3 := HBw.out.trans (hb3.mono HBw.out.size)
        have hk3 := hkr.below hb3 hkr.lt
        clear a0 a1 a2 a3 a4
        have a0 : w3.cell? ⟨w.heap.size, 0, none⟩ = some (.slice A m c) := hk3.cell 0
        have a1 : w3.cell? ⟨w.heap.size, 1, none⟩ = some (.int .i64 src) := hk3.cell 1
        have a2 : w3.cell? ⟨w.heap.size, 2, none⟩ = some (.int .i64 t) := hk3.cell 2
        have a3 : w3.cell? ⟨w.heap.size, 3, none⟩ = some (.bool b) := hk3.cell 3
        have a4 : w3.cell? ⟨w.heap.size, 4, none⟩ = some (.slice L n c2) := hk3.cell 4
        have HC := Lib.hid (HGo.out M i w3 hI.out.1 hgo HRE.out (HA.out.1.below hBw3) (HA.out.2.1.below hBw3) hM3)
        have HF3 := Lib.hid hF3
        have hkl3 := hk3.lt
        clear hb3 hF3 hM3 hBw3 hk3 hkr
        go_wp2_with fail
        refine HC.out.mono ?_
        rintro e w4 ⟨r4, M4, rfl, hr4, hG4, hM4, hF4⟩
        have HIn : Hid (GI F src [] M4 ∧ IMap w4 (w.heap.size + 1) (mf M4) ∧ Fr (· = w.heap.size + 1) w2 w4) := Lib.hid ⟨hG4, hM4, HF3.out.tr hF4⟩
        clear hG4 hM4 hF4 a0 a1 a2 a3 a4
        cases r4 with
        | false =>
          have hrf := HR.out.2 (fun h => by have := hr4.2 (h i hgo HRE.out); cases this)
          subst hrf
          clear hr4
          go_wp2_with fail
          go_ret
          exact ⟨by rfl, (H2.out.1.tr HIn.out.2.2).below (fun b hb => by omega) (Nat.le_refl _)⟩
        | true =>
          have HKn : Hid (∀ k, k < i + 1 → (lb lab k).1 ≠ -1 → Back F src k) := Lib.hid (fun k hk hne => by
            by_cases e : k < i
            · exact hK.out k e hne
            · have : k = i := by omega
              subst this
              exact hr4.1 rfl)
          clear hr4
          go_wp2_with fail
          go_roundw
          case rel => exact ⟨i + 1, M4, rfl, by omega, HIn, HKn⟩
          case measure => simp [intOf]; omega
    · have e : i = n := by omega
      subst e
      have hrt := HR.out.1.2 (fun k hk => hK.out k hk)
      subst hrt
      go_wp2_with fail
      go_ret
      exact ⟨by rfl, HBw.out⟩

end Go.Proofs.Yteiojobgjdfdpaa
