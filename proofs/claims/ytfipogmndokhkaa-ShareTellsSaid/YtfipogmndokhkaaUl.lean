/- Walks: Fits. -/
import Derived.Test.YtfipogmndokhkaaUk
namespace Go.Proofs.Ytfipogmndokhkaa
open Go.RowKit

section
variable (ds : List (Int × Int)) (A : Option Addr) (c : Nat) (w : World)

set_option maxRecDepth 100000 in
set_option maxHeartbeats 4000000 in
theorem fits_no (k secret : Int) (hS : ShAt w.heap.size w A ds) (hl : ds.length ≤ 1000) (h : k < 1 ∨ 20 < k ∨ ¬ (0 ≤ secret ∧ secret < 2147483647) ∨ ¬ Rt ds ∨ ¬ (ds.map (·.1)).Nodup) :
    Calls Try.prog 13 #[.slice A ds.length c, .int .i64 k, .int .i64 secret] w fun e w' => e = .returned (.bool false) ∧ Below w.heap.size w w' := by
  have HA := Lib.hid (fun r h => allRight_any ds A c w hS hl r h)
  have HT := Lib.hid (fun (hr : Rt ds) w1 (hb : Below w.heap.size w w1) (hn : ¬ (ds.map (·.1)).Nodup) => isTwice_any ds A c w1 ((hS.below hb).more hb.size) hl hr true (by simp [hn]))
  have H := Lib.hid h; clear h hS
  obtain ⟨n, hn⟩ : ∃ n, ds.length = n := ⟨_, rfl⟩
  rw [hn] at HA HT hl ⊢
  clear hn
  by_cases h1 : k < 1
  · clear HA HT
    go_enter Try.func13, Try.ntmps13
    go_wp2_with fail
    go_ret
    exact ⟨rfl, Below.refl _ _⟩
  · by_cases h2 : 20 < k
    · clear HA HT
      go_enter Try.func13, Try.ntmps13
      go_wp2_with fail
      go_ret
      exact ⟨rfl, Below.refl _ _⟩
    · by_cases h3 : 0 ≤ secret ∧ secret < 2147483647
      · have HF := Lib.hid (show true = (decide (0 ≤ secret) && decide (secret < 2147483647)) by simp [h3.1, h3.2])
        by_cases hr : Rt ds
        · have HAA := Lib.hid (HA.out true ((right_iff ds).2 hr).symm)
          have hnd : ¬ (ds.map (·.1)).Nodup := by
            rcases H.out with h | h | h | h | h
            · exact absurd h h1
            · exact absurd h h2
            · exact absurd h3 h
            · exact absurd hr h
            · exact h
          have HTT := Lib.hid (fun w1 hb => HT.out hr w1 hb hnd)
          clear HA HT hr hnd h3
          go_enter Try.func13, Try.ntmps13
          go_wp2_with fail
          refine (inField_any secret _ true HF.out).mono ?_
          rintro e w1 ⟨rfl, rfl⟩
          go_wp2_with fail
          refine HAA.out.mono ?_
          rintro e w1 ⟨rfl, hb⟩
          go_wp2_with fail
          refine (HTT.out _ hb).mono ?_
          rintro e w2 ⟨rfl, hb2⟩
          go_wp2_with fail
          go_ret
          exact ⟨rfl, hb.trans (hb2.mono hb.size)⟩
        · have hf := hr
          rw [← right_iff, Bool.not_eq_true] at hf
          have HAA := Lib.hid (HA.out false hf.symm)
          clear HA HT hr hf h3
          go_enter Try.func13, Try.ntmps13
          go_wp2_with fail
          refine (inField_any secret _ true HF.out).mono ?_
          rintro e w1 ⟨rfl, rfl⟩
          go_wp2_with fail
          refine HAA.out.mono ?_
          rintro e w1 ⟨rfl, hb⟩
          go_wp2_with fail
          go_ret
          exact ⟨rfl, hb⟩
      · have hb : false = (decide (0 ≤ secret) && decide (secret < 2147483647)) := by
          symm
          rw [Bool.and_eq_false_iff]
          simp
          omega
        have HF := Lib.hid hb; clear hb h3 HA HT
        go_enter Try.func13, Try.ntmps13
        go_wp2_with fail
        refine (inField_any secret _ false HF.out).mono ?_
        rintro e w1 ⟨rfl, rfl⟩
        go_wp2_with fail
        go_ret
        exact ⟨rfl, Below.refl _ _⟩

theorem fd_cons {secret : Int} (h0 : 0 ≤ secret) (h1 : secret < 2147483647) (hr : Rt ds) : Fd ((0, secret) :: ds) := fun d hd => by
  rcases List.mem_cons.1 hd with rfl | hd
  · exact ⟨Int.le_refl 0, show (0 : Int) ≤ 20 by decide, h0, h1⟩
  · have := hr d hd; omega
theorem nodup_cons {secret : Int} (hr : Rt ds) (hn : (ds.map (·.1)).Nodup) : (((0, secret) :: ds).map (·.1)).Nodup := by
  rw [List.map_cons, List.nodup_cons]
  refine ⟨fun h => ?_, hn⟩
  obtain ⟨d, hd, e⟩ := List.mem_map.1 h
  have := hr d hd
  simp at e
  omega

set_option maxRecDepth 100000 in
set_option maxHeartbeats 4000000 in
theorem fits_good (k : Nat) (secret : Int) (hS : ShAt w.heap.size w A ds) (hl : ds.length ≤ 900) (h1 : 1 ≤ k) (h2 : k ≤ 20) (h3 : 0 ≤ secret) (h4 : secret < 2147483647) (hr : Rt ds) (hn : (ds.map (·.1)).Nodup) (r : Bool) (hrr : r = true ↔ OnP ((0, secret) :: ds) k) :
    Calls Try.prog 13 #[.slice A ds.length c, .int .i64 k, .int .i64 secret] w fun e w' => e = .returned (.bool r) ∧ Below w.heap.size w w' := by
  have HA := Lib.hid (allRight_any ds A c w hS (by omega) true ((right_iff ds).2 hr).symm)
  have HT := Lib.hid (fun w1 (hb : Below w.heap.size w w1) => isTwice_any ds A c w1 ((hS.below hb).more hb.size) (by omega) hr false (by simp [hn]))
  have HF := Lib.hid (show true = (decide (0 ≤ secret) && decide (secret < 2147483647)) by simp [h3, h4])
  have hfd := fd_cons ds h3 h4 hr
  have hO : ∀ (w1 : World) (v : Value), OwnS w1 w.heap.size v ((0, secret) :: ds) → Calls Try.prog 23 #[v, .int .i64 k] w1 fun e w' => e = .returned (.bool r) ∧ Below w1.heap.size w1 w' := fun w1 v ho => by
    obtain ⟨A', c', rfl, hc1, hc2, hS'⟩ := ho.at_
    exact onOne_any _ A' c' k w1 hS' (by simp; omega) hc1 hc2 hfd (apart_of hfd (nodup_cons ds hr hn)) h1 r hrr
  have HO := Lib.hid hO; clear hO
  have HS := Lib.hid hS; clear hS
  clear hr hn hrr hfd
  obtain ⟨n, hn⟩ : ∃ n, ds.length = n := ⟨_, rfl⟩
  rw [hn] at HA HT hl ⊢
  have HN := Lib.hid hn; clear hn
  go_enter Try.func13, Try.ntmps13
  go_wp2_with fail
  refine (inField_any secret _ true HF.out).mono ?_
  rintro e w1 ⟨rfl, rfl⟩
  go_wp2_with fail
  refine HA.out.mono ?_
  rintro e w1 ⟨rfl, hb⟩
  go_wp2_with fail
  refine (HT.out _ hb).mono ?_
  rintro e w2 ⟨rfl, hb2⟩
  have hb02 := hb.trans (hb2.mono hb.size)
  have hs2 := hb02.size
  go_wp2_with (first
    | (at_make; refine makeS rfl (.const (.int .i64 0)) (.tmp 30) rfl w.heap.size 0 (n + 1) _ _ rfl rfl rfl (by omega) (by omega) (by omega) hs2 ?_; intro w3 hown3 hb3 hsz3)
    | (at_builtin; refine appS1 rfl (.tmp 32) (.tmp 35) rfl w.heap.size _ _ 0 secret rfl hown3 _ hsz3 rfl (by simp) (by omega) ?_; intro v4 w4 hown4 hg4; have hb4 := grown_bel (((hb02.trans (hb3.mono (Nat.le_refl _)))).alloc (by omega) _) (hown3.below ((Below.refl _ _).alloc (Nat.le_refl _) _)) hg4 (Nat.le_refl _); have hs4 := hb4.size)
    | (at_builtin; refine appS rfl (.tmp 37) (.tmp 38) rfl w.heap.size _ _ ds A n c rfl hown4 rfl HN.out ((HS.out.below hb4).more hs4) (by simp; omega) hs4 ?_; intro v5 w5 hown5 hg5; have hb5 := grown_bel hb4 hown4 hg5 (Nat.le_refl _)))
  refine (HO.out _ _ hown5).mono ?_
  rintro e w6 ⟨rfl, hb6⟩
  go_wp2_with fail
  go_ret
  exact ⟨rfl, hb5.trans (hb6.mono hb5.size)⟩
end

end Go.Proofs.Ytfipogmndokhkaa
