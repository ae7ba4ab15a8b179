/- Walks: the reference's Wrong. -/
import Derived.Test.YtfipogmndokhkaaVe
namespace Go.Proofs.Ytfipogmndokhkaa
open Go.RowKit

def WrR (ds : List (Int × Int)) (r : Int) : Prop := (¬ Rt ds ∧ r = 1) ∨ (Rt ds ∧ ¬ (ds.map (·.1)).Nodup ∧ r = 5) ∨ (Rt ds ∧ (ds.map (·.1)).Nodup ∧ r = 0)
theorem wrR_bad {ds : List (Int × Int)} {r : Int} (h : WrR ds r) (hr : ¬ Rt ds) : r = 1 := by
  rcases h with ⟨_, h⟩ | ⟨h, _⟩ | ⟨h, _⟩
  · exact h
  · exact absurd h hr
  · exact absurd h hr
theorem wrR_dup {ds : List (Int × Int)} {r : Int} (h : WrR ds r) (hr : Rt ds) (hn : ¬ (ds.map (·.1)).Nodup) : r = 5 := by
  rcases h with ⟨h, _⟩ | ⟨_, _, h⟩ | ⟨_, h, _⟩
  · exact absurd hr h
  · exact h
  · exact absurd h hn
theorem wrR_ok {ds : List (Int × Int)} {r : Int} (h : WrR ds r) (hr : Rt ds) (hn : (ds.map (·.1)).Nodup) : r = 0 := by
  rcases h with ⟨h, _⟩ | ⟨_, h, _⟩ | ⟨_, _, h⟩
  · exact absurd hr h
  · exact absurd hn h
  · exact h
theorem dup_not {ds : List (Int × Int)} {i j : Nat} (hi : i < ds.length) (hj : j < i) (h : (ds.getD i (0, 0)).1 = (ds.getD j (0, 0)).1) : ¬ (ds.map (·.1)).Nodup := not_nodup hi (by
  rw [h, List.getD_eq_getElem?_getD, List.getElem?_eq_getElem (by omega)]
  exact List.mem_map.2 ⟨ds[j], List.mem_take_iff_getElem.2 ⟨j, by omega, rfl⟩, rfl⟩)
theorem fst_mem {ds : List (Int × Int)} {i : Nat} {x : Int} (hi : i ≤ ds.length) (h : x ∈ (ds.take i).map (·.1)) : ∃ j, j < i ∧ (ds.getD j (0, 0)).1 = x := by
  obtain ⟨d, hd, rfl⟩ := List.mem_map.1 h
  obtain ⟨j, hj, rfl⟩ := List.mem_take_iff_getElem.1 hd
  exact ⟨j, by omega, by rw [List.getD_eq_getElem?_getD, List.getElem?_eq_getElem (by omega)]; rfl⟩

set_option maxRecDepth 100000 in
set_option maxHeartbeats 4000000 in
theorem wrong_num (ds : List (Int × Int)) (A : Option Addr) (c : Nat) (k : Int) (w : World) (h : k < 1 ∨ 20 < k) :
    Calls Try.prog 25 #[.slice A ds.length c, .int .i64 k] w fun e w' => e = .returned (.int .i64 1) ∧ Below w.heap.size w w' := by
  obtain ⟨n, hn⟩ : ∃ n, ds.length = n := ⟨_, rfl⟩
  rw [hn]
  clear hn
  by_cases h1 : k < 1
  · clear h
    go_enter Try.func25, Try.ntmps25
    go_wp2_with fail
    go_ret
    exact ⟨rfl, Below.refl _ _⟩
  · have h2 : 20 < k := by omega
    clear h
    go_enter Try.func25, Try.ntmps25
    go_wp2_with fail
    go_ret
    exact ⟨rfl, Below.refl _ _⟩

set_option maxRecDepth 100000 in
set_option maxHeartbeats 8000000 in
theorem wrong_any (ds : List (Int × Int)) (A : Option Addr) (c : Nat) (k : Int) (w : World) (hS : ShAt w.heap.size w A ds) (hl : ds.length ≤ 1000) (h1 : 1 ≤ k) (h2 : k ≤ 20) (r : Int) (hr : WrR ds r) :
    Calls Try.prog 25 #[.slice A ds.length c, .int .i64 k] w fun e w' => e = .returned (.int .i64 r) ∧ Below w.heap.size w w' := by
  have HS := Lib.hid hS; clear hS
  have HR := Lib.hid hr; clear hr
  obtain ⟨n, hn⟩ : ∃ n, ds.length = n := ⟨_, rfl⟩
  rw [hn] at hl ⊢
  have HN := Lib.hid hn; clear hn
  go_enter Try.func25, Try.ntmps25
  go_wp2_with fail
  go_loop [5] (fun iv => ∃ i : Nat, i ≤ n ∧ iv = .int .i64 i ∧ Hid ((ds.take i).all rightB = true)) (fun iv => n - (intOf iv).toNat)
  case atStart => exact ⟨0, Nat.zero_le _, rfl, Lib.hid rfl⟩
  case round =>
    obtain ⟨i, hi, rfl, hv⟩ := hrel
    by_cases hgo : i < n
    · obtain ⟨b, off, hA, _, c0, c1⟩ := HS.out i (by have := HN.out; omega)
      subst hA
      have hst := fun h => all_step (by have := HN.out; omega) hv.out h
      have hsp := fun h => all_stop (k := i) (ds := ds) (by have := HN.out; omega) h
      obtain ⟨d, hd⟩ : ∃ d, ds.getD i (0, 0) = d := ⟨_, rfl⟩
      obtain ⟨X, Y⟩ := d
      rw [hd] at c0 c1 hst hsp
      simp only at c0 c1
      have hbad : rightB (X, Y) = false → r = 1 := fun h => wrR_bad HR.out (fun h' => by rw [← right_iff, hsp h] at h'; cases h')
      have HST := Lib.hid hst; clear hst hsp
      have HBD := Lib.hid hbad; clear hbad
      clear hd
      by_cases q1 : X < 1
      · have hf : Hid (r = 1) := Lib.hid (HBD.out (by unfold rightB; simp; omega))
        go_wp2_with fail
        go_ret
        exact ⟨by rw [hf.out]; rfl, Below.refl _ _⟩
      by_cases q2 : 20 < X
      · have hf : Hid (r = 1) := Lib.hid (HBD.out (by unfold rightB; simp; omega))
        go_wp2_with fail
        go_ret
        exact ⟨by rw [hf.out]; rfl, Below.refl _ _⟩
      by_cases q3 : Y < 0
      · have hf : Hid (r = 1) := Lib.hid (HBD.out (by unfold rightB; simp; omega))
        go_wp2_with fail
        go_ret
        exact ⟨by rw [hf.out]; rfl, Below.refl _ _⟩
      by_cases q4 : 2147483647 ≤ Y
      · have hf : Hid (r = 1) := Lib.hid (HBD.out (by unfold rightB; simp; omega))
        go_wp2_with fail
        go_ret
        exact ⟨by rw [hf.out]; rfl, Below.refl _ _⟩
      have hnew := Lib.hid (HST.out (by unfold rightB; simp; omega))
      go_wp2_with fail
      go_round
      case rel => exact ⟨i + 1, by omega, rfl, hnew⟩
      case measure => simp [intOf]; omega
    · have : n = i := by omega
      subst this
      have hrt : Hid (Rt ds) := Lib.hid (by
        have h := hv.out
        rw [List.take_of_length_le (by have := HN.out; omega)] at h
        exact (right_iff ds).1 h)
      go_wp2_with fail
      go_loopw [6] (fun iv wr => ∃ i : Nat, i ≤ n ∧ i ≤ 21 ∧ iv = .int .i64 i ∧ Hid (((ds.take i).map (·.1)).Nodup) ∧ ∃ q, wr = w.drewN q) (fun iv _ => n - (intOf iv).toNat)
      case atStart => exact ⟨0, Nat.zero_le _, by omega, rfl, Lib.hid List.nodup_nil, 0, rfl⟩
      case round =>
        obtain ⟨i, hi, hi2, rfl, hv, q, rfl⟩ := hrel
        by_cases hgo : i < n
        · by_cases hgo2 : i ≤ 20
          · have hgoI : (i : Int) ≤ 20 := by omega
            obtain ⟨b, off, hA, _, c0, _⟩ := HS.out i (by have := HN.out; omega)
            subst hA
            go_wp2_with fail
            go_loopw [7] (fun jv wr => ∃ j : Nat, j ≤ i ∧ jv = .int .i64 j ∧ Hid (∀ j', j' < j → (ds.getD j' (0, 0)).1 ≠ (ds.getD i (0, 0)).1) ∧ ∃ q, wr = w.drewN q) (fun jv _ => i - (intOf jv).toNat)
            case atStart => exact ⟨0, Nat.zero_le _, rfl, Lib.hid fun j' h => by omega, q, rfl⟩
            case round =>
              obtain ⟨j, hj, rfl, hu, q', rfl⟩ := hrel
              by_cases hgo3 : j < i
              · obtain ⟨b2, off2, hA2, _, d0, _⟩ := HS.out j (by have := HN.out; omega)
                injection hA2 with hA2
                injection hA2 with e1 e2
                subst e1; subst e2
                have hjn : j < n := by omega
                obtain ⟨X, hX⟩ : ∃ X, (ds.getD i (0, 0)).1 = X := ⟨_, rfl⟩
                obtain ⟨U, hU⟩ : ∃ X, (ds.getD j (0, 0)).1 = X := ⟨_, rfl⟩
                have HXU := Lib.hid (And.intro hX hU)
                rw [hX] at c0
                rw [hU] at d0
                clear hX hU
                have p0 : (w.drewN q').cell? ⟨b, off + i * 2, none⟩ = some (.int .i64 X) := c0
                have p1 : (w.drewN q').cell? ⟨b, off + j * 2, none⟩ = some (.int .i64 U) := d0
                by_cases hXU : X = U
                · subst hXU
                  have hf : Hid (r = 5) := Lib.hid (wrR_dup HR.out hrt.out (dup_not (i := i) (j := j) (by have := HN.out; omega) hgo3 (HXU.out.1.trans HXU.out.2.symm)))
                  go_wp2_with fail
                  go_quiet (fail)
                  go_wp2_with fail
                  go_ret
                  exact ⟨by rw [hf.out]; rfl, below_drewN (below_drewN (Below.refl _ _) _) _⟩
                · have hne : (X == U) = false := by simpa using hXU
                  have hnew : Hid (∀ j', j' < j + 1 → (ds.getD j' (0, 0)).1 ≠ (ds.getD i (0, 0)).1) := Lib.hid fun j' hj' => by
                    by_cases e : j' < j
                    · exact hu.out j' e
                    · have : j' = j := by omega
                      subst this
                      rw [HXU.out.1, HXU.out.2]
                      exact fun e => hXU e.symm
                  clear hXU
                  go_wp2_with fail
                  go_quiet (fail)
                  go_wp2_with fail
                  go_roundw
                  case rel => exact ⟨j + 1, by omega, rfl, hnew, _, rfl⟩
                  case measure => simp [intOf]; omega
              · have : i = j := by omega
                subst this
                have hnew : Hid (((ds.take (i + 1)).map (·.1)).Nodup) := Lib.hid (by
                  rw [fst_snoc (by have := HN.out; omega)]
                  refine nodup_snoc hv.out fun h => ?_
                  obtain ⟨j', hj', e⟩ := fst_mem (by have := HN.out; omega) h
                  exact hu.out j' hj' e)
                go_wp2_with fail
                go_roundw
                case rel => exact ⟨i + 1, by omega, by omega, rfl, hnew, _, rfl⟩
                case measure => simp [intOf]; omega
          · exfalso
            have h3 : i = 21 := by omega
            subst h3
            have h4 := nodup_le 20 _ hv.out (fun x hx => by
              obtain ⟨d, hd, rfl⟩ := List.mem_map.1 hx
              have := hrt.out d (List.mem_of_mem_take hd)
              omega)
            rw [List.length_map, List.length_take, HN.out] at h4
            omega
        · have : n = i := by omega
          subst this
          have hf : Hid (r = 0) := Lib.hid (wrR_ok HR.out hrt.out (by
            have h := hv.out
            rwa [List.take_of_length_le (by have := HN.out; omega)] at h))
          go_wp2_with fail
          go_ret
          exact ⟨by rw [hf.out]; rfl, below_drewN (Below.refl _ _) _⟩

end Go.Proofs.Ytfipogmndokhkaa
