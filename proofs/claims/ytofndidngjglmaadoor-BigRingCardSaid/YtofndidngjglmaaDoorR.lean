/- Walks: Right. -/
import Derived.Test.YtofndidngjglmaaDoorQ
namespace Go.Proofs.YtofndidngjglmaaDoor
open Go.RowKit

def sgn (z : Int) : Int := if z < 0 then -1 else if z = 0 then 0 else 1
def ab (z : Int) : Int := z.natAbs
theorem ab_nonneg (z : Int) : 0 ≤ ab z := by unfold ab; omega
theorem sgn_ab (z : Int) : sgn z * ab z = z := by
  unfold sgn ab; split
  · omega
  · split <;> omega
theorem sgn_neg (z : Int) : sgn (-z) = -sgn z := by unfold sgn; split <;> split <;> (try split) <;> (try split) <;> omega
theorem ab_neg (z : Int) : ab (-z) = ab z := by unfold ab; omega
theorem sgn_bd (z : Int) : -1 ≤ sgn z ∧ sgn z ≤ 1 := by unfold sgn; split <;> (try split) <;> omega
theorem sgn_zero : sgn 0 = 0 := rfl
theorem ab_zero : ab 0 = 0 := rfl
theorem sgn_pos {z : Int} (h : 0 < z) : sgn z = 1 := by unfold sgn; rw [if_neg (by omega), if_neg (by omega)]
theorem sgn_of_neg {z : Int} (h : z < 0) : sgn z = -1 := by unfold sgn; rw [if_pos h]

/-- A sign and digits that are right. -/
def RightP (s : Int) (l : List Int) : Prop := ∃ z, s = sgn z ∧ l = D (ab z) ∧ ab z < pw 60

theorem RightP.nil : RightP 0 [] := ⟨0, rfl, by rw [ab_zero, D_zero], by rw [ab_zero]; exact pw_pos 60⟩
theorem RightP.mk {s : Int} {l : List Int} (hs : s = 1 ∨ s = -1) (hn : Nrm l) (hl : 0 < l.length) (h6 : l.length ≤ 60) : RightP s l := by
  have hp := hn.pos hl
  have hlt := hn.1.nv_lt
  have h60 := pw_le h6
  rcases hs with rfl | rfl
  · refine ⟨nv l, (sgn_pos hp).symm, ?_, ?_⟩
    · have : ab (nv l) = nv l := by unfold ab; omega
      rw [this, hn.eq_D]
    · unfold ab; omega
  · refine ⟨-nv l, (sgn_of_neg (by omega)).symm, ?_, ?_⟩
    · have : ab (-nv l) = nv l := by unfold ab; omega
      rw [this, hn.eq_D]
    · unfold ab; omega

set_option maxRecDepth 100000 in
set_option maxHeartbeats 1000000 in
theorem right_zero (s : Int) (A : Option Addr) (c : Nat) (w : World) : 
    Calls Tryd.prog 11 #[.agg #[.int .i64 s, .slice A 0 c]] w fun e w' => e = .returned (.bool (s == 0)) ∧ Below w.heap.size w w' := by
  go_enter Tryd.func11, Tryd.ntmps11
  go_wp2_with fail
  go_ret
  exact ⟨rfl, (Below.refl _ _).alloc (Nat.le_refl _) _⟩

set_option maxRecDepth 100000 in
set_option maxHeartbeats 2000000 in
theorem right_pos (s : Int) (l : List Int) (A : Option Addr) (c : Nat) (w : World) (hI : IntsAt w.heap.size w A l) (hp : 0 < l.length) (hl : l.length ≤ 9223372036854775807) (res : Bool) (hres : res = true ↔ RightP s l) :
    Calls Tryd.prog 11 #[.agg #[.int .i64 s, .slice A l.length c]] w fun e w' => e = .returned (.bool res) ∧ Below w.heap.size w w' := by
  obtain ⟨n, hn⟩ : ∃ n, l.length = n := ⟨_, rfl⟩
  have hnn : l.length ≤ n ∧ n ≤ l.length := by omega
  obtain ⟨b, off, hA, hbB, hc⟩ := hI (n - 1) (by omega)
  subst hA
  have hc1 : (w.alloc (.cells #[.int .i64 s, .slice (some ⟨b, off, none⟩) n c] 24)).cell? ⟨b, off + (n - 1), none⟩ = some (.int .i64 (l.getD (n - 1) 0)) := (World.cell?_alloc_lt w _ _ hbB).trans hc
  obtain ⟨t, ht⟩ : ∃ t, l.getD (n - 1) 0 = t := ⟨_, rfl⟩
  rw [ht] at hc1
  have hn0 : ((n : Int) == 0) = false := by simp; omega
  have HT := Lib.hid ht; clear ht hc
  have HR := Lib.hid hres; clear hres
  rw [hn] at hl ⊢
  have HN := Lib.hid hn; clear hn
  have hno : (s = 1 ∨ s = -1 → n ≤ 60 → t ≠ 0 → ¬ Dig l) → res = false := fun h => by
    rcases hb : res with _ | _
    · rfl
    · exfalso
      obtain ⟨z, h1, h2, h3⟩ := HR.out.1 hb
      have hzn := Nrm_D (ab z)
      rw [← h2] at hzn
      have hz0 : ab z ≠ 0 := fun h => by rw [h, D_zero] at h2; rw [h2] at hp; cases hp
      refine h ?_ ?_ ?_ hzn.1
      · rw [h1]; unfold sgn; unfold ab at hz0; split
        · exact .inr rfl
        · rw [if_neg (by omega)]; exact .inl rfl
      · rw [← HN.out, h2]; exact (D_len_le (ab_nonneg z)).2 h3
      · rw [← HT.out]
        have := hzn.2 hp
        rw [HN.out] at this
        exact this
  have hyes : (s = 1 ∨ s = -1) → n ≤ 60 → t ≠ 0 → Dig l → res = true := fun h1 h2 h3 h4 => HR.out.2 (RightP.mk h1 ⟨h4, fun _ => by rw [HN.out, HT.out]; exact h3⟩ hp (by omega))
  have HNO := Lib.hid hno; clear hno
  have HYES := Lib.hid hyes; clear hyes
  have hbx : Below w.heap.size w (w.alloc (.cells #[.int .i64 s, .slice (some ⟨b, off, none⟩) n c] 24)) := (Below.refl _ _).alloc (Nat.le_refl _) _
  by_cases hs : s = 1 ∨ s = -1
  · by_cases h60 : n ≤ 60
    · have hd6 : decide (60 < (n : Int)) = false := by simp; omega
      by_cases ht0 : t = 0
      · have := HNO.out (fun _ _ h => absurd ht0 h)
        subst this
        subst ht0
        rcases hs with rfl | rfl
        all_goals
          go_enter Tryd.func11, Tryd.ntmps11
          go_wp2_with fail
          go_ret
          exact ⟨rfl, hbx⟩
      · have ht1 : (t == 0) = false := by simpa using ht0
        have HS := Lib.hid hs
        rcases hs with rfl | rfl
        all_goals
          go_enter Tryd.func11, Tryd.ntmps11
          go_wp2_with fail
          go_loop [38] (fun i => ∃ k : Nat, k ≤ n ∧ i = .int .i64 k ∧ Hid (Dig (l.take k))) (fun i => n - (intOf i).toNat)
          case atStart => exact ⟨0, Nat.zero_le _, rfl, Lib.hid Dig.nil⟩
          case round =>
            obtain ⟨k, hk, rfl, hdg⟩ := hrel
            by_cases hlt : k < n
            · obtain ⟨b', off', hA', hbB', hck⟩ := hI k (by omega)
              injection hA' with hA'
              injection hA' with hA1 hA2
              subst hA1; subst hA2
              have hck' := (hbx.cell (p := ⟨b, off + k, none⟩) hbB).trans hck
              have hnd : ¬ (0 ≤ l.getD k 0 ∧ l.getD k 0 < 1048576) → res = false := fun h => HNO.out (fun _ _ _ hD => h (hD.getD (by omega)))
              have hts := take_snoc (l := l) (k := k) (by omega)
              obtain ⟨d, hdd⟩ : ∃ d, l.getD k 0 = d := ⟨_, rfl⟩
              rw [hdd] at hck' hnd hts
              clear hdd hck
              have HND := Lib.hid hnd; clear hnd
              have HTS := Lib.hid hts; clear hts
              by_cases hd0 : d < 0
              · have := HND.out (by omega)
                subst this
                go_wp2_with fail
                go_ret
                exact ⟨rfl, hbx⟩
              · by_cases hd1 : 1048575 < d
                · have := HND.out (by omega)
                  subst this
                  go_wp2_with fail
                  go_ret
                  exact ⟨rfl, hbx⟩
                · go_wp2_with fail
                  go_round
                  case rel => exact ⟨k + 1, by omega, by go_num, Lib.hid (by rw [HTS.out]; exact hdg.out.snoc (by omega) (by omega))⟩
                  case measure => simp [intOf]; omega
            · have : k = n := by omega
              subst this
              have hdg' := hdg.out
              rw [List.take_of_length_le (by omega)] at hdg'
              have := HYES.out HS.out h60 ht0 hdg'
              subst this
              go_wp2_with fail
              go_ret
              exact ⟨rfl, hbx⟩
    · have := HNO.out (fun _ h _ => absurd h h60)
      subst this
      rcases hs with rfl | rfl
      all_goals
        go_enter Tryd.func11, Tryd.ntmps11
        go_wp2_with fail
        go_ret
        exact ⟨rfl, hbx⟩
  · have := HNO.out (fun h _ _ => absurd h hs)
    subst this
    have h1 : (s != 1) = true := by simp; omega
    have h2 : (s != -1) = true := by simp; omega
    clear hs
    go_enter Tryd.func11, Tryd.ntmps11
    go_wp2_with fail
    go_ret
    exact ⟨rfl, hbx⟩

/-- Right, at whatever came in. -/
theorem right_any (s : Int) (l : List Int) (A : Option Addr) (c : Nat) (w : World) (hI : IntsAt w.heap.size w A l) (hl : l.length ≤ 9223372036854775807) (res : Bool) (hres : res = true ↔ RightP s l) :
    Calls Tryd.prog 11 #[.agg #[.int .i64 s, .slice A l.length c]] w fun e w' => e = .returned (.bool res) ∧ Below w.heap.size w w' := by
  rcases Nat.eq_zero_or_pos l.length with h | h
  · have hn : l = [] := List.eq_nil_of_length_eq_zero h
    subst hn
    have e : (s == 0) = res := by
      rw [Bool.eq_iff_iff, hres]
      constructor
      · intro h; simp at h; subst h; exact RightP.nil
      · rintro ⟨z, h1, h2, h3⟩
        have : ab z = 0 := by
          rcases Int.lt_or_le 0 (ab z) with h | h
          · have := D_len_pos h; rw [← h2] at this; cases this
          · have := ab_nonneg z; omega
        have hz : z = 0 := by unfold ab at this; omega
        subst hz
        rw [h1]; rfl
    rw [← e]
    exact right_zero s A c w
  · exact right_pos s l A c w hI h hl res hres

end Go.Proofs.YtofndidngjglmaaDoor
