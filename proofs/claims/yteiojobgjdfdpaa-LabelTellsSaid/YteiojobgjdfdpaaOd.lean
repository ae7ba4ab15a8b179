/- Walks: the reference's back. -/
import Derived.Test.YteiojobgjdfdpaaOc
import Derived.Test.YteiojobgjdfdpaaSf
namespace Go.Proofs.Yteiojobgjdfdpaa
open Go.RowKit Go.Sort

/-- One comes back in so many steps. -/
def bk (l : List Am) (src : Nat) (lab : List Lb) : Nat → Nat → Bool
  | 0, _ => false
  | k + 1, v => if v = src then true else if 0 ≤ (lb lab v).2 ∧ (lb lab v).2 < (l.length : Int) then bk l src lab k (am l (lb lab v).2.toNat).a.f.toNat else false
theorem bk_back {l : List Am} {src : Nat} {lab : List Lb} : ∀ k v, bk l src lab k v = true → Back (par l src lab) src v := by
  intro k
  induction k with
  | zero => intro v h; exact absurd h (by simp [bk])
  | succ k ih =>
    intro v h
    rw [bk] at h
    by_cases hv : v = src
    · exact ⟨0, hv⟩
    · rw [if_neg hv] at h
      split at h
      · have := ih _ h
        refine (Back.step par_src).1 ?_
        unfold par
        rw [if_neg hv]
        exact this
      · cases h
theorem nodup_map {g : Nat → Nat} {k : Nat} (h : ¬ ∃ i j, i < j ∧ j < k ∧ g i = g j) : ((List.range k).map g).Nodup := by
  unfold List.Nodup
  rw [List.pairwise_map]
  refine List.Pairwise.imp_of_mem (fun {a b} ha hb hab e => ?_) (List.pairwise_lt_range (n := k))
  exact h ⟨a, b, hab, List.mem_range.1 hb, e⟩
/-- If one comes back at all, one does within as many steps as there are nodes. -/
theorem back_few {F : Nat → Nat} {src n : Nat} {v : Nat} (hF : ∀ k, itr F k v < n) : ∀ k, itr F k v = src → ∃ j, j ≤ n ∧ itr F j v = src := by
  intro k
  induction k using Nat.strongRecOn with
  | ind k ih =>
    intro hk
    by_cases hc : ∃ i j, i < j ∧ j < k ∧ itr F i v = itr F j v
    · obtain ⟨i, j, hij, hjk, he⟩ := hc
      refine ih (i + (k - j)) (by omega) ?_
      rw [itr_add, he, ← itr_add, show j + (k - j) = k by omega]
      exact hk
    · have h1 := nodup_map hc
      have h2 := nodup_len n _ h1 (fun x hx => by
        obtain ⟨i, _, rfl⟩ := List.mem_map.1 hx
        exact hF i)
      rw [List.length_map, List.length_range] at h2
      exact ⟨k, h2, hk⟩
theorem back_bk {n : Nat} {l : List Am} {src : Nat} {t : Int} {b : Bool} {lab : List Lb} (hR : RRight n l) (hfo : ∀ v, v < n → FollP l src t b lab v) : ∀ j v, v < n → (lb lab v).1 ≠ -1 → itr (par l src lab) j v = src → ∀ k, j < k → bk l src lab k v = true := by
  intro j
  induction j with
  | zero =>
    intro v _ _ h k hk
    have h : v = src := h
    obtain ⟨k, rfl⟩ : ∃ i, k = i + 1 := ⟨k - 1, by omega⟩
    rw [bk, if_pos h]
  | succ j ih =>
    intro v hv hr h k hk
    obtain ⟨k, rfl⟩ : ∃ i, k = i + 1 := ⟨k - 1, by omega⟩
    rw [bk]
    by_cases hs : v = src
    · rw [if_pos hs]
    · rw [if_neg hs]
      obtain ⟨i, hi, hb, hf, hun, hur⟩ := (hfo v hv).next hR hs hr
      rw [hb, if_pos ⟨by omega, by omega⟩, Int.toNat_natCast, hf, Int.toNat_natCast]
      exact ih _ hun hur h k (by omega)
theorem back_iff {n : Nat} {l : List Am} {src : Nat} {t : Int} {b : Bool} {lab : List Lb} (hR : RRight n l) (hs : src < n) (hfo : ∀ v, v < n → FollP l src t b lab v) {v : Nat} (hv : v < n) (hr : (lb lab v).1 ≠ -1) : bk l src lab (n + 1) v = true ↔ Back (par l src lab) src v := by
  constructor
  · exact bk_back _ _
  · rintro ⟨k, hk⟩
    have hF : ∀ k, itr (par l src lab) k v < n ∧ (itr (par l src lab) k v = src ∨ (lb lab (itr (par l src lab) k v)).1 ≠ -1) := by
      intro k
      induction k with
      | zero => exact ⟨hv, .inr hr⟩
      | succ k ih =>
        rw [itr_succ]
        by_cases hsx : itr (par l src lab) k v = src
        · rw [hsx, par_src]; exact ⟨hs, .inl rfl⟩
        · obtain ⟨i, hi, hb, hf, hun, hur⟩ := (hfo _ ih.1).next hR hsx (ih.2.resolve_left hsx)
          exact ⟨hun, .inr hur⟩
    obtain ⟨j, hj, hjk⟩ := back_few (fun k => (hF k).1) k hk
    exact back_bk hR hfo j v hv hr hjk (n + 1) (by omega)

set_option maxRecDepth 100000 in
set_option maxHeartbeats 8000000 in
theorem back12_any (l : List Am) (A : Option Addr) (m c : Nat) (L : Option Addr) (n c2 : Nat) (src v0 : Nat) (lab : List Lb) (w : World) (hl : l.length = m) (hA : ArcsAt w.heap.size w A l) (hR : RRight n l) (hn : lab.length = n) (hL : LbsAt w.heap.size w L lab) (hv : v0 < n) (r : Bool) (hr : r = bk l src lab (n + 1) v0) :
    Calls Try.prog 77 #[.slice A m c, .slice L n c2, .int .i64 src, .int .i64 v0] w fun e w' => e = .returned (.bool r) ∧ w = w' := by
  have hn2 : n ≤ 2000 := by have := hR.2.1; omega
  have hm2 : m ≤ 20000 := by have := hR.2.2.1; omega
  have HA := Lib.hid (And.intro hl (And.intro hA (And.intro hR (And.intro hn hL))))
  have HR := Lib.hid hr
  clear hl hA hR hn hL hr
  go_enter Try.func77, Try.ntmps77
  go_wp2_with fail
  go_loop [3, 9] (fun vv kv => ∃ (k v : Nat), vv = .int .i64 v ∧ kv = .int .i64 k ∧ k ≤ n + 1 ∧ v < n ∧ Hid (r = bk l src lab (n + 1 - k) v)) (fun _ kv => n + 1 - (intOf kv).toNat)
  case atStart => exact ⟨0, v0, rfl, rfl, by omega, hv, HR⟩
  case round =>
    obtain ⟨k, v, rfl, rfl, hk, hvn, hK⟩ := hrel
    by_cases hgo : k ≤ n
    · obtain ⟨q, hq⟩ : ∃ q, n + 1 - k = q + 1 := ⟨n - k, by omega⟩
      have hK := hK.out
      rw [hq, bk] at hK
      by_cases hs : v = src
      · rw [if_pos hs] at hK
        subst hK; subst hs
        go_wp2_with fail
        go_ret
        exact ⟨by rfl, rfl⟩
      · rw [if_neg hs] at hK
        have hs2 : ((v : Int) == (src : Int)) = false := by simp; omega
        obtain ⟨g, off, hLe, hg, _, k1⟩ := HA.out.2.2.2.2 v (by have := HA.out.2.2.2.1; omega)
        subst hLe
        obtain ⟨y, hy⟩ : ∃ y, (lb lab v).2 = y := ⟨_, rfl⟩
        rw [hy] at k1 hK
        rw [HA.out.1] at hK
        clear hy
        by_cases hy0 : y < 0
        · rw [if_neg (fun h => by omega)] at hK
          subst hK
          go_wp2_with fail
          go_ret
          exact ⟨by rfl, rfl⟩
        · by_cases hym : (m : Int) ≤ y
          · rw [if_neg (fun h => by omega)] at hK
            subst hK
            go_wp2_with fail
            go_ret
            exact ⟨by rfl, rfl⟩
          · rw [if_pos ⟨by omega, by omega⟩] at hK
            obtain ⟨i, rfl⟩ : ∃ i : Nat, y = (i : Int) := ⟨y.toNat, by omega⟩
            have him : i < m := by omega
            obtain ⟨b2, o2, hAe, hb2, z0, _⟩ := HA.out.2.1 i (by have := HA.out.1; omega)
            subst hAe
            have hRx := HA.out.2.2.1.2.2.2 i (by have := HA.out.1; omega)
            obtain ⟨u, hu⟩ : ∃ u : Nat, (am l i).a.f = (u : Int) := ⟨(am l i).a.f.toNat, by have := hRx.1.1; omega⟩
            have hun : u < n := by have := hRx.2.1; omega
            rw [Int.toNat_natCast, hu, Int.toNat_natCast] at hK
            rw [hu] at z0
            have HK := Lib.hid (show r = bk l src lab (n + 1 - (k + 1)) u by rw [show n + 1 - (k + 1) = q by omega]; exact hK)
            clear hK hu hRx hq
            go_wp2_with fail
            go_round
            case rel => exact ⟨k + 1, u, rfl, rfl, by omega, hun, HK⟩
            case measure => simp [intOf]; omega
    · have e : n + 1 - k = 0 := by omega
      have hK := hK.out
      rw [e, bk] at hK
      subst hK
      clear e
      go_wp2_with fail
      go_ret
      exact ⟨by rfl, rfl⟩

end Go.Proofs.Yteiojobgjdfdpaa
