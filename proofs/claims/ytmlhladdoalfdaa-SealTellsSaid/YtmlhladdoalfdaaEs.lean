/- Walks: the reference's New, find, All, Valid. -/
import Derived.Test.YtmlhladdoalfdaaEm
namespace Go.Proofs.Ytmlhladdoalfdaa
open Go.RowKit

/-- The reference's ring. -/
def RQ (w : World) (S : Nat → Prop) (r : Nat) (es : List En) : Prop :=
  ∃ v, Blk w r 50 #[v] ∧ OwnE w 0 v es ∧ S r ∧ (∀ g, v.ownBlock = some g → S g) ∧ ∀ b, S b → b < w.heap.size
theorem RQ.fr {S T : Nat → Prop} {w w' : World} {r : Nat} {es : List En} (h : RQ w T r es) (hf : Fr S w w') (hd : ∀ b, T b → ¬ S b) : RQ w' T r es := by
  obtain ⟨v, h1, h3, h4, h6, h7⟩ := h
  exact ⟨v, h1.fr hf (hd _ h4), h3.fr hf (fun g hg => hd _ (h6 g hg)), h4, h6, fun b hb => Nat.lt_of_lt_of_le (h7 b hb) hf.size⟩
theorem RQ.below {T : Nat → Prop} {w w' : World} {r : Nat} {es : List En} (h : RQ w T r es) (hb : Below w.heap.size w w') : RQ w' T r es := h.fr (S := fun _ => False) (Fr.of_below hb) (fun _ _ h => h)
theorem RQ.lt {S : Nat → Prop} {w : World} {r : Nat} {es : List En} (h : RQ w S r es) : ∀ b, S b → b < w.heap.size := by
  obtain ⟨_, _, _, _, _, h⟩ := h
  exact h

theorem qnew_any (w : World) : Calls Try.prog 10 #[] w fun e w' => ∃ r S, e = .returned (.pointer (some ⟨r, 0, none⟩)) ∧ RQ w' S r [] ∧ (∀ b, S b → w.heap.size ≤ b) ∧ Below w.heap.size w w' := by
  go_enter Try.func10, Try.ntmps10
  go_wp2_with fail
  go_ret
  refine ⟨_, fun b => b = w.heap.size, rfl, ⟨.slice none 0 0, Blk.new w _ _, OwnE.nil _ _, rfl, (fun g hg => by cases hg), ?_⟩, ?_, ?_⟩
  · intro b hb
    simp
    omega
  · intro b hb
    omega
  · exact (Below.refl _ w).alloc (Nat.le_refl _) _

set_option maxRecDepth 100000 in
set_option maxHeartbeats 4000000 in
theorem find_any {S : Nat → Prop} {r : Nat} {es : List En} {w : World} (h : RQ w S r es) (p : En) (hl : es.length ≤ 1000) (m : Int) (hm : m = if pos es p < es.length then (pos es p : Int) else -1) :
    Calls Try.prog 23 #[.pointer (some ⟨r, 0, none⟩), .int .i64 p.1, .string p.2] w fun e w' => e = .returned (.int .i64 m) ∧ w = w' := by
  obtain ⟨v, h1, h3, -⟩ := h
  obtain ⟨A, c, rfl, hc, hcm, hS⟩ := h3.at_
  have k0 := h1.cell 0
  simp at k0
  have HS := Lib.hid hS
  have hq1 := pos_le es p
  have HGET : Hid (∀ k, k < es.length → es.getD k e0 = p → pos es p ≤ k) := Lib.hid fun k hkz hg => pos_le_get hkz hg
  have HNEQ : Hid (∀ k, k < es.length → es.getD k e0 ≠ p → pos es p ≠ k) := Lib.hid fun k hkz hg hqk => hg (by rw [← hqk]; exact pos_get (pos_lt.2 (by omega)))
  obtain ⟨q, hq⟩ : ∃ q, pos es p = q := ⟨_, rfl⟩
  obtain ⟨z, hz⟩ : ∃ z, es.length = z := ⟨_, rfl⟩
  rw [hq] at hm hq1 HGET HNEQ
  rw [hz] at hm hq1 HGET HNEQ k0 hl hc
  have HM := Lib.hid (And.intro hm hz)
  clear hm hq hz h1 h3 hS
  obtain ⟨xk, xt⟩ := p
  go_enter Try.func23, Try.ntmps23
  go_wp2_with fail
  go_loop [7] (fun kv => ∃ k : Nat, Hid (k ≤ z) ∧ kv = .int .i64 k ∧ Hid (k ≤ q)) (fun kv => z - (intOf kv).toNat)
  case atStart => exact ⟨0, Lib.hid (Nat.zero_le _), rfl, Lib.hid (Nat.zero_le _)⟩
  case round =>
    obtain ⟨k, hkz, rfl, hkq⟩ := hrel
    by_cases hgk : k < z
    · obtain ⟨b2, o2, hA2, _, y0, y1⟩ := HS.out k (by rw [HM.out.2]; exact hgk)
      subst hA2
      have hget := Lib.hid (HGET.out k hgk)
      have hneq := Lib.hid (HNEQ.out k hgk)
      obtain ⟨e, he⟩ : ∃ e, es.getD k e0 = e := ⟨_, rfl⟩
      rw [he] at y0 y1 hget hneq
      obtain ⟨ek, et⟩ := e
      simp only at y0 y1
      clear he
      by_cases h1 : ek = xk
      · subst h1
        by_cases h2 : et = xt
        · subst h2
          have hmk : Hid (m = (k : Int)) := Lib.hid (by
            have h3 := hget.out rfl
            have h4 := hkq.out
            have h5 : q = k := by omega
            rw [HM.out.1, h5, if_pos hgk])
          clear hget hneq
          go_wp2_with fail
          go_ret
          exact ⟨by rw [hmk.out]; rfl, rfl⟩
        · have h2' := toList_ne h2
          have hd2 : Hid (k + 1 ≤ q) := Lib.hid (by have := hneq.out (by simpa using h2); have := hkq.out; omega)
          clear hget hneq
          go_wp2_with fail
          go_round
          case rel => exact ⟨k + 1, Lib.hid (by omega), rfl, hd2⟩
          case measure => simp [intOf]; omega
      · have h1' : (ek == xk) = false := by simpa using h1
        have hd2 : Hid (k + 1 ≤ q) := Lib.hid (by have := hneq.out (by simp [h1]); have := hkq.out; omega)
        clear hget hneq
        go_wp2_with fail
        go_round
        case rel => exact ⟨k + 1, Lib.hid (by omega), rfl, hd2⟩
        case measure => simp [intOf]; omega
    · have hmk : Hid (m = -1) := Lib.hid (by
        have h4 := hkq.out
        have h5 := hkz.out
        rw [HM.out.1, if_neg (by omega)])
      clear HGET HNEQ
      go_wp2_with fail
      go_ret
      exact ⟨by rw [hmk.out]; rfl, rfl⟩

set_option maxRecDepth 100000 in
set_option maxHeartbeats 4000000 in
theorem qall_any {S : Nat → Prop} {r : Nat} {es : List En} {w : World} (h : RQ w S r es) (hl : es.length ≤ 1000) :
    Calls Try.prog 19 #[.pointer (some ⟨r, 0, none⟩)] w fun e w' => ∃ v, e = .returned v ∧ OwnE w' w.heap.size v es ∧ Below w.heap.size w w' := by
  obtain ⟨v, h1, h3, -⟩ := h
  obtain ⟨A, c, rfl, hc, hm, hS⟩ := h3.at_
  have k0 := h1.cell 0
  simp at k0
  have kA : (w.alloc (.cells #[] 33)).cell? ⟨r, 0, none⟩ = some (.slice A es.length c) := (World.cell?_alloc_lt w _ ⟨r, 0, none⟩ h1.lt).trans k0
  obtain ⟨n, hn⟩ : ∃ n, es.length = n := ⟨_, rfl⟩
  rw [hn] at k0 kA hl
  have HN := Lib.hid hn
  have HS := Lib.hid hS
  clear h1 h3 hS hn hc
  go_enter Try.func19, Try.ntmps19
  go_wp2_with (at_builtin; refine appE_at rfl (.tmp 3) (.tmp 7) rfl w.heap.size _ [] es A n c rfl (emptyE w (Nat.le_refl _)) rfl HN.out ((HS.out.below ((Below.refl _ _).alloc (Nat.le_refl _) _)).more (by simp)) (by simp; omega) (by simp) ?_; intro v2 w2 hown2 hg2 hat2; have hb2 := grown_bel ((Below.refl w.heap.size w).alloc (Nat.le_refl _) _) (emptyE w (Nat.le_refl _)) hg2 (Nat.le_refl _))
  go_ret
  exact ⟨_, rfl, by simpa using hown2, hb2⟩

end Go.Proofs.Ytmlhladdoalfdaa
