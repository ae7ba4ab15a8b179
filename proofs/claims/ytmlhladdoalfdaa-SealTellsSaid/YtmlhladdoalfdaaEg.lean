/- Walks: Copy. -/
import Derived.Test.YtmlhladdoalfdaaEf
import Derived.Deep.RegionHeld3
namespace Go.Proofs.Ytmlhladdoalfdaa
open Go.RowKit

theorem copy_end {w w' : World} {v : Value} {es : List En} {m : Nat} (ho : OwnE w' w.heap.size v es) (hm : EMap w' m (marks es)) (hl : w.heap.size ≤ m) (hb : Below w.heap.size w w') :
    ∃ c T, Ending.returned (Value.pointer (some ⟨w'.heap.size, 0, none⟩)) = .returned (.pointer (some ⟨c, 0, none⟩)) ∧ Ring (w'.alloc (.cells #[v, .map (some m)] 48)) T c es ∧ (∀ b, T b → w.heap.size ≤ b) ∧
      Below w.heap.size w (w'.alloc (.cells #[v, .map (some m)] 48)) := by
  have hs := hb.size
  refine ⟨_, fun b => b = w'.heap.size ∨ b = m ∨ v.ownBlock = some b, rfl, ⟨m, v, Blk.new w' _ _, hm.same (Below.heap_alloc _ _ _ hm.lt), (ho.below ((Below.refl _ _).alloc (Nat.le_refl _) _)).mono (Nat.zero_le _), .inl rfl, .inr (.inl rfl), fun g hg => .inr (.inr hg), ?_⟩, ?_, hb.alloc hs _⟩
  · rintro b (rfl | rfl | hb)
    · simp
    · have := hm.lt; simp; omega
    · have := (World.ownsRow.lt ho b hb).2; simp; omega
  · rintro b (rfl | rfl | hb)
    · exact hs
    · exact hl
    · exact (World.ownsRow.lt ho b hb).1

set_option maxRecDepth 100000 in
set_option maxHeartbeats 4000000 in
theorem copy_any {S : Nat → Prop} {r : Nat} {es : List En} {w : World} (h : Ring w S r es) (hl : es.length ≤ 1000) :
    Calls Try.prog 20 #[.pointer (some ⟨r, 0, none⟩)] w fun e w' => ∃ c T, e = .returned (.pointer (some ⟨c, 0, none⟩)) ∧ Ring w' T c es ∧ (∀ b, T b → w.heap.size ≤ b) ∧ Below w.heap.size w w' := by
  obtain ⟨m, v, h1, h2, h3, -⟩ := h
  obtain ⟨A, c, rfl, -, -, hS⟩ := h3.at_
  have k0 := h1.cell 0
  have k1 := h1.cell 1
  simp at k0 k1
  have hr := h1.lt
  have HA : Hid (∀ W, Below w.heap.size w W → Calls Try.prog 24 #[.slice A es.length c] W fun e w' => ∃ v, e = .returned v ∧ OwnE w' w.heap.size v es ∧ Below w.heap.size w w' ∧ Below W.heap.size W w') := Lib.hid fun W hb => (sclone_any es A _ c W rfl ((hS.below hb).more hb.size) hl).mono fun e w' ⟨v, h1, h2, h3⟩ => ⟨v, h1, h2.mono hb.size, hb.trans (h3.mono hb.size), h3⟩
  have HM : Hid (∀ W, Below w.heap.size w W → Calls Try.prog 25 #[.map (some m)] W fun e w' => ∃ m, e = .returned (.map (some m)) ∧ EMap w' m (marks es) ∧ w.heap.size ≤ m ∧ Below w.heap.size w w' ∧ Below W.heap.size W w') := Lib.hid fun W hb => (mclone_any m _ W (h2.same (hb.block m h2.lt))).mono fun e w' ⟨m, h1, h2, h3, _, h4⟩ => ⟨m, h1, h2, Nat.le_trans hb.size h3, hb.trans (h4.mono hb.size), h4⟩
  have HK : Hid (∀ W, Below w.heap.size w W → W.cell? ⟨r, 0, none⟩ = some (.slice A es.length c) ∧ W.cell? ⟨r, 1, none⟩ = some (.map (some m)) ∧ Below w.heap.size w W) := Lib.hid fun W hb => ⟨(hb.cell (p := ⟨r, 0, none⟩) hr).trans k0, (hb.cell (p := ⟨r, 1, none⟩) hr).trans k1, hb⟩
  clear h1 h2 h3 hS
  obtain ⟨n, hn⟩ : ∃ n, es.length = n := ⟨_, rfl⟩
  rw [hn] at HA HK k0
  clear hn hl
  have hbd : Below w.heap.size w w.drew := ⟨rfl, rfl, rfl, Nat.le_refl _, fun _ _ => rfl⟩
  have HBD := Lib.hid hbd; clear hbd
  go_enter Try.func20, Try.ntmps20
  go_wp2_with fail
  go_region_held3 (fun W' => W'.cell? ⟨r, 0, none⟩ = some (.slice A n c) ∧ W'.cell? ⟨r, 1, none⟩ = some (.map (some m)) ∧ Below w.heap.size w W')
    (first | exact HK.out _ (by assumption) | exact HK.out _ (hbB.alloc hbB.size _) | exact HK.out _ (hbA.alloc hbA.size _) | exact HK.out _ HBD.out)
    (first
      | (go_at_call 24; refine (HA.out _ (by first | assumption | exact HBD.out)).mono ?_; rintro e wA ⟨vA, rfl, hoA, hbA, hcA⟩; obtain ⟨AA, cA, hvA, -, -, -⟩ := hoA.at_; subst hvA)
      | (go_at_call 25; refine (HM.out _ (by first | assumption | exact HBD.out)).mono ?_; rintro e wB ⟨mB, rfl, hmB, hlB, hbB, hcB⟩))
  · have HF := Lib.hid (copy_end (w := w) (w' := wB) (hoA.below hcB) hmB hlB hbB)
    clear hoA hmB hbA hcA hbB hcB hlB
    go_wp2_with fail
    go_ret
    exact HF.out

end Go.Proofs.Ytmlhladdoalfdaa
