/- Walks: the law's small. -/
import Derived.Test.YtfipogmndokhkaaUo
import Derived.Deep.Cut
namespace Go.Proofs.Ytfipogmndokhkaa
open Go.RowKit

set_option maxRecDepth 100000 in
set_option maxHeartbeats 8000000 in
theorem small_any (w : World) : Calls Try.prog 7 #[] w fun e w' => e = .returned (.bool true) ∧ Below w.heap.size w w' := by
  have hA := lit2 w 1 7 2 9
  have hb1 := (Below.refl w.heap.size w).alloc (Nat.le_refl _) (.cells #[.int .i64 1, .int .i64 7, .int .i64 2, .int .i64 9] 39)
  have hk1 := Blk.new w 39 #[.int .i64 1, .int .i64 7, .int .i64 2, .int .i64 9]
  obtain ⟨W, hW⟩ : ∃ W, w.alloc (.cells #[.int .i64 1, .int .i64 7, .int .i64 2, .int .i64 9] 39) = W := ⟨_, rfl⟩
  have HW := Lib.hid hW
  rw [hW] at hA hb1 hk1
  clear hW
  have HA := Lib.hid (And.intro hA hk1); clear hA hk1
  have hs1 := hb1.size
  go_enter Try.func7, Try.ntmps7
  go_upto_region 2 with fail
  rw [HW.out]
  obtain ⟨g, hg⟩ : ∃ g, w.heap.size = g := ⟨_, rfl⟩
  have HG := Lib.hid hg
  rw [hg] at hb1 HA hs1 ⊢
  clear hg
  go_upto_region 3 with (first
    | (at_builtin; refine appS rfl (.tmp 21) (.tmp 22) rfl W.heap.size _ [] [(1, 7), (2, 9)] (some ⟨g, 0, none⟩) 2 2 rfl (emptyS W (Nat.le_refl _)) rfl rfl ((HA.out.1.below ((Below.refl _ _).alloc (Nat.le_refl _) _)).more (by simp)) (by simp) (by simp) ?_; intro v2 w2 hown2 hg2; have hb2 := grown_bel ((Below.refl W.heap.size W).alloc (Nat.le_refl _) _) (emptyS W (Nat.le_refl _)) hg2 (Nat.le_refl _); have hs2 := hb2.size)
    | (at_builtin; refine appS1 rfl (.tmp 23) (.tmp 25) rfl W.heap.size _ _ 3 11 rfl hown2 _ rfl rfl (by simp) hs2 ?_; intro v3 w3 hown3 hg3; have hb3 := grown_bel (hb2.alloc hs2 _) (hown2.below ((Below.refl _ _).alloc (Nat.le_refl _) _)) hg3 (Nat.le_refl _)))
  clear hg2 hg3
  have hs3 := hb3.size
  have haw : ∀ w' : World, Below W.heap.size W w' → ShAt w'.heap.size w' (some ⟨g, 0, none⟩) [(1, 7), (2, 9)] := fun w' h => (HA.out.1.below h).more h.size
  have HAW := Lib.hid haw; clear haw
  obtain ⟨A3, c3, rfl, hc3, hm3, hS3⟩ := hown3.at_
  have H3 := Lib.hid (And.intro hS3 hown3); clear hS3 hown3 hown2
  simp only [List.nil_append, List.cons_append, List.length_cons, List.length_nil] at hc3 H3 ⊢
  have hem := emptyS w3 (Nat.le_refl _)
  have hbe := (Below.refl w3.heap.size w3).alloc (Nat.le_refl _) (.cells #[] 39)
  have HEM := Lib.hid (And.intro hem hbe); clear hem hbe
  go_upto_region 4 with (first
    | (at_builtin; refine appS rfl (.tmp 27) (.tmp 28) rfl w3.heap.size _ [] [(1, 7), (2, 9)] (some ⟨g, 0, none⟩) 2 2 rfl HEM.out.1 rfl rfl (HAW.out _ (hb3.trans (HEM.out.2.mono hs3))) (by simp) (by simp) ?_; intro v4 w4 hown4 hg4; have hb4 := grown_bel HEM.out.2 HEM.out.1 hg4 (Nat.le_refl _); have hs4 := hb4.size)
    | (at_builtin; refine appS1 rfl (.tmp 29) (.tmp 31) rfl w3.heap.size _ _ 3 12 rfl hown4 _ rfl rfl (by simp) hs4 ?_; intro v5 w5 hown5 hg5; have hb5 := grown_bel (hb4.alloc hs4 _) (hown4.below ((Below.refl _ _).alloc (Nat.le_refl _) _)) hg5 (Nat.le_refl _)))
  clear hg4 hg5
  have hs5 := hb5.size
  obtain ⟨A5, c5, rfl, hc5, hm5, hS5⟩ := hown5.at_
  have H5 := Lib.hid hS5; clear hS5 hown5 hown4
  simp only [List.nil_append, List.cons_append, List.length_cons, List.length_nil] at hc5 H5 ⊢
  have hB5 : Below W.heap.size W w5 := hb3.trans (hb5.mono hs3)
  go_upto_region 5 with fail
  refine (ex_s _).mono ?_
  rintro e w6 ⟨v6, rfl, hown6, hb6⟩
  have hB6 := hB5.trans (hb6.mono hB5.size)
  have hB56 := hb6
  go_upto_region 6 with fail
  refine (ex_a _ _ _ (HAW.out _ hB6) (by omega) (by omega)).mono ?_
  rintro e w7 ⟨rfl, hb7⟩
  have hB7 := hB6.trans (hb7.mono hB6.size)
  have hB57 := hB56.trans (hb7.mono hB56.size)
  go_upto_region 7 with fail
  have h37 := hb5.trans (hB57.mono hs5)
  refine (ex_m _ _ _ ((H3.out.1.below h37).more h37.size) hc3 hm3).mono ?_
  rintro e w8 ⟨rfl, hb8⟩
  have hB8 := hB7.trans (hb8.mono hB7.size)
  have hB58 := hB57.trans (hb8.mono hB57.size)
  go_upto_region 8 with fail
  refine (ex_b _ _ _ ((H5.out.below hB58).more hB58.size) hc5 hm5).mono ?_
  rintro e w9 ⟨rfl, hb9⟩
  have hB9 := hB8.trans (hb9.mono hB8.size)
  have hB69 := (hb7.trans (hb8.mono hb7.size)).trans (hb9.mono (hb7.trans (hb8.mono hb7.size)).size)
  go_upto_region 9 with fail
  refine (ex_1 _ _ _ ((HAW.out _ hB9).take 1)).mono ?_
  rintro e w10 ⟨rfl, hb10⟩
  have hB10 := hB9.trans (hb10.mono hB9.size)
  have hB610 := hB69.trans (hb10.mono hB69.size)
  go_wp2_with fail
  have q0 : w10.cell? ⟨g, 0, none⟩ = some (.int .i64 1) := (hB10.cell (p := ⟨g, 0, none⟩) HA.out.2.lt).trans (HA.out.2.cell 0)
  have q1 : w10.cell? ⟨g, 1, none⟩ = some (.int .i64 7) := (hB10.cell (p := ⟨g, 1, none⟩) HA.out.2.lt).trans (HA.out.2.cell 1)
  have hgs : g < w10.heap.size := Nat.lt_of_lt_of_le HA.out.2.lt hB10.size
  have e0 : ∀ W' : World, Below w10.heap.size w10 W' → W'.cell? ⟨g, 0, none⟩ = some (.int .i64 1) ∧ W'.cell? ⟨g, 1, none⟩ = some (.int .i64 7) ∧ Below w10.heap.size w10 W' := fun W' hW => ⟨(hW.cell (p := ⟨g, 0, none⟩) hgs).trans q0, (hW.cell (p := ⟨g, 1, none⟩) hgs).trans q1, hW⟩
  have E0 := Lib.hid e0; clear e0
  have hl2 : ShAt (w10.alloc (.cells #[.int .i64 1, .int .i64 7, .int .i64 1, .int .i64 7] 39)).drew.heap.size (w10.alloc (.cells #[.int .i64 1, .int .i64 7, .int .i64 1, .int .i64 7] 39)).drew (some ⟨w10.heap.size, 0, none⟩) [(1, 7), (1, 7)] := lit2 w10 1 7 1 7
  have hld := ((Below.refl w10.heap.size w10).alloc (Nat.le_refl _) (.cells #[.int .i64 1, .int .i64 7, .int .i64 1, .int .i64 7] 39)).drew
  have HL2 := Lib.hid (And.intro hl2 hld); clear hl2 hld
  go_region_held3 (fun W' => W'.cell? ⟨g, 0, none⟩ = some (.int .i64 1) ∧ W'.cell? ⟨g, 1, none⟩ = some (.int .i64 7) ∧ Below w10.heap.size w10 W')
    (first | exact E0.out _ (by assumption) | exact E0.out _ HL2.out.2 | exact E0.out _ ⟨rfl, rfl, rfl, Nat.le_refl _, fun _ _ => rfl⟩)
    (first
      | (go_at_call 10; refine (ex_t _ _ _ HL2.out.1).mono ?_; rintro e w11 ⟨rfl, hb11⟩; have hB11 : Below w10.heap.size w10 w11 := HL2.out.2.trans (Below.mono ⟨hb11.os, hb11.tape, hb11.output, hb11.size, hb11.block⟩ HL2.out.2.size)))
  have hB01 := hB10.trans (hB11.mono hB10.size)
  have hB611 := hB610.trans (hB11.mono hB610.size)
  obtain ⟨A6, c6, rfl, _, _, hS6⟩ := hown6.at_
  have hl3 := lit3 w11 1 5 2 5 3 5
  have hb3' := (Below.refl w11.heap.size w11).alloc (Nat.le_refl _) (.cells #[.int .i64 1, .int .i64 5, .int .i64 2, .int .i64 5, .int .i64 3, .int .i64 5] 39)
  have hB612 := hB611.trans (hb3'.mono hB611.size)
  have hsm := same_any [(1, 5), (2, 5), (3, 5)] [(1, 5), (2, 5), (3, 5)] A6 (some ⟨w11.heap.size, 0, none⟩) c6 3 _ ((hS6.below hB612).more hB612.size) hl3 (by simp) (by simp) true (by simp)
  have hB12 := hB01.trans (hb3'.mono hB01.size)
  have HSM := Lib.hid (And.intro hsm hB12); clear hsm hl3 hb3' hB612 hS6 hown6 hB12 q0 q1
  simp only [List.length_cons, List.length_nil] at HSM ⊢
  go_wp2_with fail
  refine HSM.out.1.mono ?_
  rintro e w12 ⟨rfl, hb12⟩
  have hBx := HSM.out.2.trans (hb12.mono HSM.out.2.size)
  go_wp2_with fail
  refine (ex_f1 _ _ _ 5 (by decide) (by decide) ((HAW.out _ hBx).take 1)).mono ?_
  rintro e w13 ⟨rfl, hb13⟩
  have hB13 := hBx.trans (hb13.mono hBx.size)
  go_wp2_with fail
  refine (ex_f1 _ _ _ 6 (by decide) (by decide) ((HAW.out _ hB13).take 1)).mono ?_
  rintro e w14 ⟨rfl, hb14⟩
  have hB14 := hB13.trans (hb14.mono hB13.size)
  go_wp2_with fail
  refine (ex_f2 _ _ _ (HAW.out _ hB14)).mono ?_
  rintro e w15 ⟨rfl, hb15⟩
  have hB15 := hB14.trans (hb15.mono hB14.size)
  go_wp2_with fail
  refine (ex_f3 _ _ _ (HAW.out _ hB15)).mono ?_
  rintro e w16 ⟨rfl, hb16⟩
  have hB16 := hB15.trans (hb16.mono hB15.size)
  go_wp2_with fail
  go_ret
  exact ⟨rfl, by rw [HG.out]; exact hb1.trans (hB16.mono hs1)⟩

end Go.Proofs.Ytfipogmndokhkaa
