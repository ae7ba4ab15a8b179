/- Walks: the reference's Sign. -/
import Derived.Test.YtmlhladdoalfdaaEt
namespace Go.Proofs.Ytmlhladdoalfdaa
open Go.RowKit

def QPost (S : Nat → Prop) (r : Nat) (es : List En) (p : En) (w : World) (e : Ending) (w' : World) : Prop :=
  ∃ S', e = .returned (sgv (sg es p)) ∧ RQ w' S' r (addE es p) ∧ Fr S w w' ∧ ∀ b, S' b → S b ∨ w.heap.size ≤ b

/-- Behind the append: the store of the slice. -/
theorem qadd_mid {S : Nat → Prop} {w w4 : World} {r : Nat} {v v4 : Value} {es : List En} (b4 : Blk w4 r 50 #[v]) (hown4 : OwnE w4 0 v4 es) (hf : Fr S w w4) (s1 : S r) (s4 : ∀ b, S b → b < w.heap.size)
    (hat : ∀ g, v4.ownBlock = some g → S g ∨ w.heap.size ≤ g) :
    RQ (w4.setCell ⟨r, 0, none⟩ v4) (fun b => S b ∨ v4.ownBlock = some b) r es ∧ Fr S w (w4.setCell ⟨r, 0, none⟩ v4) ∧ ∀ b, (S b ∨ v4.ownBlock = some b) → S b ∨ w.heap.size ≤ b := by
  have n1 : ∀ g, v4.ownBlock = some g → g ≠ r := fun g hg => hown4.ne_blk hg b4 (by decide)
  have b5 := b4.set_ 0 v4
  simp at b5
  have o5 : OwnE (w4.setCell ⟨r, 0, none⟩ v4) 0 v4 es := by
    rcases hown4.2 with ⟨rfl, h2⟩ | ⟨g, cap, cur, rfl, hb, hg, rest⟩
    · exact ⟨hown4.1, .inl ⟨rfl, h2⟩⟩
    · exact ⟨hown4.1, .inr ⟨g, cap, cur, rfl, hb, (Below.heap_setCell w4 _ _ g (n1 g rfl)).trans hg, rest⟩⟩
  have hsz : (w4.setCell ⟨r, 0, none⟩ v4).heap.size = w4.heap.size := by simp
  refine ⟨⟨v4, b5, o5, .inl s1, fun g hg => .inr hg, ?_⟩, ?_, ?_⟩
  · intro b hb
    rcases hb with hb | hb
    · exact Nat.lt_of_lt_of_le (s4 b hb) (Nat.le_trans hf.size (Nat.le_of_eq hsz.symm))
    · exact (World.ownsRow.lt o5 b hb).2
  · exact hf.trans (S' := S) ⟨rfl, rfl, rfl, Nat.le_of_eq hsz.symm, fun b _ hn => Below.heap_setCell w4 _ _ b (fun e => hn (by rw [e]; exact s1))⟩ (fun _ h => h) (fun _ _ h => h)
  · intro b hb
    rcases hb with hb | hb
    · exact .inl hb
    · exact hat b hb

set_option maxRecDepth 100000 in
set_option maxHeartbeats 8000000 in
theorem qsign_any {S : Nat → Prop} {r : Nat} {es : List En} {w : World} (h : RQ w S r es) (p : En) (hl : es.length ≤ 1000) :
    Calls Try.prog 12 #[.pointer (some ⟨r, 0, none⟩), .int .i64 p.1, .string p.2] w (QPost S r es p w) := by
  have hb0 := (Below.refl w.heap.size w).alloc (Nat.le_refl _) (.cells #[.int .i64 0, .string ⟨#[]⟩, .int .i64 0] 24)
  by_cases hk : okKey p.1 = true
  · have hk0 : 0 ≤ p.1 := by unfold okKey at hk; simp at hk; omega
    have hk1 : p.1 < 5000 := by unfold okKey at hk; simp at hk; omega
    have hbr := Blk.new w 24 #[.int .i64 0, .string ⟨#[]⟩, .int .i64 0]
    have hR0 := h.below hb0
    have hnS : ¬ S w.heap.size := fun h' => by have := h.lt _ h'; omega
    have hs0 : w.heap.size ≤ (w.alloc (.cells #[.int .i64 0, .string ⟨#[]⟩, .int .i64 0] 24)).heap.size := hb0.size
    obtain ⟨W, hW⟩ : ∃ W, w.alloc (.cells #[.int .i64 0, .string ⟨#[]⟩, .int .i64 0] 24) = W := ⟨_, rfl⟩
    rw [hW] at hb0 hR0 hbr hs0
    have HW := Lib.hid hW; clear hW
    have HFIND := Lib.hid (find_any hR0 p hl _ rfl)
    by_cases hin : p ∈ es
    · have hpost : ∀ w', Below w.heap.size w w' → QPost S r es p w (.returned (.agg #[.int .i64 p.1, .string p.2, .int .i64 (pos es p)])) w' := fun w' hb => by
        refine ⟨S, ?_, ?_, Fr.of_below hb, fun _ h => .inl h⟩
        · unfold sg
          rw [if_pos hk]
          rfl
        · rw [addE_in hin]
          exact h.below hb
      rw [if_pos (pos_lt.1 hin)] at HFIND
      obtain ⟨n, hn⟩ : ∃ n, pos es p = n := ⟨_, rfl⟩
      rw [hn] at hpost HFIND
      have HP := Lib.hid hpost
      clear hpost hn hin hk h hR0 hl hnS
      obtain ⟨key, text⟩ := p
      simp only at HFIND HP hk0 hk1
      have hn0 : ¬ (n : Int) < 0 := by omega
      have f0 := hbr.frozen 0
      have f1 := hbr.frozen 1
      have f2 := hbr.frozen 2
      have c0 := hbr.cell 0
      have c1 := hbr.cell 1
      have c2 := hbr.cell 2
      have hbs0 := hbr.set_ 0 (.int .i64 key)
      have hbs1 := hbs0.set_ 1 (.string text)
      have hbs2 := hbs1.set_ 2 (.int .i64 n)
      have hd0 := hbs0.cell 0
      have hd1 := hbs1.cell 1
      have hd2 := hbs2.cell 2
      simp at c0 c1 c2 hd0 hd1 hd2
      have hb3 := ((hb0.setCell (p := ⟨w.heap.size, 0, none⟩) (Nat.le_refl _) (.int .i64 key)).setCell (p := ⟨w.heap.size, 1, none⟩) (Nat.le_refl _) (.string text)).setCell (p := ⟨w.heap.size, 2, none⟩) (Nat.le_refl _) (.int .i64 n)
      go_enter Try.func12, Try.ntmps12
      go_upto_region 3 with fail
      rw [HW.out]
      go_wp2_with fail
      refine HFIND.out.mono ?_
      rintro e w1 ⟨rfl, rfl⟩
      go_wp2_with fail
      refine bodyPost_ret (v := .agg #[.int .i64 key, .string text, .int .i64 n]) (by simp [results, Try.results12, go_sem, hd0, hd1, hd2]) rfl ?_
      exact HP.out _ hb3
    · have hpost : ∀ w' S', RQ w' S' r (es ++ [p]) → Fr S w w' → (∀ b, S' b → S b ∨ w.heap.size ≤ b) → QPost S r es p w (.returned (.agg #[.int .i64 p.1, .string p.2, .int .i64 es.length])) w' := fun w' S' h1 h2 h3 => by
        refine ⟨S', ?_, ?_, h2, h3⟩
        · unfold sg
          rw [if_pos hk, pos_out hin]
          rfl
        · rw [addE_new hk hin]
          exact h1
      rw [if_neg (fun h' => hin (pos_lt.2 h'))] at HFIND
      have hsb : ∀ b, S b → b < w.heap.size := h.lt
      obtain ⟨v, h1, h3, s1, s3, -⟩ := hR0
      obtain ⟨A, c, rfl, hc, hcm, -⟩ := h3.at_
      obtain ⟨n, hn⟩ : ∃ n, es.length = n := ⟨_, rfl⟩
      rw [hn] at hpost h1 h3 s3 hl
      have HP := Lib.hid (And.intro hpost hn)
      have n1 : ∀ g, (Value.slice A n c).ownBlock = some g → g ≠ r := fun g hg => h3.ne_blk hg h1 (by decide)
      have n3 : ∀ g, (Value.slice A n c).ownBlock = some g → g ≠ w.heap.size := fun g hg e => hnS (e ▸ s3 g hg)
      have k0 := h1.cell 0
      have kf := h1.frozen 0
      simp at k0
      clear hpost hn hin hk h hc
      obtain ⟨key, text⟩ := p
      simp only at HFIND HP hk0 hk1
      have kA : (W.alloc (.cells #[.int .i64 key, .string text] 33)).cell? ⟨r, 0, none⟩ = some (.slice A n c) := (World.cell?_alloc_lt W _ ⟨r, 0, none⟩ h1.lt).trans k0
      have hbl := (Below.refl W.heap.size W).alloc (Nat.le_refl _) (.cells #[.int .i64 key, .string text] 33)
      have HBL := Lib.hid (And.intro hbl (lit1 W key text)); clear hbl
      have H3 := Lib.hid (And.intro h1 (And.intro h3 hbr)); clear h1 h3 hbr
      go_enter Try.func12, Try.ntmps12
      go_upto_region 3 with fail
      rw [HW.out]
      go_wp2_with fail
      refine HFIND.out.mono ?_
      rintro e w1 ⟨rfl, rfl⟩
      go_upto_region 7 with (at_builtin; refine appE_at rfl (.tmp 30) (.tmp 34) rfl 0 (.slice A n c) es [(key, text)] (some ⟨W.heap.size, 0, none⟩) 1 1 rfl (H3.out.2.1.below HBL.out.1) rfl rfl HBL.out.2 (by have := HP.out.2; omega) (Nat.zero_le _) ?_; intro v4 w4 hown4 hg4 hat4; obtain ⟨A4, c4, hv4, -, -, -⟩ := hown4.at_; rw [show (es ++ [(key, text)]).length = n + 1 by rw [List.length_append, HP.out.2]; rfl] at hv4; subst hv4; have b4 : Blk w4 r _ _ := (hg4.block r (Nat.lt_of_lt_of_le H3.out.1.lt HBL.out.1.size) (fun e => n1 r e.symm rfl)).trans (H3.out.1.below HBL.out.1 H3.out.1.lt); have k40 := b4.cell 0; have f40 := b4.frozen 0; simp at k40)
      have e4 : Blk w4 w.heap.size _ _ := (hg4.block w.heap.size (Nat.lt_of_lt_of_le H3.out.2.2.lt HBL.out.1.size) (fun e => n3 _ e.symm rfl)).trans (H3.out.2.2.below HBL.out.1 H3.out.2.2.lt)
      have hf4 : Fr S w w4 := Fr.trans (S := fun _ => False) (S' := S) (Fr.of_below (hb0.trans (HBL.out.1.mono hs0))) ⟨hg4.os, hg4.tape, hg4.output, hg4.size, fun b hb hn => hg4.block b hb (fun e => hn (s3 b e.symm))⟩ (fun _ h => h.elim) (fun _ _ h => h)
      have hat : ∀ g, (Value.slice A4 (n + 1) c4).ownBlock = some g → S g ∨ w.heap.size ≤ g := fun g hg => by
        rcases hat4 with h | h
        · exact .inl (s3 g (h.symm.trans hg))
        · rw [hg] at h
          injection h with h
          have := HBL.out.1.size
          omega
      obtain ⟨hR5, hF5, hS5⟩ := qadd_mid b4 hown4 hf4 s1 hsb hat
      have hrne : w.heap.size ≠ r := fun e => hnS (e ▸ s1)
      have e5 := e4.far (p := ⟨r, 0, none⟩) hrne (.slice A4 (n + 1) c4)
      have hT5 : ¬ (S w.heap.size ∨ (Value.slice A4 (n + 1) c4).ownBlock = some w.heap.size) := by
        rintro (h | h)
        · exact hnS h
        · exact hown4.ne_blk h e4 (by decide) rfl
      obtain ⟨w5, hw5⟩ : ∃ w5, w4.setCell ⟨r, 0, none⟩ (.slice A4 (n + 1) c4) = w5 := ⟨_, rfl⟩
      rw [hw5] at hR5 hF5 e5 ⊢
      clear hw5 hat hf4 e4 b4 k40 f40 hown4 hg4 hat4 HBL kA k0 kf
      have f0 := e5.frozen 0
      have f1 := e5.frozen 1
      have f2 := e5.frozen 2
      have c0 := e5.cell 0
      have c1 := e5.cell 1
      have c2 := e5.cell 2
      have hbs0 := e5.set_ 0 (.int .i64 key)
      have hbs1 := hbs0.set_ 1 (.string text)
      have hbs2 := hbs1.set_ 2 (.int .i64 n)
      have hd0 := hbs0.cell 0
      have hd1 := hbs1.cell 1
      have hd2 := hbs2.cell 2
      simp at c0 c1 c2 hd0 hd1 hd2
      have hfb : Fr (fun b => b = w.heap.size) w5 (((w5.setCell ⟨w.heap.size, 0, none⟩ (.int .i64 key)).setCell ⟨w.heap.size, 1, none⟩ (.string text)).setCell ⟨w.heap.size, 2, none⟩ (.int .i64 n)) :=
        ⟨rfl, rfl, rfl, by simp, fun b _ hn => (Below.heap_setCell _ _ _ b hn).trans ((Below.heap_setCell _ _ _ b hn).trans (Below.heap_setCell _ _ _ b hn))⟩
      have hR6 := hR5.fr hfb (fun b hb e => hT5 (e ▸ hb))
      have hF6 := hF5.trans hfb (T := S) (fun _ h => h) (fun b hb e => by omega)
      have HF := Lib.hid (HP.out.1 _ _ hR6 hF6 hS5)
      clear hR6 hF6 hfb hR5 hF5 hS5 hbs0 hbs1 hbs2 hT5
      go_wp2_with fail
      refine bodyPost_ret (v := .agg #[.int .i64 key, .string text, .int .i64 n]) (by simp [results, Try.results12, go_sem, hd0, hd1, hd2]) rfl ?_
      exact HF.out
  · have hpost : ∀ w', Below w.heap.size w w' → QPost S r es p w (.returned (.agg #[.int .i64 0, .string ⟨#[]⟩, .int .i64 0])) w' := fun w' hb => by
      refine ⟨S, ?_, ?_, Fr.of_below hb, fun _ h => .inl h⟩
      · unfold sg
        rw [if_neg hk]
        rfl
      · rw [addE_bad (by simpa using hk)]
        exact h.below hb
    have hkey : p.1 < 0 ∨ 5000 ≤ p.1 := by
      unfold okKey at hk
      simp at hk
      omega
    have HP := Lib.hid hpost
    clear hpost h hk hl
    obtain ⟨key, text⟩ := p
    simp only at hkey
    rcases hkey with hk | hk
    · go_enter Try.func12, Try.ntmps12
      go_wp2_with fail
      refine bodyPost_ret (v := .agg #[.int .i64 0, .string ⟨#[]⟩, .int .i64 0]) (by simp [results, Try.results12, go_sem]) rfl ?_
      exact HP.out _ hb0
    · have hk0 : ¬ key < 0 := by omega
      go_enter Try.func12, Try.ntmps12
      go_wp2_with fail
      refine bodyPost_ret (v := .agg #[.int .i64 0, .string ⟨#[]⟩, .int .i64 0]) (by simp [results, Try.results12, go_sem]) rfl ?_
      exact HP.out _ hb0

end Go.Proofs.Ytmlhladdoalfdaa
