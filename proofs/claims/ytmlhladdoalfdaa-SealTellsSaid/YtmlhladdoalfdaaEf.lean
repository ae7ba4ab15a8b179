/- Walks: Sign, Copy. -/
import Derived.Test.YtmlhladdoalfdaaEe
namespace Go.Proofs.Ytmlhladdoalfdaa
open Go.RowKit

def okKey (k : Int) : Bool := decide (0 ≤ k) && decide (k < 5000)
/-- The entries behind Sign. -/
def addE (es : List En) (p : En) : List En := if okKey p.1 = true ∧ ¬ pos es p < es.length then es ++ [p] else es
/-- What Sign returns. -/
def sg (es : List En) (p : En) : En × Int := if okKey p.1 = true then (p, (pos es p : Int)) else (e0, 0)
def sgv (x : En × Int) : Value := .agg #[.int .i64 x.1.1, .string x.1.2, .int .i64 x.2]

def SignPost (S : Nat → Prop) (r : Nat) (es : List En) (p : En) (w : World) (e : Ending) (w' : World) : Prop :=
  ∃ S', e = .returned (sgv (sg es p)) ∧ Ring w' S' r (addE es p) ∧ Fr S w w' ∧ ∀ b, S' b → S b ∨ w.heap.size ≤ b

theorem pos_out {es : List En} {p : En} (h : p ∉ es) : pos es p = es.length := by
  have h1 := pos_le es p
  have h2 : ¬ pos es p < es.length := fun h' => h (pos_lt.2 h')
  omega

set_option maxRecDepth 100000 in
set_option maxHeartbeats 4000000 in
theorem sign_any {S : Nat → Prop} {r : Nat} {es : List En} {w : World} (h : Ring w S r es) (p : En) (hp : EnOk p) (ht : p.2.size ≤ 1000) (hl : es.length ≤ 1000) :
    Calls Try.prog 11 #[.pointer (some ⟨r, 0, none⟩), .int .i64 p.1, .string p.2] w (SignPost S r es p w) := by
  have hb0 := (Below.refl w.heap.size w).alloc (Nat.le_refl _) (.cells #[.int .i64 0, .string ⟨#[]⟩, .int .i64 0] 24)
  by_cases hk : okKey p.1 = true
  · have hkey : Hid (true = (decide (0 ≤ p.1) && decide (p.1 < 5000))) := Lib.hid (by unfold okKey at hk; exact hk.symm)
    have hb1 := hb0.alloc (by simp) (.cells #[.int .i64 p.1, .string p.2] 33)
    have hring : ∀ q, Ring (((w.alloc (.cells #[.int .i64 0, .string ⟨#[]⟩, .int .i64 0] 24)).alloc (.cells #[.int .i64 p.1, .string p.2] 33)).drewN q) S r es := fun q => h.below (below_drewN hb1 q)
    have hbr := Blk.new w 24 #[.int .i64 0, .string ⟨#[]⟩, .int .i64 0]
    have hbr1 := hbr.alloc (.cells #[.int .i64 p.1, .string p.2] 33)
    have hbe := Blk.new (w.alloc (.cells #[.int .i64 0, .string ⟨#[]⟩, .int .i64 0] 24)) 33 #[.int .i64 p.1, .string p.2]
    simp only [World.size_alloc] at hbe
    obtain ⟨W, hW⟩ : ∃ W, (w.alloc (.cells #[.int .i64 0, .string ⟨#[]⟩, .int .i64 0] 24)).alloc (.cells #[.int .i64 p.1, .string p.2] 33) = W := ⟨_, rfl⟩
    rw [hW] at hb1 hring hbr1 hbe
    have HW := Lib.hid hW; clear hW hbr hb0
    have hr0 := hring 0
    obtain ⟨m, v, h1, h2, h3, -⟩ := hr0
    have k1 : W.cell? ⟨r, 1, none⟩ = some (.map (some m)) := h1.cell 1
    have x0 : W.cell? ⟨w.heap.size + 1, 0, none⟩ = some (.int .i64 p.1) := hbe.cell 0
    have x1 : W.cell? ⟨w.heap.size + 1, 1, none⟩ = some (.string p.2) := hbe.cell 1
    have hlk : ∀ q, (Instr.lookup 46 (.map (some m)) (.agg #[.int .i64 p.1, .string p.2]) true).run Try.prog (W.drewN q) = .ok (lookRes (marks es) p (.int .i64 0) true) (W.drewN q) := fun q =>
      (show EMap (W.drewN q) m (marks es) from h2).look Try.underlying46 hp true (Try.zeroI _)
    have hlk0 := hlk
    by_cases hin : p ∈ es
    · rw [look_in hin] at hlk0
      have hpost : ∀ w', Below w.heap.size w w' → SignPost S r es p w (.returned (.agg #[.int .i64 p.1, .string p.2, .int .i64 (pos es p)])) w' := fun w' hb => by
        refine ⟨S, ?_, ?_, Fr.of_below hb, fun _ h => .inl h⟩
        · unfold sg
          rw [if_pos hk]
          rfl
        · unfold addE
          rw [if_neg (fun h => h.2 (pos_lt.1 hin))]
          exact h.below hb
      obtain ⟨n, hn⟩ : ∃ n, pos es p = n := ⟨_, rfl⟩
      rw [hn] at hpost hlk0
      have HP := Lib.hid hpost
      clear hpost hlk h1 h2 h3 hn hin hring hk hp h ht hl
      obtain ⟨key, text⟩ := p
      simp only at hkey hlk0 x0 x1 HW HP
      go_enter Try.func11, Try.ntmps11
      go_wp2_with fail
      refine (isKey_any key _ true hkey.out).mono ?_
      rintro e w1 ⟨rfl, rfl⟩
      go_upto_region 4 with fail
      rw [HW.out]
      go_quiet (fail)
      have hb2 := below_drewN hb1 nq
      have hbr2 := hbr1.drewN nq
      obtain ⟨w2, hw2⟩ : ∃ w2, W.drewN nq = w2 := ⟨_, rfl⟩
      rw [hw2] at hb2 hbr2 ⊢
      clear hw2 hb1 hbr1 hlk0
      have f0 := hbr2.frozen 0
      have f1 := hbr2.frozen 1
      have f2 := hbr2.frozen 2
      have hbs0 := hbr2.set_ 0 (.int .i64 key)
      have hbs1 := hbs0.set_ 1 (.string text)
      have hbs2 := hbs1.set_ 2 (.int .i64 n)
      have hd0 := hbs0.cell 0
      have hd1 := hbs1.cell 1
      have hd2 := hbs2.cell 2
      have c0 := hbr2.cell 0
      have c1 := hbr2.cell 1
      have c2 := hbr2.cell 2
      simp at c0 c1 c2 hd0 hd1 hd2
      have hb3 := ((hb2.setCell (p := ⟨w.heap.size, 0, none⟩) (Nat.le_refl _) (.int .i64 key)).setCell (p := ⟨w.heap.size, 1, none⟩) (Nat.le_refl _) (.string text)).setCell (p := ⟨w.heap.size, 2, none⟩) (Nat.le_refl _) (.int .i64 n)
      go_wp2_with fail
      refine bodyPost_ret (v := .agg #[.int .i64 key, .string text, .int .i64 n]) (by simp [results, Try.results11, go_sem, hd0, hd1, hd2]) rfl ?_
      exact HP.out _ hb3
    · rw [look_out hin] at hlk0
      have HADD := Lib.hid (add_any (hring 1) p hp ht hl hin)
      have HADD1 : Hid (∀ q, Calls Try.prog 22 #[.pointer (some ⟨r, 0, none⟩), env p] (W.drewN q) fun e w' => ∃ S', e = .returned (.int .i64 es.length) ∧ Ring w' S' r (es ++ [p]) ∧ Fr S (W.drewN q) w' ∧ ∀ b, S' b → S b ∨ (W.drewN q).heap.size ≤ b) := Lib.hid fun q => add_any (hring q) p hp ht hl hin
      have hpost : ∀ w' S', Ring w' S' r (es ++ [p]) → Fr S w w' → (∀ b, S' b → S b ∨ w.heap.size ≤ b) → SignPost S r es p w (.returned (.agg #[.int .i64 p.1, .string p.2, .int .i64 es.length])) w' := fun w' S' h1 h2 h3 => by
        refine ⟨S', ?_, ?_, h2, h3⟩
        · unfold sg
          rw [if_pos hk, pos_out hin]
          rfl
        · unfold addE
          rw [if_pos ⟨hk, fun h => hin (pos_lt.2 h)⟩]
          exact h1
      have hsb : ∀ b, S b → b < w.heap.size := by
        obtain ⟨_, _, _, _, _, _, _, _, h⟩ := h
        exact h
      obtain ⟨n, hn⟩ : ∃ n, es.length = n := ⟨_, rfl⟩
      rw [hn] at hpost HADD1
      have HP := Lib.hid (And.intro hpost hsb)
      clear hpost hsb hlk h1 h2 h3 hn hin hring hk hp h ht hl HADD
      unfold env at HADD1
      obtain ⟨key, text⟩ := p
      simp only at hkey hlk0 x0 x1 HW HP HADD1
      go_enter Try.func11, Try.ntmps11
      go_wp2_with fail
      refine (isKey_any key _ true hkey.out).mono ?_
      rintro e w1 ⟨rfl, rfl⟩
      go_upto_region 4 with fail
      rw [HW.out]
      go_quiet (fail)
      go_wp2_with fail
      refine (HADD1.out _).mono ?_
      rintro e w2 ⟨S2, rfl, hR2, hf2, hs2⟩
      have hnS : ¬ S w.heap.size := fun h => by have := HP.out.2 _ h; omega
      have hbr2 : Blk w2 w.heap.size _ _ := Blk.fr (w := W) hbr1 (S := S) hf2 hnS
      have f0 := hbr2.frozen 0
      have f1 := hbr2.frozen 1
      have f2 := hbr2.frozen 2
      have c0 := hbr2.cell 0
      have c1 := hbr2.cell 1
      have c2 := hbr2.cell 2
      have hbs0 := hbr2.set_ 0 (.int .i64 key)
      have hbs1 := hbs0.set_ 1 (.string text)
      have hbs2 := hbs1.set_ 2 (.int .i64 n)
      have hd0 := hbs0.cell 0
      have hd1 := hbs1.cell 1
      have hd2 := hbs2.cell 2
      simp at c0 c1 c2 hd0 hd1 hd2
      have hfb : Fr (fun b => b = w.heap.size) w2 (((w2.setCell ⟨w.heap.size, 0, none⟩ (.int .i64 key)).setCell ⟨w.heap.size, 1, none⟩ (.string text)).setCell ⟨w.heap.size, 2, none⟩ (.int .i64 n)) :=
        ⟨rfl, rfl, rfl, by simp, fun b _ hn => (Below.heap_setCell _ _ _ b hn).trans ((Below.heap_setCell _ _ _ b hn).trans (Below.heap_setCell _ _ _ b hn))⟩
      have hnS2 : ∀ b, S2 b → b ≠ w.heap.size := fun b hb e => by
        rcases hs2 b hb with h | h
        · exact hnS (e ▸ h)
        · have : W.heap.size ≤ b := h
          have := hb1.size
          have := hbr1.lt
          omega
      have hR3 := hR2.fr hfb hnS2
      have hF3 : Fr S w _ := (Fr.trans (S := S) (Fr.of_below hb1) (S' := S) hf2 (fun _ h => h) (fun _ _ h => h)).trans hfb (T := S) (fun _ h => h) (fun b hb e => by omega)
      have HF := Lib.hid (And.intro hR3 (And.intro hF3 (fun b (hb : S2 b) => (hs2 b hb).imp (fun h => h) (fun h => Nat.le_trans (show w.heap.size ≤ (W.drewN _).heap.size from hb1.size) h))))
      clear hR3 hF3 hfb hs2 hf2 hR2 hbs0 hbs1 hbs2
      go_wp2_with fail
      refine bodyPost_ret (v := .agg #[.int .i64 key, .string text, .int .i64 n]) (by simp [results, Try.results11, go_sem, hd0, hd1, hd2]) rfl ?_
      exact HP.out.1 _ _ HF.out.1 HF.out.2.1 HF.out.2.2
  · have hpost : ∀ w', Below w.heap.size w w' → SignPost S r es p w (.returned (.agg #[.int .i64 0, .string ⟨#[]⟩, .int .i64 0])) w' := fun w' hb => by
      refine ⟨S, ?_, ?_, Fr.of_below hb, fun _ h => .inl h⟩
      · unfold sg
        rw [if_neg hk]
        rfl
      · unfold addE
        rw [if_neg (fun h => hk h.1)]
        exact h.below hb
    have hkey : Hid (false = (decide (0 ≤ p.1) && decide (p.1 < 5000))) := Lib.hid (by unfold okKey at hk; simpa using hk)
    have HP := Lib.hid hpost
    clear hpost h hp hk ht hl
    obtain ⟨key, text⟩ := p
    simp only at hkey
    go_enter Try.func11, Try.ntmps11
    go_wp2_with fail
    refine (isKey_any key _ false hkey.out).mono ?_
    rintro e w1 ⟨rfl, rfl⟩
    go_wp2_with fail
    refine bodyPost_ret (v := .agg #[.int .i64 0, .string ⟨#[]⟩, .int .i64 0]) (by simp [results, Try.results11, go_sem]) rfl ?_
    exact HP.out _ hb0

end Go.Proofs.Ytmlhladdoalfdaa
