/- Walks: the reference's Open. -/
import Derived.Test.YtmlhladdoalfdaaEu
import Derived.Deep.RegionLaw
namespace Go.Proofs.Ytmlhladdoalfdaa
open Go.RowKit

def QOpen (ds : List En) (w : World) (e : Ending) (w' : World) : Prop :=
  (keysOk ds = false → e = .returned (.tuple #[.pointer none, .int .i64 1])) ∧
  (keysOk ds = true → ¬ ds.Nodup → e = .returned (.tuple #[.pointer none, .int .i64 5])) ∧
  (keysOk ds = true → ds.Nodup → ∃ r S, e = .returned (.tuple #[.pointer (some ⟨r, 0, none⟩), .int .i64 0]) ∧ RQ w' S r ds ∧ ∀ b, S b → w.heap.size ≤ b) ∧
  Below w.heap.size w w'
theorem qopen_bad {ds : List En} {w w' : World} (h : keysOk ds = false) (hb : Below w.heap.size w w') : QOpen ds w (.returned (.tuple #[.pointer none, .int .i64 1])) w' :=
  ⟨fun _ => rfl, fun h' => (Bool.false_ne_true (h.symm.trans h')).elim, fun h' => (Bool.false_ne_true (h.symm.trans h')).elim, hb⟩
theorem qopen_twice {ds : List En} {w w' : World} (h : keysOk ds = true) (hn : ¬ ds.Nodup) (hb : Below w.heap.size w w') : QOpen ds w (.returned (.tuple #[.pointer none, .int .i64 5])) w' :=
  ⟨fun h' => (Bool.false_ne_true (h'.symm.trans h)).elim, fun _ _ => rfl, fun _ h' => (hn h').elim, hb⟩
theorem qopen_good {ds : List En} {w w' : World} {r : Nat} {S : Nat → Prop} (h : keysOk ds = true) (hn : ds.Nodup) (hR : RQ w' S r ds) (hS : ∀ b, S b → w.heap.size ≤ b) (hb : Below w.heap.size w w') : QOpen ds w (.returned (.tuple #[.pointer (some ⟨r, 0, none⟩), .int .i64 0])) w' :=
  ⟨fun h' => (Bool.false_ne_true (h'.symm.trans h)).elim, fun _ h' => (h' hn).elim, fun _ _ => ⟨r, S, rfl, hR, hS⟩, hb⟩

/-- Whether an entry stands twice, as a number. -/
def twice (bad : Int) (ds : List En) : Prop := (bad = 0 ∧ ds.Nodup) ∨ (bad = 5 ∧ ¬ ds.Nodup)

set_option maxRecDepth 100000 in
set_option maxHeartbeats 16000000 in
theorem qopen_any (ds : List En) (A : Option Addr) (c : Nat) (w : World) (hS : SlAt w.heap.size w A ds) (hl : ds.length ≤ 1000) :
    Calls Try.prog 16 #[.slice A ds.length c] w (QOpen ds w) := by
  have HS := Lib.hid hS; clear hS
  obtain ⟨n, hn⟩ : ∃ n, ds.length = n := ⟨_, rfl⟩
  rw [hn] at hl ⊢
  have HN := Lib.hid hn; clear hn
  go_enter Try.func16, Try.ntmps16
  go_wp2_with fail
  refine (qnew_any _).mono ?_
  rintro e w1 ⟨r, S0, rfl, hR1, hS1, hb1⟩
  go_wp2_with fail
  go_loopw [5, 6] (fun bv iv wr => ∃ (i : Nat) (S : Nat → Prop) (bad : Int), Hid (i ≤ n) ∧ iv = .int .i64 i ∧ bv = .int .i64 bad ∧ Hid (twice bad (ds.take i)) ∧ Hid (RQ wr S r (ds.take i)) ∧ Hid (∀ b, S b → w.heap.size ≤ b) ∧ Hid (keysOk (ds.take i) = true) ∧ Below w.heap.size w wr) (fun _ iv _ => n - (intOf iv).toNat)
  case atStart => exact ⟨0, S0, 0, Lib.hid (Nat.zero_le _), rfl, rfl, Lib.hid (.inl ⟨rfl, by simp⟩), Lib.hid hR1, Lib.hid hS1, Lib.hid rfl, hb1⟩
  case round =>
    obtain ⟨i, S, bad, hi, rfl, rfl, htw, hR, hlow, hko, hb⟩ := hrel
    clear hR1 hS1 hb1
    by_cases hgo : i < n
    · have hil : i < ds.length := by have := HN.out; omega
      obtain ⟨b1, o1, hA, hB1, x0, x1⟩ := HS.out i hil
      subst hA
      have c0 : wr.cell? ⟨b1, o1 + i * 2, none⟩ = some (.int .i64 (ds.getD i e0).1) := (hb.cell (p := ⟨b1, o1 + i * 2, none⟩) hB1).trans x0
      have c1 : wr.cell? ⟨b1, o1 + i * 2 + 1, none⟩ = some (.string (ds.getD i e0).2) := (hb.cell (p := ⟨b1, o1 + i * 2 + 1, none⟩) hB1).trans x1
      have hs := hb.size
      have hsn := take_snoc hil
      have hyes : Hid (okKey (ds.getD i e0).1 = true → keysOk (ds.take (i + 1)) = true) := Lib.hid fun h => keysOk_take hko.out hil h
      have hno : Hid (okKey (ds.getD i e0).1 = false → keysOk ds = false) := Lib.hid fun h => keysOk_bad hil h
      have hlen : (ds.take i).length = i := by rw [List.length_take]; omega
      obtain ⟨p, hp⟩ : ∃ p, ds.getD i e0 = p := ⟨_, rfl⟩
      rw [hp] at c0 c1 hsn hyes hno
      clear hp x0 x1
      obtain ⟨es, hes⟩ : ∃ es, ds.take i = es := ⟨_, rfl⟩
      rw [hes] at hsn htw hR hlen
      have HSN := Lib.hid (And.intro hsn hlen); clear hsn hes hlen
      have hkey : p.1 < 0 ∨ 5000 ≤ p.1 ∨ okKey p.1 = true := by
        unfold okKey
        simp
        omega
      rcases hkey with hk | hk | hk
      · have hy := Lib.hid (hno.out (by unfold okKey; simp; omega))
        clear hyes hno
        go_wp2_with fail
        go_ret2
        exact qopen_bad hy.out hb
      · have hy := Lib.hid (hno.out (by unfold okKey; simp; omega))
        have hk0 : ¬ p.1 < 0 := by omega
        clear hyes hno
        go_wp2_with fail
        go_ret2
        exact qopen_bad hy.out hb
      · have hy := Lib.hid (hyes.out hk)
        have hk0 : ¬ p.1 < 0 := by unfold okKey at hk; simp at hk; omega
        have hk1 : p.1 < 5000 := by unfold okKey at hk; simp at hk; omega
        clear hyes hno hk hko
        have HFIND : Hid (∀ q, Calls Try.prog 23 #[.pointer (some ⟨r, 0, none⟩), .int .i64 p.1, .string p.2] (wr.drewN q) fun e w' => e = .returned (.int .i64 (if pos es p < es.length then (pos es p : Int) else -1)) ∧ w' = wr.drewN q) := Lib.hid fun q => (find_any (w := wr.drewN q) (hR.out.below ⟨rfl, rfl, rfl, Nat.le_refl _, fun _ _ => rfl⟩) p (by rw [HSN.out.2]; omega) _ rfl).mono (by rintro e w' ⟨h1, h2⟩; exact ⟨h1, h2.symm⟩)
        obtain ⟨m, hm⟩ : ∃ m : Int, (if pos es p < es.length then (pos es p : Int) else -1) = m := ⟨_, rfl⟩
        rw [hm] at HFIND
        have HM : Hid (((0 ≤ m) ∧ p ∈ es) ∨ (m = -1 ∧ p ∉ es)) := Lib.hid (by
          rw [← hm]
          by_cases hin : p ∈ es
          · rw [if_pos (pos_lt.1 hin)]
            exact .inl ⟨by omega, hin⟩
          · rw [if_neg (fun h => hin (pos_lt.2 h))]
            exact .inr ⟨rfl, hin⟩)
        clear hm
        have hdd : ∀ q, Below wr.heap.size wr (wr.drewN q) := fun q => ⟨rfl, rfl, rfl, Nat.le_refl _, fun _ _ => rfl⟩
        have HDD := Lib.hid hdd; clear hdd
        have H0 : Hid (∃ bad', ((0 ≤ m ∧ bad' = 5) ∨ (m = -1 ∧ bad' = bad)) ∧ twice bad' (ds.take (i + 1))) := Lib.hid (by
          rw [HSN.out.1]
          rcases HM.out with ⟨h1, h2⟩ | ⟨h1, h2⟩
          · exact ⟨5, .inl ⟨h1, rfl⟩, .inr ⟨rfl, fun h => (List.nodup_append.1 h).2.2 _ h2 _ (by simp) rfl⟩⟩
          · refine ⟨bad, .inr ⟨h1, rfl⟩, ?_⟩
            rcases htw.out with ⟨h3, h4⟩ | ⟨h3, h4⟩
            · exact .inl ⟨h3, nodup_snoc h4 h2⟩
            · exact .inr ⟨h3, fun h => h4 (h.sublist (List.sublist_append_left _ _))⟩)
        obtain ⟨key, text⟩ := p
        simp only at c0 c1 HFIND hk0 hk1
        have hrest : Hid (∀ q : Nat, ∃ (A : Option Addr) (c2 : Nat), Blk (wr.drewN q) r 50 #[.slice A i c2] ∧ OwnE (wr.drewN q) 0 (.slice A i c2) es ∧ S r ∧ (∀ g, (Value.slice A i c2).ownBlock = some g → S g) ∧ ∀ b, S b → b < (wr.drewN q).heap.size) := Lib.hid fun q => by
          obtain ⟨v, h1, h3, s1, s3, s4⟩ := hR.out.below (HDD.out q)
          obtain ⟨A, c2, rfl, -, -, -⟩ := h3.at_
          rw [HSN.out.2] at h1 h3 s3
          exact ⟨A, c2, h1, h3, s1, s3, s4⟩
        go_upto_region 8 with fail
        go_quiet ((go_at_call 23; exact Calls.quiet_of_same (HFIND.out _)))
        rcases HM.out with ⟨hm0, -⟩ | ⟨rfl, -⟩
        · have HB : Hid (twice 5 (ds.take (i + 1))) := Lib.hid (by
            obtain ⟨b', h1 | h1, h2⟩ := H0.out
            · rw [h1.2] at h2; exact h2
            · omega)
          clear H0 HM HFIND htw
          obtain ⟨Aq, cq, h1, h3, s1, s3, s4⟩ := hrest.out nq
          have n1 : ∀ g, (Value.slice Aq i cq).ownBlock = some g → g ≠ r := fun g hg => h3.ne_blk hg h1 (by decide)
          have d0 : (wr.drewN nq).cell? ⟨b1, o1 + i * 2, none⟩ = some (.int .i64 key) := c0
          have d1 : (wr.drewN nq).cell? ⟨b1, o1 + i * 2 + 1, none⟩ = some (.string text) := c1
          have hb2 := hb.trans ((HDD.out nq).mono hs)
          have hs2 : w.heap.size ≤ (wr.drewN nq).heap.size := hs
          obtain ⟨wq, hwq⟩ : ∃ wq, wr.drewN nq = wq := ⟨_, rfl⟩
          rw [hwq] at h1 h3 s4 d0 d1 hb2 hs2 ⊢
          clear hwq hrest HDD c0 c1 hb hs hR
          have k0 := h1.cell 0
          have kf := h1.frozen 0
          simp at k0
          have kA : (wq.alloc (.cells #[.int .i64 key, .string text] 33)).cell? ⟨r, 0, none⟩ = some (.slice Aq i cq) := (World.cell?_alloc_lt wq _ ⟨r, 0, none⟩ h1.lt).trans k0
          have hbd := ((Below.refl wq.heap.size wq).alloc (Nat.le_refl _) (.cells #[.int .i64 key, .string text] 33)).drew
          have hld : SlAt (wq.alloc (.cells #[.int .i64 key, .string text] 33)).drew.heap.size (wq.alloc (.cells #[.int .i64 key, .string text] 33)).drew (some ⟨wq.heap.size, 0, none⟩) [(key, text)] := lit1 wq key text
          have HD := Lib.hid (And.intro hbd hld); clear hbd hld
          have H3 := Lib.hid (And.intro h1 h3); clear h1 h3
          go_upto_region 10 with fail
          go_region_law (refine step_appE rfl (.tmp 45) (.tmp 50) rfl 0 _ es [(key, text)] (some ⟨wq.heap.size, 0, none⟩) 1 1 (by simp [Act.eval]) (H3.out.2.below HD.out.1) (by simp [Act.eval]) rfl HD.out.2 (by rw [HSN.out.2]; omega) (Nat.zero_le _) ?_; intro v4 w4 hown4 hg4 hat4; obtain ⟨A4, c4, hv4, -, -, -⟩ := hown4.at_; rw [show (es ++ [(key, text)]).length = i + 1 by rw [List.length_append, HSN.out.2]; rfl] at hv4; subst hv4; have b4 : Blk w4 r _ _ := (hg4.block r (Nat.lt_of_lt_of_le H3.out.1.lt HD.out.1.size) (fun e => n1 r e.symm rfl)).trans (H3.out.1.below HD.out.1 H3.out.1.lt); have k40 := b4.cell 0; have f40 := b4.frozen 0; simp at k40)
          all_goals
            have hf4 : Fr S wq w4 := Fr.trans (S := fun _ => False) (S' := S) (Fr.of_below HD.out.1) ⟨hg4.os, hg4.tape, hg4.output, hg4.size, fun b hb hn => hg4.block b hb (fun e => hn (s3 b e.symm))⟩ (fun _ h => h.elim) (fun _ _ h => h)
            have hat : ∀ g, (Value.slice A4 (i + 1) c4).ownBlock = some g → S g ∨ wq.heap.size ≤ g := fun g hg => by
              rcases hat4 with h | h
              · exact .inl (s3 g (h.symm.trans hg))
              · rw [hg] at h
                injection h with h
                have := HD.out.1.size
                omega
            obtain ⟨hR5, hF5, hS5⟩ := qadd_mid b4 hown4 hf4 s1 s4 hat
            rw [← HSN.out.1] at hR5
            have hb5 := hb2.trans (hF5.below hlow.out hs2)
            have hl5 := step_low hlow.out hS5 hs2
            have HF5 := Lib.hid (And.intro hR5 hl5)
            obtain ⟨w5, hw5⟩ : ∃ w5, w4.setCell ⟨r, 0, none⟩ (.slice A4 (i + 1) c4) = w5 := ⟨_, rfl⟩
            rw [hw5] at HF5 hb5 ⊢
            clear hw5 hR5 hF5 hS5 hl5 hat hf4 hown4 hg4 hat4 b4 k40 f40 kA k0 kf d0 d1 hb2 HD H3
            go_wp2_with fail
            go_roundw
            case rel => exact ⟨i + 1, _, 5, Lib.hid (by omega), rfl, rfl, HB, Lib.hid HF5.out.1, Lib.hid HF5.out.2, hy, hb5⟩
            case measure => simp [intOf]; omega
        · have HB : Hid (twice bad (ds.take (i + 1))) := Lib.hid (by
            obtain ⟨b', h1 | h1, h2⟩ := H0.out
            · omega
            · rw [h1.2] at h2; exact h2)
          have hm0 : ¬ (0 : Int) ≤ -1 := by omega
          clear H0 HM HFIND htw
          obtain ⟨Aq, cq, h1, h3, s1, s3, s4⟩ := hrest.out nq
          have n1 : ∀ g, (Value.slice Aq i cq).ownBlock = some g → g ≠ r := fun g hg => h3.ne_blk hg h1 (by decide)
          have d0 : (wr.drewN nq).cell? ⟨b1, o1 + i * 2, none⟩ = some (.int .i64 key) := c0
          have d1 : (wr.drewN nq).cell? ⟨b1, o1 + i * 2 + 1, none⟩ = some (.string text) := c1
          have hb2 := hb.trans ((HDD.out nq).mono hs)
          have hs2 : w.heap.size ≤ (wr.drewN nq).heap.size := hs
          obtain ⟨wq, hwq⟩ : ∃ wq, wr.drewN nq = wq := ⟨_, rfl⟩
          rw [hwq] at h1 h3 s4 d0 d1 hb2 hs2 ⊢
          clear hwq hrest HDD c0 c1 hb hs hR
          have k0 := h1.cell 0
          have kf := h1.frozen 0
          simp at k0
          have kA : (wq.alloc (.cells #[.int .i64 key, .string text] 33)).cell? ⟨r, 0, none⟩ = some (.slice Aq i cq) := (World.cell?_alloc_lt wq _ ⟨r, 0, none⟩ h1.lt).trans k0
          have hbd := ((Below.refl wq.heap.size wq).alloc (Nat.le_refl _) (.cells #[.int .i64 key, .string text] 33)).drew
          have hld : SlAt (wq.alloc (.cells #[.int .i64 key, .string text] 33)).drew.heap.size (wq.alloc (.cells #[.int .i64 key, .string text] 33)).drew (some ⟨wq.heap.size, 0, none⟩) [(key, text)] := lit1 wq key text
          have HD := Lib.hid (And.intro hbd hld); clear hbd hld
          have H3 := Lib.hid (And.intro h1 h3); clear h1 h3
          go_upto_region 10 with fail
          go_region_law (refine step_appE rfl (.tmp 45) (.tmp 50) rfl 0 _ es [(key, text)] (some ⟨wq.heap.size, 0, none⟩) 1 1 (by simp [Act.eval]) (H3.out.2.below HD.out.1) (by simp [Act.eval]) rfl HD.out.2 (by rw [HSN.out.2]; omega) (Nat.zero_le _) ?_; intro v4 w4 hown4 hg4 hat4; obtain ⟨A4, c4, hv4, -, -, -⟩ := hown4.at_; rw [show (es ++ [(key, text)]).length = i + 1 by rw [List.length_append, HSN.out.2]; rfl] at hv4; subst hv4; have b4 : Blk w4 r _ _ := (hg4.block r (Nat.lt_of_lt_of_le H3.out.1.lt HD.out.1.size) (fun e => n1 r e.symm rfl)).trans (H3.out.1.below HD.out.1 H3.out.1.lt); have k40 := b4.cell 0; have f40 := b4.frozen 0; simp at k40)
          all_goals
            have hf4 : Fr S wq w4 := Fr.trans (S := fun _ => False) (S' := S) (Fr.of_below HD.out.1) ⟨hg4.os, hg4.tape, hg4.output, hg4.size, fun b hb hn => hg4.block b hb (fun e => hn (s3 b e.symm))⟩ (fun _ h => h.elim) (fun _ _ h => h)
            have hat : ∀ g, (Value.slice A4 (i + 1) c4).ownBlock = some g → S g ∨ wq.heap.size ≤ g := fun g hg => by
              rcases hat4 with h | h
              · exact .inl (s3 g (h.symm.trans hg))
              · rw [hg] at h
                injection h with h
                have := HD.out.1.size
                omega
            obtain ⟨hR5, hF5, hS5⟩ := qadd_mid b4 hown4 hf4 s1 s4 hat
            rw [← HSN.out.1] at hR5
            have hb5 := hb2.trans (hF5.below hlow.out hs2)
            have hl5 := step_low hlow.out hS5 hs2
            have HF5 := Lib.hid (And.intro hR5 hl5)
            obtain ⟨w5, hw5⟩ : ∃ w5, w4.setCell ⟨r, 0, none⟩ (.slice A4 (i + 1) c4) = w5 := ⟨_, rfl⟩
            rw [hw5] at HF5 hb5 ⊢
            clear hw5 hR5 hF5 hS5 hl5 hat hf4 hown4 hg4 hat4 b4 k40 f40 kA k0 kf d0 d1 hb2 HD H3
            go_wp2_with fail
            go_roundw
            case rel => exact ⟨i + 1, _, bad, Lib.hid (by omega), rfl, rfl, HB, Lib.hid HF5.out.1, Lib.hid HF5.out.2, hy, hb5⟩
            case measure => simp [intOf]; omega
    · have hie : n = i := by have := hi.out; omega
      have HE : Hid (ds.take i = ds) := Lib.hid (List.take_of_length_le (by have := HN.out; omega))
      rw [HE.out] at htw hR hko
      clear hi HE
      subst hie
      rcases htw.out with ⟨rfl, hnd⟩ | ⟨rfl, hnd⟩
      · have HND := Lib.hid hnd; clear hnd htw
        go_wp2_with fail
        go_ret2
        exact qopen_good hko.out HND.out hR.out hlow.out hb
      · have HND := Lib.hid hnd; clear hnd htw
        go_wp2_with fail
        go_ret2
        exact qopen_twice hko.out HND.out hb

end Go.Proofs.Ytmlhladdoalfdaa
