/- The law ShareSums. -/
import Derived.Test.YtfipogmndokhkaaUt
import Derived.Deep.Cut
namespace Go.Proofs.Ytfipogmndokhkaa
open Go.RowKit

theorem shs_gl (cs : List Int) (n : Nat) : shs cs n = gl (fun i => ev cs ((i : Int) + 1) % 2147483647) n := rfl

set_option maxRecDepth 100000 in
set_option maxHeartbeats 8000000 in
theorem sums_any (one two : Int) (k n : Nat) (seed again : Int) (w : World) (hk : k < 256) (hn : n < 256) :
    Calls Try.prog 5 #[.int .i64 one, .int .i64 two, .int .u8 k, .int .u8 n, .int .i64 seed, .int .i64 again] w fun e w' => e = .returned (.bool true) ∧ Below w.heap.size w w' := by
  obtain ⟨hm1, hm2⟩ := many_range n
  obtain ⟨hq1, hq2⟩ := need_range k n
  have ha0 : 0 ≤ one % 2147483647 := by omega
  have ha1 : one % 2147483647 < 2147483647 := by omega
  have hb0 : 0 ≤ two % 2147483647 := by omega
  have hb1 : two % 2147483647 < 2147483647 := by omega
  have hnum := fun w1 => numbers_any one k n hk hn w1
  have hmod := fun w1 => mod_any two w1
  obtain ⟨a, ha⟩ : ∃ s, one % 2147483647 = s := ⟨_, rfl⟩
  obtain ⟨b, hb⟩ : ∃ s, two % 2147483647 = s := ⟨_, rfl⟩
  obtain ⟨q, hq⟩ : ∃ q, need k n = q := ⟨_, rfl⟩
  obtain ⟨m, hm⟩ : ∃ m, many n = m := ⟨_, rfl⟩
  rw [ha] at ha0 ha1 hnum
  rw [hb] at hb0 hb1 hmod
  rw [hq] at hq1 hq2 hnum
  rw [hm] at hm1 hm2 hq2 hnum
  have HNUM := Lib.hid hnum
  have HMOD := Lib.hid hmod
  clear ha hb hq hm hk hn hnum hmod
  have hs1 := fun w1 => split_good a q m seed w1 (by unfold okS; simp; omega)
  have hs2 := fun w1 => split_good b q m again w1 (by unfold okS; simp; omega)
  have hf0 := ev_zero a seed q hq1
  have hg0 := ev_zero b again q hq1
  have hfp := cfs_pol a seed q
  have hgp := cfs_pol b again q
  obtain ⟨cs, hcs⟩ : ∃ cs, cfs a seed q = cs := ⟨_, rfl⟩
  obtain ⟨ct, hct⟩ : ∃ cs, cfs b again q = cs := ⟨_, rfl⟩
  rw [hcs] at hs1 hf0 hfp
  rw [hct] at hs2 hg0 hgp
  clear hcs hct
  simp only [shs_gl] at hs1 hs2
  obtain ⟨F1, hF1⟩ : ∃ F : Nat → Int, (fun i : Nat => ev cs ((i : Int) + 1) % 2147483647) = F := ⟨_, rfl⟩
  obtain ⟨F2, hF2⟩ : ∃ F : Nat → Int, (fun i : Nat => ev ct ((i : Int) + 1) % 2147483647) = F := ⟨_, rfl⟩
  rw [hF1] at hs1
  rw [hF2] at hs2
  have r1 : ∀ i, 0 ≤ F1 i ∧ F1 i < 2147483647 := fun i => by rw [← hF1]; simp only; omega
  have r2 : ∀ i, 0 ≤ F2 i ∧ F2 i < 2147483647 := fun i => by rw [← hF2]; simp only; omega
  have t1 : ∀ i : Nat, Cg (ev cs ((i : Int) + 1)) (F1 i) := fun i => by rw [← hF1]; exact (Cg.mod _).symm
  have t2 : ∀ i : Nat, Cg (ev ct ((i : Int) + 1)) (F2 i) := fun i => by rw [← hF2]; exact (Cg.mod _).symm
  clear hF1 hF2
  have hpu : Pol q (fun x => ev cs x + ev ct x) := hfp.add hgp
  have hpm : Pol q (fun x => ev cs x + b) := hfp.add ((Pol.const b).mono hq1)
  have hju : ∀ (w1 : World) (v : Value), OwnS w1 w.heap.size v (gl (fun i => (F1 i + F2 i) % 2147483647) m) → Calls Try.prog 10 #[v, .int .i64 q] w1 fun e w' => e = .returned (.tuple #[.int .i64 ((a + b) % 2147483647), .int .i64 0]) ∧ Below w1.heap.size w1 w' := fun w1 v ho => by
    obtain ⟨A, c, rfl, hc1, hc2, hS⟩ := ho.at_
    have h := join_ok _ A c w1 q hS (by rw [gl_len]; omega) hc1 hc2 hq1 (by omega) (gl_rt hm2 (fun i _ => by omega)) (gl_nodup _ _) (by rw [gl_len]; exact hq2) _ hpu (gl_thru fun i _ => ((t1 i).add (t2 i)).trans (Cg.mod _).symm)
    simp only [hf0, hg0] at h
    exact h
  have hjm : ∀ (w1 : World) (v : Value), OwnS w1 w.heap.size v (gl (fun i => (F1 i + b) % 2147483647) m) → Calls Try.prog 10 #[v, .int .i64 q] w1 fun e w' => e = .returned (.tuple #[.int .i64 ((a + b) % 2147483647), .int .i64 0]) ∧ Below w1.heap.size w1 w' := fun w1 v ho => by
    obtain ⟨A, c, rfl, hc1, hc2, hS⟩ := ho.at_
    have h := join_ok _ A c w1 q hS (by rw [gl_len]; omega) hc1 hc2 hq1 (by omega) (gl_rt hm2 (fun i _ => by omega)) (gl_nodup _ _) (by rw [gl_len]; exact hq2) _ hpm (gl_thru fun i _ => ((t1 i).add (Cg.refl b)).trans (Cg.mod _).symm)
    simp only [hf0] at h
    exact h
  have HS1 := Lib.hid hs1; clear hs1
  have HS2 := Lib.hid hs2; clear hs2
  have HJU := Lib.hid hju; clear hju
  have HJM := Lib.hid hjm; clear hjm
  have R1 := Lib.hid r1; clear r1
  have R2 := Lib.hid r2; clear r2
  clear hf0 hg0 hfp hgp hpu hpm t1 t2
  go_enter Try.func5, Try.ntmps5
  go_wp2_with fail
  refine (small_any _).mono ?_
  rintro e w1 ⟨rfl, hb1'⟩
  go_wp2_with fail
  refine (HNUM.out _).mono ?_
  rintro e w2 ⟨rfl, hb2'⟩
  have hB2 := hb1'.trans (hb2'.mono hb1'.size)
  go_wp2_with fail
  refine (HMOD.out _).mono ?_
  rintro e w2' ⟨rfl, rfl⟩
  go_wp2_with fail
  refine (HS1.out _).mono ?_
  rintro e w3 ⟨v3, rfl, hown3, hb3'⟩
  have hB3 := hB2.trans (hb3'.mono hB2.size)
  obtain ⟨A3, c3, rfl, hc3, hm3, hS3⟩ := hown3.at_
  have H3 := Lib.hid hS3; clear hS3 hown3
  rw [gl_len] at hc3 ⊢
  go_wp2_with fail
  refine (HS2.out _).mono ?_
  rintro e w4 ⟨v4, rfl, hown4, hb4'⟩
  have hB4 := hB3.trans (hb4'.mono hB3.size)
  obtain ⟨A4, c4, rfl, hc4, hm4, hS4⟩ := hown4.at_
  have H4 := Lib.hid hS4; clear hS4 hown4
  have H34 := Lib.hid ((H3.out.below hb4').more hb4'.size); clear H3
  rw [gl_len] at hc4 ⊢
  clear hb1' hb2' hb3' hb4' hB2 hB3
  go_wp2_with fail
  obtain ⟨F, hF⟩ : ∃ F : Nat → Int, (fun i => (F1 i + F2 i) % 2147483647) = F := ⟨_, rfl⟩
  obtain ⟨G, hG⟩ : ∃ F : Nat → Int, (fun i => (F1 i + b) % 2147483647) = F := ⟨_, rfl⟩
  rw [hF] at HJU
  rw [hG] at HJM
  have HFG : Hid (∀ i, (F1 i + F2 i) % 2147483647 = F i ∧ (F1 i + b) % 2147483647 = G i) := Lib.hid fun i => ⟨by rw [← hF], by rw [← hG]⟩
  clear hF hG
  go_loopw [22, 23, 24] (fun uv mv iv wr => ∃ i : Nat, i ≤ m ∧ iv = .int .i64 i ∧ Below w4.heap.size w4 wr ∧ Hid (OwnS wr w4.heap.size uv (gl F i) ∧ OwnS wr w4.heap.size mv (gl G i) ∧ ∀ g, mv.ownBlock = some g → uv.ownBlock ≠ some g)) (fun _ _ iv _ => m - (intOf iv).toNat)
  case atStart => exact ⟨0, Nat.zero_le _, rfl, Below.refl _ _, Lib.hid ⟨OwnS.nil _ _, OwnS.nil _ _, fun g h => by simp [Value.ownBlock] at h⟩⟩
  case round =>
    obtain ⟨i, hi, rfl, hb, ho⟩ := hrel
    have hs := hb.size
    by_cases hgo : i < m
    · obtain ⟨b1, o1, hA, hB1, c0, c1⟩ := (H34.out.below hb) i (by rw [gl_len]; exact hgo)
      obtain ⟨b2, o2, hA', hB2, c2, c3'⟩ := (H4.out.below hb) i (by rw [gl_len]; exact hgo)
      subst hA; subst hA'
      rw [gl_get _ hgo] at c0 c1 c2 c3'
      obtain ⟨y10, y11⟩ := R1.out i
      obtain ⟨y20, y21⟩ := R2.out i
      obtain ⟨f1, f2⟩ := HFG.out i
      have g1 := gl_succ F i
      have g2 := gl_succ G i
      obtain ⟨y1, hy1⟩ : ∃ y, F1 i = y := ⟨_, rfl⟩
      obtain ⟨y2, hy2⟩ : ∃ y, F2 i = y := ⟨_, rfl⟩
      obtain ⟨fi, hfi⟩ : ∃ y, F i = y := ⟨_, rfl⟩
      obtain ⟨gi, hgi⟩ : ∃ y, G i = y := ⟨_, rfl⟩
      rw [hy1] at c1 y10 y11 f1 f2
      rw [hy2] at c3' y20 y21 f1
      rw [hfi] at f1 g1
      rw [hgi] at f2 g2
      simp only at c0 c1 c2 c3'
      clear hy1 hy2 hfi hgi
      have hmu := fun w1 => mod_any (y1 + y2) w1
      have hmm := fun w1 => mod_any (y1 + b) w1
      rw [f1] at hmu
      rw [f2] at hmm
      have HMU := Lib.hid hmu; clear hmu
      have HMM := Lib.hid hmm; clear hmm
      have HGG := Lib.hid (And.intro g1 g2); clear g1 g2 f1 f2
      go_wp2_with fail
      have e0 : ∀ W' : World, Below w4.heap.size w4 W' → W'.cell? ⟨b1, o1 + i * 2 + 1, none⟩ = some (.int .i64 y1) ∧ W'.cell? ⟨b2, o2 + i * 2 + 1, none⟩ = some (.int .i64 y2) ∧ Below w4.heap.size w4 W' := fun W' hW => ⟨(hW.cell (p := ⟨b1, o1 + i * 2 + 1, none⟩) hB1).trans ((hb.cell (p := ⟨b1, o1 + i * 2 + 1, none⟩) hB1).symm.trans c1), (hW.cell (p := ⟨b2, o2 + i * 2 + 1, none⟩) hB2).trans ((hb.cell (p := ⟨b2, o2 + i * 2 + 1, none⟩) hB2).symm.trans c3'), hW⟩
      have E0 := Lib.hid e0; clear e0
      have hl1 : ShAt (wr.alloc (.cells #[.int .i64 ((i : Int) + 1), .int .i64 fi] 39)).drew.heap.size (wr.alloc (.cells #[.int .i64 ((i : Int) + 1), .int .i64 fi] 39)).drew (some ⟨wr.heap.size, 0, none⟩) [((i : Int) + 1, fi)] := lit1 wr _ _
      have hld : Below wr.heap.size wr (wr.alloc (.cells #[.int .i64 ((i : Int) + 1), .int .i64 fi] 39)).drew := ((Below.refl wr.heap.size wr).alloc (Nat.le_refl _) _).drew
      have hou : OwnS (wr.alloc (.cells #[.int .i64 ((i : Int) + 1), .int .i64 fi] 39)).drew w4.heap.size u22 (gl F i) := ho.out.1.below hld
      have HL := Lib.hid (And.intro hl1 (And.intro hld hou)); clear hl1 hld hou c0 c2
      have hlen : (gl F i).length + 1 ≤ 1000000 := by rw [gl_len]; omega
      have HLEN := Lib.hid hlen; clear hlen
      have HL3 : Hid (Below w4.heap.size w4 (wr.alloc (.cells #[.int .i64 ((i : Int) + 1), .int .i64 fi] 39)).drew) := Lib.hid (hb.trans (HL.out.2.1.mono hs))
      have HL4 : Hid (Below w4.heap.size w4 wr.drew) := Lib.hid hb.drew
      have hwr1 : IntKind.i64.wrap (y1 + y2) = y1 + y2 := by rw [IntKind.wrap_i64]; omega
      have hwr2 : IntKind.i64.wrap ((i : Int) + 1) = (i : Int) + 1 := by rw [IntKind.wrap_i64]; omega
      go_region_held3 (fun W' => W'.cell? ⟨b1, o1 + i * 2 + 1, none⟩ = some (.int .i64 y1) ∧ W'.cell? ⟨b2, o2 + i * 2 + 1, none⟩ = some (.int .i64 y2) ∧ Below w4.heap.size w4 W')
        (first | exact E0.out _ (by assumption) | exact E0.out _ HL3.out | exact E0.out _ HL4.out)
        (first
          | (go_at_call 16; refine (HMU.out _).mono ?_; rintro e w5 ⟨rfl, rfl⟩)
          | (refine step_appS rfl (.tmp 97) (.tmp 113) rfl w4.heap.size u22 (gl F i) [((i : Int) + 1, fi)] (some ⟨wr.heap.size, 0, none⟩) 1 1 (by simp [Act.eval]) HL.out.2.2 (by simp [Act.eval]) rfl HL.out.1 HLEN.out (Nat.le_trans hs HL.out.2.1.size) ?_; intro v6 w6 hown6 hg6 hat6; have hb6 := grown_bel (hb.trans (HL.out.2.1.mono hs)) HL.out.2.2 hg6 (Nat.le_refl _)))
      have hs6 := hb6.size
      have c6 : w6.cell? ⟨b1, o1 + i * 2 + 1, none⟩ = some (.int .i64 y1) := (hb6.cell (p := ⟨b1, o1 + i * 2 + 1, none⟩) hB1).trans ((hb.cell (p := ⟨b1, o1 + i * 2 + 1, none⟩) hB1).symm.trans c1)
      have hom : OwnS w6 w4.heap.size u23 (gl G i) := (ho.out.2.1.below HL.out.2.1).kept hg6 (by
        cases hq : u23.ownBlock with
        | none => exact .inl rfl
        | some g => exact .inr (fun e => ho.out.2.2 g hq e.symm))
      have hdj : ∀ g, v6.ownBlock = some g → u23.ownBlock ≠ some g := fun g hg hm => by
        rcases hat6 with e | e
        · exact ho.out.2.2 g hm (e.symm.trans hg)
        · rw [hg] at e
          injection e with e
          have h1 := (World.ownsRow.lt ho.out.2.1 g hm).2
          have h2 := HL.out.2.1.size
          omega
      have HO6 := Lib.hid (And.intro hown6 (And.intro hom hdj)); clear hown6 hom hdj hat6 hg6 c1 c3'
      have hl7 := lit1 w6 ((i : Int) + 1) gi
      have hou7 := HO6.out.2.1.below ((Below.refl w6.heap.size w6).alloc (Nat.le_refl _) (.cells #[.int .i64 ((i : Int) + 1), .int .i64 gi] 39))
      have hb67 := hb6.alloc hs6 (.cells #[.int .i64 ((i : Int) + 1), .int .i64 gi] 39)
      have hg7' := HO6.out.1.below ((Below.refl w6.heap.size w6).alloc (Nat.le_refl _) (.cells #[.int .i64 ((i : Int) + 1), .int .i64 gi] 39))
      have hlen7 : (gl G i).length + 1 ≤ 1000000 := by rw [gl_len]; omega
      have HL7 := Lib.hid (And.intro hl7 (And.intro hou7 (And.intro hb67 (And.intro hg7' hlen7)))); clear hl7 hou7 hb67 hg7' hlen7
      clear hwr1 hwr2
      go_wp2_with fail
      refine (HMM.out _).mono ?_
      rintro e w5 ⟨rfl, rfl⟩
      go_wp2_with (at_builtin; refine appS_at rfl (.tmp 115) (.tmp 127) rfl w4.heap.size u23 (gl G i) [((i : Int) + 1, gi)] (some ⟨w6.heap.size, 0, none⟩) 1 1 rfl HL7.out.2.1 rfl rfl HL7.out.1 HL7.out.2.2.2.2 HL7.out.2.2.1.size ?_; intro v8 w8 hown8 hg8 hat8; have hb8 := grown_bel HL7.out.2.2.1 HL7.out.2.1 hg8 (Nat.le_refl _))
      go_roundw
      case rel =>
        refine ⟨i + 1, by omega, rfl, hb8, Lib.hid ⟨?_, ?_, ?_⟩⟩
        · rw [HGG.out.1]
          refine HL7.out.2.2.2.1.kept hg8 ?_
          cases hq : v6.ownBlock with
          | none => exact .inl rfl
          | some g => exact .inr (fun e => HO6.out.2.2 g hq e.symm)
        · rw [HGG.out.2]
          exact hown8
        · intro g hg hm
          rcases hat8 with e | e
          · exact HO6.out.2.2 g hm (e.symm.trans hg)
          · rw [hg] at e
            injection e with e
            have h1 := (World.ownsRow.lt HO6.out.1 g hm).2
            simp at e
            omega
      case measure => simp [intOf]; omega
    · have : i = m := by omega
      subst this
      go_wp2_with fail
      refine (HJU.out _ _ (ho.out.1.mono hB4.size)).mono ?_
      rintro e w5 ⟨rfl, hb5⟩
      have hB5 := hb.trans (hb5.mono hs)
      go_wp2_with fail
      refine (HJM.out _ _ ((ho.out.2.1.below hb5).mono hB4.size)).mono ?_
      rintro e w6 ⟨rfl, hb6⟩
      have hB6 := hB5.trans (hb6.mono hB5.size)
      go_wp2_with fail
      refine (mod_any (a + b) _).mono ?_
      rintro e w7 ⟨rfl, rfl⟩
      go_wp2_with fail
      refine (mod_any (a + b) _).mono ?_
      rintro e w7 ⟨rfl, rfl⟩
      go_wp2_with fail
      go_ret
      exact ⟨rfl, hB4.trans (hB6.mono hB4.size)⟩

end Go.Proofs.Ytfipogmndokhkaa
