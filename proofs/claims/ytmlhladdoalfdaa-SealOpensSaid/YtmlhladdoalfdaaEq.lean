/- The law SealMakes. -/
import Derived.Test.YtmlhladdoalfdaaEp
namespace Go.Proofs.Ytmlhladdoalfdaa
open Go.RowKit

/-- What the law SealMakes keeps. -/
def KInv (B : Nat) (w : World) (S : Nat → Prop) (r : Nat) (es : List En) (ms : List Sg) (mv : Value) (g : Nat) (k : Int) (t : ByteArray) (m : Int) : Prop :=
  Ring w S r es ∧ (∀ b, S b → B ≤ b) ∧ OwnG w B mv ms ∧ Out S mv ∧ Bx w S g k t m ∧ mv.ownBlock ≠ some g
theorem KInv.below {B : Nat} {w w' : World} {S : Nat → Prop} {r : Nat} {es : List En} {ms : List Sg} {mv : Value} {g : Nat} {k : Int} {t : ByteArray} {m : Int} (h : KInv B w S r es ms mv g k t m) (hb : Below w.heap.size w w') : KInv B w' S r es ms mv g k t m :=
  ⟨h.1.below hb, h.2.1, h.2.2.1.below hb, h.2.2.2.1, h.2.2.2.2.1.below hb, h.2.2.2.2.2⟩
theorem litO1 (w : World) (k : Int) (t : ByteArray) (m : Int) : OwnG (w.alloc (.cells #[.int .i64 k, .string t, .int .i64 m] 24)) w.heap.size (.slice (some ⟨w.heap.size, 0, none⟩) 1 1) [((k, t), m)] :=
  ⟨rfl, .inr ⟨w.heap.size, 1, _, rfl, Nat.le_refl _, heap_alloc_new w _, Nat.le_refl _, by unfold maxLen; omega, rfl, rfl⟩⟩
theorem litG4 (w : World) (k1 k2 k3 k4 : Int) (t1 t2 t3 t4 : ByteArray) (m1 m2 m3 m4 : Int) :
    GAt (w.alloc (.cells #[.int .i64 k1, .string t1, .int .i64 m1, .int .i64 k2, .string t2, .int .i64 m2, .int .i64 k3, .string t3, .int .i64 m3, .int .i64 k4, .string t4, .int .i64 m4] 24)).heap.size
      (w.alloc (.cells #[.int .i64 k1, .string t1, .int .i64 m1, .int .i64 k2, .string t2, .int .i64 m2, .int .i64 k3, .string t3, .int .i64 m3, .int .i64 k4, .string t4, .int .i64 m4] 24))
      (some ⟨w.heap.size, 0, none⟩) [((k1, t1), m1), ((k2, t2), m2), ((k3, t3), m3), ((k4, t4), m4)] := fun j hj => by
  have k0 := Blk.new w 24 #[.int .i64 k1, .string t1, .int .i64 m1, .int .i64 k2, .string t2, .int .i64 m2, .int .i64 k3, .string t3, .int .i64 m3, .int .i64 k4, .string t4, .int .i64 m4]
  have : j = 0 ∨ j = 1 ∨ j = 2 ∨ j = 3 := by simp at hj; omega
  rcases this with rfl | rfl | rfl | rfl
  · exact ⟨w.heap.size, 0, rfl, by simp, k0.cell 0, k0.cell 1, k0.cell 2⟩
  · exact ⟨w.heap.size, 0, rfl, by simp, k0.cell 3, k0.cell 4, k0.cell 5⟩
  · exact ⟨w.heap.size, 0, rfl, by simp, k0.cell 6, k0.cell 7, k0.cell 8⟩
  · exact ⟨w.heap.size, 0, rfl, by simp, k0.cell 9, k0.cell 10, k0.cell 11⟩
theorem below_q (w : World) (q : Nat) : Below w.heap.size w (w.drewN q) := ⟨rfl, rfl, rfl, Nat.le_refl _, fun _ _ => rfl⟩

set_option maxRecDepth 100000 in
set_option maxHeartbeats 16000000 in
theorem makes_any (l : List En) (A : Option Addr) (c : Nat) (s : Sg) (w : World) (hS : SlAt w.heap.size w A l) (hln : l.length ≤ 9223372036854775807) (hd : ∀ d ∈ l, EnOk d) (hs1 : EnOk s.1) (hs2 : -9223372036854775808 ≤ s.2 ∧ s.2 ≤ 9223372036854775807) :
    Calls Try.prog 4 #[.slice A l.length c, .agg #[.int .i64 s.1.1, .string s.1.2, .int .i64 s.2]] w fun e w' => e = .returned (.bool true) ∧ Below w.heap.size w w' := by
  have HFEW : Hid (∀ (b : Bool) (w1 : World), Below w.heap.size w w1 → b = fewB l 40 → Calls Try.prog 8 #[.slice A l.length c, .int .i64 40] w1 fun e w' => e = .returned (.bool b) ∧ w1 = w') := Lib.hid fun b w1 hb he => few_any l A _ c w1 ((hS.below hb).more hb.size) rfl hln b he
  obtain ⟨⟨sk, st⟩, sm⟩ := s
  have hb0 := (Below.refl w.heap.size w).alloc (Nat.le_refl _) (.cells #[.int .i64 sk, .string st, .int .i64 sm] 24)
  have hk0 := Blk.new w 24 #[.int .i64 sk, .string st, .int .i64 sm]
  have hsz0 : (w.alloc (.cells #[.int .i64 sk, .string st, .int .i64 sm] 24)).heap.size = w.heap.size + 1 := by simp
  obtain ⟨w0, hw0⟩ : ∃ w0, w.alloc (.cells #[.int .i64 sk, .string st, .int .i64 sm] 24) = w0 := ⟨_, rfl⟩
  have HW0 := Lib.hid hw0
  rw [hw0] at hb0 hk0 hsz0
  clear hw0
  by_cases hf : fewB l 40 = true
  · have hlen : l.length ≤ 40 := by
      unfold fewB at hf
      simp at hf
      exact hf.1
    have hsz : ∀ d ∈ l, d.2.size ≤ 1000 := by
      unfold fewB at hf
      simp at hf
      intro d hd
      have := hf.2 d.1 d.2 hd
      omega
    have HS := Lib.hid hS; clear hS
    have HD : Hid (∀ d ∈ l, EnOk d ∧ d.2.size ≤ 1000) := Lib.hid fun d h => ⟨hd d h, hsz d h⟩
    clear hd hsz
    have HT := Lib.hid (HFEW.out true); clear HFEW
    have HF := Lib.hid hf; clear hf
    obtain ⟨n, hn⟩ : ∃ n, l.length = n := ⟨_, rfl⟩
    rw [hn] at hlen hln HT ⊢
    have HN := Lib.hid hn; clear hn
    go_enter Try.func4, Try.ntmps4
    go_upto_region 1 with fail
    rw [HW0.out]
    go_wp2_with fail
    refine (small_any _).mono ?_
    rintro e w1 ⟨rfl, hb1⟩
    go_wp2_with fail
    refine (new_any _).mono ?_
    rintro e w2 ⟨r, S0, rfl, hR2, low2, hb2⟩
    have hs01 := hb1.size
    have hb12 := hb1.trans (hb2.mono hs01)
    have hB2 := hb0.trans (hb12.mono (by omega))
    go_wp2_with fail
    refine (HT.out _ hB2 HF.out.symm).mono ?_
    rintro e w3 ⟨rfl, rfl⟩
    have hinv : KInv w.heap.size w2 S0 r (ents (l.take 0)) (goods (l.take 0)) (.slice none 0 0) w.heap.size sk st sm := ⟨hR2, fun b hb => by have := low2 b hb; omega, OwnG.nil _ _, Out.nil _, ⟨hk0.below hb12 (by omega), fun h => by have := low2 _ h; omega⟩, fun e => by cases e⟩
    have HI := Lib.hid hinv; clear hinv hR2 low2 hb1 hb2 hb12 hk0 hb0
    go_wp2_with fail
    go_loopw [7, 8] (fun mv iv wr => ∃ (i : Nat) (S : Nat → Prop), Hid (i ≤ n) ∧ iv = .int .i64 i ∧ Hid (KInv w.heap.size wr S r (ents (l.take i)) (goods (l.take i)) mv w.heap.size sk st sm) ∧ Below w.heap.size w wr) (fun _ iv _ => n - (intOf iv).toNat)
    case atStart => exact ⟨0, S0, Lib.hid (Nat.zero_le _), rfl, HI, hB2⟩
    case round =>
      obtain ⟨i, S, hi, rfl, hinv, hb⟩ := hrel
      by_cases hgo : i < n
      · have hil : i < l.length := by have := HN.out; omega
        obtain ⟨b1, o1, hA, hB1, x0, x1⟩ := HS.out i hil
        subst hA
        have HC : Hid (∀ W, Below w.heap.size w W → W.cell? ⟨b1, o1 + i * 2, none⟩ = some (.int .i64 (l.getD i e0).1) ∧ W.cell? ⟨b1, o1 + i * 2 + 1, none⟩ = some (.string (l.getD i e0).2) ∧ Below w.heap.size w W) := Lib.hid fun W hb => ⟨(hb.cell (p := ⟨b1, o1 + i * 2, none⟩) hB1).trans x0, (hb.cell (p := ⟨b1, o1 + i * 2 + 1, none⟩) hB1).trans x1, hb⟩
        have hpd := HD.out _ (en_get hil)
        have he1 : ents (l.take (i + 1)) = addE (ents (l.take i)) (l.getD i e0) := by rw [take_snoc hil, ents_snoc]
        have hm1 : goods (l.take (i + 1)) = if okKey (l.getD i e0).1 = true then goods (l.take i) ++ [((l.getD i e0), (pos (ents (l.take i)) (l.getD i e0) : Int))] else goods (l.take i) := by rw [take_snoc hil, goods_snoc]
        have hel : (ents (l.take i)).length ≤ 40 := Nat.le_trans (ents_len _) (by rw [List.length_take]; omega)
        have hml : (goods (l.take i)).length ≤ 40 := Nat.le_trans (goods_len _) (by rw [List.length_take]; omega)
        have hval : ∀ y ∈ goods (l.take (i + 1)), holds (ents (l.take (i + 1))) y.1 y.2 = true ∧ EnOk y.1 := fun y hy => ⟨(holds_iff _ y).2 hy, (goods_ok (fun d h => HD.out d (List.mem_of_mem_take h)) y hy).1⟩
        obtain ⟨p, hp⟩ : ∃ p, l.getD i e0 = p := ⟨_, rfl⟩
        rw [hp] at HC he1 hm1 hpd
        clear hp x0 x1
        obtain ⟨es, hes⟩ : ∃ es, ents (l.take i) = es := ⟨_, rfl⟩
        obtain ⟨ms, hms⟩ : ∃ ms, goods (l.take i) = ms := ⟨_, rfl⟩
        rw [hes] at hinv he1 hm1 hel
        rw [hms] at hinv hm1 hml
        rw [he1] at hval
        have HE1 := Lib.hid (And.intro he1 hm1)
        have HV := Lib.hid hval
        clear hes hms he1 hm1 hval
        obtain ⟨hR, low, hm1, hm2, hx1, hx2⟩ := hinv.out
        have hs := hb.size
        have hsg : sg es p = if okKey p.1 = true then (p, (pos es p : Int)) else (e0, 0) := rfl
        obtain ⟨x, hx⟩ : ∃ x, sg es p = x := ⟨_, rfl⟩
        have HSG : Hid (∀ (W : World), Below w.heap.size w W → w.heap.size ≤ W.heap.size → Ring W S r es → Calls Try.prog 11 #[.pointer (some ⟨r, 0, none⟩), .int .i64 p.1, .string p.2] W fun e w' => ∃ S', e = .returned (sgv (sg es p)) ∧ Ring w' S' r (addE es p) ∧ (∀ b, S' b → w.heap.size ≤ b) ∧ Below w.heap.size w w' ∧ w.heap.size ≤ w'.heap.size ∧ Fr S W w' ∧ ∀ b, S' b → S b ∨ W.heap.size ≤ b) := Lib.hid fun W h1 h2 h3 => sign_law h3 low h1 h2 p hpd.1 hpd.2 (by omega)
        rw [hx] at HSG hsg
        have HX := Lib.hid hsg
        clear hx hsg
        obtain ⟨⟨xk, xt⟩, xm⟩ := x
        unfold sgv at HSG
        simp only at HSG
        obtain ⟨c0, c1, -⟩ := HC.out _ hb
        have hb1 : Below wr.heap.size wr wr.drew := ⟨rfl, rfl, rfl, Nat.le_refl _, fun _ _ => rfl⟩
        have hb2 : Below wr.heap.size wr (wr.alloc (.cells #[.int .i64 0, .string ⟨#[]⟩, .int .i64 0] 24)).drew := ((Below.refl wr.heap.size wr).alloc (Nat.le_refl _) _).drew
        have hW : ∀ W, Below wr.heap.size wr W → Below w.heap.size w W ∧ w.heap.size ≤ W.heap.size ∧ Ring W S r es := fun W h => ⟨hb.trans (h.mono hs), Nat.le_trans hs h.size, hR.below h⟩
        have hbb : Blk (wr.alloc (.cells #[.int .i64 0, .string ⟨#[]⟩, .int .i64 0] 24)).drew wr.heap.size 24 #[.int .i64 0, .string ⟨#[]⟩, .int .i64 0] := Blk.new wr _ _
        have hnS : ¬ S wr.heap.size := hR.new_not
        have HW := Lib.hid (And.intro hW (And.intro hb1 (And.intro hb2 (And.intro hbb hnS)))); clear hW hb1 hb2 hbb hnS
        have HIV := Lib.hid (And.intro hR (And.intro low (And.intro hm1 (And.intro hm2 (And.intro hx1 hx2))))); clear hR low hm1 hm2 hx1 hx2
        go_upto_region 9 with fail
        go_cut [9] from 31 to 100 (fun x wx => SgP w.heap.size w wr S r (addE es p) xk xt xm x wx)
        case first =>
          go_region_held3 (fun W' => W'.cell? ⟨b1, o1 + i * 2, none⟩ = some (.int .i64 p.1) ∧ W'.cell? ⟨b1, o1 + i * 2 + 1, none⟩ = some (.string p.2) ∧ Below w.heap.size w W')
            (first | exact HC.out _ (hB5.alloc hs5 _) | exact HC.out _ hB6 | exact HC.out _ (by assumption) | exact HC.out _ (HW.out.1 _ HW.out.2.1).1 | exact HC.out _ (HW.out.1 _ HW.out.2.2.1).1)
            (first
              | (go_at_call 11; (first | refine (HSG.out _ (HW.out.1 _ HW.out.2.1).1 (HW.out.1 _ HW.out.2.1).2.1 (HW.out.1 _ HW.out.2.1).2.2).mono ?_ | refine (HSG.out _ (HW.out.1 _ HW.out.2.2.1).1 (HW.out.1 _ HW.out.2.2.1).2.1 (HW.out.1 _ HW.out.2.2.1).2.2).mono ?_); rintro e w5 ⟨S5, rfl, hR5, low5, hB5, hs5, hF5, hn5⟩; (try (have hk5 : Blk w5 wr.heap.size 24 #[.int .i64 0, .string ⟨#[]⟩, .int .i64 0] := Blk.fr HW.out.2.2.2.1 hF5 HW.out.2.2.2.2; have z0 := hk5.cell 0; have z1 := hk5.cell 1; have z2 := hk5.cell 2; have y0 := hk5.frozen 0; have y1 := hk5.frozen 1; have y2 := hk5.frozen 2; simp at z0 z1 z2; have hB6 := ((hB5.setCell (p := ⟨wr.heap.size, 0, none⟩) hs (.int .i64 xk)).setCell (p := ⟨wr.heap.size, 1, none⟩) hs (.string xt)).setCell (p := ⟨wr.heap.size, 2, none⟩) hs (.int .i64 xm)))))
          · go_wp2_with fail
            go_meet
            case rel => exact sgp_new xk xt xm hR5 low5 hB5 hs5 hF5 hn5
          · go_wp2_with fail
            go_meet
            case rel => exact sgp_old xk xt xm hs HW.out.2.2.2.2 hR5 low5 hB5 hs5 hF5 hn5 hk5
        case rest =>
          obtain ⟨g8, S1, rfl, hg8, hbx, hR1, low1, hB1', hs1', hF1, hn1⟩ := hcut
          obtain ⟨-, -, hm1, hm2, hx1, hx2⟩ := HIV.out
          have hM1 : OwnG wc w.heap.size u7 ms := hm1.fr hF1 hm2
          have hM2 : Out S1 u7 := hm2.stepG hm1 hn1
          have hM3 : u7.ownBlock ≠ some g8 := hm1.ne_new hg8 rfl
          have hX1 := hx1.step hF1 hn1
          clear HIV HSG HW hm1 hm2 hx1 hg8 hF1 hn1 c0 c1 hb hs
          obtain ⟨x0, x1, x2⟩ := hbx.cells
          obtain ⟨c0, c1, -⟩ := HC.out _ hB1'
          obtain ⟨gs, hgs⟩ : ∃ gs, goods (l.take (i + 1)) = gs := ⟨_, rfl⟩
          obtain ⟨es', hes'⟩ : ∃ es', addE es p = es' := ⟨_, rfl⟩
          rw [hes'] at hR1 HV HE1
          rw [hgs] at HV HE1
          have HGS := Lib.hid hgs.symm; clear hgs
          have HES := Lib.hid HE1.out.1
          clear hinv
          have hkey : p.1 < 0 ∨ 5000 ≤ p.1 ∨ okKey p.1 = true := by
            unfold okKey
            simp
            omega
          rcases hkey with hk | hk | hk
          · have hkb : ¬ okKey p.1 = true := by unfold okKey; simp; omega
            have hx := HX.out
            have hgm := HE1.out.2
            rw [if_neg hkb] at hx hgm
            simp only [e0, Prod.mk.injEq] at hx
            obtain ⟨⟨rfl, rfl⟩, rfl⟩ := hx
            rw [← hgm] at hM1
            have HK := Lib.hid (show KInv w.heap.size wc S1 r es' gs u7 w.heap.size sk st sm from ⟨hR1, low1, hM1, hM2, hX1, hx2⟩)
            have HBX := Lib.hid hB1'
            obtain ⟨WX, hWX⟩ : ∃ WX, WX = wc := ⟨_, rfl⟩
            rw [← hWX] at HK HBX x0 x1 x2 c0 c1 ⊢
            clear hWX hR1 low1 hM1 hM2 hX1 hx2 hB1' hs1' hgm hes' hbx
            go_upto_region 16 with fail
            have hks : w.heap.size ≤ WX.heap.size := HBX.out.size
            have hml2 := HK.out.2.2.1.at_
            obtain ⟨Am, cm, hmv, hc1, hc2, -⟩ := hml2
            subst hmv
            have hgz : gs.length ≤ 41 := by rw [HGS.out]; exact Nat.le_trans (goods_len _) (by rw [List.length_take]; omega)
            have HVG : Hid (∀ k, k < gs.length → ∀ W, Ring W S1 r es' → Calls Try.prog 13 #[.pointer (some ⟨r, 0, none⟩), .agg #[.int .i64 (gs.getD k g0).1.1, .string (gs.getD k g0).1.2, .int .i64 (gs.getD k g0).2]] W fun e w' => e = .returned (.bool true) ∧ Below W.heap.size W w') := Lib.hid fun k hk W hW => by
              obtain ⟨v1, v2⟩ := HV.out _ (sg_get hk)
              have h := valid_any hW (gs.getD k g0).1 (gs.getD k g0).2 v2
              rw [v1] at h
              exact h
            obtain ⟨zg, hzg⟩ : ∃ zg, gs.length = zg := ⟨_, rfl⟩
            rw [hzg] at hgz hc1 HVG HK ⊢
            have HZG := Lib.hid hzg; clear hzg
            go_wp2_with fail
            go_loopw [10] (fun kv wr2 => ∃ k : Nat, Hid (k ≤ zg) ∧ kv = .int .i64 k ∧ Below WX.heap.size WX wr2) (fun kv _ => zg - (intOf kv).toNat)
            case atStart => exact ⟨0, Lib.hid (Nat.zero_le _), rfl, Below.refl _ _⟩
            case round =>
              obtain ⟨k, hkz, rfl, hbw⟩ := hrel
              by_cases hgk : k < zg
              · obtain ⟨b3, o3, hA3, -, y0, y1, y2⟩ := (HK.out.2.2.1.below hbw).sl k (by rw [HZG.out]; exact hgk)
                subst hA3
                have hv := HVG.out k hgk _ (HK.out.1.below hbw)
                obtain ⟨y, hy⟩ : ∃ y, gs.getD k g0 = y := ⟨_, rfl⟩
                rw [hy] at y0 y1 y2 hv
                obtain ⟨⟨yk, yt⟩, ym⟩ := y
                simp only at y0 y1 y2
                have HVV := Lib.hid hv; clear hv hy
                go_wp2_with fail
                refine HVV.out.mono ?_
                rintro e w9 ⟨rfl, hb9⟩
                have hb29 := hbw.trans (hb9.mono hbw.size)
                clear HVV hbw
                go_wp2_with fail
                go_roundw
                case rel => exact ⟨k + 1, Lib.hid (by omega), rfl, hb29⟩
                case measure => simp [intOf]; omega
              · have HK9 : Hid (KInv w.heap.size wr S1 r (ents (l.take (i + 1))) (goods (l.take (i + 1))) (.slice Am zg cm) w.heap.size sk st sm) := Lib.hid (by rw [HES.out, ← HGS.out]; exact HK.out.below hbw)
                have hB9 := HBX.out.trans (hbw.mono hks)
                clear hkz
                go_wp2_with fail
                go_roundw
                case rel => exact ⟨i + 1, S1, Lib.hid (by omega), rfl, HK9, hB9⟩
                case measure => simp [intOf]; omega
          · have hkb : ¬ okKey p.1 = true := by unfold okKey; simp; omega
            have hx := HX.out
            have hgm := HE1.out.2
            rw [if_neg hkb] at hx hgm
            simp only [e0, Prod.mk.injEq] at hx
            obtain ⟨⟨rfl, rfl⟩, rfl⟩ := hx
            rw [← hgm] at hM1
            have HK := Lib.hid (show KInv w.heap.size wc S1 r es' gs u7 w.heap.size sk st sm from ⟨hR1, low1, hM1, hM2, hX1, hx2⟩)
            have HBX := Lib.hid hB1'
            obtain ⟨WX, hWX⟩ : ∃ WX, WX = wc := ⟨_, rfl⟩
            rw [← hWX] at HK HBX x0 x1 x2 c0 c1 ⊢
            clear hWX hR1 low1 hM1 hM2 hX1 hx2 hB1' hs1' hgm hes' hbx
            have hk0 : 0 ≤ p.1 := by omega
            go_upto_region 16 with fail
            have hks : w.heap.size ≤ WX.heap.size := HBX.out.size
            have hml2 := HK.out.2.2.1.at_
            obtain ⟨Am, cm, hmv, hc1, hc2, -⟩ := hml2
            subst hmv
            have hgz : gs.length ≤ 41 := by rw [HGS.out]; exact Nat.le_trans (goods_len _) (by rw [List.length_take]; omega)
            have HVG : Hid (∀ k, k < gs.length → ∀ W, Ring W S1 r es' → Calls Try.prog 13 #[.pointer (some ⟨r, 0, none⟩), .agg #[.int .i64 (gs.getD k g0).1.1, .string (gs.getD k g0).1.2, .int .i64 (gs.getD k g0).2]] W fun e w' => e = .returned (.bool true) ∧ Below W.heap.size W w') := Lib.hid fun k hk W hW => by
              obtain ⟨v1, v2⟩ := HV.out _ (sg_get hk)
              have h := valid_any hW (gs.getD k g0).1 (gs.getD k g0).2 v2
              rw [v1] at h
              exact h
            obtain ⟨zg, hzg⟩ : ∃ zg, gs.length = zg := ⟨_, rfl⟩
            rw [hzg] at hgz hc1 HVG HK ⊢
            have HZG := Lib.hid hzg; clear hzg
            go_wp2_with fail
            go_loopw [10] (fun kv wr2 => ∃ k : Nat, Hid (k ≤ zg) ∧ kv = .int .i64 k ∧ Below WX.heap.size WX wr2) (fun kv _ => zg - (intOf kv).toNat)
            case atStart => exact ⟨0, Lib.hid (Nat.zero_le _), rfl, Below.refl _ _⟩
            case round =>
              obtain ⟨k, hkz, rfl, hbw⟩ := hrel
              by_cases hgk : k < zg
              · obtain ⟨b3, o3, hA3, -, y0, y1, y2⟩ := (HK.out.2.2.1.below hbw).sl k (by rw [HZG.out]; exact hgk)
                subst hA3
                have hv := HVG.out k hgk _ (HK.out.1.below hbw)
                obtain ⟨y, hy⟩ : ∃ y, gs.getD k g0 = y := ⟨_, rfl⟩
                rw [hy] at y0 y1 y2 hv
                obtain ⟨⟨yk, yt⟩, ym⟩ := y
                simp only at y0 y1 y2
                have HVV := Lib.hid hv; clear hv hy
                go_wp2_with fail
                refine HVV.out.mono ?_
                rintro e w9 ⟨rfl, hb9⟩
                have hb29 := hbw.trans (hb9.mono hbw.size)
                clear HVV hbw
                go_wp2_with fail
                go_roundw
                case rel => exact ⟨k + 1, Lib.hid (by omega), rfl, hb29⟩
                case measure => simp [intOf]; omega
              · have HK9 : Hid (KInv w.heap.size wr S1 r (ents (l.take (i + 1))) (goods (l.take (i + 1))) (.slice Am zg cm) w.heap.size sk st sm) := Lib.hid (by rw [HES.out, ← HGS.out]; exact HK.out.below hbw)
                have hB9 := HBX.out.trans (hbw.mono hks)
                clear hkz
                go_wp2_with fail
                go_roundw
                case rel => exact ⟨i + 1, S1, Lib.hid (by omega), rfl, HK9, hB9⟩
                case measure => simp [intOf]; omega
          · have hk0 : 0 ≤ p.1 := by unfold okKey at hk; simp at hk; omega
            have hk1 : p.1 < 5000 := by unfold okKey at hk; simp at hk; omega
            have hx := HX.out
            have hgm := HE1.out.2
            rw [if_pos hk] at hx hgm
            simp only [Prod.mk.injEq] at hx
            obtain ⟨hxp, rfl⟩ := hx
            subst hxp
            simp only at c0 c1 hk0 hk1
            obtain ⟨q, hq⟩ : ∃ q, pos es (xk, xt) = q := ⟨_, rfl⟩
            rw [hq] at hbx x2 hgm
            clear hq HX HE1 hes'
            go_upto_region 11 with fail
            go_quiet (fail)
            have hbd := below_q wc nq
            have hMd := hM1.below hbd
            have hRd := hR1.below hbd
            have hXd := hX1.below hbd
            have hxd := hbx.below hbd
            have hBd := hB1'.trans (hbd.mono hs1')
            have hsd : w.heap.size ≤ (wc.drewN nq).heap.size := hs1'
            have hM3d : u7.ownBlock ≠ some g8 := hM3
            obtain ⟨wd, hwd⟩ : ∃ wd, wc.drewN nq = wd := ⟨_, rfl⟩
            rw [hwd] at hMd hRd hXd hxd hBd hsd ⊢
            clear hwd hbd hM1 hR1 hX1 hbx hB1' hs1' x0 x1 x2 c0 c1
            obtain ⟨x0, x1, x2⟩ := hxd.cells
            have hbl := (Below.refl wd.heap.size wd).alloc (Nat.le_refl _) (.cells #[.int .i64 xk, .string xt, .int .i64 q] 24)
            have HBL := Lib.hid (And.intro hbl (litG1 wd xk xt q)); clear hbl
            go_upto_region 16 with (at_builtin; refine appG_at rfl (.tmp 81) (.tmp 83) rfl w.heap.size u7 ms [((xk, xt), (q : Int))] (some ⟨wd.heap.size, 0, none⟩) 1 1 rfl (hMd.below HBL.out.1) rfl rfl HBL.out.2 (by omega) (Nat.le_trans hsd HBL.out.1.size) ?_; intro v6 w6 hm6 hg6 hat6)
            have hR6 := (hRd.below HBL.out.1).grown hg6 hM2
            have hM6 := hM2.grown (hRd.below HBL.out.1) hat6
            have hX6 := (hXd.below HBL.out.1).grown hg6 hx2
            have hB6 := grown_belG (hBd.trans (HBL.out.1.mono hsd)) (hMd.below HBL.out.1) hg6 (Nat.le_refl _)
            have hx6 : v6.ownBlock ≠ some w.heap.size := fun e => by
              rcases hat6 with h | h
              · exact hx2 (h.symm.trans e)
              · rw [h] at e
                injection e with e
                have h1 := HBL.out.1.size
                have h2 := hXd.1.lt
                omega
            rw [← hgm] at hm6
            have HK := Lib.hid (show KInv w.heap.size w6 S1 r es' gs v6 w.heap.size sk st sm from ⟨hR6, low1, hm6, hM6, hX6, hx6⟩)
            have HBX := Lib.hid hB6
            obtain ⟨WX, hWX⟩ : ∃ WX, WX = w6 := ⟨_, rfl⟩
            rw [← hWX] at HK HBX ⊢
            clear hWX hR6 hM6 hX6 hB6 hx6 hm6 hg6 hat6 HBL hRd hMd hXd hxd hBd hsd hM3d hgm hM2 hM3 hx2 low1 x0 x1 x2
            have hks : w.heap.size ≤ WX.heap.size := HBX.out.size
            have hml2 := HK.out.2.2.1.at_
            obtain ⟨Am, cm, hmv, hc1, hc2, -⟩ := hml2
            subst hmv
            have hgz : gs.length ≤ 41 := by rw [HGS.out]; exact Nat.le_trans (goods_len _) (by rw [List.length_take]; omega)
            have HVG : Hid (∀ k, k < gs.length → ∀ W, Ring W S1 r es' → Calls Try.prog 13 #[.pointer (some ⟨r, 0, none⟩), .agg #[.int .i64 (gs.getD k g0).1.1, .string (gs.getD k g0).1.2, .int .i64 (gs.getD k g0).2]] W fun e w' => e = .returned (.bool true) ∧ Below W.heap.size W w') := Lib.hid fun k hk W hW => by
              obtain ⟨v1, v2⟩ := HV.out _ (sg_get hk)
              have h := valid_any hW (gs.getD k g0).1 (gs.getD k g0).2 v2
              rw [v1] at h
              exact h
            obtain ⟨zg, hzg⟩ : ∃ zg, gs.length = zg := ⟨_, rfl⟩
            rw [hzg] at hgz hc1 HVG HK ⊢
            have HZG := Lib.hid hzg; clear hzg
            go_wp2_with fail
            go_loopw [10] (fun kv wr2 => ∃ k : Nat, Hid (k ≤ zg) ∧ kv = .int .i64 k ∧ Below WX.heap.size WX wr2) (fun kv _ => zg - (intOf kv).toNat)
            case atStart => exact ⟨0, Lib.hid (Nat.zero_le _), rfl, Below.refl _ _⟩
            case round =>
              obtain ⟨k, hkz, rfl, hbw⟩ := hrel
              by_cases hgk : k < zg
              · obtain ⟨b3, o3, hA3, -, y0, y1, y2⟩ := (HK.out.2.2.1.below hbw).sl k (by rw [HZG.out]; exact hgk)
                subst hA3
                have hv := HVG.out k hgk _ (HK.out.1.below hbw)
                obtain ⟨y, hy⟩ : ∃ y, gs.getD k g0 = y := ⟨_, rfl⟩
                rw [hy] at y0 y1 y2 hv
                obtain ⟨⟨yk, yt⟩, ym⟩ := y
                simp only at y0 y1 y2
                have HVV := Lib.hid hv; clear hv hy
                go_wp2_with fail
                refine HVV.out.mono ?_
                rintro e w9 ⟨rfl, hb9⟩
                have hb29 := hbw.trans (hb9.mono hbw.size)
                clear HVV hbw
                go_wp2_with fail
                go_roundw
                case rel => exact ⟨k + 1, Lib.hid (by omega), rfl, hb29⟩
                case measure => simp [intOf]; omega
              · have HK9 : Hid (KInv w.heap.size wr S1 r (ents (l.take (i + 1))) (goods (l.take (i + 1))) (.slice Am zg cm) w.heap.size sk st sm) := Lib.hid (by rw [HES.out, ← HGS.out]; exact HK.out.below hbw)
                have hB9 := HBX.out.trans (hbw.mono hks)
                clear hkz
                go_wp2_with fail
                go_roundw
                case rel => exact ⟨i + 1, S1, Lib.hid (by omega), rfl, HK9, hB9⟩
                case measure => simp [intOf]; omega
      · have hie : n = i := by have := hi.out; omega
        have HTK : Hid (l.take i = l) := Lib.hid (List.take_of_length_le (by have := HN.out; omega))
        rw [HTK.out] at hinv
        have hgl : (goods l).length ≤ 40 := Nat.le_trans (goods_len l) (by have := HN.out; omega)
        have HGD : Hid (∀ y ∈ goods l, EnOk y.1 ∧ 0 ≤ y.2 ∧ y.2 ≤ 40) := Lib.hid fun y hy => by
          have h := goods_ok HD.out y hy
          have := HN.out
          exact ⟨h.1, h.2.1, by omega⟩
        have HHG : Hid (∀ y : Sg, holds (ents l) y.1 y.2 = decide (posG (goods l) y < (goods l).length)) := Lib.hid fun y => holds_goods l y
        obtain ⟨es, hes⟩ : ∃ es, ents l = es := ⟨_, rfl⟩
        obtain ⟨gs, hgs⟩ : ∃ gs, goods l = gs := ⟨_, rfl⟩
        rw [hes] at hinv HHG
        rw [hgs] at hinv HGD HHG hgl
        clear hes hgs HTK hi hgo
        subst hie
        have hs := hb.size
        obtain ⟨Am, cm, rfl, hdm, hem, -⟩ := hinv.out.2.2.1.at_
        obtain ⟨zg, hzg⟩ : ∃ zg, gs.length = zg := ⟨_, rfl⟩
        rw [hzg] at hinv HHG hgl hdm ⊢
        have HZG := Lib.hid hzg; clear hzg
        obtain ⟨x0, x1, x2⟩ := hinv.out.2.2.2.2.1.cells
        have hbl := (Below.refl wr.heap.size wr).alloc (Nat.le_refl _) (.cells #[.int .i64 sk, .string st, .int .i64 sm] 24)
        have HBL := Lib.hid (And.intro hbl (litO1 wr sk st sm)); clear hbl
        obtain ⟨N1, hN1⟩ : ∃ N1, wr.heap.size = N1 := ⟨_, rfl⟩
        have HN1 := Lib.hid hN1; clear hN1
        go_upto_region 22 with (at_builtin; refine appG_at rfl (.tmp 102) (.tmp 103) rfl wr.heap.size (.slice (some ⟨wr.heap.size, 0, none⟩) 1 1) [((sk, st), sm)] gs Am zg cm rfl HBL.out.2 rfl HZG.out ((hinv.out.2.2.1.sl.below HBL.out.1).more HBL.out.1.size) (by simp only [List.length_cons, List.length_nil]; omega) HBL.out.1.size ?_; intro v5 w5 ho5 hg5 hat5)
        have hb5 := grown_belG HBL.out.1 HBL.out.2 hg5 (Nat.le_refl _)
        have hal : Hid (∀ y ∈ [((sk, st), sm)] ++ gs, EnOk y.1) := Lib.hid fun y hy => by
          rcases List.mem_append.1 hy with h | h
          · have : y = ((sk, st), sm) := by simpa using h
            rw [this]; exact hs1
          · exact (HGD.out y h).1
        have hll : Hid (([((sk, st), sm)] ++ gs).length ≤ 41 + 4 * 0) := Lib.hid (by rw [List.length_append, HZG.out]; simp; omega)
        clear hg5 hat5 HBL
        rw [HN1.out] at hb5 ho5
        have HI1 := Lib.hid (And.intro hinv.out (And.intro hb hs))
        obtain ⟨wM, hwM⟩ : ∃ wM, wM = wr := ⟨_, rfl⟩
        rw [← hwM] at HI1 hb5 HN1
        obtain ⟨w6, hw6⟩ : ∃ w6, w6 = w5 := ⟨_, rfl⟩
        rw [← hw6] at hb5 ho5 ⊢
        clear hw6 hwM hinv hb x0 x1 x2
        go_wp2_with fail
        go_loopw [11, 12] (fun av kv wr3 => ∃ (k : Nat) (al : List Sg), Hid (k ≤ zg) ∧ kv = .int .i64 k ∧ Hid (OwnG wr3 N1 av al) ∧ Hid (∀ y ∈ al, EnOk y.1) ∧ Hid (al.length ≤ 41 + 4 * k) ∧ Below N1 wM wr3) (fun _ kv _ => zg - (intOf kv).toNat)
        case atStart => exact ⟨0, _, Lib.hid (Nat.zero_le _), rfl, Lib.hid ho5, hal, hll, hb5⟩
        case round =>
          obtain ⟨k, al, hkz, rfl, hoa, hal2, hll2, hbk⟩ := hrel
          clear ho5 hal hll hb5
          have hNs : N1 ≤ wr.heap.size := by have := hbk.size; have := HN1.out; omega
          have hK : KInv w.heap.size wr S r es gs (.slice Am zg cm) w.heap.size sk st sm := HI1.out.1.below (by rw [HN1.out]; exact hbk)
          by_cases hgk : k < zg
          · obtain ⟨b3, o3, hA3, -, y0, y1, y2⟩ := hK.2.2.1.sl k (by rw [HZG.out]; exact hgk)
            subst hA3
            have hye := HGD.out _ (sg_get (i := k) (by rw [HZG.out]; exact hgk))
            obtain ⟨y, hy⟩ : ∃ y, gs.getD k g0 = y := ⟨_, rfl⟩
            rw [hy] at y0 y1 y2 hye
            clear hy
            obtain ⟨⟨yk, yt⟩, ym⟩ := y
            simp only at y0 y1 y2 hye
            have hwr : IntKind.i64.wrap (ym + 1) = ym + 1 := by rw [IntKind.wrap_i64]; omega
            have hX1 := Blk.new wr 24 #[.int .i64 yk, .string yt, .int .i64 ym]
            have hba := (Below.refl wr.heap.size wr).alloc (Nat.le_refl _) (.cells #[.int .i64 yk, .string yt, .int .i64 ym] 24)
            have hK1 := hK.below hba
            have hoa1 := hoa.out.below hba
            have hbk1 := hbk.alloc hNs (.cells #[.int .i64 yk, .string yt, .int .i64 ym] 24)
            have hns1 : N1 ≤ (wr.alloc (.cells #[.int .i64 yk, .string yt, .int .i64 ym] 24)).heap.size := Nat.le_trans hNs hba.size
            go_upto_region 26 with fail
            obtain ⟨wa, hwa⟩ : ∃ wa, wr.alloc (.cells #[.int .i64 yk, .string yt, .int .i64 ym] 24) = wa := ⟨_, rfl⟩
            obtain ⟨gx, hgx⟩ : ∃ gx, wr.heap.size = gx := ⟨_, rfl⟩
            rw [hwa] at hX1 hK1 hoa1 hbk1 hns1 ⊢
            rw [hgx] at hX1 ⊢
            clear hwa hba hgx
            obtain ⟨x0, x1, x2⟩ := hK1.2.2.2.2.1.cells
            have z0 := hX1.cell 0
            have z1 := hX1.cell 1
            have z2 := hX1.cell 2
            simp at z0 z1 z2
            have hbl := (Below.refl wa.heap.size wa).alloc (Nat.le_refl _) (.cells #[.int .i64 sk, .string yt, .int .i64 ym, .int .i64 yk, .string st, .int .i64 ym, .int .i64 yk, .string yt, .int .i64 sm, .int .i64 yk, .string yt, .int .i64 (ym + 1)] 24)
            have HBL := Lib.hid (And.intro hbl (litG4 wa sk yk yk yk yt st yt yt ym ym sm (ym + 1))); clear hbl
            have HO1 := Lib.hid (hoa1.below HBL.out.1); clear hoa1
            have hl2 := hll2.out
            go_wp2_with (at_builtin; refine appG_at rfl (.tmp 115) (.tmp 145) rfl N1 u11 al [((sk, yt), ym), ((yk, st), ym), ((yk, yt), sm), ((yk, yt), ym + 1)] (some ⟨wa.heap.size, 0, none⟩) 4 4 rfl HO1.out rfl rfl HBL.out.2 (by omega) (Nat.le_trans hns1 HBL.out.1.size) ?_; intro v7 w7 ho7 hg7 hat7)
            have hb7 := grown_belG (hbk1.trans (HBL.out.1.mono hns1)) HO1.out hg7 (by rw [HN1.out]; exact Nat.le_refl _)
            have hal7 : Hid (∀ y ∈ al ++ [((sk, yt), ym), ((yk, st), ym), ((yk, yt), sm), ((yk, yt), ym + 1)], EnOk y.1) := Lib.hid fun y hy => by
              rcases List.mem_append.1 hy with h | h
              · exact hal2.out y h
              · have hs1' := hs1
                simp at h
                rcases h with rfl | rfl | rfl | rfl
                · exact ⟨hs1'.1, hye.1.2⟩
                · exact ⟨hye.1.1, hs1'.2⟩
                · exact hye.1
                · exact hye.1
            have hll7 : Hid ((al ++ [((sk, yt), ym), ((yk, st), ym), ((yk, yt), sm), ((yk, yt), ym + 1)]).length ≤ 41 + 4 * (k + 1)) := Lib.hid (by rw [List.length_append]; simp; omega)
            have HO7 := Lib.hid ho7
            clear ho7 hg7 hat7 HBL HO1 hK1 hX1 hbk1 hl2 hoa hK hbk
            go_roundw
            case rel => exact ⟨k + 1, _, Lib.hid (by omega), rfl, HO7, hal7, hll7, hb7⟩
            case measure => simp [intOf]; omega
          · have hke : zg = k := by have := hkz.out; omega
            subst hke
            obtain ⟨Aa, ca, rfl, hda, hea, -⟩ := hoa.out.at_
            have hla : al.length ≤ 1000 := by have := hll2.out; omega
            obtain ⟨za, hza⟩ : ∃ za, al.length = za := ⟨_, rfl⟩
            rw [hza] at hda hoa hla ⊢
            have HZA := Lib.hid hza; clear hza
            obtain ⟨wP, hwP⟩ : ∃ wP, wP = wr := ⟨_, rfl⟩
            rw [← hwP] at hbk hoa hNs hK ⊢
            clear hwP hkz hgk hll2
            have HP := Lib.hid (And.intro hK (And.intro hoa.out (And.intro hbk hNs))); clear hK hoa hbk
            go_wp2_with fail
            go_loopw [14] (fun kv wr4 => ∃ (k : Nat), Hid (k ≤ za) ∧ kv = .int .i64 k ∧ Below wP.heap.size wP wr4) (fun kv _ => za - (intOf kv).toNat)
            case atStart => exact ⟨0, Lib.hid (Nat.zero_le _), rfl, Below.refl _ _⟩
            case round =>
              obtain ⟨k, hkz, rfl, hb4⟩ := hrel
              by_cases hgk : k < za
              · obtain ⟨b5, o5, hA5, -, z0, z1, z2⟩ := (HP.out.2.1.below hb4).sl k (by rw [HZA.out]; exact hgk)
                subst hA5
                have hye := hal2.out _ (sg_get (i := k) (by rw [HZA.out]; exact hgk))
                obtain ⟨y, hy⟩ : ∃ y, al.getD k g0 = y := ⟨_, rfl⟩
                rw [hy] at z0 z1 z2 hye
                clear hy
                have HVA : Hid (∀ t, Calls Try.prog 13 #[.pointer (some ⟨r, 0, none⟩), .agg #[.int .i64 y.1.1, .string y.1.2, .int .i64 y.2]] (wr.drewN t) fun e w' => e = .returned (.bool (decide (posG gs y < zg))) ∧ Below (wr.drewN t).heap.size (wr.drewN t) w') := Lib.hid fun t => by
                  have h := valid_any ((HP.out.1.1.below hb4).below (below_q wr t)) y.1 y.2 hye
                  rw [HHG.out y] at h
                  exact h
                have hq1 : posG gs y ≤ zg := by rw [← HZG.out]; exact posG_le gs y
                have HGET : Hid (∀ k, k < zg → gs.getD k g0 = y → posG gs y ≤ k) := Lib.hid fun k hkz hg => posG_le_get (by rw [HZG.out]; exact hkz) hg
                have HNEQ : Hid (∀ k, k < zg → gs.getD k g0 ≠ y → posG gs y ≠ k) := Lib.hid fun k hkz hg hqk => hg (by rw [← hqk]; exact posG_get (posG_lt.2 (by rw [HZG.out]; omega)))
                obtain ⟨q, hq⟩ : ∃ q, posG gs y = q := ⟨_, rfl⟩
                rw [hq] at HVA hq1 HGET HNEQ
                clear hq hye
                obtain ⟨⟨yk, yt⟩, ym⟩ := y
                simp only at z0 z1 z2
                have HM4 := Lib.hid (HP.out.1.2.2.1.below hb4).sl
                go_wp2_with fail
                go_loopw [15, 16] (fun ov jv wr5 => ∃ (j t : Nat), Hid (j ≤ zg) ∧ jv = .int .i64 j ∧ ov = .bool (decide (q < j)) ∧ wr5 = wr.drewN t) (fun _ jv _ => zg - (intOf jv).toNat)
                case atStart => exact ⟨0, 0, Lib.hid (Nat.zero_le _), rfl, by simp, rfl⟩
                case round =>
                  obtain ⟨j, t, hjz, rfl, rfl, rfl⟩ := hrel
                  by_cases hgj : j < zg
                  · obtain ⟨b2, o2, hA2, _, y0, y1, y2⟩ := HM4.out j (by rw [HZG.out]; exact hgj)
                    subst hA2
                    have hget := Lib.hid (HGET.out j hgj)
                    have hneq := Lib.hid (HNEQ.out j hgj)
                    obtain ⟨e, he⟩ : ∃ e, gs.getD j g0 = e := ⟨_, rfl⟩
                    rw [he] at y0 y1 y2 hget hneq
                    obtain ⟨⟨ek, et⟩, em⟩ := e
                    simp only at y0 y1 y2
                    clear he
                    by_cases hqk : q < j
                    · have hd1 : decide (q < j) = true := by simpa using hqk
                      have hd2 : Hid (true = decide (q < j + 1)) := Lib.hid (by simp; omega)
                      rw [hd1]
                      clear hd1 hget hneq
                      go_wp2_with fail
                      go_quiet (fail)
                      go_wp2_with fail
                      go_roundw
                      case rel => exact ⟨j + 1, _, Lib.hid (by omega), rfl, by rw [← hd2.out], rfl⟩
                      case measure => simp [intOf]; omega
                    · have hd1 : decide (q < j) = false := by simpa using hqk
                      rw [hd1]
                      clear hd1
                      by_cases h1 : ek = yk
                      · subst h1
                        by_cases h2 : et = yt
                        · subst h2
                          by_cases h3 : em = ym
                          · subst h3
                            have hd2 : Hid (true = decide (q < j + 1)) := Lib.hid (by have := hget.out rfl; simp; omega)
                            clear hget hneq
                            go_wp2_with fail
                            go_quiet (fail)
                            go_wp2_with fail
                            go_roundw
                            case rel => exact ⟨j + 1, _, Lib.hid (by omega), rfl, by rw [← hd2.out], rfl⟩
                            case measure => simp [intOf]; omega
                          · have h3' : (em == ym) = false := by simpa using h3
                            have hd2 : Hid (false = decide (q < j + 1)) := Lib.hid (by have := hneq.out (by simp [h3]); simp; omega)
                            clear hget hneq
                            go_wp2_with fail
                            go_quiet (fail)
                            go_wp2_with fail
                            go_roundw
                            case rel => exact ⟨j + 1, _, Lib.hid (by omega), rfl, by rw [← hd2.out], rfl⟩
                            case measure => simp [intOf]; omega
                        · have h2' := toList_ne h2
                          have hd2 : Hid (false = decide (q < j + 1)) := Lib.hid (by have := hneq.out (by simp [h2]); simp; omega)
                          clear hget hneq
                          go_wp2_with fail
                          go_quiet (fail)
                          go_wp2_with fail
                          go_roundw
                          case rel => exact ⟨j + 1, _, Lib.hid (by omega), rfl, by rw [← hd2.out], rfl⟩
                          case measure => simp [intOf]; omega
                      · have h1' : (ek == yk) = false := by simpa using h1
                        have hd2 : Hid (false = decide (q < j + 1)) := Lib.hid (by have := hneq.out (by simp [h1]); simp; omega)
                        clear hget hneq
                        go_wp2_with fail
                        go_quiet (fail)
                        go_wp2_with fail
                        go_roundw
                        case rel => exact ⟨j + 1, _, Lib.hid (by omega), rfl, by rw [← hd2.out], rfl⟩
                        case measure => simp [intOf]; omega
                  · have hje : zg = j := by have := hjz.out; omega
                    subst hje
                    have hv := HVA.out t
                    obtain ⟨b, hb⟩ : ∃ b, decide (q < zg) = b := ⟨_, rfl⟩
                    rw [hb] at hv ⊢
                    have HVV := Lib.hid hv
                    clear hv hb hjz HGET HNEQ HVA
                    have hbb : (b != b) = false := by simp
                    go_wp2_with fail
                    refine HVV.out.mono ?_
                    rintro e w9 ⟨rfl, hb9⟩
                    have hb49 : Below wP.heap.size wP w9 := (hb4.trans ((below_q wr t).mono hb4.size)).trans (hb9.mono hb4.size)
                    clear HVV hb9 hb4
                    go_wp2_with fail
                    go_roundw
                    case rel => exact ⟨k + 1, Lib.hid (by omega), rfl, hb49⟩
                    case measure => simp [intOf]; omega
              · have hB9 : Below w.heap.size w wr := (HI1.out.2.1.trans (HP.out.2.2.1.mono (by have := HN1.out; have := HI1.out.2.2; omega))).trans (hb4.mono (by have := HI1.out.2.2; have := HN1.out; omega))
                clear hkz hb4
                go_wp2_with fail
                go_ret
                exact ⟨rfl, hB9⟩
  · have HT := Lib.hid (HFEW.out false); clear HFEW
    have HF : Hid (false = fewB l 40) := Lib.hid (by simpa using hf)
    obtain ⟨n, hn⟩ : ∃ n, l.length = n := ⟨_, rfl⟩
    rw [hn] at hln HT ⊢
    clear hn hf hS hd
    go_enter Try.func4, Try.ntmps4
    go_upto_region 1 with fail
    rw [HW0.out]
    go_wp2_with fail
    refine (small_any _).mono ?_
    rintro e w1 ⟨rfl, hb1⟩
    go_wp2_with fail
    refine (new_any _).mono ?_
    rintro e w2 ⟨r, S0, rfl, hR2, low2, hb2⟩
    have hB2 := hb0.trans ((hb1.trans (hb2.mono hb1.size)).mono (by omega))
    go_wp2_with fail
    refine (HT.out _ hB2 HF.out).mono ?_
    rintro e w3 ⟨rfl, rfl⟩
    go_wp2_with fail
    go_ret
    exact ⟨rfl, hB2⟩

end Go.Proofs.Ytmlhladdoalfdaa
