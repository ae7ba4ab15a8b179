/- Walks: the law on texts of fractions. Printed by a program (fback.py). -/
import Derived.Test.YtbhdkgieahnojaaGreatDoorXay

namespace Go.Proofs.YtbhdkgieahnojaaGreatDoor
open Go.RowKit

theorem byt_bts (s : ByteArray) : byt (bts s) = s := by unfold byt bts; simp
theorem ftx_eq (x : Rat) : ftx x = Lib.itoa x.num ++ [47] ++ Lib.itoa x.den := by unfold ftx; simp
theorem ftx_size {x : Rat} (h : Rb x 60 60) : (byt (Lib.itoa x.num ++ [47] ++ Lib.itoa x.den)).size ≤ 100000 := by
  have h1 := text_size h.n
  have h2 := text_size h.d
  rw [byt_size] at h1 h2 ⊢
  rw [List.length_append, List.length_append, List.length_singleton]
  omega
theorem fread_any (S : ByteArray) (w : World) (hs : S.size ≤ 100000) :
    Calls Tryz.prog 50 #[.string S] w fun e w' => ∃ r E p q, e = .returned (.tuple #[r, .int .i64 E]) ∧ FO w' w.heap.size r p q ∧ ((E = 0 ∧ ∃ x : Rat, p = x.num ∧ q = x.den ∧ Rb x 60 60 ∧ bts S = ftx x) ∨ (E = 2 ∧ p = 0 ∧ q = 0)) ∧ Below w.heap.size w w' := by
  by_cases h : ∃ x, Rb x 60 60 ∧ bts S = ftx x
  · obtain ⟨x, hx, hS⟩ := h
    refine (fread_yes S w hs x hS hx).mono ?_
    rintro e w' ⟨r, rfl, hr, hb⟩
    exact ⟨r, 0, _, _, rfl, hr, .inl ⟨rfl, x, rfl, rfl, hx, hS⟩, hb⟩
  · refine (fread_no S w hs (fun x hx hS => h ⟨x, hx, hS⟩)).mono ?_
    rintro e w' ⟨rfl, hb⟩
    exact ⟨_, 2, 0, 0, rfl, FO.zero _ _, .inr ⟨rfl, rfl, rfl⟩, hb⟩

set_option maxRecDepth 100000 in
set_option maxHeartbeats 8000000 in
theorem back_law (s1 t1 : Int) (l1 k1 : List Int) (A1 B1 : Option Addr) (n1 d1 m1 e1 : Nat) (N : Int) (hN : isI N) (S : ByteArray) (w : World) (ht : TB w) (h1 : Ar w s1 l1 A1 n1 d1) (g1 : Ar w t1 k1 B1 m1 e1) :
    Calls Tryz.prog 7 #[.agg #[.int .i64 s1, .slice A1 n1 d1, .int .i64 t1, .slice B1 m1 e1], .int .i64 N, .string S] w fun e w' => e = .returned (.bool true) ∧ Below w.heap.size w w' := by
  have HT := Lib.hid ht; clear ht
  have HN := Lib.hid hN; clear hN
  by_cases h400 : S.size ≤ 300
  rotate_left
  · have hlen : decide ((300 : Int) < (S.size : Int)) = true := by simp; omega
    clear h400
    go_enter Tryz.func7, Tryz.ntmps7
    go_wp2_with fail
    obtain ⟨W0, hW, hbx, q1⟩ := afb1 h1 g1
    rw [← hW]
    clear hW h1 g1
    have hT := hbx
    (with_reducible refine (fsmall_any _ (HT.out.below hT)).mono ?_)
    rintro e v0 ⟨rfl, hb⟩
    have hT := hT.trans (hb.mono hT.size)
    have q1 := q1.below hb
    have a0 := q1.c0
    have a1 := q1.c1
    have a2 := q1.c2
    have a3 := q1.c3
    go_wp2_with fail
    clear a0 a1 a2 a3
    obtain ⟨bb, hbb⟩ : ∃ b, decide ((n1 : Int) ≤ 40 ∧ (m1 : Int) ≤ 40) = b := ⟨_, rfl⟩
    refine (ffew_any s1 t1 40 A1 B1 n1 d1 m1 e1 _ bb hbb).mono ?_
    rintro e v ⟨rfl, hb⟩
    clear hbb
    rcases bb with _ | _
    all_goals
      go_wp2_with fail
      go_ret
      exact ⟨rfl, hT.trans (hb.mono hT.size)⟩
  have hlen : decide ((300 : Int) < (S.size : Int)) = false := by simp; omega
  have H4 := Lib.hid h400; clear h400
  go_enter Tryz.func7, Tryz.ntmps7
  go_wp2_with fail
  obtain ⟨W0, hW, hbx, q1⟩ := afb1 h1 g1
  rw [← hW]
  clear hW h1 g1
  have hT := hbx
  (with_reducible refine (fsmall_any _ (HT.out.below hT)).mono ?_)
  rintro e v0 ⟨rfl, hb⟩
  have hT := hT.trans (hb.mono hT.size)
  have q1 := q1.below hb
  have a0 := q1.c0
  have a1 := q1.c1
  have a2 := q1.c2
  have a3 := q1.c3
  go_wp2_with fail
  clear a0 a1 a2 a3
  by_cases hcf : n1 ≤ 40 ∧ m1 ≤ 40
  rotate_left
  · refine (ffew_any s1 t1 40 A1 B1 n1 d1 m1 e1 _ false (decide_eq_false (by omega))).mono ?_
    rintro e v ⟨rfl, hb⟩
    go_wp2_with fail
    go_ret
    exact ⟨rfl, hT.trans (hb.mono hT.size)⟩
  refine (ffew_any s1 t1 40 A1 B1 n1 d1 m1 e1 _ true (decide_eq_true (by omega))).mono ?_
  rintro e v1 ⟨rfl, hb⟩
  have hT := hT.trans (hb.mono hT.size)
  have q1 := q1.below hb
  clear hcf
  go_wp2_with fail
  (with_reducible refine (fread_any S _ (by have := H4.out; omega)).mono ?_)
  rintro e v2 ⟨rg, E, pg, qg, rfl, hrg, hcs, hb⟩
  have hT := hT.trans (hb.mono hT.size)
  have q1 := q1.below hb
  have HCS := Lib.hid hcs; clear hcs hlen
  obtain ⟨sg, Ag, ng, cg, yg, Bg, mg, eg, rfl⟩ := hrg.form
  go_upto_region 5 with fail
  obtain ⟨Wg, hW, hbx, kg⟩ := fbox hrg
  rw [← hW]
  clear hW
  have hT := hT.trans (hbx.mono hT.size)
  have q1 := q1.below hbx
  go_cut [62] from 36 to 62 (fun b wx => b = .bool false ∧ Below Wg.heap.size Wg wx)
  case first =>
    have HTW := Lib.hid (HT.out.below hT)
    have hT := Below.refl Wg.heap.size Wg
    have z0 := kg.c0
    have z1 := kg.c1
    have z2 := kg.c2
    have z3 := kg.c3
    rcases HCS.out with ⟨rfl, x, rfl, rfl, hx, hS⟩ | ⟨rfl, rfl, rfl⟩
    · have HX := Lib.hid hx; clear hx
      have hS' : byt (Lib.itoa x.num ++ [47] ++ Lib.itoa x.den) = S := by rw [← ftx_eq, ← hS, byt_bts]
      have HS := Lib.hid hS'; clear hS hS'
      go_wp2_with fail
      clear z0 z1 z2 z3
      (with_reducible refine (rright _ kg.fv HX.out).mono ?_)
      rintro e u1 ⟨rfl, hb9⟩
      have hT := hT.trans (hb9.mono hT.size)
      have kg := kg.below hb9
      have z0 := kg.c0
      have z1 := kg.c1
      have z2 := kg.c2
      have z3 := kg.c3
      go_wp2_with fail
      clear z0 z1 z2 z3
      (with_reducible refine (rtext _ kg.fv HX.out (HTW.out.below hT) S HS.out).mono ?_)
      rintro e u2 ⟨rfl, hb9⟩
      have hT := hT.trans (hb9.mono hT.size)
      go_wp2_with fail
      go_meet
      exact ⟨rfl, hT⟩
    · go_wp2_with fail
      clear z0 z1 z2 z3
      (with_reducible refine (fsame_any _ _ _ _ _ _ _ _ _ _ _ _ _ _ _ _ _ _ _ _ _ kg.fv (FO.zero Wg Wg.heap.size).fv true (decide_eq_true ⟨rfl, rfl⟩)).mono ?_)
      rintro e u2 ⟨rfl, hb9⟩
      have hT := hT.trans (hb9.mono hT.size)
      go_wp2_with fail
      go_meet
      exact ⟨rfl, hT⟩
  obtain ⟨rfl, hb9⟩ := hcut
  have hT := hT.trans (hb9.mono hT.size)
  have q1 := q1.below hb9
  clear kg HCS hrg
  have a0 := q1.c0
  have a1 := q1.c1
  have a2 := q1.c2
  have a3 := q1.c3
  go_wp2_with fail
  clear a0 a1 a2 a3
  by_cases hr : RF s1 l1 t1 k1
  rotate_left
  · (with_reducible refine (ftext_bad _ q1.a q1.b hr).mono ?_)
    rintro e v3 ⟨rfl, hb⟩
    have hT := hT.trans (hb.mono hT.size)
    have q1 := q1.below hb
    have a0 := q1.c0
    have a1 := q1.c1
    have a2 := q1.c2
    have a3 := q1.c3
    go_wp2_with fail
    clear a0 a1 a2 a3
    (with_reducible refine (fright_any _ q1.a q1.b false (by simp [hr])).mono ?_)
    rintro e v4 ⟨rfl, hb⟩
    have hT := hT.trans (hb.mono hT.size)
    go_wp2_with fail
    go_ret
    exact ⟨rfl, hT⟩
  obtain ⟨x, ka, -, hra, -⟩ := q1.bf hr
  have HRa := Lib.hid hra; clear hra
  clear q1 hr
  obtain ⟨T, hTT⟩ : ∃ T, byt (Lib.itoa x.num ++ [47] ++ Lib.itoa x.den) = T := ⟨_, rfl⟩
  have hTf : bts T = ftx x := by rw [← hTT, bts_byt, ftx_eq]
  have hTs0 : T.size ≤ 100000 := by rw [← hTT]; exact ftx_size HRa.out
  have HTT := Lib.hid hTT; clear hTT
  have HTF := Lib.hid hTf; clear hTf
  have HTS := Lib.hid hTs0; clear hTs0
  (with_reducible refine (rtext _ ka.fv HRa.out (HT.out.below hT) T HTT.out).mono ?_)
  rintro e u1 ⟨rfl, hb9⟩
  have hT := hT.trans (hb9.mono hT.size)
  have ka := ka.below hb9
  have za0 := ka.c0
  have za1 := ka.c1
  have za2 := ka.c2
  have za3 := ka.c3
  go_wp2_with fail
  clear za0 za1 za2 za3
  (with_reducible refine (rright _ ka.fv HRa.out).mono ?_)
  rintro e u2 ⟨rfl, hb9⟩
  have hT := hT.trans (hb9.mono hT.size)
  have ka := ka.below hb9
  go_wp2_with fail
  (with_reducible refine (fread_yes T _ HTS.out x HTF.out HRa.out).mono ?_)
  rintro e u3 ⟨rr, rfl, hrr, hb9⟩
  have hT := hT.trans (hb9.mono hT.size)
  have ka := ka.below hb9
  obtain ⟨sr, Ar, nr, cr, yr, Br, mr, er, rfl⟩ := hrr.form
  obtain ⟨Wr, hW, hbx, kr⟩ := fbox hrr
  have kaz := ka.below hbx
  have za0 := kaz.c0
  have za1 := kaz.c1
  have za2 := kaz.c2
  have za3 := kaz.c3
  rw [hW] at za0 za1 za2 za3
  go_wp2_with fail
  clear za0 za1 za2 za3
  clear kaz
  rw [← hW]
  clear hW
  have hT := hT.trans (hbx.mono hT.size)
  have ka := ka.below hbx
  (with_reducible refine (rnew _ ka.fv.a ka.fv.b HRa.out.n HRa.out.d (den_ne x)).mono ?_)
  rintro e u4 ⟨rv, rfl, hrv, hb9⟩
  have hT := hT.trans (hb9.mono hT.size)
  have ka := ka.below hb9
  have kr := kr.below hb9
  rw [divInt_self] at hrv
  obtain ⟨sv, Av, nv, cv, yv, Bv, mv, ev, rfl⟩ := hrv.form
  go_upto_region 12 with fail
  obtain ⟨Wv, hW, hbx, kv⟩ := fbox hrv
  rw [← hW]
  clear hW
  have hT := hT.trans (hbx.mono hT.size)
  have ka := ka.below hbx
  have kr := kr.below hbx
  obtain ⟨E1, hE1⟩ : ∃ z, fite (x.num * N) = z := ⟨_, rfl⟩
  obtain ⟨Z1, hZ1⟩ : ∃ z, fitz (x.num * N) = z := ⟨_, rfl⟩
  have HE1 := Lib.hid hE1; clear hE1
  have HZ1 := Lib.hid hZ1; clear hZ1
  have e0 : ∀ W' : World, Below Wv.heap.size Wv W' → W'.cell? ⟨w.heap.size, 0, none⟩ = some (.int .i64 s1) ∧ W'.cell? ⟨w.heap.size, 1, none⟩ = some (.slice A1 n1 d1) ∧ Below Wv.heap.size Wv W' := fun W' hW =>
    ⟨(ka.below hW).c0, (ka.below hW).c1, hW⟩
  have E0 := Lib.hid e0; clear e0
  have hB00 : Below Wv.heap.size Wv Wv.drew := (Below.refl _ _).drew
  have hml := fun (w' : World) (hb : Below Wv.heap.size Wv w') r (h : BV w' w'.heap.size r N) => mul_any x.num N _ r w' (ka.below hb).fv.a h HRa.out.n HN.out.lt
  unfold ResP at hml
  rw [HE1.out, HZ1.out] at hml
  have HML := Lib.hid hml; clear hml
  have hTs := hT.size
  go_upto_region 12 with fail
  go_cut [15, 16] from 86 to 93 (fun p e wx => ∃ (g : Nat) (s : Int) (A : Option Addr) (n c : Nat), p = .pointer (some ⟨g, 0, none⟩) ∧ e = .int .i64 E1 ∧ Bx wx g s A n c Z1 ∧ Below Wv.heap.size Wv wx)
  case first =>
    go_region_held3 (fun W' => W'.cell? ⟨w.heap.size, 0, none⟩ = some (.int .i64 s1) ∧ W'.cell? ⟨w.heap.size, 1, none⟩ = some (.slice A1 n1 d1) ∧ Below Wv.heap.size Wv W')
      (first | exact E0.out _ (below_st hB5 hge _ _) | exact E0.out _ (below_new hB5 _) | exact E0.out _ (below_new hB4 _) | exact E0.out _ (below_new hB00 _) | exact E0.out _ (by assumption) | exact E0.out _ ⟨rfl, rfl, rfl, Nat.le_refl _, fun _ _ => rfl⟩)
      (first
        | (go_at_call 15; have _h := hB4; (first | refine (HML.out _ hB4 _ hq1.bv).mono ?_ | refine (HML.out _ (below_new hB4 _) _ (hq1.bv.new _)).mono ?_); rintro e u6 ⟨rp, rfl, hrp, hb5⟩; have hB5 : Below Wv.heap.size Wv u6 := (by first | exact hB4.trans (hb5.mono hB4.size) | exact (below_new hB4 _).trans (hb5.mono (below_new hB4 _).size)); obtain ⟨sp, Ap, np, cp, rfl⟩ := hrp.form; (try (have hk5 := blk_run hb5; have hge := hB4.size; have hlt : u5.heap.size < (u5.alloc (.cells #[.int .i64 0, .slice none 0 0] 24)).heap.size := (by simp); have z0 := hk5.cell 0; have z1 := hk5.cell 1; have y0 := hk5.frozen 0; have y1 := hk5.frozen 1)); (try (have hk5 := hk4.below hb5 hk4.lt; have hge := Nat.le_refl Wv.heap.size; have hlt := hk4.lt; have z0 := hk5.cell 0; have z1 := hk5.cell 1; have y0 := hk5.frozen 0; have y1 := hk5.frozen 1)))
        | (go_at_call 35; (first | refine (of_any N _ HN.out.lo HN.out.hi).mono ?_); rintro e u5 ⟨r1, rfl, hq1, hb4⟩; have hB4 : Below Wv.heap.size Wv u5 := (by first | exact ⟨hb4.os, hb4.tape, hb4.output, hb4.size, hb4.block⟩ | exact (below_new hB00 _).trans (hb4.mono (below_new hB00 _).size)); (try (have hk4 : Blk u5 Wv.heap.size 24 #[.int .i64 0, .slice none 0 0] := blk_run (b := Wv.drew) hb4))))
    all_goals
      go_wp2_with fail
      go_meet
      first
        | exact ⟨_, _, _, _, _, rfl, rfl, box_new hrp, below_new hB5 _⟩
        | exact ⟨_, _, _, _, _, rfl, rfl, box_st hk5 hrp hlt, below_st hB5 hge _ _⟩
  obtain ⟨gp, sp, Ap, np, cp, rfl, rfl, kp, hb9⟩ := hcut
  clear E0 hB00 HML hTs
  have hT := hT.trans (hb9.mono hT.size)
  have ka := ka.below hb9
  have kr := kr.below hb9
  have kv := kv.below hb9
  obtain ⟨E2, hE2⟩ : ∃ z, fite ((x.den : Int) * N) = z := ⟨_, rfl⟩
  obtain ⟨Z2, hZ2⟩ : ∃ z, fitz ((x.den : Int) * N) = z := ⟨_, rfl⟩
  have HE2 := Lib.hid hE2; clear hE2
  have HZ2 := Lib.hid hZ2; clear hZ2
  have e0 : ∀ W' : World, Below wc.heap.size wc W' → W'.cell? ⟨w.heap.size, 2, none⟩ = some (.int .i64 t1) ∧ W'.cell? ⟨w.heap.size, 3, none⟩ = some (.slice B1 m1 e1) ∧ Below wc.heap.size wc W' := fun W' hW =>
    ⟨(ka.below hW).c2, (ka.below hW).c3, hW⟩
  have E0 := Lib.hid e0; clear e0
  have hB00 : Below wc.heap.size wc wc.drew := (Below.refl _ _).drew
  have hml := fun (w' : World) (hb : Below wc.heap.size wc w') r (h : BV w' w'.heap.size r N) => mul_any (x.den : Int) N _ r w' (ka.below hb).fv.b h HRa.out.d HN.out.lt
  unfold ResP at hml
  rw [HE2.out, HZ2.out] at hml
  have HML := Lib.hid hml; clear hml
  have hTs := hT.size
  go_upto_region 13 with fail
  go_cut [17, 18] from 94 to 101 (fun p e wx => ∃ (g : Nat) (s : Int) (A : Option Addr) (n c : Nat), p = .pointer (some ⟨g, 0, none⟩) ∧ e = .int .i64 E2 ∧ Bx wx g s A n c Z2 ∧ Below wc.heap.size wc wx)
  case first =>
    go_region_held3 (fun W' => W'.cell? ⟨w.heap.size, 2, none⟩ = some (.int .i64 t1) ∧ W'.cell? ⟨w.heap.size, 3, none⟩ = some (.slice B1 m1 e1) ∧ Below wc.heap.size wc W')
      (first | exact E0.out _ (below_st hB5 hge _ _) | exact E0.out _ (below_new hB5 _) | exact E0.out _ (below_new hB4 _) | exact E0.out _ (below_new hB00 _) | exact E0.out _ (by assumption) | exact E0.out _ ⟨rfl, rfl, rfl, Nat.le_refl _, fun _ _ => rfl⟩)
      (first
        | (go_at_call 15; have _h := hB4; (first | refine (HML.out _ hB4 _ hq1.bv).mono ?_ | refine (HML.out _ (below_new hB4 _) _ (hq1.bv.new _)).mono ?_); rintro e u8 ⟨rq, rfl, hrq, hb5⟩; have hB5 : Below wc.heap.size wc u8 := (by first | exact hB4.trans (hb5.mono hB4.size) | exact (below_new hB4 _).trans (hb5.mono (below_new hB4 _).size)); obtain ⟨sq, Aq, nq, cq, rfl⟩ := hrq.form; (try (have hk5 := blk_run hb5; have hge := hB4.size; have hlt : u7.heap.size < (u7.alloc (.cells #[.int .i64 0, .slice none 0 0] 24)).heap.size := (by simp); have z0 := hk5.cell 0; have z1 := hk5.cell 1; have y0 := hk5.frozen 0; have y1 := hk5.frozen 1)); (try (have hk5 := hk4.below hb5 hk4.lt; have hge := Nat.le_refl wc.heap.size; have hlt := hk4.lt; have z0 := hk5.cell 0; have z1 := hk5.cell 1; have y0 := hk5.frozen 0; have y1 := hk5.frozen 1)))
        | (go_at_call 35; (first | refine (of_any N _ HN.out.lo HN.out.hi).mono ?_); rintro e u7 ⟨r1, rfl, hq1, hb4⟩; have hB4 : Below wc.heap.size wc u7 := (by first | exact ⟨hb4.os, hb4.tape, hb4.output, hb4.size, hb4.block⟩ | exact (below_new hB00 _).trans (hb4.mono (below_new hB00 _).size)); (try (have hk4 : Blk u7 wc.heap.size 24 #[.int .i64 0, .slice none 0 0] := blk_run (b := wc.drew) hb4))))
    all_goals
      go_wp2_with fail
      go_meet
      first
        | exact ⟨_, _, _, _, _, rfl, rfl, box_new hrq, below_new hB5 _⟩
        | exact ⟨_, _, _, _, _, rfl, rfl, box_st hk5 hrq hlt, below_st hB5 hge _ _⟩
  obtain ⟨gq, sq, Aq, nq, cq, rfl, rfl, kq, hb9⟩ := hcut
  clear E0 hB00 HML hTs
  have hT := hT.trans (hb9.mono hT.size)
  have ka := ka.below hb9
  have kr := kr.below hb9
  have kv := kv.below hb9
  have kp := kp.below hb9
  have hz1 : ab Z1 < pw 60 := by rw [← HZ1.out]; exact fitz_lt _
  have hz2 : ab Z2 < pw 60 := by rw [← HZ2.out]; exact fitz_lt _
  have HK1 := Lib.hid hz1; clear hz1
  have HK2 := Lib.hid hz2; clear hz2
  have zp0 := kp.c0
  have zp1 := kp.c1
  have zq0 := kq.c0
  have zq1 := kq.c1
  go_wp2_with fail
  clear zp0 zp1 zq0 zq1
  (with_reducible refine (new_any _ _ _ _ _ _ _ _ _ _ _ kp.bv kq.bv HK1.out HK2.out).mono ?_)
  rintro e u9 ⟨rz, rfl, hrz, hb9⟩
  have hT := hT.trans (hb9.mono hT.size)
  have ka := ka.below hb9
  have kr := kr.below hb9
  have kv := kv.below hb9
  have kp := kp.below hb9
  have kq := kq.below hb9
  obtain ⟨sz, Az, nz, cz, yz, Bz, mz, ez, rfl⟩ := hrz.form
  obtain ⟨E3, hE3⟩ : ∃ z, newE Z2 = z := ⟨_, rfl⟩
  rw [hE3]
  have HE3 := Lib.hid hE3; clear hE3
  clear kp kq
  obtain ⟨Wz, hW, hbx, kz⟩ := fbox hrz
  have krz := kr.below hbx
  have zr0 := krz.c0
  have zr1 := krz.c1
  have zr2 := krz.c2
  have zr3 := krz.c3
  have kaz := ka.below hbx
  have za0 := kaz.c0
  have za1 := kaz.c1
  have za2 := kaz.c2
  have za3 := kaz.c3
  rw [hW] at zr0 zr1 zr2 zr3 za0 za1 za2 za3
  go_wp2_with fail
  clear zr0 zr1 zr2 zr3 za0 za1 za2 za3
  clear krz
  clear kaz
  rw [← hW]
  clear hW
  have hT := hT.trans (hbx.mono hT.size)
  have ka := ka.below hbx
  have kr := kr.below hbx
  have kv := kv.below hbx
  (with_reducible refine (rsame _ kr.fv ka.fv true (decide_eq_true rfl)).mono ?_)
  rintro e u10 ⟨rfl, hb9⟩
  have hT := hT.trans (hb9.mono hT.size)
  have ka := ka.below hb9
  have kr := kr.below hb9
  have kv := kv.below hb9
  have kz := kz.below hb9
  have zv0 := kv.c0
  have zv1 := kv.c1
  have zv2 := kv.c2
  have zv3 := kv.c3
  have za0 := ka.c0
  have za1 := ka.c1
  have za2 := ka.c2
  have za3 := ka.c3
  go_wp2_with fail
  clear zv0 zv1 zv2 zv3 za0 za1 za2 za3
  (with_reducible refine (rsame _ kv.fv ka.fv true (decide_eq_true rfl)).mono ?_)
  rintro e u11 ⟨rfl, hb9⟩
  have hT := hT.trans (hb9.mono hT.size)
  have ka := ka.below hb9
  have kr := kr.below hb9
  have kv := kv.below hb9
  have kz := kz.below hb9
  clear kr kv
  by_cases hN0 : N = 0
  · subst hN0
    go_wp2_with fail
    go_ret
    exact ⟨rfl, hT⟩
  have hN1 : (N == 0) = false := by simpa using hN0
  rcases fite_06 HE1.out with e1 | e1
  rotate_left
  · subst e1
    go_wp2_with fail
    go_ret
    exact ⟨rfl, hT⟩
  rcases fite_06 HE2.out with e2 | e2
  rotate_left
  · subst e1 e2
    go_wp2_with fail
    go_ret
    exact ⟨rfl, hT⟩
  subst e1 e2
  have f1 := fite_0 HE1.out
  have f2 := fite_0 HE2.out
  have z1 := HZ1.out
  have z2 := HZ2.out
  rw [(fits f1).2] at z1
  rw [(fits f2).2] at z2
  have hne : Z2 ≠ 0 := by rw [← z2]; exact Int.mul_ne_zero (den_ne x) hN0
  have hval : Rat.divInt Z1 Z2 = x := by rw [← z1, ← z2, Rat.divInt_mul_right hN0, divInt_self]
  have e3 : E3 = 0 := by rw [← HE3.out]; exact if_neg hne
  subst e3
  have kz' := kz
  unfold newN newD at kz'
  rw [if_neg hne, if_neg hne, hval] at kz'
  clear kz hne hval z1 z2 f1 f2 hN0
  have kz := kz'
  clear kz'
  have zz0 := kz.c0
  have zz1 := kz.c1
  have zz2 := kz.c2
  have zz3 := kz.c3
  have za0 := ka.c0
  have za1 := ka.c1
  have za2 := ka.c2
  have za3 := ka.c3
  go_wp2_with fail
  clear zz0 zz1 zz2 zz3 za0 za1 za2 za3
  (with_reducible refine (rsame _ kz.fv ka.fv true (decide_eq_true rfl)).mono ?_)
  rintro e u12 ⟨rfl, hb9⟩
  have hT := hT.trans (hb9.mono hT.size)
  have ka := ka.below hb9
  have kz := kz.below hb9
  go_wp2_with fail
  go_ret
  exact ⟨rfl, hT⟩

end Go.Proofs.YtbhdkgieahnojaaGreatDoor
