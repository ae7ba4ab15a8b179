/- Walks: the law on texts (b). Printed by a program. -/
import Derived.Test.YtofndidngjglmaaDoorZq
namespace Go.Proofs.YtofndidngjglmaaDoor
open Go.RowKit

set_option maxRecDepth 100000 in
set_option maxHeartbeats 8000000 in
theorem back_b (s1 : Int) (l1 : List Int) (A1 : Option Addr) (n1 c1 : Nat) (S : ByteArray) (w : World) (h400 : S.size ≤ 400) (Z : Int) (hZ : bts S = Lib.itoa Z) (hZ6 : ¬ ab Z < pw 60) (ht : TB w) (h1 : Ar w s1 l1 A1 n1 c1) :
    Calls Tryd.prog 8 #[.agg #[.int .i64 s1, .slice A1 n1 c1], .string S] w fun e w' => e = .returned (.bool true) ∧ Below w.heap.size w w' := by
  have HT := Lib.hid ht; clear ht
  have HZ := Lib.hid hZ; clear hZ
  have hlen : decide ((400 : Int) < (S.size : Int)) = false := by simp; omega
  have H4 := Lib.hid h400; clear h400
  have HZ6 := Lib.hid hZ6; clear hZ6
  go_enter Tryd.func8, Tryd.ntmps8
  go_wp2_with fail
  obtain ⟨W0, hW, hbx, q1⟩ := abox1 h1
  rw [← hW]
  clear hW h1
  have hT := hbx
  (with_reducible refine (small_any _ (HT.out.below hT)).mono ?_)
  rintro e v0 ⟨rfl, hb⟩
  have hT := hT.trans (hb.mono hT.size)
  have q1 := q1.below hb
  go_wp2_with fail
  (with_reducible refine (read_num Z S _ HZ.out (by have := H4.out; omega)).mono ?_)
  rintro e u1 ⟨rv, rfl, hrv, hb⟩
  rw [show fite Z = 6 from if_neg (by have := HZ6.out; omega)]
  rw [show fitz Z = 0 from if_neg (by have := HZ6.out; omega)] at hrv
  have hT := hT.trans (hb.mono hT.size)
  have q1 := q1.below hb
  obtain ⟨sv, Av, nv, cv, rfl⟩ := hrv.form
  go_wp2_with fail
  obtain ⟨Wv, hW, hbx, kv⟩ := box1 hrv
  rw [← hW]
  clear hW
  have hT := hT.trans (hbx.mono hT.size)
  have q1 := q1.below hbx
  (with_reducible refine (same_any _ _ _ _ _ kv.bv (BV.zero _ _)).mono ?_)
  rintro e u2 ⟨rfl, hb9⟩
  have hT := hT.trans (hb9.mono hT.size)
  have kv := kv.below hb9
  have q1 := q1.below hb9
  rw [show decide ((0 : Int) = 0) = true from rfl]
  clear kv
  have a0 := q1.c0
  have a1 := q1.c1
  go_wp2_with fail
  clear a0 a1
  by_cases hr : RightP s1 l1
  rotate_left
  · refine (q1.ar.right false (by simp [hr])).mono ?_
    rintro e v1 ⟨rfl, hb⟩
    have hT := hT.trans (hb.mono hT.size)
    have q1 := q1.below hb
    have a0 := q1.c0
    have a1 := q1.c1
    go_wp2_with fail
    clear a0 a1
    refine (q1.ar.bad hr).mono ?_
    rintro e v2 ⟨rfl, hb⟩
    go_wp2_with fail
    go_ret
    exact ⟨rfl, hT.trans (hb.mono hT.size)⟩
  refine (q1.ar.right true (by simp [hr])).mono ?_
  rintro e v1 ⟨rfl, hb⟩
  have hT := hT.trans (hb.mono hT.size)
  have q1 := q1.below hb
  obtain ⟨x, ka, hsa, hka⟩ := q1.bx60 hr
  have HKa := Lib.hid hka; clear hka
  have HSa := Lib.hid hsa; clear hsa
  clear q1 hr
  have ka0 := ka.c0
  have ka1 := ka.c1
  go_wp2_with fail
  clear ka0 ka1
  (with_reducible refine (text_any _ _ _ ka.bv HKa.out (HT.out.below hT)).mono ?_)
  rintro e u3 ⟨rfl, hb9⟩
  have hT := hT.trans (hb9.mono hT.size)
  have ka := ka.below hb9
  obtain ⟨T, hTT⟩ : ∃ T, byt (Lib.itoa x) = T := ⟨_, rfl⟩
  rw [hTT]
  have HTT := Lib.hid hTT; clear hTT
  go_wp2_with fail
  (with_reducible refine (read_num x T _ (by rw [← HTT.out, bts_byt]) (by rw [← HTT.out]; have := text_len HKa.out; omega)).mono ?_)
  rintro e u4 ⟨rc, rfl, hrc, hb⟩
  have hb9 := hb; clear hb
  have hT := hT.trans (hb9.mono hT.size)
  have ka := ka.below hb9
  rw [(fits HKa.out).1]
  rw [(fits HKa.out).2] at hrc
  obtain ⟨sc, Ac, nc, cc, rfl⟩ := hrc.form
  have kaz := ka.below ((Below.refl _ u4).alloc (Nat.le_refl _) (.cells #[.int .i64 sc, .slice Ac nc cc] 24))
  have kaz0 := kaz.c0
  have kaz1 := kaz.c1
  go_wp2_with fail
  clear kaz0 kaz1
  clear kaz
  obtain ⟨Wc, hW, hbx, kc⟩ := box1 hrc
  rw [← hW]
  clear hW
  have hT := hT.trans (hbx.mono hT.size)
  have ka := ka.below hbx
  (with_reducible refine (same_any _ _ _ _ _ kc.bv ka.bv).mono ?_)
  rintro e u5 ⟨rfl, hb9⟩
  have hT := hT.trans (hb9.mono hT.size)
  have ka := ka.below hb9
  have kc := kc.below hb9
  rw [show decide (x = x) = true from decide_eq_true rfl]
  clear kc
  by_cases hx0 : x = 0
  · have hs0 : s1 = 0 := by rw [HSa.out, hx0]; rfl
    have hT0 : T = ⟨#[48]⟩ := by rw [← HTT.out, hx0]; exact itoa_zero
    subst hs0 hT0
    have a0 := ka.c0
    go_wp2_with fail
    go_ret
    exact ⟨rfl, hT⟩
  have hs0 : (s1 == 0) = false := by
    rw [HSa.out]; unfold sgn; split <;> (try split) <;> simp <;> omega
  have HX0 := Lib.hid hx0; clear hx0
  have hcs := seven_cases x
  have hse := itoa_seven HX0.out
  obtain ⟨E1, hE1⟩ : ∃ z, fite (x * 10) = z := ⟨_, rfl⟩
  obtain ⟨Z1, hZ1⟩ : ∃ z, fitz (x * 10) = z := ⟨_, rfl⟩
  have hab1 : ab Z1 < pw 60 := by rw [← hZ1]; exact fitz_lt _
  rw [hE1, hZ1] at hcs
  rw [← HSa.out] at hcs hse
  have hsb := sgn_bd x
  rw [← HSa.out] at hsb
  obtain ⟨E2, hE2⟩ : ∃ z, fite (Z1 + 7 * s1) = z := ⟨_, rfl⟩
  obtain ⟨Z2, hZ2⟩ : ∃ z, fitz (Z1 + 7 * s1) = z := ⟨_, rfl⟩
  rw [hE2, hZ2] at hcs
  obtain ⟨z7, hz7⟩ : ∃ z, 10 * x + 7 * s1 = z := ⟨_, rfl⟩
  rw [hz7] at hcs hse
  obtain ⟨E3, hE3⟩ : ∃ z, fite z7 = z := ⟨_, rfl⟩
  obtain ⟨Z3, hZ3⟩ : ∃ z, fitz z7 = z := ⟨_, rfl⟩
  rw [hE3, hZ3] at hcs
  have hw7 : IntKind.i64.wrap (7 * s1) = 7 * s1 := IntWalk.i64_in _ (by omega)
  have HCS := Lib.hid hcs; clear hcs
  have HSE := Lib.hid hse; clear hse
  have HAB1 := Lib.hid hab1; clear hab1
  have HE1 := Lib.hid hE1; clear hE1
  have HZ1 := Lib.hid hZ1; clear hZ1
  have HE2 := Lib.hid hE2; clear hE2
  have HZ2 := Lib.hid hZ2; clear hZ2
  have HE3 := Lib.hid hE3; clear hE3
  have HZ3 := Lib.hid hZ3; clear hZ3
  have HSB := Lib.hid hsb; clear hsb
  clear hz7
  have ka0 := ka.c0
  have e0 : ∀ W' : World, Below u5.heap.size u5 W' → W'.cell? ⟨w.heap.size, 0, none⟩ = some (.int .i64 s1) ∧ W'.cell? ⟨w.heap.size, 1, none⟩ = some (.slice A1 n1 c1) ∧ Below u5.heap.size u5 W' := fun W' hW =>
    ⟨(ka.below hW).c0, (ka.below hW).c1, hW⟩
  have E0 := Lib.hid e0; clear e0
  have hB00 : Below u5.heap.size u5 u5.drew := (Below.refl _ _).drew
  have hml := fun (w' : World) (hb : Below u5.heap.size u5 w') r (h : BV w' w'.heap.size r 10) => mul_any x 10 _ r w' (ka.below hb).bv h HKa.out (lt60 (by decide))
  unfold ResP at hml
  rw [HE1.out, HZ1.out] at hml
  have HML := Lib.hid hml; clear hml
  have hTs := hT.size
  go_upto_region 15 with fail
  go_cut [11, 12] (fun p e wx => ∃ (g : Nat) (s : Int) (A : Option Addr) (n c : Nat), p = .pointer (some ⟨g, 0, none⟩) ∧ e = .int .i64 E1 ∧ Bx wx g s A n c Z1 ∧ Below u5.heap.size u5 wx)
  case first =>
    go_region_held3 (fun W' => W'.cell? ⟨w.heap.size, 0, none⟩ = some (.int .i64 s1) ∧ W'.cell? ⟨w.heap.size, 1, none⟩ = some (.slice A1 n1 c1) ∧ Below u5.heap.size u5 W')
      (first | exact E0.out _ (by assumption) | exact E0.out _ ⟨rfl, rfl, rfl, Nat.le_refl _, fun _ _ => rfl⟩ | exact E0.out _ (below_new hB5 _) | exact E0.out _ (below_st hB5 hge _ _) | exact E0.out _ (below_new hB4 _) | exact E0.out _ (below_new hB00 _))
      (first
        | (go_at_call 14; have _h := hB4; (first | refine (HML.out _ hB4 _ hq1.bv).mono ?_ | refine (HML.out _ (below_new hB4 _) _ (hq1.bv.new _)).mono ?_); rintro e u7 ⟨rd, rfl, hrd, hb5⟩; have hB5 : Below u5.heap.size u5 u7 := (by first | exact hB4.trans (hb5.mono hB4.size) | exact (below_new hB4 _).trans (hb5.mono (below_new hB4 _).size)); obtain ⟨sd, Ad, nd, cd, rfl⟩ := hrd.form; (try (have hk5 := blk_run hb5; have hge := hB4.size; have hlt : u6.heap.size < (u6.alloc (.cells #[.int .i64 0, .slice none 0 0] 24)).heap.size := (by simp); have z0 := hk5.cell 0; have z1 := hk5.cell 1; have y0 := hk5.frozen 0; have y1 := hk5.frozen 1)); (try (have hk5 := hk4.below hb5 hk4.lt; have hge := Nat.le_refl u5.heap.size; have hlt := hk4.lt; have z0 := hk5.cell 0; have z1 := hk5.cell 1; have y0 := hk5.frozen 0; have y1 := hk5.frozen 1)))
        | (go_at_call 16; (first | refine (of_any 10 _ (by omega) (by omega)).mono ?_); rintro e u6 ⟨r1, rfl, hq1, hb4⟩; have hB4 : Below u5.heap.size u5 u6 := (by first | exact ⟨hb4.os, hb4.tape, hb4.output, hb4.size, hb4.block⟩ | exact (below_new hB00 _).trans (hb4.mono (below_new hB00 _).size)); (try (have hk4 : Blk u6 u5.heap.size 24 #[.int .i64 0, .slice none 0 0] := blk_run (b := u5.drew) hb4))))
    all_goals
      go_wp2_with fail
      go_meet
      first
        | exact ⟨_, _, _, _, _, rfl, rfl, box_new hrd, below_new hB5 _⟩
        | exact ⟨_, _, _, _, _, rfl, rfl, box_st hk5 hrd hlt, below_st hB5 hge _ _⟩
  obtain ⟨gd, sd, Ad, nd, cd, rfl, rfl, kd, hb9⟩ := hcut
  clear E0 hB00 HML hTs
  have hT := hT.trans (hb9.mono hT.size)
  have ka := ka.below hb9
  have e0 : ∀ W' : World, Below wc.heap.size wc W' → W'.cell? ⟨gd, 0, none⟩ = some (.int .i64 sd) ∧ W'.cell? ⟨gd, 1, none⟩ = some (.slice Ad nd cd) ∧ W'.cell? ⟨w.heap.size, 0, none⟩ = some (.int .i64 s1) ∧ Below wc.heap.size wc W' := fun W' hW =>
    ⟨(kd.below hW).c0, (kd.below hW).c1, (ka.below hW).c0, hW⟩
  have E0 := Lib.hid e0; clear e0
  have hB00 : Below wc.heap.size wc wc.drew := (Below.refl _ _).drew
  have hml := fun (w' : World) (hb : Below wc.heap.size wc w') r (h : BV w' w'.heap.size r (7 * s1)) => add_any Z1 (7 * s1) _ r w' (kd.below hb).bv h HAB1.out (lt60 (by have := HSB.out; unfold ab; omega))
  unfold ResP at hml
  rw [HE2.out, HZ2.out] at hml
  clear ka0
  have HML := Lib.hid hml; clear hml
  have hTs := hT.size
  go_upto_region 16 with fail
  go_cut [13, 14] (fun p e wx => ∃ (g : Nat) (s : Int) (A : Option Addr) (n c : Nat), p = .pointer (some ⟨g, 0, none⟩) ∧ e = .int .i64 E2 ∧ Bx wx g s A n c Z2 ∧ Below wc.heap.size wc wx)
  case first =>
    go_region_held3 (fun W' => W'.cell? ⟨gd, 0, none⟩ = some (.int .i64 sd) ∧ W'.cell? ⟨gd, 1, none⟩ = some (.slice Ad nd cd) ∧ W'.cell? ⟨w.heap.size, 0, none⟩ = some (.int .i64 s1) ∧ Below wc.heap.size wc W')
      (first | exact E0.out _ (by assumption) | exact E0.out _ ⟨rfl, rfl, rfl, Nat.le_refl _, fun _ _ => rfl⟩ | exact E0.out _ (below_new hB5 _) | exact E0.out _ (below_st hB5 hge _ _) | exact E0.out _ (below_new hB4 _) | exact E0.out _ (below_new hB00 _))
      (first
        | (go_at_call 12; have _h := hB4; (first | refine (HML.out _ hB4 _ hq1.bv).mono ?_ | refine (HML.out _ (below_new hB4 _) _ (hq1.bv.new _)).mono ?_); rintro e u9 ⟨rf, rfl, hrf, hb5⟩; have hB5 : Below wc.heap.size wc u9 := (by first | exact hB4.trans (hb5.mono hB4.size) | exact (below_new hB4 _).trans (hb5.mono (below_new hB4 _).size)); obtain ⟨sf, Af, nf, cf, rfl⟩ := hrf.form; (try (have hk5 := blk_run hb5; have hge := hB4.size; have hlt : u8.heap.size < (u8.alloc (.cells #[.int .i64 0, .slice none 0 0] 24)).heap.size := (by simp); have z0 := hk5.cell 0; have z1 := hk5.cell 1; have y0 := hk5.frozen 0; have y1 := hk5.frozen 1)); (try (have hk5 := hk4.below hb5 hk4.lt; have hge := Nat.le_refl wc.heap.size; have hlt := hk4.lt; have z0 := hk5.cell 0; have z1 := hk5.cell 1; have y0 := hk5.frozen 0; have y1 := hk5.frozen 1)))
        | (go_at_call 16; (first | refine (of_any (7 * s1) _ (by have := HSB.out; omega) (by have := HSB.out; omega)).mono ?_); rintro e u8 ⟨r1, rfl, hq1, hb4⟩; have hB4 : Below wc.heap.size wc u8 := (by first | exact ⟨hb4.os, hb4.tape, hb4.output, hb4.size, hb4.block⟩ | exact (below_new hB00 _).trans (hb4.mono (below_new hB00 _).size)); (try (have hk4 : Blk u8 wc.heap.size 24 #[.int .i64 0, .slice none 0 0] := blk_run (b := wc.drew) hb4))))
    all_goals
      go_wp2_with fail
      go_meet
      first
        | exact ⟨_, _, _, _, _, rfl, rfl, box_new hrf, below_new hB5 _⟩
        | exact ⟨_, _, _, _, _, rfl, rfl, box_st hk5 hrf hlt, below_st hB5 hge _ _⟩
  obtain ⟨gf, sf, Af, nf, cf, rfl, rfl, kf, hb9⟩ := hcut
  clear E0 hB00 HML hTs
  have hT := hT.trans (hb9.mono hT.size)
  have ka := ka.below hb9
  have kd := kd.below hb9
  have hTl : T.size ≤ 99998 := by rw [← HTT.out]; exact text_len HKa.out
  obtain ⟨T7, hT7e⟩ : ∃ t, T ++ ⟨#[55]⟩ = t := ⟨_, rfl⟩
  have hT7 : bts T7 = Lib.itoa z7 := by
    rw [← hT7e, ← HSE.out, ← HTT.out, show (⟨#[55]⟩ : ByteArray) = byt [55] from rfl, byt_app, bts_byt]
  have hT7l : T7.size ≤ 99999 := by rw [← hT7e, ByteArray.size_append]; exact Nat.add_le_add hTl (Nat.le_refl 1)
  have hadd : ∀ w', (Op.stringOp .add T ⟨#[55]⟩).run Tryd.prog w' = .ok (.string T7) w' := fun w' => by
    rw [run_string_add_sum w' T ⟨#[55]⟩ (by show T.size + 1 ≤ _; omega), hT7e]
  have HT7 := Lib.hid hT7; clear hT7
  have HT7L := Lib.hid hT7l; clear hT7l hTl hT7e
  go_wp2_with fail
  (with_reducible refine (read_num z7 T7 _ HT7.out (by have := HT7L.out; omega)).mono ?_)
  rintro e u10 ⟨rr, rfl, hrr, hb9⟩
  have hT := hT.trans (hb9.mono hT.size)
  have ka := ka.below hb9
  have kd := kd.below hb9
  have kf := kf.below hb9
  rw [HE3.out]
  rw [HZ3.out] at hrr
  obtain ⟨sr, Ar, nr, cr, rfl⟩ := hrr.form
  rcases HCS.out with ⟨e1, e2, e3, e4⟩ | ⟨e1, e2, e3⟩ | ⟨e1, e3⟩
  · subst e1 e2 e3 e4
    have kfz := kf.below ((Below.refl _ u10).alloc (Nat.le_refl _) (.cells #[.int .i64 sr, .slice Ar nr cr] 24))
    have kfz0 := kfz.c0
    have kfz1 := kfz.c1
    go_wp2_with fail
    clear kfz0 kfz1
    clear kfz
    obtain ⟨Wr, hW, hbx, kr⟩ := box1 hrr
    rw [← hW]
    clear hW
    have hT := hT.trans (hbx.mono hT.size)
    have ka := ka.below hbx
    have kd := kd.below hbx
    have kf := kf.below hbx
    (with_reducible refine (same_any _ _ _ _ _ kr.bv kf.bv).mono ?_)
    rintro e u11 ⟨rfl, hb9⟩
    have hT := hT.trans (hb9.mono hT.size)
    have ka := ka.below hb9
    have kd := kd.below hb9
    have kf := kf.below hb9
    have kr := kr.below hb9
    rw [decide_eq_true rfl]
    go_wp2_with fail
    go_ret
    exact ⟨rfl, hT⟩
  · subst e1 e2 e3
    go_wp2_with fail
    go_ret
    exact ⟨rfl, hT.alloc hT.size _⟩
  · subst e1 e3
    go_wp2_with fail
    go_ret
    exact ⟨rfl, hT.alloc hT.size _⟩

end Go.Proofs.YtofndidngjglmaaDoor
