/- The law SealTells. -/
import Derived.Test.YtmlhladdoalfdaaEv
import Derived.Deep.RegionHeld3
namespace Go.Proofs.Ytmlhladdoalfdaa
open Go.RowKit

/-- What the law SealTells keeps: both rings, and the signature's box. -/
def TInv (B : Nat) (w : World) (S T : Nat → Prop) (r q : Nat) (es : List En) (g : Nat) (k : Int) (t : ByteArray) (m : Int) : Prop :=
  Ring w S r es ∧ RQ w T q es ∧ (∀ b, S b → B ≤ b) ∧ (∀ b, T b → B ≤ b) ∧ (∀ b, S b → ¬ T b) ∧ Blk w g 24 #[.int .i64 k, .string t, .int .i64 m] ∧ ¬ S g ∧ ¬ T g
theorem TInv.below {B : Nat} {w w' : World} {S T : Nat → Prop} {r q : Nat} {es : List En} {g : Nat} {k : Int} {t : ByteArray} {m : Int} (h : TInv B w S T r q es g k t m) (hb : Below w.heap.size w w') : TInv B w' S T r q es g k t m := by
  obtain ⟨h1, h2, h3, h4, h5, h6, h7⟩ := h
  exact ⟨h1.below hb, h2.below hb, h3, h4, h5, h6.below hb h6.lt, h7⟩
theorem tells_step {B : Nat} {w w5 w6 : World} {S T S5 T6 : Nat → Prop} {r q : Nat} {es es' : List En} {g : Nat} {k : Int} {t : ByteArray} {m : Int} (h : TInv B w S T r q es g k t m) (hB : B ≤ w.heap.size) (hR5 : Ring w5 S5 r es') (hF5 : Fr S w w5) (hn5 : ∀ b, S5 b → S b ∨ w.heap.size ≤ b)
    (hR6 : RQ w6 T6 q es') (hF6 : Fr T w5 w6) (hn6 : ∀ b, T6 b → T b ∨ w5.heap.size ≤ b) : TInv B w6 S5 T6 r q es' g k t m := by
  obtain ⟨h1, h2, h3, h4, h5, h6, h7, h8⟩ := h
  have e1 : ∀ b, S5 b → ¬ T b := fun b hb hT => by
    rcases hn5 b hb with h | h
    · exact h5 b h hT
    · have := h2.lt b hT; omega
  refine ⟨hR5.fr hF6 e1, hR6, step_low h3 hn5 hB, step_low h4 hn6 (Nat.le_trans hB hF5.size), fun b hb hT => ?_, (h6.fr hF5 h7).fr hF6 h8, step_not h7 h6.lt hn5, step_not h8 (Nat.lt_of_lt_of_le h6.lt hF5.size) hn6⟩
  rcases hn6 b hT with h | h
  · exact e1 b hb h
  · have := hR5.lt b hb; omega

set_option maxRecDepth 100000 in
set_option maxHeartbeats 16000000 in
theorem tells_any (l : List En) (A : Option Addr) (c : Nat) (s : Sg) (w : World) (hS : SlAt w.heap.size w A l) (hln : l.length ≤ 9223372036854775807) (hd : ∀ d ∈ l, EnOk d) (hs1 : EnOk s.1) :
    Calls Try.prog 3 #[.slice A l.length c, .agg #[.int .i64 s.1.1, .string s.1.2, .int .i64 s.2]] w fun e w' => e = .returned (.bool true) ∧ Below w.heap.size w w' := by
  have HFEW : Hid (∀ (b : Bool) (w1 : World), Below w.heap.size w w1 → b = fewB l 40 → Calls Try.prog 8 #[.slice A l.length c, .int .i64 40] w1 fun e w' => e = .returned (.bool b) ∧ w1 = w') := Lib.hid fun b w1 hb he => few_any l A _ c w1 ((hS.below hb).more hb.size) rfl hln b he
  obtain ⟨⟨sk, st⟩, sm⟩ := s
  have hb0 := (Below.refl w.heap.size w).alloc (Nat.le_refl _) (.cells #[.int .i64 sk, .string st, .int .i64 sm] 24)
  have hk0 := Blk.new w 24 #[.int .i64 sk, .string st, .int .i64 sm]
  have hsz0 : (w.alloc (.cells #[.int .i64 sk, .string st, .int .i64 sm] 24)).heap.size = w.heap.size + 1 := by simp
  obtain ⟨w0, hw0⟩ : ∃ w0, w.alloc (.cells #[.int .i64 sk, .string st, .int .i64 sm] 24) = w0 := ⟨_, rfl⟩
  have HW0 := Lib.hid hw0
  rw [hw0] at hb0 hk0 hsz0
  clear hw0
  by_cases hf : fewB l 40 = true
  · have hlen : l.length ≤ 40 := by
      unfold fewB at hf
      simp at hf
      exact hf.1
    have hsz : ∀ d ∈ l, d.2.size ≤ 1000 := by
      unfold fewB at hf
      simp at hf
      intro d hd
      have := hf.2 d.1 d.2 hd
      omega
    have HS := Lib.hid hS; clear hS
    have HD : Hid (∀ d ∈ l, EnOk d ∧ d.2.size ≤ 1000) := Lib.hid fun d h => ⟨hd d h, hsz d h⟩
    clear hd hsz
    have HT := Lib.hid (HFEW.out true); clear HFEW
    have HF := Lib.hid hf; clear hf
    obtain ⟨n, hn⟩ : ∃ n, l.length = n := ⟨_, rfl⟩
    rw [hn] at hlen hln HT ⊢
    have HN := Lib.hid hn; clear hn
    go_enter Try.func3, Try.ntmps3
    go_upto_region 1 with fail
    rw [HW0.out]
    go_wp2_with fail
    refine (small_any _).mono ?_
    rintro e w1 ⟨rfl, hb1⟩
    have hs01 := hb1.size
    have hB1 := hb0.trans (hb1.mono (by omega))
    go_wp2_with fail
    refine (HT.out _ hB1 HF.out.symm).mono ?_
    rintro e w1' ⟨rfl, rfl⟩
    go_wp2_with fail
    refine (new_any _).mono ?_
    rintro e w2 ⟨r, S0, rfl, hR2, low2, hb2⟩
    have hs12 := hb2.size
    go_wp2_with fail
    refine (qnew_any _).mono ?_
    rintro e w3 ⟨q, T0, rfl, hR3, low3, hb3⟩
    have hs23 := hb3.size
    have hB3 := hB1.trans ((hb2.trans (hb3.mono hs12)).mono (by omega))
    have hinv : TInv w.heap.size w3 S0 T0 r q (ents (l.take 0)) w.heap.size sk st sm := ⟨hR2.below hb3, hR3, fun b hb => by have := low2 b hb; omega, fun b hb => by have := low3 b hb; omega, fun b hb hT => by have := hR2.lt b hb; have := low3 b hT; omega, (hk0.below hb1 (by omega)).below (hb2.trans (hb3.mono hs12)) (by omega), fun h => by have := low2 _ h; omega, fun h => by have := low3 _ h; omega⟩
    have HI := Lib.hid hinv; clear hinv hR2 hR3 low2 low3 hb1 hb2 hb3 hk0 hb0 hB1
    go_wp2_with fail
    go_loopw [8] (fun iv wr => ∃ (i : Nat) (S T : Nat → Prop), Hid (i ≤ n) ∧ iv = .int .i64 i ∧ Hid (TInv w.heap.size wr S T r q (ents (l.take i)) w.heap.size sk st sm) ∧ Below w.heap.size w wr) (fun iv _ => n - (intOf iv).toNat)
    case atStart => exact ⟨0, S0, T0, Lib.hid (Nat.zero_le _), rfl, HI, hB3⟩
    case round =>
      obtain ⟨i, S, T, hi, rfl, hinv, hb⟩ := hrel
      by_cases hgo : i < n
      · have hil : i < l.length := by have := HN.out; omega
        obtain ⟨b1, o1, hA, hB1, x0, x1⟩ := HS.out i hil
        subst hA
        have hpd := HD.out _ (en_get hil)
        have hel : (ents (l.take i)).length ≤ 40 := Nat.le_trans (ents_len _) (by rw [List.length_take]; omega)
        have he1 : ents (l.take (i + 1)) = addE (ents (l.take i)) (l.getD i e0) := by rw [take_snoc hil, ents_snoc]
        have hnd := ents_nodup (l.take (i + 1))
        have hel1 : (ents (l.take (i + 1))).length ≤ 40 := Nat.le_trans (ents_len _) (by rw [List.length_take]; omega)
        rw [he1] at hnd hel1
        have HC : Hid (∀ W, Below w.heap.size w W → W.cell? ⟨b1, o1 + i * 2, none⟩ = some (.int .i64 (l.getD i e0).1) ∧ W.cell? ⟨b1, o1 + i * 2 + 1, none⟩ = some (.string (l.getD i e0).2)) := Lib.hid fun W hb => ⟨(hb.cell (p := ⟨b1, o1 + i * 2, none⟩) hB1).trans x0, (hb.cell (p := ⟨b1, o1 + i * 2 + 1, none⟩) hB1).trans x1⟩
        obtain ⟨p, hp⟩ : ∃ p, l.getD i e0 = p := ⟨_, rfl⟩
        rw [hp] at HC he1 hpd hnd hel1
        clear hp x0 x1
        obtain ⟨es, hes⟩ : ∃ es, ents (l.take i) = es := ⟨_, rfl⟩
        rw [hes] at hinv he1 hel hnd hel1
        have HE1 := Lib.hid (And.intro he1 (And.intro hnd hel1))
        clear hes he1 hnd hel1
        have hs := hb.size
        have hdr : Below wr.heap.size wr wr.drew := ⟨rfl, rfl, rfl, Nat.le_refl _, fun _ _ => rfl⟩
        have hid := hinv.out.below hdr
        have hbd := hb.trans (hdr.mono hs)
        have hsd : w.heap.size ≤ wr.drew.heap.size := hs
        obtain ⟨x, hx⟩ : ∃ x, sg es p = x := ⟨_, rfl⟩
        have H1 : Hid (Calls Try.prog 11 #[.pointer (some ⟨r, 0, none⟩), .int .i64 p.1, .string p.2] wr.drew fun e w' => ∃ S', e = .returned (sgv (sg es p)) ∧ Ring w' S' r (addE es p) ∧ Below w.heap.size w w' ∧ Fr S wr.drew w' ∧ ∀ b, S' b → S b ∨ wr.drew.heap.size ≤ b) := Lib.hid ((sign_law hid.1 hid.2.2.1 hbd hsd p hpd.1 hpd.2 (by omega)).mono fun e w' ⟨S', h1, h2, _, h4, _, h6, h7⟩ => ⟨S', h1, h2, h4, h6, h7⟩)
        have H2 : Hid (∀ W, Below w.heap.size w W → Fr S wr.drew W → Calls Try.prog 12 #[.pointer (some ⟨q, 0, none⟩), .int .i64 p.1, .string p.2] W fun e w' => ∃ T', e = .returned (sgv (sg es p)) ∧ RQ w' T' q (addE es p) ∧ Below w.heap.size w w' ∧ Fr T W w' ∧ ∀ b, T' b → T b ∨ W.heap.size ≤ b) := Lib.hid fun W hW hF =>
          (qsign_any (hid.2.1.fr hF (fun b hb hS => hid.2.2.2.2.1 b hS hb)) p (by omega)).mono fun e w' ⟨T', h1, h2, h3, h4⟩ => ⟨T', h1, h2, hW.trans (h3.below hid.2.2.2.1 (Nat.le_trans hsd hF.size)), h3, h4⟩
        rw [hx] at H1 H2
        clear hx
        obtain ⟨⟨xk, xt⟩, xm⟩ := x
        unfold sgv at H1 H2
        simp only at H1 H2
        obtain ⟨es', hes'⟩ : ∃ es', addE es p = es' := ⟨_, rfl⟩
        rw [hes'] at H1 H2 HE1
        clear hes'
        have H3 : Hid (∀ W S5 T6, TInv w.heap.size W S5 T6 r q es' w.heap.size sk st sm → Calls Try.prog 13 #[.pointer (some ⟨r, 0, none⟩), .agg #[.int .i64 sk, .string st, .int .i64 sm]] W fun e w' => e = .returned (.bool (holds es' (sk, st) sm)) ∧ Below W.heap.size W w') := Lib.hid fun W S5 T6 h => valid_any h.1 (sk, st) sm hs1
        have H4 : Hid (∀ W S5 T6, TInv w.heap.size W S5 T6 r q es' w.heap.size sk st sm → Calls Try.prog 14 #[.pointer (some ⟨q, 0, none⟩), .agg #[.int .i64 sk, .string st, .int .i64 sm]] W fun e w' => e = .returned (.bool (holds es' (sk, st) sm)) ∧ Below W.heap.size W w') := Lib.hid fun W S5 T6 h => qvalid_any h.2.1 HE1.out.2.1 (sk, st) sm
        obtain ⟨bb, hbb⟩ : ∃ bb, holds es' (sk, st) sm = bb := ⟨_, rfl⟩
        rw [hbb] at H3 H4
        clear hbb
        have hbne : (bb != bb) = false := by simp
        have HIV := Lib.hid (And.intro hid (And.intro hbd hsd)); clear hid hbd hsd hdr
        have HQ : Hid (∀ W, Blk W w.heap.size 24 #[.int .i64 sk, .string st, .int .i64 sm] → W.cell? ⟨w.heap.size, 0, none⟩ = some (.int .i64 sk) ∧ W.cell? ⟨w.heap.size, 1, none⟩ = some (.string st) ∧ W.cell? ⟨w.heap.size, 2, none⟩ = some (.int .i64 sm)) := Lib.hid fun W h => ⟨h.cell 0, h.cell 1, h.cell 2⟩
        have hq0 : ∀ W, Below w.heap.size w W → Blk W w.heap.size 24 #[.int .i64 sk, .string st, .int .i64 sm] → W.cell? ⟨b1, o1 + i * 2, none⟩ = some (.int .i64 p.1) ∧ W.cell? ⟨b1, o1 + i * 2 + 1, none⟩ = some (.string p.2) ∧ W.cell? ⟨w.heap.size, 0, none⟩ = some (.int .i64 sk) ∧ W.cell? ⟨w.heap.size, 1, none⟩ = some (.string st) ∧ W.cell? ⟨w.heap.size, 2, none⟩ = some (.int .i64 sm) := fun W h1 h2 => ⟨(HC.out W h1).1, (HC.out W h1).2, HQ.out W h2⟩
        have HK := Lib.hid hq0; clear hq0
        obtain ⟨c0, c1, c2, c3, c4⟩ := HK.out _ hb hinv.out.2.2.2.2.2.1
        clear hinv
        go_upto_region 11 with fail
        go_region_held3 (fun W' => W'.cell? ⟨b1, o1 + i * 2, none⟩ = some (.int .i64 p.1) ∧ W'.cell? ⟨b1, o1 + i * 2 + 1, none⟩ = some (.string p.2) ∧ W'.cell? ⟨w.heap.size, 0, none⟩ = some (.int .i64 sk) ∧ W'.cell? ⟨w.heap.size, 1, none⟩ = some (.string st) ∧ W'.cell? ⟨w.heap.size, 2, none⟩ = some (.int .i64 sm))
          (first | exact HK.out _ hB8 hI8.2.2.2.2.2.1 | exact HK.out _ hB7 hI7.2.2.2.2.2.1 | exact HK.out _ hB6 hI6.2.2.2.2.2.1 | exact HK.out _ hB5 hk5 | exact HK.out _ HIV.out.2.1 HIV.out.1.2.2.2.2.2.1)
          (first
            | (go_at_call 14; have _h := hI7; refine (H4.out _ _ _ hI7).mono ?_; rintro e w8 ⟨rfl, hb8⟩; have hI8 := hI7.below hb8; have hB8 := hB7.trans (hb8.mono (by have := hB7.size; have := HIV.out.2.2; omega)))
            | (go_at_call 13; have _h := hI6; refine (H3.out _ _ _ hI6).mono ?_; rintro e w7 ⟨rfl, hb7⟩; have hI7 := hI6.below hb7; have hB7 := hB6.trans (hb7.mono hB6.size))
            | (go_at_call 12; have _h := hB5; refine (H2.out _ hB5 hF5).mono ?_; rintro e w6 ⟨T6, rfl, hR6, hB6, hF6, hn6⟩; have hI6 := tells_step HIV.out.1 HIV.out.2.2 hR5 hF5 hn5 hR6 hF6 hn6)
            | (go_at_call 11; refine H1.out.mono ?_; rintro e w5 ⟨S5, rfl, hR5, hB5, hF5, hn5⟩; have hk5 := HIV.out.1.2.2.2.2.2.1.fr hF5 HIV.out.1.2.2.2.2.2.2.1))
        have HF8 : Hid (TInv w.heap.size w8 S5 T6 r q (ents (l.take (i + 1))) w.heap.size sk st sm) := Lib.hid (by rw [HE1.out.1]; exact hI8)
        clear hI8 hI7 hI6 H1 H2 H3 H4 HK HQ HIV hR5 hF5 hn5 hR6 hF6 hn6 hk5 hb7 hb8
        go_wp2_with fail
        go_roundw
        case rel => exact ⟨i + 1, S5, T6, Lib.hid (by omega), rfl, HF8, hB8⟩
        case measure => simp [intOf]; omega
      · have hie : n = i := by have := hi.out; omega
        have HTK : Hid (l.take i = l) := Lib.hid (List.take_of_length_le (by have := HN.out; omega))
        rw [HTK.out] at hinv
        have hel : (ents l).length ≤ 40 := Nat.le_trans (ents_len _) (by have := HN.out; omega)
        obtain ⟨es, hes⟩ : ∃ es, ents l = es := ⟨_, rfl⟩
        rw [hes] at hinv hel
        clear hes HTK hi hgo
        subst hie
        have hs := hb.size
        have HO1 : Hid (∀ W, Below wr.heap.size wr W → Calls Try.prog 15 #[.slice A n c] W (OpenPost l W)) := Lib.hid fun W hW => by
          have h := open_any l A c W ((HS.out.below (hb.trans (hW.mono hs))).more (Nat.le_trans hs hW.size)) (by have := HN.out; omega) HD.out
          rw [HN.out] at h
          exact h
        have HO2 : Hid (∀ W, Below wr.heap.size wr W → Calls Try.prog 16 #[.slice A n c] W (QOpen l W)) := Lib.hid fun W hW => by
          have h := qopen_any l A c W ((HS.out.below (hb.trans (hW.mono hs))).more (Nat.le_trans hs hW.size)) (by have := HN.out; omega)
          rw [HN.out] at h
          exact h
        have HI8 := Lib.hid hinv.out; clear hinv
        have HEND : Hid (∀ W, Below wr.heap.size wr W → Calls Try.prog 18 #[.pointer (some ⟨r, 0, none⟩)] W fun e w' => ∃ v, e = .returned v ∧ OwnE w' W.heap.size v es ∧ Below W.heap.size W w') := Lib.hid fun W hW => all_any (HI8.out.1.below hW) (by omega)
        have HEND2 : Hid (∀ W, Below wr.heap.size wr W → Calls Try.prog 19 #[.pointer (some ⟨q, 0, none⟩)] W fun e w' => ∃ v, e = .returned v ∧ OwnE w' W.heap.size v es ∧ Below W.heap.size W w') := Lib.hid fun W hW => qall_any (HI8.out.2.1.below hW) (by omega)
        have HLL : Hid (l.length ≤ 40) := Lib.hid (by have := HN.out; omega)
        obtain ⟨z, hz⟩ : ∃ z, es.length = z := ⟨_, rfl⟩
        have HZ := Lib.hid hz; clear hz
        obtain ⟨wk, hwk⟩ : ∃ wk, wk = wr := ⟨_, rfl⟩
        rw [← hwk] at HO1 HO2 HEND HEND2 HI8 hb hs ⊢
        clear hwk
        cases hko : keysOk l with
        | false =>
          have HKO := Lib.hid hko; clear hko
          go_wp2_with fail
          refine (HO1.out _ (Below.refl _ _)).mono ?_
          rintro e w5 ⟨h1, -, -, hb5⟩
          obtain rfl := h1 HKO.out
          clear h1
          go_wp2_with fail
          refine (HO2.out _ hb5).mono ?_
          rintro e w6 ⟨h1, -, -, hb6⟩
          obtain rfl := h1 HKO.out
          clear h1
          have hb9 := hb5.trans (hb6.mono hb5.size)
          go_wp2_with fail
          go_quiet (fail)
          have hw9 : ∃ w9 : World, w9 = w6.drewN nq ∧ Below wk.heap.size wk w9 := ⟨_, rfl, below_drewN hb9 _⟩
          obtain ⟨w9, hw9, hb10⟩ := hw9
          rw [← hw9]
          clear hw9 hb9
          go_wp2_with fail
          refine (HEND.out _ hb10).mono ?_
          rintro e w12 ⟨v12, rfl, ho12, hb12⟩
          obtain ⟨A12, c12, rfl, -, -, -⟩ := ho12.at_
          rw [HZ.out] at ho12 ⊢
          have hb112 := hb10.trans (hb12.mono hb10.size)
          go_wp2_with fail
          refine (HEND2.out _ hb112).mono ?_
          rintro e w13 ⟨v13, rfl, ho13, hb13⟩
          obtain ⟨A13, c13, rfl, -, -, -⟩ := ho13.at_
          have hsm := same_any es es A12 A13 c12 c13 w13 (by rw [← HZ.out] at ho12; exact (ho12.below hb13).sl) ho13.sl (by omega) (by omega) true (by simp)
          rw [HZ.out] at hsm ⊢
          have HSM := Lib.hid hsm; clear hsm
          have hb113 := hb112.trans (hb13.mono hb112.size)
          go_wp2_with fail
          refine HSM.out.mono ?_
          rintro e w14 ⟨rfl, hb14⟩
          have hB14 := hb.trans ((hb113.trans (hb14.mono hb113.size)).mono hs)
          go_wp2_with fail
          go_ret
          exact ⟨rfl, hB14⟩
        | true =>
          have HKO := Lib.hid hko; clear hko
          by_cases hnd : l.Nodup
          · have HND := Lib.hid hnd; clear hnd
            go_wp2_with fail
            refine (HO1.out _ (Below.refl _ _)).mono ?_
            rintro e w5 ⟨-, -, h1, hb5⟩
            obtain ⟨x, S5, rfl, hX5, -⟩ := h1 HKO.out HND.out
            clear h1
            go_wp2_with fail
            refine (HO2.out _ hb5).mono ?_
            rintro e w6 ⟨-, -, h1, hb6⟩
            obtain ⟨y, T6, rfl, hY6, -⟩ := h1 HKO.out HND.out
            clear h1
            have hb56 := hb5.trans (hb6.mono hb5.size)
            have hX6 := hX5.below hb6
            obtain ⟨lz, hlz⟩ : ∃ lz, l.length = lz := ⟨_, rfl⟩
            have HAX : Hid (∀ W, Below w6.heap.size w6 W → Calls Try.prog 18 #[.pointer (some ⟨x, 0, none⟩)] W fun e w' => ∃ A c, e = .returned (.slice A lz c) ∧ OwnE w' W.heap.size (.slice A lz c) l ∧ Below W.heap.size W w' ∧ Below w6.heap.size w6 w') := Lib.hid fun W hW =>
              (all_any (hX6.below hW) (by have := HLL.out; omega)).mono fun e w' ⟨v, h1, h2, h3⟩ => by
                obtain ⟨A, c, rfl, -, -, -⟩ := h2.at_
                rw [hlz] at h1 h2
                exact ⟨A, c, h1, h2, h3, hW.trans (h3.mono hW.size)⟩
            have HAY : Hid (∀ W, Below w6.heap.size w6 W → Calls Try.prog 19 #[.pointer (some ⟨y, 0, none⟩)] W fun e w' => ∃ A c, e = .returned (.slice A lz c) ∧ OwnE w' W.heap.size (.slice A lz c) l ∧ Below W.heap.size W w' ∧ Below w6.heap.size w6 w') := Lib.hid fun W hW =>
              (qall_any (hY6.below hW) (by have := HLL.out; omega)).mono fun e w' ⟨v, h1, h2, h3⟩ => by
                obtain ⟨A, c, rfl, -, -, -⟩ := h2.at_
                rw [hlz] at h1 h2
                exact ⟨A, c, h1, h2, h3, hW.trans (h3.mono hW.size)⟩
            have HSAME : Hid (∀ W A c A' c', Below w6.heap.size w6 W → SlAt W.heap.size W A l → SlAt W.heap.size W A' l → Calls Try.prog 17 #[.slice A lz c, .slice A' lz c'] W fun e w' => e = .returned (.bool true) ∧ Below w6.heap.size w6 w') := Lib.hid fun W A c A' c' hW h1 h2 => by
              have h := same_any l l A A' c c' W h1 h2 (by have := HLL.out; omega) (by have := HLL.out; omega) true (by simp)
              rw [hlz] at h
              exact h.mono fun e w' ⟨a, b⟩ => ⟨a, hW.trans (b.mono hW.size)⟩
            have HVX : Hid (∀ W, Below w6.heap.size w6 W → Calls Try.prog 13 #[.pointer (some ⟨x, 0, none⟩), .agg #[.int .i64 sk, .string st, .int .i64 sm]] W fun e w' => e = .returned (.bool (holds l (sk, st) sm)) ∧ Below w6.heap.size w6 w') := Lib.hid fun W hW => (valid_any (hX6.below hW) (sk, st) sm hs1).mono fun e w' ⟨a, b⟩ => ⟨a, hW.trans (b.mono hW.size)⟩
            have HVY : Hid (∀ W, Below w6.heap.size w6 W → Calls Try.prog 14 #[.pointer (some ⟨y, 0, none⟩), .agg #[.int .i64 sk, .string st, .int .i64 sm]] W fun e w' => e = .returned (.bool (holds l (sk, st) sm)) ∧ Below w6.heap.size w6 w') := Lib.hid fun W hW => (qvalid_any (hY6.below hW) HND.out (sk, st) sm).mono fun e w' ⟨a, b⟩ => ⟨a, hW.trans (b.mono hW.size)⟩
            obtain ⟨bb, hbb⟩ : ∃ bb, holds l (sk, st) sm = bb := ⟨_, rfl⟩
            rw [hbb] at HVX HVY
            clear hbb hlz
            have hbne : (bb != bb) = false := by simp
            have hbk := (HI8.out.below hb56).2.2.2.2.2.1
            have HK : Hid (∀ W, Below w6.heap.size w6 W → W.cell? ⟨w.heap.size, 0, none⟩ = some (.int .i64 sk) ∧ W.cell? ⟨w.heap.size, 1, none⟩ = some (.string st) ∧ W.cell? ⟨w.heap.size, 2, none⟩ = some (.int .i64 sm)) := Lib.hid fun W hW => ⟨(hbk.below hW hbk.lt).cell 0, (hbk.below hW hbk.lt).cell 1, (hbk.below hW hbk.lt).cell 2⟩
            obtain ⟨c0, c1, c2⟩ := HK.out _ (Below.refl _ _)
            have hdr : Below w6.heap.size w6 w6.drew := ⟨rfl, rfl, rfl, Nat.le_refl _, fun _ _ => rfl⟩
            have HDR := Lib.hid hdr; clear hdr hbk hX5 hX6 hY6
            go_upto_region 17 with fail
            go_region_held3 (fun W' => W'.cell? ⟨w.heap.size, 0, none⟩ = some (.int .i64 sk) ∧ W'.cell? ⟨w.heap.size, 1, none⟩ = some (.string st) ∧ W'.cell? ⟨w.heap.size, 2, none⟩ = some (.int .i64 sm))
              (first | exact HK.out _ hq11 | exact HK.out _ hq10 | exact HK.out _ hq9 | exact HK.out _ hq8 | exact HK.out _ hq7 | exact HK.out _ HDR.out)
              (first
                | (go_at_call 14; have _h := hq10; refine (HVY.out _ hq10).mono ?_; rintro e w11 ⟨rfl, hq11⟩)
                | (go_at_call 13; have _h := hq9; refine (HVX.out _ hq9).mono ?_; rintro e w10 ⟨rfl, hq10⟩)
                | (go_at_call 17; have _h := hq8; refine (HSAME.out _ _ _ _ _ hq8 (ho7.below ha8).sl ho8.sl).mono ?_; rintro e w9 ⟨rfl, hq9⟩)
                | (go_at_call 19; have _h := hq7; refine (HAY.out _ hq7).mono ?_; rintro e w8 ⟨A8, c8, rfl, ho8, ha8, hq8⟩)
                | (go_at_call 18; refine (HAX.out _ HDR.out).mono ?_; rintro e w7 ⟨A7, c7, rfl, ho7, ha7, hq7⟩))
            have hb9 := hb56.trans (hq11.mono hb56.size)
            clear HAX HAY HSAME HVX HVY HK HDR hq7 hq8 hq9 hq10 hq11 ho7 ho8 ha7 ha8
            have hw9 : ∃ w9 : World, w9 = w11 ∧ Below wk.heap.size wk w9 := ⟨_, rfl, hb9⟩
            obtain ⟨w9, hw9, hb10⟩ := hw9
            rw [← hw9]
            clear hw9 hb9
            go_wp2_with fail
            refine (HEND.out _ hb10).mono ?_
            rintro e w12 ⟨v12, rfl, ho12, hb12⟩
            obtain ⟨A12, c12, rfl, -, -, -⟩ := ho12.at_
            rw [HZ.out] at ho12 ⊢
            have hb112 := hb10.trans (hb12.mono hb10.size)
            go_wp2_with fail
            refine (HEND2.out _ hb112).mono ?_
            rintro e w13 ⟨v13, rfl, ho13, hb13⟩
            obtain ⟨A13, c13, rfl, -, -, -⟩ := ho13.at_
            have hsm := same_any es es A12 A13 c12 c13 w13 (by rw [← HZ.out] at ho12; exact (ho12.below hb13).sl) ho13.sl (by omega) (by omega) true (by simp)
            rw [HZ.out] at hsm ⊢
            have HSM := Lib.hid hsm; clear hsm
            have hb113 := hb112.trans (hb13.mono hb112.size)
            go_wp2_with fail
            refine HSM.out.mono ?_
            rintro e w14 ⟨rfl, hb14⟩
            have hB14 := hb.trans ((hb113.trans (hb14.mono hb113.size)).mono hs)
            go_wp2_with fail
            go_ret
            exact ⟨rfl, hB14⟩
          · have HND := Lib.hid hnd; clear hnd
            go_wp2_with fail
            refine (HO1.out _ (Below.refl _ _)).mono ?_
            rintro e w5 ⟨-, h1, -, hb5⟩
            obtain rfl := h1 HKO.out HND.out
            clear h1
            go_wp2_with fail
            refine (HO2.out _ hb5).mono ?_
            rintro e w6 ⟨-, h1, -, hb6⟩
            obtain rfl := h1 HKO.out HND.out
            clear h1
            have hb9 := hb5.trans (hb6.mono hb5.size)
            go_wp2_with fail
            go_quiet (fail)
            have hw9 : ∃ w9 : World, w9 = w6.drewN nq ∧ Below wk.heap.size wk w9 := ⟨_, rfl, below_drewN hb9 _⟩
            obtain ⟨w9, hw9, hb10⟩ := hw9
            rw [← hw9]
            clear hw9 hb9
            go_wp2_with fail
            refine (HEND.out _ hb10).mono ?_
            rintro e w12 ⟨v12, rfl, ho12, hb12⟩
            obtain ⟨A12, c12, rfl, -, -, -⟩ := ho12.at_
            rw [HZ.out] at ho12 ⊢
            have hb112 := hb10.trans (hb12.mono hb10.size)
            go_wp2_with fail
            refine (HEND2.out _ hb112).mono ?_
            rintro e w13 ⟨v13, rfl, ho13, hb13⟩
            obtain ⟨A13, c13, rfl, -, -, -⟩ := ho13.at_
            have hsm := same_any es es A12 A13 c12 c13 w13 (by rw [← HZ.out] at ho12; exact (ho12.below hb13).sl) ho13.sl (by omega) (by omega) true (by simp)
            rw [HZ.out] at hsm ⊢
            have HSM := Lib.hid hsm; clear hsm
            have hb113 := hb112.trans (hb13.mono hb112.size)
            go_wp2_with fail
            refine HSM.out.mono ?_
            rintro e w14 ⟨rfl, hb14⟩
            have hB14 := hb.trans ((hb113.trans (hb14.mono hb113.size)).mono hs)
            go_wp2_with fail
            go_ret
            exact ⟨rfl, hB14⟩
  · have HT := Lib.hid (HFEW.out false); clear HFEW
    have HF : Hid (false = fewB l 40) := Lib.hid (by simpa using hf)
    obtain ⟨n, hn⟩ : ∃ n, l.length = n := ⟨_, rfl⟩
    rw [hn] at hln HT ⊢
    clear hn hf hS hd
    go_enter Try.func3, Try.ntmps3
    go_upto_region 1 with fail
    rw [HW0.out]
    go_wp2_with fail
    refine (small_any _).mono ?_
    rintro e w1 ⟨rfl, hb1⟩
    have hB1 := hb0.trans (hb1.mono (by omega))
    go_wp2_with fail
    refine (HT.out _ hB1 HF.out).mono ?_
    rintro e w1' ⟨rfl, rfl⟩
    go_wp2_with fail
    go_ret
    exact ⟨rfl, hB1⟩

end Go.Proofs.Ytmlhladdoalfdaa
