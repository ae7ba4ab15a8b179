/- The law SealOpens. -/
import Derived.Test.YtmlhladdoalfdaaEq
import Derived.Laws.Concat
namespace Go.Proofs.Ytmlhladdoalfdaa
open Go.RowKit

/-- A box with an entry. -/
def Bs (w : World) (S : Nat → Prop) (g : Nat) (k : Int) (t : ByteArray) : Prop := Blk w g 33 #[.int .i64 k, .string t] ∧ ¬ S g
theorem Bs.below {S : Nat → Prop} {w w' : World} {g : Nat} {k : Int} {t : ByteArray} (h : Bs w S g k t) (hb : Below w.heap.size w w') : Bs w' S g k t := ⟨h.1.below hb h.1.lt, h.2⟩
theorem Bs.step {S S' : Nat → Prop} {w w' : World} {g : Nat} {k : Int} {t : ByteArray} (h : Bs w S g k t) (hF : Fr S w w') (hs : ∀ b, S' b → S b ∨ w.heap.size ≤ b) : Bs w' S' g k t := ⟨h.1.fr hF h.2, step_not h.2 h.1.lt hs⟩
theorem OwnG.ne_blk {w : World} {B r g : Nat} {v : Value} {es : List Sg} {t : TypeId} {cs : Array Value} (h : OwnG w B v es) (hg : v.ownBlock = some g) (hb : Blk w r t cs) (ht : t ≠ 24) : g ≠ r := by
  rcases h.2 with ⟨rfl, _⟩ | ⟨g', cap, cur, rfl, _, hh, _⟩
  · cases hg
  · have e : g' = g := by simpa [Value.ownBlock] using hg
    subst e
    rintro rfl
    unfold Blk at hb
    rw [hb] at hh
    injection hh with hh
    injection hh with _ h2 _
    exact ht h2
theorem Bs.grown {S : Nat → Prop} {w w' : World} {g B : Nat} {k : Int} {t : ByteArray} {v : Value} {ms : List Sg} (h : Bs w S g k t) (ho : OwnG w B v ms) (hg : w.grownBy w' v.ownBlock) : Bs w' S g k t := ⟨(hg.block g h.1.lt (fun e => ho.ne_blk e.symm h.1 (by decide) rfl)).trans h.1, h.2⟩
theorem Bs.cells {S : Nat → Prop} {w : World} {g : Nat} {k : Int} {t : ByteArray} (h : Bs w S g k t) : w.cell? ⟨g, 0, none⟩ = some (.int .i64 k) ∧ w.cell? ⟨g, 1, none⟩ = some (.string t) := ⟨h.1.cell 0, h.1.cell 1⟩

/-- What the law SealOpens keeps. -/
def OInv (B : Nat) (w : World) (S : Nat → Prop) (r : Nat) (es : List En) (ms : List Sg) (mv : Value) (g : Nat) (k : Int) (t : ByteArray) : Prop :=
  Ring w S r es ∧ (∀ b, S b → B ≤ b) ∧ OwnG w B mv ms ∧ Out S mv ∧ Bs w S g k t
theorem OInv.below {B : Nat} {w w' : World} {S : Nat → Prop} {r : Nat} {es : List En} {ms : List Sg} {mv : Value} {g : Nat} {k : Int} {t : ByteArray} (h : OInv B w S r es ms mv g k t) (hb : Below w.heap.size w w') : OInv B w' S r es ms mv g k t :=
  ⟨h.1.below hb, h.2.1, h.2.2.1.below hb, h.2.2.2.1, h.2.2.2.2.below hb⟩
theorem ents_ok {l : List En} (h : ∀ d ∈ l, EnOk d ∧ d.2.size ≤ 1000) : ∀ d ∈ ents l, EnOk d ∧ d.2.size ≤ 1000 := fun d hd => h d (ents_keys d hd).2
theorem ents_keysOk (l : List En) : keysOk (ents l) = true := by
  unfold keysOk
  rw [List.all_eq_true]
  exact fun d hd => (ents_keys d hd).1


theorem slat1 {w : World} {g : Nat} {k : Int} {t : ByteArray} (h : Blk w g 33 #[.int .i64 k, .string t]) : SlAt w.heap.size w (some ⟨g, 0, none⟩) [(k, t)] := fun j hj => by
  have : j = 0 := by simpa using hj
  subst this
  exact ⟨g, 0, rfl, h.lt, h.cell 0, h.cell 1⟩
theorem slat2 {w : World} {g : Nat} {k k' : Int} {t t' : ByteArray} (h : Blk w g 33 #[.int .i64 k, .string t, .int .i64 k', .string t']) : SlAt w.heap.size w (some ⟨g, 0, none⟩) [(k, t), (k', t')] := fun j hj => by
  have : j = 0 ∨ j = 1 := by simp at hj; omega
  rcases this with rfl | rfl
  · exact ⟨g, 0, rfl, h.lt, h.cell 0, h.cell 1⟩
  · exact ⟨g, 0, rfl, h.lt, h.cell 2, h.cell 3⟩
theorem below_dr {B : Nat} {w w' : World} (h : Below B w w') : Below B w w'.drew := ⟨h.os, h.tape, h.output, h.size, h.block⟩
theorem below1 (w : World) (o : Obj) : Below w.heap.size w (w.alloc o).drew := ((Below.refl _ _).alloc (Nat.le_refl _) o).drew
theorem below2 (w : World) (o o' : Obj) : Below w.heap.size w ((w.alloc o).alloc o').drew := (((Below.refl _ _).alloc (Nat.le_refl _) o).alloc (by simp) o').drew
theorem emp1 (w : World) : OwnE (w.alloc (.cells #[] 33)).drew w.heap.size (.slice (some ⟨w.heap.size, 0, none⟩) 0 0) [] := emptyE w (Nat.le_refl _)
theorem emp2 (w : World) (o : Obj) : OwnE ((w.alloc (.cells #[] 33)).alloc o).drew w.heap.size (.slice (some ⟨w.heap.size, 0, none⟩) 0 0) [] := (emptyE w (Nat.le_refl _)).below (below1 (w.alloc (.cells #[] 33)) o)
theorem emp3 (w : World) (cs : Array Value) : OwnE ((w.alloc (.cells cs 33)).alloc (.cells #[] 33)).drew w.heap.size (.slice (some ⟨w.heap.size + 1, 0, none⟩) 0 0) [] := by
  have h := emptyE (w.alloc (.cells cs 33)) (B := w.heap.size) (by simp)
  simp only [World.size_alloc] at h
  exact h
theorem blk2 (w : World) (o : Obj) (cs : Array Value) : Blk ((w.alloc o).alloc (.cells cs 33)).drew (w.heap.size + 1) 33 cs := by
  have h := Blk.new (w.alloc o) 33 cs
  simp only [World.size_alloc] at h
  exact h
theorem blk3 (w : World) (cs : Array Value) : Blk ((w.alloc (.cells cs 33)).alloc (.cells #[] 33)).drew w.heap.size 33 cs := (Blk.new w _ cs).alloc _
theorem grown_belx {B B' : Nat} {w0 w w' : World} {v : Value} {ds : List En} (h : Below B w0 w) (hown : OwnE w B' v ds) (hg : w.grownBy w' v.ownBlock) (hB : B ≤ B') (hB0 : B ≤ w0.heap.size) : Below B w0 w' :=
  ⟨hg.os.trans h.os, hg.tape.trans h.tape, hg.output.trans h.output, Nat.le_trans h.size hg.size, fun k hk => by
    exact (hg.block k (by have := h.size; omega) (fun e => by have := (World.ownsRow.lt hown k e.symm).1; omega)).trans (h.block k hk)⟩

set_option maxRecDepth 100000 in
set_option maxHeartbeats 16000000 in
theorem opens_any (l : List En) (A : Option Addr) (c : Nat) (m : En) (w : World) (hS : SlAt w.heap.size w A l) (hln : l.length ≤ 9223372036854775807) (hd : ∀ d ∈ l, EnOk d) (hm0 : EnOk m) :
    Calls Try.prog 6 #[.slice A l.length c, .agg #[.int .i64 m.1, .string m.2]] w fun e w' => e = .returned (.bool true) ∧ Below w.heap.size w w' := by
  have HFEW : Hid (∀ (b : Bool) (w1 : World), Below w.heap.size w w1 → b = fewB l 40 → Calls Try.prog 8 #[.slice A l.length c, .int .i64 40] w1 fun e w' => e = .returned (.bool b) ∧ w1 = w') := Lib.hid fun b w1 hb he => few_any l A _ c w1 ((hS.below hb).more hb.size) rfl hln b he
  obtain ⟨mk, mt⟩ := m
  have hb0 := (Below.refl w.heap.size w).alloc (Nat.le_refl _) (.cells #[.int .i64 mk, .string mt] 33)
  have hk0 := Blk.new w 33 #[.int .i64 mk, .string mt]
  have hsz0 : (w.alloc (.cells #[.int .i64 mk, .string mt] 33)).heap.size = w.heap.size + 1 := by simp
  obtain ⟨w0, hw0⟩ : ∃ w0, w.alloc (.cells #[.int .i64 mk, .string mt] 33) = w0 := ⟨_, rfl⟩
  have HW0 := Lib.hid hw0
  rw [hw0] at hb0 hk0 hsz0
  clear hw0
  by_cases hf : fewB l 40 = true
  · by_cases hmt : mt.size ≤ 500
    · have hlen : l.length ≤ 40 := by
        unfold fewB at hf
        simp at hf
        exact hf.1
      have hsz : ∀ d ∈ l, d.2.size ≤ 1000 := by
        unfold fewB at hf
        simp at hf
        intro d hd
        have := hf.2 d.1 d.2 hd
        omega
      have HS := Lib.hid hS; clear hS
      have HD : Hid (∀ d ∈ l, EnOk d ∧ d.2.size ≤ 1000) := Lib.hid fun d h => ⟨hd d h, hsz d h⟩
      clear hd hsz
      have HT := Lib.hid (HFEW.out true); clear HFEW
      have HF := Lib.hid hf; clear hf
      obtain ⟨n, hn⟩ : ∃ n, l.length = n := ⟨_, rfl⟩
      rw [hn] at hlen hln HT ⊢
      have HN := Lib.hid hn; clear hn
      go_enter Try.func6, Try.ntmps6
      go_upto_region 1 with fail
      rw [HW0.out]
      go_wp2_with fail
      refine (small_any _).mono ?_
      rintro e w1 ⟨rfl, hb1⟩
      go_wp2_with fail
      refine (new_any _).mono ?_
      rintro e w2 ⟨r, S0, rfl, hR2, low2, hb2⟩
      have hs01 := hb1.size
      have hb12 := hb1.trans (hb2.mono hs01)
      have hB2 := hb0.trans (hb12.mono (by omega))
      go_wp2_with fail
      refine (HT.out _ hB2 HF.out.symm).mono ?_
      rintro e w3 ⟨rfl, rfl⟩
      have hbs : Bs w2 S0 w.heap.size mk mt := ⟨hk0.below hb12 (by omega), fun h => by have := low2 _ h; omega⟩
      obtain ⟨x0, x1⟩ := hbs.cells
      have hinv : OInv w.heap.size w2 S0 r (ents (l.take 0)) (goods (l.take 0)) (.slice none 0 0) w.heap.size mk mt := ⟨hR2, fun b hb => by have := low2 b hb; omega, OwnG.nil _ _, Out.nil _, hbs⟩
      have HI := Lib.hid hinv; clear hinv hbs hR2 low2 hb1 hb2 hb12 hk0 hb0
      have hmt' : decide ((500 : Int) < (mt.size : Int)) = false := by simp; omega
      go_wp2_with fail
      go_loopw [7, 8] (fun mv iv wr => ∃ (i : Nat) (S : Nat → Prop), Hid (i ≤ n) ∧ iv = .int .i64 i ∧ Hid (OInv w.heap.size wr S r (ents (l.take i)) (goods (l.take i)) mv w.heap.size mk mt) ∧ Below w.heap.size w wr) (fun _ iv _ => n - (intOf iv).toNat)
      case atStart => exact ⟨0, S0, Lib.hid (Nat.zero_le _), rfl, HI, hB2⟩
      case round =>
        obtain ⟨i, S, hi, rfl, hinv, hb⟩ := hrel
        by_cases hgo : i < n
        · have hil : i < l.length := by have := HN.out; omega
          obtain ⟨b1, o1, hA, hB1, x0, x1⟩ := HS.out i hil
          subst hA
          have HC : Hid (∀ W, Below w.heap.size w W → W.cell? ⟨b1, o1 + i * 2, none⟩ = some (.int .i64 (l.getD i e0).1) ∧ W.cell? ⟨b1, o1 + i * 2 + 1, none⟩ = some (.string (l.getD i e0).2) ∧ Below w.heap.size w W) := Lib.hid fun W hb => ⟨(hb.cell (p := ⟨b1, o1 + i * 2, none⟩) hB1).trans x0, (hb.cell (p := ⟨b1, o1 + i * 2 + 1, none⟩) hB1).trans x1, hb⟩
          have hpd := HD.out _ (en_get hil)
          have he1 : ents (l.take (i + 1)) = addE (ents (l.take i)) (l.getD i e0) := by rw [take_snoc hil, ents_snoc]
          have hm1 : goods (l.take (i + 1)) = if okKey (l.getD i e0).1 = true then goods (l.take i) ++ [((l.getD i e0), (pos (ents (l.take i)) (l.getD i e0) : Int))] else goods (l.take i) := by rw [take_snoc hil, goods_snoc]
          have hel : (ents (l.take i)).length ≤ 40 := Nat.le_trans (ents_len _) (by rw [List.length_take]; omega)
          have hml : (goods (l.take i)).length ≤ 40 := Nat.le_trans (goods_len _) (by rw [List.length_take]; omega)
          obtain ⟨p, hp⟩ : ∃ p, l.getD i e0 = p := ⟨_, rfl⟩
          rw [hp] at HC he1 hm1 hpd
          clear hp x0 x1
          obtain ⟨es, hes⟩ : ∃ es, ents (l.take i) = es := ⟨_, rfl⟩
          obtain ⟨ms, hms⟩ : ∃ ms, goods (l.take i) = ms := ⟨_, rfl⟩
          rw [hes] at hinv he1 hm1 hel
          rw [hms] at hinv hm1 hml
          have HE1 := Lib.hid (And.intro he1 hm1)
          clear hes hms he1 hm1
          obtain ⟨hR, low, hm1, hm2, hx1⟩ := hinv.out
          have hs := hb.size
          have hsg : sg es p = if okKey p.1 = true then (p, (pos es p : Int)) else (e0, 0) := rfl
          obtain ⟨x, hx⟩ : ∃ x, sg es p = x := ⟨_, rfl⟩
          have HSG : Hid (∀ (W : World), Below w.heap.size w W → w.heap.size ≤ W.heap.size → Ring W S r es → Calls Try.prog 11 #[.pointer (some ⟨r, 0, none⟩), .int .i64 p.1, .string p.2] W fun e w' => ∃ S', e = .returned (sgv (sg es p)) ∧ Ring w' S' r (addE es p) ∧ (∀ b, S' b → w.heap.size ≤ b) ∧ Below w.heap.size w w' ∧ w.heap.size ≤ w'.heap.size ∧ Fr S W w' ∧ ∀ b, S' b → S b ∨ W.heap.size ≤ b) := Lib.hid fun W h1 h2 h3 => sign_law h3 low h1 h2 p hpd.1 hpd.2 (by omega)
          rw [hx] at HSG hsg
          have HX := Lib.hid hsg
          clear hx hsg
          obtain ⟨⟨xk, xt⟩, xm⟩ := x
          unfold sgv at HSG
          simp only at HSG
          obtain ⟨c0, c1, -⟩ := HC.out _ hb
          have hb1 : Below wr.heap.size wr wr.drew := ⟨rfl, rfl, rfl, Nat.le_refl _, fun _ _ => rfl⟩
          have hb2 : Below wr.heap.size wr (wr.alloc (.cells #[.int .i64 0, .string ⟨#[]⟩, .int .i64 0] 24)).drew := ((Below.refl wr.heap.size wr).alloc (Nat.le_refl _) _).drew
          have hW : ∀ W, Below wr.heap.size wr W → Below w.heap.size w W ∧ w.heap.size ≤ W.heap.size ∧ Ring W S r es := fun W h => ⟨hb.trans (h.mono hs), Nat.le_trans hs h.size, hR.below h⟩
          have hbb : Blk (wr.alloc (.cells #[.int .i64 0, .string ⟨#[]⟩, .int .i64 0] 24)).drew wr.heap.size 24 #[.int .i64 0, .string ⟨#[]⟩, .int .i64 0] := Blk.new wr _ _
          have hnS : ¬ S wr.heap.size := hR.new_not
          have HW := Lib.hid (And.intro hW (And.intro hb1 (And.intro hb2 (And.intro hbb hnS)))); clear hW hb1 hb2 hbb hnS
          have HIV := Lib.hid (And.intro hR (And.intro low (And.intro hm1 (And.intro hm2 hx1)))); clear hR low hm1 hm2 hx1
          go_upto_region 9 with fail
          go_cut [9] from 41 to 76 (fun x wx => SgP w.heap.size w wr S r (addE es p) xk xt xm x wx)
          case first =>
            go_region_held3 (fun W' => W'.cell? ⟨b1, o1 + i * 2, none⟩ = some (.int .i64 p.1) ∧ W'.cell? ⟨b1, o1 + i * 2 + 1, none⟩ = some (.string p.2) ∧ Below w.heap.size w W')
              (first | exact HC.out _ (hB5.alloc hs5 _) | exact HC.out _ hB6 | exact HC.out _ (by assumption) | exact HC.out _ (HW.out.1 _ HW.out.2.1).1 | exact HC.out _ (HW.out.1 _ HW.out.2.2.1).1)
              (first
                | (go_at_call 11; (first | refine (HSG.out _ (HW.out.1 _ HW.out.2.1).1 (HW.out.1 _ HW.out.2.1).2.1 (HW.out.1 _ HW.out.2.1).2.2).mono ?_ | refine (HSG.out _ (HW.out.1 _ HW.out.2.2.1).1 (HW.out.1 _ HW.out.2.2.1).2.1 (HW.out.1 _ HW.out.2.2.1).2.2).mono ?_); rintro e w5 ⟨S5, rfl, hR5, low5, hB5, hs5, hF5, hn5⟩; (try (have hk5 : Blk w5 wr.heap.size 24 #[.int .i64 0, .string ⟨#[]⟩, .int .i64 0] := Blk.fr HW.out.2.2.2.1 hF5 HW.out.2.2.2.2; have z0 := hk5.cell 0; have z1 := hk5.cell 1; have z2 := hk5.cell 2; have y0 := hk5.frozen 0; have y1 := hk5.frozen 1; have y2 := hk5.frozen 2; simp at z0 z1 z2; have hB6 := ((hB5.setCell (p := ⟨wr.heap.size, 0, none⟩) hs (.int .i64 xk)).setCell (p := ⟨wr.heap.size, 1, none⟩) hs (.string xt)).setCell (p := ⟨wr.heap.size, 2, none⟩) hs (.int .i64 xm)))))
            · go_wp2_with fail
              go_meet
              case rel => exact sgp_new xk xt xm hR5 low5 hB5 hs5 hF5 hn5
            · go_wp2_with fail
              go_meet
              case rel => exact sgp_old xk xt xm hs HW.out.2.2.2.2 hR5 low5 hB5 hs5 hF5 hn5 hk5
          case rest =>
            obtain ⟨g8, S1, rfl, hg8, hbx, hR1, low1, hB1', hs1', hF1, hn1⟩ := hcut
            obtain ⟨-, -, hm1, hm2, hx1⟩ := HIV.out
            have hM1 : OwnG wc w.heap.size u7 ms := hm1.fr hF1 hm2
            have hM2 : Out S1 u7 := hm2.stepG hm1 hn1
            have hX1 := hx1.step hF1 hn1
            clear HIV HSG HW hm1 hm2 hx1 hg8 hF1 hn1 c0 c1 hb hs
            obtain ⟨x0, x1, x2⟩ := hbx.cells
            obtain ⟨c0, c1, -⟩ := HC.out _ hB1'
            have HES := Lib.hid HE1.out.1
            clear hinv
            have hkey : p.1 < 0 ∨ 5000 ≤ p.1 ∨ okKey p.1 = true := by
              unfold okKey
              simp
              omega
            rcases hkey with hk | hk | hk
            · have hkb : ¬ okKey p.1 = true := by unfold okKey; simp; omega
              have hgm := HE1.out.2
              rw [if_neg hkb] at hgm
              have HK : Hid (OInv w.heap.size wc S1 r (ents (l.take (i + 1))) (goods (l.take (i + 1))) u7 w.heap.size mk mt) := Lib.hid (by rw [HES.out, hgm]; exact ⟨hR1, low1, hM1, hM2, hX1⟩)
              clear hR1 low1 hM1 hM2 hX1 hs1' hgm
              go_wp2_with fail
              go_roundw
              case rel => exact ⟨i + 1, S1, Lib.hid (by omega), rfl, HK, hB1'⟩
              case measure => simp [intOf]; omega
            · have hkb : ¬ okKey p.1 = true := by unfold okKey; simp; omega
              have hgm := HE1.out.2
              rw [if_neg hkb] at hgm
              have HK : Hid (OInv w.heap.size wc S1 r (ents (l.take (i + 1))) (goods (l.take (i + 1))) u7 w.heap.size mk mt) := Lib.hid (by rw [HES.out, hgm]; exact ⟨hR1, low1, hM1, hM2, hX1⟩)
              clear hR1 low1 hM1 hM2 hX1 hs1' hgm
              have hk0 : 0 ≤ p.1 := by omega
              go_wp2_with fail
              go_roundw
              case rel => exact ⟨i + 1, S1, Lib.hid (by omega), rfl, HK, hB1'⟩
              case measure => simp [intOf]; omega
            · have hk0 : 0 ≤ p.1 := by unfold okKey at hk; simp at hk; omega
              have hk1 : p.1 < 5000 := by unfold okKey at hk; simp at hk; omega
              have hx := HX.out
              have hgm := HE1.out.2
              rw [if_pos hk] at hx hgm
              rw [← hx] at hgm
              have hbl := (Below.refl wc.heap.size wc).alloc (Nat.le_refl _) (.cells #[.int .i64 xk, .string xt, .int .i64 xm] 24)
              have HBL := Lib.hid (And.intro hbl (litG1 wc xk xt xm)); clear hbl hx
              have HGM := Lib.hid hgm; clear hgm
              go_wp2_with (at_builtin; refine appG_at rfl (.tmp 73) (.tmp 75) rfl w.heap.size u7 ms [((xk, xt), xm)] (some ⟨wc.heap.size, 0, none⟩) 1 1 rfl (hM1.below HBL.out.1) rfl rfl HBL.out.2 (by omega) (Nat.le_trans hs1' HBL.out.1.size) ?_; intro v6 w6 hm6 hg6 hat6)
              have hR6 := (hR1.below HBL.out.1).grown hg6 hM2
              have hM6 := hM2.grown (hR1.below HBL.out.1) hat6
              have hX6 := (hX1.below HBL.out.1).grown (hM1.below HBL.out.1) hg6
              have hB6 := grown_belG (hB1'.trans (HBL.out.1.mono hs1')) (hM1.below HBL.out.1) hg6 (Nat.le_refl _)
              have HK : Hid (OInv w.heap.size w6 S1 r (ents (l.take (i + 1))) (goods (l.take (i + 1))) v6 w.heap.size mk mt) := Lib.hid (by rw [HES.out, HGM.out]; exact ⟨hR6, low1, hm6, hM6, hX6⟩)
              clear hR6 hM6 hX6 hm6 hg6 hat6 HBL hR1 hM1 hX1 low1 hM2 hs1'
              go_roundw
              case rel => exact ⟨i + 1, S1, Lib.hid (by omega), rfl, HK, hB6⟩
              case measure => simp [intOf]; omega
        · have hie : n = i := by have := hi.out; omega
          have HTK : Hid (l.take i = l) := Lib.hid (List.take_of_length_le (by have := HN.out; omega))
          rw [HTK.out] at hinv
          have hgl : (goods l).length ≤ 40 := Nat.le_trans (goods_len l) (by have := HN.out; omega)
          have hel : (ents l).length ≤ 40 := Nat.le_trans (ents_len l) (by have := HN.out; omega)
          have HEO : Hid (∀ d ∈ ents l, EnOk d ∧ d.2.size ≤ 1000) := Lib.hid (ents_ok HD.out)
          have HKN : Hid (keysOk (ents l) = true ∧ (ents l).Nodup) := Lib.hid ⟨ents_keysOk l, ents_nodup l⟩
          have HHG : Hid (∀ y ∈ goods l, holds (ents l) y.1 y.2 = true ∧ EnOk y.1) := Lib.hid fun y hy => ⟨(holds_iff l y).2 hy, (goods_ok HD.out y hy).1⟩
          obtain ⟨es, hes⟩ : ∃ es, ents l = es := ⟨_, rfl⟩
          obtain ⟨gs, hgs⟩ : ∃ gs, goods l = gs := ⟨_, rfl⟩
          rw [hes] at hinv HHG HEO HKN hel
          rw [hgs] at hinv HHG hgl
          clear hes hgs HTK hi hgo
          subst hie
          have hs := hb.size
          obtain ⟨Am, cm, rfl, hdm, hem, -⟩ := hinv.out.2.2.1.at_
          obtain ⟨zg, hzg⟩ : ∃ zg, gs.length = zg := ⟨_, rfl⟩
          obtain ⟨z, hz⟩ : ∃ z, es.length = z := ⟨_, rfl⟩
          have HALL := Lib.hid (all_any hinv.out.1 (by omega))
          rw [hzg] at hinv hgl hdm ⊢
          rw [hz] at hel
          have HZ := Lib.hid (And.intro hzg hz); clear hzg hz
          go_wp2_with fail
          refine HALL.out.mono ?_
          rintro e w4 ⟨va, rfl, hoa, hb4⟩
          have hB4 := hb.trans (hb4.mono hs)
          have HI4 := Lib.hid (hinv.out.below hb4)
          obtain ⟨Aa, ca, rfl, hda, hea, hSa⟩ := hoa.at_
          have HOP : Hid (∀ W, Below w4.heap.size w4 W → Calls Try.prog 15 #[.slice Aa z ca] W fun e w' => ∃ q T, e = .returned (.tuple #[.pointer (some ⟨q, 0, none⟩), .int .i64 0]) ∧ Ring w' T q es ∧ (∀ b, T b → W.heap.size ≤ b) ∧ Below W.heap.size W w') := Lib.hid fun W hW => by
            have h := open_any es Aa ca W ((hSa.below hW).more hW.size) (by have := HZ.out.2; omega) HEO.out
            rw [HZ.out.2] at h
            refine h.mono ?_
            rintro e w' ⟨-, -, h1, h2⟩
            obtain ⟨q, T, e1, e2, e3⟩ := h1 HKN.out.1 HKN.out.2
            exact ⟨q, T, e1, e2, e3, h2⟩
          rw [HZ.out.2] at hda hoa ⊢
          have HOS : Hid (Out S (.slice Aa z ca)) := Lib.hid fun g hg hS => by
            have h1 := (World.ownsRow.lt hoa g hg).1
            have h2 := hinv.out.1.lt g hS
            omega
          have HOA := Lib.hid (hoa.mono hs); clear hoa hSa
          clear HALL hinv hb
          have hs4 : w.heap.size ≤ w4.heap.size := Nat.le_trans hs hb4.size
          obtain ⟨wa, hwa⟩ : ∃ wa, wa = w4 := ⟨_, rfl⟩
          rw [← hwa] at HI4 HOA HOP hB4 hs4 ⊢
          clear hb4 hwa hs
          go_wp2_with fail
          refine (HOP.out _ (Below.refl _ _)).mono ?_
          rintro e w5 ⟨q, T, rfl, hQ, hT, hb5⟩
          have HQ5 := Lib.hid hQ
          have HAQ := Lib.hid (all_any hQ (by have := HZ.out.2; omega)); clear hQ
          go_wp2_with fail
          refine HAQ.out.mono ?_
          rintro e w6 ⟨vq, rfl, hoq, hb6⟩
          have hb56 := hb5.trans (hb6.mono hb5.size)
          obtain ⟨Aq, cq, rfl, -, -, hSq⟩ := hoq.at_
          have hSa6 := ((HOA.out.below hb56).sl)
          have hsm := same_any es es Aq Aa cq ca w6 hSq hSa6 (by have := HZ.out.2; omega) (by have := HZ.out.2; omega) true (by simp)
          rw [HZ.out.2] at hsm ⊢
          have HSM := Lib.hid hsm; clear hsm hSq hSa6 hoq
          go_wp2_with fail
          refine HSM.out.mono ?_
          rintro e w7 ⟨rfl, hb7⟩
          have HQ7 : Hid (Ring w7 T q es) := Lib.hid (HQ5.out.below (hb6.trans (hb7.mono hb6.size)))
          have hb57 := hb56.trans (hb7.mono hb56.size)
          have hB7 := hB4.trans (hb57.mono hs4)
          have hs7 : w.heap.size ≤ w7.heap.size := Nat.le_trans hs4 hb57.size
          have HI7 := Lib.hid (And.intro (HI4.out.below hb57) (HOA.out.below hb57))
          obtain ⟨wb, hwb⟩ : ∃ wb, wb = w7 := ⟨_, rfl⟩
          rw [← hwb] at HI7 HQ7 hB7 hs7 ⊢
          clear hwb HSM HAQ HQ5 hb5 hb6 hb7 hb56 hb57 HOP hT HI4 HOA hB4 hs4
          go_wp2_with fail
          go_loopw [13] (fun kv wr2 => ∃ k : Nat, Hid (k ≤ zg) ∧ kv = .int .i64 k ∧ Below wb.heap.size wb wr2) (fun kv _ => zg - (intOf kv).toNat)
          case atStart => exact ⟨0, Lib.hid (Nat.zero_le _), rfl, Below.refl _ _⟩
          case round =>
            obtain ⟨k, hkz, rfl, hbw⟩ := hrel
            by_cases hgk : k < zg
            · obtain ⟨b3, o3, hA3, -, y0, y1, y2⟩ := (HI7.out.1.2.2.1.below hbw).sl k (by rw [HZ.out.1]; exact hgk)
              subst hA3
              obtain ⟨hv1, hv2⟩ := HHG.out _ (sg_get (i := k) (by rw [HZ.out.1]; exact hgk))
              obtain ⟨y, hy⟩ : ∃ y, gs.getD k g0 = y := ⟨_, rfl⟩
              rw [hy] at y0 y1 y2 hv1 hv2
              have hv := valid_any (HQ7.out.below hbw) y.1 y.2 hv2
              rw [hv1] at hv
              obtain ⟨⟨yk, yt⟩, ym⟩ := y
              simp only at y0 y1 y2
              have HVV := Lib.hid hv; clear hv hy hv1 hv2
              go_wp2_with fail
              refine HVV.out.mono ?_
              rintro e w9 ⟨rfl, hb9⟩
              have hb29 := hbw.trans (hb9.mono hbw.size)
              clear HVV hbw
              go_wp2_with fail
              go_roundw
              case rel => exact ⟨k + 1, Lib.hid (by omega), rfl, hb29⟩
              case measure => simp [intOf]; omega
            · have HI8 := Lib.hid (And.intro (HI7.out.1.below hbw) (HI7.out.2.below hbw))
              have hB8 := hB7.trans (hbw.mono hs7)
              have hs8 : w.heap.size ≤ wr.heap.size := Nat.le_trans hs7 hbw.size
              obtain ⟨wk, hwk⟩ : ∃ wk, wk = wr := ⟨_, rfl⟩
              rw [← hwk] at HI8 hB8 hs8 ⊢
              clear hkz hbw hwk HQ7 HI7 hB7 hs7
              go_upto_if 110 with fail
              go_cut [] from 108 to 152 (fun wx => Below wk.heap.size wk wx)
              case first =>
                by_cases hz0 : z = 0
                · have hzz : decide ((0 : Int) < (z : Int)) = false := by simp; omega
                  go_wp2_with fail
                  go_meet
                  case rel => exact Below.refl _ _
                · have hzz : decide ((0 : Int) < (z : Int)) = true := by simp; omega
                  obtain ⟨zy, rfl⟩ : ∃ zy, z = zy + 1 := ⟨z - 1, by omega⟩
                  have hwz : IntKind.i64.wrap (((zy + 1 : Nat) : Int) - 1) = (zy : Int) := by rw [IntKind.wrap_i64]; omega
                  have hwz2 : IntKind.i64.wrap (zy : Int) = (zy : Int) := by rw [IntKind.wrap_i64]; omega
                  have hwz3 : IntKind.i64.wrap ((zy : Int) + 1 - 1) = (zy : Int) := by rw [IntKind.wrap_i64]; omega
                  have hz3 : (zy : Int) < (zy : Int) + 1 := by omega
                  have hz1 : (0 : Int) ≤ (zy : Int) := by omega
                  have hz2 : (zy : Int) < ((zy + 1 : Nat) : Int) := by omega
                  obtain ⟨ba, oa, hAa, hba, u0, u1⟩ := HI8.out.2.sl zy (by rw [HZ.out.2]; omega)
                  subst hAa
                  have HKP : Hid (∀ W, Below wk.heap.size wk W → W.cell? ⟨ba, oa + zy * 2, none⟩ = some (.int .i64 (es.getD zy e0).1) ∧ W.cell? ⟨ba, oa + zy * 2 + 1, none⟩ = some (.string (es.getD zy e0).2) ∧ Below wk.heap.size wk W) := Lib.hid fun W hW => ⟨(hW.cell (p := ⟨ba, oa + zy * 2, none⟩) hba).trans u0, (hW.cell (p := ⟨ba, oa + zy * 2 + 1, none⟩) hba).trans u1, hW⟩
                  have hz0 := HI8.out.2.sl 0 (by rw [HZ.out.2]; omega)
                  obtain ⟨ba', oa', hAa', -, v0, v1⟩ := hz0
                  injection hAa' with hAa'
                  injection hAa' with ea1 ea2
                  subst ea1; subst ea2
                  have hin0 : es.getD 0 e0 ∈ es := en_get (by rw [HZ.out.2]; omega)
                  obtain ⟨p, hp⟩ : ∃ p, es.getD 0 e0 = p := ⟨_, rfl⟩
                  rw [hp] at v0 v1 hin0
                  clear hp
                  obtain ⟨vk, vt⟩ := p
                  simp only [Nat.zero_mul, Nat.add_zero] at v0 v1
                  have HIN0 := Lib.hid hin0; clear hin0
                  have hin : es.getD zy e0 ∈ es := en_get (by rw [HZ.out.2]; omega)
                  obtain ⟨p, hp⟩ : ∃ p, es.getD zy e0 = p := ⟨_, rfl⟩
                  rw [hp] at u0 u1 HKP hin
                  clear hp
                  obtain ⟨uk, ut⟩ := p
                  simp only at u0 u1 HKP
                  have HIN := Lib.hid hin; clear hin
                  have HBc := Lib.hid (And.intro (Below.refl wk.heap.size wk) HI8.out.2)
                  have HE1a := Lib.hid (And.intro (emp1 wk) (below1 wk (.cells #[] 33)))
                  have HX0a := Lib.hid (below1 wk (.cells #[.int .i64 uk, .string ut] 33))
                  have HE2a := Lib.hid (And.intro (emp2 wk (.cells #[.int .i64 uk, .string ut] 33)) (And.intro (below2 wk (.cells #[] 33) (.cells #[.int .i64 uk, .string ut] 33)) (blk2 wk (.cells #[] 33) #[.int .i64 uk, .string ut])))
                  have HE3a := Lib.hid (And.intro (emp3 wk #[.int .i64 uk, .string ut]) (And.intro (below2 wk (.cells #[.int .i64 uk, .string ut] 33) (.cells #[] 33)) (blk3 wk #[.int .i64 uk, .string ut])))
                  have HSRCa : Hid (∀ V, Below wk.heap.size wk V → SlAt V.heap.size V (some ⟨ba, oa, none⟩) es) := Lib.hid fun V hV => by
                    have h := (HBc.out.2).below hV
                    exact h.sl
                  have HOPa : Hid (∀ (V : World) (A : Option Addr) (c : Nat), SlAt V.heap.size V A (es ++ [(uk, ut)]) → Calls Try.prog 15 #[.slice A ((zy + 1) + 1) c] V fun e w' => e = .returned (.tuple #[.pointer none, .int .i64 5]) ∧ Below V.heap.size V w') := Lib.hid fun V A c hV => by
                    have h := open_any (es ++ [(uk, ut)]) A c V hV (by rw [List.length_append, HZ.out.2]; simp; omega) (fun d hd => by rcases List.mem_append.1 hd with h | h; exact HEO.out d h; rw [show d = (uk, ut) by simpa using h]; exact HEO.out _ HIN.out)
                    rw [List.length_append, HZ.out.2] at h
                    refine h.mono ?_
                    rintro e w' ⟨h1, h2, -, h3⟩
                    exact ⟨h2 (by unfold keysOk; rw [List.all_append]; have h1 := HKN.out.1; unfold keysOk at h1; have h2 := List.all_eq_true.1 h1 _ HIN.out; simp [h1]; exact h2) (fun h => (List.nodup_append.1 h).2.2 _ HIN.out _ (by simp) rfl), h3⟩
                  have HLENa : Hid ((es ++ [(uk, ut)]).length = (zy + 1) + 1) := Lib.hid (by rw [List.length_append, HZ.out.2]; rfl)
                  go_upto_region 24 with fail
                  have hcE0a : (wk.alloc (.cells #[] 33)).cell? ⟨ba, oa + zy * 2, none⟩ = some (.int .i64 uk) := (HKP.out _ (HBc.out.1.trans (HE1a.out.2.mono HBc.out.1.size))).1
                  have hcE1a : (wk.alloc (.cells #[] 33)).cell? ⟨ba, oa + zy * 2 + 1, none⟩ = some (.string ut) := (HKP.out _ (HBc.out.1.trans (HE1a.out.2.mono HBc.out.1.size))).2.1
                  go_cut [14, 15] from 108 to 152 (fun x y wx => x = .pointer none ∧ y = .int .i64 5 ∧ Below wk.heap.size wk wx)
                  case first =>
                    go_region_law
                      (first
                        | (go_simp; go_at_call 15; have _h := hq9a; refine (HOPa.out _ _ _ hS9a).mono ?_; rintro e w10a ⟨rfl, hb10a⟩; have hq10a := hq9a.trans (hb10a.mono hq9a.size))
                        | (refine step_appE rfl (.tmp 114) (.tmp 121) rfl wk.heap.size v8a es [(uk, ut)] _ 1 1 (by simp [Act.eval]) hown8a (by simp [Act.eval]) rfl (slat1 hx8a) (by rw [HZ.out.2]; omega) hb8a.size ?_; intro v9a w9a hown9a hg9a hat9a; have hq9a := grown_belx hq8a hown8a hg9a HBc.out.1.size (Nat.le_refl _); obtain ⟨A9a, c9a, hv9a, -, -, hS9a⟩ := hown9a.at_; rw [HLENa.out] at hv9a; subst hv9a)
                        | (refine step_appE rfl (.tmp 114) (.tmp 121) rfl wk.heap.size v8a es [(uk, ut)] (some ⟨w8a.heap.size, 0, none⟩) 1 1 (by simp [Act.eval]) (hown8a.below ((Below.refl _ _).alloc (Nat.le_refl _) _)) (by simp [Act.eval]) rfl (slat1 (Blk.new w8a _ _)) (by rw [HZ.out.2]; omega) (hb8a.alloc hb8a.size _).size ?_; intro v9a w9a hown9a hg9a hat9a; have hq9a := grown_belx (hq8a.alloc hq8a.size _) (hown8a.below ((Below.refl _ _).alloc (Nat.le_refl _) _)) hg9a HBc.out.1.size (Nat.le_refl _); obtain ⟨A9a, c9a, hv9a, -, -, hS9a⟩ := hown9a.at_; rw [HLENa.out] at hv9a; subst hv9a)
                        | (refine step_appE rfl (.tmp 112) (.tmp 113) rfl wk.heap.size (.slice (some ⟨wk.heap.size, 0, none⟩) 0 0) [] es (some ⟨ba, oa, none⟩) (zy + 1) ca (by simp [Act.eval]) HE1a.out.1 (by simp [Act.eval]) HZ.out.2 (HSRCa.out _ HE1a.out.2) (by simp; omega) HE1a.out.2.size ?_; intro v8a w8a hown8a hg8a hat8a; have hb8a := grown_bel HE1a.out.2 HE1a.out.1 hg8a (Nat.le_refl _); have hq8a := HBc.out.1.trans (hb8a.mono HBc.out.1.size); simp only [List.nil_append] at hown8a; obtain ⟨q0a, q1a, -⟩ := HKP.out _ hq8a)
                        | (refine step_appE rfl (.tmp 112) (.tmp 113) rfl wk.heap.size (.slice (some ⟨wk.heap.size, 0, none⟩) 0 0) [] es (some ⟨ba, oa, none⟩) (zy + 1) ca (by simp [Act.eval]) HE2a.out.1 (by simp [Act.eval]) HZ.out.2 (HSRCa.out _ HE2a.out.2.1) (by simp; omega) HE2a.out.2.1.size ?_; intro v8a w8a hown8a hg8a hat8a; have hb8a := grown_bel HE2a.out.2.1 HE2a.out.1 hg8a (Nat.le_refl _); have hq8a := HBc.out.1.trans (hb8a.mono HBc.out.1.size); simp only [List.nil_append] at hown8a; obtain ⟨q0a, q1a, -⟩ := HKP.out _ hq8a; obtain ⟨gxa, hgxa⟩ : ∃ gx, gx = wk.heap.size + 1 := ⟨_, rfl⟩; have hx8a : Blk w8a gxa _ #[.int .i64 uk, .string ut] := (hg8a.block gxa (by rw [hgxa]; exact HE2a.out.2.2.lt) (by rw [hgxa]; simp [Value.ownBlock])).trans (by rw [hgxa]; exact HE2a.out.2.2); subst hgxa)
                        | (refine step_appE rfl (.tmp 112) (.tmp 113) rfl wk.heap.size (.slice (some ⟨wk.heap.size + 1, 0, none⟩) 0 0) [] es (some ⟨ba, oa, none⟩) (zy + 1) ca (by simp [Act.eval]) HE3a.out.1 (by simp [Act.eval]) HZ.out.2 (HSRCa.out _ HE3a.out.2.1) (by simp; omega) HE3a.out.2.1.size ?_; intro v8a w8a hown8a hg8a hat8a; have hb8a := grown_bel HE3a.out.2.1 HE3a.out.1 hg8a (Nat.le_refl _); have hq8a := HBc.out.1.trans (hb8a.mono HBc.out.1.size); simp only [List.nil_append] at hown8a; obtain ⟨q0a, q1a, -⟩ := HKP.out _ hq8a; obtain ⟨gxa, hgxa⟩ : ∃ gx, gx = wk.heap.size := ⟨_, rfl⟩; have hx8a : Blk w8a gxa _ #[.int .i64 uk, .string ut] := (hg8a.block gxa (by rw [hgxa]; exact HE3a.out.2.2.lt) (by rw [hgxa]; simp [Value.ownBlock])).trans (by rw [hgxa]; exact HE3a.out.2.2); subst hgxa))
                    all_goals
                      go_wp2_with fail
                      go_meet
                      exact ⟨rfl, rfl, hq10a⟩
                  obtain ⟨rfl, rfl, hcuta⟩ := hcut
                  have HBd := Lib.hid (And.intro hcuta (HI8.out.2.below hcuta))
                  have HKQ : Hid (∀ W, Below wk.heap.size wk W → W.cell? ⟨ba, oa, none⟩ = some (.int .i64 vk) ∧ W.cell? ⟨ba, oa + 1, none⟩ = some (.string vt) ∧ Below wk.heap.size wk W) := Lib.hid fun W hW => ⟨(hW.cell (p := ⟨ba, oa, none⟩) hba).trans v0, (hW.cell (p := ⟨ba, oa + 1, none⟩) hba).trans v1, hW⟩
                  clear HKP HOPa HE1a HX0a HE2a HE3a HSRCa hcE0a hcE1a HLENa HIN
                  obtain ⟨wd, hwd⟩ : ∃ wd, wd = wc := ⟨_, rfl⟩
                  rw [← hwd] at HBd ⊢
                  clear hwd hcuta
                  obtain ⟨p0, p1, -⟩ := HKQ.out _ HBd.out.1
                  have HE1b := Lib.hid (And.intro (emp1 wd) (below1 wd (.cells #[] 33)))
                  have HX0b := Lib.hid (below1 wd (.cells #[.int .i64 vk, .string vt, .int .i64 5000, .string ⟨#[]⟩] 33))
                  have HE2b := Lib.hid (And.intro (emp2 wd (.cells #[.int .i64 vk, .string vt, .int .i64 5000, .string ⟨#[]⟩] 33)) (And.intro (below2 wd (.cells #[] 33) (.cells #[.int .i64 vk, .string vt, .int .i64 5000, .string ⟨#[]⟩] 33)) (blk2 wd (.cells #[] 33) #[.int .i64 vk, .string vt, .int .i64 5000, .string ⟨#[]⟩])))
                  have HE3b := Lib.hid (And.intro (emp3 wd #[.int .i64 vk, .string vt, .int .i64 5000, .string ⟨#[]⟩]) (And.intro (below2 wd (.cells #[.int .i64 vk, .string vt, .int .i64 5000, .string ⟨#[]⟩] 33) (.cells #[] 33)) (blk3 wd #[.int .i64 vk, .string vt, .int .i64 5000, .string ⟨#[]⟩])))
                  have HSRCb : Hid (∀ V, Below wd.heap.size wd V → SlAt V.heap.size V (some ⟨ba, oa, none⟩) es) := Lib.hid fun V hV => by
                    have h := (HBd.out.2).below hV
                    exact h.sl
                  have HOPb : Hid (∀ (V : World) (A : Option Addr) (c : Nat), SlAt V.heap.size V A (es ++ [(vk, vt), (5000, ⟨#[]⟩)]) → Calls Try.prog 15 #[.slice A ((zy + 1) + 2) c] V fun e w' => e = .returned (.tuple #[.pointer none, .int .i64 1]) ∧ Below V.heap.size V w') := Lib.hid fun V A c hV => by
                    have h := open_any (es ++ [(vk, vt), (5000, ⟨#[]⟩)]) A c V hV (by rw [List.length_append, HZ.out.2]; simp; omega) (fun d hd => by rcases List.mem_append.1 hd with h | h; exact HEO.out d h; simp at h; rcases h with rfl | rfl; exact HEO.out _ HIN0.out; exact ⟨⟨by decide, by decide⟩, by decide⟩)
                    rw [List.length_append, HZ.out.2] at h
                    refine h.mono ?_
                    rintro e w' ⟨h1, h2, -, h3⟩
                    exact ⟨h1 (by unfold keysOk; rw [List.all_append]; simp [okKey]), h3⟩
                  have HLENb : Hid ((es ++ [(vk, vt), (5000, ⟨#[]⟩)]).length = (zy + 1) + 2) := Lib.hid (by rw [List.length_append, HZ.out.2]; rfl)
                  go_upto_region 25 with fail
                  have hcE0b : (wd.alloc (.cells #[] 33)).cell? ⟨ba, oa, none⟩ = some (.int .i64 vk) := (HKQ.out _ (HBd.out.1.trans (HE1b.out.2.mono HBd.out.1.size))).1
                  have hcE1b : (wd.alloc (.cells #[] 33)).cell? ⟨ba, oa + 1, none⟩ = some (.string vt) := (HKQ.out _ (HBd.out.1.trans (HE1b.out.2.mono HBd.out.1.size))).2.1
                  go_cut [16, 17] from 108 to 152 (fun x y wx => x = .pointer none ∧ y = .int .i64 1 ∧ Below wk.heap.size wk wx)
                  case first =>
                    go_region_law
                      (first
                        | (go_simp; go_at_call 15; have _h := hq9b; refine (HOPb.out _ _ _ hS9b).mono ?_; rintro e w10b ⟨rfl, hb10b⟩; have hq10b := hq9b.trans (hb10b.mono hq9b.size))
                        | (refine step_appE rfl (.tmp 129) (.tmp 134) rfl wd.heap.size v8b es [(vk, vt), (5000, ⟨#[]⟩)] _ 2 2 (by simp [Act.eval]) hown8b (by simp [Act.eval]) rfl (slat2 hx8b) (by rw [HZ.out.2]; omega) hb8b.size ?_; intro v9b w9b hown9b hg9b hat9b; have hq9b := grown_belx hq8b hown8b hg9b HBd.out.1.size (Nat.le_refl _); obtain ⟨A9b, c9b, hv9b, -, -, hS9b⟩ := hown9b.at_; rw [HLENb.out] at hv9b; subst hv9b)
                        | (refine step_appE rfl (.tmp 129) (.tmp 134) rfl wd.heap.size v8b es [(vk, vt), (5000, ⟨#[]⟩)] (some ⟨w8b.heap.size, 0, none⟩) 2 2 (by simp [Act.eval]) (hown8b.below ((Below.refl _ _).alloc (Nat.le_refl _) _)) (by simp [Act.eval]) rfl (slat2 (Blk.new w8b _ _)) (by rw [HZ.out.2]; omega) (hb8b.alloc hb8b.size _).size ?_; intro v9b w9b hown9b hg9b hat9b; have hq9b := grown_belx (hq8b.alloc hq8b.size _) (hown8b.below ((Below.refl _ _).alloc (Nat.le_refl _) _)) hg9b HBd.out.1.size (Nat.le_refl _); obtain ⟨A9b, c9b, hv9b, -, -, hS9b⟩ := hown9b.at_; rw [HLENb.out] at hv9b; subst hv9b)
                        | (refine step_appE rfl (.tmp 127) (.tmp 128) rfl wd.heap.size (.slice (some ⟨wd.heap.size, 0, none⟩) 0 0) [] es (some ⟨ba, oa, none⟩) (zy + 1) ca (by simp [Act.eval]) HE1b.out.1 (by simp [Act.eval]) HZ.out.2 (HSRCb.out _ HE1b.out.2) (by simp; omega) HE1b.out.2.size ?_; intro v8b w8b hown8b hg8b hat8b; have hb8b := grown_bel HE1b.out.2 HE1b.out.1 hg8b (Nat.le_refl _); have hq8b := HBd.out.1.trans (hb8b.mono HBd.out.1.size); simp only [List.nil_append] at hown8b; obtain ⟨q0b, q1b, -⟩ := HKQ.out _ hq8b)
                        | (refine step_appE rfl (.tmp 127) (.tmp 128) rfl wd.heap.size (.slice (some ⟨wd.heap.size, 0, none⟩) 0 0) [] es (some ⟨ba, oa, none⟩) (zy + 1) ca (by simp [Act.eval]) HE2b.out.1 (by simp [Act.eval]) HZ.out.2 (HSRCb.out _ HE2b.out.2.1) (by simp; omega) HE2b.out.2.1.size ?_; intro v8b w8b hown8b hg8b hat8b; have hb8b := grown_bel HE2b.out.2.1 HE2b.out.1 hg8b (Nat.le_refl _); have hq8b := HBd.out.1.trans (hb8b.mono HBd.out.1.size); simp only [List.nil_append] at hown8b; obtain ⟨q0b, q1b, -⟩ := HKQ.out _ hq8b; obtain ⟨gxb, hgxb⟩ : ∃ gx, gx = wd.heap.size + 1 := ⟨_, rfl⟩; have hx8b : Blk w8b gxb _ #[.int .i64 vk, .string vt, .int .i64 5000, .string ⟨#[]⟩] := (hg8b.block gxb (by rw [hgxb]; exact HE2b.out.2.2.lt) (by rw [hgxb]; simp [Value.ownBlock])).trans (by rw [hgxb]; exact HE2b.out.2.2); subst hgxb)
                        | (refine step_appE rfl (.tmp 127) (.tmp 128) rfl wd.heap.size (.slice (some ⟨wd.heap.size + 1, 0, none⟩) 0 0) [] es (some ⟨ba, oa, none⟩) (zy + 1) ca (by simp [Act.eval]) HE3b.out.1 (by simp [Act.eval]) HZ.out.2 (HSRCb.out _ HE3b.out.2.1) (by simp; omega) HE3b.out.2.1.size ?_; intro v8b w8b hown8b hg8b hat8b; have hb8b := grown_bel HE3b.out.2.1 HE3b.out.1 hg8b (Nat.le_refl _); have hq8b := HBd.out.1.trans (hb8b.mono HBd.out.1.size); simp only [List.nil_append] at hown8b; obtain ⟨q0b, q1b, -⟩ := HKQ.out _ hq8b; obtain ⟨gxb, hgxb⟩ : ∃ gx, gx = wd.heap.size := ⟨_, rfl⟩; have hx8b : Blk w8b gxb _ #[.int .i64 vk, .string vt, .int .i64 5000, .string ⟨#[]⟩] := (hg8b.block gxb (by rw [hgxb]; exact HE3b.out.2.2.lt) (by rw [hgxb]; simp [Value.ownBlock])).trans (by rw [hgxb]; exact HE3b.out.2.2); subst hgxb))
                    all_goals
                      go_wp2_with fail
                      go_meet
                      exact ⟨rfl, rfl, hq10b⟩
                  obtain ⟨rfl, rfl, hcutb⟩ := hcut
                  go_wp2_with fail
                  go_meet
                  case rel => exact hcutb
              case rest =>
                have HIc := Lib.hid (And.intro (HI8.out.1.below hcut) (HI8.out.2.below hcut))
                have hBc := hB8.trans (hcut.mono hs8)
                have hsc : w.heap.size ≤ wc.heap.size := Nat.le_trans hs8 hcut.size
                have hcp := copy_any HIc.out.1.1 (by rw [HZ.out.2]; omega)
                have HCP := Lib.hid hcp; clear hcp
                clear HI8 hcut hB8 hs8 x0 x1
                go_wp2_with fail
                refine HCP.out.mono ?_
                rintro e w11 ⟨cc, TC, rfl, hC, hTC, hb11⟩
                have hdis : ∀ b, TC b → ¬ S b := fun b hb hS => by have h1 := hTC b hb; have h2 := HIc.out.1.1.lt b hS; omega
                have hOT : Out TC (.slice Aa z ca) := fun g hg hT => by have h1 := hTC g hT; have h2 := (World.ownsRow.lt HIc.out.2 g hg).2; omega
                have hI11 := HIc.out.1.below hb11
                have hA11 := HIc.out.2.below hb11
                have hbT : ¬ TC w.heap.size := fun hT => by have h1 := hTC _ hT; have h2 := HIc.out.1.2.2.2.2.1.lt; omega
                have hB11 := hBc.trans (hb11.mono hsc)
                have hs11 : w.heap.size ≤ w11.heap.size := Nat.le_trans hsc hb11.size
                have hTl : ∀ b, TC b → w.heap.size ≤ b := fun b hb => Nat.le_trans hsc (hTC b hb)
                have HAC := Lib.hid (all_any hC (by rw [HZ.out.2]; omega))
                clear HCP HIc hBc hsc hTC hb11
                obtain ⟨hR11, low11, -, -, hX11⟩ := hI11
                go_wp2_with fail
                refine HAC.out.mono ?_
                rintro e w12 ⟨v12, rfl, ho12, hb12⟩
                obtain ⟨A12, c12, rfl, -, -, -⟩ := ho12.at_
                rw [HZ.out.2]
                have hR12 := hR11.below hb12
                have hC12 := hC.below hb12
                have hA12 := hA11.below hb12
                have hX12 := hX11.below hb12
                have hB12 := hB11.trans (hb12.mono hs11)
                have hs12 : w.heap.size ≤ w12.heap.size := Nat.le_trans hs11 hb12.size
                clear hR11 hC hA11 hX11 hB11 hs11 hb12 ho12 HAC
                obtain ⟨x0, x1⟩ := hX12.cells
                have hsg := sign_any hR12 (mk, mt) hm0 (by simp only; omega) (by rw [HZ.out.2]; omega)
                unfold SignPost sgv at hsg
                obtain ⟨⟨⟨rk, rt⟩, rm⟩, hrr⟩ : ∃ rr, sg es (mk, mt) = rr := ⟨_, rfl⟩
                rw [hrr] at hsg
                clear hrr
                simp only at hsg
                have HSG := Lib.hid hsg; clear hsg
                go_wp2_with fail
                refine HSG.out.mono ?_
                rintro e w13 ⟨S3, rfl, hR13, hF13, hn13⟩
                have hC13 := hC12.fr hF13 hdis
                have hA13 := hA12.fr hF13 HOS.out
                have hX13 := hX12.step hF13 hn13
                have hd13 : ∀ b, TC b → ¬ S3 b := fun b hb => step_not (hdis b hb) (hC12.lt b hb) hn13
                have low13 := step_low low11 hn13 hs12
                have hB13 := hB12.trans (hF13.below low11 hs12)
                have hs13 : w.heap.size ≤ w13.heap.size := Nat.le_trans hs12 hF13.size
                have hal : (addE es (mk, mt)).length ≤ 1000 := by have := addE_len es (mk, mt); have := HZ.out.2; omega
                clear HSG hR12 hC12 hA12 hX12 hB12 hs12 hF13 hn13 low11 x0 x1 hdis
                have HAR := Lib.hid (all_any hR13 hal)
                go_wp2_with fail
                refine HAR.out.mono ?_
                rintro e w14 ⟨v14, rfl, ho14, hb14⟩
                have hR14 := hR13.below hb14
                have hC14 := hC13.below hb14
                have hA14 := hA13.below hb14
                have hX14 := hX13.below hb14
                have hB14 := hB13.trans (hb14.mono hs13)
                have hs14 : w.heap.size ≤ w14.heap.size := Nat.le_trans hs13 hb14.size
                have hO14 : Out TC v14 := fun g hg hT => by have h1 := (World.ownsRow.lt ho14 g hg).1; have h2 := hC13.lt g hT; omega
                obtain ⟨A14, c14, rfl, -, -, -⟩ := ho14.at_
                clear HAR hR13 hC13 hA13 hX13 hB13 hs13 hb14
                have HAC := Lib.hid (all_any hC14 (by rw [HZ.out.2]; omega))
                go_wp2_with fail
                refine HAC.out.mono ?_
                rintro e w15 ⟨v15, rfl, ho15, hb15⟩
                obtain ⟨A15, c15, rfl, -, -, -⟩ := ho15.at_
                rw [HZ.out.2]
                have HAC2 := Lib.hid (all_any (hC14.below hb15) (by rw [HZ.out.2]; omega))
                go_wp2_with fail
                refine HAC2.out.mono ?_
                rintro e w16 ⟨v16, rfl, ho16, hb16⟩
                obtain ⟨A16, c16, rfl, -, -, hS16⟩ := ho16.at_
                have hb1416 := hb15.trans (hb16.mono hb15.size)
                have hsm := same_any es es A16 Aa c16 ca w16 hS16 (hA14.below hb1416).sl (by rw [HZ.out.2]; omega) (by rw [HZ.out.2]; omega) true (by simp)
                rw [HZ.out.2] at hsm ⊢
                have HSM := Lib.hid hsm; clear hsm hS16
                go_wp2_with fail
                refine HSM.out.mono ?_
                rintro e w17 ⟨rfl, hb17⟩
                have hb1417 := hb1416.trans (hb17.mono hb1416.size)
                have hR17 := hR14.below hb1417
                have hC17 := hC14.below hb1417
                have hX17 := hX14.below hb1417
                have hN17 := ho14.below hb1417
                have hB17 := hB14.trans (hb1417.mono hs14)
                have hs17 : w.heap.size ≤ w17.heap.size := Nat.le_trans hs14 hb1417.size
                clear HAC HAC2 HSM hR14 hC14 hA14 hX14 ho14 hB14 hs14 hb15 hb16 hb17 hb1416 hb1417 ho15 ho16
                obtain ⟨x0, x1⟩ := hX17.cells
                obtain ⟨mx, hmx⟩ : ∃ mx, mt ++ ⟨#[120]⟩ = mx := ⟨_, rfl⟩
                have hmxs : mx.size ≤ 501 := by rw [← hmx, ByteArray.size_append]; show mt.size + 1 ≤ 501; omega
                have hadd : ∀ W, (Op.stringOp .add mt ⟨#[120]⟩).run Try.prog W = .ok (.string mx) W := fun W => by
                  rw [run_string_add_sum W mt ⟨#[120]⟩ (by show mt.size + 1 ≤ _; omega), hmx]
                clear hmx
                have hsg := sign_any hC17 (0, mx) ⟨by simp only; omega, by unfold maxLen; simp only; omega⟩ (by simp only; omega) (by rw [HZ.out.2]; omega)
                unfold SignPost sgv at hsg
                obtain ⟨⟨⟨rk, rt⟩, rm⟩, hrr⟩ : ∃ rr, sg es (0, mx) = rr := ⟨_, rfl⟩
                rw [hrr] at hsg
                clear hrr
                simp only at hsg
                have HSG := Lib.hid hsg; clear hsg
                go_wp2_with fail
                refine HSG.out.mono ?_
                rintro e w18 ⟨S4, rfl, -, hF18, -⟩
                have hR18 := hR17.fr hF18 (fun b hb hT => hd13 b hT hb)
                have hN18 := hN17.fr hF18 hO14
                have hB18 := hB17.trans (hF18.below hTl hs17)
                have hs18 : w.heap.size ≤ w18.heap.size := Nat.le_trans hs17 hF18.size
                clear HSG hR17 hC17 hX17 hN17 hB17 hs17 hF18 x0 x1
                have HAR := Lib.hid (all_any hR18 hal)
                go_wp2_with fail
                refine HAR.out.mono ?_
                rintro e w19 ⟨v19, rfl, ho19, hb19⟩
                obtain ⟨A19, c19, rfl, -, -, hS19⟩ := ho19.at_
                have hsm := same_any (addE es (mk, mt)) (addE es (mk, mt)) A19 A14 c19 c14 w19 hS19 (hN18.below hb19).sl hal hal true (by simp)
                have HSM := Lib.hid hsm; clear hsm hS19
                have hB19 := hB18.trans (hb19.mono hs18)
                have hs19 : w.heap.size ≤ w19.heap.size := Nat.le_trans hs18 hb19.size
                go_wp2_with fail
                refine HSM.out.mono ?_
                rintro e w20 ⟨rfl, hb20⟩
                have hB20 := hB19.trans (hb20.mono hs19)
                go_wp2_with fail
                go_ret
                exact ⟨rfl, hB20⟩
    · have HT := Lib.hid (HFEW.out true); clear HFEW
      have HF := Lib.hid hf; clear hf
      obtain ⟨n, hn⟩ : ∃ n, l.length = n := ⟨_, rfl⟩
      rw [hn] at hln HT ⊢
      clear hn hS hd
      have hmt' : decide ((500 : Int) < (mt.size : Int)) = true := by simp; omega
      go_enter Try.func6, Try.ntmps6
      go_upto_region 1 with fail
      rw [HW0.out]
      go_wp2_with fail
      refine (small_any _).mono ?_
      rintro e w1 ⟨rfl, hb1⟩
      go_wp2_with fail
      refine (new_any _).mono ?_
      rintro e w2 ⟨r, S0, rfl, hR2, low2, hb2⟩
      have hb12 := hb1.trans (hb2.mono hb1.size)
      have hB2 := hb0.trans (hb12.mono (by omega))
      have hk2 := hk0.below hb12 (by omega)
      have x1 := hk2.cell 1
      simp at x1
      go_wp2_with fail
      refine (HT.out _ hB2 HF.out.symm).mono ?_
      rintro e w3 ⟨rfl, rfl⟩
      go_wp2_with fail
      go_ret
      exact ⟨rfl, hB2⟩
  · have HT := Lib.hid (HFEW.out false); clear HFEW
    have HF : Hid (false = fewB l 40) := Lib.hid (by simpa using hf)
    obtain ⟨n, hn⟩ : ∃ n, l.length = n := ⟨_, rfl⟩
    rw [hn] at hln HT ⊢
    clear hn hf hS hd
    go_enter Try.func6, Try.ntmps6
    go_upto_region 1 with fail
    rw [HW0.out]
    go_wp2_with fail
    refine (small_any _).mono ?_
    rintro e w1 ⟨rfl, hb1⟩
    go_wp2_with fail
    refine (new_any _).mono ?_
    rintro e w2 ⟨r, S0, rfl, hR2, low2, hb2⟩
    have hB2 := hb0.trans ((hb1.trans (hb2.mono hb1.size)).mono (by omega))
    go_wp2_with fail
    refine (HT.out _ hB2 HF.out).mono ?_
    rintro e w3 ⟨rfl, rfl⟩
    go_wp2_with fail
    go_ret
    exact ⟨rfl, hB2⟩

end Go.Proofs.Ytmlhladdoalfdaa
