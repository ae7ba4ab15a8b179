/- The law SealMarks. -/
import Derived.Test.YtmlhladdoalfdaaEl
import Derived.Deep.Cut
import Derived.Deep.CutRange
namespace Go.Proofs.Ytmlhladdoalfdaa
open Go.RowKit

/-- What the law SealMarks keeps. -/
def MInv (B : Nat) (w : World) (S : Nat → Prop) (r : Nat) (es : List En) (ms : List Sg) (wv mv : Value) : Prop :=
  Ring w S r es ∧ (∀ b, S b → B ≤ b) ∧ OwnE w B wv es ∧ Out S wv ∧ OwnG w B mv ms ∧ Out S mv

/-- The same behind Sign, ahead of the appends. -/
def MInv0 (B : Nat) (w : World) (S : Nat → Prop) (r : Nat) (es ws : List En) (ms : List Sg) (wv mv : Value) : Prop :=
  Ring w S r es ∧ (∀ b, S b → B ≤ b) ∧ OwnE w B wv ws ∧ Out S wv ∧ OwnG w B mv ms ∧ Out S mv

/-- Sign as a step of a law. -/
theorem sign_law {B : Nat} {w0 W : World} {S : Nat → Prop} {r : Nat} {es : List En} (hR : Ring W S r es) (low : ∀ b, S b → B ≤ b) (hB : Below B w0 W) (hBs : B ≤ W.heap.size) (p : En) (hp : EnOk p) (ht : p.2.size ≤ 1000) (hl : es.length ≤ 1000) :
    Calls Try.prog 11 #[.pointer (some ⟨r, 0, none⟩), .int .i64 p.1, .string p.2] W fun e w' => ∃ S', e = .returned (sgv (sg es p)) ∧ Ring w' S' r (addE es p) ∧ (∀ b, S' b → B ≤ b) ∧ Below B w0 w' ∧ B ≤ w'.heap.size ∧ Fr S W w' ∧ ∀ b, S' b → S b ∨ W.heap.size ≤ b :=
  (sign_any hR p hp ht hl).mono fun _ _ ⟨S', h1, h2, h3, h4⟩ => ⟨S', h1, h2, step_low low h4 hBs, hB.trans (h3.below low hBs), Nat.le_trans hBs h3.size, h3, h4⟩

theorem OwnE.sl {w : World} {B : Nat} {A : Option Addr} {n c : Nat} {es : List En} (h : OwnE w B (.slice A n c) es) : SlAt w.heap.size w A es := by
  obtain ⟨A', c', e, _, _, h'⟩ := h.at_
  injection e with e1 _ _
  subst e1
  exact h'
theorem OwnG.sl {w : World} {B : Nat} {A : Option Addr} {n c : Nat} {es : List Sg} (h : OwnG w B (.slice A n c) es) : GAt w.heap.size w A es := by
  obtain ⟨A', c', e, _, _, h'⟩ := h.at_
  injection e with e1 _ _
  subst e1
  exact h'
theorem pos_le_get {es : List En} {p : En} {k : Nat} (hk : k < es.length) (hg : es.getD k e0 = p) : pos es p ≤ k := by
  induction es generalizing k with
  | nil => cases hk
  | cons e es ih =>
    unfold pos
    split
    · omega
    · rename_i h
      cases k with
      | zero => exact absurd (by simpa using hg) h
      | succ k =>
        have := ih (k := k) (by simpa using hk) (by simpa using hg)
        omega
theorem OwnE.ne_own {w : World} {B B' g g' : Nat} {v v' : Value} {es : List En} {ms : List Sg} (h : OwnE w B v es) (hg : v.ownBlock = some g) (h' : OwnG w B' v' ms) (hg' : v'.ownBlock = some g') : g ≠ g' := by
  rintro rfl
  rcases h.2 with ⟨rfl, _⟩ | ⟨g1, cap, cur, rfl, _, hh, _⟩
  · cases hg
  · rcases h'.2 with ⟨rfl, _⟩ | ⟨g2, cap', cur', rfl, _, hh', _⟩
    · cases hg'
    · have e1 : g1 = g := by simpa [Value.ownBlock] using hg
      have e2 : g2 = g := by simpa [Value.ownBlock] using hg'
      subst e1; subst e2
      rw [hh] at hh'
      injection hh' with hh'
      injection hh' with _ h2 _
      exact absurd h2 (by decide)
theorem OwnE.keptG {w w' : World} {B B' : Nat} {v v' : Value} {es : List En} {ms : List Sg} (h : OwnE w B v es) (h' : OwnG w B' v' ms) (hg : w.grownBy w' v'.ownBlock) : OwnE w' B v es := by
  refine World.ownsRow.kept h hg ?_
  cases hv : v.ownBlock with
  | none => exact .inl rfl
  | some g =>
    cases hv' : v'.ownBlock with
    | none => exact .inr (by simp)
    | some g' => exact .inr (fun e => h.ne_own hv h' hv' (Option.some.inj e))
theorem OwnG.keptE {w w' : World} {B B' : Nat} {v v' : Value} {es : List En} {ms : List Sg} (h : OwnG w B v ms) (h' : OwnE w B' v' es) (hg : w.grownBy w' v'.ownBlock) : OwnG w' B v ms := by
  refine World.ownsRow.kept h hg ?_
  cases hv : v.ownBlock with
  | none => exact .inl rfl
  | some g =>
    cases hv' : v'.ownBlock with
    | none => exact .inr (by simp)
    | some g' => exact .inr (fun e => h'.ne_own hv' h hv (Option.some.inj e).symm)
theorem grown_belG {B : Nat} {w0 w w' : World} {v : Value} {ds : List Sg} (h : Below B w0 w) (hown : OwnG w B v ds) (hg : w.grownBy w' v.ownBlock) (hB : B ≤ w0.heap.size) : Below B w0 w' :=
  ⟨hg.os.trans h.os, hg.tape.trans h.tape, hg.output.trans h.output, Nat.le_trans h.size hg.size, fun k hk => (hg.block k (by have := h.size; omega) (fun e => by have := (World.ownsRow.lt hown k e.symm).1; omega)).trans (h.block k hk)⟩
theorem Bx.grown {S : Nat → Prop} {w w' : World} {g : Nat} {k m : Int} {t : ByteArray} {row : Option Nat} (h : Bx w S g k t m) (hg : w.grownBy w' row) (hne : row ≠ some g) : Bx w' S g k t m := ⟨(hg.block g h.1.lt (fun e => hne e.symm)).trans h.1, h.2⟩
theorem OwnG.ne_new {w : World} {B g n : Nat} {v : Value} {ms : List Sg} (h : OwnG w B v ms) (hw : w.heap.size ≤ g) (hn : n = g) : v.ownBlock ≠ some n := fun e => by
  have := (World.ownsRow.lt h n e).2
  omega
theorem OwnE.ne_bx {S : Nat → Prop} {w : World} {B g : Nat} {v : Value} {es : List En} {k m : Int} {t : ByteArray} (h : OwnE w B v es) (hb : Bx w S g k t m) : v.ownBlock ≠ some g := fun e => h.ne_blk e hb.1 (by decide) rfl

/-- Behind 'x := r.Sign(..)': the box, the ring. -/
def SgP (B : Nat) (w0 wr : World) (S : Nat → Prop) (r : Nat) (es' : List En) (k : Int) (t : ByteArray) (m : Int) (u : Value) (wx : World) : Prop :=
  ∃ g S', u = .pointer (some ⟨g, 0, none⟩) ∧ wr.heap.size ≤ g ∧ Bx wx S' g k t m ∧ Ring wx S' r es' ∧ (∀ b, S' b → B ≤ b) ∧ Below B w0 wx ∧ B ≤ wx.heap.size ∧ Fr S wr wx ∧ ∀ b, S' b → S b ∨ wr.heap.size ≤ b
theorem sgp_new {B : Nat} {w0 wr w5 : World} {S S5 : Nat → Prop} {r : Nat} {es' : List En} (k : Int) (t : ByteArray) (m : Int) (h1 : Ring w5 S5 r es') (h2 : ∀ b, S5 b → B ≤ b) (h3 : Below B w0 w5) (h4 : B ≤ w5.heap.size) (h5 : Fr S wr.drew w5) (h6 : ∀ b, S5 b → S b ∨ wr.drew.heap.size ≤ b) :
    SgP B w0 wr S r es' k t m (.pointer (some ⟨w5.heap.size, 0, none⟩)) (w5.alloc (.cells #[.int .i64 k, .string t, .int .i64 m] 24)) :=
  ⟨_, S5, rfl, h5.size, Bx.new h1 k t m, h1.alloc _, h2, h3.alloc h4 _, by simp; omega, Fr.trans (S := S) (S' := fun _ => False) (T := S) ⟨h5.1, h5.2.1, h5.2.2.1, h5.2.2.2.1, h5.2.2.2.2⟩ (Fr.of_below ((Below.refl _ _).alloc (Nat.le_refl _) _)) (fun _ h => h) (fun _ _ h => h.elim), h6⟩
theorem sgp_old {B : Nat} {w0 wr w5 : World} {S S5 : Nat → Prop} {r : Nat} {es' : List En} (k : Int) (t : ByteArray) (m : Int) (hB : B ≤ wr.heap.size) (hn : ¬ S wr.heap.size) (h1 : Ring w5 S5 r es') (h2 : ∀ b, S5 b → B ≤ b) (h3 : Below B w0 w5) (h4 : B ≤ w5.heap.size)
    (h5 : Fr S (wr.alloc (.cells #[.int .i64 0, .string ⟨#[]⟩, .int .i64 0] 24)).drew w5) (h6 : ∀ b, S5 b → S b ∨ (wr.alloc (.cells #[.int .i64 0, .string ⟨#[]⟩, .int .i64 0] 24)).drew.heap.size ≤ b)
    (hk : Blk w5 wr.heap.size 24 #[.int .i64 0, .string ⟨#[]⟩, .int .i64 0]) :
    SgP B w0 wr S r es' k t m (.pointer (some ⟨wr.heap.size, 0, none⟩)) (((w5.setCell ⟨wr.heap.size, 0, none⟩ (.int .i64 k)).setCell ⟨wr.heap.size, 1, none⟩ (.string t)).setCell ⟨wr.heap.size, 2, none⟩ (.int .i64 m)) := by
  have hsz : (wr.alloc (.cells #[.int .i64 0, .string ⟨#[]⟩, .int .i64 0] 24)).drew.heap.size = wr.heap.size + 1 := by
    show (wr.alloc _).heap.size = _
    simp
  rw [hsz] at h6
  have hn5 : ¬ S5 wr.heap.size := fun h => by
    rcases h6 _ h with h | h
    · exact hn h
    · omega
  have hf3 : Fr (fun b => b = wr.heap.size) w5 (((w5.setCell ⟨wr.heap.size, 0, none⟩ (.int .i64 k)).setCell ⟨wr.heap.size, 1, none⟩ (.string t)).setCell ⟨wr.heap.size, 2, none⟩ (.int .i64 m)) :=
    ⟨rfl, rfl, rfl, by simp, fun b _ hn => (Below.heap_setCell _ _ _ b hn).trans ((Below.heap_setCell _ _ _ b hn).trans (Below.heap_setCell _ _ _ b hn))⟩
  have hb := ((hk.set_ 0 (.int .i64 k)).set_ 1 (.string t)).set_ 2 (.int .i64 m)
  have h01 : Fr S wr w5 := (Fr.of_below (S := S) (((Below.refl wr.heap.size wr).alloc (Nat.le_refl _) (.cells #[.int .i64 0, .string ⟨#[]⟩, .int .i64 0] 24)).drew)).trans h5 (fun _ h => h) (fun _ _ h => h)
  refine ⟨_, S5, rfl, Nat.le_refl _, ⟨by simpa using hb, hn5⟩, h1.fr hf3 (fun b hb e => hn5 (e ▸ hb)), h2, ?_, by simp; omega, h01.trans (T := S) hf3 (fun _ h => h) (fun b hb e => by omega), fun b hb => (h6 b hb).imp (fun h => h) (fun h => by omega)⟩
  exact ((h3.setCell (p := ⟨wr.heap.size, 0, none⟩) hB _).setCell (p := ⟨wr.heap.size, 1, none⟩) hB _).setCell (p := ⟨wr.heap.size, 2, none⟩) hB _

set_option maxRecDepth 100000 in
set_option maxHeartbeats 16000000 in
theorem marks_any (l : List En) (A : Option Addr) (c : Nat) (w : World) (hS : SlAt w.heap.size w A l) (hln : l.length ≤ 9223372036854775807) (hd : ∀ d ∈ l, EnOk d) :
    Calls Try.prog 5 #[.slice A l.length c] w fun e w' => e = .returned (.bool true) ∧ Below w.heap.size w w' := by
  have HFEW : Hid (∀ (b : Bool) (w1 : World), Below w.heap.size w w1 → b = fewB l 40 → Calls Try.prog 8 #[.slice A l.length c, .int .i64 40] w1 fun e w' => e = .returned (.bool b) ∧ w1 = w') := Lib.hid fun b w1 hb he => few_any l A _ c w1 ((hS.below hb).more hb.size) rfl hln b he
  by_cases hf : fewB l 40 = true
  · have hlen : l.length ≤ 40 := by
      unfold fewB at hf
      simp at hf
      exact hf.1
    have hsz : ∀ d ∈ l, d.2.size ≤ 1000 := by
      unfold fewB at hf
      simp at hf
      intro d hd
      have := hf.2 d.1 d.2 hd
      omega
    have HS := Lib.hid hS; clear hS
    have HD : Hid (∀ d ∈ l, EnOk d ∧ d.2.size ≤ 1000) := Lib.hid fun d h => ⟨hd d h, hsz d h⟩
    clear hd hsz
    have HT := Lib.hid (HFEW.out true); clear HFEW
    have HF := Lib.hid hf; clear hf
    obtain ⟨n, hn⟩ : ∃ n, l.length = n := ⟨_, rfl⟩
    rw [hn] at hlen hln HT ⊢
    have HN := Lib.hid hn; clear hn
    go_enter Try.func5, Try.ntmps5
    go_wp2_with fail
    refine (small_any _).mono ?_
    rintro e w1 ⟨rfl, hb1⟩
    go_wp2_with fail
    refine (new_any _).mono ?_
    rintro e w2 ⟨r, S0, rfl, hR2, low2, hb2⟩
    have hs1 := hb1.size
    have hB2 := hb1.trans (hb2.mono hs1)
    go_wp2_with fail
    refine (HT.out _ hB2 HF.out.symm).mono ?_
    rintro e w3 ⟨rfl, rfl⟩
    have hinv : MInv w.heap.size w2 S0 r (ents (l.take 0)) (mades (l.take 0)) (.slice none 0 0) (.slice none 0 0) := ⟨hR2, fun b hb => Nat.le_trans hs1 (low2 b hb), OwnE.nil _ _, Out.nil _, OwnG.nil _ _, Out.nil _⟩
    have HI := Lib.hid hinv; clear hinv hR2 low2 hb1 hb2
    go_wp2_with fail
    go_loopw [5, 6, 7] (fun wv mv iv wr => ∃ (i : Nat) (S : Nat → Prop), Hid (i ≤ n) ∧ iv = .int .i64 i ∧ Hid (MInv w.heap.size wr S r (ents (l.take i)) (mades (l.take i)) wv mv) ∧ Below w.heap.size w wr) (fun _ _ iv _ => n - (intOf iv).toNat)
    case atStart => exact ⟨0, S0, Lib.hid (Nat.zero_le _), rfl, HI, hB2⟩
    case round =>
      obtain ⟨i, S, hi, rfl, hinv, hb⟩ := hrel
      by_cases hgo : i < n
      · have hil : i < l.length := by have := HN.out; omega
        obtain ⟨b1, o1, hA, hB1, x0, x1⟩ := HS.out i hil
        subst hA
        have HC : Hid (∀ W, Below w.heap.size w W → W.cell? ⟨b1, o1 + i * 2, none⟩ = some (.int .i64 (l.getD i e0).1) ∧ W.cell? ⟨b1, o1 + i * 2 + 1, none⟩ = some (.string (l.getD i e0).2) ∧ Below w.heap.size w W) := Lib.hid fun W hb => ⟨(hb.cell (p := ⟨b1, o1 + i * 2, none⟩) hB1).trans x0, (hb.cell (p := ⟨b1, o1 + i * 2 + 1, none⟩) hB1).trans x1, hb⟩
        have hpd := HD.out _ (en_get hil)
        have he1 : ents (l.take (i + 1)) = addE (ents (l.take i)) (l.getD i e0) := by rw [take_snoc hil, ents_snoc]
        have hm1 : mades (l.take (i + 1)) = mades (l.take i) ++ [sg (ents (l.take i)) (l.getD i e0)] := by rw [take_snoc hil, mades_snoc]
        have hel : (ents (l.take i)).length ≤ 40 := Nat.le_trans (ents_len _) (by rw [List.length_take]; omega)
        have hml : (mades (l.take i)).length ≤ 40 := by rw [mades_len, List.length_take]; omega
        obtain ⟨p, hp⟩ : ∃ p, l.getD i e0 = p := ⟨_, rfl⟩
        rw [hp] at HC he1 hm1 hpd
        clear hp x0 x1
        obtain ⟨es, hes⟩ : ∃ es, ents (l.take i) = es := ⟨_, rfl⟩
        obtain ⟨ms, hms⟩ : ∃ ms, mades (l.take i) = ms := ⟨_, rfl⟩
        rw [hes] at hinv he1 hm1 hel
        rw [hms] at hinv hm1 hml
        obtain ⟨x, hx⟩ : ∃ x, sg es p = x := ⟨_, rfl⟩
        rw [hx] at hm1
        have HE1 := Lib.hid (And.intro he1 (And.intro hm1 hx))
        clear hes hms he1 hm1
        obtain ⟨hR, low, hw1, hw2, hm1, hm2⟩ := hinv.out
        have hs := hb.size
        have HSG : Hid (∀ (W : World), Below w.heap.size w W → w.heap.size ≤ W.heap.size → Ring W S r es → Calls Try.prog 11 #[.pointer (some ⟨r, 0, none⟩), .int .i64 p.1, .string p.2] W fun e w' => ∃ S', e = .returned (sgv (sg es p)) ∧ Ring w' S' r (addE es p) ∧ (∀ b, S' b → w.heap.size ≤ b) ∧ Below w.heap.size w w' ∧ w.heap.size ≤ w'.heap.size ∧ Fr S W w' ∧ ∀ b, S' b → S b ∨ W.heap.size ≤ b) := Lib.hid fun W h1 h2 h3 => sign_law h3 low h1 h2 p hpd.1 hpd.2 (by omega)
        rw [hx] at HSG
        clear hx
        obtain ⟨⟨xk, xt⟩, xm⟩ := x
        unfold sgv at HSG
        simp only at HSG
        obtain ⟨c0, c1, -⟩ := HC.out _ hb
        have hb1 : Below wr.heap.size wr wr.drew := ⟨rfl, rfl, rfl, Nat.le_refl _, fun _ _ => rfl⟩
        have hb2 : Below wr.heap.size wr (wr.alloc (.cells #[.int .i64 0, .string ⟨#[]⟩, .int .i64 0] 24)).drew := ((Below.refl wr.heap.size wr).alloc (Nat.le_refl _) _).drew
        have hW : ∀ W, Below wr.heap.size wr W → Below w.heap.size w W ∧ w.heap.size ≤ W.heap.size ∧ Ring W S r es := fun W h => ⟨hb.trans (h.mono hs), Nat.le_trans hs h.size, hR.below h⟩
        have hbb : Blk (wr.alloc (.cells #[.int .i64 0, .string ⟨#[]⟩, .int .i64 0] 24)).drew wr.heap.size 24 #[.int .i64 0, .string ⟨#[]⟩, .int .i64 0] := Blk.new wr _ _
        have hnS : ¬ S wr.heap.size := hR.new_not
        have HW := Lib.hid (And.intro hW (And.intro hb1 (And.intro hb2 (And.intro hbb hnS)))); clear hW hb1 hb2 hbb hnS
        have HIV := Lib.hid (And.intro hR (And.intro low (And.intro hw1 (And.intro hw2 (And.intro hm1 hm2))))); clear hR low hw1 hw2 hm1 hm2
        go_upto_region 10 with fail
        go_cut [8] from 26 to 120 (fun x wx => SgP w.heap.size w wr S r (addE es p) xk xt xm x wx)
        case first =>
          go_region_held3 (fun W' => W'.cell? ⟨b1, o1 + i * 2, none⟩ = some (.int .i64 p.1) ∧ W'.cell? ⟨b1, o1 + i * 2 + 1, none⟩ = some (.string p.2) ∧ Below w.heap.size w W')
            (first | exact HC.out _ (hB5.alloc hs5 _) | exact HC.out _ hB6 | exact HC.out _ (by assumption) | exact HC.out _ (HW.out.1 _ HW.out.2.1).1 | exact HC.out _ (HW.out.1 _ HW.out.2.2.1).1)
            (first
              | (go_at_call 11; (first | refine (HSG.out _ (HW.out.1 _ HW.out.2.1).1 (HW.out.1 _ HW.out.2.1).2.1 (HW.out.1 _ HW.out.2.1).2.2).mono ?_ | refine (HSG.out _ (HW.out.1 _ HW.out.2.2.1).1 (HW.out.1 _ HW.out.2.2.1).2.1 (HW.out.1 _ HW.out.2.2.1).2.2).mono ?_); rintro e w5 ⟨S5, rfl, hR5, low5, hB5, hs5, hF5, hn5⟩; (try (have hk5 : Blk w5 wr.heap.size 24 #[.int .i64 0, .string ⟨#[]⟩, .int .i64 0] := Blk.fr HW.out.2.2.2.1 hF5 HW.out.2.2.2.2; have z0 := hk5.cell 0; have z1 := hk5.cell 1; have z2 := hk5.cell 2; have y0 := hk5.frozen 0; have y1 := hk5.frozen 1; have y2 := hk5.frozen 2; simp at z0 z1 z2; have hB6 := ((hB5.setCell (p := ⟨wr.heap.size, 0, none⟩) hs (.int .i64 xk)).setCell (p := ⟨wr.heap.size, 1, none⟩) hs (.string xt)).setCell (p := ⟨wr.heap.size, 2, none⟩) hs (.int .i64 xm)))))
          · go_wp2_with fail
            go_meet
            case rel => exact sgp_new xk xt xm hR5 low5 hB5 hs5 hF5 hn5
          · go_wp2_with fail
            go_meet
            case rel => exact sgp_old xk xt xm hs HW.out.2.2.2.2 hR5 low5 hB5 hs5 hF5 hn5 hk5
        case rest =>
          obtain ⟨g8, S1, rfl, hg8, hbx, hR1, low1, hB1', hs1', hF1, hn1⟩ := hcut
          obtain ⟨-, -, hw1, hw2, hm1, hm2⟩ := HIV.out
          have hW1 : OwnE wc w.heap.size u5 es := hw1.fr hF1 hw2
          have hW2 : Out S1 u5 := hw2.stepE hw1 hn1
          have hM1 : OwnG wc w.heap.size u6 ms := hm1.fr hF1 hm2
          have hM2 : Out S1 u6 := hm2.stepG hm1 hn1
          have hM3 : u6.ownBlock ≠ some g8 := hm1.ne_new hg8 rfl
          clear HIV HSG HW hw1 hw2 hm1 hm2 hg8 hF1 hn1 c0 c1 hb hs
          obtain ⟨x0, x1, x2⟩ := hbx.cells
          obtain ⟨Aw, cw, rfl, hcw, hcm, -⟩ := hW1.at_
          have hbl := (Below.refl wc.heap.size wc).alloc (Nat.le_refl _) (.cells #[.int .i64 xk, .string xt, .int .i64 xm] 24)
          have HBL := Lib.hid (And.intro hbl (litG1 wc xk xt xm)); clear hbl
          go_upto_region 12 with (at_builtin; refine appG_at rfl (.tmp 44) (.tmp 46) rfl w.heap.size u6 ms [((xk, xt), xm)] (some ⟨wc.heap.size, 0, none⟩) 1 1 rfl (hM1.below HBL.out.1) rfl rfl HBL.out.2 (by omega) (Nat.le_trans hs1' HBL.out.1.size) ?_; intro v6 w6 hm6 hg6 hat6)
          have hR6 := (hR1.below HBL.out.1).grown hg6 hM2
          have hM6 := hM2.grown (hR1.below HBL.out.1) hat6
          have hW6 := (hW1.below HBL.out.1).keptG (hM1.below HBL.out.1) hg6
          have hX6 := (hbx.below HBL.out.1).grown hg6 hM3
          have hB6 := grown_belG (hB1'.trans (HBL.out.1.mono hs1')) (hM1.below HBL.out.1) hg6 (Nat.le_refl _)
          have hs6 : w.heap.size ≤ w6.heap.size := hB6.size
          obtain ⟨c0, c1, -⟩ := HC.out _ hB6
          obtain ⟨x0, x1, x2⟩ := hX6.cells
          clear hg6 hat6 HBL hM1 hM2 hM3 hW1 hR1 hbx hB1' hs1'
          have hkey : p.1 < 0 ∨ 5000 ≤ p.1 ∨ okKey p.1 = true := by
            unfold okKey
            simp
            omega
          rcases hkey with hk | hk | hk
          · have hes : addE es p = es := addE_bad (by unfold okKey; simp; omega)
            rw [hes] at hR6 HE1
            have HF6 : Hid (MInv w.heap.size w6 S1 r (ents (l.take (i + 1))) (mades (l.take (i + 1))) (.slice Aw es.length cw) v6) := Lib.hid (by rw [HE1.out.1, HE1.out.2.1]; exact ⟨hR6, low1, hW6, hW2, hm6, hM6⟩)
            clear hR6 low1 hW6 hW2 hm6 hM6 hX6 hes
            go_wp2_with fail
            go_roundw
            case rel => exact ⟨i + 1, S1, Lib.hid (by omega), rfl, HF6, hB6⟩
            case measure => simp [intOf]; omega
          · have hes : addE es p = es := addE_bad (by unfold okKey; simp; omega)
            rw [hes] at hR6 HE1
            have HF6 : Hid (MInv w.heap.size w6 S1 r (ents (l.take (i + 1))) (mades (l.take (i + 1))) (.slice Aw es.length cw) v6) := Lib.hid (by rw [HE1.out.1, HE1.out.2.1]; exact ⟨hR6, low1, hW6, hW2, hm6, hM6⟩)
            clear hR6 low1 hW6 hW2 hm6 hM6 hX6 hes
            have hk0 : ¬ p.1 < 0 := by omega
            go_wp2_with fail
            go_roundw
            case rel => exact ⟨i + 1, S1, Lib.hid (by omega), rfl, HF6, hB6⟩
            case measure => simp [intOf]; omega
          · have hk0 : ¬ p.1 < 0 := by unfold okKey at hk; simp at hk; omega
            have hk1 : p.1 < 5000 := by unfold okKey at hk; simp at hk; omega
            have hsg : sg es p = (p, (pos es p : Int)) := by unfold sg; rw [if_pos hk]
            have hx := HE1.out.2.2
            rw [hsg] at hx
            simp only [Prod.mk.injEq] at hx
            obtain ⟨rfl, rfl⟩ := hx
            simp only at c0 c1 hk0 hk1 hk
            obtain ⟨q, hq⟩ : ∃ q, pos es (xk, xt) = q := ⟨_, rfl⟩
            obtain ⟨z, hz⟩ : ∃ z, es.length = z := ⟨_, rfl⟩
            have hSW := hW6.sl
            have hq1 : q ≤ z := by rw [← hq, ← hz]; exact pos_le es _
            have HGET : Hid (∀ k, k < z → es.getD k e0 = (xk, xt) → q ≤ k) := Lib.hid fun k hkz hg => by rw [← hq]; exact pos_le_get (by omega) hg
            have HNEQ : Hid (∀ k, k < z → es.getD k e0 ≠ (xk, xt) → q ≠ k) := Lib.hid fun k hkz hg hqk => hg (by rw [← hqk, ← hq]; exact pos_get (pos_lt.2 (by omega)))
            have HQ := Lib.hid (And.intro hq (And.intro hz (And.intro hW6 hSW)))
            rw [hz] at hcw hel hW2 HQ ⊢
            rw [hq] at hX6 x2 hm6
            clear hq hsg hW6 hSW
            go_wp2_with fail
            have HSZ := Lib.hid hz; clear hz
            go_loopw [9, 10] (fun ov kv wr2 => ∃ (k j : Nat), Hid (k ≤ z) ∧ kv = .int .i64 k ∧ ov = .bool (decide (q < k)) ∧ wr2 = w6.drewN j) (fun _ kv _ => z - (intOf kv).toNat)
            case atStart => exact ⟨0, 0, Lib.hid (Nat.zero_le _), rfl, by simp, rfl⟩
            case round =>
              obtain ⟨k, j, hkz, rfl, rfl, rfl⟩ := hrel
              by_cases hgk : k < z
              · obtain ⟨b2, o2, hA2, _, y0, y1⟩ := HQ.out.2.2.2 k (by rw [HSZ.out]; exact hgk)
                subst hA2
                have hget := Lib.hid (HGET.out k hgk)
                have hneq := Lib.hid (HNEQ.out k hgk)
                obtain ⟨e, he⟩ : ∃ e, es.getD k e0 = e := ⟨_, rfl⟩
                rw [he] at y0 y1 hget hneq
                obtain ⟨ek, et⟩ := e
                simp only at y0 y1
                clear he
                by_cases hqk : q < k
                · have hd1 : decide (q < k) = true := by simpa using hqk
                  have hd2 : Hid (true = decide (q < k + 1)) := Lib.hid (by simp; omega)
                  rw [hd1]
                  clear hd1 hget hneq
                  go_wp2_with fail
                  go_quiet (fail)
                  go_wp2_with fail
                  go_roundw
                  case rel => exact ⟨k + 1, _, Lib.hid (by omega), rfl, by rw [← hd2.out], rfl⟩
                  case measure => simp [intOf]; omega
                · have hd1 : decide (q < k) = false := by simpa using hqk
                  rw [hd1]
                  clear hd1
                  by_cases h1 : ek = xk
                  · subst h1
                    by_cases h2 : et = xt
                    · subst h2
                      have hd2 : Hid (true = decide (q < k + 1)) := Lib.hid (by have := hget.out rfl; simp; omega)
                      clear hget hneq
                      go_wp2_with fail
                      go_quiet (fail)
                      go_wp2_with fail
                      go_roundw
                      case rel => exact ⟨k + 1, _, Lib.hid (by omega), rfl, by rw [← hd2.out], rfl⟩
                      case measure => simp [intOf]; omega
                    · have h2' := toList_ne h2
                      have hd2 : Hid (false = decide (q < k + 1)) := Lib.hid (by have := hneq.out (by simpa using h2); simp; omega)
                      clear hget hneq
                      go_wp2_with fail
                      go_quiet (fail)
                      go_wp2_with fail
                      go_roundw
                      case rel => exact ⟨k + 1, _, Lib.hid (by omega), rfl, by rw [← hd2.out], rfl⟩
                      case measure => simp [intOf]; omega
                  · have h1' : (ek == xk) = false := by simpa using h1
                    have hd2 : Hid (false = decide (q < k + 1)) := Lib.hid (by have := hneq.out (by simp [h1]); simp; omega)
                    clear hget hneq
                    go_wp2_with fail
                    go_quiet (fail)
                    go_wp2_with fail
                    go_roundw
                    case rel => exact ⟨k + 1, _, Lib.hid (by omega), rfl, by rw [← hd2.out], rfl⟩
                    case measure => simp [intOf]; omega
              · have hke : z = k := by have := hkz.out; omega
                subst hke
                have HD7 : Hid (Below w6.heap.size w6 (w6.drewN j)) := Lib.hid ⟨rfl, rfl, rfl, Nat.le_refl _, fun _ _ => rfl⟩
                have hR7 := hR6.below HD7.out
                have hW7 := HQ.out.2.2.1.below HD7.out
                have hM7 := hm6.below HD7.out
                have hX7 := hX6.below HD7.out
                have hB7 := hB6.trans (HD7.out.mono hs6)
                have hs7 : w.heap.size ≤ (w6.drewN j).heap.size := hs6
                obtain ⟨w7, hw7⟩ : ∃ w7, w6.drewN j = w7 := ⟨_, rfl⟩
                rw [hw7] at hR7 hW7 hM7 hX7 hB7 hs7 ⊢
                clear hw7 HD7 hR6 hm6 hX6 hB6 hs6 c0 c1 x0 x1 x2 hkz HGET HNEQ
                obtain ⟨c0, c1, -⟩ := HC.out _ hB7
                obtain ⟨x0, x1, x2⟩ := hX7.cells
                have hpo := HQ.out.1
                by_cases hqz : q < z
                · have hin : (xk, xt) ∈ es := pos_lt.2 (by rw [hpo, HSZ.out]; exact hqz)
                  rw [addE_in hin] at hR7 HE1
                  rw [hpo] at HE1
                  have HF7 : Hid (∀ t, MInv w.heap.size (w7.drewN t) S1 r (ents (l.take (i + 1))) (mades (l.take (i + 1))) (.slice Aw z cw) v6 ∧ Below w.heap.size w (w7.drewN t)) := Lib.hid fun t => by
                    have hd : Below w7.heap.size w7 (w7.drewN t) := ⟨rfl, rfl, rfl, Nat.le_refl _, fun _ _ => rfl⟩
                    rw [HE1.out.1, HE1.out.2.1]
                    exact ⟨⟨hR7.below hd, low1, hW7.below hd, hW2, hM7.below hd, hM6⟩, hB7.trans (hd.mono hs7)⟩
                  obtain ⟨b2, o2, hA2, _, y0, y1⟩ := hW7.sl q (by rw [HSZ.out]; exact hqz)
                  subst hA2
                  have hg := pos_get hin
                  rw [hpo] at hg
                  rw [hg] at y0 y1
                  simp only at y0 y1
                  have hd1 : decide (q < z) = true := by simpa using hqz
                  rw [hd1]
                  have hmk : ¬ (q : Int) < 0 := by omega
                  have hmz : ¬ (z : Int) ≤ (q : Int) := by omega
                  clear hR7 hW7 hM7 hX7 hB7 hg hpo hin hd1
                  go_wp2_with fail
                  go_quiet (fail)
                  go_wp2_with fail
                  go_roundw
                  case rel => exact ⟨i + 1, S1, Lib.hid (by omega), rfl, Lib.hid (HF7.out _).1, (HF7.out _).2⟩
                  case measure => simp [intOf]; omega
                · have hqe : q = z := by omega
                  subst hqe
                  have hout : (xk, xt) ∉ es := fun h => by have := pos_lt.1 h; rw [hpo, HSZ.out] at this; omega
                  rw [addE_new hk hout] at hR7 HE1
                  rw [hpo] at HE1
                  have hd1 : decide (q < q) = false := by simp
                  rw [hd1]
                  have hbl := (Below.refl w7.heap.size w7).alloc (Nat.le_refl _) (.cells #[.int .i64 xk, .string xt] 33)
                  have HBL := Lib.hid (And.intro hbl (lit1 w7 xk xt)); clear hbl
                  go_upto_region 20 with (at_builtin; refine appE_at rfl (.tmp 82) (.tmp 87) rfl w.heap.size (.slice Aw q cw) es [(xk, xt)] (some ⟨w7.heap.size, 0, none⟩) 1 1 rfl (hW7.below HBL.out.1) rfl rfl HBL.out.2 (by rw [HSZ.out]; omega) (Nat.le_trans hs7 HBL.out.1.size) ?_; intro v8 w8 hW8 hg8 hat8)
                  have hR8 := (hR7.below HBL.out.1).grown hg8 hW2
                  have hO8 := hW2.grown (hR7.below HBL.out.1) hat8
                  have hM8 := (hM7.below HBL.out.1).keptE (hW7.below HBL.out.1) hg8
                  have hX8 := (hX7.below HBL.out.1).grown hg8 ((hW7.below HBL.out.1).ne_bx (hX7.below HBL.out.1))
                  have hB8 := grown_bel (hB7.trans (HBL.out.1.mono hs7)) (hW7.below HBL.out.1) hg8 (Nat.le_refl _)
                  have hs8 : w.heap.size ≤ w8.heap.size := hB8.size
                  obtain ⟨c0', c1', -⟩ := HC.out _ hB8
                  obtain ⟨x0', x1', x2'⟩ := hX8.cells
                  clear hg8 hat8 HBL hR7 hM7 hX7 hB7 hs7 hW7 c0 c1 x0 x1 x2
                  obtain ⟨A8, c8, rfl, hc8, hm8, hS8⟩ := hW8.at_
                  have hl8 : (es ++ [(xk, xt)]).length = q + 1 := by rw [List.length_append, HSZ.out]; rfl
                  rw [hl8] at hc8 hW8 hO8 ⊢
                  obtain ⟨b2, o2, hA2, _, y0, y1⟩ := hS8 q (by rw [hl8]; omega)
                  subst hA2
                  have hg : (es ++ [(xk, xt)]).getD q e0 = (xk, xt) := by rw [List.getD_eq_getElem?_getD, List.getElem?_append_right (by rw [HSZ.out]; exact Nat.le_refl _), HSZ.out, Nat.sub_self]; rfl
                  rw [hg] at y0 y1
                  simp only at y0 y1
                  have HF8 : Hid (∀ t, MInv w.heap.size (w8.drewN t) S1 r (ents (l.take (i + 1))) (mades (l.take (i + 1))) (.slice (some ⟨b2, o2, none⟩) (q + 1) c8) v6 ∧ Below w.heap.size w (w8.drewN t)) := Lib.hid fun t => by
                    have hd : Below w8.heap.size w8 (w8.drewN t) := ⟨rfl, rfl, rfl, Nat.le_refl _, fun _ _ => rfl⟩
                    rw [HE1.out.1, HE1.out.2.1]
                    exact ⟨⟨hR8.below hd, low1, hW8.below hd, hO8, hM8.below hd, hM6⟩, hB8.trans (hd.mono hs8)⟩
                  have hmk : ¬ (q : Int) < 0 := by omega
                  clear hR8 hW8 hO8 hM8 hX8 hB8 hg hpo hout hd1 hl8 hS8
                  have hwr : IntKind.i64.wrap (((q + 1 : Nat) : Int) - 1) = (q : Int) := by rw [IntKind.wrap_i64]; omega
                  go_wp2_with fail
                  go_quiet (fail)
                  go_wp2_with fail
                  go_roundw
                  case rel => exact ⟨i + 1, S1, Lib.hid (by omega), rfl, Lib.hid (HF8.out _).1, (HF8.out _).2⟩
                  case measure => simp [intOf]; omega
      · have hie : n = i := by have := hi.out; omega
        have HTK : Hid (l.take i = l) := Lib.hid (List.take_of_length_le (by have := HN.out; omega))
        rw [HTK.out] at hinv
        have hel : (ents l).length ≤ 40 := Nat.le_trans (ents_len _) (by have := HN.out; omega)
        have hml : (mades l).length = n := by rw [mades_len]; exact HN.out
        have HAG : Hid (∀ k, k < n → addE (ents l) (l.getD k e0) = ents l ∧ sg (ents l) (l.getD k e0) = (mades l).getD k g0) := Lib.hid fun k hk => ⟨again_add (by have := HN.out; omega), again_sg (by have := HN.out; omega)⟩
        obtain ⟨es, hes⟩ : ∃ es, ents l = es := ⟨_, rfl⟩
        obtain ⟨ms, hms⟩ : ∃ ms, mades l = ms := ⟨_, rfl⟩
        rw [hes] at hinv HAG hel
        rw [hms] at hinv HAG hml
        clear hes hms HTK hi hgo
        subst hie
        obtain ⟨hR, low, hw1, hw2, hm1, hm2⟩ := hinv.out
        have hs := hb.size
        have HALL := Lib.hid (all_any hR (by omega))
        obtain ⟨Aw, cw, rfl, hcw, hcm, hSW⟩ := hw1.at_
        obtain ⟨Am, cm, rfl, hdm, hem, hSM⟩ := hm1.at_
        have HIV := Lib.hid (And.intro hR (And.intro low (And.intro hw1 (And.intro hw2 (And.intro hm1 hm2))))); clear hR low hw1 hw2 hm1 hm2
        have HSW := Lib.hid hSW; clear hSW hSM
        go_wp2_with fail
        refine HALL.out.mono ?_
        rintro e w4 ⟨v4, rfl, ho4, hb4⟩
        obtain ⟨A4, c4, rfl, -, -, hS4⟩ := ho4.at_
        have hsm := same_any es es A4 Aw c4 cw w4 hS4 ((HSW.out.below hb4).more hb4.size) (by omega) (by omega) true (by simp)
        have HSM := Lib.hid hsm; clear hsm hS4 ho4
        have hR4 := HIV.out.1.below hb4
        go_wp2_with fail
        refine HSM.out.mono ?_
        rintro e w5 ⟨rfl, hb5⟩
        have hb45 := hb4.trans (hb5.mono hb4.size)
        have HI5 : Hid (MInv w.heap.size w5 S r es ms (.slice Aw es.length cw) (.slice Am ms.length cm)) := Lib.hid (by
          obtain ⟨h1, h2, h3, h4, h5, h6⟩ := HIV.out
          exact ⟨h1.below hb45, h2, h3.below hb45, h4, h5.below hb45, h6⟩)
        have hB5 := hb.trans (hb45.mono hs)
        clear HIV HSM HALL hR4 hb4 hb5 hb45 hb hs HSW hinv
        obtain ⟨w6, hw6⟩ : ∃ w6, w6 = w5 := ⟨_, rfl⟩
        rw [← hw6] at HI5 hB5 ⊢
        clear hw6
        rw [hml] at hdm HI5
        go_wp2_with fail
        go_loopw [11] (fun iv wr => ∃ (i : Nat) (S : Nat → Prop), Hid (i ≤ n) ∧ iv = .int .i64 i ∧ Hid (MInv w.heap.size wr S r es ms (.slice Aw es.length cw) (.slice Am n cm)) ∧ Below w.heap.size w wr) (fun iv _ => n - (intOf iv).toNat)
        case atStart => exact ⟨0, S, Lib.hid (Nat.zero_le _), rfl, HI5, hB5⟩
        case round =>
          obtain ⟨i, S2, hi, rfl, hinv, hb⟩ := hrel
          by_cases hgo : i < n
          · have hil : i < l.length := by have := HN.out; omega
            obtain ⟨b1, o1, hA, hB1, x0, x1⟩ := HS.out i hil
            subst hA
            obtain ⟨hR, low, hw1, hw2, hm1, hm2⟩ := hinv.out
            obtain ⟨b3, o3, hA3, -, -, -, -⟩ := hm1.sl i (by omega)
            subst hA3
            have HG : Hid (∀ W, OwnG W w.heap.size (.slice (some ⟨b3, o3, none⟩) n cm) ms → W.cell? ⟨b3, o3 + i * 3, none⟩ = some (.int .i64 (ms.getD i g0).1.1) ∧ W.cell? ⟨b3, o3 + i * 3 + 1, none⟩ = some (.string (ms.getD i g0).1.2) ∧ W.cell? ⟨b3, o3 + i * 3 + 2, none⟩ = some (.int .i64 (ms.getD i g0).2)) := Lib.hid fun W h => by
              obtain ⟨b', o', e, _, h1, h2, h3⟩ := h.sl i (by omega)
              injection e with e
              injection e with e1 e2
              subst e1; subst e2
              exact ⟨h1, h2, h3⟩
            have HC : Hid (∀ W, Below w.heap.size w W → W.cell? ⟨b1, o1 + i * 2, none⟩ = some (.int .i64 (l.getD i e0).1) ∧ W.cell? ⟨b1, o1 + i * 2 + 1, none⟩ = some (.string (l.getD i e0).2)) := Lib.hid fun W hb => ⟨(hb.cell (p := ⟨b1, o1 + i * 2, none⟩) hB1).trans x0, (hb.cell (p := ⟨b1, o1 + i * 2 + 1, none⟩) hB1).trans x1⟩
            have hpd := HD.out _ (en_get hil)
            obtain ⟨ha1, ha2⟩ := HAG.out i hgo
            obtain ⟨p, hp⟩ : ∃ p, l.getD i e0 = p := ⟨_, rfl⟩
            rw [hp] at HC hpd ha1 ha2
            obtain ⟨x, hx⟩ : ∃ x, ms.getD i g0 = x := ⟨_, rfl⟩
            rw [hx] at HG ha2
            clear hp hx x0 x1
            have hs := hb.size
            have HSG : Hid (∀ (W : World), Below w.heap.size w W → w.heap.size ≤ W.heap.size → Ring W S2 r es → Calls Try.prog 11 #[.pointer (some ⟨r, 0, none⟩), .int .i64 p.1, .string p.2] W fun e w' => ∃ S', e = .returned (sgv x) ∧ Ring w' S' r es ∧ (∀ b, S' b → w.heap.size ≤ b) ∧ Below w.heap.size w w' ∧ w.heap.size ≤ w'.heap.size ∧ Fr S2 W w' ∧ ∀ b, S' b → S2 b ∨ W.heap.size ≤ b) := Lib.hid fun W h1 h2 h3 => by
              have h := sign_law h3 low h1 h2 p hpd.1 hpd.2 (by omega)
              rw [ha1, ha2] at h
              exact h
            obtain ⟨⟨xk, xt⟩, xm⟩ := x
            unfold sgv at HSG
            simp only at HSG HG
            have hd : Below wr.heap.size wr wr.drew := ⟨rfl, rfl, rfl, Nat.le_refl _, fun _ _ => rfl⟩
            have hdl : Below w.heap.size w wr.drew ∧ w.heap.size ≤ wr.drew.heap.size ∧ Ring wr.drew S2 r es ∧ OwnG wr.drew w.heap.size (.slice (some ⟨b3, o3, none⟩) n cm) ms ∧ OwnE wr.drew w.heap.size (.slice Aw es.length cw) es := ⟨hb.trans (hd.mono hs), hs, hR.below hd, hm1.below hd, hw1.below hd⟩
            have HD2 := Lib.hid hdl; clear hdl hd
            have HO := Lib.hid (And.intro hw2 hm2); clear hw2 hm2
            have HNEW : Hid (∀ (w5 : World), Fr S2 wr.drew w5 → OwnG w5 w.heap.size (.slice (some ⟨b3, o3, none⟩) n cm) ms) := Lib.hid fun w5 h => HD2.out.2.2.2.1.fr h HO.out.2
            obtain ⟨c0, c1⟩ := HC.out _ hb
            obtain ⟨d0, d1, d2⟩ := HG.out _ hm1
            clear hR hw1 hm1 hinv
            go_wp2_with fail
            go_region_held3 (fun W' => W'.cell? ⟨b1, o1 + i * 2, none⟩ = some (.int .i64 p.1) ∧ W'.cell? ⟨b1, o1 + i * 2 + 1, none⟩ = some (.string p.2) ∧ W'.cell? ⟨b3, o3 + i * 3, none⟩ = some (.int .i64 xk) ∧ W'.cell? ⟨b3, o3 + i * 3 + 1, none⟩ = some (.string xt) ∧ W'.cell? ⟨b3, o3 + i * 3 + 2, none⟩ = some (.int .i64 xm))
              (first | exact ⟨(HC.out _ hB5').1, (HC.out _ hB5').2, HG.out _ (HNEW.out _ hF5)⟩ | exact ⟨(HC.out _ HD2.out.1).1, (HC.out _ HD2.out.1).2, HG.out _ HD2.out.2.2.2.1⟩)
              (first
                | (go_at_call 11; refine (HSG.out _ HD2.out.1 HD2.out.2.1 HD2.out.2.2.1).mono ?_; rintro e w7 ⟨S5, rfl, hR5, low5, hB5', hs5, hF5, hn5⟩))
            have HF7 : Hid (MInv w.heap.size w7 S5 r es ms (.slice Aw es.length cw) (.slice (some ⟨b3, o3, none⟩) n cm)) := Lib.hid ⟨hR5, low5, HD2.out.2.2.2.2.fr hF5 HO.out.1, HO.out.1.stepE HD2.out.2.2.2.2 hn5, HNEW.out _ hF5, HO.out.2.stepG HD2.out.2.2.2.1 hn5⟩
            clear hR5 low5 hF5 hn5 HD2 HO HNEW HSG HG HC
            go_wp2_with fail
            go_roundw
            case rel => exact ⟨i + 1, S5, Lib.hid (by omega), rfl, HF7, hB5'⟩
            case measure => simp [intOf]; omega
          · have hie : n = i := by have := hi.out; omega
            subst hie
            obtain ⟨hR, low, hw1, hw2, hm1, hm2⟩ := hinv.out
            have hs := hb.size
            have HALL := Lib.hid (all_any hR (by omega))
            have HSW := Lib.hid hw1.sl
            clear hR low hw1 hw2 hm1 hm2 hinv hi hgo
            go_wp2_with fail
            refine HALL.out.mono ?_
            rintro e w7 ⟨v7, rfl, ho7, hb7⟩
            obtain ⟨A7, c7, rfl, -, -, hS7⟩ := ho7.at_
            have hsm := same_any es es A7 Aw c7 cw w7 hS7 ((HSW.out.below hb7).more hb7.size) (by omega) (by omega) true (by simp)
            have HSM := Lib.hid hsm; clear hsm hS7 ho7
            go_wp2_with fail
            refine HSM.out.mono ?_
            rintro e w8 ⟨rfl, hb8⟩
            have hb78 := hb7.trans (hb8.mono hb7.size)
            have hB8 := hb.trans (hb78.mono hs)
            go_wp2_with fail
            go_ret
            exact ⟨rfl, hB8⟩
  · have HT := Lib.hid (HFEW.out false); clear HFEW
    have HF : Hid (false = fewB l 40) := Lib.hid (by simpa using hf)
    obtain ⟨n, hn⟩ : ∃ n, l.length = n := ⟨_, rfl⟩
    rw [hn] at hln HT ⊢
    clear hn hf hS hd
    go_enter Try.func5, Try.ntmps5
    go_wp2_with fail
    refine (small_any _).mono ?_
    rintro e w1 ⟨rfl, hb1⟩
    go_wp2_with fail
    refine (new_any _).mono ?_
    rintro e w2 ⟨r, S0, rfl, hR2, low2, hb2⟩
    have hs1 := hb1.size
    have hB2 := hb1.trans (hb2.mono hs1)
    go_wp2_with fail
    refine (HT.out _ hB2 HF.out).mono ?_
    rintro e w3 ⟨rfl, rfl⟩
    go_wp2_with fail
    go_ret
    exact ⟨rfl, hB2⟩

end Go.Proofs.Ytmlhladdoalfdaa
