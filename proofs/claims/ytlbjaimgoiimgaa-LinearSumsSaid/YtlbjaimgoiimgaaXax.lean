/- Walk of the law's number. The law's row of numbers. Walk of Kernel. The reference's Kernel. Walk of Check. The reference's Check. -/
import Derived.Test.YtlbjaimgoiimgaaXav
import Derived.Test.YtlbjaimgoiimgaaXaw

namespace Go.Proofs.Ytlbjaimgoiimgaa
open Go.RowKit

set_option maxRecDepth 100000 in
set_option maxHeartbeats 4000000 in
theorem lnumber_fr (k : Int) (w : World) (hk : isI k) (h1 : isI 1) (hb : ab k < pw 60) :
    Calls Try.prog 24 #[.int .i64 k] w fun e w' => ∃ f : Fc, e = .returned f.v ∧ FO w' w.heap.size f.v (k : Rat).num (k : Rat).den ∧ Rb (k : Rat) 60 60 ∧ Below w.heap.size w w' := by
  have HB := Lib.hid hb; clear hb
  go_enter Try.func24, Try.ntmps24
  go_wp2_with fail
  have hbA : Below w.heap.size w (w.alloc (.cells #[.int .i64 0, .slice none 0 0, .int .i64 0, .slice none 0 0] 40)) := (Below.refl _ _).alloc (Nat.le_refl _) _
  have kA := Blk.new w 40 #[.int .i64 0, .slice none 0 0, .int .i64 0, .slice none 0 0]
  obtain ⟨G, hG⟩ : ∃ G, w.heap.size = G := ⟨_, rfl⟩
  rw [hG] at kA ⊢
  generalize w.alloc (.cells #[.int .i64 0, .slice none 0 0, .int .i64 0, .slice none 0 0] 40) = W at *
  (with_reducible refine (rfof_y k W hk h1 HB.out).mono ?_)
  rintro e u1 ⟨⟨r1, C1, l1, i1, r2, C2, l2, i2⟩, rfl, ho, rb, hb1⟩
  have q4 := kA.below hb1 kA.lt
  have hT := hbA.trans (hb1.mono hbA.size)
  have hge : w.heap.size ≤ G := by omega
  have hGl := q4.lt
  obtain ⟨V, hV, hbV, hsV, kV, _, hFO⟩ := putf (s := r1) (A := C1) (n := l1) (c := i1) (s' := r2) (A' := C2) (n' := l2) (c' := i2) q4 hT hge
  have hov := hFO _ _ _ _ ho kA.lt
  have hbW : Below V.heap.size V (V.alloc (.cells #[.int .i64 r1, .slice C1 l1 i1, .int .i64 r2, .slice C2 l2 i2] 40)) := (Below.refl _ _).alloc (Nat.le_refl _) _
  have HO := Lib.hid ((hov.below hbW).mono hbA.size)
  have HBV := Lib.hid (hbV.trans (hbW.mono hbV.size))
  have HRB := Lib.hid rb
  have kW := kV.below hbW kV.lt
  have r0' := q4.cell 0
  have r1' := q4.cell 1
  have r2' := q4.cell 2
  have r3' := q4.cell 3
  have f0 := q4.frozen 0
  have f1 := q4.frozen 1
  have f2 := q4.frozen 2
  have f3 := q4.frozen 3
  simp at r0' r1' r2' r3'
  have X0 := Lib.hid (kW.cell 0)
  have X1 := Lib.hid (kW.cell 1)
  have X2 := Lib.hid (kW.cell 2)
  have X3 := Lib.hid (kW.cell 3)
  clear kA ho rb q4 kV kW hov hFO hbW hbV hbA
  go_wp2_with fail
  rw [← hV]
  refine bodyPost_ret (v := .agg #[.int .i64 r1, .slice C1 l1 i1, .int .i64 r2, .slice C2 l2 i2]) (by simp [results, Try.results24, go_sem, X0.out, X1.out, X2.out, X3.out]) rfl ?_
  exact ⟨⟨r1, C1, l1, i1, r2, C2, l2, i2⟩, rfl, HO.out, HRB.out, HBV.out⟩

end Go.Proofs.Ytlbjaimgoiimgaa

namespace Go.Proofs.Ytlbjaimgoiimgaa
open Go.RowKit

/-- What a number says. -/
def Fd.of (x : Rat) : Fd := ⟨sgn x.num, D (ab x.num), sgn (x.den : Int), D (ab (x.den : Int))⟩
theorem Fd.of_q (x : Rat) : (Fd.of x).q = x := by
  unfold Fd.q Fd.of
  simp only
  rw [nv_D (ab_nonneg _), nv_D (ab_nonneg _), sgn_ab, sgn_ab]
  exact Rat.num_divInt_den x
theorem Fd.of_R {x : Rat} (h : Rb x 60 60) : (Fd.of x).R := ⟨x.num, x.den, ⟨rfl, rfl, h.n⟩, ⟨rfl, rfl, h.d⟩, FR.of x⟩
theorem BV.ar {w : World} {s : Int} {A : Option Addr} {n c : Nat} {z : Int} (h : BV w w.heap.size (.agg #[.int .i64 s, .slice A n c]) z) : s = sgn z ∧ Ar w s (D (ab z)) A n c := by
  obtain ⟨A', c', e, h1, h2, h3⟩ := h
  injection e with e
  have e0 := congrArg (fun (a : Array Value) => a[0]?) e
  have e1 := congrArg (fun (a : Array Value) => a[1]?) e
  simp at e0 e1
  obtain ⟨rfl, rfl, rfl⟩ := e1
  exact ⟨e0, rfl, h3, h1, h2⟩
theorem FA.is {S : Nat → Prop} {w : World} {f : Fc} {x : Rat} (h : FA S w f x) : FdIs w f (Fd.of x) := by
  obtain ⟨a1, a2⟩ := h.fv.a.ar
  obtain ⟨b1, b2⟩ := h.fv.b.ar
  exact ⟨a1, b1, a2, b2⟩
theorem getD_map_of {xs : List Rat} {k : Nat} (h : k < xs.length) : (xs.map Fd.of).getD k dnil = Fd.of (xs.getD k 0) := by
  rw [List.getD_eq_getElem?_getD, List.getElem?_map, List.getD_eq_getElem?_getD, List.getElem?_eq_getElem h]; rfl
theorem QsAt.fds {w : World} {A : Option Addr} {xs : List Rat} (h : QsAt w A xs) : FdsAt w A (xs.map Fd.of) := fun k hk => by
  rw [List.length_map] at hk
  obtain ⟨b, off, f, e, hb, h0, h1, h2, h3, h4⟩ := h.at_ hk
  rw [getD_map_of hk]
  exact ⟨b, off, f, e, hb, h0, h1, h2, h3, h4.is⟩
theorem map_of_q (xs : List Rat) : (xs.map Fd.of).map Fd.q = xs := by
  rw [List.map_map]
  exact (List.map_congr_left (fun x _ => Fd.of_q x)).trans (List.map_id _)

/-- A list that is appended to, apart from the blocks T. -/
structure OutJ (T : Nat → Prop) (w : World) (B : Nat) (vo : Value) (fs : List Fc) (xs : List Rat) : Prop where
  own : OwnF w B vo fs
  len : fs.length = xs.length
  q : ∀ k, k < fs.length → FA (fun b => some b = vo.ownBlock ∨ T b) w (fs.getD k fnil) (xs.getD k 0)
theorem OutJ.nil (T : Nat → Prop) (w : World) (B : Nat) : OutJ T w B (.slice none 0 0) [] [] := ⟨OwnF.nil _ _, rfl, fun k hk => by cases hk⟩
theorem OutJ.below {T : Nat → Prop} {w w' : World} {B : Nat} {vo : Value} {fs : List Fc} {xs : List Rat} (h : OutJ T w B vo fs xs) (hb : Below w.heap.size w w') : OutJ T w' B vo fs xs :=
  ⟨h.own.below hb, h.len, fun k hk => (h.q k hk).below hb⟩
theorem OutJ.step {T : Nat → Prop} {w w1 w2 : World} {B : Nat} {vo vo' : Value} {fs : List Fc} {xs : List Rat} {f : Fc} {x : Rat} (h : OutJ T w B vo fs xs) (hb : Below w.heap.size w w1) (ho : OwnF w2 B vo' (fs ++ [f])) (hg : w1.grownBy w2 vo.ownBlock) (hv : vo'.ownBlock = vo.ownBlock ∨ vo'.ownBlock = some w1.heap.size)
    (hf : FA (fun b => some b = vo.ownBlock ∨ T b) w1 f x) : OutJ T w2 B vo' (fs ++ [f]) (xs ++ [x]) := by
  have hF : Fr (fun b => some b = vo.ownBlock) w1 w2 := ⟨hg.os, hg.tape, hg.output, hg.size, fun b hb hn => hg.block b hb (fun e => hn e)⟩
  have hst : ∀ {f : Fc} {x : Rat}, FA (fun b => some b = vo.ownBlock ∨ T b) w1 f x → FA (fun b => some b = vo'.ownBlock ∨ T b) w2 f x := fun h => by
    have hu := (h.up).fr (hF.more (fun b hb => .inl (.inl hb)))
    refine hu.less (fun b hb => ?_)
    rcases hb with hb | hb
    · rcases hv with hv | hv
      · exact .inl (.inl (hb.trans hv))
      · rw [hv] at hb
        injection hb with hb
        exact .inr (by omega)
    · exact .inl (.inr hb)
  refine ⟨ho, by rw [List.length_append, List.length_append, h.len]; rfl, fun k hk => ?_⟩
  rw [List.length_append] at hk
  by_cases hkl : k < fs.length
  · rw [List.getD_eq_getElem?_getD, List.getElem?_append_left hkl, ← List.getD_eq_getElem?_getD, List.getD_eq_getElem?_getD (l := xs ++ [x]), List.getElem?_append_left (by rw [← h.len]; exact hkl), ← List.getD_eq_getElem?_getD]
    exact hst ((h.q k hkl).below hb)
  · have : k = fs.length := by simp at hk; omega
    subst this
    have e1 : (fs ++ [f]).getD fs.length fnil = f := by rw [List.getD_eq_getElem?_getD, List.getElem?_append_right (Nat.le_refl _), Nat.sub_self]; rfl
    have e2 : (xs ++ [x]).getD fs.length 0 = x := by rw [h.len, List.getD_eq_getElem?_getD, List.getElem?_append_right (Nat.le_refl _), Nat.sub_self]; rfl
    rw [e1, e2]
    exact hst hf
/-- A block of T is written. -/
theorem OutJ.far {T : Nat → Prop} {w V : World} {B G : Nat} {vo : Value} {fs : List Fc} {xs : List Rat} (h : OutJ T w B vo fs xs) (hf : Fr (· = G) w V) (hT : T G) (hG : G < B) : OutJ T V B vo fs xs :=
  ⟨World.ownsRow.kept (row := some G) h.own ⟨hf.1, hf.2.1, hf.2.2.1, hf.size, fun k hk hn => hf.2.2.2.2 k hk (fun e => hn (by rw [e]))⟩ (by
    cases ho : vo.ownBlock with
    | none => exact .inl rfl
    | some g =>
      refine .inr (fun e => ?_)
      injection e with e
      have := (h.own.own_lt ho.symm).1
      omega), h.len, fun k hk => (h.q k hk).fr (hf.more (fun b hb => .inr (by subst hb; exact hT)))⟩
theorem OutJ.done {T : Nat → Prop} {w : World} {B : Nat} {vo : Value} {fs : List Fc} {xs : List Rat} (h : OutJ T w B vo fs xs) : ∃ A c, vo = .slice A xs.length c ∧ QsAt w A xs := by
  obtain ⟨A, c, rfl, h1, h2, h3⟩ := h.own.at_
  refine ⟨A, c, by rw [h.len], fs, h.len, fun k hk => ?_⟩
  obtain ⟨b, off, e, hb, c0, c1, c2, c3⟩ := h3 k hk
  exact ⟨b, off, e, hb, fun h => h, c0, c1, c2, c3, (h.q k hk).less (fun _ h => h.elim)⟩

theorem OutJ.qs {T : Nat → Prop} {w : World} {B : Nat} {A : Option Addr} {n c : Nat} {fs : List Fc} {xs : List Rat} (h : OutJ T w B (.slice A n c) fs xs) : QsAt w A xs := by
  obtain ⟨A', c', e, hq⟩ := h.done
  injection e with e1 e2 e3
  subst e1
  exact hq

/-- What the loop of row has. -/
structure RwI (w wr : World) (G2 G3 B : Nat) (vo : Value) (fs : List Fc) (xs : List Rat) : Prop where
  bl : Below w.heap.size w wr
  k2 : Blk wr G2 45 #[.slice none 0 0, .int .i64 0, .slice none 0 0, .int .i64 0, .slice none 0 0]
  k3 : Blk wr G3 45 #[vo, .int .i64 0, .slice none 0 0, .int .i64 0, .slice none 0 0]
  out : OutJ (fun b => b = G2 ∨ b = G3) wr B vo fs xs
  g2 : w.heap.size ≤ G2
  g3 : G2 < G3
  gB : G3 < B
  hB : B ≤ wr.heap.size

theorem RwI.next {w wr w4 w5 : World} {G2 G3 B : Nat} {vo v5 : Value} {fs : List Fc} {xs : List Rat} {f : Fc} {x : Rat} (h : RwI w wr G2 G3 B vo fs xs) (hb : Below wr.heap.size wr w4) (ho : FO w4 wr.heap.size f.v x.num x.den) (hr : Rb x 60 60)
    (hown : OwnF w5 B v5 (fs ++ [f])) (hg : (w4.alloc (.cells #[.int .i64 f.s, .slice f.A f.n f.c, .int .i64 f.s', .slice f.A' f.n' f.c'] 40)).grownBy w5 vo.ownBlock) (hat : v5.ownBlock = vo.ownBlock ∨ v5.ownBlock = some (w4.alloc (.cells #[.int .i64 f.s, .slice f.A f.n f.c, .int .i64 f.s', .slice f.A' f.n' f.c'] 40)).heap.size) :
    w5.cell? ⟨G3, 0, none⟩ = some vo ∧ w5.frozen? ⟨G3, 0, none⟩ = false ∧ G3 < w5.heap.size ∧ RwI w (w5.setCell ⟨G3, 0, none⟩ v5) G2 G3 B v5 (fs ++ [f]) (xs ++ [x]) := by
  have hbA : Below w4.heap.size w4 (w4.alloc (.cells #[.int .i64 f.s, .slice f.A f.n f.c, .int .i64 f.s', .slice f.A' f.n' f.c'] 40)) := (Below.refl _ _).alloc (Nat.le_refl _) _
  have hbX := hb.trans (hbA.mono hb.size)
  have hown1 := h.out.own.below hbX
  have hb5 : Below B wr w5 := grown_belF ⟨hbX.os, hbX.tape, hbX.output, hbX.size, fun k hk => hbX.block k (by have := h.hB; omega)⟩ hown1 hg h.hB
  have hlt := h.hB
  have k2 : Blk w5 G2 _ _ := (hb5.block G2 (by have := h.g3; have := h.gB; omega)).trans h.k2
  have k3 : Blk w5 G3 _ _ := (hb5.block G3 h.gB).trans h.k3
  have hFA : FA (fun b => some b = vo.ownBlock ∨ (b = G2 ∨ b = G3)) (w4.alloc (.cells #[.int .i64 f.s, .slice f.A f.n f.c, .int .i64 f.s', .slice f.A' f.n' f.c'] 40)) f x := (FA.own ho (fun b hb => by
    have h1 := h.g3
    have h2 := h.gB
    rcases hb with hb | hb | hb
    · exact (h.out.own.own_lt hb).2
    · omega
    · omega) hr).below hbA
  have hout := h.out.step hbX hown hg hat hFA
  have hF := fr_set G3 0 w5 v5
  have k3' : Blk (w5.setCell ⟨G3, 0, none⟩ v5) G3 45 #[v5, .int .i64 0, .slice none 0 0, .int .i64 0, .slice none 0 0] := by simpa using k3.set_ 0 v5
  refine ⟨by simpa using k3.cell 0, k3.frozen 0, k3.lt, ⟨?_, k2.fr hF (by have := h.g3; omega), k3', hout.far hF (.inr rfl) h.gB, h.g2, h.g3, h.gB, by have := hb5.size; have := hF.size; omega⟩⟩
  have hw5 : Below w.heap.size w w5 := h.bl.trans ⟨hb5.os, hb5.tape, hb5.output, hb5.size, fun k hk => hb5.block k (by have := h.g2; have := h.g3; have := h.gB; omega)⟩
  exact hw5.trans (hF.below (fun b hb => by subst hb; have := h.g2; have := h.g3; omega) hw5.size)

set_option maxRecDepth 100000 in
set_option maxHeartbeats 8000000 in
theorem row_any {a : Addr} {n c : Nat} {l : List Int} (w : World) (hI : IntsAt w.heap.size w (some a) l) (hl : l.length = n + 1) (hn : n ≤ 100) (hs : ∀ k, k < n + 1 → isI (l.getD k 0) ∧ ab (l.getD k 0) < pw 60) :
    Calls Try.prog 25 #[.slice (some a) (n + 1) c] w fun e w' => ∃ r : Rw, e = .returned r.v ∧ Below w.heap.size w w' ∧ RwIs w' r ⟨((List.range n).map fun k => ((l.getD k 0 : Int) : Rat)).map Fd.of, Fd.of ((l.getD n 0 : Int) : Rat)⟩ := by
  have HI := Lib.hid hI; clear hI
  have HL := Lib.hid hl; clear hl
  have HSM := Lib.hid hs; clear hs
  go_enter Try.func25, Try.ntmps25
  go_wp2_with fail
  have hA1 : Below w.heap.size w (w.alloc (.cells #[.slice none 0 0, .int .i64 0, .slice none 0 0, .int .i64 0, .slice none 0 0] 45)) := (Below.refl _ _).alloc (Nat.le_refl _) _
  have hA2 := hA1.alloc hA1.size (.cells #[.slice none 0 0, .int .i64 0, .slice none 0 0, .int .i64 0, .slice none 0 0] 45)
  have k2 := (Blk.new w 45 #[.slice none 0 0, .int .i64 0, .slice none 0 0, .int .i64 0, .slice none 0 0]).alloc (.cells #[.slice none 0 0, .int .i64 0, .slice none 0 0, .int .i64 0, .slice none 0 0] 45)
  have k3 := Blk.new (w.alloc (.cells #[.slice none 0 0, .int .i64 0, .slice none 0 0, .int .i64 0, .slice none 0 0] 45)) 45 #[.slice none 0 0, .int .i64 0, .slice none 0 0, .int .i64 0, .slice none 0 0]
  rw [World.size_alloc] at k3
  obtain ⟨W2, hW2⟩ : ∃ W, (w.alloc (.cells #[.slice none 0 0, .int .i64 0, .slice none 0 0, .int .i64 0, .slice none 0 0] 45)).alloc (.cells #[.slice none 0 0, .int .i64 0, .slice none 0 0, .int .i64 0, .slice none 0 0] 45) = W := ⟨_, rfl⟩
  rw [hW2] at hA2 k2 k3 ⊢
  clear hW2 hA1
  obtain ⟨B, hB⟩ : ∃ B, W2.heap.size = B := ⟨_, rfl⟩
  have HST := Lib.hid (show RwI w W2 w.heap.size (w.heap.size + 1) B (.slice none 0 0) [] [] from ⟨hA2, k2, k3, OutJ.nil _ _ _, Nat.le_refl _, Nat.lt_succ_self _, by rw [← hB]; exact k3.lt, by rw [hB]; exact Nat.le_refl _⟩)
  obtain ⟨G2, hG2⟩ : ∃ B, w.heap.size = B := ⟨_, rfl⟩
  rw [hG2] at HST ⊢
  clear hA2 k2 k3 hB hG2
  go_loopw [4] (fun iv wr => ∃ (i : Nat) (vo : Value) (fs : List Fc), i ≤ n ∧ iv = .int .i64 i ∧ Hid (RwI w wr G2 (G2 + 1) B vo fs ((List.range i).map fun k => ((l.getD k 0 : Int) : Rat)))) (fun iv _ => n - (intOf iv).toNat)
  case atStart => exact ⟨0, _, [], Nat.zero_le _, rfl, HST⟩
  case round =>
    obtain ⟨i, vo, fs, hi, rfl, hI⟩ := hrel
    clear HST
    have hfl9 := hI.out.out.len
    rw [List.length_map, List.length_range] at hfl9
    by_cases hgo : i < n
    · obtain ⟨ba, oa, hae, hba, hca⟩ := HI.out i (by rw [HL.out]; omega)
      injection hae with hae
      subst hae
      have hca' := (hI.out.bl.cell (p := ⟨ba, oa + i, none⟩) hba).trans hca
      have hba' := Nat.lt_of_lt_of_le hba hI.out.bl.size
      obtain ⟨z, hz⟩ : ∃ z, l.getD i 0 = z := ⟨_, rfl⟩
      have hsm := HSM.out i (by omega)
      rw [hz] at hca' hsm
      have HZ := Lib.hid hz
      clear hz hca hba
      have k3 := hI.out.k3
      have c3 := k3.cell 0
      simp at c3
      have hl3 := k3.lt
      have hb01 : ((i : Nat) : Int) < ((n : Nat) : Int) + 1 := by omega
      have HNB := Lib.hid (fun (W' : World) => lnumber_fr z W' hsm.1 (by decide) hsm.2)
      have HIR := Lib.hid hI.out
      have e0 : ∀ W' : World, Below wr.heap.size wr W' → W'.cell? ⟨G2 + 1, 0, none⟩ = some vo ∧ W'.cell? ⟨ba, oa + i, none⟩ = some (.int .i64 z) := fun W' hW =>
        ⟨(hW.cell (p := ⟨G2 + 1, _, none⟩) hl3).trans c3, (hW.cell (p := ⟨ba, _, none⟩) hba').trans hca'⟩
      have E0 := Lib.hid e0; clear e0
      have hB00 : Below wr.heap.size wr wr.drew := (Below.refl _ _).drew
      clear hI k3
      go_upto_region 5 with fail
      go_region_law (first
        | (go_simp; go_at_call 24; refine (HNB.out _).mono ?_; rintro e w4 ⟨⟨r1, C1, k1, l1, r2, C2, k2, l2⟩, rfl, hro, hrb, hb4⟩; have hB4 : Below wr.heap.size wr w4 := ⟨hb4.os, hb4.tape, hb4.output, hb4.size, hb4.block⟩; obtain ⟨t0, t1⟩ := E0.out _ hB4; have hlt4 := Nat.lt_of_lt_of_le hl3 hB4.size)
        | (refine step_appF rfl (.tmp 13) (.tmp 19) rfl B vo fs [⟨r1, C1, k1, l1, r2, C2, k2, l2⟩] (some ⟨w4.heap.size, 0, none⟩) 1 1 (by simp [Act.eval]) ((HIR.out.out.own.below hB4).below ((Below.refl _ _).alloc (Nat.le_refl _) _)) (by simp [Act.eval]) rfl (lit_fc w4 ⟨r1, C1, k1, l1, r2, C2, k2, l2⟩) (by rw [hfl9]; omega) (by have h1 := hB4.size; have h2 := HIR.out.hB; simp; omega) ?_; intro v5 w5 hown5 hg5 hat5; obtain ⟨A5, n5, c5, hv5⟩ : ∃ A n c, v5 = .slice A n c := ⟨_, _, _, hown5.at_.choose_spec.choose_spec.1⟩; subst hv5; have hn5 := RwI.next HIR.out hB4 hro hrb hown5 hg5 hat5; obtain ⟨j0, j1, j2, j3⟩ := hn5))
      all_goals
        have hnx : Hid (RwI w (w5.setCell ⟨G2 + 1, 0, none⟩ (.slice A5 n5 c5)) G2 (G2 + 1) B (.slice A5 n5 c5) (fs ++ [⟨r1, C1, k1, l1, r2, C2, k2, l2⟩]) ((List.range (i + 1)).map fun k => ((l.getD k 0 : Int) : Rat))) := Lib.hid (by
          rw [List.range_succ, List.map_append, List.map_cons, List.map_nil, HZ.out]
          exact j3)
        clear j0 j1 j2 j3 hown5 hg5 hat5 hro hrb hb4 hB4 t0 t1 E0 HIR HNB
        go_wp2_with fail
        go_roundw
        case rel => exact ⟨i + 1, _, _, by omega, rfl, hnx⟩
        case measure => simp [intOf]; omega
    · have : i = n := by omega
      subst this
      obtain ⟨ba, oa, hae, hba, hca⟩ := HI.out i (by rw [HL.out]; omega)
      injection hae with hae
      subst hae
      have hca' := (hI.out.bl.cell (p := ⟨ba, oa + i, none⟩) hba).trans hca
      have hba' := Nat.lt_of_lt_of_le hba hI.out.bl.size
      obtain ⟨z, hz⟩ : ∃ z, l.getD i 0 = z := ⟨_, rfl⟩
      have hsm := HSM.out i (by omega)
      rw [hz] at hca' hsm
      have HZ := Lib.hid hz
      clear hz hca hba
      have HIR := Lib.hid hI.out
      have hb01 : ((i : Nat) : Int) < ((i : Nat) : Int) + 1 := by omega
      obtain ⟨Ao, co, hvo, hq⟩ := HIR.out.out.done
      rw [List.length_map, List.length_range] at hvo
      subst hvo
      clear hI
      go_wp2_with fail
      (with_reducible refine (lnumber_fr z _ hsm.1 (by decide) hsm.2).mono ?_)
      rintro e w4 ⟨⟨r1, C1, k1, l1, r2, C2, k2, l2⟩, rfl, hro, hrb, hb4⟩
      have hR := HIR.out
      have k3 := hR.k3.below hb4 hR.k3.lt
      have k2' := hR.k2.below hb4 hR.k2.lt
      have hbl4 := hR.bl.trans (hb4.mono hR.bl.size)
      have hf4 : FA (fun b => b = G2 ∨ b = G2 + 1) w4 ⟨r1, C1, k1, l1, r2, C2, k2, l2⟩ (z : Rat) := FA.own hro (fun b hb => by have h1 := hR.gB; have h2 := hR.hB; omega) hrb
      have hfr1 := fr_st4 (G2 + 1) w4 (.int .i64 r1) (.slice C1 k1 l1) (.int .i64 r2) (.slice C2 k2 l2)
      have J5 := (hR.out.below hb4).far hfr1 (.inr rfl) hR.gB
      have hfr2 := fr_st5 G2 ((((w4.setCell ⟨G2 + 1, 1, none⟩ (.int .i64 r1)).setCell ⟨G2 + 1, 2, none⟩ (.slice C1 k1 l1)).setCell ⟨G2 + 1, 3, none⟩ (.int .i64 r2)).setCell ⟨G2 + 1, 4, none⟩ (.slice C2 k2 l2)) (.slice Ao i co) (.int .i64 r1) (.slice C1 k1 l1) (.int .i64 r2) (.slice C2 k2 l2)
      have J6 := (J5.far hfr2 (.inl rfl) (by have := hR.gB; omega)).qs
      have hf6 := ((hf4.fr (hfr1.more (fun b hb => .inr hb))).fr (hfr2.more (fun b hb => .inl hb)))
      have hb6 : Below w.heap.size w _ := hbl4.trans (((hfr1.more (T := fun b => w.heap.size ≤ b) (fun b hb => by subst hb; have := hR.g2; omega)).tr (hfr2.more (fun b hb => by subst hb; exact hR.g2))).below (fun b hb => hb) hbl4.size)
      have HF := Lib.hid (And.intro hb6 (And.intro J6 hf6))
      have g2l := hR.g2
      have q0 := k3.cell 0
      have q1 := k3.cell 1
      have q2 := k3.cell 2
      have q3 := k3.cell 3
      have q4 := k3.cell 4
      have v0 := k2'.cell 0
      have v1 := k2'.cell 1
      have v2 := k2'.cell 2
      have v3 := k2'.cell 3
      have v4 := k2'.cell 4
      simp at q0 q1 q2 q3 q4 v0 v1 v2 v3 v4
      have x1 := k3.frozen 1
      have x2 := k3.frozen 2
      have x3 := k3.frozen 3
      have x4 := k3.frozen 4
      have y0 := k2'.frozen 0
      have y1 := k2'.frozen 1
      have y2 := k2'.frozen 2
      have y3 := k2'.frozen 3
      have y4 := k2'.frozen 4
      have hl2 := k2'.lt
      have hl3 := k3.lt
      clear hb6 J6 hf6 hfr1 hfr2 J5 hf4 hro hrb hb4 hR k3 k2' hq hbl4 HIR
      go_wp2_with fail
      refine bodyPost_ret (v := .agg #[.slice Ao i co, .int .i64 r1, .slice C1 k1 l1, .int .i64 r2, .slice C2 k2 l2]) (by simp [results, Try.results25, go_sem, v0, v1, v2, v3, v4]) rfl ?_
      refine ⟨⟨Ao, i, co, ⟨r1, C1, k1, l1, r2, C2, k2, l2⟩⟩, rfl, HF.out.1, by simp, by simp; omega, HF.out.2.1.fds, ?_⟩
      have h := HF.out.2.2.is
      rw [← HZ.out] at h
      exact h

end Go.Proofs.Ytlbjaimgoiimgaa

namespace Go.Proofs.Ytlbjaimgoiimgaa
open Go.RowKit

theorem Lines.up1 {S : Nat → Prop} {w : World} {L n : Nat} {gs : List (Nat × Nat)} {X : List (List Rat)} (h : Lines S w L n gs X) : Lines (fun b => S b ∨ b = w.heap.size) w L n gs X :=
  ⟨.inl h.top, h.len, h.blk, fun k hk => by
    obtain ⟨fs, h1, h2, h3, h4, h5⟩ := h.line k hk
    exact ⟨fs, h1, .inl h2, h3, h4, fun j hj => (h5 j hj).up.less (fun b hb => by rcases hb with hb | hb; exact .inl hb; exact .inr (by omega))⟩, h.one, h.far⟩
theorem SvI.below {S : Nat → Prop} {w wr wq : World} {L m gx : Nat} {gs : List (Nat × Nat)} {Y : List (List Rat)} {val : Nat → Rat} {fx : List Fc} {i : Nat} (h : SvI S w wr L m gx gs Y val fx i) (hb : Below wr.heap.size wr wq) : SvI S w wq L m gx gs Y val fx i := by
  obtain ⟨cur, hk, hc⟩ := h.blk
  exact ⟨h.LL.below hb, h.len, h.fl, ⟨cur, hk.below hb hk.lt, hc⟩, fun k hk => (h.q k hk).below hb, h.gS, h.gL, h.gk, h.bl.trans (hb.mono h.bl.size), h.lo⟩
theorem okSub_zero {y : Rat} (h : Rb y 60 60) : okSub 0 y := by
  unfold okSub
  rw [(show (0 : Rat).num = 0 from rfl), (show (0 : Rat).den = 1 from rfl), Int.zero_mul, ab_zero, Int.natCast_one, Int.mul_one, Int.zero_sub, ab_neg, Int.one_mul]
  exact ⟨pw_pos 60, h.n, h.n, h.d⟩

set_option maxRecDepth 100000 in
set_option maxHeartbeats 8000000 in
theorem lkernel_any {A : Option Addr} {m cap : Nat} {n : Int} {rs : List Rd} (w : World) (h : RdsAt w A rs) (hm : rs.length = m) (hmm : m ≤ 1000000) :
    Calls Try.prog 12 #[.slice A m cap, .int .i64 n] w fun e w' => Below w.heap.size w w' ∧
      ((¬ SysR rs n ∧ e = .returned (.tuple #[.slice none 0 0, .bool false])) ∨ (SysR rs n ∧ runFree m 0 (rs.map Rd.q) = none ∧ e = .returned (.tuple #[.slice none 0 0, .bool false])) ∨
        (SysR rs n ∧ (∃ Y : List (List Rat), runFree m 0 (rs.map Rd.q) = some (m, Y)) ∧ e = .returned (.tuple #[.slice none 0 0, .bool false])) ∨
        (SysR rs n ∧ ∃ (k : Nat) (Y : List (List Rat)) (gx : Nat) (fx : List Fc) (S : Nat → Prop), runFree m 0 (rs.map Rd.q) = some (k, Y) ∧ k < m ∧ e = .returned (.tuple #[.slice (some ⟨gx, 0, none⟩) m m, .bool true]) ∧ w.heap.size ≤ gx ∧ fx.length = m ∧
          (∃ cur, Blk w' gx 40 cur ∧ CellsL cur fx) ∧ ∀ j, j < m → FA S w' (fx.getD j fnil) (if j = k then 1 else 0 - (Y.getD j []).getD k 0))) := by
  have HD := Lib.hid h; clear h
  have HM := Lib.hid hm; clear hm
  go_enter Try.func12, Try.ntmps12
  go_wp2_with fail
  by_cases hs : SysR rs n
  · (with_reducible refine (lright_any w HD.out HM.out hmm true ⟨fun _ => hs, fun _ => rfl⟩).mono ?_)
    rintro e u1 ⟨rfl, hb1⟩
    have HS := Lib.hid hs
    have h40 : m ≤ 40 := by have := hs.2.1; rwa [HM.out] at this
    have hnm : n = (m : Int) := by have := hs.1; rw [HM.out] at this; exact this.symm
    have hR : ∀ k, k < m → (rs.getD k rnil).R m := fun k hk => by have := hs.2.2 k (by rw [HM.out]; exact hk); rwa [HM.out] at this
    clear hs
    subst hnm
    go_wp2_with fail
    (with_reducible refine (linesOf_any u1 (HD.out.below hb1) HM.out h40 hR).mono ?_)
    rintro e u2 ⟨L, gs, rfl, hgl, hLn, hb2⟩
    obtain ⟨S, hSe⟩ : ∃ S : Nat → Prop, (fun b => u1.heap.size ≤ b ∧ b < u2.heap.size) = S := ⟨_, rfl⟩
    have hlo := Lib.hid (show ∀ b, S b → u1.heap.size ≤ b from fun b hb => by rw [← hSe] at hb; exact hb.1)
    have hhi := Lib.hid (show ∀ b, S b → b < u2.heap.size from fun b hb => by rw [← hSe] at hb; exact hb.2)
    rw [hSe] at hLn
    have hb12 := hb1.trans (hb2.mono hb1.size)
    have hfin : Hid (∀ wq, Fr S u2 wq → Below w.heap.size w wq) := Lib.hid fun wq hf => hb12.trans (hf.below (fun b hb => Nat.le_trans hb1.size (hlo.out b hb)) hb12.size)
    have HLn := Lib.hid hLn
    clear hLn hSe hR hb2 hb12
    go_wp2_with fail
    (with_reducible refine (toFree_any HLn.out hgl h40 (Nat.le_refl m) (by omega) hhi.out).mono ?_)
    rintro e u3 ⟨hf3, ⟨hrn, k, rfl⟩ | ⟨k, Y, gs', hrn, rfl, hkm, hg3, hL3⟩⟩
    · have hff := Lib.hid (hfin.out _ hf3)
      have hres := Lib.hid hrn
      clear hf3 hrn HLn hfin
      go_wp2_with fail
      go_ret2
      exact ⟨hff.out, .inr (.inl ⟨HS.out, hres.out, rfl⟩)⟩
    · have hff := Lib.hid (hfin.out _ hf3)
      have hres := Lib.hid hrn
      by_cases hkl : k < m
      · have HL3 := Lib.hid hL3
        have HG3 := Lib.hid hg3
        have hne : ((k : Int) == (m : Int)) = false := by rw [beq_eq_false_iff_ne]; omega
        have HF3 := Lib.hid hf3.size
        clear hf3 hrn HLn hfin hL3 hg3
        go_wp2_with (at_make; refine makeF rfl (.tmp 30) (.tmp 30) rfl m _ _ rfl rfl rfl rfl (by omega) ?_; intro u4 cur hk4 hc4 hb4 hs4)
        have hst : SvI (fun b => S b ∨ b = u3.heap.size) w u4 L m u3.heap.size gs' Y (fun j => 0 - (Y.getD j []).getD k 0) (List.replicate m fnil) 0 :=
          ⟨HL3.out.up1.below hb4, HG3.out, List.length_replicate, ⟨cur, hk4, hc4⟩, fun j hj => by omega, .inr rfl, by have := HL3.out.blk.lt; omega,
            fun j hj => by
              obtain ⟨fs, _, h2⟩ := HL3.out.line j (by rw [HG3.out]; exact hj)
              have := h2.lt
              omega, hff.out.trans (hb4.mono hff.out.size), hff.out.size⟩
        have HST := Lib.hid hst
        have hS4 := Lib.hid (show ∀ b, (S b ∨ b = u3.heap.size) → b < u4.heap.size from fun b hb => by
          rcases hb with hb | hb
          · have := hhi.out b hb
            have := HF3.out
            omega
          · omega)
        obtain ⟨gx, hgx⟩ : ∃ g, u3.heap.size = g := ⟨_, rfl⟩
        obtain ⟨S', hS'⟩ : ∃ S' : Nat → Prop, (fun b => S b ∨ b = u3.heap.size) = S' := ⟨_, rfl⟩
        have hS5 := Lib.hid (show ∀ b, S' b → b < u4.heap.size from fun b hb => hS4.out b (by rw [← hS'] at hb; exact hb))
        rw [hS', hgx] at HST
        rw [hgx]
        clear hst hk4 hc4 hb4 hs4 HL3 hS' hgx hS4 HF3
        go_loopw [34] (fun iv wr => ∃ (i : Nat) (fx : List Fc), i ≤ m ∧ iv = .int .i64 i ∧ u4.heap.size ≤ wr.heap.size ∧ Hid (SvI S' w wr L m gx gs' Y (fun j => 0 - (Y.getD j []).getD k 0) fx i)) (fun iv _ => m - (intOf iv).toNat)
        case atStart => exact ⟨0, _, Nat.zero_le _, rfl, Nat.le_refl _, HST⟩
        case round =>
          obtain ⟨i, fx, hi, rfl, hsz, hI⟩ := hrel
          clear HST
          by_cases hgo : i < m
          · have l1 := hI.out.LL.cell (k := i) (by rw [hI.out.len]; exact hgo)
            have hLl := hI.out.LL.blk.lt
            obtain ⟨fs, hfs, hLn⟩ := hI.out.LL.line i (by rw [hI.out.len]; exact hgo)
            obtain ⟨c0, c1, c2, c3, hx⟩ := hLn.cells (k := k) (by omega)
            have hgk := hI.out.gk i hgo
            have hgl2 := hLn.lt
            obtain ⟨p, hp⟩ : ∃ p, gs'.getD i (0, 0) = p := ⟨_, rfl⟩
            rw [hp] at l1 c0 c1 c2 c3 hgl2 hgk
            obtain ⟨gp, ep⟩ := p
            obtain ⟨a, ha⟩ : ∃ a, fs.getD k fnil = a := ⟨_, rfl⟩
            rw [ha] at c0 c1 c2 c3 hx
            obtain ⟨s1, A1, n1, e1, s2, A2, n2, e2⟩ := a
            simp only at l1 c0 c1 c2 c3 hgl2 hgk
            have hok := okSub_zero hx.rb
            have HSB := Lib.hid (fun (W' : World) (hb : Below wr.heap.size wr W') (g : Fc) (hg : FA (fun _ => False) W' g 0) => fsub_y hg (hx.below hb) hok)
            have e0 : ∀ W' : World, W'.heap[gp]? = wr.heap[gp]? → W'.cell? ⟨gp, k * 4, none⟩ = some (.int .i64 s1) ∧ W'.cell? ⟨gp, k * 4 + 1, none⟩ = some (.slice A1 n1 e1) ∧ W'.cell? ⟨gp, k * 4 + 2, none⟩ = some (.int .i64 s2) ∧ W'.cell? ⟨gp, k * 4 + 3, none⟩ = some (.slice A2 n2 e2) := fun W' hW =>
              ⟨(World.cell?_of_block (a := ⟨gp, _, none⟩) hW).trans c0, (World.cell?_of_block (a := ⟨gp, _, none⟩) hW).trans c1, (World.cell?_of_block (a := ⟨gp, _, none⟩) hW).trans c2, (World.cell?_of_block (a := ⟨gp, _, none⟩) hW).trans c3⟩
            have E0 := Lib.hid e0; clear e0
            have hB00 : Below wr.heap.size wr wr.drew := (Below.refl _ _).drew
            have hfl := hI.out.fl
            clear hx hLn hp ha hfs c0 c1 c2 c3
            have hb01 : (0 : Int) ≤ ((k : Nat) : Int) := by omega
            have hb02 : ((k : Nat) : Int) < ((m : Nat) : Int) + 1 := by omega
            have hb03 : ((k : Nat) : Int) < ((m + 1 : Nat) : Int) := by omega
            have hb04 : k < m + 1 := by omega
            go_upto_region 11 with fail
            go_region_held3 (fun W' => W'.cell? ⟨gp, k * 4, none⟩ = some (.int .i64 s1) ∧ W'.cell? ⟨gp, k * 4 + 1, none⟩ = some (.slice A1 n1 e1) ∧ W'.cell? ⟨gp, k * 4 + 2, none⟩ = some (.int .i64 s2) ∧ W'.cell? ⟨gp, k * 4 + 3, none⟩ = some (.slice A2 n2 e2))
              (first | (with_reducible exact E0.out _ ((st4_block hgk).trans (hB5.block gp hgl2))) | (with_reducible exact E0.out _ (hB5.block gp hgl2)) | (with_reducible exact E0.out _ (hB4.block gp hgl2)) | (with_reducible exact E0.out _ (hB00.block gp hgl2)) | (with_reducible exact E0.out _ rfl))
              (first
                | (go_at_call 30; have _h := hB4; refine (HSB.out _ hB4 _ hn4).mono ?_; rintro e w5 ⟨⟨r1, C1, k1, j1, r2, C2, k2, j2⟩, rfl, hro, hrb, hb5⟩; have hB5 : Below wr.heap.size wr w5 := hB4.trans (hb5.mono hB4.size); have hI5 := hI.out.below hB5; obtain ⟨cur5, hk5, hc5⟩ := hI5.blk; obtain ⟨d0, d1, d2, d3⟩ := hc5 i (by rw [hfl]; exact hgo); rw [← hk5.cell] at d0 d1 d2 d3; have z0 := hk5.frozen (i * 4); have z1 := hk5.frozen (i * 4 + 1); have z2 := hk5.frozen (i * 4 + 2); have z3 := hk5.frozen (i * 4 + 3); have hg5 := hk5.lt)
                | (go_at_call 31; refine (number_0 _).mono ?_; rintro e w4 ⟨⟨v1, D1, o1, p1, v2, D2, o2, p2⟩, rfl, hno, hnb, hb4⟩; have hB4 : Below wr.heap.size wr w4 := ⟨hb4.os, hb4.tape, hb4.output, hb4.size, hb4.block⟩; have hn4 : FA (fun _ => False) w4 ⟨v1, D1, o1, p1, v2, D2, o2, p2⟩ 0 := FA.own hno (fun _ h => h.elim) hnb))
            all_goals
              have hf5 : FA S' w5 ⟨r1, C1, k1, j1, r2, C2, k2, j2⟩ (0 - (Y.getD i []).getD k 0) := FA.own hro (fun b hb => Nat.lt_of_lt_of_le (hS5.out b hb) (Nat.le_trans hsz hB4.size)) hrb
              obtain ⟨V, hV, hnx⟩ := hI5.next hgo hf5
              simp only at hV
              have hszV : u4.heap.size ≤ V.heap.size := by
                have := hB5.size
                rw [hV]; simp; omega
              have HNX := Lib.hid hnx
              clear hnx hf5 hI5 hk5 hc5 hro hrb hb5 hB5 hB4 hb4 hno hnb hn4 hI E0 HSB
              go_wp2_with fail
              rw [← hV]
              go_roundw
              case rel => exact ⟨i + 1, _, by omega, rfl, hszV, HNX⟩
              case measure => simp [intOf]; omega
          · have : i = m := by omega
            subst this
            have hI' := Lib.hid hI.out
            clear hI
            go_wp2_with fail
            (with_reducible refine (number_1 _).mono ?_)
            rintro e w6 ⟨⟨v1, D1, o1, p1, v2, D2, o2, p2⟩, rfl, ho, rb, hb6⟩
            have hI6 := hI'.out.below hb6
            have hf6 : FA S' w6 ⟨v1, D1, o1, p1, v2, D2, o2, p2⟩ 1 := FA.own ho (fun b hb => Nat.lt_of_lt_of_le (hS5.out b hb) hsz) rb
            have hfl := hI6.fl
            obtain ⟨cur6, hk6, hc6⟩ := hI6.blk
            obtain ⟨V, cur', hV, hb', hc', hfr⟩ := CellsL.store hk6 hc6 (k := k) (by rw [hfl]; exact hkl) ⟨v1, D1, o1, p1, v2, D2, o2, p2⟩
            obtain ⟨d0, d1, d2, d3⟩ := hc6 k (by rw [hfl]; exact hkl)
            rw [← hk6.cell] at d0 d1 d2 d3
            have z0 := hk6.frozen (k * 4)
            have z1 := hk6.frozen (k * 4 + 1)
            have z2 := hk6.frozen (k * 4 + 2)
            have z3 := hk6.frozen (k * 4 + 3)
            have hg6 := hk6.lt
            have hS : Fr S' w6 V := hfr.more (fun b hb => by subst hb; exact hI6.gS)
            have hfin : Hid (Below w.heap.size w V ∧ w.heap.size ≤ gx ∧ (fx.set k ⟨v1, D1, o1, p1, v2, D2, o2, p2⟩).length = i ∧ (∃ cur, Blk V gx 40 cur ∧ CellsL cur (fx.set k ⟨v1, D1, o1, p1, v2, D2, o2, p2⟩)) ∧
              ∀ j, j < i → FA S' V ((fx.set k ⟨v1, D1, o1, p1, v2, D2, o2, p2⟩).getD j fnil) (if j = k then 1 else 0 - (Y.getD j []).getD k 0)) :=
              Lib.hid ⟨hI6.bl.trans (hfr.below (fun b hb => by subst hb; exact hI6.lo) hI6.bl.size), hI6.lo, by rw [List.length_set]; exact hfl, ⟨cur', hb', hc'⟩, fun j hj => by
                by_cases hjk : j = k
                · subst hjk
                  rw [getD_set_self (by rw [hfl]; exact hj), if_pos rfl]
                  exact hf6.fr hS
                · rw [getD_set_ne (Ne.symm hjk), if_neg hjk]
                  exact (hI6.q j hj).fr hS⟩
            simp only at hV
            clear hI6 hf6 hk6 hc6 hb' hc' hfr hS hI' ho rb hb6 hfl
            go_wp2_with fail
            rw [← hV]
            go_ret2
            exact ⟨hfin.out.1, .inr (.inr (.inr ⟨HS.out, k, Y, gx, _, S', hres.out, hkl, rfl, hfin.out.2.1, hfin.out.2.2.1, hfin.out.2.2.2.1, hfin.out.2.2.2.2⟩))⟩
      · have : k = m := by omega
        subst this
        have heq : ((k : Int) == (k : Int)) = true := by simp
        clear hf3 hrn HLn hfin hL3
        go_wp2_with fail
        go_ret2
        exact ⟨hff.out, .inr (.inr (.inl ⟨HS.out, ⟨Y, hres.out⟩, rfl⟩))⟩
  · (with_reducible refine (lright_any w HD.out HM.out hmm false ⟨fun h => (by cases h), fun h => absurd h hs⟩).mono ?_)
    rintro e u1 ⟨rfl, hb1⟩
    have HS := Lib.hid hs; clear hs
    go_wp2_with fail
    go_ret2
    exact ⟨hb1, .inl ⟨HS.out, rfl⟩⟩

end Go.Proofs.Ytlbjaimgoiimgaa

namespace Go.Proofs.Ytlbjaimgoiimgaa
open Go.RowKit

theorem firstNZ_zero {X : List (List Rat)} {c r m : Nat} (h : firstNZ X c r m = none) : ∀ j, j < m → (X.getD (r + j) []).getD c 0 = 0 := by
  induction m generalizing r with
  | zero => intro j hj; omega
  | succ m ih =>
    intro j hj
    rw [firstNZ] at h
    by_cases h0 : (X.getD r []).getD c 0 = 0
    · rw [if_pos h0] at h
      cases j with
      | zero => simpa using h0
      | succ j =>
        have := ih h j (by omega)
        rwa [show r + 1 + j = r + (j + 1) by omega] at this
    · rw [if_neg h0] at h
      cases h
theorem runFree_zero {m c : Nat} {X Y : List (List Rat)} {k : Nat} (h : runFree m c X = some (k, Y)) (hk : k < c + m) : ∀ j, k ≤ j → j < Y.length → (Y.getD j []).getD k 0 = 0 := by
  induction m generalizing c X with
  | zero => simp [runFree] at h; omega
  | succ m ih =>
    rw [runFree] at h
    cases he : elimS X c c with
    | none => rw [he] at h; cases h
    | some p =>
      obtain ⟨b, Z⟩ := p
      rw [he] at h
      cases b with
      | false =>
        simp at h
        obtain ⟨rfl, rfl⟩ := h
        unfold elimS at he
        cases hn : firstNZ X c c (X.length - c) with
        | none =>
          rw [hn] at he
          simp at he
          subst he
          intro j hj hl
          have := firstNZ_zero hn (j - c) (by omega)
          rwa [show c + (j - c) = j by omega] at this
        | some q =>
          rw [hn] at he
          simp only at he
          cases hd : divL (((swapR [] X c q).getD c []).getD c 0) ((swapR [] X c q).getD c []) with
          | none => rw [hd] at he; cases he
          | some p =>
            rw [hd] at he
            simp at he
      | true => exact ih h (by omega)
/-- What the kernel has at the place j. -/
def kerV (Y : List (List Rat)) (k j : Nat) : Rat := if j = k then 1 else 0 - (Y.getD j []).getD k 0

end Go.Proofs.Ytlbjaimgoiimgaa

namespace Go.Proofs.Ytlbjaimgoiimgaa
open Go.RowKit

/-- A list of right fractions that solves a system of n unknowns, each product and sum with room. -/
def SolvesP (rs : List Rd) (xs : List Fd) (n : Int) : Prop :=
  SysR rs n ∧ (xs.length = rs.length ∧ ∀ k, k < xs.length → (xs.getD k dnil).R) ∧ ∀ k, k < rs.length → sumTo ((rs.getD k rnil).A.map Fd.q) (xs.map Fd.q) rs.length = some (rs.getD k rnil).v.q

set_option maxRecDepth 100000 in
set_option maxHeartbeats 8000000 in
theorem lcheck_any {A Ax : Option Addr} {m cap mx cx : Nat} {n : Int} {rs : List Rd} {xs : List Fd} (w : World) (h : RdsAt w A rs) (hm : rs.length = m) (hmm : m ≤ 1000000) (hx : FdsAt w Ax xs) (hxm : xs.length = mx) (hmx : mx ≤ 1000000) (b : Bool) (hb : b = true ↔ SolvesP rs xs n) :
    Calls Try.prog 13 #[.slice A m cap, .int .i64 n, .slice Ax mx cx] w fun e w' => e = .returned (.bool b) ∧ Below w.heap.size w w' := by
  have HB := Lib.hid hb; clear hb
  have HD := Lib.hid h; clear h
  have HM := Lib.hid hm; clear hm
  have HX := Lib.hid hx; clear hx
  have HXM := Lib.hid hxm; clear hxm
  go_enter Try.func13, Try.ntmps13
  go_wp2_with fail
  by_cases hs : SysR rs n
  rotate_left
  · (with_reducible refine (lright_any w HD.out HM.out hmm false ⟨fun h => (by cases h), fun h => absurd h hs⟩).mono ?_)
    rintro e u1 ⟨rfl, hb1⟩
    have hbf : Hid (b = false) := Lib.hid (by
      cases hbv : b with
      | false => rfl
      | true => exact absurd (HB.out.1 hbv).1 hs)
    clear hs
    go_wp2_with fail
    go_ret
    exact ⟨by rw [hbf.out]; rfl, hb1⟩
  (with_reducible refine (lright_any w HD.out HM.out hmm true ⟨fun _ => hs, fun _ => rfl⟩).mono ?_)
  rintro e u1 ⟨rfl, hb1⟩
  have HS := Lib.hid hs
  have h40 : m ≤ 40 := by have := hs.2.1; rwa [HM.out] at this
  have hnm : n = (m : Int) := by have := hs.1; rw [HM.out] at this; exact this.symm
  clear hs
  subst hnm
  have HX1 := Lib.hid (HX.out.below hb1)
  go_wp2_with fail
  by_cases hl : mx = m ∧ ∀ k, k < mx → (xs.getD k dnil).R
  rotate_left
  · (with_reducible refine (isList_any (n := m) _ HX1.out HXM.out hmx (by omega) false ⟨fun h => (by cases h), fun h => absurd h hl⟩).mono ?_)
    rintro e u2 ⟨rfl, hb2⟩
    have hbf : Hid (b = false) := Lib.hid (by
      cases hbv : b with
      | false => rfl
      | true =>
        have h := (HB.out.1 hbv).2.1
        rw [HM.out, HXM.out] at h
        exact absurd h hl)
    clear hl
    go_wp2_with fail
    go_ret
    exact ⟨by rw [hbf.out]; rfl, hb1.trans (hb2.mono hb1.size)⟩
  (with_reducible refine (isList_any (n := m) _ HX1.out HXM.out hmx (by omega) true ⟨fun _ => hl, fun _ => rfl⟩).mono ?_)
  rintro e u2 ⟨rfl, hb2⟩
  have hbl := hb1.trans (hb2.mono hb1.size)
  have HLR := Lib.hid hl.2
  have hmm' := hl.1
  clear hl
  subst hmm'
  clear HX1 hb1 hb2
  go_wp2_with fail
  go_loopw [21] (fun iv wr => ∃ i : Nat, i ≤ mx ∧ iv = .int .i64 i ∧ Below w.heap.size w wr ∧ Hid (∀ k, k < i → sumTo ((rs.getD k rnil).A.map Fd.q) (xs.map Fd.q) mx = some (rs.getD k rnil).v.q)) (fun iv _ => mx - (intOf iv).toNat)
  case atStart => exact ⟨0, Nat.zero_le _, rfl, hbl, Lib.hid fun k hk => by omega⟩
  case round =>
    obtain ⟨i, hi, rfl, hbr, hz⟩ := hrel
    clear hbl
    by_cases hgo : i < mx
    · obtain ⟨bb, off, Aa, ca, f, hA, hBB, c0, c1, c2, c3, c4, hla, hfa, hf⟩ := (HD.out.below hbr) i (by rw [HM.out]; exact hgo)
      subst hA
      have hR : (rs.getD i rnil).R mx := by have := HS.out.2.2 i (by rw [HM.out]; exact hgo); rwa [HM.out] at this
      have hal := hR.1
      have HRA := Lib.hid hR.2.1
      have HRV := Lib.hid hR.2.2
      rw [hal] at c0
      obtain ⟨s1, A1, n1, d1, s2, A2, n2, d2⟩ := f
      simp only at c1 c2 c3 c4
      have hbA : Below wr.heap.size wr (wr.alloc (.cells #[.slice Aa mx ca, .int .i64 s1, .slice A1 n1 d1, .int .i64 s2, .slice A2 n2 d2] 45)) := (Below.refl _ _).alloc (Nat.le_refl _) _
      have hfA := hf.below hbA
      have hfaA := hfa.below hbA
      have hblA := hbr.trans (hbA.mono hbr.size)
      have HXA := HX.out.below hblA
      have HAL := Lib.hid hal
      clear hal
      go_wp2_with fail
      clear c0 c1 c2 c3 c4 hf hfa hbA
      generalize wr.alloc (.cells #[.slice Aa mx ca, .int .i64 s1, .slice A1 n1 d1, .int .i64 s2, .slice A2 n2 d2] 45) = W1 at *
      (with_reducible refine (lholds_any _ hfaA HAL.out HXA HXM.out (by omega) hfA HRA.out HLR.out HRV.out).mono ?_)
      rintro e u3 ⟨rfl, hb3⟩
      have hbb := hblA.trans (hb3.mono hblA.size)
      by_cases hsum : sumTo ((rs.getD i rnil).A.map Fd.q) (xs.map Fd.q) mx = some (rs.getD i rnil).v.q
      · rw [decide_eq_true hsum]
        have HSU := Lib.hid hsum
        clear hsum hfA hfaA HXA hR
        go_wp2_with fail
        go_roundw
        case rel => exact ⟨i + 1, by omega, rfl, hbb, Lib.hid fun k hk => by
          by_cases hki : k < i
          · exact hz.out k hki
          · have : k = i := by omega
            subst this
            exact HSU.out⟩
        case measure => simp [intOf]; omega
      · rw [decide_eq_false hsum]
        have hbf : Hid (b = false) := Lib.hid (by
          cases hbv : b with
          | false => rfl
          | true =>
            have h := (HB.out.1 hbv).2.2 i (by rw [HM.out]; exact hgo)
            rw [HM.out] at h
            exact absurd h hsum)
        clear hsum hfA hfaA HXA hR
        go_wp2_with fail
        go_ret
        exact ⟨by rw [hbf.out]; rfl, hbb⟩
    · have : i = mx := by omega
      subst this
      have hbt : Hid (b = true) := Lib.hid (HB.out.2 ⟨HS.out, ⟨HXM.out.trans HM.out.symm, fun k hk => HLR.out k (by rw [HXM.out] at hk; exact hk)⟩, fun k hk => by rw [HM.out] at hk ⊢; exact hz.out k hk⟩)
      go_wp2_with fail
      go_ret
      exact ⟨by rw [hbt.out]; rfl, hbr⟩

end Go.Proofs.Ytlbjaimgoiimgaa

namespace Go.Proofs.Ytlbjaimgoiimgaa
open Go.RowKit

/-- What the loop over the products has. -/
structure CkI (w wr : World) (G5 : Nat) (f : Fc) (us xs : List Rat) (s : Rat) (i : Nat) : Prop where
  bl : Below w.heap.size w wr
  k5 : Blk wr G5 40 #[.int .i64 f.s, .slice f.A f.n f.c, .int .i64 f.s', .slice f.A' f.n' f.c']
  h5 : w.heap.size ≤ G5
  fa : FA (fun b => b = G5) wr f s
  run : sumTo us xs i = some s
theorem CkI.below {w wr wq : World} {G5 : Nat} {f : Fc} {us xs : List Rat} {s : Rat} {i : Nat} (h : CkI w wr G5 f us xs s i) (hb : Below wr.heap.size wr wq) : CkI w wq G5 f us xs s i :=
  ⟨h.bl.trans (hb.mono h.bl.size), h.k5.below hb h.k5.lt, h.h5, h.fa.below hb, h.run⟩
theorem CkI.put {w wr w1 : World} {G5 : Nat} {f q : Fc} {us xs : List Rat} {s s' : Rat} {i : Nat} (h : CkI w wr G5 f us xs s i) (hb : Below wr.heap.size wr w1) (ho : FO w1 wr.heap.size q.v s'.num s'.den) (hr : Rb s' 60 60) (hrun : sumTo us xs (i + 1) = some s') (o : Obj) :
    CkI w (((((w1.setCell ⟨G5, 0, none⟩ (.int .i64 q.s)).setCell ⟨G5, 1, none⟩ (.slice q.A q.n q.c)).setCell ⟨G5, 2, none⟩ (.int .i64 q.s')).setCell ⟨G5, 3, none⟩ (.slice q.A' q.n' q.c')).alloc o) G5 q us xs s' (i + 1) :=
  CkI.below ⟨below_st4 (h.bl.trans (hb.mono h.bl.size)) h.h5 _ _ _ _, (h.k5.below hb h.k5.lt).set4 _ _ _ _, h.h5,
    fa_st (f := q) (N := wr.heap.size) (h.k5.below hb h.k5.lt) ho h.k5.lt (fun b hb => by subst hb; exact h.k5.lt) (Nat.le_refl _) hr, hrun⟩ ((Below.refl _ _).alloc (Nat.le_refl _) _)

end Go.Proofs.Ytlbjaimgoiimgaa
