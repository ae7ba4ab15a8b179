/- Walks: Late. Printed out of Early's. -/
import Derived.Test.YteiojobgjdfdpaaQr
namespace Go.Proofs.Yteiojobgjdfdpaa
open Go.RowKit Go.Shelf
attribute [local go_sem] Oper.semAt_some

theorem last_ex {a : Arc} {b : Bool} (y : Int) (h : a.ok) : ∃ z, LastA a b y z := by
  have key : ∀ k : Nat, k ≤ 1048577 → (∃ z, LastA a b y z) ∨ Over a b y (1048577 - k) := by
    intro k
    induction k with
    | zero => intro _; exact .inr (fun v h1 h2 h3 => by omega)
    | succ k ih =>
      intro hk
      rcases ih (by omega) with hz | ho
      · exact .inl hz
      · obtain ⟨p, hp⟩ := arr_ex (b := b) (t := 1048577 - ((k + 1 : Nat) : Int)) h ⟨by omega, by omega⟩
        have ho' : Over a b y ((1048577 - ((k + 1 : Nat) : Int)) + 1) := by rwa [show (1048577 - ((k + 1 : Nat) : Int)) + 1 = 1048577 - (k : Int) by omega]
        by_cases hy : y < p
        · exact .inr (ho'.step ⟨by omega, by omega⟩ hp hy)
        · exact .inl ⟨_, ho'.stop ⟨by omega, by omega⟩ hp (by omega)⟩
  rcases key 1048577 (by omega) with hz | ho
  · exact hz
  · exact ⟨-1, ho.none (by omega)⟩
theorem netL_last {n : Nat} {l : List Am} {i : Nat} {t : Int} (h : (am l i).a.ok) : LastA (am l i).a true t ((netL n l).f i t) := by
  obtain ⟨z, hz⟩ := last_ex (b := true) t h
  show LastA _ true t ((am l i).a.last true t)
  rw [← LastP.is (.inl ⟨h, hz⟩)]; exact hz
theorem netL_bound {n : Nat} {l : List Am} {i : Nat} {t : Int} (h : (am l i).a.ok) (_ht : IsT t) : -9000000000000000000 ≤ (netL n l).f i t ∧ (netL n l).f i t ≤ 9000000000000000000 := by
  have hz := netL_last (n := n) (t := t) h
  have h1 := hz.low
  have h2 := hz.high
  omega
theorem netL_ok {n : Nat} {l : List Am} (h : RRight n l) : (netL n l).ok := by
  refine ⟨fun i hi => ?_, fun i hi => ?_, fun i hi t ht hT => ?_⟩
  · have := h.2.2.2 i hi
    show (am l i).a.t.toNat < n
    have h1 := this.1.2.1; have h2 := this.2.2
    omega
  · have := h.2.2.2 i hi
    show (am l i).a.f.toNat < n
    have h1 := this.1.1; have h2 := this.2.1
    omega
  · have hz := netL_last (n := n) (t := t) (h.2.2.2 i hi).1
    have h1 := hz.out hT.1
    have h2 := ((h.2.2.2 i hi).1.mm true ((netL n l).f i t)).1
    show cst true t ≤ cst true _
    unfold cst
    simp only [if_true]
    omega

set_option linter.unusedSimpArgs false in
set_option maxRecDepth 100000 in
set_option maxHeartbeats 8000000 in
theorem late_yes (n m c : Nat) (A : Option Addr) (l : List Am) (src : Nat) (t : Int) (w : World) (hl : l.length = m) (hA : ArcsAt w.heap.size w A l) (hR : RRight n l) (hs : src < n) (ht : IsT t) (hm : m ≤ 100)
    (hG : ∀ w' : World, ArcsAt w'.heap.size w' A l → Calls Try.prog 36 #[.int .i64 n, .slice A m c, .func (.func 43) #[] #[]] w' (GrpP w' n m (fun i => (am l i).a.t.toNat))) :
    Calls Try.prog 15 #[.int .i64 n, .slice A m c, .int .i64 src, .int .i64 t] w (EndP w (netL n l) src t) := by
  refine (callsIn_wide (n := 3)).1 ?_
  refine callsIn_of_wp_marks Try.func15 rfl trivial ?_ rfl
  simp only [Try.ntmps15, List.size_toArray, List.length_cons, List.length_nil, Nat.reduceAdd, Nat.reduceSub, Array.replicate_succ, Array.replicate_zero, List.push_toArray, List.append_toArray, List.nil_append, List.cons_append]
  obtain ⟨W0, hW0⟩ : ∃ W0, w.alloc (.cells #[.slice A m c] 22) = W0 := ⟨_, rfl⟩
  have hB0 : Below w.heap.size w W0 := by rw [← hW0]; exact (Below.refl _ _).alloc (Nat.le_refl _) _
  have k6 : Blk W0 w.heap.size 22 #[.slice A m c] := by rw [← hW0]; exact Blk.new w _ _
  have hs0 : W0.heap.size = w.heap.size + 1 := by rw [← hW0]; simp
  have HA := Lib.hid (And.intro hl (And.intro hA (And.intro hR hs0)))
  have HT := Lib.hid ht
  have HRr := Lib.hid (fun w' h => rr_any n l A c m w' hl h true (by simp [hR]))
  have HG := Lib.hid hG
  have HN := Lib.hid (fun w => isNode_any n src w true (decide_eq_true ⟨by omega, by omega⟩).symm)
  have HTt := Lib.hid (fun w => isTime2_any t w true (decide_eq_true ht).symm)
  have hn9 : n ≤ 2000 := by have := hR.2.1; omega
  have HK := Lib.hid (And.intro k6 (And.intro k6 hB0))
  have c6 : W0.cell? ⟨w.heap.size, 0, none⟩ = some (.slice A m c) := k6.cell 0
  clear hl hA hR ht hG k6 hs0
  gi_wp2_with fail
  refine ⟨trivial, ?_⟩
  gi_at_call 18
  refine (callsIn_wide.2 (HRr.out _ ((HA.out.2.1.below HK.out.2.2).more HK.out.2.2.size))).mono ?_
  rintro e w1 ⟨rfl, hb1⟩
  have HK1 := Lib.hid (And.intro (HK.out.1.below hb1 HK.out.1.lt) (And.intro (HK.out.2.1.below hb1 HK.out.2.1.lt) (HK.out.2.2.trans (hb1.mono HK.out.2.2.size))))
  have d6 : w1.cell? ⟨w.heap.size, 0, none⟩ = some (.slice A m c) := HK1.out.1.cell 0
  clear hb1 c6 hW0 hB0
  gi_wp2_with fail
  refine ⟨trivial, ?_⟩
  gi_at_call 34
  refine (callsIn_wide.2 (HN.out _)).mono ?_
  rintro e w1' ⟨rfl, rfl⟩
  gi_wp2_with fail
  refine ⟨trivial, ?_⟩
  gi_at_call 35
  refine (callsIn_wide.2 (HTt.out _)).mono ?_
  rintro e w1' ⟨rfl, rfl⟩
  gi_wp2_with fail
  refine ⟨trivial, ?_⟩
  gi_at_call 36
  refine (callsIn_wide.2 (HG.out _ ((HA.out.2.1.below HK1.out.2.2).more HK1.out.2.2.size))).mono ?_
  rintro e w2 ⟨gg, rfl, hg2, hgg, hb2⟩
  obtain ⟨W3, hW3⟩ : ∃ W3, w2.alloc (.cells #[.slice (some ⟨gg, 0, none⟩) n n] 57) = W3 := ⟨_, rfl⟩
  have hb3 : Below w2.heap.size w2 W3 := by rw [← hW3]; exact (Below.refl _ _).alloc (Nat.le_refl _) _
  have k12 : Blk W3 w2.heap.size 57 #[.slice (some ⟨gg, 0, none⟩) n n] := by rw [← hW3]; exact Blk.new _ _ _
  obtain ⟨B12, hB12⟩ : ∃ B12, w2.heap.size = B12 := ⟨_, rfl⟩
  have hr3 : GrpR W3 W3.heap.size gg n (grpF (fun i => (am l i).a.t.toNat) m) := (GrpAt.read (by obtain ⟨vs, hv⟩ := hg2; exact ⟨vs, hv.below hb3⟩))
  have hb13 := hb2.trans (hb3.mono hb2.size)
  have HK3 := Lib.hid (And.intro (HK1.out.1.below hb13 HK1.out.1.lt) (And.intro (HK1.out.2.1.below hb13 HK1.out.2.1.lt) (And.intro (HK1.out.2.2.trans (hb13.mono HK1.out.2.2.size)) (And.intro (hB12 ▸ k12) hr3))))
  have HBg := Lib.hid (begin_any n true src t W3 hs (by omega) HT.out)
  clear hb2 hb3 hb13 k12 hr3 hg2 hgg d6
  gi_wp2_with fail
  clear hW3 hB12
  refine ⟨trivial, ?_⟩
  gi_at_call 38
  refine (callsIn_wide.2 HBg.out).mono ?_
  rintro e w4 ⟨G, gl, gd, v, q, rfl, hs4, hq4, hm4, hb4⟩
  have HS4 := Lib.hid (And.intro hs4 (And.intro hq4 (And.intro hm4 hb4)))
  clear hs4 hq4 hm4 hb4
  obtain ⟨W5, hW5⟩ : ∃ W5, w4.alloc (.cells #[.pointer (some ⟨G, 0, none⟩)] 60) = W5 := ⟨_, rfl⟩
  obtain ⟨B13, hB13⟩ : ∃ B13, w4.heap.size = B13 := ⟨_, rfl⟩
  have c13 : W5.cell? ⟨B13, 0, none⟩ = some (.pointer (some ⟨G, 0, none⟩)) := by rw [← hW5, ← hB13]; exact (Blk.new w4 _ _).cell 0
  gi_wp2_with fail
  refine ⟨trivial, ?_⟩
  gi_at_call 39
  refine (callsIn_wide.2 (settle_any G W5)).mono ?_
  rintro e w6 ⟨rfl, rfl⟩
  gi_wp2_with fail
  obtain ⟨W6, hW6⟩ : ∃ W6, W5.alloc (.cells #[.pointer (some ⟨G, 0, none⟩)] 60) = W6 := ⟨_, rfl⟩
  obtain ⟨B2, hB2⟩ : ∃ B2, W5.heap.size = B2 := ⟨_, rfl⟩
  have hJ : JJ W3 G gl gd n true B13 B2 W6 (((List.replicate n ((-1, -1) : Lb)).set src (t, -1))) [] v q := by
    have e5 : Below w4.heap.size w4 W5 := by rw [← hW5]; exact (Below.refl _ _).alloc (Nat.le_refl _) _
    have e6 : Below W5.heap.size W5 W6 := by rw [← hW6]; exact (Below.refl _ _).alloc (Nat.le_refl _) _
    have h4 := HS4.out.2.2.2
    have s4 := h4.size
    have s5 := e5.size
    have k13 : Blk W5 B13 60 #[.pointer (some ⟨G, 0, none⟩)] := by rw [← hW5, ← hB13]; exact Blk.new w4 _ _
    exact ⟨(HS4.out.1.below e5).below e6, (h4.trans (e5.mono s4)).trans (e6.mono (by omega)), k13.below e6 k13.lt, by rw [← hW6, ← hB2]; exact Blk.new W5 _ _⟩
  have hs6 : W3.heap.size ≤ W6.heap.size := hJ.bl.size
  have HJ := Lib.hid hJ
  rw [hB2, hW6]
  clear hJ hW6 hW5 hB13 hB2 c13
  obtain ⟨Gn, hGn⟩ : ∃ Gn, netL n l = Gn := ⟨_, rfl⟩
  have gn : Gn.n = n := by rw [← hGn]; rfl
  have gm : Gn.m = m := by rw [← hGn]; exact HA.out.1
  have gb : Gn.bk = true := by rw [← hGn]; rfl
  have HGn := Lib.hid (And.intro hGn (And.intro gn (And.intro gm gb)))
  rw [hGn]
  clear hGn
  have hab : ∀ (Wl : World) (l' : Nat) (o o' : Obj) lab dn v q, W6.heap.size ≤ l' → JJ W3 G gl gd Gn.n Gn.bk B13 B2 Wl lab dn v q → Wl.heap[l']? = some o → o.isCells = false → JJ W3 G gl gd Gn.n Gn.bk B13 B2 (Wl.putObj l' o') lab dn v q :=
    fun Wl l' o o' lab dn v q hl hj ho hc => hj.putObj o' (Nat.le_trans hs6 hl) ho hc
  refine wpIn_rangeJ (F := Fence.wide) (n := 3) (α := Nat × Int × Nat) rfl (by decide) (gf := 65) (lb := #[.pointer (some ⟨B2, 0, none⟩)]) rfl trivial (enters_of Try.func65 (by kernel_rfl) rfl) (encs := encS) (fun _ => rfl)
    (Yp Gn src t W3 G gl gd B13 B2 (1 + n * (m + 1))) (Zp Gn src t W3 G gl gd B13 B2 (1 + n * (m + 1))) (Done Gn src t W3 G gl gd B13 B2)
    (fun x Wl l' o o' hl ⟨st, v, q, h⟩ ho hc => ⟨st, v, q, hab Wl l' o o' _ _ _ _ hl h.j ho hc, h.r, h.p, h.t, h.qi, h.m, h.mx⟩)
    (fun x Wl l' o o' hl ⟨st, v, q, h, k⟩ ho hc => ⟨st, v, q, ⟨hab Wl l' o o' _ _ _ _ hl h.j ho hc, h.r, h.qi⟩, k⟩)
    (fun Wl l' o o' hl ⟨st, v, q, h, k⟩ ho hc => ⟨st, v, q, ⟨hab Wl l' o o' _ _ _ _ hl h.j ho hc, h.r, h.qi⟩, k⟩)
    (fun x => { tmps := #[Value.int IntKind.i64 ↑n, Value.slice A m c, Value.int IntKind.i64 ↑src, Value.int IntKind.i64 t, undef,
          Value.pointer (some { block := w.heap.size, off := 0 }), undef, undef, Value.slice none 0 0,
          Value.int IntKind.i64 0, Value.pointer (some { block := B12, off := 0 }),
          Value.pointer (some { block := B13, off := 0 }), Value.int IntKind.i64 ↑x.1, Value.int IntKind.i64 x.2.1, undef, undef, Value.int IntKind.i64 ↑n,
          Value.slice A m c, Value.bool true, Value.bool false, Value.bool false, Value.int IntKind.i64 ↑n,
          Value.int IntKind.i64 ↑src, Value.bool true, Value.bool false, Value.bool false, Value.bool false,
          Value.int IntKind.i64 t, Value.bool true, Value.bool false, Value.bool false, Value.int IntKind.i64 ↑n,
          Value.slice A m c, Value.slice (some { block := gg, off := 0 }) n n, Value.int IntKind.i64 ↑n,
          Value.int IntKind.i64 ↑src, Value.int IntKind.i64 t, Value.pointer (some { block := G, off := 0 }),
          Value.pointer (some { block := G, off := 0 }),
          Value.func (Fn.func 65) #[] #[Value.pointer (some { block := B2, off := 0 })], Value.int IntKind.i64 ↑x.1, Value.int IntKind.i64 x.2.1, undef, undef,
          undef, undef, undef, undef, undef, undef, undef, undef, undef, undef, undef, undef, undef, undef, undef,
          undef, undef, undef, undef, undef, undef, undef, undef, undef, undef, undef], defers := [] }) ?assign ?body ?iter ?done
  case assign =>
    intro l' x W K hK
    gi_wp2
    exact hK
  case iter =>
    intro l' Bk W1 hBk hY hb1 hs1 hB1
    have hj1 : JJ W3 G gl gd Gn.n Gn.bk B13 B2 W1 (Gn.ini src t).lab [] v q := by
      have h := HJ.out
      have e := HGn.out
      rw [e.2.1, e.2.2.2]
      have ei : (Gn.ini src t).lab = ((List.replicate n ((-1, -1) : Lb)).set src (t, -1)) := by unfold Net.ini; rw [e.2.1]
      rw [ei]
      exact ⟨h.sa.below hb1, h.bl.trans (hb1.mono hs6), h.b1.below hb1 h.b1.lt, h.b2.below hb1 h.b2.lt⟩
    refine settle_iter Gn src t W3 G gl gd B13 B2 (1 + n * (m + 1)) 1 ?_ l' Bk hBk hY W1 (Gn.ini src t) v q ⟨hj1, .refl _, ?_⟩ ?_ hB1
    · have : n * (m + 1) ≤ 2000 * 101 := Nat.mul_le_mul hn9 (by omega)
      omega
    · have hm4 := HS4.out.2.2.1
      have e := HGn.out
      have L : ∀ v, lb (Gn.ini src t).lab v = if v = src then (t, -1) else (-1, -1) := fun v => by
        unfold Net.ini
        rw [lb_set (by simpa using (by rw [e.2.1]; exact hs))]
        split
        · rfl
        · unfold lb
          rw [List.getD_eq_getElem?_getD, List.getElem?_replicate]
          split <;> rfl
      rw [e.2.2.2, e.2.1]
      refine ⟨fun v hv _ hr => ?_, fun y hy => ?_⟩
      · rw [L] at hr ⊢
        by_cases ev : v = src
        · rw [if_pos ev]
          exact (hm4 _).2 (by rw [ev])
        · rw [if_neg ev] at hr
          simp at hr
      · have hy' := (hm4 y).1 hy
        subst hy'
        refine ⟨src, hs, rfl, fun _ => ?_⟩
        rw [L, if_pos rfl]
        exact ⟨HT.out.1, Int.le_refl _⟩
    · have e := HGn.out
      have := HS4.out.2.1
      rw [e.2.1, e.2.2.1, show un n (Gn.ini src t).dn = n from un_nil n]
      omega
  case done =>
    rintro D W hD ⟨st, v', q', hH, hfin⟩ hK
    have e13 : W.cell? ⟨B13, 0, none⟩ = some (.pointer (some ⟨G, 0, none⟩)) := hH.j.b1.cell 0
    have e1 : W.cell? ⟨G, 1, none⟩ = some (.slice (some ⟨gl, 0, none⟩) Gn.n Gn.n) := hH.j.sa.s.cell 1
    have HH := Lib.hid (And.intro hH (And.intro hfin (And.intro hK hD)))
    clear hH hfin hK hD
    gi_wp2
    obtain ⟨hH, hfin, hK, hD⟩ := HH.out
    refine ⟨by simp, .inl ⟨_, _, rfl, run_takeDeferred hK, ?_⟩⟩
    have hjp := hH.j.putObj (.deferred none) (Nat.le_trans hs6 hD) hK rfl
    have e := HGn.out
    refine ⟨_, results_tmp2 rfl _ _ _, gl, st.lab, by rw [e.1, e.2.1]; rfl, by rw [e.1]; exact ⟨st, hH.r, hfin, rfl⟩, ?_, ?_, HK3.out.2.2.1.trans (hjp.bl.mono HK3.out.2.2.1.size)⟩
    · rw [e.1]
      exact World.ownsRow.mono hjp.sa.l HK3.out.2.2.1.size
    · rw [e.1]
      exact hjp.sa.len
  case body =>
    rintro l' ⟨u, T, c0⟩ W ⟨st, v', q', hYd⟩
    have hun : u < n := by have := hYd.p.1; rw [HGn.out.2.1] at this; exact this
    have e12 : W.cell? ⟨B12, 0, none⟩ = some (.slice (some ⟨gg, 0, none⟩) n n) := (hYd.j.bl.cell (p := ⟨B12, 0, none⟩) HK3.out.2.2.2.1.lt).trans (HK3.out.2.2.2.1.cell 0)
    obtain ⟨Ag, cg, eg0, hIg⟩ := HK3.out.2.2.2.2.2 u hun
    have eg1 := (hYd.j.bl.cell (p := ⟨gg, u, none⟩) HK3.out.2.2.2.2.1).trans eg0
    clear eg0
    have hFl : (grpF (fun i => (am l i).a.t.toNat) m u) = (Gn.arcs u m).map (fun i : Nat => (i : Int)) := by
      have e := HGn.out.1
      unfold grpF Net.arcs
      rw [← e]
      rfl
    have hok : Gn.ok := by rw [← HGn.out.1]; exact netL_ok HA.out.2.2.1
    have hIT : IsT T := by
      have hI := Net.Run.inv hok (by rw [HGn.out.2.1]; exact hs) HT.out hYd.r
      rcases hI.ty u (by rw [HGn.out.2.1]; exact hun) with k | k
      · have := hYd.p.2.2.1; rw [k] at this; simp at this
      · have e := hYd.t
        simp only at e
        rw [← e]; exact k.1
    have hIb : LabB st.lab := by
      have hI := Net.Run.inv hok (by rw [HGn.out.2.1]; exact hs) HT.out hYd.r
      intro v
      by_cases hv : v < Gn.n
      · rcases hI.ty v hv with k | k
        · rw [k]; exact ⟨by decide, by decide⟩
        · have := k.1.1; have := k.1.2; omega
      · rw [lb_len (by rw [hI.len]; omega)]; exact ⟨by decide, by decide⟩
    rw [hFl, List.length_map] at eg1
    rw [hFl] at hIg
    obtain ⟨N1, hN1⟩ : ∃ N1, (Gn.arcs u m).length = N1 := ⟨_, rfl⟩
    rw [hN1] at eg1
    have hN9 : N1 ≤ m := by
      rw [← hN1]
      unfold Net.arcs
      exact Nat.le_trans (List.length_filter_le _ _) (by simp)
    have HIg := Lib.hid (And.intro hIg hN1)
    have HY := Lib.hid hYd
    clear hYd hFl hIg hN1
    gi_wp2_with fail
    gi_loopw [47] (fun kv wr => ∃ (k : Nat) (v2 : Value) (q2 : List En), kv = .int .i64 k ∧ k ≤ N1 ∧ Hid (JJ W3 G gl gd Gn.n Gn.bk B13 B2 wr (Gn.relA (u :: st.dn) T ((Gn.arcs u m).take k) st.lab) (u :: st.dn) v2 q2) ∧ Hid (QInv Gn.bk Gn.n (Gn.relA (u :: st.dn) T ((Gn.arcs u m).take k) st.lab) (u :: st.dn) q2) ∧ Hid (q2.length ≤ q'.length + k) ∧ Hid (KeepsOthers W wr)) (fun kv _ => N1 - (intOf kv).toNat)
    case atStart => exact ⟨0, v', q', rfl, Nat.zero_le _, Lib.hid HY.out.j, Lib.hid HY.out.qi, Lib.hid (Nat.le_refl _), Lib.hid (KeepsOthers.refl _)⟩
    case round =>
      obtain ⟨k, v2, q2, rfl, hk, hJ2, hQ2, hl2, hK2⟩ := hrel
      by_cases hgo : k < N1
      · obtain ⟨bg, og, hAg, hbg, cg0⟩ := HIg.out.1 k (by rw [List.length_map, HIg.out.2]; exact hgo)
        have cg2 := (hJ2.out.bl.cell (p := ⟨bg, og + k, none⟩) hbg).trans cg0
        clear cg0
        have hkl : k < (Gn.arcs u m).length := by rw [HIg.out.2]; exact hgo
        obtain ⟨i, hi⟩ : ∃ i, (Gn.arcs u m)[k] = i := ⟨_, rfl⟩
        have hgd : ((Gn.arcs u m).map (fun i : Nat => (i : Int))).getD k 0 = (i : Int) := by
          rw [List.getD_eq_getElem?_getD, List.getElem?_map, List.getElem?_eq_getElem hkl, hi]; rfl
        rw [hgd] at cg2
        have hmem : i ∈ Gn.arcs u m := hi ▸ List.getElem_mem hkl
        obtain ⟨him, hsi⟩ := Gn.arcs_mem.1 hmem
        have htk : (Gn.arcs u m).take (k + 1) = (Gn.arcs u m).take k ++ [i] := by rw [List.take_succ_eq_append_getElem hkl, hi]
        have HTk := Lib.hid (And.intro htk hsi)
        subst hAg
        clear hgd hmem hi hkl htk hsi
        have hil : i < l.length := by rw [HA.out.1]; exact him
        have hRA := HA.out.2.2.1.2.2.2 i hil
        have hAw := (HA.out.2.1.below HK3.out.2.2.1).below (hJ2.out.bl.mono HK3.out.2.2.1.size)
        have hM := hAw.m (by have := HK3.out.2.2.1.size; have := hJ2.out.bl.size; omega) hil
        obtain ⟨b7, o7, hAe, hb7, k0, k1, k2, k3, -, -⟩ := hAw i hil
        have hb7w : b7 < wr.heap.size := by have := HK3.out.2.2.1.size; have := hJ2.out.bl.size; omega
        have hpass : Hid (∀ W', Below wr.heap.size wr W' → Calls Try.prog 44 #[(am l i).v, .int .i64 T, .bool true] W' fun e w' => e = .returned (.int .i64 (Gn.f i T)) ∧ Below W'.heap.size W' w') := Lib.hid (fun W' hb => (last_any (am l i).a _ _ _ _ true T W' (hM.below hb) (by have := hIT.2; omega)).mono (by
          rintro e w' ⟨z, rfl, hz, hb'⟩
          refine ⟨?_, hb'⟩
          rw [hz.out.is, ← HGn.out.1]; rfl))
        have hfb : -9000000000000000000 ≤ Gn.f i T ∧ Gn.f i T ≤ 9000000000000000000 := by
          rw [← HGn.out.1]
          exact netL_bound hRA.1 hIT
        have hd : (am l i).a.f = (Gn.d i : Int) := by
          rw [← HGn.out.1]
          show _ = (((am l i).a.f.toNat : Nat) : Int)
          have := hRA.1.1
          omega
        have hdn : Gn.d i < n := by
          have := hRA.2.1
          omega
        obtain ⟨x, hx⟩ : ∃ x, am l i = x := ⟨_, rfl⟩
        rw [hx] at hpass hd k0 k1 k2 k3
        clear hx hM hAw hRA
        obtain ⟨⟨f, t2, lo, hi2⟩, A1, c1, A2, c2⟩ := x
        obtain ⟨n1, hn1⟩ : ∃ n1, lo.length = n1 := ⟨_, rfl⟩
        obtain ⟨n2, hn2⟩ : ∃ n2, hi2.length = n2 := ⟨_, rfl⟩
        simp only [Am.v, hn1, hn2] at hpass k2 k3
        simp only at hd k0 k1 k2 k3
        subst hd
        clear hn1 hn2
        obtain ⟨d, hdd⟩ : ∃ d, Gn.d i = d := ⟨_, rfl⟩
        obtain ⟨z, hzz⟩ : ∃ z, Gn.f i T = z := ⟨_, rfl⟩
        obtain ⟨lab, hlab⟩ : ∃ lab, Gn.relA (u :: st.dn) T ((Gn.arcs u m).take k) st.lab = lab := ⟨_, rfl⟩
        have hlb := hIb.relA Gn (u :: st.dn) T ((Gn.arcs u m).take k)
        rw [hlab] at hlb hJ2 hQ2
        rw [hdd] at k0 hdn hpass
        rw [hzz] at hpass hfb
        have HD := Lib.hid (And.intro hdd (And.intro hzz hlab))
        clear hdd hzz hlab
        have HRe : Hid (∀ W', Below wr.heap.size wr W' → Calls Try.prog 40 #[.pointer (some ⟨G, 0, none⟩), .int .i64 d, .int .i64 z, .int .i64 i] W' (ReachP W' W3.heap.size G gl gd Gn.n Gn.bk lab (u :: st.dn) v2 q2 d z i)) := Lib.hid (fun W' hb =>
          reach_any W3.heap.size G gl gd Gn.n Gn.bk lab (u :: st.dn) v2 q2 d z i W' (hJ2.out.sa.below hb) (by rw [HGn.out.2.1]; exact hdn) hfb.1 hfb.2 ⟨by have := (hlb d).1; omega, by have := (hlb d).2; omega⟩ (by
            have h1 := hl2.out
            have h2 := HY.out.m
            have h3 := HY.out.mx
            have h4 : n * (m + 1) ≤ 2000 * 101 := Nat.mul_le_mul hn9 (by omega)
            simp only at h2 h3
            rw [HGn.out.2.2.1] at h2
            omega))
        have e13 : wr.cell? ⟨B13, 0, none⟩ = some (.pointer (some ⟨G, 0, none⟩)) := hJ2.out.b1.cell 0
        have hx6 : w.heap.size < W3.heap.size := HK3.out.1.lt
        have e6 : wr.cell? ⟨w.heap.size, 0, none⟩ = some (.slice A m c) := (hJ2.out.bl.cell (p := ⟨w.heap.size, 0, none⟩) hx6).trans (HK3.out.1.cell 0)
        subst hAe
        have HE0 : Hid (∀ W', Below wr.heap.size wr W' → (fun W' => W'.cell? ⟨B13, 0, none⟩ = some (.pointer (some ⟨G, 0, none⟩)) ∧ W'.cell? ⟨w.heap.size, 0, none⟩ = some (.slice (some ⟨b7, o7, none⟩) m c) ∧ W'.cell? ⟨b7, o7 + i * 4, none⟩ = some (.int .i64 d) ∧ W'.cell? ⟨b7, o7 + i * 4 + 1, none⟩ = some (.int .i64 t2) ∧ W'.cell? ⟨b7, o7 + i * 4 + 2, none⟩ = some (.slice A1 n1 c1) ∧ W'.cell? ⟨b7, o7 + i * 4 + 3, none⟩ = some (.slice A2 n2 c2)) W') :=
          Lib.hid (fun W' hb => ⟨(hb.cell (block_lt_of_cell e13)).trans e13, (hb.cell (block_lt_of_cell e6)).trans e6, (hb.cell (block_lt_of_cell k0)).trans k0, (hb.cell (block_lt_of_cell k1)).trans k1, (hb.cell (block_lt_of_cell k2)).trans k2, (hb.cell (block_lt_of_cell k3)).trans k3⟩)
        have hfm : Try.prog.follows .mixedOrders = true := by kernel_rfl
        have hB00 : Below wr.heap.size wr wr.drew := (Below.refl _ _).drew
        clear hIb hlb
        gi_wp2_with fail
        refine wpIn_region_heldR (fun W' => W'.cell? ⟨B13, 0, none⟩ = some (.pointer (some ⟨G, 0, none⟩)) ∧ W'.cell? ⟨w.heap.size, 0, none⟩ = some (.slice (some ⟨b7, o7, none⟩) m c) ∧ W'.cell? ⟨b7, o7 + i * 4, none⟩ = some (.int .i64 d) ∧ W'.cell? ⟨b7, o7 + i * 4 + 1, none⟩ = some (.int .i64 t2) ∧ W'.cell? ⟨b7, o7 + i * 4 + 2, none⟩ = some (.slice A1 n1 c1) ∧ W'.cell? ⟨b7, o7 + i * 4 + 3, none⟩ = some (.slice A2 n2 c2)) hfm (by kernel_rfl) (fun ⟨_, _, h⟩ => h.elim) (HE0.out _ hB00) (fun hSS => ?_)
        refine wpAnyH_take (i := 0) (v := (.pointer (some ⟨G, 0, none⟩))) rfl (by kernel_rfl) (by kernel_rfl) (by kernel_rfl) (fun _ _ _ h => h) (Or.inl ⟨by rfl, fun W' hSw => by obtain ⟨s1, s2, s4, s5, s6, s7⟩ := hSw; go_simp⟩) hSS ?_
        simp only [Act.put, List.setIfInBounds_toArray, List.set_cons_zero, List.set_cons_succ]
        refine wpAnyH_take (i := 1) (v := (.slice (some ⟨b7, o7, none⟩) m c)) rfl (by kernel_rfl) (by kernel_rfl) (by kernel_rfl) (fun _ _ _ h => h) (Or.inl ⟨by rfl, fun W' hSw => by obtain ⟨s1, s2, s4, s5, s6, s7⟩ := hSw; go_simp⟩) hSS ?_
        simp only [Act.put, List.setIfInBounds_toArray, List.set_cons_zero, List.set_cons_succ]
        refine wpAnyH_take (i := 2) (v := (.int .i64 i)) rfl (by kernel_rfl) (by kernel_rfl) (by kernel_rfl) (fun _ _ _ h => h) (Or.inl ⟨by rfl, fun W' hSw => by obtain ⟨s1, s2, s4, s5, s6, s7⟩ := hSw; go_simp⟩) hSS ?_
        simp only [Act.put, List.setIfInBounds_toArray, List.set_cons_zero, List.set_cons_succ]
        refine wpAnyH_take (i := 3) (v := (.pointer (some ⟨b7, o7 + i * 4, none⟩))) rfl (by kernel_rfl) (by kernel_rfl) (by kernel_rfl) (fun _ _ _ h => h) (Or.inl ⟨by rfl, fun W' hSw => by obtain ⟨s1, s2, s4, s5, s6, s7⟩ := hSw; go_simp⟩) hSS ?_
        simp only [Act.put, List.setIfInBounds_toArray, List.set_cons_zero, List.set_cons_succ]
        refine wpAnyH_take (i := 4) (v := (.pointer (some ⟨b7, o7 + i * 4, none⟩))) rfl (by kernel_rfl) (by kernel_rfl) (by kernel_rfl) (fun _ _ _ h => h) (Or.inl ⟨by rfl, fun W' hSw => by obtain ⟨s1, s2, s4, s5, s6, s7⟩ := hSw; go_simp⟩) hSS ?_
        simp only [Act.put, List.setIfInBounds_toArray, List.set_cons_zero, List.set_cons_succ]
        refine wpAnyH_take (i := 5) (v := (.int .i64 d)) rfl (by kernel_rfl) (by kernel_rfl) (by kernel_rfl) (fun _ _ _ h => h) (Or.inl ⟨by rfl, fun W' hSw => by obtain ⟨s1, s2, s4, s5, s6, s7⟩ := hSw; go_simp⟩) hSS ?_
        simp only [Act.put, List.setIfInBounds_toArray, List.set_cons_zero, List.set_cons_succ]
        refine wpAnyH_take (i := 6) (v := (.slice (some ⟨b7, o7, none⟩) m c)) rfl (by kernel_rfl) (by kernel_rfl) (by kernel_rfl) (fun _ _ _ h => h) (Or.inl ⟨by rfl, fun W' hSw => by obtain ⟨s1, s2, s4, s5, s6, s7⟩ := hSw; go_simp⟩) hSS ?_
        simp only [Act.put, List.setIfInBounds_toArray, List.set_cons_zero, List.set_cons_succ]
        refine wpAnyH_take (i := 7) (v := (.int .i64 i)) rfl (by kernel_rfl) (by kernel_rfl) (by kernel_rfl) (fun _ _ _ h => h) (Or.inl ⟨by rfl, fun W' hSw => by obtain ⟨s1, s2, s4, s5, s6, s7⟩ := hSw; go_simp⟩) hSS ?_
        simp only [Act.put, List.setIfInBounds_toArray, List.set_cons_zero, List.set_cons_succ]
        refine wpAnyH_take (i := 8) (v := (.pointer (some ⟨b7, o7 + i * 4, none⟩))) rfl (by kernel_rfl) (by kernel_rfl) (by kernel_rfl) (fun _ _ _ h => h) (Or.inl ⟨by rfl, fun W' hSw => by obtain ⟨s1, s2, s4, s5, s6, s7⟩ := hSw; go_simp⟩) hSS ?_
        simp only [Act.put, List.setIfInBounds_toArray, List.set_cons_zero, List.set_cons_succ]
        refine wpAnyH_take (i := 9) (v := (.agg #[.int .i64 d, .int .i64 t2, .slice A1 n1 c1, .slice A2 n2 c2])) rfl (by kernel_rfl) (by kernel_rfl) (by kernel_rfl) (fun _ _ _ h => h) (Or.inl ⟨by rfl, fun W' hSw => by obtain ⟨s1, s2, s4, s5, s6, s7⟩ := hSw; go_simp⟩) hSS ?_
        simp only [Act.put, List.setIfInBounds_toArray, List.set_cons_zero, List.set_cons_succ]
        refine wpAnyH_take (i := 10) (v := (.int .i64 T)) rfl (by kernel_rfl) (by kernel_rfl) (by kernel_rfl) (fun _ _ _ h => h) (Or.inl ⟨by rfl, fun W' hSw => by obtain ⟨s1, s2, s4, s5, s6, s7⟩ := hSw; go_simp⟩) hSS ?_
        simp only [Act.put, List.setIfInBounds_toArray, List.set_cons_zero, List.set_cons_succ]
        refine wpAnyH_take (i := 12) (v := (.int .i64 i)) rfl (by kernel_rfl) (by kernel_rfl) (by kernel_rfl) (fun _ _ _ h => h) (Or.inl ⟨by rfl, fun W' hSw => by obtain ⟨s1, s2, s4, s5, s6, s7⟩ := hSw; go_simp⟩) hSS ?_
        simp only [Act.put, List.setIfInBounds_toArray, List.set_cons_zero, List.set_cons_succ]
        refine wpAnyH_ready (rs := [11]) (by kernel_rfl) (by simp) ?_
        refine AllReadyH.cons rfl (fun K hK => ?_) AllReadyH.nil
        rw [if_pos (by rfl)]
        go_simp
        go_at_call 44
        refine (hpass.out _ hB00).mono ?_
        rintro e w7 ⟨rfl, hb7'⟩
        have hB7 : Below wr.heap.size wr w7 := hB00.trans hb7'
        refine hK.out _ _ (HE0.out _ hB7) (fun hSS2 => ?_)
        try simp only [Act.put, List.setIfInBounds_toArray, List.set_cons_zero, List.set_cons_succ]
        refine wpAnyH_ready (rs := [13]) (by kernel_rfl) (by simp) ?_
        refine AllReadyH.cons rfl (fun K2 hK2' => ?_) AllReadyH.nil
        rw [if_pos (by rfl)]
        go_simp
        go_at_call 40
        refine (HRe.out _ hB7).mono ?_
        rintro e w8 ⟨rfl, v8, q8, hs8, hl8, hm8, hf8, ha8⟩
        have hj7 := hJ2.out.below hB7
        have hrel : (if IsT z ∧ d ∉ (u :: st.dn) ∧ bet Gn.bk (z, (i : Int)) (lb lab d) then lab.set d (z, (i : Int)) else lab) = Gn.rel1 (u :: st.dn) T lab i := by
          unfold Net.rel1
          rw [HD.out.1, HD.out.2.1]
        have hj8 : JJ W3 G gl gd Gn.n Gn.bk B13 B2 w8 (Gn.relA (u :: st.dn) T ((Gn.arcs u m).take (k + 1)) st.lab) (u :: st.dn) v8 q8 := by
          rw [HTk.out.1, Net.relA_snoc, HD.out.2.2, ← hrel]
          exact hj7.step hf8 hs8
        have hq8 : QInv Gn.bk Gn.n (Gn.relA (u :: st.dn) T ((Gn.arcs u m).take (k + 1)) st.lab) (u :: st.dn) q8 := by
          rw [HTk.out.1, Net.relA_snoc, HD.out.2.2]
          refine hQ2.out.reach (by have := hJ2.out.sa.len; exact this) (by rw [HD.out.1, HGn.out.2.1]; exact hdn) ?_
          rw [HD.out.1, HD.out.2.1]
          exact hm8
        have hk8 : KeepsOthers W w8 := hK2.out.trans ((KeepsOthers.of_below hB7).trans (hj7.sa.keeps hf8))
        have hlo := hj8.bl
        have hlw := HK3.out.2.2.1.size
        have y6 : w8.cell? ⟨w.heap.size, 0, none⟩ = some (.slice (some ⟨b7, o7, none⟩) m c) := (hlo.cell (p := ⟨w.heap.size, 0, none⟩) hx6).trans (HK3.out.1.cell 0)
        have hw7 := HE0.out _ hB7
        have hbb : Below W3.heap.size w7 w8 := hf8.below (fun bb hh => hj7.sa.sb_low hh) (by have := hj7.bl.size; omega)
        have hb73 : b7 < W3.heap.size := by omega
        have HF := Lib.hid (And.intro hj8 (And.intro hq8 (And.intro hk8 hl8)))
        refine hK2'.out _ _ ⟨hj8.b1.cell 0, y6, (hbb.cell (p := ⟨b7, o7 + i * 4, none⟩) hb73).trans hw7.2.2.1, (hbb.cell (p := ⟨b7, o7 + i * 4 + 1, none⟩) hb73).trans hw7.2.2.2.1, (hbb.cell (p := ⟨b7, o7 + i * 4 + 2, none⟩) hb73).trans hw7.2.2.2.2.1, (hbb.cell (p := ⟨b7, o7 + i * 4 + 3, none⟩) hb73).trans hw7.2.2.2.2.2⟩ (fun _ => ?_)
        clear hj8 hq8 hk8 hl8 hlo hlw y6 hw7 hbb hb73 hj7 hrel hs8 hm8 hf8 ha8 hSS hSS2
        refine wpAnyH_done (by kernel_rfl) ?_ _
        try simp only [Act.put, List.setIfInBounds_toArray, List.set_cons_zero, List.set_cons_succ]
        gi_wp2_with fail
        go_roundw
        case rel => exact ⟨k + 1, v8, q8, rfl, by omega, Lib.hid HF.out.1, Lib.hid HF.out.2.1, Lib.hid (by have := HF.out.2.2.2; have := hl2.out; omega), Lib.hid HF.out.2.2.1⟩
        case measure => simp [intOf]; omega
      · have e : k = N1 := by omega
        subst e
        gi_wp2_with fail
        refine ⟨hK2.out, Gn.nxt st u, v2, q2, ⟨?_, .step HY.out.r HY.out.p, ?_⟩, ?_, HY.out.mx⟩
        · have h := hJ2.out
          rw [List.take_of_length_le (by rw [HIg.out.2]; exact Nat.le_refl _)] at h
          have ht := HY.out.t
          simp only at ht
          unfold Net.nxt
          rw [ht, HGn.out.2.2.1]
          exact h
        · have h := hQ2.out
          rw [List.take_of_length_le (by rw [HIg.out.2]; exact Nat.le_refl _)] at h
          have ht := HY.out.t
          simp only at ht
          unfold Net.nxt
          rw [ht, HGn.out.2.2.1]
          exact h
        · have h1 := HY.out.m
          have h2 := hl2.out
          simp only at h1
          show q2.length + un Gn.n (u :: st.dn) * (Gn.m + 1) < c0
          rw [HGn.out.2.2.1] at h1 ⊢
          omega

end Go.Proofs.Yteiojobgjdfdpaa
