/- Walks: settle's iterator. -/
import Derived.Test.YteiojobgjdfdpaaQn
import Derived.RangeFuncBound
import Derived.RangeFuncLeaves
import Derived.Shelf.Abstract
import Derived.Shelf.RegionOpen
import Derived.WalkKit
import Derived.OwnWalkIn
import Derived.TacticsInMore
import Derived.LoopNIn
import Derived.LoopIn
namespace Go.Proofs.Yteiojobgjdfdpaa
open Go.RowKit Go.Shelf
attribute [local go_sem] Oper.semAt_some

section
variable (Gn : Net) (src : Nat) (start : Int) (W1 : World) (G gl gd B1 B2 MX : Nat)
structure HdS (W : World) (st : St) (v : Value) (q : List En) : Prop where
  j : JJ W1 G gl gd Gn.n Gn.bk B1 B2 W st.lab st.dn v q
  r : Gn.Run (Gn.ini src start) st
  qi : QInv Gn.bk Gn.n st.lab st.dn q
structure YdS (x : Nat × Int × Nat) (W : World) (st : St) (v : Value) (q : List En) : Prop where
  j : JJ W1 G gl gd Gn.n Gn.bk B1 B2 W st.lab (x.1 :: st.dn) v q
  r : Gn.Run (Gn.ini src start) st
  p : Gn.pick st x.1
  t : (lb st.lab x.1).1 = x.2.1
  qi : QInv Gn.bk Gn.n st.lab (x.1 :: st.dn) q
  m : q.length + Gn.m + un Gn.n (x.1 :: st.dn) * (Gn.m + 1) < x.2.2
  mx : x.2.2 ≤ MX
def Yp (x : Nat × Int × Nat) (W : World) : Prop := ∃ st v q, YdS Gn src start W1 G gl gd B1 B2 MX x W st v q
def Zp (x : Nat × Int × Nat) (W : World) : Prop := ∃ st v q, HdS Gn src start W1 G gl gd B1 B2 W st v q ∧ q.length + un Gn.n st.dn * (Gn.m + 1) < x.2.2 ∧ x.2.2 ≤ MX
def Done (W : World) : Prop := ∃ st v q, HdS Gn src start W1 G gl gd B1 B2 W st v q ∧ Gn.fin st
end
abbrev encS (x : Nat × Int × Nat) : Array Value := #[.int .i64 x.1, .int .i64 x.2.1]

theorem run_fd (x y : Int) (w : World) : (Instr.field 85 (.agg #[.int .i64 x, .int .i64 y]) 1).run Try.prog w = .ok (.int .i64 y) w := by kernel_rfl
theorem bools_set (n : Nat) (dn : List Nat) (u : Nat) : (bools n dn).set u (.bool true) = bools n (u :: dn) := by
  unfold bools
  apply List.ext_getElem
  · simp
  · intro i h1 h2
    rw [List.getElem_set]
    by_cases e : u = i
    · subst e; simp
    · rw [if_neg e]
      simp only [List.getElem_map, List.getElem_range]
      have : i ∈ u :: dn ↔ i ∈ dn := by simp; exact fun h => absurd h.symm e
      simp only [this]
theorem SAt.mark {w : World} {N G gl gd n : Nat} {bk : Bool} {lab : List Lb} {dn : List Nat} {v : Value} {q : List En} (h : SAt w N G gl gd n bk lab dn v q) (u : Nat) : SAt (w.setCell ⟨gd, u, none⟩ (.bool true)) N G gl gd n bk lab (u :: dn) v q := by
  have h1 := (World.ownsRow.stored h.d u (.bool true)).1
  rw [bools_set] at h1
  have lo := h.lo
  exact ⟨h.s.far (p := ⟨gd, u, none⟩) (by show G ≠ gd; omega) _, h.len, ownsRow_put h.l (by show gl ≠ gd; omega), h1, ownQ_put h.oq (by show gd < G + 1; omega), h.hp, h.lo⟩

set_option maxRecDepth 100000 in
set_option maxHeartbeats 8000000 in
theorem settle_iter (Gn : Net) (src : Nat) (start : Int) (W1 : World) (G gl gd B1 B2 MX k : Nat) (hMX : MX ≤ 800000) (l : Nat) (Bk : World → Prop) (hBk : ∀ W W', Bk W → KeepsOthers W W' → Bk W')
    (hY : ∀ x W, Bk W → Yp Gn src start W1 G gl gd B1 B2 MX x W → YieldAt Fence.wide k Try.prog l (encS x) W fun e W' => e = .returned (.bool true) ∧ Zp Gn src start W1 G gl gd B1 B2 MX x W' ∧ Bk W')
    (W0 : World) (st0 : St) (v0 : Value) (q0 : List En) (h0 : HdS Gn src start W1 G gl gd B1 B2 W0 st0 v0 q0) (hm0 : q0.length + un Gn.n st0.dn * (Gn.m + 1) ≤ MX) (hb0 : Bk W0) :
    CallsIn Fence.wide (k + 1) Try.prog 65 #[.func (.yield l) #[] #[], .pointer (some ⟨B2, 0, none⟩)] W0 fun e W' => (∃ v, e = .returned v) ∧ Done Gn src start W1 G gl gd B1 B2 W' ∧ Bk W' := by
  refine callsIn_of_wp Try.func65 rfl trivial ?_ rfl
  simp only [Try.ntmps65, List.size_toArray, List.length_cons, List.length_nil, Nat.reduceAdd, Nat.reduceSub, Array.replicate_succ, Array.replicate_zero, List.push_toArray, List.append_toArray, List.nil_append, List.cons_append]
  have HY := Lib.hid hY; clear hY
  have HBk := Lib.hid hBk; clear hBk
  have H0 := Lib.hid (And.intro h0 (And.intro hm0 hb0)); clear h0 hm0 hb0
  gi_wp2
  gi_loopw [3] (fun xv wr => ∃ (st : St) (v : Value) (q : List En), Hid (HdS Gn src start W1 G gl gd B1 B2 wr st v q) ∧ Hid (q.length + un Gn.n st.dn * (Gn.m + 1) ≤ MX) ∧ Hid (Bk wr))
    (fun _ wr => qlenW wr G + unW wr gd Gn.n * (Gn.m + 1))
  case atStart => exact ⟨st0, v0, q0, Lib.hid H0.out.1, Lib.hid H0.out.2.1, Lib.hid H0.out.2.2⟩
  case round =>
    obtain ⟨st, v, q, hH, hm, hb⟩ := hrel
    have b2 : wr.cell? ⟨B2, 0, none⟩ = some (.pointer (some ⟨G, 0, none⟩)) := hH.out.j.b2.cell 0
    have h3 : wr.cell? ⟨G, 3, none⟩ = some v := hH.out.j.sa.s.cell 3
    by_cases hq0 : q.length = 0
    · obtain ⟨A, c, hv⟩ : ∃ A c, v = .slice A 0 c := by
        rcases hH.out.j.sa.oq.2 with ⟨rfl, hn⟩ | ⟨g, cap, cur, rfl, _⟩
        · exact ⟨none, 0, rfl⟩
        · exact ⟨_, _, by rw [hq0]⟩
      rw [hv] at h3
      have HQ := Lib.hid hq0; clear hq0 hv
      gi_wp2_with (refine ⟨trivial, ?_⟩; gi_at_call 66; refine (callsIn_wide.2 (len_any _ _ _ _)).mono ?_; rintro e w1 ⟨rfl, rfl⟩)
      go_end0
      refine ⟨⟨_, rfl⟩, ⟨st, v, q, hH.out, fun u hu hd => ?_⟩, hb.out⟩
      apply Classical.byContradiction
      intro hn
      have := hH.out.qi.a u hu hd (by omega)
      rw [List.eq_nil_of_length_eq_zero HQ.out] at this
      simp at this
    · obtain ⟨n', hn'⟩ : ∃ n', q.length = n' + 1 := ⟨q.length - 1, by omega⟩
      obtain ⟨g, c, hv⟩ : ∃ g c, v = .slice (some ⟨g, 0, none⟩) (n' + 1) c := by
        obtain ⟨g, c, e, _⟩ := hH.out.j.sa.oq.some_of (by omega)
        exact ⟨g, c, by rw [e, hn']⟩
      subst hv
      have hn9 : n' ≤ 900000 := by
        have := hm.out
        have : q.length ≤ MX := by
          have := Nat.le_add_right q.length (un Gn.n st.dn * (Gn.m + 1))
          omega
        omega
      have HP := Lib.hid (heapPop_any q G g n' c Gn.bk _ _ wr hH.out.j.sa.s (hH.out.j.sa.oq) hn' hn9 (by rw [← hn']; exact hH.out.j.sa.hp))
      obtain ⟨u, hun, hu, hub⟩ := hH.out.qi.b _ (gq_mem (q := q) (k := 0) (by omega))
      have HU := Lib.hid hu; clear hu
      have HN := Lib.hid hn'; clear hn' hq0 hub
      have hta := run_ta (gq q 0).1 (gq q 0).2
      obtain ⟨x, hx⟩ : ∃ x, (gq q 0).1 = x := ⟨_, rfl⟩
      have hP := HP.out
      unfold PopP at hP
      rw [hx, HU.out] at hta hP
      have hfd := run_fd x u
      have HP := Lib.hid hP
      clear hP hx
      gi_wp2_with (refine ⟨trivial, ?_⟩; gi_at_call 66; refine (callsIn_wide.2 (len_any _ _ _ _)).mono ?_; rintro e w1 ⟨rfl, rfl⟩)
      refine ⟨trivial, ?_⟩
      gi_at_call 67
      refine (callsIn_wide.2 HP.out).mono ?_
      rintro e w2 ⟨rfl, q', hs2, ho2, hl2, hh2, m1, m2, hf2⟩
      have hf2' : Fr (QB G (.slice (some ⟨g, 0, none⟩) (n' + 1) c)) wr w2 := hf2.more (fun b hb => hb.elim .inl (fun e => .inr (by rw [e]; rfl)))
      have hfS : Fr (SB G gl gd (.slice (some ⟨g, 0, none⟩) (n' + 1) c)) wr w2 := hf2'.more (fun b hb => hb.elim .inl (fun e => .inr (.inr (.inr e))))
      have hj2 := hH.out.j.step hfS (hH.out.j.sa.qfr hf2' hs2 ho2 (by rw [hl2]; exact hh2))
      have hb2 := Lib.hid (HBk.out _ _ hb.out (hH.out.j.sa.keeps hfS))
      have HM := Lib.hid (And.intro m1 (And.intro m2 hl2))
      have HJ2 := Lib.hid hj2
      have c2 : w2.cell? ⟨B2, 0, none⟩ = some (.pointer (some ⟨G, 0, none⟩)) := hj2.b2.cell 0
      have c3 : w2.cell? ⟨G, 2, none⟩ = some (.slice (some ⟨gd, 0, none⟩) Gn.n Gn.n) := hj2.sa.s.cell 2
      have c4 : w2.cell? ⟨G, 1, none⟩ = some (.slice (some ⟨gl, 0, none⟩) Gn.n Gn.n) := hj2.sa.s.cell 1
      have c5 := hj2.sa.settled hun
      have c6 : w2.frozen? ⟨gd, u, none⟩ = false := World.ownsRow.frozenAt hj2.sa.d _
      clear hs2 ho2 hl2 hh2 m1 m2 hf2 hf2' hfS hj2 b2 h3
      by_cases hd : u ∈ st.dn
      · rw [decide_eq_true hd] at c5
        have HD := Lib.hid hd; clear hd
        gi_wp2_with fail
        go_roundw
        case rel => exact ⟨st, _, q', Lib.hid ⟨HJ2.out, hH.out.r, hH.out.qi.skip HD.out HM.out.1 HM.out.2.1 HU.out⟩, Lib.hid (by have := hm.out; have := HM.out.2.2; have := HN.out; omega), hb2⟩
        case measure =>
          rw [HJ2.out.sa.qlen, HJ2.out.sa.unw, hH.out.j.sa.qlen, hH.out.j.sa.unw, HM.out.2.2, HN.out]
          omega
      · rw [decide_eq_false hd] at c5
        have HPk := Lib.hid (hH.out.qi.pick (by have := HN.out; omega) hH.out.j.sa.hp HU.out hd)
        have huc := un_cons Gn.n st.dn u hun hd
        have HD := Lib.hid (And.intro hd huc); clear hd huc
        obtain ⟨w3, hw3⟩ : ∃ w3, w2.setCell ⟨gd, u, none⟩ (.bool true) = w3 := ⟨_, rfl⟩
        have hS3 := HJ2.out.sa.mark u
        have hF3 := Fr.set_ (SB G gl gd (.slice (some ⟨g, 0, none⟩) n' c)) w2 ⟨gd, u, none⟩ (.bool true) (.inr (.inr (.inl rfl)))
        have hb3 := HBk.out _ _ hb2.out (HJ2.out.sa.keeps hF3)
        have hj3 := HJ2.out.step hF3 hS3
        rw [hw3] at hS3 hF3 hb3 hj3
        have HJ3 := Lib.hid hj3
        have d2 : w3.cell? ⟨B2, 0, none⟩ = some (.pointer (some ⟨G, 0, none⟩)) := hj3.b2.cell 0
        have d4 : w3.cell? ⟨G, 1, none⟩ = some (.slice (some ⟨gl, 0, none⟩) Gn.n Gn.n) := hj3.sa.s.cell 1
        obtain ⟨d5, d6⟩ := hj3.sa.labels hun
        have HYy := HY.out (u, (lb st.lab u).1, q.length + un Gn.n st.dn * (Gn.m + 1)) w3 hb3 ⟨st, _, q', hj3, hH.out.r, HPk.out, rfl, hH.out.qi.settle HM.out.1 HM.out.2.1 HU.out, by
          have e1 := HD.out.2
          have e2 := HM.out.2.2
          have e3 := HN.out
          show q'.length + Gn.m + un Gn.n (u :: st.dn) * (Gn.m + 1) < q.length + un Gn.n st.dn * (Gn.m + 1)
          rw [← e1, Nat.add_mul]
          omega, hm.out⟩
        obtain ⟨fn, tmps, assign, body, hy, hR⟩ := HYy
        have HR := Lib.hid hR
        obtain ⟨T, hT⟩ : ∃ T, (lb st.lab u).1 = T := ⟨_, rfl⟩
        rw [hT] at d5 hy HR
        dsimp only [encS] at hy
        clear hR hS3 hF3 hb3 hj3 d6 hT
        gi_wp2_with fail
        refine HR.out.mono ?_
        rintro e w4 ⟨rfl, ⟨st', v', q', hH', hlt, hmx⟩, hb'⟩
        have HH' := Lib.hid hH'
        have HL := Lib.hid (And.intro hlt hmx)
        have hb' := Lib.hid hb'
        clear hH' hlt hmx
        gi_wp2_with fail
        go_roundw
        case rel => exact ⟨st', v', q', HH', Lib.hid (by have := HL.out.1; have := HL.out.2; omega), hb'⟩
        case measure =>
          rw [HH'.out.j.sa.qlen, HH'.out.j.sa.unw, hH.out.j.sa.qlen, hH.out.j.sa.unw]
          exact HL.out.1

end Go.Proofs.Yteiojobgjdfdpaa
