/- The reference's Zero and less. make of lines; right fractions as they came in, as rational numbers. Walk of linesOf. Walk of Rank. make of fractions; a list of fractions that is filled. Walk of Solve. -/
import Derived.Test.YtlbjaimgoiimgaaXas
import Derived.Test.YtlbjaimgoiimgaaXat
import Derived.Laws.MakeOwn
import Derived.BigQuiet
import Derived.Deep.AppendLies

namespace Go.Proofs.Ytlbjaimgoiimgaa
open Go.RowKit

theorem lboxes4 (w : World) (a b c d : Array Value) (t : TypeId) : ∃ W, W = (((w.alloc (.cells a t)).alloc (.cells b t)).alloc (.cells c t)).alloc (.cells d t) ∧ Below w.heap.size w W ∧
    Blk W w.heap.size t a ∧ Blk W (w.heap.size + 1) t b ∧ Blk W (w.heap.size + 1 + 1) t c ∧ Blk W (w.heap.size + 1 + 1 + 1) t d := by
  have h1 : Below w.heap.size w (w.alloc (.cells a t)) := (Below.refl _ _).alloc (Nat.le_refl _) _
  have h2 := h1.alloc h1.size (.cells b t)
  have h3 := h2.alloc h2.size (.cells c t)
  have h4 := h3.alloc h3.size (.cells d t)
  have k1 := Blk.new w t a
  have k2 := Blk.new (w.alloc (.cells a t)) t b
  have k3 := Blk.new ((w.alloc (.cells a t)).alloc (.cells b t)) t c
  have k4 := Blk.new (((w.alloc (.cells a t)).alloc (.cells b t)).alloc (.cells c t)) t d
  simp only [World.size_alloc] at k2 k3 k4
  exact ⟨_, rfl, h4, ((k1.alloc _).alloc _).alloc _, (k2.alloc _).alloc _, k3.alloc _, k4⟩

set_option maxRecDepth 100000 in
set_option maxHeartbeats 2000000 in
theorem rzero_any {S : Nat → Prop} {w : World} {f : Fc} {x : Rat} (h : FA S w f x) (b : Bool) (hb : decide (x = 0) = b) :
    Calls Try.prog 15 #[f.v] w fun e w' => e = .returned (.bool b) ∧ Below w.heap.size w w' := by
  have hz := h.zero
  rw [hb] at hz
  clear h hb
  obtain ⟨s1, A1, n1, c1, s2, A2, n2, c2⟩ := f
  simp only at hz
  go_enter Try.func15, Try.ntmps15
  go_wp2_with fail
  cases b with
  | true =>
    go_wp2_with fail
    go_ret
    exact ⟨rfl, (Below.refl _ _).alloc (Nat.le_refl _) _⟩
  | false =>
    go_wp2_with fail
    go_ret
    exact ⟨rfl, (Below.refl _ _).alloc (Nat.le_refl _) _⟩

end Go.Proofs.Ytlbjaimgoiimgaa

namespace Go.Proofs.Ytlbjaimgoiimgaa
open Go.RowKit

theorem Try.infoLi : (Try.prog.info? 23).map (fun i => (i.zero, i.size, i.bytes)) = some (some (.slice none 0 0), 1, 24) := by kernel_rfl
/-- make([][]api.Frac, n). -/
theorem makeL {w : World} {ops : Array Oper} {rest : List Oper} {o : Oper} {a : Act} {Q : Exit → Act → World → Prop} (hgd : o.guard = none) (l c : Operand)
    (ho : o.op = Op.makeSlice 60 l c) (n : Nat) (L C : Int) (hl : a.eval l = .int .i64 L) (hc : a.eval c = .int .i64 C) (hL : L = n) (hC : C = n) (hm : n ≤ 10000000)
    (h : ∀ w', Blk w' w.heap.size 23 (List.replicate n (Value.slice none 0 0)).toArray → Below w.heap.size w w' → w'.heap.size = w.heap.size + 1 → wpList Try.prog ops Q rest (a.put o.dst (.slice (some ⟨w.heap.size, 0, none⟩) n n)) w') : wpList Try.prog ops Q (o :: rest) a w := by
  obtain ⟨i0, hi, hz0, hz1, hz2⟩ := info_parts Try.infoLi
  subst hL; subst hC
  have hr := run_make (P := Try.prog) w 60 23 i0 (.slice none 0 0) Try.underlying60 hi hz0 .i64 .i64 (n : Int) (n : Int) (by omega) (by omega) (by rw [hz2]; omega) (by omega)
  simp only [Int.toNat_natCast] at hr
  refine wpList_plain hgd fun K hK' => ?_
  unfold Oper.wp
  simp [execOp, ho, hl, hc, hr, Result.andThen]
  refine hK' _ _ (h _ ?_ ((Below.refl _ w).alloc (Nat.le_refl _) _) (by simp))
  have e : madeCells (Value.slice none 0 0).cells (n * i0.size) = (List.replicate n (Value.slice none 0 0)).toArray := by
    rw [hz1, Nat.mul_one]
    apply Array.ext'
    unfold madeCells
    simp only [Value.cells]
    apply List.ext_getElem
    · simp
    · intro i h1 h2
      simp [Nat.mod_one]
  rw [e]
  exact Blk.new w 23 _

/-- The numbers of a row, its value last. -/
def Rd.q (d : Rd) : List Rat := d.A.map Fd.q ++ [d.v.q]
theorem fd_fa {w : World} {f : Fc} {d : Fd} (h : FdIs w f d) (hr : d.R) : FA (fun b => w.heap.size ≤ b) w f d.q := by
  obtain ⟨p, q, ⟨a1, a2, a3⟩, ⟨b1, b2, b3⟩, hf⟩ := hr
  have hp : d.s * nv d.l = p := by
    rw [a1, a2, nv_D (ab_nonneg p)]
    exact sgn_ab p
  have hq : d.s' * nv d.l' = q := by
    rw [b1, b2, nv_D (ab_nonneg q)]
    exact sgn_ab q
  obtain ⟨r, e1, e2⟩ := hf.rat
  have hx : d.q = r := by
    unfold Fd.q
    rw [hp, hq, e1, e2]
    exact divInt_self r
  have v1 := h.a1.bv (h.e1.trans a1) a2
  have v2 := h.a2.bv (h.e2.trans b1) b2
  rw [hx]
  refine ⟨⟨by rw [← e1]; exact v1, by rw [← e2]; exact v2⟩, ⟨by rw [← e1]; exact a3, by rw [← e2]; exact b3⟩, ?_, ?_⟩
  · intro a ha h0 hs
    obtain ⟨b, off, e, hB, _⟩ := h.a1.hI 0 (by rw [h.a1.hn]; exact h0)
    rw [ha] at e
    injection e with e
    subst e
    exact absurd hs (Nat.not_le.2 hB)
  · intro a ha h0 hs
    obtain ⟨b, off, e, hB, _⟩ := h.a2.hI 0 (by rw [h.a2.hn]; exact h0)
    rw [ha] at e
    injection e with e
    subst e
    exact absurd hs (Nat.not_le.2 hB)

/-- The lines that are done: i of them, in blocks gs; the others are nil. No digits were made since w. -/
structure LinI (w wr : World) (L m : Nat) (rs : List Rd) (gs : List (Nat × Nat)) (i : Nat) : Prop where
  len : gs.length = i
  lo : w.heap.size ≤ L
  blk : Blk wr L 23 (gs.map (lcell (m + 1)) ++ List.replicate (m - i) (Value.slice none 0 0)).toArray
  ln : ∀ k, k < i → ∃ (fs : List Fc) (cur : Array Value), fs.length = m + 1 ∧ Blk wr (gs.getD k (0, 0)).1 40 cur ∧ CellsL cur fs ∧ ∀ j, j < m + 1 → FA (fun b => w.heap.size ≤ b) wr (fs.getD j fnil) ((rs.getD k rnil).q.getD j 0)
  ge : ∀ k, k < i → w.heap.size ≤ (gs.getD k (0, 0)).1
  one : ∀ j k, j < i → k < i → j ≠ k → (gs.getD j (0, 0)).1 ≠ (gs.getD k (0, 0)).1
  far : ∀ k, k < i → (gs.getD k (0, 0)).1 ≠ L
  bl : Below w.heap.size w wr
/-- A further line is laid into the block g, that was not there, and stored. -/
theorem LinI.next {w wr wx : World} {L m : Nat} {rs : List Rd} {gs : List (Nat × Nat)} {i : Nat} (h : LinI w wr L m rs gs i) (hi : i < m) {g cap : Nat} {cur : Array Value} {fs : List Fc} (hg : wr.heap.size ≤ g) (hb : Blk wx g 40 cur) (hc : CellsL cur fs) (hl : fs.length = m + 1)
    (hL : Blk wx L 23 ((gs.map (lcell (m + 1)) ++ List.replicate (m - i) (Value.slice none 0 0)).toArray.setIfInBounds i (.slice (some ⟨g, 0, none⟩) (m + 1) cap))) (hf : Fr (· = L) wr wx)
    (hq : ∀ j, j < m + 1 → FA (fun b => w.heap.size ≤ b) wr (fs.getD j fnil) ((rs.getD i rnil).q.getD j 0)) : LinI w wx L m rs (gs ++ [(g, cap)]) (i + 1) := by
  have hS : Fr (fun b => w.heap.size ≤ b) wr wx := hf.more (fun b hb => by subst hb; exact h.lo)
  have hlen := h.len
  have hold : ∀ k, k < i → (gs ++ [(g, cap)]).getD k (0, 0) = gs.getD k (0, 0) := fun k hk => by
    rw [List.getD_eq_getElem?_getD, List.getElem?_append_left (by omega), List.getD_eq_getElem?_getD]
  have hnew : (gs ++ [(g, cap)]).getD i (0, 0) = (g, cap) := by
    rw [List.getD_eq_getElem?_getD, List.getElem?_append_right (by omega), hlen, Nat.sub_self]; rfl
  have hlt : ∀ k, k < i → (gs.getD k (0, 0)).1 < wr.heap.size := fun k hk => by
    obtain ⟨fs', cur', _, hb', _⟩ := h.ln k hk
    exact hb'.lt
  refine ⟨by simp [hlen], h.lo, ?_, ?_, ?_, ?_, ?_, h.bl.trans (hf.below (fun b hb => by subst hb; exact h.lo) h.bl.size)⟩
  · have e : (gs.map (lcell (m + 1)) ++ List.replicate (m - i) (Value.slice none 0 0)).toArray.setIfInBounds i (.slice (some ⟨g, 0, none⟩) (m + 1) cap) = ((gs ++ [(g, cap)]).map (lcell (m + 1)) ++ List.replicate (m - (i + 1)) (Value.slice none 0 0)).toArray := by
      rw [show m - i = (m - (i + 1)) + 1 by omega, List.replicate_succ, List.setIfInBounds_toArray, List.set_append_right _ _ (by rw [List.length_map, hlen]; exact Nat.le_refl _), List.length_map, hlen, Nat.sub_self, List.set_cons_zero]
      simp
    rw [← e]
    exact hL
  · intro k hk
    by_cases hki : k < i
    · rw [hold k hki]
      obtain ⟨fs', cur', h1, h2, h3, h4⟩ := h.ln k hki
      exact ⟨fs', cur', h1, h2.fr hf (h.far k hki), h3, fun j hj => (h4 j hj).fr hS⟩
    · have : k = i := by omega
      subst this
      rw [hnew]
      exact ⟨fs, cur, hl, hb, hc, fun j hj => (hq j hj).fr hS⟩
  · intro k hk
    by_cases hki : k < i
    · rw [hold k hki]; exact h.ge k hki
    · have : k = i := by omega
      subst this
      rw [hnew]
      exact Nat.le_trans h.bl.size hg
  · intro j k hj hk hjk
    by_cases hji : j < i
    · by_cases hki : k < i
      · rw [hold j hji, hold k hki]; exact h.one j k hji hki hjk
      · have : k = i := by omega
        subst this
        rw [hold j hji, hnew]
        have := hlt j hji
        show _ ≠ g
        omega
    · have : j = i := by omega
      subst this
      have hki : k < j := by omega
      rw [hold k hki, hnew]
      have := hlt k hki
      show g ≠ _
      omega
  · intro k hk
    by_cases hki : k < i
    · rw [hold k hki]; exact h.far k hki
    · have : k = i := by omega
      subst this
      rw [hnew]
      have := h.blk.lt
      show g ≠ L
      omega
theorem LinI.start {w w0 : World} {m : Nat} {rs : List Rd} (hb : Blk w0 w.heap.size 23 (List.replicate m (Value.slice none 0 0)).toArray) (hbl : Below w.heap.size w w0) : LinI w w0 w.heap.size m rs [] 0 :=
  ⟨rfl, Nat.le_refl _, by simpa using hb, fun k hk => by omega, fun k hk => by omega, fun j k hj => by omega, fun k hk => by omega, hbl⟩
/-- All lines are done: they are the call's own. -/
theorem LinI.done {w wr : World} {L m : Nat} {rs : List Rd} {gs : List (Nat × Nat)} (h : LinI w wr L m rs gs m) (hm : rs.length = m) (hl : ∀ k, k < m → (rs.getD k rnil).q.length = m + 1) : Lines (fun b => w.heap.size ≤ b ∧ b < wr.heap.size) wr L (m + 1) gs (rs.map Rd.q) := by
  have hX : ∀ k, k < m → (rs.map Rd.q).getD k [] = (rs.getD k rnil).q := fun k hk => by
    rw [List.getD_eq_getElem?_getD, List.getElem?_map, List.getD_eq_getElem?_getD, List.getElem?_eq_getElem (by omega)]; rfl
  refine ⟨⟨h.lo, h.blk.lt⟩, by rw [List.length_map, h.len, hm], ?_, ?_, ?_, ?_⟩
  · have := h.blk
    rw [Nat.sub_self, List.replicate_zero, List.append_nil] at this
    exact this
  · intro k hk
    rw [h.len] at hk
    obtain ⟨fs, cur, h1, h2, h3, h4⟩ := h.ln k hk
    rw [hX k hk]
    exact ⟨fs, h1, ⟨h.ge k hk, h2.lt⟩, by rw [h1, hl k hk], ⟨cur, h2, h3⟩, fun j hj => (h4 j (by omega)).less (fun b hb => hb.1)⟩
  · intro j k hj hk
    rw [h.len] at hj hk
    exact h.one j k hj hk
  · intro k hk
    rw [h.len] at hk
    exact h.far k hk

end Go.Proofs.Ytlbjaimgoiimgaa

namespace Go.Proofs.Ytlbjaimgoiimgaa
open Go.RowKit

/-- What one line's statement leaves. -/
def LineP (W1 : World) (L i nn : Nat) (cs : Array Value) (fl : List Fc) (wx : World) : Prop := ∃ (g cap : Nat) (cur : Array Value), W1.heap.size ≤ g ∧ Blk wx g 40 cur ∧ CellsL cur fl ∧ Blk wx L 23 (cs.setIfInBounds i (.slice (some ⟨g, 0, none⟩) nn cap)) ∧ Fr (· = L) W1 wx
theorem LineP.of {W1 w4 : World} {L i nn g cap : Nat} {cs cur : Array Value} {fl : List Fc} (hL : Blk W1 L 23 cs) (hb : Below W1.heap.size W1 w4) (hg : W1.heap.size ≤ g) (hk : Blk w4 g 40 cur) (hc : CellsL cur fl) :
    LineP W1 L i nn cs fl (w4.setCell ⟨L, i, none⟩ (.slice (some ⟨g, 0, none⟩) nn cap)) := by
  have h := hL.lt
  refine ⟨g, cap, cur, hg, hk.far (by show g ≠ L; omega) _, hc, (hL.below hb hL.lt).set_ i _, ?_⟩
  exact (Fr.of_below hb).tr ⟨by simp [World.setCell], by simp [World.setCell], by simp [World.setCell], by simp, fun b _ hn => Below.heap_setCell _ _ _ b hn⟩
theorem LinI.below {w wr wq : World} {L m : Nat} {rs : List Rd} {gs : List (Nat × Nat)} {i : Nat} (h : LinI w wr L m rs gs i) (hb : Below wr.heap.size wr wq) : LinI w wq L m rs gs i :=
  ⟨h.len, h.lo, h.blk.below hb h.blk.lt, fun k hk => by
    obtain ⟨fs, cur, h1, h2, h3, h4⟩ := h.ln k hk
    exact ⟨fs, cur, h1, h2.below hb h2.lt, h3, fun j hj => (h4 j hj).below hb⟩, h.ge, h.one, h.far, h.bl.trans (hb.mono h.bl.size)⟩
theorem lit_fc (w : World) (f : Fc) : FcAt (w.alloc (.cells #[.int .i64 f.s, .slice f.A f.n f.c, .int .i64 f.s', .slice f.A' f.n' f.c'] 40)) (some ⟨w.heap.size, 0, none⟩) [f] := fun k hk => by
  have : k = 0 := by simpa using hk
  subst this
  have kb := Blk.new w 40 #[.int .i64 f.s, .slice f.A f.n f.c, .int .i64 f.s', .slice f.A' f.n' f.c']
  exact ⟨_, 0, rfl, by simp, kb.cell 0, kb.cell 1, kb.cell 2, kb.cell 3⟩

theorem row_fa {w : World} {m : Nat} {fs : List Fc} {f : Fc} {d : Rd} (hl : fs.length = m) (hr : d.R m) (hfi : ∀ k, k < d.A.length → FdIs w (fs.getD k fnil) (d.A.getD k dnil)) (hf : FdIs w f d.v) {j : Nat} (hj : j < m + 1) :
    FA (fun b => w.heap.size ≤ b) w ((fs ++ [f]).getD j fnil) (d.q.getD j 0) := by
  obtain ⟨h1, h2, h3⟩ := hr
  unfold Rd.q
  by_cases hjm : j < m
  · have e1 : (fs ++ [f]).getD j fnil = fs.getD j fnil := by
      rw [List.getD_eq_getElem?_getD, List.getElem?_append_left (by omega), List.getD_eq_getElem?_getD]
    have e2 : (d.A.map Fd.q ++ [d.v.q]).getD j 0 = (d.A.getD j dnil).q := by
      rw [List.getD_eq_getElem?_getD, List.getElem?_append_left (by rw [List.length_map]; omega), List.getElem?_map, List.getD_eq_getElem?_getD, List.getElem?_eq_getElem (by omega)]
      rfl
    rw [e1, e2]
    exact fd_fa (hfi j (by omega)) (h2 j hjm)
  · have : j = m := by omega
    subst this
    have e1 : (fs ++ [f]).getD j fnil = f := by
      rw [List.getD_eq_getElem?_getD, List.getElem?_append_right (by omega), hl, Nat.sub_self]; rfl
    have e2 : (d.A.map Fd.q ++ [d.v.q]).getD j 0 = d.v.q := by
      rw [List.getD_eq_getElem?_getD, List.getElem?_append_right (by rw [List.length_map]; omega), List.length_map, h1, Nat.sub_self]; rfl
    rw [e1, e2]
    exact fd_fa hf h3

set_option maxRecDepth 100000 in
set_option maxHeartbeats 8000000 in
theorem linesOf_any {A : Option Addr} {m cap : Nat} {rs : List Rd} (w : World) (h : RdsAt w A rs) (hm : rs.length = m) (h40 : m ≤ 40) (hr : ∀ k, k < m → (rs.getD k rnil).R m) :
    Calls Try.prog 28 #[.slice A m cap] w fun e w' => ∃ (L : Nat) (gs : List (Nat × Nat)), e = .returned (.slice (some ⟨L, 0, none⟩) m m) ∧ gs.length = m ∧ Lines (fun b => w.heap.size ≤ b ∧ b < w'.heap.size) w' L (m + 1) gs (rs.map Rd.q) ∧ Below w.heap.size w w' := by
  have HD := Lib.hid h; clear h
  have HM := Lib.hid hm; clear hm
  have HR := Lib.hid hr; clear hr
  go_enter Try.func28, Try.ntmps28
  go_wp2_with (at_make; refine makeL rfl (.tmp 7) (.tmp 7) rfl m _ _ rfl rfl rfl rfl (by omega) ?_; intro w0 hb0k hb0 hsz0)
  have HST := Lib.hid (LinI.start (rs := rs) hb0k hb0)
  have hLlt : w.heap.size < w0.heap.size := by omega
  obtain ⟨L, hLe⟩ : ∃ L, w.heap.size = L := ⟨_, rfl⟩
  rw [show LinI w w0 w.heap.size m rs [] 0 = LinI w w0 L m rs [] 0 by rw [hLe]] at HST
  have HLE := Lib.hid hLe
  rw [hLe]
  clear hb0k hb0 hsz0 hLlt hLe
  go_loopw [11] (fun iv wr => ∃ (i : Nat) (gs : List (Nat × Nat)), i ≤ m ∧ iv = .int .i64 i ∧ Hid (LinI w wr L m rs gs i)) (fun iv _ => m - (intOf iv).toNat)
  case atStart => exact ⟨0, [], Nat.zero_le _, rfl, HST⟩
  case round =>
    obtain ⟨i, gs, hi, rfl, hI⟩ := hrel
    clear HST
    by_cases hgo : i < m
    · obtain ⟨bb, off, Aa, ca, f, hA, hBB0, c0, c1, c2, c3, c4, hla, hfa, hf⟩ := HD.out i (by rw [HM.out]; exact hgo)
      subst hA
      have hRi := HR.out i hgo
      obtain ⟨fs, hfl, hfc0, hfi⟩ := hfa.fcs
      have hqw : ∀ j, j < m + 1 → FA (fun b => w.heap.size ≤ b) w ((fs ++ [f]).getD j fnil) ((rs.getD i rnil).q.getD j 0) := fun j hj => row_fa (hfl.trans hRi.1) hRi hfi hf hj
      have hbl := hI.out.bl
      have hc : ∀ k, wr.cell? ⟨bb, k, none⟩ = w.cell? ⟨bb, k, none⟩ := fun k => hbl.cell (p := ⟨bb, k, none⟩) hBB0
      rw [← hc] at c0 c1 c2 c3 c4
      have hBB := Nat.lt_of_lt_of_le hBB0 hbl.size
      have hfc := hfc0.below hbl
      rw [hRi.1] at c0 hfl
      obtain ⟨s1, A1, n1, d1, s2, A2, n2, d2⟩ := f
      simp only at c1 c2 c3 c4
      have hbA : Below wr.heap.size wr (wr.alloc (.cells #[.slice Aa m ca, .int .i64 s1, .slice A1 n1 d1, .int .i64 s2, .slice A2 n2 d2] 45)) := (Below.refl _ _).alloc (Nat.le_refl _) _
      have kA := Blk.new wr 45 #[.slice Aa m ca, .int .i64 s1, .slice A1 n1 d1, .int .i64 s2, .slice A2 n2 d2]
      have hIA := Lib.hid (hI.out.below hbA)
      have hfcA := hfc.below hbA
      have hqs := Lib.hid (fun j (hj : j < m + 1) => ((hqw j hj).below hbl).below hbA)
      clear hqw hc hbl hBB0 hfc0
      go_upto_region 5 with fail
      clear c0 c1 c2 c3 c4 hf hfa hfc hfi
      obtain ⟨GR, hGR⟩ : ∃ G, wr.heap.size = G := ⟨_, rfl⟩
      rw [hGR] at kA ⊢
      generalize wr.alloc (.cells #[.slice Aa m ca, .int .i64 s1, .slice A1 n1 d1, .int .i64 s2, .slice A2 n2 d2] 45) = W1 at *
      have HCL := Lib.hid (fun (W' : World) (hb : Below W1.heap.size W1 W') => fclone_any fs Aa m ca W' hfl (hfcA.below hb) (by omega))
      obtain ⟨cs, hcs⟩ : ∃ cs, (gs.map (lcell (m + 1)) ++ List.replicate (m - i) (Value.slice none 0 0)).toArray = cs := ⟨_, rfl⟩
      have kL := hIA.out.blk
      rw [hcs] at kL
      have hsz : i < cs.size := by rw [← hcs]; simp [hIA.out.len]; omega
      have hlen : (fs ++ [(⟨s1, A1, n1, d1, s2, A2, n2, d2⟩ : Fc)]).length = m + 1 := by simp [hfl]
      have HK := Lib.hid (And.intro kA (And.intro kL hlen))
      have q0 := kA.cell 0
      have q1 := kA.cell 1
      have q2 := kA.cell 2
      have q3 := kA.cell 3
      have q4 := kA.cell 4
      simp at q0 q1 q2 q3 q4
      have e0 : ∀ W' : World, Below W1.heap.size W1 W' → W'.cell? ⟨GR, 0, none⟩ = some (.slice Aa m ca) ∧ W'.cell? ⟨GR, 1, none⟩ = some (.int .i64 s1) ∧ W'.cell? ⟨GR, 2, none⟩ = some (.slice A1 n1 d1) ∧ W'.cell? ⟨GR, 3, none⟩ = some (.int .i64 s2) ∧ W'.cell? ⟨GR, 4, none⟩ = some (.slice A2 n2 d2) := fun W' hW =>
        ⟨(kA.below hW kA.lt).cell 0, (kA.below hW kA.lt).cell 1, (kA.below hW kA.lt).cell 2, (kA.below hW kA.lt).cell 3, (kA.below hW kA.lt).cell 4⟩
      have E0 := Lib.hid e0; clear e0
      have hB00 : Below W1.heap.size W1 W1.drew := (Below.refl _ _).drew
      have hGRl := kA.lt
      have HCS := Lib.hid hcs
      clear hfcA hI hcs kA kL hlen hbA hGR
      go_region_law (first
          | (go_simp; go_at_call 43; (first | refine (HCL.out _ hB00).mono ?_ | refine (HCL.out _ (below_new hB00 _)).mono ?_); rintro e w2 ⟨v2, rfl, ho2, hb2⟩; have hB2 : Below W1.heap.size W1 w2 := (by first | exact ⟨hb2.os, hb2.tape, hb2.output, hb2.size, hb2.block⟩ | exact (below_new hB00 _).trans (hb2.mono (below_new hB00 _).size)); have ho3 : OwnF w2 W1.heap.size v2 fs := (by first | exact ho2 | exact ho2.mono (below_new hB00 _).size); obtain ⟨t0, t1, t2, t3, t4⟩ := E0.out _ hB2; have hgl2 := Nat.lt_of_lt_of_le hGRl hB2.size)
          | (refine step_appF rfl (.tmp 20) (.tmp 23) rfl W1.heap.size _ fs [⟨s1, A1, n1, d1, s2, A2, n2, d2⟩] (some ⟨w2.heap.size, 0, none⟩) 1 1 (by simp [Act.eval]) (ho3.below ((Below.refl _ _).alloc (Nat.le_refl _) _)) (by simp [Act.eval]) rfl (lit_fc w2 ⟨s1, A1, n1, d1, s2, A2, n2, d2⟩) (by rw [hfl]; omega) (below_new hB2 _).size ?_; intro v4 w4 hown4 hg4 hat4; have hB4 : Below W1.heap.size W1 w4 := grown_belF (below_new hB2 _) (ho3.below ((Below.refl _ _).alloc (Nat.le_refl _) _)) hg4 (Nat.le_refl _); obtain ⟨g4, cap4, cur4, hv4, hge4, hb4, hc4, -⟩ := hown4.blk (by simp); rw [HK.out.2.2] at hv4; subst hv4; have kL4 := HK.out.2.1.below hB4 HK.out.2.1.lt; have l4 := kL4.cell i; have f4 := kL4.frozen i; rw [Array.getElem?_eq_getElem hsz] at l4)
          | (refine step_appF rfl (.tmp 20) (.tmp 23) rfl W1.heap.size _ fs [⟨s1, A1, n1, d1, s2, A2, n2, d2⟩] (some ⟨W1.heap.size, 0, none⟩) 1 1 (by simp [Act.eval]) ho3 (by simp [Act.eval]) rfl ((lit_fc W1.drew ⟨s1, A1, n1, d1, s2, A2, n2, d2⟩).below hb2) (by rw [hfl]; omega) hB2.size ?_; intro v4 w4 hown4 hg4 hat4; have hB4 : Below W1.heap.size W1 w4 := grown_belF hB2 ho3 hg4 (Nat.le_refl _); obtain ⟨g4, cap4, cur4, hv4, hge4, hb4, hc4, -⟩ := hown4.blk (by simp); rw [HK.out.2.2] at hv4; subst hv4; have kL4 := HK.out.2.1.below hB4 HK.out.2.1.lt; have l4 := kL4.cell i; have f4 := kL4.frozen i; rw [Array.getElem?_eq_getElem hsz] at l4))
      all_goals
        have hlp : LineP W1 L i (m + 1) cs (fs ++ [⟨s1, A1, n1, d1, s2, A2, n2, d2⟩]) (w4.setCell ⟨L, i, none⟩ (.slice (some ⟨g4, 0, none⟩) (m + 1) cap4)) := LineP.of HK.out.2.1 hB4 hge4 hb4 hc4
        obtain ⟨g, cp, cur, hge, hkg, hcg, hkL, hfL⟩ := hlp
        have hnx := Lib.hid (hIA.out.next hgo hge hkg hcg HK.out.2.2 (by rw [HCS.out]; exact hkL) hfL hqs.out)
        clear hkg hcg hkL hfL hb4 hc4 kL4 l4 f4 hB4 hown4 hg4 hat4 ho2 ho3 hb2 hB2 t0 t1 t2 t3 t4 q0 q1 q2 q3 q4 E0 hqs HCL HK hIA
        go_wp2_with fail
        go_roundw
        case rel => exact ⟨i + 1, _, by omega, rfl, hnx⟩
        case measure => simp [intOf]; omega
    · have : i = m := by omega
      subst this
      have hfin := Lib.hid (hI.out.done HM.out (fun k hk => by
        have h := (HR.out k hk).1
        unfold Rd.q
        rw [List.length_append, List.length_map, h]
        rfl))
      have hg := Lib.hid hI.out.len
      have hbl := Lib.hid hI.out.bl
      clear hI
      go_wp2_with fail
      go_ret
      exact ⟨L, gs, rfl, hg.out, hfin.out, hbl.out⟩

end Go.Proofs.Ytlbjaimgoiimgaa

namespace Go.Proofs.Ytlbjaimgoiimgaa
open Go.RowKit

/-- The elimination from the column c on, m columns, with p pivots: how many there are at its end. -/
def runRank : Nat → Nat → Nat → List (List Rat) → Option Nat
  | 0, _, p, _ => some p
  | m + 1, c, p, X => match elimS X p c with
    | none => none
    | some (b, Y) => runRank m (c + 1) (if b then p + 1 else p) Y
theorem runRank_fail {m c p : Nat} {X : List (List Rat)} (h : elimS X p c = none) : runRank (m + 1) c p X = none := by rw [runRank, h]
theorem runRank_on {m c p : Nat} {b : Bool} {X Y : List (List Rat)} (h : elimS X p c = some (b, Y)) : runRank (m + 1) c p X = runRank m (c + 1) (if b then p + 1 else p) Y := by rw [runRank, h]
/-- What the loop over the columns has. -/
structure RkI (S : Nat → Prop) (w wr : World) (L N : Nat) (gs : List (Nat × Nat)) (X Y : List (List Rat)) (c p : Nat) : Prop where
  L : Lines S wr L (N + 1) gs Y
  len : gs.length = N
  run : runRank N 0 0 X = runRank (N - c) c p Y
  fr : Fr S w wr

set_option maxRecDepth 100000 in
set_option maxHeartbeats 8000000 in
theorem lrank_any {A : Option Addr} {m cap : Nat} {n : Int} {rs : List Rd} (w : World) (h : RdsAt w A rs) (hm : rs.length = m) (hmm : m ≤ 1000000) :
    Calls Try.prog 23 #[.slice A m cap, .int .i64 n] w fun e w' => Below w.heap.size w w' ∧
      ((¬ SysR rs n ∧ e = .returned (.tuple #[.int .i64 0, .int .i64 1])) ∨ (SysR rs n ∧ runRank m 0 0 (rs.map Rd.q) = none ∧ e = .returned (.tuple #[.int .i64 0, .int .i64 6])) ∨
        (SysR rs n ∧ ∃ k : Nat, runRank m 0 0 (rs.map Rd.q) = some k ∧ e = .returned (.tuple #[.int .i64 k, .int .i64 0]))) := by
  have HD := Lib.hid h; clear h
  have HM := Lib.hid hm; clear hm
  go_enter Try.func23, Try.ntmps23
  go_wp2_with fail
  by_cases hs : SysR rs n
  · (with_reducible refine (lright_any w HD.out HM.out hmm true ⟨fun _ => hs, fun _ => rfl⟩).mono ?_)
    rintro e u1 ⟨rfl, hb1⟩
    have HS := Lib.hid hs
    have h40 : m ≤ 40 := by have := hs.2.1; rwa [HM.out] at this
    have hR : ∀ k, k < m → (rs.getD k rnil).R m := fun k hk => by have := hs.2.2 k (by rw [HM.out]; exact hk); rwa [HM.out] at this
    clear hs
    go_wp2_with fail
    (with_reducible refine (linesOf_any u1 (HD.out.below hb1) HM.out h40 hR).mono ?_)
    rintro e u2 ⟨L, gs, rfl, hgl, hLn, hb2⟩
    obtain ⟨S, hSe⟩ : ∃ S : Nat → Prop, (fun b => u1.heap.size ≤ b ∧ b < u2.heap.size) = S := ⟨_, rfl⟩
    have hlo := Lib.hid (show ∀ b, S b → u1.heap.size ≤ b from fun b hb => by rw [← hSe] at hb; exact hb.1)
    have hhi := Lib.hid (show ∀ b, S b → b < u2.heap.size from fun b hb => by rw [← hSe] at hb; exact hb.2)
    rw [hSe] at hLn
    have HST := Lib.hid (show RkI S u2 u2 L m gs (rs.map Rd.q) (rs.map Rd.q) 0 0 from ⟨hLn, hgl, rfl, Fr.refl _ _⟩)
    have hb12 := hb1.trans (hb2.mono hb1.size)
    have hfin : Hid (∀ wq, Fr S u2 wq → Below w.heap.size w wq) := Lib.hid fun wq hf => hb12.trans (hf.below (fun b hb => Nat.le_trans hb1.size (hlo.out b hb)) hb12.size)
    clear hLn hgl hSe hR hb2 hb12
    go_wp2_with fail
    go_loopw [7, 19] (fun pv iv wr => ∃ (c p : Nat) (gs' : List (Nat × Nat)) (Y : List (List Rat)), c ≤ m ∧ p ≤ c ∧ pv = .int .i64 p ∧ iv = .int .i64 c ∧ Hid (RkI S u2 wr L m gs' (rs.map Rd.q) Y c p)) (fun _ iv _ => m - (intOf iv).toNat)
    case atStart => exact ⟨0, 0, gs, _, Nat.zero_le _, Nat.le_refl _, rfl, rfl, HST⟩
    case round =>
      obtain ⟨c, p, gs', Y, hc, hp, rfl, rfl, hI⟩ := hrel
      clear HST
      by_cases hgo : c < m
      · have hSw : ∀ b, S b → b < wr.heap.size := fun b hb => Nat.lt_of_lt_of_le (hhi.out b hb) hI.out.fr.size
        have hmc : m - c = (m - (c + 1)) + 1 := by omega
        go_wp2_with fail
        (with_reducible refine (elim_any (n := m + 1) hI.out.L hI.out.len rfl h40 (Nat.le_refl m) (by omega) hp hgo hSw).mono ?_)
        rintro e w1 ⟨hf, ⟨hel, rfl⟩ | ⟨b, Z, gs2, hel, rfl, hg2, hL2⟩⟩
        · have hres := Lib.hid (show runRank m 0 0 (rs.map Rd.q) = none by rw [hI.out.run, hmc, runRank_fail hel])
          have hff := Lib.hid (hfin.out _ (hI.out.fr.tr hf))
          clear hI hel hf hSw hmc
          go_wp2_with fail
          go_ret2
          exact ⟨hff.out, .inr (.inl ⟨HS.out, hres.out, rfl⟩)⟩
        · have hI2 := Lib.hid (show RkI S u2 w1 L m gs2 (rs.map Rd.q) Z (c + 1) (if b then p + 1 else p) from ⟨hL2, hg2, by rw [hI.out.run, hmc, runRank_on hel], hI.out.fr.tr hf⟩)
          clear hI hel hf hSw hmc hL2
          cases b with
          | true =>
            go_wp2_with fail
            go_roundw
            case rel => exact ⟨c + 1, p + 1, _, _, by omega, by omega, rfl, rfl, hI2⟩
            case measure => simp [intOf]; omega
          | false =>
            go_wp2_with fail
            go_roundw
            case rel => exact ⟨c + 1, p, _, _, by omega, by omega, rfl, rfl, hI2⟩
            case measure => simp [intOf]; omega
      · have : c = m := by omega
        subst this
        have hres := Lib.hid (show runRank c 0 0 (rs.map Rd.q) = some p by rw [hI.out.run, Nat.sub_self, runRank])
        have hff := Lib.hid (hfin.out _ hI.out.fr)
        clear hI
        go_wp2_with fail
        go_ret2
        exact ⟨hff.out, .inr (.inr ⟨HS.out, p, hres.out, rfl⟩)⟩
  · (with_reducible refine (lright_any w HD.out HM.out hmm false ⟨fun h => (by cases h), fun h => absurd h hs⟩).mono ?_)
    rintro e u1 ⟨rfl, hb1⟩
    have HS := Lib.hid hs; clear hs
    go_wp2_with fail
    go_ret2
    exact ⟨hb1, .inl ⟨HS.out, rfl⟩⟩

end Go.Proofs.Ytlbjaimgoiimgaa

namespace Go.Proofs.Ytlbjaimgoiimgaa
open Go.RowKit

theorem made_quads (m : Nat) : (madeCells (Value.agg #[.int .i64 0, .slice none 0 0, .int .i64 0, .slice none 0 0]).cells (m * 4)).toList = fcs (List.replicate m fnil) := by
  apply List.ext_getElem?
  intro j
  by_cases hj : j < m * 4
  · obtain ⟨f0, f1, f2, f3⟩ := fcs_get (List.replicate m fnil) (j / 4) (by rw [List.length_replicate]; omega)
    have e : (List.replicate m fnil).getD (j / 4) fnil = fnil := by
      rw [List.getD_eq_getElem?_getD, List.getElem?_replicate]
      split <;> rfl
    rw [e] at f0 f1 f2 f3
    have hl : (madeCells (Value.agg #[.int .i64 0, .slice none 0 0, .int .i64 0, .slice none 0 0]).cells (m * 4)).toList[j]? = some ((#[Value.int .i64 0, .slice none 0 0, .int .i64 0, .slice none 0 0] : Array Value)[j % 4]!) := by
      unfold madeCells
      rw [Array.toList_map, List.getElem?_map, Array.toList_range, List.getElem?_range hj]
      rfl
    rw [hl]
    rcases (show j = j / 4 * 4 ∨ j = j / 4 * 4 + 1 ∨ j = j / 4 * 4 + 2 ∨ j = j / 4 * 4 + 3 by omega) with h | h | h | h
    · rw [← h] at f0; rw [f0, show j % 4 = 0 by omega]; rfl
    · rw [← h] at f1; rw [f1, show j % 4 = 1 by omega]; rfl
    · rw [← h] at f2; rw [f2, show j % 4 = 2 by omega]; rfl
    · rw [← h] at f3; rw [f3, show j % 4 = 3 by omega]; rfl
  · rw [List.getElem?_eq_none (by simp [madeCells]; omega), List.getElem?_eq_none (by rw [fcs_length, List.length_replicate]; omega)]

/-- make([]api.Frac, n). -/
theorem makeF {w : World} {ops : Array Oper} {rest : List Oper} {o : Oper} {a : Act} {Q : Exit → Act → World → Prop} (hgd : o.guard = none) (l c : Operand)
    (ho : o.op = Op.makeSlice 23 l c) (n : Nat) (L C : Int) (hl : a.eval l = .int .i64 L) (hc : a.eval c = .int .i64 C) (hL : L = n) (hC : C = n) (hm : n ≤ 10000000)
    (h : ∀ w' cur, Blk w' w.heap.size 40 cur → CellsL cur (List.replicate n fnil) → Below w.heap.size w w' → w'.heap.size = w.heap.size + 1 → wpList Try.prog ops Q rest (a.put o.dst (.slice (some ⟨w.heap.size, 0, none⟩) n n)) w') : wpList Try.prog ops Q (o :: rest) a w := by
  obtain ⟨i0, hi, hz0, hz1, hz2⟩ := info_parts Try.infoFr
  subst hL; subst hC
  have hr := run_make (P := Try.prog) w 23 40 i0 (.agg #[.int .i64 0, .slice none 0 0, .int .i64 0, .slice none 0 0]) Try.underlying23 hi hz0 .i64 .i64 (n : Int) (n : Int) (by omega) (by omega) (by rw [hz2]; omega) (by omega)
  simp only [Int.toNat_natCast] at hr
  refine wpList_plain hgd fun K hK' => ?_
  unfold Oper.wp
  simp [execOp, ho, hl, hc, hr, Result.andThen]
  rw [hz1]
  refine hK' _ _ (h _ _ (Blk.new w 40 _) (fun k hk => ?_) ((Below.refl _ w).alloc (Nat.le_refl _) _) (by simp))
  have hq := made_quads n
  obtain ⟨f0, f1, f2, f3⟩ := fcs_get _ k hk
  rw [← hq] at f0 f1 f2 f3
  rw [Array.getElem?_toList] at f0 f1 f2 f3
  exact ⟨f0, f1, f2, f3⟩

/-- A fraction is stored into a list. -/
theorem CellsL.store {w : World} {g : Nat} {cur : Array Value} {fs : List Fc} (hb : Blk w g 40 cur) (hc : CellsL cur fs) {k : Nat} (hk : k < fs.length) (f : Fc) :
    ∃ V cur', V = (((w.setCell ⟨g, k * 4, none⟩ (.int .i64 f.s)).setCell ⟨g, k * 4 + 1, none⟩ (.slice f.A f.n f.c)).setCell ⟨g, k * 4 + 2, none⟩ (.int .i64 f.s')).setCell ⟨g, k * 4 + 3, none⟩ (.slice f.A' f.n' f.c') ∧
      Blk V g 40 cur' ∧ CellsL cur' (fs.set k f) ∧ Fr (· = g) w V := by
  have hb4 := (((hb.set_ (k * 4) (.int .i64 f.s)).set_ (k * 4 + 1) (.slice f.A f.n f.c)).set_ (k * 4 + 2) (.int .i64 f.s')).set_ (k * 4 + 3) (.slice f.A' f.n' f.c')
  refine ⟨_, _, rfl, hb4, ?_, ⟨by simp [World.setCell], by simp [World.setCell], by simp [World.setCell], by simp, fun b _ hne => (Below.heap_setCell _ _ _ b hne).trans ((Below.heap_setCell _ _ _ b hne).trans ((Below.heap_setCell _ _ _ b hne).trans (Below.heap_setCell _ _ _ b hne)))⟩⟩
  intro j hj
  rw [List.length_set] at hj
  obtain ⟨c0, c1, c2, c3⟩ := hc j hj
  obtain ⟨d0, d1, d2, d3⟩ := hc k hk
  by_cases hjk : k = j
  · subst hjk
    rw [getD_set_self hk]
    have b0 := (Array.getElem?_eq_some_iff.1 d0).1
    have b1 := (Array.getElem?_eq_some_iff.1 d1).1
    have b2 := (Array.getElem?_eq_some_iff.1 d2).1
    have b3 := (Array.getElem?_eq_some_iff.1 d3).1
    simp [b0, b1, b2, b3]
  · rw [getD_set_ne hjk]
    refine ⟨?_, ?_, ?_, ?_⟩
    · rw [Array.getElem?_setIfInBounds_ne, Array.getElem?_setIfInBounds_ne, Array.getElem?_setIfInBounds_ne, Array.getElem?_setIfInBounds_ne] <;> first | exact c0 | omega
    · rw [Array.getElem?_setIfInBounds_ne, Array.getElem?_setIfInBounds_ne, Array.getElem?_setIfInBounds_ne, Array.getElem?_setIfInBounds_ne] <;> first | exact c1 | omega
    · rw [Array.getElem?_setIfInBounds_ne, Array.getElem?_setIfInBounds_ne, Array.getElem?_setIfInBounds_ne, Array.getElem?_setIfInBounds_ne] <;> first | exact c2 | omega
    · rw [Array.getElem?_setIfInBounds_ne, Array.getElem?_setIfInBounds_ne, Array.getElem?_setIfInBounds_ne, Array.getElem?_setIfInBounds_ne] <;> first | exact c3 | omega

end Go.Proofs.Ytlbjaimgoiimgaa

namespace Go.Proofs.Ytlbjaimgoiimgaa
open Go.RowKit

theorem bv_lo {w : World} {s : Int} {A : Option Addr} {n c : Nat} {z : Int} (h : BV w w.heap.size (.agg #[.int .i64 s, .slice A n c]) z) : ∀ a, A = some a → 0 < n → a.block < w.heap.size := fun a ha h0 => by
  obtain ⟨A', c', e, h1, h2, h3⟩ := h
  injection e with e
  have e1 := congrArg (fun (a : Array Value) => a[1]?) e
  simp at e1
  obtain ⟨rfl, en, _⟩ := e1
  obtain ⟨b, off, ea, hB, hc⟩ := h3 0 (by omega)
  rw [ha] at ea
  injection ea with ea
  subst ea
  exact hB
theorem FA.up {S : Nat → Prop} {w : World} {f : Fc} {x : Rat} (h : FA S w f x) : FA (fun b => S b ∨ w.heap.size ≤ b) w f x :=
  ⟨h.fv, h.rb, fun a ha h0 hs => by
    rcases hs with hs | hs
    · exact h.o1 a ha h0 hs
    · have := bv_lo h.fv.a a ha h0
      omega, fun a ha h0 hs => by
    rcases hs with hs | hs
    · exact h.o2 a ha h0 hs
    · have := bv_lo h.fv.b a ha h0
      omega⟩
theorem Lines.up {S : Nat → Prop} {w : World} {L n : Nat} {gs : List (Nat × Nat)} {X : List (List Rat)} (h : Lines S w L n gs X) : Lines (fun b => S b ∨ w.heap.size ≤ b) w L n gs X :=
  ⟨.inl h.top, h.len, h.blk, fun k hk => by
    obtain ⟨fs, h1, h2, h3, h4, h5⟩ := h.line k hk
    exact ⟨fs, h1, .inl h2, h3, h4, fun j hj => (h5 j hj).up⟩, h.one, h.far⟩
theorem Lines.keep {S : Nat → Prop} {w w' : World} {L n g : Nat} {gs : List (Nat × Nat)} {X : List (List Rat)} (h : Lines S w L n gs X) (hf : Fr (· = g) w w') (hg : S g) (hL : L ≠ g) (hk : ∀ k, k < gs.length → (gs.getD k (0, 0)).1 ≠ g) : Lines S w' L n gs X := by
  have hS : Fr S w w' := hf.more (fun b hb => by subst hb; exact hg)
  exact ⟨h.top, h.len, h.blk.fr hf hL, fun k hk' => by
    obtain ⟨fs, h1, h2⟩ := h.line k hk'
    exact ⟨fs, h1, h2.far hS (hf.2.2.2.2 _ h2.lt (hk k hk'))⟩, h.one, h.far⟩

/-- What the loop has that fills x. -/
structure SvI (S : Nat → Prop) (w wr : World) (L m gx : Nat) (gs : List (Nat × Nat)) (Y : List (List Rat)) (val : Nat → Rat) (fx : List Fc) (i : Nat) : Prop where
  LL : Lines S wr L (m + 1) gs Y
  len : gs.length = m
  fl : fx.length = m
  blk : ∃ cur, Blk wr gx 40 cur ∧ CellsL cur fx
  q : ∀ k, k < i → FA S wr (fx.getD k fnil) (val k)
  gS : S gx
  gL : L ≠ gx
  gk : ∀ k, k < m → (gs.getD k (0, 0)).1 ≠ gx
  bl : Below w.heap.size w wr
  lo : w.heap.size ≤ gx
theorem SvI.next {S : Nat → Prop} {w wr : World} {L m gx : Nat} {gs : List (Nat × Nat)} {Y : List (List Rat)} {val : Nat → Rat} {fx : List Fc} {i : Nat} (h : SvI S w wr L m gx gs Y val fx i) (hi : i < m) {f : Fc} (hf : FA S wr f (val i)) :
    ∃ V, V = (((wr.setCell ⟨gx, i * 4, none⟩ (.int .i64 f.s)).setCell ⟨gx, i * 4 + 1, none⟩ (.slice f.A f.n f.c)).setCell ⟨gx, i * 4 + 2, none⟩ (.int .i64 f.s')).setCell ⟨gx, i * 4 + 3, none⟩ (.slice f.A' f.n' f.c') ∧ SvI S w V L m gx gs Y val (fx.set i f) (i + 1) := by
  obtain ⟨cur, hb, hc⟩ := h.blk
  obtain ⟨V, cur', hV, hb', hc', hfr⟩ := CellsL.store hb hc (k := i) (by rw [h.fl]; exact hi) f
  have hS : Fr S wr V := hfr.more (fun b hb => by subst hb; exact h.gS)
  refine ⟨V, hV, h.LL.keep hfr h.gS h.gL (fun k hk => h.gk k (by rw [← h.len]; exact hk)), h.len, by rw [List.length_set]; exact h.fl, ⟨cur', hb', hc'⟩, fun k hk => ?_, h.gS, h.gL, h.gk, h.bl.trans (hfr.below (fun b hb => by subst hb; exact h.lo) h.bl.size), h.lo⟩
  by_cases hki : k = i
  · subst hki
    rw [getD_set_self (by rw [h.fl]; exact hi)]
    exact hf.fr hS
  · rw [getD_set_ne (Ne.symm hki)]
    exact (h.q k (by omega)).fr hS

set_option maxRecDepth 100000 in
set_option maxHeartbeats 8000000 in
theorem lsolve_any {A : Option Addr} {m cap : Nat} {n : Int} {rs : List Rd} (w : World) (h : RdsAt w A rs) (hm : rs.length = m) (hmm : m ≤ 1000000) :
    Calls Try.prog 11 #[.slice A m cap, .int .i64 n] w fun e w' => Below w.heap.size w w' ∧
      ((¬ SysR rs n ∧ e = .returned (.tuple #[.slice none 0 0, .int .i64 1])) ∨ (SysR rs n ∧ runFree m 0 (rs.map Rd.q) = none ∧ e = .returned (.tuple #[.slice none 0 0, .int .i64 6])) ∨
        (SysR rs n ∧ (∃ (k : Nat) (Y : List (List Rat)), runFree m 0 (rs.map Rd.q) = some (k, Y) ∧ k < m) ∧ e = .returned (.tuple #[.slice none 0 0, .int .i64 16])) ∨
        (SysR rs n ∧ ∃ (Y : List (List Rat)) (gx : Nat) (fx : List Fc) (S : Nat → Prop), runFree m 0 (rs.map Rd.q) = some (m, Y) ∧ e = .returned (.tuple #[.slice (some ⟨gx, 0, none⟩) m m, .int .i64 0]) ∧ w.heap.size ≤ gx ∧ fx.length = m ∧
          (∃ cur, Blk w' gx 40 cur ∧ CellsL cur fx) ∧ ∀ k, k < m → FA S w' (fx.getD k fnil) ((Y.getD k []).getD m 0))) := by
  have HD := Lib.hid h; clear h
  have HM := Lib.hid hm; clear hm
  go_enter Try.func11, Try.ntmps11
  go_wp2_with fail
  by_cases hs : SysR rs n
  · (with_reducible refine (lright_any w HD.out HM.out hmm true ⟨fun _ => hs, fun _ => rfl⟩).mono ?_)
    rintro e u1 ⟨rfl, hb1⟩
    have HS := Lib.hid hs
    have h40 : m ≤ 40 := by have := hs.2.1; rwa [HM.out] at this
    have hnm : n = (m : Int) := by have := hs.1; rw [HM.out] at this; exact this.symm
    have hR : ∀ k, k < m → (rs.getD k rnil).R m := fun k hk => by have := hs.2.2 k (by rw [HM.out]; exact hk); rwa [HM.out] at this
    clear hs
    subst hnm
    go_wp2_with fail
    (with_reducible refine (linesOf_any u1 (HD.out.below hb1) HM.out h40 hR).mono ?_)
    rintro e u2 ⟨L, gs, rfl, hgl, hLn, hb2⟩
    obtain ⟨S, hSe⟩ : ∃ S : Nat → Prop, (fun b => u1.heap.size ≤ b ∧ b < u2.heap.size) = S := ⟨_, rfl⟩
    have hlo := Lib.hid (show ∀ b, S b → u1.heap.size ≤ b from fun b hb => by rw [← hSe] at hb; exact hb.1)
    have hhi := Lib.hid (show ∀ b, S b → b < u2.heap.size from fun b hb => by rw [← hSe] at hb; exact hb.2)
    rw [hSe] at hLn
    have hb12 := hb1.trans (hb2.mono hb1.size)
    have hfin : Hid (∀ wq, Fr S u2 wq → Below w.heap.size w wq) := Lib.hid fun wq hf => hb12.trans (hf.below (fun b hb => Nat.le_trans hb1.size (hlo.out b hb)) hb12.size)
    have HLn := Lib.hid hLn
    clear hLn hSe hR hb2 hb12
    go_wp2_with fail
    (with_reducible refine (toFree_any HLn.out hgl h40 (Nat.le_refl m) (by omega) hhi.out).mono ?_)
    rintro e u3 ⟨hf3, ⟨hrn, k, rfl⟩ | ⟨k, Y, gs', hrn, rfl, hkm, hg3, hL3⟩⟩
    · have hff := Lib.hid (hfin.out _ hf3)
      have hres := Lib.hid hrn
      clear hf3 hrn HLn hfin
      go_wp2_with fail
      go_ret2
      exact ⟨hff.out, .inr (.inl ⟨HS.out, hres.out, rfl⟩)⟩
    · have hff := Lib.hid (hfin.out _ hf3)
      have hres := Lib.hid hrn
      by_cases hkl : k < m
      · clear hf3 hrn HLn hfin hL3
        go_wp2_with fail
        go_ret2
        exact ⟨hff.out, .inr (.inr (.inl ⟨HS.out, ⟨k, Y, hres.out, hkl⟩, rfl⟩))⟩
      · have : k = m := by omega
        subst this
        have HL3 := Lib.hid hL3
        have HG3 := Lib.hid hg3
        clear hf3 hrn HLn hfin hL3 hg3
        go_wp2_with (at_make; refine makeF rfl (.tmp 29) (.tmp 29) rfl k _ _ rfl rfl rfl rfl (by omega) ?_; intro u4 cur hk4 hc4 hb4 hs4)
        have hst : SvI (fun b => S b ∨ u3.heap.size ≤ b) w u4 L k u3.heap.size gs' Y (fun j => (Y.getD j []).getD k 0) (List.replicate k fnil) 0 :=
          ⟨HL3.out.up.below hb4, HG3.out, List.length_replicate, ⟨cur, hk4, hc4⟩, fun j hj => by omega, .inr (Nat.le_refl _), by have := HL3.out.blk.lt; omega,
            fun j hj => by
              obtain ⟨fs, _, h2⟩ := HL3.out.line j (by rw [HG3.out]; exact hj)
              have := h2.lt
              omega, hff.out.trans (hb4.mono hff.out.size), hff.out.size⟩
        have HST := Lib.hid hst
        obtain ⟨gx, hgx⟩ : ∃ g, u3.heap.size = g := ⟨_, rfl⟩
        obtain ⟨S', hS'⟩ : ∃ S' : Nat → Prop, (fun b => S b ∨ u3.heap.size ≤ b) = S' := ⟨_, rfl⟩
        rw [hS', hgx] at HST
        rw [hgx]
        clear hst hk4 hc4 hb4 hs4 HL3 hS' hgx
        go_loopw [33] (fun iv wr => ∃ (i : Nat) (fx : List Fc), i ≤ k ∧ iv = .int .i64 i ∧ Hid (SvI S' w wr L k gx gs' Y (fun j => (Y.getD j []).getD k 0) fx i)) (fun iv _ => k - (intOf iv).toNat)
        case atStart => exact ⟨0, _, Nat.zero_le _, rfl, HST⟩
        case round =>
          obtain ⟨i, fx, hi, rfl, hI⟩ := hrel
          clear HST
          by_cases hgo : i < k
          · have l1 := hI.out.LL.cell (k := i) (by rw [hI.out.len]; exact hgo)
            have hLl := hI.out.LL.blk.lt
            obtain ⟨fs, hfs, hLn⟩ := hI.out.LL.line i (by rw [hI.out.len]; exact hgo)
            obtain ⟨c0, c1, c2, c3, hx⟩ := hLn.cells (k := k) (by omega)
            obtain ⟨V, hV, hnx⟩ := hI.out.next hgo hx
            obtain ⟨cur5, hbk, hck⟩ := hI.out.blk
            obtain ⟨d0, d1, d2, d3⟩ := hck i (by rw [hI.out.fl]; exact hgo)
            rw [← hbk.cell] at d0 d1 d2 d3
            have z0 := hbk.frozen (i * 4)
            have z1 := hbk.frozen (i * 4 + 1)
            have z2 := hbk.frozen (i * 4 + 2)
            have z3 := hbk.frozen (i * 4 + 3)
            have hgl := hbk.lt
            have hgl2 := hLn.lt
            obtain ⟨p, hp⟩ : ∃ p, gs'.getD i (0, 0) = p := ⟨_, rfl⟩
            rw [hp] at l1 c0 c1 c2 c3 hgl2
            obtain ⟨gp, ep⟩ := p
            obtain ⟨a, ha⟩ : ∃ a, fs.getD k fnil = a := ⟨_, rfl⟩
            rw [ha] at c0 c1 c2 c3 hV hnx
            obtain ⟨s1, A1, n1, e1, s2, A2, n2, e2⟩ := a
            obtain ⟨b, hb⟩ : ∃ a, fx.getD i fnil = a := ⟨_, rfl⟩
            rw [hb] at d0 d1 d2 d3
            obtain ⟨t1, B1, m1, i1, t2, B2, m2, i2⟩ := b
            simp only at l1 c0 c1 c2 c3 d0 d1 d2 d3 hV hgl2
            have hnx' := Lib.hid hnx
            clear hnx hx hLn hI hbk hck hp ha hb hfs
            go_wp2_with fail
            rw [← hV]
            go_roundw
            case rel => exact ⟨i + 1, _, by omega, rfl, hnx'⟩
            case measure => simp [intOf]; omega
          · have : i = k := by omega
            subst this
            have hbl := Lib.hid hI.out.bl
            have hfx := Lib.hid (And.intro hI.out.lo (And.intro hI.out.fl (And.intro hI.out.blk hI.out.q)))
            clear hI
            go_wp2_with fail
            go_ret2
            exact ⟨hbl.out, .inr (.inr (.inr ⟨HS.out, Y, gx, fx, S', hres.out, rfl, hfx.out.1, hfx.out.2.1, hfx.out.2.2.1, hfx.out.2.2.2⟩))⟩
  · (with_reducible refine (lright_any w HD.out HM.out hmm false ⟨fun h => (by cases h), fun h => absurd h hs⟩).mono ?_)
    rintro e u1 ⟨rfl, hb1⟩
    have HS := Lib.hid hs; clear hs
    go_wp2_with fail
    go_ret2
    exact ⟨hb1, .inl ⟨HS.out, rfl⟩⟩

end Go.Proofs.Ytlbjaimgoiimgaa
