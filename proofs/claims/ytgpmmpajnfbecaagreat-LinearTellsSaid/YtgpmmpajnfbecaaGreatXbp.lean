/- Walk of Rank. make of fractions; a list of fractions that is filled. Walk of Solve. -/
import Derived.Test.YtgpmmpajnfbecaaGreatXbo

namespace Go.Proofs.YtgpmmpajnfbecaaGreat
open Go.RowKit

/-- The elimination from the column c on, m columns, with p pivots: how many there are at its end. -/
def runRank : Nat → Nat → Nat → List (List Rat) → Option Nat
  | 0, _, p, _ => some p
  | m + 1, c, p, X => match elimS X p c with
    | none => none
    | some (b, Y) => runRank m (c + 1) (if b then p + 1 else p) Y
theorem runRank_fail {m c p : Nat} {X : List (List Rat)} (h : elimS X p c = none) : runRank (m + 1) c p X = none := by rw [runRank, h]
theorem runRank_on {m c p : Nat} {b : Bool} {X Y : List (List Rat)} (h : elimS X p c = some (b, Y)) : runRank (m + 1) c p X = runRank m (c + 1) (if b then p + 1 else p) Y := by rw [runRank, h]
/-- What the loop over the columns has. -/
structure RkI (S : Nat → Prop) (w wr : World) (L N : Nat) (gs : List (Nat × Nat)) (X Y : List (List Rat)) (c p : Nat) : Prop where
  L : Lines S wr L (N + 1) gs Y
  len : gs.length = N
  run : runRank N 0 0 X = runRank (N - c) c p Y
  fr : Fr S w wr

set_option maxRecDepth 100000 in
set_option maxHeartbeats 8000000 in
theorem lrank_any {A : Option Addr} {m cap : Nat} {n : Int} {rs : List Rd} (w : World) (h : RdsAt w A rs) (hm : rs.length = m) (hmm : m ≤ 1000000) :
    Calls Tryz.prog 11 #[.slice A m cap, .int .i64 n] w fun e w' => Below w.heap.size w w' ∧
      ((¬ SysR rs n ∧ e = .returned (.tuple #[.int .i64 0, .int .i64 1])) ∨ (SysR rs n ∧ runRank m 0 0 (rs.map Rd.q) = none ∧ e = .returned (.tuple #[.int .i64 0, .int .i64 6])) ∨
        (SysR rs n ∧ ∃ k : Nat, runRank m 0 0 (rs.map Rd.q) = some k ∧ e = .returned (.tuple #[.int .i64 k, .int .i64 0]))) := by
  have HD := Lib.hid h; clear h
  have HM := Lib.hid hm; clear hm
  go_enter Tryz.func11, Tryz.ntmps11
  go_wp2_with fail
  by_cases hs : SysR rs n
  · (with_reducible refine (lright_any w HD.out HM.out hmm true ⟨fun _ => hs, fun _ => rfl⟩).mono ?_)
    rintro e u1 ⟨rfl, hb1⟩
    have HS := Lib.hid hs
    have h40 : m ≤ 40 := by have := hs.2.1; rwa [HM.out] at this
    have hR : ∀ k, k < m → (rs.getD k rnil).R m := fun k hk => by have := hs.2.2 k (by rw [HM.out]; exact hk); rwa [HM.out] at this
    clear hs
    go_wp2_with fail
    (with_reducible refine (linesOf_any u1 (HD.out.below hb1) HM.out h40 hR).mono ?_)
    rintro e u2 ⟨L, gs, rfl, hgl, hLn, hb2⟩
    obtain ⟨S, hSe⟩ : ∃ S : Nat → Prop, (fun b => u1.heap.size ≤ b ∧ b < u2.heap.size) = S := ⟨_, rfl⟩
    have hlo := Lib.hid (show ∀ b, S b → u1.heap.size ≤ b from fun b hb => by rw [← hSe] at hb; exact hb.1)
    have hhi := Lib.hid (show ∀ b, S b → b < u2.heap.size from fun b hb => by rw [← hSe] at hb; exact hb.2)
    rw [hSe] at hLn
    have HST := Lib.hid (show RkI S u2 u2 L m gs (rs.map Rd.q) (rs.map Rd.q) 0 0 from ⟨hLn, hgl, rfl, Fr.refl _ _⟩)
    have hb12 := hb1.trans (hb2.mono hb1.size)
    have hfin : Hid (∀ wq, Fr S u2 wq → Below w.heap.size w wq) := Lib.hid fun wq hf => hb12.trans (hf.below (fun b hb => Nat.le_trans hb1.size (hlo.out b hb)) hb12.size)
    clear hLn hgl hSe hR hb2 hb12
    go_wp2_with fail
    go_loopw [7, 19] (fun pv iv wr => ∃ (c p : Nat) (gs' : List (Nat × Nat)) (Y : List (List Rat)), c ≤ m ∧ p ≤ c ∧ pv = .int .i64 p ∧ iv = .int .i64 c ∧ Hid (RkI S u2 wr L m gs' (rs.map Rd.q) Y c p)) (fun _ iv _ => m - (intOf iv).toNat)
    case atStart => exact ⟨0, 0, gs, _, Nat.zero_le _, Nat.le_refl _, rfl, rfl, HST⟩
    case round =>
      obtain ⟨c, p, gs', Y, hc, hp, rfl, rfl, hI⟩ := hrel
      clear HST
      by_cases hgo : c < m
      · have hSw : ∀ b, S b → b < wr.heap.size := fun b hb => Nat.lt_of_lt_of_le (hhi.out b hb) hI.out.fr.size
        have hmc : m - c = (m - (c + 1)) + 1 := by omega
        go_wp2_with fail
        (with_reducible refine (elim_any (n := m + 1) hI.out.L hI.out.len rfl h40 (Nat.le_refl m) (by omega) hp hgo hSw).mono ?_)
        rintro e w1 ⟨hf, ⟨hel, rfl⟩ | ⟨b, Z, gs2, hel, rfl, hg2, hL2⟩⟩
        · have hres := Lib.hid (show runRank m 0 0 (rs.map Rd.q) = none by rw [hI.out.run, hmc, runRank_fail hel])
          have hff := Lib.hid (hfin.out _ (hI.out.fr.tr hf))
          clear hI hel hf hSw hmc
          go_wp2_with fail
          go_ret2
          exact ⟨hff.out, .inr (.inl ⟨HS.out, hres.out, rfl⟩)⟩
        · have hI2 := Lib.hid (show RkI S u2 w1 L m gs2 (rs.map Rd.q) Z (c + 1) (if b then p + 1 else p) from ⟨hL2, hg2, by rw [hI.out.run, hmc, runRank_on hel], hI.out.fr.tr hf⟩)
          clear hI hel hf hSw hmc hL2
          cases b with
          | true =>
            go_wp2_with fail
            go_roundw
            case rel => exact ⟨c + 1, p + 1, _, _, by omega, by omega, rfl, rfl, hI2⟩
            case measure => simp [intOf]; omega
          | false =>
            go_wp2_with fail
            go_roundw
            case rel => exact ⟨c + 1, p, _, _, by omega, by omega, rfl, rfl, hI2⟩
            case measure => simp [intOf]; omega
      · have : c = m := by omega
        subst this
        have hres := Lib.hid (show runRank c 0 0 (rs.map Rd.q) = some p by rw [hI.out.run, Nat.sub_self, runRank])
        have hff := Lib.hid (hfin.out _ hI.out.fr)
        clear hI
        go_wp2_with fail
        go_ret2
        exact ⟨hff.out, .inr (.inr ⟨HS.out, p, hres.out, rfl⟩)⟩
  · (with_reducible refine (lright_any w HD.out HM.out hmm false ⟨fun h => (by cases h), fun h => absurd h hs⟩).mono ?_)
    rintro e u1 ⟨rfl, hb1⟩
    have HS := Lib.hid hs; clear hs
    go_wp2_with fail
    go_ret2
    exact ⟨hb1, .inl ⟨HS.out, rfl⟩⟩

end Go.Proofs.YtgpmmpajnfbecaaGreat

namespace Go.Proofs.YtgpmmpajnfbecaaGreat
open Go.RowKit

theorem made_quads (m : Nat) : (madeCells (Value.agg #[.int .i64 0, .slice none 0 0, .int .i64 0, .slice none 0 0]).cells (m * 4)).toList = fcs (List.replicate m fnil) := by
  apply List.ext_getElem?
  intro j
  by_cases hj : j < m * 4
  · obtain ⟨f0, f1, f2, f3⟩ := fcs_get (List.replicate m fnil) (j / 4) (by rw [List.length_replicate]; omega)
    have e : (List.replicate m fnil).getD (j / 4) fnil = fnil := by
      rw [List.getD_eq_getElem?_getD, List.getElem?_replicate]
      split <;> rfl
    rw [e] at f0 f1 f2 f3
    have hl : (madeCells (Value.agg #[.int .i64 0, .slice none 0 0, .int .i64 0, .slice none 0 0]).cells (m * 4)).toList[j]? = some ((#[Value.int .i64 0, .slice none 0 0, .int .i64 0, .slice none 0 0] : Array Value)[j % 4]!) := by
      unfold madeCells
      rw [Array.toList_map, List.getElem?_map, Array.toList_range, List.getElem?_range hj]
      rfl
    rw [hl]
    rcases (show j = j / 4 * 4 ∨ j = j / 4 * 4 + 1 ∨ j = j / 4 * 4 + 2 ∨ j = j / 4 * 4 + 3 by omega) with h | h | h | h
    · rw [← h] at f0; rw [f0, show j % 4 = 0 by omega]; rfl
    · rw [← h] at f1; rw [f1, show j % 4 = 1 by omega]; rfl
    · rw [← h] at f2; rw [f2, show j % 4 = 2 by omega]; rfl
    · rw [← h] at f3; rw [f3, show j % 4 = 3 by omega]; rfl
  · rw [List.getElem?_eq_none (by simp [madeCells]; omega), List.getElem?_eq_none (by rw [fcs_length, List.length_replicate]; omega)]

/-- make([]api.Frac, n). -/
theorem makeF {w : World} {ops : Array Oper} {rest : List Oper} {o : Oper} {a : Act} {Q : Exit → Act → World → Prop} (hgd : o.guard = none) (l c : Operand)
    (ho : o.op = Op.makeSlice 23 l c) (n : Nat) (L C : Int) (hl : a.eval l = .int .i64 L) (hc : a.eval c = .int .i64 C) (hL : L = n) (hC : C = n) (hm : n ≤ 10000000)
    (h : ∀ w' cur, Blk w' w.heap.size 41 cur → CellsL cur (List.replicate n fnil) → Below w.heap.size w w' → w'.heap.size = w.heap.size + 1 → wpList Tryz.prog ops Q rest (a.put o.dst (.slice (some ⟨w.heap.size, 0, none⟩) n n)) w') : wpList Tryz.prog ops Q (o :: rest) a w := by
  obtain ⟨i0, hi, hz0, hz1, hz2⟩ := info_parts Tryz.infoFr
  subst hL; subst hC
  have hr := run_make (P := Tryz.prog) w 23 41 i0 (.agg #[.int .i64 0, .slice none 0 0, .int .i64 0, .slice none 0 0]) Tryz.underlying23 hi hz0 .i64 .i64 (n : Int) (n : Int) (by omega) (by omega) (by rw [hz2]; omega) (by omega)
  simp only [Int.toNat_natCast] at hr
  refine wpList_plain hgd fun K hK' => ?_
  unfold Oper.wp
  simp [execOp, ho, hl, hc, hr, Result.andThen]
  rw [hz1]
  refine hK' _ _ (h _ _ (Blk.new w 41 _) (fun k hk => ?_) ((Below.refl _ w).alloc (Nat.le_refl _) _) (by simp))
  have hq := made_quads n
  obtain ⟨f0, f1, f2, f3⟩ := fcs_get _ k hk
  rw [← hq] at f0 f1 f2 f3
  rw [Array.getElem?_toList] at f0 f1 f2 f3
  exact ⟨f0, f1, f2, f3⟩

/-- A fraction is stored into a list. -/
theorem CellsL.store {w : World} {g : Nat} {cur : Array Value} {fs : List Fc} (hb : Blk w g 41 cur) (hc : CellsL cur fs) {k : Nat} (hk : k < fs.length) (f : Fc) :
    ∃ V cur', V = (((w.setCell ⟨g, k * 4, none⟩ (.int .i64 f.s)).setCell ⟨g, k * 4 + 1, none⟩ (.slice f.A f.n f.c)).setCell ⟨g, k * 4 + 2, none⟩ (.int .i64 f.s')).setCell ⟨g, k * 4 + 3, none⟩ (.slice f.A' f.n' f.c') ∧
      Blk V g 41 cur' ∧ CellsL cur' (fs.set k f) ∧ Fr (· = g) w V := by
  have hb4 := (((hb.set_ (k * 4) (.int .i64 f.s)).set_ (k * 4 + 1) (.slice f.A f.n f.c)).set_ (k * 4 + 2) (.int .i64 f.s')).set_ (k * 4 + 3) (.slice f.A' f.n' f.c')
  refine ⟨_, _, rfl, hb4, ?_, ⟨by simp [World.setCell], by simp [World.setCell], by simp [World.setCell], by simp, fun b _ hne => (Below.heap_setCell _ _ _ b hne).trans ((Below.heap_setCell _ _ _ b hne).trans ((Below.heap_setCell _ _ _ b hne).trans (Below.heap_setCell _ _ _ b hne)))⟩⟩
  intro j hj
  rw [List.length_set] at hj
  obtain ⟨c0, c1, c2, c3⟩ := hc j hj
  obtain ⟨d0, d1, d2, d3⟩ := hc k hk
  by_cases hjk : k = j
  · subst hjk
    rw [getD_set_self hk]
    have b0 := (Array.getElem?_eq_some_iff.1 d0).1
    have b1 := (Array.getElem?_eq_some_iff.1 d1).1
    have b2 := (Array.getElem?_eq_some_iff.1 d2).1
    have b3 := (Array.getElem?_eq_some_iff.1 d3).1
    simp [b0, b1, b2, b3]
  · rw [getD_set_ne hjk]
    refine ⟨?_, ?_, ?_, ?_⟩
    · rw [Array.getElem?_setIfInBounds_ne, Array.getElem?_setIfInBounds_ne, Array.getElem?_setIfInBounds_ne, Array.getElem?_setIfInBounds_ne] <;> first | exact c0 | omega
    · rw [Array.getElem?_setIfInBounds_ne, Array.getElem?_setIfInBounds_ne, Array.getElem?_setIfInBounds_ne, Array.getElem?_setIfInBounds_ne] <;> first | exact c1 | omega
    · rw [Array.getElem?_setIfInBounds_ne, Array.getElem?_setIfInBounds_ne, Array.getElem?_setIfInBounds_ne, Array.getElem?_setIfInBounds_ne] <;> first | exact c2 | omega
    · rw [Array.getElem?_setIfInBounds_ne, Array.getElem?_setIfInBounds_ne, Array.getElem?_setIfInBounds_ne, Array.getElem?_setIfInBounds_ne] <;> first | exact c3 | omega

end Go.Proofs.YtgpmmpajnfbecaaGreat

namespace Go.Proofs.YtgpmmpajnfbecaaGreat
open Go.RowKit

theorem bv_lo {w : World} {s : Int} {A : Option Addr} {n c : Nat} {z : Int} (h : BV w w.heap.size (.agg #[.int .i64 s, .slice A n c]) z) : ∀ a, A = some a → 0 < n → a.block < w.heap.size := fun a ha h0 => by
  obtain ⟨A', c', e, h1, h2, h3⟩ := h
  injection e with e
  have e1 := congrArg (fun (a : Array Value) => a[1]?) e
  simp at e1
  obtain ⟨rfl, en, _⟩ := e1
  obtain ⟨b, off, ea, hB, hc⟩ := h3 0 (by omega)
  rw [ha] at ea
  injection ea with ea
  subst ea
  exact hB
theorem FA.up {S : Nat → Prop} {w : World} {f : Fc} {x : Rat} (h : FA S w f x) : FA (fun b => S b ∨ w.heap.size ≤ b) w f x :=
  ⟨h.fv, h.rb, fun a ha h0 hs => by
    rcases hs with hs | hs
    · exact h.o1 a ha h0 hs
    · have := bv_lo h.fv.a a ha h0
      omega, fun a ha h0 hs => by
    rcases hs with hs | hs
    · exact h.o2 a ha h0 hs
    · have := bv_lo h.fv.b a ha h0
      omega⟩
theorem Lines.up {S : Nat → Prop} {w : World} {L n : Nat} {gs : List (Nat × Nat)} {X : List (List Rat)} (h : Lines S w L n gs X) : Lines (fun b => S b ∨ w.heap.size ≤ b) w L n gs X :=
  ⟨.inl h.top, h.len, h.blk, fun k hk => by
    obtain ⟨fs, h1, h2, h3, h4, h5⟩ := h.line k hk
    exact ⟨fs, h1, .inl h2, h3, h4, fun j hj => (h5 j hj).up⟩, h.one, h.far⟩
theorem Lines.keep {S : Nat → Prop} {w w' : World} {L n g : Nat} {gs : List (Nat × Nat)} {X : List (List Rat)} (h : Lines S w L n gs X) (hf : Fr (· = g) w w') (hg : S g) (hL : L ≠ g) (hk : ∀ k, k < gs.length → (gs.getD k (0, 0)).1 ≠ g) : Lines S w' L n gs X := by
  have hS : Fr S w w' := hf.more (fun b hb => by subst hb; exact hg)
  exact ⟨h.top, h.len, h.blk.fr hf hL, fun k hk' => by
    obtain ⟨fs, h1, h2⟩ := h.line k hk'
    exact ⟨fs, h1, h2.far hS (hf.2.2.2.2 _ h2.lt (hk k hk'))⟩, h.one, h.far⟩

/-- What the loop has that fills x. -/
structure SvI (S : Nat → Prop) (w wr : World) (L m gx : Nat) (gs : List (Nat × Nat)) (Y : List (List Rat)) (val : Nat → Rat) (fx : List Fc) (i : Nat) : Prop where
  LL : Lines S wr L (m + 1) gs Y
  len : gs.length = m
  fl : fx.length = m
  blk : ∃ cur, Blk wr gx 41 cur ∧ CellsL cur fx
  q : ∀ k, k < i → FA S wr (fx.getD k fnil) (val k)
  gS : S gx
  gL : L ≠ gx
  gk : ∀ k, k < m → (gs.getD k (0, 0)).1 ≠ gx
  bl : Below w.heap.size w wr
  lo : w.heap.size ≤ gx
theorem SvI.next {S : Nat → Prop} {w wr : World} {L m gx : Nat} {gs : List (Nat × Nat)} {Y : List (List Rat)} {val : Nat → Rat} {fx : List Fc} {i : Nat} (h : SvI S w wr L m gx gs Y val fx i) (hi : i < m) {f : Fc} (hf : FA S wr f (val i)) :
    ∃ V, V = (((wr.setCell ⟨gx, i * 4, none⟩ (.int .i64 f.s)).setCell ⟨gx, i * 4 + 1, none⟩ (.slice f.A f.n f.c)).setCell ⟨gx, i * 4 + 2, none⟩ (.int .i64 f.s')).setCell ⟨gx, i * 4 + 3, none⟩ (.slice f.A' f.n' f.c') ∧ SvI S w V L m gx gs Y val (fx.set i f) (i + 1) := by
  obtain ⟨cur, hb, hc⟩ := h.blk
  obtain ⟨V, cur', hV, hb', hc', hfr⟩ := CellsL.store hb hc (k := i) (by rw [h.fl]; exact hi) f
  have hS : Fr S wr V := hfr.more (fun b hb => by subst hb; exact h.gS)
  refine ⟨V, hV, h.LL.keep hfr h.gS h.gL (fun k hk => h.gk k (by rw [← h.len]; exact hk)), h.len, by rw [List.length_set]; exact h.fl, ⟨cur', hb', hc'⟩, fun k hk => ?_, h.gS, h.gL, h.gk, h.bl.trans (hfr.below (fun b hb => by subst hb; exact h.lo) h.bl.size), h.lo⟩
  by_cases hki : k = i
  · subst hki
    rw [getD_set_self (by rw [h.fl]; exact hi)]
    exact hf.fr hS
  · rw [getD_set_ne (Ne.symm hki)]
    exact (h.q k (by omega)).fr hS

set_option maxRecDepth 100000 in
set_option maxHeartbeats 8000000 in
theorem lsolve_any {A : Option Addr} {m cap : Nat} {n : Int} {rs : List Rd} (w : World) (h : RdsAt w A rs) (hm : rs.length = m) (hmm : m ≤ 1000000) :
    Calls Tryz.prog 7 #[.slice A m cap, .int .i64 n] w fun e w' => Below w.heap.size w w' ∧
      ((¬ SysR rs n ∧ e = .returned (.tuple #[.slice none 0 0, .int .i64 1])) ∨ (SysR rs n ∧ runFree m 0 (rs.map Rd.q) = none ∧ e = .returned (.tuple #[.slice none 0 0, .int .i64 6])) ∨
        (SysR rs n ∧ (∃ (k : Nat) (Y : List (List Rat)), runFree m 0 (rs.map Rd.q) = some (k, Y) ∧ k < m) ∧ e = .returned (.tuple #[.slice none 0 0, .int .i64 16])) ∨
        (SysR rs n ∧ ∃ (Y : List (List Rat)) (gx : Nat) (fx : List Fc) (S : Nat → Prop), runFree m 0 (rs.map Rd.q) = some (m, Y) ∧ e = .returned (.tuple #[.slice (some ⟨gx, 0, none⟩) m m, .int .i64 0]) ∧ w.heap.size ≤ gx ∧ fx.length = m ∧
          (∃ cur, Blk w' gx 41 cur ∧ CellsL cur fx) ∧ ∀ k, k < m → FA S w' (fx.getD k fnil) ((Y.getD k []).getD m 0))) := by
  have HD := Lib.hid h; clear h
  have HM := Lib.hid hm; clear hm
  go_enter Tryz.func7, Tryz.ntmps7
  go_wp2_with fail
  by_cases hs : SysR rs n
  · (with_reducible refine (lright_any w HD.out HM.out hmm true ⟨fun _ => hs, fun _ => rfl⟩).mono ?_)
    rintro e u1 ⟨rfl, hb1⟩
    have HS := Lib.hid hs
    have h40 : m ≤ 40 := by have := hs.2.1; rwa [HM.out] at this
    have hnm : n = (m : Int) := by have := hs.1; rw [HM.out] at this; exact this.symm
    have hR : ∀ k, k < m → (rs.getD k rnil).R m := fun k hk => by have := hs.2.2 k (by rw [HM.out]; exact hk); rwa [HM.out] at this
    clear hs
    subst hnm
    go_wp2_with fail
    (with_reducible refine (linesOf_any u1 (HD.out.below hb1) HM.out h40 hR).mono ?_)
    rintro e u2 ⟨L, gs, rfl, hgl, hLn, hb2⟩
    obtain ⟨S, hSe⟩ : ∃ S : Nat → Prop, (fun b => u1.heap.size ≤ b ∧ b < u2.heap.size) = S := ⟨_, rfl⟩
    have hlo := Lib.hid (show ∀ b, S b → u1.heap.size ≤ b from fun b hb => by rw [← hSe] at hb; exact hb.1)
    have hhi := Lib.hid (show ∀ b, S b → b < u2.heap.size from fun b hb => by rw [← hSe] at hb; exact hb.2)
    rw [hSe] at hLn
    have hb12 := hb1.trans (hb2.mono hb1.size)
    have hfin : Hid (∀ wq, Fr S u2 wq → Below w.heap.size w wq) := Lib.hid fun wq hf => hb12.trans (hf.below (fun b hb => Nat.le_trans hb1.size (hlo.out b hb)) hb12.size)
    have HLn := Lib.hid hLn
    clear hLn hSe hR hb2 hb12
    go_wp2_with fail
    (with_reducible refine (toFree_any HLn.out hgl h40 (Nat.le_refl m) (by omega) hhi.out).mono ?_)
    rintro e u3 ⟨hf3, ⟨hrn, k, rfl⟩ | ⟨k, Y, gs', hrn, rfl, hkm, hg3, hL3⟩⟩
    · have hff := Lib.hid (hfin.out _ hf3)
      have hres := Lib.hid hrn
      clear hf3 hrn HLn hfin
      go_wp2_with fail
      go_ret2
      exact ⟨hff.out, .inr (.inl ⟨HS.out, hres.out, rfl⟩)⟩
    · have hff := Lib.hid (hfin.out _ hf3)
      have hres := Lib.hid hrn
      by_cases hkl : k < m
      · clear hf3 hrn HLn hfin hL3
        go_wp2_with fail
        go_ret2
        exact ⟨hff.out, .inr (.inr (.inl ⟨HS.out, ⟨k, Y, hres.out, hkl⟩, rfl⟩))⟩
      · have : k = m := by omega
        subst this
        have HL3 := Lib.hid hL3
        have HG3 := Lib.hid hg3
        clear hf3 hrn HLn hfin hL3 hg3
        go_wp2_with (at_make; refine makeF rfl (.tmp 29) (.tmp 29) rfl k _ _ rfl rfl rfl rfl (by omega) ?_; intro u4 cur hk4 hc4 hb4 hs4)
        have hst : SvI (fun b => S b ∨ u3.heap.size ≤ b) w u4 L k u3.heap.size gs' Y (fun j => (Y.getD j []).getD k 0) (List.replicate k fnil) 0 :=
          ⟨HL3.out.up.below hb4, HG3.out, List.length_replicate, ⟨cur, hk4, hc4⟩, fun j hj => by omega, .inr (Nat.le_refl _), by have := HL3.out.blk.lt; omega,
            fun j hj => by
              obtain ⟨fs, _, h2⟩ := HL3.out.line j (by rw [HG3.out]; exact hj)
              have := h2.lt
              omega, hff.out.trans (hb4.mono hff.out.size), hff.out.size⟩
        have HST := Lib.hid hst
        obtain ⟨gx, hgx⟩ : ∃ g, u3.heap.size = g := ⟨_, rfl⟩
        obtain ⟨S', hS'⟩ : ∃ S' : Nat → Prop, (fun b => S b ∨ u3.heap.size ≤ b) = S' := ⟨_, rfl⟩
        rw [hS', hgx] at HST
        rw [hgx]
        clear hst hk4 hc4 hb4 hs4 HL3 hS' hgx
        go_loopw [33] (fun iv wr => ∃ (i : Nat) (fx : List Fc), i ≤ k ∧ iv = .int .i64 i ∧ Hid (SvI S' w wr L k gx gs' Y (fun j => (Y.getD j []).getD k 0) fx i)) (fun iv _ => k - (intOf iv).toNat)
        case atStart => exact ⟨0, _, Nat.zero_le _, rfl, HST⟩
        case round =>
          obtain ⟨i, fx, hi, rfl, hI⟩ := hrel
          clear HST
          by_cases hgo : i < k
          · have l1 := hI.out.LL.cell (k := i) (by rw [hI.out.len]; exact hgo)
            have hLl := hI.out.LL.blk.lt
            obtain ⟨fs, hfs, hLn⟩ := hI.out.LL.line i (by rw [hI.out.len]; exact hgo)
            obtain ⟨c0, c1, c2, c3, hx⟩ := hLn.cells (k := k) (by omega)
            obtain ⟨V, hV, hnx⟩ := hI.out.next hgo hx
            obtain ⟨cur5, hbk, hck⟩ := hI.out.blk
            obtain ⟨d0, d1, d2, d3⟩ := hck i (by rw [hI.out.fl]; exact hgo)
            rw [← hbk.cell] at d0 d1 d2 d3
            have z0 := hbk.frozen (i * 4)
            have z1 := hbk.frozen (i * 4 + 1)
            have z2 := hbk.frozen (i * 4 + 2)
            have z3 := hbk.frozen (i * 4 + 3)
            have hgl := hbk.lt
            have hgl2 := hLn.lt
            obtain ⟨p, hp⟩ : ∃ p, gs'.getD i (0, 0) = p := ⟨_, rfl⟩
            rw [hp] at l1 c0 c1 c2 c3 hgl2
            obtain ⟨gp, ep⟩ := p
            obtain ⟨a, ha⟩ : ∃ a, fs.getD k fnil = a := ⟨_, rfl⟩
            rw [ha] at c0 c1 c2 c3 hV hnx
            obtain ⟨s1, A1, n1, e1, s2, A2, n2, e2⟩ := a
            obtain ⟨b, hb⟩ : ∃ a, fx.getD i fnil = a := ⟨_, rfl⟩
            rw [hb] at d0 d1 d2 d3
            obtain ⟨t1, B1, m1, i1, t2, B2, m2, i2⟩ := b
            simp only at l1 c0 c1 c2 c3 d0 d1 d2 d3 hV hgl2
            have hnx' := Lib.hid hnx
            clear hnx hx hLn hI hbk hck hp ha hb hfs
            go_wp2_with fail
            rw [← hV]
            go_roundw
            case rel => exact ⟨i + 1, _, by omega, rfl, hnx'⟩
            case measure => simp [intOf]; omega
          · have : i = k := by omega
            subst this
            have hbl := Lib.hid hI.out.bl
            have hfx := Lib.hid (And.intro hI.out.lo (And.intro hI.out.fl (And.intro hI.out.blk hI.out.q)))
            clear hI
            go_wp2_with fail
            go_ret2
            exact ⟨hbl.out, .inr (.inr (.inr ⟨HS.out, Y, gx, fx, S', hres.out, rfl, hfx.out.1, hfx.out.2.1, hfx.out.2.2.1, hfx.out.2.2.2⟩))⟩
  · (with_reducible refine (lright_any w HD.out HM.out hmm false ⟨fun h => (by cases h), fun h => absurd h hs⟩).mono ?_)
    rintro e u1 ⟨rfl, hb1⟩
    have HS := Lib.hid hs; clear hs
    go_wp2_with fail
    go_ret2
    exact ⟨hb1, .inl ⟨HS.out, rfl⟩⟩

end Go.Proofs.YtgpmmpajnfbecaaGreat
