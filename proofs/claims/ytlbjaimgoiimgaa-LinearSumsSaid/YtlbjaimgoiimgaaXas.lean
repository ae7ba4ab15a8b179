/- The elimination's step, plain; lines are exchanged, one line is written. Walk of eliminate. Walk of toFree. Fractions and rows as they came in, right or not; walks of isList, Right. Rows as they came in; walk of Right. append of fractions; slices.Clone of fractions. -/
import Derived.Test.YtlbjaimgoiimgaaXar
import Derived.Lib.SliceRun
import Derived.Lib.Walk
import Derived.Lib.BufferWrite
import Derived.Maps.AppendAt
import Derived.Laws.OwnMore

namespace Go.Proofs.Ytlbjaimgoiimgaa
open Go.RowKit

/-- F on every line, with its place, until one fails. -/
def mapR (F : Nat → List Rat → Option (List Rat)) : Nat → List (List Rat) → Option (List (List Rat))
  | _, [] => some []
  | i, x :: xs => (F i x).bind fun q => (mapR F (i + 1) xs).map (q :: ·)
structure PartR (F : Nat → List Rat → Option (List Rat)) (xs ys : List (List Rat)) (i : Nat) : Prop where
  len : ys.length = i
  le : i ≤ xs.length
  rest : mapR F 0 xs = (mapR F i (xs.drop i)).map (ys ++ ·)
theorem PartR.start (F : Nat → List Rat → Option (List Rat)) (xs : List (List Rat)) : PartR F xs [] 0 := ⟨rfl, Nat.zero_le _, by simp⟩
theorem dropR {xs : List (List Rat)} {i : Nat} (h : i < xs.length) : xs.drop i = xs.getD i [] :: xs.drop (i + 1) := by
  rw [List.drop_eq_getElem_cons h, List.getD_eq_getElem?_getD, List.getElem?_eq_getElem h]; rfl
theorem PartR.step {F : Nat → List Rat → Option (List Rat)} {xs ys : List (List Rat)} {i : Nat} (h : PartR F xs ys i) (hi : i < xs.length) {q : List Rat} (hq : F i (xs.getD i []) = some q) : PartR F xs (ys ++ [q]) (i + 1) := by
  refine ⟨by simp [h.len], by omega, ?_⟩
  rw [h.rest, dropR hi, mapR, hq]
  cases mapR F (i + 1) (xs.drop (i + 1)) with
  | none => rfl
  | some a => simp
theorem PartR.fail {F : Nat → List Rat → Option (List Rat)} {xs ys : List (List Rat)} {i : Nat} (h : PartR F xs ys i) (hi : i < xs.length) (hq : F i (xs.getD i []) = none) : mapR F 0 xs = none := by
  rw [h.rest, dropR hi, mapR, hq]
  rfl
theorem PartR.done {F : Nat → List Rat → Option (List Rat)} {xs ys : List (List Rat)} (h : PartR F xs ys xs.length) : mapR F 0 xs = some ys := by
  rw [h.rest, List.drop_length, mapR]
  simp
theorem PartR.now {F : Nat → List Rat → Option (List Rat)} {xs ys : List (List Rat)} {i : Nat} (h : PartR F xs ys i) : (ys ++ xs.drop i).getD i [] = xs.getD i [] := by
  rw [List.getD_eq_getElem?_getD, List.getElem?_append_right (by rw [h.len]; exact Nat.le_refl _), h.len, Nat.sub_self, List.getElem?_drop, Nat.add_zero, List.getD_eq_getElem?_getD]
theorem PartR.set_ {F : Nat → List Rat → Option (List Rat)} {xs ys : List (List Rat)} {i : Nat} (h : PartR F xs ys i) (hi : i < xs.length) (q : List Rat) : (ys ++ xs.drop i).set i q = (ys ++ [q]) ++ xs.drop (i + 1) := by
  rw [List.set_append_right _ _ (by rw [h.len]; exact Nat.le_refl _), h.len, Nat.sub_self, dropR hi, List.set_cons_zero]
  simp
theorem PartR.keep {xs ys : List (List Rat)} {i : Nat} (hi : i < xs.length) : (ys ++ [xs.getD i []]) ++ xs.drop (i + 1) = ys ++ xs.drop i := by
  rw [dropR hi]
  simp

/-- The first line from r on that has not 0 in the column c. -/
def firstNZ (X : List (List Rat)) (c : Nat) : Nat → Nat → Option Nat
  | _, 0 => none
  | r, m + 1 => if (X.getD r []).getD c 0 = 0 then firstNZ X c (r + 1) m else some r
theorem firstNZ_none {X : List (List Rat)} {c r m : Nat} (h : ∀ j, j < m → (X.getD (r + j) []).getD c 0 = 0) : firstNZ X c r m = none := by
  induction m generalizing r with
  | zero => rfl
  | succ m ih =>
    rw [firstNZ, if_pos (by simpa using h 0 (by omega))]
    exact ih fun j hj => by
      have := h (j + 1) (by omega)
      rwa [show r + (j + 1) = r + 1 + j by omega] at this
theorem firstNZ_some {X : List (List Rat)} {c r m j : Nat} (hj : j < m) (h : (X.getD (r + j) []).getD c 0 ≠ 0) (h0 : ∀ i, i < j → (X.getD (r + i) []).getD c 0 = 0) : firstNZ X c r m = some (r + j) := by
  induction j generalizing r m with
  | zero =>
    obtain ⟨m, rfl⟩ : ∃ k, m = k + 1 := ⟨m - 1, by omega⟩
    rw [firstNZ, if_neg (by simpa using h)]
    rfl
  | succ j ih =>
    obtain ⟨m, rfl⟩ : ∃ k, m = k + 1 := ⟨m - 1, by omega⟩
    rw [firstNZ, if_pos (by simpa using h0 0 (by omega)), ih (r := r + 1) (m := m) (by omega) (by rw [show r + 1 + j = r + (j + 1) by omega]; exact h) (fun i hi => by
      have := h0 (i + 1) (by omega)
      rwa [show r + (i + 1) = r + 1 + i by omega] at this)]
    congr 1
    omega
def swapR {α : Type} (d : α) (X : List α) (r j : Nat) : List α := (X.set r (X.getD j d)).set j (X.getD r d)
theorem swapR_length {α : Type} (d : α) (X : List α) (r j : Nat) : (swapR d X r j).length = X.length := by simp [swapR]
/-- The place where a line came from. -/
def place (r j k : Nat) : Nat := if k = j then r else if k = r then j else k
theorem swapR_getD {α : Type} (d : α) (X : List α) {r j k : Nat} (hr : r < X.length) (hj : j < X.length) : (swapR d X r j).getD k d = X.getD (place r j k) d := by
  unfold swapR place
  by_cases h1 : k = j
  · subst h1
    rw [if_pos rfl, getD_set_self (by simp; exact hj)]
  · rw [if_neg h1, getD_set_ne (Ne.symm h1)]
    by_cases h2 : k = r
    · subst h2
      rw [if_pos rfl, getD_set_self hr]
    · rw [if_neg h2, getD_set_ne (Ne.symm h2)]
theorem place_lt {r j k n : Nat} (hr : r < n) (hj : j < n) (hk : k < n) : place r j k < n := by
  unfold place
  split
  · exact hr
  · split
    · exact hj
    · exact hk
theorem place_one {r j k l : Nat} (h : place r j k = place r j l) : k = l := by
  unfold place at h
  split at h <;> split at h <;> (try split at h) <;> (try split at h) <;> omega
/-- What a line becomes under the pivot's line p. -/
def redG (p : List Rat) (r c : Nat) (i : Nat) (x : List Rat) : Option (List Rat) := if i = r ∨ x.getD c 0 = 0 then some x else subL (x.getD c 0) p x
/-- The step of the elimination for the column c, before which r pivots were found. -/
def elimS (X : List (List Rat)) (r c : Nat) : Option (Bool × List (List Rat)) :=
  match firstNZ X c r (X.length - r) with
  | none => some (false, X)
  | some j => (divL (((swapR [] X r j).getD r []).getD c 0) ((swapR [] X r j).getD r [])).bind fun p =>
      (mapR (redG p r c) 0 ((swapR [] X r j).set r p)).map fun Y => (true, Y)

section
variable {S : Nat → Prop} {w w' : World} {L n : Nat} {gs : List (Nat × Nat)} {X : List (List Rat)}
theorem Lines.put (h : Lines S w L n gs X) {k : Nat} (hk : k < gs.length) {fs : List Fc} {ys : List Rat} (hf : Fr (· = (gs.getD k (0, 0)).1) w w') (hfs : fs.length = n) (hL : Line S w' (gs.getD k (0, 0)).1 fs ys) : Lines S w' L n gs (X.set k ys) := by
  have hfS : Fr S w w' := hf.more (fun b hb => by subst hb; exact hL.1)
  refine ⟨h.top, by rw [List.length_set]; exact h.len, ?_, ?_, h.one, h.far⟩
  · exact h.blk.fr hf (fun e => h.far k hk e.symm)
  · intro j hj
    by_cases hjk : k = j
    · subst hjk
      rw [getD_set_self (by rw [← h.len]; exact hk)]
      exact ⟨fs, hfs, hL⟩
    · rw [getD_set_ne hjk]
      obtain ⟨fs', h1, h2⟩ := h.line j hj
      exact ⟨fs', h1, h2.far hfS (hf.2.2.2.2 _ h2.lt (h.one j k hj hk (Ne.symm hjk)))⟩
theorem Lines.swap (h : Lines S w L n gs X) {r j : Nat} (hr : r < gs.length) (hj : j < gs.length) :
    ∃ V, V = (w.setCell ⟨L, r, none⟩ (.slice (some ⟨(gs.getD j (0, 0)).1, 0, none⟩) n (gs.getD j (0, 0)).2)).setCell ⟨L, j, none⟩ (.slice (some ⟨(gs.getD r (0, 0)).1, 0, none⟩) n (gs.getD r (0, 0)).2) ∧
      Lines S V L n (swapR (0, 0) gs r j) (swapR [] X r j) ∧ Fr S w V := by
  have hfar : ∀ b, b ≠ L → ((w.setCell ⟨L, r, none⟩ (.slice (some ⟨(gs.getD j (0, 0)).1, 0, none⟩) n (gs.getD j (0, 0)).2)).setCell ⟨L, j, none⟩ (.slice (some ⟨(gs.getD r (0, 0)).1, 0, none⟩) n (gs.getD r (0, 0)).2)).heap[b]? = w.heap[b]? := fun b hne =>
    (Below.heap_setCell _ _ _ b hne).trans (Below.heap_setCell _ _ _ b hne)
  have hfr : Fr S w ((w.setCell ⟨L, r, none⟩ (.slice (some ⟨(gs.getD j (0, 0)).1, 0, none⟩) n (gs.getD j (0, 0)).2)).setCell ⟨L, j, none⟩ (.slice (some ⟨(gs.getD r (0, 0)).1, 0, none⟩) n (gs.getD r (0, 0)).2)) :=
    ⟨by simp [World.setCell], by simp [World.setCell], by simp [World.setCell], by simp, fun b _ hn => hfar b (fun e => hn (e ▸ h.top))⟩
  refine ⟨_, rfl, ⟨h.top, by rw [swapR_length, swapR_length]; exact h.len, ?_, ?_, ?_, ?_⟩, hfr⟩
  · have hb := (h.blk.set_ r (lcell n (gs.getD j (0, 0)))).set_ j (lcell n (gs.getD r (0, 0)))
    have e : (((gs.map (lcell n)).toArray.setIfInBounds r (lcell n (gs.getD j (0, 0)))).setIfInBounds j (lcell n (gs.getD r (0, 0)))) = ((swapR (0, 0) gs r j).map (lcell n)).toArray := by
      unfold swapR
      simp [List.map_set]
    rw [e] at hb
    exact hb
  · intro k hk
    rw [swapR_length] at hk
    rw [swapR_getD _ _ hr hj, swapR_getD _ _ (by rw [← h.len]; exact hr) (by rw [← h.len]; exact hj)]
    obtain ⟨fs', h1, h2⟩ := h.line _ (place_lt hr hj hk)
    exact ⟨fs', h1, h2.far hfr (hfar _ (h.far _ (place_lt hr hj hk)))⟩
  · intro a b ha hb hab
    rw [swapR_length] at ha hb
    rw [swapR_getD _ _ hr hj, swapR_getD _ _ hr hj]
    exact h.one _ _ (place_lt hr hj ha) (place_lt hr hj hb) (fun e => hab (place_one e))
  · intro k hk
    rw [swapR_length] at hk
    rw [swapR_getD _ _ hr hj]
    exact h.far _ (place_lt hr hj hk)
end

end Go.Proofs.Ytlbjaimgoiimgaa

namespace Go.Proofs.Ytlbjaimgoiimgaa
open Go.RowKit

/-- What the loop over the lines has, at the place i. -/
structure RedI (S : Nat → Prop) (w wr : World) (L N G r c : Nat) (gs : List (Nat × Nat)) (p : List Rat) (X Y : List (List Rat)) (i : Nat) : Prop where
  L : Lines S wr L (N + 1) gs (Y ++ X.drop i)
  P : PartR (redG p r c) X Y i
  fr : Fr S w wr
  kc : Blk wr G 3 #[.int .i64 c]
  pv : (Y ++ X.drop i).getD r [] = p
section
variable {S : Nat → Prop} {w wr wq : World} {L N G r c i : Nat} {gs : List (Nat × Nat)} {p : List Rat} {X Y : List (List Rat)}
theorem RedI.below (h : RedI S w wr L N G r c gs p X Y i) (hb : Below wr.heap.size wr wq) : RedI S w wq L N G r c gs p X Y i :=
  ⟨h.L.below hb, h.P, h.fr.tr (Fr.of_below hb), h.kc.below hb h.kc.lt, h.pv⟩
theorem RedI.skip (h : RedI S w wr L N G r c gs p X Y i) (hi : i < X.length) (hz : i = r ∨ (X.getD i []).getD c 0 = 0) : RedI S w wr L N G r c gs p X (Y ++ [X.getD i []]) (i + 1) :=
  ⟨by rw [PartR.keep hi]; exact h.L, h.P.step hi (by unfold redG; rw [if_pos hz]), h.fr, h.kc, by rw [PartR.keep hi]; exact h.pv⟩
theorem RedI.put (h : RedI S w wr L N G r c gs p X Y i) (hi : i < X.length) (hir : i ≠ r) (hg : gs.length = X.length) (hn : (X.getD i []).getD c 0 ≠ 0) (hGS : ¬ S G) {fs : List Fc} {ys : List Rat} (hf : Fr (· = (gs.getD i (0, 0)).1) wr wq) (hfs : fs.length = N + 1) (hL : Line S wq (gs.getD i (0, 0)).1 fs ys)
    (hs : subL ((X.getD i []).getD c 0) p (X.getD i []) = some ys) : RedI S w wq L N G r c gs p X (Y ++ [ys]) (i + 1) := by
  have hfS : Fr S wr wq := hf.more (fun b hb => by subst hb; exact hL.1)
  refine ⟨?_, h.P.step hi (by unfold redG; rw [if_neg (by rintro (e | e); exact hir e; exact hn e)]; exact hs), h.fr.tr hfS, h.kc.fr hfS hGS, ?_⟩
  · rw [← h.P.set_ hi]
    exact h.L.put (by rw [hg]; exact hi) hf hfs hL
  · rw [← h.P.set_ hi, getD_set_ne hir]
    exact h.pv
theorem RedI.fail (h : RedI S w wr L N G r c gs p X Y i) (hi : i < X.length) (hir : i ≠ r) (hn : (X.getD i []).getD c 0 ≠ 0) (hs : subL ((X.getD i []).getD c 0) p (X.getD i []) = none) : mapR (redG p r c) 0 X = none :=
  h.P.fail hi (by unfold redG; rw [if_neg (by rintro (e | e); exact hir e; exact hn e)]; exact hs)
end
theorem place_self (r q : Nat) : place r q r = q := by
  unfold place
  split
  · assumption
  · rw [if_pos rfl]

set_option maxRecDepth 100000 in
set_option maxHeartbeats 16000000 in
theorem elim_any {S : Nat → Prop} {w : World} {L n N cap r c : Nat} {gs : List (Nat × Nat)} {X : List (List Rat)} (hX : Lines S w L n gs X) (hN : gs.length = N) (hn : n = N + 1) (hNm : N ≤ 40) (hcap : N ≤ cap) (hcm : cap ≤ 1000) (hr : r ≤ c) (hc : c < N) (hS : ∀ b, S b → b < w.heap.size) :
    Calls Try.prog 40 #[.slice (some ⟨L, 0, none⟩) N cap, .int .i64 r, .int .i64 c] w fun e w' => Fr S w w' ∧
      ((elimS X r c = none ∧ e = .returned (.tuple #[.bool false, .int .i64 6])) ∨ (∃ b Y gs', elimS X r c = some (b, Y) ∧ e = .returned (.tuple #[.bool b, .int .i64 0]) ∧ gs'.length = N ∧ Lines S w' L n gs' Y)) := by
  have hmf : ∀ (fn : Fn) (first cap : Array Value) (w : World), (Instr.makeFunc fn first cap).run Try.prog w = .ok (.func fn first cap) w := fun _ _ _ _ => rfl
  have HS := Lib.hid hS; clear hS
  subst hn
  have HX := Lib.hid hX; clear hX
  have HN := Lib.hid hN; clear hN
  have HXl := Lib.hid HX.out.len
  go_enter Try.func40, Try.ntmps40
  go_wp2_with fail
  have hb0 : Below w.heap.size w (w.alloc (.cells #[.int .i64 c] 3)) := (Below.refl _ _).alloc (Nat.le_refl _) _
  have kc := Blk.new w 3 #[.int .i64 c]
  have HX0 := Lib.hid (HX.out.below hb0)
  obtain ⟨G, hGe⟩ : ∃ G, w.heap.size = G := ⟨_, rfl⟩
  rw [hGe] at kc ⊢
  have hsG : ∀ b, S b → b < G := by rw [← hGe]; exact HS.out
  have HSG := Lib.hid hsG; clear hsG
  have hf0 : Fr S w (w.alloc (.cells #[.int .i64 c] 3)) := Fr.of_below hb0
  generalize w.alloc (.cells #[.int .i64 c] 3) = W at *
  clear hb0 hGe HX
  have c0 := kc.cell 0
  simp at c0
  (with_reducible refine (indexFunc_any (m := N - r) HX0.out HN.out (by omega) (by omega) (by omega) c0 kc.lt).mono ?_)
  rintro e w1 ⟨hb1, ⟨rfl, hz⟩ | ⟨j, rfl, hj, hne, hz⟩⟩
  · have hes : elimS X r c = some (false, X) := by
      unfold elimS
      rw [← HX0.out.len, HN.out, firstNZ_none hz]
    have HES := Lib.hid hes
    have hX1 := Lib.hid (HX0.out.below hb1)
    clear hz hes c0 kc
    have hlt : decide (((r : Int) + -1) < (r : Int)) = true := by rw [decide_eq_true_eq]; omega
    go_wp2_with fail
    go_ret2
    exact ⟨hf0.tr (Fr.of_below hb1), .inr ⟨false, X, gs, HES.out, rfl, HN.out, hX1.out⟩⟩
  · have hfn := firstNZ_some hj hne hz
    obtain ⟨q, hq⟩ : ∃ q, r + j = q := ⟨_, rfl⟩
    rw [hq] at hfn
    have hqe : (r : Int) + (j : Int) = (q : Int) := by omega
    have hqN : q < N := by omega
    have hrq : r ≤ q := by omega
    have HNE := Lib.hid (hq ▸ hne)
    have HFN := Lib.hid hfn
    clear hq hne hfn hz
    have hX1 := Lib.hid (HX0.out.below hb1)
    have kc1 := kc.below hb1 kc.lt
    have hf1 := hf0.tr (Fr.of_below hb1)
    clear hf0 kc c0 HX0
    obtain ⟨V, hV, hXV, hFV⟩ := hX1.out.swap (r := r) (j := q) (by rw [HN.out]; omega) (by rw [HN.out]; omega)
    have l1 := hX1.out.cell (k := r) (by rw [HN.out]; omega)
    have l2 := hX1.out.cell (k := q) (by rw [HN.out]; omega)
    have z1 := hX1.out.blk.frozen r
    have z2 := hX1.out.blk.frozen q
    have hGL : G ≠ L := by have := HSG.out L hX1.out.top; omega
    have kcV := kc1.fr hFV (fun hs => by have := HSG.out G hs; omega)
    obtain ⟨p1, hp1⟩ : ∃ p, gs.getD r (0, 0) = p := ⟨_, rfl⟩
    obtain ⟨p2, hp2⟩ : ∃ p, gs.getD q (0, 0) = p := ⟨_, rfl⟩
    rw [hp1] at l1 hV
    rw [hp2] at l2 hV
    obtain ⟨g1, e1⟩ := p1
    obtain ⟨g2, e2⟩ := p2
    simp only at l1 l2 hV
    have HXV := Lib.hid hXV; clear hXV
    have HF := Lib.hid (hf1.tr hFV)
    have HKV := Lib.hid kcV
    clear hp1 hp2 hf1 kc1 hFV kcV
    have hrN : r < N := by omega
    have kb := hX1.out.blk.set_ r (.slice (some ⟨g2, 0, none⟩) (N + 1) e2)
    have z3 := kb.frozen q
    obtain ⟨u, l3⟩ : ∃ u, (w1.setCell ⟨L, r, none⟩ (.slice (some ⟨g2, 0, none⟩) (N + 1) e2)).cell? ⟨L, q, none⟩ = some u := by
      rw [kb.cell q]
      exact ⟨_, Array.getElem?_eq_getElem (by simp [HN.out]; exact hqN)⟩
    clear kb
    have hge : decide ((q : Int) < (r : Int)) = false := by rw [decide_eq_false_iff_not]; omega
    go_upto_region 4 with fail
    go_region
    rw [← hV]
    clear hV l1 l2 l3 z1 z2 z3 hX1 hmf
    have hbd : Below V.heap.size V V.drew := (Below.refl _ _).drew
    have HX1 := Lib.hid (HXV.out.below hbd)
    have HF1 := Lib.hid (HF.out.tr (Fr.of_below hbd))
    have k1 := HKV.out.below hbd HKV.out.lt
    clear HXV HF HKV
    generalize V.drew = V1 at *
    clear hbd
    obtain ⟨gs1, hgs1⟩ : ∃ g, swapR (0, 0) gs r q = g := ⟨_, rfl⟩
    obtain ⟨X1, hX1e⟩ : ∃ Y, swapR [] X r q = Y := ⟨_, rfl⟩
    have hXl : X.length = N := by rw [← HXl.out]; exact HN.out
    have hg1 : gs1.length = N := by rw [← hgs1, swapR_length]; exact HN.out
    have hX1l : X1.length = N := by rw [← hX1e, swapR_length]; exact hXl
    have hpc : (X1.getD r []).getD c 0 ≠ 0 := by
      rw [← hX1e, swapR_getD _ _ (by omega) (by omega), place_self]
      exact HNE.out
    have hel : Hid (elimS X r c = (divL ((X1.getD r []).getD c 0) (X1.getD r [])).bind fun p => (mapR (redG p r c) 0 (X1.set r p)).map fun Y => (true, Y)) := Lib.hid (by
      unfold elimS
      rw [hXl, HFN.out]
      simp only [hX1e])
    rw [hgs1, hX1e] at HX1
    have HG1 := Lib.hid hg1; clear hg1
    have HX1l := Lib.hid hX1l; clear hX1l
    have HPC := Lib.hid hpc; clear hpc
    clear hgs1 hX1e hXl HNE HFN
    have l1 := HX1.out.cell (k := r) (by rw [HG1.out]; omega)
    obtain ⟨fs, hfs, hLn⟩ := HX1.out.line r (by rw [HG1.out]; omega)
    have HLn := Lib.hid hLn; clear hLn
    obtain ⟨pr, hpr⟩ : ∃ p, gs1.getD r (0, 0) = p := ⟨_, rfl⟩
    have hSg := HX1.out.far r (by rw [HG1.out]; omega)
    rw [hpr] at l1 HLn hSg
    have HPR := Lib.hid hpr; clear hpr
    obtain ⟨gp, ep⟩ := pr
    simp only at l1 HLn hSg
    have q0 := k1.cell 0
    simp at q0
    obtain ⟨c0, c1, c2, c3, hx⟩ := HLn.out.cells (k := c) (by omega)
    obtain ⟨a, hae⟩ : ∃ a, fs.getD c fnil = a := ⟨_, rfl⟩
    rw [hae] at c0 c1 c2 c3 hx
    clear hae
    obtain ⟨s1, A1, n1, d1, s2, A2, n2, d2⟩ := a
    simp only at c0 c1 c2 c3
    go_wp2_with fail
    clear l1 q0 c0 c1 c2 c3
    have hSV : ∀ b, S b → b < V1.heap.size := fun b hb => Nat.lt_trans (HSG.out b hb) k1.lt
    (with_reducible refine (ldivide_any HLn.out hfs (by omega) hx HPC.out hSV).mono ?_)
    rintro e w2 ⟨hf2, ⟨ys, fs2, hdv, rfl, hfs2, hL2⟩ | ⟨hdv, rfl⟩⟩
    · have hGS : ¬ S G := fun hs => by have := HSG.out G hs; omega
      have hfS : Fr S V1 w2 := hf2.more (fun b hb => by subst hb; exact HLn.out.1)
      have hst : RedI S w w2 L N G r c gs1 ys (X1.set r ys) [] 0 := ⟨by
          have h := HX1.out.put (k := r) (by rw [HG1.out]; omega) (by rw [HPR.out]; exact hf2) hfs2 (by rw [HPR.out]; exact hL2)
          simpa using h, PartR.start _ _, HF1.out.tr hfS, k1.fr hfS hGS, by
          rw [List.drop_zero, List.nil_append, getD_set_self (by rw [HX1l.out]; omega)]⟩
      have HST := Lib.hid hst; clear hst
      have HEL := Lib.hid (show elimS X r c = (mapR (redG ys r c) 0 (X1.set r ys)).map fun Y => (true, Y) by rw [hel.out, hdv]; rfl)
      have HGS := Lib.hid hGS; clear hGS
      obtain ⟨X2, hX2⟩ : ∃ Y, X1.set r ys = Y := ⟨_, rfl⟩
      have HX2l := Lib.hid (show X2.length = N by rw [← hX2, List.length_set]; exact HX1l.out)
      rw [hX2] at HST HEL
      clear hdv hf2 hfS hx HLn HX1 HF1 k1 hL2 hX2 hel HPC HX1l
      go_wp2_with fail
      go_loopw [53] (fun iv wr => ∃ (i : Nat) (Y : List (List Rat)), i ≤ N ∧ iv = .int .i64 i ∧ Hid (RedI S w wr L N G r c gs1 ys X2 Y i)) (fun iv _ => N - (intOf iv).toNat)
      case atStart => exact ⟨0, [], Nat.zero_le _, rfl, HST⟩
      case round =>
        obtain ⟨i, Y, hi, rfl, hI⟩ := hrel
        clear HST
        by_cases hgo : i < N
        · have l1 := hI.out.L.cell (k := i) (by rw [HG1.out]; omega)
          have hlt := hI.out.L.blk.lt
          obtain ⟨fs3, hfs3, hLn⟩ := hI.out.L.line i (by rw [HG1.out]; omega)
          rw [hI.out.P.now] at hLn
          have HLn := Lib.hid hLn; clear hLn
          have hne1 := Lib.hid (fun (h : i ≠ r) => hI.out.L.one r i (by rw [HG1.out]; omega) (by rw [HG1.out]; omega) (Ne.symm h))
          obtain ⟨fs4, hfs4, hL4⟩ := hI.out.L.line r (by rw [HG1.out]; omega)
          rw [hI.out.pv] at hL4
          have HL4 := Lib.hid hL4; clear hL4
          obtain ⟨pi, hpi⟩ : ∃ p, gs1.getD i (0, 0) = p := ⟨_, rfl⟩
          rw [hpi] at l1 HLn hne1
          rw [HPR.out] at hne1 HL4
          have HPI := Lib.hid hpi; clear hpi
          obtain ⟨gi, ei⟩ := pi
          simp only at l1 HLn hne1 HL4
          by_cases hir : i = r
          · subst hir
            have hI1 := Lib.hid (hI.out.skip (by rw [HX2l.out]; exact hgo) (.inl rfl))
            clear HLn hne1 HL4 hI
            have heq : ((i : Int) == (i : Int)) = true := by simp
            go_wp2_with fail
            go_roundw
            case rel => exact ⟨i + 1, _, by omega, rfl, hI1⟩
            case measure => simp [intOf]; omega
          · have heq : ((i : Int) == (r : Int)) = false := by rw [beq_eq_false_iff_ne]; omega
            have q0 := hI.out.kc.cell 0
            simp at q0
            obtain ⟨c0, c1, c2, c3, hx⟩ := HLn.out.cells (k := c) (by omega)
            obtain ⟨a, hae⟩ : ∃ a, fs3.getD c fnil = a := ⟨_, rfl⟩
            rw [hae] at c0 c1 c2 c3 hx
            clear hae
            obtain ⟨s1, A1, n1, d1, s2, A2, n2, d2⟩ := a
            simp only at c0 c1 c2 c3
            go_wp2_with fail
            clear l1 q0 c0 c1 c2 c3
            cases hbv : decide ((X2.getD i []).getD c 0 = 0) with
            | true =>
              (with_reducible refine (isZero_any hx true hbv).mono ?_)
              rintro e u1 ⟨rfl, hb1⟩
              have hI1 := Lib.hid ((hI.out.below hb1).skip (by rw [HX2l.out]; exact hgo) (.inr (of_decide_eq_true hbv)))
              clear HLn hne1 HL4 hI hx hbv
              go_wp2_with fail
              go_roundw
              case rel => exact ⟨i + 1, _, by omega, rfl, hI1⟩
              case measure => simp [intOf]; omega
            | false =>
              (with_reducible refine (isZero_any hx false hbv).mono ?_)
              rintro e u1 ⟨rfl, hb1⟩
              have hI1 := Lib.hid (hI.out.below hb1)
              have hLi := Lib.hid (HLn.out.below hb1)
              have hLp := Lib.hid (HL4.out.below hb1)
              have hx1 := hx.below hb1
              have hnz := Lib.hid (of_decide_eq_false hbv)
              have hgg := hne1.out hir
              clear HLn HL4 hI hx hbv hne1
              have q0 := hI1.out.kc.cell 0
              simp at q0
              obtain ⟨c0, c1, c2, c3, _⟩ := hLi.out.cells (k := c) (by omega)
              obtain ⟨a, hae⟩ : ∃ a, fs3.getD c fnil = a := ⟨_, rfl⟩
              have hx2 := (hLi.out.cells (k := c) (by omega)).2.2.2.2
              rw [hae] at c0 c1 c2 c3 hx2
              clear hae hx1
              obtain ⟨s1, A1, n1, d1, s2, A2, n2, d2⟩ := a
              simp only at c0 c1 c2 c3
              go_wp2_with fail
              clear q0 c0 c1 c2 c3
              have hSu : ∀ b, S b → b < u1.heap.size := fun b hb => Nat.lt_trans (HSG.out b hb) hI1.out.kc.lt
              (with_reducible refine (lsubtract_any hLi.out hfs3 hLp.out hfs4 hgg (by omega) hx2 hSu).mono ?_)
              rintro e u2 ⟨hf3, ⟨ys3, fs5, hsb, rfl, hfs5, hL5⟩ | ⟨hsb, rfl⟩⟩
              · have hI2 := Lib.hid (hI1.out.put (by rw [HX2l.out]; exact hgo) hir (by rw [HG1.out, HX2l.out]) hnz.out HGS.out (by rw [HPI.out]; exact hf3) hfs5 (by rw [HPI.out]; exact hL5) hsb)
                clear hf3 hsb hL5 hx2 hLi hLp hI1
                go_wp2_with fail
                go_roundw
                case rel => exact ⟨i + 1, _, by omega, rfl, hI2⟩
                case measure => simp [intOf]; omega
              · have hes := Lib.hid (show elimS X r c = none by rw [HEL.out, hI1.out.fail (by rw [HX2l.out]; exact hgo) hir hnz.out hsb]; rfl)
                have hff := Lib.hid (hI1.out.fr.tr (hf3.more (fun b hb => by subst hb; exact hLi.out.1)))
                clear hf3 hsb hx2 hLi hLp hI1
                go_wp2_with fail
                go_ret2
                exact ⟨hff.out, .inl ⟨hes.out, rfl⟩⟩
        · have : i = N := by omega
          subst this
          have hd := Lib.hid (show mapR (redG ys r c) 0 X2 = some Y from (by have h := hI.out.P; rw [← HX2l.out] at h; exact h.done))
          have hes := Lib.hid (show elimS X r c = some (true, Y) by rw [HEL.out, hd.out]; rfl)
          have hLL := hI.out.L
          rw [← HX2l.out, List.drop_length, List.append_nil, HX2l.out] at hLL
          have HLL := Lib.hid hLL; clear hLL
          have hff := Lib.hid hI.out.fr
          clear hI
          go_wp2_with fail
          go_ret2
          exact ⟨hff.out, .inr ⟨true, Y, gs1, hes.out, rfl, HG1.out, HLL.out⟩⟩
    · have hes := Lib.hid (show elimS X r c = none by rw [hel.out, hdv]; rfl)
      have hff := Lib.hid (HF1.out.tr (hf2.more (fun b hb => by subst hb; exact HLn.out.1)))
      clear hdv hf2 hx HLn
      go_wp2_with fail
      go_ret2
      exact ⟨hff.out, .inl ⟨hes.out, rfl⟩⟩

end Go.Proofs.Ytlbjaimgoiimgaa

namespace Go.Proofs.Ytlbjaimgoiimgaa
open Go.RowKit

/-- The elimination from the column c on, m columns, up to the first free one: this column, and the lines. -/
def runFree : Nat → Nat → List (List Rat) → Option (Nat × List (List Rat))
  | 0, c, X => some (c, X)
  | m + 1, c, X => match elimS X c c with
    | none => none
    | some (false, Y) => some (c, Y)
    | some (true, Y) => runFree m (c + 1) Y
theorem runFree_fail {m c : Nat} {X : List (List Rat)} (h : elimS X c c = none) : runFree (m + 1) c X = none := by rw [runFree, h]
theorem runFree_free {m c : Nat} {X Y : List (List Rat)} (h : elimS X c c = some (false, Y)) : runFree (m + 1) c X = some (c, Y) := by rw [runFree, h]
theorem runFree_on {m c : Nat} {X Y : List (List Rat)} (h : elimS X c c = some (true, Y)) : runFree (m + 1) c X = runFree m (c + 1) Y := by rw [runFree, h]

/-- What the loop over the columns has. -/
structure ColI (S : Nat → Prop) (w wr : World) (L N : Nat) (gs : List (Nat × Nat)) (X Y : List (List Rat)) (c : Nat) : Prop where
  L : Lines S wr L (N + 1) gs Y
  len : gs.length = N
  run : runFree N 0 X = runFree (N - c) c Y
  fr : Fr S w wr

set_option maxRecDepth 100000 in
set_option maxHeartbeats 8000000 in
theorem toFree_any {S : Nat → Prop} {w : World} {L N cap : Nat} {gs : List (Nat × Nat)} {X : List (List Rat)} (hX : Lines S w L (N + 1) gs X) (hN : gs.length = N) (hNm : N ≤ 40) (hcap : N ≤ cap) (hcm : cap ≤ 1000) (hS : ∀ b, S b → b < w.heap.size) :
    Calls Try.prog 29 #[.slice (some ⟨L, 0, none⟩) N cap] w fun e w' => Fr S w w' ∧
      ((runFree N 0 X = none ∧ ∃ k : Int, e = .returned (.tuple #[.int .i64 k, .int .i64 6])) ∨ (∃ (k : Nat) (Y : List (List Rat)) (gs' : List (Nat × Nat)), runFree N 0 X = some (k, Y) ∧ e = .returned (.tuple #[.int .i64 k, .int .i64 0]) ∧ k ≤ N ∧ gs'.length = N ∧ Lines S w' L (N + 1) gs' Y)) := by
  have HS := Lib.hid hS; clear hS
  have HST := Lib.hid (show ColI S w w L N gs X X 0 from ⟨hX, hN, rfl, Fr.refl _ _⟩)
  clear hX hN
  go_enter Try.func29, Try.ntmps29
  go_wp2_with fail
  go_loopw [9] (fun iv wr => ∃ (c : Nat) (gs' : List (Nat × Nat)) (Y : List (List Rat)), c ≤ N ∧ iv = .int .i64 c ∧ Hid (ColI S w wr L N gs' X Y c)) (fun iv _ => N - (intOf iv).toNat)
  case atStart => exact ⟨0, gs, X, Nat.zero_le _, rfl, HST⟩
  case round =>
    obtain ⟨c, gs', Y, hc, rfl, hI⟩ := hrel
    clear HST
    by_cases hgo : c < N
    · have hSw : ∀ b, S b → b < wr.heap.size := fun b hb => Nat.lt_of_lt_of_le (HS.out b hb) hI.out.fr.size
      have hm : N - c = (N - (c + 1)) + 1 := by omega
      go_wp2_with fail
      (with_reducible refine (elim_any (n := N + 1) hI.out.L hI.out.len rfl hNm hcap hcm (Nat.le_refl c) hgo hSw).mono ?_)
      rintro e w1 ⟨hf, ⟨hel, rfl⟩ | ⟨b, Z, gs2, hel, rfl, hg2, hL2⟩⟩
      · have hres := Lib.hid (show runFree N 0 X = none by rw [hI.out.run, hm, runFree_fail hel])
        have hff := Lib.hid (hI.out.fr.tr hf)
        clear hI hel hf hSw hm
        go_wp2_with fail
        go_ret2
        exact ⟨hff.out, .inl ⟨hres.out, _, rfl⟩⟩
      · cases b with
        | true =>
          have hI2 := Lib.hid (show ColI S w w1 L N gs2 X Z (c + 1) from ⟨hL2, hg2, by rw [hI.out.run, hm, runFree_on hel], hI.out.fr.tr hf⟩)
          clear hI hel hf hSw hm hL2
          go_wp2_with fail
          go_roundw
          case rel => exact ⟨c + 1, _, _, by omega, rfl, hI2⟩
          case measure => simp [intOf]; omega
        | false =>
          have hres := Lib.hid (show runFree N 0 X = some (c, Z) by rw [hI.out.run, hm, runFree_free hel])
          have hff := Lib.hid (hI.out.fr.tr hf)
          have hLL := Lib.hid hL2
          clear hI hel hf hSw hm hL2
          go_wp2_with fail
          go_ret2
          exact ⟨hff.out, .inr ⟨c, Z, gs2, hres.out, rfl, by omega, hg2, hLL.out⟩⟩
    · have : c = N := by omega
      subst this
      have hres := Lib.hid (show runFree c 0 X = some (c, Y) by rw [hI.out.run, Nat.sub_self, runFree])
      have hff := Lib.hid hI.out.fr
      have hLL := Lib.hid hI.out.L
      have hg := Lib.hid hI.out.len
      clear hI
      go_wp2_with fail
      go_ret2
      exact ⟨hff.out, .inr ⟨c, Y, gs', hres.out, rfl, Nat.le_refl _, hg.out, hLL.out⟩⟩

end Go.Proofs.Ytlbjaimgoiimgaa

namespace Go.Proofs.Ytlbjaimgoiimgaa
open Go.RowKit

/-- What a fraction says that came in: two signs, two lists of digits. -/
structure Fd where
  s : Int
  l : List Int
  s' : Int
  l' : List Int
abbrev dnil : Fd := ⟨0, [], 0, []⟩
def Fd.R (d : Fd) : Prop := RF d.s d.l d.s' d.l'
/-- The number of a right one. -/
def Fd.q (d : Fd) : Rat := Rat.divInt (d.s * nv d.l) (d.s' * nv d.l')
structure FdIs (w : World) (f : Fc) (d : Fd) : Prop where
  e1 : f.s = d.s
  e2 : f.s' = d.s'
  a1 : Ar w f.s d.l f.A f.n f.c
  a2 : Ar w f.s' d.l' f.A' f.n' f.c'
theorem FdIs.below {w w' : World} {f : Fc} {d : Fd} (h : FdIs w f d) (hb : Below w.heap.size w w') : FdIs w' f d := ⟨h.e1, h.e2, h.a1.later hb, h.a2.later hb⟩
/-- A slice of such at address A. -/
def FdsAt (w : World) (A : Option Addr) (ds : List Fd) : Prop := ∀ k, k < ds.length → ∃ (b off : Nat) (f : Fc), A = some ⟨b, off, none⟩ ∧ b < w.heap.size ∧
  w.cell? ⟨b, off + k * 4, none⟩ = some (.int .i64 f.s) ∧ w.cell? ⟨b, off + k * 4 + 1, none⟩ = some (.slice f.A f.n f.c) ∧
  w.cell? ⟨b, off + k * 4 + 2, none⟩ = some (.int .i64 f.s') ∧ w.cell? ⟨b, off + k * 4 + 3, none⟩ = some (.slice f.A' f.n' f.c') ∧ FdIs w f (ds.getD k dnil)
theorem FdsAt.below {w w' : World} {A : Option Addr} {ds : List Fd} (h : FdsAt w A ds) (hb : Below w.heap.size w w') : FdsAt w' A ds := fun k hk => by
  obtain ⟨b, off, f, e, hB, h0, h1, h2, h3, h4⟩ := h k hk
  have hc : ∀ i, w'.cell? ⟨b, i, none⟩ = w.cell? ⟨b, i, none⟩ := fun i => hb.cell (p := ⟨b, i, none⟩) hB
  exact ⟨b, off, f, e, Nat.lt_of_lt_of_le hB hb.size, (hc _).trans h0, (hc _).trans h1, (hc _).trans h2, (hc _).trans h3, h4.below hb⟩

set_option maxRecDepth 100000 in
set_option maxHeartbeats 4000000 in
theorem isList_any {A : Option Addr} {m cap n : Nat} {ds : List Fd} (w : World) (h : FdsAt w A ds) (hm : ds.length = m) (hmm : m ≤ 1000000) (hnn : n ≤ 1000000) (b : Bool) (hb : b = true ↔ m = n ∧ ∀ k, k < m → (ds.getD k dnil).R) :
    Calls Try.prog 27 #[.slice A m cap, .int .i64 n] w fun e w' => e = .returned (.bool b) ∧ Below w.heap.size w w' := by
  have HB := Lib.hid hb; clear hb
  have HD := Lib.hid h; clear h
  have HM := Lib.hid hm; clear hm
  go_enter Try.func27, Try.ntmps27
  by_cases hmn : m = n
  · subst hmn
    go_wp2_with fail
    go_loopw [13] (fun iv wr => ∃ i : Nat, i ≤ m ∧ iv = .int .i64 i ∧ Below w.heap.size w wr ∧ Hid (∀ k, k < i → (ds.getD k dnil).R)) (fun iv _ => m - (intOf iv).toNat)
    case atStart => exact ⟨0, Nat.zero_le _, rfl, Below.refl _ _, Lib.hid fun k hk => by omega⟩
    case round =>
      obtain ⟨i, hi, rfl, hbl, hz⟩ := hrel
      by_cases hgo : i < m
      · obtain ⟨bb, off, f, hA, hBB, c0, c1, c2, c3, hf⟩ := (HD.out.below hbl) i (by rw [HM.out]; exact hgo)
        subst hA
        obtain ⟨s1, A1, n1, d1, s2, A2, n2, d2⟩ := f
        simp only at c0 c1 c2 c3
        have hbA : Below wr.heap.size wr (wr.alloc (.cells #[.int .i64 s1, .slice A1 n1 d1, .int .i64 s2, .slice A2 n2 d2] 40)) := (Below.refl _ _).alloc (Nat.le_refl _) _
        have hfA := hf.below hbA
        have hblA := hbl.trans (hbA.mono hbl.size)
        go_wp2_with fail
        clear c0 c1 c2 c3 hf hbA
        have a1 := hfA.a1
        have a2 := hfA.a2
        have e1 := hfA.e1
        have e2 := hfA.e2
        simp only at a1 a2 e1 e2
        by_cases hr : (ds.getD i dnil).R
        · have hr' : RF s1 (ds.getD i dnil).l s2 (ds.getD i dnil).l' := by rw [e1, e2]; exact hr
          (with_reducible refine (fright_any _ a1 a2 true ⟨fun _ => hr', fun _ => rfl⟩).mono ?_)
          rintro e u1 ⟨rfl, hb1⟩
          have hbb := hblA.trans (hb1.mono hblA.size)
          have HR := Lib.hid hr
          clear hfA a1 a2 e1 e2 hr hr'
          go_wp2_with fail
          go_roundw
          case rel => exact ⟨i + 1, by omega, rfl, hbb, Lib.hid fun k hk => by
            by_cases hki : k < i
            · exact hz.out k hki
            · have : k = i := by omega
              subst this
              exact HR.out⟩
          case measure => simp [intOf]; omega
        · have hr' : ¬ RF s1 (ds.getD i dnil).l s2 (ds.getD i dnil).l' := by rw [e1, e2]; exact hr
          (with_reducible refine (fright_any _ a1 a2 false ⟨fun h => (by cases h), fun h => absurd h hr'⟩).mono ?_)
          rintro e u1 ⟨rfl, hb1⟩
          have hbb := hblA.trans (hb1.mono hblA.size)
          have hbf : Hid (b = false) := Lib.hid (by
            cases hbv : b with
            | false => rfl
            | true => exact absurd ((HB.out.1 hbv).2 i hgo) hr)
          clear hfA a1 a2 e1 e2 hr hr'
          go_wp2_with fail
          go_ret
          exact ⟨by rw [hbf.out]; rfl, hbb⟩
      · have : i = m := by omega
        subst this
        have hbt : Hid (b = true) := Lib.hid (HB.out.2 ⟨by simp, hz.out⟩)
        go_wp2_with fail
        go_ret
        exact ⟨by rw [hbt.out]; rfl, hbl⟩
  · have hne : ((m : Int) != (n : Int)) = true := by simp; omega
    have hbf : Hid (b = false) := Lib.hid (by
      cases hbv : b with
      | false => rfl
      | true => exact absurd (HB.out.1 hbv).1 hmn)
    go_wp2_with fail
    go_ret
    exact ⟨by rw [hbf.out]; rfl, Below.refl _ _⟩

end Go.Proofs.Ytlbjaimgoiimgaa

namespace Go.Proofs.Ytlbjaimgoiimgaa
open Go.RowKit

/-- What a row says that came in. -/
structure Rd where
  A : List Fd
  v : Fd
abbrev rnil : Rd := ⟨[], dnil⟩
def Rd.R (d : Rd) (n : Nat) : Prop := d.A.length = n ∧ (∀ k, k < n → (d.A.getD k dnil).R) ∧ d.v.R
/-- Rows at address A. -/
def RdsAt (w : World) (A : Option Addr) (rs : List Rd) : Prop := ∀ k, k < rs.length → ∃ (b off : Nat) (Aa : Option Addr) (ca : Nat) (f : Fc), A = some ⟨b, off, none⟩ ∧ b < w.heap.size ∧
  w.cell? ⟨b, off + k * 5, none⟩ = some (.slice Aa (rs.getD k rnil).A.length ca) ∧ w.cell? ⟨b, off + k * 5 + 1, none⟩ = some (.int .i64 f.s) ∧ w.cell? ⟨b, off + k * 5 + 2, none⟩ = some (.slice f.A f.n f.c) ∧
  w.cell? ⟨b, off + k * 5 + 3, none⟩ = some (.int .i64 f.s') ∧ w.cell? ⟨b, off + k * 5 + 4, none⟩ = some (.slice f.A' f.n' f.c') ∧
  (rs.getD k rnil).A.length ≤ 1000000 ∧ FdsAt w Aa (rs.getD k rnil).A ∧ FdIs w f (rs.getD k rnil).v
theorem RdsAt.below {w w' : World} {A : Option Addr} {rs : List Rd} (h : RdsAt w A rs) (hb : Below w.heap.size w w') : RdsAt w' A rs := fun k hk => by
  obtain ⟨b, off, Aa, ca, f, e, hB, h0, h1, h2, h3, h4, h5, h6, h7⟩ := h k hk
  have hc : ∀ i, w'.cell? ⟨b, i, none⟩ = w.cell? ⟨b, i, none⟩ := fun i => hb.cell (p := ⟨b, i, none⟩) hB
  exact ⟨b, off, Aa, ca, f, e, Nat.lt_of_lt_of_le hB hb.size, (hc _).trans h0, (hc _).trans h1, (hc _).trans h2, (hc _).trans h3, (hc _).trans h4, h5, h6.below hb, h7.below hb⟩
/-- Rows are a system of n unknowns. -/
def SysR (rs : List Rd) (n : Int) : Prop := (rs.length : Int) = n ∧ rs.length ≤ 40 ∧ ∀ k, k < rs.length → (rs.getD k rnil).R rs.length

set_option maxRecDepth 100000 in
set_option maxHeartbeats 8000000 in
theorem lright_any {A : Option Addr} {m cap : Nat} {n : Int} {rs : List Rd} (w : World) (h : RdsAt w A rs) (hm : rs.length = m) (hmm : m ≤ 1000000) (b : Bool) (hb : b = true ↔ SysR rs n) :
    Calls Try.prog 10 #[.slice A m cap, .int .i64 n] w fun e w' => e = .returned (.bool b) ∧ Below w.heap.size w w' := by
  have HB := Lib.hid hb; clear hb
  have HD := Lib.hid h; clear h
  have HM := Lib.hid hm; clear hm
  go_enter Try.func10, Try.ntmps10
  by_cases hmn : (m : Int) = n
  · subst hmn
    have hne : ((m : Int) != (m : Int)) = false := by simp
    by_cases h40 : m ≤ 40
    · have hgt : decide ((40 : Int) < (m : Int)) = false := by rw [decide_eq_false_iff_not]; omega
      go_wp2_with fail
      go_loopw [17] (fun iv wr => ∃ i : Nat, i ≤ m ∧ iv = .int .i64 i ∧ Below w.heap.size w wr ∧ Hid (∀ k, k < i → (rs.getD k rnil).R m)) (fun iv _ => m - (intOf iv).toNat)
      case atStart => exact ⟨0, Nat.zero_le _, rfl, Below.refl _ _, Lib.hid fun k hk => by omega⟩
      case round =>
        obtain ⟨i, hi, rfl, hbl, hz⟩ := hrel
        by_cases hgo : i < m
        · obtain ⟨bb, off, Aa, ca, f, hA, hBB, c0, c1, c2, c3, c4, hla, hfa, hf⟩ := (HD.out.below hbl) i (by rw [HM.out]; exact hgo)
          subst hA
          obtain ⟨s1, A1, n1, d1, s2, A2, n2, d2⟩ := f
          simp only at c1 c2 c3 c4
          obtain ⟨la, hlae⟩ : ∃ l, (rs.getD i rnil).A.length = l := ⟨_, rfl⟩
          rw [hlae] at c0 hla
          have HLA := Lib.hid hlae; clear hlae
          have hbA : Below wr.heap.size wr (wr.alloc (.cells #[.slice Aa la ca, .int .i64 s1, .slice A1 n1 d1, .int .i64 s2, .slice A2 n2 d2] 45)) := (Below.refl _ _).alloc (Nat.le_refl _) _
          have hfA := hf.below hbA
          have hfaA := hfa.below hbA
          have hblA := hbl.trans (hbA.mono hbl.size)
          have kA := Blk.new wr 45 #[.slice Aa la ca, .int .i64 s1, .slice A1 n1 d1, .int .i64 s2, .slice A2 n2 d2]
          go_wp2_with fail
          clear c0 c1 c2 c3 c4 hf hfa hbA
          obtain ⟨G, hG⟩ : ∃ G, wr.heap.size = G := ⟨_, rfl⟩
          rw [hG] at kA ⊢
          generalize wr.alloc (.cells #[.slice Aa la ca, .int .i64 s1, .slice A1 n1 d1, .int .i64 s2, .slice A2 n2 d2] 45) = W1 at *
          clear hG
          by_cases hl : la = m ∧ ∀ k, k < la → ((rs.getD i rnil).A.getD k dnil).R
          · (with_reducible refine (isList_any (n := m) _ hfaA HLA.out hla (by omega) true ⟨fun _ => hl, fun _ => rfl⟩).mono ?_)
            rintro e u1 ⟨rfl, hb1⟩
            have hbb := hblA.trans (hb1.mono hblA.size)
            have k1 := kA.below hb1 kA.lt
            have hf1 := hfA.below hb1
            have HL := Lib.hid hl
            clear kA hfaA hfA hl
            have q1 := k1.cell 1
            have q2 := k1.cell 2
            have q3 := k1.cell 3
            have q4 := k1.cell 4
            simp at q1 q2 q3 q4
            go_wp2_with fail
            clear q1 q2 q3 q4
            have a1 := hf1.a1
            have a2 := hf1.a2
            have e1 := hf1.e1
            have e2 := hf1.e2
            simp only at a1 a2 e1 e2
            by_cases hr : (rs.getD i rnil).v.R
            · have hr' : RF s1 (rs.getD i rnil).v.l s2 (rs.getD i rnil).v.l' := by rw [e1, e2]; exact hr
              (with_reducible refine (fright_any _ a1 a2 true ⟨fun _ => hr', fun _ => rfl⟩).mono ?_)
              rintro e u2 ⟨rfl, hb2⟩
              have hbb2 := hbb.trans (hb2.mono hbb.size)
              have HR := Lib.hid (show (rs.getD i rnil).R m from ⟨HLA.out.trans HL.out.1, fun k hk => HL.out.2 k (by have := HL.out.1; omega), hr⟩)
              clear k1 hf1 a1 a2 e1 e2 hr hr'
              go_wp2_with fail
              go_roundw
              case rel => exact ⟨i + 1, by omega, rfl, hbb2, Lib.hid fun k hk => by
                by_cases hki : k < i
                · exact hz.out k hki
                · have : k = i := by omega
                  subst this
                  exact HR.out⟩
              case measure => simp [intOf]; omega
            · have hr' : ¬ RF s1 (rs.getD i rnil).v.l s2 (rs.getD i rnil).v.l' := by rw [e1, e2]; exact hr
              (with_reducible refine (fright_any _ a1 a2 false ⟨fun h => (by cases h), fun h => absurd h hr'⟩).mono ?_)
              rintro e u2 ⟨rfl, hb2⟩
              have hbb2 := hbb.trans (hb2.mono hbb.size)
              have hbf : Hid (b = false) := Lib.hid (by
                cases hbv : b with
                | false => rfl
                | true => exact absurd ((HB.out.1 hbv).2.2 i (by rw [HM.out]; exact hgo)).2.2 hr)
              clear k1 hf1 a1 a2 e1 e2 hr hr'
              go_wp2_with fail
              go_ret
              exact ⟨by rw [hbf.out]; rfl, hbb2⟩
          · (with_reducible refine (isList_any (n := m) _ hfaA HLA.out hla (by omega) false ⟨fun h => (by cases h), fun h => absurd h hl⟩).mono ?_)
            rintro e u1 ⟨rfl, hb1⟩
            have hbb := hblA.trans (hb1.mono hblA.size)
            have hbf : Hid (b = false) := Lib.hid (by
              cases hbv : b with
              | false => rfl
              | true =>
                have h := (HB.out.1 hbv).2.2 i (by rw [HM.out]; exact hgo)
                rw [HM.out] at h
                exact absurd ⟨HLA.out.symm.trans h.1, fun k hk => h.2.1 k (by have := HLA.out.symm.trans h.1; omega)⟩ hl)
            clear kA hfaA hfA hl
            go_wp2_with fail
            go_ret
            exact ⟨by rw [hbf.out]; rfl, hbb⟩
        · have : i = m := by omega
          subst this
          have hbt : Hid (b = true) := Lib.hid (HB.out.2 ⟨by rw [HM.out], by rw [HM.out]; exact h40, fun k hk => by rw [HM.out] at hk ⊢; exact hz.out k hk⟩)
          go_wp2_with fail
          go_ret
          exact ⟨by rw [hbt.out]; rfl, hbl⟩
    · have hgt : decide ((40 : Int) < (m : Int)) = true := by rw [decide_eq_true_eq]; omega
      have hbf : Hid (b = false) := Lib.hid (by
        cases hbv : b with
        | false => rfl
        | true => exact absurd (by have := (HB.out.1 hbv).2.1; rwa [HM.out] at this) h40)
      go_wp2_with fail
      go_ret
      exact ⟨by rw [hbf.out]; rfl, Below.refl _ _⟩
  · have hne : ((m : Int) != n) = true := by simp; exact hmn
    have hbf : Hid (b = false) := Lib.hid (by
      cases hbv : b with
      | false => rfl
      | true => exact absurd (by have := (HB.out.1 hbv).1; rwa [HM.out] at this) hmn)
    go_wp2_with fail
    go_ret
    exact ⟨by rw [hbf.out]; rfl, Below.refl _ _⟩

end Go.Proofs.Ytlbjaimgoiimgaa

namespace Go.Proofs.Ytlbjaimgoiimgaa
open Go.RowKit

theorem Try.infoFr : (Try.prog.info? 40).map (fun i => (i.zero, i.size, i.bytes)) = some (some (.agg #[.int .i64 0, .slice none 0 0, .int .i64 0, .slice none 0 0]), 4, 64) := by kernel_rfl

/-- The cells of fractions, one behind the other. -/
def fcs (l : List Fc) : List Value := l.flatMap fun f => [Value.int .i64 f.s, .slice f.A f.n f.c, .int .i64 f.s', .slice f.A' f.n' f.c']
theorem fcs_length (l : List Fc) : (fcs l).length = l.length * 4 := by
  induction l with
  | nil => rfl
  | cons p l ih => simp only [fcs, List.flatMap_cons, List.length_append, List.length_cons, List.length_nil] at ih ⊢; omega
theorem fcs_append (a b : List Fc) : fcs (a ++ b) = fcs a ++ fcs b := by simp [fcs]
theorem fcs_get (l : List Fc) (j : Nat) (h : j < l.length) : (fcs l)[j * 4]? = some (.int .i64 (l.getD j fnil).s) ∧ (fcs l)[j * 4 + 1]? = some (.slice (l.getD j fnil).A (l.getD j fnil).n (l.getD j fnil).c) ∧
    (fcs l)[j * 4 + 2]? = some (.int .i64 (l.getD j fnil).s') ∧ (fcs l)[j * 4 + 3]? = some (.slice (l.getD j fnil).A' (l.getD j fnil).n' (l.getD j fnil).c') := by
  induction l generalizing j with
  | nil => simp at h
  | cons p l ih =>
    cases j with
    | zero => simp [fcs]
    | succ j =>
      have h1 := ih j (by simpa using h)
      have e : (j + 1) * 4 = j * 4 + 1 + 1 + 1 + 1 := by omega
      have e3 : ∀ l, fcs (p :: l) = Value.int .i64 p.s :: .slice p.A p.n p.c :: .int .i64 p.s' :: .slice p.A' p.n' p.c' :: fcs l := fun _ => rfl
      rw [e, e3, List.getD_cons_succ]
      simpa using h1
theorem fcs_oneCell (l : List Fc) : ∀ u ∈ fcs l, u.oneCell' = true := by
  intro u hu
  unfold fcs at hu
  obtain ⟨p, _, hp⟩ := List.mem_flatMap.1 hu
  simp at hp
  rcases hp with rfl | rfl | rfl | rfl <;> rfl

/-- Fractions at address A, as they lie. -/
def FcAt (w : World) (A : Option Addr) (fs : List Fc) : Prop := ∀ k, k < fs.length → ∃ (b off : Nat), A = some ⟨b, off, none⟩ ∧ b < w.heap.size ∧
  w.cell? ⟨b, off + k * 4, none⟩ = some (.int .i64 (fs.getD k fnil).s) ∧ w.cell? ⟨b, off + k * 4 + 1, none⟩ = some (.slice (fs.getD k fnil).A (fs.getD k fnil).n (fs.getD k fnil).c) ∧
  w.cell? ⟨b, off + k * 4 + 2, none⟩ = some (.int .i64 (fs.getD k fnil).s') ∧ w.cell? ⟨b, off + k * 4 + 3, none⟩ = some (.slice (fs.getD k fnil).A' (fs.getD k fnil).n' (fs.getD k fnil).c')
theorem FcAt.below {w w' : World} {A : Option Addr} {fs : List Fc} (h : FcAt w A fs) (hb : Below w.heap.size w w') : FcAt w' A fs := fun k hk => by
  obtain ⟨b, off, e, hB, h0, h1, h2, h3⟩ := h k hk
  have hc : ∀ i, w'.cell? ⟨b, i, none⟩ = w.cell? ⟨b, i, none⟩ := fun i => hb.cell (p := ⟨b, i, none⟩) hB
  exact ⟨b, off, e, Nat.lt_of_lt_of_le hB hb.size, (hc _).trans h0, (hc _).trans h1, (hc _).trans h2, (hc _).trans h3⟩
theorem FdsAt.fcs {w : World} {A : Option Addr} {ds : List Fd} (h : FdsAt w A ds) : ∃ fs : List Fc, fs.length = ds.length ∧ FcAt w A fs ∧ ∀ k, k < ds.length → FdIs w (fs.getD k fnil) (ds.getD k dnil) := by
  have h' : ∀ k, ∃ f : Fc, k < ds.length → ∃ (b off : Nat), A = some ⟨b, off, none⟩ ∧ b < w.heap.size ∧
      w.cell? ⟨b, off + k * 4, none⟩ = some (.int .i64 f.s) ∧ w.cell? ⟨b, off + k * 4 + 1, none⟩ = some (.slice f.A f.n f.c) ∧
      w.cell? ⟨b, off + k * 4 + 2, none⟩ = some (.int .i64 f.s') ∧ w.cell? ⟨b, off + k * 4 + 3, none⟩ = some (.slice f.A' f.n' f.c') ∧ FdIs w f (ds.getD k dnil) := fun k => by
    by_cases hk : k < ds.length
    · obtain ⟨b, off, f, hh⟩ := h k hk
      exact ⟨f, fun _ => ⟨b, off, hh⟩⟩
    · exact ⟨fnil, fun hk' => absurd hk' hk⟩
  obtain ⟨F, hF⟩ := Classical.axiomOfChoice h'
  refine ⟨(List.range ds.length).map F, by simp, ?_, ?_⟩
  · intro k hk
    rw [List.length_map, List.length_range] at hk
    have e : ((List.range ds.length).map F).getD k fnil = F k := by simp [List.getD_eq_getElem?_getD, hk]
    rw [e]
    obtain ⟨b, off, h1, h2, h3, h4, h5, h6, _⟩ := hF k hk
    exact ⟨b, off, h1, h2, h3, h4, h5, h6⟩
  · intro k hk
    have e : ((List.range ds.length).map F).getD k fnil = F k := by simp [List.getD_eq_getElem?_getD, hk]
    rw [e]
    obtain ⟨b, off, h1, h2, h3, h4, h5, h6, h7⟩ := hF k hk
    exact h7

/-- A slice value v of fractions, owned from block B on. -/
def OwnF (w : World) (B : Nat) (v : Value) (fs : List Fc) : Prop := w.ownsRow B 40 4 v fs.length (fcs fs)
section
variable {w w' : World} {B B' : Nat} {v : Value} {fs : List Fc}
theorem OwnF.nil (w : World) (B : Nat) : OwnF w B (.slice none 0 0) [] := World.ownsRow_nil w B 40 4
theorem OwnF.below (h : OwnF w B v fs) (hb : Below w.heap.size w w') : OwnF w' B v fs :=
  World.ownsRow.kept (row := none) h ⟨hb.os, hb.tape, hb.output, hb.size, fun k hk _ => hb.block k hk⟩ (by cases v.ownBlock <;> simp)
theorem OwnF.mono (h : OwnF w B v fs) (hb : B' ≤ B) : OwnF w B' v fs := World.ownsRow.mono h hb
theorem OwnF.lt {g n cap : Nat} (h : OwnF w B (.slice (some ⟨g, 0, none⟩) n cap) fs) : B ≤ g ∧ g < w.heap.size := World.ownsRow.lt h g rfl
/-- The block of one that is not empty. -/
theorem OwnF.blk (h : OwnF w B v fs) (hn : 0 < fs.length) : ∃ g cap cur, v = .slice (some ⟨g, 0, none⟩) fs.length cap ∧ B ≤ g ∧ Blk w g 40 cur ∧ CellsL cur fs ∧ fs.length ≤ cap ∧ cap ≤ maxLen := by
  have hh := h
  rcases h.2 with ⟨rfl, h0⟩ | ⟨g, cap, cur, rfl, hb, hg, hnc, hcm, hcs, htake⟩
  · omega
  · refine ⟨g, cap, cur, rfl, hb, hg, fun k hk => ?_, hnc, hcm⟩
    obtain ⟨f0, f1, f2, f3⟩ := fcs_get fs k hk
    have hc : ∀ j, j < fs.length * 4 → cur[j]? = (fcs fs)[j]? := fun j hj => by
      rw [← htake, List.getElem?_take, if_pos hj]
      simp
    exact ⟨(hc _ (by omega)).trans f0, (hc _ (by omega)).trans f1, (hc _ (by omega)).trans f2, (hc _ (by omega)).trans f3⟩
theorem OwnF.at_ (h : OwnF w B v fs) : ∃ A c, v = .slice A fs.length c ∧ fs.length ≤ c ∧ c ≤ 9223372036854775807 ∧ FcAt w A fs := by
  rcases h.2 with ⟨rfl, hn⟩ | ⟨g, cap, cur, rfl, hb, hg, hnc, hcm, hcs, htake⟩
  · have : fs = [] := List.eq_nil_of_length_eq_zero hn
    subst this
    exact ⟨none, 0, rfl, by simp, by omega, fun k hk => by cases hk⟩
  · refine ⟨_, cap, rfl, by omega, by unfold maxLen at hcm; omega, fun k hk => ⟨g, 0, rfl, (Array.getElem?_eq_some_iff.1 hg).1, ?_⟩⟩
    obtain ⟨f0, f1, f2, f3⟩ := fcs_get fs k hk
    rw [Nat.zero_add, World.ownsRow.cellAt h (k * 4) (by omega), World.ownsRow.cellAt h (k * 4 + 1) (by omega), World.ownsRow.cellAt h (k * 4 + 2) (by omega), World.ownsRow.cellAt h (k * 4 + 3) (by omega)]
    exact ⟨f0, f1, f2, f3⟩
end
theorem fc_src {w : World} {ad : Addr} {fs : List Fc} (h : FcAt w (some ad) fs) : ∀ j u, (fcs fs)[j]? = some u → w.cell? (ad.add j) = some u := fun j u hj => by
  have hlt := (List.getElem?_eq_some_iff.1 hj).1
  rw [fcs_length] at hlt
  obtain ⟨b, off, e, _, h0, h1, h2, h3⟩ := h (j / 4) (by omega)
  injection e with e
  subst e
  obtain ⟨f0, f1, f2, f3⟩ := fcs_get fs (j / 4) (by omega)
  rw [← f0] at h0
  rw [← f1] at h1
  rw [← f2] at h2
  rw [← f3] at h3
  rw [Go.WideShapes.add_plain, ← hj]
  rcases (show j = j / 4 * 4 ∨ j = j / 4 * 4 + 1 ∨ j = j / 4 * 4 + 2 ∨ j = j / 4 * 4 + 3 by omega) with e | e | e | e
  · rw [← e] at h0; rw [← h0]
  · rw [← e] at h1; rw [← h1]; congr 2; omega
  · rw [← e] at h2; rw [← h2]; congr 2; omega
  · rw [← e] at h3; rw [← h3]; congr 2; omega

theorem run_appF (w : World) (ty : TypeId) (B : Nat) (v : Value) (ds es : List Fc) (A : Option Addr) (m c : Nat) (hown : OwnF w B v ds) (hm : es.length = m) (hsrc : FcAt w A es) (hb : ds.length + m ≤ 1000000) (hbase : B ≤ w.heap.size) :
    ∃ v' w', (Builtin.append_ #[23, 23] ty #[v, .slice A m c]).run Try.prog w = .ok v' w' ∧ OwnF w' B v' (ds ++ es) ∧ w.grownBy w' v.ownBlock ∧ (v'.ownBlock = v.ownBlock ∨ v'.ownBlock = some w.heap.size) := by
  obtain ⟨i0, hi, hz0, hz1, hz2⟩ := info_parts Try.infoFr
  subst hm
  have hpl := fcs_length es
  cases A with
  | some ad =>
    obtain ⟨v', w', a1, a2, a3, _, a4⟩ := run_append_own_at (P := Try.prog) w B 23 ty 40 i0 (.agg #[.int .i64 0, .slice none 0 0, .int .i64 0, .slice none 0 0]) 4 64 Try.underlying23 hi hz0 hz1 hz2 rfl (by decide) v ds.length (fcs ds) hown ad es.length c (fcs es) hpl (fc_src hsrc) (fcs_oneCell es) (by unfold maxLen; omega) (by omega) hbase
    refine ⟨v', w', a1, ?_, a3, a4⟩
    unfold OwnF
    rw [List.length_append, fcs_append]
    exact a2
  | none =>
    have he : es = [] := by
      cases es with
      | nil => rfl
      | cons d es => obtain ⟨b, off, e, _⟩ := hsrc 0 (by simp); cases e
    subst he
    refine ⟨v, w, ?_, by rw [List.append_nil]; exact hown, ⟨rfl, rfl, rfl, Nat.le_refl _, fun _ _ _ => rfl⟩, .inl rfl⟩
    rcases hown.2 with ⟨rfl, hn⟩ | ⟨g, cap, cur, rfl, _, _, hnc, _⟩
    · simp [Builtin.append_, run_underlying Try.underlying23, sizeOf, typeInfo, hi, Builtin.lenOf, Builtin.firstCells]
    · simp [Builtin.append_, run_underlying Try.underlying23, sizeOf, typeInfo, hi, Builtin.lenOf, Builtin.firstCells, loadCells, hnc, storeCells]

/-- append at a step of a region that draws its order. -/
theorem step_appF {w : World} {ops : Array Oper} {o : Oper} {a : Act} {K : Act → World → Prop} {Q : Exit → Act → World → Prop} {E : Prop} (hgd : o.guard = none) (s x : Operand)
    (ho : o.op = .call { callee := .builtin .append, args := #[s, x], argTypes := #[23, 23] })
    (B : Nat) (v : Value) (ds es : List Fc) (A : Option Addr) (m c : Nat) (hs : a.eval s = v) (hown : OwnF w B v ds)
    (hx : a.eval x = .slice A m c) (hm : es.length = m) (hsrc : FcAt w A es) (hb : ds.length + m ≤ 1000000) (hbase : B ≤ w.heap.size)
    (h : ∀ v' w', OwnF w' B v' (ds ++ es) → w.grownBy w' v.ownBlock → (v'.ownBlock = v.ownBlock ∨ v'.ownBlock = some w.heap.size) → K (a.put o.dst v') w') :
    if Region.wanted o (yielded ops a.tmps) = true then Oper.wp Try.prog o a w K Q else E := by
  have hw : Region.wanted o (yielded ops a.tmps) = true := by simp [Region.wanted, hgd]
  rw [if_pos hw]
  obtain ⟨v', w', hr, h2, h3, h4⟩ := run_appF w o.type B v ds es A m c hown hm hsrc hb hbase
  unfold Oper.wp execOp
  simp only [ho, resolve, invoke, builtin, Sem.run_bind, Sem.run_pure, Result.andThen_ok, List.map_toArray, List.map_cons, List.map_nil, hs, hx, hr]
  exact h v' w' h2 h3 h4
/-- append, with where the new slice lies. -/
theorem appF_at {w : World} {ops : Array Oper} {rest : List Oper} {o : Oper} {a : Act} {Q : Exit → Act → World → Prop} (hgd : o.guard = none) (s x : Operand)
    (ho : o.op = .call { callee := .builtin .append, args := #[s, x], argTypes := #[23, 23] })
    (B : Nat) (v : Value) (ds es : List Fc) (A : Option Addr) (m c : Nat) (hs : a.eval s = v) (hown : OwnF w B v ds)
    (hx : a.eval x = .slice A m c) (hm : es.length = m) (hsrc : FcAt w A es) (hb : ds.length + m ≤ 1000000) (hbase : B ≤ w.heap.size)
    (h : ∀ v' w', OwnF w' B v' (ds ++ es) → w.grownBy w' v.ownBlock → (v'.ownBlock = v.ownBlock ∨ v'.ownBlock = some w.heap.size) → wpList Try.prog ops Q rest (a.put o.dst v') w') : wpList Try.prog ops Q (o :: rest) a w := by
  obtain ⟨v', w', hr, h2, h3, h4⟩ := run_appF w o.type B v ds es A m c hown hm hsrc hb hbase
  refine wpList_plain hgd fun K' hK' => ?_
  unfold Oper.wp execOp
  simp only [ho, resolve, invoke, builtin, Sem.run_bind, Sem.run_pure, Result.andThen_ok, List.map_toArray, List.map_cons, List.map_nil, hs, hx, hr]
  exact hK' _ _ (h v' w' h2 h3 h4)

theorem grown_belF {B : Nat} {w0 w w' : World} {v : Value} {ds : List Fc} (h : Below B w0 w) (hown : OwnF w B v ds) (hg : w.grownBy w' v.ownBlock) (hB : B ≤ w0.heap.size) : Below B w0 w' :=
  ⟨hg.os.trans h.os, hg.tape.trans h.tape, hg.output.trans h.output, Nat.le_trans h.size hg.size, fun k hk => (hg.block k (by have := h.size; omega) (fun e => by have := (World.ownsRow.lt hown k e.symm).1; omega)).trans (h.block k hk)⟩
theorem emptyF (w : World) {B : Nat} (hB : B ≤ w.heap.size) : OwnF (w.alloc (.cells #[] 40)) B (.slice (some ⟨w.heap.size, 0, none⟩) 0 0) [] :=
  ⟨rfl, .inr ⟨w.heap.size, 0, #[], rfl, hB, heap_alloc_new w _, Nat.le_refl _, Nat.zero_le _, rfl, rfl⟩⟩

set_option maxRecDepth 100000 in
set_option maxHeartbeats 4000000 in
theorem fclone_any (fs : List Fc) (A : Option Addr) (n c : Nat) (w : World) (hn : fs.length = n) (hS : FcAt w A fs) (hl : n ≤ 1000) :
    Calls Try.prog 43 #[.slice A n c] w fun e w' => ∃ v, e = .returned v ∧ OwnF w' w.heap.size v fs ∧ Below w.heap.size w w' := by
  cases A with
  | none =>
    have hd : fs = [] := by
      cases fs with
      | nil => rfl
      | cons d es => obtain ⟨b, off, e, _⟩ := hS 0 (by simp); cases e
    subst hd
    clear hS
    simp at hn
    subst hn
    have hnn := Lib.run_eql_slice_nil (P := Try.prog) w 23 40 none 0 c 0 0 Try.underlying23
    go_enter Try.func43, Try.ntmps43
    go_wp2_with fail
    go_ret
    exact ⟨_, rfl, OwnF.nil _ _, Below.refl _ _⟩
  | some ad =>
    have HS := Lib.hid hS; clear hS
    have hnn := Lib.run_eql_slice_nil (P := Try.prog) w 23 40 (some ad) n c 0 0 Try.underlying23
    go_enter Try.func43, Try.ntmps43
    go_wp2_with (at_builtin; refine appF_at rfl (.tmp 5) (.tmp 6) rfl w.heap.size _ [] fs (some ad) n c rfl (emptyF w (Nat.le_refl _)) rfl hn (HS.out.below ((Below.refl _ _).alloc (Nat.le_refl _) _)) (by simp; omega) (by simp) ?_; intro v2 w2 hown2 hg2 hat2; have hb2 := grown_belF ((Below.refl w.heap.size w).alloc (Nat.le_refl _) _) (emptyF w (Nat.le_refl _)) hg2 (Nat.le_refl _))
    go_ret
    exact ⟨_, rfl, by simpa using hown2, hb2⟩

end Go.Proofs.Ytlbjaimgoiimgaa
