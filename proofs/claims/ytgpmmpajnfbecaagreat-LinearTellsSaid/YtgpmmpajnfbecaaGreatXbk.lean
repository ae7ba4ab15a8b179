/- The elimination's step, plain; lines are exchanged, one line is written. Walk of eliminate. Walk of toFree. -/
import Derived.Test.YtgpmmpajnfbecaaGreatXbj

namespace Go.Proofs.YtgpmmpajnfbecaaGreat
open Go.RowKit

/-- F on every line, with its place, until one fails. -/
def mapR (F : Nat → List Rat → Option (List Rat)) : Nat → List (List Rat) → Option (List (List Rat))
  | _, [] => some []
  | i, x :: xs => (F i x).bind fun q => (mapR F (i + 1) xs).map (q :: ·)
structure PartR (F : Nat → List Rat → Option (List Rat)) (xs ys : List (List Rat)) (i : Nat) : Prop where
  len : ys.length = i
  le : i ≤ xs.length
  rest : mapR F 0 xs = (mapR F i (xs.drop i)).map (ys ++ ·)
theorem PartR.start (F : Nat → List Rat → Option (List Rat)) (xs : List (List Rat)) : PartR F xs [] 0 := ⟨rfl, Nat.zero_le _, by simp⟩
theorem dropR {xs : List (List Rat)} {i : Nat} (h : i < xs.length) : xs.drop i = xs.getD i [] :: xs.drop (i + 1) := by
  rw [List.drop_eq_getElem_cons h, List.getD_eq_getElem?_getD, List.getElem?_eq_getElem h]; rfl
theorem PartR.step {F : Nat → List Rat → Option (List Rat)} {xs ys : List (List Rat)} {i : Nat} (h : PartR F xs ys i) (hi : i < xs.length) {q : List Rat} (hq : F i (xs.getD i []) = some q) : PartR F xs (ys ++ [q]) (i + 1) := by
  refine ⟨by simp [h.len], by omega, ?_⟩
  rw [h.rest, dropR hi, mapR, hq]
  cases mapR F (i + 1) (xs.drop (i + 1)) with
  | none => rfl
  | some a => simp
theorem PartR.fail {F : Nat → List Rat → Option (List Rat)} {xs ys : List (List Rat)} {i : Nat} (h : PartR F xs ys i) (hi : i < xs.length) (hq : F i (xs.getD i []) = none) : mapR F 0 xs = none := by
  rw [h.rest, dropR hi, mapR, hq]
  rfl
theorem PartR.done {F : Nat → List Rat → Option (List Rat)} {xs ys : List (List Rat)} (h : PartR F xs ys xs.length) : mapR F 0 xs = some ys := by
  rw [h.rest, List.drop_length, mapR]
  simp
theorem PartR.now {F : Nat → List Rat → Option (List Rat)} {xs ys : List (List Rat)} {i : Nat} (h : PartR F xs ys i) : (ys ++ xs.drop i).getD i [] = xs.getD i [] := by
  rw [List.getD_eq_getElem?_getD, List.getElem?_append_right (by rw [h.len]; exact Nat.le_refl _), h.len, Nat.sub_self, List.getElem?_drop, Nat.add_zero, List.getD_eq_getElem?_getD]
theorem PartR.set_ {F : Nat → List Rat → Option (List Rat)} {xs ys : List (List Rat)} {i : Nat} (h : PartR F xs ys i) (hi : i < xs.length) (q : List Rat) : (ys ++ xs.drop i).set i q = (ys ++ [q]) ++ xs.drop (i + 1) := by
  rw [List.set_append_right _ _ (by rw [h.len]; exact Nat.le_refl _), h.len, Nat.sub_self, dropR hi, List.set_cons_zero]
  simp
theorem PartR.keep {xs ys : List (List Rat)} {i : Nat} (hi : i < xs.length) : (ys ++ [xs.getD i []]) ++ xs.drop (i + 1) = ys ++ xs.drop i := by
  rw [dropR hi]
  simp

/-- The first line from r on that has not 0 in the column c. -/
def firstNZ (X : List (List Rat)) (c : Nat) : Nat → Nat → Option Nat
  | _, 0 => none
  | r, m + 1 => if (X.getD r []).getD c 0 = 0 then firstNZ X c (r + 1) m else some r
theorem firstNZ_none {X : List (List Rat)} {c r m : Nat} (h : ∀ j, j < m → (X.getD (r + j) []).getD c 0 = 0) : firstNZ X c r m = none := by
  induction m generalizing r with
  | zero => rfl
  | succ m ih =>
    rw [firstNZ, if_pos (by simpa using h 0 (by omega))]
    exact ih fun j hj => by
      have := h (j + 1) (by omega)
      rwa [show r + (j + 1) = r + 1 + j by omega] at this
theorem firstNZ_some {X : List (List Rat)} {c r m j : Nat} (hj : j < m) (h : (X.getD (r + j) []).getD c 0 ≠ 0) (h0 : ∀ i, i < j → (X.getD (r + i) []).getD c 0 = 0) : firstNZ X c r m = some (r + j) := by
  induction j generalizing r m with
  | zero =>
    obtain ⟨m, rfl⟩ : ∃ k, m = k + 1 := ⟨m - 1, by omega⟩
    rw [firstNZ, if_neg (by simpa using h)]
    rfl
  | succ j ih =>
    obtain ⟨m, rfl⟩ : ∃ k, m = k + 1 := ⟨m - 1, by omega⟩
    rw [firstNZ, if_pos (by simpa using h0 0 (by omega)), ih (r := r + 1) (m := m) (by omega) (by rw [show r + 1 + j = r + (j + 1) by omega]; exact h) (fun i hi => by
      have := h0 (i + 1) (by omega)
      rwa [show r + (i + 1) = r + 1 + i by omega] at this)]
    congr 1
    omega
def swapR {α : Type} (d : α) (X : List α) (r j : Nat) : List α := (X.set r (X.getD j d)).set j (X.getD r d)
theorem swapR_length {α : Type} (d : α) (X : List α) (r j : Nat) : (swapR d X r j).length = X.length := by simp [swapR]
/-- The place where a line came from. -/
def place (r j k : Nat) : Nat := if k = j then r else if k = r then j else k
theorem swapR_getD {α : Type} (d : α) (X : List α) {r j k : Nat} (hr : r < X.length) (hj : j < X.length) : (swapR d X r j).getD k d = X.getD (place r j k) d := by
  unfold swapR place
  by_cases h1 : k = j
  · subst h1
    rw [if_pos rfl, getD_set_self (by simp; exact hj)]
  · rw [if_neg h1, getD_set_ne (Ne.symm h1)]
    by_cases h2 : k = r
    · subst h2
      rw [if_pos rfl, getD_set_self hr]
    · rw [if_neg h2, getD_set_ne (Ne.symm h2)]
theorem place_lt {r j k n : Nat} (hr : r < n) (hj : j < n) (hk : k < n) : place r j k < n := by
  unfold place
  split
  · exact hr
  · split
    · exact hj
    · exact hk
theorem place_one {r j k l : Nat} (h : place r j k = place r j l) : k = l := by
  unfold place at h
  split at h <;> split at h <;> (try split at h) <;> (try split at h) <;> omega
/-- What a line becomes under the pivot's line p. -/
def redG (p : List Rat) (r c : Nat) (i : Nat) (x : List Rat) : Option (List Rat) := if i = r ∨ x.getD c 0 = 0 then some x else subL (x.getD c 0) p x
/-- The step of the elimination for the column c, before which r pivots were found. -/
def elimS (X : List (List Rat)) (r c : Nat) : Option (Bool × List (List Rat)) :=
  match firstNZ X c r (X.length - r) with
  | none => some (false, X)
  | some j => (divL (((swapR [] X r j).getD r []).getD c 0) ((swapR [] X r j).getD r [])).bind fun p =>
      (mapR (redG p r c) 0 ((swapR [] X r j).set r p)).map fun Y => (true, Y)

section
variable {S : Nat → Prop} {w w' : World} {L n : Nat} {gs : List (Nat × Nat)} {X : List (List Rat)}
theorem Lines.put (h : Lines S w L n gs X) {k : Nat} (hk : k < gs.length) {fs : List Fc} {ys : List Rat} (hf : Fr (· = (gs.getD k (0, 0)).1) w w') (hfs : fs.length = n) (hL : Line S w' (gs.getD k (0, 0)).1 fs ys) : Lines S w' L n gs (X.set k ys) := by
  have hfS : Fr S w w' := hf.more (fun b hb => by subst hb; exact hL.1)
  refine ⟨h.top, by rw [List.length_set]; exact h.len, ?_, ?_, h.one, h.far⟩
  · exact h.blk.fr hf (fun e => h.far k hk e.symm)
  · intro j hj
    by_cases hjk : k = j
    · subst hjk
      rw [getD_set_self (by rw [← h.len]; exact hk)]
      exact ⟨fs, hfs, hL⟩
    · rw [getD_set_ne hjk]
      obtain ⟨fs', h1, h2⟩ := h.line j hj
      exact ⟨fs', h1, h2.far hfS (hf.2.2.2.2 _ h2.lt (h.one j k hj hk (Ne.symm hjk)))⟩
theorem Lines.swap (h : Lines S w L n gs X) {r j : Nat} (hr : r < gs.length) (hj : j < gs.length) :
    ∃ V, V = (w.setCell ⟨L, r, none⟩ (.slice (some ⟨(gs.getD j (0, 0)).1, 0, none⟩) n (gs.getD j (0, 0)).2)).setCell ⟨L, j, none⟩ (.slice (some ⟨(gs.getD r (0, 0)).1, 0, none⟩) n (gs.getD r (0, 0)).2) ∧
      Lines S V L n (swapR (0, 0) gs r j) (swapR [] X r j) ∧ Fr S w V := by
  have hfar : ∀ b, b ≠ L → ((w.setCell ⟨L, r, none⟩ (.slice (some ⟨(gs.getD j (0, 0)).1, 0, none⟩) n (gs.getD j (0, 0)).2)).setCell ⟨L, j, none⟩ (.slice (some ⟨(gs.getD r (0, 0)).1, 0, none⟩) n (gs.getD r (0, 0)).2)).heap[b]? = w.heap[b]? := fun b hne =>
    (Below.heap_setCell _ _ _ b hne).trans (Below.heap_setCell _ _ _ b hne)
  have hfr : Fr S w ((w.setCell ⟨L, r, none⟩ (.slice (some ⟨(gs.getD j (0, 0)).1, 0, none⟩) n (gs.getD j (0, 0)).2)).setCell ⟨L, j, none⟩ (.slice (some ⟨(gs.getD r (0, 0)).1, 0, none⟩) n (gs.getD r (0, 0)).2)) :=
    ⟨by simp [World.setCell], by simp [World.setCell], by simp [World.setCell], by simp, fun b _ hn => hfar b (fun e => hn (e ▸ h.top))⟩
  refine ⟨_, rfl, ⟨h.top, by rw [swapR_length, swapR_length]; exact h.len, ?_, ?_, ?_, ?_⟩, hfr⟩
  · have hb := (h.blk.set_ r (lcell n (gs.getD j (0, 0)))).set_ j (lcell n (gs.getD r (0, 0)))
    have e : (((gs.map (lcell n)).toArray.setIfInBounds r (lcell n (gs.getD j (0, 0)))).setIfInBounds j (lcell n (gs.getD r (0, 0)))) = ((swapR (0, 0) gs r j).map (lcell n)).toArray := by
      unfold swapR
      simp [List.map_set]
    rw [e] at hb
    exact hb
  · intro k hk
    rw [swapR_length] at hk
    rw [swapR_getD _ _ hr hj, swapR_getD _ _ (by rw [← h.len]; exact hr) (by rw [← h.len]; exact hj)]
    obtain ⟨fs', h1, h2⟩ := h.line _ (place_lt hr hj hk)
    exact ⟨fs', h1, h2.far hfr (hfar _ (h.far _ (place_lt hr hj hk)))⟩
  · intro a b ha hb hab
    rw [swapR_length] at ha hb
    rw [swapR_getD _ _ hr hj, swapR_getD _ _ hr hj]
    exact h.one _ _ (place_lt hr hj ha) (place_lt hr hj hb) (fun e => hab (place_one e))
  · intro k hk
    rw [swapR_length] at hk
    rw [swapR_getD _ _ hr hj]
    exact h.far _ (place_lt hr hj hk)
end

end Go.Proofs.YtgpmmpajnfbecaaGreat

namespace Go.Proofs.YtgpmmpajnfbecaaGreat
open Go.RowKit

/-- What the loop over the lines has, at the place i. -/
structure RedI (S : Nat → Prop) (w wr : World) (L N G r c : Nat) (gs : List (Nat × Nat)) (p : List Rat) (X Y : List (List Rat)) (i : Nat) : Prop where
  L : Lines S wr L (N + 1) gs (Y ++ X.drop i)
  P : PartR (redG p r c) X Y i
  fr : Fr S w wr
  kc : Blk wr G 3 #[.int .i64 c]
  pv : (Y ++ X.drop i).getD r [] = p
section
variable {S : Nat → Prop} {w wr wq : World} {L N G r c i : Nat} {gs : List (Nat × Nat)} {p : List Rat} {X Y : List (List Rat)}
theorem RedI.below (h : RedI S w wr L N G r c gs p X Y i) (hb : Below wr.heap.size wr wq) : RedI S w wq L N G r c gs p X Y i :=
  ⟨h.L.below hb, h.P, h.fr.tr (Fr.of_below hb), h.kc.below hb h.kc.lt, h.pv⟩
theorem RedI.skip (h : RedI S w wr L N G r c gs p X Y i) (hi : i < X.length) (hz : i = r ∨ (X.getD i []).getD c 0 = 0) : RedI S w wr L N G r c gs p X (Y ++ [X.getD i []]) (i + 1) :=
  ⟨by rw [PartR.keep hi]; exact h.L, h.P.step hi (by unfold redG; rw [if_pos hz]), h.fr, h.kc, by rw [PartR.keep hi]; exact h.pv⟩
theorem RedI.put (h : RedI S w wr L N G r c gs p X Y i) (hi : i < X.length) (hir : i ≠ r) (hg : gs.length = X.length) (hn : (X.getD i []).getD c 0 ≠ 0) (hGS : ¬ S G) {fs : List Fc} {ys : List Rat} (hf : Fr (· = (gs.getD i (0, 0)).1) wr wq) (hfs : fs.length = N + 1) (hL : Line S wq (gs.getD i (0, 0)).1 fs ys)
    (hs : subL ((X.getD i []).getD c 0) p (X.getD i []) = some ys) : RedI S w wq L N G r c gs p X (Y ++ [ys]) (i + 1) := by
  have hfS : Fr S wr wq := hf.more (fun b hb => by subst hb; exact hL.1)
  refine ⟨?_, h.P.step hi (by unfold redG; rw [if_neg (by rintro (e | e); exact hir e; exact hn e)]; exact hs), h.fr.tr hfS, h.kc.fr hfS hGS, ?_⟩
  · rw [← h.P.set_ hi]
    exact h.L.put (by rw [hg]; exact hi) hf hfs hL
  · rw [← h.P.set_ hi, getD_set_ne hir]
    exact h.pv
theorem RedI.fail (h : RedI S w wr L N G r c gs p X Y i) (hi : i < X.length) (hir : i ≠ r) (hn : (X.getD i []).getD c 0 ≠ 0) (hs : subL ((X.getD i []).getD c 0) p (X.getD i []) = none) : mapR (redG p r c) 0 X = none :=
  h.P.fail hi (by unfold redG; rw [if_neg (by rintro (e | e); exact hir e; exact hn e)]; exact hs)
end
theorem place_self (r q : Nat) : place r q r = q := by
  unfold place
  split
  · assumption
  · rw [if_pos rfl]

set_option maxRecDepth 100000 in
set_option maxHeartbeats 16000000 in
theorem elim_any {S : Nat → Prop} {w : World} {L n N cap r c : Nat} {gs : List (Nat × Nat)} {X : List (List Rat)} (hX : Lines S w L n gs X) (hN : gs.length = N) (hn : n = N + 1) (hNm : N ≤ 40) (hcap : N ≤ cap) (hcm : cap ≤ 1000) (hr : r ≤ c) (hc : c < N) (hS : ∀ b, S b → b < w.heap.size) :
    Calls Tryz.prog 28 #[.slice (some ⟨L, 0, none⟩) N cap, .int .i64 r, .int .i64 c] w fun e w' => Fr S w w' ∧
      ((elimS X r c = none ∧ e = .returned (.tuple #[.bool false, .int .i64 6])) ∨ (∃ b Y gs', elimS X r c = some (b, Y) ∧ e = .returned (.tuple #[.bool b, .int .i64 0]) ∧ gs'.length = N ∧ Lines S w' L n gs' Y)) := by
  have hmf : ∀ (fn : Fn) (first cap : Array Value) (w : World), (Instr.makeFunc fn first cap).run Tryz.prog w = .ok (.func fn first cap) w := fun _ _ _ _ => rfl
  have HS := Lib.hid hS; clear hS
  subst hn
  have HX := Lib.hid hX; clear hX
  have HN := Lib.hid hN; clear hN
  have HXl := Lib.hid HX.out.len
  go_enter Tryz.func28, Tryz.ntmps28
  go_wp2_with fail
  have hb0 : Below w.heap.size w (w.alloc (.cells #[.int .i64 c] 3)) := (Below.refl _ _).alloc (Nat.le_refl _) _
  have kc := Blk.new w 3 #[.int .i64 c]
  have HX0 := Lib.hid (HX.out.below hb0)
  obtain ⟨G, hGe⟩ : ∃ G, w.heap.size = G := ⟨_, rfl⟩
  rw [hGe] at kc ⊢
  have hsG : ∀ b, S b → b < G := by rw [← hGe]; exact HS.out
  have HSG := Lib.hid hsG; clear hsG
  have hf0 : Fr S w (w.alloc (.cells #[.int .i64 c] 3)) := Fr.of_below hb0
  generalize w.alloc (.cells #[.int .i64 c] 3) = W at *
  clear hb0 hGe HX
  have c0 := kc.cell 0
  simp at c0
  (with_reducible refine (indexFunc_any (m := N - r) HX0.out HN.out (by omega) (by omega) (by omega) c0 kc.lt).mono ?_)
  rintro e w1 ⟨hb1, ⟨rfl, hz⟩ | ⟨j, rfl, hj, hne, hz⟩⟩
  · have hes : elimS X r c = some (false, X) := by
      unfold elimS
      rw [← HX0.out.len, HN.out, firstNZ_none hz]
    have HES := Lib.hid hes
    have hX1 := Lib.hid (HX0.out.below hb1)
    clear hz hes c0 kc
    have hlt : decide (((r : Int) + -1) < (r : Int)) = true := by rw [decide_eq_true_eq]; omega
    go_wp2_with fail
    go_ret2
    exact ⟨hf0.tr (Fr.of_below hb1), .inr ⟨false, X, gs, HES.out, rfl, HN.out, hX1.out⟩⟩
  · have hfn := firstNZ_some hj hne hz
    obtain ⟨q, hq⟩ : ∃ q, r + j = q := ⟨_, rfl⟩
    rw [hq] at hfn
    have hqe : (r : Int) + (j : Int) = (q : Int) := by omega
    have hqN : q < N := by omega
    have hrq : r ≤ q := by omega
    have HNE := Lib.hid (hq ▸ hne)
    have HFN := Lib.hid hfn
    clear hq hne hfn hz
    have hX1 := Lib.hid (HX0.out.below hb1)
    have kc1 := kc.below hb1 kc.lt
    have hf1 := hf0.tr (Fr.of_below hb1)
    clear hf0 kc c0 HX0
    obtain ⟨V, hV, hXV, hFV⟩ := hX1.out.swap (r := r) (j := q) (by rw [HN.out]; omega) (by rw [HN.out]; omega)
    have l1 := hX1.out.cell (k := r) (by rw [HN.out]; omega)
    have l2 := hX1.out.cell (k := q) (by rw [HN.out]; omega)
    have z1 := hX1.out.blk.frozen r
    have z2 := hX1.out.blk.frozen q
    have hGL : G ≠ L := by have := HSG.out L hX1.out.top; omega
    have kcV := kc1.fr hFV (fun hs => by have := HSG.out G hs; omega)
    obtain ⟨p1, hp1⟩ : ∃ p, gs.getD r (0, 0) = p := ⟨_, rfl⟩
    obtain ⟨p2, hp2⟩ : ∃ p, gs.getD q (0, 0) = p := ⟨_, rfl⟩
    rw [hp1] at l1 hV
    rw [hp2] at l2 hV
    obtain ⟨g1, e1⟩ := p1
    obtain ⟨g2, e2⟩ := p2
    simp only at l1 l2 hV
    have HXV := Lib.hid hXV; clear hXV
    have HF := Lib.hid (hf1.tr hFV)
    have HKV := Lib.hid kcV
    clear hp1 hp2 hf1 kc1 hFV kcV
    have hrN : r < N := by omega
    have kb := hX1.out.blk.set_ r (.slice (some ⟨g2, 0, none⟩) (N + 1) e2)
    have z3 := kb.frozen q
    obtain ⟨u, l3⟩ : ∃ u, (w1.setCell ⟨L, r, none⟩ (.slice (some ⟨g2, 0, none⟩) (N + 1) e2)).cell? ⟨L, q, none⟩ = some u := by
      rw [kb.cell q]
      exact ⟨_, Array.getElem?_eq_getElem (by simp [HN.out]; exact hqN)⟩
    clear kb
    have hge : decide ((q : Int) < (r : Int)) = false := by rw [decide_eq_false_iff_not]; omega
    go_upto_region 4 with fail
    go_region
    rw [← hV]
    clear hV l1 l2 l3 z1 z2 z3 hX1 hmf
    have hbd : Below V.heap.size V V.drew := (Below.refl _ _).drew
    have HX1 := Lib.hid (HXV.out.below hbd)
    have HF1 := Lib.hid (HF.out.tr (Fr.of_below hbd))
    have k1 := HKV.out.below hbd HKV.out.lt
    clear HXV HF HKV
    generalize V.drew = V1 at *
    clear hbd
    obtain ⟨gs1, hgs1⟩ : ∃ g, swapR (0, 0) gs r q = g := ⟨_, rfl⟩
    obtain ⟨X1, hX1e⟩ : ∃ Y, swapR [] X r q = Y := ⟨_, rfl⟩
    have hXl : X.length = N := by rw [← HXl.out]; exact HN.out
    have hg1 : gs1.length = N := by rw [← hgs1, swapR_length]; exact HN.out
    have hX1l : X1.length = N := by rw [← hX1e, swapR_length]; exact hXl
    have hpc : (X1.getD r []).getD c 0 ≠ 0 := by
      rw [← hX1e, swapR_getD _ _ (by omega) (by omega), place_self]
      exact HNE.out
    have hel : Hid (elimS X r c = (divL ((X1.getD r []).getD c 0) (X1.getD r [])).bind fun p => (mapR (redG p r c) 0 (X1.set r p)).map fun Y => (true, Y)) := Lib.hid (by
      unfold elimS
      rw [hXl, HFN.out]
      simp only [hX1e])
    rw [hgs1, hX1e] at HX1
    have HG1 := Lib.hid hg1; clear hg1
    have HX1l := Lib.hid hX1l; clear hX1l
    have HPC := Lib.hid hpc; clear hpc
    clear hgs1 hX1e hXl HNE HFN
    have l1 := HX1.out.cell (k := r) (by rw [HG1.out]; omega)
    obtain ⟨fs, hfs, hLn⟩ := HX1.out.line r (by rw [HG1.out]; omega)
    have HLn := Lib.hid hLn; clear hLn
    obtain ⟨pr, hpr⟩ : ∃ p, gs1.getD r (0, 0) = p := ⟨_, rfl⟩
    have hSg := HX1.out.far r (by rw [HG1.out]; omega)
    rw [hpr] at l1 HLn hSg
    have HPR := Lib.hid hpr; clear hpr
    obtain ⟨gp, ep⟩ := pr
    simp only at l1 HLn hSg
    have q0 := k1.cell 0
    simp at q0
    obtain ⟨c0, c1, c2, c3, hx⟩ := HLn.out.cells (k := c) (by omega)
    obtain ⟨a, hae⟩ : ∃ a, fs.getD c fnil = a := ⟨_, rfl⟩
    rw [hae] at c0 c1 c2 c3 hx
    clear hae
    obtain ⟨s1, A1, n1, d1, s2, A2, n2, d2⟩ := a
    simp only at c0 c1 c2 c3
    go_wp2_with fail
    clear l1 q0 c0 c1 c2 c3
    have hSV : ∀ b, S b → b < V1.heap.size := fun b hb => Nat.lt_trans (HSG.out b hb) k1.lt
    (with_reducible refine (ldivide_any HLn.out hfs (by omega) hx HPC.out hSV).mono ?_)
    rintro e w2 ⟨hf2, ⟨ys, fs2, hdv, rfl, hfs2, hL2⟩ | ⟨hdv, rfl⟩⟩
    · have hGS : ¬ S G := fun hs => by have := HSG.out G hs; omega
      have hfS : Fr S V1 w2 := hf2.more (fun b hb => by subst hb; exact HLn.out.1)
      have hst : RedI S w w2 L N G r c gs1 ys (X1.set r ys) [] 0 := ⟨by
          have h := HX1.out.put (k := r) (by rw [HG1.out]; omega) (by rw [HPR.out]; exact hf2) hfs2 (by rw [HPR.out]; exact hL2)
          simpa using h, PartR.start _ _, HF1.out.tr hfS, k1.fr hfS hGS, by
          rw [List.drop_zero, List.nil_append, getD_set_self (by rw [HX1l.out]; omega)]⟩
      have HST := Lib.hid hst; clear hst
      have HEL := Lib.hid (show elimS X r c = (mapR (redG ys r c) 0 (X1.set r ys)).map fun Y => (true, Y) by rw [hel.out, hdv]; rfl)
      have HGS := Lib.hid hGS; clear hGS
      obtain ⟨X2, hX2⟩ : ∃ Y, X1.set r ys = Y := ⟨_, rfl⟩
      have HX2l := Lib.hid (show X2.length = N by rw [← hX2, List.length_set]; exact HX1l.out)
      rw [hX2] at HST HEL
      clear hdv hf2 hfS hx HLn HX1 HF1 k1 hL2 hX2 hel HPC HX1l
      go_wp2_with fail
      go_loopw [53] (fun iv wr => ∃ (i : Nat) (Y : List (List Rat)), i ≤ N ∧ iv = .int .i64 i ∧ Hid (RedI S w wr L N G r c gs1 ys X2 Y i)) (fun iv _ => N - (intOf iv).toNat)
      case atStart => exact ⟨0, [], Nat.zero_le _, rfl, HST⟩
      case round =>
        obtain ⟨i, Y, hi, rfl, hI⟩ := hrel
        clear HST
        by_cases hgo : i < N
        · have l1 := hI.out.L.cell (k := i) (by rw [HG1.out]; omega)
          have hlt := hI.out.L.blk.lt
          obtain ⟨fs3, hfs3, hLn⟩ := hI.out.L.line i (by rw [HG1.out]; omega)
          rw [hI.out.P.now] at hLn
          have HLn := Lib.hid hLn; clear hLn
          have hne1 := Lib.hid (fun (h : i ≠ r) => hI.out.L.one r i (by rw [HG1.out]; omega) (by rw [HG1.out]; omega) (Ne.symm h))
          obtain ⟨fs4, hfs4, hL4⟩ := hI.out.L.line r (by rw [HG1.out]; omega)
          rw [hI.out.pv] at hL4
          have HL4 := Lib.hid hL4; clear hL4
          obtain ⟨pi, hpi⟩ : ∃ p, gs1.getD i (0, 0) = p := ⟨_, rfl⟩
          rw [hpi] at l1 HLn hne1
          rw [HPR.out] at hne1 HL4
          have HPI := Lib.hid hpi; clear hpi
          obtain ⟨gi, ei⟩ := pi
          simp only at l1 HLn hne1 HL4
          by_cases hir : i = r
          · subst hir
            have hI1 := Lib.hid (hI.out.skip (by rw [HX2l.out]; exact hgo) (.inl rfl))
            clear HLn hne1 HL4 hI
            have heq : ((i : Int) == (i : Int)) = true := by simp
            go_wp2_with fail
            go_roundw
            case rel => exact ⟨i + 1, _, by omega, rfl, hI1⟩
            case measure => simp [intOf]; omega
          · have heq : ((i : Int) == (r : Int)) = false := by rw [beq_eq_false_iff_ne]; omega
            have q0 := hI.out.kc.cell 0
            simp at q0
            obtain ⟨c0, c1, c2, c3, hx⟩ := HLn.out.cells (k := c) (by omega)
            obtain ⟨a, hae⟩ : ∃ a, fs3.getD c fnil = a := ⟨_, rfl⟩
            rw [hae] at c0 c1 c2 c3 hx
            clear hae
            obtain ⟨s1, A1, n1, d1, s2, A2, n2, d2⟩ := a
            simp only at c0 c1 c2 c3
            go_wp2_with fail
            clear l1 q0 c0 c1 c2 c3
            cases hbv : decide ((X2.getD i []).getD c 0 = 0) with
            | true =>
              (with_reducible refine (isZero_any hx true hbv).mono ?_)
              rintro e u1 ⟨rfl, hb1⟩
              have hI1 := Lib.hid ((hI.out.below hb1).skip (by rw [HX2l.out]; exact hgo) (.inr (of_decide_eq_true hbv)))
              clear HLn hne1 HL4 hI hx hbv
              go_wp2_with fail
              go_roundw
              case rel => exact ⟨i + 1, _, by omega, rfl, hI1⟩
              case measure => simp [intOf]; omega
            | false =>
              (with_reducible refine (isZero_any hx false hbv).mono ?_)
              rintro e u1 ⟨rfl, hb1⟩
              have hI1 := Lib.hid (hI.out.below hb1)
              have hLi := Lib.hid (HLn.out.below hb1)
              have hLp := Lib.hid (HL4.out.below hb1)
              have hx1 := hx.below hb1
              have hnz := Lib.hid (of_decide_eq_false hbv)
              have hgg := hne1.out hir
              clear HLn HL4 hI hx hbv hne1
              have q0 := hI1.out.kc.cell 0
              simp at q0
              obtain ⟨c0, c1, c2, c3, _⟩ := hLi.out.cells (k := c) (by omega)
              obtain ⟨a, hae⟩ : ∃ a, fs3.getD c fnil = a := ⟨_, rfl⟩
              have hx2 := (hLi.out.cells (k := c) (by omega)).2.2.2.2
              rw [hae] at c0 c1 c2 c3 hx2
              clear hae hx1
              obtain ⟨s1, A1, n1, d1, s2, A2, n2, d2⟩ := a
              simp only at c0 c1 c2 c3
              go_wp2_with fail
              clear q0 c0 c1 c2 c3
              have hSu : ∀ b, S b → b < u1.heap.size := fun b hb => Nat.lt_trans (HSG.out b hb) hI1.out.kc.lt
              (with_reducible refine (lsubtract_any hLi.out hfs3 hLp.out hfs4 hgg (by omega) hx2 hSu).mono ?_)
              rintro e u2 ⟨hf3, ⟨ys3, fs5, hsb, rfl, hfs5, hL5⟩ | ⟨hsb, rfl⟩⟩
              · have hI2 := Lib.hid (hI1.out.put (by rw [HX2l.out]; exact hgo) hir (by rw [HG1.out, HX2l.out]) hnz.out HGS.out (by rw [HPI.out]; exact hf3) hfs5 (by rw [HPI.out]; exact hL5) hsb)
                clear hf3 hsb hL5 hx2 hLi hLp hI1
                go_wp2_with fail
                go_roundw
                case rel => exact ⟨i + 1, _, by omega, rfl, hI2⟩
                case measure => simp [intOf]; omega
              · have hes := Lib.hid (show elimS X r c = none by rw [HEL.out, hI1.out.fail (by rw [HX2l.out]; exact hgo) hir hnz.out hsb]; rfl)
                have hff := Lib.hid (hI1.out.fr.tr (hf3.more (fun b hb => by subst hb; exact hLi.out.1)))
                clear hf3 hsb hx2 hLi hLp hI1
                go_wp2_with fail
                go_ret2
                exact ⟨hff.out, .inl ⟨hes.out, rfl⟩⟩
        · have : i = N := by omega
          subst this
          have hd := Lib.hid (show mapR (redG ys r c) 0 X2 = some Y from (by have h := hI.out.P; rw [← HX2l.out] at h; exact h.done))
          have hes := Lib.hid (show elimS X r c = some (true, Y) by rw [HEL.out, hd.out]; rfl)
          have hLL := hI.out.L
          rw [← HX2l.out, List.drop_length, List.append_nil, HX2l.out] at hLL
          have HLL := Lib.hid hLL; clear hLL
          have hff := Lib.hid hI.out.fr
          clear hI
          go_wp2_with fail
          go_ret2
          exact ⟨hff.out, .inr ⟨true, Y, gs1, hes.out, rfl, HG1.out, HLL.out⟩⟩
    · have hes := Lib.hid (show elimS X r c = none by rw [hel.out, hdv]; rfl)
      have hff := Lib.hid (HF1.out.tr (hf2.more (fun b hb => by subst hb; exact HLn.out.1)))
      clear hdv hf2 hx HLn
      go_wp2_with fail
      go_ret2
      exact ⟨hff.out, .inl ⟨hes.out, rfl⟩⟩

end Go.Proofs.YtgpmmpajnfbecaaGreat

namespace Go.Proofs.YtgpmmpajnfbecaaGreat
open Go.RowKit

/-- The elimination from the column c on, m columns, up to the first free one: this column, and the lines. -/
def runFree : Nat → Nat → List (List Rat) → Option (Nat × List (List Rat))
  | 0, c, X => some (c, X)
  | m + 1, c, X => match elimS X c c with
    | none => none
    | some (false, Y) => some (c, Y)
    | some (true, Y) => runFree m (c + 1) Y
theorem runFree_fail {m c : Nat} {X : List (List Rat)} (h : elimS X c c = none) : runFree (m + 1) c X = none := by rw [runFree, h]
theorem runFree_free {m c : Nat} {X Y : List (List Rat)} (h : elimS X c c = some (false, Y)) : runFree (m + 1) c X = some (c, Y) := by rw [runFree, h]
theorem runFree_on {m c : Nat} {X Y : List (List Rat)} (h : elimS X c c = some (true, Y)) : runFree (m + 1) c X = runFree m (c + 1) Y := by rw [runFree, h]

/-- What the loop over the columns has. -/
structure ColI (S : Nat → Prop) (w wr : World) (L N : Nat) (gs : List (Nat × Nat)) (X Y : List (List Rat)) (c : Nat) : Prop where
  L : Lines S wr L (N + 1) gs Y
  len : gs.length = N
  run : runFree N 0 X = runFree (N - c) c Y
  fr : Fr S w wr

set_option maxRecDepth 100000 in
set_option maxHeartbeats 8000000 in
theorem toFree_any {S : Nat → Prop} {w : World} {L N cap : Nat} {gs : List (Nat × Nat)} {X : List (List Rat)} (hX : Lines S w L (N + 1) gs X) (hN : gs.length = N) (hNm : N ≤ 40) (hcap : N ≤ cap) (hcm : cap ≤ 1000) (hS : ∀ b, S b → b < w.heap.size) :
    Calls Tryz.prog 23 #[.slice (some ⟨L, 0, none⟩) N cap] w fun e w' => Fr S w w' ∧
      ((runFree N 0 X = none ∧ ∃ k : Int, e = .returned (.tuple #[.int .i64 k, .int .i64 6])) ∨ (∃ (k : Nat) (Y : List (List Rat)) (gs' : List (Nat × Nat)), runFree N 0 X = some (k, Y) ∧ e = .returned (.tuple #[.int .i64 k, .int .i64 0]) ∧ k ≤ N ∧ gs'.length = N ∧ Lines S w' L (N + 1) gs' Y)) := by
  have HS := Lib.hid hS; clear hS
  have HST := Lib.hid (show ColI S w w L N gs X X 0 from ⟨hX, hN, rfl, Fr.refl _ _⟩)
  clear hX hN
  go_enter Tryz.func23, Tryz.ntmps23
  go_wp2_with fail
  go_loopw [9] (fun iv wr => ∃ (c : Nat) (gs' : List (Nat × Nat)) (Y : List (List Rat)), c ≤ N ∧ iv = .int .i64 c ∧ Hid (ColI S w wr L N gs' X Y c)) (fun iv _ => N - (intOf iv).toNat)
  case atStart => exact ⟨0, gs, X, Nat.zero_le _, rfl, HST⟩
  case round =>
    obtain ⟨c, gs', Y, hc, rfl, hI⟩ := hrel
    clear HST
    by_cases hgo : c < N
    · have hSw : ∀ b, S b → b < wr.heap.size := fun b hb => Nat.lt_of_lt_of_le (HS.out b hb) hI.out.fr.size
      have hm : N - c = (N - (c + 1)) + 1 := by omega
      go_wp2_with fail
      (with_reducible refine (elim_any (n := N + 1) hI.out.L hI.out.len rfl hNm hcap hcm (Nat.le_refl c) hgo hSw).mono ?_)
      rintro e w1 ⟨hf, ⟨hel, rfl⟩ | ⟨b, Z, gs2, hel, rfl, hg2, hL2⟩⟩
      · have hres := Lib.hid (show runFree N 0 X = none by rw [hI.out.run, hm, runFree_fail hel])
        have hff := Lib.hid (hI.out.fr.tr hf)
        clear hI hel hf hSw hm
        go_wp2_with fail
        go_ret2
        exact ⟨hff.out, .inl ⟨hres.out, _, rfl⟩⟩
      · cases b with
        | true =>
          have hI2 := Lib.hid (show ColI S w w1 L N gs2 X Z (c + 1) from ⟨hL2, hg2, by rw [hI.out.run, hm, runFree_on hel], hI.out.fr.tr hf⟩)
          clear hI hel hf hSw hm hL2
          go_wp2_with fail
          go_roundw
          case rel => exact ⟨c + 1, _, _, by omega, rfl, hI2⟩
          case measure => simp [intOf]; omega
        | false =>
          have hres := Lib.hid (show runFree N 0 X = some (c, Z) by rw [hI.out.run, hm, runFree_free hel])
          have hff := Lib.hid (hI.out.fr.tr hf)
          have hLL := Lib.hid hL2
          clear hI hel hf hSw hm hL2
          go_wp2_with fail
          go_ret2
          exact ⟨hff.out, .inr ⟨c, Z, gs2, hres.out, rfl, by omega, hg2, hLL.out⟩⟩
    · have : c = N := by omega
      subst this
      have hres := Lib.hid (show runFree c 0 X = some (c, Y) by rw [hI.out.run, Nat.sub_self, runFree])
      have hff := Lib.hid hI.out.fr
      have hLL := Lib.hid hI.out.L
      have hg := Lib.hid hI.out.len
      clear hI
      go_wp2_with fail
      go_ret2
      exact ⟨hff.out, .inr ⟨c, Y, gs', hres.out, rfl, Nat.le_refl _, hg.out, hLL.out⟩⟩

end Go.Proofs.YtgpmmpajnfbecaaGreat
