/- Walks: the claim's goesBack. -/
import Derived.Test.YteiojobgjdfdpaaSe
import Derived.Test.YteiojobgjdfdpaaSm
import Derived.Deep.RegionHeld3
namespace Go.Proofs.Yteiojobgjdfdpaa
open Go.RowKit Go.Sort

theorem zeroB (w : World) : (zeroValue 4).run Try.prog w = .ok (.bool false) w := by kernel_rfl
/-- What is known of the nodes, as a map. -/
def mf (M : Nat → Option Bool) (x : Int) : Option Value := if 0 ≤ x then (M x.toNat).map Value.bool else none
theorem mf_at (M : Nat → Option Bool) (v : Nat) : mf M (v : Int) = (M v).map Value.bool := by
  unfold mf; rw [if_pos (by omega), Int.toNat_natCast]
def upd (M : Nat → Option Bool) (v : Nat) (r : Bool) (k : Nat) : Option Bool := if k = v then some r else M k
theorem upd_same (M : Nat → Option Bool) (v : Nat) (r : Bool) : upd M v r v = some r := if_pos rfl
theorem upd_ne {M : Nat → Option Bool} {v k : Nat} {r : Bool} (h : k ≠ v) : upd M v r k = M k := if_neg h
theorem mf_set (M : Nat → Option Bool) (v : Nat) (r : Bool) (x : Int) : mf (upd M v r) x = if x = (v : Int) then some (.bool r) else mf M x := by
  unfold mf
  by_cases h : 0 ≤ x
  · rw [if_pos h, if_pos h]
    by_cases e : x = (v : Int)
    · rw [if_pos e, show x.toNat = v by omega, upd_same]; rfl
    · rw [if_neg e, upd_ne (by omega)]
  · rw [if_neg h, if_neg h, if_neg (by omega)]
/-- What goesBack keeps; S: the nodes of the way up to here. -/
structure GI (F : Nat → Nat) (src : Nat) (S : List Nat) (M : Nat → Option Bool) : Prop where
  s : M src = some true
  t : ∀ v, M v = some true → Back F src v
  f : ∀ v, M v = some false → v ∉ S → ¬ Back F src v
  i : ∀ v ∈ S, M v = some false
theorem GI.known {F : Nat → Nat} {src : Nat} {S : List Nat} {M : Nat → Option Bool} (h : GI F src S M) (hF : F src = src) {v : Nat} {b : Bool} (hv : M v = some b) (hS : v ∈ S → ∃ j, 0 < j ∧ itr F j v = v) : b = true ↔ Back F src v := by
  constructor
  · rintro rfl; exact h.t v hv
  · intro hb
    cases b with
    | true => rfl
    | false =>
      by_cases hm : v ∈ S
      · obtain ⟨j, hj, hc⟩ := hS hm
        have := Back.circle hF hj hc hb
        subst this
        have := h.s
        rw [hv] at this
        cases this
      · exact absurd hb (h.f v hv hm)
theorem GI.push {F : Nat → Nat} {src : Nat} {S : List Nat} {M : Nat → Option Bool} (h : GI F src S M) {v : Nat} (hv : M v = none) : GI F src (v :: S) (upd M v false) := by
  refine ⟨?_, fun u hu => ?_, fun u hu hn => ?_, fun u hu => ?_⟩
  · rw [upd_ne (fun e => by have := h.s; rw [e, hv] at this; cases this)]
    exact h.s
  · by_cases e : u = v
    · rw [e, upd_same] at hu; cases hu
    · rw [upd_ne e] at hu; exact h.t u hu
  · simp only [List.mem_cons, not_or] at hn
    rw [upd_ne hn.1] at hu
    exact h.f u hu hn.2
  · by_cases e : u = v
    · rw [e, upd_same]
    · rw [upd_ne e]
      rcases List.mem_cons.1 hu with k | k
      · exact absurd k e
      · exact h.i u k
theorem GI.pop {F : Nat → Nat} {src : Nat} {S : List Nat} {M : Nat → Option Bool} {v : Nat} (h : GI F src (v :: S) M) (hS : v ∉ S) {r : Bool} (hr : r = true ↔ Back F src v) : GI F src S (upd M v r) := by
  have hsv : src ≠ v := fun e => by
    have h1 := h.s
    have h2 := h.i v (by simp)
    rw [e, h2] at h1; cases h1
  refine ⟨?_, fun u hu => ?_, fun u hu hn => ?_, fun u hu => ?_⟩
  · rw [upd_ne hsv]; exact h.s
  · by_cases e : u = v
    · rw [e, upd_same] at hu
      injection hu with hu
      rw [e]; exact hr.1 hu
    · rw [upd_ne e] at hu; exact h.t u hu
  · by_cases e : u = v
    · rw [e, upd_same] at hu
      injection hu with hu
      rw [e]
      intro hb
      rw [hr.2 hb] at hu; cases hu
    · rw [upd_ne e] at hu
      exact h.f u hu (by simp only [List.mem_cons, not_or]; exact ⟨e, hn⟩)
  · have e : u ≠ v := fun e => hS (by rw [← e]; exact hu)
    rw [upd_ne e]
    exact h.i u (by simp [hu])

/-- What goesBack returns. -/
def GoesP (w : World) (F : Nat → Nat) (src : Nat) (S : List Nat) (mb v : Nat) (e : Ending) (w' : World) : Prop :=
  ∃ r M', e = .returned (.bool r) ∧ (r = true ↔ Back F src v) ∧ GI F src S M' ∧ IMap w' mb (mf M') ∧ Fr (· = mb) w w'

theorem FollP.next {n : Nat} {l : List Am} {src v : Nat} {t : Int} {b : Bool} {lab : List Lb} (hR : RRight n l) (h : FollP l src t b lab v) (hne : v ≠ src) (hr : (lb lab v).1 ≠ -1) :
    ∃ i : Nat, i < l.length ∧ (lb lab v).2 = (i : Int) ∧ (am l i).a.f = ((par l src lab v : Nat) : Int) ∧ par l src lab v < n ∧ (lb lab (par l src lab v)).1 ≠ -1 := by
  rcases h with ⟨h1, _⟩ | ⟨_, h1, _⟩ | ⟨_, _, hT, i, hi, hb, ht, hp⟩
  · exact absurd h1 hne
  · exact absurd h1 hr
  · have hra := hR.2.2.2 i hi
    have hpu : par l src lab v = (am l i).a.f.toNat := by
      unfold par
      rw [if_neg hne, hb, Int.toNat_natCast]
    have h1 := hra.1.1
    have h2 := hra.2.1
    obtain ⟨hTu, _⟩ := pass_time (a := (am l i).a) (b := b) (x := (lb lab (am l i).a.f.toNat).1) (by rw [hp]; exact hT)
    refine ⟨i, hi, hb, by rw [hpu]; omega, by rw [hpu]; omega, ?_⟩
    rw [hpu]
    have := hTu.1
    omega

theorem Fr.blk {w w' : World} {mb g : Nat} {t : TypeId} {cs : Array Value} (h : Fr (· = mb) w w') (hb : Blk w g t cs) (hne : g ≠ mb) : Blk w' g t cs := hb.fr h hne
theorem ArcsAt.fr {B mb : Nat} {w w' : World} {A : Option Addr} {l : List Am} (h : ArcsAt B w A l) (hf : Fr (· = mb) w w') (hB : B ≤ mb) (hw : B ≤ w.heap.size) : ArcsAt B w' A l :=
  h.below (hf.below (fun b hb => by rw [hb]; exact hB) hw)
theorem LbsAt.fr {B mb : Nat} {w w' : World} {A : Option Addr} {l : List Lb} (h : LbsAt B w A l) (hf : Fr (· = mb) w w') (hB : B ≤ mb) (hw : B ≤ w.heap.size) : LbsAt B w' A l :=
  h.below (hf.below (fun b hb => by rw [hb]; exact hB) hw)
theorem Fr.of_grown {mb : Nat} {w w' : World} (h : w.grownBy w' (some mb)) : Fr (· = mb) w w' :=
  ⟨h.os, h.tape, h.output, h.size, fun b hb hn => h.block b hb (fun e => hn (by injection e))⟩

set_option maxRecDepth 100000 in
set_option maxHeartbeats 4000000 in
theorem goes_seen (A : Option Addr) (m c src : Nat) (t : Int) (b : Bool) (L : Option Addr) (n c2 mb : Nat) (F : Nat → Nat) (hF : F src = src) (S : List Nat) (M : Nat → Option Bool) (v : Nat) (w : World) (r : Bool) (hch : ∀ u ∈ S, ∃ j, 0 < j ∧ itr F j u = v) (hG : GI F src S M) (hv : v < 3000) (hM : IMap w mb (mf M)) (hMv : M v = some r) :
    Calls Try.prog 81 #[clv A m c src t b L n c2, .int .i64 v, .map (some mb)] w (GoesP w F src S mb v) := by
  have hv64 : isI64 (v : Int) := by unfold isI64; omega
  have hB1 := (Below.refl w.heap.size w).alloc (Nat.le_refl _) (.cells #[.slice A m c, .int .i64 src, .int .i64 t, .bool b, .slice L n c2] 79)
  have hM1 := hM.same (w' := w.alloc (.cells #[.slice A m c, .int .i64 src, .int .i64 t, .bool b, .slice L n c2] 79)) (hB1.block mb hM.lt)
  have hlk : lookRes (mf M) (v : Int) (.bool false) true = .tuple #[.bool r, .bool true] := by
    unfold lookRes; rw [mf_at, hMv]; rfl
  have hkn := hG.known hF hMv (fun h => hch v h)
  have HF := Lib.hid (show GoesP w F src S mb v (.returned (.bool r)) (w.alloc (.cells #[.slice A m c, .int .i64 src, .int .i64 t, .bool b, .slice L n c2] 79)) from ⟨r, M, rfl, hkn, hG, hM1, Fr.of_below hB1⟩)
  clear hch hG hM hMv hkn hF
  go_enter Try.func81, Try.ntmps81
  go_wp2_with (at_lookup; refine wpList_look _ rfl _ _ 99 true rfl 3 4 Try.underlying3 Try.underlying99 (zeroB _) mb _ rfl hM1 v rfl hv64 _ hlk ?_)
  go_ret
  exact HF.out

theorem GoesP.last {w w3 w4 w5 : World} {F : Nat → Nat} {src mb v : Nat} {S : List Nat} {M2 : Nat → Option Bool} {r : Bool} (hFs : F src = src) (h3 : Fr (· = mb) w w3) (hF2 : Fr (· = mb) w3 w4) (hg : w4.grownBy w5 (some mb)) (hr : r = true ↔ Back F src (F v)) (hG : GI F src (v :: S) M2) (hvS : v ∉ S) (hM : IMap w5 mb (fun y => if y = (v : Int) then some (.bool r) else mf M2 y)) :
    GoesP w F src S mb v (.returned (.bool r)) w5 ∧ IMap w5 mb (mf (upd M2 v r)) := by
  have hr' : r = true ↔ Back F src v := hr.trans (Back.step hFs)
  have hM' := hM.congr (g := mf (upd M2 v r)) (fun x => mf_set M2 v r x)
  exact ⟨⟨r, upd M2 v r, rfl, hr', hG.pop hvS hr', hM', h3.tr (hF2.tr (Fr.of_grown hg))⟩, hM'⟩

set_option maxRecDepth 100000 in
set_option maxHeartbeats 16000000 in
theorem goes_any (l : List Am) (A : Option Addr) (m c src : Nat) (t : Int) (b : Bool) (L : Option Addr) (n c2 : Nat) (lab : List Lb) (mb B : Nat) (hl : l.length = m) (hR : RRight n l) (hn : lab.length = n) (hB : B ≤ mb) (hfo : ∀ v, v < n → FollP l src t b lab v) :
    ∀ (k : Nat) (S : List Nat) (M : Nat → Option Bool) (v : Nat) (w : World), n - S.length ≤ k → S.Nodup → (∀ u ∈ S, u < n) → (∀ u ∈ S, ∃ j, 0 < j ∧ itr (par l src lab) j u = v) → GI (par l src lab) src S M → v < n → (lb lab v).1 ≠ -1 →
      ArcsAt B w A l → LbsAt B w L lab → IMap w mb (mf M) →
      Calls Try.prog 81 #[clv A m c src t b L n c2, .int .i64 v, .map (some mb)] w (GoesP w (par l src lab) src S mb v) := by
  have hn2 : n ≤ 2000 := by have := hR.2.1; omega
  intro k
  induction k with
  | zero =>
    intro S M v w hk hnd hS hch hG hv hr hA hL hM
    cases hMv : M v with
    | some r => exact goes_seen A m c src t b L n c2 mb _ par_src S M v w r hch hG (by omega) hM hMv
    | none =>
      have h2 := nodup_len n (v :: S) (List.nodup_cons.2 ⟨fun h => (by rw [hG.i v h] at hMv; cases hMv), hnd⟩) (fun u hu => by
        rcases List.mem_cons.1 hu with rfl | hu
        · exact hv
        · exact hS u hu)
      simp at h2
      omega
  | succ k ih =>
    intro S M v w hk hnd hS hch hG hv hr hA hL hM
    cases hMv : M v with
    | some r => exact goes_seen A m c src t b L n c2 mb _ par_src S M v w r hch hG (by omega) hM hMv
    | none =>
      have hv64 : isI64 (v : Int) := by unfold isI64; omega
      have hml := hM.lt
      have hvS : v ∉ S := fun h => by rw [hG.i v h] at hMv; cases hMv
      have hne : v ≠ src := fun e => by have := hG.s; rw [← e, hMv] at this; cases this
      obtain ⟨i, hil, hby, hfr, hun, hur⟩ := (hfo v hv).next hR hne hr
      have hG1 := hG.push hMv
      have hnd1 : (v :: S).Nodup := List.nodup_cons.2 ⟨hvS, hnd⟩
      have hS1 : ∀ u ∈ v :: S, u < n := fun u hu => by
        rcases List.mem_cons.1 hu with rfl | hu
        · exact hv
        · exact hS u hu
      have hch1 : ∀ u ∈ v :: S, ∃ j, 0 < j ∧ itr (par l src lab) j u = par l src lab v := fun u hu => by
        rcases List.mem_cons.1 hu with rfl | hu
        · exact ⟨1, by omega, rfl⟩
        · obtain ⟨j, hj, hc⟩ := hch u hu
          exact ⟨j + 1, by omega, by rw [itr_succ, hc]⟩
      have h1 := nodup_len n _ hnd1 hS1
      have hIH := fun (W : World) => ih (v :: S) (upd M v false) (par l src lab v) W (by simp at h1 ⊢; omega) hnd1 hS1 hch1 hG1 hun hur
      have hBw : B ≤ w.heap.size := by omega
      have hlk : lookRes (mf M) (v : Int) (.bool false) true = .tuple #[.bool false, .bool false] := by
        unfold lookRes; rw [mf_at, hMv]; rfl
      have hB1 := (Below.refl w.heap.size w).alloc (Nat.le_refl _) (.cells #[.slice A m c, .int .i64 src, .int .i64 t, .bool b, .slice L n c2] 79)
      have hbk := Blk.new w 79 #[.slice A m c, .int .i64 src, .int .i64 t, .bool b, .slice L n c2]
      have hM1 := hM.same (w' := w.alloc (.cells #[.slice A m c, .int .i64 src, .int .i64 t, .bool b, .slice L n c2] 79)) (hB1.block mb hml)
      have hF1 : Fr (· = mb) w (w.alloc (.cells #[.slice A m c, .int .i64 src, .int .i64 t, .bool b, .slice L n c2] 79)) := Fr.of_below hB1
      obtain ⟨g, off, hLe, hg, _, x1⟩ := hL v (by omega)
      obtain ⟨b2, o2, hAe, hb2, y0, _⟩ := hA i hil
      subst hLe; subst hAe
      rw [hby] at x1
      rw [hfr] at y0
      have hgm : g ≠ mb := by omega
      have hbm : b2 ≠ mb := by omega
      have him : i < m := by omega
      have HA := Lib.hid (And.intro hA hL)
      have HG1 := Lib.hid hvS
      obtain ⟨F, hF⟩ : ∃ F, par l src lab = F := ⟨_, rfl⟩
      have hFs : F src = src := by rw [← hF]; exact par_src
      rw [hF] at hIH y0 ⊢
      obtain ⟨u, hu⟩ : ∃ u, F v = u := ⟨_, rfl⟩
      rw [hu] at hIH y0
      have HU := Lib.hid (And.intro hu hFs)
      have HIH := Lib.hid hIH
      clear ih hk hnd hS hch hG hr hM hfo hR hn hl hvS hne hby hfr hun hur hG1 hnd1 hS1 hch1 h1 hIH hA hL hF hFs hu hil hMv
      obtain ⟨C, hC⟩ : ∃ C, w.heap.size = C := ⟨_, rfl⟩
      have hCl : C < (w.alloc (.cells #[.slice (some ⟨b2, o2, none⟩) m c, .int .i64 src, .int .i64 t, .bool b, .slice (some ⟨g, off, none⟩) n c2] 79)).heap.size := by simp; omega
      obtain ⟨W1, hW1⟩ : ∃ W, w.alloc (.cells #[.slice (some ⟨b2, o2, none⟩) m c, .int .i64 src, .int .i64 t, .bool b, .slice (some ⟨g, off, none⟩) n c2] 79) = W := ⟨_, rfl⟩
      go_enter Try.func81, Try.ntmps81
      go_upto_region 1 with fail
      rw [hC] at hbk
      rw [hW1] at hB1 hbk hM1 hF1 hCl
      clear hW1
      have hCm : C ≠ mb := by omega
      have HB := Lib.hid (And.intro hB1 (And.intro hF1 hbk))
      clear hB1 hF1 hbk
      go_upto_region 4 with (at_lookup; refine wpList_look _ rfl _ _ 99 true rfl 3 4 Try.underlying3 Try.underlying99 (zeroB _) mb _ rfl hM1 v rfl hv64 _ hlk ?_)
      go_upto_region 5 with (at_mapUpdate; refine wpList_put _ rfl _ _ _ 99 rfl 3 4 Try.underlying3 Try.underlying99 mb _ rfl hM1 v rfl hv64 _ rfl ?_; intro w3 hm3 hg3 hs3)
      have hM3 := hm3.congr (g := mf (upd M v false)) (fun x => mf_set M v false x)
      have hF3 := HB.out.2.1.tr (Fr.of_grown hg3)
      have hbk3 := HB.out.2.2.fr (Fr.of_grown hg3) hCm
      have hA3 : ArcsAt B w3 _ l := HA.out.1.fr hF3 hB hBw
      have hL3 : LbsAt B w3 _ lab := HA.out.2.fr hF3 hB hBw
      have x1 : w3.cell? ⟨g, off + v * 2 + 1, none⟩ = some (.int .i64 i) := (World.cell?_of_block (a := ⟨g, off + v * 2 + 1, none⟩) (hF3.2.2.2.2 g (by omega) hgm)).trans x1
      have y0 : w3.cell? ⟨b2, o2 + i * 4, none⟩ = some (.int .i64 u) := (World.cell?_of_block (a := ⟨b2, o2 + i * 4, none⟩) (hF3.2.2.2.2 b2 (by omega) hbm)).trans y0
      have a0 : w3.cell? ⟨C, 0, none⟩ = some (.slice (some ⟨b2, o2, none⟩) m c) := hbk3.cell 0
      have a1 : w3.cell? ⟨C, 1, none⟩ = some (.int .i64 src) := hbk3.cell 1
      have a2 : w3.cell? ⟨C, 2, none⟩ = some (.int .i64 t) := hbk3.cell 2
      have a3 : w3.cell? ⟨C, 3, none⟩ = some (.bool b) := hbk3.cell 3
      have a4 : w3.cell? ⟨C, 4, none⟩ = some (.slice (some ⟨g, off, none⟩) n c2) := hbk3.cell 4
      have HK : Hid (∀ W, Fr (· = mb) w3 W → W.cell? ⟨g, off + v * 2 + 1, none⟩ = some (.int .i64 i) ∧ W.cell? ⟨b2, o2 + i * 4, none⟩ = some (.int .i64 u) ∧ W.cell? ⟨C, 0, none⟩ = some (.slice (some ⟨b2, o2, none⟩) m c) ∧ W.cell? ⟨C, 1, none⟩ = some (.int .i64 src) ∧ W.cell? ⟨C, 2, none⟩ = some (.int .i64 t) ∧ W.cell? ⟨C, 3, none⟩ = some (.bool b) ∧ W.cell? ⟨C, 4, none⟩ = some (.slice (some ⟨g, off, none⟩) n c2)) := Lib.hid (fun W h =>
        have hc : ∀ {a : Addr} {x : Value}, w3.cell? a = some x → a.block ≠ mb → W.cell? a = some x := fun h1 h2 => (World.cell?_of_block (h.2.2.2.2 _ (block_lt_of_cell h1) h2)).trans h1
        ⟨hc x1 hgm, hc y0 hbm, hc a0 hCm, hc a1 hCm, hc a2 hCm, hc a3 hCm, hc a4 hCm⟩)
      have HX := Lib.hid (And.intro hF3 (And.intro hM3 (And.intro hA3 hL3)))
      have HFd : Hid (Fr (· = mb) w3 w3.drew) := Lib.hid ((Fr.refl _ w3).drew)
      clear hF3 hM3 hA3 hL3 hbk3 hm3 hg3 hs3 hM1 hlk x1 y0 a0 a1 a2 a3 a4
      go_region_held3 (fun W => W.cell? ⟨g, off + v * 2 + 1, none⟩ = some (.int .i64 i) ∧ W.cell? ⟨b2, o2 + i * 4, none⟩ = some (.int .i64 u) ∧ W.cell? ⟨C, 0, none⟩ = some (.slice (some ⟨b2, o2, none⟩) m c) ∧ W.cell? ⟨C, 1, none⟩ = some (.int .i64 src) ∧ W.cell? ⟨C, 2, none⟩ = some (.int .i64 t) ∧ W.cell? ⟨C, 3, none⟩ = some (.bool b) ∧ W.cell? ⟨C, 4, none⟩ = some (.slice (some ⟨g, off, none⟩) n c2))
        (first | exact HK.out _ HFd.out | exact HK.out _ HF4.out | exact HK.out _ HF5.out)
        (first
          | (go_at_call 81; refine (HIH.out w3.drew HX.out.2.2.1 HX.out.2.2.2 HX.out.2.1).mono ?_; rintro e w4 ⟨r, M2, rfl, hr2, hG2, hM2, hF4⟩; obtain ⟨w5, hrun, hM5, hg5, hs5⟩ := hM2.store (P := Try.prog) Try.underlying3 Try.underlying99 hv64 (.bool r); have HF4 := Lib.hid (show Fr (· = mb) w3 w4 from hF4); have HF5 := Lib.hid (show Fr (· = mb) w3 w5 from HF4.out.tr (Fr.of_grown hg5)); have HR2 := Lib.hid (And.intro hr2 (And.intro hG2 (And.intro hM5 hg5))); clear hr2 hG2 hM2 hF4 hM5 hg5 hs5))
      · have hend := GoesP.last (w := w) HU.out.2 HX.out.1 (show Fr (· = mb) w3 w4 from HF4.out) HR2.out.2.2.2 (by rw [HU.out.1]; exact HR2.out.1) HR2.out.2.1 HG1.out HR2.out.2.2.1
        have hM6 := hend.2
        have HE := Lib.hid hend.1
        have hlk2 : lookRes (mf (upd M2 v r)) (v : Int) (.bool false) false = .bool r := by
          unfold lookRes; rw [mf_at, upd_same]; rfl
        clear hend hrun HR2 HX HIH
        go_wp2_with (at_lookup; refine wpList_look _ rfl _ _ 99 false rfl 3 4 Try.underlying3 Try.underlying99 (zeroB _) mb _ rfl hM6 v rfl hv64 _ hlk2 ?_)
        go_ret
        exact HE.out

end Go.Proofs.Yteiojobgjdfdpaa
