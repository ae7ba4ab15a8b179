/- Walks: Valid, add, Sign. -/
import Derived.Test.YtmlhladdoalfdaaEd
import Derived.Deep.RegionLaw
import Derived.Deep.AppendLies
import Derived.Deep.DeepCutAuto
namespace Go.Proofs.Ytmlhladdoalfdaa
open Go.RowKit

theorem Try.zeroI (w : World) : (zeroValue 3).run Try.prog w = .ok (.int .i64 0) w := by kernel_rfl

/-- Whether a signature holds. -/
def holds (es : List En) (p : En) (k : Int) : Bool := decide (pos es p < es.length) && decide ((pos es p : Int) = k)

theorem below_drewN {B : Nat} {w w' : World} (h : Below B w w') (n : Nat) : Below B w (w'.drewN n) := ⟨h.os, h.tape, h.output, h.size, h.block⟩

theorem look_in {es : List En} {p : En} (h : p ∈ es) : lookRes (marks es) p (.int .i64 0) true = .tuple #[.int .i64 (pos es p), .bool true] := by
  unfold lookRes
  rw [marks_in h]
  rfl
theorem look_out {es : List En} {p : En} (h : p ∉ es) : lookRes (marks es) p (.int .i64 0) true = .tuple #[.int .i64 0, .bool false] := by
  unfold lookRes
  rw [marks_out h]
  rfl

set_option maxRecDepth 100000 in
set_option maxHeartbeats 4000000 in
theorem valid_any {S : Nat → Prop} {r : Nat} {es : List En} {w : World} (h : Ring w S r es) (p : En) (k : Int) (hp : EnOk p) :
    Calls Try.prog 13 #[.pointer (some ⟨r, 0, none⟩), .agg #[.int .i64 p.1, .string p.2, .int .i64 k]] w fun e w' => e = .returned (.bool (holds es p k)) ∧ Below w.heap.size w w' := by
  obtain ⟨m, v, h1, h2, h3, -⟩ := h
  have k1 := h1.cell 1
  have hr := h1.lt
  simp at k1
  have hb1 := (Below.refl w.heap.size w).alloc (Nat.le_refl _) (.cells #[.int .i64 p.1, .string p.2, .int .i64 k] 24)
  have hlk : ∀ q, (Instr.lookup 46 (.map (some m)) (.agg #[.int .i64 p.1, .string p.2]) true).run Try.prog ((w.alloc (.cells #[.int .i64 p.1, .string p.2, .int .i64 k] 24)).drewN q) = .ok (lookRes (marks es) p (.int .i64 0) true) ((w.alloc (.cells #[.int .i64 p.1, .string p.2, .int .i64 k] 24)).drewN q) := fun q =>
    (h2.same (w' := (w.alloc (.cells #[.int .i64 p.1, .string p.2, .int .i64 k] 24)).drewN q) (Below.heap_alloc _ _ _ h2.lt)).look Try.underlying46 hp true (Try.zeroI _)
  clear h1 h2 h3 hp
  obtain ⟨key, text⟩ := p
  by_cases hin : (key, text) ∈ es
  · rw [look_in hin] at hlk
    have hv : holds es (key, text) k = ((pos es (key, text) : Int) == k) := by
      unfold holds
      rw [show decide (pos es (key, text) < es.length) = true by simpa using pos_lt.1 hin, Bool.true_and]
      rfl
    rw [hv]
    clear hv hin
    obtain ⟨n, hn⟩ : ∃ n, pos es (key, text) = n := ⟨_, rfl⟩
    rw [hn] at hlk ⊢
    clear hn
    simp only at hlk hb1
    go_enter Try.func13, Try.ntmps13
    go_wp2_with fail
    go_quiet (fail)
    go_wp2_with fail
    go_ret
    exact ⟨rfl, below_drewN hb1 _⟩
  · rw [look_out hin] at hlk
    have hv : holds es (key, text) k = false := by
      unfold holds
      rw [show decide (pos es (key, text) < es.length) = false by simpa using fun h => hin (pos_lt.2 h), Bool.false_and]
    rw [hv]
    clear hv hin
    simp only at hlk hb1
    go_enter Try.func13, Try.ntmps13
    go_wp2_with fail
    go_quiet (fail)
    go_wp2_with fail
    go_ret
    exact ⟨rfl, below_drewN hb1 _⟩

theorem OwnE.ne_blk {w : World} {B r g : Nat} {v : Value} {es : List En} {t : TypeId} {cs : Array Value} (h : OwnE w B v es) (hg : v.ownBlock = some g) (hb : Blk w r t cs) (ht : t ≠ 33) : g ≠ r := by
  rcases h.2 with ⟨rfl, _⟩ | ⟨g', cap, cur, rfl, _, hh, _⟩
  · cases hg
  · have e : g' = g := by simpa [Value.ownBlock] using hg
    subst e
    rintro rfl
    unfold Blk at hb
    rw [hb] at hh
    injection hh with hh
    injection hh with _ h2 _
    exact ht h2
theorem OwnE.ne_map {w : World} {B m g : Nat} {v : Value} {es : List En} {f : En → Option Value} (h : OwnE w B v es) (hg : v.ownBlock = some g) (hb : EMap w m f) : g ≠ m := by
  rcases h.2 with ⟨rfl, _⟩ | ⟨g', cap, cur, rfl, _, hh, _⟩
  · cases hg
  · have e : g' = g := by simpa [Value.ownBlock] using hg
    subst e
    rintro rfl
    obtain ⟨es, clock, hb, _⟩ := hb
    rw [hb] at hh
    injection hh with hh
    cases hh
theorem Blk.ne_map {w : World} {r m : Nat} {t : TypeId} {cs : Array Value} {f : En → Option Value} (h : Blk w r t cs) (hb : EMap w m f) : r ≠ m := by
  rintro rfl
  obtain ⟨es, clock, hb, _⟩ := hb
  unfold Blk at h
  rw [hb] at h
  injection h with h
  cases h
/-- An entry that was just laid. -/
theorem lit1 (w : World) (x : Int) (s : ByteArray) : SlAt (w.alloc (.cells #[.int .i64 x, .string s] 33)).heap.size (w.alloc (.cells #[.int .i64 x, .string s] 33)) (some ⟨w.heap.size, 0, none⟩) [(x, s)] := fun j hj => by
  have : j = 0 := by simpa using hj
  subst this
  have k0 := Blk.new w 33 #[.int .i64 x, .string s]
  exact ⟨w.heap.size, 0, rfl, by simp, k0.cell 0, k0.cell 1⟩

/-- Behind the append: the store of the slice, and the map's own store. -/
theorem add_mid {S : Nat → Prop} {w w4 : World} {r m n : Nat} {v v4 : Value} {es : List En} {key : Int} {text : ByteArray} (b4 : Blk w4 r 48 #[v, .map (some m)]) (m4 : EMap w4 m (marks es)) (hown4 : OwnE w4 0 v4 (es ++ [(key, text)]))
    (e4 : Blk w4 w.heap.size 33 #[.int .i64 key, .string text]) (hf : Fr S w w4) (hp : EnOk (key, text)) (hn : (key, text) ∉ es) (s1 : S r) (s2 : S m) (s4 : ∀ b, S b → b < w.heap.size) (hl : es.length = n)
    (hat : ∀ g, v4.ownBlock = some g → S g ∨ w.heap.size ≤ g) (hne : w.heap.size ≠ r) :
    ∃ w6, (w4.setCell ⟨r, 0, none⟩ v4).cell? ⟨r, 1, none⟩ = some (.map (some m)) ∧ (w4.setCell ⟨r, 0, none⟩ v4).cell? ⟨w.heap.size, 0, none⟩ = some (.int .i64 key) ∧ (w4.setCell ⟨r, 0, none⟩ v4).cell? ⟨w.heap.size, 1, none⟩ = some (.string text) ∧
      (Instr.mapUpdate 46 (.map (some m)) (.agg #[.int .i64 key, .string text]) (.int .i64 n)).run Try.prog (w4.setCell ⟨r, 0, none⟩ v4).drew = .ok () w6 ∧
      Ring w6 (fun b => S b ∨ v4.ownBlock = some b) r (es ++ [(key, text)]) ∧ Fr S w w6 ∧ ∀ b, (S b ∨ v4.ownBlock = some b) → S b ∨ w.heap.size ≤ b := by
  have n1 : ∀ g, v4.ownBlock = some g → g ≠ r := fun g hg => hown4.ne_blk hg b4 (by decide)
  have n2 : ∀ g, v4.ownBlock = some g → g ≠ m := fun g hg => hown4.ne_map hg m4
  have b5 := b4.set_ 0 v4
  have m5 : EMap (w4.setCell ⟨r, 0, none⟩ v4) m (marks es) := m4.same (Below.heap_setCell w4 _ _ m (Ne.symm (b4.ne_map m4)))
  have e5 := e4.far (p := ⟨r, 0, none⟩) hne v4
  have o5 : OwnE (w4.setCell ⟨r, 0, none⟩ v4) 0 v4 (es ++ [(key, text)]) := by
    rcases hown4.2 with ⟨rfl, h2⟩ | ⟨g, cap, cur, rfl, hb, hg, rest⟩
    · exact ⟨hown4.1, .inl ⟨rfl, h2⟩⟩
    · exact ⟨hown4.1, .inr ⟨g, cap, cur, rfl, hb, (Below.heap_setCell w4 _ _ g (n1 g rfl)).trans hg, rest⟩⟩
  have z1 := b5.cell 1
  have z2 := e5.cell 0
  have z3 := e5.cell 1
  simp at b5 z1 z2 z3
  obtain ⟨w6, hrun, hm6, hg6, hs6⟩ := (show EMap (w4.setCell ⟨r, 0, none⟩ v4).drew m (marks es) from m5).store Try.underlying46 hp (.int .i64 n)
  have hsz : (w4.setCell ⟨r, 0, none⟩ v4).heap.size = w4.heap.size := by simp
  refine ⟨w6, z1, z2, z3, hrun, ⟨m, v4, ?_, ?_, ?_, .inl s1, .inl s2, fun g hg => .inr hg, ?_⟩, ?_, ?_⟩
  · exact (hg6.block r (by have := b5.lt; exact this) (fun e => b5.ne_map m5 (Option.some.inj e))).trans b5
  · exact hm6.congr fun x => by rw [marks_add hn, hl]
  · refine World.ownsRow.kept (w := (w4.setCell ⟨r, 0, none⟩ v4).drew) (row := some m) o5 hg6 ?_
    cases hv : v4.ownBlock with
    | none => exact .inl rfl
    | some g => exact .inr (fun e => n2 g hv (by injection e))
  · intro b hb
    rcases hb with hb | hb
    · exact Nat.lt_of_lt_of_le (Nat.lt_of_lt_of_le (s4 b hb) hf.size) (by rw [hs6]; exact Nat.le_of_eq hsz.symm)
    · have := (World.ownsRow.lt o5 b hb).2
      rw [hs6]; exact this
  · refine hf.trans (S' := S) ⟨?_, ?_, ?_, by rw [hs6]; exact Nat.le_of_eq hsz.symm, fun b hb hn => ?_⟩ (fun _ h => h) (fun _ _ h => h)
    · exact hg6.os
    · exact hg6.tape
    · exact hg6.output
    · refine (hg6.block b (by exact Nat.lt_of_lt_of_le hb (Nat.le_of_eq hsz.symm)) (fun e => hn (by injection e with e; rw [e]; exact s2))).trans ?_
      exact Below.heap_setCell w4 _ _ b (fun e => hn (by rw [e]; exact s1))
  · intro b hb
    rcases hb with hb | hb
    · exact .inl hb
    · exact hat b hb

set_option maxRecDepth 100000 in
set_option maxHeartbeats 4000000 in
theorem add_any {S : Nat → Prop} {r : Nat} {es : List En} {w : World} (h : Ring w S r es) (p : En) (hp : EnOk p) (ht : p.2.size ≤ 1000) (hl : es.length ≤ 1000) (hn : p ∉ es) :
    Calls Try.prog 22 #[.pointer (some ⟨r, 0, none⟩), env p] w fun e w' => ∃ S', e = .returned (.int .i64 es.length) ∧ Ring w' S' r (es ++ [p]) ∧ Fr S w w' ∧ ∀ b, S' b → S b ∨ w.heap.size ≤ b := by
  obtain ⟨m, v, h1, h2, h3, s1, s2, s3, s4⟩ := h
  unfold env
  obtain ⟨key, text⟩ := p
  obtain ⟨A, c, rfl, -, -, -⟩ := h3.at_
  obtain ⟨n, hnn⟩ : ∃ n, es.length = n := ⟨_, rfl⟩
  rw [hnn] at h1 h3 s3 hl ⊢
  have HNN := Lib.hid hnn; clear hnn
  have hb0 := (Below.refl w.heap.size w).alloc (Nat.le_refl _) (.cells #[.int .i64 key, .string text] 33)
  have hkE := Blk.new w 33 #[.int .i64 key, .string text]
  have HW := Lib.hid (And.intro hb0 hkE); clear hb0 hkE
  have HR := Lib.hid (And.intro h1 (And.intro h2 h3)); clear h1 h2 h3
  go_enter Try.func22, Try.ntmps22
  go_wp2_with fail
  refine (strClone_any text _ ht).mono ?_
  rintro e w1 ⟨rfl, hb1⟩
  have hkE1 := HW.out.2.below hb1 (by simp)
  have cE := hkE1.cell 1
  have fE := hkE1.frozen 1
  simp at cE
  have hE2 := hkE1.set_ 1 (.string text)
  simp at hE2
  have hs1 := hb1.size
  simp at hs1
  have hb2 : Below w.heap.size w (w1.setCell ⟨w.heap.size, 1, none⟩ (.string text)) := (HW.out.1.trans (hb1.mono (by simp))).setCell (p := ⟨w.heap.size, 1, none⟩) (Nat.le_refl _) _
  go_upto_region 2 with fail
  obtain ⟨w2, hw2⟩ : ∃ w2, w1.setCell ⟨w.heap.size, 1, none⟩ (.string text) = w2 := ⟨_, rfl⟩
  rw [hw2] at hE2 hb2 ⊢
  clear hw2 hkE1 cE fE hb1 hs1
  have h1 : Blk w2 r _ _ := HR.out.1.below hb2 HR.out.1.lt
  have h2 : EMap w2 m _ := HR.out.2.1.same (hb2.block m HR.out.2.1.lt)
  have h3 : OwnE w2 0 _ es := HR.out.2.2.below hb2
  have hes := hE2.lt
  have n1 : ∀ g, (Value.slice A n c).ownBlock = some g → g ≠ r := fun g hg => h3.ne_blk hg h1 (by decide)
  have n2 : ∀ g, (Value.slice A n c).ownBlock = some g → g ≠ m := fun g hg => h3.ne_map hg h2
  have n3 : ∀ g, (Value.slice A n c).ownBlock = some g → g ≠ w.heap.size := fun g hg => by have := s4 g (s3 g hg); omega
  have k0 := h1.cell 0
  have kf := h1.frozen 0
  have e0' := hE2.cell 0
  have e1' := hE2.cell 1
  simp at k0 e0' e1'
  have H3 := Lib.hid (And.intro h1 (And.intro h2 (And.intro h3 hE2)))
  clear h1 h2 h3 hE2
  have hbd := ((Below.refl w2.heap.size w2).alloc (Nat.le_refl _) (.cells #[.int .i64 key, .string text] 33)).drew
  have hld : SlAt (w2.alloc (.cells #[.int .i64 key, .string text] 33)).drew.heap.size (w2.alloc (.cells #[.int .i64 key, .string text] 33)).drew (some ⟨w2.heap.size, 0, none⟩) [(key, text)] := lit1 w2 key text
  have HD := Lib.hid (And.intro hbd hld); clear hbd hld
  have HL4 : Hid ((es ++ [(key, text)]).length = n + 1) := Lib.hid (by rw [List.length_append, HNN.out]; rfl)
  have kA : (w2.alloc (.cells #[.int .i64 key, .string text] 33)).cell? ⟨r, 0, none⟩ = some (.slice A n c) := (World.cell?_alloc_lt w2 _ ⟨r, 0, none⟩ H3.out.1.lt).trans k0
  have eA0 : (w2.alloc (.cells #[.int .i64 key, .string text] 33)).cell? ⟨w.heap.size, 0, none⟩ = some (.int .i64 key) := (World.cell?_alloc_lt w2 _ ⟨w.heap.size, 0, none⟩ hes).trans e0'
  have eA1 : (w2.alloc (.cells #[.int .i64 key, .string text] 33)).cell? ⟨w.heap.size, 1, none⟩ = some (.string text) := (World.cell?_alloc_lt w2 _ ⟨w.heap.size, 1, none⟩ hes).trans e1'
  go_upto_region 3 with fail
  go_region_law (refine step_appE rfl (.tmp 19) (.tmp 21) rfl 0 _ es [(key, text)] (some ⟨w2.heap.size, 0, none⟩) 1 1 (by simp [Act.eval]) (H3.out.2.2.1.below HD.out.1) (by simp [Act.eval]) rfl HD.out.2 (by rw [HNN.out]; omega) (Nat.zero_le _) ?_; intro v4 w4 hown4 hg4 hat4; obtain ⟨A4, c4, hv4, -, -, -⟩ := hown4.at_; rw [HL4.out] at hv4; subst hv4; have b4 : Blk w4 r _ _ := (hg4.block r (Nat.lt_of_lt_of_le H3.out.1.lt HD.out.1.size) (fun e => n1 r e.symm rfl)).trans (H3.out.1.below HD.out.1 H3.out.1.lt); have k40 := b4.cell 0; have f40 := b4.frozen 0; simp at k40)
  all_goals
    have hbB : Fr S w w4 := Fr.trans (S := fun _ => False) (S' := S) (Fr.of_below (hb2.trans (HD.out.1.mono (by omega)))) ⟨hg4.os, hg4.tape, hg4.output, hg4.size, fun b hb hn => hg4.block b hb (fun e => hn (s3 b e.symm))⟩ (fun _ h => h.elim) (fun _ _ h => h)
    have m4 : EMap w4 m (marks es) := H3.out.2.1.same ((hg4.block m (Nat.lt_of_lt_of_le H3.out.2.1.lt HD.out.1.size) (fun e => n2 m e.symm rfl)).trans (HD.out.1.block m H3.out.2.1.lt))
    have e4 : Blk w4 w.heap.size _ _ := (hg4.block w.heap.size (Nat.lt_of_lt_of_le hes HD.out.1.size) (fun e => n3 _ e.symm rfl)).trans (H3.out.2.2.2.below HD.out.1 hes)
    have hat : ∀ g, (Value.slice A4 (n + 1) c4).ownBlock = some g → S g ∨ w.heap.size ≤ g := fun g hg => by
      rcases hat4 with h | h
      · exact .inl (s3 g (h.symm.trans hg))
      · rw [hg] at h
        injection h with h
        have := HD.out.1.size
        have := hb2.size
        omega
    have hR := add_mid b4 m4 hown4 e4 hbB hp hn s1 s2 s4 HNN.out hat (by have := s4 r s1; omega)
    obtain ⟨w5, hw5⟩ : ∃ w5, w4.setCell ⟨r, 0, none⟩ (.slice A4 (n + 1) c4) = w5 := ⟨_, rfl⟩
    rw [hw5] at hR ⊢
    obtain ⟨w6, k5, q0, q1, hrun, hR⟩ := hR
    clear hat hbB m4 e4 hw5 hown4 hg4 hat4 b4 f40 k40 kA eA0 eA1 kf k0 e0' e1'
    have HR6 := Lib.hid hR; clear hR
    go_wp2_with fail
    go_region
    all_goals
      go_wp2_with fail
      go_ret
      exact ⟨_, rfl, HR6.out⟩

end Go.Proofs.Ytmlhladdoalfdaa
