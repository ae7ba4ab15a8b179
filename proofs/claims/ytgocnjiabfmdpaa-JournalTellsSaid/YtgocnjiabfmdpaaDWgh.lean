/- Walks of slices.IndexFunc and slices.DeleteFunc at sectors, with forget's function; forget. Walk of slices.DeleteFunc at sectors, with forget's function. -/
import Derived.Test.YtgocnjiabfmdpaaDWe
import Derived.Test.YtgocnjiabfmdpaaDMc
import Derived.BigRegion
namespace Go.Proofs.Ytgocnjiabfmdpaa
set_option maxRecDepth 8000
open Go.RowKit

def sv (p : Int × Int) : Value := .agg #[.int .i64 p.1, .int .i64 p.2]

theorem same_any {w : World} (p : Int × Int) (f : Int) (q : Nat) (hq : w.cell? ⟨q, 0, none⟩ = some (.int .i64 f)) :
    Calls Try.prog 89 #[.agg #[.int .i64 p.1, .int .i64 p.2], .pointer (some ⟨q, 0, none⟩)] w fun e w' => e = .returned (.bool (p.1 == f)) ∧ Below w.heap.size w w' := by
  have lq : q < w.heap.size := World.block_lt_of_cell? w _ hq
  go_enter Try.func89, Try.ntmps89
  go_wp2_with fail
  go_ret
  exact ⟨rfl, (Below.refl _ _).alloc (Nat.le_refl _) _⟩

/-- The sectors of a slice of them. -/
theorem pc_cells {w : World} {g n c : Nat} {l : List (Int × Int)} (h : w.ownsRow 0 95 2 (.slice (some ⟨g, 0, none⟩) n c) n (pc l)) (j : Nat) (hj : j < l.length) (hn : l.length = n) :
    w.cell? ⟨g, j * 2, none⟩ = some (.int .i64 l[j].1) ∧ w.cell? ⟨g, j * 2 + 1, none⟩ = some (.int .i64 l[j].2) := by
  obtain ⟨h1, h2⟩ := pc_get l j hj
  exact ⟨by rw [h.cellAt (j * 2) (by omega), Nat.mul_comm]; exact h1, by rw [h.cellAt (j * 2 + 1) (by omega), Nat.mul_comm]; exact h2⟩

def IdxPost (w : World) (f : Int) (l : List (Int × Int)) (e : Ending) (w' : World) : Prop :=
  Below w.heap.size w w' ∧ ((e = .returned (.int .i64 (-1)) ∧ ∀ p ∈ l, p.1 ≠ f) ∨ ∃ j : Nat, e = .returned (.int .i64 j) ∧ ∃ h : j < l.length, l[j].1 = f ∧ ∀ i (hi : i < j), (l[i]'(by omega)).1 ≠ f)

set_option maxHeartbeats 400000 in
theorem index_any {w : World} {v : Value} (l : List (Int × Int)) (f : Int) (q : Nat) (hq : w.cell? ⟨q, 0, none⟩ = some (.int .i64 f)) (hown : w.ownsRow 0 95 2 v l.length (pc l)) (hl : l.length ≤ 4194304) :
    Calls Try.prog 103 #[v, .func (.func 89) #[] #[.pointer (some ⟨q, 0, none⟩)]] w (IdxPost w f l) := by
  have lq : q < w.heap.size := World.block_lt_of_cell? w _ hq
  rcases own_form hown with ⟨rfl, hz⟩ | ⟨g, c, rfl, hnc, hc1⟩
  · have hl0 : l = [] := List.eq_nil_of_length_eq_zero hz
    subst hl0
    go_enter Try.func103, Try.ntmps103
    go_wp2_with fail
    refine wp_loop_rounds 1 ?_
    rw [rounds_succ]
    go_wp2_with fail
    go_ret
    exact ⟨Below.refl _ _, Or.inl ⟨rfl, by simp⟩⟩
  · have hcells := fun j hj => pc_cells hown j hj rfl
    have lg : g < w.heap.size := ((hown.lt) g rfl).2
    go_enter Try.func103, Try.ntmps103
    go_wp2_with fail
    go_loopw [8] (fun i wr => ∃ j : Nat, j ≤ l.length ∧ i = .int .i64 j ∧ Below w.heap.size w wr ∧ ∀ i (hi : i < j) (hil : i < l.length), l[i].1 ≠ f) (fun i _ => l.length - (intOf i).toNat)
    case atStart => exact ⟨0, Nat.zero_le _, rfl, Below.refl _ _, fun i hi => by omega⟩
    case round =>
      obtain ⟨j, hj, rfl, hbr, hno⟩ := hrel
      have HNO := Lib.hid hno
      clear hno
      by_cases hlt : j < l.length
      · obtain ⟨h1, h2⟩ := hcells j hlt
        have h3 := (hbr.cell (p := ⟨g, j * 2, none⟩) lg).trans h1
        have h4 := (hbr.cell (p := ⟨g, j * 2 + 1, none⟩) lg).trans h2
        have h5 := (hbr.cell (p := ⟨q, 0, none⟩) lq).trans hq
        have hlj : ∃ p, l[j] = p := ⟨_, rfl⟩
        obtain ⟨p, hp⟩ := hlj
        rw [hp] at h3 h4
        have HP := Lib.hid hp
        clear h1 h2 hp
        by_cases hpf : p.1 = f
        · have HB : Hid ((p.1 == f) = true) := show _ = _ by simp [hpf]
          have HPF := Lib.hid hpf
          clear hpf
          go_wp2_with fail
          refine (same_any p f q h5).mono ?_
          rintro e w1 ⟨rfl, hb1⟩
          rw [HB.out]
          go_wp2_with fail
          go_ret
          exact ⟨hbr.trans (hb1.mono hbr.size), Or.inr ⟨j, rfl, hlt, by rw [HP.out]; exact HPF.out, fun i hi => HNO.out i hi (by omega)⟩⟩
        · have HB : Hid ((p.1 == f) = false) := show _ = _ by simp [hpf]
          have HPF := Lib.hid hpf
          clear hpf
          go_wp2_with fail
          refine (same_any p f q h5).mono ?_
          rintro e w1 ⟨rfl, hb1⟩
          rw [HB.out]
          go_wp2_with fail
          go_roundw
          case rel =>
            refine ⟨j + 1, by omega, by go_num, hbr.trans (hb1.mono hbr.size), fun i hi hil => ?_⟩
            by_cases hij : i = j
            · subst hij; rw [HP.out]; exact HPF.out
            · exact HNO.out i (by omega) hil
          case measure => simp [intOf]; omega
      · go_wp2_with fail
        go_ret
        refine ⟨hbr, Or.inl ⟨rfl, fun p hp => ?_⟩⟩
        obtain ⟨i, hi, rfl⟩ := List.getElem_of_mem hp
        exact HNO.out i (by omega) hi

end Go.Proofs.Ytgocnjiabfmdpaa

namespace Go.Proofs.Ytgocnjiabfmdpaa
set_option maxRecDepth 8000
open Go.RowKit

theorem zeroCells_pairs (k : Nat) : (Builtin.zeroCells #[Value.int .i64 0, Value.int .i64 0] k).toList = pc (List.replicate k (0, 0)) := by
  unfold Builtin.zeroCells
  have hp : pc (List.replicate k ((0 : Int), (0 : Int))) = List.replicate (k * 2) (Value.int .i64 0) := by
    induction k with
    | zero => rfl
    | succ k ih =>
      have : pc (List.replicate (k + 1) (0, 0)) = [Value.int .i64 0, Value.int .i64 0] ++ pc (List.replicate k (0, 0)) := rfl
      rw [this, ih, show (k + 1) * 2 = k * 2 + 2 by omega]
      rfl
  rw [hp]
  apply List.ext_getElem (by simp)
  intro i h1 h2
  simp at h1 h2 ⊢
  have : i % 2 = 0 ∨ i % 2 = 1 := by omega
  rcases this with h | h <;> rw [h] <;> rfl

theorem pc_oneCell (l : List (Int × Int)) : ∀ u ∈ pc l, u.oneCell' = true := by
  intro u hu
  unfold pc at hu
  obtain ⟨p, _, hp⟩ := List.mem_flatMap.1 hu
  simp at hp
  rcases hp with rfl | rfl <;> rfl

theorem wpList_clear {w : World} {ops : Array Oper} {rest : List Oper} {o : Oper} {a : Act} {Q : Exit → Act → World → Prop} (hgd : o.guard = none) (d : Operand)
    (ho : o.op = .call { callee := .builtin .clear, args := #[d], argTypes := #[76] }) (g n c : Nat) (xs : List Value) (hown : w.ownsRow 0 95 2 (.slice (some ⟨g, 0, none⟩) n c) n xs)
    (A : Option Addr) (i k c' : Nat) (hd : a.eval d = .slice A k c') (hA : 0 < k → A = some ⟨g, 2 * i, none⟩) (hik : i + k = n)
    (h : ∀ w', w'.ownsRow 0 95 2 (.slice (some ⟨g, 0, none⟩) i c) i (xs.take (2 * i)) → w.grownBy w' (some g) → wpList Try.prog ops Q rest (a.put o.dst (.tuple #[])) w') :
    wpList Try.prog ops Q (o :: rest) a w := by
  obtain ⟨i0, hi, hz0, hz1, hz2⟩ := info_parts Try.info95
  rcases hown.2 with ⟨hv, _⟩ | ⟨g', cap', cur, hv, hbg, hg, hnc, hcm, hcs, htake⟩
  · cases hv
  · injection hv with hv1 hv2 hv3
    injection hv1 with hv1
    injection hv1 with hv1
    subst hv1; subst hv3
    have hxl := hown.1
    by_cases hk : k = 0
    · subst hk
      have hr : (Builtin.clear_ #[76] o.type #[.slice A 0 c']).run Try.prog w = .ok (.tuple #[]) w := by
        cases A <;> simp [Builtin.clear_, run_underlying Try.underlying76]
      refine wpList_plain hgd fun K' hK' => ?_
      unfold Oper.wp execOp
      simp only [ho, resolve, invoke, builtin, Sem.run_bind, Sem.run_pure, Result.andThen_ok, List.map_toArray, List.map_cons, List.map_nil, hd, hr]
      refine hK' _ _ (h w ⟨by rw [List.length_take]; omega, .inr ⟨g, c, cur, rfl, hbg, hg, by omega, hcm, hcs, ?_⟩⟩ ⟨rfl, rfl, rfl, Nat.le_refl _, fun _ _ _ => rfl⟩)
      rw [← htake, List.take_take]
      congr 1; omega
    · obtain rfl := hA (by omega)
      have hpl := pc_length (List.replicate k ((0 : Int), (0 : Int)))
      rw [List.length_replicate] at hpl
      have hst := run_storeCells_at Try.prog g (2 * i) 95 (pc (List.replicate k (0, 0))) 0 cur w hg (by rw [hpl]; omega) (pc_oneCell _)
      simp only [Nat.add_zero, hpl] at hst
      have hzc := zeroCells_pairs k
      have hr : (Builtin.clear_ #[76] o.type #[.slice (some ⟨g, 2 * i, none⟩) k c']).run Try.prog w = .ok (.tuple #[]) (w.setRow g (cur.toList.take (2 * i) ++ pc (List.replicate k (0, 0)) ++ cur.toList.drop (2 * i + k * 2)).toArray) := by
        obtain ⟨k', rfl⟩ : ∃ k', k = k' + 1 := ⟨k - 1, by omega⟩
        simp [Builtin.clear_, run_underlying Try.underlying76, zeroValue, typeInfo, hi, hz0, Value.cells, hzc, hst]
      refine wpList_plain hgd fun K' hK' => ?_
      unfold Oper.wp execOp
      simp only [ho, resolve, invoke, builtin, Sem.run_bind, Sem.run_pure, Result.andThen_ok, List.map_toArray, List.map_cons, List.map_nil, hd, hr]
      refine hK' _ _ (h _ ⟨by rw [List.length_take]; omega, .inr ⟨g, c, _, rfl, hbg, setRow_heap w g cur _ 95 _ hg, by omega, hcm, ?_, ?_⟩⟩ ⟨rfl, rfl, rfl, by simp, fun j _ hj => setRow_other w g j _ (fun e => hj (by rw [e]))⟩)
      · simp only [List.size_toArray, List.length_append, List.length_take, List.length_drop, Array.length_toList, hpl]; omega
      · rw [← htake, List.take_take]
        have e1 : min (2 * i) (n * 2) = i * 2 := by omega
        have e2 : (cur.toList.take (2 * i)).length = i * 2 := by rw [List.length_take, Array.length_toList]; omega
        rw [e1, List.append_assoc, List.take_append, e2, Nat.sub_self, List.take_zero, List.append_nil, List.take_of_length_le (by omega), Nat.mul_comm]


theorem pc_set (m : List (Int × Int)) (i : Nat) (p : Int × Int) : ((pc m).set (i * 2) (.int .i64 p.1)).set (i * 2 + 1) (.int .i64 p.2) = pc (m.set i p) := by
  induction m generalizing i with
  | nil => simp [pc]
  | cons q m ih =>
    cases i with
    | zero => simp [pc]
    | succ i =>
      have h := ih i
      have e1 : (i + 1) * 2 = i * 2 + 1 + 1 := by omega
      have e2 : (i + 1) * 2 + 1 = i * 2 + 1 + 1 + 1 := by omega
      have e3 : ∀ l, pc (q :: l) = Value.int .i64 q.1 :: Value.int .i64 q.2 :: pc l := fun _ => rfl
      rw [List.set_cons_succ, e3, e3, e1]
      simp only [List.set_cons_succ]
      rw [h]

theorem pc_take (m : List (Int × Int)) (i : Nat) : (pc m).take (2 * i) = pc (m.take i) := by
  induction m generalizing i with
  | nil => simp [pc]
  | cons q m ih =>
    cases i with
    | zero => simp [pc]
    | succ i =>
      have e1 : 2 * (i + 1) = 2 * i + 1 + 1 := by omega
      have e3 : ∀ l, pc (q :: l) = Value.int .i64 q.1 :: Value.int .i64 q.2 :: pc l := fun _ => rfl
      rw [List.take_succ_cons, e3, e3, e1, List.take_succ_cons, List.take_succ_cons, ih]

theorem grown_below {w wr w2 : World} {row : Option Nat} (h : w.grownBy wr row) (hb : Below wr.heap.size wr w2) : w.grownBy w2 row :=
  ⟨hb.os.trans h.os, hb.tape.trans h.tape, hb.output.trans h.output, Nat.le_trans h.size hb.size, fun i hi hne => (hb.block i (Nat.lt_of_lt_of_le hi h.size)).trans (h.block i hi hne)⟩

theorem grown_set {w wr : World} {g : Nat} (h : w.grownBy wr (some g)) (o : Nat) (u : Value) : w.grownBy (wr.setCell ⟨g, o, none⟩ u) (some g) :=
  ⟨h.os, h.tape, h.output, by simpa [World.setCell] using h.size, fun i hi hne => (Below.heap_setCell wr ⟨g, o, none⟩ u i (fun e => hne (by rw [e]))).trans (h.block i hi hne)⟩

/-- What is left when the sectors of the file f are struck. -/
def others (f : Int) (l : List (Int × Int)) : List (Int × Int) := l.filter fun p => !(p.1 == f)

def DelPost (w : World) (v : Value) (f : Int) (l : List (Int × Int)) (e : Ending) (w' : World) : Prop :=
  ∃ v', e = .returned v' ∧ w'.ownsRow 0 95 2 v' (others f l).length (pc (others f l)) ∧ w.grownBy w' v.ownBlock ∧ v'.ownBlock = v.ownBlock

theorem others_snoc (f : Int) (l : List (Int × Int)) (j : Nat) (p : Int × Int) (hp : l[j]? = some p) : others f (l.take (j + 1)) = others f (l.take j) ++ (if (p.1 == f) = true then [] else [p]) := by
  obtain ⟨hj, rfl⟩ := List.getElem?_eq_some_iff.1 hp
  rw [List.take_succ_eq_append_getElem hj]
  unfold others
  rw [List.filter_append]
  congr 1
  by_cases h : (l[j].1 == f) = true <;> simp [h]

set_option maxHeartbeats 400000 in
theorem delete_any {w : World} {v : Value} (l : List (Int × Int)) (f : Int) (q : Nat) (hqv : v.ownBlock ≠ some q) (hq : w.cell? ⟨q, 0, none⟩ = some (.int .i64 f)) (hown : w.ownsRow 0 95 2 v l.length (pc l)) (hl : l.length ≤ 4194304) :
    Calls Try.prog 88 #[v, .func (.func 89) #[] #[.pointer (some ⟨q, 0, none⟩)]] w (DelPost w v f l) := by
  have lq : q < w.heap.size := World.block_lt_of_cell? w _ hq
  go_enter Try.func88, Try.ntmps88
  go_wp2_with fail
  refine (index_any l f q hq hown hl).mono ?_
  rintro e w1 ⟨hb1, h1⟩
  rcases h1 with ⟨rfl, hno⟩ | ⟨i0, rfl, hi0, hif, hno⟩
  · have HNO := Lib.hid hno
    clear hno
    go_wp2_with fail
    go_ret
    have ho : others f l = l := List.filter_eq_self.2 (fun p hp => by simp [HNO.out p hp])
    refine ⟨_, rfl, ?_, ⟨hb1.os, hb1.tape, hb1.output, hb1.size, fun b hb _ => hb1.block b hb⟩, rfl⟩
    rw [ho]
    exact ownsRow_of_blocks hown (fun g hg => hb1.block g (hown.lt g hg).2)
  · obtain ⟨g, c, rfl, hnc, hc1⟩ := own_some hown (by omega)
    have hown1 := ownsRow_of_blocks (w1 := w1) hown (fun g hg => hb1.block g (hown.lt g hg).2)
    have HNO := Lib.hid hno
    have HIF := Lib.hid hif
    clear hno hif
    have lg : g < w.heap.size := ((hown.lt) g rfl).2
    have hqg : q ≠ g := by
      rintro rfl
      exact hqv rfl
    have hb0 : ((i0 : Int) == -1) = false := by simp
    have hst : Hid (l.take i0 = others f (l.take (i0 + 1))) := show _ = _ by
      rw [others_snoc f l i0 l[i0] (List.getElem?_eq_getElem hi0), if_pos (by simp; exact HIF.out), List.append_nil]
      refine (List.filter_eq_self.2 (fun p hp => ?_)).symm
      obtain ⟨i, hi, rfl⟩ := List.getElem_of_mem hp
      simp at hi ⊢
      exact HNO.out i (by omega)
    have hg0 : w.grownBy w1 (some g) := ⟨hb1.os, hb1.tape, hb1.output, hb1.size, fun b hb _ => hb1.block b hb⟩
    go_wp2_with fail
    go_loopw [5, 6] (fun i j wr => ∃ (i' j' : Nat) (m : List (Int × Int)), i' < j' ∧ j' ≤ l.length ∧ i = .int .i64 i' ∧ j = .int .i64 j' ∧ m.length = l.length ∧ m.take i' = others f (l.take j') ∧ m.drop j' = l.drop j' ∧
      wr.ownsRow 0 95 2 (.slice (some ⟨g, 0, none⟩) l.length c) l.length (pc m) ∧ w.grownBy wr (some g)) (fun _ j _ => l.length - (intOf j).toNat)
    case atStart => exact ⟨i0, i0 + 1, l, by omega, by omega, rfl, by go_num, rfl, hst.out, rfl, hown1, hg0⟩
    case round =>
      obtain ⟨i, j, m, hij, hj, rfl, rfl, hml, hmt, hmd, hownr, hgr⟩ := hrel
      by_cases hlt : j < l.length
      · obtain ⟨h3, h4⟩ := pc_cells hownr j (by omega) hml
        have h5 : wr.cell? ⟨q, 0, none⟩ = some (.int .i64 f) := (World.cell?_of_block (hgr.block q lq (by simp; exact hqg))).trans hq
        obtain ⟨p, hp⟩ : ∃ p, m[j]'(by omega) = p := ⟨_, rfl⟩
        rw [hp] at h3 h4
        have HM := Lib.hid (And.intro hml (And.intro hmt hmd))
        have HP : Hid (m[j]? = some p) := show _ = _ by rw [List.getElem?_eq_getElem (by omega), hp]
        clear hp
        clear hml hmt hmd
        have HLP : Hid (l[j]? = some p) := show _ = _ by
          have h1 := HM.out.2.2
          have h2 := HP.out
          have h3 : (m.drop j)[0]? = (l.drop j)[0]? := by rw [h1]
          simpa [h2] using h3.symm
        have hgw : g < wr.heap.size := ((hownr.lt) g rfl).2
        by_cases hpf : p.1 = f
        · have HB : Hid ((p.1 == f) = true) := show _ = _ by simp [hpf]
          clear hpf
          go_wp2_with fail
          refine (same_any p f q (alloc_cell h5 _)).mono ?_
          rintro e w2 ⟨rfl, hb2⟩
          rw [HB.out]
          have hb3 : Below wr.heap.size wr w2 := ((Below.refl _ _).alloc (Nat.le_refl _) _).trans (hb2.mono (by simp))
          have hown2 := ownsRow_of_blocks (w1 := w2) hownr (fun g' hg' => by
            simp [Value.ownBlock] at hg'
            subst hg'
            exact hb3.block g hgw)
          go_wp2_with fail
          go_roundw
          case rel =>
            obtain ⟨m1, m2, m3⟩ := HM.out
            refine ⟨i, j + 1, m, by omega, by omega, rfl, by go_num, m1, ?_, ?_, hown2, grown_below hgr hb3⟩
            · rw [others_snoc f l j p HLP.out, if_pos HB.out, List.append_nil]; exact m2
            · rw [← List.drop_drop, ← List.drop_drop, m3]
          case measure => simp [intOf]; omega
        · have HB : Hid ((p.1 == f) = false) := show _ = _ by simp [hpf]
          clear hpf
          go_wp2_with fail
          refine (same_any p f q (alloc_cell h5 _)).mono ?_
          rintro e w2 ⟨rfl, hb2⟩
          rw [HB.out]
          have hb3 : Below wr.heap.size wr w2 := ((Below.refl _ _).alloc (Nat.le_refl _) _).trans (hb2.mono (by simp))
          have e0 := (hb2.block wr.heap.size (by simp)).trans (heap_alloc_new wr _)
          have e1 := blk_cell e0 0
          have e2 := blk_cell e0 1
          simp at e1 e2
          have hown2 := ownsRow_of_blocks (w1 := w2) hownr (fun g' hg' => by
            simp [Value.ownBlock] at hg'
            subst hg'
            exact hb3.block g hgw)
          obtain ⟨k3, k4⟩ := pc_cells hown2 i (by have := HM.out.1; omega) HM.out.1
          have k5 := hown2.frozenAt (i * 2)
          have k6 := hown2.frozenAt (i * 2 + 1)
          have K := Lib.hid hown2
          clear e0 hown2 h3 h4
          go_wp2_with fail
          go_roundw
          case rel =>
            obtain ⟨m1, m2, m3⟩ := HM.out
            have s1 := (K.out.stored (i * 2) (.int .i64 p.1)).1
            have s2 := (s1.stored (i * 2 + 1) (.int .i64 p.2)).1
            rw [pc_set] at s2
            refine ⟨i + 1, j + 1, m.set i p, by omega, by omega, by go_num, by go_num, by rw [List.length_set]; exact m1, ?_, ?_, s2, grown_set (grown_set (grown_below hgr hb3) _ _) _ _⟩
            · rw [others_snoc f l j p HLP.out, if_neg (by rw [HB.out]; simp), ← m2, List.take_succ_eq_append_getElem (by rw [List.length_set]; omega), List.getElem_set_self, List.take_set, List.set_eq_of_length_le (by rw [List.length_take]; omega)]
            · rw [List.drop_set_of_lt (by omega), ← List.drop_drop, ← List.drop_drop, m3]
          case measure => simp [intOf]; omega
      · have hje : j = l.length := by omega
        have HM := Lib.hid (And.intro hml (And.intro hmt (And.intro hmd hje)))
        clear hml hmt hmd hje
        have hi1 : (i : Int) ≤ (l.length : Int) := by omega
        have hi2 : (i : Int) ≤ (c : Int) := by omega
        go_wp2_with (with_reducible refine wpList_clear rfl (.tmp 38) rfl g l.length c _ hownr _ i (l.length - i) (c - i) rfl ?_ (by omega) ?_)
        · intro _; rw [Nat.mul_comm]
        · intro w2 hown2 hg2
          go_wp2_with fail
          go_ret
          obtain ⟨m1, m2, m3, m4⟩ := HM.out
          rw [m4, List.take_length] at m2
          rw [pc_take, m2] at hown2
          have hlen : i = (others f l).length := by rw [← m2, List.length_take]; omega
          exact ⟨_, rfl, by rw [← hlen]; exact hown2, hgr.trans hg2, rfl⟩

end Go.Proofs.Ytgocnjiabfmdpaa
