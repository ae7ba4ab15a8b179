/- append of shares; Join. -/
import Derived.Test.YtfipogmndokhkaaUj
namespace Go.Proofs.Ytfipogmndokhkaa
open Go.RowKit

theorem sh_src {B : Nat} {w : World} {ad : Addr} {es : List (Int × Int)} (h : ShAt B w (some ad) es) : ∀ j u, (pc es)[j]? = some u → w.cell? (ad.add j) = some u := fun j u hj => by
  have hlt := (List.getElem?_eq_some_iff.1 hj).1
  rw [pc_length] at hlt
  obtain ⟨b, off, e, _, hc, hd⟩ := h (j / 2) (by omega)
  injection e with e
  subst e
  obtain ⟨f1, f2⟩ := pc_get es (j / 2) (by omega)
  have e2 : es.getD (j / 2) (0, 0) = es[j / 2] := by rw [List.getD_eq_getElem?_getD, List.getElem?_eq_getElem (by omega)]; rfl
  rw [e2] at hc hd
  rw [Go.WideShapes.add_plain]
  rcases (show j = 2 * (j / 2) ∨ j = 2 * (j / 2) + 1 by omega) with h1 | h1
  · rw [← h1, hj] at f1
    injection f1 with f1
    rw [f1, ← hc]
    congr 2
    omega
  · rw [← h1, hj] at f2
    injection f2 with f2
    rw [f2, ← hd]
    congr 2
    omega

/-- append of a slice of shares. -/
theorem appS {w : World} {ops : Array Oper} {rest : List Oper} {o : Oper} {a : Act} {Q : Exit → Act → World → Prop} (hgd : o.guard = none) (s x : Operand)
    (ho : o.op = .call { callee := .builtin .append, args := #[s, x], argTypes := #[22, 22] })
    (B : Nat) (v : Value) (ds es : List (Int × Int)) (A : Option Addr) (m c : Nat) (hs : a.eval s = v) (hown : OwnS w B v ds)
    (hx : a.eval x = .slice A m c) (hm : es.length = m) (hsrc : ShAt w.heap.size w A es) (hb : ds.length + m ≤ 1000000) (hbase : B ≤ w.heap.size)
    (h : ∀ v' w', OwnS w' B v' (ds ++ es) → w.grownBy w' v.ownBlock → wpList Try.prog ops Q rest (a.put o.dst v') w') : wpList Try.prog ops Q (o :: rest) a w := by
  obtain ⟨i0, hi, hz0, hz1, hz2⟩ := info_parts Try.infoSh
  subst hm
  have hpl := pc_length es
  cases A with
  | some ad =>
    refine wpList_append_own _ hgd s x 22 ho B 39 i0 (.agg #[.int .i64 0, .int .i64 0]) 2 16 Try.underlying22 hi hz0 hz1 hz2 rfl (by decide) v ds.length (pc ds) hs hown ad es.length c (pc es) hx hpl (sh_src hsrc) (pc_oneCell es) (by unfold maxLen; omega) (by omega) hbase ?_
    intro v' w' ho' hg _
    refine h v' w' ?_ hg
    unfold OwnS
    rw [List.length_append, pc_append]
    exact ho'
  | none =>
    have he : es = [] := by
      cases es with
      | nil => rfl
      | cons d es => obtain ⟨b, off, e, _⟩ := hsrc 0 (by simp); cases e
    subst he
    have hr : (Builtin.append_ #[22, 22] o.type #[v, .slice none 0 c]).run Try.prog w = .ok v w := by
      rcases hown.2 with ⟨rfl, hn⟩ | ⟨g, cap, cur, rfl, _, _, hnc, _⟩
      · simp [Builtin.append_, run_underlying Try.underlying22, sizeOf, typeInfo, hi, Builtin.lenOf, Builtin.firstCells]
      · simp [Builtin.append_, run_underlying Try.underlying22, sizeOf, typeInfo, hi, Builtin.lenOf, Builtin.firstCells, loadCells, hnc, storeCells]
    refine wpList_plain hgd fun K' hK' => ?_
    unfold Oper.wp execOp
    simp only [ho, resolve, invoke, builtin, Sem.run_bind, Sem.run_pure, Result.andThen_ok, List.map_toArray, List.map_cons, List.map_nil, hs, hx, List.length_nil, hr]
    exact hK' _ _ (h v w (by rw [List.append_nil]; exact hown) ⟨rfl, rfl, rfl, Nat.le_refl _, fun _ _ _ => rfl⟩)

/-- append of one share that was just laid. -/
theorem appS1 {w : World} {ops : Array Oper} {rest : List Oper} {o : Oper} {a : Act} {Q : Exit → Act → World → Prop} (hgd : o.guard = none) (s x : Operand)
    (ho : o.op = .call { callee := .builtin .append, args := #[s, x], argTypes := #[22, 22] })
    (B : Nat) (v : Value) (ds : List (Int × Int)) (X Y : Int) (hs : a.eval s = v) (hown : OwnS w B v ds)
    (g : Nat) (hg : w.heap.size = g) (hx : a.eval x = .slice (some ⟨g, 0, none⟩) 1 1) (hb : ds.length ≤ 1000) (hbase : B ≤ w.heap.size)
    (h : ∀ v' w', OwnS w' B v' (ds ++ [(X, Y)]) → (w.alloc (.cells #[.int .i64 X, .int .i64 Y] 39)).grownBy w' v.ownBlock → wpList Try.prog ops Q rest (a.put o.dst v') w') :
    wpList Try.prog ops Q (o :: rest) a (w.alloc (.cells #[.int .i64 X, .int .i64 Y] 39)) := by
  have k0 := Blk.new w 39 #[.int .i64 X, .int .i64 Y]
  subst hg
  refine appS hgd s x ho B v ds [(X, Y)] _ 1 1 hs (hown.below ((Below.refl _ _).alloc (Nat.le_refl _) _)) hx rfl ?_ (by omega) (by simp; omega) h
  intro j hj
  have : j = 0 := by simpa using hj
  subst this
  exact ⟨w.heap.size, 0, rfl, by simp, k0.cell 0, k0.cell 1⟩
theorem grown_bel {B : Nat} {w0 w w' : World} {v : Value} {ds : List (Int × Int)} (h : Below B w0 w) (hown : OwnS w B v ds) (hg : w.grownBy w' v.ownBlock) (hB : B ≤ w0.heap.size) : Below B w0 w' :=
  ⟨hg.os.trans h.os, hg.tape.trans h.tape, hg.output.trans h.output, Nat.le_trans h.size hg.size, fun k hk => (hg.block k (by have := h.size; omega) (fun e => by have := (World.ownsRow.lt hown k e.symm).1; omega)).trans (h.block k hk)⟩

section
variable (ds : List (Int × Int)) (A : Option Addr) (c : Nat) (w : World)

set_option maxRecDepth 100000 in
set_option maxHeartbeats 4000000 in
theorem join_arg (k : Int) (hS : ShAt w.heap.size w A ds) (hl : ds.length ≤ 1000) (h : k < 1 ∨ 20 < k ∨ ¬ Rt ds) :
    Calls Try.prog 10 #[.slice A ds.length c, .int .i64 k] w fun e w' => e = .returned (.tuple #[.int .i64 0, .int .i64 1]) ∧ Below w.heap.size w w' := by
  have HA := Lib.hid (fun h => allRight_any ds A c w hS hl false h)
  have H := Lib.hid h; clear h hS
  obtain ⟨n, hn⟩ : ∃ n, ds.length = n := ⟨_, rfl⟩
  rw [hn] at HA hl ⊢
  clear hn
  by_cases h1 : k < 1
  · clear HA
    go_enter Try.func10, Try.ntmps10
    go_wp2_with fail
    go_ret2
    exact ⟨rfl, Below.refl _ _⟩
  · by_cases h2 : 20 < k
    · clear HA
      go_enter Try.func10, Try.ntmps10
      go_wp2_with fail
      go_ret2
      exact ⟨rfl, Below.refl _ _⟩
    · have hf : ¬ Rt ds := by
        rcases H.out with h | h | h
        · exact absurd h h1
        · exact absurd h h2
        · exact h
      rw [← right_iff, Bool.not_eq_true] at hf
      have HF := Lib.hid hf; clear hf
      go_enter Try.func10, Try.ntmps10
      go_wp2_with fail
      refine (HA.out HF.out.symm).mono ?_
      rintro e w1 ⟨rfl, hb⟩
      go_wp2_with fail
      go_ret2
      exact ⟨rfl, hb⟩

set_option maxRecDepth 100000 in
set_option maxHeartbeats 4000000 in
theorem join_twice (k : Int) (hS : ShAt w.heap.size w A ds) (hl : ds.length ≤ 1000) (h1 : 1 ≤ k) (h2 : k ≤ 20) (hr : Rt ds) (hn : ¬ (ds.map (·.1)).Nodup) :
    Calls Try.prog 10 #[.slice A ds.length c, .int .i64 k] w fun e w' => e = .returned (.tuple #[.int .i64 0, .int .i64 5]) ∧ Below w.heap.size w w' := by
  have HA := Lib.hid (allRight_any ds A c w hS hl true ((right_iff ds).2 hr).symm)
  have HT := Lib.hid (fun w1 (hb : Below w.heap.size w w1) => isTwice_any ds A c w1 ((hS.below hb).more hb.size) hl hr true (by simp [hn]))
  clear hS hr hn
  obtain ⟨n, hn⟩ : ∃ n, ds.length = n := ⟨_, rfl⟩
  rw [hn] at HA HT hl ⊢
  clear hn
  go_enter Try.func10, Try.ntmps10
  go_wp2_with fail
  refine HA.out.mono ?_
  rintro e w1 ⟨rfl, hb⟩
  go_wp2_with fail
  refine (HT.out _ hb).mono ?_
  rintro e w2 ⟨rfl, hb2⟩
  go_wp2_with fail
  go_ret2
  exact ⟨rfl, hb.trans (hb2.mono hb.size)⟩

set_option maxRecDepth 100000 in
set_option maxHeartbeats 4000000 in
theorem join_few (k : Nat) (hS : ShAt w.heap.size w A ds) (hl : ds.length ≤ 1000) (h1 : 1 ≤ k) (h2 : k ≤ 20) (hr : Rt ds) (hn : (ds.map (·.1)).Nodup) (hf : ds.length < k) :
    Calls Try.prog 10 #[.slice A ds.length c, .int .i64 k] w fun e w' => e = .returned (.tuple #[.int .i64 0, .int .i64 21]) ∧ Below w.heap.size w w' := by
  have HA := Lib.hid (allRight_any ds A c w hS hl true ((right_iff ds).2 hr).symm)
  have HT := Lib.hid (fun w1 (hb : Below w.heap.size w w1) => isTwice_any ds A c w1 ((hS.below hb).more hb.size) hl hr false (by simp [hn]))
  clear hS hr hn
  obtain ⟨n, hn⟩ : ∃ n, ds.length = n := ⟨_, rfl⟩
  rw [hn] at HA HT hl hf ⊢
  clear hn
  go_enter Try.func10, Try.ntmps10
  go_wp2_with fail
  refine HA.out.mono ?_
  rintro e w1 ⟨rfl, hb⟩
  go_wp2_with fail
  refine (HT.out _ hb).mono ?_
  rintro e w2 ⟨rfl, hb2⟩
  go_wp2_with fail
  go_ret2
  exact ⟨rfl, hb.trans (hb2.mono hb.size)⟩

set_option maxRecDepth 100000 in
set_option maxHeartbeats 4000000 in
theorem join_check (k : Nat) (hS : ShAt w.heap.size w A ds) (hl : ds.length ≤ 1000) (hlc : ds.length ≤ c) (hcm : c ≤ 9223372036854775807) (h1 : 1 ≤ k) (h2 : k ≤ 20) (hr : Rt ds) (hn : (ds.map (·.1)).Nodup) (hf : k ≤ ds.length) (ho : ¬ OnP ds k) :
    Calls Try.prog 10 #[.slice A ds.length c, .int .i64 k] w fun e w' => e = .returned (.tuple #[.int .i64 0, .int .i64 23]) ∧ Below w.heap.size w w' := by
  have HA := Lib.hid (allRight_any ds A c w hS hl true ((right_iff ds).2 hr).symm)
  have HT := Lib.hid (fun w1 (hb : Below w.heap.size w w1) => isTwice_any ds A c w1 ((hS.below hb).more hb.size) hl hr false (by simp [hn]))
  have HO := Lib.hid (fun w1 (hb : Below w.heap.size w w1) => onOne_any ds A c k w1 ((hS.below hb).more hb.size) hl hlc hcm hr.fd (apart_of hr.fd hn) h1 false (by simp [ho]))
  clear hS hr hn ho
  obtain ⟨n, hn⟩ : ∃ n, ds.length = n := ⟨_, rfl⟩
  rw [hn] at HA HT HO hl hf hlc ⊢
  clear hn
  go_enter Try.func10, Try.ntmps10
  go_wp2_with fail
  refine HA.out.mono ?_
  rintro e w1 ⟨rfl, hb⟩
  go_wp2_with fail
  refine (HT.out _ hb).mono ?_
  rintro e w2 ⟨rfl, hb2⟩
  have hb02 := hb.trans (hb2.mono hb.size)
  go_wp2_with fail
  refine (HO.out _ hb02).mono ?_
  rintro e w3 ⟨rfl, hb3⟩
  go_wp2_with fail
  go_ret2
  exact ⟨rfl, hb02.trans (hb3.mono hb02.size)⟩

set_option maxRecDepth 100000 in
set_option maxHeartbeats 4000000 in
theorem join_ok (k : Nat) (hS : ShAt w.heap.size w A ds) (hl : ds.length ≤ 1000) (hlc : ds.length ≤ c) (hcm : c ≤ 9223372036854775807) (h1 : 1 ≤ k) (h2 : k ≤ 20) (hr : Rt ds) (hn : (ds.map (·.1)).Nodup) (hf : k ≤ ds.length) (f : Int → Int) (hp : Pol k f) (ht : Thru f ds) :
    Calls Try.prog 10 #[.slice A ds.length c, .int .i64 k] w fun e w' => e = .returned (.tuple #[.int .i64 (f 0 % 2147483647), .int .i64 0]) ∧ Below w.heap.size w w' := by
  have HA := Lib.hid (allRight_any ds A c w hS hl true ((right_iff ds).2 hr).symm)
  have HT := Lib.hid (fun w1 (hb : Below w.heap.size w w1) => isTwice_any ds A c w1 ((hS.below hb).more hb.size) hl hr false (by simp [hn]))
  have ha := apart_of hr.fd hn
  have HO := Lib.hid (fun w1 (hb : Below w.heap.size w w1) => onOne_any ds A c k w1 ((hS.below hb).more hb.size) hl hlc hcm hr.fd ha h1 true (by simp; exact ⟨f, hp, ht⟩))
  have hI : ∀ w1 : World, Below w.heap.size w w1 → Calls Try.prog 24 #[.slice A k c, .int .i64 0] w1 fun e w' => e = .returned (.int .i64 (f 0 % 2147483647)) ∧ Below w1.heap.size w1 w' := fun w1 hb1 =>
    interp_exact A c 0 w1 (((hS.below hb1).more hb1.size).take k) (by rw [List.length_take]; omega) (hr.fd.take k) (by omega) (by omega) (by rw [List.map_take]; exact ha.take k) (by rw [List.length_take]; omega) hp (ht.take k)
  have HI := Lib.hid hI; clear hI
  obtain ⟨Z, hZ⟩ : ∃ Z, f 0 % 2147483647 = Z := ⟨_, rfl⟩
  rw [hZ] at HI ⊢
  obtain ⟨b, off, hA, _, _⟩ := hS 0 (by omega)
  subst hA
  clear hS hr hn ha ht hp hZ
  obtain ⟨n, hn⟩ : ∃ n, ds.length = n := ⟨_, rfl⟩
  rw [hn] at HA HT HO hl hf hlc ⊢
  clear hn
  have hkc : k ≤ c := by omega
  go_enter Try.func10, Try.ntmps10
  go_wp2_with fail
  refine HA.out.mono ?_
  rintro e w1 ⟨rfl, hb⟩
  go_wp2_with fail
  refine (HT.out _ hb).mono ?_
  rintro e w2 ⟨rfl, hb2⟩
  have hb02 := hb.trans (hb2.mono hb.size)
  go_wp2_with fail
  refine (HO.out _ hb02).mono ?_
  rintro e w3 ⟨rfl, hb3⟩
  have hb03 := hb02.trans (hb3.mono hb02.size)
  go_wp2_with fail
  refine (HI.out _ hb03).mono ?_
  rintro e w4 ⟨rfl, hb4⟩
  go_wp2_with fail
  go_ret2
  exact ⟨rfl, hb03.trans (hb4.mono hb03.size)⟩
end

end Go.Proofs.Ytfipogmndokhkaa
