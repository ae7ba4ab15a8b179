/- append of a slice of strings, at a step of a region that draws its order; begins, disky. -/
import Derived.Test.YtgocnjiabfmdpaaNc
import Derived.Deep.RegionHeld3
import Derived.Deep.DrawnRows
namespace Go.Proofs.Ytgocnjiabfmdpaa
set_option maxRecDepth 8000
open Go.RowKit Wire

/-- What is appended: nothing, by a nil slice, or the cells of a slice. -/
def Src (w : World) (X : Value) (m : Nat) (news : List Value) : Prop :=
  (X = .slice none 0 0 ∧ m = 0 ∧ news = []) ∨ ∃ ad c, X = .slice (some ad) m c ∧ ∀ j u, news[j]? = some u → w.cell? (ad.add j) = some u

theorem run_append_src {P : Program} (w : World) (base : Nat) (t ty e : TypeId) (i : TypeInfo) (z : Value) (bytes : Nat) (ht : P.underlying t = some (.slice e)) (hi : P.info? e = some i) (hz : i.zero = some z)
    (hsize : i.size = 1) (hby : i.bytes = bytes) (hzs : z.cells.size = 1)
    (v : Value) (n : Nat) (xs : List Value) (hown : w.ownsRow base e 1 v n xs)
    (X : Value) (m : Nat) (news : List Value) (hl : news.length = m) (hsrc : Src w X m news) (h1 : ∀ u ∈ news, u.oneCell' = true)
    (h63 : n + m ≤ maxLen) (hbytes : (n + m) * bytes ≤ 140737488355328) (hbase : base ≤ w.heap.size) :
    ∃ v' w', (Builtin.append_ #[t, t] ty #[v, X]).run P w = .ok v' w' ∧ w'.ownsRow base e 1 v' (n + m) (xs ++ news) ∧ w.grownBy w' v.ownBlock ∧ (v'.ownBlock = v.ownBlock ∨ v'.ownBlock = some w.heap.size) := by
  rcases hsrc with ⟨rfl, rfl, rfl⟩ | ⟨ad, c, rfl, hnews⟩
  · refine ⟨v, w, ?_, by simpa using hown, ⟨rfl, rfl, rfl, Nat.le_refl _, fun _ _ _ => rfl⟩, Or.inl rfl⟩
    rcases hown.2 with ⟨rfl, rfl⟩ | ⟨g, cap, cur, rfl, _, _, hnc, _⟩
    · simp [Builtin.append_, run_underlying ht, sizeOf, typeInfo, hi, Builtin.lenOf, Builtin.firstCells]
    · simp [Builtin.append_, run_underlying ht, sizeOf, typeInfo, hi, Builtin.lenOf, Builtin.firstCells, loadCells, hnc, storeCells]
  · obtain ⟨v', w', a1, a2, a3, _, a4⟩ := run_append_own_at (P := P) w base t ty e i z 1 bytes ht hi hz hsize hby hzs (by decide) v n xs hown ad m c news (by omega) hnews h1 h63 hbytes hbase
    exact ⟨v', w', a1, a2, a3, a4⟩

theorem step_append_src {P : Program} {w : World} {ops : Array Oper} {o : Oper} {a : Act} {K : Act → World → Prop} {Q : Exit → Act → World → Prop} {E : Prop} (hgd : o.guard = none) (s x : Operand) (t : TypeId)
    (ho : o.op = .call { callee := .builtin .append, args := #[s, x], argTypes := #[t, t] })
    (base : Nat) (e : TypeId) (i : TypeInfo) (z : Value) (bytes : Nat) (ht : P.underlying t = some (.slice e)) (hi : P.info? e = some i) (hz : i.zero = some z)
    (hsize : i.size = 1) (hby : i.bytes = bytes) (hzs : z.cells.size = 1)
    (v : Value) (n : Nat) (xs : List Value) (hs : a.eval s = v) (hown : w.ownsRow base e 1 v n xs)
    (X : Value) (m : Nat) (news : List Value) (hx : a.eval x = X) (hl : news.length = m) (hsrc : Src w X m news) (h1 : ∀ u ∈ news, u.oneCell' = true)
    (h63 : n + m ≤ maxLen) (hbytes : (n + m) * bytes ≤ 140737488355328) (hbase : base ≤ w.heap.size)
    (h : ∀ v' w', w'.ownsRow base e 1 v' (n + m) (xs ++ news) → w.grownBy w' v.ownBlock → (v'.ownBlock = v.ownBlock ∨ v'.ownBlock = some w.heap.size) → K (a.put o.dst v') w') :
    if Region.wanted o (yielded ops a.tmps) = true then Oper.wp P o a w K Q else E := by
  have hw : Region.wanted o (yielded ops a.tmps) = true := by simp [Region.wanted, hgd]
  rw [if_pos hw]
  obtain ⟨v', w', hr, h2, h3, h4⟩ := run_append_src (P := P) w base t o.type e i z bytes ht hi hz hsize hby hzs v n xs hown X m news hl hsrc h1 h63 hbytes hbase
  unfold Oper.wp execOp
  simp only [ho, resolve, invoke, builtin, Sem.run_bind, Sem.run_pure, Result.andThen_ok, List.map_toArray, List.map_cons, List.map_nil, hs, hx, hr]
  exact h v' w' h2 h3 h4

theorem own_empty {w : World} {B g : Nat} (hB : B ≤ g) (hg : w.heap[g]? = some (.cells #[] 9 (0, 0))) : w.ownsRow B 9 1 (.slice (some ⟨g, 0, none⟩) 0 0) 0 [] :=
  ⟨rfl, .inr ⟨g, 0, #[], rfl, hB, hg, Nat.le_refl _, Nat.zero_le _, rfl, rfl⟩⟩

/-- What is behind an append onto a slice of the call's own, made since W, lies above W. -/
theorem below_grown {B : Nat} {W w w' : World} {v : Value} (h : Below B W w) (hg : w.grownBy w' v.ownBlock) (hv : ∀ g, v.ownBlock = some g → B ≤ g) (hB : B ≤ W.heap.size) : Below B W w' :=
  ⟨hg.os.trans h.os, hg.tape.trans h.tape, hg.output.trans h.output, Nat.le_trans h.size hg.size, fun k hk => (hg.block k (by have := h.size; omega) (fun e => by have := hv k e.symm; omega)).trans (h.block k hk)⟩

theorem sl_src {L : Lab} {w : World} {v : Value} {n : Nat} {xs : List Value} {t : Nat × Role} (h : Sl L w 9 1 v n xs t) : Src w v n xs := by
  rcases h.1.2 with ⟨rfl, rfl⟩ | ⟨g, cap, cur, rfl, _⟩
  · exact Or.inl ⟨rfl, rfl, List.eq_nil_of_length_eq_zero (by simpa using h.1.1)⟩
  · exact Or.inr ⟨_, cap, rfl, h.1.cells (g := g) rfl⟩

set_option maxHeartbeats 1000000 in
theorem disky_any (n : Int) (w : World) (hn : n = 7 ∨ n = 8 ∨ n = 9) : Calls Try.prog 43 #[.int .i64 n] w fun e w' => e = .returned (.bool (decide (n ≠ 7))) ∧ w = w' := by
  rcases hn with rfl | rfl | rfl
  all_goals
    go_enter Try.func43, Try.ntmps43
    go_wp2_with fail
    go_ret
    exact ⟨rfl, rfl⟩

/-- begins, where it holds. -/
theorem begins_any {L L' : Lab} {w : World} {v v' : Value} {a r : Recs} {t t' : Nat × Role} (h : Sl L w 9 1 v (a ++ r).length ((a ++ r).map strV) t) (h' : Sl L' w 9 1 v' a.length (a.map strV) t') (hl : (a ++ r).length ≤ 1000000) :
    Calls Try.prog 44 #[v, v'] w fun e w' => e = .returned (.bool true) ∧ Below w.heap.size w w' := by
  have hlen : (a ++ r).length = a.length + r.length := List.length_append
  obtain ⟨A, c, rfl, hA⟩ := OwnS.at h.1
  obtain ⟨A', c', rfl, hA'⟩ := OwnS.at h'.1
  rw [List.length_map, List.length_map]
  have hcap : a.length + r.length ≤ c := by
    rcases h.1.2 with ⟨e, _⟩ | ⟨g, cap, cur, e, _, _, hc, _⟩
    · injection e with _ e _; rw [List.length_map] at e; omega
    · injection e with _ e1 e2; rw [List.length_map] at e1; omega
  have hS := fun w1 (hw : w = w1) => Wire.sameTexts_any A A' (a.map ba) (a.map ba) c c' w1 (by
    subst hw
    intro i hi
    rw [List.length_map] at hi
    obtain ⟨b, off, q1, q2, q3⟩ := hA i (by rw [List.length_map]; omega)
    refine ⟨b, off, q1, q2, ?_⟩
    rw [q3, List.getD_eq_getElem?_getD, List.getD_eq_getElem?_getD, List.map_append, List.getElem?_append_left (by rw [List.length_map]; omega)]) (by subst hw; exact hA') (by rw [List.length_map]; omega) (by rw [List.length_map]; omega)
  rw [List.length_map] at hS
  obtain ⟨x, hx⟩ : ∃ x, x = (a ++ r).length := ⟨_, rfl⟩
  rw [← hx] at hlen hl ⊢
  obtain ⟨y, hy⟩ : ∃ y, y = a.length := ⟨_, rfl⟩
  rw [← hy] at hlen hcap hS ⊢
  have hS2 := (hS w rfl).mono (R' := fun e w' => e = .returned (.bool true) ∧ Below w.heap.size w w') (by rintro e w1 ⟨rfl, hb⟩; exact ⟨by rw [decide_eq_true rfl], hb⟩)
  have HS := Lib.hid hS2
  clear hS2
  have hxy : y ≤ x := by omega
  clear hS hA hA' h h' hx hy hlen
  have hm : min (y : Int) (x : Int) = (y : Int) := by omega
  have hle : (y : Int) ≤ (x : Int) := by omega
  have hle2 : (y : Int) ≤ (c : Int) := by omega
  have hyc : y ≤ c := by omega
  clear hcap
  go_enter Try.func44, Try.ntmps44
  go_wp2_with fail
  refine HS.out.mono ?_
  rintro e w1 ⟨rfl, hb⟩
  go_wp2_with fail
  go_ret
  exact ⟨rfl, hb⟩

theorem Src.below {w w' : World} {X : Value} {m : Nat} {news : List Value} (h : Src w X m news) (hb : Below w.heap.size w w') : Src w' X m news := by
  rcases h with h | ⟨ad, c, rfl, hc⟩
  · exact Or.inl h
  · exact Or.inr ⟨ad, c, rfl, fun j u hj => (hb.cell (World.block_lt_of_cell? w _ (hc j u hj))).trans (hc j u hj)⟩

theorem heap_e1 (W : World) (o : Obj) : (W.alloc o).drew.heap[W.heap.size]? = some o := heap_alloc_new W o
theorem heap_e2 (W : World) (o p : Obj) : ((W.alloc o).alloc p).drew.heap[W.heap.size]? = some o := by
  have h : ((W.alloc o).alloc p).heap[W.heap.size]? = (W.alloc o).heap[W.heap.size]? := Below.heap_alloc _ _ _ (by simp)
  exact h.trans (heap_alloc_new W o)
theorem heap_e3 (W : World) (o p : Obj) : ((W.alloc o).alloc p).drew.heap[W.heap.size + 1]? = some p := by
  have h := heap_alloc_new (W.alloc o) p
  rw [show (W.alloc o).heap.size = W.heap.size + 1 by simp] at h
  exact h
theorem below_e1 (W : World) (o : Obj) : Below W.heap.size W (W.alloc o).drew := ((Below.refl _ _).alloc (Nat.le_refl _) _).drew
theorem below_e2 (W : World) (o p : Obj) : Below W.heap.size W ((W.alloc o).alloc p).drew := (((Below.refl _ _).alloc (Nat.le_refl _) _).alloc (by simp) _).drew

theorem own_ge {n a b g B : Nat} (hB : B ≤ n) (h : (Value.slice (some ⟨n, 0, none⟩) a b).ownBlock = some g) : B ≤ g := by
  have e : n = g := by simpa [Value.ownBlock] using h
  rw [← e]; exact hB

theorem src_one {w : World} {g : Nat} {z : ByteArray} {t : TypeId} (h : w.heap[g]? = some (.cells #[.string z] t (0, 0))) : Src w (.slice (some ⟨g, 0, none⟩) 1 1) 1 [.string z] :=
  Or.inr ⟨_, 1, rfl, World.news_of_block h⟩

/-- append(s, x) of one element of one cell, onto a slice whose array bears a label, behind a guard that holds. -/
theorem app1Lg {w : World} {ops : Array Oper} {rest : List Oper} {o : Oper} {a : Act} {Q : Exit → Act → World → Prop} {L : Lab} {r : Nat × Role} (hw : Region.wanted o (yielded ops a.tmps) = true) (s x : Operand) (t : TypeId)
    (ho : o.op = .call { callee := .builtin .append, args := #[s, x], argTypes := #[t, t] })
    (e : TypeId) (i : TypeInfo) (z : Value) (bytes : Nat) (ht : Try.prog.underlying t = some (.slice e)) (hi : Try.prog.info? e = some i) (hz : i.zero = some z) (hsize : i.size = 1) (hby : i.bytes = bytes) (hb16 : bytes ≤ 16) (hzs : z.cells.size = 1)
    (v : Value) (xs : List Value) (u : Value) (hu : u.oneCell' = true) (hs : a.eval s = v) (hown : Sl L w e 1 v xs.length xs r) (hL : Fresh L w)
    (hx : a.eval x = .slice (some ⟨w.heap.size, 0, none⟩) 1 1) (hlen : xs.length ≤ 10000000)
    (h : ∀ v' w' L', Sl L' w' e 1 v' (xs.length + 1) (xs ++ [u]) r → Fr (fun q => q = r) L w L' w' → wpList Try.prog ops Q rest (a.put o.dst v') w') : wpList Try.prog ops Q (o :: rest) a (w.alloc (.cells #[u] e)) := by
  have fA : Fr (fun q => q = r) L w L (w.alloc (.cells #[u] e)) := (Fr.refl hL).alloc _
  refine wpList_step fun K hK => ?_
  rw [if_pos hw]
  obtain ⟨v', w', hr, hown', hg, hat⟩ := run_append_src (P := Try.prog) (w.alloc (.cells #[u] e)) 0 t o.type e i z bytes ht hi hz hsize hby hzs v xs.length xs (World.ownsRow.alloc hown.1 _) (.slice (some ⟨w.heap.size, 0, none⟩) 1 1) 1 [u] rfl (Or.inr ⟨_, 1, rfl, World.news_of_block (heap_alloc_new w _)⟩) (by intro y hy; simp at hy; subst hy; exact hu) (by unfold maxLen; omega) (by
    have h1 := Nat.mul_le_mul (show xs.length + 1 ≤ 10000001 by omega) hb16
    omega) (Nat.zero_le _)
  unfold Oper.wp execOp
  simp only [ho, resolve, invoke, builtin, Sem.run_bind, Sem.run_pure, Result.andThen_ok, List.map_toArray, List.map_cons, List.map_nil, hs, hx, hr]
  refine hK _ _ ?_
  have f3 : Fr (fun q => q = r) L w L w' := fA.trans (Fr.grown fA.fresh hg (fun g hg' _ => ⟨r, hown.2 g hg', rfl⟩))
  cases hv : v'.ownBlock with
  | none => exact h v' w' L ⟨hown', fun g hg' => by rw [hv] at hg'; cases hg'⟩ f3
  | some g =>
    rw [hv] at hat
    rcases hat with hat | hat
    · exact h v' w' L ⟨hown', fun g' hg' => by rw [hv] at hg'; injection hg' with hg'; subst hg'; exact hown.2 g hat.symm⟩ f3
    · have hgl := (World.ownsRow.lt hown' g hv).2
      injection hat with hat
      exact h v' w' (setL L g r) ⟨hown', fun g' hg' => by rw [hv] at hg'; injection hg' with hg'; subst hg'; exact setL_same _ _ _⟩ (f3.label (by rw [hat]; simp) hgl r)

theorem crash_quiet {s : St} (ha : s.armed = 0) (hl : s.lost = 0) (keep : List Int) : (s.crash keep).start.armed = 0 ∧ (s.crash keep).start.lost = 0 := by
  refine ⟨?_, ?_⟩
  · show (s.crash keep).armed = 0
    unfold St.crash
    split
    · exact ha
    · rfl
  · show (s.crash keep).lost = 0
    unfold St.crash
    split
    · exact hl
    · show (s.setls _).lost = 0
      rw [(setls_rest s _).2.2.2.2.1]; exact hl

end Go.Proofs.Ytgocnjiabfmdpaa
