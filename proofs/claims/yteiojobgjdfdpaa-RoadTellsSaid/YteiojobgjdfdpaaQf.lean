/- Walks: up; the queue's Push and Pop. -/
import Derived.Test.YteiojobgjdfdpaaQe
import Derived.Deep.AppendSrc
import Derived.Deep.RegionLaw
namespace Go.Proofs.Yteiojobgjdfdpaa
open Go.RowKit

def UpP (w : World) (G g c : Nat) (q : List En) (n : Nat) (e : Ending) (w' : World) : Prop := ∃ q', e = .returned (.tuple #[]) ∧ Kq w G g c q n w' q' ∧ Heap q' n
set_option maxRecDepth 100000 in
set_option maxHeartbeats 8000000 in
theorem up_any (q : List En) (G g c j n : Nat) (w : World) (hm : q.length = n) (h3 : w.cell? ⟨G, 3, none⟩ = some (.slice (some ⟨g, 0, none⟩) n c)) (hq : OwnQ w (G + 1) (.slice (some ⟨g, 0, none⟩) n c) q) (hmx : n ≤ 1000000) (hj : j < n) (hd : UpI q n j) :
    Calls Try.prog 79 #[.iface 87 (.pointer (some ⟨G, 3, none⟩)), .int .i64 j] w (UpP w G g c q n) := by
  have HK := Lib.hid (Kq.refl (w := w) (G := G) (g := g) (c := c) (q := q) n (by rw [hm]; exact hq))
  have HD := Lib.hid hd; clear hd hq
  have H3 := Lib.hid h3; clear h3
  have HM := Lib.hid hm; clear hm
  go_enter Try.func79, Try.ntmps79
  go_wp2_with fail
  go_loopw [1] (fun iv wr => ∃ (j : Nat) (q' : List En), iv = .int .i64 j ∧ j < n ∧ Hid (Kq w G g c q n wr q') ∧ Hid (UpI q' n j)) (fun iv _ => (intOf iv).toNat)
  case atStart => exact ⟨j, q, rfl, hj, HK, HD⟩
  case round =>
    obtain ⟨j, q', rfl, hj, hK, hD⟩ := hrel
    by_cases h1 : j = 0
    · subst h1
      have e1 : (((0 : Nat) : Int) - 1).tdiv 2 = 0 := by decide
      have e2 : ((-1 : Int)).tdiv 2 = 0 := by decide
      go_wp2_with fail
      go_end0
      exact ⟨q', rfl, hK.out, hD.out.done (.inl rfl)⟩
    · obtain ⟨p, hp⟩ : ∃ p : Nat, (j - 1) / 2 = p := ⟨_, rfl⟩
      have e1 : ((j : Int) - 1).tdiv 2 = (p : Int) := by
        rw [Int.tdiv_eq_ediv_of_nonneg (by omega)]; omega
      have hpj : p < j := by omega
      have e3 : ((p : Int) == (j : Int)) = false := by simp; omega
      have cl := hK.out.cell H3.out
      have ml := meth_less cl
      have hlenq : q'.length = n := hK.out.len.trans HM.out
      have hown := hK.out.own
      rw [HM.out] at hown
      obtain ⟨r1, hr1⟩ : ∃ r, decide (En.lt (gq q' j) (gq q' p)) = r := ⟨_, rfl⟩
      have HL1 := Lib.hid (less_any q' g n c j p (G + 1) wr hown hlenq (by omega) (by omega) r1 hr1)
      have HP := Lib.hid hp; clear hp
      go_wp2_with fail
      refine HL1.out.mono ?_
      rintro e w1 ⟨rfl, hb1⟩
      have hK1 := hK.out.below hb1
      have own1 := hK1.own
      rw [HM.out] at own1
      cases r1 with
      | false =>
        have hle := of_decide_eq_false hr1
        go_wp2_with fail
        go_end0
        exact ⟨q', rfl, hK1, hD.out.done (.inr (by rw [HP.out]; exact hle))⟩
      | true =>
        have HX := Lib.hid (And.intro hK1 (of_decide_eq_true hr1))
        have ms := meth_swap (hK1.cell H3.out)
        have HS := Lib.hid (swap_any q' g n c p j (G + 1) w1 own1 hlenq (by omega) (by omega))
        clear hK1 own1 hr1 hb1 ml cl hown
        go_wp2_with fail
        refine HS.out.mono ?_
        rintro e w3 ⟨rfl, ho3, hs3, hf3⟩
        have HY := Lib.hid (And.intro ho3 hf3)
        clear ho3 hf3 hs3
        go_wp2_with fail
        go_roundw
        case rel => exact ⟨p, swp q' p j, rfl, by omega, Lib.hid (HX.out.1.swap (by rw [HM.out]; exact HY.out.1) HY.out.2 (by omega) (by omega) (by rw [HM.out]; exact Nat.le_refl _)), Lib.hid (hD.out.step (by omega) (by omega) (by omega) HP.out HX.out.2)⟩
        case measure => simp [intOf]; omega

theorem run_ta (x y : Int) (w : World) : (Instr.typeAssert (.iface 85 (.agg #[.int .i64 x, .int .i64 y])) 20 85 false).run Try.prog w = .ok (.agg #[.int .i64 x, .int .i64 y]) w := by kernel_rfl
theorem Try.infoEn : (Try.prog.info? 85).map (fun i => (i.zero, i.size, i.bytes)) = some (some (.agg #[.int .i64 0, .int .i64 0]), 2, 16) := by kernel_rfl
theorem step_appQ {w : World} {ops : Array Oper} {o : Oper} {a : Act} {K : Act → World → Prop} {Q : Exit → Act → World → Prop} {E : Prop} (hgd : o.guard = none) (s x : Operand)
    (ho : o.op = .call { callee := .builtin .append, args := #[s, x], argTypes := #[68, 68] })
    (B : Nat) (v : Value) (q : List En) (e : En) (g0 : Nat) (hs : a.eval s = v) (hown : OwnQ w B v q) (hx : a.eval x = .slice (some ⟨g0, 0, none⟩) 1 1) (h0 : w.cell? ⟨g0, 0, none⟩ = some (.int .i64 e.1)) (h1 : w.cell? ⟨g0, 1, none⟩ = some (.int .i64 e.2)) (hl : q.length ≤ 1000000) (hB : B ≤ w.heap.size)
    (h : ∀ v' w', OwnQ w' B v' (q ++ [e]) → w.grownBy w' v.ownBlock → (v'.ownBlock = v.ownBlock ∨ v'.ownBlock = some w.heap.size) → K (a.put o.dst v') w') :
    if Region.wanted o (yielded ops a.tmps) = true then Oper.wp Try.prog o a w K Q else E := by
  have hw : Region.wanted o (yielded ops a.tmps) = true := by simp [Region.wanted, hgd]
  rw [if_pos hw]
  obtain ⟨i0, hi, hz0, hz1, hz2⟩ := info_parts Try.infoEn
  obtain ⟨v', w', a1, a2, a3, _, a4⟩ := run_append_own_at (P := Try.prog) w B 68 o.type 85 i0 (.agg #[.int .i64 0, .int .i64 0]) 2 16 Try.underlying68 hi hz0 hz1 hz2 rfl (by decide) v q.length (flat q) hown ⟨g0, 0, none⟩ 1 1 [.int .i64 e.1, .int .i64 e.2] rfl
    (fun j u hj => by
      match j, hj with
      | 0, hj => simp at hj; subst hj; exact h0
      | 1, hj => simp at hj; subst hj; exact h1
      | j + 2, hj => simp at hj) (fun u hu => by simp at hu; rcases hu with rfl | rfl <;> rfl) (by unfold maxLen; omega) (by omega) hB
  unfold Oper.wp execOp
  simp only [ho, resolve, invoke, builtin, Sem.run_bind, Sem.run_pure, Result.andThen_ok, List.map_toArray, List.map_cons, List.map_nil, hs, hx, a1]
  refine h v' w' ?_ a3 a4
  unfold OwnQ
  rw [flat_snoc, List.length_append]
  exact a2

/-- The search, as it lies: its struct in block G. -/
abbrev Srch (w : World) (G : Nat) (bk : Bool) (L D v : Value) : Prop := Blk w G 70 #[.bool bk, L, D, v]
theorem OwnQ.put {w : World} {G o : Nat} {v u : Value} {q : List En} (h : OwnQ w (G + 1) v q) : OwnQ (w.setCell ⟨G, o, none⟩ u) (G + 1) v q :=
  World.ownsRow.kept (row := some G) h ⟨rfl, rfl, rfl, by simp, fun k hk hn => Below.heap_setCell w _ u k (fun e => hn (by rw [e]))⟩ (by
    cases ho : v.ownBlock with
    | none => exact .inl rfl
    | some g =>
      refine .inr (fun e => ?_)
      injection e with e
      have := (World.ownsRow.lt h g ho).1
      omega)
/-- What the queue's blocks are. -/
def QB (G : Nat) (v : Value) (b : Nat) : Prop := b = G ∨ v.ownBlock = some b
theorem OwnQ.not_low {w : World} {G : Nat} {v : Value} {q : List En} (h : OwnQ w (G + 1) v q) : v.ownBlock ≠ some G := fun e => by
  have := (World.ownsRow.lt h G e).1
  omega
theorem grown_blk {w w1 : World} {o : Obj} {row : Option Nat} (hg : ((w.alloc o).drew).grownBy w1 row) {G : Nat} (hlt : G < w.heap.size) (hn : row ≠ some G) : w1.heap[G]? = w.heap[G]? :=
  (hg.block G (by show G < (w.alloc o).heap.size; simp; omega) (fun e => hn e.symm)).trans (Below.heap_alloc w o G hlt)
theorem grown_fr {w w1 : World} {o : Obj} {v : Value} {G : Nat} (hg : ((w.alloc o).drew).grownBy w1 v.ownBlock) : Fr (QB G v) w w1 :=
  ⟨hg.os, hg.tape, hg.output, by have := hg.size; have e : (w.alloc o).drew.heap.size = w.heap.size + 1 := by show (w.alloc o).heap.size = _; simp
                                 omega,
   fun b hb hn => grown_blk hg hb (fun e => hn (.inr e))⟩
set_option maxRecDepth 100000 in
set_option maxHeartbeats 8000000 in
theorem qPush_any (q : List En) (G : Nat) (bk : Bool) (L D v : Value) (x y : Int) (w : World) (hs : Srch w G bk L D v) (hq : OwnQ w (G + 1) v q) (hmx : q.length ≤ 1000000) :
    Calls Try.prog 104 #[.pointer (some ⟨G, 3, none⟩), .iface 85 (.agg #[.int .i64 x, .int .i64 y])] w fun e w' => ∃ v', e = .returned (.tuple #[]) ∧ Srch w' G bk L D v' ∧ OwnQ w' (G + 1) v' (q ++ [(x, y)]) ∧ Fr (QB G v) w w' ∧ (v'.ownBlock = v.ownBlock ∨ ∃ b, v'.ownBlock = some b ∧ w.heap.size ≤ b) := by
  have h3 : w.cell? ⟨G, 3, none⟩ = some v := hs.cell 3
  have hf : w.frozen? ⟨G, 3, none⟩ = false := hs.frozen 3
  have hlt := hs.lt
  have HS := Lib.hid hs; clear hs
  have HQ := Lib.hid hq; clear hq
  have hvc : v = .slice none 0 0 ∨ ∃ g n c, v = .slice (some ⟨g, 0, none⟩) n c := by
    rcases HQ.out.2 with ⟨rfl, _⟩ | ⟨g, cap, _, rfl, _⟩
    · exact .inl rfl
    · exact .inr ⟨_, _, _, rfl⟩
  go_enter Try.func104, Try.ntmps104
  have hta := run_ta x y
  have hB0 : Below w.heap.size w (w.alloc (.cells #[.int .i64 x, .int .i64 y] 85)) := (Below.refl _ _).alloc (Nat.le_refl _) _
  go_region_law
    (refine step_appQ rfl (.tmp 7) (.tmp 10) rfl (G + 1) v q (x, y) w.heap.size (by exact rfl) (World.ownsRow.alloc HQ.out _) (by simp [Act.eval]) (two_new0 _ _ _ _) (two_new1 _ _ _ _) hmx (by simp; omega) ?_; intro v' w1 hown hg hat; obtain ⟨g', c', rfl, hg1, hg2, hg3⟩ := hown.some_of (by simp); have hlt1 : G < w1.heap.size := (by omega); have hbk := grown_blk hg hlt HQ.out.not_low; have h31 : w1.cell? ⟨G, 3, none⟩ = some v := (World.cell?_of_block (a := ⟨G, 3, none⟩) hbk).trans h3; have hf1 : w1.frozen? ⟨G, 3, none⟩ = false := Blk.frozen (hbk.trans HS.out) 3; have HW := Lib.hid (And.intro hown (And.intro hbk (And.intro (grown_fr (G := G) hg) hat))); clear hown hbk hg hat)
  all_goals
    go_wp2_with fail
    go_end0
    obtain ⟨o1, o2, o3, o4⟩ := HW.out
    rw [List.length_append] at o1
    refine ⟨_, rfl, (Blk.set_ (o2.trans HS.out) 3 _), o1.put, o3.tr (Fr.set_ _ _ _ _ (.inl rfl)), ?_⟩
    rcases o4 with o4 | o4
    · exact .inl o4
    · exact .inr ⟨_, o4, by simp⟩

theorem OwnQ.cut {w : World} {B : Nat} {A : Option Addr} {n cap k : Nat} {q : List En} (h : OwnQ w B (.slice A n cap) q) (hn : q.length = n) (hk : k ≤ n) : OwnQ w B (.slice A k cap) (q.take k) := by
  subst hn
  have hl : (q.take k).length = k := by rw [List.length_take]; omega
  have hfl : flat (q.take k) = (flat q).take (k * 2) := by
    clear h hl
    induction q generalizing k with
    | nil => simp [flat]
    | cons e q ih =>
      cases k with
      | zero => rfl
      | succ k =>
        have e1 : (flat (e :: q)) = Value.int .i64 e.1 :: Value.int .i64 e.2 :: flat q := rfl
        rw [e1, List.take_succ_cons, show (k + 1) * 2 = k * 2 + 1 + 1 by omega, List.take_succ_cons, List.take_succ_cons, ← ih (by simpa using hk)]
        rfl
  unfold OwnQ
  rw [hl, hfl]
  refine ⟨by rw [List.length_take, flat_len]; omega, ?_⟩
  rcases h.2 with ⟨hv, hn⟩ | ⟨g, cap', cur, hv, hb, hg, hnc, hcm, hcs, htake⟩
  · injection hv with e1 e2 e3
    subst e1; subst e3
    exact .inl ⟨by rw [show k = 0 by omega], by omega⟩
  · injection hv with e1 e2 e3
    subst e1; subst e3
    refine .inr ⟨g, cap, cur, rfl, hb, hg, by omega, hcm, hcs, ?_⟩
    have h3 : (cur.toList.take (q.length * 2)).take (k * 2) = (flat q).take (k * 2) := by rw [htake]
    rwa [List.take_take, Nat.min_eq_left (by omega)] at h3

set_option maxRecDepth 100000 in
set_option maxHeartbeats 8000000 in
theorem qPop_any (q : List En) (G g n c : Nat) (bk : Bool) (L D : Value) (w : World) (hs : Srch w G bk L D (.slice (some ⟨g, 0, none⟩) (n + 1) c)) (hq : OwnQ w (G + 1) (.slice (some ⟨g, 0, none⟩) (n + 1) c) q) (hn : q.length = n + 1) (hmx : n ≤ 1000000) (x y : Int) (he : gq q n = (x, y)) :
    Calls Try.prog 103 #[.pointer (some ⟨G, 3, none⟩)] w fun e w' => e = .returned (.iface 85 (.agg #[.int .i64 x, .int .i64 y])) ∧ Srch w' G bk L D (.slice (some ⟨g, 0, none⟩) n c) ∧ OwnQ w' (G + 1) (.slice (some ⟨g, 0, none⟩) n c) (q.take n) ∧ Fr (· = G) w w' := by
  have h3 : w.cell? ⟨G, 3, none⟩ = some (.slice (some ⟨g, 0, none⟩) (n + 1) c) := hs.cell 3
  have hf : w.frozen? ⟨G, 3, none⟩ = false := hs.frozen 3
  have hlt := hs.lt
  obtain ⟨c0, c1⟩ := hq.cells hn (k := n) (by omega)
  rw [he] at c0 c1
  have hcap : n + 1 ≤ c := by
    rcases hq.2 with ⟨hv, _⟩ | ⟨g', cap', cur, hv, hb, hg, hnc, hcm, hcs, htake⟩
    · cases hv
    · injection hv with e1 e2 e3
      omega
  have HC := Lib.hid (hq.cut hn (k := n) (by omega))
  have hB0 : Below w.heap.size w (w.alloc (.cells #[.int .i64 x, .int .i64 y] 85)) := (Below.refl _ _).alloc (Nat.le_refl _) _
  have h3' := (hB0.cell (p := ⟨G, 3, none⟩) hlt).trans h3
  have HS := Lib.hid (And.intro hs (And.intro hq he)); clear hs hq he hn
  go_enter Try.func103, Try.ntmps103
  go_wp2_with fail
  go_ret
  exact ⟨by rfl, Blk.alloc (Blk.set_ HS.out.1 3 _) _, World.ownsRow.alloc (OwnQ.put HC.out) _, (Fr.set_ (· = G) w ⟨G, 3, none⟩ (.slice (some ⟨g, 0, none⟩) n c) rfl).tr (Fr.of_below ((Below.refl _ _).alloc (Nat.le_refl _) _))⟩

end Go.Proofs.Yteiojobgjdfdpaa
