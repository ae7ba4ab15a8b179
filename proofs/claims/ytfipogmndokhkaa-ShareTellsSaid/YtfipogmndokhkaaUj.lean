/- Walks: slices of shares that are made; Split. -/
import Derived.Test.YtfipogmndokhkaaUi
namespace Go.Proofs.Ytfipogmndokhkaa
open Go.RowKit

theorem Try.infoSh : (Try.prog.info? 39).map (fun i => (i.zero, i.size, i.bytes)) = some (some (.agg #[.int .i64 0, .int .i64 0]), 2, 16) := by kernel_rfl

section
variable {w : World} {B : Nat} {ds : List (Int × Int)}
theorem OwnS.cell {g n cap k : Nat} (h : OwnS w B (.slice (some ⟨g, 0, none⟩) n cap) ds) (hn : ds.length = n) (hk : k < n) : w.cell? ⟨g, k * 2, none⟩ = some (.int .i64 (ds.getD k (0, 0)).1) ∧ w.cell? ⟨g, k * 2 + 1, none⟩ = some (.int .i64 (ds.getD k (0, 0)).2) := by
  subst hn
  obtain ⟨f1, f2⟩ := pc_get ds k hk
  have e : ds.getD k (0, 0) = ds[k] := by rw [List.getD_eq_getElem?_getD, List.getElem?_eq_getElem hk]; rfl
  rw [e, World.ownsRow.cellAt h (k * 2) (by omega), World.ownsRow.cellAt h (k * 2 + 1) (by omega), Nat.mul_comm]
  exact ⟨f1, f2⟩
theorem OwnS.frozen {g n cap k : Nat} (h : OwnS w B (.slice (some ⟨g, 0, none⟩) n cap) ds) (hn : ds.length = n) : w.frozen? ⟨g, k, none⟩ = false := by
  subst hn
  exact World.ownsRow.frozenAt h k
theorem OwnS.store {g n cap : Nat} (h : OwnS w B (.slice (some ⟨g, 0, none⟩) n cap) ds) (hn : ds.length = n) (k : Nat) (p : Int × Int) :
    OwnS ((w.setCell ⟨g, k * 2, none⟩ (.int .i64 p.1)).setCell ⟨g, k * 2 + 1, none⟩ (.int .i64 p.2)) B (.slice (some ⟨g, 0, none⟩) n cap) (ds.set k p) := by
  subst hn
  have h1 := (World.ownsRow.stored h (k * 2) (.int .i64 p.1)).1
  have h2 := (World.ownsRow.stored h1 (k * 2 + 1) (.int .i64 p.2)).1
  unfold OwnS
  rw [List.length_set, ← pc_set]
  exact h2
/-- The first of its shares alone. -/
theorem OwnS.cut {A : Option Addr} {n cap k : Nat} (h : OwnS w B (.slice A n cap) ds) (hn : ds.length = n) (hk : k ≤ n) : OwnS w B (.slice A k cap) (ds.take k) := by
  subst hn
  have hl : (ds.take k).length = k := by rw [List.length_take]; omega
  unfold OwnS
  rw [hl]
  refine ⟨by rw [pc_length, hl], ?_⟩
  rcases h.2 with ⟨hv, hn⟩ | ⟨g, cap', cur, hv, hb, hg, hnc, hcm, hcs, htake⟩
  · injection hv with e1 e2 e3
    subst e1; subst e3
    exact .inl ⟨by rw [show k = 0 by omega], by omega⟩
  · injection hv with e1 e2 e3
    subst e1; subst e3
    refine .inr ⟨g, cap, cur, rfl, hb, hg, by omega, hcm, hcs, ?_⟩
    have h3 : (cur.toList.take (ds.length * 2)).take (2 * k) = (pc ds).take (2 * k) := by rw [htake]
    rw [List.take_take, Nat.min_eq_left (by omega), pc_take, Nat.mul_comm] at h3
    exact h3
end

theorem made_pairs (m : Nat) : (madeCells (Value.agg #[.int .i64 0, .int .i64 0]).cells (m * 2)).toList = pc (List.replicate m (0, 0)) := by
  have hp : pc (List.replicate m ((0 : Int), (0 : Int))) = List.replicate (m * 2) (Value.int .i64 0) := by
    induction m with
    | zero => rfl
    | succ m ih =>
      have : pc (List.replicate (m + 1) (0, 0)) = [Value.int .i64 0, Value.int .i64 0] ++ pc (List.replicate m (0, 0)) := rfl
      rw [this, ih, show (m + 1) * 2 = m * 2 + 1 + 1 by omega, List.replicate_succ, List.replicate_succ]
      rfl
  rw [hp]
  unfold madeCells
  apply List.ext_getElem
  · simp
  · intro i h1 h2
    have hi : i % 2 = 0 ∨ i % 2 = 1 := by omega
    simp only [Array.toList_map, Array.toList_range, List.getElem_map, List.getElem_range, List.getElem_replicate]
    show (#[Value.int .i64 0, Value.int .i64 0] : Array Value)[i % 2]! = _
    rcases hi with h | h <;> rw [h] <;> rfl

/-- make([]api.Share, n, c). -/
theorem makeS {w : World} {ops : Array Oper} {rest : List Oper} {o : Oper} {a : Act} {Q : Exit → Act → World → Prop} (hgd : o.guard = none) (l c : Operand)
    (ho : o.op = Op.makeSlice 22 l c) (B n m : Nat) (L C : Int) (hl : a.eval l = .int .i64 L) (hc : a.eval c = .int .i64 C) (hL : L = n) (hC : C = m) (hnm : n ≤ m) (hm : m ≤ 10000000) (hbase : B ≤ w.heap.size)
    (h : ∀ w', OwnS w' B (.slice (some ⟨w.heap.size, 0, none⟩) n m) (List.replicate n (0, 0)) → Below B w w' → w'.heap.size = w.heap.size + 1 → wpList Try.prog ops Q rest (a.put o.dst (.slice (some ⟨w.heap.size, 0, none⟩) n m)) w') : wpList Try.prog ops Q (o :: rest) a w := by
  obtain ⟨i0, hi, hz0, hz1, hz2⟩ := info_parts Try.infoSh
  subst hL; subst hC
  have hr := run_make (P := Try.prog) w 22 39 i0 (.agg #[.int .i64 0, .int .i64 0]) Try.underlying22 hi hz0 .i64 .i64 (n : Int) (m : Int) (by omega) (by omega) (by rw [hz2]; omega) (by omega)
  simp only [Int.toNat_natCast] at hr
  refine wpList_plain hgd fun K hK' => ?_
  unfold Oper.wp
  simp [execOp, ho, hl, hc, hr, Result.andThen]
  rw [hz1] at hr ⊢
  refine hK' _ _ (h _ ?_ ((Below.refl B w).alloc hbase _) (by simp))
  have := World.ownsRow_lit (e := 39) (size := 2) (base := B) w (madeCells (Value.agg #[.int .i64 0, .int .i64 0]).cells (m * 2)) m hbase (by unfold maxLen; omega) (by rw [size_madeCells])
  rw [made_pairs] at this
  have hcut := OwnS.cut (w := w.alloc (.cells (madeCells (Value.agg #[.int .i64 0, .int .i64 0]).cells (m * 2)) 39)) (B := B) (A := some ⟨w.heap.size, 0, none⟩) (n := m) (cap := m) (k := n) (ds := List.replicate m (0, 0)) (by unfold OwnS; rw [List.length_replicate]; exact this) (by simp) hnm
  rw [List.take_replicate, Nat.min_eq_left hnm] at hcut
  exact hcut

theorem evaluate_exact (cs : List Int) (v : Value) (x : Int) (B : Nat) (w : World) (ho : OwnI w B v cs) (hl : cs.length ≤ 1000) (hf : ∀ c ∈ cs, 0 ≤ c ∧ c < 2147483647) (hx0 : 0 ≤ x) (hx1 : x ≤ 20) :
    Calls Try.prog 20 #[v, .int .i64 x] w fun e w' => e = .returned (.int .i64 (ev cs x % 2147483647)) ∧ w = w' := by
  refine (evaluate_any cs v x B w ho hl hf hx0 hx1).mono ?_
  rintro e w' ⟨z, rfl, h0, h1, h2, rfl⟩
  have h := h2.emod
  rw [Int.emod_eq_of_lt h0 h1] at h
  exact ⟨by rw [h], rfl⟩

def okS (secret k n : Int) : Bool := decide (0 ≤ secret) && decide (secret < 2147483647) && decide (1 ≤ n) && decide (n ≤ 20) && decide (1 ≤ k) && decide (k ≤ n)
/-- The shares of a polynomial at 1, 2, .. -/
def sh (cs : List Int) (i : Nat) : Int × Int := ((i : Int) + 1, ev cs ((i : Int) + 1) % 2147483647)
def shs (cs : List Int) (n : Nat) : List (Int × Int) := (List.range n).map (sh cs)
theorem shs_length (cs : List Int) (n : Nat) : (shs cs n).length = n := by simp [shs]
theorem shs_succ (cs : List Int) (n : Nat) : shs cs (n + 1) = shs cs n ++ [sh cs n] := by
  unfold shs
  rw [List.range_succ, List.map_append]
  rfl
theorem pad_set {α : Type} (l : List α) (r : Nat) (d z : α) : (l ++ List.replicate (r + 1) d).set l.length z = (l ++ [z]) ++ List.replicate r d := by
  rw [List.set_append_right _ _ (Nat.le_refl _), Nat.sub_self, List.replicate_succ, List.set_cons_zero, List.append_assoc]
  rfl

set_option maxRecDepth 100000 in
set_option maxHeartbeats 4000000 in
theorem split_good (secret : Int) (k n : Nat) (seed : Int) (w : World) (h : okS secret k n = true) :
    Calls Try.prog 8 #[.int .i64 secret, .int .i64 k, .int .i64 n, .int .i64 seed] w fun e w' => ∃ v, e = .returned (.tuple #[v, .int .i64 0]) ∧ OwnS w' w.heap.size v (shs (cfs secret seed k) n) ∧ Below w.heap.size w w' := by
  unfold okS at h
  simp at h
  obtain ⟨⟨⟨⟨⟨h0, h1⟩, h2⟩, h3⟩, h4⟩, h5⟩ := h
  have h2' : (1 : Int) ≤ n := by omega
  have h3' : (n : Int) ≤ 20 := by omega
  have h4' : (1 : Int) ≤ k := by omega
  have h5' : (k : Int) ≤ n := by omega
  have hcr := cfs_range h0 h1 seed k
  have hcl := cfs_length secret seed k
  obtain ⟨cs, hcs⟩ : ∃ cs, cfs secret seed k = cs := ⟨_, rfl⟩
  rw [hcs] at hcr hcl ⊢
  have HCS := Lib.hid (And.intro hcs (And.intro hcr hcl)); clear hcs hcr hcl
  go_enter Try.func8, Try.ntmps8
  go_wp2_with fail
  refine (inField_any secret _ true (by simp [h0, h1])).mono ?_
  rintro e w1 ⟨rfl, rfl⟩
  go_wp2_with fail
  refine (polynomial_any secret k seed _ (by omega) (by omega)).mono ?_
  rintro e w1 ⟨v, rfl, hown, hb1⟩
  rw [HCS.out.1] at hown
  have hs1 := hb1.size
  go_wp2_with (at_make; refine makeS rfl (.tmp 37) (.tmp 37) rfl w1.heap.size n n _ _ rfl rfl rfl rfl (by omega) (by omega) (Nat.le_refl _) ?_; intro w2 hown2 hb2 hsz2)
  go_loopw [12, 41] (fun _ iv wr => ∃ i : Nat, i ≤ n ∧ iv = .int .i64 i ∧ Below w1.heap.size w1 wr ∧ OwnS wr w1.heap.size (.slice (some ⟨w1.heap.size, 0, none⟩) n n) (shs cs i ++ List.replicate (n - i) (0, 0))) (fun _ iv _ => n - (intOf iv).toNat)
  case atStart => exact ⟨0, Nat.zero_le _, rfl, hb2, hown2⟩
  case round =>
    obtain ⟨i, hi, rfl, hb, ho⟩ := hrel
    by_cases hgo : i < n
    · have hlen : (shs cs i ++ List.replicate (n - i) ((0 : Int), (0 : Int))).length = n := by simp [shs_length]; omega
      obtain ⟨hc0, hc1⟩ := ho.cell hlen hgo
      have hf0 := ho.frozen (k := i * 2) hlen
      have hf1 := ho.frozen (k := i * 2 + 1) hlen
      have hlt := ho.lt.2
      have hs := hb.size
      have hst := ho.store hlen i (sh cs i)
      have e2 : (shs cs i ++ List.replicate (n - i) ((0 : Int), (0 : Int))).set i (sh cs i) = shs cs (i + 1) ++ List.replicate (n - (i + 1)) (0, 0) := by
        have h := pad_set (shs cs i) (n - (i + 1)) ((0 : Int), (0 : Int)) (sh cs i)
        rw [shs_length, show n - (i + 1) + 1 = n - i by omega] at h
        rw [h, shs_succ]
      rw [e2] at hst
      obtain ⟨u, hu⟩ : ∃ u, (shs cs i ++ List.replicate (n - i) ((0 : Int), (0 : Int))).getD i (0, 0) = u := ⟨_, rfl⟩
      rw [hu] at hc0 hc1
      obtain ⟨u0, u1⟩ := u
      simp only at hc0 hc1
      have HST := Lib.hid hst; clear hst
      clear hu e2 ho hlen
      go_wp2_with fail
      refine (evaluate_exact cs v ((i : Int) + 1) _ _ (hown.below hb) (by rw [HCS.out.2.2]; omega) HCS.out.2.1 (by omega) (by omega)).mono ?_
      rintro e w3 ⟨rfl, rfl⟩
      obtain ⟨Z, hZ⟩ : ∃ Z, ev cs ((i : Int) + 1) % 2147483647 = Z := ⟨_, rfl⟩
      have hst := HST.out
      unfold sh at hst
      rw [hZ] at hst ⊢
      have HST2 := Lib.hid hst; clear hst HST hZ
      go_wp2_with fail
      go_roundw
      case rel => exact ⟨i + 1, by omega, rfl, (hb.setCell (p := ⟨w1.heap.size, i * 2, none⟩) (Nat.le_refl _) _).setCell (p := ⟨w1.heap.size, i * 2 + 1, none⟩) (Nat.le_refl _) _, HST2.out⟩
      case measure => simp [intOf]; omega
    · have : i = n := by omega
      subst this
      rw [Nat.sub_self, List.replicate_zero, List.append_nil] at ho
      have HO := Lib.hid ho; clear ho
      go_wp2_with fail
      go_ret2
      exact ⟨_, rfl, HO.out.mono hs1, hb1.trans (hb.mono hs1)⟩

set_option maxRecDepth 100000 in
set_option maxHeartbeats 4000000 in
theorem split_bad (secret k n seed : Int) (w : World) (h : okS secret k n = false) :
    Calls Try.prog 8 #[.int .i64 secret, .int .i64 k, .int .i64 n, .int .i64 seed] w fun e w' => e = .returned (.tuple #[.slice none 0 0, .int .i64 1]) ∧ w = w' := by
  have H := Lib.hid h; clear h
  by_cases h0 : 0 ≤ secret ∧ secret < 2147483647
  · have hb : true = (decide (0 ≤ secret) && decide (secret < 2147483647)) := by simp [h0.1, h0.2]
    have HB := Lib.hid hb; clear hb
    by_cases h1 : n < 1
    · go_enter Try.func8, Try.ntmps8
      go_wp2_with fail
      refine (inField_any secret _ true HB.out).mono ?_
      rintro e w1 ⟨rfl, rfl⟩
      go_wp2_with fail
      go_ret2
      exact ⟨rfl, rfl⟩
    · by_cases h2 : 20 < n
      · go_enter Try.func8, Try.ntmps8
        go_wp2_with fail
        refine (inField_any secret _ true HB.out).mono ?_
        rintro e w1 ⟨rfl, rfl⟩
        go_wp2_with fail
        go_ret2
        exact ⟨rfl, rfl⟩
      · by_cases h3 : k < 1
        · go_enter Try.func8, Try.ntmps8
          go_wp2_with fail
          refine (inField_any secret _ true HB.out).mono ?_
          rintro e w1 ⟨rfl, rfl⟩
          go_wp2_with fail
          go_ret2
          exact ⟨rfl, rfl⟩
        · by_cases h4 : n < k
          · go_enter Try.func8, Try.ntmps8
            go_wp2_with fail
            refine (inField_any secret _ true HB.out).mono ?_
            rintro e w1 ⟨rfl, rfl⟩
            go_wp2_with fail
            go_ret2
            exact ⟨rfl, rfl⟩
          · exfalso
            have h := H.out
            unfold okS at h
            simp at h
            omega
  · have hb : false = (decide (0 ≤ secret) && decide (secret < 2147483647)) := by
      symm
      rw [Bool.and_eq_false_iff]
      simp
      omega
    have HB := Lib.hid hb; clear hb
    clear h0
    go_enter Try.func8, Try.ntmps8
    go_wp2_with fail
    refine (inField_any secret _ false HB.out).mono ?_
    rintro e w1 ⟨rfl, rfl⟩
    go_wp2_with fail
    go_ret2
    exact ⟨rfl, rfl⟩

end Go.Proofs.Ytfipogmndokhkaa
