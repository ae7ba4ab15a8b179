/- Walks: slices.Backward, a range over it, and join. Walks: times. Walks: leading; steps: what it keeps. Walks: subtract. Plain: the digits of a quotient. Walks: order; slices.Clone and slices.Equal in our words. -/
import Derived.Test.YtlbjaimgoiimgaaXaa
import Derived.RangeFuncNested
import Derived.RangeFuncBound
import Derived.RangeFuncCalls
import Derived.RangeFuncLeaves
import Derived.Shelf.Abstract
import Derived.Shelf.RegionOpen
import Derived.OwnWalkIn
import Derived.TacticsInMore
import Derived.LoopNIn
import Derived.LoopIn
import Derived.Laws.Rows
import Derived.Test.YtlbjaimgoiimgaaShelf
import Derived.Deep.QuietTactic
import Derived.BigQuiet

namespace Go.Proofs.Ytlbjaimgoiimgaa
open Go.RowKit Go.Shelf

attribute [local go_sem] Oper.semAt_some

/-- What has come when k rounds are over: f 0, .., f (k - 1). -/
def upto {α : Type} (f : Nat → α) (k : Nat) : List α := (List.range k).map f
theorem upto_succ {α : Type} (f : Nat → α) (k : Nat) : upto f (k + 1) = upto f k ++ [f k] := by simp [upto, List.range_succ]
theorem upto_length {α : Type} (f : Nat → α) (k : Nat) : (upto f k).length = k := by simp [upto]

/-- A place of a slice, and the digit there. -/
abbrev Dg := { x : Int × Int // 0 ≤ x.2 ∧ x.2 < 1048576 }
def dgAt (zs : List Int) (hd : Dig zs) (len j : Nat) : Dg := ⟨((len : Int) - 1 - j, zs.getD (len - 1 - j) 0), hd.getD' _⟩

/-- What a round keeps: all below n₀, and the cell Bs. -/
def Kp (Bs n₀ : Nat) (W W' : World) : Prop := Below n₀ W W' ∧ ∀ v, W.cell? ⟨Bs, 0, none⟩ = some v → W'.cell? ⟨Bs, 0, none⟩ = some v
theorem Kp.refl (Bs n₀ : Nat) (W : World) : Kp Bs n₀ W W := ⟨Below.refl _ _, fun _ h => h⟩
theorem Kp.trans {Bs n₀ : Nat} {A B C : World} (h : Kp Bs n₀ A B) (h' : Kp Bs n₀ B C) : Kp Bs n₀ A C := ⟨h.1.trans h'.1, fun v e => h'.2 v (h.2 v e)⟩

set_option maxRecDepth 100000 in
set_option maxHeartbeats 2000000 in
theorem back1_in (F : Fence) (n : Nat) (h8 : F.fn 99) (hro : F.round = none) (hn : 1 ≤ n) (l Bs n₀ len cap : Nat) (A : Option Addr) (zs : List Int) (hd : Dig zs) (hlen : len ≤ zs.length) (hm : len ≤ 1000000) (J Jx : List Dg → World → Prop)
    (hY : ∀ pre (x : Dg) W, J pre W → pre.length < len → YieldAt F (n - 1) Try.prog l #[.int .i64 x.1.1, .int .i64 x.1.2] W fun e W' =>
      (e = .returned (.bool true) ∧ J (pre ++ [x]) W' ∧ Kp Bs n₀ W W') ∨ (e = .returned (.bool false) ∧ Jx (pre ++ [x]) W'))
    (W : World) (hBs : W.cell? ⟨Bs, 0, none⟩ = some (.slice A len cap)) (hc : IntsAt n₀ W A zs) (h0 : J [] W) :
    CallsIn F n Try.prog 99 #[.func (.yield l) #[] #[], .pointer (some ⟨Bs, 0, none⟩)] W fun e W' => (∃ v, e = .returned v) ∧
      ((∃ ys, ys = upto (dgAt zs hd len) len ∧ J ys W') ∨ (∃ pre, (∃ k, k ≤ len ∧ pre = upto (dgAt zs hd len) k) ∧ Jx pre W')) := by
  refine callsIn_of_wp Try.func99 rfl h8 ?_ hro
  simp only [Try.ntmps99, List.size_toArray, List.length_cons, List.length_nil, Nat.reduceAdd, Nat.reduceSub, Array.replicate_succ, Array.replicate_zero, List.push_toArray, List.append_toArray, List.nil_append, List.cons_append]
  gi_wp2
  gi_loopw [3] (fun i wr => ∃ k : Nat, k ≤ len ∧ i = .int .i64 ((len : Int) - 1 - k) ∧ J (upto (dgAt zs hd len) k) wr ∧ Kp Bs n₀ W wr)
    (fun i _ => (intOf i + 1).toNat)
  case atStart => exact ⟨0, Nat.zero_le _, by simp, h0, Kp.refl _ _ _⟩
  case round =>
    obtain ⟨k, hk, rfl, hJs, hnx⟩ := hrel
    have hBsr := hnx.2 _ hBs
    by_cases hlt : k < len
    · obtain ⟨b, off, hA, hbB, hcx⟩ := hc (len - 1 - k) (by omega)
      subst hA
      have hcx' := (hnx.1.cell (p := ⟨b, off + (len - 1 - k), none⟩) hbB).trans hcx
      obtain ⟨fn, tmps, assign, body, hy, hR⟩ := hY _ (dgAt zs hd len k) wr hJs (by rw [upto_length]; exact hlt)
      dsimp only [dgAt] at hy
      obtain ⟨d, hdd⟩ : ∃ d, zs.getD (len - 1 - k) 0 = d := ⟨_, rfl⟩
      rw [hdd] at hcx' hy
      clear hdd hcx
      gi_wp2
      refine hR.mono ?_
      rintro e W3 (⟨rfl, hJ3, hk3⟩ | ⟨rfl, hJx3⟩)
      · gi_wp2
        go_roundw
        case rel => exact ⟨k + 1, by omega, by congr 1; omega, by rw [upto_succ]; exact hJ3, hnx.trans hk3⟩
        case measure => simp [intOf]; omega
      · gi_wp2
        refine bodyPost_ret (results_none rfl _ _ _) rfl ?_
        exact ⟨⟨_, rfl⟩, .inr ⟨_, ⟨k + 1, by omega, (upto_succ _ _).symm⟩, hJx3⟩⟩
    · obtain rfl : k = len := by omega
      gi_wp2
      go_end0
      exact ⟨⟨_, rfl⟩, .inl ⟨_, rfl, hJs⟩⟩

set_option maxHeartbeats 1000000 in
theorem back_in (F : Fence) (n : Nat) (h6 : F.fn 88) (hro : F.round = none) (a : Option Addr) (len cap : Nat) (w : World) :
    CallsIn F n Try.prog 88 #[.slice a len cap] w fun e w' => e = .returned (.func (.func 99) #[] #[.pointer (some ⟨w.heap.size, 0, none⟩)]) ∧ w' = w.alloc (.cells #[.slice a len cap] 36) := by
  refine callsIn_of_wp Try.func88 rfl h6 ?_ hro
  simp only [Try.ntmps88, List.size_toArray, List.length_cons, List.length_nil, Nat.reduceAdd, Nat.reduceSub, Array.replicate_succ, Array.replicate_zero, List.push_toArray, List.append_toArray, List.nil_append, List.cons_append]
  gi_wp2
  go_ret
  exact ⟨rfl, rfl⟩

theorem back_stops (F : Fence) (n : Nat) (h8 : F.fn 99) (hro : F.round = none) (hn : 1 ≤ n) (Bs n₀ cap : Nat) (A : Option Addr) (zs : List Int) (hd : Dig zs) (hm : zs.length ≤ 1000000) (w : World) (hBs : Bs < w.heap.size) (hn₀ : n₀ ≤ w.heap.size)
    (hc : w.cell? ⟨Bs, 0, none⟩ = some (.slice A zs.length cap)) (hI : IntsAt n₀ w A zs) :
    SeqStopsK F n Try.prog 99 #[.pointer (some ⟨Bs, 0, none⟩)] (fun x : Dg => #[Value.int .i64 x.1.1, Value.int .i64 x.1.2]) (Kp Bs n₀) (fun ys => ys = upto (dgAt zs hd zs.length) zs.length)
      (fun pre => ∃ k, k ≤ zs.length ∧ pre = upto (dgAt zs hd zs.length) k) zs.length w := fun l J Jx W hW _ _ hY h0 => by
  have hc' := (hW.cell (p := ⟨Bs, 0, none⟩) hBs).trans hc
  exact back1_in F n h8 hro hn l Bs n₀ zs.length cap A zs hd (Nat.le_refl _) hm J Jx hY W hc' (hI.below (hW.mono hn₀)) h0

/-- The number of the digits that have come, modulo 2^64. -/
def jn : List Dg → Int := List.foldl (fun s x => s * 1048576 % 18446744073709551616 + x.1.2) 0
theorem jn_snoc (pre : List Dg) (x : Dg) : jn (pre ++ [x]) = jn pre * 1048576 % 18446744073709551616 + x.1.2 := by simp [jn]
theorem jn_upto (zs : List Int) (hd : Dig zs) (k : Nat) (hk : k ≤ zs.length) : jn (upto (dgAt zs hd zs.length) k) = nv (zs.drop (zs.length - k)) % 18446744073709551616 := by
  induction k with
  | zero => rw [Nat.sub_zero, List.drop_length]; rfl
  | succ k ih =>
    rw [upto_succ, jn_snoc, ih (by omega)]
    have h1 := drop_cons (l := zs) (k := zs.length - (k + 1)) (by omega)
    have h2 : zs.length - (k + 1) + 1 = zs.length - k := by omega
    rw [h2] at h1
    rw [h1, nv_cons]
    have h3 := hd.getD' (zs.length - (k + 1))
    have h4 : (dgAt zs hd zs.length k).1.2 = zs.getD (zs.length - (k + 1)) 0 := by unfold dgAt; show zs.getD (zs.length - 1 - k) 0 = _; congr 1; omega
    rw [h4]
    omega
theorem jn_bd (pre : List Dg) : 0 ≤ jn pre ∧ jn pre < 18446744073709551616 := by
  rcases List.eq_nil_or_concat pre with rfl | ⟨pre, x, rfl⟩
  · decide
  · rw [List.concat_eq_append, jn_snoc]
    have := x.2
    omega

theorem or_low64 {r d : Int} (d0 : 0 ≤ d) (d1 : d < 1048576) : bits BinOp.or IntKind.u64 (r * 1048576 % 18446744073709551616) d = r * 1048576 % 18446744073709551616 + d := by
  have e : (2 : Int) ^ 20 = 1048576 := by decide
  have e2 : (2 : Int) ^ 64 = 18446744073709551616 := by decide
  exact bits_join .u64 64 (by decide) (fun n h0 h1 => by rw [e2] at h1; rw [IntKind.wrap_u64]; omega) 20 (r * 1048576 % 18446744073709551616) d (by omega) (by rw [e]; omega) (by rw [e2]; omega) d0 (by rw [e]; omega) (by rw [e2]; omega)

set_option maxRecDepth 100000 in
set_option maxHeartbeats 2000000 in
theorem join_in (F : Fence) (n : Nat) (h3 : F.fn 70) (h5 : F.fn 88) (h7 : F.fn 99) (hro : F.round = none) (hn : 3 ≤ n) (a : Option Addr) (cap : Nat) (zs : List Int) (hd : Dig zs) (hm : zs.length ≤ 1000000) (w : World) (hI : IntsAt w.heap.size w a zs) :
    CallsIn F n Try.prog 70 #[.slice a zs.length cap] w fun e W' => e = .returned (.int .u64 (nv zs % 18446744073709551616)) ∧ Below w.heap.size w W' := by
  have h1 : 1 ≤ n := by omega
  refine callsIn_of_wp_marks Try.func70 rfl h3 ?_ hro
  simp only [Try.ntmps70, List.size_toArray, List.length_cons, List.length_nil, Nat.reduceAdd, Nat.reduceSub, Array.replicate_succ, Array.replicate_zero, List.push_toArray, List.append_toArray, List.nil_append, List.cons_append]
  gi_wp2_with (gi_at_call 88; refine (back_in F (n - 1) h5 hro _ _ _ _).mono ?_; rintro e w' ⟨rfl, rfl⟩)
  have bS := Boxed.new w 79 (.int .u64 0)
  have bN := Boxed.new (w.alloc (.cells #[.int .u64 0] 79)) 36 (.slice a zs.length cap)
  rw [World.size_alloc] at bN
  have hB0 : Below w.heap.size w ((w.alloc (.cells #[.int .u64 0] 79)).alloc (.cells #[.slice a zs.length cap] 36)) := ((Below.refl _ w).alloc (Nat.le_refl _) _).alloc (by simp) _
  refine wpIn_rangeFunc_ownG hro h1 (gf := 99) (lb := #[.pointer (some ⟨w.heap.size + 1, 0, none⟩)]) rfl h7 (enters_of Try.func99 (by kernel_rfl) rfl)
    (back_stops F (n - 1) h7 hro (by omega) (w.heap.size + 1) w.heap.size cap a zs hd hm _ (by simp) (by simp; omega) bN.cell (hI.below hB0)) (fun h h' => h.trans h')
    (fun W l o o' hl ho hco hwo => ⟨belowK_b (w := w) (Nat.le_refl _) W l o o' (by simp at hl; omega) ho hco hwo, fun v hv => cell_kept hv (grownBy_putObj' _ l o') (fun r e => by cases e; exact ⟨_, ho, hco⟩)⟩) (Below.refl _ _) (fun _ => rfl)
    (fun pre W => (W.cell? ⟨w.heap.size, 0, none⟩ = some (.int .u64 (jn pre)) ∧ W.frozen? ⟨w.heap.size, 0, none⟩ = false) ∧ Below w.heap.size w W)
    (fun _ _ _ => False)
    (OwnFrom.and (Own.from (fun s A B row hs hg hr => ⟨cell_kept hs.1 hg hr, (frozen_kept hs.1 hg hr).trans hs.2⟩) _) (ownFrom_below (Nat.le_refl _) (by simp; omega)))
    (fun _ _ _ _ _ hs _ _ => hs)
    ⟨⟨(bS.alloc _).cell, (bS.alloc _).frozen⟩, hB0⟩
    (fun x => { tmps := #[.slice a zs.length cap, undef, .int .u64 0, .pointer (some ⟨w.heap.size, 0, none⟩), undef, .int .i64 x.1.2, .slice a zs.length cap, .func (.func 99) #[] #[.pointer (some ⟨w.heap.size + 1, 0, none⟩)], .int .i64 x.1.1, .int .i64 x.1.2, undef, undef, undef, undef, undef, undef], defers := [] }) ?assign ?body ?done ?stop
  case assign =>
    intro l x W K hK
    gi_wp2
    exact hK
  case body =>
    rintro l pre x W ⟨⟨hc, hf⟩, hB⟩ _
    obtain ⟨⟨x1, x2⟩, hx⟩ := x
    dsimp only at hx ⊢
    have hj := jn_bd pre
    have hor := or_low64 (r := jn pre) hx.1 hx.2
    gi_wp2
    exact ⟨(KeepsOthers.setCell _ _ _).from _, ⟨(Below.refl w.heap.size W).setCell (p := ⟨w.heap.size, 0, none⟩) (Nat.le_refl _) _, fun v hv => (World.cell?_setCell_other W ⟨w.heap.size, 0, none⟩ _ _ (by simp)).trans hv⟩, ⟨by rw [jn_snoc, IntKind.wrap_u64, hor]; exact World.cell?_setCell_same' _ _ _ (by rw [hc]; rfl), by rw [World.frozen?_setCell]; exact hf⟩, hB.setCell (p := ⟨w.heap.size, 0, none⟩) (Nat.le_refl _) _⟩
  case done =>
    rintro D ys W hD rfl ⟨⟨hc, _⟩, hB⟩ hK
    rw [jn_upto zs hd zs.length (Nat.le_refl _), Nat.sub_self, List.drop_zero] at hc
    gi_wp2
    refine ⟨by simp, .inl ⟨_, _, rfl, run_takeDeferred hK, ?_⟩⟩
    exact ⟨_, results_tmp rfl _ _ _, rfl, hB.trans (belowK_b (w := w) (Nat.le_refl _) W D _ _ (by simp at hD; omega) hK rfl rfl)⟩
  case stop =>
    rintro D c pre W _ _ h _
    exact h.elim

theorem join_any (a : Option Addr) (cap : Nat) (zs : List Int) (w : World) (hI : IntsAt w.heap.size w a zs) (hd : Dig zs) (hm : zs.length ≤ 1000000) (hz : nv zs < 18446744073709551616) :
    Calls Try.prog 70 #[.slice a zs.length cap] w fun e W' => e = .returned (.int .u64 (nv zs)) ∧ Below w.heap.size w W' := by
  have h := (callsIn_wide (n := 3)).1 (join_in Fence.wide 3 trivial trivial trivial rfl (by omega) a cap zs hd hm w hI)
  rw [Int.emod_eq_of_lt hd.nv_nonneg hz] at h
  exact h

end Go.Proofs.Ytlbjaimgoiimgaa

namespace Go.Proofs.Ytlbjaimgoiimgaa
open Go.RowKit

theorem nv_set {l : List Int} {k : Nat} (h : k < l.length) (z : Int) : nv (l.set k z) = nv l + pw k * (z - l.getD k 0) := by
  have h1 := nv_split (l.set k z) (k + 1) (by simp; omega)
  have h2 := nv_split l (k + 1) (by omega)
  have hk : (l.take k).length = k := by rw [List.length_take]; omega
  rw [take_set_succ h, nv_snoc, hk, List.drop_set_of_lt (by omega)] at h1
  rw [nv_take_succ h] at h2
  rw [h1, h2, Int.mul_sub]
  omega
theorem getD_set {l : List Int} {k : Nat} (h : k < l.length) (z : Int) (j : Nat) : (l.set k z).getD j 0 = if j = k then z else l.getD j 0 := by
  rw [List.getD_eq_getElem?_getD, List.getD_eq_getElem?_getD, List.getElem?_set]
  by_cases e : k = j
  · subst e; simp [h]
  · rw [if_neg e, if_neg (fun h => e h.symm)]

def Bnd (l : List Int) (M : Int) : Prop := ∀ j, 0 ≤ l.getD j 0 ∧ l.getD j 0 ≤ M
theorem Bnd.set {l : List Int} {M M' : Int} (h : Bnd l M) (hM : M ≤ M') {k : Nat} (hk : k < l.length) {z : Int} (h0 : 0 ≤ z) (h1 : z ≤ M') : Bnd (l.set k z) M' := fun j => by
  rw [getD_set hk]
  split
  · exact ⟨h0, h1⟩
  · exact ⟨(h j).1, Int.le_trans (h j).2 hM⟩

theorem mul_dd {x y : Int} (hx : 0 ≤ x ∧ x < 1048576) (hy : 0 ≤ y ∧ y < 1048576) : 0 ≤ x * y ∧ x * y ≤ 1099511627776 := by
  have h1 : x * y ≤ 1048576 * y := Int.mul_le_mul_of_nonneg_right (by omega) hy.1
  exact ⟨Int.mul_nonneg hx.1 hy.1, by omega⟩

theorem inner_step {R A P x t y Pj V : Int} (h : R = A + P * (x * t)) (hV : V = R + P * Pj * (x * y)) : V = A + P * (x * (t + Pj * y)) := by
  rw [hV, h, Int.mul_add, Int.mul_add, Int.mul_assoc P Pj]
  have : Pj * (x * y) = x * (Pj * y) := by rw [← Int.mul_assoc, Int.mul_comm Pj x, Int.mul_assoc]
  rw [this]; omega

theorem third_step {ta P c d r Z : Int} (h : ta + P * (c + (d + 1048576 * r)) = Z) : ta + P * ((c + d) % 1048576) + 1048576 * P * ((c + d) / 1048576 + r) = Z := by
  rw [Int.mul_comm 1048576 P, Int.mul_assoc, Int.add_assoc, ← Int.mul_add, ← h]
  congr 2; omega

set_option maxHeartbeats 1000000 in
theorem times_any (la lb : List Int) (Aa Ab : Option Addr) (ca cb : Nat) (w : World) (hIa : IntsAt w.heap.size w Aa la) (hIb : IntsAt w.heap.size w Ab lb) (hda : Dig la) (hdb : Dig lb) (hla : la.length ≤ 62) (hlb : lb.length ≤ 62) :
    Calls Try.prog 73 #[.slice Aa la.length ca, .slice Ab lb.length cb] w fun e w' => ∃ v', e = .returned v' ∧ OwnI w' w.heap.size v' (D (nv la * nv lb)) ∧ Below w.heap.size w w' := by
  obtain ⟨na, hna⟩ : ∃ n, la.length = n := ⟨_, rfl⟩
  obtain ⟨nb, hnb⟩ : ∃ n, lb.length = n := ⟨_, rfl⟩
  have hza : la.length ≤ na ∧ na ≤ la.length := by omega
  have hzb : lb.length ≤ nb ∧ nb ≤ lb.length := by omega
  have hZ : nv la * nv lb < pw (na + nb) := by
    have h1 := hda.nv_lt
    have h2 := hdb.nv_lt
    rw [pw_add, ← hna, ← hnb]
    exact Int.lt_of_le_of_lt (Int.mul_le_mul_of_nonneg_right (by omega) hdb.nv_nonneg) (Int.mul_lt_mul_of_pos_left h2 (pw_pos _))
  rw [hna] at hla ⊢
  rw [hnb] at hlb ⊢
  have HNA := Lib.hid hna; clear hna
  have HNB := Lib.hid hnb; clear hnb
  have HZ := Lib.hid hZ; clear hZ
  obtain ⟨m, hm⟩ : ∃ m, na + nb = m := ⟨_, rfl⟩
  have hmm : na + nb ≤ m ∧ m ≤ na + nb := by omega
  have HM := Lib.hid hm; clear hm
  have hmul : ∀ i, i < na → i * nb + nb ≤ 3844 := fun i hi => by
    have h1 : (i + 1) * nb ≤ 62 * 62 := Nat.mul_le_mul (by omega) hlb
    rw [Nat.succ_mul] at h1
    exact h1
  have HMUL := Lib.hid hmul; clear hmul
  go_enter Try.func73, Try.ntmps73
  go_wp2_with (at_make; refine makeI rfl (.tmp 17) (.tmp 17) rfl w.heap.size m m _ _ rfl rfl (by omega) (by omega) (by omega) (by omega) (Nat.le_refl _) ?_; intro w0 hown0 hb0 hsz0)
  have hlt0 := hown0.lt.2
  go_loopw [21] (fun i wr => ∃ (k : Nat) (rs : List Int) (T : Nat), k ≤ na ∧ i = .int .i64 k ∧ T ≤ k * nb ∧ Hid (rs.length = m) ∧ OwnI wr w.heap.size (.slice (some ⟨w.heap.size, 0, none⟩) m m) rs ∧ Hid (Bnd rs (1099511627776 * T)) ∧ Hid (nv rs = nv (la.take k) * nv lb) ∧ Below w.heap.size w wr) (fun i _ => na - (intOf i).toNat)
  case atStart => exact ⟨0, List.replicate m 0, 0, Nat.zero_le _, rfl, by simp, Lib.hid (by simp), hown0, Lib.hid (fun j => by
    have : (List.replicate m (0:Int)).getD j 0 = 0 := by
      rw [List.getD_eq_getElem?_getD, List.getElem?_replicate]; split <;> rfl
    rw [this]; decide), Lib.hid (by rw [nv_replicate]; simp [nv]), hb0⟩
  case round =>
    obtain ⟨i, rs, T, hi, rfl, hT, hrl, hown, hbd, hv, hb⟩ := hrel
    have hs := hb.size
    by_cases hlt : i < na
    · obtain ⟨b, off, hA, hbB, hc⟩ := hIa i (by omega)
      subst hA
      have hx := hda.getD (k := i) (by omega)
      have hca := (hb.cell (p := ⟨b, off + i, none⟩) hbB).trans hc
      have hxs := nv_take_succ (l := la) (k := i) (by omega)
      obtain ⟨x, hxx⟩ : ∃ d, la.getD i 0 = d := ⟨_, rfl⟩
      rw [hxx] at hca hx hxs
      clear hxx hc
      have HXS := Lib.hid hxs; clear hxs
      have hT2 : T ≤ 3844 := by have := HMUL.out i hlt; omega
      have hiT : i * nb + nb ≤ 3844 := HMUL.out i hlt
      go_wp2_with fail
      obtain ⟨w1, hw1⟩ : ∃ w1 : World, w1 = wr := ⟨_, rfl⟩
      subst hw1
      go_loopw [28] (fun jv wr => ∃ (j : Nat) (rs' : List Int) (T' : Nat), j ≤ nb ∧ jv = .int .i64 j ∧ T' ≤ i * nb + j ∧ Hid (rs'.length = m) ∧ OwnI wr w.heap.size (.slice (some ⟨w.heap.size, 0, none⟩) m m) rs' ∧ Hid (Bnd rs' (1099511627776 * T')) ∧ Hid (nv rs' = nv (la.take i) * nv lb + pw i * (x * nv (lb.take j))) ∧ Below w.heap.size w wr) (fun j _ => nb - (intOf j).toNat)
      case atStart => exact ⟨0, rs, T, Nat.zero_le _, rfl, by omega, hrl, hown, hbd, Lib.hid (by rw [hv.out]; simp [nv]), hb⟩
      case round =>
        obtain ⟨j, rs', T', hj, rfl, hT', hrl', hown', hbd', hv', hb'⟩ := hrel
        have hs' := hb'.size
        by_cases hjl : j < nb
        · obtain ⟨b2, off2, hA2, hbB2, hc2⟩ := hIb j (by omega)
          subst hA2
          have hy := hdb.getD (k := j) (by omega)
          have hcb := (hb'.cell (p := ⟨b2, off2 + j, none⟩) hbB2).trans hc2
          have hys := nv_take_succ (l := lb) (k := j) (by omega)
          obtain ⟨y, hyy⟩ : ∃ d, lb.getD j 0 = d := ⟨_, rfl⟩
          rw [hyy] at hcb hy hys
          clear hyy hc2
          have HYS := Lib.hid hys; clear hys
          have hfc := hown'.cell (k := i + j) hrl'.out (by omega)
          have hff := hown'.frozen (k := i + j) hrl'.out
          have hxy := mul_dd hx hy
          have hbj := hbd'.out (i + j)
          have hst := fun z => nv_set (l := rs') (k := i + j) (by rw [hrl'.out]; omega) z
          obtain ⟨u, hu⟩ : ∃ u, rs'.getD (i + j) 0 = u := ⟨_, rfl⟩
          rw [hu] at hfc hbj hst
          clear hu
          have HST := Lib.hid hst; clear hst
          have hT3 : T' ≤ 3844 := by omega
          go_wp2_with fail
          go_roundw
          case rel => exact ⟨j + 1, rs'.set (i + j) (u + x * y), T' + 1, by omega, by go_num, by omega, Lib.hid (by simp [hrl'.out]), hown'.store hrl'.out (i + j) _, Lib.hid (hbd'.out.set (by omega) (by rw [hrl'.out]; omega) (by omega) (by omega)), Lib.hid (by
              rw [HST.out, HYS.out]
              refine inner_step hv'.out ?_
              rw [← pw_add]
              congr 2; omega), by exact hb'.setCell (p := ⟨w.heap.size, i + j, none⟩) (Nat.le_refl _) _⟩
          case measure => simp [intOf]; omega
        · have : j = nb := by omega
          subst this
          go_wp2_with fail
          go_roundw
          case rel => exact ⟨i + 1, rs', T', by omega, by go_num, by rw [Nat.succ_mul]; omega, hrl', hown', hbd', Lib.hid (by
              rw [hv'.out, HXS.out, List.take_of_length_le (l := lb) (by omega), Int.add_mul, Int.mul_assoc]), hb'⟩
          case measure => simp [intOf]; omega
    · have : i = na := by omega
      subst this
      have hT2 : T ≤ 3844 := by
        have : i * nb ≤ 62 * 62 := Nat.mul_le_mul hla hlb
        omega
      have hvv := hv.out
      rw [List.take_of_length_le (by omega)] at hvv
      have HV := Lib.hid hvv; clear hvv
      go_wp2_with fail
      obtain ⟨w1, hw1⟩ : ∃ w1 : World, w1 = wr := ⟨_, rfl⟩
      subst hw1
      go_loopw [10, 48] (fun cc iv wr => ∃ (k : Nat) (c' : Int) (rs' : List Int), k ≤ m ∧ iv = .int .i64 k ∧ cc = .int .i64 c' ∧ 0 ≤ c' ∧ c' ≤ 4503599627370496 ∧ Hid (rs'.length = m) ∧ OwnI wr w.heap.size (.slice (some ⟨w.heap.size, 0, none⟩) m m) rs' ∧ Hid (∀ j, k ≤ j → 0 ≤ rs'.getD j 0 ∧ rs'.getD j 0 ≤ 4503599627370496) ∧ Dig (rs'.take k) ∧ Hid (nv (rs'.take k) + pw k * (c' + nv (rs'.drop k)) = nv la * nv lb) ∧ Below w.heap.size w wr) (fun _ k _ => m - (intOf k).toNat)
      case atStart => exact ⟨0, 0, rs, Nat.zero_le _, rfl, rfl, by omega, by omega, hrl, hown, Lib.hid (fun j _ => by have := hbd.out j; omega), Dig.nil, Lib.hid (by rw [← HV.out]; simp [nv, pw]), hb⟩
      case round =>
        obtain ⟨k, c', rs', hk, rfl, rfl, h0, h1, hrl', hown', hbd', hdg, hv', hb'⟩ := hrel
        have hs' := hb'.size
        by_cases hkl : k < m
        · have hfc := hown'.cell (k := k) hrl'.out (by omega)
          have hff := hown'.frozen (k := k) hrl'.out
          have hbk := hbd'.out k (Nat.le_refl _)
          have hdc := drop_cons (l := rs') (k := k) (by rw [hrl'.out]; omega)
          obtain ⟨d, hdd⟩ : ∃ d, rs'.getD k 0 = d := ⟨_, rfl⟩
          rw [hdd] at hfc hbk hdc
          clear hdd
          have HDC := Lib.hid hdc; clear hdc
          have hkl' : (rs'.take k).length = k := by rw [List.length_take, hrl'.out]; omega
          have HKL := Lib.hid hkl'; clear hkl'
          go_wp2_with fail
          go_roundw
          case rel => exact ⟨k + 1, _, rs'.set k ((c' + d) % 1048576), by omega, by go_num, rfl, by omega, by omega, Lib.hid (by simp [hrl'.out]), by (rw [and_low]; exact hown'.store hrl'.out k _), Lib.hid (fun j hj => by
              rw [getD_set (by rw [hrl'.out]; omega), if_neg (by omega)]; exact hbd'.out j (by omega)), by
              rw [take_set_succ (by rw [hrl'.out]; omega)]; exact hdg.snoc (by omega) (by omega), Lib.hid (by
              rw [take_set_succ (by rw [hrl'.out]; omega), nv_snoc, HKL.out, List.drop_set_of_lt (by omega), pw_succ]
              refine third_step ?_
              rw [← nv_cons, ← HDC.out]
              exact hv'.out), by exact hb'.setCell (p := ⟨w.heap.size, k, none⟩) (Nat.le_refl _) _⟩
          case measure => simp [intOf]; omega
        · have : k = m := by omega
          subst this
          have hv2 := hv'.out
          rw [List.take_of_length_le (Nat.le_of_eq hrl'.out), List.drop_of_length_le (Nat.le_of_eq hrl'.out), nv_nil, Int.add_zero] at hv2
          rw [List.take_of_length_le (Nat.le_of_eq hrl'.out)] at hdg
          have hnn := hdg.nv_nonneg
          have hcz : c' = 0 := by
            have h2 := HZ.out
            rw [← hv2, HM.out] at h2
            rcases Int.lt_or_le 0 c' with h | h
            · have h3 : pw k * 1 ≤ pw k * c' := Int.mul_le_mul_of_nonneg_left (by omega) (by have := pw_pos k; omega)
              omega
            · omega
          subst hcz
          rw [Int.mul_zero, Int.add_zero] at hv2
          have HV2 := Lib.hid hv2; clear hv2
          clear hnn
          go_wp2_with fail
          refine (trim_any rs' _ _ w.heap.size hown' hdg (by rw [hrl'.out]; omega)).mono ?_
          rintro e w2 ⟨v1, rfl, hown1, rfl⟩
          go_wp2_with fail
          go_ret
          exact ⟨_, rfl, by rw [← HV2.out]; exact hown1, hb'⟩

end Go.Proofs.Ytlbjaimgoiimgaa

namespace Go.Proofs.Ytlbjaimgoiimgaa
open Go.RowKit

theorem nv_drop_div {l : List Int} (hd : Dig l) (k : Nat) : nv (l.drop k) = nv l / pw k := by
  rcases Nat.lt_or_ge l.length k with h | h
  · rw [List.drop_of_length_le (by omega), nv_nil]
    have h1 := hd.nv_lt
    have h2 := pw_le (a := l.length) (b := k) (by omega)
    exact (Int.ediv_eq_zero_of_lt hd.nv_nonneg (by omega)).symm
  · have h1 := nv_split l k h
    have h2 := (hd.take k).nv_lt
    have h3 := (hd.take k).nv_nonneg
    rw [List.length_take, Nat.min_eq_left h] at h2
    rw [h1, Int.add_mul_ediv_left _ _ (by have := pw_pos k; omega), Int.ediv_eq_zero_of_lt h3 h2, Int.zero_add]

set_option maxRecDepth 100000 in
set_option maxHeartbeats 400000 in
theorem leading_any (z : Int) (b off c n : Nat) (w : World) (hI : IntsAt w.heap.size w (some ⟨b, off, none⟩) (D z)) (hz : 0 ≤ z) (hc : (D z).length ≤ c) (hl : (D z).length ≤ n) (hn : 3 ≤ n) (hn2 : n ≤ 1000) (hp : 1 ≤ (D z).length) :
    Calls Try.prog 84 #[.slice (some ⟨b, off, none⟩) (D z).length c, .int .i64 n] w fun e w' => e = .returned (.int .i64 (z / pw (n - 3))) ∧ Below w.heap.size w w' := by
  have hzp : z < pw n := (D_len_le hz).1 hl
  have hq0 : 0 ≤ z / pw (n - 3) := Int.ediv_nonneg hz (by have := pw_pos (n - 3); omega)
  have hq1 : z / pw (n - 3) < 1152921504606846976 := by
    refine Int.ediv_lt_of_lt_mul (pw_pos _) ?_
    have h : pw n = pw 3 * pw (n - 3) := by rw [← pw_add]; congr 1; omega
    have h6 : pw 3 = 1152921504606846976 := by decide
    rw [← h6, ← h]; exact hzp
  by_cases hlt : (D z).length < n - 3
  · have : z / pw (n - 3) = 0 := Int.ediv_eq_zero_of_lt hz ((D_len_le hz).1 (by omega))
    rw [this]
    obtain ⟨m, hm⟩ : ∃ m, (D z).length = m := ⟨_, rfl⟩
    rw [hm] at hlt ⊢
    clear hm this
    go_enter Try.func84, Try.ntmps84
    go_wp2_with fail
    go_ret
    exact ⟨rfl, Below.refl _ _⟩
  · have hdrop : nv ((D z).drop (n - 3)) = z / pw (n - 3) := by rw [nv_drop_div (Dig_D z), nv_D hz]
    have hdl : ((D z).drop (n - 3)).length = (D z).length - (n - 3) := by rw [List.length_drop]
    obtain ⟨A, hA, hIA⟩ : ∃ A : Option Addr, (if c = n - 3 then some (⟨b, off, none⟩ : Addr) else some ⟨b, off + (n - 3), none⟩) = A ∧ IntsAt w.heap.size w A ((D z).drop (n - 3)) := by
      refine ⟨_, rfl, fun k hk => ?_⟩
      rw [hdl] at hk
      obtain ⟨b', o', h1, h2, h3⟩ := hI (n - 3 + k) (by omega)
      injection h1 with h1
      injection h1 with h1 h4
      subst h1; subst h4
      rw [if_neg (by omega)]
      refine ⟨b, off + (n - 3), rfl, h2, ?_⟩
      rw [Nat.add_assoc, h3, List.getD_eq_getElem?_getD, List.getD_eq_getElem?_getD, List.getElem?_drop]
    have hj := join_any A (c - (n - 3)) ((D z).drop (n - 3)) w hIA ((Dig_D z).drop _) (by omega) (by rw [hdrop]; omega)
    rw [hdl, hdrop] at hj
    obtain ⟨m, hm⟩ : ∃ m, (D z).length = m := ⟨_, rfl⟩
    rw [hm] at hlt hl hc hj ⊢
    obtain ⟨q, hq⟩ : ∃ q, z / pw (n - 3) = q := ⟨_, rfl⟩
    rw [hq] at hj hq0 hq1 ⊢
    have HA := Lib.hid hA
    clear hm hdl hdrop hq hA
    have HJ := Lib.hid hj; clear hj
    by_cases hcap : c = n - 3
    · subst hcap
      have hA := HA.out
      rw [if_pos rfl] at hA
      subst hA
      have hj := HJ.out
      rw [Nat.sub_self, show m - (n - 3) = 0 by omega] at hj
      have HJ2 := Lib.hid hj; clear hj HJ HA
      go_enter Try.func84, Try.ntmps84
      go_wp2_with fail
      refine HJ2.out.mono ?_
      rintro e w1 ⟨rfl, hb1⟩
      go_wp2_with fail
      go_ret
      exact ⟨rfl, hb1⟩
    · have hA := HA.out
      rw [if_neg hcap] at hA
      subst hA
      clear HA
      go_enter Try.func84, Try.ntmps84
      go_wp2_with fail
      refine HJ.out.mono ?_
      rintro e w1 ⟨rfl, hb1⟩
      go_wp2_with fail
      go_ret
      exact ⟨rfl, hb1⟩

/-- What the factors of some steps of Euclid's algorithm do to every two numbers whose highest bits are xh and yh. -/
def Lehm (xh yh x y A B C E : Int) : Prop :=
  x = A * xh + B * yh ∧ y = C * xh + E * yh ∧ 0 ≤ x + A ∧ 0 ≤ x + B ∧ 0 ≤ y + C ∧ 0 ≤ y + E ∧ 0 ≤ x ∧ 0 ≤ y ∧ y ≤ x ∧ x < 2199023255552 ∧
  ((0 ≤ A ∧ B ≤ 0 ∧ C ≤ 0 ∧ 0 ≤ E) ∨ (A ≤ 0 ∧ 0 ≤ B ∧ 0 ≤ C ∧ E ≤ 0)) ∧
  -2199023255552 ≤ A ∧ A ≤ 2199023255552 ∧ -2199023255552 ≤ B ∧ B ≤ 2199023255552 ∧ -2199023255552 ≤ C ∧ C ≤ 2199023255552 ∧ -2199023255552 ≤ E ∧ E ≤ 2199023255552

/-- .. and to the numbers themselves. -/
def LehmAll (xh yh A B C E : Int) : Prop :=
  ∀ k s t, 0 < k → 0 ≤ s → s < k → 0 ≤ t → t < k → yh * k + t ≤ xh * k + s →
    0 ≤ C * (xh * k + s) + E * (yh * k + t) ∧ C * (xh * k + s) + E * (yh * k + t) ≤ A * (xh * k + s) + B * (yh * k + t) ∧
    C * (xh * k + s) + E * (yh * k + t) ≤ yh * k + t ∧
    (B ≠ 0 → C * (xh * k + s) + E * (yh * k + t) < yh * k + t) ∧
    Int.gcd (A * (xh * k + s) + B * (yh * k + t)) (C * (xh * k + s) + E * (yh * k + t)) = Int.gcd (xh * k + s) (yh * k + t) ∧
    A * (xh * k + s) + B * (yh * k + t) ≤ xh * k + s

theorem lehm_start {xh yh : Int} (h0 : 0 ≤ yh) (h1 : yh ≤ xh) (h2 : xh < 2199023255552) : Lehm xh yh xh yh 1 0 0 1 ∧ LehmAll xh yh 1 0 0 1 := by
  refine ⟨⟨by omega, by omega, by omega, by omega, by omega, by omega, by omega, h0, h1, h2, .inl (by omega), by omega, by omega, by omega, by omega, by omega, by omega, by omega, by omega⟩, fun k s t hk hs0 hs1 ht0 ht1 hle => ?_⟩
  have : 0 ≤ yh * k := Int.mul_nonneg h0 (by omega)
  simp only [Int.zero_mul, Int.one_mul, Int.add_zero, Int.zero_add]
  exact ⟨by omega, hle, Int.le_refl _, fun h => absurd rfl h, trivial, Int.le_refl _⟩

theorem corner {k s t y C E : Int} (hs0 : 0 ≤ s) (hs1 : s ≤ k) (ht0 : 0 ≤ t) (ht1 : t ≤ k) (hsg : (C ≤ 0 ∧ 0 ≤ E) ∨ (0 ≤ C ∧ E ≤ 0)) (h1 : 0 ≤ y + C) (h2 : 0 ≤ y + E) : 0 ≤ y * k + C * s + E * t := by
  rcases hsg with ⟨a, b⟩ | ⟨a, b⟩
  · have e1 : C * k ≤ C * s := Int.mul_le_mul_of_nonpos_left a hs1
    have e2 : 0 ≤ E * t := Int.mul_nonneg b ht0
    have e3 : 0 ≤ (y + C) * k := Int.mul_nonneg h1 (by omega)
    rw [Int.add_mul] at e3
    omega
  · have e1 : E * k ≤ E * t := Int.mul_le_mul_of_nonpos_left b ht1
    have e2 : 0 ≤ C * s := Int.mul_nonneg a hs0
    have e3 : 0 ≤ (y + E) * k := Int.mul_nonneg h2 (by omega)
    rw [Int.add_mul] at e3
    omega

theorem lin_k {xh yh k s t y C E : Int} (h : y = C * xh + E * yh) : C * (xh * k + s) + E * (yh * k + t) = y * k + C * s + E * t := by
  rw [h, Int.mul_add, Int.mul_add, Int.add_mul, ← Int.mul_assoc, ← Int.mul_assoc]
  omega

theorem lehm_step {xh yh x y A B C E q : Int} (h : Lehm xh yh x y A B C E) (ha : LehmAll xh yh A B C E) (hC : 0 < y + C) (hE : 0 < y + E) (h1 : q = (x + A) / (y + C)) (h2 : q = (x + B) / (y + E)) :
    Lehm xh yh y (x - q * y) C E (A - q * C) (B - q * E) ∧ LehmAll xh yh C E (A - q * C) (B - q * E) ∧ x - q * y < y := by
  obtain ⟨hx, hy, c1, c2, c3, c4, c5, c6, c7, c8, hsg, b1, b2, b3, b4, b5, b6, b7, b8⟩ := h
  have hq0 : 0 ≤ q := by rw [h1]; exact Int.ediv_nonneg c1 (by omega)
  have r1 := Int.mul_ediv_add_emod (x + A) (y + C)
  have r1a := Int.emod_nonneg (x + A) (b := y + C) (by omega)
  have r1b := Int.emod_lt_of_pos (x + A) hC
  have r2 := Int.mul_ediv_add_emod (x + B) (y + E)
  have r2a := Int.emod_nonneg (x + B) (b := y + E) (by omega)
  have r2b := Int.emod_lt_of_pos (x + B) hE
  rw [← h1, Int.mul_comm, Int.mul_add] at r1
  rw [← h2, Int.mul_comm, Int.mul_add] at r2
  have s1 : 0 ≤ (x - q * y) + (A - q * C) ∧ (x - q * y) + (A - q * C) < y + C := by omega
  have s2 : 0 ≤ (x - q * y) + (B - q * E) ∧ (x - q * y) + (B - q * E) < y + E := by omega
  clear r1 r1a r1b r2 r2a r2b h1 h2
  have hyy : x - q * y = (A - q * C) * xh + (B - q * E) * yh := by
    rw [Int.sub_mul, Int.sub_mul, Int.mul_assoc, Int.mul_assoc, hx]
    have : q * y = q * (C * xh) + q * (E * yh) := by rw [hy, Int.mul_add]
    omega
  have sg : ((C ≤ 0 ∧ 0 ≤ E) ∧ (0 ≤ A - q * C ∧ B - q * E ≤ 0)) ∨ ((0 ≤ C ∧ E ≤ 0) ∧ (A - q * C ≤ 0 ∧ 0 ≤ B - q * E)) := by
    rcases hsg with ⟨d1, d2, d3, d4⟩ | ⟨d1, d2, d3, d4⟩
    · have e1 : q * C ≤ q * 0 := Int.mul_le_mul_of_nonneg_left d3 hq0
      have e2 : 0 ≤ q * E := Int.mul_nonneg hq0 d4
      exact .inl ⟨⟨d3, d4⟩, by omega, by omega⟩
    · have e1 : q * E ≤ q * 0 := Int.mul_le_mul_of_nonneg_left d4 hq0
      have e2 : 0 ≤ q * C := Int.mul_nonneg hq0 d3
      exact .inr ⟨⟨d3, d4⟩, by omega, by omega⟩
  have hgy : q * y ≤ q * y := Int.le_refl _
  obtain ⟨y', hy'⟩ : ∃ z, x - q * y = z := ⟨_, rfl⟩
  obtain ⟨C', hC'⟩ : ∃ z, A - q * C = z := ⟨_, rfl⟩
  obtain ⟨E', hE'⟩ : ∃ z, B - q * E = z := ⟨_, rfl⟩
  rw [hy', hC'] at s1
  rw [hy', hE'] at s2
  rw [hy', hC', hE'] at hyy
  rw [hC', hE'] at sg
  refine ⟨?_, ?_, ?_⟩
  · rw [hy', hC', hE']
    refine ⟨hy, hyy, by omega, by omega, by omega, by omega, by omega, ?_, ?_, by omega, ?_, by omega, by omega, by omega, by omega, ?_, ?_, ?_, ?_⟩
    all_goals first
      | (rcases sg with ⟨⟨d1, d2⟩, d3, d4⟩ | ⟨⟨d1, d2⟩, d3, d4⟩ <;> omega)
  · intro k s t hk hs0 hs1 ht0 ht1 hle
    obtain ⟨f1, f2, f3, f4, f5, f6⟩ := ha k s t hk hs0 hs1 ht0 ht1 hle
    rw [hC', hE']
    have g1 : C' * (xh * k + s) + E' * (yh * k + t) = (A * (xh * k + s) + B * (yh * k + t)) - q * (C * (xh * k + s) + E * (yh * k + t)) := by
      rw [← hC', ← hE', Int.sub_mul, Int.sub_mul, Int.mul_add q, ← Int.mul_assoc q, ← Int.mul_assoc q]
      omega
    have g2 := lin_k (k := k) (s := s) (t := t) hyy
    have g3 := lin_k (k := k) (s := s) (t := t) hy
    have g4 : 0 ≤ y' * k + C' * s + E' * t := corner hs0 (by omega) ht0 (by omega) (by omega) s1.1 s2.1
    have g5 : 0 ≤ (y - y' - 1) * k + (C - C') * s + (E - E') * t := corner hs0 (by omega) ht0 (by omega) (by omega) (by omega) (by omega)
    rw [Int.sub_mul, Int.sub_mul, Int.sub_mul, Int.sub_mul, Int.one_mul] at g5
    refine ⟨by omega, by omega, by omega, fun _ => by omega, ?_, by omega⟩
    rw [g1, Int.gcd_sub_mul_right_right, Int.gcd_comm, f5]
  · rw [hy']
    rcases sg with ⟨⟨d1, d2⟩, d3, d4⟩ | ⟨⟨d1, d2⟩, d3, d4⟩ <;> omega

end Go.Proofs.Ytlbjaimgoiimgaa

namespace Go.Proofs.Ytlbjaimgoiimgaa
open Go.RowKit

theorem getD_drop (l : List Int) (o k : Nat) : (l.drop o).getD k 0 = l.getD (o + k) 0 := by
  rw [List.getD_eq_getElem?_getD, List.getD_eq_getElem?_getD, List.getElem?_drop]
theorem drop_set_ge (l : List Int) (o k : Nat) (z : Int) : (l.set (o + k) z).drop o = (l.drop o).set k z := by
  rw [List.drop_set, if_neg (by omega)]
  congr 1; omega
theorem grown_trans {w w1 w2 : World} {r : Option Nat} (h1 : w.grownBy w1 r) (h2 : w1.grownBy w2 r) : w.grownBy w2 r :=
  ⟨h2.os.trans h1.os, h2.tape.trans h1.tape, h2.output.trans h1.output, Nat.le_trans h1.size h2.size, fun k hk hr => (h2.block k (Nat.lt_of_lt_of_le hk h1.size) hr).trans (h1.block k hk hr)⟩
theorem grown_set {w w1 : World} {g k : Nat} (h : w.grownBy w1 (some g)) (v : Value) : w.grownBy (w1.setCell ⟨g, k, none⟩ v) (some g) :=
  grown_trans h ⟨rfl, rfl, rfl, by simp, fun j _ hr => Below.heap_setCell w1 ⟨g, k, none⟩ v j (fun e => hr (by rw [e]))⟩

/-- The value of n digits from o on. -/
def wn (U : List Int) (o n : Nat) : Int := nv ((U.drop o).take n)
theorem wn_succ (U : List Int) (o n : Nat) : wn U o (n + 1) = wn U o n + pw n * U.getD (o + n) 0 := by
  unfold wn
  rw [nv_take_succ', getD_drop]
theorem wn_zero (U : List Int) (o : Nat) : wn U o 0 = 0 := rfl
theorem wn_congr {U V : List Int} {o n : Nat} (h : ∀ j, j < n → U.getD (o + j) 0 = V.getD (o + j) 0) : wn U o n = wn V o n := by
  induction n with
  | zero => rfl
  | succ n ih => rw [wn_succ, wn_succ, ih (fun j hj => h j (by omega)), h n (by omega)]
theorem wn_bd {U : List Int} {o n : Nat} (h : ∀ j, j < n → 0 ≤ U.getD (o + j) 0 ∧ U.getD (o + j) 0 < 1048576) : 0 ≤ wn U o n ∧ wn U o n < pw n := by
  induction n with
  | zero => rw [wn_zero, pw_zero]; decide
  | succ n ih =>
    have h1 := ih (fun j hj => h j (by omega))
    have h2 := h n (by omega)
    have h3 := pw_pos n
    rw [wn_succ, pw_succ]
    have h4 : pw n * 0 ≤ pw n * U.getD (o + n) 0 := Int.mul_le_mul_of_nonneg_left h2.1 (by omega)
    have h5 : pw n * U.getD (o + n) 0 ≤ pw n * 1048575 := Int.mul_le_mul_of_nonneg_left (by omega) (by omega)
    omega

theorem sub_step {A P c T f V t d u : Int} (h : A + P * c = T - f * V) (hu : u = c + (t - f * d)) :
    A + P * (u % 1048576) + 1048576 * P * (u / 1048576) = T + P * t - f * (V + P * d) := by
  have e1 : u % 1048576 + 1048576 * (u / 1048576) = u := by omega
  rw [Int.mul_comm 1048576 P, Int.mul_assoc, Int.add_assoc, ← Int.mul_add, e1, hu, Int.mul_add, Int.mul_sub, Int.mul_add]
  have e3 : P * (f * d) = f * (P * d) := by rw [← Int.mul_assoc, Int.mul_comm P f, Int.mul_assoc]
  rw [e3]
  omega

def SubPost (U lv : List Int) (g off N cN B n : Nat) (tp f : Int) (w : World) (e : Ending) (w' : World) : Prop := ∃ (U' : List Int) (t : Int), e = .returned (.bool (decide (0 ≤ t))) ∧ U'.length = N ∧ OwnI w' B (.slice (some ⟨g, 0, none⟩) N cN) U' ∧
  (∀ j, (j < off ∨ off + n < j) → U'.getD j 0 = U.getD j 0) ∧ (∀ j, j < n → 0 ≤ U'.getD (off + j) 0 ∧ U'.getD (off + j) 0 < 1048576) ∧ U'.getD (off + n) 0 = t ∧
  wn U' off n + pw n * t = wn U off n + pw n * tp - f * nv lv ∧ w.grownBy w' (some g)

set_option maxRecDepth 100000 in
set_option maxHeartbeats 1000000 in
theorem subtract_any (U lv : List Int) (g off N cN cu cv B n : Nat) (Av : Option Addr) (f : Int) (w : World) (hn : lv.length = n) (hU : U.length = N) (hoff : off + n < N) (hN : N ≤ 1000) (hcu : n + 1 ≤ cu)
    (hO : OwnI w B (.slice (some ⟨g, 0, none⟩) N cN) U) (hI : IntsAt B w Av lv) (hdv : Dig lv) (hf0 : -1 ≤ f) (hf1 : f < 1048576)
    (hW : ∀ j, j < n → 0 ≤ U.getD (off + j) 0 ∧ U.getD (off + j) 0 < 1048576) (tp : Int) (htp : U.getD (off + n) 0 = tp) (hT : -2097152 ≤ tp ∧ tp ≤ 2097152) :
    Calls Try.prog 100 #[.slice (some ⟨g, off, none⟩) (n + 1) cu, .slice Av n cv, .int .i64 f] w (SubPost U lv g off N cN B n tp f w) := by
  have HN := Lib.hid hn
  have HU := Lib.hid hU
  have hnn : lv.length ≤ n ∧ n ≤ lv.length := by omega
  clear hn hU
  have hBg := hO.lt.1
  have HW := Lib.hid hW; clear hW
  have HTP := Lib.hid htp; clear htp
  go_enter Try.func100, Try.ntmps100
  go_wp2_with fail
  go_loopw [7, 12] (fun cc i wr => ∃ (k : Nat) (c' : Int) (U' : List Int), k ≤ n ∧ i = .int .i64 k ∧ cc = .int .i64 c' ∧ -2097152 ≤ c' ∧ c' ≤ 2097152 ∧ Hid (U'.length = N) ∧ OwnI wr B (.slice (some ⟨g, 0, none⟩) N cN) U' ∧
    Hid (∀ j, (j < off ∨ off + k ≤ j) → U'.getD j 0 = U.getD j 0) ∧ Hid (∀ j, j < k → 0 ≤ U'.getD (off + j) 0 ∧ U'.getD (off + j) 0 < 1048576) ∧ Hid (wn U' off k + pw k * c' = wn U off k - f * nv (lv.take k)) ∧ w.grownBy wr (some g)) (fun _ i _ => n - (intOf i).toNat)
  case atStart => exact ⟨0, 0, U, Nat.zero_le _, rfl, rfl, by omega, by omega, HU, hO, Lib.hid (fun _ _ => rfl), Lib.hid (fun j h => by cases h), Lib.hid (by simp [wn_zero, nv]), World.grownBy.refl _ _⟩
  case round =>
    obtain ⟨k, c', U', hk, rfl, rfl, h0, h1, hl, hown, hsame, hdg, hv, hgr⟩ := hrel
    have hbB : Below B w wr := (Below.refl B w).grown hgr (by have := hO.lt; omega) (fun j e => by cases e; exact hBg)
    by_cases hlt : k < n
    · obtain ⟨b, o, hA, hbl, hc⟩ := hI k (by omega)
      subst hA
      have hcv := (hbB.cell (p := ⟨b, o + k, none⟩) hbl).trans hc
      have hd1 := hdv.getD (k := k) (by omega)
      have hxs := nv_take_succ (l := lv) (k := k) (by omega)
      obtain ⟨d, hdd⟩ : ∃ d, lv.getD k 0 = d := ⟨_, rfl⟩
      rw [hdd] at hcv hd1 hxs
      clear hdd hc
      have HXS := Lib.hid hxs; clear hxs
      have hcu := hown.cell (k := off + k) hl.out (by omega)
      rw [hsame.out (off + k) (.inr (Nat.le_refl _))] at hcu
      have hff := hown.frozen (k := off + k) hl.out
      have hu1 := HW.out k hlt
      have hws := wn_succ U off k
      obtain ⟨u, hu⟩ : ∃ u, U.getD (off + k) 0 = u := ⟨_, rfl⟩
      rw [hu] at hcu hu1 hws
      clear hu
      have HWS := Lib.hid hws; clear hws
      have hm := mul_bd (x := f) (d := d) (M := 1048576) (by omega) (by omega) hd1.1 (by omega) (by omega)
      go_wp2_with fail
      go_roundw
      case rel => exact ⟨k + 1, _, U'.set (off + k) ((c' + (u - f * d)) % 1048576), by omega, by go_num, rfl, by omega, by omega, Lib.hid (by simp [hl.out]), by (rw [and_low]; exact hown.store hl.out (off + k) _), Lib.hid (fun j hj => by
          rw [getD_set (by rw [hl.out]; omega), if_neg (by omega)]; exact hsame.out j (by omega)), Lib.hid (fun j hj => by
          rw [getD_set (by rw [hl.out]; omega)]
          split
          · omega
          · exact hdg.out j (by omega)), Lib.hid (by
          rw [wn_succ, wn_congr (V := U') (fun j hj => by rw [getD_set (by rw [hl.out]; omega), if_neg (by omega)]), getD_set (by rw [hl.out]; omega), if_pos rfl, HWS.out, HXS.out, pw_succ]
          exact sub_step hv.out rfl), grown_set hgr _⟩
      case measure => simp [intOf]; omega
    · have : k = n := by omega
      subst this
      have hcu := hown.cell (k := off + k) hl.out (by omega)
      rw [hsame.out (off + k) (.inr (Nat.le_refl _)), HTP.out] at hcu
      have hff := hown.frozen (k := off + k) hl.out
      have hvv := hv.out
      rw [List.take_of_length_le (by omega)] at hvv
      have HVV := Lib.hid hvv; clear hvv
      by_cases ht : 0 ≤ tp + c'
      all_goals
        go_wp2_with fail
        go_ret
        refine ⟨U'.set (off + k) (tp + c'), tp + c', ?_, by simp [hl.out], hown.store hl.out _ _, fun j hj => ?_, fun j hj => ?_, ?_, ?_, grown_set hgr _⟩
        · simp [ht]
        · rw [getD_set (by rw [hl.out]; omega), if_neg (by omega)]; exact hsame.out j (by omega)
        · rw [getD_set (by rw [hl.out]; omega), if_neg (by omega)]; exact hdg.out j hj
        · rw [getD_set (by rw [hl.out]; omega), if_pos rfl]
        · rw [wn_congr (V := U') (fun j hj => by rw [getD_set (by rw [hl.out]; omega), if_neg (by omega)]), Int.mul_add]
          have := HVV.out
          omega

end Go.Proofs.Ytlbjaimgoiimgaa

namespace Go.Proofs.Ytlbjaimgoiimgaa
open Go.RowKit

/-- The guess of a digit of the quotient is right, or one too great. -/
theorem guess_hi {P V T t3 f1 G : Int} (hP : 0 < P) (hV0 : f1 * P ≤ V) (hT1 : T < (t3 + 1) * P) (hTV : T < 1048576 * V) (hG : G = 1048575 ∨ t3 < (G + 1) * f1) (hG0 : 0 ≤ G) : T - G * V < V := by
  rcases hG with rfl | h
  · omega
  · have h1 : (t3 + 1) * P ≤ (G + 1) * f1 * P := Int.mul_le_mul_of_nonneg_right (by omega) (by omega)
    have h2 : (G + 1) * (f1 * P) ≤ (G + 1) * V := Int.mul_le_mul_of_nonneg_left hV0 (by omega)
    rw [Int.mul_assoc] at h1
    have h3 : (G + 1) * V = G * V + V := by rw [Int.add_mul, Int.one_mul]
    omega
theorem guess_lo {P V T t3 f1 G : Int} (hP : 0 < P) (hf : 1048576 ≤ f1) (hV0 : f1 * P ≤ V) (hV1 : V < (f1 + 1) * P) (hT0 : t3 * P ≤ T) (hG : G * f1 ≤ t3) (hG0 : 0 ≤ G) (hG1 : G ≤ 1048575) : -V ≤ T - G * V := by
  have h1 : G * V ≤ G * ((f1 + 1) * P) := Int.mul_le_mul_of_nonneg_left (by omega) hG0
  have h2 : G * f1 * P ≤ t3 * P := Int.mul_le_mul_of_nonneg_right hG (by omega)
  have h3 : G * P ≤ f1 * P := Int.mul_le_mul_of_nonneg_right (by omega) (by omega)
  have h4 : G * ((f1 + 1) * P) = G * f1 * P + G * P := by rw [Int.add_mul, Int.one_mul, Int.mul_add, Int.mul_assoc]
  omega

theorem nv_drop_wn (U : List Int) (o n : Nat) : nv (U.drop o) = wn U o n + pw n * nv (U.drop (o + n)) := by
  have h := nv_append ((U.drop o).take n) ((U.drop o).drop n)
  rw [List.take_append_drop, List.drop_drop] at h
  rw [h]
  unfold wn
  rcases Nat.lt_or_ge (U.drop o).length n with hl | hl
  · rw [List.length_drop] at hl
    have e : U.drop (o + n) = [] := List.drop_of_length_le (by omega)
    rw [e, nv_nil, Int.mul_zero, Int.mul_zero]
  · rw [List.length_take, Nat.min_eq_left hl]

theorem nv_tail_congr {U V : List Int} {o : Nat} (hl : U.length = V.length) (h : ∀ j, o ≤ j → U.getD j 0 = V.getD j 0) : nv (U.drop o) = nv (V.drop o) := by
  rw [nv_drop_wn U o U.length, nv_drop_wn V o U.length, wn_congr (V := V) (fun j _ => h (o + j) (by omega)), List.drop_of_length_le (l := U) (by omega), List.drop_of_length_le (l := V) (by omega)]

/-- What lies above the window is zero. -/
theorem above_zero {U : List Int} {j n : Nat} {V : Int} (hd : Dig U) (hR : nv (U.drop (j + 1)) < V) (hV : V < pw n) : nv (U.drop (j + 1 + n)) = 0 := by
  have h1 := nv_drop_wn U (j + 1) n
  have h2 := (hd.drop (j + 1 + n)).nv_nonneg
  have h3 := wn_bd (U := U) (o := j + 1) (n := n) (fun i _ => hd.getD' _)
  rcases Int.lt_or_le 0 (nv (U.drop (j + 1 + n))) with h | h
  · have : pw n * 1 ≤ pw n * nv (U.drop (j + 1 + n)) := Int.mul_le_mul_of_nonneg_left (by omega) (by have := pw_pos n; omega)
    omega
  · omega

/-- The window of a digit of the quotient: its value, and the bound of it. -/
theorem window {U : List Int} {j n : Nat} {V : Int} (hd : Dig U) (hj : j < U.length) (hR : nv (U.drop (j + 1)) < V) (hV : V < pw n) :
    nv (U.drop j) = wn U j (n + 1) ∧ 0 ≤ wn U j (n + 1) ∧ wn U j (n + 1) < 1048576 * V := by
  have h0 := above_zero hd hR hV
  have h1 := nv_drop_wn U j (n + 1)
  rw [show j + (n + 1) = j + 1 + n by omega, h0, Int.mul_zero, Int.add_zero] at h1
  have h2 := drop_cons hj
  have h3 := hd.getD' j
  have h4 := (hd.drop (j + 1)).nv_nonneg
  rw [h2, nv_cons] at h1
  refine ⟨by rw [h2, nv_cons, h1], by omega, by omega⟩

theorem after_window {U U' : List Int} {j n : Nat} (hd : Dig U) (hl : U'.length = U.length) (h0 : nv (U.drop (j + 1 + n)) = 0) (hs : ∀ i, (i < j ∨ j + n < i) → U'.getD i 0 = U.getD i 0)
    (hw : ∀ i, i < n → 0 ≤ U'.getD (j + i) 0 ∧ U'.getD (j + i) 0 < 1048576) (ht : U'.getD (j + n) 0 = 0) :
    Dig U' ∧ nv (U'.drop j) = wn U' j n ∧ nv U' = nv U + pw j * (wn U' j n - nv (U.drop j)) := by
  have hD : Dig U' := Dig.of_getD (fun k _ => by
    by_cases h1 : k < j ∨ j + n < k
    · rw [hs k h1]; exact hd.getD' k
    · by_cases h2 : k = j + n
      · rw [h2, ht]; decide
      · have := hw (k - j) (by omega)
        rw [show j + (k - j) = k by omega] at this
        exact this)
  have h1 := nv_drop_wn U' j (n + 1)
  rw [show j + (n + 1) = j + 1 + n by omega, nv_tail_congr (o := j + 1 + n) hl (fun i hi => hs i (by omega)), h0, Int.mul_zero, Int.add_zero, wn_succ, ht, Int.mul_zero, Int.add_zero] at h1
  have h2 := nv_drop_wn U' 0 j
  have h3 := nv_drop_wn U 0 j
  rw [Nat.zero_add, List.drop_zero, wn_congr (V := U) (fun i hi => hs (0 + i) (by omega)), h1] at h2
  rw [Nat.zero_add, List.drop_zero] at h3
  refine ⟨hD, h1, ?_⟩
  rw [h2, h3, Int.mul_sub]
  omega

/-- Where the first two digits of a divisor lie. -/
theorem first_two {l : List Int} {n : Nat} (hd : Dig l) (hn : l.length = n) (h2 : 2 ≤ n) : (l.getD (n - 1) 0 * 1048576 + l.getD (n - 2) 0) * pw (n - 2) ≤ nv l ∧ nv l < (l.getD (n - 1) 0 * 1048576 + l.getD (n - 2) 0 + 1) * pw (n - 2) := by
  obtain ⟨k, rfl⟩ : ∃ k, n = k + 2 := ⟨n - 2, by omega⟩
  have e := nv_take_all l (k := k + 2) (by omega)
  rw [nv_take_succ', nv_take_succ', pw_succ] at e
  have h := (hd.take k).nv_lt
  have h0 := (hd.take k).nv_nonneg
  rw [List.length_take, Nat.min_eq_left (by omega)] at h
  simp only [Nat.add_sub_cancel, show k + 2 - 1 = k + 1 from rfl]
  rw [← e, Int.add_mul, Int.add_mul, Int.add_mul, Int.one_mul]
  have e1 : l.getD (k + 1) 0 * 1048576 * pw k = 1048576 * pw k * l.getD (k + 1) 0 := by rw [Int.mul_assoc, Int.mul_comm]
  have e2 : l.getD k 0 * pw k = pw k * l.getD k 0 := Int.mul_comm _ _
  omega
theorem first_three {U : List Int} {j n : Nat} (hd : Dig U) (h2 : 2 ≤ n) : (U.getD (j + n) 0 * 1099511627776 + U.getD (j + (n - 1)) 0 * 1048576 + U.getD (j + (n - 2)) 0) * pw (n - 2) ≤ wn U j (n + 1) ∧
    wn U j (n + 1) < (U.getD (j + n) 0 * 1099511627776 + U.getD (j + (n - 1)) 0 * 1048576 + U.getD (j + (n - 2)) 0 + 1) * pw (n - 2) := by
  obtain ⟨k, rfl⟩ : ∃ k, n = k + 2 := ⟨n - 2, by omega⟩
  have h := wn_bd (U := U) (o := j) (n := k) (fun i _ => hd.getD' _)
  rw [wn_succ, wn_succ, wn_succ, pw_succ (k + 1), pw_succ k]
  simp only [Nat.add_sub_cancel, show k + 2 - 1 = k + 1 from rfl]
  obtain ⟨a, ha⟩ : ∃ a, U.getD (j + (k + 2)) 0 = a := ⟨_, rfl⟩
  obtain ⟨b, hb⟩ : ∃ a, U.getD (j + (k + 1)) 0 = a := ⟨_, rfl⟩
  obtain ⟨c, hc⟩ : ∃ a, U.getD (j + k) 0 = a := ⟨_, rfl⟩
  rw [ha, hb, hc]
  obtain ⟨p, hp⟩ : ∃ p, pw k = p := ⟨_, rfl⟩
  rw [hp] at h ⊢
  have e0 : ∀ z : Int, (a * 1099511627776 + b * 1048576 + c + z) * p = 1099511627776 * (p * a) + 1048576 * (p * b) + p * c + z * p := fun z => by
    rw [Int.add_mul, Int.add_mul, Int.add_mul, Int.mul_comm c p, Int.mul_assoc a, Int.mul_assoc b, Int.mul_left_comm a, Int.mul_left_comm b, Int.mul_comm a p, Int.mul_comm b p]
  have e1 := e0 0
  have e2 := e0 1
  rw [Int.add_zero, Int.zero_mul] at e1
  rw [Int.one_mul] at e2
  have e3 : 1048576 * p * b = 1048576 * (p * b) := Int.mul_assoc _ _ _
  have e4 : 1048576 * (1048576 * p) * a = 1099511627776 * (p * a) := by rw [← Int.mul_assoc 1048576 1048576, Int.mul_assoc]; rfl
  omega

theorem top_bd {y : Int} {n : Nat} (hy : 0 ≤ y) (hn : (D y).length = n) (h1 : 1 ≤ n) : pw (n - 1) * (D y).getD (n - 1) 0 ≤ y ∧ y < pw (n - 1) * ((D y).getD (n - 1) 0 + 1) := by
  obtain ⟨k, rfl⟩ : ∃ k, n = k + 1 := ⟨n - 1, by omega⟩
  have e := nv_take_all (D y) (k := k + 1) (by omega)
  rw [nv_D hy, nv_take_succ'] at e
  have h := ((Dig_D y).take k).nv_lt
  have h0 := ((Dig_D y).take k).nv_nonneg
  rw [List.length_take, Nat.min_eq_left (by omega)] at h
  rw [Nat.add_sub_cancel, Int.mul_add, Int.mul_one]
  omega

/-- The factor that lets the first digit have all its bits. -/
theorem scaled {y : Int} {n bl : Nat} (hy : 0 ≤ y) (hn : (D y).length = n) (h1 : 1 ≤ n) (hb : 1 ≤ bl) (hb2 : bl ≤ 20) (ht : (D y).getD (n - 1) 0 + 1 ≤ 2 ^ bl) (ht1 : 1 ≤ (D y).getD (n - 1) 0) {f : Int} (hf : f = 2 ^ (20 - bl)) :
    1 ≤ f ∧ f ≤ 524288 ∧ pw (n - 1) ≤ y ∧ f * y < pw n := by
  have ⟨h2, h3⟩ := top_bd hy hn h1
  have hfp : 1 ≤ f := by
    rw [hf]
    have : (0 : Int) < 2 ^ (20 - bl) := Int.pow_pos (by omega)
    omega
  have hff : f * 2 ^ bl = 1048576 := by
    rw [hf, ← Int.pow_add, show 20 - bl + bl = 20 by omega]; rfl
  have hp := pw_pos (n - 1)
  refine ⟨hfp, ?_, ?_, ?_⟩
  · have : f * 2 ≤ f * 2 ^ bl := Int.mul_le_mul_of_nonneg_left (by
      obtain ⟨j, rfl⟩ : ∃ j, bl = j + 1 := ⟨bl - 1, by omega⟩
      rw [Int.pow_succ]
      have : (0 : Int) < 2 ^ j := Int.pow_pos (by omega)
      omega) (by omega)
    omega
  · have : pw (n - 1) * 1 ≤ pw (n - 1) * (D y).getD (n - 1) 0 := Int.mul_le_mul_of_nonneg_left ht1 (by omega)
    omega
  · have a1 : f * y < f * (pw (n - 1) * ((D y).getD (n - 1) 0 + 1)) := Int.mul_lt_mul_of_pos_left h3 (by omega)
    have a2 : f * ((D y).getD (n - 1) 0 + 1) ≤ f * 2 ^ bl := Int.mul_le_mul_of_nonneg_left ht (by omega)
    have a3 : pw (n - 1) * (f * ((D y).getD (n - 1) 0 + 1)) ≤ pw (n - 1) * (f * 2 ^ bl) := Int.mul_le_mul_of_nonneg_left a2 (by omega)
    rw [hff] at a3
    have a4 : f * (pw (n - 1) * ((D y).getD (n - 1) 0 + 1)) = pw (n - 1) * (f * ((D y).getD (n - 1) 0 + 1)) := by
      rw [← Int.mul_assoc, Int.mul_comm f, Int.mul_assoc]
    have a5 : pw n = 1048576 * pw (n - 1) := by rw [← pw_succ, show n - 1 + 1 = n by omega]
    omega

theorem scaled_lt {f x : Int} {m : Nat} (hf : f ≤ 524288) (hx : 0 ≤ x) (h : x < pw m) : f * x < pw (m + 1) := by
  rw [pw_succ]
  have h1 : f * x ≤ 524288 * x := Int.mul_le_mul_of_nonneg_right hf hx
  omega
theorem le_scaled {f x : Int} (hf : 1 ≤ f) (hx : 0 ≤ x) : x ≤ f * x := by
  have h1 : 1 * x ≤ f * x := Int.mul_le_mul_of_nonneg_right hf hx
  omega

/-- Of a quotient and a remainder that both are scaled. -/
theorem unscale {f x y q u : Int} (hf : 1 ≤ f) (hy : 1 ≤ y) (h : u + f * y * q = f * x) (h0 : 0 ≤ u) (h1 : u < f * y) : q = x / y ∧ u / f = x % y := by
  have e : u = f * (x - y * q) := by
    rw [Int.mul_sub, ← Int.mul_assoc]; omega
  have e2 : u / f = x - y * q := by rw [e]; exact Int.mul_ediv_cancel_left _ (by omega)
  have r0 : 0 ≤ x - y * q := by
    rw [← e2]; exact Int.ediv_nonneg h0 (by omega)
  have r1 : x - y * q < y := by
    rw [← e2]; exact Int.ediv_lt_of_lt_mul (by omega) (by rw [Int.mul_comm]; exact h1)
  have e3 : x = (x - y * q) + y * q := by omega
  have e4 : x / y = q := by
    rw [e3, Int.add_mul_ediv_left _ _ (by omega), Int.ediv_eq_zero_of_lt r0 r1]; omega
  have e5 : x % y = x - y * q := by rw [Int.emod_def, e4]
  exact ⟨e4.symm, by rw [e2, e5]⟩

/-- The digits of a quotient: one round. -/
theorem round_q {V Pj q tq T T' nU nU' tot : Int} (h : nU + V * (1048576 * Pj * tq) = tot) (hU : nU' = nU + Pj * (T' - T)) (hT : T' = T - q * V) : nU' + V * (Pj * (q + 1048576 * tq)) = tot := by
  rw [hU, hT, ← h, Int.mul_add Pj, Int.mul_add V]
  have e1 : Pj * (T - q * V - T) = -(V * (Pj * q)) := by
    rw [show T - q * V - T = -(q * V) by omega, Int.mul_neg, ← Int.mul_assoc, Int.mul_comm]
  have e2 : Pj * (1048576 * tq) = 1048576 * Pj * tq := by rw [← Int.mul_assoc, Int.mul_comm Pj]
  rw [e1, e2]
  omega

end Go.Proofs.Ytlbjaimgoiimgaa

namespace Go.Proofs.Ytlbjaimgoiimgaa
open Go.RowKit

theorem D_len_cmp {x y : Int} (hx : 0 ≤ x) (hy : 0 ≤ y) (h : (D x).length < (D y).length) : x < y := by
  have h1 := (D_len_le hx (k := (D x).length)).1 (Nat.le_refl _)
  have h2 := (D_len_lt hy (k := (D x).length)).1 h
  omega

theorem quiet_add_same {P : Program} {f : FuncId} {args : Array Value} {w : World} {a n : Nat} {v : Value}
    (h : Calls P f args (w.drewN (a + n)) fun e w' => e = .returned v ∧ w' = w.drewN (a + n)) :
    Calls P f args (w.drewN (a + n)) fun e w'' => e = .returned v ∧ ∃ m, w'' = w.drewN (a + m) :=
  h.mono fun _ _ ⟨he, hm⟩ => ⟨he, n, hm⟩
theorem quiet_add {P : Program} {f : FuncId} {args : Array Value} {w : World} {a n : Nat} {v : Value}
    (h : Calls P f args (w.drewN (a + n)) fun e w' => e = .returned v ∧ ∃ m, w' = (w.drewN (a + n)).drewN m) :
    Calls P f args (w.drewN (a + n)) fun e w'' => e = .returned v ∧ ∃ m, w'' = w.drewN (a + m) :=
  h.mono fun _ _ ⟨he, m, hm⟩ => ⟨he, n + m, by rw [hm, World.drewN_drewN, Nat.add_assoc]⟩

set_option maxHeartbeats 1000000 in
theorem order_any (x y : Int) (Aa Ab : Option Addr) (ca cb : Nat) (w : World) (B : Nat) (hIa : IntsAt B w Aa (D x)) (hIb : IntsAt B w Ab (D y)) (hx : 0 ≤ x) (hy : 0 ≤ y) (hla : (D x).length ≤ 1000) (hlb : (D y).length ≤ 1000) :
    Calls Try.prog 67 #[.slice Aa (D x).length ca, .slice Ab (D y).length cb] w fun e w' => e = .returned (.int .i64 (Lib.compareInt x y)) ∧ ∃ n, w' = w.drewN n := by
  have hlt := fun h => D_len_cmp hx hy h
  have hgt := fun h => D_len_cmp hy hx h
  have hxv := nv_D hx
  have hyv := nv_D hy
  have hda := Dig_D x
  have hdb := Dig_D y
  obtain ⟨la, ela⟩ : ∃ l, D x = l := ⟨_, rfl⟩
  obtain ⟨lb, elb⟩ : ∃ l, D y = l := ⟨_, rfl⟩
  rw [ela] at hIa hla hlt hgt hxv hda ⊢
  rw [elb] at hIb hlb hlt hgt hyv hdb ⊢
  clear ela elb
  obtain ⟨na, hna⟩ : ∃ n, la.length = n := ⟨_, rfl⟩
  obtain ⟨nb, hnb⟩ : ∃ n, lb.length = n := ⟨_, rfl⟩
  have hza : la.length ≤ na ∧ na ≤ la.length := by omega
  have hzb : lb.length ≤ nb ∧ nb ≤ lb.length := by omega
  rw [hna] at hla hlt hgt ⊢
  rw [hnb] at hlb hlt hgt ⊢
  clear hna hnb
  have HLT := Lib.hid hlt; clear hlt
  have HGT := Lib.hid hgt; clear hgt
  have HX := Lib.hid hxv; clear hxv
  have HY := Lib.hid hyv; clear hyv
  by_cases hne : na = nb
  · subst hne
    go_enter Try.func67, Try.ntmps67
    go_wp2_with fail
    go_loopw [5] (fun i wr => ∃ k : Nat, k ≤ na ∧ i = .int .i64 ((k : Int) - 1) ∧ Hid (la.drop k = lb.drop k) ∧ ∃ q, wr = w.drewN q) (fun i _ => (intOf i + 1).toNat)
    case atStart => exact ⟨na, Nat.le_refl _, rfl, Lib.hid (by rw [List.drop_of_length_le (by omega), List.drop_of_length_le (by omega)]), 0, rfl⟩
    case round =>
      obtain ⟨k, hk, rfl, hd, q, rfl⟩ := hrel
      by_cases h0 : 0 < k
      · obtain ⟨j, rfl⟩ : ∃ j, k = j + 1 := ⟨k - 1, by omega⟩
        obtain ⟨b1, off1, hA1, hB1, hc1⟩ := hIa j (by omega)
        obtain ⟨b2, off2, hA2, hB2, hc2⟩ := hIb j (by omega)
        subst hA1; subst hA2
        have e1 := drop_cons (l := la) (k := j) (by omega)
        have e2 := drop_cons (l := lb) (k := j) (by omega)
        have h3 := fun h => nv_lt_of hda hdb (by omega) (k := j) (by omega) hd.out h
        have h4 := fun h => nv_lt_of hdb hda (by omega) (k := j) (by omega) hd.out.symm h
        obtain ⟨u, hu⟩ : ∃ u, la.getD j 0 = u := ⟨_, rfl⟩
        obtain ⟨v, hv⟩ : ∃ u, lb.getD j 0 = u := ⟨_, rfl⟩
        rw [hu] at hc1 e1 h3 h4
        rw [hv] at hc2 e2 h3 h4
        clear hu hv
        have HE1 := Lib.hid e1; clear e1
        have HE2 := Lib.hid e2; clear e2
        have H3 := Lib.hid h3; clear h3
        have H4 := Lib.hid h4; clear h4
        have hcw1 : (w.drewN q).cell? ⟨b1, off1 + j, none⟩ = some (.int .i64 u) := hc1
        have hcw2 : (w.drewN q).cell? ⟨b2, off2 + j, none⟩ = some (.int .i64 v) := hc2
        have hi : ((j : Int) + 1 - 1) = j := by omega
        by_cases huv : u = v
        · subst huv
          go_wp2_with fail
          go_quiet (fail)
          go_wp2_with fail
          go_roundw
          case rel => exact ⟨j, by omega, by first | rfl | (congr 1; omega), Lib.hid (by rw [HE1.out, HE2.out, hd.out]), _, rfl⟩
          case measure => simp [intOf]
        · have huv' : (u != v) = true := by simpa using huv
          have hcmp : Lib.compareInt u v = Lib.compareInt x y := by
            have k3 := H3.out
            have k4 := H4.out
            rw [HX.out, HY.out] at k3 k4
            unfold Lib.compareInt
            rcases Int.lt_or_le u v with h | h
            · have := k3 h
              rw [if_pos h, if_pos this]
            · have := k4 (by omega)
              rw [if_neg (by omega), if_pos (by omega), if_neg (by omega), if_pos (by omega)]
          have HC := Lib.hid hcmp; clear hcmp
          go_wp2_with fail
          go_quiet (fail)
          go_wp2_with fail
          go_quiet ((go_at_call 83; exact quiet_add_same (Try.cmp_Compare_int _ _ _)))
          go_wp2_with fail
          go_ret
          exact ⟨by rw [HC.out]; rfl, _, by rw [World.drewN_drewN, World.drewN_drewN]⟩
      · have : k = 0 := by omega
        subst this
        have he := hd.out
        rw [List.drop_zero, List.drop_zero] at he
        have hxy : x = y := by rw [← HX.out, ← HY.out, he]
        have hcmp : Lib.compareInt x y = 0 := by
          unfold Lib.compareInt
          rw [if_neg (by omega), if_neg (by omega)]
        have HC := Lib.hid hcmp; clear hxy he hcmp
        go_wp2_with fail
        go_ret
        exact ⟨by rw [HC.out]; rfl, _, rfl⟩
  · have hne' : decide (na = nb) = false := by simpa using hne
    have hcmp : Lib.compareInt (na : Int) (nb : Int) = Lib.compareInt x y := by
      unfold Lib.compareInt
      rcases Nat.lt_or_ge na nb with h | h
      · have := HLT.out h
        rw [if_pos (by omega), if_pos (by omega)]
      · have := HGT.out (by omega)
        rw [if_neg (by omega), if_pos (by omega), if_neg (by omega), if_pos (by omega)]
    have HC := Lib.hid hcmp; clear hcmp
    go_enter Try.func67, Try.ntmps67
    go_wp2_with (go_at_call 83; refine (Try.cmp_Compare_int _ _ _).mono ?_; rintro e w' ⟨rfl, rfl⟩)
    go_ret
    exact ⟨by rw [← HC.out]; rfl, 0, rfl⟩

theorem clone_any (l : List Int) (A : Option Addr) (c : Nat) (w : World) (hI : IntsAt w.heap.size w A l) (hl : l.length ≤ 1000000) :
    Calls Try.prog 69 #[.slice A l.length c] w fun e w' => ∃ v', e = .returned v' ∧ OwnI w' w.heap.size v' l ∧ Below w.heap.size w w' := by
  rcases A with _ | a
  · have : l = [] := by
      cases l with
      | nil => rfl
      | cons d l => obtain ⟨b, off, h, _⟩ := hI 0 (by simp); cases h
    subst this
    exact (Try.slices_Clone_int_nil _ _ _).mono fun e w' ⟨he, hw⟩ => ⟨_, he, OwnI.nil _ _, by rw [hw]; exact Below.refl _ _⟩
  · rcases Nat.eq_zero_or_pos l.length with h | h
    · have : l = [] := List.eq_nil_of_length_eq_zero h
      subst this
      exact (Try.slices_Clone_int_zero a c w).mono fun e w' ⟨v', he, ho, _, hb⟩ => ⟨v', he, ho, hb⟩
    · obtain ⟨b, off, ha, _, _⟩ := hI 0 h
      injection ha with ha
      subst ha
      refine (Try.slices_Clone_int b off l.length c l w (Nat.le_refl _) (by omega) (fun j hj => ?_)).mono fun e w' ⟨v', he, ho, _, hb⟩ => ⟨v', he, by rw [List.take_length] at ho; exact ho, hb⟩
      obtain ⟨b', off', ha, _, hc⟩ := hI j hj
      injection ha with ha
      injection ha with h1 h2
      subst h1; subst h2
      exact hc

/-- slices.Equal. -/
theorem equal_any (la lb : List Int) (Aa Ab : Option Addr) (ca cb B : Nat) (w : World) (hIa : IntsAt B w Aa la) (hIb : IntsAt B w Ab lb) (hla : la.length ≤ 9223372036854775807) (hlb : lb.length ≤ 9223372036854775807) :
    Calls Try.prog 50 #[.slice Aa la.length ca, .slice Ab lb.length cb] w fun e w' => e = .returned (.bool (decide (la = lb))) ∧ ∃ n, w' = w.drewN n := by
  by_cases hne : la.length = lb.length
  · rcases Nat.eq_zero_or_pos la.length with h | h
    · have h1 : la = [] := List.eq_nil_of_length_eq_zero h
      have h2 : lb = [] := List.eq_nil_of_length_eq_zero (by omega)
      subst h1; subst h2
      exact (Try.slices_Equal_int_empty Aa Ab ca 0 cb w (by omega)).mono fun e w' ⟨he, hw⟩ => ⟨by rw [he]; rfl, 0, hw⟩
    · obtain ⟨b1, o1, h1, _, _⟩ := hIa 0 h
      obtain ⟨b2, o2, h2, _, _⟩ := hIb 0 (by omega)
      subst h1; subst h2
      refine (Try.slices_Equal_int b1 o1 la.length ca b2 o2 lb.length cb la lb w (Nat.le_refl _) (Nat.le_refl _) hla hlb (fun j hj => ?_) (fun j hj => ?_)).mono fun e w' ⟨he, hw⟩ => ⟨by
        rw [he, List.take_length, List.take_length]; congr 2; rw [Bool.eq_iff_iff]; simp, hw⟩
      · obtain ⟨b', off', ha, _, hc⟩ := hIa j hj
        injection ha with ha
        injection ha with h1 h2
        subst h1; subst h2
        exact hc
      · obtain ⟨b', off', ha, _, hc⟩ := hIb j hj
        injection ha with ha
        injection ha with h1 h2
        subst h1; subst h2
        exact hc
  · exact (Try.slices_Equal_int_lens Aa Ab la.length ca lb.length cb w hne).mono fun e w' ⟨he, hw⟩ => ⟨by
      rw [he]; congr 2; simp; intro h; exact hne (by rw [h]), 0, hw⟩

end Go.Proofs.Ytlbjaimgoiimgaa
