/- Walks: slices.Backward, a range over it, and join. -/
import Derived.Test.YtofndidngjglmaaDoorE
import Derived.RangeFuncNested
import Derived.RangeFuncBound
import Derived.RangeFuncCalls
import Derived.RangeFuncLeaves
import Derived.Shelf.Abstract
import Derived.Shelf.RegionOpen
import Derived.OwnWalkIn
import Derived.TacticsInMore
import Derived.LoopNIn
import Derived.LoopIn
namespace Go.Proofs.YtofndidngjglmaaDoor
open Go.RowKit Go.Shelf

attribute [local go_sem] Oper.semAt_some

/-- What has come when k rounds are over: f 0, .., f (k - 1). -/
def upto {α : Type} (f : Nat → α) (k : Nat) : List α := (List.range k).map f
theorem upto_succ {α : Type} (f : Nat → α) (k : Nat) : upto f (k + 1) = upto f k ++ [f k] := by simp [upto, List.range_succ]
theorem upto_length {α : Type} (f : Nat → α) (k : Nat) : (upto f k).length = k := by simp [upto]

/-- A place of a slice, and the digit there. -/
abbrev Dg := { x : Int × Int // 0 ≤ x.2 ∧ x.2 < 1048576 }
def dgAt (zs : List Int) (hd : Dig zs) (len j : Nat) : Dg := ⟨((len : Int) - 1 - j, zs.getD (len - 1 - j) 0), hd.getD' _⟩

/-- What a round keeps: all below n₀, and the cell Bs. -/
def Kp (Bs n₀ : Nat) (W W' : World) : Prop := Below n₀ W W' ∧ ∀ v, W.cell? ⟨Bs, 0, none⟩ = some v → W'.cell? ⟨Bs, 0, none⟩ = some v
theorem Kp.refl (Bs n₀ : Nat) (W : World) : Kp Bs n₀ W W := ⟨Below.refl _ _, fun _ h => h⟩
theorem Kp.trans {Bs n₀ : Nat} {A B C : World} (h : Kp Bs n₀ A B) (h' : Kp Bs n₀ B C) : Kp Bs n₀ A C := ⟨h.1.trans h'.1, fun v e => h'.2 v (h.2 v e)⟩

set_option maxRecDepth 100000 in
set_option maxHeartbeats 2000000 in
theorem back1_in (F : Fence) (n : Nat) (h8 : F.fn 67) (hro : F.round = none) (hn : 1 ≤ n) (l Bs n₀ len cap : Nat) (A : Option Addr) (zs : List Int) (hd : Dig zs) (hlen : len ≤ zs.length) (hm : len ≤ 1000000) (J Jx : List Dg → World → Prop)
    (hY : ∀ pre (x : Dg) W, J pre W → pre.length < len → YieldAt F (n - 1) Tryd.prog l #[.int .i64 x.1.1, .int .i64 x.1.2] W fun e W' =>
      (e = .returned (.bool true) ∧ J (pre ++ [x]) W' ∧ Kp Bs n₀ W W') ∨ (e = .returned (.bool false) ∧ Jx (pre ++ [x]) W'))
    (W : World) (hBs : W.cell? ⟨Bs, 0, none⟩ = some (.slice A len cap)) (hc : IntsAt n₀ W A zs) (h0 : J [] W) :
    CallsIn F n Tryd.prog 67 #[.func (.yield l) #[] #[], .pointer (some ⟨Bs, 0, none⟩)] W fun e W' => (∃ v, e = .returned v) ∧
      ((∃ ys, ys = upto (dgAt zs hd len) len ∧ J ys W') ∨ (∃ pre, (∃ k, k ≤ len ∧ pre = upto (dgAt zs hd len) k) ∧ Jx pre W')) := by
  refine callsIn_of_wp Tryd.func67 rfl h8 ?_ hro
  simp only [Tryd.ntmps67, List.size_toArray, List.length_cons, List.length_nil, Nat.reduceAdd, Nat.reduceSub, Array.replicate_succ, Array.replicate_zero, List.push_toArray, List.append_toArray, List.nil_append, List.cons_append]
  gi_wp2
  gi_loopw [3] (fun i wr => ∃ k : Nat, k ≤ len ∧ i = .int .i64 ((len : Int) - 1 - k) ∧ J (upto (dgAt zs hd len) k) wr ∧ Kp Bs n₀ W wr)
    (fun i _ => (intOf i + 1).toNat)
  case atStart => exact ⟨0, Nat.zero_le _, by simp, h0, Kp.refl _ _ _⟩
  case round =>
    obtain ⟨k, hk, rfl, hJs, hnx⟩ := hrel
    have hBsr := hnx.2 _ hBs
    by_cases hlt : k < len
    · obtain ⟨b, off, hA, hbB, hcx⟩ := hc (len - 1 - k) (by omega)
      subst hA
      have hcx' := (hnx.1.cell (p := ⟨b, off + (len - 1 - k), none⟩) hbB).trans hcx
      obtain ⟨fn, tmps, assign, body, hy, hR⟩ := hY _ (dgAt zs hd len k) wr hJs (by rw [upto_length]; exact hlt)
      dsimp only [dgAt] at hy
      obtain ⟨d, hdd⟩ : ∃ d, zs.getD (len - 1 - k) 0 = d := ⟨_, rfl⟩
      rw [hdd] at hcx' hy
      clear hdd hcx
      gi_wp2
      refine hR.mono ?_
      rintro e W3 (⟨rfl, hJ3, hk3⟩ | ⟨rfl, hJx3⟩)
      · gi_wp2
        go_roundw
        case rel => exact ⟨k + 1, by omega, by congr 1; omega, by rw [upto_succ]; exact hJ3, hnx.trans hk3⟩
        case measure => simp [intOf]; omega
      · gi_wp2
        refine bodyPost_ret (results_none rfl _ _ _) rfl ?_
        exact ⟨⟨_, rfl⟩, .inr ⟨_, ⟨k + 1, by omega, (upto_succ _ _).symm⟩, hJx3⟩⟩
    · obtain rfl : k = len := by omega
      gi_wp2
      go_end0
      exact ⟨⟨_, rfl⟩, .inl ⟨_, rfl, hJs⟩⟩

set_option maxHeartbeats 1000000 in
theorem back_in (F : Fence) (n : Nat) (h6 : F.fn 53) (hro : F.round = none) (a : Option Addr) (len cap : Nat) (w : World) :
    CallsIn F n Tryd.prog 53 #[.slice a len cap] w fun e w' => e = .returned (.func (.func 67) #[] #[.pointer (some ⟨w.heap.size, 0, none⟩)]) ∧ w' = w.alloc (.cells #[.slice a len cap] 22) := by
  refine callsIn_of_wp Tryd.func53 rfl h6 ?_ hro
  simp only [Tryd.ntmps53, List.size_toArray, List.length_cons, List.length_nil, Nat.reduceAdd, Nat.reduceSub, Array.replicate_succ, Array.replicate_zero, List.push_toArray, List.append_toArray, List.nil_append, List.cons_append]
  gi_wp2
  go_ret
  exact ⟨rfl, rfl⟩

theorem back_stops (F : Fence) (n : Nat) (h8 : F.fn 67) (hro : F.round = none) (hn : 1 ≤ n) (Bs n₀ cap : Nat) (A : Option Addr) (zs : List Int) (hd : Dig zs) (hm : zs.length ≤ 1000000) (w : World) (hBs : Bs < w.heap.size) (hn₀ : n₀ ≤ w.heap.size)
    (hc : w.cell? ⟨Bs, 0, none⟩ = some (.slice A zs.length cap)) (hI : IntsAt n₀ w A zs) :
    SeqStopsK F n Tryd.prog 67 #[.pointer (some ⟨Bs, 0, none⟩)] (fun x : Dg => #[Value.int .i64 x.1.1, Value.int .i64 x.1.2]) (Kp Bs n₀) (fun ys => ys = upto (dgAt zs hd zs.length) zs.length)
      (fun pre => ∃ k, k ≤ zs.length ∧ pre = upto (dgAt zs hd zs.length) k) zs.length w := fun l J Jx W hW _ _ hY h0 => by
  have hc' := (hW.cell (p := ⟨Bs, 0, none⟩) hBs).trans hc
  exact back1_in F n h8 hro hn l Bs n₀ zs.length cap A zs hd (Nat.le_refl _) hm J Jx hY W hc' (hI.below (hW.mono hn₀)) h0

/-- The number of the digits that have come, modulo 2^64. -/
def jn : List Dg → Int := List.foldl (fun s x => s * 1048576 % 18446744073709551616 + x.1.2) 0
theorem jn_snoc (pre : List Dg) (x : Dg) : jn (pre ++ [x]) = jn pre * 1048576 % 18446744073709551616 + x.1.2 := by simp [jn]
theorem jn_upto (zs : List Int) (hd : Dig zs) (k : Nat) (hk : k ≤ zs.length) : jn (upto (dgAt zs hd zs.length) k) = nv (zs.drop (zs.length - k)) % 18446744073709551616 := by
  induction k with
  | zero => rw [Nat.sub_zero, List.drop_length]; rfl
  | succ k ih =>
    rw [upto_succ, jn_snoc, ih (by omega)]
    have h1 := drop_cons (l := zs) (k := zs.length - (k + 1)) (by omega)
    have h2 : zs.length - (k + 1) + 1 = zs.length - k := by omega
    rw [h2] at h1
    rw [h1, nv_cons]
    have h3 := hd.getD' (zs.length - (k + 1))
    have h4 : (dgAt zs hd zs.length k).1.2 = zs.getD (zs.length - (k + 1)) 0 := by unfold dgAt; show zs.getD (zs.length - 1 - k) 0 = _; congr 1; omega
    rw [h4]
    omega
theorem jn_bd (pre : List Dg) : 0 ≤ jn pre ∧ jn pre < 18446744073709551616 := by
  rcases List.eq_nil_or_concat pre with rfl | ⟨pre, x, rfl⟩
  · decide
  · rw [List.concat_eq_append, jn_snoc]
    have := x.2
    omega

theorem or_low64 {r d : Int} (d0 : 0 ≤ d) (d1 : d < 1048576) : bits BinOp.or IntKind.u64 (r * 1048576 % 18446744073709551616) d = r * 1048576 % 18446744073709551616 + d := by
  have e : (2 : Int) ^ 20 = 1048576 := by decide
  have e2 : (2 : Int) ^ 64 = 18446744073709551616 := by decide
  exact bits_join .u64 64 (by decide) (fun n h0 h1 => by rw [e2] at h1; rw [IntKind.wrap_u64]; omega) 20 (r * 1048576 % 18446744073709551616) d (by omega) (by rw [e]; omega) (by rw [e2]; omega) d0 (by rw [e]; omega) (by rw [e2]; omega)

set_option maxRecDepth 100000 in
set_option maxHeartbeats 2000000 in
theorem join_in (F : Fence) (n : Nat) (h3 : F.fn 39) (h5 : F.fn 53) (h7 : F.fn 67) (hro : F.round = none) (hn : 3 ≤ n) (a : Option Addr) (cap : Nat) (zs : List Int) (hd : Dig zs) (hm : zs.length ≤ 1000000) (w : World) (hI : IntsAt w.heap.size w a zs) :
    CallsIn F n Tryd.prog 39 #[.slice a zs.length cap] w fun e W' => e = .returned (.int .u64 (nv zs % 18446744073709551616)) ∧ Below w.heap.size w W' := by
  have h1 : 1 ≤ n := by omega
  refine callsIn_of_wp_marks Tryd.func39 rfl h3 ?_ hro
  simp only [Tryd.ntmps39, List.size_toArray, List.length_cons, List.length_nil, Nat.reduceAdd, Nat.reduceSub, Array.replicate_succ, Array.replicate_zero, List.push_toArray, List.append_toArray, List.nil_append, List.cons_append]
  gi_wp2_with (gi_at_call 53; refine (back_in F (n - 1) h5 hro _ _ _ _).mono ?_; rintro e w' ⟨rfl, rfl⟩)
  have bS := Boxed.new w 50 (.int .u64 0)
  have bN := Boxed.new (w.alloc (.cells #[.int .u64 0] 50)) 22 (.slice a zs.length cap)
  rw [World.size_alloc] at bN
  have hB0 : Below w.heap.size w ((w.alloc (.cells #[.int .u64 0] 50)).alloc (.cells #[.slice a zs.length cap] 22)) := ((Below.refl _ w).alloc (Nat.le_refl _) _).alloc (by simp) _
  refine wpIn_rangeFunc_ownG hro h1 (gf := 67) (lb := #[.pointer (some ⟨w.heap.size + 1, 0, none⟩)]) rfl h7 (enters_of Tryd.func67 (by kernel_rfl) rfl)
    (back_stops F (n - 1) h7 hro (by omega) (w.heap.size + 1) w.heap.size cap a zs hd hm _ (by simp) (by simp; omega) bN.cell (hI.below hB0)) (fun h h' => h.trans h')
    (fun W l o o' hl ho hco hwo => ⟨belowK_b (w := w) (Nat.le_refl _) W l o o' (by simp at hl; omega) ho hco hwo, fun v hv => cell_kept hv (grownBy_putObj' _ l o') (fun r e => by cases e; exact ⟨_, ho, hco⟩)⟩) (Below.refl _ _) (fun _ => rfl)
    (fun pre W => (W.cell? ⟨w.heap.size, 0, none⟩ = some (.int .u64 (jn pre)) ∧ W.frozen? ⟨w.heap.size, 0, none⟩ = false) ∧ Below w.heap.size w W)
    (fun _ _ _ => False)
    (OwnFrom.and (Own.from (fun s A B row hs hg hr => ⟨cell_kept hs.1 hg hr, (frozen_kept hs.1 hg hr).trans hs.2⟩) _) (ownFrom_below (Nat.le_refl _) (by simp; omega)))
    (fun _ _ _ _ _ hs _ _ => hs)
    ⟨⟨(bS.alloc _).cell, (bS.alloc _).frozen⟩, hB0⟩
    (fun x => { tmps := #[.slice a zs.length cap, undef, .int .u64 0, .pointer (some ⟨w.heap.size, 0, none⟩), undef, .int .i64 x.1.2, .slice a zs.length cap, .func (.func 67) #[] #[.pointer (some ⟨w.heap.size + 1, 0, none⟩)], .int .i64 x.1.1, .int .i64 x.1.2, undef, undef, undef, undef, undef, undef], defers := [] }) ?assign ?body ?done ?stop
  case assign =>
    intro l x W K hK
    gi_wp2
    exact hK
  case body =>
    rintro l pre x W ⟨⟨hc, hf⟩, hB⟩ _
    obtain ⟨⟨x1, x2⟩, hx⟩ := x
    dsimp only at hx ⊢
    have hj := jn_bd pre
    have hor := or_low64 (r := jn pre) hx.1 hx.2
    gi_wp2
    exact ⟨(KeepsOthers.setCell _ _ _).from _, ⟨(Below.refl w.heap.size W).setCell (p := ⟨w.heap.size, 0, none⟩) (Nat.le_refl _) _, fun v hv => (World.cell?_setCell_other W ⟨w.heap.size, 0, none⟩ _ _ (by simp)).trans hv⟩, ⟨by rw [jn_snoc, IntKind.wrap_u64, hor]; exact World.cell?_setCell_same' _ _ _ (by rw [hc]; rfl), by rw [World.frozen?_setCell]; exact hf⟩, hB.setCell (p := ⟨w.heap.size, 0, none⟩) (Nat.le_refl _) _⟩
  case done =>
    rintro D ys W hD rfl ⟨⟨hc, _⟩, hB⟩ hK
    rw [jn_upto zs hd zs.length (Nat.le_refl _), Nat.sub_self, List.drop_zero] at hc
    gi_wp2
    refine ⟨by simp, .inl ⟨_, _, rfl, run_takeDeferred hK, ?_⟩⟩
    exact ⟨_, results_tmp rfl _ _ _, rfl, hB.trans (belowK_b (w := w) (Nat.le_refl _) W D _ _ (by simp at hD; omega) hK rfl rfl)⟩
  case stop =>
    rintro D c pre W _ _ h _
    exact h.elim

theorem join_any (a : Option Addr) (cap : Nat) (zs : List Int) (w : World) (hI : IntsAt w.heap.size w a zs) (hd : Dig zs) (hm : zs.length ≤ 1000000) (hz : nv zs < 18446744073709551616) :
    Calls Tryd.prog 39 #[.slice a zs.length cap] w fun e W' => e = .returned (.int .u64 (nv zs)) ∧ Below w.heap.size w W' := by
  have h := (callsIn_wide (n := 3)).1 (join_in Fence.wide 3 trivial trivial trivial rfl (by omega) a cap zs hd hm w hI)
  rw [Int.emod_eq_of_lt hd.nv_nonneg hz] at h
  exact h

end Go.Proofs.YtofndidngjglmaaDoor
