/- Walks: interpolate. -/
import Derived.Test.YtfipogmndokhkaaUf
namespace Go.Proofs.Ytfipogmndokhkaa
open Go.RowKit

def Fd (ds : List (Int × Int)) : Prop := ∀ d ∈ ds, 0 ≤ d.1 ∧ d.1 ≤ 20 ∧ 0 ≤ d.2 ∧ d.2 < 2147483647
theorem Rt.fd {ds : List (Int × Int)} (h : Rt ds) : Fd ds := fun d hd => by have := h d hd; omega
theorem Fd.get {ds : List (Int × Int)} (h : Fd ds) {k : Nat} (hk : k < ds.length) : 0 ≤ (ds.getD k (0, 0)).1 ∧ (ds.getD k (0, 0)).1 ≤ 20 ∧ 0 ≤ (ds.getD k (0, 0)).2 ∧ (ds.getD k (0, 0)).2 < 2147483647 := by
  rw [List.getD_eq_getElem?_getD, List.getElem?_eq_getElem hk]
  exact h _ (List.getElem_mem hk)
theorem fst_get (ds : List (Int × Int)) (k : Nat) : (ds.map (·.1)).getD k 0 = (ds.getD k (0, 0)).1 := by
  rw [List.getD_eq_getElem?_getD, List.getD_eq_getElem?_getD, List.getElem?_map]
  cases ds[k]? <;> rfl
theorem snd_get (ds : List (Int × Int)) (k : Nat) : (ds.map (·.2)).getD k 0 = (ds.getD k (0, 0)).2 := by
  rw [List.getD_eq_getElem?_getD, List.getD_eq_getElem?_getD, List.getElem?_map]
  cases ds[k]? <;> rfl
/-- z is the value at x of each polynomial through the points. -/
def Val (ds : List (Int × Int)) (x z : Int) : Prop := Apart (ds.map (·.1)) → ∀ f, Pol ds.length f → (∀ i, i < ds.length → Cg (f (ds.getD i (0, 0)).1) (ds.getD i (0, 0)).2) → Cg z (f x)

theorem inter_step {a y d : Int} {Xs : List Int} {i j : Nat} {x X : Int} (h : Cg a (y * pf Xs i x j)) (hd : Cg d (x - X)) (hX : Xs.getD j 0 = X) (hij : j ≠ i) : Cg (a * d % 2147483647) (y * pf Xs i x (j + 1)) := by
  rw [pf, if_neg hij, hX, ← Int.mul_assoc]
  exact (Cg.mod _).trans (h.mul hd)
theorem inter_sum {s a v y : Int} {Xs Ys : List Int} {V : Nat → Int} {n i : Nat} {x : Int} (h : Cg s (lag Xs Ys V n x i)) (ha : Cg a (y * pf Xs i x n)) (hy : Ys.getD i 0 = y) :
    Cg ((s + a * v) % 2147483647) (lag Xs Ys (fun m => if m = i then v else V m) n x (i + 1)) := by
  rw [lag, lag_congr (Vs := fun m => if m = i then v else V m) (Ws := V) Xs Ys n x i (fun m hm => if_neg (by omega)), hy]
  refine (Cg.mod _).trans (h.add ?_)
  simp only [if_true]
  exact ha.mul (Cg.refl v)
theorem inter_inv {b v : Int} {Xs : List Int} {V : Nat → Int} {n i : Nat} (hX : Xs.length = n) (hi : i < n) (hb : Cg b (1 * pf Xs i (Xs.getD i 0) n)) (hv : ¬ Cg b 0 → Cg (b * v) 1) (hV : Apart Xs → ∀ m, m < i → Cg (pf Xs m (Xs.getD m 0) n * V m) 1) :
    Apart Xs → ∀ m, m < i + 1 → Cg (pf Xs m (Xs.getD m 0) n * (if m = i then v else V m)) 1 := fun ha m hm => by
  rw [Int.one_mul] at hb
  by_cases h : m = i
  · subst h
    rw [if_pos rfl]
    have h1 : ¬ Cg b 0 := fun h2 => pf_self ha m (by omega) n (by omega) (hb.symm.trans h2)
    exact (hb.symm.mul (Cg.refl v)).trans (hv h1)
  · rw [if_neg h]
    exact hV ha m (by omega)

set_option maxRecDepth 100000 in
set_option maxHeartbeats 4000000 in
theorem interpolate_any (ds : List (Int × Int)) (A : Option Addr) (c : Nat) (x : Int) (w : World) (hS : ShAt w.heap.size w A ds) (hl : ds.length ≤ 1000) (hfd : Fd ds) (hx0 : 0 ≤ x) (hx1 : x ≤ 20) :
    Calls Try.prog 24 #[.slice A ds.length c, .int .i64 x] w fun e w' => ∃ z, e = .returned (.int .i64 z) ∧ 0 ≤ z ∧ z < 2147483647 ∧ Hid (Val ds x z) ∧ Below w.heap.size w w' := by
  have HS := Lib.hid hS; clear hS
  have HT := Lib.hid hfd; clear hfd
  obtain ⟨Xs, hXs⟩ : ∃ Xs, ds.map (·.1) = Xs := ⟨_, rfl⟩
  obtain ⟨Ys, hYs⟩ : ∃ Ys, ds.map (·.2) = Ys := ⟨_, rfl⟩
  have hgx := fun k => fst_get ds k
  have hgy := fun k => snd_get ds k
  rw [hXs] at hgx
  rw [hYs] at hgy
  have HGX := Lib.hid hgx; clear hgx
  have HGY := Lib.hid hgy; clear hgy
  obtain ⟨n, hn⟩ : ∃ n, ds.length = n := ⟨_, rfl⟩
  have hlx : Xs.length = n := by rw [← hXs, List.length_map, hn]
  have HV : Hid (Val ds x = fun z => Apart Xs → ∀ f, Pol n f → (∀ i, i < n → Cg (f (Xs.getD i 0)) (Ys.getD i 0)) → Cg z (f x)) := Lib.hid (by
    funext z
    unfold Val
    rw [hXs, hn]
    simp only [HGX.out, HGY.out])
  clear hXs hYs
  rw [hn] at hl ⊢
  have HN := Lib.hid hn; clear hn
  have HLX := Lib.hid hlx; clear hlx
  go_enter Try.func24, Try.ntmps24
  go_wp2_with fail
  go_loopw [5, 14] (fun sv iv wr => ∃ (s : Int) (i : Nat) (V : Nat → Int), i ≤ n ∧ sv = .int .i64 s ∧ iv = .int .i64 i ∧ 0 ≤ s ∧ s < 2147483647 ∧ Below w.heap.size w wr ∧
    Hid (Cg s (lag Xs Ys V n x i) ∧ (Apart Xs → ∀ m, m < i → Cg (pf Xs m (Xs.getD m 0) n * V m) 1))) (fun _ iv _ => n - (intOf iv).toNat)
  case atStart => exact ⟨0, 0, fun _ => 0, Nat.zero_le _, rfl, rfl, by omega, by omega, Below.refl _ _, Lib.hid ⟨Cg.refl 0, fun _ m hm => by omega⟩⟩
  case round =>
    obtain ⟨s, i, V, hi, rfl, rfl, hs0, hs1, hb, hv⟩ := hrel
    by_cases hgo : i < n
    · obtain ⟨b, off, hA, hB, hc0, hc1⟩ := (HS.out.below hb) i (by have := HN.out; omega)
      subst hA
      have hs := hb.size
      obtain ⟨hx2, hx3, hy0, hy1⟩ := HT.out.get (k := i) (by have := HN.out; omega)
      have hgx := HGX.out i
      have hgy := HGY.out i
      obtain ⟨d, hd⟩ : ∃ d, ds.getD i (0, 0) = d := ⟨_, rfl⟩
      obtain ⟨X, Y⟩ := d
      rw [hd] at hc0 hc1 hx2 hx3 hy0 hy1 hgx hgy
      simp only at hc0 hc1 hx2 hx3 hy0 hy1 hgx hgy
      have HgX := Lib.hid hgx; clear hgx
      have HgY := Lib.hid hgy; clear hgy
      clear hd
      go_wp2_with fail
      have hb2 := hb.alloc hs (.cells #[.int .i64 X, .int .i64 Y] 39)
      have k2 := Blk.new wr 39 #[.int .i64 X, .int .i64 Y]
      obtain ⟨W, hW⟩ : ∃ W, wr.alloc (.cells #[.int .i64 X, .int .i64 Y] 39) = W := ⟨_, rfl⟩
      obtain ⟨g, hg⟩ : ∃ g, wr.heap.size = g := ⟨_, rfl⟩
      have hgW : g < W.heap.size := by rw [← hW, ← hg]; simp
      rw [hW] at k2 hb2 ⊢
      rw [hg] at k2 ⊢
      have hgs : w.heap.size ≤ g := by omega
      clear hW hg hc0 hc1 hb hs
      go_loopw [8, 9, 23] (fun av bv jv wq => ∃ (a be : Int) (j : Nat), j ≤ n ∧ av = .int .i64 a ∧ bv = .int .i64 be ∧ jv = .int .i64 j ∧ 0 ≤ a ∧ a < 2147483647 ∧ 0 ≤ be ∧ be < 2147483647 ∧ Below w.heap.size w wq ∧ Blk wq g 39 #[.int .i64 X, .int .i64 Y] ∧
        Hid (Cg a (Y * pf Xs i x j) ∧ Cg be (1 * pf Xs i (Xs.getD i 0) j))) (fun _ _ jv _ => n - (intOf jv).toNat)
      case atStart => exact ⟨Y, 1, 0, Nat.zero_le _, rfl, rfl, rfl, hy0, hy1, by omega, by omega, hb2, k2, Lib.hid ⟨by rw [pf, Int.mul_one]; exact Cg.refl _, by rw [pf, Int.mul_one]; exact Cg.refl _⟩⟩
      case round =>
        obtain ⟨a, be, j, hj, rfl, rfl, rfl, ha0, ha1, hbe0, hbe1, hbq, kq, hin⟩ := hrel
        have hsq := hbq.size
        by_cases hgo2 : j < n
        · obtain ⟨b', off', hA', hB', hc0, hc1⟩ := (HS.out.below hbq) j (by have := HN.out; omega)
          injection hA' with hA'
          injection hA' with e1 e2
          subst e1; subst e2
          obtain ⟨hu2, hu3, _, _⟩ := HT.out.get (k := j) (by have := HN.out; omega)
          have hgu := HGX.out j
          obtain ⟨d, hd⟩ : ∃ d, ds.getD j (0, 0) = d := ⟨_, rfl⟩
          obtain ⟨U, T⟩ := d
          rw [hd] at hc0 hc1 hu2 hu3 hgu
          simp only at hc0 hc1 hu2 hu3 hgu
          have HgU := Lib.hid hgu; clear hgu
          clear hd
          have q0 := kq.cell 0
          have q1 := kq.cell 1
          have hgq := kq.lt
          simp at q0 q1
          by_cases hij : j = i
          · subst hij
            go_wp2_with fail
            go_roundw
            case rel => exact ⟨a, be, j + 1, by omega, rfl, rfl, rfl, ha0, ha1, hbe0, hbe1, hbq.alloc hsq _, kq.alloc _, Lib.hid (by rw [pf, pf, if_pos rfl, if_pos rfl]; exact hin.out)⟩
            case measure => simp [intOf]; omega
          · have hne : ((j : Int) != (i : Int)) = true := by simp; omega
            go_wp2_with fail
            refine (minus_any x U _ hx0 (by omega) hu2 (by omega)).mono ?_
            rintro e w1 ⟨d1, rfl, hd0, hd1, hd2, rfl⟩
            obtain ⟨m0, m1⟩ := mulb ha0 ha1 hd0 hd1
            have st1 := Lib.hid (inter_step hin.out.1 hd2 HgU.out hij); clear hd2
            go_wp2_with fail
            refine (minus_any X U _ hx2 (by omega) hu2 (by omega)).mono ?_
            rintro e w1 ⟨d2, rfl, hd3, hd4, hd5, rfl⟩
            obtain ⟨m2, m3⟩ := mulb hbe0 hbe1 hd3 hd4
            have st2 := Lib.hid (inter_step hin.out.2 (by rw [HgX.out]; exact hd5) HgU.out hij); clear hd5
            go_wp2_with fail
            go_roundw
            case rel => exact ⟨_, _, j + 1, by omega, rfl, rfl, rfl, by omega, by omega, by omega, by omega, hbq.alloc hsq _, kq.alloc _, Lib.hid ⟨st1.out, st2.out⟩⟩
            case measure => simp [intOf]; omega
        · have : j = n := by omega
          subst this
          clear kq
          go_wp2_with fail
          refine (inverse_any be _ hbe0 hbe1).mono ?_
          rintro e w1 ⟨v, rfl, hv0, hv1, hvi, rfl⟩
          obtain ⟨m0, m1⟩ := mulb ha0 ha1 hv0 hv1
          have st1 := Lib.hid (inter_sum (v := v) hv.out.1 hin.out.1 HgY.out)
          have st2 := Lib.hid (inter_inv (Xs := Xs) (i := i) HLX.out hgo hin.out.2 hvi.out hv.out.2)
          go_wp2_with fail
          go_roundw
          case rel => exact ⟨_, i + 1, _, by omega, rfl, rfl, by omega, by omega, hbq, Lib.hid ⟨st1.out, st2.out⟩⟩
          case measure => simp [intOf]; omega
    · have : i = n := by omega
      subst this
      go_wp2_with fail
      go_ret
      refine ⟨_, rfl, hs0, hs1, Lib.hid ?_, hb⟩
      rw [HV.out]
      intro ha f hf hy
      exact hv.out.1.trans (lag_is ha HLX.out (hv.out.2 ha) hf hy x)

end Go.Proofs.Ytfipogmndokhkaa
