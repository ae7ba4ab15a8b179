/- Walk of the law WirePrefix. -/
import Derived.Test.YtamjfnpgjcdepaaLc
import Derived.Test.YtamjfnpgjcdepaaFx
import Derived.Deep.DeepCutAuto
namespace Go.Proofs.Ytamjfnpgjcdepaa
open Go.RowKit

theorem few_one (B : Nat) (w1 : World) (d : Vd) (hok : d.Ok B w1) (W : World) (hb : Below B w1 W) (hB : B ≤ W.heap.size) (g : Nat) (hg : W.heap[g]? = some (.cells d.parts.toArray 25 (0, 0))) :
    Calls Try.prog 10 #[.slice (some ⟨g, 0, none⟩) 1 1] W fun e w' => e = .returned (.bool (fewB [d])) ∧ Below W.heap.size W w' := by
  have hc : ∀ i, W.cell? ⟨g, i, none⟩ = d.parts.toArray[i]? := fun i => cell_of_row W g i _ 25 (0, 0) hg
  exact few_exact W.heap.size (some ⟨g, 0, none⟩) [d] 1 W (Nat.le_refl _) (by simp)
    (by intro x hx; rw [List.mem_singleton] at hx; subst hx; exact hok.mono hb hB)
    (by intro k hk; have : k = 0 := by simp at hk; omega
        subst this; exact ⟨g, 0, rfl, (Array.getElem?_eq_some_iff.1 hg).1, ⟨hc 0, hc 1, hc 2, hc 3, hc 4⟩⟩)

theorem fewB_one {d : Vd} (h : fewB [d] = true) : d.Few := by
  by_cases hp : FewP [d]
  · exact hp.1.2 d (by simp)
  · rw [fewB_no hp] at h; cases h

theorem encV_prefix {x y : Vd} {B : Nat} {w : World} (hx : x.Fit B w) (hy : y.Fit B w) (hk : x.K % 5 = y.K % 5) {r : List UInt8} (h : encV y = encV x ++ r) : r = [] := by
  have hz : encV y = encV y ++ [] := by rw [List.append_nil]
  have key : encV y ++ [] = encV x ++ r := by rw [List.append_nil]; exact h
  clear h hz
  unfold encV at key
  rw [hk] at key
  split at key
  · have h1 := numP_encInt (numberP_i64 hy.n) numberP_nonneg []
    rw [key, numP_encInt (numberP_i64 hx.n) numberP_nonneg r] at h1
    simp only [Option.some.injEq, Prod.mk.injEq] at h1
    exact h1.2
  · split at key
    · have h1 := intP_enc hy.n []
      rw [key, intP_enc hx.n r] at h1
      simp only [Option.some.injEq, Prod.mk.injEq] at h1
      exact h1.2
    · split at key
      · have h1 : textP (encStr y.S ++ []) = some (bts y.S, []) := textP_enc (by have := hy.s; rw [bts_len]; omega) []
        have h2 : textP (encStr x.S ++ r) = some (bts x.S, r) := textP_enc (by have := hx.s; rw [bts_len]; omega) r
        rw [key, h2] at h1
        simp only [Option.some.injEq, Prod.mk.injEq] at h1
        exact h1.2
      · split at key
        · have h1 := listP_enc y.L (fun z hz r => intP_enc (hy.ls z hz) r) (by have := hy.l; omega) []
          rw [key, listP_enc x.L (fun z hz r => intP_enc (hx.ls z hz) r) (by have := hx.l; omega) r] at h1
          simp only [Option.some.injEq, Prod.mk.injEq] at h1
          exact h1.2
        · have tx : ∀ (d : Vd), d.Fit B w → ∀ r, listP textP (encList (d.T.map encStr) ++ r) = some (d.T.map bts, r) := by
            intro d hd r
            have he : encList (d.T.map encStr) = encList ((d.T.map bts).map encText) := by rw [List.map_map]; rfl
            rw [he]
            exact listP_enc (rd := textP) (enc := encText) (d.T.map bts) (fun z hz r => by
              obtain ⟨u, hu, rfl⟩ := List.mem_map.1 hz
              exact textP_enc (by rw [bts_len]; have := hd.ts u hu; omega) r) (by rw [List.length_map]; have := hd.t; omega) r
          have h1 := tx y hy []
          rw [key, tx x hx r] at h1
          simp only [Option.some.injEq, Prod.mk.injEq] at h1
          exact h1.2

/-- What the first test of WirePrefix leaves. -/
def PreP (v w : Vd) (B : Nat) (w1 : World) (s : Value) (wx : World) : Prop := ∃ c, s = .bool c ∧ (c = false → v.Few ∧ w.Few ∧ v.K % 5 = w.K % 5) ∧ Below B w1 wx

set_option maxHeartbeats 4000000 in
set_option maxRecDepth 100000 in
theorem wirePrefix_any (x y : Vd) (w : World) (hx : x.Ok w.heap.size w) (hy : y.Ok w.heap.size w) :
    Calls Try.prog 7 #[x.val, y.val] w fun e w' => e = .returned (.bool true) ∧ Below w.heap.size w w' := by
  unfold Vd.val
  have hax := x.at_alloc w 25
  have hay := y.at_alloc (w.alloc (.cells x.parts.toArray 25)) 25
  have hB0 : Below w.heap.size w ((w.alloc (.cells x.parts.toArray 25)).alloc (.cells y.parts.toArray 25)) := ((Below.refl _ w).alloc (Nat.le_refl _) _).alloc (by simp) _
  have hax' := hax.below ((Below.refl (w.alloc (.cells x.parts.toArray 25)).heap.size _).alloc (Nat.le_refl _) (.cells y.parts.toArray 25)) (by simp)
  have HX := Lib.hid hx; clear hx
  have HY := Lib.hid hy; clear hy
  have HAX := Lib.hid hax'; clear hax hax'
  have HAY := Lib.hid hay; clear hay
  have HB0 := Lib.hid hB0; clear hB0
  go_enter Try.func7, Try.ntmps7
  go_wp2_with fail
  refine (small_any _).mono ?_
  rintro e w1 ⟨rfl, hb1⟩
  have hbT := HB0.out.trans (hb1.mono (by simp; omega))
  have hs1 : w.heap.size + 2 ≤ w1.heap.size := by have := hb1.size; simp at this; omega
  have hax := HAX.out.below hb1 (by simp; omega)
  have hay : y.At w1 (w.heap.size + 1) 0 := by have := HAY.out.below hb1 (by simp); simpa using this
  have hx := HX.out.mono hbT (by omega : w.heap.size ≤ w1.heap.size)
  have hy := HY.out.mono hbT (by omega : w.heap.size ≤ w1.heap.size)
  have hAX : ∀ W, Below w1.heap.size w1 W → x.At W w.heap.size 0 := fun W h => hax.below h (by omega)
  have hAY : ∀ W, Below w1.heap.size w1 W → y.At W (w.heap.size + 1) 0 := fun W h => hay.below h (by omega)
  obtain ⟨x0, x1, x2, x3, x4⟩ := hax
  obtain ⟨y0, y1, y2, y3, y4⟩ := hay
  clear HAX HAY hb1
  have HAX := Lib.hid hAX; clear hAX
  have HAY := Lib.hid hAY; clear hAY
  have HX1 := Lib.hid hx; clear hx
  have HY1 := Lib.hid hy; clear hy
  have HBT := Lib.hid hbT; clear hbT
  go_upto_region 2 with fail
  go_cut [26] (fun s wx => PreP x y w1.heap.size w1 s wx)
  case first =>
    cases hfx : fewB [x] with
    | false =>
      go_region_with (first
        | (go_at_call 10; refine (few_one w1.heap.size w1 x HX1.out _ (by exact ((Below.refl _ w1).drew.alloc (Nat.le_refl _) _)) (by simp) _ (by exact heap_alloc_new _ _)).mono ?_; rw [hfx]; rintro e w2 ⟨rfl, hb2⟩; have hB2 : Below w1.heap.size w1 w2 := ((Below.refl _ w1).drew.alloc (Nat.le_refl _) _).trans (hb2.mono (by simp)); obtain ⟨p0, p1, p2, p3, p4⟩ := HAX.out _ hB2; obtain ⟨q0, q1, q2, q3, q4⟩ := HAY.out _ hB2))
      all_goals
        go_wp2_with fail
        go_meet
        exact ⟨true, rfl, by simp, by assumption⟩
    | true =>
      cases hfy : fewB [y] with
      | false =>
        go_region_with (first
          | (go_at_call 10; refine (few_one w1.heap.size w1 x HX1.out _ (by exact ((Below.refl _ w1).drew.alloc (Nat.le_refl _) _)) (by simp) _ (by exact heap_alloc_new _ _)).mono ?_; rw [hfx]; rintro e w2 ⟨rfl, hb2⟩; have hB2 : Below w1.heap.size w1 w2 := ((Below.refl _ w1).drew.alloc (Nat.le_refl _) _).trans (hb2.mono (by simp)); obtain ⟨p0, p1, p2, p3, p4⟩ := HAX.out _ hB2; obtain ⟨q0, q1, q2, q3, q4⟩ := HAY.out _ hB2)
          | (go_at_call 10; refine (few_one w1.heap.size w1 y HY1.out _ (by exact (hB2.alloc hB2.size _)) (by have := hB2.size; simp; omega) _ (by exact heap_alloc_new _ _)).mono ?_; rw [hfy]; rintro e w3 ⟨rfl, hb3⟩; have hB3 : Below w1.heap.size w1 w3 := (hB2.alloc hB2.size _).trans (hb3.mono (by have := hB2.size; simp; omega)); obtain ⟨r0, r1, r2, r3, r4⟩ := HAX.out _ hB3; obtain ⟨t0, t1, t2, t3, t4⟩ := HAY.out _ hB3))
        all_goals
          go_wp2_with fail
          go_meet
          exact ⟨true, rfl, by simp, by assumption⟩
      | true =>
        have hFX := fewB_one hfx
        have hFY := fewB_one hfy
        go_region_with (first
          | (go_at_call 10; refine (few_one w1.heap.size w1 x HX1.out _ (by exact ((Below.refl _ w1).drew.alloc (Nat.le_refl _) _)) (by simp) _ (by exact heap_alloc_new _ _)).mono ?_; rw [hfx]; rintro e w2 ⟨rfl, hb2⟩; have hB2 : Below w1.heap.size w1 w2 := ((Below.refl _ w1).drew.alloc (Nat.le_refl _) _).trans (hb2.mono (by simp)); obtain ⟨p0, p1, p2, p3, p4⟩ := HAX.out _ hB2; obtain ⟨q0, q1, q2, q3, q4⟩ := HAY.out _ hB2)
          | (go_at_call 10; refine (few_one w1.heap.size w1 y HY1.out _ (by exact (hB2.alloc hB2.size _)) (by have := hB2.size; simp; omega) _ (by exact heap_alloc_new _ _)).mono ?_; rw [hfy]; rintro e w3 ⟨rfl, hb3⟩; have hB3 : Below w1.heap.size w1 w3 := (hB2.alloc hB2.size _).trans (hb3.mono (by have := hB2.size; simp; omega)); obtain ⟨r0, r1, r2, r3, r4⟩ := HAX.out _ hB3; obtain ⟨t0, t1, t2, t3, t4⟩ := HAY.out _ hB3)
          | (go_at_call_of 23 (Value.agg #[Value.int IntKind.i64 x.K, Value.int IntKind.i64 x.N, Value.string x.S, Value.slice x.aL x.L.length x.cL, Value.slice x.aT x.T.length x.cT]); refine (kind_any x _ rfl _).mono ?_; rintro e w4 ⟨rfl, hb4⟩; have hB4 : Below w1.heap.size w1 w4 := hB3.trans (hb4.mono hB3.size); obtain ⟨u0, u1, u2, u3, u4⟩ := HAY.out _ hB4)
          | (go_at_call_of 23 (Value.agg #[Value.int IntKind.i64 y.K, Value.int IntKind.i64 y.N, Value.string y.S, Value.slice y.aL y.L.length y.cL, Value.slice y.aT y.T.length y.cT]); refine (kind_any y _ rfl _).mono ?_; rintro e w5 ⟨rfl, hb5⟩; have hB5 : Below w1.heap.size w1 w5 := hB4.trans (hb5.mono hB4.size)))
        all_goals
          go_wp2_with fail
          go_meet
          exact ⟨x.K % 5 != y.K % 5, rfl, fun h => ⟨hFX, hFY, by simpa using h⟩, by assumption⟩
  case rest =>
    obtain ⟨c, rfl, hc, hbc⟩ := hcut
    have hsc := hbc.size
    have HBC := Lib.hid (HBT.out.trans (hbc.mono (by omega)))
    cases c with
    | true =>
      go_wp2_with fail
      go_ret
      exact ⟨rfl, HBC.out⟩
    | false =>
      obtain ⟨hFX, hFY, hkk⟩ := hc rfl
      have fx := Vd.Fit.of (HX1.out.mono hbc hsc) hFX
      have fy := Vd.Fit.of (HY1.out.mono hbc hsc) hFY
      have fx' := Vd.Fit.of HX1.out hFX
      have fy' := Vd.Fit.of HY1.out hFY
      obtain ⟨p0, p1, p2, p3, p4⟩ := HAX.out _ hbc
      have hay2 := HAY.out _ hbc
      obtain ⟨q0, q1, q2, q3, q4⟩ := hay2
      have FX := Lib.hid fx; clear fx
      have FY := Lib.hid fy; clear fy
      have FX1 := Lib.hid fx'; clear fx'
      have FY1 := Lib.hid fy'; clear fy'
      have HKK := Lib.hid hkk; clear hkk
      clear hc hFX hFY
      go_wp2_with fail
      refine (write_any x _ FX.out).mono ?_
      rintro e w2 ⟨rfl, hb2⟩
      have hb2' := hbc.trans (hb2.mono hsc)
      obtain ⟨t0, t1, t2, t3, t4⟩ := HAY.out _ hb2'
      have hs2 := hb2'.size
      have FY2 := Lib.hid (FY1.out.mono hb2' hs2)
      clear hb2
      go_wp2_with fail
      refine (write_any y _ FY2.out).mono ?_
      rintro e w3 ⟨rfl, hb3⟩
      have hb3' := hb2'.trans (hb3.mono hs2)
      obtain ⟨u0, u1, u2, u3, u4⟩ := HAY.out _ hb3'
      have hs3 := hb3'.size
      have HB3 := Lib.hid (HBT.out.trans (hb3'.mono (by omega)))
      obtain ⟨S, hS⟩ : ∃ S, ba (encV x) = S := ⟨_, rfl⟩
      obtain ⟨T, hT⟩ : ∃ T, ba (encV y) = T := ⟨_, rfl⟩
      have lS : S.size ≤ 170000 := by rw [← hS, ba_size]; exact encV_len FX.out
      have lT : T.size ≤ 170000 := by rw [← hT, ba_size]; exact encV_len FY.out
      have hpre : S.size ≤ T.size → T.extract 0 S.size = S → S = T := by
        intro h1 h2
        have hy : encV y = bts T := by rw [← hT]; rfl
        have hx : encV x = bts S := by rw [← hS]; rfl
        rw [extract_take] at h2
        have h3 : encV y = encV x ++ (bts T).drop S.size := by
          have e := congrArg bts h2
          rw [bts_ba] at e
          rw [hx, hy, ← e]
          exact (List.take_append_drop _ _).symm
        have h4 := encV_prefix FX.out FY.out HKK.out h3
        rw [h4, List.append_nil] at h3
        rw [← hS, ← hT, h3]
      rw [hS, hT]
      have HPRE := Lib.hid hpre; clear hpre
      have HS := Lib.hid hS; clear hS
      have HT := Lib.hid hT; clear hT
      clear hb3
      rcases Nat.lt_or_ge T.size S.size with hgt | hle
      · go_wp2_with fail
        go_ret
        exact ⟨rfl, HB3.out⟩
      · by_cases hE : T.extract 0 S.size = S
        · have hST := HPRE.out hle hE
          subst hST
          have b0 : (!(S.extract 0 S.size).toList == S.toList) = false := by rw [hE]; simp
          clear hE HPRE
          go_wp2_with fail
          refine (open_any _ _).mono ?_
          rintro e w4 ⟨rfl, hr4, hb4⟩
          have hb4' := hb3'.trans (hb4.mono hs3)
          obtain ⟨z0, z1, z2, z3, z4⟩ := HAY.out _ hb4'
          have hs4 := hb4'.size
          have hB4 := HBT.out.trans (hb4'.mono (by omega))
          have FY4 := Lib.hid ((Vd.Fit.mono FY1.out hb4' (Nat.le_refl _)))
          obtain ⟨rb, hrb⟩ : ∃ rb, w3.heap.size = rb := ⟨_, rfl⟩
          rw [hrb] at hr4 hs3 ⊢
          have hr4' : Rd w4 rb (ba (encV y ++ [])) false := by rw [List.append_nil, HT.out]; exact hr4
          have HR4 := Lib.hid hr4'
          have hyl : (encV y ++ []).length ≤ 10000000 := by rw [List.append_nil]; exact Nat.le_trans (encV_len FY.out) (by omega)
          have HYL := Lib.hid hyl
          have HB4 := Lib.hid hB4
          clear hrb hr4 hr4' hyl hB4 hb4
          go_wp2_with fail
          refine (equal_any y w1.heap.size rb hs3 [] _ FY4.out HR4.out HYL.out).mono ?_
          rintro e w5 ⟨rfl, hr5, hk5⟩
          have hk6 : Below w.heap.size w4 w5 := hk5.below (by omega) (by omega)
          have HK6 := Lib.hid hk6
          clear hr5 hk5 hk6
          go_wp2_with fail
          go_ret
          exact ⟨rfl, HB4.out.trans HK6.out⟩
        · have b0 : (!(T.extract 0 S.size).toList == S.toList) = true := by
            rw [Bool.not_eq_true', beq_eq_false_iff_ne]
            intro h
            apply hE
            rw [ByteArray.toList_eq, ByteArray.toList_eq] at h
            exact ByteArray.ext (Array.ext' h)
          clear hE HPRE
          go_wp2_with fail
          go_ret
          exact ⟨rfl, HB3.out⟩

end Go.Proofs.Ytamjfnpgjcdepaa
