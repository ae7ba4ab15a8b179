/- Walks: Floor of a right fraction. Plain: the documented examples of fractions. Floor as a rational number's. No more program than that. Walks: the laws' head: the documented examples of fractions. Printed by a program (fsmall.py). Boxes of the laws of fractions. Printed by a program (lcommon.py). Walk of subtract. Lines of fractions; walks of eliminate's closure and of IndexFunc. -/
import Derived.Test.YtlbjaimgoiimgaaXaj
import Derived.Test.YtlbjaimgoiimgaaXaq
import Derived.Deep.RegionHeld3

namespace Go.Proofs.Ytlbjaimgoiimgaa
open Go.RowKit

end Go.Proofs.Ytlbjaimgoiimgaa

namespace Go.Proofs.Ytlbjaimgoiimgaa
open Go.RowKit

theorem itoa_d {n : Nat} (h : n < 10) : Lib.itoa (n : Int) = [UInt8.ofNat (48 + n)] := by
  unfold Lib.itoa
  rw [if_neg (by omega), show (n : Int).toNat = n by omega]
  exact dd_lt h
theorem itoa_m {n : Nat} (h0 : 0 < n) (h : n < 10) : Lib.itoa (-(n : Int)) = [45, UInt8.ofNat (48 + n)] := by
  unfold Lib.itoa
  rw [if_pos (by omega), show (-(n : Int)).natAbs = n by omega]
  rw [dd_lt h]
theorem tx32 : byt (Lib.itoa (-3) ++ [47] ++ Lib.itoa 2) = ⟨#[45, 51, 47, 50]⟩ := by
  rw [show (-3 : Int) = -((3 : Nat) : Int) from rfl, itoa_m (by decide) (by decide), show (2 : Int) = ((2 : Nat) : Int) from rfl, itoa_d (by decide)]; rfl
theorem tx01 : byt (Lib.itoa 0 ++ [47] ++ Lib.itoa 1) = ⟨#[48, 47, 49]⟩ := by
  rw [show (0 : Int) = ((0 : Nat) : Int) from rfl, itoa_d (by decide), show (1 : Int) = ((1 : Nat) : Int) from rfl, itoa_d (by decide)]; rfl
theorem tx56 : byt (Lib.itoa 5 ++ [47] ++ Lib.itoa 6) = ⟨#[53, 47, 54]⟩ := by
  rw [show (5 : Int) = ((5 : Nat) : Int) from rfl, itoa_d (by decide), show (6 : Int) = ((6 : Nat) : Int) from rfl, itoa_d (by decide)]; rfl
theorem tx16 : byt (Lib.itoa 1 ++ [47] ++ Lib.itoa 6) = ⟨#[49, 47, 54]⟩ := by
  rw [show (1 : Int) = ((1 : Nat) : Int) from rfl, itoa_d (by decide), show (6 : Int) = ((6 : Nat) : Int) from rfl, itoa_d (by decide)]; rfl
theorem tx3p2 : byt (Lib.itoa 3 ++ [47] ++ Lib.itoa 2) = ⟨#[51, 47, 50]⟩ := by
  rw [show (3 : Int) = ((3 : Nat) : Int) from rfl, itoa_d (by decide), show (2 : Int) = ((2 : Nat) : Int) from rfl, itoa_d (by decide)]; rfl
theorem ftx32 : bts ⟨#[45, 51, 47, 50]⟩ = ftx (Rat.divInt (-3) 2) := by
  have h : ftx (Rat.divInt (-3) 2) = Lib.itoa (-3) ++ [47] ++ Lib.itoa 2 := by
    unfold ftx
    rw [show (Rat.divInt (-3) 2).num = -3 from rfl, show (((Rat.divInt (-3) 2).den : Nat) : Int) = 2 from rfl]
    simp
  rw [h, ← bts_byt (Lib.itoa (-3) ++ [47] ++ Lib.itoa 2), tx32]
theorem no24 (x : Rat) : bts ⟨#[50, 47, 52]⟩ ≠ ftx x := by
  intro h
  have h1 : bts ⟨#[50, 47, 52]⟩ = [50] ++ 47 :: [52] := rfl
  have h2 := cut47 (a := [50]) (by decide) [52]
  rw [← h1, h, ftx_cut] at h2
  simp only [Prod.mk.injEq, and_true] at h2
  have e1 := itoa_inj (h2.1.trans (itoa_d (n := 2) (by decide)).symm)
  have e2 := itoa_inj (h2.2.trans (itoa_d (n := 4) (by decide)).symm)
  have h3 := (FR.of x)
  have h4 := FR.one h3
  rw [e1, e2] at h4
  exact absurd h4 (by decide)
theorem rb_lit (p q : Int) (h : q ≠ 0) (h1 : ab p < 1048576) (h2 : ab q < 1048576) : Rb (Rat.divInt p q) 1 1 := ⟨num_lt h (by rw [pw_one]; exact h1), den_lt h (by rw [pw_one]; exact h2)⟩
theorem Rb.mono {x : Rat} {k m k' m' : Nat} (h : Rb x k m) (h1 : k ≤ k') (h2 : m ≤ m') : Rb x k' m' :=
  ⟨by have := h.n; have := pw_le h1; omega, by have := h.d; have := pw_le h2; omega⟩
theorem rb60 (p q : Int) (h : q ≠ 0) (h1 : ab p < 1048576) (h2 : ab q < 1048576) : Rb (Rat.divInt p q) 60 60 := (rb_lit p q h h1 h2).mono (by decide) (by decide)
theorem ab_small {z : Int} (h : -1000 < z ∧ z < 1000) : ab z < 1048576 := by unfold ab; omega

/-- Of with 0 below. -/
theorem rof0 (p : Int) (w : World) (hp : isI p) : Calls Try.prog 45 #[.int .i64 p, .int .i64 0] w fun e w' => ∃ r, e = .returned (.tuple #[r, .int .i64 15]) ∧ FO w' w.heap.size r 0 0 ∧ Below w.heap.size w w' := by
  refine (fof_any p 0 w hp ⟨by decide, by decide⟩).mono ?_
  rintro e w' ⟨r, rfl, hr, hb⟩
  exact ⟨r, rfl, hr, hb⟩

end Go.Proofs.Ytlbjaimgoiimgaa

namespace Go.Proofs.Ytlbjaimgoiimgaa
open Go.RowKit

end Go.Proofs.Ytlbjaimgoiimgaa

namespace Go.Proofs.Ytlbjaimgoiimgaa
open Go.RowKit

section
variable {W W' w b b' : World} {g B : Nat} {s1 s2 s3 t1 t2 t3 : Int} {l1 l2 l3 k1 k2 k3 : List Int} {A1 A2 A3 B1 B2 B3 : Option Addr} {n1 d1 n2 d2 n3 d3 m1 e1 m2 e2 m3 e3 : Nat}
theorem afb1 (h1 : Ar w s1 l1 A1 n1 d1) (g1 : Ar w t1 k1 B1 m1 e1) :
    ∃ W, W = w.alloc (.cells #[.int .i64 s1, .slice A1 n1 d1, .int .i64 t1, .slice B1 m1 e1] 40) ∧ Below w.heap.size w W ∧ Af W (w.heap.size) s1 l1 A1 n1 d1 t1 k1 B1 m1 e1 := by
  have hb1 : Below w.heap.size w (w.alloc (.cells #[.int .i64 s1, .slice A1 n1 d1, .int .i64 t1, .slice B1 m1 e1] 40)) := (Below.refl _ _).alloc (Nat.le_refl _) _
  have j1 := Blk.new w 40 #[.int .i64 s1, .slice A1 n1 d1, .int .i64 t1, .slice B1 m1 e1]
  exact ⟨_, rfl, hb1, ⟨j1, h1.later hb1, g1.later hb1⟩⟩
theorem afb2 (h1 : Ar w s1 l1 A1 n1 d1) (g1 : Ar w t1 k1 B1 m1 e1) (h2 : Ar w s2 l2 A2 n2 d2) (g2 : Ar w t2 k2 B2 m2 e2) :
    ∃ W, W = (w.alloc (.cells #[.int .i64 s1, .slice A1 n1 d1, .int .i64 t1, .slice B1 m1 e1] 40)).alloc (.cells #[.int .i64 s2, .slice A2 n2 d2, .int .i64 t2, .slice B2 m2 e2] 40) ∧ Below w.heap.size w W ∧ Af W (w.heap.size) s1 l1 A1 n1 d1 t1 k1 B1 m1 e1 ∧ Af W (w.heap.size + 1) s2 l2 A2 n2 d2 t2 k2 B2 m2 e2 := by
  have hb1 : Below w.heap.size w (w.alloc (.cells #[.int .i64 s1, .slice A1 n1 d1, .int .i64 t1, .slice B1 m1 e1] 40)) := (Below.refl _ _).alloc (Nat.le_refl _) _
  have hb2 := hb1.alloc hb1.size (.cells #[.int .i64 s2, .slice A2 n2 d2, .int .i64 t2, .slice B2 m2 e2] 40)
  have j1 := Blk.new w 40 #[.int .i64 s1, .slice A1 n1 d1, .int .i64 t1, .slice B1 m1 e1]
  have j2 := Blk.new (w.alloc (.cells #[.int .i64 s1, .slice A1 n1 d1, .int .i64 t1, .slice B1 m1 e1] 40)) 40 #[.int .i64 s2, .slice A2 n2 d2, .int .i64 t2, .slice B2 m2 e2]
  simp only [World.size_alloc] at j2
  exact ⟨_, rfl, hb2, ⟨(j1.alloc _), h1.later hb2, g1.later hb2⟩, ⟨j2, h2.later hb2, g2.later hb2⟩⟩
theorem afb3 (h1 : Ar w s1 l1 A1 n1 d1) (g1 : Ar w t1 k1 B1 m1 e1) (h2 : Ar w s2 l2 A2 n2 d2) (g2 : Ar w t2 k2 B2 m2 e2) (h3 : Ar w s3 l3 A3 n3 d3) (g3 : Ar w t3 k3 B3 m3 e3) :
    ∃ W, W = ((w.alloc (.cells #[.int .i64 s1, .slice A1 n1 d1, .int .i64 t1, .slice B1 m1 e1] 40)).alloc (.cells #[.int .i64 s2, .slice A2 n2 d2, .int .i64 t2, .slice B2 m2 e2] 40)).alloc (.cells #[.int .i64 s3, .slice A3 n3 d3, .int .i64 t3, .slice B3 m3 e3] 40) ∧ Below w.heap.size w W ∧ Af W (w.heap.size) s1 l1 A1 n1 d1 t1 k1 B1 m1 e1 ∧ Af W (w.heap.size + 1) s2 l2 A2 n2 d2 t2 k2 B2 m2 e2 ∧ Af W (w.heap.size + 1 + 1) s3 l3 A3 n3 d3 t3 k3 B3 m3 e3 := by
  have hb1 : Below w.heap.size w (w.alloc (.cells #[.int .i64 s1, .slice A1 n1 d1, .int .i64 t1, .slice B1 m1 e1] 40)) := (Below.refl _ _).alloc (Nat.le_refl _) _
  have hb2 := hb1.alloc hb1.size (.cells #[.int .i64 s2, .slice A2 n2 d2, .int .i64 t2, .slice B2 m2 e2] 40)
  have hb3 := hb2.alloc hb2.size (.cells #[.int .i64 s3, .slice A3 n3 d3, .int .i64 t3, .slice B3 m3 e3] 40)
  have j1 := Blk.new w 40 #[.int .i64 s1, .slice A1 n1 d1, .int .i64 t1, .slice B1 m1 e1]
  have j2 := Blk.new (w.alloc (.cells #[.int .i64 s1, .slice A1 n1 d1, .int .i64 t1, .slice B1 m1 e1] 40)) 40 #[.int .i64 s2, .slice A2 n2 d2, .int .i64 t2, .slice B2 m2 e2]
  have j3 := Blk.new ((w.alloc (.cells #[.int .i64 s1, .slice A1 n1 d1, .int .i64 t1, .slice B1 m1 e1] 40)).alloc (.cells #[.int .i64 s2, .slice A2 n2 d2, .int .i64 t2, .slice B2 m2 e2] 40)) 40 #[.int .i64 s3, .slice A3 n3 d3, .int .i64 t3, .slice B3 m3 e3]
  simp only [World.size_alloc] at j2 j3
  exact ⟨_, rfl, hb3, ⟨((j1.alloc _).alloc _), h1.later hb3, g1.later hb3⟩, ⟨(j2.alloc _), h2.later hb3, g2.later hb3⟩, ⟨j3, h3.later hb3, g3.later hb3⟩⟩
theorem blk_run4 {a0 a1 a2 a3 : Value} (h : Below (b.alloc (.cells #[a0, a1, a2, a3] 40)).heap.size (b.alloc (.cells #[a0, a1, a2, a3] 40)) b') : Blk b' b.heap.size 40 #[a0, a1, a2, a3] := (Blk.new b 40 _).below h (by simp)
variable {p q : Int}
theorem fbox_new (h : FO b B (.agg #[.int .i64 s1, .slice A1 n1 d1, .int .i64 s2, .slice A2 n2 d2]) p q) : Bf 40 (b.alloc (.cells #[.int .i64 s1, .slice A1 n1 d1, .int .i64 s2, .slice A2 n2 d2] 40)) b.heap.size s1 A1 n1 d1 s2 A2 n2 d2 p q := by
  obtain ⟨W, hW, _, k⟩ := fbox h
  rw [← hW]
  exact k
theorem fbox_st {u0 u1 u2 u3 : Value} (hk : Blk b g 40 #[u0, u1, u2, u3]) (h : FO b B (.agg #[.int .i64 s1, .slice A1 n1 d1, .int .i64 s2, .slice A2 n2 d2]) p q) (hg : g < B) :
    Bf 40 ((((b.setCell ⟨g, 0, none⟩ (.int .i64 s1)).setCell ⟨g, 1, none⟩ (.slice A1 n1 d1)).setCell ⟨g, 2, none⟩ (.int .i64 s2)).setCell ⟨g, 3, none⟩ (.slice A2 n2 d2)) g s1 A1 n1 d1 s2 A2 n2 d2 p q := by
  obtain ⟨s1', A1', n1', c1', s2', A2', n2', c2', e, h1, h2⟩ := h
  injection e with e
  have e0 := congrArg (fun (a : Array Value) => a[0]?) e
  have e1 := congrArg (fun (a : Array Value) => a[1]?) e
  have e2 := congrArg (fun (a : Array Value) => a[2]?) e
  have e3 := congrArg (fun (a : Array Value) => a[3]?) e
  simp at e0 e1 e2 e3
  obtain ⟨rfl, rfl, rfl⟩ := e1
  obtain ⟨rfl, rfl, rfl⟩ := e3
  subst e0 e2
  exact Bf.put hk h1.bv h2.bv (h1.nb hg) (h2.nb hg)
theorem rb_int {z : Int} (h : ab z < pw 60) : Rb (z : Rat) 60 60 := ⟨h, lt60 (show ab (1 : Int) < 1208925819614629174706176 by decide)⟩
theorem divInt_1 (z : Int) : Rat.divInt z 1 = (z : Rat) := by
  apply Rat.ext <;> simp [Rat.num_divInt, Rat.den_divInt]
/-- New of an integer and 1. -/
theorem rnew1 {z : Int} {r : Value} (w : World) (h1 : BV w w.heap.size (.agg #[.int .i64 s1, .slice A1 n1 d1]) z) (h2 : BV w w.heap.size r 1) (hz : ab z < pw 60) :
    Calls Try.prog 54 #[.agg #[.int .i64 s1, .slice A1 n1 d1], r] w (RetF (z : Rat) w) := by
  obtain ⟨A, c, rfl, x1, x2, x3⟩ := h2
  have := rnew w h1 ⟨A, c, rfl, x1, x2, x3⟩ hz (lt60 (by decide)) (by decide)
  rw [divInt_1] at this
  exact this
end

end Go.Proofs.Ytlbjaimgoiimgaa

namespace Go.Proofs.Ytlbjaimgoiimgaa
open Go.RowKit

theorem FA.own2 {S : Nat → Prop} {w : World} {B N : Nat} {f : Fc} {x : Rat} (h : FO w B f.v x.num x.den) (hS : ∀ b, S b → b < N) (hN : N ≤ B) (rb : Rb x 60 60) : FA S w f x := FA.own h (fun b hb => Nat.lt_of_lt_of_le (hS b hb) hN) rb
theorem fa_new {S : Nat → Prop} {w : World} {B N : Nat} {f : Fc} {x : Rat} (h : FO w B f.v x.num x.den) (hS : ∀ b, S b → b < N) (hN : N ≤ B) (rb : Rb x 60 60) (o : Obj) : FA S (w.alloc o) f x := (FA.own2 h hS hN rb).below ((Below.refl _ _).alloc (Nat.le_refl _) _)
theorem fa_st {S : Nat → Prop} {b : World} {B N g : Nat} {f : Fc} {x : Rat} {u0 u1 u2 u3 : Value} (hk : Blk b g 40 #[u0, u1, u2, u3]) (h : FO b B f.v x.num x.den) (hg : g < B) (hS : ∀ b, S b → b < N) (hN : N ≤ B) (rb : Rb x 60 60) :
    FA S ((((b.setCell ⟨g, 0, none⟩ (.int .i64 f.s)).setCell ⟨g, 1, none⟩ (.slice f.A f.n f.c)).setCell ⟨g, 2, none⟩ (.int .i64 f.s')).setCell ⟨g, 3, none⟩ (.slice f.A' f.n' f.c')) f x :=
  ⟨(fbox_st hk h hg).fv, rb, (FA.own2 h hS hN rb).o1, (FA.own2 h hS hN rb).o2⟩

def subF (y : Rat) (zs : List Rat) (i : Nat) (x : Rat) : Option Rat := (oMul y (zs.getD i 0)).bind (oSub x)
theorem subL_eq (y : Rat) (zs xs : List Rat) : subL y zs xs = mapO (subF y zs) 0 xs := rfl
theorem oMul_yes {x y : Rat} (h : okMul x y) : oMul x y = some (x * y) := if_pos h
theorem oMul_no {x y : Rat} (h : ¬ okMul x y) : oMul x y = none := if_neg h
theorem oSub_yes {x y : Rat} (h : okSub x y) : oSub x y = some (x - y) := if_pos h
theorem oSub_no {x y : Rat} (h : ¬ okSub x y) : oSub x y = none := if_neg h
theorem subF_zero {y x : Rat} {zs : List Rat} {i : Nat} (hy : Rb y 60 60) (hx : Rb x 60 60) (h : zs.getD i 0 = 0) : subF y zs i x = some x := by
  unfold subF
  rw [h, oMul_zero hy, Option.bind_some, oSub_zero hx]
theorem subF_mul {y x a : Rat} {zs : List Rat} {i : Nat} (h : zs.getD i 0 = a) (hm : ¬ okMul y a) : subF y zs i x = none := by
  unfold subF
  rw [h, oMul_no hm, Option.bind_none]
theorem subF_sub {y x a : Rat} {zs : List Rat} {i : Nat} (h : zs.getD i 0 = a) (hm : okMul y a) (hs : ¬ okSub x (y * a)) : subF y zs i x = none := by
  unfold subF
  rw [h, oMul_yes hm, Option.bind_some, oSub_no hs]
theorem subF_yes {y x a : Rat} {zs : List Rat} {i : Nat} (h : zs.getD i 0 = a) (hm : okMul y a) (hs : okSub x (y * a)) : subF y zs i x = some (x - y * a) := by
  unfold subF
  rw [h, oMul_yes hm, Option.bind_some, oSub_yes hs]

/-- What a loop over a line has, at the place i. -/
structure SubI (S : Nat → Prop) (w wr : World) (g h G n : Nat) (f : Fc) (y : Rat) (ps : List Fc) (zs xs ys : List Rat) (fs' : List Fc) (i : Nat) : Prop where
  hn' : fs'.length = n
  L : Line S wr g fs' (ys ++ xs.drop i)
  P : Line S wr h ps zs
  hy : FA S wr f y
  kf : Blk wr G 40 #[.int .i64 f.s, .slice f.A f.n f.c, .int .i64 f.s', .slice f.A' f.n' f.c']
  hp : Part (subF y zs) xs ys i
  fr : Fr (· = g) w wr
section
variable {S : Nat → Prop} {w wr wq : World} {g h G n i : Nat} {f : Fc} {y : Rat} {ps fs' : List Fc} {zs xs ys : List Rat}
theorem SubI.below (hI : SubI S w wr g h G n f y ps zs xs ys fs' i) (hb : Below wr.heap.size wr wq) : SubI S w wq g h G n f y ps zs xs ys fs' i :=
  ⟨hI.hn', hI.L.below hb, hI.P.below hb, hI.hy.below hb, hI.kf.below hb hI.kf.lt, hI.hp, fr_one hI.fr hb⟩
theorem SubI.skip (hI : SubI S w wr g h G n f y ps zs xs ys fs' i) (hi : i < xs.length) (hx : Rb (xs.getD i 0) 60 60) (h0 : zs.getD i 0 = 0) : SubI S w wr g h G n f y ps zs xs (ys ++ [xs.getD i 0]) fs' (i + 1) :=
  ⟨hI.hn', by rw [Part.keep hi]; exact hI.L, hI.P, hI.hy, hI.kf, hI.hp.step hi (subF_zero hI.hy.rb hx h0), hI.fr⟩
theorem SubI.put (hI : SubI S w wr g h G n f y ps zs xs ys fs' i) (hi : i < xs.length) (hin : i < n) (hG : G ≠ g) (hh : h ≠ g) {q : Fc} {z : Rat} (hq : FA S wr q z) (hz : subF y zs i (xs.getD i 0) = some z) :
    ∃ V, V = (((wr.setCell ⟨g, i * 4, none⟩ (.int .i64 q.s)).setCell ⟨g, i * 4 + 1, none⟩ (.slice q.A q.n q.c)).setCell ⟨g, i * 4 + 2, none⟩ (.int .i64 q.s')).setCell ⟨g, i * 4 + 3, none⟩ (.slice q.A' q.n' q.c') ∧
      SubI S w V g h G n f y ps zs xs (ys ++ [z]) (fs'.set i q) (i + 1) := by
  obtain ⟨V, hV, hLV, hFV, hsV, hoV⟩ := hI.L.store (k := i) (by rw [hI.hn']; exact hin) hq
  refine ⟨V, hV, ⟨by rw [List.length_set]; exact hI.hn', ?_, hI.P.far hFV (hoV h hh), hI.hy.fr hFV, (hoV G hG).trans hI.kf, hI.hp.step hi hz, hI.fr.tr ⟨hFV.1, hFV.2.1, hFV.2.2.1, hFV.size, fun b _ hb => hoV b hb⟩⟩⟩
  rw [hI.hp.set_ hi] at hLV
  exact hLV
end

set_option maxRecDepth 100000 in
set_option maxHeartbeats 16000000 in
theorem lsubtract_any {S : Nat → Prop} {w : World} {g h n cap cap' : Nat} {fs ps : List Fc} {xs zs : List Rat} {f : Fc} {y : Rat} (hL : Line S w g fs xs) (hn : fs.length = n) (hP : Line S w h ps zs) (hpn : ps.length = n) (hgh : h ≠ g) (hm : n ≤ 1000) (hy : FA S w f y) (hS : ∀ b, S b → b < w.heap.size) :
    Calls Try.prog 60 #[.slice (some ⟨g, 0, none⟩) n cap, .slice (some ⟨h, 0, none⟩) n cap', f.v] w fun e w' =>
      Fr (· = g) w w' ∧ ((∃ ys fs', subL y zs xs = some ys ∧ e = .returned (.int .i64 0) ∧ fs'.length = n ∧ Line S w' g fs' ys) ∨ (subL y zs xs = none ∧ e = .returned (.int .i64 6))) := by
  have HS := Lib.hid hS; clear hS
  have HX := Lib.hid (hL.2.1.symm.trans hn)
  have HSg := Lib.hid hL.1
  have HPN := Lib.hid hpn; clear hpn
  obtain ⟨s5, A5, n5, c5, s6, A6, n6, c6⟩ := f
  go_enter Try.func60, Try.ntmps60
  go_wp2_with fail
  have hb0 : Below w.heap.size w (w.alloc (.cells #[.int .i64 s5, .slice A5 n5 c5, .int .i64 s6, .slice A6 n6 c6] 40)) := (Below.refl _ _).alloc (Nat.le_refl _) _
  have kf := Blk.new w 40 #[.int .i64 s5, .slice A5 n5 c5, .int .i64 s6, .slice A6 n6 c6]
  have hG : w.heap.size ≠ g := by have := HS.out g HSg.out; omega
  obtain ⟨G, hGe⟩ : ∃ G, w.heap.size = G := ⟨_, rfl⟩
  have hst : SubI S w (w.alloc (.cells #[.int .i64 s5, .slice A5 n5 c5, .int .i64 s6, .slice A6 n6 c6] 40)) g h G n ⟨s5, A5, n5, c5, s6, A6, n6, c6⟩ y ps zs xs [] fs 0 :=
    ⟨hn, hL.below hb0, hP.below hb0, hy.below hb0, by rw [← hGe]; exact kf, Part.start _ _, Fr.of_below hb0⟩
  rw [hGe] at hG ⊢
  have hsG : ∀ b, S b → b < G := by rw [← hGe]; exact HS.out
  have HSG := Lib.hid hsG; clear hsG
  generalize w.alloc (.cells #[.int .i64 s5, .slice A5 n5 c5, .int .i64 s6, .slice A6 n6 c6] 40) = W at *
  have HST := Lib.hid hst
  clear hb0 hGe kf hL hP hy hst
  go_loopw [14] (fun iv wr => ∃ (i : Nat) (ys : List Rat) (fs' : List Fc), i ≤ n ∧ iv = .int .i64 i ∧ Hid (SubI S w wr g h G n ⟨s5, A5, n5, c5, s6, A6, n6, c6⟩ y ps zs xs ys fs' i)) (fun iv _ => n - (intOf iv).toNat)
  case atStart => exact ⟨0, [], fs, Nat.zero_le _, rfl, HST⟩
  case round =>
    obtain ⟨i, ys, fs', hi, rfl, hI⟩ := hrel
    clear HST
    by_cases hgo : i < n
    · have HXN := HX.out
      obtain ⟨c0, c1, c2, c3, ha⟩ := hI.out.P.cells (k := i) (by rw [HPN.out]; exact hgo)
      have hgh' := hI.out.P.lt
      obtain ⟨a, hae⟩ : ∃ a, ps.getD i fnil = a := ⟨_, rfl⟩
      rw [hae] at c0 c1 c2 c3 ha
      clear hae
      obtain ⟨s1, A1, n1, d1, s2, A2, n2, d2⟩ := a
      obtain ⟨z, hze⟩ : ∃ z, zs.getD i 0 = z := ⟨_, rfl⟩
      rw [hze] at ha
      have HZE := Lib.hid hze; clear hze
      simp only at c0 c1 c2 c3
      have hx := (hI.out.L.cells (k := i) (by rw [hI.out.hn']; exact hgo)).2.2.2.2
      rw [hI.out.hp.now] at hx
      have HRX := Lib.hid hx.rb
      clear hx
      have hbA : Below wr.heap.size wr (wr.alloc (.cells #[.int .i64 s1, .slice A1 n1 d1, .int .i64 s2, .slice A2 n2 d2] 40)) := (Below.refl _ _).alloc (Nat.le_refl _) _
      have hIA := Lib.hid (hI.out.below hbA)
      have haA := ha.below hbA
      have kaA := Blk.new wr 40 #[.int .i64 s1, .slice A1 n1 d1, .int .i64 s2, .slice A2 n2 d2]
      clear ha hI
      go_wp2_with fail
      clear c0 c1 c2 c3 hgh'
      obtain ⟨Ga, hGa⟩ : ∃ G, wr.heap.size = G := ⟨_, rfl⟩
      rw [hGa] at kaA ⊢
      generalize wr.alloc (.cells #[.int .i64 s1, .slice A1 n1 d1, .int .i64 s2, .slice A2 n2 d2] 40) = W1 at *
      clear hGa hbA
      by_cases hz : z = 0
      · (with_reducible refine (isZero_any haA true (decide_eq_true hz)).mono ?_)
        rintro e u1 ⟨rfl, hb1⟩
        have hI1 := Lib.hid ((hIA.out.below hb1).skip (by omega) HRX.out (HZE.out.trans hz))
        clear haA kaA hIA
        go_wp2_with fail
        go_roundw
        case rel => exact ⟨i + 1, _, fs', by omega, rfl, hI1⟩
        case measure => simp [intOf]; omega
      · (with_reducible refine (isZero_any haA false (decide_eq_false hz)).mono ?_)
        rintro e u1 ⟨rfl, hb1⟩
        have hI1 := Lib.hid (hIA.out.below hb1)
        have ha1 := haA.below hb1
        have ka1 := kaA.below hb1 kaA.lt
        clear haA kaA hIA
        have a0 := ka1.cell 0
        have a1 := ka1.cell 1
        have a2 := ka1.cell 2
        have a3 := ka1.cell 3
        have q0 := hI1.out.kf.cell 0
        have q1 := hI1.out.kf.cell 1
        have q2 := hI1.out.kf.cell 2
        have q3 := hI1.out.kf.cell 3
        simp at a0 a1 a2 a3 q0 q1 q2 q3
        go_wp2_with fail
        clear a0 a1 a2 a3 q0 q1 q2 q3
        by_cases hom : okMul y z
        · (with_reducible refine (fmul_y hI1.out.hy ha1 hom).mono ?_)
          rintro e u2 ⟨⟨t1, B1, m1, e1, t2, B2, m2, e2⟩, rfl, ho, rb, hb2⟩
          have hpp : FA S u2 ⟨t1, B1, m1, e1, t2, B2, m2, e2⟩ (y * z) := FA.own ho (fun b hb => Nat.lt_trans (HSG.out b hb) hI1.out.kf.lt) rb
          have hI2 := hI1.out.below hb2
          clear ho rb hI1 ha1 ka1
          have hbB : Below u2.heap.size u2 (u2.alloc (.cells #[.int .i64 t1, .slice B1 m1 e1, .int .i64 t2, .slice B2 m2 e2] 40)) := (Below.refl _ _).alloc (Nat.le_refl _) _
          have kP := Blk.new u2 40 #[.int .i64 t1, .slice B1 m1 e1, .int .i64 t2, .slice B2 m2 e2]
          have hI3 := Lib.hid (hI2.below hbB)
          have hp3 := hpp.below hbB
          obtain ⟨b0, b1, b2, b3, hx3⟩ := hI3.out.L.cells (k := i) (by rw [hI3.out.hn']; exact hgo)
          rw [hI3.out.hp.now] at hx3
          clear hI2 hpp
          go_upto_region 8 with fail
          obtain ⟨GP, hGP⟩ : ∃ G, u2.heap.size = G := ⟨_, rfl⟩
          rw [hGP] at kP ⊢
          generalize u2.alloc (.cells #[.int .i64 t1, .slice B1 m1 e1, .int .i64 t2, .slice B2 m2 e2] 40) = W3 at *
          clear hGP hbB
          obtain ⟨x, hxe⟩ : ∃ x, xs.getD i 0 = x := ⟨_, rfl⟩
          rw [hxe] at hx3
          have HXE := Lib.hid hxe; clear hxe
          obtain ⟨q, hqe⟩ : ∃ q, fs'.getD i fnil = q := ⟨_, rfl⟩
          rw [hqe] at b0 b1 b2 b3 hx3
          clear hqe
          obtain ⟨s3, A3, n3, d3, s4, A4, n4, d4⟩ := q
          simp only at b0 b1 b2 b3
          have hgl := hI3.out.L.lt
          have e0 : ∀ W' : World, Below W3.heap.size W3 W' → W'.cell? ⟨g, i * 4, none⟩ = some (.int .i64 s3) ∧ W'.cell? ⟨g, i * 4 + 1, none⟩ = some (.slice A3 n3 d3) ∧ W'.cell? ⟨g, i * 4 + 2, none⟩ = some (.int .i64 s4) ∧ W'.cell? ⟨g, i * 4 + 3, none⟩ = some (.slice A4 n4 d4) ∧ W'.cell? ⟨GP, 0, none⟩ = some (.int .i64 t1) ∧ W'.cell? ⟨GP, 1, none⟩ = some (.slice B1 m1 e1) ∧ W'.cell? ⟨GP, 2, none⟩ = some (.int .i64 t2) ∧ W'.cell? ⟨GP, 3, none⟩ = some (.slice B2 m2 e2) ∧ Below W3.heap.size W3 W' := fun W' hW =>
            ⟨(hW.cell (p := ⟨g, _, none⟩) hgl).trans b0, (hW.cell (p := ⟨g, _, none⟩) hgl).trans b1, (hW.cell (p := ⟨g, _, none⟩) hgl).trans b2, (hW.cell (p := ⟨g, _, none⟩) hgl).trans b3, (kP.below hW kP.lt).cell 0, (kP.below hW kP.lt).cell 1, (kP.below hW kP.lt).cell 2, (kP.below hW kP.lt).cell 3, hW⟩
          have E0 := Lib.hid e0; clear e0
          have hB00 : Below W3.heap.size W3 W3.drew := (Below.refl _ _).drew
          by_cases hos : okSub x (y * z)
          · have HSB := Lib.hid (fun (W' : World) (hb : Below W3.heap.size W3 W') => fsub_y (hx3.below hb) (hp3.below hb) hos)
            have HSW := Lib.hid (fun b (hb : S b) => Nat.lt_trans (HSG.out b hb) hI3.out.kf.lt)
            clear hx3 hp3 kP b0 b1 b2 b3
            go_cut [11, 10] from 30 to 38 (fun p e wx => ∃ (G5 : Nat) (r1 : Int) (C1 : Option Addr) (k1 l1 : Nat) (r2 : Int) (C2 : Option Addr) (k2 l2 : Nat), p = .pointer (some ⟨G5, 0, none⟩) ∧ e = .int .i64 0 ∧ Blk wx G5 40 #[.int .i64 r1, .slice C1 k1 l1, .int .i64 r2, .slice C2 k2 l2] ∧ FA S wx ⟨r1, C1, k1, l1, r2, C2, k2, l2⟩ (x - y * z) ∧ Below W3.heap.size W3 wx)
            case first =>
              go_region_held3 (fun W' => W'.cell? ⟨g, i * 4, none⟩ = some (.int .i64 s3) ∧ W'.cell? ⟨g, i * 4 + 1, none⟩ = some (.slice A3 n3 d3) ∧ W'.cell? ⟨g, i * 4 + 2, none⟩ = some (.int .i64 s4) ∧ W'.cell? ⟨g, i * 4 + 3, none⟩ = some (.slice A4 n4 d4) ∧ W'.cell? ⟨GP, 0, none⟩ = some (.int .i64 t1) ∧ W'.cell? ⟨GP, 1, none⟩ = some (.slice B1 m1 e1) ∧ W'.cell? ⟨GP, 2, none⟩ = some (.int .i64 t2) ∧ W'.cell? ⟨GP, 3, none⟩ = some (.slice B2 m2 e2) ∧ Below W3.heap.size W3 W')
                (first | exact E0.out _ (below_st4 hB4 (Nat.le_refl _) _ _ _ _) | exact E0.out _ (below_new hB4 _) | exact E0.out _ (below_new hB00 _) | exact E0.out _ (by assumption) | exact E0.out _ ⟨rfl, rfl, rfl, Nat.le_refl _, fun _ _ => rfl⟩)
                (first
                  | (go_at_call 30; (first | refine (HSB.out _ hB00).mono ?_ | refine (HSB.out _ (below_new hB00 _)).mono ?_); rintro e w4 ⟨⟨r1, C1, k1, l1, r2, C2, k2, l2⟩, rfl, hro, hrb, hb4⟩; have hB4 : Below W3.heap.size W3 w4 := (by first | exact ⟨hb4.os, hb4.tape, hb4.output, hb4.size, hb4.block⟩ | exact (below_new hB00 _).trans (hb4.mono (below_new hB00 _).size)); (try (have hk4 : Blk w4 W3.heap.size 40 #[.int .i64 0, .slice none 0 0, .int .i64 0, .slice none 0 0] := blk_run4 (b := W3.drew) hb4; have hlt4 := hk4.lt; have z0 := hk4.cell 0; have z1 := hk4.cell 1; have z2 := hk4.cell 2; have z3 := hk4.cell 3; have y0 := hk4.frozen 0; have y1 := hk4.frozen 1; have y2 := hk4.frozen 2; have y3 := hk4.frozen 3))))
              all_goals
                go_wp2_with fail
                go_meet
                first
                  | exact ⟨_, r1, C1, k1, l1, r2, C2, k2, l2, rfl, rfl, hk4.set4 _ _ _ _, fa_st (f := ⟨r1, C1, k1, l1, r2, C2, k2, l2⟩) hk4 hro (by simp) HSW.out (by first | exact hB00.size | exact (below_new hB00 _).size) hrb, below_st4 hB4 (Nat.le_refl _) _ _ _ _⟩
                  | exact ⟨_, r1, C1, k1, l1, r2, C2, k2, l2, rfl, rfl, Blk.new _ _ _, fa_new (f := ⟨r1, C1, k1, l1, r2, C2, k2, l2⟩) hro HSW.out (by first | exact hB00.size | exact (below_new hB00 _).size) hrb _, below_new hB4 _⟩
            obtain ⟨G5, r1, C1, k1, l1, r2, C2, k2, l2, rfl, rfl, k5, hq5, hb5⟩ := hcut
            clear E0 hB00 HSB
            have hI5 := hI3.out.below hb5
            have hxz : subF y zs i (xs.getD i 0) = some (x - y * z) := by rw [HXE.out]; exact subF_yes HZE.out hom hos
            obtain ⟨V, hV, hIV⟩ := hI5.put (by omega) hgo hG hgh hq5 hxz
            simp only at hV
            obtain ⟨b0, b1, b2, b3, _⟩ := hI5.L.cells (k := i) (by rw [hI5.hn']; exact hgo)
            have z0 := hI5.L.frozen (i * 4)
            have z1 := hI5.L.frozen (i * 4 + 1)
            have z2 := hI5.L.frozen (i * 4 + 2)
            have z3 := hI5.L.frozen (i * 4 + 3)
            have x0 := k5.cell 0
            have x1 := k5.cell 1
            have x2 := k5.cell 2
            have x3 := k5.cell 3
            simp at x0 x1 x2 x3
            have HIV := Lib.hid hIV; clear hIV
            clear hI5 hI3 k5 hq5 hxz
            go_wp2_with fail
            rw [← hV]
            go_roundw
            case rel => exact ⟨i + 1, _, _, by omega, rfl, HIV⟩
            case measure => simp [intOf]; omega
          · have HSB := Lib.hid (fun (W' : World) (hb : Below W3.heap.size W3 W') => fsub_n (hx3.below hb) (hp3.below hb) hos)
            have hfl := Lib.hid (hI3.out.hp.fail (by omega) (by rw [HXE.out]; exact subF_sub HZE.out hom hos))
            have hfB := Lib.hid hI3.out.fr
            clear hx3 hp3 kP b0 b1 b2 b3
            go_cut [11, 10] from 30 to 38 (fun p e wx => e = .int .i64 6 ∧ Below W3.heap.size W3 wx)
            case first =>
              go_region_held3 (fun W' => W'.cell? ⟨g, i * 4, none⟩ = some (.int .i64 s3) ∧ W'.cell? ⟨g, i * 4 + 1, none⟩ = some (.slice A3 n3 d3) ∧ W'.cell? ⟨g, i * 4 + 2, none⟩ = some (.int .i64 s4) ∧ W'.cell? ⟨g, i * 4 + 3, none⟩ = some (.slice A4 n4 d4) ∧ W'.cell? ⟨GP, 0, none⟩ = some (.int .i64 t1) ∧ W'.cell? ⟨GP, 1, none⟩ = some (.slice B1 m1 e1) ∧ W'.cell? ⟨GP, 2, none⟩ = some (.int .i64 t2) ∧ W'.cell? ⟨GP, 3, none⟩ = some (.slice B2 m2 e2) ∧ Below W3.heap.size W3 W')
                (first | exact E0.out _ (below_st4 hB4 (Nat.le_refl _) _ _ _ _) | exact E0.out _ (below_new hB4 _) | exact E0.out _ (below_new hB00 _) | exact E0.out _ (by assumption) | exact E0.out _ ⟨rfl, rfl, rfl, Nat.le_refl _, fun _ _ => rfl⟩)
                (first
                  | (go_at_call 30; (first | refine (HSB.out _ hB00).mono ?_ | refine (HSB.out _ (below_new hB00 _)).mono ?_); rintro e w4 ⟨rfl, hb4⟩; have hB4 : Below W3.heap.size W3 w4 := (by first | exact ⟨hb4.os, hb4.tape, hb4.output, hb4.size, hb4.block⟩ | exact (below_new hB00 _).trans (hb4.mono (below_new hB00 _).size)); (try (have hk4 : Blk w4 W3.heap.size 40 #[.int .i64 0, .slice none 0 0, .int .i64 0, .slice none 0 0] := blk_run4 (b := W3.drew) hb4; have hlt4 := hk4.lt; have z0 := hk4.cell 0; have z1 := hk4.cell 1; have z2 := hk4.cell 2; have z3 := hk4.cell 3; have y0 := hk4.frozen 0; have y1 := hk4.frozen 1; have y2 := hk4.frozen 2; have y3 := hk4.frozen 3))))
              all_goals
                go_wp2_with fail
                go_meet
                first
                  | exact ⟨rfl, below_st4 hB4 (Nat.le_refl _) _ _ _ _⟩
                  | exact ⟨rfl, below_new hB4 _⟩
            obtain ⟨rfl, hb5⟩ := hcut
            clear E0 hB00 HSB
            go_wp2_with fail
            go_ret
            exact ⟨fr_one hfB.out hb5, .inr ⟨hfl.out, rfl⟩⟩
        · (with_reducible refine (fmul_n hI1.out.hy ha1 hom).mono ?_)
          rintro e u2 ⟨⟨t1, B1, m1, e1, t2, B2, m2, e2⟩, rfl, hb2⟩
          have hfl := Lib.hid (hI1.out.hp.fail (by omega) (subF_mul HZE.out hom))
          have hfB := fr_one hI1.out.fr hb2
          clear hI1 ha1 ka1
          go_wp2_with fail
          go_ret
          exact ⟨fr_one hfB ((Below.refl _ _).alloc (Nat.le_refl _) _), .inr ⟨hfl.out, rfl⟩⟩
    · have : i = n := by omega
      subst this
      go_wp2_with fail
      go_ret
      have he := hI.out.hp
      have hx := HX.out
      have hL' := hI.out.L
      have hnn := hI.out.hn'
      have hff := hI.out.fr
      subst hx
      rw [List.drop_length, List.append_nil] at hL'
      exact ⟨hff, .inl ⟨ys, fs', he.done, rfl, hnn, hL'⟩⟩

end Go.Proofs.Ytlbjaimgoiimgaa

namespace Go.Proofs.Ytlbjaimgoiimgaa
open Go.RowKit

/-- The cell of a line: where it lies. -/
abbrev lcell (n : Nat) (p : Nat × Nat) : Value := .slice (some ⟨p.1, 0, none⟩) n p.2
/-- Lines that the call owns: block L holds them, each of n fractions, in a block of its own. -/
structure Lines (S : Nat → Prop) (w : World) (L n : Nat) (gs : List (Nat × Nat)) (X : List (List Rat)) : Prop where
  top : S L
  len : gs.length = X.length
  blk : Blk w L 23 (gs.map (lcell n)).toArray
  line : ∀ k, k < gs.length → ∃ fs, fs.length = n ∧ Line S w (gs.getD k (0, 0)).1 fs (X.getD k [])
  one : ∀ j k, j < gs.length → k < gs.length → j ≠ k → (gs.getD j (0, 0)).1 ≠ (gs.getD k (0, 0)).1
  far : ∀ k, k < gs.length → (gs.getD k (0, 0)).1 ≠ L
section
variable {S : Nat → Prop} {w w' : World} {L n : Nat} {gs : List (Nat × Nat)} {X : List (List Rat)}
theorem Lines.below (h : Lines S w L n gs X) (hb : Below w.heap.size w w') : Lines S w' L n gs X :=
  ⟨h.top, h.len, h.blk.below hb h.blk.lt, fun k hk => by
    obtain ⟨fs, h1, h2⟩ := h.line k hk
    exact ⟨fs, h1, h2.below hb⟩, h.one, h.far⟩
theorem Lines.cell (h : Lines S w L n gs X) {k : Nat} (hk : k < gs.length) : w.cell? ⟨L, k, none⟩ = some (.slice (some ⟨(gs.getD k (0, 0)).1, 0, none⟩) n (gs.getD k (0, 0)).2) := by
  rw [h.blk.cell k]
  simp [List.getD_eq_getElem?_getD, List.getElem?_eq_getElem hk]
end

set_option maxRecDepth 100000 in
set_option maxHeartbeats 4000000 in
theorem pivot_any {S : Nat → Prop} {w : World} {g n cap c G : Nat} {fs : List Fc} {xs : List Rat} (hL : Line S w g fs xs) (hn : fs.length = n) (hc : c < n) (hG : w.cell? ⟨G, 0, none⟩ = some (.int .i64 c)) (b : Bool) (hb : decide (xs.getD c 0 ≠ 0) = b) :
    Calls Try.prog 57 #[.slice (some ⟨g, 0, none⟩) n cap, .pointer (some ⟨G, 0, none⟩)] w fun e w' => e = .returned (.bool b) ∧ Below w.heap.size w w' := by
  have hb' : decide (xs.getD c 0 = 0) = !b := by rw [← hb]; simp
  clear hb
  obtain ⟨c0, c1, c2, c3, hx⟩ := hL.cells (k := c) (by omega)
  obtain ⟨a, hae⟩ : ∃ a, fs.getD c fnil = a := ⟨_, rfl⟩
  rw [hae] at c0 c1 c2 c3 hx
  clear hae
  obtain ⟨s1, A1, n1, d1, s2, A2, n2, d2⟩ := a
  simp only at c0 c1 c2 c3
  clear hL
  go_enter Try.func57, Try.ntmps57
  go_wp2_with fail
  (with_reducible refine (isZero_any hx (!b) hb').mono ?_)
  rintro e u1 ⟨rfl, hb1⟩
  cases b with
  | true =>
    go_wp2_with fail
    go_ret
    exact ⟨rfl, hb1⟩
  | false =>
    go_wp2_with fail
    go_ret
    exact ⟨rfl, hb1⟩

set_option maxRecDepth 100000 in
set_option maxHeartbeats 4000000 in
theorem indexFunc_any {S : Nat → Prop} {w : World} {L n cap c G N r m : Nat} {gs : List (Nat × Nat)} {X : List (List Rat)} (hX : Lines S w L n gs X) (hN : gs.length = N) (hm : r + m = N) (hNm : N ≤ 1000) (hc : c < n) (hG : w.cell? ⟨G, 0, none⟩ = some (.int .i64 c)) (hGl : G < w.heap.size) :
    Calls Try.prog 56 #[.slice (some ⟨L, r, none⟩) m cap, .func (.func 57) #[] #[.pointer (some ⟨G, 0, none⟩)]] w fun e w' => Below w.heap.size w w' ∧
      ((e = .returned (.int .i64 (-1)) ∧ ∀ j, j < m → (X.getD (r + j) []).getD c 0 = 0) ∨ (∃ j : Nat, e = .returned (.int .i64 j) ∧ j < m ∧ (X.getD (r + j) []).getD c 0 ≠ 0 ∧ ∀ i, i < j → (X.getD (r + i) []).getD c 0 = 0)) := by
  have HX := Lib.hid hX; clear hX
  have HN := Lib.hid hN; clear hN
  go_enter Try.func56, Try.ntmps56
  go_wp2_with fail
  go_loopw [8] (fun iv wr => ∃ i : Nat, i ≤ m ∧ iv = .int .i64 i ∧ Below w.heap.size w wr ∧ Hid (∀ j, j < i → (X.getD (r + j) []).getD c 0 = 0)) (fun iv _ => m - (intOf iv).toNat)
  case atStart => exact ⟨0, Nat.zero_le _, rfl, Below.refl _ _, Lib.hid fun j hj => by omega⟩
  case round =>
    obtain ⟨i, hi, rfl, hb, hz⟩ := hrel
    by_cases hgo : i < m
    · have hXr := HX.out.below hb
      have hk : r + i < gs.length := by rw [HN.out]; omega
      have hcl := hXr.cell hk
      obtain ⟨fs, hfs, hLn⟩ := hXr.line _ hk
      have hlt := hXr.blk.lt
      have hGr : wr.cell? ⟨G, 0, none⟩ = some (.int .i64 c) := (hb.cell (p := ⟨G, 0, none⟩) hGl).trans hG
      have HL := Lib.hid hLn; clear hLn
      obtain ⟨p, hp⟩ : ∃ p, gs.getD (r + i) (0, 0) = p := ⟨_, rfl⟩
      rw [hp] at hcl HL
      obtain ⟨g1, cp1⟩ := p
      simp only at hcl HL
      clear hp hXr hk
      go_wp2_with fail
      cases hbv : decide ((X.getD (r + i) []).getD c 0 ≠ 0) with
      | true =>
        (with_reducible refine (pivot_any HL.out hfs hc hGr true hbv).mono ?_)
        rintro e w1 ⟨rfl, hb1⟩
        have hbb := hb.trans (hb1.mono hb.size)
        have hne := Lib.hid (of_decide_eq_true hbv)
        clear HL hGr hcl hbv
        go_wp2_with fail
        go_ret
        exact ⟨hbb, .inr ⟨i, rfl, hgo, hne.out, hz.out⟩⟩
      | false =>
        (with_reducible refine (pivot_any HL.out hfs hc hGr false hbv).mono ?_)
        rintro e w1 ⟨rfl, hb1⟩
        have hbb := hb.trans (hb1.mono hb.size)
        have hne := Lib.hid (Classical.not_not.1 (of_decide_eq_false hbv))
        clear HL hGr hcl hbv
        go_wp2_with fail
        go_roundw
        case rel => exact ⟨i + 1, by omega, rfl, hbb, Lib.hid fun j hj => by
          by_cases hji : j < i
          · exact hz.out j hji
          · have : j = i := by omega
            subst this
            exact hne.out⟩
        case measure => simp [intOf]; omega
    · have : i = m := by omega
      subst this
      have hz' := Lib.hid hz.out
      go_wp2_with fail
      go_ret
      exact ⟨hb, .inl ⟨rfl, hz'.out⟩⟩

end Go.Proofs.Ytlbjaimgoiimgaa
