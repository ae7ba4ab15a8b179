/- Walks: LabelArrives. -/
import Derived.Test.YteiojobgjdfdpaaSk
import Derived.Test.YteiojobgjdfdpaaSl
import Derived.Test.YteiojobgjdfdpaaSs
import Derived.Test.YteiojobgjdfdpaaSv
import Derived.Test.YteiojobgjdfdpaaRo
import Derived.Test.YteiojobgjdfdpaaRk
namespace Go.Proofs.Yteiojobgjdfdpaa
open Go.RowKit Go.Sort

/-- Whoever takes an arc arrives between both bounds. -/
theorem arrives_step {a : Arc} (ho : a.ok) {lo up now z d : Int} (hlo : IsT lo) (hup : IsT up) (hT : IsT (a.pass true up)) (h1 : lo ≤ now) (h2 : now ≤ up) (hE : EntT a now (now + 1441) z) (hd : a.mm false z ≤ d ∧ d ≤ a.mm true z) : a.pass false lo ≤ z + d ∧ z + d ≤ a.pass true up := by
  have hA := pass_arr (b := true) ho hup
  have hL := pass_arr (b := false) ho hlo
  obtain ⟨u, u1, u2, u3⟩ := hA.at_
  have hz := hE.all u (by omega)
  have hm := (ho.mm true z).1
  have hzl := hE.lo
  have h3 := hL.le z (by omega) (by have := hT.2; omega)
  omega
theorem UsAt.below {B : Nat} {w w' : World} {A : Option Addr} {l : List Nat} (h : UsAt B w A l) (hb : Below B w w') : UsAt B w' A l := fun k hk => by
  obtain ⟨b, off, e, hB, hc, hd⟩ := h k hk
  exact ⟨b, off, e, hB, (hb.cell (p := ⟨b, off + k, none⟩) hB).trans hc, hd⟩
theorem UsAt.more {B B' : Nat} {w : World} {A : Option Addr} {l : List Nat} (h : UsAt B w A l) (hb : B ≤ B') : UsAt B' w A l := fun k hk => by
  obtain ⟨b, off, e, hB, hc⟩ := h k hk
  exact ⟨b, off, e, by omega, hc⟩

set_option maxRecDepth 100000 in
set_option maxHeartbeats 16000000 in
theorem labelArrives_any (n : Int) (l : List Am) (A : Option Addr) (c m : Nat) (p : List Int) (A' : Option Addr) (c' q : Nat) (t : Int) (us : List Nat) (U : Option Addr) (cu k : Nat) (w : World) (hl : l.length = m) (hA : ArcsAt w.heap.size w A l) (hm : m ≤ 9223372036854775807) (hp : p.length = q) (hI : IntsAt w.heap.size w A' p) (hu : us.length = k) (hU : UsAt w.heap.size w U us) :
    Calls Try.prog 8 #[.int .i64 n, .slice A m c, .slice A' q c', .int .i64 t, .slice U k cu] w fun e w' => e = .returned (.bool true) ∧ Below w.heap.size w w' := by
  have HA := Lib.hid (And.intro hl (And.intro hA (And.intro hp (And.intro hI (And.intro hu hU)))))
  clear hl hA hp hI hu hU
  go_enter Try.func8, Try.ntmps8
  go_wp2_with fail
  refine (small12_any _).mono ?_
  rintro e w0 ⟨rfl, b0⟩
  have H0 := Lib.hid (And.intro ((HA.out.2.1.below b0).more b0.size) (And.intro ((HA.out.2.2.2.1.below b0).more b0.size) (And.intro ((HA.out.2.2.2.2.2.below b0).more b0.size) b0)))
  clear b0
  go_wp2_with fail
  refine (few12_any n 0 l A c m w0 HA.out.1 H0.out.1 hm).mono ?_
  rintro e w0' ⟨r, rfl, hFP, rfl⟩
  cases r with
  | false =>
    clear hFP
    go_wp2_with fail
    go_ret
    exact ⟨rfl, H0.out.2.2.2⟩
  | true =>
    have HF := Lib.hid (hFP rfl)
    clear hFP
    by_cases hn0 : 2000 < n
    · go_wp2_with fail
      go_ret
      exact ⟨rfl, H0.out.2.2.2⟩
    by_cases hq12 : 12 < q
    · have h1 : decide (12 < q) = true := decide_eq_true hq12
      have h2 : decide (12 < (q : Int)) = true := decide_eq_true (by omega)
      go_wp2_with fail
      go_ret
      exact ⟨rfl, H0.out.2.2.2⟩
    have h1 : decide (12 < q) = false := decide_eq_false hq12
    have h2 : decide (12 < (q : Int)) = false := decide_eq_false (by omega)
    obtain ⟨x, y, z, hz⟩ : ∃ x y z, spanO l p t = (x, y, z) := ⟨_, _, _, rfl⟩
    have HZ := Lib.hid hz; clear hz
    have HSp := Lib.hid (span_any l A c m p A' c' q t w0 HA.out.1 H0.out.1 HA.out.2.2.1 H0.out.2.1 x y z HZ.out)
    go_wp2_with fail
    refine HSp.out.mono ?_
    rintro e w1 ⟨rfl, b1⟩
    have H1 := Lib.hid (And.intro ((H0.out.1.below b1).more b1.size) (And.intro ((H0.out.2.1.below b1).more b1.size) (And.intro ((H0.out.2.2.1.below b1).more b1.size) (H0.out.2.2.2.trans (b1.mono H0.out.2.2.2.size)))))
    clear b1 HSp
    by_cases hz0 : z = 0
    · subst hz0
      rcases spanO_ok HZ.out with ⟨_, hV, hW, ht, hT, hxe, hye⟩ | ⟨h, _⟩
      · by_cases hq0 : q = 0
        · subst hq0
          have hp0 : p.length = 0 := HA.out.2.2.1
          rw [hp0] at hxe hye
          have hxt : (x == t) = true := by rw [show x = t from hxe]; simp
          have hyt : (y == t) = true := by rw [show y = t from hye]; simp
          clear hV hW ht hT hp0 hxe hye
          go_wp2_with fail
          go_ret
          exact ⟨rfl, H1.out.2.2.2⟩
        · have hq1 : ((q : Int) == 0) = false := by simp; omega
          have hq2 : (q == 0) = false := by simpa using hq0
          have hql : p.length = q := HA.out.2.2.1
          rw [hql] at hxe hye hT
          have HG := Lib.hid (And.intro hV (And.intro hW (And.intro ht (And.intro hT (And.intro hxe hye)))))
          have ht0 := ht.1
          have ht9 := ht.2
          clear hV hW ht hT hxe hye hql
          go_wp2_with fail
          go_loopw [15, 16] (fun nv iv wr => ∃ (i : Nat) (now : Int), nv = .int .i64 now ∧ iv = .int .i64 i ∧ i ≤ q ∧ 0 ≤ now ∧ now ≤ 1048576 ∧ Hid (runW l false t p i ≤ now ∧ now ≤ runW l true t p i) ∧ Hid (Below w1.heap.size w1 wr)) (fun _ iv _ => q - (intOf iv).toNat)
          case atStart => exact ⟨0, t, rfl, rfl, by omega, by omega, by omega, Lib.hid ⟨Int.le_refl _, Int.le_refl _⟩, Lib.hid (Below.refl _ _)⟩
          case round =>
            obtain ⟨i, now, rfl, rfl, hi, hw0, hw9, hI, hB⟩ := hrel
            by_cases hgo : i < q
            · have hA3 := (H1.out.1.below hB.out).more hB.out.size
              obtain ⟨b, off, hAe, hbB, k0⟩ := (H1.out.2.1.below hB.out) i (by have := HA.out.2.2.1; omega)
              subst hAe
              have hix := (HG.out.2.1.2 i (by have := HA.out.2.2.1; omega)).1
              obtain ⟨j, hj⟩ : ∃ j : Nat, p.getD i 0 = (j : Int) := ⟨(p.getD i 0).toNat, by omega⟩
              have e1 : runW l false t p (i + 1) = (am l j).a.pass false (runW l false t p i) := by show (am l (p.getD i 0).toNat).a.pass false _ = _; rw [hj, Int.toNat_natCast]
              have e2 : runW l true t p (i + 1) = (am l j).a.pass true (runW l true t p i) := by show (am l (p.getD i 0).toNat).a.pass true _ = _; rw [hj, Int.toNat_natCast]
              rw [hj] at k0 hix
              have hjl : j < m := by have := HA.out.1; omega
              have hjl2 : j < l.length := by have := HA.out.1; omega
              obtain ⟨g, o, hAe, hg, z0, z1, z2, z3, _, _⟩ := hA3 j hjl2
              subst hAe
              have hok := HG.out.1.2 j hjl2
              have hM3 := hA3.m (Nat.le_refl _) hjl2
              have hT1 := run_time' (show i + 1 ≤ q by omega) HG.out.2.2.2.1
              have hT0 := run_time' (show i ≤ q by omega) HG.out.2.2.2.1
              have hL0 := run_low HG.out.1 HG.out.2.1 HG.out.2.2.1 i (by have := HA.out.2.2.1; omega) hT0
              have hstep := Lib.hid (fun (z d : Int) (hE : EntT (am l j).a now (now + 1441) z) (hd : (am l j).a.mm false z ≤ d ∧ d ≤ (am l j).a.mm true z) => show runW l false t p (i + 1) ≤ z + d ∧ z + d ≤ runW l true t p (i + 1) ∧ z + d ≤ 1048576 from by
                have h := arrives_step hok hL0.1 hT0 (by rw [← e2]; exact hT1) hI.out.1 hI.out.2 hE hd
                rw [e1, e2]
                have h9 := hT1.2
                rw [e2] at h9
                exact ⟨h.1, h.2, by omega⟩)
              obtain ⟨X, hX⟩ : ∃ a, am l j = a := ⟨_, rfl⟩
              rw [hX] at hstep z0 z1 z2 z3 hok hM3
              clear hX e1 e2 hj hT1 hT0 hL0 hix hjl2 hA3
              obtain ⟨⟨f, t2, lo2, hi2⟩, A1, c1, A2, c2⟩ := X
              have hok2 : lo2.length = 24 ∧ hi2.length = 24 := ⟨hok.2.2.1, hok.2.2.2.1⟩
              simp only at z0 z1 z2 z3 hM3
              rw [hok2.1] at z2
              rw [hok2.2] at z3
              have hEn := Lib.hid (fun (W : World) (hb : Below wr.heap.size wr W) => enter_any ⟨f, t2, lo2, hi2⟩ A1 A2 c1 c2 now W (hM3.below hb) hok hw0 hw9)
              have HM := Lib.hid (And.intro hM3 hok)
              clear hM3 hok hok2
              have hB2 := (Below.refl wr.heap.size wr).alloc (Nat.le_refl _) (.cells #[.int .i64 f, .int .i64 t2, .slice A1 24 c1, .slice A2 24 c2] 39)
              have bk := Blk.new wr 39 #[.int .i64 f, .int .i64 t2, .slice A1 24 c1, .slice A2 24 c2]
              have HB2 := Lib.hid (And.intro hB2 bk)
              clear hB2 bk
              go_wp2_with fail
              refine (hEn.out _ HB2.out.1).mono ?_
              rintro e w3 ⟨z, rfl, hE, b3⟩
              have hBw := HB2.out.1.trans (b3.mono HB2.out.1.size)
              have bk3 := HB2.out.2.below b3 HB2.out.2.lt
              have hMw := HM.out.1.below hBw
              have HB3 := Lib.hid (hB.out.trans (hBw.mono hB.out.size))
              have hUs := H1.out.2.2.1.below HB3.out
              obtain ⟨D0, hD0⟩ : ∃ D, wr.heap.size = D := ⟨_, rfl⟩
              rw [hD0] at bk3
              have q2 : w3.cell? ⟨D0, 2, none⟩ = some (.slice A1 24 c1) := bk3.cell 2
              have q3 : w3.cell? ⟨D0, 3, none⟩ = some (.slice A2 24 c2) := bk3.cell 3
              have hzl := hE.out.lo
              have hzh := hE.out.hi
              have lz := hr_lt z
              obtain ⟨g1, o1, hA1, hg1, v1⟩ := hMw.lo.get (k := hr z) (by rw [HM.out.2.2.2.1]; exact lz)
              obtain ⟨g2, o2, hA2, hg2, v2⟩ := hMw.hi.get (k := hr z) (by rw [HM.out.2.2.2.2.1]; exact lz)
              subst hA1; subst hA2
              have m1 : (⟨f, t2, lo2, hi2⟩ : Arc).mm false z = lo2.getD (hr z) 0 := rfl
              have m2 : (⟨f, t2, lo2, hi2⟩ : Arc).mm true z = hi2.getD (hr z) 0 := rfl
              have hlow := HM.out.2.low z
              have hb1 := HM.out.2.mm false z
              have hb2 := HM.out.2.mm true z
              have hst2 := Lib.hid (fun d hd => hstep.out z d hE.out hd)
              rw [m1] at hlow hb1 hst2
              rw [m2] at hlow hb2 hst2
              have v1 : w3.cell? ⟨g1, o1 + hr z, none⟩ = some (.int .i64 (lo2.getD (hr z) 0)) := v1
              have v2 : w3.cell? ⟨g2, o2 + hr z, none⟩ = some (.int .i64 (hi2.getD (hr z) 0)) := v2
              obtain ⟨M1, hM1⟩ : ∃ M, lo2.getD (hr z) 0 = M := ⟨_, rfl⟩
              obtain ⟨M2, hM2⟩ : ∃ M, hi2.getD (hr z) 0 = M := ⟨_, rfl⟩
              rw [hM1] at hlow hb1 hst2 v1
              rw [hM2] at hlow hb2 hst2 v2
              have d2 : z.tdiv 60 = z / 60 := Int.tdiv_eq_ediv_of_nonneg (by omega)
              have f2 : (z / 60).tmod 24 = (hr z : Int) := by rw [Int.tmod_eq_emod_of_nonneg (by omega)]; exact hr_eq (by omega)
              have x2 : 0 ≤ z / 60 ∧ z / 60 ≤ 20000 := by omega
              obtain ⟨p2, hp2⟩ : ∃ p, z / 60 = p := ⟨_, rfl⟩
              obtain ⟨h24, hh24⟩ : ∃ p, hr z = p := ⟨_, rfl⟩
              rw [hp2] at d2 f2 x2
              rw [hh24] at f2 lz v1 v2
              have hcB : Hid (Below w1.heap.size w1 w3) := HB3
              clear hM1 hM2 hp2 hh24 hE b3 hBw bk3 hMw m1 m2 z0 z1 z2 z3 hstep hEn HM HB2 k0
              by_cases hik : i < k
              · obtain ⟨gu, ou, hUe, hgu, ku, hku⟩ := hUs i (by have := HA.out.2.2.2.2.1; omega)
                subst hUe
                obtain ⟨tk, htk⟩ : ∃ tk, us.getD i 0 = tk := ⟨_, rfl⟩
                rw [htk] at ku hku
                obtain ⟨Dn, hDn⟩ : ∃ D : Nat, M2 - M1 = (D : Int) := ⟨(M2 - M1).toNat, by omega⟩
                obtain ⟨R, hR⟩ : ∃ R, tk % (Dn + 1) = R := ⟨_, rfl⟩
                have hRl : R ≤ Dn := by have := Nat.mod_lt tk (show 0 < Dn + 1 by omega); omega
                have s1 : IntKind.i64.wrap (M2 - M1) = (Dn : Int) := by rw [IntKind.wrap_i64]; omega
                have s2 : IntKind.i64.wrap ((Dn : Int) + 1) = (Dn : Int) + 1 := by rw [IntKind.wrap_i64]; omega
                have s3 : ((tk : Nat) : Int).tmod ((Dn : Int) + 1) = (R : Int) := by rw [Int.tmod_eq_emod_of_nonneg (by omega), ← hR]; rfl
                have s4 : IntKind.i64.wrap (M1 + R) = M1 + R := by rw [IntKind.wrap_i64]; omega
                have s5 : IntKind.i64.wrap (tk : Int) = tk := by rw [IntKind.wrap_i64]; omega
                have s6 : IntKind.i64.wrap (R : Int) = R := by rw [IntKind.wrap_i64]; omega
                obtain ⟨y1, y2, y3⟩ := hst2.out (M1 + R) ⟨by omega, by omega⟩
                have HY := Lib.hid (And.intro y1 y2)
                clear hst2 hUs y1 y2 htk hR
                go_upto_region 16 with fail
                go_quiet (fail)
                go_wp2_with fail
                go_roundw
                case rel => exact ⟨i + 1, z + (M1 + R), rfl, rfl, by omega, by omega, by omega, HY, Lib.hid (below_drewN hcB.out _)⟩
                case measure => simp [intOf]; omega
              · obtain ⟨y1, y2, y3⟩ := hst2.out M1 ⟨by omega, by omega⟩
                have HY := Lib.hid (And.intro y1 y2)
                clear hst2 hUs y1 y2
                go_wp2_with fail
                go_roundw
                case rel => exact ⟨i + 1, z + M1, rfl, rfl, by omega, by omega, by omega, HY, hcB⟩
                case measure => simp [intOf]; omega
            · have e : i = q := by omega
              subst e
              have hql : p.length = i := HA.out.2.2.1
              have hB0 := hB.out
              obtain ⟨b, off, hAe, hbB, k0⟩ := (H1.out.2.1.below hB0) 0 (by omega)
              obtain ⟨b', off', hAe', hbB', k9⟩ := (H1.out.2.1.below hB0) (i - 1) (by omega)
              subst hAe
              injection hAe' with hAe'
              injection hAe' with e1 e2 _
              subst e1; subst e2
              have k0 : wr.cell? ⟨b, off, none⟩ = some (.int .i64 (p.getD 0 0)) := k0
              have hx0 := (HG.out.2.1.2 0 (by omega)).1
              have hx9 := (HG.out.2.1.2 (i - 1) (by omega)).1
              obtain ⟨i0, hi0⟩ : ∃ i0 : Nat, p.getD 0 0 = (i0 : Int) := ⟨(p.getD 0 0).toNat, by omega⟩
              obtain ⟨i9, hi9⟩ : ∃ i9 : Nat, p.getD (i - 1) 0 = (i9 : Int) := ⟨(p.getD (i - 1) 0).toNat, by omega⟩
              rw [hi0] at k0 hx0
              rw [hi9] at k9 hx9
              have hl0 : i0 < m := by have := HA.out.1; omega
              have hl9 : i9 < m := by have := HA.out.1; omega
              obtain ⟨g, o, hAg, hg, z0, _⟩ := (H1.out.1.below hB0) i0 (by have := HA.out.1; omega)
              obtain ⟨g', o', hAg', hg', _, z9, _⟩ := (H1.out.1.below hB0) i9 (by have := HA.out.1; omega)
              subst hAg
              injection hAg' with hAg'
              injection hAg' with e1 e2 _
              subst e1; subst e2
              have hT := HG.out.2.2.2.1
              have hLow := run_low HG.out.1 HG.out.2.1 HG.out.2.2.1 i (by omega) hT
              have hnx : x ≤ now := by have h := hI.out.1; rw [← HG.out.2.2.2.2.1] at h; exact h
              have hny : now ≤ y := by have h := hI.out.2; rw [← HG.out.2.2.2.2.2] at h; exact h
              have hwr : IntKind.i64.wrap ((i : Int) - 1) = ((i - 1 : Nat) : Int) := by rw [IntKind.wrap_i64]; omega
              have hwq : (i : Int) - 1 = ((i - 1 : Nat) : Int) := by omega
              obtain ⟨q9, hq9⟩ : ∃ q9, i - 1 = q9 := ⟨_, rfl⟩
              have HQ9 := Lib.hid hq9
              rw [hq9] at k9 hwr hwq hi9
              have hq99 : q9 < i := by omega
              obtain ⟨f0, hf0⟩ : ∃ f0, (am l i0).a.f = f0 := ⟨_, rfl⟩
              rw [hf0] at z0
              obtain ⟨t9, ht9'⟩ : ∃ t9, (am l i9).a.t = t9 := ⟨_, rfl⟩
              rw [ht9'] at z9
              have HFT := Lib.hid (And.intro hf0 (And.intro ht9' (And.intro hi0 hi9)))
              have hm30 : m ≤ 100 := by have h1 := HF.out.1; have h2 := HA.out.1; omega
              have hAr := (H1.out.1.below hB0).more hB0.size
              by_cases hx : RRight n l ∧ (0 ≤ f0 ∧ f0 < n) ∧ IsT t
              · have hR := hx.1
                have hS := hx.2.1
                have hn1 := hR.1
                obtain ⟨n0, rfl⟩ : ∃ n0 : Nat, n = (n0 : Int) := ⟨n.toNat, by omega⟩
                obtain ⟨s0, rfl⟩ : ∃ s0 : Nat, f0 = (s0 : Int) := ⟨f0.toNat, by omega⟩
                have hsn : s0 < n0 := by omega
                have hra9 := hR.2.2.2 i9 (by have := HA.out.1; omega)
                rw [RArc, ht9'] at hra9
                obtain ⟨v, rfl⟩ : ∃ v : Nat, t9 = (v : Int) := ⟨t9.toNat, by have := hra9.1.2.1; omega⟩
                have hvn : v < n0 := by have := hra9.2.2; omega
                have HEl := Lib.hid (earlyL n0 m c _ l s0 t false wr HA.out.1 hAr hR hsn HG.out.2.2.1 hm30)
                have HNB : Hid (∀ e, (netE n0 l false).Fin s0 t e → 0 ≤ (lb e v).1 ∧ (lb e v).1 ≤ x) := Lib.hid (fun e hf => by
                  have h := not_beaten hR hf HG.out.2.1 (by rw [HFT.out.2.2.1, Int.toNat_natCast]; exact HFT.out.1) HG.out.2.2.1 i (by omega) hLow.1
                  rw [if_neg (by omega), HQ9.out, HFT.out.2.2.2, Int.toNat_natCast, HFT.out.2.1, Int.toNat_natCast, ← HG.out.2.2.2.2.1] at h
                  exact h)
                clear hx hR hS hra9 hT hLow hAr hf0 ht9' hi0 hi9 hx0 hx9 hq9 hB0 hql hn1
                go_wp2_with fail
                refine HEl.out.mono ?_
                rintro e w3 ⟨gl, ea, rfl, hE, hF, hLe, hlen, b3⟩
                have HB3 := Lib.hid (hB.out.trans (b3.mono hB.out.size))
                have d0 := (hLe.get hlen hvn).1
                obtain ⟨t1, t2⟩ := HNB.out ea hF
                obtain ⟨T, hT⟩ : ∃ T, (lb ea v).1 = T := ⟨_, rfl⟩
                rw [hT] at d0 t1 t2
                have z9 := (b3.cell (p := ⟨g, o + i9 * 4 + 1, none⟩) (block_lt_of_cell z9)).trans z9
                have k9 := (b3.cell (p := ⟨b, off + q9, none⟩) (block_lt_of_cell k9)).trans k9
                have hTn : T ≤ now := by omega
                clear hE hF hLe hlen b3 hT HEl
                go_wp2_with fail
                go_ret
                exact ⟨rfl, H1.out.2.2.2.trans (HB3.out.mono H1.out.2.2.2.size)⟩
              · have HEB := Lib.hid (early_bad n m c _ l f0 t false wr HA.out.1 hAr hx)
                clear hx hT hLow hAr hf0 ht9' hi0 hi9 hx0 hx9 hq9 hB0 hql
                go_wp2_with fail
                refine HEB.out.mono ?_
                rintro e w3 ⟨rfl, b3⟩
                have HB3 := Lib.hid (hB.out.trans (b3.mono hB.out.size))
                clear b3
                go_wp2_with fail
                go_ret
                exact ⟨rfl, H1.out.2.2.2.trans (HB3.out.mono H1.out.2.2.2.size)⟩
      · exact absurd rfl h
    · have hz2 : (z != 0) = true := by simpa using hz0
      have hz3 : (z == 0) = false := by simpa using hz0
      go_wp2_with fail
      go_ret
      exact ⟨rfl, H1.out.2.2.2⟩

end Go.Proofs.Yteiojobgjdfdpaa
