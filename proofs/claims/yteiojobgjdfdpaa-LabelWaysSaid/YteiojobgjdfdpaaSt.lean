/- Walks: LabelWays. -/
import Derived.Test.YteiojobgjdfdpaaSk
import Derived.Test.YteiojobgjdfdpaaSl
import Derived.Test.YteiojobgjdfdpaaSs
import Derived.Test.YteiojobgjdfdpaaRo
namespace Go.Proofs.Yteiojobgjdfdpaa
open Go.RowKit Go.Sort

set_option maxRecDepth 100000 in
set_option maxHeartbeats 8000000 in
theorem labelWays_any (n : Int) (l : List Am) (A : Option Addr) (c m : Nat) (src t : Int) (p : List Int) (A' : Option Addr) (c' q : Nat) (w : World) (hl : l.length = m) (hA : ArcsAt w.heap.size w A l) (hm : m ≤ 9223372036854775807) (hp : p.length = q) (hI : IntsAt w.heap.size w A' p) :
    Calls Try.prog 9 #[.int .i64 n, .slice A m c, .int .i64 src, .int .i64 t, .slice A' q c'] w fun e w' => e = .returned (.bool true) ∧ Below w.heap.size w w' := by
  have HA := Lib.hid (And.intro hl (And.intro hA (And.intro hp hI)))
  clear hl hA hp hI
  go_enter Try.func9, Try.ntmps9
  go_wp2_with fail
  refine (small12_any _).mono ?_
  rintro e w0 ⟨rfl, b0⟩
  have H0 := Lib.hid (And.intro ((HA.out.2.1.below b0).more b0.size) (And.intro ((HA.out.2.2.2.below b0).more b0.size) b0))
  clear b0
  go_wp2_with fail
  refine (few12_any n 0 l A c m w0 HA.out.1 H0.out.1 hm).mono ?_
  rintro e w0' ⟨r, rfl, hFP, rfl⟩
  cases r with
  | false =>
    clear hFP
    go_wp2_with fail
    go_ret
    exact ⟨rfl, H0.out.2.2⟩
  | true =>
    have HF := Lib.hid (hFP rfl)
    clear hFP
    by_cases hn0 : 2000 < n
    · go_wp2_with fail
      go_ret
      exact ⟨rfl, H0.out.2.2⟩
    by_cases hq12 : 12 < q
    · have h1 : decide (12 < q) = true := decide_eq_true hq12
      have h2 : decide (12 < (q : Int)) = true := decide_eq_true (by omega)
      go_wp2_with fail
      go_ret
      exact ⟨rfl, H0.out.2.2⟩
    have h1 : decide (12 < q) = false := decide_eq_false hq12
    have h2 : decide (12 < (q : Int)) = false := decide_eq_false (by omega)
    by_cases hx : RRight n l ∧ (0 ≤ src ∧ src < n) ∧ IsT t
    · have hR := hx.1
      have hS := hx.2.1
      have hT := hx.2.2
      have hn1 := hR.1
      have hn2 := hR.2.1
      obtain ⟨n0, rfl⟩ : ∃ n0 : Nat, n = (n0 : Int) := ⟨n.toNat, by omega⟩
      obtain ⟨s0, rfl⟩ : ∃ s0 : Nat, src = (s0 : Int) := ⟨src.toNat, by omega⟩
      have hsn : s0 < n0 := by omega
      have HR := Lib.hid (And.intro hR hT)
      have hm30 : m ≤ 100 := by have h1 := HF.out.1; have h2 := HA.out.1; omega
      clear hx hR hS hT hn1
      go_wp2_with fail
      refine (earlyL n0 m c A l s0 t true w0 HA.out.1 H0.out.1 HR.out.1 hsn HR.out.2 hm30).mono ?_
      rintro e w2 ⟨gl, ea, rfl, hE, hF, hLe, hlen, b2⟩
      have H2 := Lib.hid (And.intro ((H0.out.1.below b2).more b2.size) (And.intro ((H0.out.2.1.below b2).more b2.size) (H0.out.2.2.trans (b2.mono H0.out.2.2.size))))
      have HE := Lib.hid (And.intro hF (And.intro hLe hlen))
      clear hE hF hLe hlen b2
      have hn0' : n0 ≤ 2000 := by omega
      go_wp2_with fail
      go_loopw [14] (fun iv wr => ∃ i : Nat, iv = .int .i64 i ∧ i ≤ n0 ∧ Hid (Below w2.heap.size w2 wr)) (fun iv _ => n0 - (intOf iv).toNat)
      case atStart => exact ⟨0, rfl, by omega, Lib.hid (Below.refl _ _)⟩
      case round =>
        obtain ⟨i, rfl, hi, hB⟩ := hrel
        by_cases hgo : i < n0
        · have d0 := ((HE.out.2.1.below hB.out).get HE.out.2.2 hgo).1
          have hL3 := (HE.out.2.1.below hB.out).more hB.out.size
          have hA3 := (H2.out.1.below hB.out).more hB.out.size
          by_cases his : i = s0
          · subst his
            clear d0 hL3 hA3
            go_wp2_with fail
            go_roundw
            case rel => exact ⟨i + 1, rfl, by omega, hB⟩
            case measure => simp [intOf]; omega
          have his2 : ((i : Int) == (s0 : Int)) = false := by simp; omega
          have his3 : (i == s0) = false := by simpa using his
          have HWS := Lib.hid (fun h0 => way_span HR.out.1 HE.out.1 hsn HR.out.2 hgo h0)
          obtain ⟨x, hx⟩ : ∃ x, (lb ea i).1 = x := ⟨_, rfl⟩
          rw [hx] at d0 HWS
          have HX := Lib.hid hx
          clear hx
          by_cases hneg : x < 0
          · clear hL3 hA3
            go_wp2_with fail
            go_roundw
            case rel => exact ⟨i + 1, rfl, by omega, hB⟩
            case measure => simp [intOf]; omega
          obtain ⟨y, hz, hyx⟩ := HWS.out (by omega)
          obtain ⟨Z, hZ⟩ : ∃ Z, wayP ea (ends l) l.length (i : Int) = Z := ⟨_, rfl⟩
          rw [hZ] at hz
          have HWy := Lib.hid (way_any (some ⟨gl, 0, none⟩) A n0 n0 m c ea l (i : Int) wr HE.out.2.2 HA.out.1 hL3 hA3 (by omega) Z (by rw [← hZ, HA.out.1]))
          have HZ := Lib.hid hz
          clear hz hZ hL3 HWS
          have HA3 := Lib.hid hA3
          clear hA3
          go_wp2_with fail
          refine HWy.out.mono ?_
          rintro e w3 ⟨A3, c3, rfl, o3, b3⟩
          obtain ⟨a4, cap4, e4, i3⟩ := o3.ints
          injection e4 with q1 _ q3
          subst q1; subst q3
          have HSp := Lib.hid (span_any l A c m Z A3 c3 Z.length t w3 HA.out.1 ((HA3.out.below b3).more b3.size) rfl i3 y x 0 HZ.out)
          have HB3 := Lib.hid (hB.out.trans (b3.mono hB.out.size))
          clear o3 i3 b3 HWy d0
          go_wp2_with fail
          refine HSp.out.mono ?_
          rintro e w4 ⟨rfl, b4⟩
          have HB4 := Lib.hid (HB3.out.trans (b4.mono HB3.out.size))
          have d0 := ((HE.out.2.1.below HB4.out).get HE.out.2.2 hgo).1
          rw [show (lb ea i).1 = x from HX.out] at d0
          have hxx : (x != x) = false := by simp
          clear b4 HSp
          go_wp2_with fail
          go_roundw
          case rel => exact ⟨i + 1, rfl, by omega, HB4⟩
          case measure => simp [intOf]; omega
        · have e : i = n0 := by omega
          subst e
          obtain ⟨x, y, z, hz⟩ : ∃ x y z, spanO l p t = (x, y, z) := ⟨_, _, _, rfl⟩
          have HSp := Lib.hid (span_any l A c m p A' c' q t wr HA.out.1 ((H2.out.1.below hB.out).more hB.out.size) HA.out.2.2.1 ((H2.out.2.1.below hB.out).more hB.out.size) x y z hz)
          have HZ := Lib.hid hz; clear hz
          go_wp2_with fail
          refine HSp.out.mono ?_
          rintro e w3 ⟨rfl, b3⟩
          have HB3 := Lib.hid (hB.out.trans (b3.mono hB.out.size))
          clear b3 HSp
          by_cases hz0 : z = 0
          · subst hz0
            by_cases hq0 : q = 0
            · subst hq0
              go_wp2_with fail
              go_ret
              exact ⟨rfl, H2.out.2.2.trans (HB3.out.mono H2.out.2.2.size)⟩
            · have hq1 : ((q : Int) == 0) = false := by simp; omega
              have hq2 : (q == 0) = false := by simpa using hq0
              rcases spanO_ok HZ.out with ⟨_, hV, hW, ht, hT, rfl, rfl⟩ | ⟨h, _⟩
              · have hql : p.length = q := HA.out.2.2.1
                have hB0 := HB3.out
                obtain ⟨b, off, hAe, hbB, k0⟩ := (H2.out.2.1.below hB0) 0 (by omega)
                obtain ⟨b', off', hAe', hbB', k9⟩ := (H2.out.2.1.below hB0) (q - 1) (by omega)
                subst hAe
                injection hAe' with hAe'
                injection hAe' with e1 e2 _
                subst e1; subst e2
                have k0 : w3.cell? ⟨b, off, none⟩ = some (.int .i64 (p.getD 0 0)) := k0
                have hx0 := (hW.2 0 (by omega)).1
                have hx9 := (hW.2 (q - 1) (by omega)).1
                obtain ⟨i0, hi0⟩ : ∃ i0 : Nat, p.getD 0 0 = (i0 : Int) := ⟨(p.getD 0 0).toNat, by omega⟩
                obtain ⟨i9, hi9⟩ : ∃ i9 : Nat, p.getD (q - 1) 0 = (i9 : Int) := ⟨(p.getD (q - 1) 0).toNat, by omega⟩
                rw [hi0] at k0 hx0
                rw [hi9] at k9 hx9
                have hl0 : i0 < m := by have := HA.out.1; omega
                have hl9 : i9 < m := by have := HA.out.1; omega
                obtain ⟨g, o, hAg, hg, z0, _⟩ := (H2.out.1.below hB0) i0 (by have := HA.out.1; omega)
                obtain ⟨g', o', hAg', hg', _, z9, _⟩ := (H2.out.1.below hB0) i9 (by have := HA.out.1; omega)
                subst hAg
                injection hAg' with hAg'
                injection hAg' with e1 e2 _
                subst e1; subst e2
                have hra0 := HR.out.1.2.2.2 i0 (by have := HA.out.1; omega)
                have hra9 := HR.out.1.2.2.2 i9 (by have := HA.out.1; omega)
                obtain ⟨u, hu⟩ : ∃ u : Nat, (am l i0).a.f = (u : Int) := ⟨(am l i0).a.f.toNat, by have := hra0.1.1; omega⟩
                obtain ⟨v, hv⟩ : ∃ v : Nat, (am l i9).a.t = (v : Int) := ⟨(am l i9).a.t.toNat, by have := hra9.1.2.1; omega⟩
                have hvn : v < i := by have := hra9.2.2; omega
                have HNB := Lib.hid (fun (hs : (u : Int) = (s0 : Int)) => not_beaten HR.out.1 HE.out.1 hW (by rw [hi0, Int.toNat_natCast, hu]; exact hs) ht p.length (Nat.le_refl _) hT)
                rw [hu] at z0
                rw [hv] at z9
                have d0 := ((HE.out.2.1.below hB0).get HE.out.2.2 hvn).1
                obtain ⟨T, hTv⟩ : ∃ T, (lb ea v).1 = T := ⟨_, rfl⟩
                rw [hTv] at d0
                obtain ⟨y, hy⟩ : ∃ y, runW l true t p p.length = y := ⟨_, rfl⟩
                obtain ⟨x, hx⟩ : ∃ x, runW l false t p p.length = x := ⟨_, rfl⟩
                have HNB2 : Hid ((u : Int) = (s0 : Int) → 0 ≤ T ∧ T ≤ y) := Lib.hid (fun hs => by
                  have h := HNB.out hs
                  rw [if_neg (by omega), hql, hi9, Int.toNat_natCast, hv, Int.toNat_natCast, hTv, ← hql, hy] at h
                  exact h)
                rw [hy, hx]
                have hwr : IntKind.i64.wrap ((q : Int) - 1) = ((q - 1 : Nat) : Int) := by rw [IntKind.wrap_i64]; omega
                have hwq : (q : Int) - 1 = ((q - 1 : Nat) : Int) := by omega
                obtain ⟨q9, hq9⟩ : ∃ q9, q - 1 = q9 := ⟨_, rfl⟩
                rw [hq9] at k9 hwr hwq
                have hq99 : q9 < q := by omega
                clear HNB hW hV ht hT hx hy hTv hu hv hra0 hra9 hi0 hi9 hx0 hx9 hB0 hql hq9
                by_cases hus : u = s0
                · subst hus
                  obtain ⟨t1, t2⟩ := HNB2.out rfl
                  have huu : (u != u) = false := by simp
                  go_wp2_with fail
                  go_ret
                  exact ⟨rfl, H2.out.2.2.trans (HB3.out.mono H2.out.2.2.size)⟩
                · have hus2 : ((u : Int) != (s0 : Int)) = true := by simp; omega
                  have hus3 : (u != s0) = true := by simpa using hus
                  go_wp2_with fail
                  go_ret
                  exact ⟨rfl, H2.out.2.2.trans (HB3.out.mono H2.out.2.2.size)⟩
              · exact absurd rfl h
          · have hz2 : (z != 0) = true := by simpa using hz0
            go_wp2_with fail
            go_ret
            exact ⟨rfl, H2.out.2.2.trans (HB3.out.mono H2.out.2.2.size)⟩
    · have HEB := Lib.hid (early_bad n m c A l src t true w0 HA.out.1 H0.out.1 hx)
      clear hx
      go_wp2_with fail
      refine HEB.out.mono ?_
      rintro e w2 ⟨rfl, b2⟩
      go_wp2_with fail
      go_ret
      exact ⟨rfl, H0.out.2.2.trans (b2.mono H0.out.2.2.size)⟩

end Go.Proofs.Yteiojobgjdfdpaa
