/- Walks: LabelOnly. -/
import Derived.Test.YteiojobgjdfdpaaSk
import Derived.Test.YteiojobgjdfdpaaSl
import Derived.Test.YteiojobgjdfdpaaRd
namespace Go.Proofs.Yteiojobgjdfdpaa
open Go.RowKit Go.Sort

theorem checkO_arg {n : Int} {l : List Am} {src t : Int} {b : Bool} {lab : List Lb} (h : ¬ (RRight n l ∧ (0 ≤ src ∧ src < n) ∧ IsT t)) : checkO n l src t b lab = 1 := by
  unfold checkO; exact if_neg h
theorem checkO_zero {n : Nat} {l : List Am} {src : Nat} {t : Int} {b : Bool} {lab : List Lb} (h : checkO n l src t b lab = 0) : lab.length = n ∧ SoundP l src t b lab ∧ TightP l b lab := by
  unfold checkO at h
  split at h
  · split at h
    · rename_i h2
      split at h
      · rename_i h3
        rw [Int.toNat_natCast] at h3
        exact ⟨by omega, h3⟩
      · cases h
    · cases h
  · cases h
theorem checkO_yes {n : Nat} {l : List Am} {src : Nat} {t : Int} {b : Bool} {lab : List Lb} (hR : RRight n l) (hs : src < n) (ht : IsT t) (hl : lab.length = n) (h : SoundP l src t b lab ∧ TightP l b lab) : checkO n l src t b lab = 0 := by
  unfold checkO
  rw [if_pos ⟨hR, ⟨by omega, by omega⟩, ht⟩, if_pos (by omega), Int.toNat_natCast]
  exact if_pos h

set_option maxRecDepth 100000 in
set_option maxHeartbeats 8000000 in
theorem labelOnly_any (n : Int) (l : List Am) (A : Option Addr) (c m : Nat) (src t : Int) (b : Bool) (lab : List Lb) (L : Option Addr) (c2 k : Nat) (w : World) (hl : l.length = m) (hA : ArcsAt w.heap.size w A l) (hm : m ≤ 9223372036854775807) (hk : lab.length = k) (hL : LbsAt w.heap.size w L lab) :
    Calls Try.prog 7 #[.int .i64 n, .slice A m c, .int .i64 src, .int .i64 t, .bool b, .slice L k c2] w fun e w' => e = .returned (.bool true) ∧ Below w.heap.size w w' := by
  have HA := Lib.hid (And.intro hl (And.intro hA (And.intro hk hL)))
  clear hl hA hk hL
  go_enter Try.func7, Try.ntmps7
  go_wp2_with fail
  refine (small12_any _).mono ?_
  rintro e w0 ⟨rfl, b0⟩
  have H0 := Lib.hid (And.intro ((HA.out.2.1.below b0).more b0.size) (And.intro ((HA.out.2.2.2.below b0).more b0.size) b0))
  clear b0
  go_wp2_with fail
  refine (few12_any n k l A c m w0 HA.out.1 H0.out.1 hm).mono ?_
  rintro e w0' ⟨r, rfl, hFP, rfl⟩
  cases r with
  | false =>
    clear hFP
    go_wp2_with fail
    go_ret
    exact ⟨rfl, H0.out.2.2⟩
  | true =>
    have HF := Lib.hid (hFP rfl)
    clear hFP
    by_cases hn0 : 2000 < n
    · go_wp2_with fail
      go_ret
      exact ⟨rfl, H0.out.2.2⟩
    by_cases hx : RRight n l ∧ (0 ≤ src ∧ src < n) ∧ IsT t
    · have hR := hx.1
      have hS := hx.2.1
      have hT := hx.2.2
      have hn1 := hR.1
      have hn2 := hR.2.1
      obtain ⟨n0, rfl⟩ : ∃ n0 : Nat, n = (n0 : Int) := ⟨n.toNat, by omega⟩
      obtain ⟨s0, rfl⟩ : ∃ s0 : Nat, src = (s0 : Int) := ⟨src.toNat, by omega⟩
      have hsn : s0 < n0 := by omega
      have HR := Lib.hid (And.intro hR hT)
      have hm30 : m ≤ 100 := by have h1 := HF.out.1; have h2 := HA.out.1; omega
      have hk8 : k ≤ 8 := by have h1 := HF.out.2.1; omega
      clear hx hR hS hT hn1
      go_wp2_with fail
      refine (earlyL n0 m c A l s0 t b w0 HA.out.1 H0.out.1 HR.out.1 hsn HR.out.2 hm30).mono ?_
      rintro e w2 ⟨gl, ea, rfl, hE, hF, hLe, hlen, b2⟩
      have H2 := Lib.hid (And.intro ((H0.out.1.below b2).more b2.size) (And.intro ((H0.out.2.1.below b2).more b2.size) (H0.out.2.2.trans (b2.mono H0.out.2.2.size))))
      have HE := Lib.hid (And.intro hF (And.intro hLe hlen))
      clear hE hF hLe hlen b2
      have HC1 := Lib.hid (check_any n0 l A m c s0 t b (some ⟨gl, 0, none⟩) n0 n0 ea w2 HA.out.1 H2.out.1 HE.out.2.2 HE.out.2.1 0 (checkO_yes HR.out.1 hsn HR.out.2 HE.out.2.2 (fin_sound HR.out.1 HE.out.1)))
      go_wp2_with fail
      refine HC1.out.mono ?_
      rintro e w3 ⟨rfl, b3⟩
      have H3 := Lib.hid (And.intro ((H2.out.1.below b3).more b3.size) (And.intro ((H2.out.2.1.below b3).more b3.size) (And.intro (H2.out.2.2.trans (b3.mono H2.out.2.2.size)) ((HE.out.2.1.below b3).more b3.size))))
      clear b3 HC1
      obtain ⟨z, hz⟩ : ∃ z, checkO n0 l s0 t b lab = z := ⟨_, rfl⟩
      have HC2 := Lib.hid (check_any n0 l A m c s0 t b L k c2 lab w3 HA.out.1 H3.out.1 HA.out.2.2.1 H3.out.2.1 z hz)
      have HZ := Lib.hid hz; clear hz
      go_wp2_with fail
      refine HC2.out.mono ?_
      rintro e w4 ⟨rfl, b4⟩
      have H4 := Lib.hid (And.intro ((H3.out.2.1.below b4).more b4.size) (And.intro (H3.out.2.2.1.trans (b4.mono H3.out.2.2.1.size)) ((H3.out.2.2.2.below b4).more b4.size)))
      clear b4 HC2
      by_cases hz0 : z = 0
      · subst hz0
        have hzz := checkO_zero HZ.out
        have hkn : k = n0 := by have := HA.out.2.2.1; omega
        subst hkn
        have HSame := Lib.hid (fun (v : Nat) (hv : v < k) => sound_same HR.out.1 hsn HR.out.2 hzz.2.1 hzz.2.2 hzz.1 HE.out.1 hv)
        clear hzz
        go_wp2_with fail
        go_loopw [16] (fun iv wr => ∃ i : Nat, iv = .int .i64 i ∧ i ≤ k ∧ Hid (Below w4.heap.size w4 wr)) (fun iv _ => k - (intOf iv).toNat)
        case atStart => exact ⟨0, rfl, by omega, Lib.hid (Below.refl _ _)⟩
        case round =>
          obtain ⟨i, rfl, hi, hB⟩ := hrel
          by_cases hgo : i < k
          · have d0 := ((H4.out.2.2.below hB.out).get HE.out.2.2 hgo).1
            obtain ⟨g, off, hLe, hg, k0, _⟩ := (H4.out.1.below hB.out) i (by have := HA.out.2.2.1; omega)
            subst hLe
            have hs := HSame.out i hgo
            rw [hs] at k0
            obtain ⟨x, hx⟩ : ∃ x, (lb ea i).1 = x := ⟨_, rfl⟩
            rw [hx] at d0 k0
            clear hs hx
            have hxx : (x != x) = false := by simp
            go_wp2_with fail
            go_quiet (fail)
            go_wp2_with fail
            go_roundw
            case rel => exact ⟨i + 1, rfl, by omega, Lib.hid (below_drewN hB.out _)⟩
            case measure => simp [intOf]; omega
          · have e : i = k := by omega
            subst e
            go_wp2_with fail
            go_ret
            exact ⟨rfl, H4.out.2.1.trans (hB.out.mono H4.out.2.1.size)⟩
      · have hz2 : (z != 0) = true := by simpa using hz0
        have hz3 : (z == 0) = false := by simpa using hz0
        go_wp2_with fail
        go_ret
        exact ⟨rfl, H4.out.2.1⟩
    · have HEB := Lib.hid (early_bad n m c A l src t b w0 HA.out.1 H0.out.1 hx)
      have HCZ := Lib.hid (checkO_arg (b := b) (lab := lab) hx)
      clear hx
      go_wp2_with fail
      refine HEB.out.mono ?_
      rintro e w2 ⟨rfl, b2⟩
      have H2 := Lib.hid (And.intro ((H0.out.1.below b2).more b2.size) (And.intro ((H0.out.2.1.below b2).more b2.size) (H0.out.2.2.trans (b2.mono H0.out.2.2.size))))
      clear b2 HEB
      have HC := Lib.hid (check_any n l A m c src t b L k c2 lab w2 HA.out.1 H2.out.1 HA.out.2.2.1 H2.out.2.1 1 HCZ.out)
      go_wp2_with fail
      refine HC.out.mono ?_
      rintro e w3 ⟨rfl, b3⟩
      go_wp2_with fail
      go_ret
      exact ⟨rfl, H2.out.2.2.trans (b3.mono H2.out.2.2.size)⟩

end Go.Proofs.Yteiojobgjdfdpaa
