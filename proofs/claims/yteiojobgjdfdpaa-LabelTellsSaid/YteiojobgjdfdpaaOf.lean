/- Walks: the reference's Check; LabelTells. -/
import Derived.Test.YteiojobgjdfdpaaOe
import Derived.Test.YteiojobgjdfdpaaSk
import Derived.Test.YteiojobgjdfdpaaSl
namespace Go.Proofs.Yteiojobgjdfdpaa
open Go.RowKit Go.Sort

set_option maxRecDepth 100000 in
set_option maxHeartbeats 8000000 in
theorem checkr_any (n : Int) (l : List Am) (A : Option Addr) (m c : Nat) (src t : Int) (b : Bool) (L : Option Addr) (k c2 : Nat) (lab : List Lb) (w : World) (hl : l.length = m) (hA : ArcsAt w.heap.size w A l) (hk : lab.length = k) (hL : LbsAt w.heap.size w L lab) (z : Int) (hz : checkO n l src t b lab = z) :
    Calls Try.prog 31 #[.int .i64 n, .slice A m c, .int .i64 src, .int .i64 t, .bool b, .slice L k c2] w fun e w' => e = .returned (.int .i64 z) ∧ Below w.heap.size w w' := by
  obtain ⟨r1, hr1⟩ : ∃ r : Bool, r = true ↔ RRight n l := ⟨Classical.propDecidable (RRight n l) |> fun d => @decide _ d, by simp⟩
  obtain ⟨r3, hr3⟩ : ∃ r, decide (IsT t) = r := ⟨_, rfl⟩
  have HA := Lib.hid (And.intro hl (And.intro hA (And.intro hk hL)))
  have HRr := Lib.hid (fun w' h => rrr_any n l A c m w' hl h r1 hr1)
  have HTt := Lib.hid (fun w => r12Time_any t w r3 hr3.symm)
  have HZ := Lib.hid (And.intro hz (And.intro hr1 hr3))
  have hout : ¬ (r1 = true ∧ (0 ≤ src ∧ src < n) ∧ r3 = true) → z = 1 := fun h => by
    rw [← hz]; unfold checkO
    exact if_neg (fun hh => h ⟨hr1.2 hh.1, hh.2.1, by rw [← hr3]; exact decide_eq_true hh.2.2⟩)
  have HOUT := Lib.hid hout
  clear hl hA hk hL hz hr1 hr3 hout
  go_enter Try.func31, Try.ntmps31
  go_wp2_with fail
  refine (HRr.out w HA.out.2.1).mono ?_
  rintro e w1 ⟨rfl, hb1⟩
  have HB1 := Lib.hid hb1; clear hb1
  cases r1 with
  | false =>
    obtain rfl := HOUT.out (by simp)
    go_wp2_with fail
    go_ret
    exact ⟨by rfl, HB1.out⟩
  | true =>
    by_cases hs0 : src < 0
    · obtain rfl := HOUT.out (fun h => by have := h.2.1.1; omega)
      go_wp2_with fail
      go_ret
      exact ⟨by rfl, HB1.out⟩
    by_cases hs1 : n ≤ src
    · obtain rfl := HOUT.out (fun h => by have := h.2.1.2; omega)
      go_wp2_with fail
      go_ret
      exact ⟨by rfl, HB1.out⟩
    go_wp2_with fail
    refine (HTt.out w1).mono ?_
    rintro e w2 ⟨rfl, rfl⟩
    cases r3 with
    | false =>
      obtain rfl := HOUT.out (by simp)
      go_wp2_with fail
      go_ret
      exact ⟨by rfl, HB1.out⟩
    | true =>
      have hR : RRight n l := HZ.out.2.1.1 (by simp)
      have hT : IsT t := of_decide_eq_true HZ.out.2.2
      have hn0 := hR.1
      have hn1 := hR.2.1
      obtain ⟨n0, rfl⟩ : ∃ n0 : Nat, n = (n0 : Int) := ⟨n.toNat, by omega⟩
      obtain ⟨s0, rfl⟩ : ∃ s0 : Nat, src = (s0 : Int) := ⟨src.toNat, by omega⟩
      have hin : z = if (lab.length : Int) = (n0 : Int) then (open Classical in if SoundP l s0 t b lab ∧ TightP l b lab then 0 else 23) else 2 := by
        rw [← HZ.out.1]; unfold checkO
        rw [if_pos ⟨hR, ⟨by omega, by omega⟩, hT⟩, Int.toNat_natCast]
      have HR := Lib.hid hR
      have hsn : s0 < n0 := by omega
      clear hR hT hn0
      by_cases hkn : k = n0
      · subst hkn
        rw [if_pos (by rw [HA.out.2.2.1])] at hin
        obtain ⟨r4, hr4⟩ : ∃ r : Bool, r = true ↔ SoundP l s0 t b lab := ⟨Classical.propDecidable (SoundP l s0 t b lab) |> fun d => @decide _ d, by simp⟩
        obtain ⟨r5, hr5⟩ : ∃ r : Bool, r = true ↔ TightP l b lab := ⟨Classical.propDecidable (TightP l b lab) |> fun d => @decide _ d, by simp⟩
        have hz4 : ¬ (r4 = true ∧ r5 = true) → z = 23 := fun h => by rw [hin]; exact if_neg (fun hh => h ⟨hr4.2 hh.1, hr5.2 hh.2⟩)
        have hz5 : r4 = true → r5 = true → z = 0 := fun h h2 => by rw [hin]; exact if_pos ⟨hr4.1 h, hr5.1 h2⟩
        have HZ4 := Lib.hid (And.intro hz4 hz5)
        have HS := Lib.hid (sound12_any l A m c s0 t b L k c2 lab w1 HA.out.1 ((HA.out.2.1.below HB1.out).more HB1.out.size) HR.out HA.out.2.2.1 ((HA.out.2.2.2.below HB1.out).more HB1.out.size) hsn r4 hr4)
        have HTi := Lib.hid (fun W (hb : Below w.heap.size w W) => tight12_any l A m c b L k c2 lab W HA.out.1 ((HA.out.2.1.below hb).more hb.size) HR.out HA.out.2.2.1 ((HA.out.2.2.2.below hb).more hb.size) r5 hr5)
        clear hz4 hz5 hr4 hr5 hin
        go_wp2_with fail
        refine HS.out.mono ?_
        rintro e w3 ⟨rfl, hb3⟩
        have HB3 := Lib.hid (HB1.out.trans (hb3.mono HB1.out.size))
        clear hb3
        cases r4 with
        | false =>
          obtain rfl := HZ4.out.1 (by simp)
          go_wp2_with fail
          go_ret
          exact ⟨by rfl, HB3.out⟩
        | true =>
          go_wp2_with fail
          refine (HTi.out w3 HB3.out).mono ?_
          rintro e w4 ⟨rfl, hb4⟩
          have HB4 := Lib.hid (HB3.out.trans (hb4.mono HB3.out.size))
          clear hb4
          cases r5 with
          | false =>
            obtain rfl := HZ4.out.1 (by simp)
            go_wp2_with fail
            go_ret
            exact ⟨by rfl, HB4.out⟩
          | true =>
            obtain rfl := HZ4.out.2 (by simp) (by simp)
            go_wp2_with fail
            go_ret
            exact ⟨by rfl, HB4.out⟩
      · rw [if_neg (by have := HA.out.2.2.1; omega)] at hin
        subst hin
        have h5 : ((k : Int) != (n0 : Int)) = true := by simp; omega
        have h6 : (k != n0) = true := by simp; omega
        go_wp2_with fail
        go_ret
        exact ⟨by rfl, HB1.out⟩

set_option maxRecDepth 100000 in
set_option maxHeartbeats 8000000 in
theorem labelTells_any (n : Int) (l : List Am) (A : Option Addr) (c m : Nat) (src t : Int) (b : Bool) (lab : List Lb) (L : Option Addr) (c2 k : Nat) (p : List Int) (A' : Option Addr) (c' q : Nat) (w : World) (hl : l.length = m) (hA : ArcsAt w.heap.size w A l) (hm : m ≤ 9223372036854775807) (hk : lab.length = k) (hL : LbsAt w.heap.size w L lab) (hp : p.length = q) (hI : IntsAt w.heap.size w A' p) :
    Calls Try.prog 6 #[.int .i64 n, .slice A m c, .int .i64 src, .int .i64 t, .bool b, .slice L k c2, .slice A' q c'] w fun e w' => e = .returned (.bool true) ∧ Below w.heap.size w w' := by
  have HA := Lib.hid (And.intro hl (And.intro hA (And.intro hk (And.intro hL (And.intro hp hI)))))
  clear hl hA hk hL hp hI
  go_enter Try.func6, Try.ntmps6
  go_wp2_with fail
  refine (small12_any _).mono ?_
  rintro e w0 ⟨rfl, b0⟩
  have H0 := Lib.hid b0
  clear b0
  go_wp2_with fail
  refine (few12_any n k l A c m w0 HA.out.1 ((HA.out.2.1.below H0.out).more H0.out.size) hm).mono ?_
  rintro e w0' ⟨r, rfl, hFP, rfl⟩
  cases r with
  | false =>
    clear hFP
    go_wp2_with fail
    go_ret
    exact ⟨rfl, H0.out⟩
  | true =>
    clear hFP
    by_cases hq12 : 12 < q
    · have h1 : decide (12 < q) = true := decide_eq_true hq12
      have h2 : decide (12 < (q : Int)) = true := decide_eq_true (by omega)
      go_wp2_with fail
      go_ret
      exact ⟨rfl, H0.out⟩
    have h1 : decide (12 < q) = false := decide_eq_false hq12
    have h2 : decide (12 < (q : Int)) = false := decide_eq_false (by omega)
    obtain ⟨x, y, z, hz⟩ : ∃ x y z, spanO l p t = (x, y, z) := ⟨_, _, _, rfl⟩
    obtain ⟨v, hv⟩ : ∃ v, checkO n l src t b lab = v := ⟨_, rfl⟩
    have S1 := Lib.hid (fun W (h : Below w.heap.size w W) => span_any l A c m p A' c' q t W HA.out.1 ((HA.out.2.1.below h).more h.size) HA.out.2.2.2.2.1 ((HA.out.2.2.2.2.2.below h).more h.size) x y z hz)
    have S2 := Lib.hid (fun W (h : Below w.heap.size w W) => span12_any l A c m p A' c' q t W HA.out.1 ((HA.out.2.1.below h).more h.size) HA.out.2.2.2.2.1 ((HA.out.2.2.2.2.2.below h).more h.size) (by omega) x y z hz)
    have S3 := Lib.hid (fun W (h : Below w.heap.size w W) => check_any n l A m c src t b L k c2 lab W HA.out.1 ((HA.out.2.1.below h).more h.size) HA.out.2.2.1 ((HA.out.2.2.2.1.below h).more h.size) v hv)
    have S4 := Lib.hid (fun W (h : Below w.heap.size w W) => checkr_any n l A m c src t b L k c2 lab W HA.out.1 ((HA.out.2.1.below h).more h.size) HA.out.2.2.1 ((HA.out.2.2.2.1.below h).more h.size) v hv)
    clear hz hv
    have hxx : (x == x) = true := by simp
    have hyy : (y == y) = true := by simp
    have hzz : (z == z) = true := by simp
    have hvv : (v == v) = true := by simp
    go_wp2_with fail
    refine (S1.out w0 H0.out).mono ?_
    rintro e w1 ⟨rfl, b1⟩
    have H1 := Lib.hid (H0.out.trans (b1.mono H0.out.size)); clear b1
    go_wp2_with fail
    refine (S2.out w1 H1.out).mono ?_
    rintro e w2 ⟨rfl, b1⟩
    have H2 := Lib.hid (H1.out.trans (b1.mono H1.out.size)); clear b1
    go_wp2_with fail
    refine (S3.out w2 H2.out).mono ?_
    rintro e w3 ⟨rfl, b1⟩
    have H3 := Lib.hid (H2.out.trans (b1.mono H2.out.size)); clear b1
    go_wp2_with fail
    refine (S4.out w3 H3.out).mono ?_
    rintro e w4 ⟨rfl, b1⟩
    have H4 := Lib.hid (H3.out.trans (b1.mono H3.out.size)); clear b1
    go_wp2_with fail
    go_ret
    exact ⟨rfl, H4.out⟩

end Go.Proofs.Yteiojobgjdfdpaa
