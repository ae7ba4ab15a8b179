/- Walks: LabelSpan. -/
import Derived.Test.YteiojobgjdfdpaaSk
import Derived.Test.YteiojobgjdfdpaaSl
import Derived.Test.YteiojobgjdfdpaaSn
namespace Go.Proofs.Yteiojobgjdfdpaa
open Go.RowKit Go.Sort

theorem IntsAt.dropAt {B : Nat} {w : World} {A : Option Addr} {p : List Int} (h : IntsAt B w A p) (k : Nat) : IntsAt B w (Option.map (fun x => x.add k) A) (p.drop k) := fun j hj => by
  rw [List.length_drop] at hj
  obtain ⟨b, off, rfl, hb, hc⟩ := h (k + j) (by omega)
  refine ⟨b, off + k, by rw [Option.map_some, Go.WideShapes.add_plain], hb, ?_⟩
  rw [getD_drop, Nat.add_assoc]
  exact hc
theorem IntsAt.empty {B : Nat} {w : World} (A : Option Addr) {p : List Int} {k : Nat} (h : p.length ≤ k) : IntsAt B w A (p.drop k) := fun j hj => by
  rw [List.length_drop] at hj
  omega

set_option maxRecDepth 100000 in
set_option maxHeartbeats 8000000 in
theorem labelSpan_any (l : List Am) (A : Option Addr) (c m : Nat) (p : List Int) (A' : Option Addr) (c' n : Nat) (t : Int) (cut later : Nat) (w : World) (hl : l.length = m) (hA : ArcsAt w.heap.size w A l) (hm : m ≤ 9223372036854775807) (hp : p.length = n) (hI : IntsAt w.heap.size w A' p) (hnc : n ≤ c') (h256 : cut < 256) (g256 : later < 256) :
    Calls Try.prog 10 #[.slice A m c, .slice A' n c', .int .i64 t, .int .u8 cut, .int .u8 later] w fun e w' => e = .returned (.bool true) ∧ Below w.heap.size w w' := by
  have HA := Lib.hid (And.intro hl hA)
  have HP := Lib.hid (And.intro hp hI)
  clear hl hA hp hI
  go_enter Try.func10, Try.ntmps10
  go_wp2_with fail
  refine (small12_any _).mono ?_
  rintro e w0 ⟨rfl, b0⟩
  have H0 := Lib.hid (And.intro ((HA.out.2.below b0).more b0.size) (And.intro ((HP.out.2.below b0).more b0.size) b0))
  clear b0
  go_wp2_with fail
  refine (few12_any 1 0 l A c m w0 HA.out.1 H0.out.1 hm).mono ?_
  rintro e w0' ⟨r, rfl, hFP, rfl⟩
  cases r with
  | false =>
    clear hFP
    go_wp2_with fail
    go_ret
    exact ⟨rfl, H0.out.2.2⟩
  | true =>
    have HF := Lib.hid (hFP rfl)
    clear hFP
    by_cases hn12 : 12 < n
    · have h1 : decide (12 < n) = true := decide_eq_true hn12
      have h2 : decide (12 < (n : Int)) = true := decide_eq_true (by omega)
      go_wp2_with fail
      go_ret
      exact ⟨rfl, H0.out.2.2⟩
    have h1 : decide (12 < n) = false := decide_eq_false hn12
    have h2 : decide (12 < (n : Int)) = false := decide_eq_false (by omega)
    obtain ⟨x, y, z, hz⟩ : ∃ x y z, spanO l p t = (x, y, z) := ⟨_, _, _, rfl⟩
    have HZ := Lib.hid hz; clear hz
    go_wp2_with fail
    refine (span_any l A c m p A' c' n t w0 HA.out.1 H0.out.1 HP.out.1 H0.out.2.1 x y z HZ.out).mono ?_
    rintro e w1 ⟨rfl, b1⟩
    have H1 := Lib.hid (And.intro ((H0.out.1.below b1).more b1.size) (And.intro ((H0.out.2.1.below b1).more b1.size) (H0.out.2.2.trans (b1.mono H0.out.2.2.size))))
    clear b1
    by_cases hz0 : z = 0
    · subst hz0
      obtain ⟨k, hk⟩ : ∃ k, cut % (n + 1) = k := ⟨_, rfl⟩
      have hkn : k ≤ n := by have := Nat.mod_lt cut (show 0 < n + 1 by omega); omega
      have hrem : ((cut : Nat) : Int).tmod ((n : Int) + 1) = (k : Int) := by rw [Int.tmod_eq_emod_of_nonneg (by omega), ← hk]; rfl
      obtain ⟨a, b, e1, ⟨d1, e2⟩, ⟨c1, e3⟩, hxy, htx, ht9, ht0, hlat⟩ := span_law HZ.out (show k ≤ p.length by have := HP.out.1; omega)
      have HE := Lib.hid (And.intro e1 (And.intro e2 e3))
      have HLt := Lib.hid hlat
      clear e1 e2 e3 hlat hk
      have hkc : k ≤ c' := by omega
      have hIk : IntsAt w1.heap.size w1 A' (p.take k) := fun j hj => by
        rw [List.length_take] at hj
        rw [getD_take (by omega)]
        exact H1.out.2.1 j (by omega)
      have HC1 := Lib.hid (span_any l A c m (p.take k) A' c' k t w1 HA.out.1 H1.out.1 (by rw [List.length_take]; have := HP.out.1; omega) hIk a b 0 HE.out.1)
      clear hIk
      go_wp2_with fail
      refine HC1.out.mono ?_
      rintro e w2 ⟨rfl, b2⟩
      have H2 := Lib.hid (And.intro ((H1.out.1.below b2).more b2.size) (And.intro ((H1.out.2.1.below b2).more b2.size) (H1.out.2.2.trans (b2.mono H1.out.2.2.size))))
      clear b2 HC1
      obtain ⟨x', y', z', hz'⟩ : ∃ x' y' z', spanO l p (t + later) = (x', y', z') := ⟨_, _, _, rfl⟩
      have HL := Lib.hid (HLt.out later (by omega) x' y' z' hz')
      have HZ2 := Lib.hid hz'
      clear hz' HLt
      have hadd : IntKind.i64.wrap (t + later) = t + later := by rw [IntKind.wrap_i64]; omega
      go_wp2_with fail
      all_goals
        refine (span_any l A c m (p.drop k) _ _ _ a w2 HA.out.1 H2.out.1 (by rw [List.length_drop]; have := HP.out.1; omega) (by first | exact H2.out.2.1.dropAt k | exact IntsAt.empty _ (by have := HP.out.1; omega)) x d1 0 HE.out.2.1).mono ?_
        rintro e w3 ⟨rfl, b3⟩
        have H3 := Lib.hid (And.intro ((H2.out.1.below b3).more b3.size) (And.intro ((H2.out.2.1.below b3).more b3.size) (H2.out.2.2.trans (b3.mono H2.out.2.2.size))))
        clear b3
        go_wp2_with fail
        refine (span_any l A c m (p.drop k) _ _ _ b w3 HA.out.1 H3.out.1 (by rw [List.length_drop]; have := HP.out.1; omega) (by first | exact H3.out.2.1.dropAt k | exact IntsAt.empty _ (by have := HP.out.1; omega)) c1 y 0 HE.out.2.2).mono ?_
        rintro e w4 ⟨rfl, b4⟩
        have H4 := Lib.hid (And.intro ((H3.out.1.below b4).more b4.size) (And.intro ((H3.out.2.1.below b4).more b4.size) (H3.out.2.2.trans (b4.mono H3.out.2.2.size))))
        clear b4
        go_upto_region 15 with fail
        try subst h
        clear hrem hnc h256 hm hn12 h1 h2 hxy htx
        go_wp2_with fail
        refine (span_any l A c m p A' c' n (t + later) w4 HA.out.1 H4.out.1 HP.out.1 H4.out.2.1 x' y' z' HZ2.out).mono ?_
        rintro e w5 ⟨rfl, b5⟩
        have H5 := Lib.hid (H4.out.2.2.trans (b5.mono H4.out.2.2.size))
        clear b5
        rcases HL.out with h0 | ⟨rfl, h3, h4⟩
        · have h5 : (z' != 0) = true := by simpa using h0
          have h6 : (z' == 0) = false := by simpa using h0
          go_wp2_with fail
          go_ret
          exact ⟨rfl, H5.out⟩
        · go_wp2_with fail
          go_ret
          exact ⟨rfl, H5.out⟩
    · have hz2 : (z != 0) = true := by simpa using hz0
      have hz3 : (z == 0) = false := by simpa using hz0
      rcases spanO_ok HZ.out with ⟨h, _⟩ | ⟨_, rfl, rfl⟩
      · exact absurd h hz0
      · go_wp2_with fail
        go_ret
        exact ⟨rfl, H1.out.2.2⟩

end Go.Proofs.Yteiojobgjdfdpaa
