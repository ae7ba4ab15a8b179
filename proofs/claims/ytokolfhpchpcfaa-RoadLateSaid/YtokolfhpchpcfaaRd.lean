/- Walks: RoadLate. -/
import Derived.Test.YtokolfhpchpcfaaRb
import Derived.Test.YtokolfhpchpcfaaRc
import Derived.Test.YtokolfhpchpcfaaCd
namespace Go.Proofs.Ytokolfhpchpcfaa
open Go.RowKit

/-- What Early and Late return, as it is read. -/
def EndL (w : World) (n : Nat) (G : Net) (src : Nat) (t : Int) (e : Ending) (w' : World) : Prop :=
  ∃ gl lab, e = .returned (.tuple #[.slice (some ⟨gl, 0, none⟩) n n, .int .i64 0]) ∧ G.End src t lab ∧ G.Fin src t lab ∧ LbsAt w'.heap.size w' (some ⟨gl, 0, none⟩) lab ∧ lab.length = n ∧ Below w.heap.size w w'
theorem EndP.endL {w w' : World} {n : Nat} {G : Net} {src : Nat} {t : Int} {e : Ending} (h : EndP w G src t e w') (hG : G.ok) (hn : G.n = n) (hs : src < n) (ht : IsT t) : EndL w n G src t e w' := by
  subst hn
  obtain ⟨gl, lab, he, hE, ho, hl, hb⟩ := h
  exact ⟨gl, lab, he, hE, hE.fin hG hs ht, own_lbs ho hl, hl, hb⟩
theorem earlyL (n m c : Nat) (A : Option Addr) (l : List Am) (src : Nat) (t : Int) (b : Bool) (w : World) (hl : l.length = m) (hA : ArcsAt w.heap.size w A l) (hR : RRight n l) (hs : src < n) (ht : IsT t) (hm : m ≤ 100) :
    Calls Try.prog 9 #[.int .i64 n, .slice A m c, .int .i64 src, .int .i64 t, .bool b] w (EndL w n (netE n l b) src t) :=
  (early_ok n m c A l src t b w hl hA hR hs ht hm).mono fun _ _ h => h.endL (netE_ok hR) rfl hs ht
theorem lateL (n m c : Nat) (A : Option Addr) (l : List Am) (src : Nat) (t : Int) (w : World) (hl : l.length = m) (hA : ArcsAt w.heap.size w A l) (hR : RRight n l) (hs : src < n) (ht : IsT t) (hm : m ≤ 100) :
    Calls Try.prog 11 #[.int .i64 n, .slice A m c, .int .i64 src, .int .i64 t] w (EndL w n (netL n l) src t) :=
  (late_ok n m c A l src t w hl hA hR hs ht hm).mono fun _ _ h => h.endL (netL_ok hR) rfl hs ht
theorem LbsAt.get {B : Nat} {w : World} {g n : Nat} {l : List Lb} (h : LbsAt B w (some ⟨g, 0, none⟩) l) (hl : l.length = n) {k : Nat} (hk : k < n) : w.cell? ⟨g, k * 2, none⟩ = some (.int .i64 (lb l k).1) ∧ w.cell? ⟨g, k * 2 + 1, none⟩ = some (.int .i64 (lb l k).2) := by
  obtain ⟨b, off, e, _, h0, h1⟩ := h k (by omega)
  injection e with e
  injection e with e1 e2 _
  subst e1; subst e2
  rw [Nat.zero_add] at h0 h1
  exact ⟨h0, h1⟩

set_option maxRecDepth 100000 in
set_option maxHeartbeats 8000000 in
theorem roadLate_any (n : Int) (l : List Am) (A : Option Addr) (c m : Nat) (dst y : Int) (w : World) (hl : l.length = m) (hA : ArcsAt w.heap.size w A l) (hm : m ≤ 9223372036854775807) :
    Calls Try.prog 6 #[.int .i64 n, .slice A m c, .int .i64 dst, .int .i64 y] w fun e w' => e = .returned (.bool true) ∧ Below w.heap.size w w' := by
  have HA := Lib.hid (And.intro hl hA)
  clear hl hA
  go_enter Try.func6, Try.ntmps6
  go_wp2_with fail
  refine (small_any _).mono ?_
  rintro e w0 ⟨rfl, b0⟩
  have H0 := Lib.hid (And.intro ((HA.out.2.below b0).more b0.size) b0)
  clear b0
  go_wp2_with fail
  refine (few11_any n l A c m w0 HA.out.1 H0.out.1 hm).mono ?_
  rintro e w0' ⟨r, rfl, hFP, rfl⟩
  cases r with
  | false =>
    clear hFP
    go_wp2_with fail
    go_ret
    exact ⟨rfl, H0.out.2⟩
  | true =>
    have HF := Lib.hid (hFP rfl)
    clear hFP
    obtain ⟨r2, hr2⟩ : ∃ r2 : Bool, r2 = true ↔ RRight n l := by
      by_cases h : RRight n l
      · exact ⟨true, by simp [h]⟩
      · exact ⟨false, by simp [h]⟩
    have HRr := Lib.hid hr2; clear hr2
    go_wp2_with fail
    refine (rr_any n l A c m w0 HA.out.1 H0.out.1 r2 HRr.out).mono ?_
    rintro e w1 ⟨rfl, b1⟩
    have H1 := Lib.hid (And.intro ((H0.out.1.below b1).more b1.size) (H0.out.2.trans (b1.mono H0.out.2.size)))
    clear b1
    cases r2 with
    | false =>
      go_wp2_with fail
      go_ret
      exact ⟨rfl, H1.out.2⟩
    | true =>
      have HR := Lib.hid (HRr.out.1 rfl)
      have hn1 : 1 ≤ n := HR.out.1
      by_cases hd0 : dst < 0
      · go_wp2_with fail
        go_ret
        exact ⟨rfl, H1.out.2⟩
      · by_cases hd1 : n ≤ dst
        · go_wp2_with fail
          go_ret
          exact ⟨rfl, H1.out.2⟩
        · obtain ⟨r3, hr3⟩ : ∃ r3, r3 = decide (0 ≤ y ∧ y ≤ 1048576) := ⟨_, rfl⟩
          have HT := Lib.hid hr3; clear hr3
          go_wp2_with fail
          refine (rTime_any y w1 r3 HT.out).mono ?_
          rintro e w1' ⟨rfl, rfl⟩
          cases r3 with
          | false =>
            go_wp2_with fail
            go_ret
            exact ⟨rfl, H1.out.2⟩
          | true =>
            have hT : IsT y := of_decide_eq_true HT.out.symm
            have HT := Lib.hid hT; clear hT
            obtain ⟨n0, rfl⟩ : ∃ n0 : Nat, n = (n0 : Int) := ⟨n.toNat, by omega⟩
            obtain ⟨d0, rfl⟩ : ∃ d0 : Nat, dst = (d0 : Int) := ⟨dst.toNat, by omega⟩
            have hdn : d0 < n0 := by omega
            have hn12 : n0 ≤ 12 := by
              have h1 := HF.out.2.1
              have h2 := HR.out.2.1
              omega
            have hm30 : m ≤ 100 := by
              have h1 := HF.out.1
              have h2 := HA.out.1
              omega
            go_wp2_with fail
            refine (lateL n0 m c A l d0 y w1 HA.out.1 H1.out.1 HR.out hdn HT.out hm30).mono ?_
            rintro e w2 ⟨gl, lab, rfl, hE, hF, hL, hlen, b2⟩
            have H2 := Lib.hid (And.intro ((H1.out.1.below b2).more b2.size) (H1.out.2.trans (b2.mono H1.out.2.size)))
            have HLt := Lib.hid (And.intro hF (And.intro hL hlen))
            clear hE hF hL hlen b2
            go_wp2_with fail
            go_loopw [12] (fun iv wr => ∃ v : Nat, iv = .int .i64 v ∧ v ≤ n0 ∧ Hid (Below w2.heap.size w2 wr)) (fun iv _ => n0 - (intOf iv).toNat)
            case atStart => exact ⟨0, rfl, by omega, Lib.hid (Below.refl _ _)⟩
            case round =>
              obtain ⟨v, rfl, hv, hB⟩ := hrel
              by_cases hgo : v < n0
              · have c0 := ((HLt.out.2.1.below hB.out).get HLt.out.2.2 hgo).1
                have tl := late_le HR.out HLt.out.1 hgo
                have tg := late_ge HR.out HLt.out.1 hgo
                have HI := Lib.hid (fun (lab2 : List Lb) => late_in HR.out HT.out HLt.out.1 hgo (lab2 := lab2))
                have HO := Lib.hid (fun (lab2 : List Lb) h => late_out HR.out HT.out HLt.out.1 hgo (lab2 := lab2) h hdn)
                obtain ⟨t, ht⟩ : ∃ t, (lb lab v).1 = t := ⟨_, rfl⟩
                rw [ht] at c0 tl tg HI HO
                clear ht
                have hAr := Lib.hid ((H2.out.1.below hB.out).more hB.out.size)
                have hty := HT.out.1
                have hty2 := HT.out.2
                by_cases h0 : 0 ≤ t
                · have htT : IsT t := ⟨h0, by omega⟩
                  have HtT := Lib.hid htT; clear htT
                  go_wp2_with fail
                  refine (earlyL n0 m c A l v t true wr HA.out.1 hAr.out HR.out hgo HtT.out hm30).mono ?_
                  rintro e w3 ⟨g3, lab3, rfl, _, hF3, hL3, hl3, b3⟩
                  have c3 := (hL3.get hl3 hdn).1
                  have hx3 := HI.out lab3 h0 hF3
                  obtain ⟨x3, hx⟩ : ∃ x3, (lb lab3 d0).1 = x3 := ⟨_, rfl⟩
                  rw [hx] at c3 hx3
                  have H3 := Lib.hid (And.intro ((hAr.out.below b3).more b3.size) (And.intro (hB.out.trans (b3.mono hB.out.size)) b3.size))
                  clear hF3 hL3 hl3 b3 hx
                  obtain ⟨hx3a, hx3b⟩ := hx3
                  by_cases ht1 : t + 1 ≤ 1048576
                  · go_wp2_with fail
                    refine (earlyL n0 m c A l v (t + 1) true w3 HA.out.1 H3.out.1 HR.out hgo ⟨by omega, by omega⟩ hm30).mono ?_
                    rintro e w4 ⟨g4, lab4, rfl, _, hF4, hL4, hl4, b4⟩
                    have c4 := (hL4.get hl4 hdn).1
                    have hx4 := HO.out lab4 hF4
                    obtain ⟨x4, hx⟩ : ∃ x4, (lb lab4 d0).1 = x4 := ⟨_, rfl⟩
                    rw [hx] at c4 hx4
                    have H4 := Lib.hid (H3.out.2.1.trans (b4.mono (Nat.le_trans hB.out.size H3.out.2.2)))
                    clear hF4 hL4 hl4 b4 hx
                    by_cases h4 : 0 ≤ x4
                    · have hx5 := hx4 h4
                      clear hx4
                      go_wp2_with fail
                      go_roundw
                      case rel => exact ⟨v + 1, rfl, by omega, H4⟩
                      case measure => simp [intOf]; omega
                    · clear hx4
                      go_wp2_with fail
                      go_roundw
                      case rel => exact ⟨v + 1, rfl, by omega, H4⟩
                      case measure => simp [intOf]; omega
                  · go_wp2_with fail
                    go_roundw
                    case rel => exact ⟨v + 1, rfl, by omega, Lib.hid H3.out.2.1⟩
                    case measure => simp [intOf]; omega
                · have : t = -1 := by omega
                  subst this
                  go_wp2_with fail
                  refine (earlyL n0 m c A l v (0) true wr HA.out.1 hAr.out HR.out hgo ⟨by omega, by omega⟩ hm30).mono ?_
                  rintro e w4 ⟨g4, lab4, rfl, _, hF4, hL4, hl4, b4⟩
                  have c4 := (hL4.get hl4 hdn).1
                  have hx4 := HO.out lab4 hF4
                  obtain ⟨x4, hx⟩ : ∃ x4, (lb lab4 d0).1 = x4 := ⟨_, rfl⟩
                  rw [hx] at c4 hx4
                  have H4 := Lib.hid (hB.out.trans (b4.mono (Nat.le_trans hB.out.size (Nat.le_refl _))))
                  clear hF4 hL4 hl4 b4 hx
                  by_cases h4 : 0 ≤ x4
                  · have hx5 := hx4 h4
                    clear hx4
                    go_wp2_with fail
                    go_roundw
                    case rel => exact ⟨v + 1, rfl, by omega, H4⟩
                    case measure => simp [intOf]; omega
                  · clear hx4
                    go_wp2_with fail
                    go_roundw
                    case rel => exact ⟨v + 1, rfl, by omega, H4⟩
                    case measure => simp [intOf]; omega
              · have : v = n0 := by omega
                subst this
                go_wp2_with fail
                go_ret
                exact ⟨rfl, H2.out.2.trans (hB.out.mono H2.out.2.size)⟩

end Go.Proofs.Ytokolfhpchpcfaa
