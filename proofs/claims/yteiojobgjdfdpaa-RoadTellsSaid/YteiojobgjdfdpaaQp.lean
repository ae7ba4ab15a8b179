/- Walks: road's Right; settle; the nets of arcs. -/
import Derived.Test.YteiojobgjdfdpaaQk
import Derived.Test.YteiojobgjdfdpaaCe
namespace Go.Proofs.Yteiojobgjdfdpaa
open Go.RowKit

noncomputable def Arc.pass (a : Arc) (b : Bool) (t : Int) : Int := Classical.epsilon (PassP a b t)
theorem PassP.is {a : Arc} {b : Bool} {t z : Int} (h : PassP a b t z) : z = a.pass b t := h.eq (Classical.epsilon_spec ⟨z, h⟩)
theorem PassP.spec {a : Arc} {b : Bool} {t z : Int} (h : PassP a b t z) : PassP a b t (a.pass b t) := h.is ▸ h
noncomputable def Arc.last (a : Arc) (b : Bool) (y : Int) : Int := Classical.epsilon (LastP a b y)
theorem LastP.is {a : Arc} {b : Bool} {y z : Int} (h : LastP a b y z) : z = a.last b y := h.eq (Classical.epsilon_spec ⟨z, h⟩)
theorem LastP.spec {a : Arc} {b : Bool} {t z : Int} (h : LastP a b t z) : LastP a b t (a.last b t) := h.is ▸ h

/-- Right arcs for so many nodes. -/
def RArc (n : Int) (x : Am) : Prop := x.a.ok ∧ x.a.f < n ∧ x.a.t < n
def RRight (n : Int) (l : List Am) : Prop := 1 ≤ n ∧ n ≤ 2000 ∧ l.length ≤ 20000 ∧ ∀ k, k < l.length → RArc n (am l k)

theorem arc_any {B : Nat} {w : World} {A : Option Addr} {l : List Am} (h : ArcsAt B w A l) (hB : B ≤ w.heap.size) {k : Nat} (hk : k < l.length) (r : Bool) (hr : r = true ↔ (am l k).a.ok) :
    Calls Try.prog 46 #[(am l k).v] w fun e w' => e = .returned (.bool r) ∧ Below w.heap.size w w' :=
  right_any (am l k).a _ _ _ _ w (h.m hB hk) r hr
theorem rarc_any {B : Nat} {w : World} {A : Option Addr} {l : List Am} (h : ArcsAt B w A l) (hB : B ≤ w.heap.size) {k : Nat} (hk : k < l.length) (r : Bool) (hr : r = true ↔ (am l k).a.ok) :
    Calls Try.prog 47 #[(am l k).v] w fun e w' => e = .returned (.bool r) ∧ Below w.heap.size w w' :=
  rright_any (am l k).a _ _ _ _ w (h.m hB hk) r hr
/-! gen -/

set_option maxRecDepth 100000 in
set_option maxHeartbeats 8000000 in
theorem rr_any (n : Int) (l : List Am) (A : Option Addr) (c m : Nat) (w : World) (hl : l.length = m) (hA : ArcsAt w.heap.size w A l) (r : Bool) (hr : r = true ↔ RRight n l) :
    Calls Try.prog 18 #[.int .i64 n, .slice A m c] w fun e w' => e = .returned (.bool r) ∧ Below w.heap.size w w' := by
  have HA := Lib.hid (And.intro hl hA); clear hA
  have hr0 : ¬ RRight n l → r = false := fun h => by
    cases r with
    | false => rfl
    | true => exact absurd (hr.1 rfl) h
  have HR := Lib.hid (And.intro hr hr0); clear hr hr0
  go_enter Try.func18, Try.ntmps18
  by_cases h1 : n < 1
  · have hrf := HR.out.2 (fun h => by have := h.1; omega)
    subst hrf
    clear hl
    go_wp2_with fail
    go_ret
    exact ⟨by rfl, Below.refl _ _⟩
  by_cases h2 : 2000 < n
  · have hrf := HR.out.2 (fun h => by have := h.2.1; omega)
    subst hrf
    clear hl
    go_wp2_with fail
    go_ret
    exact ⟨by rfl, Below.refl _ _⟩
  by_cases h3 : 20000 < m
  · have hrf := HR.out.2 (fun h => by have := h.2.2.1; omega)
    subst hrf
    clear hl
    have h3' : decide (20000 < (m : Int)) = true := decide_eq_true (by omega)
    have h3'' : decide (20000 < m) = true := decide_eq_true (by omega)
    go_wp2_with fail
    go_ret
    exact ⟨by rfl, Below.refl _ _⟩
  clear hl
  have h3' : decide (20000 < m) = false := decide_eq_false (by omega)
  have HB := Lib.hid (And.intro h1 (And.intro h2 h3))
  go_wp2_with fail
  go_loopw [20] (fun iv wr => ∃ i : Nat, iv = .int .i64 i ∧ i ≤ m ∧ Hid (∀ k, k < i → RArc n (am l k)) ∧ Hid (Below w.heap.size w wr)) (fun iv _ => m - (intOf iv).toNat)
  case atStart => exact ⟨0, rfl, by omega, Lib.hid (fun k hk => by omega), Lib.hid (Below.refl _ _)⟩
  case round =>
    obtain ⟨i, rfl, hi, hK, hB⟩ := hrel
    by_cases hgo : i < m
    · have hgl : i < l.length := by have := HA.out.1; omega
      have hAr := HA.out.2.below hB.out
      obtain ⟨b, off, hAe, hbB, k0, k1, k2, k3, kl, kh⟩ := hAr i hgl
      have hbl : b < wr.heap.size := Nat.lt_of_lt_of_le hbB hB.out.size
      have HAr := Lib.hid hAr; clear hAr
      subst hAe
      obtain ⟨r1, hr1⟩ : ∃ r : Bool, r = true ↔ (am l i).a.ok := ⟨Classical.propDecidable (am l i).a.ok |> fun d => @decide _ d, by simp⟩
      have hC0 : ∀ W', Below wr.heap.size wr W' → Calls Try.prog 46 #[(am l i).v] W' fun e w' => e = .returned (.bool r1) ∧ Below W'.heap.size W' w' := fun W' hb => arc_any (HAr.out.below (hb.mono hB.out.size)) (Nat.le_trans hB.out.size hb.size) hgl r1 hr1
      have hok : r1 = true → (am l i).a.f < n → (am l i).a.t < n → RArc n (am l i) := fun a b c => ⟨hr1.1 a, b, c⟩
      have hno : (r1 = false ∨ n ≤ (am l i).a.f ∨ n ≤ (am l i).a.t) → r = false := fun h => HR.out.2 (fun hh => by
        have := hh.2.2.2 i hgl
        rcases h with e | e | e
        · have := hr1.2 this.1; rw [e] at this; cases this
        · have := this.2.1; omega
        · have := this.2.2; omega)
      obtain ⟨x, hx⟩ : ∃ x, am l i = x := ⟨_, rfl⟩
      have HX := Lib.hid hx
      rw [hx] at hC0 hok hno k0 k1 k2 k3
      clear hx kl kh hr1
      obtain ⟨⟨f, t, lo, hi2⟩, A1, c1, A2, c2⟩ := x
      simp only [Am.v] at hC0 hok hno k0 k1 k2 k3
      obtain ⟨n1, hn1⟩ : ∃ n1, lo.length = n1 := ⟨_, rfl⟩
      obtain ⟨n2, hn2⟩ : ∃ n2, hi2.length = n2 := ⟨_, rfl⟩
      rw [hn1] at k2 hC0
      rw [hn2] at k3 hC0
      clear hn1 hn2
      have HC := Lib.hid hC0; clear hC0
      have HOK := Lib.hid hok; clear hok
      have HNO := Lib.hid hno; clear hno
      have b0 := Blk.new wr 39 #[.int .i64 f, .int .i64 t, .slice A1 n1 c1, .slice A2 n2 c2]
      have hBn : Below wr.heap.size wr (wr.alloc (.cells #[.int .i64 f, .int .i64 t, .slice A1 n1 c1, .slice A2 n2 c2] 39)) := (Below.refl _ _).alloc (Nat.le_refl _) _
      have HBN := Lib.hid (And.intro hBn b0); clear hBn b0
      go_wp2_with fail
      refine (HC.out _ (by first | exact HBN.out.1 | exact Below.refl _ _)).mono ?_
      rintro e w2 ⟨rfl, hb2⟩
      have hB2 : Below wr.heap.size wr w2 := by first | exact hb2 | exact HBN.out.1.trans (hb2.mono HBN.out.1.size)
      have HB2 := Lib.hid (hB.out.trans (hB2.mono hB.out.size))
      try (obtain ⟨q0, q1, q2, q3⟩ := box_cells (HBN.out.2.below hb2 HBN.out.2.lt))
      try (have p0 := (hB2.cell (p := ⟨b, off + i * 4, none⟩) hbl).trans k0
           have p1 := (hB2.cell (p := ⟨b, off + i * 4 + 1, none⟩) hbl).trans k1)
      clear hb2 hB2
      cases r1 with
      | false =>
        have hrf := HNO.out (.inl rfl)
        subst hrf
        go_wp2_with fail
        go_ret
        exact ⟨by rfl, HB2.out⟩
      | true =>
        by_cases g1 : n ≤ f
        · have hrf := HNO.out (.inr (.inl g1))
          subst hrf
          go_wp2_with fail
          go_ret
          exact ⟨by rfl, HB2.out⟩
        by_cases g2 : n ≤ t
        · have hrf := HNO.out (.inr (.inr g2))
          subst hrf
          go_wp2_with fail
          go_ret
          exact ⟨by rfl, HB2.out⟩
        have HY := Lib.hid (HOK.out rfl (by omega) (by omega))
        go_wp2_with fail
        go_roundw
        case rel => exact ⟨i + 1, rfl, by omega, Lib.hid (fun k hk => by
          by_cases e : k < i
          · exact hK.out k e
          · have : k = i := by omega
            subst this
            rw [HX.out]
            exact HY.out), HB2⟩
        case measure => simp [intOf]; omega
    · have e : i = m := by omega
      subst e
      have hrt := HR.out.1.2 ⟨by have := HB.out.1; omega, by have := HB.out.2.1; omega, by have := HB.out.2.2; have := HA.out.1; omega, fun k hk => hK.out k (by have := HA.out.1; omega)⟩
      subst hrt
      go_wp2_with fail
      go_ret
      exact ⟨by rfl, hB.out⟩

set_option maxRecDepth 100000 in
set_option maxHeartbeats 8000000 in
theorem rrr_any (n : Int) (l : List Am) (A : Option Addr) (c m : Nat) (w : World) (hl : l.length = m) (hA : ArcsAt w.heap.size w A l) (r : Bool) (hr : r = true ↔ RRight n l) :
    Calls Try.prog 19 #[.int .i64 n, .slice A m c] w fun e w' => e = .returned (.bool r) ∧ Below w.heap.size w w' := by
  have HA := Lib.hid (And.intro hl hA); clear hA
  have hr0 : ¬ RRight n l → r = false := fun h => by
    cases r with
    | false => rfl
    | true => exact absurd (hr.1 rfl) h
  have HR := Lib.hid (And.intro hr hr0); clear hr hr0
  go_enter Try.func19, Try.ntmps19
  by_cases h1 : n < 1
  · have hrf := HR.out.2 (fun h => by have := h.1; omega)
    subst hrf
    clear hl
    go_wp2_with fail
    go_ret
    exact ⟨by rfl, Below.refl _ _⟩
  by_cases h2 : 2000 < n
  · have hrf := HR.out.2 (fun h => by have := h.2.1; omega)
    subst hrf
    clear hl
    go_wp2_with fail
    go_ret
    exact ⟨by rfl, Below.refl _ _⟩
  by_cases h3 : 20000 < m
  · have hrf := HR.out.2 (fun h => by have := h.2.2.1; omega)
    subst hrf
    clear hl
    have h3' : decide (20000 < (m : Int)) = true := decide_eq_true (by omega)
    have h3'' : decide (20000 < m) = true := decide_eq_true (by omega)
    go_wp2_with fail
    go_ret
    exact ⟨by rfl, Below.refl _ _⟩
  clear hl
  have h3' : decide (20000 < m) = false := decide_eq_false (by omega)
  have HB := Lib.hid (And.intro h1 (And.intro h2 h3))
  go_wp2_with fail
  go_loopw [5] (fun iv wr => ∃ i : Nat, iv = .int .i64 i ∧ i ≤ m ∧ Hid (∀ k, k < i → RArc n (am l k)) ∧ Hid (Below w.heap.size w wr)) (fun iv _ => m - (intOf iv).toNat)
  case atStart => exact ⟨0, rfl, by omega, Lib.hid (fun k hk => by omega), Lib.hid (Below.refl _ _)⟩
  case round =>
    obtain ⟨i, rfl, hi, hK, hB⟩ := hrel
    by_cases hgo : i < m
    · have hgl : i < l.length := by have := HA.out.1; omega
      have hAr := HA.out.2.below hB.out
      obtain ⟨b, off, hAe, hbB, k0, k1, k2, k3, kl, kh⟩ := hAr i hgl
      have hbl : b < wr.heap.size := Nat.lt_of_lt_of_le hbB hB.out.size
      have HAr := Lib.hid hAr; clear hAr
      subst hAe
      obtain ⟨r1, hr1⟩ : ∃ r : Bool, r = true ↔ (am l i).a.ok := ⟨Classical.propDecidable (am l i).a.ok |> fun d => @decide _ d, by simp⟩
      have hC0 : ∀ W', Below wr.heap.size wr W' → Calls Try.prog 47 #[(am l i).v] W' fun e w' => e = .returned (.bool r1) ∧ Below W'.heap.size W' w' := fun W' hb => rarc_any (HAr.out.below (hb.mono hB.out.size)) (Nat.le_trans hB.out.size hb.size) hgl r1 hr1
      have hok : r1 = true → (am l i).a.f < n → (am l i).a.t < n → RArc n (am l i) := fun a b c => ⟨hr1.1 a, b, c⟩
      have hno : (r1 = false ∨ n ≤ (am l i).a.f ∨ n ≤ (am l i).a.t) → r = false := fun h => HR.out.2 (fun hh => by
        have := hh.2.2.2 i hgl
        rcases h with e | e | e
        · have := hr1.2 this.1; rw [e] at this; cases this
        · have := this.2.1; omega
        · have := this.2.2; omega)
      obtain ⟨x, hx⟩ : ∃ x, am l i = x := ⟨_, rfl⟩
      have HX := Lib.hid hx
      rw [hx] at hC0 hok hno k0 k1 k2 k3
      clear hx kl kh hr1
      obtain ⟨⟨f, t, lo, hi2⟩, A1, c1, A2, c2⟩ := x
      simp only [Am.v] at hC0 hok hno k0 k1 k2 k3
      obtain ⟨n1, hn1⟩ : ∃ n1, lo.length = n1 := ⟨_, rfl⟩
      obtain ⟨n2, hn2⟩ : ∃ n2, hi2.length = n2 := ⟨_, rfl⟩
      rw [hn1] at k2 hC0
      rw [hn2] at k3 hC0
      clear hn1 hn2
      have HC := Lib.hid hC0; clear hC0
      have HOK := Lib.hid hok; clear hok
      have HNO := Lib.hid hno; clear hno
      have b0 := Blk.new wr 39 #[.int .i64 f, .int .i64 t, .slice A1 n1 c1, .slice A2 n2 c2]
      have hBn : Below wr.heap.size wr (wr.alloc (.cells #[.int .i64 f, .int .i64 t, .slice A1 n1 c1, .slice A2 n2 c2] 39)) := (Below.refl _ _).alloc (Nat.le_refl _) _
      have HBN := Lib.hid (And.intro hBn b0); clear hBn b0
      go_wp2_with fail
      refine (HC.out _ (by first | exact HBN.out.1 | exact Below.refl _ _)).mono ?_
      rintro e w2 ⟨rfl, hb2⟩
      have hB2 : Below wr.heap.size wr w2 := by first | exact hb2 | exact HBN.out.1.trans (hb2.mono HBN.out.1.size)
      have HB2 := Lib.hid (hB.out.trans (hB2.mono hB.out.size))
      try (obtain ⟨q0, q1, q2, q3⟩ := box_cells (HBN.out.2.below hb2 HBN.out.2.lt))
      try (have p0 := (hB2.cell (p := ⟨b, off + i * 4, none⟩) hbl).trans k0
           have p1 := (hB2.cell (p := ⟨b, off + i * 4 + 1, none⟩) hbl).trans k1)
      clear hb2 hB2
      cases r1 with
      | false =>
        have hrf := HNO.out (.inl rfl)
        subst hrf
        go_wp2_with fail
        go_ret
        exact ⟨by rfl, HB2.out⟩
      | true =>
        by_cases g1 : n ≤ f
        · have hrf := HNO.out (.inr (.inl g1))
          subst hrf
          go_wp2_with fail
          go_ret
          exact ⟨by rfl, HB2.out⟩
        by_cases g2 : n ≤ t
        · have hrf := HNO.out (.inr (.inr g2))
          subst hrf
          go_wp2_with fail
          go_ret
          exact ⟨by rfl, HB2.out⟩
        have HY := Lib.hid (HOK.out rfl (by omega) (by omega))
        go_wp2_with fail
        go_roundw
        case rel => exact ⟨i + 1, rfl, by omega, Lib.hid (fun k hk => by
          by_cases e : k < i
          · exact hK.out k e
          · have : k = i := by omega
            subst this
            rw [HX.out]
            exact HY.out), HB2⟩
        case measure => simp [intOf]; omega
    · have e : i = m := by omega
      subst e
      have hrt := HR.out.1.2 ⟨by have := HB.out.1; omega, by have := HB.out.2.1; omega, by have := HB.out.2.2; have := HA.out.1; omega, fun k hk => hK.out k (by have := HA.out.1; omega)⟩
      subst hrt
      go_wp2_with fail
      go_ret
      exact ⟨by rfl, hB.out⟩

def SettleP (G : Nat) (w : World) (e : Ending) (w' : World) : Prop := e = .returned (.func (.func 65) #[] #[.pointer (some ⟨w.heap.size, 0, none⟩)]) ∧ w' = w.alloc (.cells #[.pointer (some ⟨G, 0, none⟩)] 60)
set_option maxRecDepth 100000 in
theorem settle_any (G : Nat) (w : World) :
    Calls Try.prog 39 #[.pointer (some ⟨G, 0, none⟩)] w (SettleP G w) := by
  go_enter Try.func39, Try.ntmps39
  go_wp2_with fail
  go_ret
  exact ⟨by rfl, rfl⟩

end Go.Proofs.Yteiojobgjdfdpaa
