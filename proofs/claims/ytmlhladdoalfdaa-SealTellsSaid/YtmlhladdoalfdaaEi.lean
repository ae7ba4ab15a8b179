/- Walks: the laws' Few and Same. -/
import Derived.Test.YtmlhladdoalfdaaEh
namespace Go.Proofs.Ytmlhladdoalfdaa
open Go.RowKit

theorem toList_loop (b : ByteArray) : ∀ (k i : Nat) (r : List UInt8), b.size - i = k → ByteArray.toList.loop b i r = r.reverse ++ b.data.toList.drop i := by
  intro k
  induction k with
  | zero => 
    intro i r h
    unfold ByteArray.toList.loop
    rw [if_neg (by omega)]
    rw [List.drop_eq_nil_of_le (by have : b.data.toList.length = b.size := by simp; ; omega)]
    simp
  | succ k ih =>
    intro i r h
    unfold ByteArray.toList.loop
    rw [if_pos (by omega), ih (i+1) _ (by omega)]
    have hi : i < b.data.toList.length := by have : b.data.toList.length = b.size := by simp; ; omega
    rw [List.drop_eq_getElem_cons hi]
    have e : b.get! i = b.data[i]'(by simpa using hi) := by
      obtain ⟨d⟩ := b
      exact getElem!_pos d i (by simpa using hi)
    simp [e]
theorem toList_data (b : ByteArray) : b.toList = b.data.toList := by
  unfold ByteArray.toList
  rw [toList_loop b _ 0 [] rfl]
  simp

theorem toList_ne {a b : ByteArray} (h : a ≠ b) : (a.toList == b.toList) = false := by
  rw [toList_data, toList_data, beq_eq_false_iff_ne]
  intro e
  exact h (ByteArray.ext (Array.toList_inj.1 e))

def fewB (ds : List En) (n : Nat) : Bool := decide (ds.length ≤ n) && ds.all fun d => decide (d.2.size ≤ 500)

set_option maxRecDepth 100000 in
set_option maxHeartbeats 4000000 in
theorem same_any (ds es : List En) (A B : Option Addr) (c c' : Nat) (w : World) (h1 : SlAt w.heap.size w A ds) (h2 : SlAt w.heap.size w B es) (hl1 : ds.length ≤ 1000) (hl2 : es.length ≤ 1000) (r : Bool) (hr : r = decide (ds = es)) :
    Calls Try.prog 17 #[.slice A ds.length c, .slice B es.length c'] w fun e w' => e = .returned (.bool r) ∧ Below w.heap.size w w' := by
  have HR := Lib.hid hr; clear hr
  have H1 := Lib.hid h1; clear h1
  have H2 := Lib.hid h2; clear h2
  obtain ⟨n, hn⟩ : ∃ n, ds.length = n := ⟨_, rfl⟩
  obtain ⟨m, hm⟩ : ∃ n, es.length = n := ⟨_, rfl⟩
  rw [hn] at hl1 ⊢
  rw [hm] at hl2 ⊢
  by_cases hnm : n = m
  · subst hnm
    have HN := Lib.hid (And.intro hn hm); clear hn hm
    go_enter Try.func17, Try.ntmps17
    go_wp2_with fail
    go_loopw [5] (fun iv wr => ∃ i : Nat, i ≤ n ∧ iv = .int .i64 i ∧ Hid (ds.take i = es.take i) ∧ ∃ q, wr = w.drewN q) (fun iv _ => n - (intOf iv).toNat)
    case atStart => exact ⟨0, Nat.zero_le _, rfl, Lib.hid rfl, 0, rfl⟩
    case round =>
      obtain ⟨i, hi, rfl, ht, q, rfl⟩ := hrel
      by_cases hgo : i < n
      · obtain ⟨b1, o1, hA, _, w0, w1⟩ := H1.out i (by have := HN.out.1; omega)
        obtain ⟨b2, o2, hB, _, w2, w3⟩ := H2.out i (by have := HN.out.2; omega)
        subst hA; subst hB
        have c0 : (w.drewN q).cell? ⟨b1, o1 + i * 2, none⟩ = some (.int .i64 (ds.getD i e0).1) := w0
        have c1 : (w.drewN q).cell? ⟨b1, o1 + i * 2 + 1, none⟩ = some (.string (ds.getD i e0).2) := w1
        have c2 : (w.drewN q).cell? ⟨b2, o2 + i * 2, none⟩ = some (.int .i64 (es.getD i e0).1) := w2
        have c3 : (w.drewN q).cell? ⟨b2, o2 + i * 2 + 1, none⟩ = some (.string (es.getD i e0).2) := w3
        have hyes : Hid (ds.getD i e0 = es.getD i e0 → ds.take (i + 1) = es.take (i + 1)) := Lib.hid fun h => by
          rw [take_snoc (by have := HN.out.1; omega), take_snoc (by have := HN.out.2; omega), ht.out, h]
        have hno : Hid (ds.getD i e0 ≠ es.getD i e0 → r = false) := Lib.hid fun h => by
          rw [HR.out]
          simp
          rintro rfl
          exact h rfl
        obtain ⟨u, hu⟩ : ∃ u, ds.getD i e0 = u := ⟨_, rfl⟩
        obtain ⟨v, hv⟩ : ∃ u, es.getD i e0 = u := ⟨_, rfl⟩
        rw [hu] at c0 c1 hyes hno w0 w1
        rw [hv] at c2 c3 hyes hno w2 w3
        obtain ⟨k1, t1⟩ := u
        obtain ⟨k2, t2⟩ := v
        clear hu hv
        simp only at c0 c1 c2 c3 w0 w1 w2 w3
        by_cases h1 : k1 = k2
        · subst h1
          by_cases h2 : t1 = t2
          · subst h2
            have HY := Lib.hid (hyes.out rfl)
            clear hyes hno
            go_wp2_with fail
            go_quiet (fail)
            go_wp2_with fail
            go_roundw
            case rel => exact ⟨i + 1, by omega, rfl, HY, _, rfl⟩
            case measure => simp [intOf]; omega
          · have h2' := toList_ne h2
            have HNO := Lib.hid (hno.out (by simpa using h2))
            clear hyes hno
            go_wp2_with fail
            go_quiet (fail)
            go_wp2_with fail
            go_ret
            exact ⟨by rw [HNO.out]; rfl, below_drewN (below_drewN (Below.refl _ _) _) _⟩
        · have h1' : (k1 == k2) = false := by simpa using h1
          have HNO := Lib.hid (hno.out (by simp [h1]))
          clear hyes hno
          go_wp2_with fail
          go_quiet (fail)
          go_wp2_with fail
          go_ret
          exact ⟨by rw [HNO.out]; rfl, below_drewN (below_drewN (Below.refl _ _) _) _⟩
      · have : n = i := by omega
        subst this
        have he := ht.out
        rw [List.take_of_length_le (by rw [HN.out.1]; exact Nat.le_refl _), List.take_of_length_le (by rw [HN.out.2]; exact Nat.le_refl _)] at he
        have hrt : Hid (r = true) := Lib.hid (by rw [HR.out]; exact decide_eq_true he)
        clear he
        go_wp2_with fail
        go_ret
        exact ⟨by rw [hrt.out]; rfl, below_drewN (Below.refl _ _) _⟩
  · have hne : ((n : Int) != (m : Int)) = true := by simp; omega
    have hrf : r = false := by
      rw [HR.out]
      exact decide_eq_false (fun e => hnm (by rw [← hn, ← hm, e]))
    subst hrf
    clear HR H1 H2 hn hm
    go_enter Try.func17, Try.ntmps17
    go_wp2_with fail
    go_ret
    exact ⟨rfl, Below.refl _ _⟩

/-- Few: exactly. -/
theorem few_take {ds : List En} {i : Nat} (h : ∀ j, j < i → (ds.getD j e0).2.size ≤ 500) (hi : i = ds.length) : (ds.all fun d => decide (d.2.size ≤ 500)) = true := by
  rw [List.all_eq_true]
  intro d hd
  obtain ⟨j, hj, rfl⟩ := List.getElem_of_mem hd
  have := h j (by omega)
  rw [List.getD_eq_getElem?_getD, List.getElem?_eq_getElem hj] at this
  simpa using this

set_option maxRecDepth 100000 in
set_option maxHeartbeats 4000000 in
theorem few_any (ds : List En) (A : Option Addr) (n c : Nat) (w : World) (h1 : SlAt w.heap.size w A ds) (hn : ds.length = n) (hl : n ≤ 9223372036854775807) (b : Bool) (hb : b = fewB ds 40) :
    Calls Try.prog 8 #[.slice A n c, .int .i64 40] w fun e w' => e = .returned (.bool b) ∧ w = w' := by
  have HB := Lib.hid hb; clear hb
  have H1 := Lib.hid h1; clear h1
  have HN := Lib.hid hn; clear hn
  go_enter Try.func8, Try.ntmps8
  go_wp2_with fail
  go_loop [5] (fun iv => ∃ i : Nat, i ≤ n ∧ i ≤ 41 ∧ iv = .int .i64 i ∧ Hid (∀ j, j < i → (ds.getD j e0).2.size ≤ 500)) (fun iv => n - (intOf iv).toNat)
  case atStart => exact ⟨0, Nat.zero_le _, by omega, rfl, Lib.hid fun j hj => by omega⟩
  case round =>
    obtain ⟨i, hi, hi2, rfl, ht⟩ := hrel
    by_cases hgo : i < n
    · have hgo' : decide ((i : Int) < (n : Int)) = true := by simpa using hgo
      by_cases h40 : i ≤ 40
      · obtain ⟨b1, o1, hA, _, w0, w1⟩ := H1.out i (by have := HN.out; omega)
        subst hA
        have hyes : Hid ((ds.getD i e0).2.size ≤ 500 → ∀ j, j < i + 1 → (ds.getD j e0).2.size ≤ 500) := Lib.hid fun h j hj => by
          by_cases hji : j = i
          · rw [hji]; exact h
          · exact ht.out j (by omega)
        have hno : Hid (¬ (ds.getD i e0).2.size ≤ 500 → b = false) := Lib.hid fun h => by
          rw [HB.out]
          unfold fewB
          rw [Bool.and_eq_false_iff]
          right
          rw [List.all_eq_false]
          exact ⟨_, en_get (i := i) (by have := HN.out; omega), by simpa using h⟩
        obtain ⟨u, hu⟩ : ∃ u, ds.getD i e0 = u := ⟨_, rfl⟩
        rw [hu] at w0 w1 hyes hno
        obtain ⟨key, text⟩ := u
        clear hu
        simp only at w0 w1 hyes hno
        by_cases ht5 : text.size ≤ 500
        · have HY := Lib.hid (hyes.out ht5)
          clear hyes hno
          go_wp2_with fail
          go_round
          case rel => exact ⟨i + 1, by omega, by omega, rfl, HY⟩
          case measure => simp [intOf]; omega
        · have HNO := Lib.hid (hno.out ht5)
          clear hyes hno
          go_wp2_with fail
          go_ret
          exact ⟨by rw [HNO.out]; rfl, rfl⟩
      · have hbf : Hid (b = false) := Lib.hid (by
          rw [HB.out]
          unfold fewB
          rw [Bool.and_eq_false_iff]
          left
          have := HN.out
          simp
          omega)
        go_wp2_with fail
        go_ret
        exact ⟨by rw [hbf.out]; simp; omega, rfl⟩
    · have hie : n = i := by omega
      have hal : Hid (b = decide (n ≤ 40)) := Lib.hid (by
        rw [HB.out]
        unfold fewB
        rw [few_take ht.out (by have := HN.out; omega), Bool.and_true, HN.out])
      have hgo' : decide ((i : Int) < (n : Int)) = false := by simpa using hgo
      go_wp2_with fail
      go_ret
      exact ⟨by rw [hal.out]; simp; omega, rfl⟩

end Go.Proofs.Ytmlhladdoalfdaa
