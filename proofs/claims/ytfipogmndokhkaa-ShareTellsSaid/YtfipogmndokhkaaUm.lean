/- Walks: the law's numbers and chosen; Same. -/
import Derived.Test.YtfipogmndokhkaaUl
import Derived.OwnWalk
namespace Go.Proofs.Ytfipogmndokhkaa
open Go.RowKit

theorem below_drewN {B : Nat} {w w' : World} (h : Below B w w') (n : Nat) : Below B w (w'.drewN n) := ⟨h.os, h.tape, h.output, h.size, h.block⟩

def many (n : Nat) : Nat := 1 + n % 20
def need (k n : Nat) : Nat := 1 + k % many n
theorem many_range (n : Nat) : 1 ≤ many n ∧ many n ≤ 20 := by unfold many; omega
theorem need_range (k n : Nat) : 1 ≤ need k n ∧ need k n ≤ many n := by
  unfold need
  have := Nat.mod_lt k (show 0 < many n by have := many_range n; omega)
  omega

set_option maxRecDepth 100000 in
set_option maxHeartbeats 4000000 in
theorem numbers_any (s : Int) (k n : Nat) (hk : k < 256) (hn : n < 256) (w : World) :
    Calls Try.prog 15 #[.int .i64 s, .int .u8 k, .int .u8 n] w fun e w' => e = .returned (.tuple #[.int .i64 (s % 2147483647), .int .i64 (need k n), .int .i64 (many n)]) ∧ Below w.heap.size w w' := by
  obtain ⟨h1, h2⟩ := many_range n
  obtain ⟨m, hm⟩ : ∃ m, many n = m := ⟨_, rfl⟩
  obtain ⟨q, hq⟩ : ∃ q, need k n = q := ⟨_, rfl⟩
  have e1 : (1 : Int) + (n : Int) % 20 = (m : Int) := by rw [← hm]; unfold many; omega
  have e2 : (1 : Int) + (k : Int) % (m : Int) = (q : Int) := by rw [← hq, ← hm]; unfold need; omega
  have h3 : 1 ≤ q ∧ q ≤ 20 := by rw [← hq]; have := need_range k n; have := many_range n; omega
  rw [hm] at h1 h2
  rw [hm, hq]
  clear hm hq
  have hm0 : ((m : Int) == 0) = false := by simp; omega
  have hr : 0 ≤ (k : Int) % (m : Int) ∧ (k : Int) % (m : Int) < 20 := by omega
  obtain ⟨R, hR⟩ : ∃ R, (k : Int) % (m : Int) = R := ⟨_, rfl⟩
  rw [hR] at e2 hr
  obtain ⟨hr0, hr1⟩ := hr
  have hq : ∀ q, Calls Try.prog 16 #[.int .i64 s] (w.drewN q) fun e w' => e = .returned (.int .i64 (s % 2147483647)) ∧ w' = w.drewN q := fun q => (mod_any s _).mono (by rintro e w' ⟨rfl, rfl⟩; exact ⟨rfl, rfl⟩)
  have HQ := Lib.hid hq; clear hq
  have hw : IntKind.i64.wrap (q : Int) = (q : Int) := by rw [IntKind.wrap_i64]; omega
  have hmz : ¬ m = 0 := by omega
  go_enter Try.func15, Try.ntmps15
  go_wp2_with fail
  go_quiet ((go_at_call 16; exact Calls.quiet_of_same (HQ.out _)))
  go_wp2_with fail
  go_ret3
  exact ⟨rfl, below_drewN (Below.refl _ _) _⟩

theorem take_one {α : Type} {l : List α} {d : α} {k : Nat} (hk : k < l.length) : l.take (k + 1) = l.take k ++ [l.getD k d] := by
  rw [List.take_succ_eq_append_getElem hk, List.getD_eq_getElem?_getD, List.getElem?_eq_getElem hk]
  rfl

set_option maxRecDepth 100000 in
set_option maxHeartbeats 4000000 in
theorem same_any (ds es : List (Int × Int)) (A B : Option Addr) (c c' : Nat) (w : World) (h1 : ShAt w.heap.size w A ds) (h2 : ShAt w.heap.size w B es) (hl1 : ds.length ≤ 1000) (hl2 : es.length ≤ 1000) (r : Bool) (hr : r = decide (ds = es)) :
    Calls Try.prog 12 #[.slice A ds.length c, .slice B es.length c'] w fun e w' => e = .returned (.bool r) ∧ Below w.heap.size w w' := by
  have HR := Lib.hid hr; clear hr
  have H1 := Lib.hid h1; clear h1
  have H2 := Lib.hid h2; clear h2
  obtain ⟨n, hn⟩ : ∃ n, ds.length = n := ⟨_, rfl⟩
  obtain ⟨m, hm⟩ : ∃ n, es.length = n := ⟨_, rfl⟩
  rw [hn] at hl1 ⊢
  rw [hm] at hl2 ⊢
  by_cases hnm : n = m
  · subst hnm
    have HN := Lib.hid (And.intro hn hm); clear hn hm
    go_enter Try.func12, Try.ntmps12
    go_wp2_with fail
    go_loopw [5] (fun iv wr => ∃ i : Nat, i ≤ n ∧ iv = .int .i64 i ∧ Hid (ds.take i = es.take i) ∧ ∃ q, wr = w.drewN q) (fun iv _ => n - (intOf iv).toNat)
    case atStart => exact ⟨0, Nat.zero_le _, rfl, Lib.hid rfl, 0, rfl⟩
    case round =>
      obtain ⟨i, hi, rfl, ht, q, rfl⟩ := hrel
      by_cases hgo : i < n
      · obtain ⟨b1, o1, hA, _, w0, w1⟩ := H1.out i (by have := HN.out.1; omega)
        obtain ⟨b2, o2, hB, _, w2, w3⟩ := H2.out i (by have := HN.out.2; omega)
        subst hA; subst hB
        have c0 : (w.drewN q).cell? ⟨b1, o1 + i * 2, none⟩ = some (.int .i64 (ds.getD i (0, 0)).1) := w0
        have c1 : (w.drewN q).cell? ⟨b1, o1 + i * 2 + 1, none⟩ = some (.int .i64 (ds.getD i (0, 0)).2) := w1
        have c2 : (w.drewN q).cell? ⟨b2, o2 + i * 2, none⟩ = some (.int .i64 (es.getD i (0, 0)).1) := w2
        have c3 : (w.drewN q).cell? ⟨b2, o2 + i * 2 + 1, none⟩ = some (.int .i64 (es.getD i (0, 0)).2) := w3
        have s1 := take_one (l := ds) (d := (0, 0)) (k := i) (by have := HN.out.1; omega)
        have s2 := take_one (l := es) (d := (0, 0)) (k := i) (by have := HN.out.2; omega)
        have hne : ds.getD i (0, 0) ≠ es.getD i (0, 0) → ds ≠ es := fun h e => h (by rw [e])
        obtain ⟨d, hd⟩ : ∃ u, ds.getD i (0, 0) = u := ⟨_, rfl⟩
        obtain ⟨e, he⟩ : ∃ u, es.getD i (0, 0) = u := ⟨_, rfl⟩
        rw [hd] at c0 c1 w0 w1 s1 hne
        rw [he] at c2 c3 w2 w3 s2 hne
        clear hd he
        obtain ⟨d1, d2⟩ := d
        obtain ⟨e1, e2⟩ := e
        simp only at c0 c1 c2 c3 w0 w1 w2 w3
        have S1 := Lib.hid s1; clear s1
        have S2 := Lib.hid s2; clear s2
        have HNE := Lib.hid hne; clear hne
        by_cases h1 : d1 = e1
        · subst h1
          by_cases h2 : d2 = e2
          · subst h2
            go_wp2_with fail
            go_quiet (fail)
            go_wp2_with fail
            go_roundw
            case rel => exact ⟨i + 1, by omega, rfl, Lib.hid (by rw [S1.out, S2.out, ht.out]), _, rfl⟩
            case measure => simp [intOf]; omega
          · have h2' : (d2 == e2) = false := by simpa using h2
            have hrf : Hid (r = false) := Lib.hid (by rw [HR.out]; exact decide_eq_false (HNE.out (by simpa using h2)))
            go_wp2_with fail
            go_quiet (fail)
            go_wp2_with fail
            go_ret
            exact ⟨by rw [hrf.out]; rfl, below_drewN (below_drewN (Below.refl _ _) _) _⟩
        · have h1' : (d1 == e1) = false := by simpa using h1
          have hrf : Hid (r = false) := Lib.hid (by rw [HR.out]; exact decide_eq_false (HNE.out (by intro e; injection e with e _; exact h1 e)))
          go_wp2_with fail
          go_quiet (fail)
          go_wp2_with fail
          go_ret
          exact ⟨by rw [hrf.out]; rfl, below_drewN (below_drewN (Below.refl _ _) _) _⟩
      · have : i = n := by omega
        subst this
        have he := ht.out
        rw [List.take_of_length_le (by rw [HN.out.1]; exact Nat.le_refl _), List.take_of_length_le (by rw [HN.out.2]; exact Nat.le_refl _)] at he
        have hrt : Hid (r = true) := Lib.hid (by rw [HR.out]; exact decide_eq_true he)
        clear he
        go_wp2_with fail
        go_ret
        exact ⟨by rw [hrt.out]; rfl, below_drewN (Below.refl _ _) _⟩
  · have hne : ((n : Int) != (m : Int)) = true := by simp; omega
    have hrf : r = false := by
      rw [HR.out]
      exact decide_eq_false (fun e => hnm (by rw [← hn, ← hm, e]))
    subst hrf
    clear HR H1 H2 hn hm
    go_enter Try.func12, Try.ntmps12
    go_wp2_with fail
    go_ret
    exact ⟨rfl, Below.refl _ _⟩

end Go.Proofs.Ytfipogmndokhkaa
