/- Reading a text and a number, whatever stands there; opening a file of a machine that is up. -/
import Derived.Test.YtgocnjiabfmdpaaJh
namespace Go.Proofs.Ytgocnjiabfmdpaa
set_option maxRecDepth 8000
open Go.RowKit Wire

def rdT (t : List UInt8) : List UInt8 × List UInt8 × Bool := match textP t with | none => ([], [], true) | some (v, x) => (v, x, false)
def rdN (t : List UInt8) : Nat × List UInt8 × Bool := match numP t with | none => (0, [], true) | some (n, x) => (n, x, false)

theorem rdT_any (b : Nat) (t : List UInt8) (f : Bool) (w : World) (h : Wire.Rd w b (ba t) f) (hs : t.length ≤ 1000000000) :
    Calls Try.prog 49 #[.pointer (some ⟨b, 0, none⟩)] w fun x w' => x = .returned (.string (ba (rdT t).1)) ∧ Wire.Rd w' b (ba (rdT t).2.1) (f || (rdT t).2.2) ∧ Wire.Keep b w w' := by
  have hsz : (ba t).size ≤ 9223372036854775807 := by rw [ba_size]; omega
  unfold rdT
  cases htx : textP t with
  | none =>
    refine (Wire.text_none b (ba t) f w h hsz htx).mono ?_
    rintro e w1 ⟨rfl, h1, h2⟩
    exact ⟨rfl, by rw [Bool.or_true]; exact h1, h2⟩
  | some q =>
    obtain ⟨v, x⟩ := q
    refine (Wire.text_some b (ba t) f w h hsz v x htx).mono ?_
    rintro e w1 ⟨rfl, h1, h2⟩
    exact ⟨rfl, by rw [Bool.or_false]; exact h1, h2⟩

theorem rdN_any (b : Nat) (t : List UInt8) (f : Bool) (w : World) (h : Wire.Rd w b (ba t) f) (hs : t.length ≤ 1000000000) :
    Calls Try.prog 50 #[.pointer (some ⟨b, 0, none⟩)] w fun x w' => x = .returned (.int .i64 ((rdN t).1 : Nat)) ∧ Wire.Rd w' b (ba (rdN t).2.1) (f || (rdN t).2.2) ∧ Wire.Keep b w w' := by
  have hsz : (ba t).size ≤ 9223372036854775807 := by rw [ba_size]; omega
  unfold rdN
  cases htx : numP t with
  | none =>
    refine (Wire.num_none b (ba t) f w h hsz htx).mono ?_
    rintro e w1 ⟨rfl, h1, h2⟩
    exact ⟨rfl, by rw [Bool.or_true]; exact h1, h2⟩
  | some q =>
    obtain ⟨v, x⟩ := q
    refine (Wire.num_some b (ba t) f w h hsz v x htx).mono ?_
    rintro e w1 ⟨rfl, h1, h2⟩
    exact ⟨rfl, by rw [Bool.or_false]; exact h1, h2⟩

theorem rdT_len (t : List UInt8) : (rdT t).1.length ≤ t.length ∧ (rdT t).2.1.length ≤ t.length := by
  unfold rdT
  cases h : textP t with
  | none => simp
  | some q =>
    obtain ⟨v, x⟩ := q
    have := textP_inv h
    rw [this, List.length_append]
    have := encText_len v
    simp only
    omega
theorem rdN_le (t : List UInt8) : (rdN t).1 ≤ 9223372036854775807 := by
  unfold rdN
  cases h : numP t with
  | none => simp
  | some q => exact (digP_le h).1

theorem rd_step {t v r : List UInt8} (h : step t = some (v, r)) : (rdT t).1 = v ∧ (rdN (rdT t).2.1).1 = jsum v ∧ (rdN (rdT t).2.1).2.1 = r ∧ ((false || (rdT t).2.2) || (rdN (rdT t).2.1).2.2) = false := by
  obtain ⟨x, h1, h2, _⟩ := step_text h
  have e1 : rdT t = (v, x, false) := by unfold rdT; rw [h1]
  have e2 : rdN x = (jsum v, r, false) := by unfold rdN; rw [h2]
  rw [e1]
  simp only
  rw [e2]
  simp

theorem jform_num (v : List UInt8) (n : Nat) (h : n = jsum v) : Wire.encStr (ba v) ++ encInt (n : Int) = jform v := by
  subst h
  exact jform_enc (ba v)

/-- Whatever was read: it is the record that stands there, or the form differs. -/
theorem rd_more {t : List UInt8} (n : Nat) (v : List UInt8) (F : List UInt8) (hF : F = Wire.encStr (ba v) ++ encInt (n : Int)) (hn : n = jsum v) (ht : t.take F.length = F) (hl : t.length ≤ 20000) : step t = some (v, t.drop F.length) := by
  have e : t = jform v ++ t.drop F.length := by
    have := jform_num v n hn
    rw [← this, ← hF]
    conv => lhs; rw [← List.take_append_drop F.length t, ht]
  have hv : v.length ≤ 20000 := by
    have := congrArg List.length e
    rw [List.length_append] at this
    have := jform_len v
    omega
  have := step_form hv (t.drop F.length)
  rw [← e] at this
  exact this

theorem rd_break {t v : List UInt8} {n : Nat} (hv : v = (rdT t).1) (hn : n = (rdN (rdT t).2.1).1) (F : List UInt8) (hF : F = Wire.encStr (ba v) ++ encInt (n : Int)) (h : ¬ (n = jsum v ∧ t.take F.length = F)) : step t = none := by
  cases hs : step t with
  | none => rfl
  | some q =>
    obtain ⟨v', r⟩ := q
    obtain ⟨e1, e2, _, _⟩ := rd_step hs
    have hi := (step_inv hs).1
    rw [e1] at hv
    subst hv
    rw [e2] at hn
    refine absurd ⟨hn, ?_⟩ h
    rw [hF, jform_num v n hn]
    rw [hi, List.take_left]

/-- A machine that is up, with nothing scheduled. -/
structure Calm (s : St) : Prop where
  up : s.down = false
  armed : s.armed = 0
  lost : s.lost = 0

theorem Calm.new : Calm St.new := ⟨rfl, rfl, rfl⟩

theorem Calm.count {s : St} (h : Calm s) : s.count = s := by unfold St.count; rw [if_pos (Or.inr h.armed)]
theorem Calm.hit {s : St} (h : Calm s) : s.hit = false := by unfold St.hit; rw [h.armed]; simp
theorem Calm.ready {s : St} (h : Calm s) {f : Int} (hf : isFile f = true) : s.ready f = 0 := by unfold St.ready; rw [h.up, hf]; rfl

theorem Calm.sync {s : St} (h : Calm s) {f : Int} (hf : isFile f = true) : s.sync f = (s.synced f, 0) := by
  unfold St.sync
  rw [h.hit, h.count, if_neg (by simp), if_neg (by rw [h.ready hf]; simp), if_neg (by rw [h.lost]; simp)]

theorem Calm.synced {s : St} (h : Calm s) (f : Int) : Calm (s.synced f) := ⟨h.up, h.armed, h.lost⟩

theorem Calm.trunc {s : St} (h : Calm s) {f : Int} (hf : isFile f = true) {n : Nat} (hn : n ≤ (s.now f).length) : s.trunc f (n : Nat) = (s.cut f n, 0) := by
  unfold St.trunc
  rw [h.hit, h.count, if_neg (by simp), if_neg (by rw [h.ready hf]; simp), if_neg (by omega)]
  simp

theorem Calm.cut {s : St} (h : Calm s) (f : Int) (n : Nat) : Calm (s.cut f n) := ⟨h.up, h.armed, h.lost⟩

theorem calm_open {s : St} (h : Calm s) {f : Int} (hf : isFile f = true) : ∃ s', jopen s f = ((s', some (jrecs (s.now f))), 0) ∧ Calm s' ∧ s'.now f = jforms (jrecs (s.now f)) ∧ s'.dur f = s'.now f := by
  have hsy := h.sync hf
  have hnow : (s.synced f).now f = s.now f := rfl
  have hdur : (s.synced f).dur f = s.now f := by show upd s.dur f (s.now f) f = _; rw [upd_same]
  have hlen := recs_len (s.now f)
  by_cases hc : (jforms (jrecs (s.now f))).length < (s.now f).length
  · have ht := (h.synced f).trunc hf (n := (jforms (jrecs (s.now f))).length) (by rw [hnow]; omega)
    refine ⟨(s.synced f).cut f (jforms (jrecs (s.now f))).length, ?_, (h.synced f).cut _ _, ?_, ?_⟩
    · have := jopen_cut (r := ((s.synced f).cut f (jforms (jrecs (s.now f))).length, 0)) hf hsy (by rw [hnow]; exact hc) (by rw [hnow]; exact ht) rfl
      exact this
    · show upd _ f _ f = _
      rw [upd_same, hnow, recs_take]
    · show upd _ f _ f = upd _ f _ f
      rw [upd_same, upd_same]
  · refine ⟨s.synced f, ?_, h.synced f, ?_, ?_⟩
    · have := jopen_whole hf hsy (by rw [hnow]; exact hc)
      exact this
    · rw [hnow]
      have e := recs_split (s.now f)
      have : jrest (s.now f) = [] := List.eq_nil_of_length_eq_zero (by omega)
      rw [this, List.append_nil] at e
      exact e
    · rw [hnow, hdur]

theorem Calm.write {s : St} (h : Calm s) {f : Int} (hf : isFile f = true) {a : Nat} {t : List UInt8} (hc : a + t.length ≤ 16777216) : ∃ s', s.write f (a : Nat) t = (s', 0) ∧ Calm s' ∧ s'.now f = (if t = [] then s.now f else putL (s.now f) a t) ∧ s'.dur = s.dur := by
  unfold St.write
  rw [h.hit, h.count, if_neg (by simp)]
  unfold St.wr
  rw [if_neg (by rw [h.ready hf]; simp), if_neg (by omega), if_neg (by omega)]
  by_cases ht : t = []
  · rw [if_pos ht, if_pos ht]
    exact ⟨s, rfl, h, rfl, rfl⟩
  · rw [if_neg ht, if_neg ht]
    obtain ⟨a1, a2, a3, a4, a5, a6⟩ := addSecs_rest (s.wrote f a t) f (a / 64) (St.secs a t)
    refine ⟨_, rfl, ⟨?_, ?_, ?_⟩, ?_, ?_⟩
    · exact a3.trans h.up
    · exact a5.trans h.armed
    · exact a4.trans h.lost
    · rw [a1]
      show upd s.now f (putL (s.now f) (a : Int).toNat t) f = _
      rw [upd_same, Int.toNat_natCast]
    · rw [a2]; rfl

end Go.Proofs.Ytgocnjiabfmdpaa
