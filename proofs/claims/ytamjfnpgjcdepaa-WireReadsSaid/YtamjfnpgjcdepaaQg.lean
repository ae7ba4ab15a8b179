/- What both readers do, said by one function. -/
import Derived.Test.YtamjfnpgjcdepaaQf
namespace Go.Proofs.Ytamjfnpgjcdepaa
open Go.RowKit

def opV {α : Type} (d : α) : Option (α × List UInt8) → α
  | some (v, _) => v
  | none => d
def opR {α : Type} : Option (α × List UInt8) → List UInt8
  | some (_, r) => r
  | none => []
def opF {α : Type} (f : Bool) : Option (α × List UInt8) → Bool
  | some _ => f
  | none => true

theorem op_len {α : Type} {p : Option (α × List UInt8)} {l : List UInt8} (h : ∀ v r, p = some (v, r) → r.length < l.length) : (opR p).length ≤ l.length := by
  cases p with
  | none => simp [opR]
  | some x => have := h x.1 x.2 rfl; simp only [opR]; omega
theorem op_inv {α : Type} {p : Option (α × List UInt8)} {s : ByteArray} {f : Bool} (h : ∀ v r, p = some (v, r) → r.length < (bts s).length) (hf : f = true → s.size = 0) : opF f p = true → (ba (opR p)).size = 0 := by
  cases p with
  | none => intro _; rfl
  | some x =>
    intro h1
    have h2 := h x.1 x.2 rfl
    have h3 := hf h1
    rw [bts_len] at h2
    omega
theorem op_false {α : Type} {p : Option (α × List UInt8)} {s : ByteArray} {f : Bool} {x : α × List UInt8} (hp : p = some x) (h : ∀ v r, p = some (v, r) → r.length < (bts s).length) (hf : f = true → s.size = 0) : f = false := by
  cases f with
  | false => rfl
  | true =>
    have h2 := h x.1 x.2 hp
    have h3 := hf rfl
    rw [bts_len] at h2
    omega

theorem OwnI.ints' {w : World} {B : Nat} {v : Value} {l : List Int} (h : OwnI w B v l) : ∃ a cap, v = .slice a l.length cap ∧ IntsAt w.heap.size w a l ∧ ∀ ad, a = some ad → B ≤ ad.block := by
  obtain ⟨a, cap, rfl, hi⟩ := h.ints
  refine ⟨a, cap, rfl, hi, fun ad had => ?_⟩
  subst had
  exact (World.ownsRow.lt h ad.block rfl).1
theorem OwnS.strs' {w : World} {B : Nat} {v : Value} {l : List (List UInt8)} (h : OwnS w B v l) : ∃ a cap, v = .slice a (l.map ba).length cap ∧ StrsAt w.heap.size w a (l.map ba) ∧ ∀ ad, a = some ad → B ≤ ad.block := by
  obtain ⟨a, cap, rfl, hi⟩ := h.strs
  refine ⟨a, cap, rfl, hi, fun ad had => ?_⟩
  subst had
  exact (World.ownsRow.lt h ad.block rfl).1
theorem IntsAt.keep {B q m : Nat} {w w' : World} {a : Option Addr} {zs : List Int} (h : IntsAt B w a zs) (hk : Keep q w w') (hm : ∀ ad, a = some ad → m ≤ ad.block) (hq : q < m) : IntsAt w'.heap.size w' a zs := by
  intro k hlt
  obtain ⟨b, off, h1, h2, h3⟩ := h k hlt
  have h4 := hm _ h1
  have h5 := hk.cell h3 (show b ≠ q by simp only at h4; omega)
  exact ⟨b, off, h1, World.block_lt_of_cell? w' _ h5, h5⟩
theorem StrsAt.keep {B q m : Nat} {w w' : World} {a : Option Addr} {zs : List ByteArray} (h : StrsAt B w a zs) (hk : Keep q w w') (hm : ∀ ad, a = some ad → m ≤ ad.block) (hq : q < m) : StrsAt w'.heap.size w' a zs := by
  intro k hlt
  obtain ⟨b, off, h1, h2, h3⟩ := h k hlt
  have h4 := hm _ h1
  have h5 := hk.cell h3 (show b ≠ q by simp only at h4; omega)
  exact ⟨b, off, h1, World.block_lt_of_cell? w' _ h5, h5⟩

section
variable (b : Nat) (s : ByteArray) (f : Bool) (w : World)
theorem wnum_u (h : Rd w b s f) (hs : s.size ≤ 400) :
    Calls Try.prog 24 #[.pointer (some ⟨b, 0, none⟩)] w fun x w' => x = .returned (.int .i64 ((opV 0 (numP (bts s)) : Nat) : Int)) ∧ Rd w' b (ba (opR (numP (bts s)))) (opF f (numP (bts s))) ∧ Keep b w w' := by
  cases hn : numP (bts s) with
  | none => exact num_none b s f w h (by omega) hn
  | some x => exact num_some b s f w h (by omega) x.1 x.2 hn
theorem qnum_u (h : Rq w b s f) (hs : s.size ≤ 400) :
    Calls Try.prog 25 #[.pointer (some ⟨b, 0, none⟩)] w fun x w' => x = .returned (.int .i64 ((opV 0 (numP (bts s)) : Nat) : Int)) ∧ Rq w' b (ba (opR (numP (bts s)))) (opF f (numP (bts s))) ∧ Keep b w w' := by
  cases hn : numP (bts s) with
  | none => exact qnum_none b s f w h (by omega) hn
  | some x => exact qnum_some b s f w h (by omega) x.1 x.2 hn
theorem wint_u (h : Rd w b s f) (hs : s.size ≤ 400) :
    Calls Try.prog 26 #[.pointer (some ⟨b, 0, none⟩)] w fun x w' => x = .returned (.int .i64 (opV 0 (intP (bts s)))) ∧ Rd w' b (ba (opR (intP (bts s)))) (opF f (intP (bts s))) ∧ Keep b w w' := by
  cases hn : intP (bts s) with
  | none => exact int_none b s f w h (by omega) hn
  | some x => exact int_some b s f w h (by omega) x.1 x.2 hn
theorem qint_u (h : Rq w b s f) (hs : s.size ≤ 400) :
    Calls Try.prog 27 #[.pointer (some ⟨b, 0, none⟩)] w fun x w' => x = .returned (.int .i64 (opV 0 (intP (bts s)))) ∧ Rq w' b (ba (opR (intP (bts s)))) (opF f (intP (bts s))) ∧ Keep b w w' := by
  cases hn : intP (bts s) with
  | none => exact qint_none b s f w h (by omega) hn
  | some x => exact qint_some b s f w h (by omega) x.1 x.2 hn
theorem wtext_u (h : Rd w b s f) (hs : s.size ≤ 400) :
    Calls Try.prog 28 #[.pointer (some ⟨b, 0, none⟩)] w fun x w' => x = .returned (.string (ba (opV [] (textP (bts s))))) ∧ Rd w' b (ba (opR (textP (bts s)))) (opF f (textP (bts s))) ∧ Keep b w w' := by
  cases hn : textP (bts s) with
  | none => exact text_none b s f w h (by omega) hn
  | some x => exact text_some b s f w h (by omega) x.1 x.2 hn
theorem textP_dec (s : ByteArray) : ∀ v r, textP (bts s) = some (v, r) → r.length < (bts s).length := fun v r h => by have := textP_len h; omega
theorem qtext_u (h : Rq w b s f) (hf : f = true → s.size = 0) (hs : s.size ≤ 400) :
    Calls Try.prog 29 #[.pointer (some ⟨b, 0, none⟩)] w fun x w' => x = .returned (.string (ba (opV [] (textP (bts s))))) ∧ Rq w' b (ba (opR (textP (bts s)))) (opF f (textP (bts s))) ∧ Keep b w w' := by
  cases hn : textP (bts s) with
  | none => exact qtext_none b s f w h hf (by omega) hn
  | some x =>
    have := op_false hn (textP_dec s) hf
    subst this
    exact qtext_some b s w h (by omega) x.1 x.2 hn
theorem listP_len {α : Type} (rd : List UInt8 → Option (α × List UInt8)) (hc : ∀ l x r, rd l = some (x, r) → r.length < l.length) (l : List UInt8) : ∀ v r, listP rd l = some (v, r) → r.length < l.length ∧ v.length < l.length := by
  intro v r h
  unfold listP at h
  cases h1 : cntP l with
  | none => rw [h1] at h; cases h
  | some x =>
    have h0 := (digP_le (v := x.1) (r := x.2) h1).2
    rw [h1] at h
    simp only at h
    cases h2 : repP rd x.1 x.2 with
    | none => rw [h2] at h; cases h
    | some y =>
      have h3 := (repP_len rd hc x.1 x.2 y.1 y.2 h2).2
      rw [h2] at h
      simp only at h
      split at h
      · simp only [Option.some.injEq, Prod.mk.injEq] at h
        obtain ⟨rfl, rfl⟩ := h
        rw [List.length_drop]
        omega
      · cases h
theorem numsP_dec (s : ByteArray) : ∀ v r, listP intP (bts s) = some (v, r) → r.length < (bts s).length := fun v r h => (listP_len intP (fun _ _ _ h => intP_len h) _ v r h).1
theorem textsP_dec (s : ByteArray) : ∀ v r, listP textP (bts s) = some (v, r) → r.length < (bts s).length := fun v r h => (listP_len textP (fun _ _ _ h => by have := textP_len h; omega) _ v r h).1

theorem wnums_u (h : Rd w b s f) (hf : f = true → s.size = 0) (hs : s.size ≤ 400) :
    Calls Try.prog 31 #[.pointer (some ⟨b, 0, none⟩)] w fun x w' => ∃ a cap, x = .returned (.slice a (opV [] (listP intP (bts s))).length cap) ∧ IntsAt w'.heap.size w' a (opV [] (listP intP (bts s))) ∧ Rd w' b (ba (opR (listP intP (bts s)))) (opF f (listP intP (bts s))) ∧ Keep b w w' ∧ ∀ ad, a = some ad → w.heap.size ≤ ad.block := by
  refine (nums_any b s f w h hf (by omega)).mono ?_
  intro e w' hp
  unfold PostI at hp
  cases hn : listP intP (bts s) with
  | none =>
    rw [hn] at hp
    obtain ⟨rfl, hr, hk⟩ := hp
    exact ⟨none, 0, rfl, fun k hk => absurd hk (by simp [opV]), hr, hk, fun ad h => by cases h⟩
  | some x =>
    have hf' := op_false hn (numsP_dec s) hf
    subst hf'
    rw [hn] at hp
    obtain ⟨v, rfl, ho, hr, hk⟩ := hp
    obtain ⟨a, cap, rfl, hi, hm⟩ := ho.ints'
    exact ⟨a, cap, rfl, hi, hr, hk, hm⟩
theorem qnums_u (h : Rq w b s f) (hf : f = true → s.size = 0) (hs : s.size ≤ 400) :
    Calls Try.prog 32 #[.pointer (some ⟨b, 0, none⟩)] w fun x w' => ∃ a cap, x = .returned (.slice a (opV [] (listP intP (bts s))).length cap) ∧ IntsAt w'.heap.size w' a (opV [] (listP intP (bts s))) ∧ Rq w' b (ba (opR (listP intP (bts s)))) (opF f (listP intP (bts s))) ∧ Keep b w w' := by
  refine (qnums_any b s f w h hf (by omega)).mono ?_
  intro e w' hp
  unfold PostIq at hp
  cases hn : listP intP (bts s) with
  | none =>
    rw [hn] at hp
    obtain ⟨rfl, hr, hk⟩ := hp
    exact ⟨none, 0, rfl, fun k hk => absurd hk (by simp [opV]), hr, hk⟩
  | some x =>
    have hf' := op_false hn (numsP_dec s) hf
    subst hf'
    rw [hn] at hp
    obtain ⟨v, rfl, ho, hr, hk⟩ := hp
    obtain ⟨a, cap, rfl, hi⟩ := ho.ints
    exact ⟨a, cap, rfl, hi, hr, hk⟩
theorem wtexts_u (h : Rd w b s f) (hf : f = true → s.size = 0) (hs : s.size ≤ 400) :
    Calls Try.prog 34 #[.pointer (some ⟨b, 0, none⟩)] w fun x w' => ∃ a cap, x = .returned (.slice a ((opV [] (listP textP (bts s))).map ba).length cap) ∧ StrsAt w'.heap.size w' a ((opV [] (listP textP (bts s))).map ba) ∧ Rd w' b (ba (opR (listP textP (bts s)))) (opF f (listP textP (bts s))) ∧ Keep b w w' ∧ ∀ ad, a = some ad → w.heap.size ≤ ad.block := by
  refine (texts_any b s f w h hf (by omega)).mono ?_
  intro e w' hp
  unfold PostS at hp
  cases hn : listP textP (bts s) with
  | none =>
    rw [hn] at hp
    obtain ⟨rfl, hr, hk⟩ := hp
    exact ⟨none, 0, rfl, fun k hk => absurd hk (by simp [opV]), hr, hk, fun ad h => by cases h⟩
  | some x =>
    have hf' := op_false hn (textsP_dec s) hf
    subst hf'
    rw [hn] at hp
    obtain ⟨v, rfl, ho, hr, hk⟩ := hp
    obtain ⟨a, cap, rfl, hi, hm⟩ := ho.strs'
    exact ⟨a, cap, rfl, hi, hr, hk, hm⟩
theorem qtexts_u (h : Rq w b s f) (hf : f = true → s.size = 0) (hs : s.size ≤ 400) :
    Calls Try.prog 35 #[.pointer (some ⟨b, 0, none⟩)] w fun x w' => ∃ a cap, x = .returned (.slice a ((opV [] (listP textP (bts s))).map ba).length cap) ∧ StrsAt w'.heap.size w' a ((opV [] (listP textP (bts s))).map ba) ∧ Rq w' b (ba (opR (listP textP (bts s)))) (opF f (listP textP (bts s))) ∧ Keep b w w' := by
  refine (qtexts_any b s f w h hf (by omega)).mono ?_
  intro e w' hp
  unfold PostSq at hp
  cases hn : listP textP (bts s) with
  | none =>
    rw [hn] at hp
    obtain ⟨rfl, hr, hk⟩ := hp
    exact ⟨none, 0, rfl, fun k hk => absurd hk (by simp [opV]), hr, hk⟩
  | some x =>
    have hf' := op_false hn (textsP_dec s) hf
    subst hf'
    rw [hn] at hp
    obtain ⟨v, rfl, ho, hr, hk⟩ := hp
    obtain ⟨a, cap, rfl, hi⟩ := ho.strs
    exact ⟨a, cap, rfl, hi, hr, hk⟩
end

end Go.Proofs.Ytamjfnpgjcdepaa
