/- Plain: sums, forms, the records of a list of bytes, and what is left of them where bytes are missing or 0. -/
import Derived.Test.YtgocnjiabfmdpaaRP
import Derived.Test.YtgocnjiabfmdpaaDP
namespace Go.Proofs.Ytgocnjiabfmdpaa
set_option maxRecDepth 8000
open Go.RowKit Wire

/-- The sum of the first k bytes, each times its position. -/
def sumTo (l : List UInt8) : Nat → Nat
  | 0 => 0
  | k + 1 => (sumTo l k + (k + 1) * (l.getD k 0).toNat) % 2147483647
def jsum (l : List UInt8) : Nat := sumTo l l.length

theorem sumTo_lt (l : List UInt8) (k : Nat) : sumTo l k < 2147483647 := by
  cases k with
  | zero => simp [sumTo]
  | succ k => exact Nat.mod_lt _ (by omega)
theorem jsum_lt (l : List UInt8) : jsum l < 2147483647 := sumTo_lt l _

def jform (v : List UInt8) : List UInt8 := encText v ++ (dg (jsum v) ++ [59])
def jforms (l : List (List UInt8)) : List UInt8 := (l.map jform).flatten

theorem jform_len (v : List UInt8) : v.length + 5 ≤ (jform v).length := by
  unfold jform encText
  have := dg_pos v.length
  have := dg_pos (jsum v)
  simp only [List.length_append, List.length_cons, List.length_nil]
  omega
theorem jform_len_le (v : List UInt8) (h : v.length ≤ 1000000) : (jform v).length ≤ v.length + 20 := by
  unfold jform encText
  have := dg_len 6 v.length (by omega)
  have := dg_len 9 (jsum v) (by have := jsum_lt v; omega)
  simp only [List.length_append, List.length_cons, List.length_nil]
  omega
theorem jforms_nil : jforms [] = [] := rfl
theorem jforms_cons (v : List UInt8) (l : List (List UInt8)) : jforms (v :: l) = jform v ++ jforms l := by simp [jforms]
theorem jforms_append (a b : List (List UInt8)) : jforms (a ++ b) = jforms a ++ jforms b := by simp [jforms]
theorem jforms_snoc (a : List (List UInt8)) (v : List UInt8) : jforms (a ++ [v]) = jforms a ++ jform v := by simp [jforms]
theorem jforms_count (l : List (List UInt8)) : 5 * l.length ≤ (jforms l).length := by
  induction l with
  | nil => simp
  | cons v l ih => rw [jforms_cons, List.length_append, List.length_cons]; have := jform_len v; omega
theorem jforms_mem {l : List (List UInt8)} {v : List UInt8} (h : v ∈ l) : (jform v).length ≤ (jforms l).length := by
  induction l with
  | nil => cases h
  | cons x l ih =>
    rw [jforms_cons, List.length_append]
    rcases List.mem_cons.1 h with rfl | h
    · omega
    · have := ih h; omega

/-- One record, if the form of one stands there. -/
def step (l : List UInt8) : Option (List UInt8 × List UInt8) :=
  match textP l with
  | none => none
  | some (v, r) => match numP r with
    | none => none
    | some (n, t) => if v.length ≤ 20000 ∧ n = jsum v then some (v, t) else none

theorem step_text {l v r : List UInt8} (h : step l = some (v, r)) : ∃ x, textP l = some (v, x) ∧ numP x = some (jsum v, r) ∧ v.length ≤ 20000 := by
  unfold step at h
  cases h1 : textP l with
  | none => rw [h1] at h; cases h
  | some p =>
    obtain ⟨v', x⟩ := p
    rw [h1] at h
    simp only at h
    cases h2 : numP x with
    | none => rw [h2] at h; cases h
    | some q =>
      obtain ⟨n, t⟩ := q
      rw [h2] at h
      simp only at h
      split at h
      · rename_i hc
        simp only [Option.some.injEq, Prod.mk.injEq] at h
        obtain ⟨rfl, rfl⟩ := h
        exact ⟨x, rfl, by rw [h2, hc.2], hc.1⟩
      · cases h

theorem step_inv {l v r : List UInt8} (h : step l = some (v, r)) : l = jform v ++ r ∧ v.length ≤ 20000 := by
  obtain ⟨x, h1, h2, h3⟩ := step_text h
  refine ⟨?_, h3⟩
  have e1 := textP_inv h1
  have e2 := digP_inv h2
  rw [e1, e2]
  simp [jform]

theorem step_form {v : List UInt8} (h : v.length ≤ 20000) (r : List UInt8) : step (jform v ++ r) = some (v, r) := by
  have e : jform v ++ r = encText v ++ (dg (jsum v) ++ 59 :: r) := by simp [jform]
  unfold step
  rw [e, textP_enc (by omega)]
  simp only
  rw [numP_enc (by have := jsum_lt v; omega)]
  simp [h]

theorem step_lt {l v r : List UInt8} (h : step l = some (v, r)) : r.length < l.length := by
  have := (step_inv h).1
  have h2 := jform_len v
  rw [this, List.length_append]
  omega

def jrecs (l : List UInt8) : List (List UInt8) :=
  match _h : step l with
  | none => []
  | some (v, r) => v :: jrecs r
termination_by l.length
decreasing_by exact step_lt (by assumption)

def jrest (l : List UInt8) : List UInt8 :=
  match _h : step l with
  | none => l
  | some (_, r) => jrest r
termination_by l.length
decreasing_by exact step_lt (by assumption)

theorem jrecs_none {l : List UInt8} (h : step l = none) : jrecs l = [] := by
  rw [jrecs]; split
  · rfl
  · rename_i h2; rw [h] at h2; cases h2
theorem jrest_none {l : List UInt8} (h : step l = none) : jrest l = l := by
  rw [jrest]; split
  · rfl
  · rename_i h2; rw [h] at h2; cases h2
theorem jrecs_some {l v r : List UInt8} (h : step l = some (v, r)) : jrecs l = v :: jrecs r := by
  rw [jrecs]; split
  · rename_i h2; rw [h] at h2; cases h2
  · rename_i v' r' h2; rw [h] at h2; simp only [Option.some.injEq, Prod.mk.injEq] at h2; obtain ⟨rfl, rfl⟩ := h2; rfl
theorem jrest_some {l v r : List UInt8} (h : step l = some (v, r)) : jrest l = jrest r := by
  rw [jrest]; split
  · rename_i h2; rw [h] at h2; cases h2
  · rename_i v' r' h2; rw [h] at h2; simp only [Option.some.injEq, Prod.mk.injEq] at h2; obtain ⟨rfl, rfl⟩ := h2; rfl

theorem jrecs_form {v : List UInt8} (h : v.length ≤ 20000) (r : List UInt8) : jrecs (jform v ++ r) = v :: jrecs r := jrecs_some (step_form h r)
theorem jrest_form {v : List UInt8} (h : v.length ≤ 20000) (r : List UInt8) : jrest (jform v ++ r) = jrest r := jrest_some (step_form h r)

theorem jrecs_forms {l : List (List UInt8)} (h : ∀ v ∈ l, v.length ≤ 20000) (r : List UInt8) : jrecs (jforms l ++ r) = l ++ jrecs r := by
  induction l with
  | nil => rfl
  | cons v l ih => rw [jforms_cons, List.append_assoc, jrecs_form (h v (by simp)), ih (fun x hx => h x (by simp [hx]))]; rfl

theorem step_nil : step [] = none := by rfl
theorem jrecs_nil : jrecs [] = [] := jrecs_none step_nil
theorem jrecs_all {l : List (List UInt8)} (h : ∀ v ∈ l, v.length ≤ 20000) : jrecs (jforms l) = l := by
  have := jrecs_forms h []
  rw [List.append_nil, jrecs_nil, List.append_nil] at this
  exact this

theorem split_recs (k : Nat) : ∀ l : List UInt8, l.length ≤ k → l = jforms (jrecs l) ++ jrest l ∧ (∀ v ∈ jrecs l, v.length ≤ 20000) ∧ step (jrest l) = none := by
  induction k with
  | zero =>
    intro l hl
    have : l = [] := List.eq_nil_of_length_eq_zero (by omega)
    subst this
    rw [jrecs_nil, jrest_none step_nil]
    exact ⟨rfl, fun v hv => (by cases hv), step_nil⟩
  | succ k ih =>
    intro l hl
    cases h : step l with
    | none =>
      rw [jrecs_none h, jrest_none h]
      exact ⟨rfl, fun v hv => (by cases hv), h⟩
    | some p =>
      obtain ⟨v, r⟩ := p
      rw [jrecs_some h, jrest_some h]
      have h1 := step_lt h
      obtain ⟨h2, h3, h4⟩ := ih r (by omega)
      have h5 := step_inv h
      refine ⟨?_, fun x hx => ?_, h4⟩
      · rw [jforms_cons, List.append_assoc, ← h2]; exact h5.1
      · rcases List.mem_cons.1 hx with rfl | hx
        · exact h5.2
        · exact h3 x hx

theorem recs_split (l : List UInt8) : l = jforms (jrecs l) ++ jrest l := (split_recs _ l (Nat.le_refl _)).1
theorem recs_small (l : List UInt8) : ∀ v ∈ jrecs l, v.length ≤ 20000 := (split_recs _ l (Nat.le_refl _)).2.1
theorem rest_none (l : List UInt8) : step (jrest l) = none := (split_recs _ l (Nat.le_refl _)).2.2
theorem recs_len (l : List UInt8) : (jforms (jrecs l)).length + (jrest l).length = l.length := by
  have := recs_split l
  conv => rhs; rw [this]
  rw [List.length_append]
theorem recs_take (l : List UInt8) : l.take (jforms (jrecs l)).length = jforms (jrecs l) := by
  have h := congrArg (List.take (jforms (jrecs l)).length) (recs_split l)
  exact h.trans (by simp)
theorem recs_again (l : List UInt8) : jrecs (jforms (jrecs l)) = jrecs l := jrecs_all (recs_small l)

/-- t has the bytes of s, or 0, as far as it reaches. -/
def Under : List UInt8 → List UInt8 → Prop
  | [], _ => True
  | _ :: _, [] => False
  | c :: t, x :: s => (c = x ∨ c = 0) ∧ Under t s

theorem Under.refl (t : List UInt8) : Under t t := by
  induction t with
  | nil => trivial
  | cons c t ih => exact ⟨.inl rfl, ih⟩

theorem Under.front {a t s : List UInt8} (h : Under (a ++ t) s) (ha : ∀ c ∈ a, c ≠ 0) : ∃ s2, s = a ++ s2 ∧ Under t s2 := by
  induction a generalizing s with
  | nil => exact ⟨s, rfl, h⟩
  | cons c a ih =>
    cases s with
    | nil => exact absurd h (by simp [Under])
    | cons x s =>
      obtain ⟨h1, h2⟩ := h
      obtain ⟨s2, rfl, h3⟩ := ih h2 (fun d hd => ha d (by simp [hd]))
      rcases h1 with rfl | h1
      · exact ⟨s2, rfl, h3⟩
      · exact absurd h1 (ha c (by simp))

theorem Under.split {a x b y : List UInt8} (h : Under (a ++ x) (b ++ y)) (hl : a.length = b.length) : Under a b ∧ Under x y := by
  induction a generalizing b with
  | nil =>
    have : b = [] := List.eq_nil_of_length_eq_zero (by simpa using hl.symm)
    subst this
    exact ⟨trivial, h⟩
  | cons c a ih =>
    cases b with
    | nil => simp at hl
    | cons d b =>
      obtain ⟨h1, h2⟩ := h
      obtain ⟨h3, h4⟩ := ih h2 (by simpa using hl)
      exact ⟨⟨h1, h3⟩, h4⟩

theorem Under.get {t s : List UInt8} (h : Under t s) (i : Nat) : t.getD i 0 = s.getD i 0 ∨ t.getD i 0 = 0 := by
  induction t generalizing s i with
  | nil => right; simp
  | cons c t ih =>
    cases s with
    | nil => exact absurd h (by simp [Under])
    | cons x s =>
      cases i with
      | zero => simpa using h.1
      | succ i => simpa using ih h.2 i

theorem Under.of {t s : List UInt8} (hl : t.length ≤ s.length) (h : ∀ i, i < t.length → t.getD i 0 = s.getD i 0 ∨ t.getD i 0 = 0) : Under t s := by
  induction t generalizing s with
  | nil => trivial
  | cons c t ih =>
    cases s with
    | nil => simp at hl
    | cons x s =>
      refine ⟨by simpa using h 0 (by simp), ih (by simpa using hl) (fun i hi => ?_)⟩
      simpa using h (i + 1) (by simpa using hi)

theorem Under.len {t s : List UInt8} (h : Under t s) : t.length ≤ s.length := by
  induction t generalizing s with
  | nil => simp
  | cons c t ih =>
    cases s with
    | nil => exact absurd h (by simp [Under])
    | cons x s => have := ih h.2; simp; omega

theorem Under.trans {a b c : List UInt8} (h : Under a b) (k : Under b c) : Under a c := by
  refine Under.of (Nat.le_trans h.len k.len) (fun i _ => ?_)
  rcases h.get i with h1 | h1
  · rw [h1]; exact k.get i
  · exact .inr h1

/-- The sum without its modulus. -/
def rawTo (l : List UInt8) : Nat → Nat
  | 0 => 0
  | k + 1 => rawTo l k + (k + 1) * (l.getD k 0).toNat

theorem rawTo_le (l : List UInt8) (k : Nat) : 2 * rawTo l k ≤ 255 * (k * (k + 1)) := by
  induction k with
  | zero => simp [rawTo]
  | succ k ih =>
    have h1 : (l.getD k 0).toNat ≤ 255 := by have := (l.getD k 0).toNat_lt; omega
    have h2 : (k + 1) * (l.getD k 0).toNat ≤ (k + 1) * 255 := Nat.mul_le_mul_left _ h1
    have e1 : (k + 1) * (k + 1 + 1) = k * (k + 1) + 2 * (k + 1) := by rw [Nat.mul_comm, ← Nat.add_mul]
    rw [rawTo, e1]
    omega

theorem sumTo_raw (l : List UInt8) (k : Nat) (hk : k ≤ 4000) : sumTo l k = rawTo l k := by
  induction k with
  | zero => rfl
  | succ k ih =>
    have h1 := rawTo_le l (k + 1)
    have h2 : (k + 1) * (k + 1 + 1) ≤ 4000 * 4001 := Nat.mul_le_mul hk (by omega)
    have h3 : rawTo l (k + 1) = rawTo l k + (k + 1) * (l.getD k 0).toNat := rfl
    rw [sumTo, ih (by omega), h3]
    rw [h3] at h1
    exact Nat.mod_eq_of_lt (by omega)

theorem rawTo_mono {a b : List UInt8} (h : ∀ i, (a.getD i 0).toNat ≤ (b.getD i 0).toNat) (k : Nat) : rawTo a k ≤ rawTo b k := by
  induction k with
  | zero => simp [rawTo]
  | succ k ih => rw [rawTo, rawTo]; have := Nat.mul_le_mul_left (k + 1) (h k); omega

theorem rawTo_eq {a b : List UInt8} (h : ∀ i, (a.getD i 0).toNat ≤ (b.getD i 0).toNat) (k : Nat) (he : rawTo a k = rawTo b k) : ∀ i, i < k → (a.getD i 0).toNat = (b.getD i 0).toNat := by
  induction k with
  | zero => intro i hi; omega
  | succ k ih =>
    have h1 := rawTo_mono h k
    have h2 := Nat.mul_le_mul_left (k + 1) (h k)
    rw [rawTo, rawTo] at he
    have h3 : rawTo a k = rawTo b k := by omega
    have h4 : (k + 1) * (a.getD k 0).toNat = (k + 1) * (b.getD k 0).toNat := by omega
    intro i hi
    rcases Nat.lt_or_ge i k with hik | hik
    · exact ih h3 i hik
    · have : i = k := by omega
      subst this
      exact Nat.eq_of_mul_eq_mul_left (by omega) h4

theorem sum_same {a b : List UInt8} (h : Under a b) (hl : a.length = b.length) (h4 : b.length ≤ 4000) (hs : jsum a = jsum b) : a = b := by
  have hle : ∀ i, (a.getD i 0).toNat ≤ (b.getD i 0).toNat := fun i => by
    rcases h.get i with e | e
    · rw [e]; exact Nat.le_refl _
    · rw [e]; simp
  unfold jsum at hs
  rw [hl, sumTo_raw a _ h4, sumTo_raw b _ h4] at hs
  have := rawTo_eq hle _ hs
  exact ext_getD hl (fun i hi => UInt8.toNat_inj.1 (this i (by omega)))

theorem dg_ne0 (n : Nat) : ∀ c ∈ dg n, c ≠ 0 := fun c hc e => by
  have := dg_all n c hc
  subst e
  revert this
  decide

/-- A record that is read where bytes of a form may be missing or 0 is the record of this form. -/
theorem torn_step {t v rest v' r' : List UInt8} (h : Under t (jform v ++ rest)) (hv : v.length ≤ 4000) (hs : step t = some (v', r')) : v' = v ∧ t = jform v ++ r' ∧ Under r' rest := by
  obtain ⟨e, hv'⟩ := step_inv hs
  subst e
  have e1 : jform v' ++ r' = (dg v'.length ++ [58]) ++ (v' ++ (44 :: (dg (jsum v') ++ 59 :: r'))) := by simp [jform, encText]
  have e2 : jform v ++ rest = dg v.length ++ 58 :: (v ++ (44 :: (dg (jsum v) ++ 59 :: rest))) := by simp [jform, encText]
  have h' := h
  rw [e1, e2] at h'
  obtain ⟨s2, h1, h2⟩ := h'.front (fun c hc => by
    rcases List.mem_append.1 hc with hc | hc
    · exact dg_ne0 _ c hc
    · simp at hc; subst hc; decide)
  have h3 := digP_dg (most := 9223372036854775807) notDg58 (n := v'.length) (by omega) s2
  have h4 := digP_dg (most := 9223372036854775807) notDg58 (n := v.length) (by omega) (v ++ (44 :: (dg (jsum v) ++ 59 :: rest)))
  rw [h1, List.append_assoc, List.singleton_append, h3] at h4
  simp only [Option.some.injEq, Prod.mk.injEq] at h4
  obtain ⟨hl, rfl⟩ := h4
  obtain ⟨h5, h6⟩ := h2.split hl
  rw [show 44 :: (dg (jsum v') ++ 59 :: r') = (44 :: (dg (jsum v') ++ [59])) ++ r' by simp] at h6
  obtain ⟨s3, h7, h8⟩ := h6.front (fun c hc => by
    simp only [List.mem_cons, List.mem_append, List.not_mem_nil, or_false] at hc
    rcases hc with rfl | hc | rfl
    · decide
    · exact dg_ne0 _ c hc
    · decide)
  rw [show (44 :: (dg (jsum v') ++ [59])) ++ s3 = 44 :: (dg (jsum v') ++ 59 :: s3) by simp] at h7
  injection h7 with _ h7
  have h9 := digP_dg (most := 9223372036854775807) notDg59 (n := jsum v') (by have := jsum_lt v'; omega) s3
  have h10 := digP_dg (most := 9223372036854775807) notDg59 (n := jsum v) (by have := jsum_lt v; omega) rest
  rw [h7, h9] at h10
  simp only [Option.some.injEq, Prod.mk.injEq] at h10
  obtain ⟨hm, rfl⟩ := h10
  have := sum_same h5 hl hv hm
  subst this
  exact ⟨rfl, rfl, h8⟩

theorem torn_recs {t : List UInt8} {l : List (List UInt8)} (h : Under t (jforms l)) (hl : ∀ v ∈ l, v.length ≤ 4000) : ∃ k, k ≤ l.length ∧ jrecs t = l.take k := by
  induction l generalizing t with
  | nil =>
    have := h.len
    have : t = [] := List.eq_nil_of_length_eq_zero (by rw [jforms_nil] at this; simpa using this)
    subst this
    exact ⟨0, Nat.le_refl _, by rw [jrecs_nil]; rfl⟩
  | cons v l ih =>
    cases hs : step t with
    | none => exact ⟨0, by omega, by rw [jrecs_none hs]; rfl⟩
    | some p =>
      obtain ⟨v', r'⟩ := p
      rw [jforms_cons] at h
      obtain ⟨rfl, e, hu⟩ := torn_step h (hl v (by simp)) hs
      obtain ⟨k, hk, e2⟩ := ih hu (fun x hx => hl x (by simp [hx]))
      exact ⟨k + 1, by simp; omega, by rw [jrecs_some hs, e2]; rfl⟩

end Go.Proofs.Ytgocnjiabfmdpaa
