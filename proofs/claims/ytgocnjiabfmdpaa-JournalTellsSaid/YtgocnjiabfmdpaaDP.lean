/- The simulated disk as a plain state: what each call makes of it. Bytes put into a list of bytes. What holds of the disk's plain state after every call. -/
namespace Go.Proofs.Ytgocnjiabfmdpaa
set_option maxRecDepth 8000

/-- t put into b at the offset n, after bytes 0 if b ends before it. -/
def putL (b : List UInt8) (n : Nat) (t : List UInt8) : List UInt8 :=
  (b ++ List.replicate (n + t.length - b.length) 0).take n ++ (t ++ (b ++ List.replicate (n + t.length - b.length) 0).drop (n + t.length))

theorem putL_length (b : List UInt8) (n : Nat) (t : List UInt8) : (putL b n t).length = max b.length (n + t.length) := by
  unfold putL
  simp only [List.length_append, List.length_take, List.length_drop, List.length_replicate]
  omega

theorem ext_getD {a b : List UInt8} (hl : a.length = b.length) (h : ∀ i, i < a.length → a.getD i 0 = b.getD i 0) : a = b := by
  apply List.ext_getElem hl
  intro i h1 h2
  have := h i h1
  rw [List.getD_eq_getElem?_getD, List.getD_eq_getElem?_getD, List.getElem?_eq_getElem h1, List.getElem?_eq_getElem h2] at this
  simpa using this

theorem getD_ge {a : List UInt8} {i : Nat} (h : a.length ≤ i) : a.getD i 0 = 0 := by
  rw [List.getD_eq_getElem?_getD, List.getElem?_eq_none h]; rfl

theorem getD_zeros (b : List UInt8) (k i : Nat) : (b ++ List.replicate k 0).getD i 0 = b.getD i 0 := by
  simp only [List.getD_eq_getElem?_getD]
  rw [List.getElem?_append]
  split
  · rfl
  · rename_i h
    rw [List.getElem?_eq_none (by omega : b.length ≤ i), List.getElem?_replicate]
    split <;> rfl

theorem getD_take (b : List UInt8) (n i : Nat) : (b.take n).getD i 0 = if i < n then b.getD i 0 else 0 := by
  simp only [List.getD_eq_getElem?_getD, List.getElem?_take]
  split <;> rfl

theorem getD_drop (b : List UInt8) (n i : Nat) : (b.drop n).getD i 0 = b.getD (n + i) 0 := by
  simp only [List.getD_eq_getElem?_getD, List.getElem?_drop]

theorem putL_getD (b : List UInt8) (n : Nat) (t : List UInt8) (i : Nat) : (putL b n t).getD i 0 = if n ≤ i ∧ i < n + t.length then t.getD (i - n) 0 else b.getD i 0 := by
  have hz := getD_zeros b (n + t.length - b.length)
  have hl : (b ++ List.replicate (n + t.length - b.length) (0 : UInt8)).length = max b.length (n + t.length) := by simp; omega
  unfold putL
  generalize (b ++ List.replicate (n + t.length - b.length) (0 : UInt8)) = e at hz hl
  simp only [List.getD_eq_getElem?_getD] at hz ⊢
  rw [List.getElem?_append, List.length_take]
  by_cases h1 : i < n
  · rw [if_pos (by omega), List.getElem?_take, if_pos h1, hz, if_neg (by omega)]
  · rw [if_neg (by omega), List.getElem?_append]
    by_cases h2 : i < n + t.length
    · rw [if_pos (by omega), if_pos (by omega)]
      congr 2; omega
    · rw [if_neg (by omega), if_neg (by omega), List.getElem?_drop, ← hz i]
      congr 2; omega

/-- The disk: its files' bytes and durable parts, which sectors are pending (by file and number), in which order, and the rest. -/
structure St where
  now : Int → List UInt8
  dur : Int → List UInt8
  sec : Int → Int → Bool
  pend : List (Int × Int)
  down : Bool
  lost : Int
  armed : Int
  keep : List Int

def St.new : St := ⟨fun _ => [], fun _ => [], fun _ _ => false, [], false, 0, 0, []⟩

def isFile (f : Int) : Bool := decide (0 ≤ f) && decide (f < 16)

def upd {α : Type} (g : Int → α) (f : Int) (x : α) : Int → α := fun i => if i = f then x else g i

theorem upd_same {α : Type} (g : Int → α) (f : Int) (x : α) : upd g f x f = x := by simp [upd]
theorem upd_ne {α : Type} (g : Int → α) {f i : Int} (x : α) (h : i ≠ f) : upd g f x i = g i := by simp [upd, h]

/-- The errors that come before all others: 8 ErrDown, 1 ErrArg. -/
def St.ready (s : St) (f : Int) : Int := if s.down = true then 8 else if isFile f = true then 0 else 1

def St.addSec (s : St) (f n : Int) : St := if s.sec f n = true then s else { s with sec := upd s.sec f (upd (s.sec f) n true), pend := s.pend ++ [(f, n)] }

def St.addSecs (s : St) (f n : Int) : Nat → St
  | 0 => s
  | k + 1 => (s.addSec f n).addSecs f (n + 1) k

theorem St.addSecs_succ (s : St) (f n : Int) (k : Nat) : s.addSecs f n (k + 1) = (s.addSecs f n k).addSec f (n + k) := by
  induction k generalizing s n with
  | zero => simp [addSecs]
  | succ k ih =>
    rw [addSecs, ih, addSecs]
    congr 1
    push_cast
    omega

/-- What a write that is in order makes of the disk. -/
def St.wrote (s : St) (f a : Int) (t : List UInt8) : St := { s with now := upd s.now f (putL (s.now f) a.toNat t) }

def St.secs (a : Int) (t : List UInt8) : Nat := ((a + t.length - 1) / 64 - a / 64).toNat + 1

/-- A write, without the scheduled crash. -/
def St.wr (s : St) (f a : Int) (t : List UInt8) : St × Int :=
  if s.ready f ≠ 0 then (s, s.ready f) else if a < 0 then (s, 1) else if a > 16777216 - t.length then (s, 6) else if t = [] then (s, 0)
  else ((s.wrote f a t).addSecs f (a / 64) (St.secs a t), 0)

/-- The bytes of the sector with the number n. -/
def secOf (l : List UInt8) (n : Int) : List UInt8 := (l.drop (64 * n).toNat).take 64

/-- A pending sector survives. -/
def St.setl (s : St) (p : Int × Int) : St := { s with dur := upd s.dur p.1 (putL (s.dur p.1) (64 * p.2).toNat (secOf (s.now p.1) p.2)) }

def St.setls (s : St) : List (Int × Int) → St
  | [] => s
  | p :: l => (s.setl p).setls l

theorem St.setls_snoc (s : St) (l : List (Int × Int)) (p : Int × Int) : s.setls (l ++ [p]) = (s.setls l).setl p := by
  induction l generalizing s with
  | nil => rfl
  | cons q l ih => exact ih _

/-- Whether the sector with the index i survives. -/
def survives (keep : List Int) (i : Nat) : Bool := decide (0 < keep.length) && (keep.getD (i % keep.length) 0 % 2 == 1)

/-- The sectors of the list that survive, from the index i on. -/
def chosen (keep : List Int) : Nat → List (Int × Int) → List (Int × Int)
  | _, [] => []
  | i, p :: l => if survives keep i = true then p :: chosen keep (i + 1) l else chosen keep (i + 1) l

theorem chosen_snoc (keep : List Int) (i : Nat) (l : List (Int × Int)) (p : Int × Int) : chosen keep i (l ++ [p]) = chosen keep i l ++ (if survives keep (i + l.length) = true then [p] else []) := by
  induction l generalizing i with
  | nil => simp [chosen]
  | cons q l ih =>
    simp only [List.cons_append, chosen, List.length_cons, ih]
    rw [show i + 1 + l.length = i + (l.length + 1) by omega]
    split <;> simp

def St.fallen (s : St) : St := { s with now := s.dur, sec := fun _ _ => false, pend := [], down := true, armed := 0, keep := [] }

def St.crash (s : St) (keep : List Int) : St := if s.down = true then s else (s.setls (chosen keep 0 s.pend)).fallen

/-- The scheduled crash counts a call. -/
def St.count (s : St) : St := if s.down = true ∨ s.armed = 0 then s else { s with armed := s.armed - 1 }
def St.hit (s : St) : Bool := !s.down && s.armed == 1

def St.write (s : St) (f a : Int) (t : List UInt8) : St × Int :=
  if s.hit = true then (((s.count.wr f a t).1).crash ((s.count.wr f a t).1).keep, 8) else s.count.wr f a t

/-- The sectors of a file are no longer pending. -/
def St.forget (s : St) (f : Int) : St := { s with sec := upd s.sec f (fun _ => false), pend := s.pend.filter (fun p => !(p.1 == f)) }

def St.synced (s : St) (f : Int) : St := { s with dur := upd s.dur f (s.now f) }.forget f

def St.sync (s : St) (f : Int) : St × Int :=
  if s.hit = true then (s.count.crash s.keep, 8) else if s.count.ready f ≠ 0 then (s.count, s.count.ready f)
  else if s.lost > 0 then ({ s.count with lost := s.lost - 1 }, 9) else (s.count.synced f, 0)

def St.cut (s : St) (f : Int) (size : Nat) : St := { s with now := upd s.now f ((s.now f).take size), dur := upd s.dur f ((s.now f).take size) }.forget f

def St.trunc (s : St) (f size : Int) : St × Int :=
  if s.hit = true then (s.count.crash s.keep, 8) else if s.count.ready f ≠ 0 then (s.count, s.count.ready f)
  else if size < 0 ∨ size > (s.now f).length then (s.count, 1) else (s.count.cut f size.toNat, 0)

def St.lose (s : St) (n : Int) : St := { s with lost := max n 0 }
def St.arm (s : St) (n : Int) (keep : List Int) : St := { s with armed := max n 0, keep := keep }
def St.start (s : St) : St := { s with down := false }

/-- Those of the size bytes from the offset a on that exist. -/
def part (l : List UInt8) (a size : Int) : List UInt8 := (l.drop a.toNat).take size.toNat

def St.read (s : St) (f a size : Int) : List UInt8 × Int :=
  if s.ready f ≠ 0 then ([], s.ready f) else if a < 0 ∨ size < 0 then ([], 1) else (part (s.now f) a size, 0)

def St.size (s : St) (f : Int) : Int := if isFile f = true then (s.now f).length else 0

end Go.Proofs.Ytgocnjiabfmdpaa

namespace Go.Proofs.Ytgocnjiabfmdpaa
set_option maxRecDepth 8000

structure Inv (s : St) : Prop where
  le : ∀ f, (s.dur f).length ≤ (s.now f).length
  eqb : ∀ f (i : Nat), i < (s.now f).length → s.sec f ((i / 64 : Nat) : Int) = false → (s.dur f).getD i 0 = (s.now f).getD i 0
  tail : ∀ f, (s.dur f).length < (s.now f).length → s.sec f ((((s.now f).length - 1) / 64 : Nat) : Int) = true
  mem : ∀ f n, (f, n) ∈ s.pend ↔ s.sec f n = true
  nodup : s.pend.Nodup
  rng : ∀ f n, s.sec f n = true → isFile f = true ∧ 0 ≤ n ∧ 64 * n < (s.now f).length
  cap : ∀ f, (s.now f).length ≤ 16777216
  lost : 0 ≤ s.lost ∧ s.lost ≤ 9223372036854775807
  armed : 0 ≤ s.armed ∧ s.armed ≤ 9223372036854775807
  kept : s.keep.length ≤ 1000000

theorem isFile_iff {f : Int} : isFile f = true ↔ 0 ≤ f ∧ f < 16 := by simp [isFile]

theorem Inv.new : Inv St.new := by
  constructor <;> simp [St.new]

theorem addSec_sec (s : St) (f n g m : Int) : (s.addSec f n).sec g m = (s.sec g m || (decide (g = f) && decide (m = n))) := by
  unfold St.addSec
  by_cases h : s.sec f n = true
  · rw [if_pos h]
    by_cases h1 : g = f ∧ m = n
    · obtain ⟨rfl, rfl⟩ := h1; simp [h]
    · by_cases h2 : g = f <;> by_cases h3 : m = n <;> simp [h2, h3] <;> exact absurd ⟨h2, h3⟩ h1
  · rw [if_neg h]
    by_cases h2 : g = f
    · subst h2
      by_cases h3 : m = n
      · subst h3; simp [upd]
      · simp [upd, h3]
    · simp [upd, h2]

theorem addSec_mem {s : St} {f n : Int} (hm : ∀ g m, (g, m) ∈ s.pend ↔ s.sec g m = true) (hn : s.pend.Nodup) : (∀ g m, (g, m) ∈ (s.addSec f n).pend ↔ (s.addSec f n).sec g m = true) ∧ (s.addSec f n).pend.Nodup := by
  constructor
  · intro g m
    rw [addSec_sec]
    unfold St.addSec
    by_cases h : s.sec f n = true
    · rw [if_pos h, hm]
      constructor
      · intro h1; simp [h1]
      · intro h1
        simp only [Bool.or_eq_true, Bool.and_eq_true, decide_eq_true_eq] at h1
        rcases h1 with h1 | ⟨rfl, rfl⟩
        · exact h1
        · exact h
    · rw [if_neg h]
      simp only [List.mem_append, List.mem_singleton, Prod.mk.injEq, Bool.or_eq_true, Bool.and_eq_true, decide_eq_true_eq, hm]
  · unfold St.addSec
    by_cases h : s.sec f n = true
    · rw [if_pos h]; exact hn
    · rw [if_neg h]
      refine List.nodup_append.2 ⟨hn, by simp, ?_⟩
      intro a ha b hb e
      simp at hb
      subst e; subst hb
      exact h ((hm f n).1 ha)

theorem addSec_rest (s : St) (f n : Int) : (s.addSec f n).now = s.now ∧ (s.addSec f n).dur = s.dur ∧ (s.addSec f n).down = s.down ∧ (s.addSec f n).lost = s.lost ∧ (s.addSec f n).armed = s.armed ∧ (s.addSec f n).keep = s.keep := by
  unfold St.addSec; split <;> simp

theorem addSecs_rest (s : St) (f n : Int) (k : Nat) : (s.addSecs f n k).now = s.now ∧ (s.addSecs f n k).dur = s.dur ∧ (s.addSecs f n k).down = s.down ∧ (s.addSecs f n k).lost = s.lost ∧ (s.addSecs f n k).armed = s.armed ∧ (s.addSecs f n k).keep = s.keep := by
  induction k with
  | zero => simp [St.addSecs]
  | succ k ih =>
    rw [St.addSecs_succ]
    obtain ⟨a1, a2, a3, a4, a5, a6⟩ := addSec_rest (s.addSecs f n k) f (n + k)
    exact ⟨a1.trans ih.1, a2.trans ih.2.1, a3.trans ih.2.2.1, a4.trans ih.2.2.2.1, a5.trans ih.2.2.2.2.1, a6.trans ih.2.2.2.2.2⟩

theorem addSecs_sec (s : St) (f n : Int) (k : Nat) (g m : Int) : (s.addSecs f n k).sec g m = (s.sec g m || (decide (g = f) && decide (n ≤ m ∧ m < n + k))) := by
  induction k with
  | zero =>
    have : ¬ (n ≤ m ∧ m < n + (0 : Nat)) := by omega
    rw [St.addSecs, decide_eq_false this]; simp
  | succ k ih =>
    rw [St.addSecs_succ, addSec_sec, ih, Bool.eq_iff_iff]
    simp only [Bool.or_eq_true, Bool.and_eq_true, decide_eq_true_eq]
    constructor
    · rintro ((h | ⟨h, h2⟩) | ⟨h, rfl⟩)
      · exact Or.inl h
      · exact Or.inr ⟨h, by omega⟩
      · exact Or.inr ⟨h, by omega⟩
    · rintro (h | ⟨h, h2⟩)
      · exact Or.inl (Or.inl h)
      · by_cases h3 : m = n + k
        · exact Or.inr ⟨h, h3⟩
        · exact Or.inl (Or.inr ⟨h, by omega⟩)

theorem addSecs_mem {s : St} {f n : Int} (k : Nat) (hm : ∀ g m, (g, m) ∈ s.pend ↔ s.sec g m = true) (hn : s.pend.Nodup) : (∀ g m, (g, m) ∈ (s.addSecs f n k).pend ↔ (s.addSecs f n k).sec g m = true) ∧ (s.addSecs f n k).pend.Nodup := by
  induction k with
  | zero => exact ⟨hm, hn⟩
  | succ k ih =>
    rw [St.addSecs_succ]
    exact addSec_mem ih.1 ih.2

theorem secs_range {a : Int} {t : List UInt8} (ht : 0 < t.length) (m : Int) : (a / 64 ≤ m ∧ m < a / 64 + (St.secs a t : Nat)) ↔ (64 * m < a + t.length ∧ a < 64 * m + 64) := by
  unfold St.secs
  omega

theorem Inv.ofWr {s : St} (h : Inv s) {f a : Int} {t : List UInt8} (hf : isFile f = true) (h0 : 0 ≤ a) (ht : 0 < t.length) (hc : a + t.length ≤ 16777216) : Inv ((s.wrote f a t).addSecs f (a / 64) (St.secs a t)) := by
  obtain ⟨r1, r2, r3, r4, r5, r6⟩ := addSecs_rest (s.wrote f a t) f (a / 64) (St.secs a t)
  have rs := addSecs_sec (s.wrote f a t) f (a / 64) (St.secs a t)
  have rm := addSecs_mem (s := s.wrote f a t) (f := f) (n := a / 64) (St.secs a t) (fun g m => h.mem g m) h.nodup
  generalize (s.wrote f a t).addSecs f (a / 64) (St.secs a t) = s' at r1 r2 r3 r4 r5 r6 rs rm
  have rs' : ∀ g m, s'.sec g m = true ↔ (s.sec g m = true ∨ (g = f ∧ 64 * m < a + t.length ∧ a < 64 * m + 64)) := by
    intro g m
    rw [rs g m]
    simp only [Bool.or_eq_true, Bool.and_eq_true, decide_eq_true_eq, secs_range ht]
    exact Iff.rfl
  have hnow : ∀ g, g ≠ f → s'.now g = s.now g := fun g hg => by rw [r1]; exact upd_ne _ _ hg
  have hnf : s'.now f = putL (s.now f) a.toNat t := by rw [r1]; exact upd_same _ _ _
  have hdur : s'.dur = s.dur := r2
  have hlen : (s'.now f).length = max (s.now f).length (a.toNat + t.length) := by rw [hnf, putL_length]
  refine ⟨?_, ?_, ?_, rm.1, rm.2, ?_, ?_, by rw [r4]; exact h.lost, by rw [r5]; exact h.armed, by rw [r6]; exact h.kept⟩
  · intro g
    rw [hdur]
    by_cases hg : g = f
    · subst hg; rw [hlen]; have := h.le g; omega
    · rw [hnow g hg]; exact h.le g
  · intro g i hi hs
    rw [hdur]
    have hs' : ¬ s'.sec g ((i / 64 : Nat) : Int) = true := by rw [hs]; simp
    rw [rs'] at hs'
    by_cases hg : g = f
    · subst hg
      rw [hlen] at hi
      rw [hnf, putL_getD]
      have hni : ¬ (a.toNat ≤ i ∧ i < a.toNat + t.length) := by
        intro hh
        exact hs' (Or.inr ⟨rfl, by omega, by omega⟩)
      rw [if_neg hni]
      by_cases hil : i < (s.now g).length
      · refine h.eqb g i hil ?_
        cases hsec : s.sec g ((i / 64 : Nat) : Int)
        · rfl
        · exact absurd (Or.inl hsec) hs'
      · have := h.le g
        rw [getD_ge (by omega), getD_ge (by omega)]
    · rw [hnow g hg] at hi ⊢
      refine h.eqb g i hi ?_
      cases hsec : s.sec g ((i / 64 : Nat) : Int)
      · rfl
      · exact absurd (Or.inl hsec) hs'
  · intro g hl
    rw [hdur] at hl
    rw [rs']
    by_cases hg : g = f
    · subst hg
      rw [hlen] at hl ⊢
      by_cases h1 : a.toNat + t.length ≤ (s.now g).length
      · rw [Nat.max_eq_left h1] at hl ⊢
        exact Or.inl (h.tail g hl)
      · right
        refine ⟨rfl, ?_, ?_⟩ <;> omega
    · rw [hnow g hg] at hl ⊢
      exact Or.inl (h.tail g hl)
  · intro g m hs
    rw [rs'] at hs
    rcases hs with hs | ⟨rfl, h2, h3⟩
    · obtain ⟨a1, a2, a3⟩ := h.rng g m hs
      refine ⟨a1, a2, ?_⟩
      by_cases hg : g = f
      · subst hg; rw [hlen]; omega
      · rw [hnow g hg]; exact a3
    · refine ⟨hf, by omega, ?_⟩
      rw [hlen]; omega
  · intro g
    by_cases hg : g = f
    · subst hg; rw [hlen]; have := h.cap g; omega
    · rw [hnow g hg]; exact h.cap g

theorem secOf_length (l : List UInt8) (n : Int) : (secOf l n).length = min 64 (l.length - (64 * n).toNat) := by
  unfold secOf; simp [List.length_take, List.length_drop]

theorem secOf_getD (l : List UInt8) (n : Int) (i : Nat) (h : i < 64) : (secOf l n).getD i 0 = l.getD ((64 * n).toNat + i) 0 := by
  unfold secOf
  rw [getD_take, if_pos h, getD_drop]

/-- The bytes of a durable part after some sectors have survived. -/
theorem setl_dur {s : St} {f n : Int} (h0 : 0 ≤ n) (h : 64 * n < (s.now f).length) :
    (∀ g, g ≠ f → (s.setl (f, n)).dur g = s.dur g) ∧ ((s.setl (f, n)).dur f).length = max (s.dur f).length (min (64 * n.toNat + 64) (s.now f).length) ∧
    ∀ i, ((s.setl (f, n)).dur f).getD i 0 = if i / 64 = n.toNat ∧ i < (s.now f).length then (s.now f).getD i 0 else (s.dur f).getD i 0 := by
  have hl := secOf_length (s.now f) n
  refine ⟨fun g hg => upd_ne _ _ hg, ?_, fun i => ?_⟩
  · show (upd s.dur f (putL (s.dur f) (64 * n).toNat (secOf (s.now f) n)) f).length = _
    rw [upd_same, putL_length, hl]; omega
  · show (upd s.dur f (putL (s.dur f) (64 * n).toNat (secOf (s.now f) n)) f).getD i 0 = _
    rw [upd_same, putL_getD]
    by_cases hc : i / 64 = n.toNat ∧ i < (s.now f).length
    · rw [if_pos (by rw [hl]; omega), if_pos hc, secOf_getD _ _ _ (by omega)]
      congr 1; omega
    · rw [if_neg (by rw [hl]; omega), if_neg hc]

theorem setl_rest (s : St) (p : Int × Int) : (s.setl p).now = s.now ∧ (s.setl p).sec = s.sec ∧ (s.setl p).pend = s.pend ∧ (s.setl p).down = s.down ∧ (s.setl p).lost = s.lost ∧ (s.setl p).armed = s.armed ∧ (s.setl p).keep = s.keep :=
  ⟨rfl, rfl, rfl, rfl, rfl, rfl, rfl⟩

theorem setls_rest (s : St) (l : List (Int × Int)) : (s.setls l).now = s.now ∧ (s.setls l).sec = s.sec ∧ (s.setls l).pend = s.pend ∧ (s.setls l).down = s.down ∧ (s.setls l).lost = s.lost ∧ (s.setls l).armed = s.armed ∧ (s.setls l).keep = s.keep := by
  induction l generalizing s with
  | nil => exact ⟨rfl, rfl, rfl, rfl, rfl, rfl, rfl⟩
  | cons p l ih => exact ih (s.setl p)

theorem Inv.setl {s : St} (h : Inv s) {p : Int × Int} (hp : s.sec p.1 p.2 = true) : Inv (s.setl p) := by
  obtain ⟨f, n⟩ := p
  obtain ⟨hf, h0, hn⟩ := h.rng f n hp
  obtain ⟨d1, d2, d3⟩ := setl_dur (s := s) (f := f) h0 hn
  refine ⟨?_, ?_, ?_, h.mem, h.nodup, h.rng, h.cap, h.lost, h.armed, h.kept⟩
  · intro g
    by_cases hg : g = f
    · subst hg
      rw [d2]
      show _ ≤ (s.now g).length
      have := h.le g; omega
    · rw [d1 g hg]; exact h.le g
  · intro g i hi hs
    by_cases hg : g = f
    · subst hg
      rw [d3]
      show _ = (s.now g).getD i 0
      split
      · rfl
      · exact h.eqb g i hi hs
    · rw [d1 g hg]; exact h.eqb g i hi hs
  · intro g hl
    refine h.tail g ?_
    by_cases hg : g = f
    · subst hg
      rw [d2] at hl
      have h4 : max (s.dur g).length (min (64 * n.toNat + 64) (s.now g).length) < (s.now g).length := hl
      omega
    · rw [d1 g hg] at hl; exact hl

theorem Inv.setls {s : St} (h : Inv s) {l : List (Int × Int)} (hp : ∀ p ∈ l, s.sec p.1 p.2 = true) : Inv (s.setls l) := by
  induction l generalizing s with
  | nil => exact h
  | cons q l ih =>
    exact ih (h.setl (hp q (by simp))) (fun p hp' => hp p (by simp [hp']))

/-- What the durable part of a file is after some pending sectors have survived. -/
theorem setls_dur {s : St} (h : Inv s) {l : List (Int × Int)} (hp : ∀ p ∈ l, s.sec p.1 p.2 = true) (f : Int) :
    (∀ i, ((s.setls l).dur f).getD i 0 = if (f, ((i / 64 : Nat) : Int)) ∈ l ∧ i < (s.now f).length then (s.now f).getD i 0 else (s.dur f).getD i 0) ∧
    (s.dur f).length ≤ ((s.setls l).dur f).length ∧ ((s.setls l).dur f).length ≤ (s.now f).length ∧ ∀ n, (f, n) ∈ l → min (64 * n.toNat + 64) (s.now f).length ≤ ((s.setls l).dur f).length := by
  induction l generalizing s with
  | nil => exact ⟨fun i => by simp [St.setls], Nat.le_refl _, h.le f, by simp⟩
  | cons q l ih =>
    obtain ⟨g, m⟩ := q
    have hq := hp (g, m) (by simp)
    obtain ⟨hf, h0, hn⟩ := h.rng g m hq
    obtain ⟨d1, d2, d3⟩ := setl_dur (s := s) (f := g) h0 hn
    obtain ⟨i1, i2, i3, i4⟩ := ih (h.setl hq) (fun p hp' => hp p (by simp [hp']))
    show (∀ i, (((s.setl (g, m)).setls l).dur f).getD i 0 = _) ∧ _ ≤ (((s.setl (g, m)).setls l).dur f).length ∧ (((s.setl (g, m)).setls l).dur f).length ≤ _ ∧ ∀ n, _ → _ ≤ (((s.setl (g, m)).setls l).dur f).length
    have hnow : (s.setl (g, m)).now = s.now := rfl
    rw [hnow] at i1 i3 i4
    refine ⟨fun i => ?_, ?_, i3, fun n hn' => ?_⟩
    · rw [i1]
      by_cases hfg : f = g
      · subst hfg
        rw [d3]
        by_cases hi : i < (s.now f).length
        · by_cases hm : (f, ((i / 64 : Nat) : Int)) ∈ l
          · rw [if_pos ⟨hm, hi⟩, if_pos ⟨List.mem_cons_of_mem _ hm, hi⟩]
          · rw [if_neg (fun hh => hm hh.1)]
            by_cases he : i / 64 = m.toNat
            · rw [if_pos ⟨he, hi⟩, if_pos ⟨by rw [he, Int.toNat_of_nonneg h0]; simp, hi⟩]
            · rw [if_neg (fun hh => he hh.1), if_neg]
              rintro ⟨hh, _⟩
              rcases List.mem_cons.1 hh with hh | hh
              · injection hh with _ hh; exact he (by omega)
              · exact hm hh
        · rw [if_neg (fun hh => hi hh.2), if_neg (fun hh => hi hh.2), if_neg (fun hh => hi hh.2)]
      · rw [d1 f hfg]
        by_cases hi : i < (s.now f).length
        · by_cases hm : (f, ((i / 64 : Nat) : Int)) ∈ l
          · rw [if_pos ⟨hm, hi⟩, if_pos ⟨List.mem_cons_of_mem _ hm, hi⟩]
          · rw [if_neg (fun hh => hm hh.1), if_neg]
            rintro ⟨hh, _⟩
            rcases List.mem_cons.1 hh with hh | hh
            · injection hh with hh _; exact hfg hh
            · exact hm hh
        · rw [if_neg (fun hh => hi hh.2), if_neg (fun hh => hi hh.2)]
    · refine Nat.le_trans ?_ i2
      by_cases hfg : f = g
      · subst hfg; rw [d2]; omega
      · rw [d1 f hfg]; exact Nat.le_refl _
    · rcases List.mem_cons.1 hn' with hh | hh
      · injection hh with e1 e2
        subst e1; subst e2
        refine Nat.le_trans ?_ i2
        rw [d2]; omega
      · exact i4 n hh

theorem Inv.fallen {s : St} (h : Inv s) : Inv s.fallen := by
  refine ⟨fun f => Nat.le_refl _, fun f i _ _ => rfl, fun f hl => absurd hl (Nat.lt_irrefl _), by simp [St.fallen], by simp [St.fallen], by simp [St.fallen], fun f => Nat.le_trans (h.le f) (h.cap f), h.lost, by simp [St.fallen], by simp [St.fallen]⟩

theorem mem_chosen {keep : List Int} {i : Nat} {l : List (Int × Int)} {p : Int × Int} (h : p ∈ chosen keep i l) : p ∈ l := by
  induction l generalizing i with
  | nil => simp [chosen] at h
  | cons q l ih =>
    unfold chosen at h
    split at h
    · rcases List.mem_cons.1 h with rfl | h
      · simp
      · exact List.mem_cons_of_mem _ (ih h)
    · exact List.mem_cons_of_mem _ (ih h)

theorem Inv.pending {s : St} (h : Inv s) : ∀ p ∈ s.pend, s.sec p.1 p.2 = true := fun p hp => (h.mem p.1 p.2).1 hp

theorem Inv.crash {s : St} (h : Inv s) (keep : List Int) : Inv (s.crash keep) := by
  unfold St.crash
  split
  · exact h
  · exact (h.setls (fun p hp => h.pending p (mem_chosen hp))).fallen

theorem Inv.count {s : St} (h : Inv s) : Inv s.count := by
  unfold St.count
  split
  · exact h
  · rename_i hh
    have h1 := h.armed
    exact ⟨h.le, h.eqb, h.tail, h.mem, h.nodup, h.rng, h.cap, h.lost, by show 0 ≤ s.armed - 1 ∧ s.armed - 1 ≤ _; have h2 : s.armed ≠ 0 := fun e => hh (Or.inr e); omega, h.kept⟩

theorem Inv.wr {s : St} (h : Inv s) (f a : Int) (t : List UInt8) : Inv (s.wr f a t).1 := by
  unfold St.wr
  split
  · exact h
  split
  · exact h
  split
  · exact h
  split
  · exact h
  · rename_i h1 h2 h3 h4
    refine h.ofWr ?_ (by omega) (List.length_pos_iff.2 h4) (by omega)
    cases hf : isFile f
    · exfalso; apply h1; unfold St.ready; rw [hf]; split <;> simp
    · rfl

theorem forget_sec (s : St) (f g n : Int) : (s.forget f).sec g n = true ↔ (s.sec g n = true ∧ g ≠ f) := by
  unfold St.forget
  by_cases hg : g = f
  · subst hg; simp [upd]
  · simp [upd, hg]

theorem Inv.ofForget {s : St} {f : Int} {l : List UInt8} (h : Inv s) (hl : l.length ≤ 16777216) : Inv ({ s with now := upd s.now f l, dur := upd s.dur f l }.forget f) := by
  have hs : ∀ g n, ({ s with now := upd s.now f l, dur := upd s.dur f l }.forget f).sec g n = true ↔ (s.sec g n = true ∧ g ≠ f) := fun g n => forget_sec _ f g n
  have hsf : ∀ g n, g ≠ f → ({ s with now := upd s.now f l, dur := upd s.dur f l }.forget f).sec g n = s.sec g n := fun g n hg => by
    rw [Bool.eq_iff_iff, hs]; exact ⟨fun hh => hh.1, fun hh => ⟨hh, hg⟩⟩
  refine ⟨?_, ?_, ?_, ?_, h.nodup.filter _, ?_, ?_, h.lost, h.armed, h.kept⟩
  · intro g
    show (upd s.dur f l g).length ≤ (upd s.now f l g).length
    unfold upd; split
    · exact Nat.le_refl _
    · exact h.le g
  · intro g i hi hse
    show (upd s.dur f l g).getD i 0 = (upd s.now f l g).getD i 0
    have hi' : i < (upd s.now f l g).length := hi
    by_cases hg : g = f
    · subst hg; rw [upd_same, upd_same]
    · rw [upd_ne _ _ hg] at hi' ⊢
      rw [upd_ne _ _ hg]
      rw [hsf g _ hg] at hse
      exact h.eqb g i hi' hse
  · intro g hlt
    have hlt' : (upd s.dur f l g).length < (upd s.now f l g).length := hlt
    by_cases hg : g = f
    · subst hg; rw [upd_same, upd_same] at hlt'; exact absurd hlt' (Nat.lt_irrefl _)
    · rw [upd_ne _ _ hg, upd_ne _ _ hg] at hlt'
      have := h.tail g hlt'
      show ({ s with now := upd s.now f l, dur := upd s.dur f l }.forget f).sec g ((((upd s.now f l g).length - 1) / 64 : Nat) : Int) = true
      rw [hsf g _ hg, upd_ne _ _ hg]; exact this
  · intro g n
    rw [hs]
    show (g, n) ∈ s.pend.filter _ ↔ _
    rw [List.mem_filter, h.mem]
    simp
  · intro g n hse
    rw [hs] at hse
    show isFile g = true ∧ 0 ≤ n ∧ 64 * n < (upd s.now f l g).length
    rw [upd_ne _ _ hse.2]
    exact h.rng g n hse.1
  · intro g
    show (upd s.now f l g).length ≤ _
    unfold upd; split
    · exact hl
    · exact h.cap g

theorem upd_self {α : Type} (g : Int → α) (f : Int) : upd g f (g f) = g := by
  funext i; unfold upd; split
  · rename_i e; rw [e]
  · rfl

theorem Inv.synced {s : St} (h : Inv s) (f : Int) : Inv (s.synced f) := by
  have := h.ofForget (f := f) (l := s.now f) (h.cap f)
  rw [upd_self] at this
  exact this

theorem Inv.cut {s : St} (h : Inv s) (f : Int) (n : Nat) : Inv (s.cut f n) :=
  h.ofForget (by rw [List.length_take]; have := h.cap f; omega)

theorem Inv.write {s : St} (h : Inv s) (f a : Int) (t : List UInt8) : Inv (s.write f a t).1 := by
  unfold St.write
  split
  · exact (h.count.wr f a t).crash _
  · exact h.count.wr f a t

theorem Inv.sync {s : St} (h : Inv s) (f : Int) : Inv (s.sync f).1 := by
  unfold St.sync
  split
  · exact h.count.crash _
  split
  · exact h.count
  split
  · have h1 := h.count
    have h2 := h.lost
    exact ⟨h1.le, h1.eqb, h1.tail, h1.mem, h1.nodup, h1.rng, h1.cap, by show 0 ≤ s.lost - 1 ∧ s.lost - 1 ≤ _; omega, h1.armed, h1.kept⟩
  · exact h.count.synced f

theorem Inv.trunc {s : St} (h : Inv s) (f n : Int) : Inv (s.trunc f n).1 := by
  unfold St.trunc
  split
  · exact h.count.crash _
  split
  · exact h.count
  split
  · exact h.count
  · exact h.count.cut f _

theorem Inv.lose {s : St} (h : Inv s) {n : Int} (hn : n ≤ 9223372036854775807) : Inv (s.lose n) :=
  ⟨h.le, h.eqb, h.tail, h.mem, h.nodup, h.rng, h.cap, by show 0 ≤ max n 0 ∧ max n 0 ≤ _; omega, h.armed, h.kept⟩

theorem Inv.arm {s : St} (h : Inv s) {n : Int} {keep : List Int} (hn : n ≤ 9223372036854775807) (hk : keep.length ≤ 1000000) : Inv (s.arm n keep) :=
  ⟨h.le, h.eqb, h.tail, h.mem, h.nodup, h.rng, h.cap, h.lost, by show 0 ≤ max n 0 ∧ max n 0 ≤ _; omega, hk⟩

theorem Inv.start {s : St} (h : Inv s) : Inv s.start := ⟨h.le, h.eqb, h.tail, h.mem, h.nodup, h.rng, h.cap, h.lost, h.armed, h.kept⟩

/-- After all pending sectors of a file have survived, its durable part is the file. -/
theorem sync_dur {s : St} (h : Inv s) (f : Int) : ({ s.setls (s.pend.filter (fun p => p.1 == f)) with sec := s.sec } : St).dur = upd s.dur f (s.now f) := by
  have hp : ∀ p ∈ s.pend.filter (fun p => p.1 == f), s.sec p.1 p.2 = true := fun p hp => h.pending p (List.mem_filter.1 hp).1
  funext g
  show (s.setls (s.pend.filter (fun p => p.1 == f))).dur g = _
  obtain ⟨d1, d2, d3, d4⟩ := setls_dur h hp g
  by_cases hg : g = f
  · subst hg
    rw [upd_same]
    have hlen : ((s.setls (s.pend.filter (fun p => p.1 == g))).dur g).length = (s.now g).length := by
      rcases Nat.lt_or_ge (s.dur g).length (s.now g).length with hlt | hge
      · have h1 := h.tail g hlt
        have h2 := d4 _ (List.mem_filter.2 ⟨(h.mem g _).2 h1, by simp⟩)
        omega
      · omega
    refine ext_getD hlen (fun i hi => ?_)
    rw [d1]
    rw [hlen] at hi
    split
    · rfl
    · rename_i hh
      refine h.eqb g i hi ?_
      cases hse : s.sec g ((i / 64 : Nat) : Int)
      · rfl
      · exact absurd ⟨List.mem_filter.2 ⟨(h.mem g _).2 hse, by simp⟩, hi⟩ hh
  · rw [upd_ne _ _ hg]
    have hlen : ((s.setls (s.pend.filter (fun p => p.1 == f))).dur g).length = (s.dur g).length := by
      clear d1 d2 d3 d4
      have : ∀ (l : List (Int × Int)) (s : St), (∀ p ∈ l, p.1 ≠ g) → (s.setls l).dur g = s.dur g := by
        intro l
        induction l with
        | nil => intro s _; rfl
        | cons q l ih =>
          intro s hq
          have h1 : ((s.setl q).setls l).dur g = (s.setl q).dur g := ih (s.setl q) (fun p hp => hq p (by simp [hp]))
          refine h1.trans (upd_ne _ _ (fun e => hq q (by simp) e.symm))
      rw [this _ s (fun p hp e => hg (by have := (List.mem_filter.1 hp).2; simp at this; rw [← e, this]))]
    refine ext_getD hlen (fun i hi => ?_)
    rw [d1, if_neg]
    rintro ⟨hh, _⟩
    have := (List.mem_filter.1 hh).2
    simp at this
    exact hg this

theorem length_le_of_lt : ∀ (n : Nat) (l : List Nat), l.Nodup → (∀ x ∈ l, x < n) → l.length ≤ n
  | 0, l, _, h => by
    cases l with
    | nil => simp
    | cons x l => exact absurd (h x (by simp)) (by omega)
  | n + 1, l, hn, h => by
    have h1 := length_le_of_lt n (l.erase n) (hn.erase n) (fun x hx => by
      have hx' := (hn.mem_erase_iff).1 hx
      have := h x hx'.2
      have := hx'.1
      omega)
    by_cases hm : n ∈ l
    · rw [List.length_erase_of_mem hm] at h1; omega
    · rw [List.erase_of_not_mem hm] at h1; omega

theorem Inv.few {s : St} (h : Inv s) : s.pend.length ≤ 4194304 := by
  have h1 : ∀ p ∈ s.pend, 0 ≤ p.1 ∧ p.1 < 16 ∧ 0 ≤ p.2 ∧ p.2 < 262144 := fun p hp => by
    obtain ⟨a1, a2, a3⟩ := h.rng p.1 p.2 (h.pending p hp)
    have a4 := isFile_iff.1 a1
    have := h.cap p.1
    omega
  have h2 : (s.pend.map (fun p => p.1.toNat * 262144 + p.2.toNat)).Nodup := by
    refine List.pairwise_map.2 ?_
    refine List.Pairwise.imp_of_mem ?_ h.nodup
    rintro ⟨a, b⟩ ⟨c, d⟩ ha hb hne e
    have h3 := h1 _ ha
    have h4 := h1 _ hb
    apply hne
    simp only at h3 h4 e
    have e1 : a = c := by omega
    have e2 : b = d := by omega
    rw [e1, e2]
  have h3 := length_le_of_lt 4194304 _ h2 (fun x hx => by
    obtain ⟨p, hp, rfl⟩ := List.mem_map.1 hx
    have := h1 p hp
    omega)
  simpa using h3

end Go.Proofs.Ytgocnjiabfmdpaa
