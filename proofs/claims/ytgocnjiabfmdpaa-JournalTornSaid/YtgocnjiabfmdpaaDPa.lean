/- The simulated disk as a plain state: what each call makes of it. Bytes put into a list of bytes. -/
namespace Go.Proofs.Ytgocnjiabfmdpaa
set_option maxRecDepth 8000

/-- t put into b at the offset n, after bytes 0 if b ends before it. -/
def putL (b : List UInt8) (n : Nat) (t : List UInt8) : List UInt8 :=
  (b ++ List.replicate (n + t.length - b.length) 0).take n ++ (t ++ (b ++ List.replicate (n + t.length - b.length) 0).drop (n + t.length))

theorem putL_length (b : List UInt8) (n : Nat) (t : List UInt8) : (putL b n t).length = max b.length (n + t.length) := by
  unfold putL
  simp only [List.length_append, List.length_take, List.length_drop, List.length_replicate]
  omega

theorem ext_getD {a b : List UInt8} (hl : a.length = b.length) (h : ∀ i, i < a.length → a.getD i 0 = b.getD i 0) : a = b := by
  apply List.ext_getElem hl
  intro i h1 h2
  have := h i h1
  rw [List.getD_eq_getElem?_getD, List.getD_eq_getElem?_getD, List.getElem?_eq_getElem h1, List.getElem?_eq_getElem h2] at this
  simpa using this

theorem getD_ge {a : List UInt8} {i : Nat} (h : a.length ≤ i) : a.getD i 0 = 0 := by
  rw [List.getD_eq_getElem?_getD, List.getElem?_eq_none h]; rfl

theorem getD_zeros (b : List UInt8) (k i : Nat) : (b ++ List.replicate k 0).getD i 0 = b.getD i 0 := by
  simp only [List.getD_eq_getElem?_getD]
  rw [List.getElem?_append]
  split
  · rfl
  · rename_i h
    rw [List.getElem?_eq_none (by omega : b.length ≤ i), List.getElem?_replicate]
    split <;> rfl

theorem getD_take (b : List UInt8) (n i : Nat) : (b.take n).getD i 0 = if i < n then b.getD i 0 else 0 := by
  simp only [List.getD_eq_getElem?_getD, List.getElem?_take]
  split <;> rfl

theorem getD_drop (b : List UInt8) (n i : Nat) : (b.drop n).getD i 0 = b.getD (n + i) 0 := by
  simp only [List.getD_eq_getElem?_getD, List.getElem?_drop]

theorem putL_getD (b : List UInt8) (n : Nat) (t : List UInt8) (i : Nat) : (putL b n t).getD i 0 = if n ≤ i ∧ i < n + t.length then t.getD (i - n) 0 else b.getD i 0 := by
  have hz := getD_zeros b (n + t.length - b.length)
  have hl : (b ++ List.replicate (n + t.length - b.length) (0 : UInt8)).length = max b.length (n + t.length) := by simp; omega
  unfold putL
  generalize (b ++ List.replicate (n + t.length - b.length) (0 : UInt8)) = e at hz hl
  simp only [List.getD_eq_getElem?_getD] at hz ⊢
  rw [List.getElem?_append, List.length_take]
  by_cases h1 : i < n
  · rw [if_pos (by omega), List.getElem?_take, if_pos h1, hz, if_neg (by omega)]
  · rw [if_neg (by omega), List.getElem?_append]
    by_cases h2 : i < n + t.length
    · rw [if_pos (by omega), if_pos (by omega)]
      congr 2; omega
    · rw [if_neg (by omega), if_neg (by omega), List.getElem?_drop, ← hz i]
      congr 2; omega

/-- The disk: its files' bytes and durable parts, which sectors are pending (by file and number), in which order, and the rest. -/
structure St where
  now : Int → List UInt8
  dur : Int → List UInt8
  sec : Int → Int → Bool
  pend : List (Int × Int)
  down : Bool
  lost : Int
  armed : Int
  keep : List Int

def St.new : St := ⟨fun _ => [], fun _ => [], fun _ _ => false, [], false, 0, 0, []⟩

def isFile (f : Int) : Bool := decide (0 ≤ f) && decide (f < 16)

def upd {α : Type} (g : Int → α) (f : Int) (x : α) : Int → α := fun i => if i = f then x else g i

theorem upd_same {α : Type} (g : Int → α) (f : Int) (x : α) : upd g f x f = x := by simp [upd]
theorem upd_ne {α : Type} (g : Int → α) {f i : Int} (x : α) (h : i ≠ f) : upd g f x i = g i := by simp [upd, h]

/-- The errors that come before all others: 8 ErrDown, 1 ErrArg. -/
def St.ready (s : St) (f : Int) : Int := if s.down = true then 8 else if isFile f = true then 0 else 1

def St.addSec (s : St) (f n : Int) : St := if s.sec f n = true then s else { s with sec := upd s.sec f (upd (s.sec f) n true), pend := s.pend ++ [(f, n)] }

def St.addSecs (s : St) (f n : Int) : Nat → St
  | 0 => s
  | k + 1 => (s.addSec f n).addSecs f (n + 1) k

theorem St.addSecs_succ (s : St) (f n : Int) (k : Nat) : s.addSecs f n (k + 1) = (s.addSecs f n k).addSec f (n + k) := by
  induction k generalizing s n with
  | zero => simp [addSecs]
  | succ k ih =>
    rw [addSecs, ih, addSecs]
    congr 1
    push_cast
    omega

/-- What a write that is in order makes of the disk. -/
def St.wrote (s : St) (f a : Int) (t : List UInt8) : St := { s with now := upd s.now f (putL (s.now f) a.toNat t) }

def St.secs (a : Int) (t : List UInt8) : Nat := ((a + t.length - 1) / 64 - a / 64).toNat + 1

/-- A write, without the scheduled crash. -/
def St.wr (s : St) (f a : Int) (t : List UInt8) : St × Int :=
  if s.ready f ≠ 0 then (s, s.ready f) else if a < 0 then (s, 1) else if a > 16777216 - t.length then (s, 6) else if t = [] then (s, 0)
  else ((s.wrote f a t).addSecs f (a / 64) (St.secs a t), 0)

/-- The bytes of the sector with the number n. -/
def secOf (l : List UInt8) (n : Int) : List UInt8 := (l.drop (64 * n).toNat).take 64

/-- A pending sector survives. -/
def St.setl (s : St) (p : Int × Int) : St := { s with dur := upd s.dur p.1 (putL (s.dur p.1) (64 * p.2).toNat (secOf (s.now p.1) p.2)) }

def St.setls (s : St) : List (Int × Int) → St
  | [] => s
  | p :: l => (s.setl p).setls l

theorem St.setls_snoc (s : St) (l : List (Int × Int)) (p : Int × Int) : s.setls (l ++ [p]) = (s.setls l).setl p := by
  induction l generalizing s with
  | nil => rfl
  | cons q l ih => exact ih _

/-- Whether the sector with the index i survives. -/
def survives (keep : List Int) (i : Nat) : Bool := decide (0 < keep.length) && (keep.getD (i % keep.length) 0 % 2 == 1)

/-- The sectors of the list that survive, from the index i on. -/
def chosen (keep : List Int) : Nat → List (Int × Int) → List (Int × Int)
  | _, [] => []
  | i, p :: l => if survives keep i = true then p :: chosen keep (i + 1) l else chosen keep (i + 1) l

theorem chosen_snoc (keep : List Int) (i : Nat) (l : List (Int × Int)) (p : Int × Int) : chosen keep i (l ++ [p]) = chosen keep i l ++ (if survives keep (i + l.length) = true then [p] else []) := by
  induction l generalizing i with
  | nil => simp [chosen]
  | cons q l ih =>
    simp only [List.cons_append, chosen, List.length_cons, ih]
    rw [show i + 1 + l.length = i + (l.length + 1) by omega]
    split <;> simp

def St.fallen (s : St) : St := { s with now := s.dur, sec := fun _ _ => false, pend := [], down := true, armed := 0, keep := [] }

def St.crash (s : St) (keep : List Int) : St := if s.down = true then s else (s.setls (chosen keep 0 s.pend)).fallen

/-- The scheduled crash counts a call. -/
def St.count (s : St) : St := if s.down = true ∨ s.armed = 0 then s else { s with armed := s.armed - 1 }
def St.hit (s : St) : Bool := !s.down && s.armed == 1

def St.write (s : St) (f a : Int) (t : List UInt8) : St × Int :=
  if s.hit = true then (((s.count.wr f a t).1).crash ((s.count.wr f a t).1).keep, 8) else s.count.wr f a t

/-- The sectors of a file are no longer pending. -/
def St.forget (s : St) (f : Int) : St := { s with sec := upd s.sec f (fun _ => false), pend := s.pend.filter (fun p => !(p.1 == f)) }

def St.synced (s : St) (f : Int) : St := { s with dur := upd s.dur f (s.now f) }.forget f

def St.sync (s : St) (f : Int) : St × Int :=
  if s.hit = true then (s.count.crash s.keep, 8) else if s.count.ready f ≠ 0 then (s.count, s.count.ready f)
  else if s.lost > 0 then ({ s.count with lost := s.lost - 1 }, 9) else (s.count.synced f, 0)

def St.cut (s : St) (f : Int) (size : Nat) : St := { s with now := upd s.now f ((s.now f).take size), dur := upd s.dur f ((s.now f).take size) }.forget f

def St.trunc (s : St) (f size : Int) : St × Int :=
  if s.hit = true then (s.count.crash s.keep, 8) else if s.count.ready f ≠ 0 then (s.count, s.count.ready f)
  else if size < 0 ∨ size > (s.now f).length then (s.count, 1) else (s.count.cut f size.toNat, 0)

def St.lose (s : St) (n : Int) : St := { s with lost := max n 0 }
def St.arm (s : St) (n : Int) (keep : List Int) : St := { s with armed := max n 0, keep := keep }
def St.start (s : St) : St := { s with down := false }

/-- Those of the size bytes from the offset a on that exist. -/
def part (l : List UInt8) (a size : Int) : List UInt8 := (l.drop a.toNat).take size.toNat

def St.read (s : St) (f a size : Int) : List UInt8 × Int :=
  if s.ready f ≠ 0 then ([], s.ready f) else if a < 0 ∨ size < 0 then ([], 1) else (part (s.now f) a size, 0)

def St.size (s : St) (f : Int) : Int := if isFile f = true then (s.now f).length else 0

end Go.Proofs.Ytgocnjiabfmdpaa
