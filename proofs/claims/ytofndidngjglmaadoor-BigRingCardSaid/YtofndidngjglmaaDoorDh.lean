/- Boxes of big integers; what the document's examples are, in plain. -/
import Derived.Test.YtofndidngjglmaaDoorDg
import Derived.Test.YtofndidngjglmaaDoorX
import Derived.Test.YtofndidngjglmaaDoorYa
namespace Go.Proofs.YtofndidngjglmaaDoor
open Go.RowKit

/-- A box at block g that holds z. -/
structure Bx (W : World) (g : Nat) (s : Int) (A : Option Addr) (n c : Nat) (z : Int) : Prop where
  blk : Blk W g 24 #[.int .i64 s, .slice A n c]
  bv : BV W W.heap.size (.agg #[.int .i64 s, .slice A n c]) z
section
variable {W W' w : World} {g B : Nat} {s s' : Int} {A A' : Option Addr} {n c n' c' : Nat} {z z' : Int}
theorem Bx.below (h : Bx W g s A n c z) (hb : Below W.heap.size W W') : Bx W' g s A n c z := ⟨h.blk.below hb h.blk.lt, h.bv.later hb⟩
theorem Bx.c0 (h : Bx W g s A n c z) : W.cell? ⟨g, 0, none⟩ = some (.int .i64 s) := h.blk.cell 0
theorem Bx.c1 (h : Bx W g s A n c z) : W.cell? ⟨g, 1, none⟩ = some (.slice A n c) := h.blk.cell 1
theorem Bx.sg (h : Bx W g s A n c z) : s = sgn z := by
  obtain ⟨A1, c1, e, _⟩ := h.bv
  injection e with e
  have e0 := congrArg (fun (a : Array Value) => a[0]?) e
  simp at e0
  exact e0
theorem box1 (h : BO w B (.agg #[.int .i64 s, .slice A n c]) z) : ∃ W, W = w.alloc (.cells #[.int .i64 s, .slice A n c] 24) ∧ Below w.heap.size w W ∧ Bx W w.heap.size s A n c z := by
  have hb : Below w.heap.size w (w.alloc (.cells #[.int .i64 s, .slice A n c] 24)) := (Below.refl _ _).alloc (Nat.le_refl _) _
  exact ⟨_, rfl, hb, Blk.new _ _ _, h.bv.later hb⟩
theorem box2 (h : BO w B (.agg #[.int .i64 s, .slice A n c]) z) (h' : BO w B (.agg #[.int .i64 s', .slice A' n' c']) z') :
    ∃ W, W = (w.alloc (.cells #[.int .i64 s, .slice A n c] 24)).alloc (.cells #[.int .i64 s', .slice A' n' c'] 24) ∧ Below w.heap.size w W ∧ Bx W w.heap.size s A n c z ∧ Bx W (w.heap.size + 1) s' A' n' c' z' := by
  obtain ⟨W, hW, hb, k1, k2, _⟩ := boxes2 w #[.int .i64 s, .slice A n c] #[.int .i64 s', .slice A' n' c']
  exact ⟨W, hW, hb, ⟨k1, h.bv.later hb⟩, ⟨k2, h'.bv.later hb⟩⟩
end

theorem lt60 {z : Int} (h : ab z < 1208925819614629174706176) : ab z < pw 60 := by
  have := pw_le (show 4 ≤ 60 by omega)
  rw [pw4] at this
  omega

/-- A literal of one block of cells. -/
theorem lit_bv {w : World} {l : List Int} {z : Int} {n : Nat} (h0 : 0 < z) (hD : D z = l) (hn : l.length = n) (hc : n ≤ 9223372036854775807) :
    BV (w.alloc (.cells (l.map (Value.int .i64)).toArray 3)) (w.alloc (.cells (l.map (Value.int .i64)).toArray 3)).heap.size (.agg #[.int .i64 1, .slice (some ⟨w.heap.size, 0, none⟩) n n]) z := by
  have hab : ab z = z := by unfold ab; omega
  have hs : sgn z = 1 := by unfold sgn; split <;> (try split) <;> omega
  subst hn
  refine ⟨some ⟨w.heap.size, 0, none⟩, l.length, by rw [hs, hab, hD], by rw [hab, hD]; exact Nat.le_refl _, hc, ?_⟩
  rw [hab, hD]
  intro k hk
  refine ⟨w.heap.size, 0, rfl, by simp, ?_⟩
  rw [Nat.zero_add]
  have := (Blk.new w 3 (l.map (Value.int .i64)).toArray).cell k
  rw [this]
  simp [hk]

theorem D_two : D 9223372036854775808 = [0, 0, 0, 8] := Nrm.eq_D (l := [0, 0, 0, 8]) ⟨by intro d hd; simp at hd; omega, by intro _; decide⟩
theorem D_x : D 1048577 = [1, 1] := Nrm.eq_D (l := [1, 1]) ⟨by intro d hd; simp at hd; omega, by intro _; decide⟩

theorem qr1 {q r : Int} (h : QR (-7) 2 q r) : q = -4 ∧ r = 1 := by
  obtain ⟨h1, h2, h3, _⟩ := h
  unfold sgn at h2
  unfold ab at h3
  split at h2 <;> (try split at h2) <;> omega
theorem qr2 {q r : Int} (h : QR 7 (-2) q r) : q = -4 ∧ r = -1 := by
  obtain ⟨h1, h2, h3, _⟩ := h
  unfold sgn at h2
  unfold ab at h3
  split at h2 <;> (try split at h2) <;> omega
theorem qr3 {q r : Int} (h : QR (-7) (-2) q r) : q = 3 ∧ r = -1 := by
  obtain ⟨h1, h2, h3, _⟩ := h
  unfold sgn at h2
  unfold ab at h3
  split at h2 <;> (try split at h2) <;> omega

theorem no007 (z : Int) : bts ⟨#[48, 48, 55]⟩ ≠ Lib.itoa z := by
  intro h
  have h1 : bts ⟨#[48, 48, 55]⟩ = [48, 48, 55] := rfl
  rw [h1, itoa_ab] at h
  split at h
  · cases h
  · rw [List.nil_append] at h
    rcases dd_head (ab z).toNat with h2 | h2
    · rw [h2] at h; cases h
    · rw [← h] at h2; exact h2 rfl
theorem noM0 (z : Int) : bts ⟨#[45, 48]⟩ ≠ Lib.itoa z := by
  intro h
  have h1 : bts ⟨#[45, 48]⟩ = [45, 48] := rfl
  rw [h1, itoa_ab] at h
  split at h
  · rename_i hz
    have h3 : [48] = Lib.decDigits (ab z).toNat := by simpa using h
    have h2 := dv_dd (ab z).toNat
    rw [← h3] at h2
    have : dv [48] = 0 := rfl
    unfold ab at h2
    omega
  · rw [List.nil_append] at h
    have := dd_all (ab z).toNat 45 (by rw [← h]; simp)
    unfold isD at this
    have e : (45 : UInt8).toNat = 45 := rfl
    omega
theorem noE (z : Int) : bts ⟨#[]⟩ ≠ Lib.itoa z := by
  intro h
  have h1 : bts ⟨#[]⟩ = [] := rfl
  rw [h1, itoa_ab] at h
  split at h
  · cases h
  · exact dd_ne _ h.symm

theorem theText : byt (Lib.itoa (-9999999999800000000001)) = ⟨#[45, 57, 57, 57, 57, 57, 57, 57, 57, 57, 57, 56, 48, 48, 48, 48, 48, 48, 48, 48, 48, 48, 49]⟩ := by
  have h := dd_of (l := [57, 57, 57, 57, 57, 57, 57, 57, 57, 57, 56, 48, 48, 48, 48, 48, 48, 48, 48, 48, 48, 49]) (by intro b hb; simp at hb; unfold isD; rcases hb with rfl | rfl | rfl | rfl <;> decide) (by simp) (.inr (by decide))
  have h2 : dv [57, 57, 57, 57, 57, 57, 57, 57, 57, 57, 56, 48, 48, 48, 48, 48, 48, 48, 48, 48, 48, 49] = 9999999999800000000001 := by rfl
  rw [h2] at h
  unfold Lib.itoa
  rw [if_pos (by omega)]
  have h3 : Int.natAbs (-9999999999800000000001) = 9999999999800000000001 := rfl
  rw [h3, h]
  rfl

end Go.Proofs.YtofndidngjglmaaDoor
