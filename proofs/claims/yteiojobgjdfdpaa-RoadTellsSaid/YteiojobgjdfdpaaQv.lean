/- Walks: the law's hours and some; labels that are read. -/
import Derived.Test.YteiojobgjdfdpaaQp
import Derived.Test.YteiojobgjdfdpaaQb
import Derived.Laws.OwnMore
namespace Go.Proofs.Yteiojobgjdfdpaa
open Go.RowKit

def hoursL (f a : Int) : List Int := f :: List.replicate 23 a
theorem hoursL_len (f a : Int) : (hoursL f a).length = 24 := by simp [hoursL]
set_option maxRecDepth 100000 in
set_option maxHeartbeats 4000000 in
theorem hours_any (f a : Int) (w : World) :
    Calls Try.prog 64 #[.int .i64 f, .int .i64 a] w fun e w' => ∃ A c, e = .returned (.slice A 24 c) ∧ IntsAt w'.heap.size w' A (hoursL f a) ∧ Below w.heap.size w w' := by
  go_enter Try.func64, Try.ntmps64
  go_wp2_with fail
  have h0 : Hid (OwnI (w.alloc (.cells #[.int .i64 f] 3)) w.heap.size (.slice (some ⟨w.heap.size, 0, none⟩) 1 1) [f]) := Lib.hid (by
    have := World.ownsRow_lit (e := 3) (size := 1) (base := w.heap.size) w #[.int .i64 f] 1 (Nat.le_refl _) (by unfold maxLen; omega) (by simp)
    unfold OwnI
    exact this)
  go_loopw [5, 6] (fun vv iv wr => ∃ (i : Nat), 1 ≤ i ∧ i ≤ 24 ∧ iv = .int .i64 i ∧ OwnI wr w.heap.size vv (f :: List.replicate (i - 1) a) ∧ Below w.heap.size w wr) (fun _ iv _ => 24 - (intOf iv).toNat)
  case atStart => exact ⟨1, by omega, by omega, rfl, h0.out, (Below.refl _ _).alloc (Nat.le_refl _) _⟩
  case round =>
    obtain ⟨i, h1, hi, rfl, hown, hb⟩ := hrel
    by_cases hgo : i < 24
    · have hsz := hb.size
      go_wp2_with (at_builtin; refine appI rfl (.tmp 13) (.tmp 15) rfl w.heap.size _ (f :: List.replicate (i - 1) a) a rfl hown rfl (by simp; omega) hsz ?_; intro v1 w1 hown1 hb1)
      have h2 : OwnI w1 w.heap.size v1 (f :: List.replicate (i + 1 - 1) a) := by
        rw [List.cons_append, ← List.replicate_succ', show i - 1 + 1 = i + 1 - 1 by omega] at hown1
        exact hown1
      go_roundw
      case rel => exact ⟨i + 1, by omega, by omega, rfl, h2, hb.trans hb1⟩
      case measure => simp [intOf]; omega
    · have : i = 24 := by omega
      subst this
      obtain ⟨A, c, hv, hI⟩ := hown.ints
      have hl : (f :: List.replicate (24 - 1) a).length = 24 := by simp
      rw [hl] at hv
      subst hv
      have HI := Lib.hid hI; clear hI hown
      go_wp2_with fail
      go_ret
      exact ⟨A, c, by rfl, HI.out, hb⟩

def someArcs : List Arc := [⟨0, 1, hoursL 10 5, hoursL 20 5⟩, ⟨1, 2, hoursL 10 10, hoursL 10 10⟩, ⟨0, 2, hoursL 40 40, hoursL 40 40⟩]
theorem IntsAt.low {w w' : World} {A : Option Addr} {l : List Int} (h : IntsAt w.heap.size w A l) (hb : Below w.heap.size w w') : IntsAt w'.heap.size w' A l := (h.below hb).more hb.size
set_option maxRecDepth 100000 in
set_option maxHeartbeats 4000000 in
theorem some_any (w : World) :
    Calls Try.prog 33 #[] w fun e w' => ∃ A l, e = .returned (.slice A 3 3) ∧ l.map Am.a = someArcs ∧ ArcsAt w'.heap.size w' A l ∧ Below w.heap.size w w' := by
  go_enter Try.func33, Try.ntmps33
  go_wp2_with fail
  refine (hours_any 10 5 _).mono ?_
  rintro e w1 ⟨A1, c1, rfl, i1, b1⟩
  have I1 := Lib.hid i1; clear i1
  go_wp2_with fail
  refine (hours_any 20 5 _).mono ?_
  rintro e w2 ⟨A2, c2, rfl, i2, b2⟩
  have I2 := Lib.hid i2; clear i2
  go_wp2_with fail
  refine (hours_any 10 10 _).mono ?_
  rintro e w3 ⟨A3, c3, rfl, i3, b3⟩
  have I3 := Lib.hid i3; clear i3
  go_wp2_with fail
  refine (hours_any 10 10 _).mono ?_
  rintro e w4 ⟨A4, c4, rfl, i4, b4⟩
  have I4 := Lib.hid i4; clear i4
  go_wp2_with fail
  refine (hours_any 40 40 _).mono ?_
  rintro e w5 ⟨A5, c5, rfl, i5, b5⟩
  have I5 := Lib.hid i5; clear i5
  go_wp2_with fail
  refine (hours_any 40 40 _).mono ?_
  rintro e w6 ⟨A6, c6, rfl, i6, b6⟩
  have I6 := Lib.hid i6; clear i6
  go_wp2_with fail
  go_ret
  have hn := Blk.new w6 39 #[.int .i64 0, .int .i64 1, .slice A1 24 c1, .slice A2 24 c2, .int .i64 1, .int .i64 2, .slice A3 24 c3, .slice A4 24 c4, .int .i64 0, .int .i64 2, .slice A5 24 c5, .slice A6 24 c6]
  have b7 : Below w6.heap.size w6 (w6.alloc (.cells #[.int .i64 0, .int .i64 1, .slice A1 24 c1, .slice A2 24 c2, .int .i64 1, .int .i64 2, .slice A3 24 c3, .slice A4 24 c4, .int .i64 0, .int .i64 2, .slice A5 24 c5, .slice A6 24 c6] 39)) := (Below.refl _ _).alloc (Nat.le_refl _) _
  have j6 := I6.out.low b7
  have j5 := (I5.out.low b6).low b7
  have j4 := ((I4.out.low b5).low b6).low b7
  have j3 := (((I3.out.low b4).low b5).low b6).low b7
  have j2 := ((((I2.out.low b3).low b4).low b5).low b6).low b7
  have j1 := (((((I1.out.low b2).low b3).low b4).low b5).low b6).low b7
  have s1 := b1.size; have s2 := b2.size; have s3 := b3.size; have s4 := b4.size; have s5 := b5.size; have s6 := b6.size
  refine ⟨_, [⟨⟨0, 1, hoursL 10 5, hoursL 20 5⟩, A1, c1, A2, c2⟩, ⟨⟨1, 2, hoursL 10 10, hoursL 10 10⟩, A3, c3, A4, c4⟩, ⟨⟨0, 2, hoursL 40 40, hoursL 40 40⟩, A5, c5, A6, c6⟩], by rfl, rfl, fun k hk => ?_, ((((((b1.trans (b2.mono s1)).trans (b3.mono (by omega))).trans (b4.mono (by omega))).trans (b5.mono (by omega))).trans (b6.mono (by omega))).trans (b7.mono (by omega)))⟩
  match k, hk with
  | 0, _ => exact ⟨w6.heap.size, 0, rfl, by simp, hn.cell 0, hn.cell 1, hn.cell 2, hn.cell 3, j1, j2⟩
  | 1, _ => exact ⟨w6.heap.size, 0, rfl, by simp, hn.cell 4, hn.cell 5, hn.cell 6, hn.cell 7, j3, j4⟩
  | 2, _ => exact ⟨w6.heap.size, 0, rfl, by simp, hn.cell 8, hn.cell 9, hn.cell 10, hn.cell 11, j5, j6⟩
  | k + 3, hk => exact absurd hk (by simp only [List.length_cons, List.length_nil]; omega)

/-- The labels of a slice at an address, in blocks below B. -/
def LbsAt (B : Nat) (w : World) (A : Option Addr) (l : List Lb) : Prop :=
  ∀ k, k < l.length → ∃ b off, A = some ⟨b, off, none⟩ ∧ b < B ∧ w.cell? ⟨b, off + k * 2, none⟩ = some (.int .i64 (lb l k).1) ∧ w.cell? ⟨b, off + k * 2 + 1, none⟩ = some (.int .i64 (lb l k).2)
theorem LbsAt.below {B : Nat} {w w' : World} {A : Option Addr} {l : List Lb} (h : LbsAt B w A l) (hb : Below B w w') : LbsAt B w' A l := fun k hk => by
  obtain ⟨b, off, e, hB, h0, h1⟩ := h k hk
  exact ⟨b, off, e, hB, (hb.cell (p := ⟨b, off + k * 2, none⟩) hB).trans h0, (hb.cell (p := ⟨b, off + k * 2 + 1, none⟩) hB).trans h1⟩
theorem LbsAt.more {B B' : Nat} {w : World} {A : Option Addr} {l : List Lb} (h : LbsAt B w A l) (hb : B ≤ B') : LbsAt B' w A l := fun k hk => by
  obtain ⟨b, off, e, hB, h0, h1⟩ := h k hk
  exact ⟨b, off, e, by omega, h0, h1⟩
theorem own_lbs {w : World} {N gl n : Nat} {lab : List Lb} (h : w.ownsRow N 37 2 (.slice (some ⟨gl, 0, none⟩) n n) n (flat lab)) (hl : lab.length = n) : LbsAt w.heap.size w (some ⟨gl, 0, none⟩) lab := fun k hk => by
  obtain ⟨h1, h2⟩ := flat_get lab k hk
  have e : gq lab k = lb lab k := by
    unfold gq lb; rw [List.getD_eq_getElem?_getD, List.getD_eq_getElem?_getD, List.getElem?_eq_getElem hk]; rfl
  rw [e] at h1 h2
  refine ⟨gl, 0, rfl, (World.ownsRow.lt h gl rfl).2, ?_, ?_⟩
  · rw [Nat.zero_add]; exact (World.ownsRow.cellAt h (k * 2) (by omega)).trans h1
  · rw [Nat.zero_add]; exact (World.ownsRow.cellAt h (k * 2 + 1) (by omega)).trans h2

end Go.Proofs.Yteiojobgjdfdpaa
