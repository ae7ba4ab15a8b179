/- Walks of the reference's reader: fail, close. -/
import Derived.Test.YtgocnjiabfmdpaaRRa
import Derived.Test.YtgocnjiabfmdpaaRP
import Derived.Test.YtgocnjiabfmdpaaRD
namespace Go.Proofs.Ytgocnjiabfmdpaa.Wire
set_option maxRecDepth 8000
open Go.RowKit

/-- Block b of the world holds a reader of the reference. -/
def Rq (w : World) (b : Nat) (s : ByteArray) (f : Bool) : Prop := w.heap[b]? = some (.cells #[.string s, .bool f] 122 (0, 0))

theorem Rq.cell0 {w : World} {b : Nat} {s : ByteArray} {f : Bool} (h : Rq w b s f) : w.cell? ⟨b, 0, none⟩ = some (.string s) := by rw [cell_of_row w b 0 _ 122 (0, 0) h]; rfl
theorem Rq.cell1 {w : World} {b : Nat} {s : ByteArray} {f : Bool} (h : Rq w b s f) : w.cell? ⟨b, 1, none⟩ = some (.bool f) := by rw [cell_of_row w b 1 _ 122 (0, 0) h]; rfl
theorem Rq.lt {w : World} {b : Nat} {s : ByteArray} {f : Bool} (h : Rq w b s f) : b < w.heap.size := (Array.getElem?_eq_some_iff.1 h).1
theorem Rq.free {w : World} {b : Nat} {s : ByteArray} {f : Bool} (h : Rq w b s f) (o : Nat) : w.frozen? ⟨b, o, none⟩ = false := by
  unfold Rq at h
  simp [World.frozen?, h]

theorem Rq.set0 {w : World} {b : Nat} {s : ByteArray} {f : Bool} (h : Rq w b s f) (s' : ByteArray) : Rq (w.setCell ⟨b, 0, none⟩ (.string s')) b s' f := by
  unfold Rq at h ⊢
  rw [heap_setCell_same w b 0 _ 122 _ h]; rfl
theorem Rq.set1 {w : World} {b : Nat} {s : ByteArray} {f : Bool} (h : Rq w b s f) (f' : Bool) : Rq (w.setCell ⟨b, 1, none⟩ (.bool f')) b s f' := by
  unfold Rq at h ⊢
  rw [heap_setCell_same w b 1 _ 122 _ h]; rfl
theorem Keep.rq {b : Nat} {w w' : World} (h : Keep b w w') {b' : Nat} {s : ByteArray} {f : Bool} (hr : Rq w b' s f) (hn : b' ≠ b) : Rq w' b' s f := by
  have hl := hr.lt
  unfold Rq at hr ⊢
  rw [h.block b' hl (by simpa using hn)]; exact hr

theorem Below.rq {b : Nat} {w w' : World} {s : ByteArray} {f : Bool} (h : Below w.heap.size w w') (hr : Rq w b s f) : Rq w' b s f := by
  have hl := hr.lt
  unfold Rq at hr ⊢
  rw [h.block b hl]; exact hr
theorem Keep.rd' {b : Nat} {w w' : World} (h : Keep b w w') {b' : Nat} {s : ByteArray} {f : Bool} (hr : Rd w b' s f) (hn : b' ≠ b) : Rd w' b' s f := h.rd hr hn

set_option maxHeartbeats 400000 in
theorem qfail_any (b : Nat) (s : ByteArray) (f : Bool) (w : World) (h : Rq w b s f) :
    Calls Try.prog 105 #[.pointer (some ⟨b, 0, none⟩)] w fun e w' => e = .returned (.int .i64 0) ∧ Rq w' b (ba []) true ∧ Keep b w w' := by
  have c0 := h.cell0
  have c1 := h.cell1
  have f0 := h.free 0
  have f1 := h.free 1
  go_enter Try.func105, Try.ntmps105
  go_wp2_with fail
  go_ret
  exact ⟨rfl, (h.set0 _).set1 _, ((Keep.refl b w).set 0 _).set 1 _⟩

set_option maxHeartbeats 400000 in
theorem qopen_any (s : ByteArray) (w : World) :
    Calls Try.prog 91 #[.string s] w fun x w' => x = .returned (.pointer (some ⟨w.heap.size, 0, none⟩)) ∧ Rq w' w.heap.size s false ∧ Below w.heap.size w w' := by
  go_enter Try.func91, Try.ntmps91
  go_wp2_with fail
  go_ret
  exact ⟨rfl, heap_alloc_new w _, (Below.refl _ _).alloc (Nat.le_refl _) _⟩

set_option maxHeartbeats 400000 in
theorem qleft_any (b : Nat) (s : ByteArray) (f : Bool) (w : World) (h : Rq w b s f) :
    Calls Try.prog 92 #[.pointer (some ⟨b, 0, none⟩)] w fun x w' => x = .returned (.int .i64 s.size) ∧ w = w' := by
  have c0 := h.cell0
  go_enter Try.func92, Try.ntmps92
  go_wp2_with fail
  go_ret
  exact ⟨rfl, rfl⟩

set_option maxHeartbeats 400000 in
theorem qclose_yes (b : Nat) (s : ByteArray) (f : Bool) (w : World) (h : Rq w b s f) (e : UInt8) (z : Int) (hz : z = (e.toNat : Int)) (h0 : (bts s)[0]? = some e) :
    Calls Try.prog 106 #[.pointer (some ⟨b, 0, none⟩), .int .u8 z] w fun x w' => x = .returned (.bool true) ∧ Rq w' b (ba ((bts s).drop 1)) f ∧ Keep b w w' := by
  have c0 := h.cell0
  have f0 := h.free 0
  have hs0 : 0 < s.size := by
    rcases Nat.eq_zero_or_pos s.size with h1 | h1
    · rw [List.getElem?_eq_none (by rw [bts_len]; omega)] at h0; cases h0
    · exact h1
  have b1 : (((s[0]'hs0).toNat : Int) != z) = false := by
    rw [bt_get hs0] at h0
    rw [Option.some.inj h0, hz]; simp
  have b0 : ((s.size : Int) == 0) = false := beq_eq_false_iff_ne.2 (by omega)
  have HX := Lib.hid (h.set0 (s.extract 1 s.size))
  have e2 : s.extract 1 s.size = ba ((bts s).drop 1) := extract_drop s 1
  have E2 := Lib.hid e2
  clear h0 hz e2
  go_enter Try.func106, Try.ntmps106
  go_wp2_with fail
  go_ret
  exact ⟨rfl, by rw [← E2.out]; exact HX.out, (Keep.refl b w).set 0 _⟩

set_option maxHeartbeats 400000 in
theorem qclose_no (b : Nat) (s : ByteArray) (f : Bool) (w : World) (h : Rq w b s f) (e : UInt8) (z : Int) (hz : z = (e.toNat : Int)) (h0 : ¬ (bts s)[0]? = some e) :
    Calls Try.prog 106 #[.pointer (some ⟨b, 0, none⟩), .int .u8 z] w fun x w' => x = .returned (.bool false) ∧ Rq w' b (ba []) true ∧ Keep b w w' := by
  have c0 := h.cell0
  have f0 := h.free 0
  rcases Nat.eq_zero_or_pos s.size with h1 | h1
  · have b0 : ((s.size : Int) == 0) = true := beq_iff_eq.2 (by omega)
    clear h0 hz h1
    go_enter Try.func106, Try.ntmps106
    go_wp2_with fail
    refine (qfail_any b s f _ h).mono ?_
    rintro e w1 ⟨rfl, hr1, hk1⟩
    go_wp2_with fail
    go_ret
    exact ⟨rfl, hr1, hk1⟩
  · have b0 : ((s.size : Int) == 0) = false := beq_eq_false_iff_ne.2 (by omega)
    have b1 : (((s[0]'h1).toNat : Int) != z) = true := by
      rw [bne_iff_ne]
      intro hh
      apply h0
      rw [bt_get h1]
      congr 1
      apply UInt8.toNat_inj.1
      omega
    clear h0 hz
    go_enter Try.func106, Try.ntmps106
    go_wp2_with fail
    refine (qfail_any b s f _ h).mono ?_
    rintro e w1 ⟨rfl, hr1, hk1⟩
    go_wp2_with fail
    go_ret
    exact ⟨rfl, hr1, hk1⟩

end Go.Proofs.Ytgocnjiabfmdpaa.Wire
