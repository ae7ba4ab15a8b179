/- Walks of the reference's comparisons of lists. -/
import Derived.Test.YtamjfnpgjcdepaaVa
namespace Go.Proofs.Ytamjfnpgjcdepaa
open Go.RowKit

theorem OwnI.ints {w : World} {B : Nat} {v : Value} {l : List Int} (h : OwnI w B v l) : ∃ a cap, v = .slice a l.length cap ∧ IntsAt w.heap.size w a l := by
  rcases h.2 with ⟨rfl, hn⟩ | ⟨g, cap, cur, rfl, hb, hg, hnc, hcm, hcs, htake⟩
  · have : l = [] := List.eq_nil_of_length_eq_zero hn
    subst this
    exact ⟨none, 0, rfl, fun k hk => by cases hk⟩
  · refine ⟨_, cap, rfl, fun k hk => ⟨g, 0, rfl, (Array.getElem?_eq_some_iff.1 hg).1, ?_⟩⟩
    rw [Nat.zero_add, World.ownsRow.cellAt h k (by omega), List.getElem?_map, List.getElem?_eq_getElem hk, List.getD_eq_getElem?_getD, List.getElem?_eq_getElem hk]
    rfl
theorem OwnS.strs {w : World} {B : Nat} {v : Value} {l : List (List UInt8)} (h : OwnS w B v l) : ∃ a cap, v = .slice a (l.map ba).length cap ∧ StrsAt w.heap.size w a (l.map ba) := by
  rcases h.2 with ⟨rfl, hn⟩ | ⟨g, cap, cur, rfl, hb, hg, hnc, hcm, hcs, htake⟩
  · have : l = [] := List.eq_nil_of_length_eq_zero hn
    subst this
    exact ⟨none, 0, rfl, fun k hk => by cases hk⟩
  · refine ⟨_, cap, by rw [List.length_map], fun k hk => ⟨g, 0, rfl, (Array.getElem?_eq_some_iff.1 hg).1, ?_⟩⟩
    rw [List.length_map] at hk
    rw [Nat.zero_add, World.ownsRow.cellAt h k (by omega), List.getElem?_map, List.getElem?_eq_getElem hk, List.getD_eq_getElem?_getD, List.getElem?_map, List.getElem?_eq_getElem hk]
    rfl

set_option maxHeartbeats 1000000 in
theorem sameNums_any (a1 a2 : Option Addr) (zs : List Int) (p1 p2 : Nat) (w : World) (h1 : IntsAt w.heap.size w a1 zs) (h2 : IntsAt w.heap.size w a2 zs) (hl : zs.length ≤ 9223372036854775807) :
    Calls Try.prog 30 #[.slice a1 zs.length p1, .slice a2 zs.length p2] w fun e w' => e = .returned (.bool true) ∧ Below w.heap.size w w' := by
  go_enter Try.func30, Try.ntmps30
  go_wp2_with fail
  go_loopw [5] (fun i wr => ∃ k : Nat, k ≤ zs.length ∧ i = .int .i64 k ∧ Below w.heap.size w wr) (fun i _ => zs.length - (intOf i).toNat)
  case atStart => exact ⟨0, Nat.zero_le _, rfl, Below.refl _ _⟩
  case round =>
    obtain ⟨k, hk, rfl, hbr⟩ := hrel
    by_cases hlt : k < zs.length
    · obtain ⟨b, off, rfl, hbB, hc⟩ := h1 k hlt
      obtain ⟨b2, off2, rfl, hbB2, hc2⟩ := h2 k hlt
      have hcr := (hbr.cell (p := ⟨b, off + k, none⟩) hbB).trans hc
      have hcr2 := (hbr.cell (p := ⟨b2, off2 + k, none⟩) hbB2).trans hc2
      obtain ⟨z, hze⟩ : ∃ z, zs.getD k 0 = z := ⟨_, rfl⟩
      rw [hze] at hcr hcr2
      clear hze hc hc2 h1 h2
      go_wp2_with fail
      go_quiet (fail)
      have hbo : Below w.heap.size w (wr.drewN nq) := ⟨hbr.os, hbr.tape, hbr.output, hbr.size, hbr.block⟩
      go_wp2_with fail
      go_roundw
      case rel => exact ⟨k + 1, by omega, by go_num, hbo⟩
      case measure => simp [intOf]; omega
    · go_wp2_with fail
      go_ret
      exact ⟨rfl, hbr⟩

set_option maxHeartbeats 1000000 in
theorem sameTexts_any (a1 a2 : Option Addr) (zs : List ByteArray) (p1 p2 : Nat) (w : World) (h1 : StrsAt w.heap.size w a1 zs) (h2 : StrsAt w.heap.size w a2 zs) (hl : zs.length ≤ 9223372036854775807) :
    Calls Try.prog 33 #[.slice a1 zs.length p1, .slice a2 zs.length p2] w fun e w' => e = .returned (.bool true) ∧ Below w.heap.size w w' := by
  go_enter Try.func33, Try.ntmps33
  go_wp2_with fail
  go_loopw [5] (fun i wr => ∃ k : Nat, k ≤ zs.length ∧ i = .int .i64 k ∧ Below w.heap.size w wr) (fun i _ => zs.length - (intOf i).toNat)
  case atStart => exact ⟨0, Nat.zero_le _, rfl, Below.refl _ _⟩
  case round =>
    obtain ⟨k, hk, rfl, hbr⟩ := hrel
    by_cases hlt : k < zs.length
    · obtain ⟨b, off, rfl, hbB, hc⟩ := h1 k hlt
      obtain ⟨b2, off2, rfl, hbB2, hc2⟩ := h2 k hlt
      have hcr := (hbr.cell (p := ⟨b, off + k, none⟩) hbB).trans hc
      have hcr2 := (hbr.cell (p := ⟨b2, off2 + k, none⟩) hbB2).trans hc2
      obtain ⟨z, hze⟩ : ∃ z, zs.getD k ByteArray.empty = z := ⟨_, rfl⟩
      rw [hze] at hcr hcr2
      clear hze hc hc2 h1 h2
      go_wp2_with fail
      go_quiet (fail)
      have hbo : Below w.heap.size w (wr.drewN nq) := ⟨hbr.os, hbr.tape, hbr.output, hbr.size, hbr.block⟩
      go_wp2_with fail
      go_roundw
      case rel => exact ⟨k + 1, by omega, by go_num, hbo⟩
      case measure => simp [intOf]; omega
    · go_wp2_with fail
      go_ret
      exact ⟨rfl, hbr⟩

end Go.Proofs.Ytamjfnpgjcdepaa
