/- Walks: allRight, isTwice. -/
import Derived.Test.YtfipogmndokhkaaUe
namespace Go.Proofs.Ytfipogmndokhkaa
open Go.RowKit

def rightB (d : Int × Int) : Bool := decide (1 ≤ d.1) && decide (d.1 ≤ 20) && (decide (0 ≤ d.2) && decide (d.2 < 2147483647))
def Rt (ds : List (Int × Int)) : Prop := ∀ d ∈ ds, 1 ≤ d.1 ∧ d.1 ≤ 20 ∧ 0 ≤ d.2 ∧ d.2 < 2147483647
theorem right_iff (ds : List (Int × Int)) : ds.all rightB = true ↔ Rt ds := by
  rw [List.all_eq_true]
  unfold Rt rightB
  constructor
  · intro h d hd
    have := h d hd
    simp at this
    omega
  · intro h d hd
    have := h d hd
    simp
    omega
theorem Rt.get {ds : List (Int × Int)} (h : Rt ds) {k : Nat} (hk : k < ds.length) : 1 ≤ (ds.getD k (0, 0)).1 ∧ (ds.getD k (0, 0)).1 ≤ 20 ∧ 0 ≤ (ds.getD k (0, 0)).2 ∧ (ds.getD k (0, 0)).2 < 2147483647 := by
  rw [List.getD_eq_getElem?_getD, List.getElem?_eq_getElem hk]
  exact h _ (List.getElem_mem hk)
theorem all_step {ds : List (Int × Int)} {k : Nat} (hk : k < ds.length) (h : (ds.take k).all rightB = true) (h' : rightB (ds.getD k (0, 0)) = true) : (ds.take (k + 1)).all rightB = true := by
  rw [List.take_succ_eq_append_getElem hk, List.all_append, h]
  rw [List.getD_eq_getElem?_getD, List.getElem?_eq_getElem hk] at h'
  simpa using h'
theorem all_stop {ds : List (Int × Int)} {k : Nat} (hk : k < ds.length) (h' : rightB (ds.getD k (0, 0)) = false) : ds.all rightB = false := by
  rw [List.all_eq_false]
  rw [List.getD_eq_getElem?_getD, List.getElem?_eq_getElem hk] at h'
  exact ⟨_, List.getElem_mem hk, by rw [← Bool.not_eq_true] at h'; simpa using h'⟩

set_option maxRecDepth 100000 in
set_option maxHeartbeats 2000000 in
theorem allRight_any (ds : List (Int × Int)) (A : Option Addr) (c : Nat) (w : World) (hS : ShAt w.heap.size w A ds) (hl : ds.length ≤ 1000) (r : Bool) (hr : r = ds.all rightB) :
    Calls Try.prog 21 #[.slice A ds.length c] w fun e w' => e = .returned (.bool r) ∧ Below w.heap.size w w' := by
  have HR := Lib.hid hr; clear hr
  have HS := Lib.hid hS; clear hS
  obtain ⟨n, hn⟩ : ∃ n, ds.length = n := ⟨_, rfl⟩
  rw [hn] at hl ⊢
  have HN := Lib.hid hn; clear hn
  go_enter Try.func21, Try.ntmps21
  go_wp2_with fail
  go_loopw [7] (fun kv wr => ∃ k : Nat, k ≤ n ∧ kv = .int .i64 k ∧ Below w.heap.size w wr ∧ Hid ((ds.take k).all rightB = true)) (fun kv _ => n - (intOf kv).toNat)
  case atStart => exact ⟨0, Nat.zero_le _, rfl, Below.refl _ _, Lib.hid rfl⟩
  case round =>
    obtain ⟨k, hk, rfl, hb, hv⟩ := hrel
    by_cases hgo : k < n
    · obtain ⟨b, off, hA, hB, hc0, hc1⟩ := (HS.out.below hb) k (by have := HN.out; omega)
      subst hA
      have hs := hb.size
      obtain ⟨d, hd⟩ : ∃ d, ds.getD k (0, 0) = d := ⟨_, rfl⟩
      obtain ⟨X, Y⟩ := d
      have hst := fun h => all_step (by have := HN.out; omega) hv.out h
      have hsp := fun h => all_stop (k := k) (ds := ds) (by have := HN.out; omega) h
      rw [hd] at hc0 hc1 hst hsp
      simp only at hc0 hc1
      have HST := Lib.hid hst; clear hst
      have HSP := Lib.hid hsp; clear hsp
      clear hd
      by_cases h1 : X < 1
      · have hf : rightB (X, Y) = false := by unfold rightB; simp; omega
        have HF := Lib.hid (HSP.out hf); clear hf
        go_wp2_with fail
        go_ret
        exact ⟨by rw [HR.out, HF.out]; rfl, hb.alloc hs _⟩
      · by_cases h2 : 20 < X
        · have hf : rightB (X, Y) = false := by unfold rightB; simp; omega
          have HF := Lib.hid (HSP.out hf); clear hf
          go_wp2_with fail
          go_ret
          exact ⟨by rw [HR.out, HF.out]; rfl, hb.alloc hs _⟩
        · by_cases h3 : 0 ≤ Y ∧ Y < 2147483647
          · have hf : rightB (X, Y) = true := by unfold rightB; simp; omega
            have HF := Lib.hid (HST.out hf); clear hf
            go_wp2_with fail
            refine (inField_any Y _ true (by simp [h3.1, h3.2])).mono ?_
            rintro e w1 ⟨rfl, rfl⟩
            go_wp2_with fail
            go_roundw
            case rel => exact ⟨k + 1, by omega, rfl, hb.alloc hs _, HF⟩
            case measure => simp [intOf]; omega
          · have hf : rightB (X, Y) = false := by unfold rightB; simp; omega
            have HF := Lib.hid (HSP.out hf); clear hf
            go_wp2_with fail
            refine (inField_any Y _ false (by simp; omega)).mono ?_
            rintro e w1 ⟨rfl, rfl⟩
            go_wp2_with fail
            go_ret
            exact ⟨by rw [HR.out, HF.out]; rfl, hb.alloc hs _⟩
    · have : k = n := by omega
      subst this
      have HF : Hid (ds.all rightB = true) := Lib.hid (by have h := hv.out; rwa [List.take_of_length_le (by have := HN.out; omega)] at h)
      go_wp2_with fail
      go_ret
      exact ⟨by rw [HR.out, HF.out]; rfl, hb⟩

/-- The places that were seen. -/
def seenArr (Xs : List Int) : Array Value := ((List.range 21).map fun (x : Nat) => Value.bool (decide ((x : Int) ∈ Xs))).toArray
theorem seen_get (Xs : List Int) (x : Nat) (h : x < 21) : (seenArr Xs)[x]? = some (.bool (decide ((x : Int) ∈ Xs))) := by
  unfold seenArr
  rw [List.getElem?_toArray, List.getElem?_map, List.getElem?_range h]
  rfl
theorem seen_set (Xs : List Int) (x : Nat) (h : x < 21) : (seenArr Xs).setIfInBounds x (.bool true) = seenArr (Xs ++ [(x : Int)]) := by
  apply Array.ext_getElem?
  intro i
  unfold seenArr
  rw [Array.getElem?_setIfInBounds]
  simp only [List.getElem?_toArray, List.getElem?_map, List.size_toArray, List.length_map, List.length_range]
  rcases Nat.lt_or_ge i 21 with h1 | h1
  · rw [List.getElem?_range h1]
    by_cases h2 : x = i
    · subst h2
      simp [h]
    · rw [if_neg h2]
      have : (i : Int) ≠ (x : Int) := by omega
      simp [this]
  · rw [List.getElem?_eq_none (by simp; omega), if_neg (by omega)]
    simp
theorem nodup_snoc {Xs : List Int} {x : Int} (h : Xs.Nodup) (hx : x ∉ Xs) : (Xs ++ [x]).Nodup := by
  rw [List.nodup_append]
  exact ⟨h, by simp, fun a ha b hb => by simp at hb; subst hb; exact fun e => hx (e ▸ ha)⟩
theorem not_nodup {ds : List (Int × Int)} {k : Nat} (hk : k < ds.length) (hx : (ds.getD k (0, 0)).1 ∈ (ds.take k).map (·.1)) : ¬ (ds.map (·.1)).Nodup := fun h => by
  rw [List.getD_eq_getElem?_getD, List.getElem?_eq_getElem hk] at hx
  have h1 : ((ds.take (k + 1)).map (·.1)).Nodup := List.Sublist.nodup ((List.take_sublist _ _).map _) h
  rw [List.take_succ_eq_append_getElem hk, List.map_append, List.nodup_append] at h1
  exact h1.2.2 _ hx _ (by simp) rfl
theorem fst_snoc {ds : List (Int × Int)} {k : Nat} (hk : k < ds.length) : (ds.take (k + 1)).map (·.1) = (ds.take k).map (·.1) ++ [(ds.getD k (0, 0)).1] := by
  rw [List.take_succ_eq_append_getElem hk, List.map_append, List.getD_eq_getElem?_getD, List.getElem?_eq_getElem hk]
  rfl

set_option maxRecDepth 100000 in
set_option maxHeartbeats 2000000 in
theorem isTwice_any (ds : List (Int × Int)) (A : Option Addr) (c : Nat) (w : World) (hS : ShAt w.heap.size w A ds) (hl : ds.length ≤ 1000) (hrt : Rt ds) (r : Bool) (hr : r = true ↔ ¬ (ds.map (·.1)).Nodup) :
    Calls Try.prog 22 #[.slice A ds.length c] w fun e w' => e = .returned (.bool r) ∧ Below w.heap.size w w' := by
  have HR := Lib.hid hr; clear hr
  have HS := Lib.hid hS; clear hS
  have HT := Lib.hid hrt; clear hrt
  obtain ⟨n, hn⟩ : ∃ n, ds.length = n := ⟨_, rfl⟩
  rw [hn] at hl ⊢
  have HN := Lib.hid hn; clear hn
  have k0 := Blk.new w 52 (seenArr [])
  have hb0 := (Below.refl w.heap.size w).alloc (Nat.le_refl _) (.cells (seenArr []) 52)
  have hs0 : (w.alloc (.cells (seenArr []) 52)).heap.size = w.heap.size + 1 := by simp
  have hz : seenArr [] = #[.bool false, .bool false, .bool false, .bool false, .bool false, .bool false, .bool false, .bool false, .bool false, .bool false, .bool false, .bool false, .bool false, .bool false, .bool false, .bool false, .bool false, .bool false, .bool false, .bool false, .bool false] := by rfl
  obtain ⟨W, hW⟩ : ∃ W, w.alloc (.cells (seenArr []) 52) = W := ⟨_, rfl⟩
  rw [hW] at k0 hb0 hs0
  rw [hz] at hW
  have HW := Lib.hid hW; clear hW hz
  go_enter Try.func22, Try.ntmps22
  go_wp2_with fail
  rw [HW.out]
  go_loopw [8] (fun kv wr => ∃ k : Nat, k ≤ n ∧ kv = .int .i64 k ∧ Below w.heap.size w wr ∧ Hid (Blk wr w.heap.size 52 (seenArr ((ds.take k).map (·.1))) ∧ ((ds.take k).map (·.1)).Nodup) ∧ w.heap.size < wr.heap.size) (fun kv _ => n - (intOf kv).toNat)
  case atStart => exact ⟨0, Nat.zero_le _, rfl, hb0, Lib.hid ⟨k0, List.nodup_nil⟩, by omega⟩
  case round =>
    obtain ⟨k, hk, rfl, hb, hv, hlt⟩ := hrel
    by_cases hgo : k < n
    · obtain ⟨b, off, hA, hB, hc0, hc1⟩ := (HS.out.below hb) k (by have := HN.out; omega)
      subst hA
      have hs := hb.size
      obtain ⟨hx1, hx2, _, _⟩ := HT.out.get (k := k) (by have := HN.out; omega)
      have hsn := fst_snoc (ds := ds) (k := k) (by have := HN.out; omega)
      have hnn := fun h => not_nodup (ds := ds) (k := k) (by have := HN.out; omega) h
      obtain ⟨d, hd⟩ : ∃ d, ds.getD k (0, 0) = d := ⟨_, rfl⟩
      obtain ⟨X, Y⟩ := d
      rw [hd] at hc0 hc1 hx1 hx2 hsn hnn
      simp only at hc0 hc1 hx1 hx2
      clear hd
      obtain ⟨x, rfl⟩ : ∃ x : Nat, X = (x : Int) := ⟨X.toNat, by omega⟩
      have hx : x < 21 := by omega
      have hcell := (hv.out.1.cell x).trans (seen_get _ x hx)
      have hfr := hv.out.1.frozen x
      obtain ⟨q, hq⟩ : ∃ q, decide ((x : Int) ∈ (ds.take k).map (·.1)) = q := ⟨_, rfl⟩
      rw [hq] at hcell
      have HSN := Lib.hid hsn; clear hsn
      have HNN := Lib.hid hnn; clear hnn
      have HQ := Lib.hid hq; clear hq
      obtain ⟨Gn, hGn⟩ : ∃ Gn, w.heap.size = Gn := ⟨_, rfl⟩
      have hcell2 := hcell
      rw [hGn] at hcell hfr hlt
      have hne : b ≠ Gn := by omega
      have HGn := Lib.hid hGn
      rw [hGn]
      cases q with
      | true =>
        have HF : Hid (r = true) := Lib.hid (HR.out.2 (HNN.out (by simpa using HQ.out)))
        clear hGn
        go_wp2_with fail
        go_ret
        exact ⟨by rw [HF.out]; rfl, hb.alloc hs _⟩
      | false =>
        clear hGn
        go_wp2_with fail
        go_roundw
        case rel =>
          refine ⟨k + 1, by omega, rfl, ?_, ?_, ?_⟩
          · obtain rfl := HGn.out
            exact (hb.setCell (p := ⟨w.heap.size, x, none⟩) (Nat.le_refl _) _).alloc (by simpa using hs) _
          · obtain rfl := HGn.out
            refine Lib.hid ⟨?_, ?_⟩
            · rw [HSN.out, ← seen_set _ x hx]
              exact (hv.out.1.set_ x (.bool true)).alloc _
            · rw [HSN.out]
              exact nodup_snoc hv.out.2 (by simpa using HQ.out)
          · simp; omega
        case measure => simp [intOf]; omega
    · have : k = n := by omega
      subst this
      have HF : Hid (r = false) := Lib.hid (by
        have h := hv.out.2
        rw [List.take_of_length_le (by have := HN.out; omega)] at h
        cases r with
        | false => rfl
        | true => exact absurd h (HR.out.1 rfl))
      go_wp2_with fail
      go_ret
      exact ⟨by rw [HF.out]; rfl, hb⟩

end Go.Proofs.Ytfipogmndokhkaa
