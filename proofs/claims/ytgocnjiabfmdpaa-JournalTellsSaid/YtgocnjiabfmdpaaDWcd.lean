/- Walks of the disk's small methods: Down, Start, Lose, Size, ready, strikes. Walks of Read and of slices.Clone. -/
import Derived.Test.YtgocnjiabfmdpaaDV
import Derived.BigQuiet
import Derived.Deep.QuietTactic
namespace Go.Proofs.Ytgocnjiabfmdpaa
set_option maxRecDepth 8000
open Go.RowKit

theorem zero56 (w : World) : (zeroValue 79).run Try.prog w = .ok (.pointer none) w := by kernel_rfl
theorem zero4 (w : World) : (zeroValue 4).run Try.prog w = .ok (.bool false) w := by kernel_rfl

/-- The disk's own block alone. -/
def MD (k : Nat) : Nat × Role → Prop := fun t => t = (k, Role.disk)
/-- Every block of the disk number k. -/
def MA (k : Nat) : Nat × Role → Prop := fun t => t.1 = k

theorem DBody.setD {L : Lab} {w : World} {k d mb : Nat} {pv kv : Value} {fb : Int → Nat} {s : St} (h : DBody L w k mb pv kv fb s) (hL : Fresh L w) (hd : L d = some (k, .disk)) (i : Nat) (u : Value) : DBody L (w.setCell ⟨d, i, none⟩ u) k mb pv kv fb s :=
  h.keep hL ((Fr.refl (M := MD k) hL).setCell (Or.inr ⟨_, hd, rfl⟩) u) (fun r hr _ e => hr (by injection e))

theorem Fr.setD {L : Lab} {w : World} {k d : Nat} (hL : Fresh L w) (hd : L d = some (k, .disk)) (i : Nat) (u : Value) : Fr (MD k) L w L (w.setCell ⟨d, i, none⟩ u) :=
  (Fr.refl (M := MD k) hL).setCell (Or.inr ⟨_, hd, rfl⟩) u

theorem DAt.setD {L : Lab} {w : World} {k d mb : Nat} {pv kv : Value} {fb : Int → Nat} {s s' : St} (hL : Fresh L w) (hd : L d = some (k, .disk)) (hb : w.heap[d]? = some (.cells (dcells mb pv kv s) 78 (0, 0))) (i : Nat) (u : Value)
    (he : (dcells mb pv kv s).setIfInBounds i u = dcells mb pv kv s') (hbody : DBody L w k mb pv kv fb s') : DAt L (w.setCell ⟨d, i, none⟩ u) k d s' :=
  ⟨mb, pv, kv, fb, hd, by rw [← he]; exact blk_set hb i u, hbody.setD hL hd i u⟩

theorem down_any {L : Lab} {w : World} {k d : Nat} {s : St} (h : DAt L w k d s) : Calls Try.prog 15 #[.pointer (some ⟨d, 0, none⟩)] w fun e w' => e = .returned (.bool s.down) ∧ w = w' := by
  obtain ⟨mb, pv, kv, fb, hd, hb, _⟩ := h
  have c2 := blk_cell hb 2
  simp [dcells] at c2
  clear hb
  go_enter Try.func15, Try.ntmps15
  go_wp2_with fail
  go_ret
  exact ⟨rfl, rfl⟩

theorem start_any {L : Lab} {w : World} {k d : Nat} {s : St} (hL : Fresh L w) (h : DAt L w k d s) :
    Calls Try.prog 39 #[.pointer (some ⟨d, 0, none⟩)] w fun e w' => e = .returned (.tuple #[]) ∧ DAt L w' k d s.start ∧ Fr (MD k) L w L w' := by
  obtain ⟨mb, pv, kv, fb, hd, hb, hbody⟩ := h
  have c2 := blk_cell hb 2
  have f2 := blk_free hb 2
  simp [dcells] at c2
  have HB := Lib.hid hb
  clear hb
  go_enter Try.func39, Try.ntmps39
  go_wp2_with fail
  go_end0
  exact ⟨rfl, DAt.setD hL hd HB.out 2 _ rfl hbody, Fr.setD hL hd _ _⟩

theorem lose_any {L : Lab} {w : World} {k d : Nat} {s : St} (n : Int) (hL : Fresh L w) (h : DAt L w k d s) :
    Calls Try.prog 33 #[.pointer (some ⟨d, 0, none⟩), .int .i64 n] w fun e w' => e = .returned (.tuple #[]) ∧ DAt L w' k d (s.lose n) ∧ Fr (MD k) L w L w' := by
  obtain ⟨mb, pv, kv, fb, hd, hb, hbody⟩ := h
  have c3 := blk_cell hb 3
  have f3 := blk_free hb 3
  simp [dcells] at c3
  have HB := Lib.hid hb
  clear hb
  by_cases hn : 0 ≤ n
  · have H : Hid (max n 0 = n) := show _ = _ by omega
    go_enter Try.func33, Try.ntmps33
    go_wp2_with fail
    all_goals
      go_end0
      exact ⟨rfl, DAt.setD hL hd HB.out 3 _ (by simp [dcells, St.lose]; omega) hbody, Fr.setD hL hd _ _⟩
  · have H : Hid (max n 0 = 0) := show _ = _ by omega
    go_enter Try.func33, Try.ntmps33
    go_wp2_with fail
    all_goals
      go_end0
      exact ⟨rfl, DAt.setD hL hd HB.out 3 _ (by simp [dcells, St.lose]; omega) hbody, Fr.setD hL hd _ _⟩

theorem filesF_in {fb : Int → Nat} {f : Int} (h : isFile f = true) (c : Bool) : lookRes (filesF fb) f (.pointer none) c = if c then .tuple #[.pointer (some ⟨fb f, 0, none⟩), .bool true] else .pointer (some ⟨fb f, 0, none⟩) := by simp [lookRes, filesF, h]
theorem filesF_out {fb : Int → Nat} {f : Int} (h : isFile f = false) (c : Bool) : lookRes (filesF fb) f (.pointer none) c = if c then .tuple #[.pointer none, .bool false] else .pointer none := by simp [lookRes, filesF, h]

theorem ready_any {L : Lab} {w : World} {k d : Nat} {s : St} (f : Int) (hf : isI64 f) (h : DAt L w k d s) :
    Calls Try.prog 65 #[.pointer (some ⟨d, 0, none⟩), .int .i64 f] w fun e w' => e = .returned (.int .i64 (s.ready f)) ∧ w = w' := by
  obtain ⟨mb, pv, kv, fb, hd, hb, hbody⟩ := h
  have c0 := blk_cell hb 0
  have c2 := blk_cell hb 2
  simp [dcells] at c0 c2
  have hm := hbody.2.1
  clear hb hbody
  unfold St.ready
  cases hdn : s.down
  · rw [hdn] at c2
    cases hi : isFile f
    · have HI := Lib.hid hi
      clear hi hdn
      go_enter Try.func65, Try.ntmps65
      go_wp2_with (at_lookup; refine wpList_look _ rfl _ _ 75 true rfl 3 79 Try.underlying3 Try.underlying75 (zero56 _) mb _ rfl hm f rfl hf _ (filesF_out HI.out true) ?_; rw [if_pos rfl])
      go_ret
      exact ⟨by simp, rfl⟩
    · have HI := Lib.hid hi
      clear hi hdn
      go_enter Try.func65, Try.ntmps65
      go_wp2_with (at_lookup; refine wpList_look _ rfl _ _ 75 true rfl 3 79 Try.underlying3 Try.underlying75 (zero56 _) mb _ rfl hm f rfl hf _ (filesF_in HI.out true) ?_; rw [if_pos rfl])
      go_ret
      exact ⟨by simp, rfl⟩
  · rw [hdn] at c2
    clear hdn
    go_enter Try.func65, Try.ntmps65
    go_wp2_with fail
    go_ret
    exact ⟨by simp, rfl⟩

theorem strikes_any {L : Lab} {w : World} {k d : Nat} {s : St} (hL : Fresh L w) (h : DAt L w k d s) (ha : 0 ≤ s.armed ∧ s.armed ≤ 9223372036854775807) :
    Calls Try.prog 63 #[.pointer (some ⟨d, 0, none⟩)] w fun e w' => e = .returned (.bool s.hit) ∧ DAt L w' k d s.count ∧ Fr (MD k) L w L w' := by
  have h' := h
  obtain ⟨mb, pv, kv, fb, hd, hb, hbody⟩ := h
  have c2 := blk_cell hb 2
  have c4 := blk_cell hb 4
  have f4 := blk_free hb 4
  simp [dcells] at c2 c4
  have HB := Lib.hid hb
  clear hb
  cases hdn : s.down
  · rw [hdn] at c2
    by_cases h0 : s.armed = 0
    · have e1 : ((s.armed : Int) == 0) = true := by simp [h0]
      have HC : Hid (s.count = s) := show _ = _ by unfold St.count; rw [if_pos (Or.inr h0)]
      have HH : Hid (s.hit = false) := show _ = _ by simp [St.hit, h0]
      clear h0 hdn
      go_enter Try.func63, Try.ntmps63
      go_wp2_with fail
      go_ret
      rw [HC.out, HH.out]
      exact ⟨rfl, h', Fr.refl hL⟩
    · have e1 : ((s.armed : Int) == 0) = false := by simp [h0]
      have HC : Hid (s.count = { s with armed := s.armed - 1 }) := show _ = _ by unfold St.count; rw [if_neg (by simp [hdn, h0])]
      have HH : Hid (s.hit = (s.armed - 1 == 0)) := show _ = _ by
        rw [St.hit, hdn, Bool.eq_iff_iff]; simp; omega
      have hp : 1 ≤ s.armed := by omega
      clear h0 hdn
      go_enter Try.func63, Try.ntmps63
      go_wp2_with fail
      go_ret
      rw [HC.out, HH.out]
      exact ⟨rfl, DAt.setD hL hd HB.out 4 _ rfl hbody, Fr.setD hL hd _ _⟩
  · rw [hdn] at c2
    have HC : Hid (s.count = s) := show _ = _ by unfold St.count; rw [if_pos (Or.inl hdn)]
    have HH : Hid (s.hit = false) := show _ = _ by simp [St.hit, hdn]
    clear hdn
    go_enter Try.func63, Try.ntmps63
    go_wp2_with fail
    go_ret
    rw [HC.out, HH.out]
    exact ⟨rfl, h', Fr.refl hL⟩

theorem size_any {L : Lab} {w : World} {k d : Nat} {s : St} (f : Int) (hf : isI64 f) (h : DAt L w k d s) :
    Calls Try.prog 17 #[.pointer (some ⟨d, 0, none⟩), .int .i64 f] w fun e w' => e = .returned (.int .i64 (s.size f)) ∧ w = w' := by
  obtain ⟨mb, pv, kv, fb, hd, hb, hbody⟩ := h
  have c0 := blk_cell hb 0
  simp [dcells] at c0
  obtain ⟨_, hm, _, _, hfs⟩ := hbody
  clear hb
  unfold St.size
  cases hi : isFile f
  · have HI := Lib.hid hi
    clear hi
    go_enter Try.func17, Try.ntmps17
    go_wp2_with (at_lookup; refine wpList_look _ rfl _ _ 75 true rfl 3 79 Try.underlying3 Try.underlying75 (zero56 _) mb _ rfl hm f rfl hf _ (filesF_out HI.out true) ?_; rw [if_pos rfl])
    go_ret
    exact ⟨by simp, rfl⟩
  · obtain ⟨nv, dv, sb, a1, a2, a3, a4, a5, a6⟩ := hfs f hi
    have HI := Lib.hid hi
    have b0 := blk_cell a2 0
    simp at b0
    clear hi hfs a2 a4 a6
    have ho := a5.1
    clear a5
    rcases own_form ho with ⟨rfl, hz⟩ | ⟨g, c, rfl, hnc, hc1⟩
    · have HZ := Lib.hid hz
      clear hz
      go_enter Try.func17, Try.ntmps17
      go_wp2_with (at_lookup; refine wpList_look _ rfl _ _ 75 true rfl 3 79 Try.underlying3 Try.underlying75 (zero56 _) mb _ rfl hm f rfl hf _ (filesF_in HI.out true) ?_; rw [if_pos rfl])
      go_ret
      exact ⟨by rw [HZ.out]; rfl, rfl⟩
    · go_enter Try.func17, Try.ntmps17
      go_wp2_with (at_lookup; refine wpList_look _ rfl _ _ 75 true rfl 3 79 Try.underlying3 Try.underlying75 (zero56 _) mb _ rfl hm f rfl hf _ (filesF_in HI.out true) ?_; rw [if_pos rfl])
      go_ret
      exact ⟨by simp, rfl⟩

end Go.Proofs.Ytgocnjiabfmdpaa

namespace Go.Proofs.Ytgocnjiabfmdpaa
set_option maxRecDepth 8000
open Go.RowKit

def ba (l : List UInt8) : ByteArray := ⟨l.toArray⟩
theorem ba_toList (l : List UInt8) : (ba l).data.toList = l := by simp [ba]
theorem ba_of (s : ByteArray) : ba s.data.toList = s := by simp [ba]
theorem ba_size (l : List UInt8) : (ba l).size = l.length := by simp [ba, ByteArray.size]

/-- string(b) of a slice of bytes at an address. -/
theorem conv_at {w : World} (g off n c : Nat) (l : List UInt8) (hl : l.length = n) (h : ∀ i, i < n → w.cell? ⟨g, off + i, none⟩ = some (.int .u8 ((l.getD i 0).toNat : Int))) :
    (convert 73 9 (.slice (some ⟨g, off, none⟩) n c)).run Try.prog w = .ok (.string (ba l)) w := by
  subst hl
  have := run_convert_bytes_arg (P := Try.prog) w 73 5 Try.underlying73 Try.underlying5 g off l.length c (l.map fun b => (b.toNat : Int)) (by simp) (fun i hi => by
      rw [h i hi]
      simp [List.getElem?_eq_getElem hi]) 9 Try.underlying9
  rw [this]
  have hs : strOfNums (l.map fun b => (b.toNat : Int)) = (ba l : ByteArray) := by
    have : l.map ((fun n : Int => UInt8.ofNat n.toNat) ∘ fun b : UInt8 => (b.toNat : Int)) = l := by
      conv => rhs; rw [← List.map_id l]
      exact List.map_congr_left (fun b _ => by simp)
    unfold strOfNums ba
    rw [List.map_map, this]
  rw [hs]

theorem conv_none {w : World} (A : Option Addr) (c : Nat) : (convert 73 9 (.slice A 0 c)).run Try.prog w = .ok (.string (ba [])) w := by
  cases A with
  | none => exact run_convert_bytes_nil w 73 5 Try.underlying73 Try.underlying5 0 c 9 Try.underlying9
  | some ad =>
    rw [run_convert_bytes_string w 73 9 5 _ _ _ Try.underlying73 Try.underlying5 Try.underlying9]
    simp [Conv.bytesToString, loadCells, loadCellsFrom]
    rfl

theorem part_len (l : List UInt8) (a z : Nat) : (part l a z).length = min z (l.length - a) := by unfold part; simp

theorem read_ready {L : Lab} {w : World} {k d : Nat} {s : St} (f a z : Int) (hf : isI64 f) (h : DAt L w k d s) (hr : s.ready f ≠ 0) :
    Calls Try.prog 21 #[.pointer (some ⟨d, 0, none⟩), .int .i64 f, .int .i64 a, .int .i64 z] w fun e w' => e = .returned (.tuple #[.string (ba []), .int .i64 (s.ready f)]) ∧ w = w' := by
  have hb : ((s.ready f : Int) == 0) = false := beq_eq_false_iff_ne.2 hr
  have hb' : ((s.ready f : Int) != 0) = true := bne_iff_ne.2 hr
  clear hr
  go_enter Try.func21, Try.ntmps21
  go_wp2_with fail
  refine (ready_any f hf h).mono ?_
  rintro e w1 ⟨rfl, rfl⟩
  go_wp2_with fail
  go_ret2
  exact ⟨rfl, rfl⟩

theorem read_args {L : Lab} {w : World} {k d : Nat} {s : St} (f a z : Int) (hf : isI64 f) (h : DAt L w k d s) (hr : s.ready f = 0) (ha : a < 0 ∨ z < 0) :
    Calls Try.prog 21 #[.pointer (some ⟨d, 0, none⟩), .int .i64 f, .int .i64 a, .int .i64 z] w fun e w' => e = .returned (.tuple #[.string (ba []), .int .i64 1]) ∧ w = w' := by
  have HR := Lib.hid hr
  clear hr
  by_cases h0 : a < 0
  · clear ha
    go_enter Try.func21, Try.ntmps21
    go_wp2_with fail
    refine (ready_any f hf h).mono ?_
    rintro e w1 ⟨rfl, rfl⟩
    rw [HR.out]
    go_wp2_with fail
    go_ret2
    exact ⟨rfl, rfl⟩
  · have h1 : z < 0 := by omega
    clear ha
    go_enter Try.func21, Try.ntmps21
    go_wp2_with fail
    refine (ready_any f hf h).mono ?_
    rintro e w1 ⟨rfl, rfl⟩
    rw [HR.out]
    go_wp2_with fail
    go_ret2
    exact ⟨rfl, rfl⟩

theorem ready_zero {s : St} {f : Int} (h : s.ready f = 0) : s.down = false ∧ isFile f = true := by
  unfold St.ready at h
  split at h
  · omega
  · split at h
    · exact ⟨by simpa using ‹¬ s.down = true›, by assumption⟩
    · omega

set_option maxHeartbeats 400000 in
theorem read_ok {L : Lab} {w : World} {k d : Nat} {s : St} (f : Int) (a z : Nat) (hf : isI64 f) (h : DAt L w k d s) (hr : s.ready f = 0) :
    Calls Try.prog 21 #[.pointer (some ⟨d, 0, none⟩), .int .i64 f, .int .i64 a, .int .i64 z] w fun e w' => e = .returned (.tuple #[.string (ba (part (s.now f) a z)), .int .i64 0]) ∧ w = w' := by
  have h' := h
  obtain ⟨mb, pv, kv, fb, hd, hb, hbody⟩ := h
  have c0 := blk_cell hb 0
  simp [dcells] at c0
  obtain ⟨_, hm, _, _, hfs⟩ := hbody
  have hi := (ready_zero hr).2
  obtain ⟨nv, dv, sb, a1, a2, a3, a4, a5, a6⟩ := hfs f hi
  have HI := Lib.hid hi
  have HR := Lib.hid hr
  have b0 := blk_cell a2 0
  simp at b0
  have ho := a5.1
  have hpl := part_len (s.now f) a z
  clear hb hi hr hfs a2 a4 a6 a5
  have hcv0 := fun A c => conv_none (w := w) A c
  have ha0 : (0 : Int) ≤ a := by omega
  have hz0 : (0 : Int) ≤ z := by omega
  rcases own_form ho with ⟨rfl, hz⟩ | ⟨g, c, rfl, hnc, hc1⟩
  · have HZ : Hid (part (s.now f) a z = []) := show _ = _ from List.eq_nil_of_length_eq_zero (by omega)
    clear hz hpl
    rcases Nat.eq_zero_or_pos a with rfl | ha1
    all_goals rcases Nat.eq_zero_or_pos z with rfl | hz1
    all_goals
      go_enter Try.func21, Try.ntmps21
      go_wp2_with fail
      refine (ready_any f hf h').mono ?_
      rintro e w1 ⟨rfl, rfl⟩
      rw [HR.out]
      go_wp2_with (at_lookup; refine wpList_look _ rfl _ _ 75 false rfl 3 79 Try.underlying3 Try.underlying75 (zero56 _) mb _ rfl hm f rfl hf _ (filesF_in HI.out false) ?_; rw [if_neg (by simp)])
      go_ret2
      rw [HZ.out]
      exact ⟨rfl, rfl⟩
  · obtain ⟨ln, hln⟩ : ∃ ln, ln = (s.now f).length := ⟨_, rfl⟩
    rw [← hln] at hpl hnc ho b0
    have hcell : ∀ i, i < ln → w.cell? ⟨g, i, none⟩ = some (.int .u8 (((s.now f).getD i 0).toNat : Int)) := fun i hi => by
      have h1 := World.ownsRow.cellAt ho i (by omega)
      rw [h1]
      rw [hln] at hi
      simp [bc, List.getElem?_eq_getElem hi]
    have hpart : ∀ i, i < (part (s.now f) a z).length → w.cell? ⟨g, a + i, none⟩ = some (.int .u8 (((part (s.now f) a z).getD i 0).toNat : Int)) := fun i hi => by
      rw [hcell (a + i) (by omega)]
      congr 3
      unfold part
      rw [Int.toNat_natCast, Int.toNat_natCast, getD_take, getD_drop, if_pos (by omega)]
    by_cases hA : ln < a
    · have HZ : Hid (part (s.now f) a z = []) := show _ = _ from List.eq_nil_of_length_eq_zero (by omega)
      clear hpl hpart hcell hln
      rcases Nat.eq_zero_or_pos z with rfl | hz1
      all_goals
        go_enter Try.func21, Try.ntmps21
        go_wp2_with fail
        refine (ready_any f hf h').mono ?_
        rintro e w1 ⟨rfl, rfl⟩
        rw [HR.out]
        go_wp2_with (at_lookup; refine wpList_look _ rfl _ _ 75 false rfl 3 79 Try.underlying3 Try.underlying75 (zero56 _) mb _ rfl hm f rfl hf _ (filesF_in HI.out false) ?_; rw [if_neg (by simp)])
        all_goals
          go_ret2
          first | rw [HZ.out] | rw [show part (s.now f) (↑a) 0 = [] from HZ.out]
          exact ⟨rfl, rfl⟩
    · by_cases hB : a = ln
      · have HZ : Hid (part (s.now f) a z = []) := show _ = _ from List.eq_nil_of_length_eq_zero (by omega)
        subst hB
        clear hpl hpart hcell hln hA
        rcases Nat.eq_zero_or_pos z with rfl | hz1
        all_goals
          go_enter Try.func21, Try.ntmps21
          go_wp2_with fail
          refine (ready_any f hf h').mono ?_
          rintro e w1 ⟨rfl, rfl⟩
          rw [HR.out]
          go_wp2_with (at_lookup; refine wpList_look _ rfl _ _ 75 false rfl 3 79 Try.underlying3 Try.underlying75 (zero56 _) mb _ rfl hm f rfl hf _ (filesF_in HI.out false) ?_; rw [if_neg (by simp)])
          all_goals
            go_ret2
            first | rw [HZ.out] | rw [show part (s.now f) (↑a) 0 = [] from HZ.out]
            exact ⟨rfl, rfl⟩
      · have hcv := conv_at (w := w) g a _ (c - a) (part (s.now f) a z) rfl hpart
        have hca : ¬ c = a := by omega
        rw [hpl] at hcv
        clear hpl hpart hcell hln
        by_cases hC : ln - a < z
        · rw [Nat.min_eq_right (by omega)] at hcv
          go_enter Try.func21, Try.ntmps21
          go_wp2_with fail
          refine (ready_any f hf h').mono ?_
          rintro e w1 ⟨rfl, rfl⟩
          rw [HR.out]
          go_wp2_with (at_lookup; refine wpList_look _ rfl _ _ 75 false rfl 3 79 Try.underlying3 Try.underlying75 (zero56 _) mb _ rfl hm f rfl hf _ (filesF_in HI.out false) ?_; rw [if_neg (by simp)])
          go_ret2
          exact ⟨rfl, rfl⟩
        · rw [Nat.min_eq_left (by omega)] at hcv
          go_enter Try.func21, Try.ntmps21
          go_wp2_with fail
          refine (ready_any f hf h').mono ?_
          rintro e w1 ⟨rfl, rfl⟩
          rw [HR.out]
          go_wp2_with (at_lookup; refine wpList_look _ rfl _ _ 75 false rfl 3 79 Try.underlying3 Try.underlying75 (zero56 _) mb _ rfl hm f rfl hf _ (filesF_in HI.out false) ?_; rw [if_neg (by simp)])
          go_ret2
          exact ⟨rfl, rfl⟩

/-- Read, whatever its arguments. -/
theorem read_any {L : Lab} {w : World} {k d : Nat} {s : St} (f a z : Int) (hf : isI64 f) (h : DAt L w k d s) :
    Calls Try.prog 21 #[.pointer (some ⟨d, 0, none⟩), .int .i64 f, .int .i64 a, .int .i64 z] w fun e w' => e = .returned (.tuple #[.string (ba (s.read f a z).1), .int .i64 (s.read f a z).2]) ∧ w = w' := by
  unfold St.read
  by_cases hr : s.ready f = 0
  · rw [if_neg (fun hh => hh hr)]
    by_cases hz : a < 0 ∨ z < 0
    · rw [if_pos hz]
      exact read_args f a z hf h hr hz
    · rw [if_neg hz]
      obtain ⟨a', rfl⟩ := Int.eq_ofNat_of_zero_le (show 0 ≤ a by omega)
      obtain ⟨z', rfl⟩ := Int.eq_ofNat_of_zero_le (show 0 ≤ z by omega)
      exact read_ok f a' z' hf h hr
  · rw [if_pos hr]
    exact read_ready f a z hf h hr

end Go.Proofs.Ytgocnjiabfmdpaa
