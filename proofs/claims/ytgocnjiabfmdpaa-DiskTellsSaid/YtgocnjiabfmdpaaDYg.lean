/- The reference's Put: bytes put into a string at an offset. -/
import Derived.Test.YtgocnjiabfmdpaaDWcd
import Derived.Test.YtgocnjiabfmdpaaRW
import Derived.Test.YtgocnjiabfmdpaaRD
import Derived.Deep.AppendSrc
namespace Go.Proofs.Ytgocnjiabfmdpaa
set_option maxRecDepth 8000
open Go.RowKit

/-- A slice of bytes that lies at the head of block g, of which every cell up to its capacity can be written. -/
structure BufAt (w : World) (g c : Nat) (l : List UInt8) : Prop where
  lt : g < w.heap.size
  le : l.length ≤ c
  max : c ≤ maxLen
  holds : ∀ j, j < l.length → w.cell? ⟨g, j, none⟩ = some (.int .u8 ((l.getD j 0).toNat : Int))
  there : ∀ j, j < c → (w.cell? ⟨g, j, none⟩).isSome = true ∧ w.frozen? ⟨g, j, none⟩ = false

theorem BufAt.of_bytes (w : World) (s : ByteArray) (hs : s.size ≤ 1000000000) : BufAt (Lib.bytesWorld w 5 s) w.heap.size (grownCap w s.size 0 5) s.data.toList := by
  have hsz : s.data.toList.length = s.size := size_toList s
  have hge := grownCap_ge w s.size 0 5
  have hcs : (Lib.bytesCells w 5 s).size = grownCap w s.size 0 5 := by
    unfold Lib.bytesCells
    rw [Array.size_append, Array.size_map, Array.size_replicate]
    show s.size + _ = _
    omega
  refine ⟨by rw [Lib.bytesWorld_size]; omega, by omega, grownCap_le_maxLen w s.size 0 5 (by unfold maxLen; omega), fun j hj => Lib.bytesWorld_cell w 5 s j (by omega), fun j hj => ?_⟩
  constructor
  · simp [World.cell?, Lib.bytesWorld_at_new, hcs, hj]
  · simp [World.frozen?, Lib.bytesWorld_at_new, hcs]
    omega

theorem BufAt.set {w : World} {g c : Nat} {l : List UInt8} (h : BufAt w g c l) (i : Nat) (hi : i < l.length) (x : UInt8) : BufAt (w.setCell ⟨g, i, none⟩ (.int .u8 (x.toNat : Int))) g c (l.set i x) := by
  have h0 := h.holds i hi
  refine ⟨by simpa using h.lt, by rw [List.length_set]; exact h.le, h.max, fun j hj => ?_, fun j hj => ?_⟩
  · rw [List.length_set] at hj
    by_cases hij : i = j
    · subst hij
      rw [World.cell?_setCell_same (h := h0)]
      simp [hi]
    · rw [World.cell?_setCell_other (h := fun e => hij (by injection e)), h.holds j hj]
      simp [hij]
  · refine ⟨?_, by rw [World.frozen?_setCell]; exact (h.there j hj).2⟩
    by_cases hij : i = j
    · subst hij; rw [World.cell?_setCell_same (h := h0)]; rfl
    · rw [World.cell?_setCell_other (h := fun e => hij (by injection e))]; exact (h.there j hj).1

theorem BufAt.alloc {w : World} {g c : Nat} {l : List UInt8} (h : BufAt w g c l) (o : Obj) : BufAt (w.alloc o) g c l :=
  ⟨by have := h.lt; simp; omega, h.le, h.max, fun j hj => (World.cell?_alloc_lt w o ⟨g, j, none⟩ h.lt).trans (h.holds j hj), fun j hj => ⟨by rw [World.cell?_alloc_lt w o ⟨g, j, none⟩ h.lt]; exact (h.there j hj).1, by
    rw [World.frozen?_of_block (a := ⟨g, j, none⟩) (Below.heap_alloc w o g h.lt)]; exact (h.there j hj).2⟩⟩

/-- append(b, 0). -/
theorem buf_append {w : World} {ops : Array Oper} {rest : List Oper} {o : Oper} {a : Act} {Q : Exit → Act → World → Prop} (hgd : o.guard = none) (s x : Operand)
    (ho : o.op = .call { callee := .builtin .append, args := #[s, x], argTypes := #[73, 73] })
    (g c B : Nat) (l : List UInt8) (hs : a.eval s = .slice (some ⟨g, 0, none⟩) l.length c) (hB : BufAt w g c l) (hg : B ≤ g)
    (hx : a.eval x = .slice (some ⟨w.heap.size, 0, none⟩) 1 1) (hl : l.length ≤ 100000000)
    (h : ∀ g' c' w', BufAt w' g' c' (l ++ [0]) → B ≤ g' → Below B w w' → wpList Try.prog ops Q rest (a.put o.dst (.slice (some ⟨g', 0, none⟩) (l.length + 1) c')) w') : wpList Try.prog ops Q (o :: rest) a (w.alloc (.cells #[.int .u8 0] 5)) := by
  obtain ⟨i0, hi, hz0, hz1, hz2⟩ := info_parts Try.info5
  have hBa := hB.alloc (.cells #[.int .u8 0] 5)
  have hsrc : Src Try.prog i0.size 73 (.slice (some ⟨w.heap.size, 0, none⟩) 1 1) 1 [.int .u8 0] (w.alloc (.cells #[.int .u8 0] 5)) := by
    refine Src.ofSlice _ Try.underlying73 _ 1 1 _ (by rw [hz1]; rfl) (fun j u hj => ?_) (by simp [Value.oneCell'])
    match j, hj with | 0, hj => simp at hj; subst hj; simp [Addr.add]
  have hbw : Below B w (w.alloc (.cells #[.int .u8 0] 5)) := (Below.refl B w).alloc (by have := hB.lt; omega) _
  by_cases hroom : l.length + 1 ≤ c
  · have hr := run_append_room_src (P := Try.prog) (w.alloc (.cells #[.int .u8 0] 5)) 73 73 o.type 5 i0 Try.underlying73 hi g 0 l.length c _ 1 [.int .u8 0] hsrc hroom
      (fun j hj => by simp at hj; subst hj; rw [hz1]; simpa using (hBa.there l.length (by omega)).1) (fun j hj => by simp at hj; subst hj; rw [hz1]; simpa using (hBa.there l.length (by omega)).2)
    refine Lib.wpList_append_run _ hgd s x 73 73 ho _ _ hs hx _ _ hr ?_
    refine h g c _ ?_ hg ?_
    · rw [hz1]
      simp only [Nat.zero_add, Nat.mul_one, World.setCells]
      obtain ⟨v0, hv0⟩ := Option.isSome_iff_exists.1 (hBa.there l.length (by omega)).1
      refine ⟨by simpa using hBa.lt, by simp; omega, hB.max, fun j hj => ?_, fun j hj => ?_⟩
      · by_cases hij : l.length = j
        · subst hij
          rw [World.cell?_setCell_same (h := hv0)]
          simp
        · rw [World.cell?_setCell_other (h := fun e => hij (by injection e)), hBa.holds j (by simp at hj; omega)]
          have hjl : j < l.length := by simp at hj; omega
          simp [List.getElem?_append_left hjl]
      · refine ⟨?_, by rw [World.frozen?_setCell]; exact (hBa.there j hj).2⟩
        by_cases hij : l.length = j
        · subst hij; rw [World.cell?_setCell_same (h := hv0)]; rfl
        · rw [World.cell?_setCell_other (h := fun e => hij (by injection e))]; exact (hBa.there j hj).1
    · rw [hz1]
      simp only [Nat.zero_add, Nat.mul_one, World.setCells]
      exact ⟨hbw.os, hbw.tape, hbw.output, by rw [World.size_setCell]; exact hbw.size, fun b hb => (Below.heap_setCell _ _ _ _ (by simp; omega)).trans (hbw.block b hb)⟩
  · have hold : (Builtin.firstCells i0.size l.length (.slice (some ⟨g, 0, none⟩) l.length c)).run Try.prog (w.alloc (.cells #[.int .u8 0] 5)).drew = .ok (bc l).toArray (w.alloc (.cells #[.int .u8 0] 5)).drew := by
      refine run_firstCells_some _ i0.size l.length ⟨g, 0, none⟩ l.length c (bc l) (by rw [bc_length, hz1]; omega) (fun j u hu => ?_)
      have hj : j < l.length := by have := (List.getElem?_eq_some_iff.1 hu).1; rwa [bc_length] at this
      rw [Go.WideShapes.add_plain, Nat.zero_add]
      refine (hBa.holds j hj).trans ?_
      unfold bc at hu
      rw [List.getElem?_map, List.getElem?_eq_getElem hj] at hu
      rw [List.getD_eq_getElem?_getD, List.getElem?_eq_getElem hj]
      exact hu
    have hr := run_append_grow_src (P := Try.prog) (w.alloc (.cells #[.int .u8 0] 5)) 73 73 o.type 5 i0 (.int .u8 0) Try.underlying73 hi hz0 (some ⟨g, 0, none⟩) l.length c (bc l) hold _ 1 [.int .u8 0] hsrc (by omega) (by omega) (by rw [hz2]; exact growslice_fits (by omega) (by omega))
    refine Lib.wpList_append_run _ hgd s x 73 73 ho _ _ hs hx _ _ hr ?_
    obtain ⟨w1, hw1⟩ : ∃ w1, w1 = w.alloc (.cells #[.int .u8 0] 5) := ⟨_, rfl⟩
    rw [← hw1] at hbw ⊢
    obtain ⟨M, hM⟩ : ∃ M, M = (bc l ++ [Value.int .u8 0]).toArray ++ Builtin.zeroCells (Value.cells (.int .u8 0)) (grownCap w1 (l.length + 1) c 5 - (l.length + 1)) := ⟨_, rfl⟩
    rw [← hM]
    have hge := grownCap_ge w1 (l.length + 1) c 5
    have hmx := grownCap_le_maxLen w1 (l.length + 1) c 5 (by unfold maxLen; omega)
    obtain ⟨C, hC⟩ : ∃ C, C = grownCap w1 (l.length + 1) c 5 := ⟨_, rfl⟩
    rw [← hC] at hM hge hmx ⊢
    have hsz : M.size = C := by
      rw [hM, Array.size_append, size_zeroCells]
      simp [bc_length, Value.cells]
      omega
    have hnew := heap_alloc_new w1.drew (.cells M 5)
    refine h w1.heap.size C _ ?_ (by have := hbw.size; have := hB.lt; omega) ?_
    · refine ⟨by simp, by simp; omega, hmx, fun j hj => ?_, fun j hj => ⟨?_, ?_⟩⟩
      · have hjl : j < l.length + 1 := by simpa using hj
        refine (blk_cell hnew j).trans ?_
        rw [hM, Array.getElem?_append_left (by simp [bc_length]; omega), List.getElem?_toArray]
        by_cases hj2 : j < l.length
        · rw [List.getElem?_append_left (by rw [bc_length]; exact hj2)]
          unfold bc
          rw [List.getElem?_map, List.getElem?_eq_getElem hj2, List.getD_eq_getElem?_getD, List.getElem?_append_left hj2, List.getElem?_eq_getElem hj2]
          rfl
        · obtain rfl : j = l.length := by omega
          rw [List.getElem?_append_right (by rw [bc_length]; omega), bc_length, Nat.sub_self]
          simp
      · have e1 := blk_cell hnew j
        rw [show w1.drew.heap.size = w1.heap.size from rfl] at e1
        rw [e1]
        simp [hsz, hj]
      · exact blk_free hnew j
    · exact ⟨hbw.os, hbw.tape, hbw.output, Nat.le_trans hbw.size (by simp), fun b hb => (heap_alloc_old w1.drew _ b (by have := hbw.size; have := hB.lt; show b < w1.heap.size; omega)).trans (hbw.block b hb)⟩

/-- What stands after j bytes have been stored. -/
def putJ (e : List UInt8) (n : Nat) (t : List UInt8) (j : Nat) : List UInt8 := e.take n ++ (t.take j ++ e.drop (n + j))

theorem putJ_zero (e : List UInt8) (n : Nat) (t : List UInt8) : putJ e n t 0 = e := by
  unfold putJ; simp

theorem putJ_succ (e : List UInt8) (n : Nat) (t : List UInt8) (j : Nat) (hj : j < t.length) (he : n + t.length ≤ e.length) : (putJ e n t j).set (n + j) t[j] = putJ e n t (j + 1) := by
  unfold putJ
  have e1 : (e.take n).length = n := by rw [List.length_take]; omega
  have e2 : (t.take j).length = j := by rw [List.length_take]; omega
  rw [List.set_append_right _ _ (by omega), e1, Nat.add_sub_cancel_left, List.set_append_right _ _ (by omega), e2, Nat.sub_self,
    List.drop_eq_getElem_cons (show n + j < e.length by omega), List.set_cons_zero, List.take_succ_eq_append_getElem hj, List.append_assoc]
  rfl

theorem putJ_len (e : List UInt8) (n : Nat) (t : List UInt8) (j : Nat) (hj : j ≤ t.length) (he : n + t.length ≤ e.length) : (putJ e n t j).length = e.length := by
  unfold putJ
  simp only [List.length_append, List.length_take, List.length_drop]
  omega

def sliceLen : Value → Nat
  | .slice _ n _ => n
  | _ => 0

theorem below_setAt {B : Nat} {w w1 : World} (h : Below B w w1) {g : Nat} (hg : B ≤ g) (i : Nat) (u : Value) : Below B w (w1.setCell ⟨g, i, none⟩ u) :=
  ⟨h.os, h.tape, h.output, by simpa using h.size, fun b hb => (Below.heap_setCell _ _ _ _ (by simp; omega)).trans (h.block b hb)⟩

set_option maxRecDepth 100000 in
set_option maxHeartbeats 1000000 in
theorem rput_any (w : World) (b : List UInt8) (n : Nat) (t : ByteArray) (hb : b.length ≤ 16777216) (hc : n + t.size ≤ 16777216) (ht : 0 < t.size) :
    Calls Try.prog 98 #[.string (ba b), .int .i64 n, .string t] w fun e w' => e = .returned (.string (ba (putL b n t.data.toList))) ∧ Below w.heap.size w w' := by
  have hcs := Wire.conv_sb w (ba b)
  have hbel := Wire.below_bytesWorld w (ba b)
  have hbs : (ba b).size = b.length := ba_size b
  have hbuf := BufAt.of_bytes w (ba b) (by omega)
  rw [hbs] at hcs hbuf
  rw [ba_toList] at hbuf
  obtain ⟨c0, hc0⟩ : ∃ c0, c0 = grownCap w b.length 0 5 := ⟨_, rfl⟩
  rw [← hc0] at hcs hbuf
  obtain ⟨wB, hwB⟩ : ∃ wB, wB = Lib.bytesWorld w 5 (ba b) := ⟨_, rfl⟩
  rw [← hwB] at hcs hbuf hbel
  have hte2 : t.toList.isEmpty = false := by
    have hsz := size_toList t
    rw [ByteArray.toList_eq]; cases hh : t.data.toList with
    | nil => rw [hh] at hsz; simp at hsz; omega
    | cons => rfl
  have hte3 : ¬ t.toList = [] := fun e => by rw [e] at hte2; cases hte2
  obtain ⟨B, hBw⟩ : ∃ B, B = w.heap.size := ⟨_, rfl⟩
  rw [← hBw] at hcs hbuf hbel ⊢
  have HX := Lib.hid (And.intro hc0 (And.intro hwB hBw))
  clear hc0 hwB hBw
  have hlt := hbuf.lt
  have hcc := hbuf.le
  have hcm := hbuf.max
  have HBUF := Lib.hid hbuf
  clear hbuf
  go_enter Try.func98, Try.ntmps98
  go_wp2_with fail
  go_loopw [7] (fun v wr => ∃ (k g c : Nat), k ≤ n + t.size - b.length ∧ v = .slice (some ⟨g, 0, none⟩) (b.length + k) c ∧ b.length + k ≤ c ∧ c ≤ maxLen ∧ B ≤ g ∧ Hid (BufAt wr g c (b ++ List.replicate k 0)) ∧ Below B w wr) (fun v _ => (n + t.size) - sliceLen v)
  case atStart => exact ⟨0, B, c0, Nat.zero_le _, rfl, hcc, hcm, Nat.le_refl _, by rw [List.replicate_zero, List.append_nil]; exact HBUF, hbel⟩
  case round =>
    obtain ⟨k, g, c, hk, rfl, hkc, hcm', hBg, HB, hbr⟩ := hrel
    have hll : (b ++ List.replicate k (0 : UInt8)).length = b.length + k := by simp
    by_cases hlt2 : b.length + k < n + t.size
    · have HLL := Lib.hid hll
      clear hll
      go_wp2_with (at_builtin; refine buf_append rfl (.tmp 21) (.tmp 22) rfl g c B (b ++ List.replicate k 0) (by rw [HLL.out]; rfl) HB.out hBg rfl (by rw [HLL.out]; omega) ?_; intro g2 c2 w2 hb2 hg2 hbel2; have hlt3 := hb2.lt; have hc2 := hb2.le; have hm2 := hb2.max; have HB2 := Lib.hid hb2; clear hb2; rw [HLL.out])
      go_roundw
      case rel =>
        refine ⟨k + 1, g2, c2, by omega, rfl, by rw [List.length_append, HLL.out] at hc2; simpa [Nat.add_assoc] using hc2, hm2, hg2, ?_, hbr.trans hbel2⟩
        have h5 := HB2.out
        rw [List.append_assoc, ← List.replicate_succ'] at h5
        exact h5
      case measure => simp [sliceLen]; omega
    · have hke : b.length + k = max b.length (n + t.size) := by omega
      obtain ⟨m, hm⟩ : ∃ m, m = b.length + k := ⟨_, rfl⟩
      obtain ⟨E, hE⟩ : ∃ E, E = b ++ List.replicate k (0 : UInt8) := ⟨_, rfl⟩
      have hkk : k = n + t.size - b.length := by omega
      have hEl : E.length = m := by rw [hE, hm]; exact hll
      rw [← hE] at HB
      rw [← hm] at hkc hlt2
      have HE := Lib.hid (And.intro hE (And.intro hkk hEl))
      have hmn : n + t.size ≤ m := by omega
      clear hE hkk hEl hll hk hke
      go_wp2_with fail
      go_loopw [8] (fun i wx => ∃ j : Nat, j ≤ t.size ∧ i = .int .i64 j ∧ Hid (BufAt wx g c (putJ E n t.data.toList j)) ∧ Below B w wx) (fun i _ => t.size - (intOf i).toNat)
      case atStart => exact ⟨0, Nat.zero_le _, rfl, by rw [putJ_zero]; exact HB, hbr⟩
      case round =>
        obtain ⟨j, hj, rfl, HJ, hbj⟩ := hrel
        by_cases hjt : j < t.size
        · have hpl : (putJ E n t.data.toList j).length = m := by rw [putJ_len _ _ _ _ (by rw [size_toList]; omega) (by rw [size_toList, HE.out.2.2]; omega), HE.out.2.2]
          have st0 := HJ.out.holds (n + j) (by omega)
          have st1 := (HJ.out.there (n + j) (by omega)).2
          have HPL := Lib.hid hpl
          clear hpl
          go_wp2_with fail
          go_roundw
          case rel =>
            refine ⟨j + 1, by omega, by go_num, ?_, below_setAt hbj hBg _ _⟩
            have hx : t.data.toList[j]'(by rw [size_toList]; exact hjt) = t[j] := by rw [Array.getElem_toList]; rfl
            have h5 := HJ.out.set (n + j) (by rw [HPL.out]; omega) (t.data.toList[j]'(by rw [size_toList]; exact hjt))
            rw [putJ_succ _ _ _ _ (by rw [size_toList]; exact hjt) (by rw [size_toList, HE.out.2.2]; omega), hx] at h5
            exact h5
          case measure => simp [intOf]; omega
        · obtain rfl : j = t.size := by omega
          have hcv := conv_at (w := wr) g 0 m c (putJ E n t.data.toList t.size) (by rw [putJ_len _ _ _ _ (by rw [size_toList]; omega) (by rw [size_toList, HE.out.2.2]; omega), HE.out.2.2]) (fun i hi => by
            rw [Nat.zero_add]; exact HJ.out.holds i (by rw [putJ_len _ _ _ _ (by rw [size_toList]; omega) (by rw [size_toList, HE.out.2.2]; omega), HE.out.2.2]; exact hi))
          rw [hm] at hcv
          have HM := Lib.hid hm
          clear hm
          go_wp2_with fail
          go_ret
          refine ⟨?_, hbj⟩
          have h6 : putJ E n t.data.toList t.size = putL b n t.data.toList := by
            unfold putJ putL
            rw [HE.out.1, HE.out.2.1, size_toList, List.take_of_length_le (Nat.le_of_eq (size_toList t))]
          rw [h6]
          rfl

end Go.Proofs.Ytgocnjiabfmdpaa
