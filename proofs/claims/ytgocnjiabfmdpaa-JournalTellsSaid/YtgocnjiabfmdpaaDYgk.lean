/- The reference's Put: bytes put into a string at an offset. The reference's set: a file is put at the list's end, in the place of the one with its number. The reference's add: a write that is possible. The reference's survive: a pending sector survives. The reference's settle: a string becomes a file and its durable part. -/
import Derived.Test.YtgocnjiabfmdpaaDWcd
import Derived.Test.YtgocnjiabfmdpaaRW
import Derived.Test.YtgocnjiabfmdpaaRD
import Derived.Deep.AppendSrc
import Derived.Test.YtgocnjiabfmdpaaDYbe
import Derived.Test.YtgocnjiabfmdpaaDWi
import Derived.BigQuiet
import Derived.Deep.RegionLaw
import Derived.StillTailTactics
import Derived.Deep.CutBlock
import Derived.Deep.DeepCutAuto
namespace Go.Proofs.Ytgocnjiabfmdpaa
set_option maxRecDepth 8000
open Go.RowKit

/-- A slice of bytes that lies at the head of block g, of which every cell up to its capacity can be written. -/
structure BufAt (w : World) (g c : Nat) (l : List UInt8) : Prop where
  lt : g < w.heap.size
  le : l.length ≤ c
  max : c ≤ maxLen
  holds : ∀ j, j < l.length → w.cell? ⟨g, j, none⟩ = some (.int .u8 ((l.getD j 0).toNat : Int))
  there : ∀ j, j < c → (w.cell? ⟨g, j, none⟩).isSome = true ∧ w.frozen? ⟨g, j, none⟩ = false

theorem BufAt.of_bytes (w : World) (s : ByteArray) (hs : s.size ≤ 1000000000) : BufAt (Lib.bytesWorld w 5 s) w.heap.size (grownCap w s.size 0 5) s.data.toList := by
  have hsz : s.data.toList.length = s.size := size_toList s
  have hge := grownCap_ge w s.size 0 5
  have hcs : (Lib.bytesCells w 5 s).size = grownCap w s.size 0 5 := by
    unfold Lib.bytesCells
    rw [Array.size_append, Array.size_map, Array.size_replicate]
    show s.size + _ = _
    omega
  refine ⟨by rw [Lib.bytesWorld_size]; omega, by omega, grownCap_le_maxLen w s.size 0 5 (by unfold maxLen; omega), fun j hj => Lib.bytesWorld_cell w 5 s j (by omega), fun j hj => ?_⟩
  constructor
  · simp [World.cell?, Lib.bytesWorld_at_new, hcs, hj]
  · simp [World.frozen?, Lib.bytesWorld_at_new, hcs]
    omega

theorem BufAt.set {w : World} {g c : Nat} {l : List UInt8} (h : BufAt w g c l) (i : Nat) (hi : i < l.length) (x : UInt8) : BufAt (w.setCell ⟨g, i, none⟩ (.int .u8 (x.toNat : Int))) g c (l.set i x) := by
  have h0 := h.holds i hi
  refine ⟨by simpa using h.lt, by rw [List.length_set]; exact h.le, h.max, fun j hj => ?_, fun j hj => ?_⟩
  · rw [List.length_set] at hj
    by_cases hij : i = j
    · subst hij
      rw [World.cell?_setCell_same (h := h0)]
      simp [hi]
    · rw [World.cell?_setCell_other (h := fun e => hij (by injection e)), h.holds j hj]
      simp [hij]
  · refine ⟨?_, by rw [World.frozen?_setCell]; exact (h.there j hj).2⟩
    by_cases hij : i = j
    · subst hij; rw [World.cell?_setCell_same (h := h0)]; rfl
    · rw [World.cell?_setCell_other (h := fun e => hij (by injection e))]; exact (h.there j hj).1

theorem BufAt.alloc {w : World} {g c : Nat} {l : List UInt8} (h : BufAt w g c l) (o : Obj) : BufAt (w.alloc o) g c l :=
  ⟨by have := h.lt; simp; omega, h.le, h.max, fun j hj => (World.cell?_alloc_lt w o ⟨g, j, none⟩ h.lt).trans (h.holds j hj), fun j hj => ⟨by rw [World.cell?_alloc_lt w o ⟨g, j, none⟩ h.lt]; exact (h.there j hj).1, by
    rw [World.frozen?_of_block (a := ⟨g, j, none⟩) (Below.heap_alloc w o g h.lt)]; exact (h.there j hj).2⟩⟩

/-- append(b, 0). -/
theorem buf_append {w : World} {ops : Array Oper} {rest : List Oper} {o : Oper} {a : Act} {Q : Exit → Act → World → Prop} (hgd : o.guard = none) (s x : Operand)
    (ho : o.op = .call { callee := .builtin .append, args := #[s, x], argTypes := #[73, 73] })
    (g c B : Nat) (l : List UInt8) (hs : a.eval s = .slice (some ⟨g, 0, none⟩) l.length c) (hB : BufAt w g c l) (hg : B ≤ g)
    (hx : a.eval x = .slice (some ⟨w.heap.size, 0, none⟩) 1 1) (hl : l.length ≤ 100000000)
    (h : ∀ g' c' w', BufAt w' g' c' (l ++ [0]) → B ≤ g' → Below B w w' → wpList Try.prog ops Q rest (a.put o.dst (.slice (some ⟨g', 0, none⟩) (l.length + 1) c')) w') : wpList Try.prog ops Q (o :: rest) a (w.alloc (.cells #[.int .u8 0] 5)) := by
  obtain ⟨i0, hi, hz0, hz1, hz2⟩ := info_parts Try.info5
  have hBa := hB.alloc (.cells #[.int .u8 0] 5)
  have hsrc : Src Try.prog i0.size 73 (.slice (some ⟨w.heap.size, 0, none⟩) 1 1) 1 [.int .u8 0] (w.alloc (.cells #[.int .u8 0] 5)) := by
    refine Src.ofSlice _ Try.underlying73 _ 1 1 _ (by rw [hz1]; rfl) (fun j u hj => ?_) (by simp [Value.oneCell'])
    match j, hj with | 0, hj => simp at hj; subst hj; simp [Addr.add]
  have hbw : Below B w (w.alloc (.cells #[.int .u8 0] 5)) := (Below.refl B w).alloc (by have := hB.lt; omega) _
  by_cases hroom : l.length + 1 ≤ c
  · have hr := run_append_room_src (P := Try.prog) (w.alloc (.cells #[.int .u8 0] 5)) 73 73 o.type 5 i0 Try.underlying73 hi g 0 l.length c _ 1 [.int .u8 0] hsrc hroom
      (fun j hj => by simp at hj; subst hj; rw [hz1]; simpa using (hBa.there l.length (by omega)).1) (fun j hj => by simp at hj; subst hj; rw [hz1]; simpa using (hBa.there l.length (by omega)).2)
    refine Lib.wpList_append_run _ hgd s x 73 73 ho _ _ hs hx _ _ hr ?_
    refine h g c _ ?_ hg ?_
    · rw [hz1]
      simp only [Nat.zero_add, Nat.mul_one, World.setCells]
      obtain ⟨v0, hv0⟩ := Option.isSome_iff_exists.1 (hBa.there l.length (by omega)).1
      refine ⟨by simpa using hBa.lt, by simp; omega, hB.max, fun j hj => ?_, fun j hj => ?_⟩
      · by_cases hij : l.length = j
        · subst hij
          rw [World.cell?_setCell_same (h := hv0)]
          simp
        · rw [World.cell?_setCell_other (h := fun e => hij (by injection e)), hBa.holds j (by simp at hj; omega)]
          have hjl : j < l.length := by simp at hj; omega
          simp [List.getElem?_append_left hjl]
      · refine ⟨?_, by rw [World.frozen?_setCell]; exact (hBa.there j hj).2⟩
        by_cases hij : l.length = j
        · subst hij; rw [World.cell?_setCell_same (h := hv0)]; rfl
        · rw [World.cell?_setCell_other (h := fun e => hij (by injection e))]; exact (hBa.there j hj).1
    · rw [hz1]
      simp only [Nat.zero_add, Nat.mul_one, World.setCells]
      exact ⟨hbw.os, hbw.tape, hbw.output, by rw [World.size_setCell]; exact hbw.size, fun b hb => (Below.heap_setCell _ _ _ _ (by simp; omega)).trans (hbw.block b hb)⟩
  · have hold : (Builtin.firstCells i0.size l.length (.slice (some ⟨g, 0, none⟩) l.length c)).run Try.prog (w.alloc (.cells #[.int .u8 0] 5)).drew = .ok (bc l).toArray (w.alloc (.cells #[.int .u8 0] 5)).drew := by
      refine run_firstCells_some _ i0.size l.length ⟨g, 0, none⟩ l.length c (bc l) (by rw [bc_length, hz1]; omega) (fun j u hu => ?_)
      have hj : j < l.length := by have := (List.getElem?_eq_some_iff.1 hu).1; rwa [bc_length] at this
      rw [Go.WideShapes.add_plain, Nat.zero_add]
      refine (hBa.holds j hj).trans ?_
      unfold bc at hu
      rw [List.getElem?_map, List.getElem?_eq_getElem hj] at hu
      rw [List.getD_eq_getElem?_getD, List.getElem?_eq_getElem hj]
      exact hu
    have hr := run_append_grow_src (P := Try.prog) (w.alloc (.cells #[.int .u8 0] 5)) 73 73 o.type 5 i0 (.int .u8 0) Try.underlying73 hi hz0 (some ⟨g, 0, none⟩) l.length c (bc l) hold _ 1 [.int .u8 0] hsrc (by omega) (by omega) (by rw [hz2]; exact growslice_fits (by omega) (by omega))
    refine Lib.wpList_append_run _ hgd s x 73 73 ho _ _ hs hx _ _ hr ?_
    obtain ⟨w1, hw1⟩ : ∃ w1, w1 = w.alloc (.cells #[.int .u8 0] 5) := ⟨_, rfl⟩
    rw [← hw1] at hbw ⊢
    obtain ⟨M, hM⟩ : ∃ M, M = (bc l ++ [Value.int .u8 0]).toArray ++ Builtin.zeroCells (Value.cells (.int .u8 0)) (grownCap w1 (l.length + 1) c 5 - (l.length + 1)) := ⟨_, rfl⟩
    rw [← hM]
    have hge := grownCap_ge w1 (l.length + 1) c 5
    have hmx := grownCap_le_maxLen w1 (l.length + 1) c 5 (by unfold maxLen; omega)
    obtain ⟨C, hC⟩ : ∃ C, C = grownCap w1 (l.length + 1) c 5 := ⟨_, rfl⟩
    rw [← hC] at hM hge hmx ⊢
    have hsz : M.size = C := by
      rw [hM, Array.size_append, size_zeroCells]
      simp [bc_length, Value.cells]
      omega
    have hnew := heap_alloc_new w1.drew (.cells M 5)
    refine h w1.heap.size C _ ?_ (by have := hbw.size; have := hB.lt; omega) ?_
    · refine ⟨by simp, by simp; omega, hmx, fun j hj => ?_, fun j hj => ⟨?_, ?_⟩⟩
      · have hjl : j < l.length + 1 := by simpa using hj
        refine (blk_cell hnew j).trans ?_
        rw [hM, Array.getElem?_append_left (by simp [bc_length]; omega), List.getElem?_toArray]
        by_cases hj2 : j < l.length
        · rw [List.getElem?_append_left (by rw [bc_length]; exact hj2)]
          unfold bc
          rw [List.getElem?_map, List.getElem?_eq_getElem hj2, List.getD_eq_getElem?_getD, List.getElem?_append_left hj2, List.getElem?_eq_getElem hj2]
          rfl
        · obtain rfl : j = l.length := by omega
          rw [List.getElem?_append_right (by rw [bc_length]; omega), bc_length, Nat.sub_self]
          simp
      · have e1 := blk_cell hnew j
        rw [show w1.drew.heap.size = w1.heap.size from rfl] at e1
        rw [e1]
        simp [hsz, hj]
      · exact blk_free hnew j
    · exact ⟨hbw.os, hbw.tape, hbw.output, Nat.le_trans hbw.size (by simp), fun b hb => (heap_alloc_old w1.drew _ b (by have := hbw.size; have := hB.lt; show b < w1.heap.size; omega)).trans (hbw.block b hb)⟩

/-- What stands after j bytes have been stored. -/
def putJ (e : List UInt8) (n : Nat) (t : List UInt8) (j : Nat) : List UInt8 := e.take n ++ (t.take j ++ e.drop (n + j))

theorem putJ_zero (e : List UInt8) (n : Nat) (t : List UInt8) : putJ e n t 0 = e := by
  unfold putJ; simp

theorem putJ_succ (e : List UInt8) (n : Nat) (t : List UInt8) (j : Nat) (hj : j < t.length) (he : n + t.length ≤ e.length) : (putJ e n t j).set (n + j) t[j] = putJ e n t (j + 1) := by
  unfold putJ
  have e1 : (e.take n).length = n := by rw [List.length_take]; omega
  have e2 : (t.take j).length = j := by rw [List.length_take]; omega
  rw [List.set_append_right _ _ (by omega), e1, Nat.add_sub_cancel_left, List.set_append_right _ _ (by omega), e2, Nat.sub_self,
    List.drop_eq_getElem_cons (show n + j < e.length by omega), List.set_cons_zero, List.take_succ_eq_append_getElem hj, List.append_assoc]
  rfl

theorem putJ_len (e : List UInt8) (n : Nat) (t : List UInt8) (j : Nat) (hj : j ≤ t.length) (he : n + t.length ≤ e.length) : (putJ e n t j).length = e.length := by
  unfold putJ
  simp only [List.length_append, List.length_take, List.length_drop]
  omega

def sliceLen : Value → Nat
  | .slice _ n _ => n
  | _ => 0

theorem below_setAt {B : Nat} {w w1 : World} (h : Below B w w1) {g : Nat} (hg : B ≤ g) (i : Nat) (u : Value) : Below B w (w1.setCell ⟨g, i, none⟩ u) :=
  ⟨h.os, h.tape, h.output, by simpa using h.size, fun b hb => (Below.heap_setCell _ _ _ _ (by simp; omega)).trans (h.block b hb)⟩

set_option maxRecDepth 100000 in
set_option maxHeartbeats 1000000 in
theorem rput_any (w : World) (b : List UInt8) (n : Nat) (t : ByteArray) (hb : b.length ≤ 16777216) (hc : n + t.size ≤ 16777216) (ht : 0 < t.size) :
    Calls Try.prog 98 #[.string (ba b), .int .i64 n, .string t] w fun e w' => e = .returned (.string (ba (putL b n t.data.toList))) ∧ Below w.heap.size w w' := by
  have hcs := Wire.conv_sb w (ba b)
  have hbel := Wire.below_bytesWorld w (ba b)
  have hbs : (ba b).size = b.length := ba_size b
  have hbuf := BufAt.of_bytes w (ba b) (by omega)
  rw [hbs] at hcs hbuf
  rw [ba_toList] at hbuf
  obtain ⟨c0, hc0⟩ : ∃ c0, c0 = grownCap w b.length 0 5 := ⟨_, rfl⟩
  rw [← hc0] at hcs hbuf
  obtain ⟨wB, hwB⟩ : ∃ wB, wB = Lib.bytesWorld w 5 (ba b) := ⟨_, rfl⟩
  rw [← hwB] at hcs hbuf hbel
  have hte2 : t.toList.isEmpty = false := by
    have hsz := size_toList t
    rw [ByteArray.toList_eq]; cases hh : t.data.toList with
    | nil => rw [hh] at hsz; simp at hsz; omega
    | cons => rfl
  have hte3 : ¬ t.toList = [] := fun e => by rw [e] at hte2; cases hte2
  obtain ⟨B, hBw⟩ : ∃ B, B = w.heap.size := ⟨_, rfl⟩
  rw [← hBw] at hcs hbuf hbel ⊢
  have HX := Lib.hid (And.intro hc0 (And.intro hwB hBw))
  clear hc0 hwB hBw
  have hlt := hbuf.lt
  have hcc := hbuf.le
  have hcm := hbuf.max
  have HBUF := Lib.hid hbuf
  clear hbuf
  go_enter Try.func98, Try.ntmps98
  go_wp2_with fail
  go_loopw [7] (fun v wr => ∃ (k g c : Nat), k ≤ n + t.size - b.length ∧ v = .slice (some ⟨g, 0, none⟩) (b.length + k) c ∧ b.length + k ≤ c ∧ c ≤ maxLen ∧ B ≤ g ∧ Hid (BufAt wr g c (b ++ List.replicate k 0)) ∧ Below B w wr) (fun v _ => (n + t.size) - sliceLen v)
  case atStart => exact ⟨0, B, c0, Nat.zero_le _, rfl, hcc, hcm, Nat.le_refl _, by rw [List.replicate_zero, List.append_nil]; exact HBUF, hbel⟩
  case round =>
    obtain ⟨k, g, c, hk, rfl, hkc, hcm', hBg, HB, hbr⟩ := hrel
    have hll : (b ++ List.replicate k (0 : UInt8)).length = b.length + k := by simp
    by_cases hlt2 : b.length + k < n + t.size
    · have HLL := Lib.hid hll
      clear hll
      go_wp2_with (at_builtin; refine buf_append rfl (.tmp 21) (.tmp 22) rfl g c B (b ++ List.replicate k 0) (by rw [HLL.out]; rfl) HB.out hBg rfl (by rw [HLL.out]; omega) ?_; intro g2 c2 w2 hb2 hg2 hbel2; have hlt3 := hb2.lt; have hc2 := hb2.le; have hm2 := hb2.max; have HB2 := Lib.hid hb2; clear hb2; rw [HLL.out])
      go_roundw
      case rel =>
        refine ⟨k + 1, g2, c2, by omega, rfl, by rw [List.length_append, HLL.out] at hc2; simpa [Nat.add_assoc] using hc2, hm2, hg2, ?_, hbr.trans hbel2⟩
        have h5 := HB2.out
        rw [List.append_assoc, ← List.replicate_succ'] at h5
        exact h5
      case measure => simp [sliceLen]; omega
    · have hke : b.length + k = max b.length (n + t.size) := by omega
      obtain ⟨m, hm⟩ : ∃ m, m = b.length + k := ⟨_, rfl⟩
      obtain ⟨E, hE⟩ : ∃ E, E = b ++ List.replicate k (0 : UInt8) := ⟨_, rfl⟩
      have hkk : k = n + t.size - b.length := by omega
      have hEl : E.length = m := by rw [hE, hm]; exact hll
      rw [← hE] at HB
      rw [← hm] at hkc hlt2
      have HE := Lib.hid (And.intro hE (And.intro hkk hEl))
      have hmn : n + t.size ≤ m := by omega
      clear hE hkk hEl hll hk hke
      go_wp2_with fail
      go_loopw [8] (fun i wx => ∃ j : Nat, j ≤ t.size ∧ i = .int .i64 j ∧ Hid (BufAt wx g c (putJ E n t.data.toList j)) ∧ Below B w wx) (fun i _ => t.size - (intOf i).toNat)
      case atStart => exact ⟨0, Nat.zero_le _, rfl, by rw [putJ_zero]; exact HB, hbr⟩
      case round =>
        obtain ⟨j, hj, rfl, HJ, hbj⟩ := hrel
        by_cases hjt : j < t.size
        · have hpl : (putJ E n t.data.toList j).length = m := by rw [putJ_len _ _ _ _ (by rw [size_toList]; omega) (by rw [size_toList, HE.out.2.2]; omega), HE.out.2.2]
          have st0 := HJ.out.holds (n + j) (by omega)
          have st1 := (HJ.out.there (n + j) (by omega)).2
          have HPL := Lib.hid hpl
          clear hpl
          go_wp2_with fail
          go_roundw
          case rel =>
            refine ⟨j + 1, by omega, by go_num, ?_, below_setAt hbj hBg _ _⟩
            have hx : t.data.toList[j]'(by rw [size_toList]; exact hjt) = t[j] := by rw [Array.getElem_toList]; rfl
            have h5 := HJ.out.set (n + j) (by rw [HPL.out]; omega) (t.data.toList[j]'(by rw [size_toList]; exact hjt))
            rw [putJ_succ _ _ _ _ (by rw [size_toList]; exact hjt) (by rw [size_toList, HE.out.2.2]; omega), hx] at h5
            exact h5
          case measure => simp [intOf]; omega
        · obtain rfl : j = t.size := by omega
          have hcv := conv_at (w := wr) g 0 m c (putJ E n t.data.toList t.size) (by rw [putJ_len _ _ _ _ (by rw [size_toList]; omega) (by rw [size_toList, HE.out.2.2]; omega), HE.out.2.2]) (fun i hi => by
            rw [Nat.zero_add]; exact HJ.out.holds i (by rw [putJ_len _ _ _ _ (by rw [size_toList]; omega) (by rw [size_toList, HE.out.2.2]; omega), HE.out.2.2]; exact hi))
          rw [hm] at hcv
          have HM := Lib.hid hm
          clear hm
          go_wp2_with fail
          go_ret
          refine ⟨?_, hbj⟩
          have h6 : putJ E n t.data.toList t.size = putL b n t.data.toList := by
            unfold putJ putL
            rw [HE.out.1, HE.out.2.1, size_toList, List.take_of_length_le (Nat.le_of_eq (size_toList t))]
          rw [h6]
          rfl

end Go.Proofs.Ytgocnjiabfmdpaa

namespace Go.Proofs.Ytgocnjiabfmdpaa
set_option maxRecDepth 8000
open Go.RowKit

theorem Try.info90 : (Try.prog.info? 90).map (fun i => (i.zero, i.size, i.bytes)) = some (some (.agg #[.int .i64 0, .string ByteArray.empty, .string ByteArray.empty]), 3, 40) := by kernel_rfl

theorem fc_append (a b : List Fl) : fc (a ++ b) = fc a ++ fc b := by simp [fc]

/-- The files but the one with the number n, up to j. -/
def keptF (l : List Fl) (n : Int) (j : Nat) : List Fl := (l.take j).filter (fun y => !(y.num == n))

theorem keptF_succ (l : List Fl) (n : Int) (j : Nat) (hj : j < l.length) : keptF l n (j + 1) = keptF l n j ++ (if l[j].num = n then [] else [l[j]]) := by
  unfold keptF
  rw [List.take_succ_eq_append_getElem hj, List.filter_append]
  congr 1
  by_cases h : l[j].num = n
  · rw [if_pos h, List.filter_cons_of_neg (by simp [h])]; rfl
  · rw [if_neg h, List.filter_cons_of_pos (by simp [h])]; rfl

theorem keptF_len (l : List Fl) (n : Int) (j : Nat) : (keptF l n j).length ≤ l.length := by
  unfold keptF
  refine Nat.le_trans (List.length_filter_le _ _) ?_
  rw [List.length_take]; omega

theorem own_base {w : World} {B : Nat} {e : TypeId} {size : Nat} {v : Value} {n : Nat} {xs : List Value} (h : w.ownsRow B e size v n xs) : w.ownsRow 0 e size v n xs := by
  refine ⟨h.1, ?_⟩
  rcases h.2 with hn | ⟨g, cap, cur, hv, hb, rest⟩
  · exact .inl hn
  · exact .inr ⟨g, cap, cur, hv, Nat.zero_le _, rest⟩

theorem rset_end {L : Lab} {w w4 : World} {k d B : Nat} {fv qv kv v4 : Value} {l l' : List Fl} {K : List Int} {s s' : St} (hL : Fresh L w) (hd : L d = some (k, .disk)) (hb : w.heap[d]? = some (.cells (rcells fv qv kv s) 86 (0, 0))) (hbody : RBody L w k fv qv kv l K s)
    (hbel : Below w.heap.size w w4) (hown : w4.ownsRow B 90 3 v4 l'.length (fc l')) (hB : w.heap.size ≤ B) (hf : FewF l') (hr : Reads l' s') (hs : s'.lost = s.lost ∧ s'.down = s.down ∧ s'.armed = s.armed ∧ s'.pend = s.pend) :
    ∃ L', RAt L' (w4.setCell ⟨d, 0, none⟩ v4) k d l' K s' ∧ Fr (MD k) L w L' (w4.setCell ⟨d, 0, none⟩ v4) := by
  obtain ⟨L1, f1, hsl⟩ := new_label (M := fun _ => False) (k, .files) hL (own_base hown) hbel (fun g hg => Nat.le_trans hB (World.ownsRow.lt hown g hg).1)
  have f2 := Fr.setD f1.fresh (f1.lab_of hL hd) 0 v4
  have f3 : Fr (MD k) L w L1 (w4.setCell ⟨d, 0, none⟩ v4) := (f1.mono (fun _ h => h.elim)).trans f2
  obtain ⟨e1, e2, e3, e4⟩ := hs
  refine ⟨L1, ⟨v4, qv, kv, f3.lab_of hL hd, ?_, hsl.keep f1.fresh f2 (by simp [MD]), ?_, ⟨hbody.2.2.1.1.keep hL f3 (by simp [MD]), hf⟩, hr⟩, f3⟩
  · have h1 := blk_set ((hbel.block d (blk_lt hb)).trans hb) 0 v4
    rw [h1]
    simp [rcells, e1, e2, e3]
  · rw [e4]; exact hbody.2.1.keep hL f3 (by simp [MD])

set_option maxRecDepth 100000 in
set_option maxHeartbeats 1000000 in
theorem rset_any {L : Lab} {w : World} {k d : Nat} {l : List Fl} {K : List Int} {s s' : St} (x : Fl) (hL : Fresh L w) (h : RAt L w k d l K s) (hx : isFile x.num = true) (hr : Reads (setF l x) s')
    (hs : s'.lost = s.lost ∧ s'.down = s.down ∧ s'.armed = s.armed ∧ s'.pend = s.pend) :
    Calls Try.prog 99 #[.pointer (some ⟨d, 0, none⟩), fval x] w fun e w' => e = .returned (.tuple #[]) ∧ ∃ L', RAt L' w' k d (setF l x) K s' ∧ Fr (MD k) L w L' w' := by
  obtain ⟨i0, hi0, hz0, hz1, hz2⟩ := info_parts Try.info90
  obtain ⟨fv, qv, kv, hd, hb, hbody⟩ := h
  have c0 := blk_cell hb 0
  have ld := blk_lt hb
  simp [rcells] at c0
  obtain ⟨A, c, rfl, hm, hcells⟩ := own_files hbody.1.1
  have hlen := hbody.2.2.1.2.len
  obtain ⟨xn, xw, xl⟩ := x
  have HC := Lib.hid hcells
  have HB := Lib.hid (And.intro hb (And.intro hbody (And.intro hd (And.intro hr hs))))
  clear hb hbody hcells hd hr hs
  obtain ⟨S, hS⟩ : ∃ S, S = w.heap.size := ⟨_, rfl⟩
  have HS := Lib.hid hS
  unfold fval
  go_enter Try.func99, Try.ntmps99
  go_wp2_with fail
  obtain ⟨wa, hwa⟩ : ∃ wa, wa = w.alloc (.cells #[.int .i64 xn, .string (ba xw), .string (ba xl)] 90 (0, 0)) := ⟨_, rfl⟩
  have q0 : wa.heap[S]? = some (.cells #[.int .i64 xn, .string (ba xw), .string (ba xl)] 90 (0, 0)) := by rw [hwa, hS]; exact heap_alloc_new w _
  have hSa : S < wa.heap.size := blk_lt q0
  have b0 := blk_cell q0 0
  have b1 := blk_cell q0 1
  have b2 := blk_cell q0 2
  simp at b0 b1 b2
  have c0a : wa.cell? ⟨d, 0, none⟩ = some (.slice A l.length c) := by rw [hwa]; exact (World.cell?_alloc_lt w _ ⟨d, 0, none⟩ ld).trans c0
  have hca : ∀ j (hj : j < l.length), ∃ g, A = some ⟨g, 0, none⟩ ∧ g < S ∧ wa.cell? ⟨g, j * 3, none⟩ = some (.int .i64 l[j].num) ∧ wa.cell? ⟨g, j * 3 + 1, none⟩ = some (.string (ba l[j].now)) ∧ wa.cell? ⟨g, j * 3 + 2, none⟩ = some (.string (ba l[j].last)) := fun j hj => by
    obtain ⟨g, e, lg, h1, h2, h3⟩ := HC.out j hj
    rw [hwa, hS]
    exact ⟨g, e, lg, (World.cell?_alloc_lt w _ ⟨g, j * 3, none⟩ lg).trans h1, (World.cell?_alloc_lt w _ ⟨g, j * 3 + 1, none⟩ lg).trans h2, (World.cell?_alloc_lt w _ ⟨g, j * 3 + 2, none⟩ lg).trans h3⟩
  rw [← hS]
  rw [← hwa]
  have qda : wa.heap[d]? = w.heap[d]? := by rw [hwa]; exact Below.heap_alloc w _ d ld
  have hbwa : Below S w wa := by rw [hwa]; exact (Below.refl S w).alloc (by rw [hS]; exact Nat.le_refl _) _
  have HW := Lib.hid (And.intro qda hbwa)
  clear qda hbwa
  have HCA := Lib.hid hca
  have ldS : d < S := by rw [hS]; exact ld
  clear hwa hca hS
  go_loopw [4, 5] (fun v i wr => ∃ j : Nat, j ≤ l.length ∧ i = .int .i64 j ∧ Hid (wr.ownsRow (S + 1) 90 3 v (keptF l xn j).length (fc (keptF l xn j))) ∧ Hid (Below (S + 1) wa wr)) (fun _ i _ => l.length - (intOf i).toNat)
  case atStart => exact ⟨0, Nat.zero_le _, rfl, World.ownsRow_nil _ _ _ _, Below.refl _ _⟩
  case round =>
    obtain ⟨j, hj, rfl, HO, HBW⟩ := hrel
    have hcl : ∀ b o, b < S + 1 → wr.cell? ⟨b, o, none⟩ = wa.cell? ⟨b, o, none⟩ := fun b o hb => HBW.out.cell (p := ⟨b, o, none⟩) hb
    have c0r := (hcl d 0 (by omega)).trans c0a
    have b0r := (hcl S 0 (by omega)).trans b0
    have b1r := (hcl S 1 (by omega)).trans b1
    have b2r := (hcl S 2 (by omega)).trans b2
    by_cases hlt : j < l.length
    · obtain ⟨g, rfl, lg, h1, h2, h3⟩ := HCA.out j hlt
      have h1r := (hcl g (j * 3) (by omega)).trans h1
      have h2r := (hcl g (j * 3 + 1) (by omega)).trans h2
      have h3r := (hcl g (j * 3 + 2) (by omega)).trans h3
      have hks := keptF_succ l xn j hlt
      have hkl := keptF_len l xn j
      obtain ⟨y, hy⟩ : ∃ y, l[j] = y := ⟨_, rfl⟩
      rw [hy] at h1r h2r h3r hks
      have HK := Lib.hid hks
      clear hks hy h1 h2 h3 hcl
      by_cases hnf : y.num = xn
      · go_wp2_with fail
        go_quiet (fail)
        go_wp2_with fail
        go_roundw
        case rel =>
          refine ⟨j + 1, by omega, by go_num, ?_, Go.below_drewN HBW.out nq⟩
          have h5 := HO.out
          rw [HK.out, if_pos hnf, List.append_nil]
          exact h5
        case measure => simp [intOf]; omega
      · go_wp2_with fail
        go_quiet (fail)
        go_wp2_with (at_builtin; refine wpList_append_own_at _ rfl (.tmp 26) (.tmp 34) 83 rfl (S + 1) 90 i0 (.agg #[.int .i64 0, .string ByteArray.empty, .string ByteArray.empty]) 3 40 Try.underlying83 hi0 hz0 hz1 hz2 rfl (by decide) u4 (keptF l xn j).length (fc (keptF l xn j)) rfl (World.ownsRow.alloc (w := wr.drewN nq) HO.out _) ⟨wr.heap.size, 0, none⟩ 1 1 [.int .i64 y.num, .string (ba y.now), .string (ba y.last)] rfl rfl (World.news_of_block (heap_alloc_new (wr.drewN nq) _)) (by simp [Value.oneCell']) (by unfold maxLen; omega) (by omega) (by have := HBW.out.size; simp; omega) ?_; intro v4 w4 hown4 hg4 hnil4 hat4; have H4 := Lib.hid (And.intro hown4 hg4); clear hown4 hg4 hnil4 hat4)
        go_roundw
        case rel =>
          refine ⟨j + 1, by omega, by go_num, ?_, ?_⟩
          · have h5 := H4.out.1
            rw [HK.out, if_neg hnf, fc_append, List.length_append]
            exact h5
          · exact ((Go.below_drewN HBW.out nq).alloc (by have := HBW.out.size; show S + 1 ≤ wr.heap.size; omega) _).grown H4.out.2 (by have := HBW.out.size; simp; omega) (fun k hk => (World.ownsRow.lt HO.out k hk).1)
        case measure => simp [intOf]; omega
    · obtain rfl : j = l.length := by omega
      have hkl := keptF_len l xn l.length
      go_wp2_with (at_builtin; refine wpList_append_own_at _ rfl (.tmp 37) (.tmp 39) 83 rfl (S + 1) 90 i0 (.agg #[.int .i64 0, .string ByteArray.empty, .string ByteArray.empty]) 3 40 Try.underlying83 hi0 hz0 hz1 hz2 rfl (by decide) u4 (keptF l xn l.length).length (fc (keptF l xn l.length)) rfl (World.ownsRow.alloc (w := wr) HO.out _) ⟨wr.heap.size, 0, none⟩ 1 1 [.int .i64 xn, .string (ba xw), .string (ba xl)] rfl rfl (World.news_of_block (heap_alloc_new wr _)) (by simp [Value.oneCell']) (by unfold maxLen; omega) (by omega) (by have := HBW.out.size; simp; omega) ?_; intro v4 w4 hown4 hg4 hnil4 hat4; have hb4 : Below (S + 1) wa w4 := (HBW.out.alloc (by have := HBW.out.size; omega) _).grown hg4 (by have := HBW.out.size; simp; omega) (fun k hk => (World.ownsRow.lt HO.out k hk).1); have q4 := (hb4.block d (by omega)).trans (HW.out.1.trans HB.out.1); have k4 := blk_cell q4 0; have e4 := blk_free q4 0; simp [rcells] at k4; obtain ⟨A4, m4, c4, rfl⟩ := own_slice (own_base hown4); have H4 := Lib.hid (And.intro hown4 hb4); clear hown4 hg4 hnil4 hat4 hb4 q4)
      go_end0
      refine ⟨rfl, ?_⟩
      have hS := HS.out
      have hb5 : Below S w w4 := HW.out.2.trans ⟨H4.out.2.os, H4.out.2.tape, H4.out.2.output, H4.out.2.size, fun b hb => H4.out.2.block b (by omega)⟩
      have h6 : w4.ownsRow (S + 1) 90 3 (.slice A4 m4 c4) (setF l ⟨xn, xw, xl⟩).length (fc (setF l ⟨xn, xw, xl⟩)) := by
        have h7 := H4.out.1
        unfold keptF at h7
        rw [List.take_length] at h7
        unfold setF
        rw [fc_append, List.length_append]
        exact h7
      exact rset_end (B := S + 1) hL HB.out.2.2.1 HB.out.1 HB.out.2.1 (by rw [← hS]; exact hb5) h6 (by omega) (HB.out.2.1.2.2.1.2.setF hx) HB.out.2.2.2.1 HB.out.2.2.2.2

end Go.Proofs.Ytgocnjiabfmdpaa

namespace Go.Proofs.Ytgocnjiabfmdpaa
set_option maxRecDepth 8000
open Go.RowKit

theorem Try.info107 : (Try.prog.info? 107).map (fun i => (i.zero, i.size, i.bytes)) = some (some (.agg #[.int .i64 0, .int .i64 0]), 2, 16) := by kernel_rfl

/-- One more sector in the queue. -/
theorem rqueue_end {L : Lab} {w w2 : World} {k d : Nat} {fv qv kv v' : Value} {l : List Fl} {K : List Int} {s s' : St} {f n : Int} {o : Obj} (hL : Fresh L w) (hd : L d = some (k, .disk)) (hb : w.heap[d]? = some (.cells (rcells fv qv kv s) 86 (0, 0))) (hbody : RBody L w k fv qv kv l K s)
    (hown : w2.ownsRow 0 107 2 v' (s.pend.length + 1) (pc s.pend ++ [.int .i64 f, .int .i64 n])) (hg : (w.alloc o).grownBy w2 qv.ownBlock) (hat : v'.ownBlock = qv.ownBlock ∨ v'.ownBlock = some (w.alloc o).heap.size)
    (hs : s'.lost = s.lost ∧ s'.down = s.down ∧ s'.armed = s.armed ∧ s'.pend = s.pend ++ [(f, n)] ∧ s'.now = s.now ∧ s'.dur = s.dur) :
    ∃ L', RAt L' (w2.setCell ⟨d, 1, none⟩ v') k d l K s' ∧ Fr (MA k) L w L' (w2.setCell ⟨d, 1, none⟩ v') := by
  have f0 : Fr (fun t => t = (k, Role.list)) L w L (w.alloc o) := (Fr.refl hL).alloc o
  obtain ⟨L1, f1, hsl⟩ := put_label (M := fun t => t = (k, Role.list)) (t := (k, .list)) f0.fresh rfl hown hg (fun g' hg' => hbody.2.1.2 g' hg') hat
  have f2 := f0.trans f1
  have f3 := Fr.setD f2.fresh (f2.lab_of hL hd) 1 v'
  have f4 : Fr (fun t => t = (k, Role.list) ∨ MD k t) L w L1 (w2.setCell ⟨d, 1, none⟩ v') := (f2.mono (fun _ h => Or.inl h)).trans (f3.mono (fun _ h => Or.inr h))
  obtain ⟨e1, e2, e3, e4, e5, e6⟩ := hs
  refine ⟨L1, ⟨fv, v', kv, f4.lab_of hL hd, ?_, hbody.1.keep hL f4 (by simp [MD]), ?_, ⟨hbody.2.2.1.1.keep hL f4 (by simp [MD]), hbody.2.2.1.2⟩, hbody.2.2.2.same e5 e6⟩, f4.mono (fun t ht => by rcases ht with ht | ht <;> rw [ht] <;> rfl)⟩
  · have h1 := blk_set ((f2.keeps hL hd (by simp)).trans hb) 1 v'
    rw [h1]
    simp [rcells, e1, e2, e3]
  · rw [e4, pc_append, List.length_append]
    exact hsl.keep f2.fresh f3 (by simp [MD])

theorem RAt.below {L : Lab} {w w1 : World} {k d : Nat} {l : List Fl} {K : List Int} {s : St} (h : RAt L w k d l K s) (hL : Fresh L w) (hb : Below w.heap.size w w1) : RAt L w1 k d l K s :=
  h.keep (M := fun _ => False) hL (Fr.below hL hb) (fun _ hh => hh)

set_option maxRecDepth 100000 in
set_option maxHeartbeats 1000000 in
theorem radd_any {L : Lab} {w : World} {k d : Nat} {l : List Fl} {K : List Int} {s : St} (f : Int) (a : Nat) (t : ByteArray) (hL : Fresh L w) (h : RAt L w k d l K s) (hi : Inv s) (hf : isFile f = true) (hat : a + t.size ≤ 16777216) (ht : 0 < t.size) :
    Calls Try.prog 86 #[.pointer (some ⟨d, 0, none⟩), .int .i64 f, .int .i64 a, .string t] w fun e w' => e = .returned (.tuple #[]) ∧ ∃ l' L', RAt L' w' k d l' K ((s.wrote f a t.data.toList).addSecs f (a / 64) (St.secs a t.data.toList)) ∧ Fr (MA k) L w L' w' := by
  have hsz := size_toList t
  have hte2 : t.toList.isEmpty = false := by
    rw [ByteArray.toList_eq]; cases hh : t.data.toList with
    | nil => rw [hh] at hsz; simp at hsz; omega
    | cons => rfl
  have hte3 : ¬ t.toList = [] := fun e => by rw [e] at hte2; cases hte2
  have hrd : Reads l s := by obtain ⟨fv, qv, kv, _, _, hb⟩ := h; exact hb.2.2.2
  have hnow := (hrd f).1
  have hcap := hi.cap f
  have hnum := getF_num l f
  have hif := isFile_iff.1 hf
  have hsecs : St.secs a t.data.toList = (a + t.size - 1) / 64 - a / 64 + 1 := by unfold St.secs; rw [hsz]; omega
  obtain ⟨cnt, hcnt⟩ : ∃ cnt, cnt = St.secs a t.data.toList := ⟨_, rfl⟩
  rw [← hcnt] at hsecs ⊢
  obtain ⟨x, hx⟩ : ∃ x, x = getF l f := ⟨_, rfl⟩
  rw [← hx] at hnow hnum
  obtain ⟨xn, xw, xl⟩ := x
  simp only at hnow hnum
  have hxw : xw.length ≤ 16777216 := by rw [hnow]; exact hcap
  have hrd2 := hrd.wrote f (a : Int) t.data.toList
  rw [← hx] at hrd2
  simp only [Int.toNat_natCast] at hrd2
  have HX := Lib.hid (And.intro hx (And.intro hcnt (And.intro hnow (And.intro hsecs hrd2))))
  have hmem := hi.mem
  have hfewp := hi.few
  have HM := Lib.hid (And.intro hmem (And.intro hi.nodup hfewp))
  subst hnum
  clear hx hcnt hnow hsz hrd hsecs hcap hmem hrd2 hi hfewp
  go_enter Try.func86, Try.ntmps86
  go_wp2_with fail
  refine (rget_any xn h).mono ?_
  rintro e w1 ⟨rfl, hb1⟩
  rw [← HX.out.1]
  unfold fval
  go_wp2_with fail
  refine (rput_any _ xw a t hxw hat ht).mono ?_
  rintro e w2 ⟨rfl, hb2⟩
  obtain ⟨X, hX⟩ : ∃ X, X = w1.heap.size := ⟨_, rfl⟩
  have hXn : (w1.alloc (.cells #[.int .i64 xn, .string (ba xw), .string (ba xl)] 90)).heap[X]? = some (.cells #[.int .i64 xn, .string (ba xw), .string (ba xl)] 90 (0, 0)) := by rw [hX]; exact heap_alloc_new w1 _
  have hX2 := (hb2.block X (blk_lt hXn)).trans hXn
  have k0 := blk_cell hX2 0
  have k1 := blk_cell hX2 1
  have k2 := blk_cell hX2 2
  have kf := blk_free hX2 1
  simp at k0 k1 k2
  rw [← hX]
  have hb3 : Below w.heap.size w (w2.setCell ⟨X, 1, none⟩ (.string (ba (putL xw a t.data.toList)))) := below_setAt ((hb1.alloc (by have := hb1.size; omega) _).trans (hb2.mono (Nat.le_trans hb1.size (by simp)))) (by have := hb1.size; omega) 1 _
  have h3 := h.below hL hb3
  have fr3 : Fr (MA k) L w L (w2.setCell ⟨X, 1, none⟩ (.string (ba (putL xw a t.data.toList)))) := Fr.below hL hb3
  have HXX := Lib.hid (And.intro hX (And.intro hXn (And.intro hX2 hb3)))
  clear hX hXn hX2 hb3 hb2
  go_wp2_with fail
  refine (rset_any (s' := s.wrote xn a t.data.toList) ⟨xn, putL xw a t.data.toList, xl⟩ fr3.fresh h3 hf HX.out.2.2.2.2 ⟨rfl, rfl, rfl, rfl⟩).mono ?_
  rintro e w4 ⟨rfl, L4, h4, f4⟩
  have fr4 : Fr (MA k) L w L4 w4 := fr3.trans (f4.mono md_ma)
  go_wp2_with fail
  obtain ⟨l1, hl1⟩ : ∃ l1, l1 = setF l ⟨xn, putL xw a t.data.toList, xl⟩ := ⟨_, rfl⟩
  rw [← hl1] at h4
  clear hl1
  obtain ⟨i0, hi0, hz0, hz1, hz2⟩ := info_parts Try.info107
  go_loopw [9] (fun n wr => ∃ (i : Nat) (L2 : Lab), i ≤ cnt ∧ n = .int .i64 ((a : Int) / 64 + i) ∧ RAt L2 wr k d l1 K ((s.wrote xn a t.data.toList).addSecs xn (a / 64) i) ∧ Fr (MA k) L w L2 wr) (fun n _ => (cnt + a / 64) - (intOf n).toNat)
  case atStart => exact ⟨0, L4, Nat.zero_le _, by simp, h4, fr4⟩
  case round =>
    obtain ⟨i, L2, hi', rfl, hr2, hfr⟩ := hrel
    have hfr0 := hfr.fresh
    obtain ⟨s2, hs2⟩ : ∃ s2, s2 = (s.wrote xn a t.data.toList).addSecs xn (a / 64) i := ⟨_, rfl⟩
    rw [← hs2] at hr2
    have hm2 : (∀ g m, (g, m) ∈ s2.pend ↔ s2.sec g m = true) ∧ s2.pend.Nodup := by rw [hs2]; exact addSecs_mem (s := s.wrote xn a t.data.toList) i HM.out.1 HM.out.2.1
    have hfew : s2.pend.length ≤ 5000000 := by
      have h1 := addSecs_len (s.wrote xn a t.data.toList) xn (a / 64) i
      rw [← hs2] at h1
      have h2 : (s.wrote xn a t.data.toList).pend = s.pend := rfl
      rw [h2] at h1
      have h3 := HM.out.2.2
      have h4 := HX.out.2.2.2.1
      omega
    have HS2 := Lib.hid (And.intro hs2 hm2)
    clear hs2 hm2
    by_cases hlt : i < cnt
    · have hcond : (a : Int) / 64 + i ≤ (a + t.size - 1) / 64 := by have := HX.out.2.2.2.1; omega
      have hr2' := hr2
      obtain ⟨fv, qv, kv, hd, hb, hbody⟩ := hr2
      have q1 := blk_cell hb 1
      have qf := blk_free hb 1
      have ld := blk_lt hb
      simp [rcells] at q1
      cases hsec : s2.sec xn ((a : Int) / 64 + i)
      · have HSEC := Lib.hid hsec
        clear hsec
        have hdp : qv.ownBlock ≠ some d := fun e => by have := hbody.2.1.2 _ e; rw [hd] at this; cases this
        have HB := Lib.hid (And.intro hb hbody)
        clear hb hbody
        go_wp2_with fail
        refine (rpending_any xn ((a : Int) / 64 + i) hr2' HS2.out.2.1).mono ?_
        rintro e w5 ⟨rfl, rfl⟩
        rw [HSEC.out]
        go_wp2_with (at_builtin; refine wpList_append_own_at _ rfl (.tmp 45) (.tmp 49) 84 rfl 0 107 i0 (.agg #[.int .i64 0, .int .i64 0]) 2 16 Try.underlying84 hi0 hz0 hz1 hz2 rfl (by decide) qv _ _ rfl (HB.out.2.2.1.1.alloc _) ⟨wr.heap.size, 0, none⟩ 1 1 [.int .i64 xn, .int .i64 ((a : Int) / 64 + i)] rfl rfl (World.news_of_block (heap_alloc_new wr _)) (by simp [Value.oneCell']) (by unfold maxLen; omega) (by omega) (by omega) ?_; intro v4 w4 hown4 hg4 hnil4 hat4; obtain ⟨A4, m4, c4, rfl⟩ := own_slice hown4; have q4 := (hg4.block d (by simp; omega) (Ne.symm hdp)).trans (blk_alloc HB.out.1 _); have r4 := blk_cell q4 1; have g4 := blk_free q4 1; simp [rcells] at r4; have H4 := Lib.hid (And.intro hown4 (And.intro hg4 hat4)); clear q4 hown4 hg4 hnil4 hat4)
        go_roundw
        case rel =>
          have e0 : (s.wrote xn a t.data.toList).addSecs xn (a / 64) (i + 1) = { s2 with sec := upd s2.sec xn (upd (s2.sec xn) ((a : Int) / 64 + i) true), pend := s2.pend ++ [(xn, (a : Int) / 64 + i)] } := by
            rw [St.addSecs_succ, ← HS2.out.1]
            unfold St.addSec
            rw [if_neg (by rw [HSEC.out]; simp)]
          obtain ⟨L5, r5, f5⟩ := rqueue_end (s' := (s.wrote xn a t.data.toList).addSecs xn (a / 64) (i + 1)) hfr0 hd HB.out.1 HB.out.2 H4.out.1 H4.out.2.1 H4.out.2.2 (by rw [e0]; exact ⟨rfl, rfl, rfl, rfl, rfl, rfl⟩)
          exact ⟨i + 1, L5, by omega, by push_cast; rw [Int.add_assoc], r5, hfr.trans f5⟩
        case measure => simp [intOf]; omega
      · have HSEC := Lib.hid hsec
        clear hsec hb hbody
        go_wp2_with fail
        refine (rpending_any xn ((a : Int) / 64 + i) hr2' HS2.out.2.1).mono ?_
        rintro e w5 ⟨rfl, rfl⟩
        rw [HSEC.out]
        go_wp2_with fail
        go_roundw
        case rel =>
          have hsame : (s.wrote xn a t.data.toList).addSecs xn (a / 64) (i + 1) = s2 := by
            rw [St.addSecs_succ, ← HS2.out.1]
            unfold St.addSec
            rw [if_pos HSEC.out]
          exact ⟨i + 1, L2, by omega, by push_cast; rw [Int.add_assoc], by rw [hsame]; exact hr2', hfr⟩
        case measure => simp [intOf]; omega
    · have hic : i = cnt := by omega
      have hcond : ¬ (a : Int) / 64 + i ≤ (a + t.size - 1) / 64 := by have := HX.out.2.2.2.1; omega
      have HIC := Lib.hid hic
      clear hic
      go_wp2_with fail
      go_end0
      have h5 := HS2.out.1
      rw [HIC.out] at h5
      rw [h5] at hr2
      exact ⟨rfl, l1, L2, hr2, hfr⟩

end Go.Proofs.Ytgocnjiabfmdpaa

namespace Go.Proofs.Ytgocnjiabfmdpaa
set_option maxRecDepth 8000
open Go.RowKit

theorem rput_as {w : World} {b : List UInt8} {t : ByteArray} (n : Nat) (z : Int) (y : List UInt8) (hz : z = (n : Int)) (hy : t.data.toList = y) (hb : b.length ≤ 16777216) (hc : n + t.size ≤ 16777216) (ht : 0 < t.size) :
    Calls Try.prog 98 #[.string (ba b), .int .i64 z, .string t] w fun e w' => e = .returned (.string (ba (putL b n y))) ∧ Below w.heap.size w w' := by
  subst hz; subst hy
  exact rput_any w b n t hb hc ht

set_option maxRecDepth 100000 in
set_option maxHeartbeats 1000000 in
theorem rsurvive_any {L : Lab} {w : World} {k d : Nat} {l : List Fl} {K : List Int} {s : St} (f : Int) (m : Nat) (hL : Fresh L w) (h : RAt L w k d l K s) (hf : isFile f = true) (hm : 64 * m < (s.now f).length) (hd : (s.dur f).length ≤ (s.now f).length) (hc : (s.now f).length ≤ 16777216) :
    Calls Try.prog 76 #[.pointer (some ⟨d, 0, none⟩), .agg #[.int .i64 f, .int .i64 m]] w fun e w' => e = .returned (.tuple #[]) ∧ ∃ l' L', RAt L' w' k d l' K (s.setl (f, m)) ∧ Fr (MD k) L w L' w' := by
  have hrd : Reads l s := by obtain ⟨fv, qv, kv, _, _, hb⟩ := h; exact hb.2.2.2
  have hnow := (hrd f).1
  have hlast := (hrd f).2
  have hnum := getF_num l f
  have hif := isFile_iff.1 hf
  obtain ⟨x, hx⟩ : ∃ x, x = getF l f := ⟨_, rfl⟩
  rw [← hx] at hnow hnum hlast
  obtain ⟨xn, xw, xl⟩ := x
  simp only at hnow hnum hlast
  have hrd2 := hrd.setl (f, (m : Int))
  simp only [← hx] at hrd2
  rw [← hnow] at hm hc hd
  rw [← hlast] at hd
  obtain ⟨E, hE⟩ : ∃ E : Nat, min (64 * (m : Int) + 64) (xw.length : Int) = (E : Int) := ⟨min (64 * m + 64) xw.length, by omega⟩
  have hsz : (ba xw).size = xw.length := ba_size xw
  have hE1 : 64 * m < E := by omega
  have hE2 : E ≤ xw.length := by omega
  have hEn : E = min (64 * m + 64) xw.length := by omega
  have hsec : (ba xw).extract (64 * m) E = ba (secOf xw m) := by
    rw [ba_cut]
    congr 1
    unfold secOf
    rw [show (64 * (m : Int)).toNat = 64 * m by omega, hEn]
    apply List.ext_getElem?
    intro i
    simp only [List.getElem?_take, List.getElem?_drop]
    by_cases h1 : i < 64
    · by_cases h2 : i < min (64 * m + 64) xw.length - 64 * m
      · rw [if_pos h2, if_pos h1]
      · rw [if_neg h2, if_pos h1, List.getElem?_eq_none (by omega)]
    · rw [if_neg (by omega), if_neg h1]
  have hsl := secOf_length xw m
  have HSEC := Lib.hid hsec
  clear hsec
  have HX := Lib.hid (And.intro hx (And.intro hnow (And.intro hlast (And.intro hrd2 hEn))))
  subst hnum
  clear hx hnow hlast hrd hrd2 hEn
  go_enter Try.func76, Try.ntmps76
  go_wp2_with fail
  obtain ⟨S, hS⟩ : ∃ S, S = w.heap.size := ⟨_, rfl⟩
  obtain ⟨ws, hws⟩ : ∃ ws, ws = w.alloc (.cells #[.int .i64 xn, .int .i64 m] 107) := ⟨_, rfl⟩
  have hSn : ws.heap[S]? = some (.cells #[.int .i64 xn, .int .i64 m] 107 (0, 0)) := by rw [hws, hS]; exact heap_alloc_new w _
  have hbs : Below w.heap.size w ws := by rw [hws]; exact (Below.refl _ w).alloc (Nat.le_refl _) _
  have hwsz : ws.heap.size = S + 1 := by rw [hws, hS]; simp
  have hs' := h.below hL hbs
  rw [← hS, ← hws]
  refine (rget_any xn hs').mono ?_
  rintro e w1 ⟨rfl, hb1⟩
  rw [← HX.out.1]
  unfold fval
  have hS1 := (hb1.block S (by omega)).trans hSn
  obtain ⟨X, hXe⟩ : ∃ X, X = w1.heap.size := ⟨_, rfl⟩
  obtain ⟨wx, hwx⟩ : ∃ wx, wx = w1.alloc (.cells #[.int .i64 xn, .string (ba xw), .string (ba xl)] 90) := ⟨_, rfl⟩
  have hXn : wx.heap[X]? = some (.cells #[.int .i64 xn, .string (ba xw), .string (ba xl)] 90 (0, 0)) := by rw [hwx, hXe]; exact heap_alloc_new w1 _
  have hXs : wx.heap[S]? = some (.cells #[.int .i64 xn, .int .i64 m] 107 (0, 0)) := by rw [hwx]; exact blk_alloc hS1 _
  have hbx : Below w.heap.size w wx := by rw [hwx]; exact (hbs.trans (hb1.mono (by omega))).alloc (by have := hb1.size; omega) _
  have s0 := blk_cell hXs 0
  have s1 := blk_cell hXs 1
  have x0 := blk_cell hXn 0
  have x1 := blk_cell hXn 1
  have x2 := blk_cell hXn 2
  have xf := blk_free hXn 2
  simp at s0 s1 x0 x1 x2
  have hSX : S < X := by rw [hXe]; have := hb1.size; omega
  have lX : X < wx.heap.size := blk_lt hXn
  have HW := Lib.hid (And.intro hXn (And.intro hXs (And.intro hbx (And.intro hwx (And.intro hXe (show w.heap.size ≤ X by omega))))))
  clear hSn hbs hwsz hs' hb1 hS1 hXn hXs hbx hws hS
  go_upto_region 2 with fail
  rw [← hwx, ← hXe]
  clear hwx hXe
  go_wp2_with fail
  have n1 : IntKind.i64.wrap (64 * (m : Int)) = 64 * (m : Int) := by rw [IntKind.wrap_i64]; omega
  have n2 : IntKind.i64.wrap (64 * (m : Int) + 64) = 64 * (m : Int) + 64 := by rw [IntKind.wrap_i64]; omega
  have n3 : (if (xw.length : Int) < 64 * (m : Int) + 64 then (xw.length : Int) else 64 * (m : Int) + 64) = (E : Int) := by rw [← hE]; split <;> omega
  have n4 : (64 * (m : Int)).toNat = 64 * m := by omega
  have n5 : (0 : Int) ≤ 64 * (m : Int) := by omega
  have n6 : 64 * (m : Int) ≤ (E : Int) := by omega
  have n7 : (E : Int) ≤ (xw.length : Int) := by omega
  obtain ⟨q, hq⟩ : ∃ q : Nat, q = 64 * m := ⟨_, rfl⟩
  obtain ⟨Y, hY⟩ : ∃ Y, Y = secOf xw m := ⟨_, rfl⟩
  have HQ : Hid (64 * (m : Int) = (q : Int) ∧ ((ba xw).extract (64 * m) E).data.toList = Y ∧ q + ((ba xw).extract (64 * m) E).size ≤ 16777216 ∧ 0 < ((ba xw).extract (64 * m) E).size ∧ putL xl q Y = putL xl (64 * (m : Int)).toNat (secOf xw m)) := by
    show _ ∧ _ ∧ _ ∧ _ ∧ _
    rw [HSEC.out, ba_size, ba_toList, secOf_length, n4]
    exact ⟨by omega, hY.symm, by omega, by omega, by rw [hq, hY]⟩
  clear hq hY
  go_still_tail 19, (by kernel_rfl)
  change wpList _ _ _ _ _ wx.drew
  have hbd : Below w.heap.size w wx.drew := ⟨HW.out.2.2.1.os, HW.out.2.2.1.tape, HW.out.2.2.1.output, HW.out.2.2.1.size, HW.out.2.2.1.block⟩
  have HBD := Lib.hid hbd
  clear hbd
  go_wp2_with fail
  refine (rput_as q (64 * (m : Int)) Y HQ.out.1 HQ.out.2.1 (by omega) HQ.out.2.2.1 HQ.out.2.2.2.1).mono ?_
  rintro e w2 ⟨rfl, hb2⟩
  have hX2 : w2.heap[X]? = _ := (hb2.block X lX).trans HW.out.1
  have kf2 := blk_free hX2 2
  have y2 := blk_cell hX2 2
  simp at y2
  have hX3 := blk_set hX2 2 (.string (ba (putL xl q Y)))
  simp at hX3
  have lwX : w.heap.size ≤ X := HW.out.2.2.2.2.2
  have hb3 : Below w.heap.size w (w2.setCell ⟨X, 2, none⟩ (.string (ba (putL xl q Y)))) := below_setAt (HBD.out.trans (hb2.mono HBD.out.size)) lwX 2 _
  have z0 := blk_cell hX3 0
  have z1 := blk_cell hX3 1
  have z2 := blk_cell hX3 2
  simp at z0 z1 z2
  have h3 := h.below hL hb3
  have fr3 : Fr (MD k) L w L (w2.setCell ⟨X, 2, none⟩ (.string (ba (putL xl q Y)))) := Fr.below hL hb3
  clear hX2 hX3 hb3 hb2
  go_wp2_with fail
  refine (rset_any (s' := s.setl (xn, (m : Int))) ⟨xn, xw, putL xl q Y⟩ fr3.fresh h3 hf (by
    rw [HQ.out.2.2.2.2]
    exact HX.out.2.2.2.1) ⟨rfl, rfl, rfl, rfl⟩).mono ?_
  rintro e w4 ⟨rfl, L4, h4, f4⟩
  go_wp2_with fail
  go_end0
  exact ⟨rfl, _, L4, h4, fr3.trans f4⟩

end Go.Proofs.Ytgocnjiabfmdpaa

namespace Go.Proofs.Ytgocnjiabfmdpaa
set_option maxRecDepth 8000
open Go.RowKit

/-- The sectors of other files than f, up to j. -/
def keptQ (l : List (Int × Int)) (f : Int) (j : Nat) : List (Int × Int) := (l.take j).filter (fun p => !(p.1 == f))

theorem keptQ_succ (l : List (Int × Int)) (f : Int) (j : Nat) (hj : j < l.length) : keptQ l f (j + 1) = keptQ l f j ++ (if l[j].1 = f then [] else [l[j]]) := by
  unfold keptQ
  rw [List.take_succ_eq_append_getElem hj, List.filter_append]
  congr 1
  by_cases h : l[j].1 = f
  · rw [if_pos h, List.filter_cons_of_neg (by simp [h])]; rfl
  · rw [if_neg h, List.filter_cons_of_pos (by simp [h])]; rfl

theorem keptQ_len (l : List (Int × Int)) (f : Int) (j : Nat) : (keptQ l f j).length ≤ l.length := by
  unfold keptQ
  refine Nat.le_trans (List.length_filter_le _ _) ?_
  rw [List.length_take]; omega

theorem rq_end {L : Lab} {w w4 : World} {k d B : Nat} {fv qv kv v4 : Value} {l : List Fl} {q : List (Int × Int)} {K : List Int} {s s' : St} (hL : Fresh L w) (hd : L d = some (k, .disk)) (hb : w.heap[d]? = some (.cells (rcells fv qv kv s) 86 (0, 0))) (hbody : RBody L w k fv qv kv l K s)
    (hbel : Below w.heap.size w w4) (hown : w4.ownsRow B 107 2 v4 q.length (pc q)) (hB : w.heap.size ≤ B) (hs : s'.lost = s.lost ∧ s'.down = s.down ∧ s'.armed = s.armed ∧ s'.pend = q ∧ s'.now = s.now ∧ s'.dur = s.dur) :
    ∃ L', RAt L' (w4.setCell ⟨d, 1, none⟩ v4) k d l K s' ∧ Fr (MD k) L w L' (w4.setCell ⟨d, 1, none⟩ v4) := by
  obtain ⟨L1, f1, hsl⟩ := new_label (M := fun _ => False) (k, .list) hL (own_base hown) hbel (fun g hg => Nat.le_trans hB (World.ownsRow.lt hown g hg).1)
  have f2 := Fr.setD f1.fresh (f1.lab_of hL hd) 1 v4
  have f3 : Fr (MD k) L w L1 (w4.setCell ⟨d, 1, none⟩ v4) := (f1.mono (fun _ h => h.elim)).trans f2
  obtain ⟨e1, e2, e3, e4, e5, e6⟩ := hs
  refine ⟨L1, ⟨fv, v4, kv, f3.lab_of hL hd, ?_, hbody.1.keep hL f3 (by simp [MD]), ?_, ⟨hbody.2.2.1.1.keep hL f3 (by simp [MD]), hbody.2.2.1.2⟩, hbody.2.2.2.same e5 e6⟩, f3⟩
  · have h1 := blk_set ((hbel.block d (blk_lt hb)).trans hb) 1 v4
    rw [h1]
    simp [rcells, e1, e2, e3]
  · rw [e4]; exact hsl.keep f1.fresh f2 (by simp [MD])

set_option maxRecDepth 100000 in
set_option maxHeartbeats 1000000 in
theorem rsettle_any {L : Lab} {w : World} {k d : Nat} {l : List Fl} {K : List Int} {s : St} (f : Int) (Y : List UInt8) (hL : Fresh L w) (h : RAt L w k d l K s) (hf : isFile f = true) (hfew : s.pend.length ≤ 5000000) :
    Calls Try.prog 84 #[.pointer (some ⟨d, 0, none⟩), .int .i64 f, .string (ba Y)] w fun e w' => e = .returned (.tuple #[]) ∧ ∃ l' L', RAt L' w' k d l' K ({ s with now := upd s.now f Y, dur := upd s.dur f Y }.forget f) ∧ Fr (MD k) L w L' w' := by
  have hrd : Reads l s := by obtain ⟨fv, qv, kv, _, _, hb⟩ := h; exact hb.2.2.2
  obtain ⟨s1, hs1⟩ : ∃ s1 : St, s1 = { s with now := upd s.now f Y, dur := upd s.dur f Y } := ⟨_, rfl⟩
  have hrd1 : Reads (setF l ⟨f, Y, Y⟩) s1 := by rw [hs1]; exact hrd.set (f := f) rfl rfl
  have hp1 : s1.pend = s.pend := by rw [hs1]
  obtain ⟨i0, hi0, hz0, hz1, hz2⟩ := info_parts Try.info107
  rw [← hs1]
  have HS := Lib.hid (And.intro hs1 (And.intro hrd1 hp1))
  clear hs1 hrd1 hp1 hrd
  go_enter Try.func84, Try.ntmps84
  go_wp2_with fail
  refine (rset_any (s' := s1) ⟨f, Y, Y⟩ hL h hf HS.out.2.1 (by rw [HS.out.1]; exact ⟨rfl, rfl, rfl, rfl⟩)).mono ?_
  rintro e w1 ⟨rfl, L1, h1, f1⟩
  obtain ⟨fv, qv, kv, hd, hb, hbody⟩ := h1
  have c0 := blk_cell hb 1
  have ld := blk_lt hb
  simp [rcells] at c0
  obtain ⟨A, c, rfl, hm, hcells⟩ := own_pairs hbody.2.1.1
  have hlen : s1.pend.length ≤ 5000000 := by rw [HS.out.2.2]; exact hfew
  obtain ⟨Q, hQ⟩ : ∃ Q, Q = s1.pend := ⟨_, rfl⟩
  rw [← hQ] at c0 hm hcells hlen
  obtain ⟨S, hS⟩ : ∃ S, S = w1.heap.size := ⟨_, rfl⟩
  rw [← hS] at ld
  have HC := Lib.hid hcells
  have HB := Lib.hid (And.intro hb (And.intro hbody (And.intro hd (And.intro hQ hS))))
  clear hb hbody hcells hQ hS hd
  go_wp2_with fail
  go_loopw [6, 7] (fun v i wr => ∃ j : Nat, j ≤ Q.length ∧ i = .int .i64 j ∧ Hid (wr.ownsRow S 107 2 v (keptQ Q f j).length (pc (keptQ Q f j))) ∧ Hid (Below S w1 wr)) (fun _ i _ => Q.length - (intOf i).toNat)
  case atStart => exact ⟨0, Nat.zero_le _, rfl, World.ownsRow_nil _ _ _ _, Below.refl _ _⟩
  case round =>
    obtain ⟨j, hj, rfl, HO, HBW⟩ := hrel
    have hcl : ∀ b o, b < S → wr.cell? ⟨b, o, none⟩ = w1.cell? ⟨b, o, none⟩ := fun b o hb => HBW.out.cell (p := ⟨b, o, none⟩) hb
    have c0r := (hcl d 1 ld).trans c0
    by_cases hlt : j < Q.length
    · obtain ⟨g, rfl, lg, h1, h2⟩ := HC.out j hlt
      rw [← HB.out.2.2.2.2] at lg
      have h1r := (hcl g (j * 2) lg).trans h1
      have h2r := (hcl g (j * 2 + 1) lg).trans h2
      have hks := keptQ_succ Q f j hlt
      have hkl := keptQ_len Q f j
      obtain ⟨y, hy⟩ : ∃ y, Q[j] = y := ⟨_, rfl⟩
      rw [hy] at h1r h2r hks
      have HK := Lib.hid hks
      clear hks hy h1 h2 hcl
      by_cases hnf : y.1 = f
      · go_wp2_with fail
        go_roundw
        case rel =>
          refine ⟨j + 1, by omega, by go_num, ?_, HBW.out⟩
          have h5 := HO.out
          rw [HK.out, if_pos hnf, List.append_nil]
          exact h5
        case measure => simp [intOf]; omega
      · go_wp2_with (at_builtin; refine wpList_append_own_at _ rfl (.tmp 33) (.tmp 41) 84 rfl S 107 i0 (.agg #[.int .i64 0, .int .i64 0]) 2 16 Try.underlying84 hi0 hz0 hz1 hz2 rfl (by decide) u6 (keptQ Q f j).length (pc (keptQ Q f j)) rfl (World.ownsRow.alloc (w := wr) HO.out _) ⟨wr.heap.size, 0, none⟩ 1 1 [.int .i64 y.1, .int .i64 y.2] rfl rfl (World.news_of_block (heap_alloc_new wr _)) (by simp [Value.oneCell']) (by unfold maxLen; omega) (by omega) (by have := HBW.out.size; have := HB.out.2.2.2.2; simp; omega) ?_; intro v4 w4 hown4 hg4 hnil4 hat4; have H4 := Lib.hid (And.intro hown4 hg4); clear hown4 hg4 hnil4 hat4)
        go_roundw
        case rel =>
          refine ⟨j + 1, by omega, by go_num, ?_, ?_⟩
          · have h5 := H4.out.1
            rw [HK.out, if_neg hnf, pc_append, List.length_append]
            exact h5
          · exact (HBW.out.alloc (by have := HBW.out.size; have := HB.out.2.2.2.2; omega) _).grown H4.out.2 (by have := HBW.out.size; have := HB.out.2.2.2.2; simp; omega) (fun k hk => (World.ownsRow.lt HO.out k hk).1)
        case measure => simp [intOf]; omega
    · obtain rfl : j = Q.length := by omega
      have q4 := (HBW.out.block d ld).trans HB.out.1
      have e4 := blk_free q4 1
      clear q4
      obtain ⟨A4, m4, c4, rfl⟩ := own_slice (own_base HO.out)
      go_wp2_with fail
      go_end0
      obtain ⟨L5, r5, f5⟩ := rq_end (s' := s1.forget f) f1.fresh HB.out.2.2.1 HB.out.1 HB.out.2.1 (by rw [← HB.out.2.2.2.2]; exact HBW.out) HO.out (by rw [← HB.out.2.2.2.2]; exact Nat.le_refl _) (by
        refine ⟨rfl, rfl, rfl, ?_, rfl, rfl⟩
        unfold keptQ
        rw [List.take_length, HB.out.2.2.2.1]
        rfl)
      exact ⟨rfl, _, L5, r5, f1.trans f5⟩

end Go.Proofs.Ytgocnjiabfmdpaa
