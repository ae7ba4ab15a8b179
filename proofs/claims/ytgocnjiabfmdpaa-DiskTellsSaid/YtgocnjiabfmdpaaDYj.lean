/- The reference's survive: a pending sector survives. -/
import Derived.Test.YtgocnjiabfmdpaaDYi
import Derived.Deep.RegionLaw
import Derived.StillTailTactics
import Derived.Deep.CutBlock
import Derived.Deep.DeepCutAuto
namespace Go.Proofs.Ytgocnjiabfmdpaa
set_option maxRecDepth 8000
open Go.RowKit

theorem rput_as {w : World} {b : List UInt8} {t : ByteArray} (n : Nat) (z : Int) (y : List UInt8) (hz : z = (n : Int)) (hy : t.data.toList = y) (hb : b.length ≤ 16777216) (hc : n + t.size ≤ 16777216) (ht : 0 < t.size) :
    Calls Try.prog 98 #[.string (ba b), .int .i64 z, .string t] w fun e w' => e = .returned (.string (ba (putL b n y))) ∧ Below w.heap.size w w' := by
  subst hz; subst hy
  exact rput_any w b n t hb hc ht

set_option maxRecDepth 100000 in
set_option maxHeartbeats 1000000 in
theorem rsurvive_any {L : Lab} {w : World} {k d : Nat} {l : List Fl} {K : List Int} {s : St} (f : Int) (m : Nat) (hL : Fresh L w) (h : RAt L w k d l K s) (hf : isFile f = true) (hm : 64 * m < (s.now f).length) (hd : (s.dur f).length ≤ (s.now f).length) (hc : (s.now f).length ≤ 16777216) :
    Calls Try.prog 76 #[.pointer (some ⟨d, 0, none⟩), .agg #[.int .i64 f, .int .i64 m]] w fun e w' => e = .returned (.tuple #[]) ∧ ∃ l' L', RAt L' w' k d l' K (s.setl (f, m)) ∧ Fr (MD k) L w L' w' := by
  have hrd : Reads l s := by obtain ⟨fv, qv, kv, _, _, hb⟩ := h; exact hb.2.2.2
  have hnow := (hrd f).1
  have hlast := (hrd f).2
  have hnum := getF_num l f
  have hif := isFile_iff.1 hf
  obtain ⟨x, hx⟩ : ∃ x, x = getF l f := ⟨_, rfl⟩
  rw [← hx] at hnow hnum hlast
  obtain ⟨xn, xw, xl⟩ := x
  simp only at hnow hnum hlast
  have hrd2 := hrd.setl (f, (m : Int))
  simp only [← hx] at hrd2
  rw [← hnow] at hm hc hd
  rw [← hlast] at hd
  obtain ⟨E, hE⟩ : ∃ E : Nat, min (64 * (m : Int) + 64) (xw.length : Int) = (E : Int) := ⟨min (64 * m + 64) xw.length, by omega⟩
  have hsz : (ba xw).size = xw.length := ba_size xw
  have hE1 : 64 * m < E := by omega
  have hE2 : E ≤ xw.length := by omega
  have hEn : E = min (64 * m + 64) xw.length := by omega
  have hsec : (ba xw).extract (64 * m) E = ba (secOf xw m) := by
    rw [ba_cut]
    congr 1
    unfold secOf
    rw [show (64 * (m : Int)).toNat = 64 * m by omega, hEn]
    apply List.ext_getElem?
    intro i
    simp only [List.getElem?_take, List.getElem?_drop]
    by_cases h1 : i < 64
    · by_cases h2 : i < min (64 * m + 64) xw.length - 64 * m
      · rw [if_pos h2, if_pos h1]
      · rw [if_neg h2, if_pos h1, List.getElem?_eq_none (by omega)]
    · rw [if_neg (by omega), if_neg h1]
  have hsl := secOf_length xw m
  have HSEC := Lib.hid hsec
  clear hsec
  have HX := Lib.hid (And.intro hx (And.intro hnow (And.intro hlast (And.intro hrd2 hEn))))
  subst hnum
  clear hx hnow hlast hrd hrd2 hEn
  go_enter Try.func76, Try.ntmps76
  go_wp2_with fail
  obtain ⟨S, hS⟩ : ∃ S, S = w.heap.size := ⟨_, rfl⟩
  obtain ⟨ws, hws⟩ : ∃ ws, ws = w.alloc (.cells #[.int .i64 xn, .int .i64 m] 107) := ⟨_, rfl⟩
  have hSn : ws.heap[S]? = some (.cells #[.int .i64 xn, .int .i64 m] 107 (0, 0)) := by rw [hws, hS]; exact heap_alloc_new w _
  have hbs : Below w.heap.size w ws := by rw [hws]; exact (Below.refl _ w).alloc (Nat.le_refl _) _
  have hwsz : ws.heap.size = S + 1 := by rw [hws, hS]; simp
  have hs' := h.below hL hbs
  rw [← hS, ← hws]
  refine (rget_any xn hs').mono ?_
  rintro e w1 ⟨rfl, hb1⟩
  rw [← HX.out.1]
  unfold fval
  have hS1 := (hb1.block S (by omega)).trans hSn
  obtain ⟨X, hXe⟩ : ∃ X, X = w1.heap.size := ⟨_, rfl⟩
  obtain ⟨wx, hwx⟩ : ∃ wx, wx = w1.alloc (.cells #[.int .i64 xn, .string (ba xw), .string (ba xl)] 90) := ⟨_, rfl⟩
  have hXn : wx.heap[X]? = some (.cells #[.int .i64 xn, .string (ba xw), .string (ba xl)] 90 (0, 0)) := by rw [hwx, hXe]; exact heap_alloc_new w1 _
  have hXs : wx.heap[S]? = some (.cells #[.int .i64 xn, .int .i64 m] 107 (0, 0)) := by rw [hwx]; exact blk_alloc hS1 _
  have hbx : Below w.heap.size w wx := by rw [hwx]; exact (hbs.trans (hb1.mono (by omega))).alloc (by have := hb1.size; omega) _
  have s0 := blk_cell hXs 0
  have s1 := blk_cell hXs 1
  have x0 := blk_cell hXn 0
  have x1 := blk_cell hXn 1
  have x2 := blk_cell hXn 2
  have xf := blk_free hXn 2
  simp at s0 s1 x0 x1 x2
  have hSX : S < X := by rw [hXe]; have := hb1.size; omega
  have lX : X < wx.heap.size := blk_lt hXn
  have HW := Lib.hid (And.intro hXn (And.intro hXs (And.intro hbx (And.intro hwx (And.intro hXe (show w.heap.size ≤ X by omega))))))
  clear hSn hbs hwsz hs' hb1 hS1 hXn hXs hbx hws hS
  go_upto_region 2 with fail
  rw [← hwx, ← hXe]
  clear hwx hXe
  go_wp2_with fail
  have n1 : IntKind.i64.wrap (64 * (m : Int)) = 64 * (m : Int) := by rw [IntKind.wrap_i64]; omega
  have n2 : IntKind.i64.wrap (64 * (m : Int) + 64) = 64 * (m : Int) + 64 := by rw [IntKind.wrap_i64]; omega
  have n3 : (if (xw.length : Int) < 64 * (m : Int) + 64 then (xw.length : Int) else 64 * (m : Int) + 64) = (E : Int) := by rw [← hE]; split <;> omega
  have n4 : (64 * (m : Int)).toNat = 64 * m := by omega
  have n5 : (0 : Int) ≤ 64 * (m : Int) := by omega
  have n6 : 64 * (m : Int) ≤ (E : Int) := by omega
  have n7 : (E : Int) ≤ (xw.length : Int) := by omega
  obtain ⟨q, hq⟩ : ∃ q : Nat, q = 64 * m := ⟨_, rfl⟩
  obtain ⟨Y, hY⟩ : ∃ Y, Y = secOf xw m := ⟨_, rfl⟩
  have HQ : Hid (64 * (m : Int) = (q : Int) ∧ ((ba xw).extract (64 * m) E).data.toList = Y ∧ q + ((ba xw).extract (64 * m) E).size ≤ 16777216 ∧ 0 < ((ba xw).extract (64 * m) E).size ∧ putL xl q Y = putL xl (64 * (m : Int)).toNat (secOf xw m)) := by
    show _ ∧ _ ∧ _ ∧ _ ∧ _
    rw [HSEC.out, ba_size, ba_toList, secOf_length, n4]
    exact ⟨by omega, hY.symm, by omega, by omega, by rw [hq, hY]⟩
  clear hq hY
  go_still_tail 19, (by kernel_rfl)
  change wpList _ _ _ _ _ wx.drew
  have hbd : Below w.heap.size w wx.drew := ⟨HW.out.2.2.1.os, HW.out.2.2.1.tape, HW.out.2.2.1.output, HW.out.2.2.1.size, HW.out.2.2.1.block⟩
  have HBD := Lib.hid hbd
  clear hbd
  go_wp2_with fail
  refine (rput_as q (64 * (m : Int)) Y HQ.out.1 HQ.out.2.1 (by omega) HQ.out.2.2.1 HQ.out.2.2.2.1).mono ?_
  rintro e w2 ⟨rfl, hb2⟩
  have hX2 : w2.heap[X]? = _ := (hb2.block X lX).trans HW.out.1
  have kf2 := blk_free hX2 2
  have y2 := blk_cell hX2 2
  simp at y2
  have hX3 := blk_set hX2 2 (.string (ba (putL xl q Y)))
  simp at hX3
  have lwX : w.heap.size ≤ X := HW.out.2.2.2.2.2
  have hb3 : Below w.heap.size w (w2.setCell ⟨X, 2, none⟩ (.string (ba (putL xl q Y)))) := below_setAt (HBD.out.trans (hb2.mono HBD.out.size)) lwX 2 _
  have z0 := blk_cell hX3 0
  have z1 := blk_cell hX3 1
  have z2 := blk_cell hX3 2
  simp at z0 z1 z2
  have h3 := h.below hL hb3
  have fr3 : Fr (MD k) L w L (w2.setCell ⟨X, 2, none⟩ (.string (ba (putL xl q Y)))) := Fr.below hL hb3
  clear hX2 hX3 hb3 hb2
  go_wp2_with fail
  refine (rset_any (s' := s.setl (xn, (m : Int))) ⟨xn, xw, putL xl q Y⟩ fr3.fresh h3 hf (by
    rw [HQ.out.2.2.2.2]
    exact HX.out.2.2.2.1) ⟨rfl, rfl, rfl, rfl⟩).mono ?_
  rintro e w4 ⟨rfl, L4, h4, f4⟩
  go_wp2_with fail
  go_end0
  exact ⟨rfl, _, L4, h4, fr3.trans f4⟩

end Go.Proofs.Ytgocnjiabfmdpaa
