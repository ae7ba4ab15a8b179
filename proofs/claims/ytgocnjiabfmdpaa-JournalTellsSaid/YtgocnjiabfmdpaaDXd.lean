/- DiskReads: what the plain state says of it. -/
import Derived.Test.YtgocnjiabfmdpaaDP
namespace Go.Proofs.Ytgocnjiabfmdpaa
set_option maxRecDepth 8000

theorem survives_nil (i : Nat) : survives [] i = false := by simp [survives]

theorem chosen_none (i : Nat) (l : List (Int × Int)) : chosen [] i l = [] := by
  induction l generalizing i with
  | nil => rfl
  | cons p l ih => simp [chosen, survives_nil, ih]

theorem hit_zero {s : St} (h : s.armed = 0) : s.hit = false := by simp [St.hit, h]
theorem count_zero {s : St} (h : s.armed = 0) : s.count = s := by unfold St.count; rw [if_pos (Or.inr h)]

theorem part_all (l : List UInt8) (z : Int) (h : l.length ≤ z.toNat) : part l 0 z = l := by
  unfold part
  simp
  exact List.take_of_length_le h

theorem wr_ok {s : St} {f : Int} (hr : s.ready f = 0) {a : Int} (h0 : 0 ≤ a) {t : List UInt8} (h1 : a ≤ 16777216 - t.length) : (s.wr f a t).2 = 0 ∧ (s.wr f a t).1.down = s.down ∧ (s.wr f a t).1.armed = s.armed ∧
    (s.wr f a t).1.now f = (if t = [] then s.now f else putL (s.now f) a.toNat t) := by
  unfold St.wr
  rw [if_neg (by simp [hr]), if_neg (by omega), if_neg (by omega)]
  by_cases ht : t = []
  · rw [if_pos ht, if_pos ht]; exact ⟨rfl, rfl, rfl, rfl⟩
  · rw [if_neg ht, if_neg ht]
    obtain ⟨r1, r2, r3, r4, r5, r6⟩ := addSecs_rest (s.wrote f a t) f (a / 64) (St.secs a t)
    refine ⟨rfl, r3, r5, ?_⟩
    show ((s.wrote f a t).addSecs f (a / 64) (St.secs a t)).now f = _
    rw [r1]
    exact upd_same _ _ _

theorem put_part (b : List UInt8) (n : Nat) (t : List UInt8) : ((putL b n t).drop n).take t.length = t := by
  refine ext_getD ?_ (fun i hi => ?_)
  · rw [List.length_take, List.length_drop, putL_length]; omega
  · rw [List.length_take, List.length_drop, putL_length] at hi
    rw [getD_take, if_pos (by omega), getD_drop, putL_getD, if_pos (by omega)]
    congr 1; omega

theorem ready_up {s : St} {f : Int} (hd : s.down = false) (hf : isFile f = true) : s.ready f = 0 := by unfold St.ready; rw [hd, hf]; simp

/-- What is written is read again; and what a cut leaves stays. -/
theorem reads_facts {s : St} (hi : Inv s) (ha0 : s.armed = 0) (hd : s.down = false) {f a z : Int} (hf : isFile f = true) {t : List UInt8} (ht : t.length ≤ 300) (h0 : 0 ≤ a) (h1 : a ≤ 3000) (hz : 0 ≤ z) :
    ∃ (s1 : St) (all : List UInt8), s.write f a t = (s1, 0) ∧ s1.read f a t.length = (t, 0) ∧ s1.size f = all.length ∧ s1.read f 0 all.length = (all, 0) ∧ s1.read f a z = (part all a z, 0) ∧ all.length ≤ 16777216 ∧
      ∃ s2, s1.trunc f (min a all.length) = (s2, 0) ∧ (s2.crash []).start.read f 0 16777216 = (all.take (min a all.length).toNat, 0) := by
  have hr := ready_up hd hf
  obtain ⟨w1, w2, w3, w4⟩ := wr_ok hr (a := a) h0 (t := t) (by omega)
  have hw : s.write f a t = ((s.wr f a t).1, 0) := by
    unfold St.write
    rw [hit_zero ha0, if_neg (by simp), count_zero ha0, ← w1]
  have hi1 : Inv (s.wr f a t).1 := hi.wr _ _ _
  generalize (s.wr f a t).1 = s1 at w2 w3 w4 hw hi1
  have hd1 : s1.down = false := w2.trans hd
  have hr1 := ready_up hd1 hf
  have hc1 := hi1.cap f
  refine ⟨s1, s1.now f, hw, ?_, by unfold St.size; rw [if_pos hf], ?_, ?_, hc1, (s1.cut f (min a (s1.now f).length).toNat), ?_, ?_⟩
  · unfold St.read
    rw [if_neg (by simp [hr1]), if_neg (by omega), w4]
    congr 1
    unfold part
    split
    · rename_i e; rw [e]; simp
    · rw [Int.toNat_natCast]; exact put_part _ _ _
  · unfold St.read
    rw [if_neg (by simp [hr1]), if_neg (by omega), part_all _ _ (by simp)]
  · unfold St.read
    rw [if_neg (by simp [hr1]), if_neg (by omega)]
  · have ha1 : s1.armed = 0 := w3.trans ha0
    unfold St.trunc
    rw [hit_zero ha1, if_neg (by simp), count_zero ha1, if_neg (by simp [hr1]), if_neg (by omega)]
  · have hcd : (s1.cut f (min a (s1.now f).length).toNat).down = false := hd1
    have hcr : (s1.cut f (min a (s1.now f).length).toNat).crash [] = (s1.cut f (min a (s1.now f).length).toNat).fallen := by
      unfold St.crash
      rw [hcd, if_neg (by simp), chosen_none]
      rfl
    rw [hcr]
    have hn : ((s1.cut f (min a (s1.now f).length).toNat).fallen.start).now f = (s1.now f).take (min a (s1.now f).length).toNat := upd_same _ _ _
    unfold St.read
    rw [if_neg (by rw [ready_up (s := (s1.cut f (min a (s1.now f).length).toNat).fallen.start) rfl hf]; simp), if_neg (by omega), hn, part_all]
    rw [List.length_take]
    omega

theorem reads_bad {s : St} (ha0 : s.armed = 0) {f a : Int} {t : List UInt8} (h : s.down = true ∨ isFile f = false) : (s.write f a t).2 ≠ 0 := by
  have hr : s.ready f ≠ 0 := by
    unfold St.ready
    rcases h with h | h
    · rw [h]; simp
    · rw [h]; split <;> simp
  unfold St.write
  rw [hit_zero ha0, if_neg (by simp), count_zero ha0]
  unfold St.wr
  rw [if_pos hr]
  exact hr

end Go.Proofs.Ytgocnjiabfmdpaa
