/- A journal as it lies in memory; walks of Sync, Len, Get, All. Walk of All: a copy of the list of the records. Walk of Append. Walk of Open. -/
import Derived.Test.YtgocnjiabfmdpaaJc
import Derived.Test.YtgocnjiabfmdpaaDXg
import Derived.StillTailTactics
import Derived.Deep.QuietTactic
import Derived.BigQuiet
import Derived.Laws.CopyOwn
import Derived.Deep.AppendLies
import Derived.Deep.RegionLaw
namespace Go.Proofs.Ytgocnjiabfmdpaa
set_option maxRecDepth 8000
open Go.RowKit Wire

def jcells (d : Nat) (f : Int) (rv : Value) (a : List (List UInt8)) (bad : Bool) : Array Value := #[.pointer (some ⟨d, 0, none⟩), .int .i64 f, rv, .int .i64 ((jforms a).length : Nat), .bool bad]

/-- The program's journal, number kj, at block j, over the disk at block d. -/
def JAt (L : Lab) (w : World) (kj j d : Nat) (f : Int) (a : List (List UInt8)) (bad : Bool) : Prop :=
  ∃ rv, L j = some (kj, .disk) ∧ w.heap[j]? = some (.cells (jcells d f rv a bad) 101 (0, 0)) ∧ Sl L w 9 1 rv a.length (a.map strV) (kj, .list)

def MJ (k kj : Nat) : Nat × Role → Prop := fun t => t.1 = k ∨ t.1 = kj
theorem mj0 {k kj : Nat} : ∀ t, MA k t → MJ k kj t := fun _ h => Or.inl h
theorem mj1 {k kj : Nat} : ∀ t, MA kj t → MJ k kj t := fun _ h => Or.inr h

section
variable {M : Nat × Role → Prop} {L L1 : Lab} {w w1 : World} {k kj j d : Nat} {f : Int} {a : List (List UInt8)} {bad : Bool}

theorem JAt.keep (h : JAt L w kj j d f a bad) (hL : Fresh L w) (hf : Fr M L w L1 w1) (hm : ∀ r, ¬ M (kj, r)) : JAt L1 w1 kj j d f a bad := by
  obtain ⟨rv, a1, a2, a3⟩ := h
  exact ⟨rv, hf.lab_of hL a1, (hf.keeps hL a1 (hm _)).trans a2, a3.keep hL hf (hm _)⟩

theorem JAt.lt (h : JAt L w kj j d f a bad) : j < w.heap.size := by
  obtain ⟨rv, a1, a2, a3⟩ := h
  exact (Array.getElem?_eq_some_iff.1 a2).1

theorem JAt.setBad (h : JAt L w kj j d f a bad) (b : Bool) : JAt L (w.setCell ⟨j, 4, none⟩ (.bool b)) kj j d f a b := by
  obtain ⟨rv, a1, a2, a3⟩ := h
  refine ⟨rv, a1, ?_, ownsRow_of_blocks a3.1 (fun g hg => ?_), a3.2⟩
  · rw [blk_set a2]; rfl
  · exact Below.heap_setCell _ _ _ _ (fun e => by
      have h1 := a3.2 g hg
      rw [e, a1] at h1; cases h1)
end

/-- What Append and Sync make of the disk and of the journal. -/
def jsync (s : St) (f : Int) (bad : Bool) : (St × Bool) × Int :=
  if bad = true then ((s, true), 7) else (((s.sync f).1, decide ((s.sync f).2 ≠ 0)), (s.sync f).2)

def JPost (L : Lab) (w : World) (k kj j d : Nat) (f : Int) (r : (St × List (List UInt8) × Bool) × Int) (e : Ending) (w' : World) : Prop :=
  e = .returned (.int .i64 r.2) ∧ ∃ L', DAt L' w' k d r.1.1 ∧ JAt L' w' kj j d f r.1.2.1 r.1.2.2 ∧ Fr (MJ k kj) L w L' w'

theorem fr_set {L : Lab} {w : World} {j : Nat} {r : Role} (kj : Nat) (h : L j = some (kj, r)) (hL : Fresh L w) (o : Nat) (u : Value) : Fr (MA kj) L w L (w.setCell ⟨j, o, none⟩ u) :=
  Fr.setCell (M := MA kj) (p := ⟨j, o, none⟩) (Fr.refl hL) (Or.inr ⟨(kj, r), h, rfl⟩) u

theorem na' {k k' : Nat} (h : k ≠ k') : ∀ r, ¬ MA k (k', r) := fun _ hh => h hh.symm

set_option maxHeartbeats 1000000 in
theorem jsync_any {L : Lab} {w : World} {k kj j d : Nat} {s : St} {a : List (List UInt8)} {bad : Bool} (f : Int) (hk : k ≠ kj) (hL : Fresh L w) (hd : DAt L w k d s) (hj : JAt L w kj j d f a bad) (hi : Inv s) (hf : isI64 f) :
    Calls Try.prog 31 #[.pointer (some ⟨j, 0, none⟩)] w (JPost L w k kj j d f (((jsync s f bad).1.1, a, (jsync s f bad).1.2), (jsync s f bad).2)) := by
  have hj' := hj
  obtain ⟨rv, a1, a2, a3⟩ := hj
  have c0 := blk_cell a2 0
  have c1 := blk_cell a2 1
  have c4 := blk_cell a2 4
  simp [jcells] at c0 c1 c4
  cases bad
  · go_enter Try.func31, Try.ntmps31
    go_wp2_with fail
    go_still_tail 8, (by kernel_rfl)
    change wpList _ _ _ _ _ w.drew
    have f0 : Fr (fun _ => False) L w L w.drew := (Fr.refl hL).drew
    have d0 := hd.keep hL f0 (fun _ hh => hh)
    have j0 := hj'.keep hL f0 (fun _ hh => hh)
    go_wp2_with fail
    refine (Sync_any f f0.fresh d0 hi hf).mono ?_
    rintro e w1 ⟨rfl, L1, d1, f1⟩
    have j1 := j0.keep f0.fresh f1 (na' hk)
    obtain ⟨s1, hs1⟩ : ∃ s1, s1 = s.sync f := ⟨_, rfl⟩
    rw [← hs1] at d1 ⊢
    have j2 := j1.setBad (s1.2 != 0)
    obtain ⟨rv1, b1, b2, b3⟩ := j1
    have q4 := blk_free b2 4
    have q0 := blk_cell b2 4
    have fr1 : Fr (MJ k kj) L w L1 (w1.setCell ⟨j, 4, none⟩ (.bool (s1.2 != 0))) := ((f0.mono (fun _ hh => hh.elim)).trans (f1.mono (M' := MJ k kj) mj0)).trans ((fr_set kj b1 f1.fresh 4 (.bool (s1.2 != 0))).mono mj1)
    have dd : DAt L1 (w1.setCell ⟨j, 4, none⟩ (.bool (s1.2 != 0))) k d s1.1 := d1.keep f1.fresh (fr_set kj b1 f1.fresh 4 (.bool (s1.2 != 0))) (na hk)
    have hjs : jsync s f false = ((s1.1, (s1.2 != 0)), s1.2) := by unfold jsync; rw [hs1]; simp [bne, BEq.beq]
    have HH := Lib.hid (And.intro j2 (And.intro fr1 (And.intro dd hjs)))
    clear j2 fr1 dd hjs hs1
    obtain ⟨sx, x⟩ := s1
    simp [jcells] at q0
    go_wp2_with fail
    go_ret
    rw [HH.out.2.2.2]
    exact ⟨rfl, L1, HH.out.2.2.1, HH.out.1, HH.out.2.1⟩
  · go_enter Try.func31, Try.ntmps31
    go_wp2_with fail
    go_ret
    exact ⟨rfl, L, hd, hj', Fr.refl hL⟩

set_option maxHeartbeats 400000 in
theorem jlen_any {L : Lab} {w : World} {kj j d : Nat} {f : Int} {a : List (List UInt8)} {bad : Bool} (hj : JAt L w kj j d f a bad) : Calls Try.prog 53 #[.pointer (some ⟨j, 0, none⟩)] w fun e w' => e = .returned (.int .i64 (a.length : Nat)) ∧ w = w' := by
  obtain ⟨rv, a1, a2, a3⟩ := hj
  have c2 := blk_cell a2 2
  simp [jcells] at c2
  obtain ⟨A, c, rfl⟩ : ∃ A c, rv = .slice A a.length c := by
    rcases a3.1.2 with ⟨rfl, h0⟩ | ⟨g, c, _, rfl, _⟩
    · exact ⟨none, 0, by rw [h0]⟩
    · exact ⟨_, c, rfl⟩
  go_enter Try.func53, Try.ntmps53
  go_wp2_with fail
  go_ret
  exact ⟨rfl, rfl⟩

def jget (a : List (List UInt8)) (i : Int) : List UInt8 := if i < 0 ∨ (a.length : Int) ≤ i then [] else a.getD i.toNat []

theorem Sl.cellS {L : Lab} {w : World} {a : List (List UInt8)} {A : Option Addr} {c : Nat} {t : Nat × Role} (h : Sl L w 9 1 (.slice A a.length c) a.length (a.map strV) t) (k : Nat) (hk : k < a.length) : ∃ g, A = some ⟨g, 0, none⟩ ∧ L g = some t ∧ g < w.heap.size ∧ w.cell? ⟨g, k, none⟩ = some (.string (ba (a.getD k []))) := by
  have h1 := h.1
  rcases h.1.2 with ⟨e, h0⟩ | ⟨g, c', _, e, _, hg, _⟩
  · omega
  · injection e with e1 _ e2
    subst e1
    subst e2
    refine ⟨g, rfl, h.2 g rfl, (Array.getElem?_eq_some_iff.1 hg).1, ?_⟩
    rw [World.ownsRow.cellAt h1 k (by omega), List.getElem?_map, List.getElem?_eq_getElem hk, List.getD_eq_getElem?_getD, List.getElem?_eq_getElem hk]
    rfl

set_option maxHeartbeats 400000 in
theorem jget_any {L : Lab} {w : World} {kj j d : Nat} {f : Int} {a : List (List UInt8)} {bad : Bool} (hj : JAt L w kj j d f a bad) (i : Int) (hi : isI64 i) : Calls Try.prog 54 #[.pointer (some ⟨j, 0, none⟩), .int .i64 i] w fun e w' => e = .returned (.string (ba (jget a i))) ∧ w = w' := by
  obtain ⟨rv, a1, a2, a3⟩ := hj
  have c2 := blk_cell a2 2
  simp [jcells] at c2
  obtain ⟨A, c, rfl⟩ : ∃ A c, rv = .slice A a.length c := by
    rcases a3.1.2 with ⟨rfl, h0⟩ | ⟨g, c, _, rfl, _⟩
    · exact ⟨none, 0, by rw [h0]⟩
    · exact ⟨_, c, rfl⟩
  by_cases h0 : i < 0
  · have HG : Hid (jget a i = []) := show _ = _ by unfold jget; rw [if_pos (Or.inl h0)]
    go_enter Try.func54, Try.ntmps54
    go_wp2_with fail
    go_ret
    rw [HG.out]
    exact ⟨rfl, rfl⟩
  · by_cases h1 : (a.length : Int) ≤ i
    · have HG : Hid (jget a i = []) := show _ = _ by unfold jget; rw [if_pos (Or.inr h1)]
      go_enter Try.func54, Try.ntmps54
      go_wp2_with fail
      go_ret
      rw [HG.out]
      exact ⟨rfl, rfl⟩
    · obtain ⟨k, rfl⟩ := Int.eq_ofNat_of_zero_le (show 0 ≤ i by omega)
      have HG : Hid (jget a (k : Int) = a.getD k []) := show _ = _ by unfold jget; rw [if_neg (by omega)]; rfl
      obtain ⟨g, rfl, _, _, hc⟩ := a3.cellS k (by omega)
      go_enter Try.func54, Try.ntmps54
      go_wp2_with fail
      go_ret
      rw [HG.out]
      exact ⟨rfl, rfl⟩

end Go.Proofs.Ytgocnjiabfmdpaa

namespace Go.Proofs.Ytgocnjiabfmdpaa
set_option maxRecDepth 8000
open Go.RowKit Wire

theorem own_full {w : World} {B g n : Nat} {l : List Value} (hB : B ≤ g) (hg : w.heap[g]? = some (.cells l.toArray 9 (0, 0))) (hn : l.length = n) (hm : n ≤ maxLen) : w.ownsRow B 9 1 (.slice (some ⟨g, 0, none⟩) n n) n l :=
  ⟨by rw [hn, Nat.mul_one], .inr ⟨g, n, l.toArray, rfl, hB, hg, Nat.le_refl _, hm, by rw [List.size_toArray, hn, Nat.mul_one], by rw [List.toList_toArray, Nat.mul_one, ← hn, List.take_length]⟩⟩

set_option maxHeartbeats 1000000 in
theorem jall_any {L : Lab} {w : World} {kj j d : Nat} {f : Int} {a : List (List UInt8)} {bad : Bool} (hj : JAt L w kj j d f a bad) (hlen : a.length ≤ 10000000) :
    Calls Try.prog 42 #[.pointer (some ⟨j, 0, none⟩)] w fun e w' => ∃ v, e = .returned v ∧ OwnS w' w.heap.size v a ∧ Below w.heap.size w w' := by
  have hjl := hj.lt
  obtain ⟨rv, a1, a2, a3⟩ := hj
  obtain ⟨i0, hi, hz0, hz1, hz2⟩ := info_parts Try.info9
  have hinfo : (Try.prog.info? 9).map (·.size) = some 1 := by rw [hi]; simp [hz1]
  obtain ⟨A, c, rfl⟩ : ∃ A c, rv = .slice A a.length c := by
    rcases a3.1.2 with ⟨rfl, h0⟩ | ⟨g, c, _, rfl, _⟩
    · exact ⟨none, 0, by rw [h0]⟩
    · exact ⟨_, c, rfl⟩
  obtain ⟨M, hM⟩ : ∃ M, M = (madeCells (Value.string ByteArray.empty).cells (((a.length : Nat) : Int).toNat * i0.size)).toList := ⟨_, rfl⟩
  have hMs : M.length = a.length := by rw [hM, Array.length_toList, size_madeCells, hz1]; simp
  have hmk : (Instr.makeSlice 57 (.int .i64 (a.length : Int)) (.int .i64 (a.length : Int))).run Try.prog w = .ok (.slice (some ⟨w.heap.size, 0, none⟩) a.length a.length) (w.alloc (.cells M.toArray 9)) := by
    have h := run_make (P := Try.prog) w 57 9 i0 (.string ByteArray.empty) Try.underlying57 hi hz0 .i64 .i64 (a.length : Int) (a.length : Int) (by omega) (by omega) (by rw [hz2]; omega) (by omega)
    rw [hM, Array.toArray_toList]
    simpa using h
  clear hM
  have al2 := blk_alloc a2 (.cells M.toArray 9)
  have c2 := blk_cell a2 2
  have d2 := blk_cell al2 2
  simp [jcells] at c2 d2
  have hsrc : ∀ ii u, (a.map strV)[ii]? = some u → ∃ g, A = some ⟨g, 0, none⟩ ∧ (w.alloc (.cells M.toArray 9)).cell? ((⟨g, 0, none⟩ : Addr).add ii) = some u := fun ii u hu => by
    have hii : ii < a.length := by have := (List.getElem?_eq_some_iff.1 hu).1; simpa using this
    obtain ⟨g, rfl, _, hgl, hc⟩ := a3.cellS ii hii
    refine ⟨g, rfl, ?_⟩
    have e : (⟨g, 0, none⟩ : Addr).add ii = ⟨g, ii, none⟩ := by unfold Addr.add; split <;> simp_all
    rw [e, alloc_cell hc]
    rw [List.getElem?_map, List.getElem?_eq_getElem hii] at hu
    rw [List.getD_eq_getElem?_getD, List.getElem?_eq_getElem hii]
    exact hu
  have hpos : 0 < (a.map strV).length → some (⟨w.heap.size, 0, none⟩ : Addr) = some ⟨w.heap.size, 0, none⟩ ∧ ∃ ad, A = some ad ∧ ∀ ii u, (a.map strV)[ii]? = some u → (w.alloc (.cells M.toArray 9)).cell? (ad.add ii) = some u := fun h0 => ⟨rfl, by
    obtain ⟨u, hu⟩ : ∃ u, (a.map strV)[0]? = some u := ⟨_, List.getElem?_eq_getElem h0⟩
    obtain ⟨g, rfl, _⟩ := hsrc 0 u hu
    refine ⟨_, rfl, fun ii v hv => ?_⟩
    obtain ⟨g', e, h⟩ := hsrc ii v hv
    injection e with e
    rw [e]; exact h⟩
  have h1c : ∀ v ∈ a.map strV, v.oneCell' = true := fun v hv => by obtain ⟨c, _, rfl⟩ := List.mem_map.1 hv; rfl
  have hmin : (a.map strV).length = Nat.min a.length a.length := by rw [List.length_map, show Nat.min a.length a.length = a.length from Nat.min_self _]
  have hfit : 0 + (a.map strV).length ≤ M.length := by rw [List.length_map]; omega
  have HS := Lib.hid (And.intro hpos (And.intro h1c (And.intro hmin hfit)))
  clear hsrc hpos h1c hmin hfit
  go_enter Try.func42, Try.ntmps42
  go_wp2_with (with_reducible (refine wpList_copy_splice rfl (.tmp 10) (.tmp 14) 57 57 rfl 9 Try.underlying57 hinfo (some ⟨w.heap.size, 0, none⟩) A a.length a.length a.length c rfl rfl w.heap.size 0 M 9 (heap_alloc_new w _) (a.map strV) HS.out.2.2.1 HS.out.1 HS.out.2.2.2 HS.out.2.1 w.heap.size w ((Below.refl _ w).alloc (Nat.le_refl _) _) (Nat.le_refl _) ?_; intro w2 hg2 hb2))

  go_ret
  refine ⟨_, rfl, own_full (Nat.le_refl _) (by
    have h := hg2.out
    have e : splice M 0 (a.map strV) = a.map strV := by
      unfold splice
      rw [List.take_zero, List.nil_append, List.drop_of_length_le (by simp; omega), List.append_nil]
    rw [e] at h
    exact h) (by simp) (by unfold maxLen; omega), hb2⟩

end Go.Proofs.Ytgocnjiabfmdpaa

namespace Go.Proofs.Ytgocnjiabfmdpaa
set_option maxRecDepth 8000
open Go.RowKit Wire

def japp (s : St) (f : Int) (a : List (List UInt8)) (bad : Bool) (v : List UInt8) : (St × List (List UInt8) × Bool) × Int :=
  if bad = true then ((s, a, true), 7)
  else if 20000 < v.length then ((s, a, false), 3)
  else if 1048576 < (jforms a).length + (jform v).length then ((s, a, false), 6)
  else if (s.write f (jforms a).length (jform v)).2 ≠ 0 then (((s.write f (jforms a).length (jform v)).1, a, true), (s.write f (jforms a).length (jform v)).2)
  else (((s.write f (jforms a).length (jform v)).1, a ++ [v], false), 0)

theorem japp_bad (s : St) (f : Int) (a : List (List UInt8)) (v : List UInt8) : japp s f a true v = ((s, a, true), 7) := by unfold japp; rw [if_pos rfl]
theorem japp_long {s : St} {f : Int} {a : List (List UInt8)} {v : List UInt8} (h : 20000 < v.length) : japp s f a false v = ((s, a, false), 3) := by unfold japp; rw [if_neg (by simp), if_pos h]
theorem japp_full {s : St} {f : Int} {a : List (List UInt8)} {v : List UInt8} (h : ¬ 20000 < v.length) (h2 : 1048576 < (jforms a).length + (jform v).length) : japp s f a false v = ((s, a, false), 6) := by unfold japp; rw [if_neg (by simp), if_neg h, if_pos h2]
theorem japp_fail {s : St} {f : Int} {a : List (List UInt8)} {v : List UInt8} {r : St × Int} (h : ¬ 20000 < v.length) (h2 : ¬ 1048576 < (jforms a).length + (jform v).length) (hr : s.write f (jforms a).length (jform v) = r) (h3 : r.2 ≠ 0) : japp s f a false v = ((r.1, a, true), r.2) := by
  unfold japp; rw [if_neg (by simp), if_neg h, if_neg h2, hr, if_pos h3]
theorem japp_ok {s : St} {f : Int} {a : List (List UInt8)} {v : List UInt8} {r : St × Int} (h : ¬ 20000 < v.length) (h2 : ¬ 1048576 < (jforms a).length + (jform v).length) (hr : s.write f (jforms a).length (jform v) = r) (h3 : r.2 = 0) : japp s f a false v = ((r.1, a ++ [v], false), 0) := by
  unfold japp; rw [if_neg (by simp), if_neg h, if_neg h2, hr, if_neg (by simpa using h3)]

/-- The record is appended to the slice, and both fields are stored. -/
theorem jat_push {L : Lab} {w wA w3 : World} {kj j d : Nat} {f : Int} {a : List (List UInt8)} {rv : Value} {v : List UInt8} {g cap : Nat} (hL : Fresh L w) (a1 : L j = some (kj, .disk)) (a2 : w.heap[j]? = some (.cells (jcells d f rv a false) 101 (0, 0)))
    (a3 : Sl L w 9 1 rv a.length (a.map strV) (kj, .list)) (fA : Fr (fun _ => False) L w L wA) (hown : w3.ownsRow 0 9 1 (.slice (some ⟨g, 0, none⟩) (a.length + 1) cap) (a.length + 1) (a.map strV ++ [.string (ba v)]))
    (hg : wA.grownBy w3 rv.ownBlock) (hat : rv.ownBlock = some g ∨ g = wA.heap.size) :
    w3.heap[j]? = some (.cells (jcells d f rv a false) 101 (0, 0)) ∧ ∃ L', JAt L' ((w3.setCell ⟨j, 2, none⟩ (.slice (some ⟨g, 0, none⟩) (a.length + 1) cap)).setCell ⟨j, 3, none⟩ (.int .i64 ((jforms (a ++ [v])).length : Nat))) kj j d f (a ++ [v]) false ∧
      Fr (MA kj) L w L' ((w3.setCell ⟨j, 2, none⟩ (.slice (some ⟨g, 0, none⟩) (a.length + 1) cap)).setCell ⟨j, 3, none⟩ (.int .i64 ((jforms (a ++ [v])).length : Nat))) := by
  have hjw := Fr.lt_of_lab hL a1
  have hjr : some j ≠ rv.ownBlock := fun e => by
    have h1 := a3.2 j e.symm
    rw [a1] at h1; cases h1
  have h3 : w3.heap[j]? = some (.cells (jcells d f rv a false) 101 (0, 0)) := (hg.block j (Nat.lt_of_lt_of_le hjw fA.size) hjr).trans ((fA.keeps hL a1 (fun hh => hh)).trans a2)
  refine ⟨h3, ?_⟩
  have f3 : Fr (MA kj) L w L w3 := (fA.mono (fun _ hh => hh.elim)).trans (Fr.grown (M := MA kj) fA.fresh hg (fun g' hg' _ => ⟨(kj, .list), a3.2 g' hg', rfl⟩))
  have hgl := (World.ownsRow.lt hown g rfl).2
  have hgj : g ≠ j := fun e => by
    subst e
    rcases hat with h | h
    · exact hjr h.symm
    · have := fA.size; omega
  have key : ∀ L', Fr (MA kj) L w L' w3 → L' g = some (kj, .list) → ∃ L', JAt L' ((w3.setCell ⟨j, 2, none⟩ (.slice (some ⟨g, 0, none⟩) (a.length + 1) cap)).setCell ⟨j, 3, none⟩ (.int .i64 ((jforms (a ++ [v])).length : Nat))) kj j d f (a ++ [v]) false ∧
      Fr (MA kj) L w L' ((w3.setCell ⟨j, 2, none⟩ (.slice (some ⟨g, 0, none⟩) (a.length + 1) cap)).setCell ⟨j, 3, none⟩ (.int .i64 ((jforms (a ++ [v])).length : Nat))) := fun L' fr hgL => by
    have hj' := fr.lab_of hL a1
    have s1 := fr_set kj hj' fr.fresh 2 (.slice (some ⟨g, 0, none⟩) (a.length + 1) cap)
    have s2 := fr_set kj hj' s1.fresh 3 (.int .i64 ((jforms (a ++ [v])).length : Nat))
    refine ⟨L', ⟨.slice (some ⟨g, 0, none⟩) (a.length + 1) cap, hj', ?_, ⟨?_, fun g' hg' => ?_⟩⟩, (fr.trans s1).trans s2⟩
    · rw [blk_set (blk_set h3 2 _) 3]; rfl
    · rw [List.map_append, List.length_append]
      exact ownsRow_of_blocks hown (fun g' hg' => by
        have : g = g' := by simpa [Value.ownBlock] using hg'
        subst this
        exact (Below.heap_setCell _ _ _ _ (by simpa using hgj)).trans (Below.heap_setCell _ _ _ _ (by simpa using hgj)))
    · have : g = g' := by simpa [Value.ownBlock] using hg'
      subst this; exact hgL
  rcases hat with h | h
  · exact key L f3 (a3.2 g h)
  · exact key (setL L g (kj, .list)) (f3.label (by have := fA.size; omega) hgl _) (setL_same _ _ _)

set_option maxRecDepth 100000 in
set_option maxHeartbeats 4000000 in
theorem japp_any {L : Lab} {w : World} {k kj j d : Nat} {s : St} {a : List (List UInt8)} {bad : Bool} (f : Int) (t : ByteArray) (hk : k ≠ kj) (hL : Fresh L w) (hd : DAt L w k d s) (hj : JAt L w kj j d f a bad) (hi : Inv s) (hf : isI64 f) (ht : t.size ≤ 900000) (hal : (jforms a).length ≤ 20000000) :
    Calls Try.prog 29 #[.pointer (some ⟨j, 0, none⟩), .string t] w (JPost L w k kj j d f (japp s f a bad (bts t))) := by
  have hj' := hj
  obtain ⟨rv, a1, a2, a3⟩ := hj
  have c0 := blk_cell a2 0
  have c1 := blk_cell a2 1
  have c3 := blk_cell a2 3
  have c4 := blk_cell a2 4
  simp [jcells] at c0 c1 c3 c4
  cases bad
  · by_cases hlong : 20000 < t.size
    · have HJ := Lib.hid (japp_long (s := s) (f := f) (a := a) (v := bts t) (by rw [bts_len]; exact hlong))
      go_enter Try.func29, Try.ntmps29
      go_wp2_with fail
      go_ret
      rw [HJ.out]
      exact ⟨rfl, L, hd, hj', Fr.refl hL⟩
    · have hz : (ba (jform (bts t))).size = (jform (bts t)).length := ba_size _
      have hl1 := jform_len_le (bts t) (by rw [bts_len]; omega)
      rw [bts_len] at hl1
      by_cases hfull : 1048576 < (jforms a).length + (jform (bts t)).length
      · have HJ := Lib.hid (japp_full (s := s) (f := f) (a := a) (v := bts t) (by rw [bts_len]; exact hlong) hfull)
        obtain ⟨F, hF⟩ : ∃ F, F = jform (bts t) := ⟨_, rfl⟩
        have cf := form_any t w (by omega)
        rw [← hF] at hz hl1 hfull cf
        clear hF
        go_enter Try.func29, Try.ntmps29
        go_wp2_with fail
        refine cf.mono ?_
        rintro e w1 ⟨rfl, hb1⟩
        have f1 : Fr (MJ k kj) L w L w1 := Fr.below hL hb1
        have c0 := blk_cell ((hb1.block j hj'.lt).trans a2) 3
        simp [jcells] at c0
        go_wp2_with fail
        go_ret
        rw [HJ.out]
        have f2 : Fr (fun _ => False) L w L w1 := Fr.below hL hb1
        exact ⟨rfl, L, hd.keep hL f2 (fun _ hh => hh), hj'.keep hL f2 (fun _ hh => hh), f1⟩
      · obtain ⟨F, hF⟩ : ∃ F, F = jform (bts t) := ⟨_, rfl⟩
        have cf := form_any t w (by omega)
        have hnot : ¬ 20000 < (bts t).length := by rw [bts_len]; exact hlong
        have HF := Lib.hid (And.intro hF (And.intro hfull hnot))
        rw [← hF] at hz hl1 hfull cf
        clear hF hnot
        go_enter Try.func29, Try.ntmps29
        go_wp2_with fail
        refine cf.mono ?_
        rintro e w1 ⟨rfl, hb1⟩
        have f1 : Fr (fun _ => False) L w L w1 := Fr.below hL hb1
        have d1 := hd.keep hL f1 (fun _ hh => hh)
        have j1 := hj'.keep hL f1 (fun _ hh => hh)
        have g2 := (f1.keeps hL a1 (fun hh => hh)).trans a2
        have e0 := blk_cell g2 0
        have e1 := blk_cell g2 1
        have e3 := blk_cell g2 3
        simp [jcells] at e0 e1 e3
        go_wp2_with fail
        go_still_tail 13, (by kernel_rfl)
        change wpList _ _ _ _ _ w1.drew
        have f2 : Fr (fun _ => False) L w1 L w1.drew := (Fr.refl f1.fresh).drew
        have d2 := d1.keep f1.fresh f2 (fun _ hh => hh)
        have j2 := j1.keep f1.fresh f2 (fun _ hh => hh)
        go_wp2_with fail
        refine (Write_any f ((jforms a).length : Nat) (ba F) f2.fresh d2 hi hf (by unfold isI64; omega) (by omega)).mono ?_
        rintro e w3 ⟨rfl, L3, d3, f3⟩
        rw [ba_toList] at d3 ⊢
        have j3 := j2.keep f2.fresh f3 (na' hk)
        obtain ⟨r, hr⟩ : ∃ r, s.write f ((jforms a).length : Nat) F = r := ⟨_, rfl⟩
        rw [hr] at d3 ⊢
        have fr3 : Fr (MJ k kj) L w L3 w3 := ((f1.trans f2).mono (fun _ hh => hh.elim)).trans (f3.mono mj0)
        by_cases hx : r.2 = 0
        · have HJ := Lib.hid (japp_ok (a := a) (v := bts t) HF.out.2.2 HF.out.2.1 (by rw [← HF.out.1]; exact hr) hx)
          obtain ⟨rv3, b1, b2, b3⟩ := j3
          have q2 := blk_cell b2 2
          simp [jcells] at q2
          obtain ⟨i0, hi0, hz0, hz1, hz2⟩ := info_parts Try.info9
          have hcnt := jforms_count a
          have HB := Lib.hid (And.intro b1 (And.intro b2 b3))
          have HLN : Hid (((jforms a).length : Int) + (F.length : Int) = ((jforms (a ++ [bts t])).length : Nat)) := show _ = _ by rw [jforms_snoc, List.length_append, HF.out.1]; rfl
          have hown3 := b3.1
          clear b1 b2 b3 hr
          obtain ⟨sx, x⟩ := r
          simp only at hx
          subst hx
          go_wp2_with fail
          go_region_law (first
            | (go_simp; go_at_call 73; refine (clone_any t _ (by omega)).mono ?_; rintro e w4 ⟨rfl, hb4⟩; have z4 := blk_cell ((hb4.block j (Fr.lt_of_lab f3.fresh HB.out.1)).trans HB.out.2.1) 2; simp [jcells] at z4; have z4b := alloc_cell z4 (.cells #[.string t] 9); have hown4 := (ownsRow_of_blocks (w1 := w4) hown3 (fun g hg => hb4.block g (World.ownsRow.lt hown3 g hg).2)).alloc (.cells #[.string t] 9); have HA4 : Hid (Fr (fun _ => False) L3 w3 L3 (w4.alloc (.cells #[.string t] 9))) := (((Fr.refl f3.fresh).drew).trans (Fr.below (M := fun _ => False) (w := w3.drew) f3.fresh hb4)).alloc _; clear hb4)
            | (refine step_append_lies _ rfl (.tmp 48) (.tmp 51) 57 rfl 0 9 i0 (.string ByteArray.empty) 1 16 Try.underlying57 hi0 hz0 hz1 hz2 rfl (by decide) rv3 a.length (a.map strV) (by simp [Act.eval]) hown4 ⟨w4.heap.size, 0, none⟩ 1 1 [.string t] (by simp [Act.eval]) rfl (World.news_of_block (heap_alloc_new w4 _)) (by simp [Value.oneCell']) (by omega) (by unfold maxLen; omega) (by omega) (by omega) _ rfl ?_; intro g cap w5 hown5 hg5 hat5 hlt5; have H5 := Lib.hid (jat_push (v := bts t) f3.fresh HB.out.1 HB.out.2.1 HB.out.2.2 (HA4.out) (by rw [show ba (bts t) = t from ba_of t]; exact hown5) hg5 hat5); have q5 := blk_cell H5.out.1 2; have r5 := blk_free H5.out.1 2; simp [jcells] at q5; have q6 := blk_cell (blk_set H5.out.1 2 (.slice (some ⟨g, 0, none⟩) (a.length + 1) cap)) 3; have r6 := blk_free (blk_set H5.out.1 2 (.slice (some ⟨g, 0, none⟩) (a.length + 1) cap)) 3; simp [jcells] at q6; clear hown5 hg5 hat5))
          all_goals
            go_wp2_with fail
            go_ret
            rw [HJ.out, HLN.out]
            obtain ⟨h5, L5, h6, h7⟩ := H5.out
            exact ⟨rfl, L5, d3.keep f3.fresh h7 (na hk), h6, fr3.trans (h7.mono mj1)⟩
        · have HJ := Lib.hid (japp_fail (a := a) (v := bts t) HF.out.2.2 HF.out.2.1 (by rw [← HF.out.1]; exact hr) hx)
          have jb := j3.setBad true
          obtain ⟨rv3, b1, b2, b3⟩ := j3
          have fs := fr_set kj b1 f3.fresh 4 (.bool true)
          have q4 := blk_free b2 4
          have q0 := blk_cell b2 4
          have ds := d3.keep f3.fresh fs (na hk)
          have HH := Lib.hid (And.intro jb (And.intro (fr3.trans (fs.mono mj1)) ds))
          clear jb fs ds hr
          obtain ⟨sx, x⟩ := r
          simp [jcells] at q0
          have hb : ((x : Int) != 0) = true := bne_iff_ne.2 hx
          simp only at hx
          go_wp2_with fail
          go_ret
          rw [HJ.out]
          exact ⟨rfl, L3, HH.out.2.2, HH.out.1, HH.out.2.1⟩
  · have HJ := Lib.hid (japp_bad s f a (bts t))
    go_enter Try.func29, Try.ntmps29
    go_wp2_with fail
    go_ret
    rw [HJ.out]
    exact ⟨rfl, L, hd, hj', Fr.refl hL⟩

end Go.Proofs.Ytgocnjiabfmdpaa

namespace Go.Proofs.Ytgocnjiabfmdpaa
set_option maxRecDepth 8000
open Go.RowKit Wire

/-- What Open makes of the disk. -/
def jopen (s : St) (f : Int) : (St × Option (List (List UInt8))) × Int :=
  if isFile f = false then ((s, none), 1)
  else if (s.sync f).2 ≠ 0 then (((s.sync f).1, none), (s.sync f).2)
  else if (jforms (jrecs ((s.sync f).1.now f))).length < ((s.sync f).1.now f).length then
    (if ((s.sync f).1.trunc f (jforms (jrecs ((s.sync f).1.now f))).length).2 ≠ 0 then ((((s.sync f).1.trunc f (jforms (jrecs ((s.sync f).1.now f))).length).1, none), ((s.sync f).1.trunc f (jforms (jrecs ((s.sync f).1.now f))).length).2)
     else ((((s.sync f).1.trunc f (jforms (jrecs ((s.sync f).1.now f))).length).1, some (jrecs ((s.sync f).1.now f))), 0))
  else (((s.sync f).1, some (jrecs ((s.sync f).1.now f))), 0)

theorem jopen_arg {s : St} {f : Int} (h : isFile f = false) : jopen s f = ((s, none), 1) := by unfold jopen; rw [if_pos h]
theorem jopen_sync {s : St} {f : Int} {r : St × Int} (h : isFile f = true) (hr : s.sync f = r) (h2 : r.2 ≠ 0) : jopen s f = ((r.1, none), r.2) := by
  unfold jopen; rw [if_neg (by simp [h]), hr, if_pos h2]
theorem jopen_whole {s s1 : St} {f : Int} (h : isFile f = true) (hr : s.sync f = (s1, 0)) (h2 : ¬ (jforms (jrecs (s1.now f))).length < (s1.now f).length) : jopen s f = ((s1, some (jrecs (s1.now f))), 0) := by
  unfold jopen; rw [if_neg (by simp [h]), hr, if_neg (by simp), if_neg h2]
theorem jopen_fail {s s1 : St} {f : Int} {r : St × Int} (h : isFile f = true) (hr : s.sync f = (s1, 0)) (h2 : (jforms (jrecs (s1.now f))).length < (s1.now f).length) (ht : s1.trunc f (jforms (jrecs (s1.now f))).length = r) (h3 : r.2 ≠ 0) : jopen s f = ((r.1, none), r.2) := by
  unfold jopen; rw [if_neg (by simp [h]), hr, if_neg (by simp), if_pos h2, ht, if_pos h3]
theorem jopen_cut {s s1 : St} {f : Int} {r : St × Int} (h : isFile f = true) (hr : s.sync f = (s1, 0)) (h2 : (jforms (jrecs (s1.now f))).length < (s1.now f).length) (ht : s1.trunc f (jforms (jrecs (s1.now f))).length = r) (h3 : r.2 = 0) : jopen s f = ((r.1, some (jrecs (s1.now f))), 0) := by
  unfold jopen; rw [if_neg (by simp [h]), hr, if_neg (by simp), if_pos h2, ht, if_neg (by simpa using h3)]

/-- Behind a sync that was in order the whole file can be read. -/
theorem sync_read {s s1 : St} {f : Int} (h : s.sync f = (s1, 0)) : s1.read f 0 (s1.size f) = (s1.now f, 0) ∧ s1.down = false := by
  unfold St.sync at h
  split at h
  · injection h with _ h; cases h
  · split at h
    · rename_i hr
      injection h with _ h
      exact absurd h hr
    · split at h
      · injection h with _ h; cases h
      · rename_i hh hr hl
        have hr : s.count.ready f = 0 := Classical.byContradiction hr
        injection h with h _
        subst h
        obtain ⟨h1, h2⟩ := ready_zero hr
        have hd : (s.count.synced f).down = false := h1
        refine ⟨?_, hd⟩
        have hz : (s.count.synced f).ready f = 0 := by unfold St.ready; rw [hd, h2]; rfl
        unfold St.read St.size part
        rw [if_neg (by simpa using hz), h2, if_pos rfl, if_neg (by omega)]
        simp

def OPost (L : Lab) (w : World) (k kj d : Nat) (f : Int) (r : (St × Option (List (List UInt8))) × Int) (e : Ending) (w' : World) : Prop :=
  ∃ L', DAt L' w' k d r.1.1 ∧ Fr (MA k) L w L' w' ∧
    ((r.1.2 = none ∧ e = .returned (.tuple #[.pointer none, .int .i64 r.2])) ∨ ∃ a j, r.1.2 = some a ∧ e = .returned (.tuple #[.pointer (some ⟨j, 0, none⟩), .int .i64 r.2]) ∧ JAt L' w' kj j d f a false)

theorem own_label {M : Nat × Role → Prop} {L L1 : Lab} {w w1 : World} {B size n : Nat} {e : TypeId} {v : Value} {xs : List Value} (t : Nat × Role) (h : Fr M L w L1 w1) (hown : w1.ownsRow B e size v n xs) (hB : w.heap.size ≤ B) : ∃ L2, Fr M L w L2 w1 ∧ Sl L2 w1 e size v n xs t := by
  have h0 : w1.ownsRow 0 e size v n xs := ⟨hown.1, by
    rcases hown.2 with h | ⟨g, cap, cur, e1, _, r⟩
    · exact .inl h
    · exact .inr ⟨g, cap, cur, e1, Nat.zero_le _, r⟩⟩
  cases hv : v.ownBlock with
  | none => exact ⟨L1, h, h0, fun g hg => by rw [hv] at hg; cases hg⟩
  | some g =>
    have hl := World.ownsRow.lt hown g hv
    exact ⟨setL L1 g t, h.label (by omega) hl.2 t, h0, fun g' hg' => by rw [hv] at hg'; injection hg' with hg'; subst hg'; exact setL_same _ _ _⟩

theorem jat_new {L : Lab} {w : World} {k kj d : Nat} {f : Int} {a : List (List UInt8)} {rv : Value} {s : St} {cs : Array Value} (hcs : cs = jcells d f rv a false) (hL : Fresh L w) (hd : DAt L w k d s) (hs : Sl L w 9 1 rv a.length (a.map strV) (kj, .list)) :
    ∃ L', DAt L' (w.alloc (.cells cs 101)) k d s ∧ JAt L' (w.alloc (.cells cs 101)) kj w.heap.size d f a false ∧ Fr (fun _ => False) L w L' (w.alloc (.cells cs 101)) := by
  subst hcs
  have f1 : Fr (fun _ => False) L w (setL L w.heap.size (kj, .disk)) (w.alloc (.cells (jcells d f rv a false) 101)) := ((Fr.refl hL).alloc _).label (Nat.le_refl _) (by simp) _
  exact ⟨_, hd.keep hL f1 (fun _ hh => hh), ⟨rv, setL_same _ _ _, heap_alloc_new w _, hs.keep hL f1 (fun hh => hh)⟩, f1⟩

set_option maxRecDepth 100000 in
set_option maxHeartbeats 4000000 in
theorem jopen_any {L : Lab} {w : World} {k d : Nat} {s : St} (kj : Nat) (f : Int) (hk : k ≠ kj) (hL : Fresh L w) (hd : DAt L w k d s) (hi : Inv s) (hf : isI64 f) :
    Calls Try.prog 25 #[.pointer (some ⟨d, 0, none⟩), .int .i64 f] w (OPost L w k kj d f (jopen s f)) := by
  cases hfile : isFile f
  · have HJ := Lib.hid (jopen_arg (s := s) hfile)
    by_cases h0 : f < 0
    · clear hfile
      go_enter Try.func25, Try.ntmps25
      go_wp2_with fail
      go_ret2
      rw [HJ.out]
      exact ⟨L, hd, Fr.refl hL, Or.inl ⟨rfl, rfl⟩⟩
    · have h1 : 16 ≤ f := by unfold isFile at hfile; simp at hfile; omega
      clear hfile
      go_enter Try.func25, Try.ntmps25
      go_wp2_with fail
      go_ret2
      rw [HJ.out]
      exact ⟨L, hd, Fr.refl hL, Or.inl ⟨rfl, rfl⟩⟩
  · have hff := isFile_iff.1 hfile
    have h0 : ¬ f < 0 := by omega
    have h16 : f < 16 := by omega
    have HI := Lib.hid hfile
    clear hfile hff
    obtain ⟨r, hr⟩ : ∃ r, s.sync f = r := ⟨_, rfl⟩
    have his : Inv (s.sync f).1 := hi.sync f
    rw [hr] at his
    by_cases hx : r.2 = 0
    · obtain ⟨s1, x⟩ := r
      simp only at hx
      subst hx
      obtain ⟨hrd, hdn⟩ := sync_read hr
      have HR := Lib.hid (And.intro hr (And.intro hrd (And.intro hdn his)))
      have hcap := his.cap f
      clear hrd hdn his
      obtain ⟨T, hT⟩ : ∃ T, T = s1.now f := ⟨_, rfl⟩
      simp only at hcap
      rw [← hT] at hcap
      have hlen := recs_len T
      have hbT : (ba T).size = T.length := ba_size T
      have hsz : s1.size f = (T.length : Nat) := by unfold St.size; rw [if_pos HI.out, hT]
      have HT := Lib.hid (And.intro hT hsz)
      clear hT hsz
      have hsm : (ba T).size ≤ 20000000 := by rw [hbT]; omega
      have HS := Lib.hid (And.intro hsm hlen)
      obtain ⟨A, hA⟩ : ∃ A, A = jrecs T := ⟨_, rfl⟩
      have hPost : ∀ W e W', RecsPost W (bts (ba T)) e W' → ∃ v, e = .returned (.tuple #[v, .int .i64 ((jforms A).length : Nat)]) ∧ OwnS W' W.heap.size v A ∧ Below W.heap.size W W' := fun W e W' h => by
        rw [hA]; exact h
      have HP := Lib.hid (And.intro hA hPost)
      have hlen' := hlen
      rw [← hA] at hlen'
      clear hsm hlen hA hPost
      by_cases hcut : (jforms A).length < T.length
      · obtain ⟨q, hq⟩ : ∃ q, s1.trunc f (jforms A).length = q := ⟨_, rfl⟩
        by_cases hy : q.2 = 0
        · have HJ : Hid (jopen s f = ((q.1, some A), 0)) := show _ = _ by
            have := jopen_cut HI.out HR.out.1 (by rw [← HT.out.1, ← HP.out.1]; exact hcut) (by rw [← HT.out.1, ← HP.out.1]; exact hq) hy
            rw [← HT.out.1, ← HP.out.1] at this
            exact this
          have HQ := Lib.hid hq
          clear hq
          obtain ⟨sq, y⟩ := q
          simp only at hy
          subst hy
          go_enter Try.func25, Try.ntmps25
          go_wp2_with fail
          refine (Sync_any f hL hd hi hf).mono ?_
          rw [HR.out.1]
          rintro e w1 ⟨rfl, L1, d1, f1⟩
          go_wp2_with fail
          refine (size_any f hf d1).mono ?_
          rintro e w2 ⟨rfl, rfl⟩
          go_wp2_with fail
          refine (read_any f 0 (s1.size f) hf d1).mono ?_
          rw [HR.out.2.1, ← HT.out.1]
          rintro e w2 ⟨rfl, rfl⟩
          go_wp2_with fail
          refine (recordsOf_any (ba T) _ HS.out.1).mono ?_
          rintro e w2 hp
          obtain ⟨v, rfl, hown, hb2⟩ := HP.out.2 _ _ _ hp
          have f2 : Fr (fun _ => False) L1 w1 L1 w2 := Fr.below f1.fresh hb2
          obtain ⟨L2, f2, hsl⟩ := own_label (kj, .list) f2 hown (Nat.le_refl _)
          have d2 := d1.keep f1.fresh f2 (fun _ hh => hh)
          obtain ⟨vA, vm, vc, rfl⟩ := own_slice hsl.1
          go_wp2_with fail
          refine (Trunc_any f ((jforms A).length : Nat) f2.fresh d2 HR.out.2.2.2 hf).mono ?_
          rw [HQ.out]
          rintro e w3 ⟨rfl, L3, d3, f3⟩
          have hsl3 := hsl.keep f2.fresh f3 (na' hk _)
          go_wp2_with fail
          go_ret2
          rw [HJ.out]
          obtain ⟨L4, d4, j4, f4⟩ := jat_new (f := f) (cs := #[.pointer (some ⟨d, 0, none⟩), .int .i64 f, .slice vA vm vc, .int .i64 ((jforms A).length : Nat), .bool false]) rfl f3.fresh d3 hsl3
          exact ⟨L4, d4, ((f1.trans (f2.mono (fun _ hh => hh.elim))).trans f3).trans (f4.mono (fun _ hh => hh.elim)), Or.inr ⟨A, _, rfl, rfl, j4⟩⟩
        · have HJ : Hid (jopen s f = ((q.1, none), q.2)) := show _ = _ by
            exact jopen_fail HI.out HR.out.1 (by rw [← HT.out.1, ← HP.out.1]; exact hcut) (by rw [← HT.out.1, ← HP.out.1]; exact hq) hy
          have HQ := Lib.hid hq
          clear hq
          obtain ⟨sq, y⟩ := q
          simp only at hy
          have hb : ((y : Int) != 0) = true := bne_iff_ne.2 hy
          go_enter Try.func25, Try.ntmps25
          go_wp2_with fail
          refine (Sync_any f hL hd hi hf).mono ?_
          rw [HR.out.1]
          rintro e w1 ⟨rfl, L1, d1, f1⟩
          go_wp2_with fail
          refine (size_any f hf d1).mono ?_
          rintro e w2 ⟨rfl, rfl⟩
          go_wp2_with fail
          refine (read_any f 0 (s1.size f) hf d1).mono ?_
          rw [HR.out.2.1, ← HT.out.1]
          rintro e w2 ⟨rfl, rfl⟩
          go_wp2_with fail
          refine (recordsOf_any (ba T) _ HS.out.1).mono ?_
          rintro e w2 hp
          obtain ⟨v, rfl, hown, hb2⟩ := HP.out.2 _ _ _ hp
          have f2 : Fr (fun _ => False) L1 w1 L1 w2 := Fr.below f1.fresh hb2
          have d2 := d1.keep f1.fresh f2 (fun _ hh => hh)
          go_wp2_with fail
          refine (Trunc_any f ((jforms A).length : Nat) f2.fresh d2 HR.out.2.2.2 hf).mono ?_
          rw [HQ.out]
          rintro e w3 ⟨rfl, L3, d3, f3⟩
          go_wp2_with fail
          go_ret2
          rw [HJ.out]
          exact ⟨L3, d3, (f1.trans (f2.mono (fun _ hh => hh.elim))).trans f3, Or.inl ⟨rfl, rfl⟩⟩
      · have HJ : Hid (jopen s f = ((s1, some A), 0)) := show _ = _ by
          have := jopen_whole HI.out HR.out.1 (by rw [← HT.out.1, ← HP.out.1]; exact hcut)
          rw [← HT.out.1, ← HP.out.1] at this
          exact this
        go_enter Try.func25, Try.ntmps25
        go_wp2_with fail
        refine (Sync_any f hL hd hi hf).mono ?_
        rw [HR.out.1]
        rintro e w1 ⟨rfl, L1, d1, f1⟩
        go_wp2_with fail
        refine (size_any f hf d1).mono ?_
        rintro e w2 ⟨rfl, rfl⟩
        go_wp2_with fail
        refine (read_any f 0 (s1.size f) hf d1).mono ?_
        rw [HR.out.2.1, ← HT.out.1]
        rintro e w2 ⟨rfl, rfl⟩
        go_wp2_with fail
        refine (recordsOf_any (ba T) _ HS.out.1).mono ?_
        rintro e w2 hp
        obtain ⟨v, rfl, hown, hb2⟩ := HP.out.2 _ _ _ hp
        have f2 : Fr (fun _ => False) L1 w1 L1 w2 := Fr.below f1.fresh hb2
        obtain ⟨L2, f2, hsl⟩ := own_label (kj, .list) f2 hown (Nat.le_refl _)
        have d2 := d1.keep f1.fresh f2 (fun _ hh => hh)
        obtain ⟨vA, vm, vc, rfl⟩ := own_slice hsl.1
        go_wp2_with fail
        go_ret2
        rw [HJ.out]
        obtain ⟨L3, d3, j3, f3⟩ := jat_new (f := f) (cs := #[.pointer (some ⟨d, 0, none⟩), .int .i64 f, .slice vA vm vc, .int .i64 ((jforms A).length : Nat), .bool false]) rfl f2.fresh d2 hsl
        exact ⟨L3, d3, (f1.trans (f2.mono (fun _ hh => hh.elim))).trans (f3.mono (fun _ hh => hh.elim)), Or.inr ⟨A, _, rfl, rfl, j3⟩⟩
    · have HJ := Lib.hid (jopen_sync (s := s) HI.out hr hx)
      have HR := Lib.hid hr
      obtain ⟨sx, x⟩ := r
      simp only at hx
      have hb : ((x : Int) != 0) = true := bne_iff_ne.2 hx
      clear hr
      go_enter Try.func25, Try.ntmps25
      go_wp2_with fail
      refine (Sync_any f hL hd hi hf).mono ?_
      rw [HR.out]
      rintro e w1 ⟨rfl, L1, d1, f1⟩
      go_wp2_with fail
      go_ret2
      rw [HJ.out]
      exact ⟨L1, d1, f1, Or.inl ⟨rfl, rfl⟩⟩

end Go.Proofs.Ytgocnjiabfmdpaa
