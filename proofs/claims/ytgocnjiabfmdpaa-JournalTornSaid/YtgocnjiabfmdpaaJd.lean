/- A journal as it lies in memory; walks of Sync, Len, Get, All. -/
import Derived.Test.YtgocnjiabfmdpaaJc
import Derived.Test.YtgocnjiabfmdpaaDXg
import Derived.StillTailTactics
import Derived.Deep.QuietTactic
import Derived.BigQuiet
namespace Go.Proofs.Ytgocnjiabfmdpaa
set_option maxRecDepth 8000
open Go.RowKit Wire

def jcells (d : Nat) (f : Int) (rv : Value) (a : List (List UInt8)) (bad : Bool) : Array Value := #[.pointer (some ⟨d, 0, none⟩), .int .i64 f, rv, .int .i64 ((jforms a).length : Nat), .bool bad]

/-- The program's journal, number kj, at block j, over the disk at block d. -/
def JAt (L : Lab) (w : World) (kj j d : Nat) (f : Int) (a : List (List UInt8)) (bad : Bool) : Prop :=
  ∃ rv, L j = some (kj, .disk) ∧ w.heap[j]? = some (.cells (jcells d f rv a bad) 101 (0, 0)) ∧ Sl L w 9 1 rv a.length (a.map strV) (kj, .list)

def MJ (k kj : Nat) : Nat × Role → Prop := fun t => t.1 = k ∨ t.1 = kj
theorem mj0 {k kj : Nat} : ∀ t, MA k t → MJ k kj t := fun _ h => Or.inl h
theorem mj1 {k kj : Nat} : ∀ t, MA kj t → MJ k kj t := fun _ h => Or.inr h

section
variable {M : Nat × Role → Prop} {L L1 : Lab} {w w1 : World} {k kj j d : Nat} {f : Int} {a : List (List UInt8)} {bad : Bool}

theorem JAt.keep (h : JAt L w kj j d f a bad) (hL : Fresh L w) (hf : Fr M L w L1 w1) (hm : ∀ r, ¬ M (kj, r)) : JAt L1 w1 kj j d f a bad := by
  obtain ⟨rv, a1, a2, a3⟩ := h
  exact ⟨rv, hf.lab_of hL a1, (hf.keeps hL a1 (hm _)).trans a2, a3.keep hL hf (hm _)⟩

theorem JAt.lt (h : JAt L w kj j d f a bad) : j < w.heap.size := by
  obtain ⟨rv, a1, a2, a3⟩ := h
  exact (Array.getElem?_eq_some_iff.1 a2).1

theorem JAt.setBad (h : JAt L w kj j d f a bad) (b : Bool) : JAt L (w.setCell ⟨j, 4, none⟩ (.bool b)) kj j d f a b := by
  obtain ⟨rv, a1, a2, a3⟩ := h
  refine ⟨rv, a1, ?_, ownsRow_of_blocks a3.1 (fun g hg => ?_), a3.2⟩
  · rw [blk_set a2]; rfl
  · exact Below.heap_setCell _ _ _ _ (fun e => by
      have h1 := a3.2 g hg
      rw [e, a1] at h1; cases h1)
end

/-- What Append and Sync make of the disk and of the journal. -/
def jsync (s : St) (f : Int) (bad : Bool) : (St × Bool) × Int :=
  if bad = true then ((s, true), 7) else (((s.sync f).1, decide ((s.sync f).2 ≠ 0)), (s.sync f).2)

def JPost (L : Lab) (w : World) (k kj j d : Nat) (f : Int) (r : (St × List (List UInt8) × Bool) × Int) (e : Ending) (w' : World) : Prop :=
  e = .returned (.int .i64 r.2) ∧ ∃ L', DAt L' w' k d r.1.1 ∧ JAt L' w' kj j d f r.1.2.1 r.1.2.2 ∧ Fr (MJ k kj) L w L' w'

theorem fr_set {L : Lab} {w : World} {j : Nat} {r : Role} (kj : Nat) (h : L j = some (kj, r)) (hL : Fresh L w) (o : Nat) (u : Value) : Fr (MA kj) L w L (w.setCell ⟨j, o, none⟩ u) :=
  Fr.setCell (M := MA kj) (p := ⟨j, o, none⟩) (Fr.refl hL) (Or.inr ⟨(kj, r), h, rfl⟩) u

theorem na' {k k' : Nat} (h : k ≠ k') : ∀ r, ¬ MA k (k', r) := fun _ hh => h hh.symm

set_option maxHeartbeats 1000000 in
theorem jsync_any {L : Lab} {w : World} {k kj j d : Nat} {s : St} {a : List (List UInt8)} {bad : Bool} (f : Int) (hk : k ≠ kj) (hL : Fresh L w) (hd : DAt L w k d s) (hj : JAt L w kj j d f a bad) (hi : Inv s) (hf : isI64 f) :
    Calls Try.prog 31 #[.pointer (some ⟨j, 0, none⟩)] w (JPost L w k kj j d f (((jsync s f bad).1.1, a, (jsync s f bad).1.2), (jsync s f bad).2)) := by
  have hj' := hj
  obtain ⟨rv, a1, a2, a3⟩ := hj
  have c0 := blk_cell a2 0
  have c1 := blk_cell a2 1
  have c4 := blk_cell a2 4
  simp [jcells] at c0 c1 c4
  cases bad
  · go_enter Try.func31, Try.ntmps31
    go_wp2_with fail
    go_still_tail 8, (by kernel_rfl)
    change wpList _ _ _ _ _ w.drew
    have f0 : Fr (fun _ => False) L w L w.drew := (Fr.refl hL).drew
    have d0 := hd.keep hL f0 (fun _ hh => hh)
    have j0 := hj'.keep hL f0 (fun _ hh => hh)
    go_wp2_with fail
    refine (Sync_any f f0.fresh d0 hi hf).mono ?_
    rintro e w1 ⟨rfl, L1, d1, f1⟩
    have j1 := j0.keep f0.fresh f1 (na' hk)
    obtain ⟨s1, hs1⟩ : ∃ s1, s1 = s.sync f := ⟨_, rfl⟩
    rw [← hs1] at d1 ⊢
    have j2 := j1.setBad (s1.2 != 0)
    obtain ⟨rv1, b1, b2, b3⟩ := j1
    have q4 := blk_free b2 4
    have q0 := blk_cell b2 4
    have fr1 : Fr (MJ k kj) L w L1 (w1.setCell ⟨j, 4, none⟩ (.bool (s1.2 != 0))) := ((f0.mono (fun _ hh => hh.elim)).trans (f1.mono (M' := MJ k kj) mj0)).trans ((fr_set kj b1 f1.fresh 4 (.bool (s1.2 != 0))).mono mj1)
    have dd : DAt L1 (w1.setCell ⟨j, 4, none⟩ (.bool (s1.2 != 0))) k d s1.1 := d1.keep f1.fresh (fr_set kj b1 f1.fresh 4 (.bool (s1.2 != 0))) (na hk)
    have hjs : jsync s f false = ((s1.1, (s1.2 != 0)), s1.2) := by unfold jsync; rw [hs1]; simp [bne, BEq.beq]
    have HH := Lib.hid (And.intro j2 (And.intro fr1 (And.intro dd hjs)))
    clear j2 fr1 dd hjs hs1
    obtain ⟨sx, x⟩ := s1
    simp [jcells] at q0
    go_wp2_with fail
    go_ret
    rw [HH.out.2.2.2]
    exact ⟨rfl, L1, HH.out.2.2.1, HH.out.1, HH.out.2.1⟩
  · go_enter Try.func31, Try.ntmps31
    go_wp2_with fail
    go_ret
    exact ⟨rfl, L, hd, hj', Fr.refl hL⟩

set_option maxHeartbeats 400000 in
theorem jlen_any {L : Lab} {w : World} {kj j d : Nat} {f : Int} {a : List (List UInt8)} {bad : Bool} (hj : JAt L w kj j d f a bad) : Calls Try.prog 53 #[.pointer (some ⟨j, 0, none⟩)] w fun e w' => e = .returned (.int .i64 (a.length : Nat)) ∧ w = w' := by
  obtain ⟨rv, a1, a2, a3⟩ := hj
  have c2 := blk_cell a2 2
  simp [jcells] at c2
  obtain ⟨A, c, rfl⟩ : ∃ A c, rv = .slice A a.length c := by
    rcases a3.1.2 with ⟨rfl, h0⟩ | ⟨g, c, _, rfl, _⟩
    · exact ⟨none, 0, by rw [h0]⟩
    · exact ⟨_, c, rfl⟩
  go_enter Try.func53, Try.ntmps53
  go_wp2_with fail
  go_ret
  exact ⟨rfl, rfl⟩

def jget (a : List (List UInt8)) (i : Int) : List UInt8 := if i < 0 ∨ (a.length : Int) ≤ i then [] else a.getD i.toNat []

theorem Sl.cellS {L : Lab} {w : World} {a : List (List UInt8)} {A : Option Addr} {c : Nat} {t : Nat × Role} (h : Sl L w 9 1 (.slice A a.length c) a.length (a.map strV) t) (k : Nat) (hk : k < a.length) : ∃ g, A = some ⟨g, 0, none⟩ ∧ L g = some t ∧ g < w.heap.size ∧ w.cell? ⟨g, k, none⟩ = some (.string (ba (a.getD k []))) := by
  have h1 := h.1
  rcases h.1.2 with ⟨e, h0⟩ | ⟨g, c', _, e, _, hg, _⟩
  · omega
  · injection e with e1 _ e2
    subst e1
    subst e2
    refine ⟨g, rfl, h.2 g rfl, (Array.getElem?_eq_some_iff.1 hg).1, ?_⟩
    rw [World.ownsRow.cellAt h1 k (by omega), List.getElem?_map, List.getElem?_eq_getElem hk, List.getD_eq_getElem?_getD, List.getElem?_eq_getElem hk]
    rfl

set_option maxHeartbeats 400000 in
theorem jget_any {L : Lab} {w : World} {kj j d : Nat} {f : Int} {a : List (List UInt8)} {bad : Bool} (hj : JAt L w kj j d f a bad) (i : Int) (hi : isI64 i) : Calls Try.prog 54 #[.pointer (some ⟨j, 0, none⟩), .int .i64 i] w fun e w' => e = .returned (.string (ba (jget a i))) ∧ w = w' := by
  obtain ⟨rv, a1, a2, a3⟩ := hj
  have c2 := blk_cell a2 2
  simp [jcells] at c2
  obtain ⟨A, c, rfl⟩ : ∃ A c, rv = .slice A a.length c := by
    rcases a3.1.2 with ⟨rfl, h0⟩ | ⟨g, c, _, rfl, _⟩
    · exact ⟨none, 0, by rw [h0]⟩
    · exact ⟨_, c, rfl⟩
  by_cases h0 : i < 0
  · have HG : Hid (jget a i = []) := show _ = _ by unfold jget; rw [if_pos (Or.inl h0)]
    go_enter Try.func54, Try.ntmps54
    go_wp2_with fail
    go_ret
    rw [HG.out]
    exact ⟨rfl, rfl⟩
  · by_cases h1 : (a.length : Int) ≤ i
    · have HG : Hid (jget a i = []) := show _ = _ by unfold jget; rw [if_pos (Or.inr h1)]
      go_enter Try.func54, Try.ntmps54
      go_wp2_with fail
      go_ret
      rw [HG.out]
      exact ⟨rfl, rfl⟩
    · obtain ⟨k, rfl⟩ := Int.eq_ofNat_of_zero_le (show 0 ≤ i by omega)
      have HG : Hid (jget a (k : Int) = a.getD k []) := show _ = _ by unfold jget; rw [if_neg (by omega)]; rfl
      obtain ⟨g, rfl, _, _, hc⟩ := a3.cellS k (by omega)
      go_enter Try.func54, Try.ntmps54
      go_wp2_with fail
      go_ret
      rw [HG.out]
      exact ⟨rfl, rfl⟩

end Go.Proofs.Ytgocnjiabfmdpaa
