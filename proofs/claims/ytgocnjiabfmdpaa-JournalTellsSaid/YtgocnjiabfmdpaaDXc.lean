/- Walk of small: the document's examples. -/
import Derived.Test.YtgocnjiabfmdpaaDXa
import Derived.Test.YtgocnjiabfmdpaaDWp
import Derived.Test.YtgocnjiabfmdpaaDWq
namespace Go.Proofs.Ytgocnjiabfmdpaa
set_option maxRecDepth 8000
open Go.RowKit

def q1 : St := (St.new.write 0 0 [97, 98, 99]).1
def q2 : St := (q1.sync 0).1
def q3 : St := (q2.write 0 1 [88, 89]).1
def q4 : St := q3.crash [1]
def q5 : St := q4.start
def r1 : St := q3.crash [0]
def r2 : St := r1.start
def r3 : St := (r2.write 1 62 [97, 98, 99, 100]).1
def r4 : St := r3.crash [0, 1]
def r5 : St := r4.start
def r6 : St := (r5.write 16 0 []).1
def r7 : St := (r6.write 1 16777216 [97]).1

theorem c1 : St.new.write 0 0 [97, 98, 99] = (q1, 0) := by kernel_rfl
theorem c2 : q1.sync 0 = (q2, 0) := by kernel_rfl
theorem c3 : q2.write 0 1 [88, 89] = (q3, 0) := by kernel_rfl
theorem c4 : q4.down = true := by kernel_rfl
theorem c5 : q4.read 0 0 9 = ([], 8) := by kernel_rfl
theorem c6 : q5.read 0 0 9 = ([97, 88, 89], 0) := by kernel_rfl
theorem c7 : r2.read 0 1 9 = ([98, 99], 0) := by kernel_rfl
theorem c8 : r2.write 1 62 [97, 98, 99, 100] = (r3, 0) := by kernel_rfl
theorem c9 : r5.read 1 60 100 = ([0, 0, 0, 0, 99, 100], 0) := by kernel_rfl
theorem c10 : r5.size 1 = 66 := by kernel_rfl
theorem c11 : r5.write 16 0 [] = (r6, 1) := by kernel_rfl
theorem c12 : r6.write 1 16777216 [97] = (r7, 6) := by kernel_rfl

theorem i1 : Inv q1 := Inv.new.write _ _ _
theorem i2 : Inv q2 := i1.sync _
theorem i3 : Inv q3 := i2.write _ _ _
theorem i4 : Inv q4 := i3.crash _
theorem i5 : Inv q5 := i4.start
theorem j1 : Inv r1 := i3.crash _
theorem j2 : Inv r2 := j1.start
theorem j3 : Inv r3 := j2.write _ _ _
theorem j4 : Inv r4 := j3.crash _
theorem j5 : Inv r5 := j4.start
theorem j6 : Inv r6 := j5.write _ _ _

theorem kat_new {L : Lab} {w : World} (hL : Fresh L w) (k : Nat) (keep : List Int) (cs : Array Value) (hcs : cs = (ic keep).toArray) (n : Nat) (hn : n = keep.length) : KAt L (w.alloc (.cells cs 3)) k (.slice (some ⟨w.heap.size, 0, none⟩) n n) keep := by
  subst hn
  refine ⟨_, _, rfl, fun j hj => ⟨w.heap.size, 0, rfl, ?_, by simp, fun i => by rw [hL _ (Nat.le_refl _)]; simp⟩⟩
  rw [Nat.zero_add, blk_cell (heap_alloc_new w _) j, hcs]
  simp [ic, List.getElem?_eq_getElem hj]

/-- The two disks of the examples. -/
def MX : Nat × Role → Prop := fun t => t.1 = 100 ∨ t.1 = 101

theorem mx0 : ∀ t, MA 100 t → MX t := fun _ h => Or.inl h
theorem mx1 : ∀ t, MA 101 t → MX t := fun _ h => Or.inr h

def SmallPost (L : Lab) (w : World) (e : Ending) (w' : World) : Prop := e = .returned (.bool true) ∧ ∃ L', Fr MX L w L' w'

theorem na {k k' : Nat} (h : k ≠ k') : ∀ r, ¬ MA k' (k, r) := fun _ hh => h hh

theorem md_no {k k' : Nat} (h : k ≠ k') : ∀ r, ¬ MD k' (k, r) := fun _ hh => h (by injection hh)

theorem isI64_small {n : Int} (h : 0 ≤ n ∧ n ≤ 100000000) : isI64 n := by unfold isI64; omega

theorem write_as {L : Lab} {w : World} {k d : Nat} {s : St} {r : St × Int} (f a : Int) (t : ByteArray) (hr : s.write f a t.data.toList = r) (hL : Fresh L w) (h : DAt L w k d s) (hi : Inv s) (hf : 0 ≤ f ∧ f ≤ 100000000) (ha : 0 ≤ a ∧ a ≤ 100000000) (ht : t.size ≤ 1000000) :
    Calls Try.prog 46 #[.pointer (some ⟨d, 0, none⟩), .int .i64 f, .int .i64 a, .string t] w (CallPost L w k d r) := by
  subst hr
  exact Write_any f a t hL h hi (isI64_small hf) (isI64_small ha) ht

theorem sync_as {L : Lab} {w : World} {k d : Nat} {s : St} {r : St × Int} (f : Int) (hr : s.sync f = r) (hL : Fresh L w) (h : DAt L w k d s) (hi : Inv s) (hf : 0 ≤ f ∧ f ≤ 100000000) : Calls Try.prog 20 #[.pointer (some ⟨d, 0, none⟩), .int .i64 f] w (CallPost L w k d r) := by
  subst hr
  exact Sync_any f hL h hi (isI64_small hf)

theorem read_as {L : Lab} {w : World} {k d : Nat} {s : St} {r : List UInt8 × Int} (f a z : Int) (hr : s.read f a z = r) (hf : 0 ≤ f ∧ f ≤ 100000000) (h : DAt L w k d s) :
    Calls Try.prog 21 #[.pointer (some ⟨d, 0, none⟩), .int .i64 f, .int .i64 a, .int .i64 z] w fun e w' => e = .returned (.tuple #[.string (ba r.1), .int .i64 r.2]) ∧ w = w' := by
  subst hr
  exact read_any f a z (isI64_small hf) h

theorem size_as {L : Lab} {w : World} {k d : Nat} {s : St} {r : Int} (f : Int) (hr : s.size f = r) (hf : 0 ≤ f ∧ f ≤ 100000000) (h : DAt L w k d s) :
    Calls Try.prog 17 #[.pointer (some ⟨d, 0, none⟩), .int .i64 f] w fun e w' => e = .returned (.int .i64 r) ∧ w = w' := by
  subst hr
  exact size_any f (isI64_small hf) h

theorem ba_list (l : List UInt8) : (ba l).toList = l := by rw [ByteArray.toList_eq, ba_toList]

set_option maxRecDepth 100000 in
set_option maxHeartbeats 2000000 in
theorem small_any {L : Lab} {w : World} : Calls Try.prog 9 #[] w (SmallPost L w) := by
  go_enter Try.func9, Try.ntmps9
  go_wp2_with fail
  refine (New_any (L := L) 100).mono ?_
  rintro e w1 ⟨d, L1, rfl, h1, f1⟩
  go_wp2_with fail
  refine (write_as 0 0 ⟨#[97, 98, 99]⟩ c1 f1.fresh h1 Inv.new (by omega) (by omega) (by decide)).mono ?_
  rintro e w2 ⟨rfl, L2, h2, f2⟩
  go_wp2_with fail
  refine (sync_as 0 c2 f2.fresh h2 i1 (by omega)).mono ?_
  rintro e w3 ⟨rfl, L3, h3, f3⟩
  go_wp2_with fail
  refine (write_as 0 1 ⟨#[88, 89]⟩ c3 f3.fresh h3 i2 (by omega) (by omega) (by decide)).mono ?_
  rintro e w4 ⟨rfl, L4, h4, f4⟩
  go_wp2_with fail
  refine (Copy_any 101 (by decide) f4.fresh h4 i3).mono ?_
  rintro e w5 ⟨c, L5, rfl, h5, f5⟩
  have h4' := h4.keep f4.fresh f5 (na (by decide))
  go_wp2_with fail
  have fa := (Fr.refl (M := MA 100) f5.fresh).alloc (.cells #[.int .i64 1] 3)
  refine (crash_any _ [1] fa.fresh (h4'.alloc f5.fresh _) i3 (kat_new f5.fresh 100 [1] _ rfl 1 rfl)).mono ?_
  rintro e w6 ⟨rfl, L6, h6, f6⟩
  have h5' := (h5.alloc f5.fresh (.cells #[.int .i64 1] 3)).keep fa.fresh f6 (na (by decide))
  go_wp2_with fail
  refine (down_any (s := q4) h6).mono ?_
  rintro e w7 ⟨rfl, rfl⟩
  rw [c4]
  go_wp2_with fail
  refine (read_as 0 0 9 c5 (by omega) h6).mono ?_
  rintro e w7 ⟨rfl, rfl⟩
  go_wp2_with fail
  refine (start_any (s := q4) f6.fresh h6).mono ?_
  rintro e w7 ⟨rfl, h7, f7⟩
  have h5a := h5'.keep f6.fresh f7 (md_no (by decide))
  go_wp2_with fail
  refine (read_as (s := q5) 0 0 9 c6 (by omega) h7).mono ?_
  rintro e w8 ⟨rfl, rfl⟩
  go_wp2_with fail
  have fb := (Fr.refl (M := MA 101) f7.fresh).alloc (.cells #[.int .i64 0] 3)
  refine (crash_any _ [0] fb.fresh (h5a.alloc f7.fresh _) i3 (kat_new f7.fresh 101 [0] _ rfl 1 rfl)).mono ?_
  rintro e w9 ⟨rfl, L9, h9, f9⟩
  go_wp2_with fail
  refine (start_any (s := r1) f9.fresh h9).mono ?_
  rintro e w10 ⟨rfl, h10, f10⟩
  go_wp2_with fail
  refine (read_as (s := r2) 0 1 9 c7 (by omega) h10).mono ?_
  rintro e w11 ⟨rfl, rfl⟩
  go_wp2_with fail
  refine (write_as (s := r2) 1 62 ⟨#[97, 98, 99, 100]⟩ c8 f10.fresh h10 j2 (by omega) (by omega) (by decide)).mono ?_
  rintro e w11 ⟨rfl, L11, h11, f11⟩
  go_wp2_with fail
  have fc := (Fr.refl (M := MA 101) f11.fresh).alloc (.cells #[.int .i64 0, .int .i64 1] 3)
  refine (crash_any _ [0, 1] fc.fresh (h11.alloc f11.fresh _) j3 (kat_new f11.fresh 101 [0, 1] _ rfl 2 rfl)).mono ?_
  rintro e w12 ⟨rfl, L12, h12, f12⟩
  go_wp2_with fail
  refine (start_any (s := r4) f12.fresh h12).mono ?_
  rintro e w13 ⟨rfl, h13, f13⟩
  go_wp2_with fail
  refine (read_as (s := r5) 1 60 100 c9 (by omega) h13).mono ?_
  rintro e w14 ⟨rfl, rfl⟩
  have z1 := ba_list [97, 88, 89]
  have z2 := ba_list [98, 99]
  have z3 := ba_list [0, 0, 0, 0, 99, 100]
  go_wp2_with fail
  refine (size_as (s := r5) 1 c10 (by omega) h13).mono ?_
  rintro e w14 ⟨rfl, rfl⟩
  go_wp2_with fail
  refine (write_as (s := r5) 16 0 ⟨#[]⟩ c11 f13.fresh h13 j5 (by omega) (by omega) (by decide)).mono ?_
  rintro e w14 ⟨rfl, L14, h14, f14⟩
  go_wp2_with fail
  refine (write_as (s := r6) 1 16777216 ⟨#[97]⟩ c12 f14.fresh h14 j6 (by omega) (by omega) (by decide)).mono ?_
  rintro e w15 ⟨rfl, L15, h15, f15⟩
  go_wp2_with fail
  go_ret
  have g1 : Fr MX L w L4 w4 := (((f1.mono (fun _ h => h.elim)).trans (f2.mono mx0)).trans (f3.mono mx0)).trans (f4.mono mx0)
  have g2 : Fr MX L4 w4 L6 w6 := ((f5.mono mx1).trans (fa.mono mx0)).trans (f6.mono mx0)
  have g3 := (f7.mono md_ma).mono mx0
  have g4 := ((fb.mono mx1).trans (f9.mono mx1)).trans ((f10.mono md_ma).mono mx1)
  have g5 := ((f11.mono mx1).trans (fc.mono mx1)).trans ((f12.mono mx1).trans ((f13.mono md_ma).mono mx1))
  exact ⟨rfl, L15, ((((g1.trans g2).trans g3).trans g4).trans g5).trans ((f14.mono mx1).trans (f15.mono mx1))⟩

end Go.Proofs.Ytgocnjiabfmdpaa
