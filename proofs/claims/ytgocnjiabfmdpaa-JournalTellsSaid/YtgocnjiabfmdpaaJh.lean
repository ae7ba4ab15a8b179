/- Walk of small: the examples of the journal. -/
import Derived.Test.YtgocnjiabfmdpaaJdg
import Derived.Test.YtgocnjiabfmdpaaRVb
namespace Go.Proofs.Ytgocnjiabfmdpaa
set_option maxRecDepth 8000
open Go.RowKit Wire

theorem dg0 : dg 0 = [48] := dg_lt (by omega)
theorem dg2 : dg 2 = [50] := dg_lt (by omega)
theorem dg9 : dg 9 = [57] := dg_lt (by omega)
theorem dg29 : dg 29 = [50, 57] := by rw [dg_ge (by omega), show 29 / 10 = 2 from rfl, dg2]; rfl
theorem dg293 : dg 293 = [50, 57, 51] := by rw [dg_ge (by omega), show 293 / 10 = 29 from rfl, dg29]; rfl

theorem jf1 : jform [97, 98] = [50, 58, 97, 98, 44, 50, 57, 51, 59] := by
  unfold jform encText
  rw [show jsum [97, 98] = 293 by kernel_rfl, dg293, show ([97, 98] : List UInt8).length = 2 from rfl, dg2]; rfl
theorem jf2 : jform [] = [48, 58, 44, 48, 59] := by
  unfold jform encText
  rw [show jsum [] = 0 by kernel_rfl, show ([] : List UInt8).length = 0 from rfl, dg0]; rfl

def t1 : List UInt8 := [50, 58, 97, 98, 44, 50, 57, 51, 59, 49, 58, 97, 44, 57, 56, 59]
def u1 : St := (St.new.sync 3).1
def u2 : St := (u1.write 3 0 [50, 58, 97, 98, 44, 50, 57, 51, 59]).1
def u3 : St := (u2.write 3 9 [48, 58, 44, 48, 59]).1
def u4 : St := (u3.write 4 0 t1).1
def u5 : St := (u4.sync 4).1
def u6 : St := (u5.trunc 4 9).1

theorem o1 : jopen St.new 3 = ((u1, some []), 0) := by
  have h : St.new.sync 3 = (u1, 0) := by kernel_rfl
  have h2 : u1.now 3 = [] := by kernel_rfl
  have := jopen_whole (by rfl) h (by rw [h2, jrecs_nil]; decide)
  rw [h2, jrecs_nil] at this
  exact this
theorem o2 : japp u1 3 [] false [97, 98] = ((u2, [[97, 98]], false), 0) := by
  have h : u1.write 3 0 [50, 58, 97, 98, 44, 50, 57, 51, 59] = (u2, 0) := by kernel_rfl
  exact japp_ok (by decide) (by rw [jf1]; decide) (by rw [jf1]; exact h) rfl
theorem o3 : japp u2 3 [[97, 98]] false [] = ((u3, [[97, 98], []], false), 0) := by
  have h : u2.write 3 9 [48, 58, 44, 48, 59] = (u3, 0) := by kernel_rfl
  have e : jforms [[97, 98]] = [50, 58, 97, 98, 44, 50, 57, 51, 59] := by rw [jforms_cons, jf1]; rfl
  exact japp_ok (by decide) (by rw [jf2, e]; decide) (by rw [jf2, e]; exact h) rfl
theorem o4 : u3.read 3 0 99 = ([50, 58, 97, 98, 44, 50, 57, 51, 59, 48, 58, 44, 48, 59], 0) := by kernel_rfl
theorem o5 : u3.write 4 0 t1 = (u4, 0) := by kernel_rfl
theorem o6 : jopen u4 4 = ((u6, some [[97, 98]]), 0) := by
  have h : u4.sync 4 = (u5, 0) := by kernel_rfl
  have h2 : u5.now 4 = t1 := by kernel_rfl
  have h3 : step t1 = some ([97, 98], [49, 58, 97, 44, 57, 56, 59]) := by kernel_rfl
  have h4 : step [49, 58, 97, 44, 57, 56, 59] = none := by kernel_rfl
  have h5 : jrecs t1 = [[97, 98]] := by rw [jrecs_some h3, jrecs_none h4]
  have e : jforms [[97, 98]] = [50, 58, 97, 98, 44, 50, 57, 51, 59] := by rw [jforms_cons, jf1]; rfl
  have h6 : u5.trunc 4 9 = (u6, 0) := by kernel_rfl
  have := jopen_cut (r := (u6, 0)) (by rfl) h (by rw [h2, h5, e]; decide) (by rw [h2, h5, e]; exact h6) rfl
  rw [h2, h5] at this
  exact this
theorem o7 : u6.size 4 = 9 := by kernel_rfl

theorem k1 : Inv u1 := Inv.new.sync _
theorem k2 : Inv u2 := k1.write _ _ _
theorem k3 : Inv u3 := k2.write _ _ _
theorem k4 : Inv u4 := k3.write _ _ _

theorem jopen_as {L : Lab} {w : World} {k d : Nat} {s : St} {r : (St × Option (List (List UInt8))) × Int} (kj : Nat) (f : Int) (hr : jopen s f = r) (hk : k ≠ kj) (hL : Fresh L w) (hd : DAt L w k d s) (hi : Inv s) (hf : 0 ≤ f ∧ f ≤ 100000000) :
    Calls Try.prog 25 #[.pointer (some ⟨d, 0, none⟩), .int .i64 f] w (OPost L w k kj d f r) := by
  subst hr
  exact jopen_any kj f hk hL hd hi (isI64_small hf)

theorem japp_as {L : Lab} {w : World} {k kj j d : Nat} {s : St} {a : List (List UInt8)} {bad : Bool} {r : (St × List (List UInt8) × Bool) × Int} (f : Int) (t : ByteArray) (hr : japp s f a bad (bts t) = r) (hk : k ≠ kj) (hL : Fresh L w) (hd : DAt L w k d s) (hj : JAt L w kj j d f a bad) (hi : Inv s) (hf : 0 ≤ f ∧ f ≤ 100000000) (ht : t.size ≤ 900000) (hal : (jforms a).length ≤ 20000000) :
    Calls Try.prog 29 #[.pointer (some ⟨j, 0, none⟩), .string t] w (JPost L w k kj j d f r) := by
  subst hr
  exact japp_any f t hk hL hd hj hi (isI64_small hf) ht hal

theorem sum_as (s : ByteArray) (n : Nat) (hn : jsum (bts s) = n) (w : World) (hs : s.size ≤ 1000000000) : Calls Try.prog 27 #[.string s] w fun e w' => e = .returned (.int .i64 n) ∧ w = w' := by
  subst hn
  exact sum_any s w hs

/-- A slice of strings, read by its cells. -/
theorem OwnS.at {w : World} {B : Nat} {v : Value} {l : List (List UInt8)} (h : OwnS w B v l) : ∃ a cap, v = .slice a (l.map ba).length cap ∧ Wire.StrsAt w.heap.size w a (l.map ba) := by
  rcases h.2 with ⟨rfl, hn⟩ | ⟨g, cap, cur, rfl, hb, hg, hnc, hcm, hcs, htake⟩
  · have : l = [] := List.eq_nil_of_length_eq_zero hn
    subst this
    exact ⟨none, 0, rfl, fun k hk => by cases hk⟩
  · refine ⟨_, cap, by rw [List.length_map], fun k hk => ⟨g, 0, rfl, (Array.getElem?_eq_some_iff.1 hg).1, ?_⟩⟩
    rw [List.length_map] at hk
    rw [Nat.zero_add, World.ownsRow.cellAt h k (by omega), List.getElem?_map, List.getElem?_eq_getElem hk, List.getD_eq_getElem?_getD, List.getElem?_map, List.getElem?_eq_getElem hk]
    rfl

theorem StrsAt.keep {B : Nat} {w w1 : World} {a : Option Addr} {l : List ByteArray} (h : Wire.StrsAt B w a l) (hb : Below w.heap.size w w1) (hB : B ≤ w.heap.size) : Wire.StrsAt w1.heap.size w1 a l := fun k hk => by
  obtain ⟨b, off, rfl, h1, h2⟩ := h k hk
  exact ⟨b, off, rfl, by have := hb.size; omega, (hb.cell (p := ⟨b, off + k, none⟩) (by show b < _; omega)).trans h2⟩

def SmallPost3 (L : Lab) (w : World) (e : Ending) (w' : World) : Prop := e = .returned (.bool true) ∧ ∃ L', Fr MT L w L' w'

set_option maxRecDepth 100000 in
set_option maxHeartbeats 4000000 in
theorem small3_any {L : Lab} {w : World} : Calls Try.prog 23 #[] w (SmallPost3 L w) := by
  go_enter Try.func23, Try.ntmps23
  go_wp2_with fail
  refine (New_any (L := L) 100).mono ?_
  rintro e w1 ⟨d, L1, rfl, h1, f1⟩
  go_wp2_with fail
  refine (jopen_as 101 3 o1 (by decide) f1.fresh h1 Inv.new (by omega)).mono ?_
  rintro e w2 ⟨L2, h2, f2, ⟨h, _⟩ | ⟨a, j, ha, rfl, j2⟩⟩
  · cases h
  injection ha with ha
  subst ha
  change DAt L2 w2 100 d u1 at h2
  go_wp2_with fail
  refine (japp_as 3 ⟨#[97, 98]⟩ o2 (by decide) f2.fresh h2 j2 k1 (by omega) (by decide) (by decide)).mono ?_
  rintro e w3 ⟨rfl, L3, h3, j3, f3⟩
  go_wp2_with fail
  refine (japp_as 3 ⟨#[]⟩ o3 (by decide) f3.fresh h3 j3 k2 (by omega) (by decide) (by rw [jforms_cons, jf1]; decide)).mono ?_
  rintro e w4 ⟨rfl, L4, h4, j4, f4⟩
  go_wp2_with fail
  refine (read_as 3 0 99 o4 (by omega) h4).mono ?_
  rintro e w5 ⟨rfl, rfl⟩
  go_wp2_with fail
  refine (write_as 4 0 ⟨#[50, 58, 97, 98, 44, 50, 57, 51, 59, 49, 58, 97, 44, 57, 56, 59]⟩ o5 f4.fresh h4 k3 (by omega) (by omega) (by decide)).mono ?_
  rintro e w5 ⟨rfl, L5, h5, f5⟩
  have j5 := j4.keep f4.fresh f5 (na' (by decide))
  go_wp2_with fail
  refine (jopen_as 102 4 o6 (by decide) f5.fresh h5 k4 (by omega)).mono ?_
  rintro e w6 ⟨L6, h6, f6, ⟨h, _⟩ | ⟨a, jk, ha, rfl, jk6⟩⟩
  · cases h
  injection ha with ha
  subst ha
  change DAt L6 w6 100 d u6 at h6
  have j6 := j5.keep f5.fresh f6 (na' (by decide))
  go_wp2_with fail
  refine (sum_as ⟨#[]⟩ 0 (by kernel_rfl) _ (by decide)).mono ?_
  rintro e w7 ⟨rfl, rfl⟩
  go_wp2_with fail
  refine (sum_as ⟨#[97]⟩ 97 (by kernel_rfl) _ (by decide)).mono ?_
  rintro e w7 ⟨rfl, rfl⟩
  go_wp2_with fail
  refine (sum_as ⟨#[97, 98]⟩ 293 (by kernel_rfl) _ (by decide)).mono ?_
  rintro e w7 ⟨rfl, rfl⟩
  have z1 := ba_list [50, 58, 97, 98, 44, 50, 57, 51, 59, 48, 58, 44, 48, 59]
  have z2 := ba_list [97, 98]
  go_wp2_with fail
  refine (jlen_any j6).mono ?_
  rintro e w7 ⟨rfl, rfl⟩
  go_wp2_with fail
  refine (jget_any j6 0 (isI64_small (by omega))).mono ?_
  rintro e w7 ⟨rfl, rfl⟩
  rw [show jget [[97, 98], []] 0 = [97, 98] by rfl]
  go_wp2_with fail
  refine (jall_any jk6 (by decide)).mono ?_
  rintro e w7 ⟨v, rfl, hown, hb⟩
  obtain ⟨A, cap, rfl, hat⟩ := hown.at
  go_wp2_with fail
  have hb2 : Below w6.heap.size w6 (w7.alloc (.cells #[.string ⟨#[97, 98]⟩] 9)) := hb.alloc hb.size _
  refine (Wire.sameTexts_any A (some ⟨w7.heap.size, 0, none⟩) _ [⟨#[97, 98]⟩] cap 1 _ (StrsAt.keep hat (Below.alloc (Below.refl _ _) (Nat.le_refl _) _) (Nat.le_refl _)) (fun k hk => by
    have : k = 0 := by simpa using hk
    subst this
    exact ⟨w7.heap.size, 0, rfl, by simp, by rw [blk_cell (heap_alloc_new w7 _)]; rfl⟩) (by decide) (by decide)).mono ?_
  rintro e w8 ⟨rfl, hb8⟩
  rw [decide_eq_true (show List.map ba [[97, 98]] = [⟨#[97, 98]⟩] from rfl)]
  have f7 : Fr (fun _ => False) L6 w6 L6 w8 := (Fr.below f6.fresh hb2).trans (Fr.below (M := fun _ => False) (w := w7.alloc (.cells #[.string ⟨#[97, 98]⟩] 9)) (Fr.below (M := fun _ => False) f6.fresh hb2).fresh hb8)
  have h8 := h6.keep f6.fresh f7 (fun _ hh => hh)
  go_wp2_with fail
  refine (size_as 4 o7 (by omega) h8).mono ?_
  rintro e w9 ⟨rfl, rfl⟩
  go_wp2_with fail
  go_ret
  exact ⟨rfl, L6, ((((((f1.mono mt).trans (f2.mono mt)).trans (f3.mono mt)).trans (f4.mono mt)).trans (f5.mono mt)).trans (f6.mono mt)).trans (f7.mono mt)⟩

end Go.Proofs.Ytgocnjiabfmdpaa
