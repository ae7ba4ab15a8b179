/- Walk of same. -/
import Derived.Test.YtfjgcffoknclhaaXg
import Derived.Test.YtfjgcffoknclhaaXb
import Derived.Deep.QuietTactic
import Derived.BigQuiet
namespace Go.Proofs.Ytfjgcffoknclhaa
open Go.RowKit

theorem read_like {s u : St} (hn : s.now = u.now) (hd : s.down = u.down) (f a z : Int) : u.read f a z = s.read f a z := by
  unfold St.read St.ready
  rw [hn, hd]

theorem size_like {s u : St} (hn : s.now = u.now) (f : Int) : u.size f = s.size f := by
  unfold St.size
  rw [hn]

theorem fr_drewN {M : Nat × Role → Prop} {L : Lab} {w : World} (hL : Fresh L w) (n : Nat) : Fr M L w L (w.drewN n) := ⟨rfl, rfl, rfl, Nat.le_refl _, fun _ _ => rfl, hL, fun _ _ _ => rfl⟩

theorem DAt.drewN {L : Lab} {w : World} {k d : Nat} {s : St} (h : DAt L w k d s) (hL : Fresh L w) (n : Nat) : DAt L (w.drewN n) k d s := h.keep (M := fun _ => False) hL (fr_drewN hL n) (fun _ hh => hh)

theorem drewN_drewN (w : World) (n m : Nat) : (w.drewN n).drewN m = w.drewN (n + m) := by unfold World.drewN; simp [Nat.add_assoc]

/-- What same leaves. -/
def AlikePost (w : World) (e : Ending) (w' : World) : Prop := e = .returned (.bool true) ∧ ∃ n, w' = w.drewN n

set_option maxRecDepth 100000 in
set_option maxHeartbeats 1000000 in
theorem alike_any {L : Lab} {w : World} {v : Value} {l : List Ac} {k k' d c : Nat} {s u : St} (hL : Fresh L w) (hd : DAt L w k d s) (hc : DAt L w k' c u) (hn : s.now = u.now) (hdn : s.down = u.down) (h : ActsAt L w v l) :
    Calls Try.prog 28 #[.pointer (some ⟨d, 0, none⟩), .pointer (some ⟨c, 0, none⟩), v] w (AlikePost w) := by
  obtain ⟨A, cp, rfl, hm, hok, h⟩ := h
  have HOK := Lib.hid (And.intro hok (And.intro hn (And.intro hdn h)))
  clear hok hn hdn h
  go_enter Try.func28, Try.ntmps28
  go_wp2_with fail
  refine (down_any hd).mono ?_
  rintro e w1 ⟨rfl, rfl⟩
  go_wp2_with fail
  refine (down_any hc).mono ?_
  rintro e w1 ⟨rfl, rfl⟩
  rw [HOK.out.2.2.1]
  go_wp2_with fail
  go_loopw [7] (fun i wr => ∃ (j : Nat), j ≤ l.length ∧ i = .int .i64 j ∧ Hid (∃ nd, wr = w.drewN nd)) (fun i _ => l.length - (intOf i).toNat)
  case atStart => exact ⟨0, Nat.zero_le _, rfl, 0, rfl⟩
  case round =>
    obtain ⟨j, hj, rfl, HW⟩ := hrel
    by_cases hlt : j < l.length
    · obtain ⟨b, off, rfl, hlb, hb, hcc⟩ := HOK.out.2.2.2 (by omega)
      obtain ⟨kv, c0, c1, c2, c3, c4, ha⟩ := hcc j hlt
      have hif := (HOK.out.1 _ (List.getElem_mem hlt)).2.1
      obtain ⟨f, hae⟩ : ∃ f, l[j].f = f := ⟨_, rfl⟩
      rw [hae] at c1 hif
      clear hae hcc c0 c2 c3 c4 ha
      have hdd : ∀ n, DAt L (wr.drewN n) k d s := fun n => by obtain ⟨nd, rfl⟩ := HW.out; exact (hd.drewN hL nd).drewN hL n
      have hcd : ∀ n, DAt L (wr.drewN n) k' c u := fun n => by obtain ⟨nd, rfl⟩ := HW.out; exact (hc.drewN hL nd).drewN hL n
      have HD := Lib.hid (And.intro hdd hcd)
      clear hdd hcd
      obtain ⟨x, hx⟩ : ∃ x, x = s.read f 0 16777216 := ⟨_, rfl⟩
      have HX := Lib.hid hx
      clear hx
      have cw : wr.cell? ⟨b, off + j * 5 + 1, none⟩ = some (Value.int IntKind.i64 f) := by obtain ⟨nd, rfl⟩ := HW.out; exact c1
      clear c1
      go_wp2_with fail
      refine (read_any f 0 16777216 hif (HD.out.1 0)).mono ?_
      rintro e w1 ⟨rfl, rfl⟩
      rw [← HX.out]
      go_wp2_with fail
      have cr := read_any f 0 16777216 hif (HD.out.2 0)
      rw [read_like HOK.out.2.1 HOK.out.2.2.1, ← HX.out] at cr
      refine cr.mono ?_
      clear cr
      rintro e w1 ⟨rfl, rfl⟩
      go_wp2_with fail
      obtain ⟨y, z⟩ := x
      obtain ⟨q, hq⟩ : ∃ q, q = s.size f := ⟨_, rfl⟩
      have hqu : u.size f = q := by rw [hq, size_like HOK.out.2.1]
      have hz1 : (z != z) = false := by simp
      have hz2 : (!(ba y).toList == (ba y).toList) = false := by simp
      have hq1 : (q != q) = false := by simp
      have cs1 : ∀ n, Calls Try.prog 16 #[.pointer (some ⟨d, 0, none⟩), .int .i64 f] (wr.drewN n) fun e w'' => e = .returned (.int .i64 q) ∧ ∃ m, w'' = wr.drewN m := fun n => by
        rw [hq]; exact (size_any f hif (HD.out.1 n)).mono (fun e w' h => ⟨h.1, n, h.2.symm⟩)
      have cs2 : ∀ n, Calls Try.prog 16 #[.pointer (some ⟨c, 0, none⟩), .int .i64 f] (wr.drewN n) fun e w'' => e = .returned (.int .i64 q) ∧ ∃ m, w'' = wr.drewN m := fun n => by
        rw [← hqu]; exact (size_any f hif (HD.out.2 n)).mono (fun e w' h => ⟨h.1, n, h.2.symm⟩)
      have HC1 := Lib.hid cs1
      have HC2 := Lib.hid cs2
      clear hq hqu cs1 cs2
      go_quiet (first | (go_at_call_of 16 (Value.pointer (some (⟨d, 0, none⟩ : Addr))); exact HC1.out _) | (go_at_call_of 16 (Value.pointer (some (⟨c, 0, none⟩ : Addr))); exact HC2.out _))
      go_wp2_with fail
      go_roundw
      case rel => exact ⟨j + 1, by omega, by go_num, by obtain ⟨nd, rfl⟩ := HW.out; exact ⟨_, drewN_drewN _ _ _⟩⟩
      case measure => simp [intOf]; omega
    · go_wp2_with fail
      go_ret
      exact ⟨rfl, HW.out⟩

end Go.Proofs.Ytfjgcffoknclhaa
