/- The law's tell: an act, performed with the reference. -/
import Derived.Test.YtgocnjiabfmdpaaDYo
namespace Go.Proofs.Ytgocnjiabfmdpaa
set_option maxRecDepth 8000
open Go.RowKit

theorem KI.crashed {K : List Int} {s : St} (h : KI K s) (keep : List Int) : KI K (s.crash keep) := by
  unfold St.crash
  split
  · exact h
  · exact fun hh => absurd rfl hh

set_option maxRecDepth 100000 in
set_option maxHeartbeats 1000000 in
theorem tell_any {L : Lab} {w : World} {k d : Nat} {l : List Fl} {K : List Int} {s : St} (a : Ac) (kv : Value) (hL : Fresh L w) (h : RAt L w k d l K s) (hi : Inv s) (hK : KI K s) (hok : a.ok) (hs : a.s.size ≤ 1000000) (hk : a.keep.length ≤ 1000000) (hkv : ArgI L w kv a.keep) :
    Calls Try.prog 14 #[.pointer (some ⟨d, 0, none⟩), .agg #[.int .i64 a.act, .int .i64 a.f, .int .i64 a.n, .string a.s, kv]] w (RPost L w k d (s.act a)) := by
  obtain ⟨o1, o2, o3⟩ := hok
  have hb7 := bits_seven a.act
  obtain ⟨KA, kc, rfl⟩ := argI_len hkv
  obtain ⟨m, hm⟩ : ∃ m, m = a.act % 8 := ⟨_, rfl⟩
  have hm8 : 0 ≤ m ∧ m < 8 := by omega
  rw [← hm] at hb7
  have HM := Lib.hid hm
  clear hm
  have ha : ∀ o, RAt L (w.alloc o) k d l K s ∧ Fr (MA k) L w L (w.alloc o) := fun o => ⟨h.keep (M := fun _ => False) hL ((Fr.refl hL).alloc o) (fun _ hh => hh), (Fr.refl hL).alloc o⟩
  have HA := Lib.hid ha
  clear ha
  by_cases h2 : m = 2
  · have HR : Hid (s.act a = s.sync a.f) := show _ = _ by unfold St.act; rw [← HM.out, if_pos h2]
    subst h2
    go_enter Try.func14, Try.ntmps14
    go_wp2_with fail
    refine (rSync_any a.f (HA.out _).2.fresh (HA.out _).1 hi hK).mono ?_
    rintro e w1 ⟨rfl, l1, L1, K1, d1, f1, k1⟩
    go_wp2_with fail
    go_ret
    rw [HR.out]
    exact ⟨rfl, l1, L1, K1, d1, (HA.out _).2.trans f1, k1⟩
  by_cases h3 : m = 3
  · have HR : Hid (s.act a = s.trunc a.f a.n) := show _ = _ by unfold St.act; rw [if_neg (show ¬ a.act % 8 = 2 by rw [← HM.out]; omega), if_pos (by rw [← HM.out]; exact h3)]
    subst h3
    go_enter Try.func14, Try.ntmps14
    go_wp2_with fail
    refine (rTrunc_any a.f a.n (HA.out _).2.fresh (HA.out _).1 hi hK).mono ?_
    rintro e w1 ⟨rfl, l1, L1, K1, d1, f1, k1⟩
    go_wp2_with fail
    go_ret
    rw [HR.out]
    exact ⟨rfl, l1, L1, K1, d1, (HA.out _).2.trans f1, k1⟩
  by_cases h4 : m = 4
  · have HR : Hid (s.act a = (s.lose (a.n % 4), 0)) := show _ = _ by unfold St.act; rw [if_neg (show ¬ a.act % 8 = 2 by rw [← HM.out]; omega), if_neg (show ¬ a.act % 8 = 3 by rw [← HM.out]; omega), if_pos (by rw [← HM.out]; exact h4)]
    subst h4
    go_enter Try.func14, Try.ntmps14
    go_wp2_with fail
    refine (rlose_any (bits .and .i64 a.n 3) (HA.out _).2.fresh (HA.out _).1).mono ?_
    rintro e w1 ⟨rfl, d1, f1⟩
    go_wp2_with fail
    go_ret
    rw [HR.out]
    exact ⟨rfl, l, L, K, by rw [← bits_three]; exact d1, (HA.out _).2.trans (f1.mono md_ma), hK.same rfl rfl⟩
  by_cases h5 : m = 5
  · have HR : Hid (s.act a = (s.arm a.n a.keep, 0)) := show _ = _ by unfold St.act; rw [if_neg (show ¬ a.act % 8 = 2 by rw [← HM.out]; omega), if_neg (show ¬ a.act % 8 = 3 by rw [← HM.out]; omega), if_neg (show ¬ a.act % 8 = 4 by rw [← HM.out]; omega), if_pos (by rw [← HM.out]; exact h5)]
    subst h5
    go_enter Try.func14, Try.ntmps14
    go_wp2_with fail
    refine (rArm_any a.n _ a.keep (HA.out _).2.fresh (HA.out _).1 (hkv.keep (HA.out _).2) hk).mono ?_
    rintro e w1 ⟨rfl, L1, d1, f1⟩
    go_wp2_with fail
    go_ret
    rw [HR.out]
    exact ⟨rfl, l, L1, a.keep, d1, (HA.out _).2.trans f1, fun _ => rfl⟩
  by_cases h6 : m = 6
  · have HR : Hid (s.act a = (s.crash a.keep, 0)) := show _ = _ by unfold St.act; rw [if_neg (show ¬ a.act % 8 = 2 by rw [← HM.out]; omega), if_neg (show ¬ a.act % 8 = 3 by rw [← HM.out]; omega), if_neg (show ¬ a.act % 8 = 4 by rw [← HM.out]; omega), if_neg (show ¬ a.act % 8 = 5 by rw [← HM.out]; omega), if_pos (by rw [← HM.out]; exact h6)]
    subst h6
    go_enter Try.func14, Try.ntmps14
    go_wp2_with fail
    refine (rcrash_any _ a.keep (HA.out _).2.fresh (HA.out _).1 hi ((hkv.keep (HA.out _).2).rkat k)).mono ?_
    rintro e w1 ⟨rfl, l1, L1, d1, f1⟩
    go_wp2_with fail
    go_ret
    rw [HR.out]
    exact ⟨rfl, l1, L1, K, d1, (HA.out _).2.trans (f1.mono md_ma), hK.crashed _⟩
  by_cases h7 : m = 7
  · have HR : Hid (s.act a = (s.start, 0)) := show _ = _ by unfold St.act; rw [if_neg (show ¬ a.act % 8 = 2 by rw [← HM.out]; omega), if_neg (show ¬ a.act % 8 = 3 by rw [← HM.out]; omega), if_neg (show ¬ a.act % 8 = 4 by rw [← HM.out]; omega), if_neg (show ¬ a.act % 8 = 5 by rw [← HM.out]; omega), if_neg (show ¬ a.act % 8 = 6 by rw [← HM.out]; omega), if_pos (by rw [← HM.out]; exact h7)]
    subst h7
    go_enter Try.func14, Try.ntmps14
    go_wp2_with fail
    refine (rstart_any (HA.out _).2.fresh (HA.out _).1).mono ?_
    rintro e w1 ⟨rfl, d1, f1⟩
    go_wp2_with fail
    go_ret
    rw [HR.out]
    exact ⟨rfl, l, L, K, d1, (HA.out _).2.trans (f1.mono md_ma), hK.same rfl rfl⟩
  have HR : Hid (s.act a = s.write a.f a.n a.s.data.toList) := show _ = _ by unfold St.act; rw [if_neg (show ¬ a.act % 8 = 2 by rw [← HM.out]; omega), if_neg (show ¬ a.act % 8 = 3 by rw [← HM.out]; omega), if_neg (show ¬ a.act % 8 = 4 by rw [← HM.out]; omega), if_neg (show ¬ a.act % 8 = 5 by rw [← HM.out]; omega), if_neg (show ¬ a.act % 8 = 6 by rw [← HM.out]; omega), if_neg (show ¬ a.act % 8 = 7 by rw [← HM.out]; omega)]
  have hm01 : m = 0 ∨ m = 1 := by omega
  clear h2 h3 h4 h5 h6 h7 hm8
  rcases hm01 with rfl | rfl
  all_goals
    go_enter Try.func14, Try.ntmps14
    go_wp2_with fail
    refine (rWrite_any a.f a.n a.s (HA.out _).2.fresh (HA.out _).1 hi hK o3 hs).mono ?_
    rintro e w1 ⟨rfl, l1, L1, K1, d1, f1, k1⟩
    go_wp2_with fail
    go_ret
    rw [HR.out]
    exact ⟨rfl, l1, L1, K1, d1, (HA.out _).2.trans f1, k1⟩

end Go.Proofs.Ytgocnjiabfmdpaa
