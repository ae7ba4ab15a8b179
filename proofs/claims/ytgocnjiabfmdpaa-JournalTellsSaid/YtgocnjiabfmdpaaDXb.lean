/- Walks of do and of played; the state after some acts. -/
import Derived.Test.YtgocnjiabfmdpaaDXa
import Derived.Test.YtgocnjiabfmdpaaDWp
namespace Go.Proofs.Ytgocnjiabfmdpaa
set_option maxRecDepth 8000
open Go.RowKit

def St.act (s : St) (a : Ac) : St × Int :=
  if a.act % 8 = 2 then s.sync a.f else if a.act % 8 = 3 then s.trunc a.f a.n else if a.act % 8 = 4 then (s.lose (a.n % 4), 0) else if a.act % 8 = 5 then (s.arm a.n a.keep, 0)
  else if a.act % 8 = 6 then (s.crash a.keep, 0) else if a.act % 8 = 7 then (s.start, 0) else s.write a.f a.n a.s.data.toList

theorem Inv.act {s : St} (h : Inv s) {a : Ac} (hok : a.ok) (hk : a.keep.length ≤ 1000000) : Inv (s.act a).1 := by
  unfold St.act
  have h1 := hok.2.2
  unfold isI64 at h1
  split
  · exact h.sync _
  split
  · exact h.trunc _ _
  split
  · exact h.lose (by omega)
  split
  · exact h.arm (by omega) hk
  split
  · exact h.crash _
  split
  · exact h.start
  · exact h.write _ _ _

theorem bits_seven (x : Int) : bits .and .i64 x 7 = x % 8 := by
  show IntKind.i64.wrap ((BitVec.ofInt 64 x &&& BitVec.ofInt 64 7).toNat : Int) = _
  rw [BitVec.toNat_and]
  have e1 : (BitVec.ofInt 64 7).toNat = 2 ^ 3 - 1 := by decide
  rw [e1, Nat.and_two_pow_sub_one_eq_mod, BitVec.toNat_ofInt, IntKind.wrap_i64]
  omega

theorem bits_three (x : Int) : bits .and .i64 x 3 = x % 4 := by
  show IntKind.i64.wrap ((BitVec.ofInt 64 x &&& BitVec.ofInt 64 3).toNat : Int) = _
  rw [BitVec.toNat_and]
  have e1 : (BitVec.ofInt 64 3).toNat = 2 ^ 2 - 1 := by decide
  rw [e1, Nat.and_two_pow_sub_one_eq_mod, BitVec.toNat_ofInt, IntKind.wrap_i64]
  omega

set_option maxRecDepth 100000 in
set_option maxHeartbeats 1000000 in
theorem do_any {L : Lab} {w : World} {k d : Nat} {s : St} (a : Ac) (kv : Value) (hL : Fresh L w) (h : DAt L w k d s) (hi : Inv s) (hok : a.ok) (hs : a.s.size ≤ 1000000) (hk : a.keep.length ≤ 1000000) (hkv : ArgI L w kv a.keep) :
    Calls Try.prog 13 #[.pointer (some ⟨d, 0, none⟩), .agg #[.int .i64 a.act, .int .i64 a.f, .int .i64 a.n, .string a.s, kv]] w (CallPost L w k d (s.act a)) := by
  obtain ⟨o1, o2, o3⟩ := hok
  have hb7 := bits_seven a.act
  have hld : L d = some (k, .disk) := by obtain ⟨mb, pv, kv, fb, hd, _⟩ := h; exact hd
  obtain ⟨KA, kc, rfl⟩ := argI_len hkv
  obtain ⟨m, hm⟩ : ∃ m, m = a.act % 8 := ⟨_, rfl⟩
  have hm8 : 0 ≤ m ∧ m < 8 := by omega
  rw [← hm] at hb7
  have HM := Lib.hid hm
  clear hm
  have ha : ∀ o, DAt L (w.alloc o) k d s ∧ Fr (MA k) L w L (w.alloc o) := fun o => ⟨h.alloc hL o, (Fr.refl hL).alloc o⟩
  have HA := Lib.hid ha
  clear ha
  by_cases h2 : m = 2
  · have HR : Hid (s.act a = s.sync a.f) := show _ = _ by unfold St.act; rw [← HM.out, if_pos h2]
    subst h2
    go_enter Try.func13, Try.ntmps13
    go_wp2_with fail
    refine (Sync_any a.f (HA.out _).2.fresh (HA.out _).1 hi o2).mono ?_
    rintro e w1 ⟨rfl, L1, d1, f1⟩
    go_wp2_with fail
    go_ret
    rw [HR.out]
    exact ⟨rfl, L1, d1, (HA.out _).2.trans f1⟩
  by_cases h3 : m = 3
  · have HR : Hid (s.act a = s.trunc a.f a.n) := show _ = _ by unfold St.act; rw [if_neg (show ¬ a.act % 8 = 2 by rw [← HM.out]; omega), if_pos (by rw [← HM.out]; exact h3)]
    subst h3
    go_enter Try.func13, Try.ntmps13
    go_wp2_with fail
    refine (Trunc_any a.f a.n (HA.out _).2.fresh (HA.out _).1 hi o2).mono ?_
    rintro e w1 ⟨rfl, L1, d1, f1⟩
    go_wp2_with fail
    go_ret
    rw [HR.out]
    exact ⟨rfl, L1, d1, (HA.out _).2.trans f1⟩
  by_cases h4 : m = 4
  · have HR : Hid (s.act a = (s.lose (a.n % 4), 0)) := show _ = _ by unfold St.act; rw [if_neg (show ¬ a.act % 8 = 2 by rw [← HM.out]; omega), if_neg (show ¬ a.act % 8 = 3 by rw [← HM.out]; omega), if_pos (by rw [← HM.out]; exact h4)]
    subst h4
    go_enter Try.func13, Try.ntmps13
    go_wp2_with fail
    refine (lose_any (bits .and .i64 a.n 3) (HA.out _).2.fresh (HA.out _).1).mono ?_
    rintro e w1 ⟨rfl, d1, f1⟩
    go_wp2_with fail
    go_ret
    rw [HR.out]
    exact ⟨rfl, L, by rw [← bits_three]; exact d1, (HA.out _).2.trans (f1.mono md_ma)⟩
  by_cases h5 : m = 5
  · have HR : Hid (s.act a = (s.arm a.n a.keep, 0)) := show _ = _ by unfold St.act; rw [if_neg (show ¬ a.act % 8 = 2 by rw [← HM.out]; omega), if_neg (show ¬ a.act % 8 = 3 by rw [← HM.out]; omega), if_neg (show ¬ a.act % 8 = 4 by rw [← HM.out]; omega), if_pos (by rw [← HM.out]; exact h5)]
    subst h5
    go_enter Try.func13, Try.ntmps13
    go_wp2_with fail
    refine (Arm_any a.n _ a.keep (HA.out _).2.fresh (HA.out _).1 ((hkv.keep (HA.out _).2).rd) (hkv.far hld) hk).mono ?_
    rintro e w1 ⟨rfl, L1, d1, f1⟩
    go_wp2_with fail
    go_ret
    rw [HR.out]
    exact ⟨rfl, L1, d1, (HA.out _).2.trans f1⟩
  by_cases h6 : m = 6
  · have HR : Hid (s.act a = (s.crash a.keep, 0)) := show _ = _ by unfold St.act; rw [if_neg (show ¬ a.act % 8 = 2 by rw [← HM.out]; omega), if_neg (show ¬ a.act % 8 = 3 by rw [← HM.out]; omega), if_neg (show ¬ a.act % 8 = 4 by rw [← HM.out]; omega), if_neg (show ¬ a.act % 8 = 5 by rw [← HM.out]; omega), if_pos (by rw [← HM.out]; exact h6)]
    subst h6
    go_enter Try.func13, Try.ntmps13
    go_wp2_with fail
    refine (crash_any _ a.keep (HA.out _).2.fresh (HA.out _).1 hi ((hkv.keep (HA.out _).2).kat k)).mono ?_
    rintro e w1 ⟨rfl, L1, d1, f1⟩
    go_wp2_with fail
    go_ret
    rw [HR.out]
    exact ⟨rfl, L1, d1, (HA.out _).2.trans f1⟩
  by_cases h7 : m = 7
  · have HR : Hid (s.act a = (s.start, 0)) := show _ = _ by unfold St.act; rw [if_neg (show ¬ a.act % 8 = 2 by rw [← HM.out]; omega), if_neg (show ¬ a.act % 8 = 3 by rw [← HM.out]; omega), if_neg (show ¬ a.act % 8 = 4 by rw [← HM.out]; omega), if_neg (show ¬ a.act % 8 = 5 by rw [← HM.out]; omega), if_neg (show ¬ a.act % 8 = 6 by rw [← HM.out]; omega), if_pos (by rw [← HM.out]; exact h7)]
    subst h7
    go_enter Try.func13, Try.ntmps13
    go_wp2_with fail
    refine (start_any (HA.out _).2.fresh (HA.out _).1).mono ?_
    rintro e w1 ⟨rfl, d1, f1⟩
    go_wp2_with fail
    go_ret
    rw [HR.out]
    exact ⟨rfl, L, d1, (HA.out _).2.trans (f1.mono md_ma)⟩
  have HR : Hid (s.act a = s.write a.f a.n a.s.data.toList) := show _ = _ by unfold St.act; rw [if_neg (show ¬ a.act % 8 = 2 by rw [← HM.out]; omega), if_neg (show ¬ a.act % 8 = 3 by rw [← HM.out]; omega), if_neg (show ¬ a.act % 8 = 4 by rw [← HM.out]; omega), if_neg (show ¬ a.act % 8 = 5 by rw [← HM.out]; omega), if_neg (show ¬ a.act % 8 = 6 by rw [← HM.out]; omega), if_neg (show ¬ a.act % 8 = 7 by rw [← HM.out]; omega)]
  have hm01 : m = 0 ∨ m = 1 := by omega
  clear h2 h3 h4 h5 h6 h7 hm8
  rcases hm01 with rfl | rfl
  all_goals
    go_enter Try.func13, Try.ntmps13
    go_wp2_with fail
    refine (Write_any a.f a.n a.s (HA.out _).2.fresh (HA.out _).1 hi o2 o3 hs).mono ?_
    rintro e w1 ⟨rfl, L1, d1, f1⟩
    go_wp2_with fail
    go_ret
    rw [HR.out]
    exact ⟨rfl, L1, d1, (HA.out _).2.trans f1⟩

def play (s : St) (l : List Ac) : St := l.foldl (fun s a => (s.act a).1) s

theorem play_snoc (s : St) (l : List Ac) (j : Nat) (h : j < l.length) : play s (l.take (j + 1)) = ((play s (l.take j)).act l[j]).1 := by
  unfold play
  rw [List.take_succ_eq_append_getElem h, List.foldl_append]
  rfl

theorem fewB_mem {l : List Ac} (h : fewB l = true) : ∀ a ∈ l, a.s.size ≤ 300 ∧ a.keep.length ≤ 60 ∧ (a.n ≤ 3000 ∨ 16776916 ≤ a.n) := by
  intro a ha
  unfold fewB at h
  rw [Bool.and_eq_true, List.all_eq_true] at h
  have h1 := h.1 a ha
  simp [Ac.fit] at h1
  omega

theorem play_inv {s : St} (hi : Inv s) {l : List Ac} (hf : fewB l = true) (hok : ∀ a ∈ l, a.ok) (j : Nat) : Inv (play s (l.take j)) := by
  have key : ∀ (m : List Ac) (s : St), Inv s → (∀ a ∈ m, a.ok ∧ a.keep.length ≤ 1000000) → Inv (play s m) := by
    intro m
    induction m with
    | nil => intro s h _; exact h
    | cons a m ih =>
      intro s h hm
      exact ih _ (h.act (hm a (by simp)).1 (hm a (by simp)).2) (fun b hb => hm b (by simp [hb]))
  exact key _ s hi (fun a ha => ⟨hok a (List.mem_of_mem_take ha), by have := fewB_mem hf a (List.mem_of_mem_take ha); omega⟩)

end Go.Proofs.Ytgocnjiabfmdpaa
