/- The law ShareJoins. -/
import Derived.Test.YtfipogmndokhkaaUr
namespace Go.Proofs.Ytfipogmndokhkaa
open Go.RowKit

set_option maxRecDepth 100000 in
set_option maxHeartbeats 8000000 in
theorem joins_any (secret : Int) (k n : Nat) (seed : Int) (os : List Nat) (O : Option Addr) (co : Nat) (other : Int) (w : World) (hk : k < 256) (hn : n < 256) (hB : BsAt w.heap.size w O os) (hlo : os.length ≤ 9223372036854775807) :
    Calls Try.prog 4 #[.int .i64 secret, .int .u8 k, .int .u8 n, .int .i64 seed, .slice O os.length co, .int .i64 other] w fun e w' => e = .returned (.bool true) ∧ Below w.heap.size w w' := by
  by_cases hbig : 30 < os.length
  · obtain ⟨m, hm⟩ : ∃ m, os.length = m := ⟨_, rfl⟩
    rw [hm] at hbig hlo ⊢
    have hbig' : decide ((30 : Int) < (m : Int)) = true := by simp; omega
    clear hm hB
    go_enter Try.func4, Try.ntmps4
    go_wp2_with fail
    refine (small_any _).mono ?_
    rintro e w1 ⟨rfl, hb1⟩
    go_wp2_with fail
    go_ret
    exact ⟨rfl, hb1⟩
  · obtain ⟨hm1, hm2⟩ := many_range n
    obtain ⟨hq1, hq2⟩ := need_range k n
    have hs0 : 0 ≤ secret % 2147483647 := by omega
    have hs1 : secret % 2147483647 < 2147483647 := by omega
    have hx0 : 0 ≤ other % 2147483647 := by omega
    have hx1 : other % 2147483647 < 2147483647 := by omega
    have hnum := fun w1 => numbers_any secret k n hk hn w1
    obtain ⟨s, hs⟩ : ∃ s, secret % 2147483647 = s := ⟨_, rfl⟩
    obtain ⟨q, hq⟩ : ∃ q, need k n = q := ⟨_, rfl⟩
    obtain ⟨m, hm⟩ : ∃ m, many n = m := ⟨_, rfl⟩
    rw [hs] at hs0 hs1 hnum
    rw [hq] at hq1 hq2 hnum
    rw [hm] at hm1 hm2 hq2 hnum
    have HNUM := Lib.hid hnum
    clear hs hq hm hk hn hnum
    obtain ⟨x, hx⟩ : ∃ x, other % 2147483647 = x := ⟨_, rfl⟩
    rw [hx] at hx0 hx1
    have hmod := fun w1 => mod_any other w1
    rw [hx] at hmod
    have HMOD := Lib.hid hmod
    clear hx hmod
    have hspl := fun w1 => split_good s q m seed w1 (by unfold okS; simp; omega)
    obtain ⟨cs, hcs⟩ : ∃ cs, cfs s seed q = cs := ⟨_, rfl⟩
    have hf0 := ev_zero s seed q hq1
    have hfp := cfs_pol s seed q
    rw [hcs] at hspl hf0 hfp
    clear hcs
    obtain ⟨l, hl⟩ : ∃ l, shs cs m = l := ⟨_, rfl⟩
    have hlen := shs_length cs m
    have hrt := shs_rt cs hm2
    have hth := shs_thru cs m
    have hinj := fun d e h1 h2 h3 => shs_inj (cs := cs) (n := m) (d := d) (e := e) h1 h2 h3
    rw [hl] at hspl hlen hrt hth hinj
    clear hl
    obtain ⟨hsub, hnd, hcl⟩ := chs_all l (by omega) os
    obtain ⟨out, hout⟩ : ∃ out, chs l os = out := ⟨_, rfl⟩
    rw [hout] at hsub hnd hcl
    have HSPL := Lib.hid hspl
    have hor : Rt out := fun d hd => hrt d (hsub d hd)
    have hot := hth.sub hsub
    have hon := nodup_fst (fun d e h1 h2 h3 => hinj d e h1 h2 h3) hsub hnd
    have hol : out.length ≤ 900 := by omega
    obtain ⟨r, hr⟩ : ∃ r, out.length = r := ⟨_, rfl⟩
    have HCH : Hid (∀ (w1 : World) (v : Value), Below w.heap.size w w1 → OwnS w1 w.heap.size v l → Calls Try.prog 17 #[v, .slice O os.length co] w1 fun e w' => ∃ v, e = .returned v ∧ OwnS w' w1.heap.size v out ∧ Below w1.heap.size w1 w') := Lib.hid fun w1 v hb ho => by
      obtain ⟨A, c, rfl, _, _, hS⟩ := ho.at_
      rw [← hout]
      exact chosen_any l os A O c co w1 hS (fun k hk => by
        obtain ⟨b, off, e, h1, h2, h3⟩ := (hB.below hb) k hk
        exact ⟨b, off, e, by have := hb.size; omega, h2, h3⟩) (by omega) (by omega) (by omega)
    have hlv : Hid (l.length = m) := Lib.hid hlen
    clear hspl hrt hth hinj hsub hnd hout hB
    by_cases hen : q ≤ r
    · have HJ : Hid (∀ (w1 : World) (A : Option Addr) (c : Nat), ShAt w1.heap.size w1 A out → r ≤ c → c ≤ 9223372036854775807 → Calls Try.prog 10 #[.slice A r c, .int .i64 q] w1 fun e w' => e = .returned (.tuple #[.int .i64 s, .int .i64 0]) ∧ Below w1.heap.size w1 w') := Lib.hid fun w1 A c h1 h2 h3 => by
        subst hr
        have h := join_ok out A c w1 q h1 (by omega) h2 h3 hq1 (by omega) hor hon hen _ hfp hot
        rw [hf0, Int.emod_eq_of_lt hs0 hs1] at h
        exact h
      have HF : Hid (∀ (y : Int) (b : Bool), 0 ≤ y → y < 2147483647 → b = decide (y = s) → ∀ (w1 : World) (A : Option Addr) (c : Nat), ShAt w1.heap.size w1 A out → Calls Try.prog 13 #[.slice A r c, .int .i64 q, .int .i64 y] w1 fun e w' => e = .returned (.bool b) ∧ Below w1.heap.size w1 w') := Lib.hid fun y b h1 h2 h3 w1 A c h4 => by
        subst hr
        exact fits_good out A c w1 q y h4 hol hq1 (by omega) h1 h2 hor hon b (by rw [h3, decide_eq_true_iff]; exact (fits_iff hfp hot hor hon hen hf0 hs0 hs1 h1 h2).symm)
      have HR := Lib.hid hr
      clear hfp hf0 hor hot hon hr hlen hcl hol
      obtain ⟨mo, hmo⟩ : ∃ mo, os.length = mo := ⟨_, rfl⟩
      rw [hmo] at HCH hbig hlo ⊢
      have hbig' : decide ((30 : Int) < (mo : Int)) = false := by simp; omega
      clear hmo
      go_enter Try.func4, Try.ntmps4
      go_wp2_with fail
      refine (small_any _).mono ?_
      rintro e w1 ⟨rfl, hb1⟩
      go_wp2_with fail
      refine (HNUM.out _).mono ?_
      rintro e w2 ⟨rfl, hb2⟩
      have hB2 := hb1.trans (hb2.mono hb1.size)
      go_wp2_with fail
      refine (HMOD.out _).mono ?_
      rintro e w3 ⟨rfl, rfl⟩
      go_wp2_with fail
      refine (HSPL.out _).mono ?_
      rintro e w4 ⟨v4, rfl, hown4, hb4⟩
      have hB4 := hB2.trans (hb4.mono hB2.size)
      obtain ⟨A4, c4, rfl, hc4, hm4, hS4⟩ := hown4.at_
      have HO4 := Lib.hid (hown4.mono hB2.size); clear hown4
      rw [hlv.out] at hc4 HO4 ⊢
      have HS4 := Lib.hid hS4; clear hS4
      go_wp2_with fail
      refine (HCH.out _ _ hB4 HO4.out).mono ?_
      rintro e w5 ⟨v5, rfl, hown5, hb5⟩
      have hB5 := hB4.trans (hb5.mono hB4.size)
      obtain ⟨A5, c5, rfl, hc5, hm5, hS5⟩ := hown5.at_
      have HS5 := Lib.hid hS5; clear hS5 hown5
      rw [HR.out] at hc5 ⊢
      go_wp2_with fail
      refine (HJ.out _ _ _ HS5.out hc5 hm5).mono ?_
      rintro e w6 ⟨rfl, hb6⟩
      go_wp2_with fail
      refine (HF.out s true hs0 hs1 (by simp) _ _ _ ((HS5.out.below hb6).more hb6.size)).mono ?_
      rintro e w7 ⟨rfl, hb7⟩
      have hB7 := hb6.trans (hb7.mono hb6.size)
      by_cases hxs : x = s
      · subst hxs
        go_wp2_with fail
        refine (HF.out x true hs0 hs1 (by simp) _ _ _ ((HS5.out.below hB7).more hB7.size)).mono ?_
        rintro e w8 ⟨rfl, hb8⟩
        have hB8 := hB7.trans (hb8.mono hB7.size)
        go_wp2_with fail
        go_ret
        exact ⟨rfl, hB5.trans (hB8.mono hB5.size)⟩
      · have hxs' : (x == s) = false := by simpa using hxs
        have hdx : false = decide (x = s) := by simp [hxs]
        have HDX := Lib.hid hdx; clear hdx
        clear hxs
        go_wp2_with fail
        refine (HF.out x false hx0 hx1 HDX.out _ _ _ ((HS5.out.below hB7).more hB7.size)).mono ?_
        rintro e w8 ⟨rfl, hb8⟩
        have hB8 := hB7.trans (hb8.mono hB7.size)
        go_wp2_with fail
        go_ret
        exact ⟨rfl, hB5.trans (hB8.mono hB5.size)⟩
    · have HJ : Hid (∀ (w1 : World) (A : Option Addr) (c : Nat), ShAt w1.heap.size w1 A out → Calls Try.prog 10 #[.slice A r c, .int .i64 q] w1 fun e w' => e = .returned (.tuple #[.int .i64 0, .int .i64 21]) ∧ Below w1.heap.size w1 w') := Lib.hid fun w1 A c h1 => by
        subst hr
        exact join_few out A c w1 q h1 (by omega) hq1 (by omega) hor hon (by omega)
      have HF : Hid (∀ (y : Int), 0 ≤ y → y < 2147483647 → ∀ (w1 : World) (A : Option Addr) (c : Nat), ShAt w1.heap.size w1 A out → Calls Try.prog 13 #[.slice A r c, .int .i64 q, .int .i64 y] w1 fun e w' => e = .returned (.bool true) ∧ Below w1.heap.size w1 w') := Lib.hid fun y h1 h2 w1 A c h4 => by
        subst hr
        exact fits_good out A c w1 q y h4 hol hq1 (by omega) h1 h2 hor hon true (by simp; exact fits_all hor hon (by omega) h1 h2)
      have HR := Lib.hid hr
      clear hfp hf0 hor hot hon hr hlen hcl hol
      obtain ⟨mo, hmo⟩ : ∃ mo, os.length = mo := ⟨_, rfl⟩
      rw [hmo] at HCH hbig hlo ⊢
      have hbig' : decide ((30 : Int) < (mo : Int)) = false := by simp; omega
      clear hmo
      go_enter Try.func4, Try.ntmps4
      go_wp2_with fail
      refine (small_any _).mono ?_
      rintro e w1 ⟨rfl, hb1⟩
      go_wp2_with fail
      refine (HNUM.out _).mono ?_
      rintro e w2 ⟨rfl, hb2⟩
      have hB2 := hb1.trans (hb2.mono hb1.size)
      go_wp2_with fail
      refine (HMOD.out _).mono ?_
      rintro e w3 ⟨rfl, rfl⟩
      go_wp2_with fail
      refine (HSPL.out _).mono ?_
      rintro e w4 ⟨v4, rfl, hown4, hb4⟩
      have hB4 := hB2.trans (hb4.mono hB2.size)
      obtain ⟨A4, c4, rfl, hc4, hm4, hS4⟩ := hown4.at_
      have HO4 := Lib.hid (hown4.mono hB2.size); clear hown4
      rw [hlv.out] at hc4 HO4 ⊢
      have HS4 := Lib.hid hS4; clear hS4
      go_wp2_with fail
      refine (HCH.out _ _ hB4 HO4.out).mono ?_
      rintro e w5 ⟨v5, rfl, hown5, hb5⟩
      have hB5 := hB4.trans (hb5.mono hB4.size)
      obtain ⟨A5, c5, rfl, hc5, hm5, hS5⟩ := hown5.at_
      have HS5 := Lib.hid hS5; clear hS5 hown5
      rw [HR.out] at hc5 ⊢
      go_wp2_with fail
      refine (HJ.out _ _ _ HS5.out).mono ?_
      rintro e w6 ⟨rfl, hb6⟩
      go_wp2_with fail
      refine (HF.out s hs0 hs1 _ _ _ ((HS5.out.below hb6).more hb6.size)).mono ?_
      rintro e w7 ⟨rfl, hb7⟩
      have hB7 := hb6.trans (hb7.mono hb6.size)
      go_wp2_with fail
      refine (HF.out x hx0 hx1 _ _ _ ((HS5.out.below hB7).more hB7.size)).mono ?_
      rintro e w8 ⟨rfl, hb8⟩
      have hB8 := hB7.trans (hb8.mono hB7.size)
      go_wp2_with fail
      go_ret
      exact ⟨rfl, hB5.trans (hB8.mono hB5.size)⟩

end Go.Proofs.Ytfipogmndokhkaa
