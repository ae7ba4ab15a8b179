/- Walk of DiskArms. -/
import Derived.Test.YtfjgcffoknclhaaXk
import Derived.Test.YtfjgcffoknclhaaXl
namespace Go.Proofs.Ytfjgcffoknclhaa
open Go.RowKit

theorem Fr.cell_none {M : Nat × Role → Prop} {L L1 : Lab} {w w1 : World} (h : Fr M L w L1 w1) {b : Nat} (hl : L b = none) (hb : b < w.heap.size) {o : Nat} {x : Value} (hc : w.cell? ⟨b, o, none⟩ = some x) : w1.cell? ⟨b, o, none⟩ = some x :=
  (World.cell?_of_block (a := ⟨b, o, none⟩) (h.block b hb (fun t ht => by rw [hl] at ht; cases ht))).trans hc

theorem play_one {l : List Ac} (hok : ∀ a ∈ l, a.ok) (hf : fewB l = true) {s : St} (hi : Inv s) {a : Ac} (ha : a ∈ l) : Inv (s.act a).1 := hi.act (hok a ha) (by have := fewB_mem hf a ha; omega)

set_option maxRecDepth 100000 in
set_option maxHeartbeats 4000000 in
theorem arms_any {w : World} {v kv : Value} {l : List Ac} {keep : List Int} (n : Int) (h : ActsAt L0 w v l) (hk : ArgI L0 w kv keep) :
    Calls Try.prog 6 #[v, .int .i64 n, kv] w (LawPost w) := by
  have hok : ∀ x ∈ l, x.ok := by obtain ⟨A, c, _, _, hok, _⟩ := h; exact hok
  have hk' := hk
  have h' := h
  obtain ⟨KA, kc, rfl⟩ := argI_len hk
  obtain ⟨A, ac, rfl, hml, _, _⟩ := h
  have HOK := Lib.hid (And.intro hok (And.intro h' hk'))
  clear hok h' hk' hk
  go_enter Try.func6, Try.ntmps6
  go_wp2_with fail
  refine (small_any (L := L0)).mono ?_
  rintro e w1 ⟨rfl, L1, f1⟩
  go_wp2_with fail
  refine (few_any (HOK.out.2.1.keep f1)).mono ?_
  rintro e w2 ⟨rfl, rfl⟩
  cases hfew : fewB l
  · go_wp2_with fail
    go_ret
    exact law_head f1
  by_cases h60 : 60 < keep.length
  · go_wp2_with fail
    go_ret
    exact law_head f1
  by_cases h1 : n < 1
  · go_wp2_with fail
    go_ret
    exact law_head f1
  by_cases h2 : 60 < n
  · go_wp2_with fail
    go_ret
    exact law_head f1
  have HF := Lib.hid hfew
  clear hfew
  go_wp2_with fail
  refine (New_any (L := L1) 0).mono ?_
  rintro e w2 ⟨d, L2, rfl, d2, f2⟩
  go_wp2_with fail
  refine (New_any (L := L2) 1).mono ?_
  rintro e w3 ⟨c, L3, rfl, c3, f3⟩
  have d3 := d2.keep f2.fresh f3 (fun _ hh => hh)
  have g3 := ((f1.mono mt).trans (f2.mono mt)).trans (f3.mono (M' := MT) mt)
  go_wp2_with fail
  have hld : L3 d = some (0, .disk) := by obtain ⟨mb, pv, kv, fb, hd, _⟩ := d3; exact hd
  refine (Arm_any n _ keep g3.fresh d3 ((HOK.out.2.2.keep g3).rd) ((HOK.out.2.2.keep g3).far hld) (by omega)).mono ?_
  rintro e w4 ⟨rfl, L4, d4, f4⟩
  have c4 := c3.keep g3.fresh f4 (na (by decide))
  have g4 := g3.trans (f4.mono (M' := MT) mt)
  have i4 : Inv (St.new.arm n keep) := Inv.new.arm (by omega) (by omega)
  go_wp2_with fail
  go_loopw [10, 11] (fun cv i wr => ∃ (j cn : Nat) (L5 : Lab) (s u : St), j ≤ l.length ∧ cn ≤ j ∧ i = .int .i64 j ∧ cv = .int .i64 cn ∧ DAt L5 wr 0 d s ∧ DAt L5 wr 1 c u ∧ Fr MT L0 w L5 wr ∧ Hid (Inv s ∧ Inv u ∧ (PhA n keep cn s u ∨ PhB n cn s u))) (fun _ i _ => l.length - (intOf i).toNat)
  case atStart => exact ⟨0, 0, L4, _, _, Nat.zero_le _, Nat.le_refl _, rfl, rfl, d4, c4, g4, i4, Inv.new, Or.inl (phA_new (by omega))⟩
  case round =>
    obtain ⟨j, cn, L5, s, u, hj, hcj, rfl, rfl, d5, c5, g5, HS⟩ := hrel
    by_cases hlt : j < l.length
    · obtain ⟨A', c', e', _, _, hcc⟩ := HOK.out.2.1.keep g5
      injection e' with e1 _ e2
      subst e1; subst e2
      obtain ⟨b, off, rfl, hlb, hb, hcc⟩ := hcc (by omega)
      have hall := hcc j hlt
      obtain ⟨kv, c0, c1, c2, c3', c4', ha⟩ := hall
      have hin : l[j] ∈ l := List.getElem_mem hlt
      obtain ⟨a, hae⟩ : ∃ a, l[j] = a := ⟨_, rfl⟩
      rw [hae] at c0 c1 c2 c3' ha hin
      have hfm := fewB_mem HF.out a hin
      have HAA := Lib.hid (And.intro hin hfm)
      have hb7 := bits_seven a.act
      obtain ⟨m, hm⟩ : ∃ m, m = a.act % 8 := ⟨_, rfl⟩
      have hm8 : 0 ≤ m ∧ m < 8 := by omega
      rw [← hm] at hb7
      have HM := Lib.hid hm
      have HCC := Lib.hid (And.intro hcc hae)
      clear hm hae hcc hfm hin
      have DO : ∀ (L6 : Lab) (w6 : World) (k x : Nat) (z : St), Fresh L6 w6 → DAt L6 w6 k x z → Inv z → ArgI L6 w6 kv a.keep → Calls Try.prog 12 #[.pointer (some ⟨x, 0, none⟩), .agg #[.int .i64 a.act, .int .i64 a.f, .int .i64 a.n, .string a.s, kv]] w6 (CallPost L6 w6 k x (z.act a)) :=
        fun L6 w6 k x z q1 q2 q3 q4 => do_any a kv q1 q2 q3 (HOK.out.1 a HAA.out.1) (by have := HAA.out.2; omega) (by have := HAA.out.2; omega) q4
      have HDO := Lib.hid DO
      clear DO
      by_cases h4 : 4 < m
      · go_wp2_with fail
        go_ret
        exact law_head g5
      rcases HS.out.2.2 with hA | hB
      · -- before the scheduled crash
        have hlt' := hA.lt
        by_cases hm4 : m = 4
        · have hnm : ¬ m < 4 := by omega
          have hst := phA_lose hA (a := a) (by rw [← HM.out]; exact hm4)
          have HST := Lib.hid hst
          clear hst
          have HA := Lib.hid hA
          clear hA
          go_wp2_with fail
          refine (HDO.out _ _ _ _ _ g5.fresh d5 HS.out.1 ha).mono ?_
          rintro e w6 ⟨rfl, L6, d6, f6⟩
          have c6 := c5.keep g5.fresh f6 (na (by decide))
          have g6 := g5.trans (f6.mono (M' := MT) mt)
          have ha6 := ha.keep f6
          have z0 := (f6.cell_none hlb hb c0)
          have z1 := (f6.cell_none hlb hb c1)
          have z2 := (f6.cell_none hlb hb c2)
          have z3 := (f6.cell_none hlb hb c3')
          have z4 := (f6.cell_none hlb hb c4')
          go_wp2_with fail
          refine (HDO.out _ _ _ _ _ g6.fresh c6 HS.out.2.1 ha6).mono ?_
          rintro e w7 ⟨rfl, L7, c7, f7⟩
          have d7 := d6.keep g6.fresh f7 (na (by decide))
          have g7 := g6.trans (f7.mono (M' := MT) mt)
          rw [HST.out.1]
          go_wp2_with fail
          go_roundw
          case rel => exact ⟨j + 1, cn, L7, _, _, by omega, by omega, by go_num, rfl, d7, c7, g7, play_one HOK.out.1 HF.out HS.out.1 HAA.out.1, play_one HOK.out.1 HF.out HS.out.2.1 HAA.out.1, Or.inl HST.out.2⟩
          case measure => simp [intOf]; omega
        · have hnm : m < 4 := by omega
          by_cases hc1 : (cn : Int) + 1 < n
          · have hst := phA_step hA (a := a) (by rw [← HM.out]; exact hnm) hc1
            have HST := Lib.hid hst
            clear hst
            have HA := Lib.hid hA
            clear hA
            go_wp2_with fail
            refine (HDO.out _ _ _ _ _ g5.fresh d5 HS.out.1 ha).mono ?_
            rintro e w6 ⟨rfl, L6, d6, f6⟩
            have c6 := c5.keep g5.fresh f6 (na (by decide))
            have g6 := g5.trans (f6.mono (M' := MT) mt)
            have ha6 := ha.keep f6
            have z0 := (f6.cell_none hlb hb c0)
            have z1 := (f6.cell_none hlb hb c1)
            have z2 := (f6.cell_none hlb hb c2)
            have z3 := (f6.cell_none hlb hb c3')
            have z4 := (f6.cell_none hlb hb c4')
            go_wp2_with fail
            refine (HDO.out _ _ _ _ _ g6.fresh c6 HS.out.2.1 ha6).mono ?_
            rintro e w7 ⟨rfl, L7, c7, f7⟩
            have d7 := d6.keep g6.fresh f7 (na (by decide))
            have g7 := g6.trans (f7.mono (M' := MT) mt)
            rw [HST.out.1]
            go_wp2_with fail
            go_roundw
            case rel => exact ⟨j + 1, cn + 1, L7, _, _, by omega, by omega, by go_num, by go_num, d7, c7, g7, play_one HOK.out.1 HF.out HS.out.1 HAA.out.1, play_one HOK.out.1 HF.out HS.out.2.1 HAA.out.1, Or.inl (by have := HST.out.2; simpa using this)⟩
            case measure => simp [intOf]; omega
          · have hcn : (cn : Int) + 1 = n := by omega
            have hst := phA_hit hA (a := a) (by rw [← HM.out]; exact hnm) hcn
            have HST := Lib.hid hst
            clear hst
            have HA := Lib.hid hA
            clear hA
            by_cases hm2 : m < 2
            · go_wp2_with fail
              refine (HDO.out _ _ _ _ _ g5.fresh d5 HS.out.1 ha).mono ?_
              rintro e w6 ⟨rfl, L6, d6, f6⟩
              have c6 := c5.keep g5.fresh f6 (na (by decide))
              have g6 := g5.trans (f6.mono (M' := MT) mt)
              have ha6 := ha.keep f6
              have z0 := (f6.cell_none hlb hb c0)
              have z1 := (f6.cell_none hlb hb c1)
              have z2 := (f6.cell_none hlb hb c2)
              have z3 := (f6.cell_none hlb hb c3')
              have z4 := (f6.cell_none hlb hb c4')
              rw [HST.out.1]
              go_wp2_with fail
              refine (HDO.out _ _ _ _ _ g6.fresh c6 HS.out.2.1 ha6).mono ?_
              rintro e w7 ⟨rfl, L7, c7, f7⟩
              have d7 := d6.keep g6.fresh f7 (na (by decide))
              have g7 := g6.trans (f7.mono (M' := MT) mt)
              have iu := play_one HOK.out.1 HF.out HS.out.2.1 HAA.out.1
              have hph := HST.out.2.1 (by rw [← HM.out]; exact hm2)
              go_wp2_with fail
              refine (crash_any _ keep g7.fresh c7 iu ((HOK.out.2.2.keep g7).kat 1)).mono ?_
              rintro e w8 ⟨rfl, L8, c8, f8⟩
              have d8 := d7.keep g7.fresh f8 (na (by decide))
              have g8 := g7.trans (f8.mono (M' := MT) mt)
              go_wp2_with fail
              refine (down_any d8).mono ?_
              rintro e w9 ⟨rfl, rfl⟩
              rw [hph.sd]
              go_wp2_with fail
              go_roundw
              case rel => exact ⟨j + 1, cn + 1, L8, _, _, by omega, by omega, by go_num, by go_num, d8, c8, g8, play_one HOK.out.1 HF.out HS.out.1 HAA.out.1, iu.crash _, Or.inr (by simpa [hcn] using hph)⟩
              case measure => simp [intOf]; omega
            · go_wp2_with fail
              refine (HDO.out _ _ _ _ _ g5.fresh d5 HS.out.1 ha).mono ?_
              rintro e w6 ⟨rfl, L6, d6, f6⟩
              have c6 := c5.keep g5.fresh f6 (na (by decide))
              have g6 := g5.trans (f6.mono (M' := MT) mt)
              have ha6 := ha.keep f6
              have z0 := (f6.cell_none hlb hb c0)
              have z1 := (f6.cell_none hlb hb c1)
              have z2 := (f6.cell_none hlb hb c2)
              have z3 := (f6.cell_none hlb hb c3')
              have z4 := (f6.cell_none hlb hb c4')
              rw [HST.out.1]
              have hph := HST.out.2.2 (by rw [← HM.out]; exact hm2)
              go_wp2_with fail
              refine (crash_any _ keep g6.fresh c6 HS.out.2.1 ((HOK.out.2.2.keep g6).kat 1)).mono ?_
              rintro e w8 ⟨rfl, L8, c8, f8⟩
              have d8 := d6.keep g6.fresh f8 (na (by decide))
              have g8 := g6.trans (f8.mono (M' := MT) mt)
              go_wp2_with fail
              refine (down_any d8).mono ?_
              rintro e w9 ⟨rfl, rfl⟩
              rw [hph.sd]
              go_wp2_with fail
              go_roundw
              case rel => exact ⟨j + 1, cn + 1, L8, _, _, by omega, by omega, by go_num, by go_num, d8, c8, g8, play_one HOK.out.1 HF.out HS.out.1 HAA.out.1, HS.out.2.1.crash _, Or.inr (by simpa [hcn] using hph)⟩
              case measure => simp [intOf]; omega
      · -- after it
        have hle := hB.le
        by_cases hm4 : m = 4
        · have hnm : ¬ m < 4 := by omega
          have hst := phB_step hB (a := a) (c' := cn) (by rw [← HM.out]; omega) (Int.le_refl _)
          have HST := Lib.hid hst
          clear hst
          have HA := Lib.hid hB
          clear hB
          by_cases hcn : (cn : Int) = n
          · go_wp2_with fail
            refine (HDO.out _ _ _ _ _ g5.fresh d5 HS.out.1 ha).mono ?_
            rintro e w6 ⟨rfl, L6, d6, f6⟩
            have c6 := c5.keep g5.fresh f6 (na (by decide))
            have g6 := g5.trans (f6.mono (M' := MT) mt)
            go_wp2_with fail
            refine (down_any d6).mono ?_
            rintro e w9 ⟨rfl, rfl⟩
            rw [HST.out.2.sd]
            go_wp2_with fail
            refine (down_any d6).mono ?_
            rintro e w9 ⟨rfl, rfl⟩
            rw [HST.out.2.sd]
            go_wp2_with fail
            go_roundw
            case rel => exact ⟨j + 1, cn, L6, _, _, by omega, by omega, by go_num, by rw [hcn], d6, c6, g6, play_one HOK.out.1 HF.out HS.out.1 HAA.out.1, HS.out.2.1, Or.inr HST.out.2⟩
            case measure => simp [intOf]; omega
          · go_wp2_with fail
            refine (HDO.out _ _ _ _ _ g5.fresh d5 HS.out.1 ha).mono ?_
            rintro e w6 ⟨rfl, L6, d6, f6⟩
            have c6 := c5.keep g5.fresh f6 (na (by decide))
            have g6 := g5.trans (f6.mono (M' := MT) mt)
            go_wp2_with fail
            refine (down_any d6).mono ?_
            rintro e w9 ⟨rfl, rfl⟩
            rw [HST.out.2.sd]
            go_wp2_with fail
            go_roundw
            case rel => exact ⟨j + 1, cn, L6, _, _, by omega, by omega, by go_num, rfl, d6, c6, g6, play_one HOK.out.1 HF.out HS.out.1 HAA.out.1, HS.out.2.1, Or.inr HST.out.2⟩
            case measure => simp [intOf]; omega
        · have hnm : m < 4 := by omega
          have hst := phB_step hB (a := a) (c' := (cn : Int) + 1) (by rw [← HM.out]; omega) (by omega)
          have HST := Lib.hid hst
          clear hst
          have HA := Lib.hid hB
          clear hB
          have hcn : ¬ (cn : Int) + 1 = n := by omega
          go_wp2_with fail
          refine (HDO.out _ _ _ _ _ g5.fresh d5 HS.out.1 ha).mono ?_
          rintro e w6 ⟨rfl, L6, d6, f6⟩
          have c6 := c5.keep g5.fresh f6 (na (by decide))
          have g6 := g5.trans (f6.mono (M' := MT) mt)
          rw [HST.out.1 (by rw [← HM.out]; exact hnm)]
          go_wp2_with fail
          refine (down_any d6).mono ?_
          rintro e w9 ⟨rfl, rfl⟩
          rw [HST.out.2.sd]
          go_wp2_with fail
          go_roundw
          case rel => exact ⟨j + 1, cn + 1, L6, _, _, by omega, by omega, by go_num, by go_num, d6, c6, g6, play_one HOK.out.1 HF.out HS.out.1 HAA.out.1, HS.out.2.1, Or.inr (by have := HST.out.2; simpa using this)⟩
          case measure => simp [intOf]; omega
    · have hje : j = l.length := by omega
      subst hje
      have hlike : s.now = u.now ∧ s.down = u.down := by
        rcases HS.out.2.2 with hA | hB
        · rw [hA.eq]; exact ⟨rfl, rfl⟩
        · exact ⟨hB.now, by rw [hB.sd, hB.ud]⟩
      have HL := Lib.hid hlike
      clear hlike
      go_wp2_with fail
      refine (alike_any g5.fresh d5 c5 HL.out.1 HL.out.2 (HOK.out.2.1.keep g5)).mono ?_
      rintro e w6 ⟨rfl, n6, rfl⟩
      have g6 := g5.trans (fr_drewN g5.fresh n6)
      have d6 := d5.drewN g5.fresh n6
      have c6 := c5.drewN g5.fresh n6
      go_wp2_with fail
      refine (start_any g6.fresh d6).mono ?_
      rintro e w7 ⟨rfl, d7, f7⟩
      have c7 := c6.keep g6.fresh f7 (md_no (by decide))
      have g7 := g6.trans (f7.mono (M' := MT) mt)
      go_wp2_with fail
      refine (start_any g7.fresh c7).mono ?_
      rintro e w8 ⟨rfl, c8, f8⟩
      have d8 := d7.keep g7.fresh f8 (md_no (by decide))
      have g8 := g7.trans (f8.mono (M' := MT) mt)
      go_wp2_with fail
      refine (alike_any (s := s.start) (u := u.start) g8.fresh d8 c8 HL.out.1 rfl (HOK.out.2.1.keep g8)).mono ?_
      rintro e w9 ⟨rfl, n9, rfl⟩
      go_wp2_with fail
      go_ret
      exact law_head (g8.trans (fr_drewN g8.fresh n9))

end Go.Proofs.Ytfjgcffoknclhaa
