/- The reference's Kernel. Walk of Check. The reference's Check. -/
import Derived.Test.YtgpmmpajnfbecaaGreatXbt
import Derived.Test.YtgpmmpajnfbecaaGreatXbu
import Derived.Test.YtgpmmpajnfbecaaGreatXbr

namespace Go.Proofs.YtgpmmpajnfbecaaGreat
open Go.RowKit

theorem firstNZ_zero {X : List (List Rat)} {c r m : Nat} (h : firstNZ X c r m = none) : ∀ j, j < m → (X.getD (r + j) []).getD c 0 = 0 := by
  induction m generalizing r with
  | zero => intro j hj; omega
  | succ m ih =>
    intro j hj
    rw [firstNZ] at h
    by_cases h0 : (X.getD r []).getD c 0 = 0
    · rw [if_pos h0] at h
      cases j with
      | zero => simpa using h0
      | succ j =>
        have := ih h j (by omega)
        rwa [show r + 1 + j = r + (j + 1) by omega] at this
    · rw [if_neg h0] at h
      cases h
theorem runFree_zero {m c : Nat} {X Y : List (List Rat)} {k : Nat} (h : runFree m c X = some (k, Y)) (hk : k < c + m) : ∀ j, k ≤ j → j < Y.length → (Y.getD j []).getD k 0 = 0 := by
  induction m generalizing c X with
  | zero => simp [runFree] at h; omega
  | succ m ih =>
    rw [runFree] at h
    cases he : elimS X c c with
    | none => rw [he] at h; cases h
    | some p =>
      obtain ⟨b, Z⟩ := p
      rw [he] at h
      cases b with
      | false =>
        simp at h
        obtain ⟨rfl, rfl⟩ := h
        unfold elimS at he
        cases hn : firstNZ X c c (X.length - c) with
        | none =>
          rw [hn] at he
          simp at he
          subst he
          intro j hj hl
          have := firstNZ_zero hn (j - c) (by omega)
          rwa [show c + (j - c) = j by omega] at this
        | some q =>
          rw [hn] at he
          simp only at he
          cases hd : divL (((swapR [] X c q).getD c []).getD c 0) ((swapR [] X c q).getD c []) with
          | none => rw [hd] at he; cases he
          | some p =>
            rw [hd] at he
            simp at he
      | true => exact ih h (by omega)
/-- What the kernel has at the place j. -/
def kerV (Y : List (List Rat)) (k j : Nat) : Rat := if j = k then 1 else 0 - (Y.getD j []).getD k 0

set_option maxRecDepth 100000 in
set_option maxHeartbeats 8000000 in
theorem rlkernel_any {A : Option Addr} {m cap : Nat} {n : Int} {rs : List Rd} (w : World) (h : RdsAt w A rs) (hm : rs.length = m) (hmm : m ≤ 1000000) :
    Calls Tryz.prog 10 #[.slice A m cap, .int .i64 n] w fun e w' => Below w.heap.size w w' ∧
      ((¬ SysR rs n ∧ e = .returned (.tuple #[.slice none 0 0, .bool false])) ∨ (SysR rs n ∧ runFree m 0 (rs.map Rd.q) = none ∧ e = .returned (.tuple #[.slice none 0 0, .bool false])) ∨
        (SysR rs n ∧ (∃ Y : List (List Rat), runFree m 0 (rs.map Rd.q) = some (m, Y)) ∧ e = .returned (.tuple #[.slice none 0 0, .bool false])) ∨
        (SysR rs n ∧ ∃ (k : Nat) (Y : List (List Rat)) (Ao : Option Addr) (co : Nat), runFree m 0 (rs.map Rd.q) = some (k, Y) ∧ k < m ∧ e = .returned (.tuple #[.slice Ao m co, .bool true]) ∧ QsAt w' Ao ((List.range m).map (kerV Y k)))) := by
  have HD := Lib.hid h; clear h
  have HM := Lib.hid hm; clear hm
  go_enter Tryz.func10, Tryz.ntmps10
  go_wp2_with fail
  by_cases hs : SysR rs n
  rotate_left
  · (with_reducible refine (rlright_any w HD.out HM.out hmm false ⟨fun h => (by cases h), fun h => absurd h hs⟩).mono ?_)
    rintro e u1 ⟨rfl, hb1⟩
    have HS := Lib.hid hs; clear hs
    go_wp2_with fail
    go_ret2
    exact ⟨hb1, .inl ⟨HS.out, rfl⟩⟩
  (with_reducible refine (rlright_any w HD.out HM.out hmm true ⟨fun _ => hs, fun _ => rfl⟩).mono ?_)
  rintro e u1 ⟨rfl, hb1⟩
  have HS := Lib.hid hs
  have h40 : m ≤ 40 := by have := hs.2.1; rwa [HM.out] at this
  have hnm : n = (m : Int) := by have := hs.1; rw [HM.out] at this; exact this.symm
  have hR : ∀ k, k < m → (rs.getD k rnil).R m := fun k hk => by have := hs.2.2 k (by rw [HM.out]; exact hk); rwa [HM.out] at this
  clear hs
  subst hnm
  go_wp2_with fail
  have hrt := runE_true m 0 (rs.map Rd.q)
  (with_reducible refine (elimd_any true u1 (HD.out.below hb1) HM.out h40 hR).mono ?_)
  rintro e u2 ⟨hb2, ⟨hn, mv, fv, rfl⟩ | ⟨fr, Y, mv, fv, hsm, rfl, hown, hfl, hrows⟩⟩
  · have hbb := Lib.hid (hb1.trans (hb2.mono hb1.size))
    have hres := Lib.hid (show runFree m 0 (rs.map Rd.q) = none by
      rw [hn] at hrt
      cases hq : runFree m 0 (rs.map Rd.q) with
      | none => rfl
      | some q => rw [hq] at hrt; cases hrt)
    clear hn hb1 hb2 hR hrt
    go_wp2_with fail
    go_ret2
    exact ⟨hbb.out, .inr (.inl ⟨HS.out, hres.out, rfl⟩)⟩
  have hbb := hb1.trans (hb2.mono hb1.size)
  obtain ⟨Af, cf, hfv, -, -, hints⟩ := hown.at_
  obtain ⟨k, hk, hfr⟩ : ∃ k, runFree m 0 (rs.map Rd.q) = some (k, Y) ∧ fr = if k < m then [(k : Int)] else [] := by
    rw [hsm] at hrt
    cases hq : runFree m 0 (rs.map Rd.q) with
    | none => rw [hq] at hrt; cases hrt
    | some q =>
      obtain ⟨k, Z⟩ := q
      rw [hq] at hrt
      simp at hrt
      obtain ⟨h1, rfl⟩ := hrt
      exact ⟨k, rfl, h1⟩
  have hkm := runFree_le hk
  by_cases hkl : k < m
  rotate_left
  · have : k = m := by omega
    subst this
    rw [if_neg hkl] at hfr
    rw [hfr] at hfv
    subst hfv
    have hres := Lib.hid hk
    have hbb' := Lib.hid hbb
    clear hsm hb1 hb2 hR hown hrt hrows hk hbb hfr hints
    go_wp2_with fail
    go_ret2
    exact ⟨hbb'.out, .inr (.inr (.inl ⟨HS.out, ⟨Y, hres.out⟩, rfl⟩))⟩
  rw [if_pos hkl] at hfr
  rw [hfr] at hfv hints
  obtain ⟨bf, of, rfl, hbf, cf0⟩ := hints 0 (by simp)
  simp at cf0
  have hres := Lib.hid hk
  obtain ⟨M, cp, rows, rfl, hR0⟩ := hrows (by omega)
  have hzr := runFree_zero hk (by omega)
  have HZR := Lib.hid (fun j (h1 : k ≤ j) (h2 : j < m) => hzr j h1 (by rw [hR0.xl]; exact h2))
  have HR0 := Lib.hid hR0
  subst hfv
  clear hsm hb1 hb2 hR hown hrt hrows hk hfr hzr hR0 hints
  go_wp2_with fail
  clear cf0
  (with_reducible refine (rfof_y 0 _ (by decide) (by decide) (by rw [ab_zero]; exact pw_pos 60)).mono ?_)
  rintro e u3 ⟨⟨z1, Z1, zn1, zc1, z2, Z2, zn2, zc2⟩, rfl, hoz, rbz, hb3⟩
  go_wp2_with fail
  have hbA : Below u3.heap.size u3 (u3.alloc (.cells #[.int .i64 z1, .slice Z1 zn1 zc1, .int .i64 z2, .slice Z2 zn2 zc2] 41)) := (Below.refl _ _).alloc (Nat.le_refl _) _
  have kz := Blk.new u3 41 #[.int .i64 z1, .slice Z1 zn1 zc1, .int .i64 z2, .slice Z2 zn2 zc2]
  have hfz : FA (fun _ => False) (u3.alloc (.cells #[.int .i64 z1, .slice Z1 zn1 zc1, .int .i64 z2, .slice Z2 zn2 zc2] 41)) ⟨z1, Z1, zn1, zc1, z2, Z2, zn2, zc2⟩ 0 := (FA.own (f := ⟨z1, Z1, zn1, zc1, z2, Z2, zn2, zc2⟩) hoz (fun _ h => h.elim) rbz).below hbA
  have hb24 := hb3.trans (hbA.mono hb3.size)
  obtain ⟨G10, hG10⟩ : ∃ G, u3.heap.size = G := ⟨_, rfl⟩
  rw [hG10] at kz ⊢
  generalize u3.alloc (.cells #[.int .i64 z1, .slice Z1 zn1 zc1, .int .i64 z2, .slice Z2 zn2 zc2] 41) = u4 at *
  clear hbA hoz rbz hb3 hG10
  (with_reducible refine (rfof_y 1 _ (by decide) (by decide) (by decide)).mono ?_)
  rintro e u5 ⟨⟨y1, Y1, yn1, yc1, y2, Y2, yn2, yc2⟩, rfl, hoy, rby, hb5⟩
  go_wp2_with fail
  have hbA : Below u5.heap.size u5 (u5.alloc (.cells #[.int .i64 y1, .slice Y1 yn1 yc1, .int .i64 y2, .slice Y2 yn2 yc2] 41)) := (Below.refl _ _).alloc (Nat.le_refl _) _
  have ky := Blk.new u5 41 #[.int .i64 y1, .slice Y1 yn1 yc1, .int .i64 y2, .slice Y2 yn2 yc2]
  have hfy : FA (fun _ => False) (u5.alloc (.cells #[.int .i64 y1, .slice Y1 yn1 yc1, .int .i64 y2, .slice Y2 yn2 yc2] 41)) ⟨y1, Y1, yn1, yc1, y2, Y2, yn2, yc2⟩ 1 := (FA.own (f := ⟨y1, Y1, yn1, yc1, y2, Y2, yn2, yc2⟩) hoy (fun _ h => h.elim) rby).below hbA
  have hb46 := hb5.trans (hbA.mono hb5.size)
  obtain ⟨G12, hG12⟩ : ∃ G, u5.heap.size = G := ⟨_, rfl⟩
  rw [hG12] at ky ⊢
  generalize u5.alloc (.cells #[.int .i64 y1, .slice Y1 yn1 yc1, .int .i64 y2, .slice Y2 yn2 yc2] 41) = u6 at *
  have kz6 := kz.below hb46 kz.lt
  have hfz6 := hfz.below hb46
  have hb26 := hb24.trans (hb46.mono hb24.size)
  have HR6 := Lib.hid (HR0.out.below hb26)
  have hbb6 := Lib.hid (hbb.trans (hb26.mono hbb.size))
  have HK := Lib.hid (And.intro kz6 (And.intro ky (And.intro hfz6 hfy)))
  clear hbA hoy rby hb5 hG12 kz ky hfz hfy kz6 hfz6 hb46 hb24 hb26 HR0 hbb
  go_loopw [15, 14] (fun iv vo wr => ∃ (i : Nat) (fs : List Fc), i ≤ m ∧ iv = .int .i64 i ∧ Below u6.heap.size u6 wr ∧ Hid (OutI wr u6.heap.size vo fs ((List.range i).map (kerV Y k)))) (fun iv _ _ => m - (intOf iv).toNat)
  case atStart => exact ⟨0, [], Nat.zero_le _, rfl, Below.refl _ _, Lib.hid (OutI.nil _ _)⟩
  case round =>
    obtain ⟨i, fs, hi, rfl, hbr, hO⟩ := hrel
    obtain ⟨vo, hvo⟩ : ∃ v, u14 = v := ⟨_, rfl⟩
    rw [hvo] at hO ⊢
    clear hvo
    have hfl9 := hO.out.len
    rw [List.length_map, List.length_range] at hfl9
    by_cases hgo : i < m
    rotate_left
    · have : i = m := by omega
      subst this
      obtain ⟨Ao, co, hvo, hq⟩ := hO.out.done
      rw [List.length_map, List.length_range] at hvo
      subst hvo
      have hfin := Lib.hid (And.intro (hbb6.out.trans (hbr.mono hbb6.out.size)) hq)
      clear hO hq
      go_wp2_with fail
      go_ret2
      first | exact ⟨hfin.out.1, .inr (.inr (.inr ⟨HS.out, k, Y, hres.out, hkl, Ao, ⟨co, rfl⟩, hfin.out.2⟩))⟩ | exact ⟨hfin.out.1, .inr (.inr (.inr ⟨HS.out, k, Y, Ao, hres.out, hkl, ⟨co, rfl⟩, hfin.out.2⟩))⟩ | exact ⟨hfin.out.1, .inr (.inr (.inr ⟨HS.out, k, Y, Ao, co, hres.out, hkl, rfl, hfin.out.2⟩))⟩
    have kzr := HK.out.1.below hbr HK.out.1.lt
    have kyr := HK.out.2.1.below hbr HK.out.2.1.lt
    have hlow : ∀ b, some b = vo.ownBlock → False ∨ u6.heap.size ≤ b := fun b hb => .inr (hO.out.own.own_lt hb).1
    have hfzr : FA (fun b => some b = vo.ownBlock) wr ⟨z1, Z1, zn1, zc1, z2, Z2, zn2, zc2⟩ 0 := ((HK.out.2.2.1.up).below hbr).less hlow
    have hfyr : FA (fun b => some b = vo.ownBlock) wr ⟨y1, Y1, yn1, yc1, y2, Y2, yn2, yc2⟩ 1 := ((HK.out.2.2.2.up).below hbr).less hlow
    have hO' := Lib.hid hO.out
    clear hO
    by_cases hik : i = k
    · subst hik
      have hv : kerV Y i i = 1 := if_pos rfl
      have a0 := kyr.cell 0
      have a1 := kyr.cell 1
      have a2 := kyr.cell 2
      have a3 := kyr.cell 3
      simp at a0 a1 a2 a3
      have hl12 := kyr.lt
      have HF := Lib.hid hfyr
      clear kzr kyr hfzr hfyr
      go_wp2_with (at_builtin; refine appF_at rfl (.tmp 75) (.tmp 77) rfl u6.heap.size vo fs [⟨y1, Y1, yn1, yc1, y2, Y2, yn2, yc2⟩] (some ⟨wr.heap.size, 0, none⟩) 1 1 rfl (hO'.out.own.below ((Below.refl _ _).alloc (Nat.le_refl _) _)) rfl rfl (lit_fc wr ⟨y1, Y1, yn1, yc1, y2, Y2, yn2, yc2⟩) (by rw [hfl9]; omega) (by have h1 := hbr.size; simp; omega) ?_; intro v7 w7 hown7 hg7 hat7)
      have hnx : Hid (OutI w7 u6.heap.size v7 (fs ++ [⟨y1, Y1, yn1, yc1, y2, Y2, yn2, yc2⟩]) ((List.range (i + 1)).map (kerV Y i))) := Lib.hid (by
        rw [List.range_succ, List.map_append, List.map_cons, List.map_nil, hv]
        exact hO'.out.step ((Below.refl _ _).alloc (Nat.le_refl _) _) hown7 hg7 (by simpa using hat7) HF.out)
      have hb7 : Below u6.heap.size u6 w7 := grown_belF (hbr.alloc hbr.size _) (hO'.out.own.below ((Below.refl _ _).alloc (Nat.le_refl _) _)) hg7 (Nat.le_refl _)
      clear hown7 hg7 hat7 hO' HF a0 a1 a2 a3
      go_roundw
      case rel => exact ⟨i + 1, _, by omega, rfl, hb7, hnx⟩
      case measure => simp [intOf]; omega
    by_cases hlt : i < k
    rotate_left
    · have hv : kerV Y k i = 0 := by
        unfold kerV
        rw [if_neg hik, HZR.out i (by omega) hgo]
        grind
      have hkne : ((i : Int) == (k : Int)) = false := by rw [beq_eq_false_iff_ne]; omega
      have a0 := kzr.cell 0
      have a1 := kzr.cell 1
      have a2 := kzr.cell 2
      have a3 := kzr.cell 3
      simp at a0 a1 a2 a3
      have hl12 := kzr.lt
      have HF := Lib.hid hfzr
      clear kzr kyr hfzr hfyr
      go_wp2_with (at_builtin; refine appF_at rfl (.tmp 79) (.tmp 81) rfl u6.heap.size vo fs [⟨z1, Z1, zn1, zc1, z2, Z2, zn2, zc2⟩] (some ⟨wr.heap.size, 0, none⟩) 1 1 rfl (hO'.out.own.below ((Below.refl _ _).alloc (Nat.le_refl _) _)) rfl rfl (lit_fc wr ⟨z1, Z1, zn1, zc1, z2, Z2, zn2, zc2⟩) (by rw [hfl9]; omega) (by have h1 := hbr.size; simp; omega) ?_; intro v7 w7 hown7 hg7 hat7)
      have hnx : Hid (OutI w7 u6.heap.size v7 (fs ++ [⟨z1, Z1, zn1, zc1, z2, Z2, zn2, zc2⟩]) ((List.range (i + 1)).map (kerV Y k))) := Lib.hid (by
        rw [List.range_succ, List.map_append, List.map_cons, List.map_nil, hv]
        exact hO'.out.step ((Below.refl _ _).alloc (Nat.le_refl _) _) hown7 hg7 (by simpa using hat7) HF.out)
      have hb7 : Below u6.heap.size u6 w7 := grown_belF (hbr.alloc hbr.size _) (hO'.out.own.below ((Below.refl _ _).alloc (Nat.le_refl _) _)) hg7 (Nat.le_refl _)
      clear hown7 hg7 hat7 hO' HF a0 a1 a2 a3
      go_roundw
      case rel => exact ⟨i + 1, _, by omega, rfl, hb7, hnx⟩
      case measure => simp [intOf]; omega
    have hv : kerV Y k i = 0 - (Y.getD i []).getD k 0 := if_neg hik
    have hRr := HR6.out.below hbr
    obtain ⟨p0, -, -, -, -⟩ := hRr.cells hgo
    have hrow := hRr.row i hgo
    have hMl := hRr.lt
    have hpn := hrow.n
    obtain ⟨gx, f, hA, hgx, -, c0, c1, c2, c3, hf⟩ := hrow.cells hkl
    obtain ⟨pr, hpr⟩ : ∃ p, rows.getD i rwnil = p := ⟨_, rfl⟩
    rw [hpr] at p0 hA hpn
    clear hpr hrow hRr hfyr kyr
    obtain ⟨pA, pn, pc, pf⟩ := pr
    simp only at p0 hA hpn
    rw [hpn] at p0
    clear hpn
    subst hA
    obtain ⟨s1, A1, n1, d1, s2, A2, n2, d2⟩ := f
    simp only at c0 c1 c2 c3
    have hok := okSub_zero hf.rb
    have HSB := Lib.hid (fun (W' : World) (hb : Below wr.heap.size wr W') => rfsub_y (hfzr.below hb) (hf.below hb) hok)
    have hsm := Lib.hid (show ∀ b, some b = vo.ownBlock → b < wr.heap.size from fun b hb => (hO'.out.own.own_lt hb).2)
    have e0 : ∀ W' : World, Below wr.heap.size wr W' → W'.cell? ⟨G10, 0, none⟩ = some (.int .i64 z1) ∧ W'.cell? ⟨G10, 1, none⟩ = some (.slice Z1 zn1 zc1) ∧ W'.cell? ⟨G10, 2, none⟩ = some (.int .i64 z2) ∧ W'.cell? ⟨G10, 3, none⟩ = some (.slice Z2 zn2 zc2) ∧ W'.cell? ⟨M, i * 5, none⟩ = some (.slice (some ⟨gx, 0, none⟩) m pc) ∧
        W'.cell? ⟨gx, k * 4, none⟩ = some (.int .i64 s1) ∧ W'.cell? ⟨gx, k * 4 + 1, none⟩ = some (.slice A1 n1 d1) ∧ W'.cell? ⟨gx, k * 4 + 2, none⟩ = some (.int .i64 s2) ∧ W'.cell? ⟨gx, k * 4 + 3, none⟩ = some (.slice A2 n2 d2) := fun W' hW =>
      ⟨(kzr.below hW kzr.lt).cell 0, (kzr.below hW kzr.lt).cell 1, (kzr.below hW kzr.lt).cell 2, (kzr.below hW kzr.lt).cell 3, (hW.cell (p := ⟨M, _, none⟩) hMl).trans p0, (hW.cell (p := ⟨gx, _, none⟩) hgx).trans c0, (hW.cell (p := ⟨gx, _, none⟩) hgx).trans c1, (hW.cell (p := ⟨gx, _, none⟩) hgx).trans c2, (hW.cell (p := ⟨gx, _, none⟩) hgx).trans c3⟩
    have E0 := Lib.hid e0; clear e0
    have hB00 : Below wr.heap.size wr wr.drew := (Below.refl _ _).drew
    have hi01 : ((i : Nat) : Int) < ((m : Nat) : Int) := by omega
    have hk01 : ((k : Nat) : Int) < ((m : Nat) : Int) := by omega
    clear hf hfzr kzr p0 c0 c1 c2 c3
    go_upto_region 14 with fail
    go_cut [16, 17] from 55 to 67 (fun p e wx => ∃ (G8 : Nat) (r1 : Int) (C1 : Option Addr) (k1 l1 : Nat) (r2 : Int) (C2 : Option Addr) (k2 l2 : Nat), p = .pointer (some ⟨G8, 0, none⟩) ∧ e = .int .i64 0 ∧ Blk wx G8 41 #[.int .i64 r1, .slice C1 k1 l1, .int .i64 r2, .slice C2 k2 l2] ∧ FA (fun b => some b = vo.ownBlock) wx ⟨r1, C1, k1, l1, r2, C2, k2, l2⟩ (0 - (Y.getD i []).getD k 0) ∧ Below wr.heap.size wr wx)
    case first =>
      go_region_held3 (fun W' => W'.cell? ⟨G10, 0, none⟩ = some (.int .i64 z1) ∧ W'.cell? ⟨G10, 1, none⟩ = some (.slice Z1 zn1 zc1) ∧ W'.cell? ⟨G10, 2, none⟩ = some (.int .i64 z2) ∧ W'.cell? ⟨G10, 3, none⟩ = some (.slice Z2 zn2 zc2) ∧ W'.cell? ⟨M, i * 5, none⟩ = some (.slice (some ⟨gx, 0, none⟩) m pc) ∧
        W'.cell? ⟨gx, k * 4, none⟩ = some (.int .i64 s1) ∧ W'.cell? ⟨gx, k * 4 + 1, none⟩ = some (.slice A1 n1 d1) ∧ W'.cell? ⟨gx, k * 4 + 2, none⟩ = some (.int .i64 s2) ∧ W'.cell? ⟨gx, k * 4 + 3, none⟩ = some (.slice A2 n2 d2))
        (first | (with_reducible exact E0.out _ (below_st4 hB4 (Nat.le_refl _) _ _ _ _)) | (with_reducible exact E0.out _ (below_new hB4 _)) | (with_reducible exact E0.out _ hB4) | (with_reducible exact E0.out _ hB00) | (with_reducible exact E0.out _ (Below.refl _ _)) | exact E0.out _ (below_new hB00 _))
        (first
          | (go_at_call 27; (first | refine (HSB.out _ hB00).mono ?_ | refine (HSB.out _ (below_new hB00 _)).mono ?_); rintro e w4 ⟨⟨r1, C1, k1, l1, r2, C2, k2, l2⟩, rfl, hro, hrb, hb4⟩; have hB4 : Below wr.heap.size wr w4 := (by first | exact ⟨hb4.os, hb4.tape, hb4.output, hb4.size, hb4.block⟩ | exact (below_new hB00 _).trans (hb4.mono (below_new hB00 _).size)); (try (have hk4 : Blk w4 wr.heap.size 41 #[.int .i64 0, .slice none 0 0, .int .i64 0, .slice none 0 0] := blk_run4 (b := wr.drew) hb4; have hlt4 := hk4.lt; have z0 := hk4.cell 0; have z1 := hk4.cell 1; have z2 := hk4.cell 2; have z3 := hk4.cell 3; have y0 := hk4.frozen 0; have y1 := hk4.frozen 1; have y2 := hk4.frozen 2; have y3 := hk4.frozen 3))))
      all_goals
        go_wp2_with fail
        go_meet
        first
          | exact ⟨_, r1, C1, k1, l1, r2, C2, k2, l2, rfl, rfl, hk4.set4 _ _ _ _, fa_st (f := ⟨r1, C1, k1, l1, r2, C2, k2, l2⟩) hk4 hro (by simp) hsm.out (by first | exact hB00.size | exact (below_new hB00 _).size) hrb, below_st4 hB4 (Nat.le_refl _) _ _ _ _⟩
          | exact ⟨_, r1, C1, k1, l1, r2, C2, k2, l2, rfl, rfl, Blk.new _ _ _, fa_new (f := ⟨r1, C1, k1, l1, r2, C2, k2, l2⟩) hro hsm.out (by first | exact hB00.size | exact (below_new hB00 _).size) hrb _, below_new hB4 _⟩
    obtain ⟨G8, r1, C1, k1, l1, r2, C2, k2, l2, rfl, rfl, kq, hq8, hb5⟩ := hcut
    clear E0 hB00 HSB
    have hO5 := Lib.hid (hO'.out.below hb5)
    have hbr5 := hbr.trans (hb5.mono hbr.size)
    have q0 := kq.cell 0
    have q1 := kq.cell 1
    have q2 := kq.cell 2
    have q3 := kq.cell 3
    simp at q0 q1 q2 q3
    have HF := Lib.hid hq8
    clear kq hq8 hb5 hO'
    go_wp2_with (at_builtin; refine appF_at rfl (.tmp 68) (.tmp 70) rfl u6.heap.size vo fs [⟨r1, C1, k1, l1, r2, C2, k2, l2⟩] (some ⟨wc.heap.size, 0, none⟩) 1 1 rfl (hO5.out.own.below ((Below.refl _ _).alloc (Nat.le_refl _) _)) rfl rfl (lit_fc wc ⟨r1, C1, k1, l1, r2, C2, k2, l2⟩) (by rw [hfl9]; omega) (by have h1 := hbr5.size; simp; omega) ?_; intro v7 w7 hown7 hg7 hat7)
    have hnx : Hid (OutI w7 u6.heap.size v7 (fs ++ [⟨r1, C1, k1, l1, r2, C2, k2, l2⟩]) ((List.range (i + 1)).map (kerV Y k))) := Lib.hid (by
      rw [List.range_succ, List.map_append, List.map_cons, List.map_nil, hv]
      exact hO5.out.step ((Below.refl _ _).alloc (Nat.le_refl _) _) hown7 hg7 (by simpa using hat7) HF.out)
    have hb7 : Below u6.heap.size u6 w7 := grown_belF (hbr5.alloc hbr5.size _) (hO5.out.own.below ((Below.refl _ _).alloc (Nat.le_refl _) _)) hg7 (Nat.le_refl _)
    clear hown7 hg7 hat7 hO5 HF q0 q1 q2 q3
    go_roundw
    case rel => exact ⟨i + 1, _, by omega, rfl, hb7, hnx⟩
    case measure => simp [intOf]; omega

end Go.Proofs.YtgpmmpajnfbecaaGreat

namespace Go.Proofs.YtgpmmpajnfbecaaGreat
open Go.RowKit

/-- A list of right fractions that solves a system of n unknowns, each product and sum with room. -/
def SolvesP (rs : List Rd) (xs : List Fd) (n : Int) : Prop :=
  SysR rs n ∧ (xs.length = rs.length ∧ ∀ k, k < xs.length → (xs.getD k dnil).R) ∧ ∀ k, k < rs.length → sumTo ((rs.getD k rnil).A.map Fd.q) (xs.map Fd.q) rs.length = some (rs.getD k rnil).v.q

set_option maxRecDepth 100000 in
set_option maxHeartbeats 8000000 in
theorem lcheck_any {A Ax : Option Addr} {m cap mx cx : Nat} {n : Int} {rs : List Rd} {xs : List Fd} (w : World) (h : RdsAt w A rs) (hm : rs.length = m) (hmm : m ≤ 1000000) (hx : FdsAt w Ax xs) (hxm : xs.length = mx) (hmx : mx ≤ 1000000) (b : Bool) (hb : b = true ↔ SolvesP rs xs n) :
    Calls Tryz.prog 16 #[.slice A m cap, .int .i64 n, .slice Ax mx cx] w fun e w' => e = .returned (.bool b) ∧ Below w.heap.size w w' := by
  have HB := Lib.hid hb; clear hb
  have HD := Lib.hid h; clear h
  have HM := Lib.hid hm; clear hm
  have HX := Lib.hid hx; clear hx
  have HXM := Lib.hid hxm; clear hxm
  go_enter Tryz.func16, Tryz.ntmps16
  go_wp2_with fail
  by_cases hs : SysR rs n
  rotate_left
  · (with_reducible refine (lright_any w HD.out HM.out hmm false ⟨fun h => (by cases h), fun h => absurd h hs⟩).mono ?_)
    rintro e u1 ⟨rfl, hb1⟩
    have hbf : Hid (b = false) := Lib.hid (by
      cases hbv : b with
      | false => rfl
      | true => exact absurd (HB.out.1 hbv).1 hs)
    clear hs
    go_wp2_with fail
    go_ret
    exact ⟨by rw [hbf.out]; rfl, hb1⟩
  (with_reducible refine (lright_any w HD.out HM.out hmm true ⟨fun _ => hs, fun _ => rfl⟩).mono ?_)
  rintro e u1 ⟨rfl, hb1⟩
  have HS := Lib.hid hs
  have h40 : m ≤ 40 := by have := hs.2.1; rwa [HM.out] at this
  have hnm : n = (m : Int) := by have := hs.1; rw [HM.out] at this; exact this.symm
  clear hs
  subst hnm
  have HX1 := Lib.hid (HX.out.below hb1)
  go_wp2_with fail
  by_cases hl : mx = m ∧ ∀ k, k < mx → (xs.getD k dnil).R
  rotate_left
  · (with_reducible refine (isList_any (n := m) _ HX1.out HXM.out hmx (by omega) false ⟨fun h => (by cases h), fun h => absurd h hl⟩).mono ?_)
    rintro e u2 ⟨rfl, hb2⟩
    have hbf : Hid (b = false) := Lib.hid (by
      cases hbv : b with
      | false => rfl
      | true =>
        have h := (HB.out.1 hbv).2.1
        rw [HM.out, HXM.out] at h
        exact absurd h hl)
    clear hl
    go_wp2_with fail
    go_ret
    exact ⟨by rw [hbf.out]; rfl, hb1.trans (hb2.mono hb1.size)⟩
  (with_reducible refine (isList_any (n := m) _ HX1.out HXM.out hmx (by omega) true ⟨fun _ => hl, fun _ => rfl⟩).mono ?_)
  rintro e u2 ⟨rfl, hb2⟩
  have hbl := hb1.trans (hb2.mono hb1.size)
  have HLR := Lib.hid hl.2
  have hmm' := hl.1
  clear hl
  subst hmm'
  clear HX1 hb1 hb2
  go_wp2_with fail
  go_loopw [21] (fun iv wr => ∃ i : Nat, i ≤ mx ∧ iv = .int .i64 i ∧ Below w.heap.size w wr ∧ Hid (∀ k, k < i → sumTo ((rs.getD k rnil).A.map Fd.q) (xs.map Fd.q) mx = some (rs.getD k rnil).v.q)) (fun iv _ => mx - (intOf iv).toNat)
  case atStart => exact ⟨0, Nat.zero_le _, rfl, hbl, Lib.hid fun k hk => by omega⟩
  case round =>
    obtain ⟨i, hi, rfl, hbr, hz⟩ := hrel
    clear hbl
    by_cases hgo : i < mx
    · obtain ⟨bb, off, Aa, ca, f, hA, hBB, c0, c1, c2, c3, c4, hla, hfa, hf⟩ := (HD.out.below hbr) i (by rw [HM.out]; exact hgo)
      subst hA
      have hR : (rs.getD i rnil).R mx := by have := HS.out.2.2 i (by rw [HM.out]; exact hgo); rwa [HM.out] at this
      have hal := hR.1
      have HRA := Lib.hid hR.2.1
      have HRV := Lib.hid hR.2.2
      rw [hal] at c0
      obtain ⟨s1, A1, n1, d1, s2, A2, n2, d2⟩ := f
      simp only at c1 c2 c3 c4
      have hbA : Below wr.heap.size wr (wr.alloc (.cells #[.slice Aa mx ca, .int .i64 s1, .slice A1 n1 d1, .int .i64 s2, .slice A2 n2 d2] 43)) := (Below.refl _ _).alloc (Nat.le_refl _) _
      have hfA := hf.below hbA
      have hfaA := hfa.below hbA
      have hblA := hbr.trans (hbA.mono hbr.size)
      have HXA := HX.out.below hblA
      have HAL := Lib.hid hal
      clear hal
      go_wp2_with fail
      clear c0 c1 c2 c3 c4 hf hfa hbA
      generalize wr.alloc (.cells #[.slice Aa mx ca, .int .i64 s1, .slice A1 n1 d1, .int .i64 s2, .slice A2 n2 d2] 43) = W1 at *
      (with_reducible refine (lholds_any _ hfaA HAL.out HXA HXM.out (by omega) hfA HRA.out HLR.out HRV.out).mono ?_)
      rintro e u3 ⟨rfl, hb3⟩
      have hbb := hblA.trans (hb3.mono hblA.size)
      by_cases hsum : sumTo ((rs.getD i rnil).A.map Fd.q) (xs.map Fd.q) mx = some (rs.getD i rnil).v.q
      · rw [decide_eq_true hsum]
        have HSU := Lib.hid hsum
        clear hsum hfA hfaA HXA hR
        go_wp2_with fail
        go_roundw
        case rel => exact ⟨i + 1, by omega, rfl, hbb, Lib.hid fun k hk => by
          by_cases hki : k < i
          · exact hz.out k hki
          · have : k = i := by omega
            subst this
            exact HSU.out⟩
        case measure => simp [intOf]; omega
      · rw [decide_eq_false hsum]
        have hbf : Hid (b = false) := Lib.hid (by
          cases hbv : b with
          | false => rfl
          | true =>
            have h := (HB.out.1 hbv).2.2 i (by rw [HM.out]; exact hgo)
            rw [HM.out] at h
            exact absurd h hsum)
        clear hsum hfA hfaA HXA hR
        go_wp2_with fail
        go_ret
        exact ⟨by rw [hbf.out]; rfl, hbb⟩
    · have : i = mx := by omega
      subst this
      have hbt : Hid (b = true) := Lib.hid (HB.out.2 ⟨HS.out, ⟨HXM.out.trans HM.out.symm, fun k hk => HLR.out k (by rw [HXM.out] at hk; exact hk)⟩, fun k hk => by rw [HM.out] at hk ⊢; exact hz.out k hk⟩)
      go_wp2_with fail
      go_ret
      exact ⟨by rw [hbt.out]; rfl, hbr⟩

end Go.Proofs.YtgpmmpajnfbecaaGreat

namespace Go.Proofs.YtgpmmpajnfbecaaGreat
open Go.RowKit

/-- What the loop over the products has. -/
structure CkI (w wr : World) (G5 : Nat) (f : Fc) (us xs : List Rat) (s : Rat) (i : Nat) : Prop where
  bl : Below w.heap.size w wr
  k5 : Blk wr G5 41 #[.int .i64 f.s, .slice f.A f.n f.c, .int .i64 f.s', .slice f.A' f.n' f.c']
  h5 : w.heap.size ≤ G5
  fa : FA (fun b => b = G5) wr f s
  run : sumTo us xs i = some s
theorem CkI.below {w wr wq : World} {G5 : Nat} {f : Fc} {us xs : List Rat} {s : Rat} {i : Nat} (h : CkI w wr G5 f us xs s i) (hb : Below wr.heap.size wr wq) : CkI w wq G5 f us xs s i :=
  ⟨h.bl.trans (hb.mono h.bl.size), h.k5.below hb h.k5.lt, h.h5, h.fa.below hb, h.run⟩
theorem CkI.put {w wr w1 : World} {G5 : Nat} {f q : Fc} {us xs : List Rat} {s s' : Rat} {i : Nat} (h : CkI w wr G5 f us xs s i) (hb : Below wr.heap.size wr w1) (ho : FO w1 wr.heap.size q.v s'.num s'.den) (hr : Rb s' 60 60) (hrun : sumTo us xs (i + 1) = some s') (o : Obj) :
    CkI w (((((w1.setCell ⟨G5, 0, none⟩ (.int .i64 q.s)).setCell ⟨G5, 1, none⟩ (.slice q.A q.n q.c)).setCell ⟨G5, 2, none⟩ (.int .i64 q.s')).setCell ⟨G5, 3, none⟩ (.slice q.A' q.n' q.c')).alloc o) G5 q us xs s' (i + 1) :=
  CkI.below ⟨below_st4 (h.bl.trans (hb.mono h.bl.size)) h.h5 _ _ _ _, (h.k5.below hb h.k5.lt).set4 _ _ _ _, h.h5,
    fa_st (f := q) (N := wr.heap.size) (h.k5.below hb h.k5.lt) ho h.k5.lt (fun b hb => by subst hb; exact h.k5.lt) (Nat.le_refl _) hr, hrun⟩ ((Below.refl _ _).alloc (Nat.le_refl _) _)

set_option maxRecDepth 100000 in
set_option maxHeartbeats 16000000 in
theorem rlcheck_any {A Ax : Option Addr} {m cap mx cx : Nat} {n : Int} {rs : List Rd} {xs : List Fd} (w : World) (h : RdsAt w A rs) (hm : rs.length = m) (hmm : m ≤ 1000000) (hx : FdsAt w Ax xs) (hxm : xs.length = mx) (b : Bool) (hb : b = true ↔ SolvesP rs xs n) :
    Calls Tryz.prog 17 #[.slice A m cap, .int .i64 n, .slice Ax mx cx] w fun e w' => e = .returned (.bool b) ∧ Below w.heap.size w w' := by
  have HB := Lib.hid hb; clear hb
  have HD := Lib.hid h; clear h
  have HM := Lib.hid hm; clear hm
  have HX := Lib.hid hx; clear hx
  have HXM := Lib.hid hxm; clear hxm
  go_enter Tryz.func17, Tryz.ntmps17
  go_wp2_with fail
  by_cases hs : SysR rs n
  rotate_left
  · (with_reducible refine (rlright_any w HD.out HM.out hmm false ⟨fun h => (by cases h), fun h => absurd h hs⟩).mono ?_)
    rintro e u1 ⟨rfl, hb1⟩
    have hbf : Hid (b = false) := Lib.hid (by
      cases hbv : b with
      | false => rfl
      | true => exact absurd (HB.out.1 hbv).1 hs)
    clear hs
    go_wp2_with fail
    go_ret
    exact ⟨by rw [hbf.out]; rfl, hb1⟩
  (with_reducible refine (rlright_any w HD.out HM.out hmm true ⟨fun _ => hs, fun _ => rfl⟩).mono ?_)
  rintro e u1 ⟨rfl, hb1⟩
  have HS := Lib.hid hs
  have h40 : m ≤ 40 := by have := hs.2.1; rwa [HM.out] at this
  have hnm : n = (m : Int) := by have := hs.1; rw [HM.out] at this; exact this.symm
  clear hs
  subst hnm
  by_cases hl : mx = m
  rotate_left
  · have hne : ((mx : Int) != (m : Int)) = true := by simp; omega
    have hbf : Hid (b = false) := Lib.hid (by
      cases hbv : b with
      | false => rfl
      | true =>
        have h := (HB.out.1 hbv).2.1.1
        rw [HM.out, HXM.out] at h
        exact absurd h hl)
    go_wp2_with fail
    go_ret
    exact ⟨by rw [hbf.out]; rfl, hb1⟩
  subst hl
  have hne : ((mx : Int) != (mx : Int)) = false := by simp
  go_wp2_with fail
  go_loopw [7] (fun iv wr => ∃ i : Nat, i ≤ mx ∧ iv = .int .i64 i ∧ Below w.heap.size w wr ∧ Hid (∀ k, k < i → (xs.getD k dnil).R)) (fun iv _ => mx - (intOf iv).toNat)
  case atStart => exact ⟨0, Nat.zero_le _, rfl, hb1, Lib.hid fun k hk => by omega⟩
  case round =>
    obtain ⟨i, hi, rfl, hbl, hz⟩ := hrel
    by_cases hgo : i < mx
    · obtain ⟨bb, off, f, hA, hBB, c0, c1, c2, c3, hf⟩ := (HX.out.below hbl) i (by rw [HXM.out]; exact hgo)
      subst hA
      obtain ⟨s1, A1, n1, d1, s2, A2, n2, d2⟩ := f
      simp only at c0 c1 c2 c3
      go_wp2_with fail
      clear c0 c1 c2 c3
      have a1 := hf.a1
      have a2 := hf.a2
      have e1 := hf.e1
      have e2 := hf.e2
      simp only at a1 a2 e1 e2
      by_cases hr : (xs.getD i dnil).R
      · have hr' : RF s1 (xs.getD i dnil).l s2 (xs.getD i dnil).l' := by rw [e1, e2]; exact hr
        (with_reducible refine (rfright_any _ a1 a2 true ⟨fun _ => hr', fun _ => rfl⟩).mono ?_)
        rintro e u2 ⟨rfl, hb2⟩
        have hbb := hbl.trans (hb2.mono hbl.size)
        have HR := Lib.hid hr
        clear hf a1 a2 e1 e2 hr hr'
        go_wp2_with fail
        go_roundw
        case rel => exact ⟨i + 1, by omega, rfl, hbb, Lib.hid fun k hk => by
          by_cases hki : k < i
          · exact hz.out k hki
          · have : k = i := by omega
            subst this
            exact HR.out⟩
        case measure => simp [intOf]; omega
      · have hr' : ¬ RF s1 (xs.getD i dnil).l s2 (xs.getD i dnil).l' := by rw [e1, e2]; exact hr
        (with_reducible refine (rfright_any _ a1 a2 false ⟨fun h => (by cases h), fun h => absurd h hr'⟩).mono ?_)
        rintro e u2 ⟨rfl, hb2⟩
        have hbb := hbl.trans (hb2.mono hbl.size)
        have hbf : Hid (b = false) := Lib.hid (by
          cases hbv : b with
          | false => rfl
          | true => exact absurd ((HB.out.1 hbv).2.1.2 i (by rw [HXM.out]; exact hgo)) hr)
        clear hf a1 a2 e1 e2 hr hr'
        go_wp2_with fail
        go_ret
        exact ⟨by rw [hbf.out]; rfl, hbb⟩
    have : i = mx := by omega
    subst this
    have HXR := Lib.hid hz.out
    clear hz hb1
    go_wp2_with fail
    go_loopw [8] (fun iv wr => ∃ q : Nat, q ≤ i ∧ iv = .int .i64 q ∧ Below w.heap.size w wr ∧ Hid (∀ k, k < q → sumTo ((rs.getD k rnil).A.map Fd.q) (xs.map Fd.q) i = some (rs.getD k rnil).v.q)) (fun iv _ => i - (intOf iv).toNat)
    case atStart => exact ⟨0, Nat.zero_le _, rfl, hbl, Lib.hid fun k hk => by omega⟩
    case round =>
      obtain ⟨q, hq, rfl, hbq, hz⟩ := hrel
      clear hbl
      by_cases hgo2 : q < i
      rotate_left
      · have : q = i := by omega
        subst this
        have hbt : Hid (b = true) := Lib.hid (HB.out.2 ⟨HS.out, ⟨HXM.out.trans HM.out.symm, fun k hk => HXR.out k (by rw [HXM.out] at hk; exact hk)⟩, fun k hk => by rw [HM.out] at hk ⊢; exact hz.out k hk⟩)
        go_wp2_with fail
        go_ret
        exact ⟨by rw [hbt.out]; rfl, hbq⟩
      go_wp2_with fail
      (with_reducible refine (rfof_y 0 _ (by decide) (by decide) (by rw [ab_zero]; exact pw_pos 60)).mono ?_)
      rintro e u3 ⟨⟨z1, Z1, zn1, zc1, z2, Z2, zn2, zc2⟩, rfl, hoz, rbz, hb3⟩
      have hbA : Below u3.heap.size u3 (u3.alloc (.cells #[.int .i64 z1, .slice Z1 zn1 zc1, .int .i64 z2, .slice Z2 zn2 zc2] 41)) := (Below.refl _ _).alloc (Nat.le_refl _) _
      have hb3w := hbq.trans (hb3.mono hbq.size)
      have hst : CkI w (u3.alloc (.cells #[.int .i64 z1, .slice Z1 zn1 zc1, .int .i64 z2, .slice Z2 zn2 zc2] 41)) u3.heap.size ⟨z1, Z1, zn1, zc1, z2, Z2, zn2, zc2⟩ ((rs.getD q rnil).A.map Fd.q) (xs.map Fd.q) 0 0 :=
        ⟨hb3w.trans (hbA.mono hb3w.size), Blk.new _ _ _, hb3w.size, ((FA.own (S := fun _ => False) (f := ⟨z1, Z1, zn1, zc1, z2, Z2, zn2, zc2⟩) hoz (fun _ h => h.elim) rbz).up.less (fun b hb => .inr (Nat.le_of_eq hb.symm))).below hbA, rfl⟩
      have HST := Lib.hid hst
      clear hst hbA hoz rbz hb3 hb3w
      go_wp2_with fail
      obtain ⟨G5, hG5⟩ : ∃ G, u3.heap.size = G := ⟨_, rfl⟩
      rw [hG5] at HST ⊢
      clear hG5
      generalize u3.alloc (.cells #[.int .i64 z1, .slice Z1 zn1 zc1, .int .i64 z2, .slice Z2 zn2 zc2] 41) = u4 at *
      have hRq := HS.out.2.2 q (by rw [HM.out]; exact hgo2)
      rw [HM.out] at hRq
      have HRQ1 := Lib.hid hRq.1
      have HRQ2 := Lib.hid hRq.2.1
      have HRQ3 := Lib.hid hRq.2.2
      clear hRq
      go_loopw [11] (fun iv wr => ∃ (k : Nat) (s : Rat) (f : Fc), k ≤ i ∧ iv = .int .i64 k ∧ Hid (CkI w wr G5 f ((rs.getD q rnil).A.map Fd.q) (xs.map Fd.q) s k)) (fun iv _ => i - (intOf iv).toNat)
      case atStart => exact ⟨0, 0, _, Nat.zero_le _, rfl, HST⟩
      case round =>
        obtain ⟨k, s, f, hk, rfl, hI⟩ := hrel
        clear HST
        by_cases hgk : k < i
        rotate_left
        · have : k = i := by omega
          subst this
          obtain ⟨bb, off, Aa, ca, fv, hA, hBB, -, c1, c2, c3, c4, -, -, hf⟩ := (HD.out.below hI.out.bl) q (by rw [HM.out]; exact hgo2)
          subst hA
          have hvF := fd_fa hf HRQ3.out
          have hsF := hI.out.fa
          have k5 := hI.out.k5
          have hrun := Lib.hid hI.out.run
          have hbl9 := Lib.hid hI.out.bl
          obtain ⟨s3, A3, n3, e3, s4, A4, n4, e4⟩ := fv
          obtain ⟨s5, A5, n5, e5, s6, A6, n6, e6⟩ := f
          simp only at c1 c2 c3 c4
          have e0 : ∀ W' : World, Below wr.heap.size wr W' → W'.cell? ⟨bb, off + q * 5 + 1, none⟩ = some (.int .i64 s3) ∧ W'.cell? ⟨bb, off + q * 5 + 2, none⟩ = some (.slice A3 n3 e3) ∧ W'.cell? ⟨bb, off + q * 5 + 3, none⟩ = some (.int .i64 s4) ∧ W'.cell? ⟨bb, off + q * 5 + 4, none⟩ = some (.slice A4 n4 e4) ∧
              W'.cell? ⟨G5, 0, none⟩ = some (.int .i64 s5) ∧ W'.cell? ⟨G5, 1, none⟩ = some (.slice A5 n5 e5) ∧ W'.cell? ⟨G5, 2, none⟩ = some (.int .i64 s6) ∧ W'.cell? ⟨G5, 3, none⟩ = some (.slice A6 n6 e6) := fun W' hW =>
            ⟨(hW.cell (p := ⟨bb, _, none⟩) hBB).trans c1, (hW.cell (p := ⟨bb, _, none⟩) hBB).trans c2, (hW.cell (p := ⟨bb, _, none⟩) hBB).trans c3, (hW.cell (p := ⟨bb, _, none⟩) hBB).trans c4, (k5.below hW k5.lt).cell 0, (k5.below hW k5.lt).cell 1, (k5.below hW k5.lt).cell 2, (k5.below hW k5.lt).cell 3⟩
          have E0 := Lib.hid e0; clear e0
          have hB00 : Below wr.heap.size wr wr.drew := (Below.refl _ _).drew
          obtain ⟨bs, hbs⟩ : ∃ bs, decide (s = (rs.getD q rnil).v.q) = bs := ⟨_, rfl⟩
          have HSB := Lib.hid (fun (W' : World) (hb : Below wr.heap.size wr W') => fsame_any _ _ _ _ _ _ _ _ _ _ _ _ _ _ _ _ _ _ _ _ W' (hsF.below hb).fv (hvF.below hb).fv bs (by
            rw [← hbs]
            by_cases he : s = (rs.getD q rnil).v.q
            · rw [decide_eq_true he]; subst he; simp
            · rw [decide_eq_false he]
              refine decide_eq_false (fun h => he (Rat.ext h.1 (by have := h.2; omega)))))
          have HBS := Lib.hid hbs
          have hi01 : ((q : Nat) : Int) < ((k : Nat) : Int) := by omega
          clear hf hvF hsF k5 c1 c2 c3 c4 hbs hI
          go_upto_region 22 with fail
          go_cut [85] from 78 to 85 (fun v wx => v = .bool (!bs) ∧ Below wr.heap.size wr wx)
          case first =>
            go_region_held3 (fun W' => W'.cell? ⟨bb, off + q * 5 + 1, none⟩ = some (.int .i64 s3) ∧ W'.cell? ⟨bb, off + q * 5 + 2, none⟩ = some (.slice A3 n3 e3) ∧ W'.cell? ⟨bb, off + q * 5 + 3, none⟩ = some (.int .i64 s4) ∧ W'.cell? ⟨bb, off + q * 5 + 4, none⟩ = some (.slice A4 n4 e4) ∧
                W'.cell? ⟨G5, 0, none⟩ = some (.int .i64 s5) ∧ W'.cell? ⟨G5, 1, none⟩ = some (.slice A5 n5 e5) ∧ W'.cell? ⟨G5, 2, none⟩ = some (.int .i64 s6) ∧ W'.cell? ⟨G5, 3, none⟩ = some (.slice A6 n6 e6))
              (first | (with_reducible exact E0.out _ hB4) | (with_reducible exact E0.out _ hB00) | (with_reducible exact E0.out _ (Below.refl _ _)))
              (first | (go_at_call 32; refine (HSB.out _ hB00).mono ?_; rintro e w4 ⟨rfl, hb4⟩; have hB4 : Below wr.heap.size wr w4 := ⟨hb4.os, hb4.tape, hb4.output, hb4.size, hb4.block⟩))
            all_goals
              go_wp2_with fail
              go_meet
              first | exact ⟨rfl, hB4⟩ | exact hB4
          obtain ⟨rfl, hb5⟩ := hcut
          clear E0 hB00 HSB
          have hbb := hbl9.out.trans (hb5.mono hbl9.out.size)
          cases bs with
          | true =>
            have HZ := Lib.hid (show sumTo ((rs.getD q rnil).A.map Fd.q) (xs.map Fd.q) k = some (rs.getD q rnil).v.q by rw [hrun.out, of_decide_eq_true HBS.out])
            clear HBS hrun
            go_wp2_with fail
            go_roundw
            case rel => exact ⟨q + 1, by omega, rfl, hbb, Lib.hid fun j hj => by
              by_cases hjq : j < q
              · exact hz.out j hjq
              · have : j = q := by omega
                subst this
                exact HZ.out⟩
            case measure => simp [intOf]; omega
          | false =>
            have hbf : Hid (b = false) := Lib.hid (by
              cases hbv : b with
              | false => rfl
              | true =>
                have h := (HB.out.1 hbv).2.2 q (by rw [HM.out]; exact hgo2)
                rw [HM.out, hrun.out] at h
                injection h with h
                exact absurd h (of_decide_eq_false HBS.out))
            clear HBS hrun
            go_wp2_with fail
            go_ret
            exact ⟨by rw [hbf.out]; rfl, hbb⟩
        obtain ⟨bb, off, Aa, ca, fv, hA, hBB, c0, c1, c2, c3, c4, hla, hfa, hf⟩ := (HD.out.below hI.out.bl) q (by rw [HM.out]; exact hgo2)
        subst hA
        rw [HRQ1.out] at c0
        obtain ⟨ba, offa, fa, hAa, hBa, a0, a1, a2, a3, hfa2⟩ := hfa k (by rw [HRQ1.out]; exact hgk)
        subst hAa
        obtain ⟨bx, offx, fx, hxA, hBx, x0, x1, x2, x3, hfx⟩ := (HX.out.below hI.out.bl) k (by rw [HXM.out]; exact hgk)
        subst hxA
        have haF := fd_fa hfa2 (HRQ2.out k hgk)
        have hxF := fd_fa hfx (HXR.out k hgk)
        clear hfa hf hla hfa2 hfx c1 c2 c3 c4
        obtain ⟨s3, A3, n3, e3, s4, A4, n4, e4⟩ := fa
        obtain ⟨s5, A5, n5, e5, s6, A6, n6, e6⟩ := fx
        simp only at a0 a1 a2 a3 x0 x1 x2 x3
        have e0 : ∀ W' : World, Below wr.heap.size wr W' → W'.cell? ⟨bb, off + q * 5, none⟩ = some (.slice (some ⟨ba, offa, none⟩) i ca) ∧ W'.cell? ⟨ba, offa + k * 4, none⟩ = some (.int .i64 s3) ∧ W'.cell? ⟨ba, offa + k * 4 + 1, none⟩ = some (.slice A3 n3 e3) ∧ W'.cell? ⟨ba, offa + k * 4 + 2, none⟩ = some (.int .i64 s4) ∧ W'.cell? ⟨ba, offa + k * 4 + 3, none⟩ = some (.slice A4 n4 e4) ∧
            W'.cell? ⟨bx, offx + k * 4, none⟩ = some (.int .i64 s5) ∧ W'.cell? ⟨bx, offx + k * 4 + 1, none⟩ = some (.slice A5 n5 e5) ∧ W'.cell? ⟨bx, offx + k * 4 + 2, none⟩ = some (.int .i64 s6) ∧ W'.cell? ⟨bx, offx + k * 4 + 3, none⟩ = some (.slice A6 n6 e6) := fun W' hW =>
          ⟨(hW.cell (p := ⟨bb, _, none⟩) hBB).trans c0, (hW.cell (p := ⟨ba, _, none⟩) hBa).trans a0, (hW.cell (p := ⟨ba, _, none⟩) hBa).trans a1, (hW.cell (p := ⟨ba, _, none⟩) hBa).trans a2, (hW.cell (p := ⟨ba, _, none⟩) hBa).trans a3, (hW.cell (p := ⟨bx, _, none⟩) hBx).trans x0, (hW.cell (p := ⟨bx, _, none⟩) hBx).trans x1, (hW.cell (p := ⟨bx, _, none⟩) hBx).trans x2, (hW.cell (p := ⟨bx, _, none⟩) hBx).trans x3⟩
        have E0 := Lib.hid e0; clear e0
        have hB00 : Below wr.heap.size wr wr.drew := (Below.refl _ _).drew
        have hqa := Lib.hid (q_getD (l := (rs.getD q rnil).A) (i := k) (by rw [HRQ1.out]; exact hgk))
        have hqx := Lib.hid (q_getD (l := xs) (i := k) (by rw [HXM.out]; exact hgk))
        obtain ⟨qa, hqae⟩ : ∃ v, ((rs.getD q rnil).A.getD k dnil).q = v := ⟨_, rfl⟩
        obtain ⟨qx, hqxe⟩ : ∃ v, (xs.getD k dnil).q = v := ⟨_, rfl⟩
        rw [hqae] at hqa haF
        rw [hqxe] at hqx hxF
        clear hqae hqxe a0 a1 a2 a3 x0 x1 x2 x3 c0
        have hi01 : ((q : Nat) : Int) < ((i : Nat) : Int) := by omega
        have hk01 : ((k : Nat) : Int) < ((i : Nat) : Int) := by omega
        go_upto_region 15 with fail
        by_cases hom : okMul qa qx
        · have HSB := Lib.hid (fun (W' : World) (hb : Below wr.heap.size wr W') => rfmul_y (haF.below hb) (hxF.below hb) hom)
          clear haF hxF
          go_cut [12, 13] from 51 to 66 (fun p e wx => ∃ (G8 : Nat) (r1 : Int) (C1 : Option Addr) (k1 l1 : Nat) (r2 : Int) (C2 : Option Addr) (k2 l2 : Nat), p = .pointer (some ⟨G8, 0, none⟩) ∧ e = .int .i64 0 ∧ Blk wx G8 41 #[.int .i64 r1, .slice C1 k1 l1, .int .i64 r2, .slice C2 k2 l2] ∧ FA (fun _ => False) wx ⟨r1, C1, k1, l1, r2, C2, k2, l2⟩ (qa * qx) ∧ Below wr.heap.size wr wx)
          case first =>
            go_region_held3 (fun W' => W'.cell? ⟨bb, off + q * 5, none⟩ = some (.slice (some ⟨ba, offa, none⟩) i ca) ∧ W'.cell? ⟨ba, offa + k * 4, none⟩ = some (.int .i64 s3) ∧ W'.cell? ⟨ba, offa + k * 4 + 1, none⟩ = some (.slice A3 n3 e3) ∧ W'.cell? ⟨ba, offa + k * 4 + 2, none⟩ = some (.int .i64 s4) ∧ W'.cell? ⟨ba, offa + k * 4 + 3, none⟩ = some (.slice A4 n4 e4) ∧
                W'.cell? ⟨bx, offx + k * 4, none⟩ = some (.int .i64 s5) ∧ W'.cell? ⟨bx, offx + k * 4 + 1, none⟩ = some (.slice A5 n5 e5) ∧ W'.cell? ⟨bx, offx + k * 4 + 2, none⟩ = some (.int .i64 s6) ∧ W'.cell? ⟨bx, offx + k * 4 + 3, none⟩ = some (.slice A6 n6 e6))
              (first | (with_reducible exact E0.out _ (below_st4 hB4 (Nat.le_refl _) _ _ _ _)) | (with_reducible exact E0.out _ (below_new hB4 _)) | (with_reducible exact E0.out _ hB4) | (with_reducible exact E0.out _ hB00) | (with_reducible exact E0.out _ (Below.refl _ _)) | exact E0.out _ (below_new hB00 _))
              (first
                | (go_at_call 34; (first | refine (HSB.out _ hB00).mono ?_ | refine (HSB.out _ (below_new hB00 _)).mono ?_); rintro e w4 ⟨⟨r1, C1, k1, l1, r2, C2, k2, l2⟩, rfl, hro, hrb, hb4⟩; have hB4 : Below wr.heap.size wr w4 := (by first | exact ⟨hb4.os, hb4.tape, hb4.output, hb4.size, hb4.block⟩ | exact (below_new hB00 _).trans (hb4.mono (below_new hB00 _).size)); (try (have hk4 : Blk w4 wr.heap.size 41 #[.int .i64 0, .slice none 0 0, .int .i64 0, .slice none 0 0] := blk_run4 (b := wr.drew) hb4; have hlt4 := hk4.lt; have z0 := hk4.cell 0; have z1 := hk4.cell 1; have z2 := hk4.cell 2; have z3 := hk4.cell 3; have y0 := hk4.frozen 0; have y1 := hk4.frozen 1; have y2 := hk4.frozen 2; have y3 := hk4.frozen 3))))
            all_goals
              go_wp2_with fail
              go_meet
              first
                | exact ⟨_, r1, C1, k1, l1, r2, C2, k2, l2, rfl, rfl, hk4.set4 _ _ _ _, fa_st (f := ⟨r1, C1, k1, l1, r2, C2, k2, l2⟩) hk4 hro (by simp) (fun _ h => h.elim) (by first | exact hB00.size | exact (below_new hB00 _).size) hrb, below_st4 hB4 (Nat.le_refl _) _ _ _ _⟩
                | exact ⟨_, r1, C1, k1, l1, r2, C2, k2, l2, rfl, rfl, Blk.new _ _ _, fa_new (f := ⟨r1, C1, k1, l1, r2, C2, k2, l2⟩) hro (fun _ h => h.elim) (by first | exact hB00.size | exact (below_new hB00 _).size) hrb _, below_new hB4 _⟩
          obtain ⟨G8, r1, C1, k1, l1, r2, C2, k2, l2, rfl, rfl, k8, hq8, hb5⟩ := hcut
          clear E0 hB00 HSB
          have hI5 := hI.out.below hb5
          clear hI hb5
          obtain ⟨s7, A7, n7, e7, s8, A8, n8, e8⟩ := f
          have a0 := hI5.k5.cell 0
          have a1 := hI5.k5.cell 1
          have a2 := hI5.k5.cell 2
          have a3 := hI5.k5.cell 3
          have q0 := k8.cell 0
          have q1 := k8.cell 1
          have q2 := k8.cell 2
          have q3 := k8.cell 3
          simp at a0 a1 a2 a3 q0 q1 q2 q3
          have HI5 := Lib.hid hI5
          have hfs := hI5.fa
          clear hI5 k8
          go_wp2_with fail
          clear a0 a1 a2 a3 q0 q1 q2 q3
          by_cases hos : okAdd s (qa * qx)
          · (with_reducible refine (rfadd_y hfs hq8 hos).mono ?_)
            rintro e w6 ⟨⟨t1, B1, m1, e1, t2, B2, m2, e2⟩, rfl, ho6, rb6, hb6⟩
            have hk6 := HI5.out.k5.below hb6 HI5.out.k5.lt
            have z0 := hk6.cell 0
            have z1 := hk6.cell 1
            have z2 := hk6.cell 2
            have z3 := hk6.cell 3
            have y0 := hk6.frozen 0
            have y1 := hk6.frozen 1
            have y2 := hk6.frozen 2
            have y3 := hk6.frozen 3
            simp at z0 z1 z2 z3
            have hlt6 := hk6.lt
            have HN := Lib.hid (HI5.out.put hb6 ho6 rb6 (sumTo_yes HI5.out.run hqa.out hqx.out hom hos))
            clear hfs hq8 ho6 rb6 hb6 HI5 hk6
            go_wp2_with fail
            go_roundw
            case rel => exact ⟨k + 1, _, _, by omega, rfl, Lib.hid (HN.out _)⟩
            case measure => simp [intOf]; omega
          · (with_reducible refine (rfadd_n hfs hq8 hos).mono ?_)
            rintro e w6 ⟨rfl, hb6⟩
            have hbf : Hid (b = false) := Lib.hid (by
              cases hbv : b with
              | false => rfl
              | true =>
                have h := (HB.out.1 hbv).2.2 q (by rw [HM.out]; exact hgo2)
                rw [HM.out, sumTo_no (sumTo_add HI5.out.run hqa.out hqx.out hom hos) hgk] at h
                cases h)
            have hfin := Lib.hid (HI5.out.bl.trans (hb6.mono HI5.out.bl.size))
            clear hfs hq8 hb6 HI5
            go_wp2_with fail
            go_ret
            exact ⟨by rw [hbf.out]; rfl, hfin.out.alloc (by have := hfin.out.size; omega) _⟩
        · have HSB := Lib.hid (fun (W' : World) (hb : Below wr.heap.size wr W') => rfmul_n (haF.below hb) (hxF.below hb) hom)
          have hbf : Hid (b = false) := Lib.hid (by
            cases hbv : b with
            | false => rfl
            | true =>
              have h := (HB.out.1 hbv).2.2 q (by rw [HM.out]; exact hgo2)
              rw [HM.out, sumTo_no (sumTo_mul hI.out.run hqa.out hqx.out hom) hgk] at h
              cases h)
          have hbl9 := Lib.hid hI.out.bl
          clear haF hxF hI
          go_cut [12, 13] from 51 to 66 (fun p e wx => e = .int .i64 6 ∧ Below wr.heap.size wr wx)
          case first =>
            go_region_held3 (fun W' => W'.cell? ⟨bb, off + q * 5, none⟩ = some (.slice (some ⟨ba, offa, none⟩) i ca) ∧ W'.cell? ⟨ba, offa + k * 4, none⟩ = some (.int .i64 s3) ∧ W'.cell? ⟨ba, offa + k * 4 + 1, none⟩ = some (.slice A3 n3 e3) ∧ W'.cell? ⟨ba, offa + k * 4 + 2, none⟩ = some (.int .i64 s4) ∧ W'.cell? ⟨ba, offa + k * 4 + 3, none⟩ = some (.slice A4 n4 e4) ∧
                W'.cell? ⟨bx, offx + k * 4, none⟩ = some (.int .i64 s5) ∧ W'.cell? ⟨bx, offx + k * 4 + 1, none⟩ = some (.slice A5 n5 e5) ∧ W'.cell? ⟨bx, offx + k * 4 + 2, none⟩ = some (.int .i64 s6) ∧ W'.cell? ⟨bx, offx + k * 4 + 3, none⟩ = some (.slice A6 n6 e6))
              (first | (with_reducible exact E0.out _ (below_st4 hB4 (Nat.le_refl _) _ _ _ _)) | (with_reducible exact E0.out _ (below_new hB4 _)) | (with_reducible exact E0.out _ hB4) | (with_reducible exact E0.out _ hB00) | (with_reducible exact E0.out _ (Below.refl _ _)) | exact E0.out _ (below_new hB00 _))
              (first
                | (go_at_call 34; (first | refine (HSB.out _ hB00).mono ?_ | refine (HSB.out _ (below_new hB00 _)).mono ?_); rintro e w4 ⟨rfl, hb4⟩; have hB4 : Below wr.heap.size wr w4 := (by first | exact ⟨hb4.os, hb4.tape, hb4.output, hb4.size, hb4.block⟩ | exact (below_new hB00 _).trans (hb4.mono (below_new hB00 _).size)); (try (have hk4 : Blk w4 wr.heap.size 41 #[.int .i64 0, .slice none 0 0, .int .i64 0, .slice none 0 0] := blk_run4 (b := wr.drew) hb4; have hlt4 := hk4.lt; have z0 := hk4.cell 0; have z1 := hk4.cell 1; have z2 := hk4.cell 2; have z3 := hk4.cell 3; have y0 := hk4.frozen 0; have y1 := hk4.frozen 1; have y2 := hk4.frozen 2; have y3 := hk4.frozen 3))))
            all_goals
              go_wp2_with fail
              go_meet
              first
                | exact ⟨rfl, below_st4 hB4 (Nat.le_refl _) _ _ _ _⟩
                | exact ⟨rfl, below_new hB4 _⟩
          obtain ⟨rfl, hb5⟩ := hcut
          clear E0 hB00 HSB
          have hbb := hbl9.out.trans (hb5.mono hbl9.out.size)
          go_wp2_with fail
          go_ret
          exact ⟨by rw [hbf.out]; rfl, hbb⟩

end Go.Proofs.YtgpmmpajnfbecaaGreat
