/- Walk of DiskSurvives. -/
import Derived.Test.YtfjgcffoknclhaaXo
import Derived.Test.YtfjgcffoknclhaaXk
import Derived.Test.YtfjgcffoknclhaaXh
namespace Go.Proofs.Ytfjgcffoknclhaa
open Go.RowKit

theorem argI_new {L : Lab} {w : World} (hL : Fresh L w) (x : Int) : ArgI L (w.alloc (.cells #[.int .i64 x] 3)) (.slice (some ⟨w.heap.size, 0, none⟩) 1 1) [x] := by
  refine Or.inr ⟨w.heap.size, 0, 1, rfl, hL _ (Nat.le_refl _), by simp, fun j hj => ?_⟩
  have : j = 0 := by simp at hj; omega
  subst this
  exact blk_cell (heap_alloc_new w _) 0

theorem drewN_ex {w wr : World} (h : ∃ nd, wr = w.drewN nd) (a : Nat) : ∃ nd, wr.drewN a = w.drewN nd := by
  obtain ⟨nd, rfl⟩ := h
  exact ⟨nd + a, drewN_drewN _ _ _⟩

theorem ba_idx (l : List UInt8) (i : Nat) (h : i < (ba l).size) : (ba l)[i] = l.getD i 0 := by
  rw [List.getD_eq_getElem?_getD, List.getElem?_eq_getElem (by rw [← ba_size]; exact h)]
  rfl

set_option maxRecDepth 100000 in
set_option maxHeartbeats 4000000 in
theorem survives_any {w : World} {v kv : Value} {l : List Ac} {keep : List Int} (f : Int) (h : ActsAt L0 w v l) (hk : ArgI L0 w kv keep) (hf : isI64 f) :
    Calls Try.prog 4 #[v, .int .i64 f, kv] w (LawPost w) := by
  have hok : ∀ x ∈ l, x.ok := by obtain ⟨A, c, _, _, hok, _⟩ := h; exact hok
  have hk' := hk
  obtain ⟨KA, kc, rfl⟩ := argI_len hk
  have HOK := Lib.hid (And.intro hok (And.intro h hk'))
  clear hok h hk' hk
  go_enter Try.func4, Try.ntmps4
  go_wp2_with fail
  refine (small_any (L := L0)).mono ?_
  rintro e w1 ⟨rfl, L1, f1⟩
  go_wp2_with fail
  refine (few_any (HOK.out.2.1.keep f1)).mono ?_
  rintro e w2 ⟨rfl, rfl⟩
  cases hfew : fewB l
  · go_wp2_with fail
    go_ret
    exact law_head f1
  by_cases h60 : 60 < keep.length
  · go_wp2_with fail
    go_ret
    exact law_head f1
  go_wp2_with fail
  refine (played_any 0 (HOK.out.2.1.keep f1) hfew).mono ?_
  rintro e w2 ⟨d, L2, rfl, d2, f2⟩
  have hip := play_inv Inv.new hfew HOK.out.1 l.length
  rw [List.take_length] at hip
  obtain ⟨s, hs⟩ : ∃ s, s = play St.new l := ⟨_, rfl⟩
  rw [← hs] at d2 hip
  have g2 := (f1.mono mt).trans (f2.mono (M' := MT) mt)
  clear hs hfew
  go_wp2_with fail
  refine (down_any d2).mono ?_
  rintro e w3 ⟨rfl, rfl⟩
  rcases Bool.eq_false_or_eq_true s.down with hd | hd
  · rw [hd]
    go_wp2_with fail
    go_ret
    exact law_head g2
  rw [hd]
  by_cases hf0 : f < 0
  · go_wp2_with fail
    go_ret
    exact law_head g2
  by_cases hf15 : 15 < f
  · go_wp2_with fail
    go_ret
    exact law_head g2
  have hff : isFile f = true := isFile_iff.2 ⟨by omega, by omega⟩
  have hsz : s.size f = (s.now f).length := by unfold St.size; rw [if_pos hff]
  obtain ⟨N, hN⟩ : ∃ N, N = s.now f := ⟨_, rfl⟩
  obtain ⟨D, hD⟩ : ∃ D, D = s.dur f := ⟨_, rfl⟩
  obtain ⟨X, hX⟩ : ∃ X, X = s.left keep f := ⟨_, rfl⟩
  obtain ⟨q1, q2, q3⟩ := left_sectors hip f keep
  rw [← hN, ← hD, ← hX] at q3
  rw [← hN, ← hX] at q2
  rw [← hD, ← hX] at q1
  rw [← hN] at hsz
  have hrd := read_whole hip hd hff
  rw [← hN] at hrd
  obtain ⟨nN, hnN⟩ : ∃ n, n = N.length := ⟨_, rfl⟩
  obtain ⟨nD, hnD⟩ : ∃ n, n = D.length := ⟨_, rfl⟩
  obtain ⟨nX, hnX⟩ : ∃ n, n = X.length := ⟨_, rfl⟩
  rw [← hnD, ← hnX] at q1
  rw [← hnN, ← hnX] at q2
  rw [← hnN] at hsz
  have HX := Lib.hid (And.intro hN (And.intro hD (And.intro hX (And.intro q3 (And.intro hnN (And.intro hnD hnX))))))
  clear hN hD hX q3
  go_wp2_with fail
  have cz := size_any f hf d2
  rw [hsz] at cz
  refine cz.mono ?_
  clear cz
  rintro e w3 ⟨rfl, rfl⟩
  by_cases hbig : 100000 < nN
  · go_wp2_with fail
    go_ret
    exact law_head g2
  have sN : (ba N).size = nN := by rw [hnN]; exact ba_size N
  have sD : (ba D).size = nD := by rw [hnD]; exact ba_size D
  have sX : (ba X).size = nX := by rw [hnX]; exact ba_size X
  have HR := Lib.hid (And.intro hrd (And.intro hd (And.intro hff hip)))
  clear hrd hd hff hip hsz hnN hnD hnX
  go_wp2_with fail
  have cr := read_any f 0 16777216 hf d2
  rw [HR.out.1] at cr
  refine cr.mono ?_
  clear cr
  rintro e w3 ⟨rfl, rfl⟩
  go_wp2_with fail
  have ca := after_any (keep := []) 1 (by decide) f g2.fresh d2 HR.out.2.2.2 HR.out.2.1 hf HR.out.2.2.1 (kv := .slice none 0 0) (Or.inl ⟨Or.inl rfl, rfl⟩)
  rw [left_nil, ← HX.out.2.1] at ca
  refine ca.mono ?_
  clear ca
  rintro e w4 ⟨rfl, L4, f4⟩
  have d4 := d2.keep g2.fresh f4 (na (by decide))
  have g4 := g2.trans (f4.mono (M' := MT) mt)
  go_wp2_with fail
  have fa := (Fr.refl (M := MT) g4.fresh).alloc (.cells #[.int .i64 1] 3)
  have ca := after_any (keep := [1]) 2 (by decide) f fa.fresh (d4.alloc g4.fresh _) HR.out.2.2.2 HR.out.2.1 hf HR.out.2.2.1 (argI_new g4.fresh 1)
  rw [left_one HR.out.2.2.2, ← HX.out.1] at ca
  refine ca.mono ?_
  clear ca
  rintro e w5 ⟨rfl, L5, f5⟩
  have d5 := (d4.alloc g4.fresh (.cells #[.int .i64 1] 3)).keep fa.fresh f5 (na (by decide))
  have g5 := (g4.trans fa).trans (f5.mono (M' := MT) mt)
  go_wp2_with fail
  have ca := after_any (keep := keep) 3 (by decide) f g5.fresh d5 HR.out.2.2.2 HR.out.2.1 hf HR.out.2.2.1 (HOK.out.2.2.keep g5)
  rw [← HX.out.2.2.1] at ca
  refine ca.mono ?_
  clear ca
  rintro e w6 ⟨rfl, L6, f6⟩
  have g6 := g5.trans (f6.mono (M' := MT) mt)
  have hz2 : (!(ba N).toList == (ba N).toList) = false := by simp
  have hx1 : ¬ (nX : Int) < nD := by omega
  have hx2 : ¬ (nN : Int) < nX := by omega
  go_wp2_with fail
  have e1 : decide (nX < nD) = false := decide_eq_false (by omega)
  have e2 : decide (nN < nX) = false := decide_eq_false (by omega)
  simp only [e1, e2, Bool.or_self]
  go_loopw [17] (fun i wr => ∃ n : Nat, 64 * n < nX + 64 ∧ i = .int .i64 n ∧ Hid (∃ nd, wr = w6.drewN nd)) (fun i _ => nX + 1 - (intOf i).toNat)
  case atStart => exact ⟨0, by omega, rfl, 0, rfl⟩
  case round =>
    obtain ⟨n, hn, rfl, HW⟩ := hrel
    by_cases hlt : 64 * n < nX
    · go_wp2_with fail
      rw [show decide (64 * (n : Int) < (nX : Int)) = true from decide_eq_true (by omega)]
      go_loopw [18, 19, 20] (fun nv ov i wr => ∃ (i' : Nat) (nb ob : Bool), 64 * n ≤ i' ∧ i' ≤ 64 * n + 64 ∧ nv = .bool nb ∧ ov = .bool ob ∧ i = .int .i64 i' ∧ Hid ((∃ nd, wr = w6.drewN nd) ∧
        ((∀ i, i / 64 = n → i < X.length → X.getD i 0 = N.getD i 0) → nb = true) ∧ ((∀ i, i / 64 = n → i < X.length → X.getD i 0 = D.getD i 0) → ob = true))) (fun _ _ i _ => 64 * n + 64 - (intOf i).toNat)
      case atStart => exact ⟨64 * n, true, true, by omega, by omega, rfl, rfl, by go_num, HW.out, fun _ => rfl, fun _ => rfl⟩
      case round =>
        obtain ⟨i, nb, ob, h1, h2, rfl, rfl, rfl, HI⟩ := hrel
        have hnbob : nb = true ∨ ob = true := by
          rcases HX.out.2.2.2.1 n with hh | hh
          · exact Or.inl (HI.out.2.1 hh)
          · exact Or.inr (HI.out.2.2 hh)
        by_cases hi1 : (i : Int) < 64 * (n : Int) + 64
        · by_cases hi2 : i < nX
          · have hi3 : i < nN := by omega
            have hdiv : i / 64 = n := by omega
            have HG := Lib.hid (And.intro hdiv (show i < X.length by rw [← HX.out.2.2.2.2.2.2]; exact hi2))
            clear hdiv hnbob
            obtain ⟨xx, hxx⟩ : ∃ xx, (X.getD i 0).toNat = xx := ⟨_, rfl⟩
            obtain ⟨nn, hnn⟩ : ∃ nn, (N.getD i 0).toNat = nn := ⟨_, rfl⟩
            obtain ⟨zz, hzz⟩ : ∃ zz, (D.getD i 0).toNat = zz := ⟨_, rfl⟩
            have HXX := Lib.hid hxx
            have HNN := Lib.hid hnn
            have HZZ := Lib.hid hzz
            clear hxx hnn hzz
            cases nb
            · go_wp2_with fail
              go_quiet (fail)
              obtain ⟨wq, hwq⟩ : ∃ wq, wq = wr.drewN nq := ⟨_, rfl⟩
              have HW2 : Hid (∃ nd, wq = w6.drewN nd) := show _ by rw [hwq]; exact drewN_ex HI.out.1 _
              have hB : ∀ m, Calls Try.prog 24 #[.string (ba D), .int .i64 i] (wq.drewN m) fun e w'' => e = .returned (.int .u8 (zz : Int)) ∧ ∃ m', w'' = wq.drewN m' := fun m => by rw [← HZZ.out]; exact (byteAt_any D i (by omega)).mono (fun e w' h => ⟨h.1, m, h.2.symm⟩)
              have HB := Lib.hid hB
              clear hB
              rw [← hwq]
              clear hwq
              cases ob
              · go_wp2_with fail
                go_quiet (fail)
                go_wp2_with fail
                go_roundw
                case rel => exact ⟨i + 1, _, _, by omega, by omega, rfl, rfl, by go_num, drewN_ex HW2.out _, (fun hq => absurd (HI.out.2.1 hq) (by simp)), (fun hq => absurd (HI.out.2.2 hq) (by simp))⟩
                case measure => simp [intOf]; omega
              · go_wp2_with fail
                go_quiet (first | (go_at_call_of 24 (Value.string (ba D)); exact HB.out _))
                rw [ba_idx X i]
                rw [HXX.out]
                go_wp2_with fail
                go_roundw
                case rel => exact ⟨i + 1, _, _, by omega, by omega, rfl, rfl, by go_num, drewN_ex HW2.out _, (fun hq => absurd (HI.out.2.1 hq) (by simp)), (fun hq => by rw [← HXX.out, ← HZZ.out, hq i HG.out.1 HG.out.2]; simp)⟩
                case measure => simp [intOf]; omega
            · go_wp2_with fail
              go_quiet (fail)
              rw [ba_idx X i, ba_idx N i]
              rw [HXX.out, HNN.out]
              obtain ⟨wq, hwq⟩ : ∃ wq, wq = wr.drewN nq := ⟨_, rfl⟩
              have HW2 : Hid (∃ nd, wq = w6.drewN nd) := show _ by rw [hwq]; exact drewN_ex HI.out.1 _
              have hB : ∀ m, Calls Try.prog 24 #[.string (ba D), .int .i64 i] (wq.drewN m) fun e w'' => e = .returned (.int .u8 (zz : Int)) ∧ ∃ m', w'' = wq.drewN m' := fun m => by rw [← HZZ.out]; exact (byteAt_any D i (by omega)).mono (fun e w' h => ⟨h.1, m, h.2.symm⟩)
              have HB := Lib.hid hB
              clear hB
              rw [← hwq]
              clear hwq
              cases ob
              · go_wp2_with fail
                go_quiet (fail)
                go_wp2_with fail
                go_roundw
                case rel => exact ⟨i + 1, _, _, by omega, by omega, rfl, rfl, by go_num, drewN_ex HW2.out _, (fun hq => by rw [← HXX.out, ← HNN.out, hq i HG.out.1 HG.out.2]; simp), (fun hq => absurd (HI.out.2.2 hq) (by simp))⟩
                case measure => simp [intOf]; omega
              · go_wp2_with fail
                go_quiet (first | (go_at_call_of 24 (Value.string (ba D)); exact HB.out _))
                rw [ba_idx X i]
                rw [HXX.out]
                go_wp2_with fail
                go_roundw
                case rel => exact ⟨i + 1, _, _, by omega, by omega, rfl, rfl, by go_num, drewN_ex HW2.out _, (fun hq => by rw [← HXX.out, ← HNN.out, hq i HG.out.1 HG.out.2]; simp), (fun hq => by rw [← HXX.out, ← HZZ.out, hq i HG.out.1 HG.out.2]; simp)⟩
                case measure => simp [intOf]; omega
          · rcases hnbob with hnb | hob
            · subst hnb
              go_wp2_with fail
              go_roundw
              case rel => exact ⟨n + 1, by omega, by go_num, HI.out.1⟩
              case measure => simp [intOf]; omega
            · subst hob
              cases nb
              all_goals
                go_wp2_with fail
                go_roundw
                case rel => exact ⟨n + 1, by omega, by go_num, HI.out.1⟩
                case measure => simp [intOf]; omega
        · rcases hnbob with hnb | hob
          · subst hnb
            go_wp2_with fail
            go_roundw
            case rel => exact ⟨n + 1, by omega, by go_num, HI.out.1⟩
            case measure => simp [intOf]; omega
          · subst hob
            cases nb
            all_goals
              go_wp2_with fail
              go_roundw
              case rel => exact ⟨n + 1, by omega, by go_num, HI.out.1⟩
              case measure => simp [intOf]; omega
    · go_wp2_with fail
      go_ret
      obtain ⟨nd, rfl⟩ := HW.out
      exact law_head (g6.trans (fr_drewN g6.fresh nd))

end Go.Proofs.Ytfjgcffoknclhaa
