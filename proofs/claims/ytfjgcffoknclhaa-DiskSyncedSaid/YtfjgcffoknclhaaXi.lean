/- Walk of DiskSynced. -/
import Derived.Test.YtfjgcffoknclhaaXg
import Derived.Test.YtfjgcffoknclhaaXh
namespace Go.Proofs.Ytfjgcffoknclhaa
open Go.RowKit

set_option maxRecDepth 100000 in
set_option maxHeartbeats 4000000 in
theorem synced_any {w : World} {v mv kv : Value} {l more : List Ac} {keep : List Int} (f : Int) (h : ActsAt L0 w v l) (hm : ActsAt L0 w mv more) (hk : ArgI L0 w kv keep) (hf : isI64 f) :
    Calls Try.prog 5 #[v, .int .i64 f, mv, kv] w (LawPost w) := by
  have hok : ∀ x ∈ l, x.ok := by obtain ⟨A, c, _, _, hok, _⟩ := h; exact hok
  have hokm : ∀ x ∈ more, x.ok := by obtain ⟨A, c, _, _, hok, _⟩ := hm; exact hok
  have hk' := hk
  have hm' := hm
  obtain ⟨KA, kc, rfl⟩ := argI_len hk
  obtain ⟨MA', mc, rfl, hml, _, _⟩ := hm
  have HOK := Lib.hid (And.intro hok (And.intro hokm (And.intro hm' hk')))
  clear hok hokm hm' hk' hk
  go_enter Try.func5, Try.ntmps5
  go_wp2_with fail
  refine (small_any (L := L0)).mono ?_
  rintro e w1 ⟨rfl, L1, f1⟩
  have h1' := h.keep f1
  go_wp2_with fail
  refine (few_any h1').mono ?_
  rintro e w2 ⟨rfl, rfl⟩
  cases hfew : fewB l
  · go_wp2_with fail
    go_ret
    exact law_head f1
  go_wp2_with fail
  refine (few_any (HOK.out.2.2.1.keep f1)).mono ?_
  rintro e w2 ⟨rfl, rfl⟩
  cases hfm : fewB more
  · go_wp2_with fail
    go_ret
    exact law_head f1
  by_cases h60 : 60 < keep.length
  · go_wp2_with fail
    go_ret
    exact law_head f1
  have HF := Lib.hid (And.intro hfew hfm)
  clear hfew hfm
  go_wp2_with fail
  refine (played_any 0 h1' HF.out.1).mono ?_
  rintro e w2 ⟨d, L2, rfl, d2, f2⟩
  have hip := play_inv Inv.new HF.out.1 HOK.out.1 l.length
  rw [List.take_length] at hip
  obtain ⟨s2, hs2⟩ : ∃ s2, s2 = play St.new l := ⟨_, rfl⟩
  rw [← hs2] at d2 hip
  have g2 := (f1.mono mt).trans (f2.mono (M' := MT) mt)
  clear hs2
  go_wp2_with fail
  refine (read_any f 0 16777216 hf d2).mono ?_
  rintro e w3 ⟨rfl, rfl⟩
  go_wp2_with fail
  refine (Sync_any f g2.fresh d2 hip hf).mono ?_
  rintro e w3 ⟨rfl, L3, d3, f3⟩
  have g3 := g2.trans (f3.mono (M' := MT) mt)
  by_cases he : (s2.sync f).2 = 0
  · obtain ⟨s3, hs3⟩ : ∃ s3, s2.sync f = (s3, 0) := ⟨(s2.sync f).1, by rw [← he]⟩
    obtain ⟨e1, e2, e3, e4, e5⟩ := sync_safe hip hs3
    rw [hs3] at d3
    change DAt L3 w3 0 d s3 at d3
    rw [hs3, e2]
    obtain ⟨x, hx⟩ : ∃ x, x = s2.now f := ⟨_, rfl⟩
    rw [← hx] at e3 e4 ⊢
    clear e2 hs3 he hx
    have HE := Lib.hid (And.intro e1 (And.intro e3 (And.intro e4 e5)))
    clear e1 e3 e4 e5
    go_wp2_with fail
    have cr := read_any f 0 16777216 hf d3
    rw [HE.out.2.1] at cr
    refine cr.mono ?_
    clear cr
    rintro e w4 ⟨rfl, rfl⟩
    go_wp2_with fail
    go_loopw [15] (fun i wr => ∃ (j : Nat) (L4 : Lab) (s4 : St), j ≤ more.length ∧ i = .int .i64 j ∧ DAt L4 wr 0 d s4 ∧ Fr MT L0 w L4 wr ∧ Hid (Inv s4 ∧ Safe f x s4)) (fun i _ => more.length - (intOf i).toNat)
    case atStart => exact ⟨0, L3, s3, Nat.zero_le _, rfl, d3, g3, HE.out.2.2.2, HE.out.2.2.1⟩
    case round =>
      obtain ⟨j, L4, s4, hj, rfl, d4, g4, HS⟩ := hrel
      by_cases hlt : j < more.length
      · obtain ⟨A', c', e', _, _, hc⟩ := HOK.out.2.2.1.keep g4
        injection e' with e1 _ e2
        subst e1; subst e2
        obtain ⟨b, off, rfl, hlb, hb, hc⟩ := hc (by omega)
        obtain ⟨kv, c0, c1, c2, c3, c4, ha⟩ := hc j hlt
        have hin : more[j] ∈ more := List.getElem_mem hlt
        obtain ⟨a, hae⟩ : ∃ a, more[j] = a := ⟨_, rfl⟩
        rw [hae] at c0 c1 c2 c3 ha hin
        have hfm := fewB_mem HF.out.2 a hin
        have HAA := Lib.hid (And.intro hin hfm)
        have hb7 := bits_seven a.act
        obtain ⟨m, hm⟩ : ∃ m, m = a.act % 8 := ⟨_, rfl⟩
        have hm8 : 0 ≤ m ∧ m < 8 := by omega
        rw [← hm] at hb7
        have HM := Lib.hid hm
        clear hm hae hc hfm hin
        by_cases h4 : m < 4
        · have hm4 : ¬ m = 4 := by omega
          by_cases hff : a.f = f
          · go_wp2_with fail
            go_roundw
            case rel => exact ⟨j + 1, L4, s4, by omega, by go_num, d4, g4, HS⟩
            case measure => simp [intOf]; omega
          · have hsf : Safe f x (s4.act a).1 := HS.out.2.act HS.out.1 (by rw [← HM.out]; omega)
            have hi4 : Inv (s4.act a).1 := HS.out.1.act (HOK.out.2.1 a HAA.out.1) (by have := HAA.out.2; omega)
            have HN := Lib.hid (And.intro hi4 hsf)
            clear hsf hi4
            go_wp2_with fail
            refine (do_any a kv g4.fresh d4 HS.out.1 (HOK.out.2.1 a HAA.out.1) (by have := HAA.out.2; omega) (by have := HAA.out.2; omega) ha).mono ?_
            rintro e w5 ⟨rfl, L5, d5, f5⟩
            go_wp2_with fail
            go_roundw
            case rel => exact ⟨j + 1, L5, _, by omega, by go_num, d5, g4.trans (f5.mono mt), HN⟩
            case measure => simp [intOf]; omega
        · by_cases hm4 : m = 4
          · have hsf : Safe f x (s4.act a).1 := HS.out.2.act HS.out.1 (by rw [← HM.out]; omega)
            have hi4 : Inv (s4.act a).1 := HS.out.1.act (HOK.out.2.1 a HAA.out.1) (by have := HAA.out.2; omega)
            have HN := Lib.hid (And.intro hi4 hsf)
            clear hsf hi4
            go_wp2_with fail
            refine (do_any a kv g4.fresh d4 HS.out.1 (HOK.out.2.1 a HAA.out.1) (by have := HAA.out.2; omega) (by have := HAA.out.2; omega) ha).mono ?_
            rintro e w5 ⟨rfl, L5, d5, f5⟩
            go_wp2_with fail
            go_roundw
            case rel => exact ⟨j + 1, L5, _, by omega, by go_num, d5, g4.trans (f5.mono mt), HN⟩
            case measure => simp [intOf]; omega
          · go_wp2_with fail
            go_roundw
            case rel => exact ⟨j + 1, L4, s4, by omega, by go_num, d4, g4, HS⟩
            case measure => simp [intOf]; omega
      · have hje : j = more.length := by omega
        subst hje
        go_wp2_with fail
        refine (crash_any _ keep g4.fresh d4 HS.out.1 ((HOK.out.2.2.2.keep g4).kat 0)).mono ?_
        rintro e w5 ⟨rfl, L5, d5, f5⟩
        go_wp2_with fail
        refine (start_any f5.fresh d5).mono ?_
        rintro e w6 ⟨rfl, d6, f6⟩
        go_wp2_with fail
        have cr := read_any f 0 16777216 hf d6
        rw [safe_read HS.out.2 HS.out.1 HE.out.1] at cr
        refine cr.mono ?_
        clear cr
        rintro e w7 ⟨rfl, rfl⟩
        go_wp2_with fail
        go_ret
        exact law_head (((g4.trans (f5.mono mt)).trans (f6.mono mt)))
  · go_wp2_with fail
    go_ret
    exact law_head g3

end Go.Proofs.Ytfjgcffoknclhaa
