/- Walk of DiskReads. -/
import Derived.Test.YtfjgcffoknclhaaXb
import Derived.Test.YtfjgcffoknclhaaXg
import Derived.Test.YtfjgcffoknclhaaXd
namespace Go.Proofs.Ytfjgcffoknclhaa
open Go.RowKit

set_option maxRecDepth 100000 in
set_option maxHeartbeats 2000000 in
theorem reads_out {w : World} {v : Value} {l : List Ac} (f a : Int) (s : ByteArray) (z : Int) (h : ActsAt L0 w v l) (hs : s.size ≤ 9223372036854775807) (hno : fewB l = false ∨ 300 < s.size ∨ a < 0 ∨ 3000 < a ∨ z < 0) :
    Calls Try.prog 7 #[v, .int .i64 f, .int .i64 a, .string s, .int .i64 z] w (LawPost w) := by
  go_enter Try.func7, Try.ntmps7
  go_wp2_with fail
  refine (small_any (L := L0)).mono ?_
  rintro e w1 ⟨rfl, L1, f1⟩
  have h1 := h.keep f1
  go_wp2_with fail
  refine (few_any h1).mono ?_
  rintro e w2 ⟨rfl, rfl⟩
  rcases hno with hno | hno | hno | hno | hno
  · rw [hno]
    go_wp2_with fail
    go_ret
    exact law_head f1
  all_goals
    cases hf : fewB l
    · go_wp2_with fail
      go_ret
      exact law_head f1
    · go_wp2_with fail
      all_goals
        go_ret
        exact law_head f1

set_option maxRecDepth 100000 in
set_option maxHeartbeats 4000000 in
theorem reads_in {w : World} {v : Value} {l : List Ac} (f a : Int) (s : ByteArray) (z : Int) (h : ActsAt L0 w v l) (hf : isI64 f) (hfew : fewB l = true) (hs : s.size ≤ 300) (h0 : 0 ≤ a) (h1 : a ≤ 3000) (hz0 : 0 ≤ z) (hz1 : z ≤ 9223372036854775807) :
    Calls Try.prog 7 #[v, .int .i64 f, .int .i64 a, .string s, .int .i64 z] w (LawPost w) := by
  have hok : ∀ x ∈ l, x.ok := by obtain ⟨A, c, _, _, hok, _⟩ := h; exact hok
  have hia : isI64 a := by unfold isI64; omega
  go_enter Try.func7, Try.ntmps7
  go_wp2_with fail
  refine (small_any (L := L0)).mono ?_
  rintro e w1 ⟨rfl, L1, f1⟩
  have h1' := h.keep f1
  go_wp2_with fail
  refine (few_any h1').mono ?_
  rintro e w2 ⟨rfl, rfl⟩
  rw [hfew]
  go_wp2_with fail
  refine (played_any 0 h1' hfew).mono ?_
  rintro e w2 ⟨d, L2, rfl, d2, f2⟩
  have hip := play_inv Inv.new hfew hok l.length
  rw [List.take_length] at hip
  go_wp2_with fail
  refine (Arm_any 0 _ [] f2.fresh d2 ⟨rfl, Or.inl ⟨rfl, rfl⟩⟩ (fun g hg _ => by simp [Value.ownBlock] at hg) (by simp)).mono ?_
  rintro e w3 ⟨rfl, L3, d3, f3⟩
  have hi3 := hip.arm (n := 0) (keep := []) (by omega) (by simp)
  obtain ⟨s3, hs3⟩ : ∃ s3, s3 = (play St.new l).arm 0 [] := ⟨_, rfl⟩
  rw [← hs3] at d3 hi3
  have ha3 : s3.armed = 0 := by rw [hs3]; rfl
  have g3 := (f1.mono mt).trans ((f2.mono mt).trans (f3.mono (M' := MT) mt))
  have HI3 := Lib.hid (And.intro hs3 (And.intro hip ha3))
  clear hs3 hip ha3
  go_wp2_with fail
  refine (down_any d3).mono ?_
  rintro e w4 ⟨rfl, rfl⟩
  cases hd : s3.down
  · by_cases hff : isFile f = true
    · obtain ⟨s4, all, e1, e2, e3, e4, e5, e6, s5, e7, e8⟩ := reads_facts hi3 HI3.out.2.2 hd hff (t := s.data.toList) (by rw [size_toList]; exact hs) h0 h1 hz0
      have hff' := isFile_iff.1 hff
      have hi4 : Inv s4 := by have := hi3.write f a s.data.toList; rw [e1] at this; exact this
      have hi5 : Inv s5 := by have := hi4.trunc f (min a all.length); rw [e7] at this; exact this
      rw [size_toList] at e2
      have HE := Lib.hid (And.intro e1 (And.intro e2 (And.intro e3 (And.intro e4 (And.intro e5 (And.intro e7 (And.intro e8 (And.intro hi4 hi5))))))))
      have hall : (ba all).size = all.length := ba_size all
      have hf15 : ¬ 15 < f := by omega
      have hf0 : ¬ f < 0 := by omega
      clear e1 e2 e3 e4 e5 e7 e8 hi4 hi5 hff
      have HD := Lib.hid hd
      clear hd
      go_wp2_with fail
      have cw := Write_any (k := 0) (d := d) f a s g3.fresh d3 hi3 hf hia (by omega)
      rw [HE.out.1] at cw
      refine cw.mono ?_
      clear cw
      rintro e w5 ⟨rfl, L5, d5, f5⟩
      change DAt L5 w5 0 d s4 at d5
      go_wp2_with fail
      have cr := read_any f a s.size hf d5
      rw [HE.out.2.1] at cr
      refine cr.mono ?_
      clear cr
      rintro e w6 ⟨rfl, rfl⟩
      rw [ba_of]
      go_wp2_with fail
      have cz := size_any f hf d5
      rw [HE.out.2.2.1] at cz
      refine cz.mono ?_
      clear cz
      rintro e w6 ⟨rfl, rfl⟩
      go_wp2_with fail
      have cr := read_any f 0 all.length hf d5
      rw [HE.out.2.2.2.1] at cr
      refine cr.mono ?_
      clear cr
      rintro e w6 ⟨rfl, rfl⟩
      go_wp2_with fail
      have cr := read_any f a z hf d5
      rw [HE.out.2.2.2.2.1] at cr
      refine cr.mono ?_
      clear cr
      rintro e w6 ⟨rfl, rfl⟩
      go_wp2_with fail
      have cz := size_any f hf d5
      rw [HE.out.2.2.1] at cz
      refine cz.mono ?_
      clear cz
      rintro e w6 ⟨rfl, rfl⟩
      obtain ⟨ln, hln⟩ : ∃ ln, ln = all.length := ⟨_, rfl⟩
      have hlc : ln ≤ 16777216 := by omega
      rw [← hln] at hall ⊢
      have HL := Lib.hid hln
      clear hln e6
      have mA : (ln : Int) < a → s4.trunc f ln = (s5, 0) := fun h => by
        have := HE.out.2.2.2.2.2.1
        rwa [show min a (all.length : Int) = (ln : Int) by rw [← HL.out]; omega] at this
      have mB : ¬ (ln : Int) < a → s4.trunc f a = (s5, 0) := fun h => by
        have := HE.out.2.2.2.2.2.1
        rwa [show min a (all.length : Int) = a by rw [← HL.out]; omega] at this
      have HMA := Lib.hid mA
      have HMB := Lib.hid mB
      clear mA mB
      by_cases hA : (ln : Int) < a
      · by_cases hZ : 0 < z
        · have hq : (!(ba (part all a z)).toList.isEmpty) = false := by
            rw [ba_list]; unfold part; rw [List.drop_of_length_le (by rw [← HL.out]; omega)]; simp
          go_wp2_with fail
          have ct := Trunc_any (k := 0) (d := d) f (ln) (Fr.trans g3 (f5.mono mt)).fresh d5 HE.out.2.2.2.2.2.2.2.1 hf
          rw [show s4.trunc f (ln) = (s5, 0) from HMA.out hA] at ct
          refine ct.mono ?_
          clear ct
          rintro e w6 ⟨rfl, L6, d6, f6⟩
          change DAt L6 w6 0 d s5 at d6
          go_wp2_with fail
          refine (crash_any (.slice none 0 0) [] f6.fresh d6 HE.out.2.2.2.2.2.2.2.2 ⟨none, 0, rfl, fun j hj => by simp at hj⟩).mono ?_
          rintro e w7 ⟨rfl, L7, d7, f7⟩
          go_wp2_with fail
          refine (start_any f7.fresh d7).mono ?_
          rintro e w8 ⟨rfl, d8, f8⟩
          go_wp2_with fail
          have cr := read_any f 0 16777216 hf d8
          rw [HE.out.2.2.2.2.2.2.1] at cr
          refine cr.mono ?_
          clear cr
          rintro e w9 ⟨rfl, rfl⟩
          go_wp2_with fail
          have hb : ((ba (List.take (min a ↑all.length).toNat all)).toList == ((ba all).extract 0 ln).toList) = true := by
            refine beq_self' ?_
            rw [ba_list, ba_ex]
            simp only [List.drop_zero, Nat.sub_zero]
            rw [← HL.out]
            congr 1; omega
          rw [hb]
          go_ret
          exact law_head (((((g3.trans (f5.mono mt)).trans (f6.mono mt)).trans (f7.mono mt)).trans (f8.mono mt)))
        · have hq : (!(ba (part all a z)).toList == ((ba all).extract ln ((ln : Int) + z).toNat).toList) = false := by
            refine not_beq_self ?_
            rw [ba_list, ba_ex]; unfold part
            rw [List.drop_of_length_le (by rw [← HL.out]; omega), List.drop_of_length_le (by rw [← HL.out]; omega)]; simp
          go_wp2_with fail
          have ct := Trunc_any (k := 0) (d := d) f (ln) (Fr.trans g3 (f5.mono mt)).fresh d5 HE.out.2.2.2.2.2.2.2.1 hf
          rw [show s4.trunc f (ln) = (s5, 0) from HMA.out hA] at ct
          refine ct.mono ?_
          clear ct
          rintro e w6 ⟨rfl, L6, d6, f6⟩
          change DAt L6 w6 0 d s5 at d6
          go_wp2_with fail
          refine (crash_any (.slice none 0 0) [] f6.fresh d6 HE.out.2.2.2.2.2.2.2.2 ⟨none, 0, rfl, fun j hj => by simp at hj⟩).mono ?_
          rintro e w7 ⟨rfl, L7, d7, f7⟩
          go_wp2_with fail
          refine (start_any f7.fresh d7).mono ?_
          rintro e w8 ⟨rfl, d8, f8⟩
          go_wp2_with fail
          have cr := read_any f 0 16777216 hf d8
          rw [HE.out.2.2.2.2.2.2.1] at cr
          refine cr.mono ?_
          clear cr
          rintro e w9 ⟨rfl, rfl⟩
          go_wp2_with fail
          have hb : ((ba (List.take (min a ↑all.length).toNat all)).toList == ((ba all).extract 0 ln).toList) = true := by
            refine beq_self' ?_
            rw [ba_list, ba_ex]
            simp only [List.drop_zero, Nat.sub_zero]
            rw [← HL.out]
            congr 1; omega
          rw [hb]
          go_ret
          exact law_head (((((g3.trans (f5.mono mt)).trans (f6.mono mt)).trans (f7.mono mt)).trans (f8.mono mt)))
      · by_cases hZ : (ln : Int) - a < z
        · have hq : (!(ba (part all a z)).toList == ((ba all).extract a.toNat (a + ((ln : Int) - a)).toNat).toList) = false := by
            refine not_beq_self ?_
            rw [ba_list, ba_ex]; unfold part
            rw [List.take_of_length_le (by rw [List.length_drop, ← HL.out]; omega), List.take_of_length_le (by rw [List.length_drop, ← HL.out]; omega)]
          go_wp2_with fail
          have ct := Trunc_any (k := 0) (d := d) f (a) (Fr.trans g3 (f5.mono mt)).fresh d5 HE.out.2.2.2.2.2.2.2.1 hf
          rw [show s4.trunc f (a) = (s5, 0) from HMB.out hA] at ct
          refine ct.mono ?_
          clear ct
          rintro e w6 ⟨rfl, L6, d6, f6⟩
          change DAt L6 w6 0 d s5 at d6
          go_wp2_with fail
          refine (crash_any (.slice none 0 0) [] f6.fresh d6 HE.out.2.2.2.2.2.2.2.2 ⟨none, 0, rfl, fun j hj => by simp at hj⟩).mono ?_
          rintro e w7 ⟨rfl, L7, d7, f7⟩
          go_wp2_with fail
          refine (start_any f7.fresh d7).mono ?_
          rintro e w8 ⟨rfl, d8, f8⟩
          go_wp2_with fail
          have cr := read_any f 0 16777216 hf d8
          rw [HE.out.2.2.2.2.2.2.1] at cr
          refine cr.mono ?_
          clear cr
          rintro e w9 ⟨rfl, rfl⟩
          go_wp2_with fail
          have hb : ((ba (List.take (min a ↑all.length).toNat all)).toList == ((ba all).extract 0 a.toNat).toList) = true := by
            refine beq_self' ?_
            rw [ba_list, ba_ex]
            simp only [List.drop_zero, Nat.sub_zero]
            rw [← HL.out]
            congr 1; omega
          rw [hb]
          go_ret
          exact law_head (((((g3.trans (f5.mono mt)).trans (f6.mono mt)).trans (f7.mono mt)).trans (f8.mono mt)))
        · have hq : (!(ba (part all a z)).toList == ((ba all).extract a.toNat (a + z).toNat).toList) = false := by
            refine not_beq_self ?_
            rw [ba_list, ba_ex]; unfold part
            congr 1; omega
          go_wp2_with fail
          have ct := Trunc_any (k := 0) (d := d) f (a) (Fr.trans g3 (f5.mono mt)).fresh d5 HE.out.2.2.2.2.2.2.2.1 hf
          rw [show s4.trunc f (a) = (s5, 0) from HMB.out hA] at ct
          refine ct.mono ?_
          clear ct
          rintro e w6 ⟨rfl, L6, d6, f6⟩
          change DAt L6 w6 0 d s5 at d6
          go_wp2_with fail
          refine (crash_any (.slice none 0 0) [] f6.fresh d6 HE.out.2.2.2.2.2.2.2.2 ⟨none, 0, rfl, fun j hj => by simp at hj⟩).mono ?_
          rintro e w7 ⟨rfl, L7, d7, f7⟩
          go_wp2_with fail
          refine (start_any f7.fresh d7).mono ?_
          rintro e w8 ⟨rfl, d8, f8⟩
          go_wp2_with fail
          have cr := read_any f 0 16777216 hf d8
          rw [HE.out.2.2.2.2.2.2.1] at cr
          refine cr.mono ?_
          clear cr
          rintro e w9 ⟨rfl, rfl⟩
          go_wp2_with fail
          have hb : ((ba (List.take (min a ↑all.length).toNat all)).toList == ((ba all).extract 0 a.toNat).toList) = true := by
            refine beq_self' ?_
            rw [ba_list, ba_ex]
            simp only [List.drop_zero, Nat.sub_zero]
            rw [← HL.out]
            congr 1; omega
          rw [hb]
          go_ret
          exact law_head (((((g3.trans (f5.mono mt)).trans (f6.mono mt)).trans (f7.mono mt)).trans (f8.mono mt)))
    · have hb := reads_bad HI3.out.2.2 (f := f) (a := a) (t := s.data.toList) (Or.inr (by simpa using hff))
      have hb1 : (((s3.write f a s.data.toList).2 : Int) == 0) = false := beq_eq_false_iff_ne.2 hb
      have hb2 : (((s3.write f a s.data.toList).2 : Int) != 0) = true := bne_iff_ne.2 hb
      have hcase : f < 0 ∨ 15 < f := by
        by_cases h5 : f < 0
        · exact Or.inl h5
        · right
          by_cases h6 : 15 < f
          · exact h6
          · exact absurd (isFile_iff.2 ⟨by omega, by omega⟩) hff
      clear hb hff
      rcases hcase with h5 | h5
      · go_wp2_with fail
        refine (Write_any f a s g3.fresh d3 hi3 hf hia (by omega)).mono ?_
        rintro e w5 ⟨rfl, L5, d5, f5⟩
        go_wp2_with fail
        go_ret
        exact law_head (g3.trans (f5.mono mt))
      · have h6 : ¬ f < 0 := by omega
        go_wp2_with fail
        refine (Write_any f a s g3.fresh d3 hi3 hf hia (by omega)).mono ?_
        rintro e w5 ⟨rfl, L5, d5, f5⟩
        go_wp2_with fail
        go_ret
        exact law_head (g3.trans (f5.mono mt))
  · have hb := reads_bad HI3.out.2.2 (f := f) (a := a) (t := s.data.toList) (Or.inl hd)
    have hb1 : (((s3.write f a s.data.toList).2 : Int) == 0) = false := beq_eq_false_iff_ne.2 hb
    have hb2 : (((s3.write f a s.data.toList).2 : Int) != 0) = true := bne_iff_ne.2 hb
    clear hb
    go_wp2_with fail
    refine (Write_any f a s g3.fresh d3 hi3 hf hia (by omega)).mono ?_
    rintro e w5 ⟨rfl, L5, d5, f5⟩
    go_wp2_with fail
    go_ret
    exact law_head (g3.trans (f5.mono mt))

/-- The law of reading, at every argument. -/
theorem reads_any {w : World} {v : Value} {l : List Ac} (f a : Int) (s : ByteArray) (z : Int) (h : ActsAt L0 w v l) (hs : s.size ≤ 9223372036854775807) (hf : isI64 f) (hz1 : z ≤ 9223372036854775807) :
    Calls Try.prog 7 #[v, .int .i64 f, .int .i64 a, .string s, .int .i64 z] w (LawPost w) := by
  by_cases hno : fewB l = false ∨ 300 < s.size ∨ a < 0 ∨ 3000 < a ∨ z < 0
  · exact reads_out f a s z h hs hno
  · exact reads_in f a s z h hf (by cases hb : fewB l <;> simp [hb] at hno ⊢) (by omega) (by omega) (by omega) (by omega) hz1

end Go.Proofs.Ytfjgcffoknclhaa
