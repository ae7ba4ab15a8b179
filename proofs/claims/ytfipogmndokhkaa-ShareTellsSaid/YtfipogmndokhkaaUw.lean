/- The law ShareChanges. Printed by a program (changes.py). -/
import Derived.Test.YtfipogmndokhkaaUv
namespace Go.Proofs.Ytfipogmndokhkaa
open Go.RowKit

set_option maxRecDepth 100000 in
set_option maxHeartbeats 16000000 in
theorem changes_any (secret : Int) (k n : Nat) (seed : Int) (at_ : Nat) (by_ : Int) (w : World) (hk : k < 256) (hn : n < 256) (hat : at_ < 256) :
    Calls Try.prog 6 #[.int .i64 secret, .int .u8 k, .int .u8 n, .int .i64 seed, .int .u8 at_, .int .i64 by_] w fun e w' => e = .returned (.bool true) ∧ Below w.heap.size w w' := by
  obtain ⟨hm1, hm2⟩ := many_range n
  obtain ⟨hq1, hq2⟩ := need_range k n
  have hs0 : 0 ≤ secret % 2147483647 := by omega
  have hs1 : secret % 2147483647 < 2147483647 := by omega
  have hd0 : 0 ≤ by_ % 2147483647 := by omega
  have hd1 : by_ % 2147483647 < 2147483647 := by omega
  have hnum := fun w1 => numbers_any secret k n hk hn w1
  have hmod := fun w1 => mod_any by_ w1
  obtain ⟨s, hs⟩ : ∃ s, secret % 2147483647 = s := ⟨_, rfl⟩
  obtain ⟨d, hd⟩ : ∃ s, by_ % 2147483647 = s := ⟨_, rfl⟩
  obtain ⟨q, hq⟩ : ∃ q, need k n = q := ⟨_, rfl⟩
  obtain ⟨m, hm⟩ : ∃ m, many n = m := ⟨_, rfl⟩
  rw [hs] at hs0 hs1 hnum
  rw [hd] at hd0 hd1 hmod
  rw [hq] at hq1 hq2 hnum
  rw [hm] at hm1 hm2 hq2 hnum
  have HNUM := Lib.hid hnum
  have HMOD := Lib.hid hmod
  clear hs hd hq hm hk hn hnum hmod
  have hmn : (at_ : Int) % (m : Int) = ((at_ % m : Nat) : Int) := by omega
  have hmk : at_ % m < m := Nat.mod_lt _ (by omega)
  obtain ⟨i, hi⟩ : ∃ i, at_ % m = i := ⟨_, rfl⟩
  rw [hi] at hmn hmk
  clear hi
  have hnz : ¬ m = 0 := by omega
  have hs1' := fun w1 => split_good s q m seed w1 (by unfold okS; simp; omega)
  have hf0 := ev_zero s seed q hq1
  have hfp := cfs_pol s seed q
  obtain ⟨cs, hcs⟩ : ∃ cs, cfs s seed q = cs := ⟨_, rfl⟩
  rw [hcs] at hs1' hf0 hfp
  clear hcs
  simp only [shs_gl] at hs1'
  obtain ⟨F, hF1⟩ : ∃ F : Nat → Int, (fun i : Nat => ev cs ((i : Int) + 1) % 2147483647) = F := ⟨_, rfl⟩
  rw [hF1] at hs1'
  have r1 : ∀ i, 0 ≤ F i ∧ F i < 2147483647 := fun i => by rw [← hF1]; simp only; omega
  have t1 : ∀ i : Nat, Cg (ev cs ((i : Int) + 1)) (F i) := fun i => by rw [← hF1]; exact (Cg.mod _).symm
  clear hF1
  obtain ⟨zb, eb, hjb, hcb⟩ := bent_join (F := F) (m := m) (q := q) (i := i) (f := ev cs) (s := s) (d := d) w.heap.size hm2 hq1 hq2 hmk r1 hd0 hd1 hfp t1 hf0 hs0 hs1
  obtain ⟨zr, er, hjr, hcr⟩ := rest_join (F := F) (m := m) (q := q) (i := i) (f := ev cs) (s := s) w.heap.size hm2 hq1 hq2 hmk r1 hfp t1 hf0 hs0 hs1
  have hset := gl_set F m i ((F i + d) % 2147483647) hmk
  obtain ⟨y0, y1⟩ := r1 i
  have hget := gl_get F hmk
  have HS1 := Lib.hid hs1'; clear hs1'
  have HJB := Lib.hid (And.intro hjb hcb); clear hjb hcb
  have HJR := Lib.hid (And.intro hjr hcr); clear hjr hcr
  clear hf0 hfp t1 r1
  obtain ⟨y, hy⟩ : ∃ y, F i = y := ⟨_, rfl⟩
  rw [hy] at y0 y1 hset hget
  obtain ⟨bf, hbf⟩ : ∃ bf, gl (bendF F i ((y + d) % 2147483647)) m = bf := ⟨_, rfl⟩
  rw [hy, hbf] at HJB
  rw [hbf] at hset
  obtain ⟨l, hl⟩ : ∃ l, gl F m = l := ⟨_, rfl⟩
  have hlen := gl_len F m
  rw [hl] at HS1 HJR hset hget hlen
  clear hl hy hbf
  have hmd := fun w1 => mod_any (y + d) w1
  obtain ⟨Y, hY⟩ : ∃ Y, (y + d) % 2147483647 = Y := ⟨_, rfl⟩
  rw [hY] at hset hmd
  have HSET := Lib.hid (And.intro hset hmd); clear hset hmd hY
  have HLEN := Lib.hid hlen; clear hlen
  have HGET := Lib.hid hget; clear hget
  have hmkI : (i : Int) < (m : Int) := by omega
  go_enter Try.func6, Try.ntmps6
  go_wp2_with fail
  refine (small_any _).mono ?_
  rintro e w1 ⟨rfl, hb1'⟩
  go_wp2_with fail
  refine (HNUM.out _).mono ?_
  rintro e w2 ⟨rfl, hb2'⟩
  have hB2 := hb1'.trans (hb2'.mono hb1'.size)
  go_wp2_with fail
  refine (HMOD.out _).mono ?_
  rintro e w2' ⟨rfl, rfl⟩
  go_wp2_with fail
  refine (HS1.out _).mono ?_
  rintro e w3 ⟨v3, rfl, hown3, hb3'⟩
  have hB3 := hB2.trans (hb3'.mono hB2.size)
  have hs3 := hB3.size
  obtain ⟨A3, c3, rfl, hc3, hm3, hS3⟩ := hown3.at_
  obtain ⟨b1, o1, hA3, _, _⟩ := hS3 0 (by rw [HLEN.out]; omega)
  subst hA3
  have H3 := Lib.hid hS3; clear hS3 hown3
  rw [HLEN.out] at hc3 ⊢
  have hem := emptyS w3 (B := w3.heap.size) (Nat.le_refl _)
  have hbe := (Below.refl w3.heap.size w3).alloc (Nat.le_refl _) (.cells #[] 39)
  have HEM := Lib.hid (And.intro hem hbe); clear hem hbe hb1' hb2' hb3' hB2
  have hln2 : ([] : List (Int × Int)).length + m ≤ 1000000 := by simp; omega
  have HLN2 := Lib.hid hln2; clear hln2
  go_wp2_with (at_builtin; refine appS rfl (.tmp 57) (.tmp 58) rfl w3.heap.size _ [] l (some ⟨b1, o1, none⟩) m c3 rfl HEM.out.1 rfl HLEN.out ((H3.out.below HEM.out.2).more HEM.out.2.size) HLN2.out HEM.out.2.size ?_; intro v4 w4 hown4' hg4; have hown4 : OwnS w4 w3.heap.size v4 l := hown4'; clear hown4'; have hb4 := grown_bel HEM.out.2 HEM.out.1 hg4 (Nat.le_refl _); obtain ⟨g4, c4, rfl⟩ := hown4.base (by rw [HLEN.out]; omega); have HO4 := Lib.hid hown4; rw [HLEN.out] at HO4; rw [HLEN.out]; obtain ⟨k0, k1⟩ := HO4.out.cell HLEN.out hmk; rw [HGET.out] at k0 k1; have kf := HO4.out.frozen (k := i * 2 + 1) HLEN.out; have kl := HO4.out.lt.2; clear hown4 hg4)
  refine (HSET.out.2 _).mono ?_
  rintro e w5 ⟨rfl, rfl⟩
  have hst := HO4.out.storeY HLEN.out i hmk Y
  rw [HSET.out.1] at hst
  have hb5 := hb4.setCell (p := ⟨g4, i * 2 + 1, none⟩) HO4.out.lt.1 (.int .i64 Y)
  have HST := Lib.hid (And.intro hst hb5); clear hst hb5
  go_wp2_with fail
  refine (HJB.out.1 _ _ (HST.out.1.mono hs3)).mono ?_
  rintro e w6 ⟨rfl, hb6⟩
  have hB6 := HST.out.2.trans (hb6.mono HST.out.2.size)
  have hs6 := hB6.size
  clear k0 k1 kf kl hb4 hb6
  go_wp2_with fail
  have hla := emptyS w6 (B := w6.heap.size) (Nat.le_refl _)
  have hl1 : OwnS (w6.alloc (.cells #[] 39)).drew w6.heap.size (.slice (some ⟨w6.heap.size, 0, none⟩) 0 0) [] := hla
  have hl2 : Below w6.heap.size w6 (w6.alloc (.cells #[] 39)).drew := ((Below.refl w6.heap.size w6).alloc (Nat.le_refl _) _).drew
  have H6 := (H3.out.below hB6).more hs6
  have hl3 := ((H6.below hl2).more hl2.size).take i
  have hl4 : (l.take i).length = i := by rw [List.length_take, HLEN.out]; omega
  have hl5 : ([] : List (Int × Int)).length + i ≤ 1000000 := by simp; omega
  have hl6 : (l.drop (i + 1)).length = m - (i + 1) := by rw [List.length_drop, HLEN.out]
  have hl7 : ([] ++ l.take i : List (Int × Int)).length + (m - (i + 1)) ≤ 1000000 := by rw [List.nil_append, hl4]; omega
  have HL := Lib.hid (And.intro hl1 (And.intro hl2 (And.intro hl3 (And.intro hl4 hl5)))); clear hl1 hl2 hl3 hla hl5
  have HLD := Lib.hid (And.intro hl6 hl7); clear hl6 hl7 hl4
  have HH6 := Lib.hid H6; clear H6
  have hwr : IntKind.i64.wrap ((i : Int) + 1) = (i : Int) + 1 := by rw [IntKind.wrap_i64]; omega
  have i0 : (0 : Int) ≤ (i : Int) := by omega
  have i1 : (i : Int) ≤ (c3 : Int) := by omega
  have i2 : (0 : Int) ≤ (i : Int) + 1 := by omega
  have i3 : (i : Int) + 1 ≤ (m : Int) := by omega
  have i4 : ((i : Int) + 1).toNat = i + 1 := by omega
  have i5 : i ≤ c3 := by omega
  have i6 : i + 1 ≤ m := by omega
  have i7 : ¬ c3 = 0 := by omega
  by_cases hce : c3 = i + 1
  · have hmi : m = i + 1 := by omega
    have hd : l.drop (i + 1) = [] := List.drop_eq_nil_of_le (by rw [HLEN.out]; omega)
    have HD := Lib.hid hd; clear hd
    have HMI := Lib.hid hmi; clear hmi
    subst hce
    have i8 : (i : Int) ≤ (i : Int) + 1 := by omega
    go_region_held3 (fun _ => True) (trivial)
      (first
        | (go_at_call 10; refine (HJR.out.1 _ _ hown8).mono ?_; rintro e w9 ⟨rfl, hb9⟩)
        | (refine step_appS rfl (.tmp 83) (.tmp 87) rfl w6.heap.size v7 ([] ++ l.take i) (l.drop (i + 1)) (some ⟨b1, o1, none⟩) 0 0 (by simp [Act.eval]) hown7 (by simp [Act.eval]) (by rw [HD.out]; rfl) (by rw [HD.out]; exact ShAt.nil _ _ _) (by have := HLD.out.2; omega) hb7.size ?_; intro v8 w8 hown8' hg8 hat8; have hb8 := grown_bel hb7 hown7 hg8 (Nat.le_refl _); have hown8 : OwnS w8 w.heap.size v8 (l.take i ++ l.drop (i + 1)) := hown8'.mono (Nat.le_trans hs3 hs6))
        | (refine step_appS rfl (.tmp 79) (.tmp 82) rfl w6.heap.size (.slice (some ⟨w6.heap.size, 0, none⟩) 0 0) [] (l.take i) (some ⟨b1, o1, none⟩) i (i + 1) (by simp [Act.eval]) HL.out.1 (by simp [Act.eval]) HL.out.2.2.2.1 HL.out.2.2.1 HL.out.2.2.2.2 HL.out.2.1.size ?_; intro v7 w7 hown7 hg7 hat7; have hb7 := grown_bel HL.out.2.1 HL.out.1 hg7 (Nat.le_refl _)))
    have hB9 := (hB3.trans (hB6.mono hs3)).trans ((hb8.trans (hb9.mono hb8.size)).mono (Nat.le_trans hs3 hs6))
    have HB9 := Lib.hid hB9; clear hB9 hb8 hb9 hown8' hown7 hown8 hb7 hg7 hg8 hat7 hat8 hwr i0 i1 i2 i3 i4 i5 i6 i7 i8
    rcases HJR.out.2 with ⟨hqm, rfl, rfl⟩ | ⟨hqm, rfl, rfl⟩
    · have hgt : (q : Int) < (m : Int) := by omega
      rcases HJB.out.2 with ⟨hdz, rfl, rfl⟩ | ⟨hdz, _, rfl, rfl⟩ | ⟨_, hqm2, _, _⟩
      · subst hdz
        go_wp2_with fail
        go_ret
        exact ⟨rfl, HB9.out⟩
      · have hdz' : (d == 0) = false := by simpa using hdz
        go_wp2_with fail
        go_ret
        exact ⟨rfl, HB9.out⟩
      · omega
    · subst hqm
      rcases HJB.out.2 with ⟨hdz, rfl, rfl⟩ | ⟨_, hqm2, _, _⟩ | ⟨hdz, _, rfl, hzb⟩
      · subst hdz
        go_wp2_with fail
        go_ret
        exact ⟨rfl, HB9.out⟩
      · omega
      · have hdz' : (d == 0) = false := by simpa using hdz
        have hzb' : (zb != s) = true := by simpa using hzb
        go_wp2_with fail
        go_ret
        exact ⟨rfl, HB9.out⟩
  · have hcl : i + 1 < c3 := by omega
    go_region_held3 (fun _ => True) (trivial)
      (first
        | (go_at_call 10; refine (HJR.out.1 _ _ hown8).mono ?_; rintro e w9 ⟨rfl, hb9⟩)
        | (refine step_appS rfl (.tmp 83) (.tmp 87) rfl w6.heap.size v7 ([] ++ l.take i) (l.drop (i + 1)) (some ⟨b1, o1 + (i + 1) * 2, none⟩) (m - (i + 1)) (c3 - (i + 1)) (by simp [Act.eval]) hown7 (by simp [Act.eval]) HLD.out.1 (((HH6.out.below hb7).more hb7.size).drop (i + 1)) HLD.out.2 hb7.size ?_; intro v8 w8 hown8' hg8 hat8; have hb8 := grown_bel hb7 hown7 hg8 (Nat.le_refl _); have hown8 : OwnS w8 w.heap.size v8 (l.take i ++ l.drop (i + 1)) := hown8'.mono (Nat.le_trans hs3 hs6))
        | (refine step_appS rfl (.tmp 79) (.tmp 82) rfl w6.heap.size (.slice (some ⟨w6.heap.size, 0, none⟩) 0 0) [] (l.take i) (some ⟨b1, o1, none⟩) i c3 (by simp [Act.eval]) HL.out.1 (by simp [Act.eval]) HL.out.2.2.2.1 HL.out.2.2.1 HL.out.2.2.2.2 HL.out.2.1.size ?_; intro v7 w7 hown7 hg7 hat7; have hb7 := grown_bel HL.out.2.1 HL.out.1 hg7 (Nat.le_refl _)))
    have hB9 := (hB3.trans (hB6.mono hs3)).trans ((hb8.trans (hb9.mono hb8.size)).mono (Nat.le_trans hs3 hs6))
    have HB9 := Lib.hid hB9; clear hB9 hb8 hb9 hown8' hown7 hown8 hb7 hg7 hg8 hat7 hat8 hwr i0 i1 i2 i3 i4 i5 i6 i7
    rcases HJR.out.2 with ⟨hqm, rfl, rfl⟩ | ⟨hqm, rfl, rfl⟩
    · have hgt : (q : Int) < (m : Int) := by omega
      rcases HJB.out.2 with ⟨hdz, rfl, rfl⟩ | ⟨hdz, _, rfl, rfl⟩ | ⟨_, hqm2, _, _⟩
      · subst hdz
        go_wp2_with fail
        go_ret
        exact ⟨rfl, HB9.out⟩
      · have hdz' : (d == 0) = false := by simpa using hdz
        go_wp2_with fail
        go_ret
        exact ⟨rfl, HB9.out⟩
      · omega
    · subst hqm
      rcases HJB.out.2 with ⟨hdz, rfl, rfl⟩ | ⟨_, hqm2, _, _⟩ | ⟨hdz, _, rfl, hzb⟩
      · subst hdz
        go_wp2_with fail
        go_ret
        exact ⟨rfl, HB9.out⟩
      · omega
      · have hdz' : (d == 0) = false := by simpa using hdz
        have hzb' : (zb != s) = true := by simpa using hzb
        go_wp2_with fail
        go_ret
        exact ⟨rfl, HB9.out⟩

end Go.Proofs.Ytfipogmndokhkaa
