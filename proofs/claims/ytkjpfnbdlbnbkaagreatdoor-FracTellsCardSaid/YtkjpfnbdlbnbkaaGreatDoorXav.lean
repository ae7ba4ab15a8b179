/- Walks: the reference's Read. Printed by a program (rread.py). Walks: Same of both, whatever the arguments. Printed by a program (samebad.py). Walks: Compare, Neg, Int of big and of the reference, and the reference's Text, where an argument is not right. Printed by a program (rbad1.py). -/
import Derived.Test.YtkjpfnbdlbnbkaaGreatDoorXau
import Derived.Test.YtkjpfnbdlbnbkaaGreatDoorXai
import Derived.Deep.Cut
import Derived.Deep.RegionHeld3
import Derived.Test.YtkjpfnbdlbnbkaaGreatDoorXat

namespace Go.Proofs.YtkjpfnbdlbnbkaaGreatDoor
open Go.RowKit

/-- t is s without its sign. -/
theorem num_text {s : ByteArray} {z : Int} (h : bts s = Lib.itoa z) : NumT (Lib.trimPrefix (bts s) [45]) ∧ Lib.hasPrefix (bts s) [45] = decide (z < 0) ∧ dv (Lib.trimPrefix (bts s) [45]) = (ab z).toNat := by
  obtain ⟨h1, h2⟩ := cut_itoa z
  rw [h, h1, h2]
  exact ⟨dd_numT _, rfl, dv_dd _⟩
theorem num_not (s : ByteArray) (h : ¬ NumT (Lib.trimPrefix (bts s) [45]) ∨ (Lib.hasPrefix (bts s) [45] = true ∧ Lib.trimPrefix (bts s) [45] = [48])) : ∀ z, bts s ≠ Lib.itoa z := fun z hz => by
  obtain ⟨h1, h2, h3⟩ := num_text hz
  rcases h with h | ⟨h4, h5⟩
  · exact h h1
  · rw [h5] at h3
    rw [h2] at h4
    have h6 : dv [48] = 0 := rfl
    rw [h6] at h3
    have h7 := of_decide_eq_true h4
    unfold ab at h3
    omega
def ReadR (s : ByteArray) (Z e : Int) : Prop := (∃ z, bts s = Lib.itoa z ∧ Z = fitz z ∧ e = fite z) ∨ ((∀ z, bts s ≠ Lib.itoa z) ∧ Z = 0 ∧ e = 2)
theorem ReadR.bad {s : ByteArray} {Z e : Int} (h : ReadR s Z e) (hb : ¬ NumT (Lib.trimPrefix (bts s) [45]) ∨ (Lib.hasPrefix (bts s) [45] = true ∧ Lib.trimPrefix (bts s) [45] = [48])) : Z = 0 ∧ e = 2 := by
  rcases h with ⟨z, hz, _⟩ | ⟨_, h⟩
  · exact absurd hz (num_not s hb z)
  · exact h
theorem ReadR.good {s : ByteArray} {Z e : Int} (h : ReadR s Z e) (hn : NumT (Lib.trimPrefix (bts s) [45])) (hp : ¬ (Lib.hasPrefix (bts s) [45] = true ∧ Lib.trimPrefix (bts s) [45] = [48])) :
    ∃ z, Z = fitz z ∧ e = fite z ∧ ab z = dv (Lib.trimPrefix (bts s) [45]) ∧ z = (if Lib.hasPrefix (bts s) [45] = true then -1 else 1) * (dv (Lib.trimPrefix (bts s) [45]) : Int) := by
  rcases h with ⟨z, hz, h1, h2⟩ | ⟨h, _⟩
  · obtain ⟨_, h4, h5⟩ := num_text hz
    refine ⟨z, h1, h2, ?_, ?_⟩
    · have := ab_nonneg z
      omega
    · rw [h4, h5]
      unfold ab
      by_cases hz0 : z < 0
      · simp [hz0]; omega
      · simp [hz0]; omega
  · obtain ⟨z, hz⟩ := itoa_of hn hp
    exact absurd hz (h z)
theorem cut_minus {s : ByteArray} (hp : 0 < s.size) (h : (s[0].toNat : Int) = 45) : Lib.hasPrefix (bts s) [45] = true ∧ bts (s.extract 1 s.size) = Lib.trimPrefix (bts s) [45] ∧ s.toList ≠ [48] := by
  have hc : ∃ r, bts s = 45 :: r := by
    have h0 := bts_get s 0 hp
    cases hb : bts s with
    | nil => rw [hb] at h0; simp at h0
    | cons c r =>
      rw [hb] at h0
      simp at h0
      refine ⟨r, ?_⟩
      rw [h0]
      congr 1
      apply UInt8.toNat_inj.1
      show _ = 45
      omega
  obtain ⟨r, hr⟩ := hc
  refine ⟨by rw [hr]; rfl, ?_, fun e => ?_⟩
  · have h1 : bts (s.extract 1 s.size) = (bts s).drop 1 := by
      unfold bts
      rw [ByteArray.data_extract]
      simp
      exact List.take_of_length_le (by simp)
    rw [h1, hr]
    rfl
  · have e : bts s = [48] := by rw [ByteArray.toList_eq] at e; exact e
    rw [hr] at e
    simp at e
theorem hpre_cons {c : UInt8} {r : List UInt8} (h : Lib.hasPrefix (c :: r) [45] = true) : c = 45 := by
  simp [Lib.hasPrefix] at h
  exact h.symm
theorem cut_none {s : ByteArray} (h : ∀ hp : 0 < s.size, (s[0].toNat : Int) ≠ 45) : Lib.hasPrefix (bts s) [45] = false ∧ bts s = Lib.trimPrefix (bts s) [45] := by
  cases hb : bts s with
  | nil => exact ⟨rfl, rfl⟩
  | cons c r =>
    have hp : 0 < s.size := by rw [← bts_len, hb]; simp
    have h0 := bts_get s 0 hp
    rw [hb] at h0
    simp at h0
    have hc : ¬ c = 45 := fun e => h hp (by rw [← h0, e]; rfl)
    have hh : Lib.hasPrefix (c :: r) [45] = false := by
      rcases hq : Lib.hasPrefix (c :: r) [45] with _ | _
      · rfl
      · exact absurd (hpre_cons hq) hc
    refine ⟨hh, ?_⟩
    unfold Lib.trimPrefix
    rw [hh]
    rfl
theorem dv_take_le {l : List UInt8} (k : Nat) : dv (l.take k) ≤ dv l := by
  have h1 := dv_append (l.take k) (l.drop k)
  rw [List.take_append_drop] at h1
  have h2 : 1 ≤ 10 ^ (l.drop k).length := Nat.pow_pos (by decide)
  have h3 := Nat.mul_le_mul_left (dv (l.take k)) h2
  omega

theorem sv_lit {w : World} {g : Nat} {x : Int} (h : Blk w g 3 #[.int .i64 x]) : Sv w (.slice (some ⟨g, 0, none⟩) 1 1) [x] := ⟨_, 1, rfl, by simp, by omega, fun k hk => by
  have : k = 0 := by simpa using hk
  subst this
  exact ⟨g, 0, rfl, h.lt, h.cell 0⟩⟩
/-- The three calls of a round of Read. -/
theorem read_calls (wr : World) (u : Value) (X d : Int) (hu : Sv wr u (D X)) (hX0 : 0 ≤ X) (hX1 : X < pw 60) (hd0 : 0 ≤ d) (hd1 : d < 10) :
    (∀ (w' : World) (g : Nat), Below wr.heap.size wr w' → Blk w' g 3 #[.int .i64 10] → Calls Tryz.prog 68 #[u, .slice (some ⟨g, 0, none⟩) 1 1] w' fun e w'' => ∃ v, e = .returned v ∧ OwnI w'' w'.heap.size v (D (X * 10)) ∧ Below w'.heap.size w' w'') ∧
    (∀ (w' : World) (g : Nat), Blk w' g 3 #[.int .i64 d] → Calls Tryz.prog 78 #[.slice (some ⟨g, 0, none⟩) 1 1] w' fun e w'' => ∃ v, e = .returned v ∧ OwnI w'' w'.heap.size v (D d) ∧ Below w'.heap.size w' w'') ∧
    (∀ (w' : World) (v1 v2 : Value), Sv w' v1 (D (X * 10)) → Sv w' v2 (D d) → Calls Tryz.prog 63 #[v1, v2] w' fun e w'' => ∃ v, e = .returned v ∧ OwnI w'' w'.heap.size v (D (X * 10 + d)) ∧ Below w'.heap.size w' w'') ∧ True := by
  have hd : Dig [d] := fun y hy => by simp at hy; subst hy; omega
  have h10 : Dig [10] := fun y hy => by simp at hy; subst hy; omega
  have n1 : nv [10] = 10 := by simp [nv]
  have n2 : nv [d] = d := by simp [nv]
  have l1 : (D X).length ≤ 60 := (D_len_le hX0).2 hX1
  have hp : pw 61 = 1048576 * pw 60 := pw_succ 60
  have l2 : (D (X * 10)).length ≤ 61 := (D_len_le (by omega)).2 (by omega)
  have l3 : (D d).length ≤ 60 := (D_len_le hd0).2 (by
    have h2 := pw_le (a := 1) (b := 60) (by omega)
    have h1 : pw 1 = 1048576 := by decide
    omega)
  refine ⟨fun w' g hb hk => ?_, fun w' g hk => ?_, fun w' v1 v2 h1 h2 => ?_, trivial⟩
  · have h := rtimes_any (D X) [10] u _ w' (hu.later hb) (sv_lit hk) (Dig_D X) h10 (by omega) (by simp)
    rw [nv_D hX0, n1] at h
    exact h
  · have h := rtrim_any [d] _ w' (sv_lit hk) hd (by simp)
    rw [n2] at h
    exact h
  · have h := rplus_any (D (X * 10)) (D d) v1 v2 w' h1 h2 (Dig_D _) (Dig_D _) (by omega) (by omega)
    rw [nv_D (by omega), nv_D hd0] at h
    exact h

set_option maxRecDepth 100000 in
set_option maxHeartbeats 16000000 in
theorem rread_any (s : ByteArray) (w : World) (hs : s.size ≤ 400) (Z e' : Int) (hZ : ReadR s Z e') :
    Calls Tryz.prog 19 #[.string s] w fun e w' => ∃ r, e = .returned (.tuple #[r, .int .i64 e']) ∧ BO w' w.heap.size r Z ∧ Below w.heap.size w w' := by
  have HZ := Lib.hid hZ; clear hZ
  have hb0 := (Below.refl w.heap.size w).alloc (Nat.le_refl _) (.cells #[.int .i64 0, .slice none 0 0] 24)
  have k0 := Blk.new w 24 #[.int .i64 0, .slice none 0 0]
  obtain ⟨W, hW⟩ : ∃ W, w.alloc (.cells #[.int .i64 0, .slice none 0 0] 24) = W := ⟨_, rfl⟩
  have HW := Lib.hid hW
  rw [hW] at hb0 k0
  clear hW
  have hgW := k0.lt
  have q0 : W.cell? ⟨w.heap.size, 0, none⟩ = some (.int .i64 0) := k0.cell 0
  have q1 : W.cell? ⟨w.heap.size, 1, none⟩ = some (.slice none 0 0) := k0.cell 1
  have f0 := k0.frozen 0
  have f1 := k0.frozen 1
  have K0 := Lib.hid k0; clear k0
  have hbox : ∀ W' : World, Below W.heap.size W W' → W'.cell? ⟨w.heap.size, 0, none⟩ = some (.int .i64 0) ∧ W'.cell? ⟨w.heap.size, 1, none⟩ = some (.slice none 0 0) := fun W' hW => ⟨(K0.out.below hW K0.out.lt).cell 0, (K0.out.below hW K0.out.lt).cell 1⟩
  have BOX := Lib.hid hbox; clear hbox
  have hbs : Below w.heap.size w ((W.setCell ⟨w.heap.size, 0, none⟩ (.int .i64 0)).setCell ⟨w.heap.size, 1, none⟩ (.slice none 0 0)) := (hb0.setCell (p := ⟨w.heap.size, 0, none⟩) (Nat.le_refl _) _).setCell (p := ⟨w.heap.size, 1, none⟩) (Nat.le_refl _) _
  by_cases hs0 : s.size = 0
  · have he : s = ⟨#[]⟩ := by
      apply ByteArray.ext
      apply Array.toList_inj.1
      exact List.eq_nil_of_length_eq_zero (by have := bts_len s; unfold bts at this; omega)
    subst he
    have hbad := Lib.hid (HZ.out.bad (.inl (fun h => h.2.1 rfl)))
    clear hs0 hs
    go_enter Tryz.func19, Tryz.ntmps19
    go_wp2_with fail
    rw [HW.out]
    refine bodyPost_ret (v := .tuple #[.agg #[.int .i64 0, .slice none 0 0], .int .i64 2]) (by simp [results, Tryz.results19, go_sem, q0, q1]) rfl ?_
    exact ⟨_, by rw [hbad.out.2], by rw [hbad.out.1]; exact BO.zero _ _, hb0⟩
  · have hp : 0 < s.size := by omega
    by_cases h45 : (s[0].toNat : Int) = 45
    · have h45' : ((s[0].toNat : Int) == 45) = true := by simpa using h45
      obtain ⟨t1, t2, t3⟩ := cut_minus hp h45
      have h1s : (1 : Int) ≤ (s.size : Int) := by omega
      obtain ⟨t, ht⟩ : ∃ t, s.extract 1 s.size = t := ⟨_, rfl⟩
      rw [ht] at t2
      have htl : t.size ≤ 400 := by rw [← ht, ByteArray.size_extract]; omega
      have HT := Lib.hid (And.intro t2 t1); clear t1 t2 h45
      have HTE := Lib.hid ht; clear ht
      go_enter Tryz.func19, Tryz.ntmps19
      go_upto_region 6 with fail
      rw [HW.out, HTE.out]
      clear h45' h1s hs0 hs
      by_cases hne : t.toList = []
      · have hbad := Lib.hid (HZ.out.bad (.inl (fun h => h.2.1 (by rw [← HT.out.1]; unfold bts; rw [← ByteArray.toList_eq]; exact hne))))
        go_wp2_with fail
        refine bodyPost_ret (v := .tuple #[.agg #[.int .i64 0, .slice none 0 0], .int .i64 2]) (by simp [results, Tryz.results19, go_sem, q0, q1]) rfl ?_
        exact ⟨_, by rw [hbad.out.2], by rw [hbad.out.1]; exact BO.zero _ _, hbs⟩
      · have hp1 : 0 < t.size := by
          rcases Nat.eq_zero_or_pos t.size with h | h
          · exact absurd (by rw [ByteArray.toList_eq]; exact List.eq_nil_of_length_eq_zero (by have := bts_len t; unfold bts at this; omega)) hne
          · exact h
        have hh : (bts t).head? = some t[0] := by rw [List.head?_eq_getElem?, bts_get t 0 hp1]
        have he1 : t.toList.isEmpty = false := by simpa using hne
        have hbn : bts t ≠ [] := fun e => hne (by rw [ByteArray.toList_eq]; exact e)
        by_cases h48 : (t[0].toNat : Int) = 48
        · have h48' : ((t[0].toNat : Int) == 48) = true := by simpa using h48
          have hhd : (bts t).head? = some 48 := by
            rw [hh]
            congr 1
            apply UInt8.toNat_inj.1
            show _ = 48
            omega
          have hs2 : (s.toList == [48]) = false := by simpa using t3
          have hbad := Lib.hid (HZ.out.bad (by
            by_cases h : bts t = [48]
            · exact .inr ⟨HT.out.2, by rw [← HT.out.1]; exact h⟩
            · exact .inl (fun hn => by
                rw [← HT.out.1] at hn
                rcases hn.2.2 with h1 | h1
                · exact h h1
                · exact h1 hhd)))
          clear hhd hh hbn
          go_wp2_with fail
          refine bodyPost_ret (v := .tuple #[.agg #[.int .i64 0, .slice none 0 0], .int .i64 2]) (by simp [results, Tryz.results19, go_sem, q0, q1]) rfl ?_
          exact ⟨_, by rw [hbad.out.2], by rw [hbad.out.1]; exact BO.zero _ _, hbs⟩
        · have h48' : ((t[0].toNat : Int) == 48) = false := by simpa using h48
          have hhd : (bts t).head? ≠ some 48 := fun e => by
            rw [hh] at e
            have e := Option.some.inj e
            exact h48 (by rw [e]; rfl)
          have HC : Hid (bts t ≠ [] ∧ (bts t = [48] ∨ (bts t).head? ≠ some 48) ∧ ¬ (Lib.hasPrefix (bts s) [45] = true ∧ Lib.trimPrefix (bts s) [45] = [48])) := Lib.hid ⟨hbn, .inr hhd, fun h => hhd (by rw [HT.out.1, h.2]; rfl)⟩
          clear hhd hh hbn
          go_wp2_with fail
          clear hne he1
          (try rw [HW.out])
          go_loop [6] (fun iv => ∃ i : Nat, i ≤ t.size ∧ iv = .int .i64 i ∧ Hid (allD ((bts t).take i))) (fun iv => t.size - (intOf iv).toNat)
          case atStart => exact ⟨0, Nat.zero_le _, rfl, Lib.hid (fun b hb => by cases hb)⟩
          case round =>
            obtain ⟨i, hi, rfl, hv⟩ := hrel
            by_cases hgo : i < t.size
            · have HSN := Lib.hid (bts_snoc t i hgo)
              have hbd : ¬ isD t[i] → Z = 0 ∧ e' = 2 := fun hn => HZ.out.bad (.inl (fun h => hn (h.1 _ (by rw [← HT.out.1]; exact bts_mem t i hgo))))
              have HBD := Lib.hid hbd; clear hbd
              by_cases h1 : (t[i].toNat : Int) < 48
              · have hbad := Lib.hid (HBD.out (by unfold isD; omega))
                go_wp2_with fail
                refine bodyPost_ret (v := .tuple #[.agg #[.int .i64 0, .slice none 0 0], .int .i64 2]) (by simp [results, Tryz.results19, go_sem, q0, q1]) rfl ?_
                exact ⟨_, by rw [hbad.out.2], by rw [hbad.out.1]; exact BO.zero _ _, hbs⟩
              · by_cases h2 : 57 < (t[i].toNat : Int)
                · have hbad := Lib.hid (HBD.out (by unfold isD; omega))
                  go_wp2_with fail
                  refine bodyPost_ret (v := .tuple #[.agg #[.int .i64 0, .slice none 0 0], .int .i64 2]) (by simp [results, Tryz.results19, go_sem, q0, q1]) rfl ?_
                  exact ⟨_, by rw [hbad.out.2], by rw [hbad.out.1]; exact BO.zero _ _, hbs⟩
                · have hnew := Lib.hid (show allD ((bts t).take (i + 1)) by
                    rw [HSN.out]
                    intro b hb
                    rcases List.mem_append.1 hb with h | h
                    · exact hv.out b h
                    · rw [List.mem_singleton] at h
                      subst h
                      unfold isD
                      omega)
                  go_wp2_with fail
                  go_round
                  case rel => exact ⟨i + 1, by omega, rfl, hnew⟩
                  case measure => simp [intOf]; omega
            · have : t.size = i := by omega
              have hall := hv.out
              rw [List.take_of_length_le (by rw [bts_len]; omega)] at hall
              have hgood := HZ.out.good (by rw [← HT.out.1]; exact ⟨hall, HC.out.1, HC.out.2.1⟩) HC.out.2.2
              rw [← HT.out.1, HT.out.2] at hgood
              have HG := Lib.hid hgood; clear hgood
              have HALL := Lib.hid hall; clear hall
              clear hv
              go_wp2_with fail
              go_loopw [7, 8] (fun lv kv wr => ∃ k : Nat, k ≤ t.size ∧ kv = .int .i64 k ∧ Below W.heap.size W wr ∧ Hid (OwnI wr W.heap.size lv (D (dv ((bts t).take k) : Int)) ∧ (D (dv ((bts t).take k) : Int)).length ≤ 60)) (fun _ kv _ => t.size - (intOf kv).toNat)
              case atStart => exact ⟨0, Nat.zero_le _, rfl, Below.refl _ _, Lib.hid ⟨by rw [List.take_zero]; show OwnI _ _ _ (D 0); rw [D_zero]; exact OwnI.nil _ _, by rw [List.take_zero]; show (D 0).length ≤ 60; rw [D_zero]; simp⟩⟩
              case round =>
                obtain ⟨k, hk, rfl, hb, ho⟩ := hrel
                have hs' := hb.size
                by_cases hgo : k < t.size
                · have HSN := Lib.hid (bts_snoc t k hgo)
                  have hdg := HALL.out _ (bts_mem t k hgo)
                  unfold isD at hdg
                  obtain ⟨d0, d1⟩ := hdg
                  obtain ⟨d, hd⟩ : ∃ d : Int, (t[k].toNat : Int) - 48 = d := ⟨_, rfl⟩
                  have hd0 : 0 ≤ d ∧ d < 10 := by omega
                  obtain ⟨hd0, hd1⟩ := hd0
                  have X0 : (0 : Int) ≤ (dv ((bts t).take k) : Int) := by omega
                  have hsn : ((dv ((bts t).take (k + 1)) : Nat) : Int) = (dv ((bts t).take k) : Int) * 10 + d := by
                    rw [HSN.out, dv_snoc]
                    omega
                  obtain ⟨X, hX⟩ : ∃ X : Int, (dv ((bts t).take k) : Int) = X := ⟨_, rfl⟩
                  rw [hX] at X0 hsn ho
                  have HX := Lib.hid (And.intro hsn hX)
                  have hXl := (D_len_le X0 (k := 60)).1 ho.out.2
                  have hX10 : X * 10 < pw 61 := by
                    have : pw 61 = 1048576 * pw 60 := pw_succ 60
                    omega
                  obtain ⟨hc1, hc2, hc3, hc4⟩ := read_calls wr u7 X d ho.out.1.sv X0 hXl hd0 hd1
                  have HC1 := Lib.hid hc1
                  have HC2 := Lib.hid hc2
                  have HC3 := Lib.hid hc3
                  have xA : Below wr.heap.size wr (wr.alloc (.cells #[.int .i64 10] 3)).drew := ((Below.refl _ _).alloc (Nat.le_refl _) _).drew
                  have xAB : Below wr.heap.size wr ((wr.alloc (.cells #[.int .i64 10] 3)).alloc (.cells #[.int .i64 d] 3)).drew := (((Below.refl _ _).alloc (Nat.le_refl _) _).alloc (by simp) _).drew
                  have xBA : Below wr.heap.size wr ((wr.alloc (.cells #[.int .i64 d] 3)).alloc (.cells #[.int .i64 10] 3)).drew := (((Below.refl _ _).alloc (Nat.le_refl _) _).alloc (by simp) _).drew
                  have yA : Blk (wr.alloc (.cells #[.int .i64 10] 3)).drew wr.heap.size 3 #[.int .i64 10] := Blk.new wr 3 _
                  have yAB : Blk ((wr.alloc (.cells #[.int .i64 10] 3)).alloc (.cells #[.int .i64 d] 3)).drew wr.heap.size 3 #[.int .i64 10] := (Blk.new wr 3 #[.int .i64 10]).alloc _
                  have yAB' : Blk ((wr.alloc (.cells #[.int .i64 10] 3)).alloc (.cells #[.int .i64 d] 3)).drew (wr.heap.size + 1) 3 #[.int .i64 d] := by
                    have := Blk.new (wr.alloc (.cells #[.int .i64 10] 3)) 3 #[.int .i64 d]
                    rwa [World.size_alloc] at this
                  have yBA : Blk ((wr.alloc (.cells #[.int .i64 d] 3)).alloc (.cells #[.int .i64 10] 3)).drew (wr.heap.size + 1) 3 #[.int .i64 10] := by
                    have := Blk.new (wr.alloc (.cells #[.int .i64 d] 3)) 3 #[.int .i64 10]
                    rwa [World.size_alloc] at this
                  have yBA' : Blk ((wr.alloc (.cells #[.int .i64 d] 3)).alloc (.cells #[.int .i64 10] 3)).drew wr.heap.size 3 #[.int .i64 d] := (Blk.new wr 3 #[.int .i64 d]).alloc _
                  have XA := Lib.hid (And.intro xA yA)
                  have XAB := Lib.hid (And.intro xAB (And.intro yAB yAB'))
                  have XBA := Lib.hid (And.intro xBA (And.intro yBA yBA'))
                  have hwu : IntKind.u8.wrap d = d := by rw [IntKind.wrap_u8]; omega
                  have hwd : IntKind.i64.wrap d = d := by rw [IntKind.wrap_i64]; omega
                  clear xA xAB xBA yA yAB yAB' yBA yBA' hc1 hc2 hc3 hc4 hsn hX
                  go_wp2_with fail
                  go_region_held3 (fun _ => True) (trivial)
                    (first
                      | (go_at_call 63; have _h := hB7; refine (HC3.out _ _ _ (hown5.sv.later hb57) hown7.sv).mono ?_; rintro e w8 ⟨v8, rfl, hown8, hb8⟩; have hB8 : Below wr.heap.size wr w8 := hB7.trans (hb8.mono hB7.size))
                      | (go_at_call 78; have _h := hB5; refine (HC2.out _ _ (by first | exact hDAB | exact hDBA | exact Blk.new w5 _ _)).mono ?_; rintro e w7 ⟨v7, rfl, hown7, hb7⟩; have hb57 : Below w5.heap.size w5 w7 := (by first | exact hb7 | exact ((Below.refl _ _).alloc (Nat.le_refl _) _).trans (hb7.mono (by simp))); have hB7 : Below wr.heap.size wr w7 := hB5.trans (hb57.mono hB5.size))
                      | (go_at_call 68; refine (HC1.out _ _ (by first | exact XA.out.1 | exact XAB.out.1 | exact XBA.out.1) (by first | exact XA.out.2 | exact XAB.out.2.1 | exact XBA.out.2.1)).mono ?_; rintro e w5 ⟨v5, rfl, hown5, hb5⟩; have hB5 : Below wr.heap.size wr w5 := (by first | exact XA.out.1.trans (hb5.mono XA.out.1.size) | exact XAB.out.1.trans (hb5.mono XAB.out.1.size) | exact XBA.out.1.trans (hb5.mono XBA.out.1.size)); (try have hDAB : Blk w5 (wr.heap.size + 1) 3 #[.int .i64 d] := XAB.out.2.2.below hb5 XAB.out.2.2.lt); (try have hDBA : Blk w5 wr.heap.size 3 #[.int .i64 d] := XBA.out.2.2.below hb5 XBA.out.2.2.lt)))
                  all_goals
                    have hB08 := hb.trans (hB8.mono hs')
                    have hs57 := hb57.size
                    have hs05 := hB5.size
                    have ho8 := hown8.mono (show W.heap.size ≤ w7.heap.size by omega)
                    have hXX := HX.out.1
                    obtain ⟨A8, c8, rfl, hc8a, hc8b, _⟩ := hown8.at_
                    have HO8 := Lib.hid ho8
                    clear ho8 hown8
                    obtain ⟨n8, hn8⟩ : ∃ n8, (D (X * 10 + d)).length = n8 := ⟨_, rfl⟩
                    rw [hn8] at HO8 hc8a ⊢
                    by_cases hbig : 60 < n8
                    · have hbad := Lib.hid (show Z = 0 ∧ e' = 6 by
                        obtain ⟨z, hz1, hz2, hz3, _⟩ := HG.out
                        have h1 := dv_take_le (l := bts t) (k + 1)
                        have h2 : ¬ X * 10 + d < pw 60 := fun h => by
                          have := (D_len_le (show (0 : Int) ≤ X * 10 + d by omega) (k := 60)).2 h
                          omega
                        have h3 : ¬ ab z < pw 60 := by
                          rw [hz3]
                          omega
                        exact ⟨by rw [hz1]; exact if_neg h3, by rw [hz2]; exact if_neg h3⟩)
                      obtain ⟨q08, q18⟩ := BOX.out _ hB08
                      have f08 := (K0.out.below hB08 K0.out.lt).frozen 0
                      have f18 := (K0.out.below hB08 K0.out.lt).frozen 1
                      have hg8 : w.heap.size < w8.heap.size := by have := hB08.size; omega
                      have hT := hb0.trans (hB08.mono hb0.size)
                      clear hn8 hXX q0 q1 f0 f1
                      go_wp2_with fail
                      refine bodyPost_ret (v := .tuple #[.agg #[.int .i64 0, .slice none 0 0], .int .i64 6]) (by simp [results, Tryz.results19, go_sem, q08, q18]) rfl ?_
                      exact ⟨_, by rw [hbad.out.2], by rw [hbad.out.1]; exact BO.zero _ _, below_st hT (Nat.le_refl _) _ _⟩
                    · have hnew := Lib.hid (show OwnI w8 W.heap.size (.slice A8 n8 c8) (D (dv ((bts t).take (k + 1)) : Int)) ∧ (D (dv ((bts t).take (k + 1)) : Int)).length ≤ 60 by
                        rw [hXX]
                        exact ⟨HO8.out, by omega⟩)
                      clear hn8 hXX
                      go_wp2_with fail
                      go_roundw
                      case rel => exact ⟨k + 1, by omega, rfl, hB08, hnew⟩
                      case measure => simp [intOf]; omega
                · have : t.size = k := by omega
                  have hz : Hid (∃ z, Z = z ∧ e' = 0 ∧ z = (-1 : Int) * nv (D (dv (bts t) : Int)) ∧ Dig (D (dv (bts t) : Int))) := Lib.hid (by
                    obtain ⟨z, hz1, hz2, hz3, hz4⟩ := HG.out
                    have h1 := ho.out.2
                    rw [List.take_of_length_le (by rw [bts_len]; omega)] at h1
                    have h2 := (D_len_le (show (0 : Int) ≤ (dv (bts t) : Int) by omega)).1 h1
                    rw [← hz3] at h2
                    refine ⟨z, by rw [hz1, (fits h2).2], by rw [hz2, (fits h2).1], ?_, Dig_D _⟩
                    rw [nv_D (by omega), hz4]
                    simp)
                  have hoo := ho.out.1
                  rw [List.take_of_length_le (by rw [bts_len]; omega)] at hoo
                  have HOO := Lib.hid hoo; clear hoo
                  have hll : Hid ((D (dv (bts t) : Int)).length ≤ 400) := Lib.hid (by
                    have h1 := ho.out.2
                    rw [List.take_of_length_le (by rw [bts_len]; omega)] at h1
                    omega)
                  obtain ⟨z, hz1, hz2, hz3, hz4⟩ := hz.out
                  have HZ3 := Lib.hid (And.intro hz1 (And.intro hz2 (And.intro hz3 hz4)))
                  clear hz1 hz2 hz3 hz4
                  obtain ⟨q0', q1'⟩ := BOX.out _ hb
                  have f0' := (K0.out.below hb K0.out.lt).frozen 0
                  have f1' := (K0.out.below hb K0.out.lt).frozen 1
                  have hgr : w.heap.size < wr.heap.size := by omega
                  go_wp2_with fail
                  refine (rmade_any _ (-1) z _ _ HOO.out.sv HZ3.out.2.2.2 hll.out HZ3.out.2.2.1 (.inr (.inl rfl))).mono ?_
                  rintro e w5 ⟨r, rfl, hr, hb5⟩
                  obtain ⟨sr, Ar_, nr, cr, rfl⟩ := hr.form
                  have hB5 := hb.trans (hb5.mono hs')
                  obtain ⟨q05, q15⟩ := BOX.out _ hB5
                  have f05 := (K0.out.below hB5 K0.out.lt).frozen 0
                  have f15 := (K0.out.below hB5 K0.out.lt).frozen 1
                  have hg5 : w.heap.size < w5.heap.size := by have := hB5.size; omega
                  clear q0' q1' f0' f1'
                  have hbs5 := (K0.out.below hB5 K0.out.lt).set2 (.int .i64 sr) (.slice Ar_ nr cr)
                  have x0 := hbs5.cell 0
                  have x1 := hbs5.cell 1
                  simp at x0 x1
                  have hT := hb0.trans (hB5.mono hb0.size)
                  go_wp2_with fail
                  refine bodyPost_ret (v := .tuple #[.agg #[.int .i64 sr, .slice Ar_ nr cr], .int .i64 0]) (by simp [results, Tryz.results19, go_sem, x0, x1]) rfl ?_
                  exact ⟨_, by rw [HZ3.out.2.1], by rw [HZ3.out.1]; exact (hr.far2 hgr _ _).mono (by omega), below_st hT (Nat.le_refl _) _ _⟩
    · have h45' : ((s[0].toNat : Int) == 45) = false := by simpa using h45
      obtain ⟨t1, t2⟩ := cut_none (s := s) (fun _ => h45)
      have HT := Lib.hid (And.intro t2 t1); clear t1 t2 h45
      go_enter Tryz.func19, Tryz.ntmps19
      go_upto_region 6 with fail
      rw [HW.out]
      clear h45' hs0
      by_cases hne : s.toList = []
      · have hbad := Lib.hid (HZ.out.bad (.inl (fun h => h.2.1 (by rw [← HT.out.1]; unfold bts; rw [← ByteArray.toList_eq]; exact hne))))
        go_wp2_with fail
        refine bodyPost_ret (v := .tuple #[.agg #[.int .i64 0, .slice none 0 0], .int .i64 2]) (by simp [results, Tryz.results19, go_sem, q0, q1]) rfl ?_
        exact ⟨_, by rw [hbad.out.2], by rw [hbad.out.1]; exact BO.zero _ _, hbs⟩
      · have hp1 : 0 < s.size := by
          rcases Nat.eq_zero_or_pos s.size with h | h
          · exact absurd (by rw [ByteArray.toList_eq]; exact List.eq_nil_of_length_eq_zero (by have := bts_len s; unfold bts at this; omega)) hne
          · exact h
        have hh : (bts s).head? = some s[0] := by rw [List.head?_eq_getElem?, bts_get s 0 hp1]
        have he1 : s.toList.isEmpty = false := by simpa using hne
        have hbn : bts s ≠ [] := fun e => hne (by rw [ByteArray.toList_eq]; exact e)
        by_cases h48 : (s[0].toNat : Int) = 48
        · have h48' : ((s[0].toNat : Int) == 48) = true := by simpa using h48
          have hhd : (bts s).head? = some 48 := by
            rw [hh]
            congr 1
            apply UInt8.toNat_inj.1
            show _ = 48
            omega
          by_cases hss : s.toList = [48]
          · have hs2 : (s.toList == [48]) = true := by simpa using hss
            have HC : Hid (bts s ≠ [] ∧ (bts s = [48] ∨ (bts s).head? ≠ some 48) ∧ ¬ (Lib.hasPrefix (bts s) [45] = true ∧ Lib.trimPrefix (bts s) [45] = [48])) := Lib.hid ⟨hbn, .inl (by rw [ByteArray.toList_eq] at hss; exact hss), fun h => by rw [HT.out.2] at h; cases h.1⟩
            clear hhd hh hbn
            go_wp2_with fail
            clear hne he1
            (try rw [HW.out])
            go_loop [6] (fun iv => ∃ i : Nat, i ≤ s.size ∧ iv = .int .i64 i ∧ Hid (allD ((bts s).take i))) (fun iv => s.size - (intOf iv).toNat)
            case atStart => exact ⟨0, Nat.zero_le _, rfl, Lib.hid (fun b hb => by cases hb)⟩
            case round =>
              obtain ⟨i, hi, rfl, hv⟩ := hrel
              by_cases hgo : i < s.size
              · have HSN := Lib.hid (bts_snoc s i hgo)
                have hbd : ¬ isD s[i] → Z = 0 ∧ e' = 2 := fun hn => HZ.out.bad (.inl (fun h => hn (h.1 _ (by rw [← HT.out.1]; exact bts_mem s i hgo))))
                have HBD := Lib.hid hbd; clear hbd
                by_cases h1 : (s[i].toNat : Int) < 48
                · have hbad := Lib.hid (HBD.out (by unfold isD; omega))
                  go_wp2_with fail
                  refine bodyPost_ret (v := .tuple #[.agg #[.int .i64 0, .slice none 0 0], .int .i64 2]) (by simp [results, Tryz.results19, go_sem, q0, q1]) rfl ?_
                  exact ⟨_, by rw [hbad.out.2], by rw [hbad.out.1]; exact BO.zero _ _, hbs⟩
                · by_cases h2 : 57 < (s[i].toNat : Int)
                  · have hbad := Lib.hid (HBD.out (by unfold isD; omega))
                    go_wp2_with fail
                    refine bodyPost_ret (v := .tuple #[.agg #[.int .i64 0, .slice none 0 0], .int .i64 2]) (by simp [results, Tryz.results19, go_sem, q0, q1]) rfl ?_
                    exact ⟨_, by rw [hbad.out.2], by rw [hbad.out.1]; exact BO.zero _ _, hbs⟩
                  · have hnew := Lib.hid (show allD ((bts s).take (i + 1)) by
                      rw [HSN.out]
                      intro b hb
                      rcases List.mem_append.1 hb with h | h
                      · exact hv.out b h
                      · rw [List.mem_singleton] at h
                        subst h
                        unfold isD
                        omega)
                    go_wp2_with fail
                    go_round
                    case rel => exact ⟨i + 1, by omega, rfl, hnew⟩
                    case measure => simp [intOf]; omega
              · have : s.size = i := by omega
                have hall := hv.out
                rw [List.take_of_length_le (by rw [bts_len]; omega)] at hall
                have hgood := HZ.out.good (by rw [← HT.out.1]; exact ⟨hall, HC.out.1, HC.out.2.1⟩) HC.out.2.2
                rw [← HT.out.1, HT.out.2] at hgood
                have HG := Lib.hid hgood; clear hgood
                have HALL := Lib.hid hall; clear hall
                clear hv
                go_wp2_with fail
                go_loopw [7, 8] (fun lv kv wr => ∃ k : Nat, k ≤ s.size ∧ kv = .int .i64 k ∧ Below W.heap.size W wr ∧ Hid (OwnI wr W.heap.size lv (D (dv ((bts s).take k) : Int)) ∧ (D (dv ((bts s).take k) : Int)).length ≤ 60)) (fun _ kv _ => s.size - (intOf kv).toNat)
                case atStart => exact ⟨0, Nat.zero_le _, rfl, Below.refl _ _, Lib.hid ⟨by rw [List.take_zero]; show OwnI _ _ _ (D 0); rw [D_zero]; exact OwnI.nil _ _, by rw [List.take_zero]; show (D 0).length ≤ 60; rw [D_zero]; simp⟩⟩
                case round =>
                  obtain ⟨k, hk, rfl, hb, ho⟩ := hrel
                  have hs' := hb.size
                  by_cases hgo : k < s.size
                  · have HSN := Lib.hid (bts_snoc s k hgo)
                    have hdg := HALL.out _ (bts_mem s k hgo)
                    unfold isD at hdg
                    obtain ⟨d0, d1⟩ := hdg
                    obtain ⟨d, hd⟩ : ∃ d : Int, (s[k].toNat : Int) - 48 = d := ⟨_, rfl⟩
                    have hd0 : 0 ≤ d ∧ d < 10 := by omega
                    obtain ⟨hd0, hd1⟩ := hd0
                    have X0 : (0 : Int) ≤ (dv ((bts s).take k) : Int) := by omega
                    have hsn : ((dv ((bts s).take (k + 1)) : Nat) : Int) = (dv ((bts s).take k) : Int) * 10 + d := by
                      rw [HSN.out, dv_snoc]
                      omega
                    obtain ⟨X, hX⟩ : ∃ X : Int, (dv ((bts s).take k) : Int) = X := ⟨_, rfl⟩
                    rw [hX] at X0 hsn ho
                    have HX := Lib.hid (And.intro hsn hX)
                    have hXl := (D_len_le X0 (k := 60)).1 ho.out.2
                    have hX10 : X * 10 < pw 61 := by
                      have : pw 61 = 1048576 * pw 60 := pw_succ 60
                      omega
                    obtain ⟨hc1, hc2, hc3, hc4⟩ := read_calls wr u7 X d ho.out.1.sv X0 hXl hd0 hd1
                    have HC1 := Lib.hid hc1
                    have HC2 := Lib.hid hc2
                    have HC3 := Lib.hid hc3
                    have xA : Below wr.heap.size wr (wr.alloc (.cells #[.int .i64 10] 3)).drew := ((Below.refl _ _).alloc (Nat.le_refl _) _).drew
                    have xAB : Below wr.heap.size wr ((wr.alloc (.cells #[.int .i64 10] 3)).alloc (.cells #[.int .i64 d] 3)).drew := (((Below.refl _ _).alloc (Nat.le_refl _) _).alloc (by simp) _).drew
                    have xBA : Below wr.heap.size wr ((wr.alloc (.cells #[.int .i64 d] 3)).alloc (.cells #[.int .i64 10] 3)).drew := (((Below.refl _ _).alloc (Nat.le_refl _) _).alloc (by simp) _).drew
                    have yA : Blk (wr.alloc (.cells #[.int .i64 10] 3)).drew wr.heap.size 3 #[.int .i64 10] := Blk.new wr 3 _
                    have yAB : Blk ((wr.alloc (.cells #[.int .i64 10] 3)).alloc (.cells #[.int .i64 d] 3)).drew wr.heap.size 3 #[.int .i64 10] := (Blk.new wr 3 #[.int .i64 10]).alloc _
                    have yAB' : Blk ((wr.alloc (.cells #[.int .i64 10] 3)).alloc (.cells #[.int .i64 d] 3)).drew (wr.heap.size + 1) 3 #[.int .i64 d] := by
                      have := Blk.new (wr.alloc (.cells #[.int .i64 10] 3)) 3 #[.int .i64 d]
                      rwa [World.size_alloc] at this
                    have yBA : Blk ((wr.alloc (.cells #[.int .i64 d] 3)).alloc (.cells #[.int .i64 10] 3)).drew (wr.heap.size + 1) 3 #[.int .i64 10] := by
                      have := Blk.new (wr.alloc (.cells #[.int .i64 d] 3)) 3 #[.int .i64 10]
                      rwa [World.size_alloc] at this
                    have yBA' : Blk ((wr.alloc (.cells #[.int .i64 d] 3)).alloc (.cells #[.int .i64 10] 3)).drew wr.heap.size 3 #[.int .i64 d] := (Blk.new wr 3 #[.int .i64 d]).alloc _
                    have XA := Lib.hid (And.intro xA yA)
                    have XAB := Lib.hid (And.intro xAB (And.intro yAB yAB'))
                    have XBA := Lib.hid (And.intro xBA (And.intro yBA yBA'))
                    have hwu : IntKind.u8.wrap d = d := by rw [IntKind.wrap_u8]; omega
                    have hwd : IntKind.i64.wrap d = d := by rw [IntKind.wrap_i64]; omega
                    clear xA xAB xBA yA yAB yAB' yBA yBA' hc1 hc2 hc3 hc4 hsn hX
                    go_wp2_with fail
                    go_region_held3 (fun _ => True) (trivial)
                      (first
                        | (go_at_call 63; have _h := hB7; refine (HC3.out _ _ _ (hown5.sv.later hb57) hown7.sv).mono ?_; rintro e w8 ⟨v8, rfl, hown8, hb8⟩; have hB8 : Below wr.heap.size wr w8 := hB7.trans (hb8.mono hB7.size))
                        | (go_at_call 78; have _h := hB5; refine (HC2.out _ _ (by first | exact hDAB | exact hDBA | exact Blk.new w5 _ _)).mono ?_; rintro e w7 ⟨v7, rfl, hown7, hb7⟩; have hb57 : Below w5.heap.size w5 w7 := (by first | exact hb7 | exact ((Below.refl _ _).alloc (Nat.le_refl _) _).trans (hb7.mono (by simp))); have hB7 : Below wr.heap.size wr w7 := hB5.trans (hb57.mono hB5.size))
                        | (go_at_call 68; refine (HC1.out _ _ (by first | exact XA.out.1 | exact XAB.out.1 | exact XBA.out.1) (by first | exact XA.out.2 | exact XAB.out.2.1 | exact XBA.out.2.1)).mono ?_; rintro e w5 ⟨v5, rfl, hown5, hb5⟩; have hB5 : Below wr.heap.size wr w5 := (by first | exact XA.out.1.trans (hb5.mono XA.out.1.size) | exact XAB.out.1.trans (hb5.mono XAB.out.1.size) | exact XBA.out.1.trans (hb5.mono XBA.out.1.size)); (try have hDAB : Blk w5 (wr.heap.size + 1) 3 #[.int .i64 d] := XAB.out.2.2.below hb5 XAB.out.2.2.lt); (try have hDBA : Blk w5 wr.heap.size 3 #[.int .i64 d] := XBA.out.2.2.below hb5 XBA.out.2.2.lt)))
                    all_goals
                      have hB08 := hb.trans (hB8.mono hs')
                      have hs57 := hb57.size
                      have hs05 := hB5.size
                      have ho8 := hown8.mono (show W.heap.size ≤ w7.heap.size by omega)
                      have hXX := HX.out.1
                      obtain ⟨A8, c8, rfl, hc8a, hc8b, _⟩ := hown8.at_
                      have HO8 := Lib.hid ho8
                      clear ho8 hown8
                      obtain ⟨n8, hn8⟩ : ∃ n8, (D (X * 10 + d)).length = n8 := ⟨_, rfl⟩
                      rw [hn8] at HO8 hc8a ⊢
                      by_cases hbig : 60 < n8
                      · have hbad := Lib.hid (show Z = 0 ∧ e' = 6 by
                          obtain ⟨z, hz1, hz2, hz3, _⟩ := HG.out
                          have h1 := dv_take_le (l := bts s) (k + 1)
                          have h2 : ¬ X * 10 + d < pw 60 := fun h => by
                            have := (D_len_le (show (0 : Int) ≤ X * 10 + d by omega) (k := 60)).2 h
                            omega
                          have h3 : ¬ ab z < pw 60 := by
                            rw [hz3]
                            omega
                          exact ⟨by rw [hz1]; exact if_neg h3, by rw [hz2]; exact if_neg h3⟩)
                        obtain ⟨q08, q18⟩ := BOX.out _ hB08
                        have f08 := (K0.out.below hB08 K0.out.lt).frozen 0
                        have f18 := (K0.out.below hB08 K0.out.lt).frozen 1
                        have hg8 : w.heap.size < w8.heap.size := by have := hB08.size; omega
                        have hT := hb0.trans (hB08.mono hb0.size)
                        clear hn8 hXX q0 q1 f0 f1
                        go_wp2_with fail
                        refine bodyPost_ret (v := .tuple #[.agg #[.int .i64 0, .slice none 0 0], .int .i64 6]) (by simp [results, Tryz.results19, go_sem, q08, q18]) rfl ?_
                        exact ⟨_, by rw [hbad.out.2], by rw [hbad.out.1]; exact BO.zero _ _, below_st hT (Nat.le_refl _) _ _⟩
                      · have hnew := Lib.hid (show OwnI w8 W.heap.size (.slice A8 n8 c8) (D (dv ((bts s).take (k + 1)) : Int)) ∧ (D (dv ((bts s).take (k + 1)) : Int)).length ≤ 60 by
                          rw [hXX]
                          exact ⟨HO8.out, by omega⟩)
                        clear hn8 hXX
                        go_wp2_with fail
                        go_roundw
                        case rel => exact ⟨k + 1, by omega, rfl, hB08, hnew⟩
                        case measure => simp [intOf]; omega
                  · have : s.size = k := by omega
                    have hz : Hid (∃ z, Z = z ∧ e' = 0 ∧ z = (1 : Int) * nv (D (dv (bts s) : Int)) ∧ Dig (D (dv (bts s) : Int))) := Lib.hid (by
                      obtain ⟨z, hz1, hz2, hz3, hz4⟩ := HG.out
                      have h1 := ho.out.2
                      rw [List.take_of_length_le (by rw [bts_len]; omega)] at h1
                      have h2 := (D_len_le (show (0 : Int) ≤ (dv (bts s) : Int) by omega)).1 h1
                      rw [← hz3] at h2
                      refine ⟨z, by rw [hz1, (fits h2).2], by rw [hz2, (fits h2).1], ?_, Dig_D _⟩
                      rw [nv_D (by omega), hz4]
                      simp)
                    have hoo := ho.out.1
                    rw [List.take_of_length_le (by rw [bts_len]; omega)] at hoo
                    have HOO := Lib.hid hoo; clear hoo
                    have hll : Hid ((D (dv (bts s) : Int)).length ≤ 400) := Lib.hid (by
                      have h1 := ho.out.2
                      rw [List.take_of_length_le (by rw [bts_len]; omega)] at h1
                      omega)
                    obtain ⟨z, hz1, hz2, hz3, hz4⟩ := hz.out
                    have HZ3 := Lib.hid (And.intro hz1 (And.intro hz2 (And.intro hz3 hz4)))
                    clear hz1 hz2 hz3 hz4
                    obtain ⟨q0', q1'⟩ := BOX.out _ hb
                    have f0' := (K0.out.below hb K0.out.lt).frozen 0
                    have f1' := (K0.out.below hb K0.out.lt).frozen 1
                    have hgr : w.heap.size < wr.heap.size := by omega
                    go_wp2_with fail
                    refine (rmade_any _ (1) z _ _ HOO.out.sv HZ3.out.2.2.2 hll.out HZ3.out.2.2.1 (.inl rfl)).mono ?_
                    rintro e w5 ⟨r, rfl, hr, hb5⟩
                    obtain ⟨sr, Ar_, nr, cr, rfl⟩ := hr.form
                    have hB5 := hb.trans (hb5.mono hs')
                    obtain ⟨q05, q15⟩ := BOX.out _ hB5
                    have f05 := (K0.out.below hB5 K0.out.lt).frozen 0
                    have f15 := (K0.out.below hB5 K0.out.lt).frozen 1
                    have hg5 : w.heap.size < w5.heap.size := by have := hB5.size; omega
                    clear q0' q1' f0' f1'
                    have hbs5 := (K0.out.below hB5 K0.out.lt).set2 (.int .i64 sr) (.slice Ar_ nr cr)
                    have x0 := hbs5.cell 0
                    have x1 := hbs5.cell 1
                    simp at x0 x1
                    have hT := hb0.trans (hB5.mono hb0.size)
                    go_wp2_with fail
                    refine bodyPost_ret (v := .tuple #[.agg #[.int .i64 sr, .slice Ar_ nr cr], .int .i64 0]) (by simp [results, Tryz.results19, go_sem, x0, x1]) rfl ?_
                    exact ⟨_, by rw [HZ3.out.2.1], by rw [HZ3.out.1]; exact (hr.far2 hgr _ _).mono (by omega), below_st hT (Nat.le_refl _) _ _⟩
          · have hs2 : (s.toList == [48]) = false := by simpa using hss
            have hbad := Lib.hid (HZ.out.bad (.inl (fun hn => by
                rw [← HT.out.1] at hn
                rcases hn.2.2 with h1 | h1
                · exact hss (by rw [ByteArray.toList_eq]; exact h1)
                · exact h1 hhd)))
            clear hhd hh hbn
            go_wp2_with fail
            refine bodyPost_ret (v := .tuple #[.agg #[.int .i64 0, .slice none 0 0], .int .i64 2]) (by simp [results, Tryz.results19, go_sem, q0, q1]) rfl ?_
            exact ⟨_, by rw [hbad.out.2], by rw [hbad.out.1]; exact BO.zero _ _, hbs⟩
        · have h48' : ((s[0].toNat : Int) == 48) = false := by simpa using h48
          have hhd : (bts s).head? ≠ some 48 := fun e => by
            rw [hh] at e
            have e := Option.some.inj e
            exact h48 (by rw [e]; rfl)
          have HC : Hid (bts s ≠ [] ∧ (bts s = [48] ∨ (bts s).head? ≠ some 48) ∧ ¬ (Lib.hasPrefix (bts s) [45] = true ∧ Lib.trimPrefix (bts s) [45] = [48])) := Lib.hid ⟨hbn, .inr hhd, fun h => hhd (by rw [HT.out.1, h.2]; rfl)⟩
          clear hhd hh hbn
          go_wp2_with fail
          clear hne he1
          (try rw [HW.out])
          go_loop [6] (fun iv => ∃ i : Nat, i ≤ s.size ∧ iv = .int .i64 i ∧ Hid (allD ((bts s).take i))) (fun iv => s.size - (intOf iv).toNat)
          case atStart => exact ⟨0, Nat.zero_le _, rfl, Lib.hid (fun b hb => by cases hb)⟩
          case round =>
            obtain ⟨i, hi, rfl, hv⟩ := hrel
            by_cases hgo : i < s.size
            · have HSN := Lib.hid (bts_snoc s i hgo)
              have hbd : ¬ isD s[i] → Z = 0 ∧ e' = 2 := fun hn => HZ.out.bad (.inl (fun h => hn (h.1 _ (by rw [← HT.out.1]; exact bts_mem s i hgo))))
              have HBD := Lib.hid hbd; clear hbd
              by_cases h1 : (s[i].toNat : Int) < 48
              · have hbad := Lib.hid (HBD.out (by unfold isD; omega))
                go_wp2_with fail
                refine bodyPost_ret (v := .tuple #[.agg #[.int .i64 0, .slice none 0 0], .int .i64 2]) (by simp [results, Tryz.results19, go_sem, q0, q1]) rfl ?_
                exact ⟨_, by rw [hbad.out.2], by rw [hbad.out.1]; exact BO.zero _ _, hbs⟩
              · by_cases h2 : 57 < (s[i].toNat : Int)
                · have hbad := Lib.hid (HBD.out (by unfold isD; omega))
                  go_wp2_with fail
                  refine bodyPost_ret (v := .tuple #[.agg #[.int .i64 0, .slice none 0 0], .int .i64 2]) (by simp [results, Tryz.results19, go_sem, q0, q1]) rfl ?_
                  exact ⟨_, by rw [hbad.out.2], by rw [hbad.out.1]; exact BO.zero _ _, hbs⟩
                · have hnew := Lib.hid (show allD ((bts s).take (i + 1)) by
                    rw [HSN.out]
                    intro b hb
                    rcases List.mem_append.1 hb with h | h
                    · exact hv.out b h
                    · rw [List.mem_singleton] at h
                      subst h
                      unfold isD
                      omega)
                  go_wp2_with fail
                  go_round
                  case rel => exact ⟨i + 1, by omega, rfl, hnew⟩
                  case measure => simp [intOf]; omega
            · have : s.size = i := by omega
              have hall := hv.out
              rw [List.take_of_length_le (by rw [bts_len]; omega)] at hall
              have hgood := HZ.out.good (by rw [← HT.out.1]; exact ⟨hall, HC.out.1, HC.out.2.1⟩) HC.out.2.2
              rw [← HT.out.1, HT.out.2] at hgood
              have HG := Lib.hid hgood; clear hgood
              have HALL := Lib.hid hall; clear hall
              clear hv
              go_wp2_with fail
              go_loopw [7, 8] (fun lv kv wr => ∃ k : Nat, k ≤ s.size ∧ kv = .int .i64 k ∧ Below W.heap.size W wr ∧ Hid (OwnI wr W.heap.size lv (D (dv ((bts s).take k) : Int)) ∧ (D (dv ((bts s).take k) : Int)).length ≤ 60)) (fun _ kv _ => s.size - (intOf kv).toNat)
              case atStart => exact ⟨0, Nat.zero_le _, rfl, Below.refl _ _, Lib.hid ⟨by rw [List.take_zero]; show OwnI _ _ _ (D 0); rw [D_zero]; exact OwnI.nil _ _, by rw [List.take_zero]; show (D 0).length ≤ 60; rw [D_zero]; simp⟩⟩
              case round =>
                obtain ⟨k, hk, rfl, hb, ho⟩ := hrel
                have hs' := hb.size
                by_cases hgo : k < s.size
                · have HSN := Lib.hid (bts_snoc s k hgo)
                  have hdg := HALL.out _ (bts_mem s k hgo)
                  unfold isD at hdg
                  obtain ⟨d0, d1⟩ := hdg
                  obtain ⟨d, hd⟩ : ∃ d : Int, (s[k].toNat : Int) - 48 = d := ⟨_, rfl⟩
                  have hd0 : 0 ≤ d ∧ d < 10 := by omega
                  obtain ⟨hd0, hd1⟩ := hd0
                  have X0 : (0 : Int) ≤ (dv ((bts s).take k) : Int) := by omega
                  have hsn : ((dv ((bts s).take (k + 1)) : Nat) : Int) = (dv ((bts s).take k) : Int) * 10 + d := by
                    rw [HSN.out, dv_snoc]
                    omega
                  obtain ⟨X, hX⟩ : ∃ X : Int, (dv ((bts s).take k) : Int) = X := ⟨_, rfl⟩
                  rw [hX] at X0 hsn ho
                  have HX := Lib.hid (And.intro hsn hX)
                  have hXl := (D_len_le X0 (k := 60)).1 ho.out.2
                  have hX10 : X * 10 < pw 61 := by
                    have : pw 61 = 1048576 * pw 60 := pw_succ 60
                    omega
                  obtain ⟨hc1, hc2, hc3, hc4⟩ := read_calls wr u7 X d ho.out.1.sv X0 hXl hd0 hd1
                  have HC1 := Lib.hid hc1
                  have HC2 := Lib.hid hc2
                  have HC3 := Lib.hid hc3
                  have xA : Below wr.heap.size wr (wr.alloc (.cells #[.int .i64 10] 3)).drew := ((Below.refl _ _).alloc (Nat.le_refl _) _).drew
                  have xAB : Below wr.heap.size wr ((wr.alloc (.cells #[.int .i64 10] 3)).alloc (.cells #[.int .i64 d] 3)).drew := (((Below.refl _ _).alloc (Nat.le_refl _) _).alloc (by simp) _).drew
                  have xBA : Below wr.heap.size wr ((wr.alloc (.cells #[.int .i64 d] 3)).alloc (.cells #[.int .i64 10] 3)).drew := (((Below.refl _ _).alloc (Nat.le_refl _) _).alloc (by simp) _).drew
                  have yA : Blk (wr.alloc (.cells #[.int .i64 10] 3)).drew wr.heap.size 3 #[.int .i64 10] := Blk.new wr 3 _
                  have yAB : Blk ((wr.alloc (.cells #[.int .i64 10] 3)).alloc (.cells #[.int .i64 d] 3)).drew wr.heap.size 3 #[.int .i64 10] := (Blk.new wr 3 #[.int .i64 10]).alloc _
                  have yAB' : Blk ((wr.alloc (.cells #[.int .i64 10] 3)).alloc (.cells #[.int .i64 d] 3)).drew (wr.heap.size + 1) 3 #[.int .i64 d] := by
                    have := Blk.new (wr.alloc (.cells #[.int .i64 10] 3)) 3 #[.int .i64 d]
                    rwa [World.size_alloc] at this
                  have yBA : Blk ((wr.alloc (.cells #[.int .i64 d] 3)).alloc (.cells #[.int .i64 10] 3)).drew (wr.heap.size + 1) 3 #[.int .i64 10] := by
                    have := Blk.new (wr.alloc (.cells #[.int .i64 d] 3)) 3 #[.int .i64 10]
                    rwa [World.size_alloc] at this
                  have yBA' : Blk ((wr.alloc (.cells #[.int .i64 d] 3)).alloc (.cells #[.int .i64 10] 3)).drew wr.heap.size 3 #[.int .i64 d] := (Blk.new wr 3 #[.int .i64 d]).alloc _
                  have XA := Lib.hid (And.intro xA yA)
                  have XAB := Lib.hid (And.intro xAB (And.intro yAB yAB'))
                  have XBA := Lib.hid (And.intro xBA (And.intro yBA yBA'))
                  have hwu : IntKind.u8.wrap d = d := by rw [IntKind.wrap_u8]; omega
                  have hwd : IntKind.i64.wrap d = d := by rw [IntKind.wrap_i64]; omega
                  clear xA xAB xBA yA yAB yAB' yBA yBA' hc1 hc2 hc3 hc4 hsn hX
                  go_wp2_with fail
                  go_region_held3 (fun _ => True) (trivial)
                    (first
                      | (go_at_call 63; have _h := hB7; refine (HC3.out _ _ _ (hown5.sv.later hb57) hown7.sv).mono ?_; rintro e w8 ⟨v8, rfl, hown8, hb8⟩; have hB8 : Below wr.heap.size wr w8 := hB7.trans (hb8.mono hB7.size))
                      | (go_at_call 78; have _h := hB5; refine (HC2.out _ _ (by first | exact hDAB | exact hDBA | exact Blk.new w5 _ _)).mono ?_; rintro e w7 ⟨v7, rfl, hown7, hb7⟩; have hb57 : Below w5.heap.size w5 w7 := (by first | exact hb7 | exact ((Below.refl _ _).alloc (Nat.le_refl _) _).trans (hb7.mono (by simp))); have hB7 : Below wr.heap.size wr w7 := hB5.trans (hb57.mono hB5.size))
                      | (go_at_call 68; refine (HC1.out _ _ (by first | exact XA.out.1 | exact XAB.out.1 | exact XBA.out.1) (by first | exact XA.out.2 | exact XAB.out.2.1 | exact XBA.out.2.1)).mono ?_; rintro e w5 ⟨v5, rfl, hown5, hb5⟩; have hB5 : Below wr.heap.size wr w5 := (by first | exact XA.out.1.trans (hb5.mono XA.out.1.size) | exact XAB.out.1.trans (hb5.mono XAB.out.1.size) | exact XBA.out.1.trans (hb5.mono XBA.out.1.size)); (try have hDAB : Blk w5 (wr.heap.size + 1) 3 #[.int .i64 d] := XAB.out.2.2.below hb5 XAB.out.2.2.lt); (try have hDBA : Blk w5 wr.heap.size 3 #[.int .i64 d] := XBA.out.2.2.below hb5 XBA.out.2.2.lt)))
                  all_goals
                    have hB08 := hb.trans (hB8.mono hs')
                    have hs57 := hb57.size
                    have hs05 := hB5.size
                    have ho8 := hown8.mono (show W.heap.size ≤ w7.heap.size by omega)
                    have hXX := HX.out.1
                    obtain ⟨A8, c8, rfl, hc8a, hc8b, _⟩ := hown8.at_
                    have HO8 := Lib.hid ho8
                    clear ho8 hown8
                    obtain ⟨n8, hn8⟩ : ∃ n8, (D (X * 10 + d)).length = n8 := ⟨_, rfl⟩
                    rw [hn8] at HO8 hc8a ⊢
                    by_cases hbig : 60 < n8
                    · have hbad := Lib.hid (show Z = 0 ∧ e' = 6 by
                        obtain ⟨z, hz1, hz2, hz3, _⟩ := HG.out
                        have h1 := dv_take_le (l := bts s) (k + 1)
                        have h2 : ¬ X * 10 + d < pw 60 := fun h => by
                          have := (D_len_le (show (0 : Int) ≤ X * 10 + d by omega) (k := 60)).2 h
                          omega
                        have h3 : ¬ ab z < pw 60 := by
                          rw [hz3]
                          omega
                        exact ⟨by rw [hz1]; exact if_neg h3, by rw [hz2]; exact if_neg h3⟩)
                      obtain ⟨q08, q18⟩ := BOX.out _ hB08
                      have f08 := (K0.out.below hB08 K0.out.lt).frozen 0
                      have f18 := (K0.out.below hB08 K0.out.lt).frozen 1
                      have hg8 : w.heap.size < w8.heap.size := by have := hB08.size; omega
                      have hT := hb0.trans (hB08.mono hb0.size)
                      clear hn8 hXX q0 q1 f0 f1
                      go_wp2_with fail
                      refine bodyPost_ret (v := .tuple #[.agg #[.int .i64 0, .slice none 0 0], .int .i64 6]) (by simp [results, Tryz.results19, go_sem, q08, q18]) rfl ?_
                      exact ⟨_, by rw [hbad.out.2], by rw [hbad.out.1]; exact BO.zero _ _, below_st hT (Nat.le_refl _) _ _⟩
                    · have hnew := Lib.hid (show OwnI w8 W.heap.size (.slice A8 n8 c8) (D (dv ((bts s).take (k + 1)) : Int)) ∧ (D (dv ((bts s).take (k + 1)) : Int)).length ≤ 60 by
                        rw [hXX]
                        exact ⟨HO8.out, by omega⟩)
                      clear hn8 hXX
                      go_wp2_with fail
                      go_roundw
                      case rel => exact ⟨k + 1, by omega, rfl, hB08, hnew⟩
                      case measure => simp [intOf]; omega
                · have : s.size = k := by omega
                  have hz : Hid (∃ z, Z = z ∧ e' = 0 ∧ z = (1 : Int) * nv (D (dv (bts s) : Int)) ∧ Dig (D (dv (bts s) : Int))) := Lib.hid (by
                    obtain ⟨z, hz1, hz2, hz3, hz4⟩ := HG.out
                    have h1 := ho.out.2
                    rw [List.take_of_length_le (by rw [bts_len]; omega)] at h1
                    have h2 := (D_len_le (show (0 : Int) ≤ (dv (bts s) : Int) by omega)).1 h1
                    rw [← hz3] at h2
                    refine ⟨z, by rw [hz1, (fits h2).2], by rw [hz2, (fits h2).1], ?_, Dig_D _⟩
                    rw [nv_D (by omega), hz4]
                    simp)
                  have hoo := ho.out.1
                  rw [List.take_of_length_le (by rw [bts_len]; omega)] at hoo
                  have HOO := Lib.hid hoo; clear hoo
                  have hll : Hid ((D (dv (bts s) : Int)).length ≤ 400) := Lib.hid (by
                    have h1 := ho.out.2
                    rw [List.take_of_length_le (by rw [bts_len]; omega)] at h1
                    omega)
                  obtain ⟨z, hz1, hz2, hz3, hz4⟩ := hz.out
                  have HZ3 := Lib.hid (And.intro hz1 (And.intro hz2 (And.intro hz3 hz4)))
                  clear hz1 hz2 hz3 hz4
                  obtain ⟨q0', q1'⟩ := BOX.out _ hb
                  have f0' := (K0.out.below hb K0.out.lt).frozen 0
                  have f1' := (K0.out.below hb K0.out.lt).frozen 1
                  have hgr : w.heap.size < wr.heap.size := by omega
                  go_wp2_with fail
                  refine (rmade_any _ (1) z _ _ HOO.out.sv HZ3.out.2.2.2 hll.out HZ3.out.2.2.1 (.inl rfl)).mono ?_
                  rintro e w5 ⟨r, rfl, hr, hb5⟩
                  obtain ⟨sr, Ar_, nr, cr, rfl⟩ := hr.form
                  have hB5 := hb.trans (hb5.mono hs')
                  obtain ⟨q05, q15⟩ := BOX.out _ hB5
                  have f05 := (K0.out.below hB5 K0.out.lt).frozen 0
                  have f15 := (K0.out.below hB5 K0.out.lt).frozen 1
                  have hg5 : w.heap.size < w5.heap.size := by have := hB5.size; omega
                  clear q0' q1' f0' f1'
                  have hbs5 := (K0.out.below hB5 K0.out.lt).set2 (.int .i64 sr) (.slice Ar_ nr cr)
                  have x0 := hbs5.cell 0
                  have x1 := hbs5.cell 1
                  simp at x0 x1
                  have hT := hb0.trans (hB5.mono hb0.size)
                  go_wp2_with fail
                  refine bodyPost_ret (v := .tuple #[.agg #[.int .i64 sr, .slice Ar_ nr cr], .int .i64 0]) (by simp [results, Tryz.results19, go_sem, x0, x1]) rfl ?_
                  exact ⟨_, by rw [HZ3.out.2.1], by rw [HZ3.out.1]; exact (hr.far2 hgr _ _).mono (by omega), below_st hT (Nat.le_refl _) _ _⟩

end Go.Proofs.YtkjpfnbdlbnbkaaGreatDoor

namespace Go.Proofs.YtkjpfnbdlbnbkaaGreatDoor
open Go.RowKit

set_option maxRecDepth 100000 in
set_option maxHeartbeats 2000000 in
theorem sameA_any {s1 s2 : Int} {l1 l2 : List Int} {A1 A2 : Option Addr} {n1 c1 n2 c2 : Nat} (w : World) (h1 : Ar w s1 l1 A1 n1 c1) (h2 : Ar w s2 l2 A2 n2 c2) :
    Calls Tryz.prog 26 #[.agg #[.int .i64 s1, .slice A1 n1 c1], .agg #[.int .i64 s2, .slice A2 n2 c2]] w fun e w' => e = .returned (.bool (decide (s1 = s2 ∧ l1 = l2))) ∧ Below w.heap.size w w' := by
  obtain ⟨rfl, hI1, hc1, hm1⟩ := h1
  obtain ⟨rfl, hI2, hc2, hm2⟩ := h2
  have heq := fun (w' : World) (hb : Below w.heap.size w w') => equal_any l1 l2 A1 A2 c1 c2 w.heap.size w' (hI1.below hb) (hI2.below hb) (by omega) (by omega)
  have hres : ∀ b : Bool, (s1 = s2 → b = decide (l1 = l2)) → (s1 ≠ s2 → b = false) → b = decide (s1 = s2 ∧ l1 = l2) := by
    intro b h1 h2
    by_cases hs : s1 = s2
    · rw [h1 hs, decide_eq_decide]
      exact ⟨fun h => ⟨hs, h⟩, fun h => h.2⟩
    · rw [h2 hs]
      symm
      rw [decide_eq_false_iff_not]
      exact fun h => hs h.1
  have hbx : Below w.heap.size w ((w.alloc (.cells #[.int .i64 (s1), .slice A1 l1.length c1] 24)).alloc (.cells #[.int .i64 (s2), .slice A2 l2.length c2] 24)) := ((Below.refl _ _).alloc (Nat.le_refl _) _).alloc (by simp) _
  obtain ⟨dd, hdd⟩ : ∃ b, decide (l1 = l2) = b := ⟨_, rfl⟩
  rw [hdd] at heq hres
  obtain ⟨n1, hn1⟩ : ∃ n, l1.length = n := ⟨_, rfl⟩
  obtain ⟨n2, hn2⟩ : ∃ n, l2.length = n := ⟨_, rfl⟩
  rw [hn1, hn2] at heq hbx
  rw [hn1, hn2]
  obtain ⟨s1, hs1e⟩ : ∃ s, s1 = s := ⟨_, rfl⟩
  obtain ⟨s2, hs2e⟩ : ∃ s, s2 = s := ⟨_, rfl⟩
  rw [hs1e, hs2e] at hres hbx
  rw [hs1e, hs2e]
  have HE := Lib.hid heq; clear heq
  have HRS := Lib.hid hres; clear hres
  have HBX := Lib.hid hbx; clear hbx
  clear hn1 hn2 hs1e hs2e hI1 hI2 hc1 hc2 hdd
  by_cases hss : s1 = s2
  · have hfin := HRS.out dd (fun _ => rfl) (fun h => absurd hss h)
    subst hss
    rw [← hfin]
    clear hfin
    go_enter Tryz.func26, Tryz.ntmps26
    go_wp2_with fail
    (with_reducible refine (HE.out _ HBX.out).mono ?_)
    rintro e w4 ⟨rfl, q, rfl⟩
    go_wp2_with fail
    go_ret
    exact ⟨rfl, below_drewN HBX.out _⟩
  · have hfin := HRS.out false (fun h => absurd h hss) (fun _ => rfl)
    have hb : (s1 == s2) = false := by simpa using hss
    rw [← hfin]
    clear hfin
    go_enter Tryz.func26, Tryz.ntmps26
    go_wp2_with fail
    go_ret
    exact ⟨rfl, HBX.out⟩


theorem refSameA_len {s1 s2 : Int} {l1 l2 : List Int} (h : l1.length ≠ l2.length) : decide (s1 = s2 ∧ l1 = l2) = false := by
  rw [decide_eq_false_iff_not]; rintro ⟨_, rfl⟩; exact h rfl
theorem refSameA_sgn {s1 s2 : Int} {l1 l2 : List Int} (h : s1 ≠ s2) : decide (s1 = s2 ∧ l1 = l2) = false := by
  rw [decide_eq_false_iff_not]; rintro ⟨h1, _⟩; exact h h1

set_option maxRecDepth 100000 in
set_option maxHeartbeats 2000000 in
theorem refSameA_any {s1 s2 : Int} {l1 l2 : List Int} {A1 A2 : Option Addr} {n1 c1 n2 c2 : Nat} (w : World) (h1 : Ar w s1 l1 A1 n1 c1) (h2 : Ar w s2 l2 A2 n2 c2) :
    Calls Tryz.prog 13 #[.agg #[.int .i64 s1, .slice A1 n1 c1], .agg #[.int .i64 s2, .slice A2 n2 c2]] w fun e w' => e = .returned (.bool (decide (s1 = s2 ∧ l1 = l2))) ∧ Below w.heap.size w w' := by
  obtain ⟨rfl, hI1, hc1, hm1⟩ := h1
  obtain ⟨rfl, hI2, hc2, hm2⟩ := h2
  obtain ⟨R, hR⟩ : ∃ R, decide (s1 = s2 ∧ l1 = l2) = R := ⟨_, rfl⟩
  rw [hR]
  have hbx : Below w.heap.size w ((w.alloc (.cells #[.int .i64 (s1), .slice A1 l1.length c1] 24)).alloc (.cells #[.int .i64 (s2), .slice A2 l2.length c2] 24)) := ((Below.refl _ _).alloc (Nat.le_refl _) _).alloc (by simp) _
  by_cases hss : s1 = s2
  · by_cases hll : l1.length = l2.length
    · have hdec : ∀ b : Bool, (l1 = l2 → b = true) → (l1 ≠ l2 → b = false) → b = R := by
        intro b h1 h2
        rw [← hR]
        by_cases hd : l1 = l2
        · rw [h1 hd]; symm; rw [decide_eq_true_iff]; exact ⟨hss, hd⟩
        · rw [h2 hd]; symm; rw [decide_eq_false_iff_not]; exact fun h => hd h.2
      rw [← hss, ← hll] at hbx ⊢
      obtain ⟨lx, hlx⟩ : ∃ l, l1 = l := ⟨_, rfl⟩
      obtain ⟨ly, hly⟩ : ∃ l, l2 = l := ⟨_, rfl⟩
      rw [hlx, hly] at hdec hll
      rw [hlx] at hbx hI1 hc1 ⊢
      rw [hly] at hI2 hc2
      obtain ⟨n, hn⟩ : ∃ n, lx.length = n := ⟨_, rfl⟩
      have hnn : lx.length ≤ n ∧ n ≤ lx.length ∧ ly.length ≤ n ∧ n ≤ ly.length := by omega
      rw [hn] at hbx hc1 ⊢
      obtain ⟨s, hs⟩ : ∃ s, s1 = s := ⟨_, rfl⟩
      rw [hs] at hbx ⊢
      have hnm : n ≤ 9223372036854775807 := by omega
      obtain ⟨W, hW⟩ : ∃ W, W = (w.alloc (.cells #[.int .i64 s, .slice A1 n c1] 24)).alloc (.cells #[.int .i64 s, .slice A2 n c2] 24) := ⟨_, rfl⟩
      obtain ⟨W', hW', _, k1, k2, _⟩ := boxes2 w #[.int .i64 s, .slice A1 n c1] #[.int .i64 s, .slice A2 n c2]
      rw [← hW'] at hW
      subst hW
      have HDEC := Lib.hid hdec
      clear hdec hn hs hll hlx hly hss hc1 hc2
      go_enter Tryz.func13, Tryz.ntmps13
      go_wp2_with fail
      rw [← hW'] at hbx ⊢
      clear hW'
      go_loopw [5] (fun i wr => ∃ k : Nat, k ≤ n ∧ i = .int .i64 k ∧ Hid (lx.take k = ly.take k) ∧ ∃ q, wr = W.drewN q) (fun i _ => n - (intOf i).toNat)
      case atStart => exact ⟨0, Nat.zero_le _, rfl, Lib.hid rfl, 0, rfl⟩
      case round =>
        obtain ⟨k, hk, rfl, ht, q, rfl⟩ := hrel
        have j1 : (W.drewN q).cell? ⟨w.heap.size, 1, none⟩ = some (.slice A1 n c1) := k1.cell 1
        have j2 : (W.drewN q).cell? ⟨w.heap.size + 1, 1, none⟩ = some (.slice A2 n c2) := k2.cell 1
        by_cases hlt : k < n
        · obtain ⟨b1, o1, hA1, hB1, hk1⟩ := hI1 k (by omega)
          obtain ⟨b2, o2, hA2, hB2, hk2⟩ := hI2 k (by omega)
          subst hA1; subst hA2
          have hk1 : (W.drewN q).cell? ⟨b1, o1 + k, none⟩ = some (.int .i64 (lx.getD k 0)) := (hbx.cell (p := ⟨b1, o1 + k, none⟩) hB1).trans hk1
          have hk2 : (W.drewN q).cell? ⟨b2, o2 + k, none⟩ = some (.int .i64 (ly.getD k 0)) := (hbx.cell (p := ⟨b2, o2 + k, none⟩) hB2).trans hk2
          have jW1 : W.cell? ⟨w.heap.size, 1, none⟩ = some (.slice (some ⟨b1, o1, none⟩) n c1) := k1.cell 1
          have jW2 : W.cell? ⟨w.heap.size + 1, 1, none⟩ = some (.slice (some ⟨b2, o2, none⟩) n c2) := k2.cell 1
          have hkW1 : W.cell? ⟨b1, o1 + k, none⟩ = some (.int .i64 (lx.getD k 0)) := hk1
          have hkW2 : W.cell? ⟨b2, o2 + k, none⟩ = some (.int .i64 (ly.getD k 0)) := hk2
          have e1 := take_snoc (l := lx) (k := k) (by omega)
          have e2 := take_snoc (l := ly) (k := k) (by omega)
          have hne : lx.getD k 0 ≠ ly.getD k 0 → lx ≠ ly := fun h e => h (by rw [e])
          obtain ⟨u, hu⟩ : ∃ u, lx.getD k 0 = u := ⟨_, rfl⟩
          obtain ⟨v, hv⟩ : ∃ u, ly.getD k 0 = u := ⟨_, rfl⟩
          rw [hu] at hk1 e1 hne hkW1
          rw [hv] at hk2 e2 hne hkW2
          clear hu hv
          have HE1 := Lib.hid e1; clear e1
          have HE2 := Lib.hid e2; clear e2
          have HNE := Lib.hid hne; clear hne
          by_cases huv : u = v
          · subst huv
            go_wp2_with fail
            go_quiet (fail)
            go_wp2_with fail
            go_roundw
            case rel => exact ⟨k + 1, by omega, by go_num, Lib.hid (by rw [HE1.out, HE2.out, ht.out]), _, rfl⟩
            case measure => simp [intOf]; omega
          · have huv' : (u != v) = true := by simpa using huv
            go_wp2_with fail
            go_quiet (fail)
            go_wp2_with fail
            go_ret
            exact ⟨by rw [← HDEC.out false (fun h => absurd h (HNE.out huv)) (fun _ => rfl)]; rfl, below_drewN (below_drewN hbx _) _⟩
        · have : k = n := by omega
          subst this
          have he := ht.out
          rw [List.take_of_length_le (l := lx) (by omega), List.take_of_length_le (l := ly) (by omega)] at he
          have HE := Lib.hid he; clear he
          go_wp2_with fail
          go_ret
          exact ⟨by rw [← HDEC.out true (fun _ => rfl) (fun h => absurd HE.out h)]; rfl, below_drewN hbx _⟩
    · rw [← hR, refSameA_len hll]
      obtain ⟨n1, hn1⟩ : ∃ n, l1.length = n := ⟨_, rfl⟩
      obtain ⟨n2, hn2⟩ : ∃ n, l2.length = n := ⟨_, rfl⟩
      rw [hn1, hn2] at hll hbx
      rw [hn1, hn2]
      rw [← hss] at hbx ⊢
      obtain ⟨s, hs⟩ : ∃ s, s1 = s := ⟨_, rfl⟩
      rw [hs] at hbx ⊢
      have hd : decide (n1 = n2) = false := by simpa using hll
      have HBX := Lib.hid hbx
      clear hn1 hn2 hs hss hbx hI1 hI2 hc1 hc2
      go_enter Tryz.func13, Tryz.ntmps13
      go_wp2_with fail
      go_ret
      exact ⟨rfl, HBX.out⟩
  · rw [← hR, refSameA_sgn hss]
    obtain ⟨n1, hn1⟩ : ∃ n, l1.length = n := ⟨_, rfl⟩
    obtain ⟨n2, hn2⟩ : ∃ n, l2.length = n := ⟨_, rfl⟩
    rw [hn1, hn2] at hbx
    rw [hn1, hn2]
    obtain ⟨s1, hs1⟩ : ∃ s, s1 = s := ⟨_, rfl⟩
    obtain ⟨s2, hs2⟩ : ∃ s, s2 = s := ⟨_, rfl⟩
    rw [hs1, hs2] at hss hbx
    rw [hs1, hs2]
    have hd : (s1 != s2) = true := by simpa using hss
    have HBX := Lib.hid hbx
    clear hn1 hn2 hs1 hs2 hss hbx hI1 hI2 hc1 hc2
    go_enter Tryz.func13, Tryz.ntmps13
    go_wp2_with fail
    go_ret
    exact ⟨rfl, HBX.out⟩


end Go.Proofs.YtkjpfnbdlbnbkaaGreatDoor

namespace Go.Proofs.YtkjpfnbdlbnbkaaGreatDoor
open Go.RowKit

set_option maxRecDepth 100000 in
set_option maxHeartbeats 2000000 in
theorem compare_bad {s1 s2 : Int} {l1 l2 : List Int} {A1 A2 : Option Addr} {n1 c1 n2 c2 : Nat} {w : World} (h1 : Ar w s1 l1 A1 n1 c1) (h2 : Ar w s2 l2 A2 n2 c2) (hb : ¬ (RightP s1 l1 ∧ RightP s2 l2)) :
    Calls Tryz.prog 24 #[.agg #[.int .i64 s1, .slice A1 n1 c1], .agg #[.int .i64 s2, .slice A2 n2 c2]] w fun e w' => e = .returned (.int .i64 0) ∧ Below w.heap.size w w' := by
  have hH := fun (w' : World) (h : Below w.heap.size w w') (b : Bool) => (h1.later h).right b
  have hG := fun (w' : World) (h : Below w.heap.size w w') (b : Bool) => (h2.later h).right b
  have HH := Lib.hid hH; clear hH
  have HG := Lib.hid hG; clear hG
  have HB := Lib.hid hb; clear hb
  by_cases hr : RightP s1 l1
  · have hn : ¬ RightP s2 l2 := fun h => HB.out ⟨hr, h⟩
    have HR := Lib.hid hr; clear hr
    have HN := Lib.hid hn; clear hn
    clear h1 h2
    go_enter Tryz.func24, Tryz.ntmps24
    go_wp2_with fail
    obtain ⟨w1, hw1, hb1, k1, k2, _⟩ := boxes2 w #[.int .i64 s1, .slice A1 n1 c1] #[.int .i64 s2, .slice A2 n2 c2]
    rw [← hw1]
    clear hw1
    (with_reducible refine (HH.out w1 hb1 true (by simp [HR.out])).mono ?_)
    rintro e w2 ⟨rfl, hb2⟩
    have k2 := k2.below hb2 k2.lt
    have hb2 := hb1.trans (hb2.mono hb1.size)
    have j1 : w2.cell? ⟨w.heap.size + 1, 0, none⟩ = some (.int .i64 s2) := k2.cell 0
    have j2 : w2.cell? ⟨w.heap.size + 1, 1, none⟩ = some (.slice A2 n2 c2) := k2.cell 1
    go_wp2_with fail
    clear j1 j2
    (with_reducible refine (HG.out w2 hb2 false (by simp [HN.out])).mono ?_)
    rintro e w3 ⟨rfl, hb3⟩
    have hb3 := hb2.trans (hb3.mono hb2.size)
    clear k1 k2 hb1 hb2 HH HG
    go_wp2_with fail
    go_ret
    exact ⟨rfl, hb3⟩
  · have HN := Lib.hid hr; clear hr
    clear h1 h2
    go_enter Tryz.func24, Tryz.ntmps24
    go_wp2_with fail
    obtain ⟨w1, hw1, hb1, k1, k2, _⟩ := boxes2 w #[.int .i64 s1, .slice A1 n1 c1] #[.int .i64 s2, .slice A2 n2 c2]
    rw [← hw1]
    clear hw1
    (with_reducible refine (HH.out w1 hb1 false (by simp [HN.out])).mono ?_)
    rintro e w2 ⟨rfl, hb2⟩
    have hb2 := hb1.trans (hb2.mono hb1.size)
    clear k1 k2 hb1 HH HG
    go_wp2_with fail
    go_ret
    exact ⟨rfl, hb2⟩

set_option maxRecDepth 100000 in
set_option maxHeartbeats 2000000 in
theorem rcompare_bad {s1 s2 : Int} {l1 l2 : List Int} {A1 A2 : Option Addr} {n1 c1 n2 c2 : Nat} {w : World} (h1 : Ar w s1 l1 A1 n1 c1) (h2 : Ar w s2 l2 A2 n2 c2) (hb : ¬ (RightP s1 l1 ∧ RightP s2 l2)) :
    Calls Tryz.prog 25 #[.agg #[.int .i64 s1, .slice A1 n1 c1], .agg #[.int .i64 s2, .slice A2 n2 c2]] w fun e w' => e = .returned (.int .i64 0) ∧ Below w.heap.size w w' := by
  have hH := fun (w' : World) (h : Below w.heap.size w w') (b : Bool) => rRight_any s1 l1 A1 n1 c1 w' (h1.later h) b
  have hG := fun (w' : World) (h : Below w.heap.size w w') (b : Bool) => rRight_any s2 l2 A2 n2 c2 w' (h2.later h) b
  have HH := Lib.hid hH; clear hH
  have HG := Lib.hid hG; clear hG
  have HB := Lib.hid hb; clear hb
  by_cases hr : RightP s1 l1
  · have hn : ¬ RightP s2 l2 := fun h => HB.out ⟨hr, h⟩
    have HR := Lib.hid hr; clear hr
    have HN := Lib.hid hn; clear hn
    clear h1 h2
    go_enter Tryz.func25, Tryz.ntmps25
    go_wp2_with fail
    obtain ⟨w1, hw1, hb1, k1, k2, _⟩ := boxes2 w #[.int .i64 s1, .slice A1 n1 c1] #[.int .i64 s2, .slice A2 n2 c2]
    rw [← hw1]
    clear hw1
    (with_reducible refine (HH.out w1 hb1 true (by simp [HR.out])).mono ?_)
    rintro e w2 ⟨rfl, hb2⟩
    have k2 := k2.below hb2 k2.lt
    have hb2 := hb1.trans (hb2.mono hb1.size)
    have j1 : w2.cell? ⟨w.heap.size + 1, 0, none⟩ = some (.int .i64 s2) := k2.cell 0
    have j2 : w2.cell? ⟨w.heap.size + 1, 1, none⟩ = some (.slice A2 n2 c2) := k2.cell 1
    go_wp2_with fail
    clear j1 j2
    (with_reducible refine (HG.out w2 hb2 false (by simp [HN.out])).mono ?_)
    rintro e w3 ⟨rfl, hb3⟩
    have hb3 := hb2.trans (hb3.mono hb2.size)
    clear k1 k2 hb1 hb2 HH HG
    go_wp2_with fail
    go_ret
    exact ⟨rfl, hb3⟩
  · have HN := Lib.hid hr; clear hr
    clear h1 h2
    go_enter Tryz.func25, Tryz.ntmps25
    go_wp2_with fail
    obtain ⟨w1, hw1, hb1, k1, k2, _⟩ := boxes2 w #[.int .i64 s1, .slice A1 n1 c1] #[.int .i64 s2, .slice A2 n2 c2]
    rw [← hw1]
    clear hw1
    (with_reducible refine (HH.out w1 hb1 false (by simp [HN.out])).mono ?_)
    rintro e w2 ⟨rfl, hb2⟩
    have hb2 := hb1.trans (hb2.mono hb1.size)
    clear k1 k2 hb1 HH HG
    go_wp2_with fail
    go_ret
    exact ⟨rfl, hb2⟩

set_option maxRecDepth 100000 in
set_option maxHeartbeats 2000000 in
theorem neg_bad {s1 : Int} {l1 : List Int} {A1 : Option Addr} {n1 c1 : Nat} {w : World} (h1 : Ar w s1 l1 A1 n1 c1) (hb : ¬ RightP s1 l1) :
    Calls Tryz.prog 29 #[.agg #[.int .i64 s1, .slice A1 n1 c1]] w fun e w' => e = .returned (.agg #[.int .i64 0, .slice none 0 0]) ∧ Below w.heap.size w w' := by
  have hH := fun (w' : World) (h : Below w.heap.size w w') (b : Bool) => (h1.later h).right b
  have HH := Lib.hid hH; clear hH
  have HN := Lib.hid hb; clear hb
  clear h1
  have hb1 := (Below.refl w.heap.size w).alloc (Nat.le_refl _) (.cells #[.int .i64 s1, .slice A1 n1 c1] 24)
  clear hb1
  go_enter Tryz.func29, Tryz.ntmps29
  go_wp2_with fail
  obtain ⟨w1, hw1, hb1, k1, k3, _⟩ := boxes2 w #[.int .i64 s1, .slice A1 n1 c1] #[.int .i64 0, .slice none 0 0]
  rw [← hw1]
  clear hw1
  (with_reducible refine (HH.out w1 hb1 false (by simp [HN.out])).mono ?_)
  rintro e w2 ⟨rfl, hb2⟩
  have k3 := k3.below hb2 k3.lt
  have hb2 := hb1.trans (hb2.mono hb1.size)
  clear k1 hb1 HH
  obtain ⟨g, hg⟩ : ∃ g, w.heap.size + 1 = g := ⟨_, rfl⟩
  have hgw : w.heap.size ≤ g := by omega
  rw [hg] at k3 ⊢
  clear hg
  have c30 : w2.cell? ⟨g, 0, none⟩ = some (.int .i64 0) := k3.cell 0
  have c31 : w2.cell? ⟨g, 1, none⟩ = some (.slice none 0 0) := k3.cell 1
  have f30 := k3.frozen 0
  have f31 := k3.frozen 1
  have hbs := k3.set2 (.int .i64 0) (.slice none 0 0)
  have d0 := hbs.cell 0
  have d1 := hbs.cell 1
  simp at d0 d1
  have hb9 := (hb2.setCell (p := ⟨g, 0, none⟩) hgw (.int .i64 0)).setCell (p := ⟨g, 1, none⟩) hgw (.slice none 0 0)
  go_wp2_with fail
  refine bodyPost_ret (v := .agg #[.int .i64 0, .slice none 0 0]) (by simp [results, Tryz.results29, go_sem, d0, d1]) rfl ?_
  exact ⟨rfl, hb9⟩


set_option maxRecDepth 100000 in
set_option maxHeartbeats 2000000 in
theorem rneg_bad {s1 : Int} {l1 : List Int} {A1 : Option Addr} {n1 c1 : Nat} {w : World} (h1 : Ar w s1 l1 A1 n1 c1) (hb : ¬ RightP s1 l1) :
    Calls Tryz.prog 30 #[.agg #[.int .i64 s1, .slice A1 n1 c1]] w fun e w' => e = .returned (.agg #[.int .i64 0, .slice none 0 0]) ∧ Below w.heap.size w w' := by
  have hH := fun (w' : World) (h : Below w.heap.size w w') (b : Bool) => rRight_any s1 l1 A1 n1 c1 w' (h1.later h) b
  have HH := Lib.hid hH; clear hH
  have HN := Lib.hid hb; clear hb
  clear h1
  have hb1 := (Below.refl w.heap.size w).alloc (Nat.le_refl _) (.cells #[.int .i64 s1, .slice A1 n1 c1] 24)
  clear hb1
  go_enter Tryz.func30, Tryz.ntmps30
  go_wp2_with fail
  obtain ⟨w1, hw1, hb1, k1, k3, _⟩ := boxes2 w #[.int .i64 s1, .slice A1 n1 c1] #[.int .i64 0, .slice none 0 0]
  rw [← hw1]
  clear hw1
  (with_reducible refine (HH.out w1 hb1 false (by simp [HN.out])).mono ?_)
  rintro e w2 ⟨rfl, hb2⟩
  have k3 := k3.below hb2 k3.lt
  have hb2 := hb1.trans (hb2.mono hb1.size)
  clear k1 hb1 HH
  obtain ⟨g, hg⟩ : ∃ g, w.heap.size + 1 = g := ⟨_, rfl⟩
  have hgw : w.heap.size ≤ g := by omega
  rw [hg] at k3 ⊢
  clear hg
  have c30 : w2.cell? ⟨g, 0, none⟩ = some (.int .i64 0) := k3.cell 0
  have c31 : w2.cell? ⟨g, 1, none⟩ = some (.slice none 0 0) := k3.cell 1
  have f30 := k3.frozen 0
  have f31 := k3.frozen 1
  have hbs := k3.set2 (.int .i64 0) (.slice none 0 0)
  have d0 := hbs.cell 0
  have d1 := hbs.cell 1
  simp at d0 d1
  have hb9 := (hb2.setCell (p := ⟨g, 0, none⟩) hgw (.int .i64 0)).setCell (p := ⟨g, 1, none⟩) hgw (.slice none 0 0)
  go_wp2_with fail
  refine bodyPost_ret (v := .agg #[.int .i64 0, .slice none 0 0]) (by simp [results, Tryz.results30, go_sem, d0, d1]) rfl ?_
  exact ⟨rfl, hb9⟩


set_option maxRecDepth 100000 in
set_option maxHeartbeats 2000000 in
theorem int_bad {s1 : Int} {l1 : List Int} {A1 : Option Addr} {n1 c1 : Nat} {w : World} (h1 : Ar w s1 l1 A1 n1 c1) (hb : ¬ RightP s1 l1) :
    Calls Tryz.prog 16 #[.agg #[.int .i64 s1, .slice A1 n1 c1]] w fun e w' => e = .returned (.tuple #[.int .i64 0, .bool false]) ∧ Below w.heap.size w w' := by
  have hH := fun (w' : World) (h : Below w.heap.size w w') (b : Bool) => (h1.later h).right b
  have HH := Lib.hid hH; clear hH
  have HN := Lib.hid hb; clear hb
  clear h1
  have hb1 := (Below.refl w.heap.size w).alloc (Nat.le_refl _) (.cells #[.int .i64 s1, .slice A1 n1 c1] 24)
  go_enter Tryz.func16, Tryz.ntmps16
  go_wp2_with fail
  (with_reducible refine (HH.out _ hb1 false (by simp [HN.out])).mono ?_)
  rintro e w2 ⟨rfl, hb2⟩
  have hb2 := hb1.trans (hb2.mono hb1.size)
  go_wp2_with fail
  refine bodyPost_ret (v := .tuple #[.int .i64 0, .bool false]) (by simp [results, Tryz.results16, go_sem]) rfl ?_
  exact ⟨rfl, hb2⟩


set_option maxRecDepth 100000 in
set_option maxHeartbeats 2000000 in
theorem rint_bad {s1 : Int} {l1 : List Int} {A1 : Option Addr} {n1 c1 : Nat} {w : World} (h1 : Ar w s1 l1 A1 n1 c1) (hb : ¬ RightP s1 l1) :
    Calls Tryz.prog 17 #[.agg #[.int .i64 s1, .slice A1 n1 c1]] w fun e w' => e = .returned (.tuple #[.int .i64 0, .bool false]) ∧ Below w.heap.size w w' := by
  have hH := fun (w' : World) (h : Below w.heap.size w w') (b : Bool) => rRight_any s1 l1 A1 n1 c1 w' (h1.later h) b
  have HH := Lib.hid hH; clear hH
  have HN := Lib.hid hb; clear hb
  clear h1
  have hb1 := (Below.refl w.heap.size w).alloc (Nat.le_refl _) (.cells #[.int .i64 s1, .slice A1 n1 c1] 24)
  go_enter Tryz.func17, Tryz.ntmps17
  go_wp2_with fail
  (with_reducible refine (HH.out _ hb1 false (by simp [HN.out])).mono ?_)
  rintro e w2 ⟨rfl, hb2⟩
  have hb2 := hb1.trans (hb2.mono hb1.size)
  go_wp2_with fail
  refine bodyPost_ret (v := .tuple #[.int .i64 0, .bool false]) (by simp [results, Tryz.results17, go_sem]) rfl ?_
  exact ⟨rfl, hb2⟩


set_option maxRecDepth 100000 in
set_option maxHeartbeats 2000000 in
theorem rtext4_bad {s1 : Int} {l1 : List Int} {A1 : Option Addr} {n1 c1 : Nat} {w : World} (h1 : Ar w s1 l1 A1 n1 c1) (hb : ¬ RightP s1 l1) :
    Calls Tryz.prog 28 #[.agg #[.int .i64 s1, .slice A1 n1 c1]] w fun e w' => e = .returned (.string ⟨#[]⟩) ∧ Below w.heap.size w w' := by
  have hH := fun (w' : World) (h : Below w.heap.size w w') (b : Bool) => rRight_any s1 l1 A1 n1 c1 w' (h1.later h) b
  have HH := Lib.hid hH; clear hH
  have HN := Lib.hid hb; clear hb
  clear h1
  have hb1 := (Below.refl w.heap.size w).alloc (Nat.le_refl _) (.cells #[.int .i64 s1, .slice A1 n1 c1] 24)
  go_enter Tryz.func28, Tryz.ntmps28
  go_wp2_with fail
  (with_reducible refine (HH.out _ hb1 false (by simp [HN.out])).mono ?_)
  rintro e w2 ⟨rfl, hb2⟩
  have hb2 := hb1.trans (hb2.mono hb1.size)
  go_wp2_with fail
  go_ret
  exact ⟨rfl, hb2⟩


end Go.Proofs.YtkjpfnbdlbnbkaaGreatDoor
