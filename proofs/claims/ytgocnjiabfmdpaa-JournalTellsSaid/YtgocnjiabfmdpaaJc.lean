/- Walk of recordsOf: the records of a string. -/
import Derived.Test.YtgocnjiabfmdpaaJb
import Derived.WalkMore
namespace Go.Proofs.Ytgocnjiabfmdpaa
set_option maxRecDepth 8000
open Go.RowKit Wire

/-- A string as a value. -/
def strV (l : List UInt8) : Value := .string (ba l)

theorem Try.info9 : (Try.prog.info? 9).map (fun i => (i.zero, i.size, i.bytes)) = some (some (.string ByteArray.empty), 1, 16) := by kernel_rfl

/-- A slice of strings that is owned from block B on. -/
def OwnS (w : World) (B : Nat) (v : Value) (l : List (List UInt8)) : Prop := w.ownsRow B 9 1 v l.length (l.map strV)
theorem OwnS.nil (w : World) (B : Nat) : OwnS w B (.slice none 0 0) [] := World.ownsRow_nil w B 9 1
theorem OwnS.keep {w w' : World} {B b : Nat} {v : Value} {l : List (List UInt8)} (h : OwnS w B v l) (hb : Wire.Keep b w w') (hlt : b < B) : OwnS w' B v l :=
  World.ownsRow.kept h hb (by
    rcases hv : v.ownBlock with _ | k
    · exact .inl rfl
    · refine .inr ?_
      have := (World.ownsRow.lt h k hv).1
      simp; omega)

/-- append(s, x) of one string, onto a slice that is owned. -/
theorem app1s {w : World} {ops : Array Oper} {rest : List Oper} {o : Oper} {a : Act} {Q : Exit → Act → World → Prop} (hgd : o.guard = none) (s x : Operand)
    (ho : o.op = .call { callee := .builtin .append, args := #[s, x], argTypes := #[57, 57] })
    (B : Nat) (v : Value) (l : List (List UInt8)) (c : List UInt8) (hs : a.eval s = v) (hown : OwnS w B v l)
    (hx : a.eval x = .slice (some ⟨w.heap.size, 0, none⟩) 1 1) (hb : l.length ≤ 10000000) (hbase : B ≤ w.heap.size)
    (h : ∀ v' w', OwnS w' B v' (l ++ [c]) → Below B w w' → wpList Try.prog ops Q rest (a.put o.dst v') w') : wpList Try.prog ops Q (o :: rest) a (w.alloc (.cells #[.string (ba c)] 9)) := by
  obtain ⟨i0, hi, hz0, hz1, hz2⟩ := info_parts Try.info9
  refine wpList_append_own _ hgd s x 57 ho B 9 i0 (.string ByteArray.empty) 1 16 Try.underlying57 hi hz0 hz1 hz2 rfl (by decide) _ _ _ hs (World.ownsRow.alloc hown _) ⟨w.heap.size, 0, none⟩ 1 1 [.string (ba c)] hx rfl ?_ ?_ ?_ ?_ ?_ ?_
  · intro j u hj; match j, hj with | 0, hj => simp at hj; subst hj; simp [Addr.add]
  · intro u hu; simp at hu; subst hu; rfl
  · unfold maxLen; omega
  · omega
  · simp; omega
  · intro v' w1 hown' hgrow _
    refine h v' w1 ?_ ?_
    · unfold OwnS
      rw [List.map_append, List.length_append]
      exact hown'
    · exact ((Below.refl B w).alloc hbase _).grown hgrow (by simp; omega) (fun k hk => (World.ownsRow.lt hown k hk).1)

theorem ba_nil_toList : ((ba []).toList.isEmpty) = true := by rw [ByteArray.toList_eq, ba_toList]; rfl
theorem ba_isEmpty {l : List UInt8} (h : l.length = 0) : ((ba l).toList.isEmpty) = true := by
  have : l = [] := List.eq_nil_of_length_eq_zero h
  subst this; exact ba_nil_toList
theorem numP_nil : numP [] = none := by rfl

def RecsPost (w : World) (s : List UInt8) (e : Ending) (w' : World) : Prop :=
  ∃ v, e = .returned (.tuple #[v, .int .i64 ((jforms (jrecs s)).length : Nat)]) ∧ OwnS w' w.heap.size v (jrecs s) ∧ Below w.heap.size w w'

theorem step_bad {t : List UInt8} (h : textP t = none) : step t = none := by unfold step; rw [h]
theorem step_bad2 {t v x : List UInt8} (h : textP t = some (v, x)) (h2 : numP x = none) : step t = none := by unfold step; rw [h]; simp only; rw [h2]
theorem step_bad3 {t v x r : List UInt8} {n : Nat} (h : textP t = some (v, x)) (h2 : numP x = some (n, r)) (h3 : ¬ (v.length ≤ 20000 ∧ n = jsum v)) : step t = none := by
  unfold step; rw [h]; simp only; rw [h2]; simp only; rw [if_neg h3]
theorem step_good {t v x r : List UInt8} {n : Nat} (h : textP t = some (v, x)) (h2 : numP x = some (n, r)) (h3 : v.length ≤ 20000 ∧ n = jsum v) : step t = some (v, r) := by
  unfold step; rw [h]; simp only; rw [h2]; simp only; rw [if_pos h3]

theorem Keep.below {B b : Nat} {w w1 w2 : World} (h : Below B w w1) (hb : B ≤ b) (hB : B ≤ w.heap.size) (hk : Wire.Keep b w1 w2) : Below B w w2 := by
  refine ⟨hk.os.trans h.os, hk.tape.trans h.tape, hk.output.trans h.output, Nat.le_trans h.size hk.size, fun k hk' => ?_⟩
  exact (hk.block k (Nat.lt_of_lt_of_le (Nat.lt_of_lt_of_le hk' hB) h.size) (by simp; omega)).trans (h.block k hk')

theorem encText_len (v : List UInt8) : v.length + 3 ≤ (encText v).length := by
  unfold encText
  have := dg_pos v.length
  simp only [List.length_append, List.length_cons, List.length_nil]
  omega

theorem recs_post {w w' : World} {s : List UInt8} {a : List (List UInt8)} {t : List UInt8} {v : Value} {e : Ending} {B : Nat} (hs : s = jforms a ++ t ∧ jrecs s = a ++ jrecs t) (ht : step t = none) (hB : w.heap.size ≤ B) (he : e = .returned (.tuple #[v, .int .i64 ((jforms a).length : Nat)])) (hown : OwnS w' B v a) (hb : Below w.heap.size w w') : RecsPost w s e w' := by
  have h2 := hs.2
  rw [jrecs_none ht, List.append_nil] at h2
  unfold RecsPost
  rw [h2]
  refine ⟨v, he, ⟨hown.1, ?_⟩, hb⟩
  rcases hown.2 with h | ⟨g, cap, cur, e1, h0, r⟩
  · exact .inl h
  · exact .inr ⟨g, cap, cur, e1, by omega, r⟩

theorem recs_more {s t v r : List UInt8} {a : List (List UInt8)} (hs : s = jforms a ++ t ∧ jrecs s = a ++ jrecs t) (ht : step t = some (v, r)) : s = jforms (a ++ [v]) ++ r ∧ jrecs s = (a ++ [v]) ++ jrecs r := by
  have h1 := (step_inv ht).1
  rw [jforms_snoc, List.append_assoc, ← h1, List.append_assoc, List.singleton_append, ← jrecs_some ht]
  exact hs

theorem Keep.rdb {B b : Nat} {w w1 : World} {s : ByteArray} {f : Bool} (h : Below B w w1) (hb : b < B) (hr : Wire.Rd w b s f) : Wire.Rd w1 b s f := by
  unfold Wire.Rd at hr ⊢
  rw [h.block b hb]; exact hr
theorem Keep.below2 {w w1 w2 : World} (h : Below w.heap.size w w1) (k : Below (w.heap.size + 1) w1 w2) : Below w.heap.size w w2 :=
  h.trans ⟨k.os, k.tape, k.output, k.size, fun b hb => k.block b (Nat.lt_succ_of_lt hb)⟩

theorem recs_room {s t : List UInt8} {a : List (List UInt8)} (hs : s = jforms a ++ t) : (jforms a).length + t.length = s.length := by rw [hs, List.length_append]

set_option maxRecDepth 100000 in
set_option maxHeartbeats 8000000 in
theorem recordsOf_any (s : ByteArray) (w : World) (hs : s.size ≤ 20000000) : Calls Try.prog 69 #[.string s] w (RecsPost w (bts s)) := by
  go_enter Try.func69, Try.ntmps69
  go_wp2_with fail
  go_step3
  go_wp2_with fail
  refine (Wire.open_any s _).mono ?_
  rintro e w1 ⟨rfl, hr1, hb1⟩
  go_wp2_with fail
  go_step3
  go_wp2_with fail
  go_loopw [2, 3] (fun v n wr => ∃ (a : List (List UInt8)) (t : List UInt8), OwnS wr (w.heap.size + 1) v a ∧ n = .int .i64 ((jforms a).length : Nat) ∧ Wire.Rd wr w.heap.size (ba t) false ∧ Below w.heap.size w wr ∧ Hid (bts s = jforms a ++ t ∧ jrecs (bts s) = a ++ jrecs t)) (fun _ n _ => s.size - (intOf n).toNat)
  case atStart => exact ⟨[], bts s, OwnS.nil _ _, rfl, by rw [← wba, Wire.ba_bts]; exact hr1, hb1, show _ ∧ _ from ⟨rfl, rfl⟩⟩
  case round =>
    obtain ⟨a, t, hown, rfl, hrd, hbr, HS⟩ := hrel
    have hroom := recs_room HS.out.1
    rw [Wire.bts_len] at hroom
    have hlt := hrd.lt
    have hts : (ba t).size ≤ 9223372036854775807 := by rw [ba_size]; omega
    have HT := Lib.hid hts
    clear hts
    have z0 : (Wire.ba []).size = 0 := rfl
    have z1 : (!true && (Wire.ba []).toList.isEmpty) = false := rfl
    cases htx : textP t with
    | none =>
      have HP : Hid (textP (bts (ba t)) = none) := htx
      have HN := Lib.hid (step_bad htx)
      clear htx
      go_wp2_with fail
      refine (Wire.text_none _ (ba t) false _ hrd HT.out HP.out).mono ?_
      rintro e w2 ⟨rfl, hr2, hk2⟩
      go_wp2_with fail
      refine (Wire.num_none _ (Wire.ba []) true _ hr2 (by omega) numP_nil).mono ?_
      rintro e w3 ⟨rfl, hr3, hk3⟩
      go_wp2_with fail
      refine (Wire.left_any _ (Wire.ba []) true _ hr3).mono ?_
      rintro e w4 ⟨rfl, rfl⟩
      go_wp2_with fail
      refine (Wire.done_any _ (Wire.ba []) true _ hr3).mono ?_
      rintro e w4 ⟨rfl, rfl⟩
      go_wp2_with fail
      rw [Exit.noGoto_ret]
      go_ret2
      exact recs_post HS.out HN.out (Nat.le_succ _) rfl ((hown.keep hk2 (by omega)).keep hk3 (by omega)) (Keep.below (Keep.below hbr (Nat.le_refl _) (Nat.le_refl _) hk2) (Nat.le_refl _) (Nat.le_refl _) hk3)
    | some q =>
      obtain ⟨v, x⟩ := q
      have HP : Hid (textP (bts (ba t)) = some (v, x)) := htx
      have hti := Wire.textP_inv htx
      have hvl : v.length + x.length ≤ t.length := by
        rw [hti, List.length_append]
        have := (encText_len v)
        omega
      cases hnx : numP x with
      | none =>
        have HQ : Hid (numP (bts (Wire.ba x)) = none) := hnx
        have HN := Lib.hid (step_bad2 htx hnx)
        clear htx hnx hti
        go_wp2_with fail
        refine (Wire.text_some _ (ba t) false _ hrd HT.out v x HP.out).mono ?_
        rintro e w2 ⟨rfl, hr2, hk2⟩
        go_wp2_with fail
        refine (Wire.num_none _ (Wire.ba x) false _ hr2 (by rw [Wire.ba_size]; omega) HQ.out).mono ?_
        rintro e w3 ⟨rfl, hr3, hk3⟩
        go_wp2_with fail
        refine (Wire.left_any _ (Wire.ba []) true _ hr3).mono ?_
        rintro e w4 ⟨rfl, rfl⟩
        go_wp2_with fail
        refine (Wire.done_any _ (Wire.ba []) true _ hr3).mono ?_
        rintro e w4 ⟨rfl, rfl⟩
        go_wp2_with fail
        rw [Exit.noGoto_ret]
        go_ret2
        exact recs_post HS.out HN.out (Nat.le_succ _) rfl ((hown.keep hk2 (by omega)).keep hk3 (by omega)) (Keep.below (Keep.below hbr (Nat.le_refl _) (Nat.le_refl _) hk2) (Nat.le_refl _) (Nat.le_refl _) hk3)
      | some q =>
        obtain ⟨n, r⟩ := q
        have HQ : Hid (numP (bts (Wire.ba x)) = some (n, r)) := hnx
        have hrl : r.length < x.length := (Wire.digP_le hnx).2
        have hnm : n ≤ 9223372036854775807 := (Wire.digP_le hnx).1
        have HTX := Lib.hid htx
        have HVL : Hid ((Wire.ba v).size ≤ 1000000000) := show _ ≤ _ by rw [Wire.ba_size]; omega
        have HXL : Hid ((Wire.ba x).size ≤ 9223372036854775807) := show _ ≤ _ by rw [Wire.ba_size]; omega
        have HLN : Hid (step t = some (v, r) → ∀ z : Int, z = (s.size : Int) - (r.length : Int) → z = ((jforms (a ++ [v])).length : Nat)) := show _ → _ from fun h z hz => by have := recs_room (recs_more HS.out h).1; rw [Wire.bts_len] at this; omega
        clear htx hnx hti
        have hvsz : (Wire.ba v).size = v.length := Wire.ba_size v
        have hrsz : (Wire.ba r).size = r.length := Wire.ba_size r
        rcases Nat.eq_zero_or_pos r.length with h0 | h0
        · have HZ : Hid ((!false && (Wire.ba r).toList.isEmpty) = true) := show _ = _ by rw [wba, ba_isEmpty h0]; rfl
          by_cases hv : 20000 < v.length
          · have HN := Lib.hid (step_bad3 HTX.out HQ.out (fun hh => absurd hh.1 (by omega)))
            go_wp2_with fail
            refine (Wire.text_some _ (ba t) false _ hrd HT.out v x HP.out).mono ?_
            rintro e w2 ⟨rfl, hr2, hk2⟩
            go_wp2_with fail
            refine (Wire.num_some _ (Wire.ba x) false _ hr2 HXL.out n r HQ.out).mono ?_
            rintro e w3 ⟨rfl, hr3, hk3⟩
            go_wp2_with fail
            refine (Wire.left_any _ (Wire.ba r) false _ hr3).mono ?_
            rintro e w4 ⟨rfl, rfl⟩
            go_wp2_with fail
            refine (Wire.done_any _ (Wire.ba r) false _ hr3).mono ?_
            rintro e w4 ⟨rfl, rfl⟩
            rw [HZ.out]
            go_wp2_with fail
            rw [Exit.noGoto_ret]
            go_ret2
            exact recs_post HS.out HN.out (Nat.le_succ _) rfl ((hown.keep hk2 (by omega)).keep hk3 (by omega)) (Keep.below (Keep.below hbr (Nat.le_refl _) (Nat.le_refl _) hk2) (Nat.le_refl _) (Nat.le_refl _) hk3)
          · by_cases hn : n = jsum v
            · have HN := Lib.hid (step_good HTX.out HQ.out ⟨by omega, hn⟩)
              have hb : ((n : Int) != (jsum v : Int)) = false := by rw [hn]; simp
              have hjs : jsum (bts (Wire.ba v)) = jsum v := rfl
              have HJ := Lib.hid hjs
              clear hjs hn
              go_wp2_with fail
              refine (Wire.text_some _ (ba t) false _ hrd HT.out v x HP.out).mono ?_
              rintro e w2 ⟨rfl, hr2, hk2⟩
              go_wp2_with fail
              refine (Wire.num_some _ (Wire.ba x) false _ hr2 HXL.out n r HQ.out).mono ?_
              rintro e w3 ⟨rfl, hr3, hk3⟩
              go_wp2_with fail
              refine (Wire.left_any _ (Wire.ba r) false _ hr3).mono ?_
              rintro e w4 ⟨rfl, rfl⟩
              go_wp2_with fail
              refine (Wire.done_any _ (Wire.ba r) false _ hr3).mono ?_
              rintro e w4 ⟨rfl, rfl⟩
              rw [HZ.out]
              go_wp2_with fail
              refine (sum_any (Wire.ba v) _ HVL.out).mono ?_
              rintro e w4 ⟨rfl, rfl⟩
              rw [HJ.out]
              have hown3 := (hown.keep hk2 (by omega)).keep hk3 (by omega)
              have hk23 := hk2.trans hk3
              have hs23 := hk23.size
              have hlt3 := hr3.lt
              have hcnt := jforms_count a
              go_wp2_with (first
                | (at_builtin; (refine app1s rfl (.tmp 31) (.tmp 33) rfl (w.heap.size + 1) _ a v rfl hown3 rfl (by omega) (by omega) ?_; intro v4 w4 hown4 hb4; have hr4 := Keep.rdb hb4 (Nat.lt_succ_self _) hr3)))
              refine (Wire.left_any _ (Wire.ba r) false _ hr4).mono ?_
              rintro e w5 ⟨rfl, rfl⟩
              rw [show ((Wire.ba r).size : Int) = (r.length : Int) by rw [Wire.ba_size]]
              go_wp2_with fail
              go_roundw
              case rel => exact ⟨a ++ [v], r, hown4, congrArg (Value.int .i64) (HLN.out HN.out _ (by omega)), hr4, Keep.below2 (Keep.below (Keep.below hbr (Nat.le_refl _) (Nat.le_refl _) hk2) (Nat.le_refl _) (Nat.le_refl _) hk3) hb4, show _ ∧ _ from recs_more HS.out HN.out⟩
              case measure => simp [intOf]; omega
            · have HN := Lib.hid (step_bad3 HTX.out HQ.out (fun hh => absurd hh.2 hn))
              have hb : ((n : Int) != (jsum v : Int)) = true := by rw [bne_iff_ne]; omega
              have hjs : jsum (bts (Wire.ba v)) = jsum v := rfl
              have HJ := Lib.hid hjs
              clear hjs hn
              go_wp2_with fail
              refine (Wire.text_some _ (ba t) false _ hrd HT.out v x HP.out).mono ?_
              rintro e w2 ⟨rfl, hr2, hk2⟩
              go_wp2_with fail
              refine (Wire.num_some _ (Wire.ba x) false _ hr2 HXL.out n r HQ.out).mono ?_
              rintro e w3 ⟨rfl, hr3, hk3⟩
              go_wp2_with fail
              refine (Wire.left_any _ (Wire.ba r) false _ hr3).mono ?_
              rintro e w4 ⟨rfl, rfl⟩
              go_wp2_with fail
              refine (Wire.done_any _ (Wire.ba r) false _ hr3).mono ?_
              rintro e w4 ⟨rfl, rfl⟩
              rw [HZ.out]
              go_wp2_with fail
              refine (sum_any (Wire.ba v) _ HVL.out).mono ?_
              rintro e w4 ⟨rfl, rfl⟩
              rw [HJ.out]
              go_wp2_with fail
              rw [Exit.noGoto_ret]
              go_ret2
              exact recs_post HS.out HN.out (Nat.le_succ _) rfl ((hown.keep hk2 (by omega)).keep hk3 (by omega)) (Keep.below (Keep.below hbr (Nat.le_refl _) (Nat.le_refl _) hk2) (Nat.le_refl _) (Nat.le_refl _) hk3)
        · have hr0 : ((r.length : Int) == 0) = false := beq_eq_false_iff_ne.2 (by omega)
          by_cases hv : 20000 < v.length
          · have HN := Lib.hid (step_bad3 HTX.out HQ.out (fun hh => absurd hh.1 (by omega)))
            go_wp2_with fail
            refine (Wire.text_some _ (ba t) false _ hrd HT.out v x HP.out).mono ?_
            rintro e w2 ⟨rfl, hr2, hk2⟩
            go_wp2_with fail
            refine (Wire.num_some _ (Wire.ba x) false _ hr2 HXL.out n r HQ.out).mono ?_
            rintro e w3 ⟨rfl, hr3, hk3⟩
            go_wp2_with fail
            refine (Wire.left_any _ (Wire.ba r) false _ hr3).mono ?_
            rintro e w4 ⟨rfl, rfl⟩
            go_wp2_with fail
            rw [Exit.noGoto_ret]
            go_ret2
            exact recs_post HS.out HN.out (Nat.le_succ _) rfl ((hown.keep hk2 (by omega)).keep hk3 (by omega)) (Keep.below (Keep.below hbr (Nat.le_refl _) (Nat.le_refl _) hk2) (Nat.le_refl _) (Nat.le_refl _) hk3)
          · by_cases hn : n = jsum v
            · have HN := Lib.hid (step_good HTX.out HQ.out ⟨by omega, hn⟩)
              have hb : ((n : Int) != (jsum v : Int)) = false := by rw [hn]; simp
              have hjs : jsum (bts (Wire.ba v)) = jsum v := rfl
              have HJ := Lib.hid hjs
              clear hjs hn
              go_wp2_with fail
              refine (Wire.text_some _ (ba t) false _ hrd HT.out v x HP.out).mono ?_
              rintro e w2 ⟨rfl, hr2, hk2⟩
              go_wp2_with fail
              refine (Wire.num_some _ (Wire.ba x) false _ hr2 HXL.out n r HQ.out).mono ?_
              rintro e w3 ⟨rfl, hr3, hk3⟩
              go_wp2_with fail
              refine (Wire.left_any _ (Wire.ba r) false _ hr3).mono ?_
              rintro e w4 ⟨rfl, rfl⟩
              go_wp2_with fail
              refine (sum_any (Wire.ba v) _ HVL.out).mono ?_
              rintro e w4 ⟨rfl, rfl⟩
              rw [HJ.out]
              have hown3 := (hown.keep hk2 (by omega)).keep hk3 (by omega)
              have hk23 := hk2.trans hk3
              have hs23 := hk23.size
              have hlt3 := hr3.lt
              have hcnt := jforms_count a
              go_wp2_with (first
                | (at_builtin; (refine app1s rfl (.tmp 31) (.tmp 33) rfl (w.heap.size + 1) _ a v rfl hown3 rfl (by omega) (by omega) ?_; intro v4 w4 hown4 hb4; have hr4 := Keep.rdb hb4 (Nat.lt_succ_self _) hr3)))
              refine (Wire.left_any _ (Wire.ba r) false _ hr4).mono ?_
              rintro e w5 ⟨rfl, rfl⟩
              rw [show ((Wire.ba r).size : Int) = (r.length : Int) by rw [Wire.ba_size]]
              go_wp2_with fail
              go_roundw
              case rel => exact ⟨a ++ [v], r, hown4, congrArg (Value.int .i64) (HLN.out HN.out _ (by omega)), hr4, Keep.below2 (Keep.below (Keep.below hbr (Nat.le_refl _) (Nat.le_refl _) hk2) (Nat.le_refl _) (Nat.le_refl _) hk3) hb4, show _ ∧ _ from recs_more HS.out HN.out⟩
              case measure => simp [intOf]; omega
            · have HN := Lib.hid (step_bad3 HTX.out HQ.out (fun hh => absurd hh.2 hn))
              have hb : ((n : Int) != (jsum v : Int)) = true := by rw [bne_iff_ne]; omega
              have hjs : jsum (bts (Wire.ba v)) = jsum v := rfl
              have HJ := Lib.hid hjs
              clear hjs hn
              go_wp2_with fail
              refine (Wire.text_some _ (ba t) false _ hrd HT.out v x HP.out).mono ?_
              rintro e w2 ⟨rfl, hr2, hk2⟩
              go_wp2_with fail
              refine (Wire.num_some _ (Wire.ba x) false _ hr2 HXL.out n r HQ.out).mono ?_
              rintro e w3 ⟨rfl, hr3, hk3⟩
              go_wp2_with fail
              refine (Wire.left_any _ (Wire.ba r) false _ hr3).mono ?_
              rintro e w4 ⟨rfl, rfl⟩
              go_wp2_with fail
              refine (sum_any (Wire.ba v) _ HVL.out).mono ?_
              rintro e w4 ⟨rfl, rfl⟩
              rw [HJ.out]
              go_wp2_with fail
              rw [Exit.noGoto_ret]
              go_ret2
              exact recs_post HS.out HN.out (Nat.le_succ _) rfl ((hown.keep hk2 (by omega)).keep hk3 (by omega)) (Keep.below (Keep.below hbr (Nat.le_refl _) (Nat.le_refl _) hk2) (Nat.le_refl _) (Nat.le_refl _) hk3)

end Go.Proofs.Ytgocnjiabfmdpaa
