/- The reference's journal: Sum, Form, Forms. The reference's journal: Records. -/
import Derived.Test.YtgocnjiabfmdpaaJc
import Derived.Test.YtgocnjiabfmdpaaRRa
import Derived.Test.YtgocnjiabfmdpaaRQd
import Derived.Test.YtgocnjiabfmdpaaDYgk
namespace Go.Proofs.Ytgocnjiabfmdpaa
set_option maxRecDepth 8000
open Go.RowKit Wire

set_option maxHeartbeats 1000000 in
theorem rsum_any (s : ByteArray) (w : World) (hs : s.size ≤ 1000000000) : Calls Try.prog 28 #[.string s] w fun e w' => e = .returned (.int .i64 (jsum (bts s))) ∧ w = w' := by
  have hj : jsum (bts s) = sumTo (bts s) s.size := by unfold jsum; rw [bts_len]
  have HJ := Lib.hid hj
  clear hj
  go_enter Try.func28, Try.ntmps28
  go_wp2_with fail
  go_loopw [3, 4] (fun sv i wr => ∃ k : Nat, k ≤ s.size ∧ i = .int .i64 k ∧ sv = .int .i64 (sumTo (bts s) k) ∧ w = wr) (fun _ i _ => s.size - (intOf i).toNat)
  case atStart => exact ⟨0, Nat.zero_le _, rfl, rfl, rfl⟩
  case round =>
    obtain ⟨k, hk, rfl, rfl, rfl⟩ := hrel
    by_cases hlt : k < s.size
    · have h1 := sum_step s k hlt
      have h2 := sumTo_lt (bts s) k
      obtain ⟨x, hx⟩ : ∃ x, x = sumTo (bts s) k := ⟨_, rfl⟩
      rw [← hx] at h1 h2 ⊢
      have h3 : (s[k]'hlt).toNat ≤ 255 := by have := (s[k]'hlt).toNat_lt; omega
      obtain ⟨c, hc⟩ : ∃ c, c = (s[k]'hlt).toNat := ⟨_, rfl⟩
      have h4 : (k + 1) * c ≤ 1000000000 * 255 := Nat.mul_le_mul (by omega) (by omega)
      rw [← hc] at h1 h3
      have h5 : ((c : Int) * ((k : Int) + 1)) = (((k + 1) * c : Nat) : Int) := by push_cast; exact Int.mul_comm _ _
      obtain ⟨m, hm⟩ : ∃ m, m = (k + 1) * c := ⟨_, rfl⟩
      rw [← hm] at h1 h4 h5
      have h6 : (((x : Int) + m).tmod 2147483647) = (((x + m) % 2147483647 : Nat) : Int) := by
        rw [Int.tmod_eq_emod_of_nonneg (by omega)]; omega
      have H := Lib.hid (And.intro h1 (And.intro hc hm))
      clear h1 hm hx
      go_wp2_with fail
      go_roundw
      case rel => exact ⟨k + 1, by omega, by go_num, by rw [← H.out.2.1, h5, IntWalk.wrap64_in (m : Int) (by omega), IntWalk.wrap64_in (x + m : Int) (by omega), h6, H.out.1], trivial⟩
      case measure => simp [intOf]; omega
    · obtain rfl : k = s.size := by omega
      go_wp2_with fail
      go_ret
      exact ⟨by rw [HJ.out]; rfl, rfl⟩

set_option maxHeartbeats 1000000 in
theorem rform_any (s : ByteArray) (w : World) (hs : s.size ≤ 1000000) : Calls Try.prog 74 #[.string s] w fun e w' => e = .returned (.string (ba (jform (bts s)))) ∧ Below w.heap.size w w' := by
  have hj := jsum_lt (bts s)
  obtain ⟨n, hn⟩ : ∃ n, n = jsum (bts s) := ⟨_, rfl⟩
  have h1 : (Wire.ba (Wire.encStr s)).size ≤ 1000022 := by rw [Wire.ba_size]; exact Wire.encStr_len hs
  have h2 : (Wire.ba (encInt (n : Int))).size ≤ 22 := by rw [Wire.ba_size]; exact Wire.encInt_len (by unfold Wire.isI64; omega)
  have he : ba (jform (bts s)) = Wire.ba (Wire.encStr s) ++ Wire.ba (encInt (n : Int)) := by rw [hn, Wire.ba_append, jform_enc]; rfl
  have HE := Lib.hid he
  have HN := Lib.hid hn
  have HI : Hid (Wire.isI64 (n : Int)) := show Wire.isI64 _ by unfold Wire.isI64; omega
  clear he hj hn
  go_enter Try.func74, Try.ntmps74
  go_wp2_with fail
  refine (Wire.rText_any s _ (by omega)).mono ?_
  rintro e w1 ⟨rfl, hb1⟩
  go_wp2_with fail
  refine (rsum_any s _ (by omega)).mono ?_
  rintro e w2 ⟨rfl, rfl⟩
  rw [← HN.out]
  go_wp2_with fail
  refine (Wire.rNum_pos (n : Int) _ HI.out (by omega)).mono ?_
  rintro e w3 ⟨rfl, hb3⟩
  go_wp2_with fail
  go_ret
  exact ⟨by rw [HE.out]; rfl, hb1.trans (hb3.mono hb1.size)⟩

theorem ba_join (a b : List UInt8) : ba a ++ ba b = ba (a ++ b) := Wire.ba_append a b

/-- A slice of strings: its cells lie in old blocks. -/
def SAt (w : World) (v : Value) (l : List (List UInt8)) : Prop := ∃ A c, v = .slice A l.length c ∧ ∀ j (hj : j < l.length), ∃ g, A = some ⟨g, 0, none⟩ ∧ g < w.heap.size ∧ w.cell? ⟨g, j, none⟩ = some (.string (ba l[j]))

theorem jforms_take (l : List (List UInt8)) (j : Nat) (hj : j < l.length) : jforms (l.take (j + 1)) = jforms (l.take j) ++ jform l[j] := by
  rw [List.take_succ_eq_append_getElem hj, jforms_snoc]

theorem jforms_take_le (l : List (List UInt8)) (j : Nat) : (jforms (l.take j)).length ≤ (jforms l).length := by
  have : jforms l = jforms (l.take j) ++ jforms (l.drop j) := by rw [← jforms_append, List.take_append_drop]
  rw [this, List.length_append]; omega

set_option maxRecDepth 100000 in
set_option maxHeartbeats 1000000 in
theorem rforms_any {w : World} {v : Value} {l : List (List UInt8)} (h : SAt w v l) (hl : (jforms l).length ≤ 100000000) (hs : ∀ x ∈ l, x.length ≤ 1000000) :
    Calls Try.prog 71 #[v] w fun e w' => e = .returned (.string (ba (jforms l))) ∧ Below w.heap.size w w' := by
  obtain ⟨A, c, rfl, hc⟩ := h
  have hcount := jforms_count l
  have HC := Lib.hid (And.intro hc hs)
  clear hc hs
  go_enter Try.func71, Try.ntmps71
  go_wp2_with fail
  go_loopw [3, 4] (fun sv i wr => ∃ j : Nat, j ≤ l.length ∧ i = .int .i64 j ∧ sv = .string (ba (jforms (l.take j))) ∧ Hid (Below w.heap.size w wr)) (fun _ i _ => l.length - (intOf i).toNat)
  case atStart => exact ⟨0, Nat.zero_le _, rfl, rfl, Below.refl _ _⟩
  case round =>
    obtain ⟨j, hj, rfl, rfl, HB⟩ := hrel
    have hlen := jforms_take_le l j
    have hsz : (ba (jforms (l.take j))).size = (jforms (l.take j)).length := ba_size _
    by_cases hlt : j < l.length
    · obtain ⟨g, rfl, lg, h1⟩ := HC.out.1 j hlt
      have h1r := (HB.out.cell (p := ⟨g, j, none⟩) lg).trans h1
      have htk := jforms_take l j hlt
      have hxs := HC.out.2 l[j] (List.getElem_mem hlt)
      have hle2 := jforms_take_le l (j + 1)
      obtain ⟨x, hx⟩ : ∃ x, l[j] = x := ⟨_, rfl⟩
      rw [hx] at h1r htk hxs
      have hxz : (ba x).size = x.length := ba_size x
      have hfz : (ba (jform x)).size = (jform x).length := ba_size _
      have hsum : (jforms (l.take j)).length + (jform x).length ≤ 100000000 := by rw [htk, List.length_append] at hle2; omega
      have HT := Lib.hid htk
      clear htk hx h1 hle2
      go_wp2_with fail
      refine (rform_any (ba x) _ (by omega)).mono ?_
      rintro e w2 ⟨rfl, hb2⟩
      rw [show bts (ba x) = x from rfl]
      go_wp2_with fail
      go_roundw
      case rel => exact ⟨j + 1, by omega, by go_num, by rw [HT.out, ba_join], HB.out.trans (hb2.mono HB.out.size)⟩
      case measure => simp [intOf]; omega
    · obtain rfl : j = l.length := by omega
      have HTK : Hid (l.take l.length = l) := show _ = _ from List.take_length
      go_wp2_with fail
      go_ret
      rw [HTK.out]
      exact ⟨rfl, HB.out⟩

end Go.Proofs.Ytgocnjiabfmdpaa

namespace Go.Proofs.Ytgocnjiabfmdpaa
set_option maxRecDepth 8000
open Go.RowKit Wire

theorem rq_below {B b : Nat} {w w1 : World} {s : ByteArray} {f : Bool} (h : Below B w w1) (hb : b < B) (hr : Wire.Rq w b s f) : Wire.Rq w1 b s f := (h.block b hb).trans hr

def RRPost (w : World) (s : List UInt8) (e : Ending) (w' : World) : Prop := ∃ v, e = .returned v ∧ OwnS w' w.heap.size v (jrecs s) ∧ Below w.heap.size w w'

theorem own_low {w : World} {B B' : Nat} {v : Value} {l : List (List UInt8)} (h : OwnS w B v l) (hB : B' ≤ B) : OwnS w B' v l := by
  refine ⟨h.1, ?_⟩
  rcases h.2 with hn | ⟨g, cap, cur, hv, hb, rest⟩
  · exact .inl hn
  · exact .inr ⟨g, cap, cur, hv, by omega, rest⟩

theorem own_len {w : World} {B : Nat} {v : Value} {l : List (List UInt8)} (h : OwnS w B v l) : sliceLen v = l.length := by
  rcases h.2 with ⟨rfl, hn⟩ | ⟨g, cap, cur, rfl, _⟩
  · exact hn.symm
  · rfl

set_option maxRecDepth 100000 in
set_option maxHeartbeats 8000000 in
theorem rrecords_any (s : ByteArray) (w : World) (hs : s.size ≤ 9000000) : Calls Try.prog 70 #[.string s] w (RRPost w (bts s)) := by
  go_enter Try.func70, Try.ntmps70
  go_wp2_with fail
  refine (Wire.qopen_any s _).mono ?_
  rintro e w1 ⟨rfl, hr1, hb1⟩
  go_wp2_with fail
  go_loopw [3] (fun v wr => ∃ (a : List (List UInt8)) (t : List UInt8), OwnS wr (w.heap.size + 1) v a ∧ sliceLen v = a.length ∧ Wire.Rq wr w.heap.size (ba t) false ∧ Below w.heap.size w wr ∧ Hid (bts s = jforms a ++ t ∧ jrecs (bts s) = a ++ jrecs t)) (fun v _ => s.size - sliceLen v)
  case atStart => exact ⟨[], bts s, OwnS.nil _ _, rfl, by rw [← wba, Wire.ba_bts]; exact hr1, hb1, show _ ∧ _ from ⟨rfl, rfl⟩⟩
  case round =>
    obtain ⟨a, t, hown, hal, hrd, hbr, HS⟩ := hrel
    have hroom := recs_room HS.out.1
    rw [Wire.bts_len] at hroom
    have hcount := jforms_count a
    have hlt := hrd.lt
    have hts : (ba t).size = t.length := ba_size t
    obtain ⟨RA, rn, rc, rfl⟩ := own_slice (own_base hown)
    obtain rfl : rn = a.length := hal
    rcases Nat.eq_zero_or_pos t.length with h0 | h0
    · have ht0 : t = [] := List.eq_nil_of_length_eq_zero h0
      subst ht0
      have HE : Hid (jrecs (bts s) = a) := show _ = _ by rw [HS.out.2, jrecs_nil, List.append_nil]
      have h00 : (ba ([] : List UInt8)).size = 0 := rfl
      go_wp2_with fail
      refine (Wire.qleft_any _ (ba []) false _ hrd).mono ?_
      rintro e w2 ⟨rfl, rfl⟩
      go_wp2_with fail
      go_ret
      exact ⟨_, rfl, by rw [HE.out]; exact own_low hown (Nat.le_succ _), hbr⟩
    · have h0I : (0 : Int) < (t.length : Int) := by omega
      have HT : Hid ((ba t).size ≤ 10000000) := show _ ≤ _ by rw [hts]; omega
      cases htx : textP t with
      | none =>
        have HP : Hid (textP (bts (ba t)) = none) := htx
        have HE : Hid (jrecs (bts s) = a) := show _ = _ by rw [HS.out.2, jrecs_none (step_bad htx), List.append_nil]
        clear htx
        go_wp2_with fail
        refine (Wire.qleft_any _ (ba t) false _ hrd).mono ?_
        rintro e w2 ⟨rfl, rfl⟩
        go_wp2_with fail
        refine (Wire.qtext_none _ (ba t) false _ hrd (fun h => by cases h) HT.out HP.out).mono ?_
        rintro e w2 ⟨rfl, hr2, hk2⟩
        go_wp2_with fail
        refine (Wire.qnum_none _ (Wire.ba []) true _ hr2 (by decide) numP_nil).mono ?_
        rintro e w3 ⟨rfl, hr3, hk3⟩
        have q1 := hr3.cell1
        go_wp2_with fail
        go_ret
        exact ⟨_, rfl, by rw [HE.out]; exact own_low ((hown.keep hk2 (by omega)).keep hk3 (by omega)) (Nat.le_succ _), Keep.below (Keep.below hbr (Nat.le_refl _) (Nat.le_refl _) hk2) (Nat.le_refl _) (Nat.le_refl _) hk3⟩
      | some q =>
        obtain ⟨v, x⟩ := q
        have HP : Hid (textP (bts (ba t)) = some (v, x)) := htx
        have hti := Wire.textP_inv htx
        have hvl : v.length + x.length ≤ t.length := by
          rw [hti, List.length_append]
          have := (encText_len v)
          omega
        cases hnx : numP x with
        | none =>
          have HQ : Hid (numP (bts (Wire.ba x)) = none) := hnx
          have HE : Hid (jrecs (bts s) = a) := show _ = _ by rw [HS.out.2, jrecs_none (step_bad2 htx hnx), List.append_nil]
          clear htx hnx hti
          go_wp2_with fail
          refine (Wire.qleft_any _ (ba t) false _ hrd).mono ?_
          rintro e w2 ⟨rfl, rfl⟩
          go_wp2_with fail
          refine (Wire.qtext_some _ (ba t) _ hrd HT.out v x HP.out).mono ?_
          rintro e w2 ⟨rfl, hr2, hk2⟩
          go_wp2_with fail
          refine (Wire.qnum_none _ (Wire.ba x) false _ hr2 (by rw [Wire.ba_size]; omega) HQ.out).mono ?_
          rintro e w3 ⟨rfl, hr3, hk3⟩
          have q1 := hr3.cell1
          go_wp2_with fail
          go_ret
          exact ⟨_, rfl, by rw [HE.out]; exact own_low ((hown.keep hk2 (by omega)).keep hk3 (by omega)) (Nat.le_succ _), Keep.below (Keep.below hbr (Nat.le_refl _) (Nat.le_refl _) hk2) (Nat.le_refl _) (Nat.le_refl _) hk3⟩
        | some q =>
          obtain ⟨n, r⟩ := q
          have HQ : Hid (numP (bts (Wire.ba x)) = some (n, r)) := hnx
          have hrl : r.length < x.length := (Wire.digP_le hnx).2
          have hnm : n ≤ 9223372036854775807 := (Wire.digP_le hnx).1
          have HTX := Lib.hid htx
          have HVL : Hid ((Wire.ba v).size ≤ 1000000000) := show _ ≤ _ by rw [Wire.ba_size]; omega
          have HXL : Hid ((Wire.ba x).size ≤ 10000000) := show _ ≤ _ by rw [Wire.ba_size]; omega
          clear htx hnx hti
          have hvsz : (Wire.ba v).size = v.length := Wire.ba_size v
          by_cases hv : 20000 < v.length
          · have HE : Hid (jrecs (bts s) = a) := show _ = _ by rw [HS.out.2, jrecs_none (step_bad3 HTX.out HQ.out (fun hh => absurd hh.1 (by omega))), List.append_nil]
            go_wp2_with fail
            refine (Wire.qleft_any _ (ba t) false _ hrd).mono ?_
            rintro e w2 ⟨rfl, rfl⟩
            go_wp2_with fail
            refine (Wire.qtext_some _ (ba t) _ hrd HT.out v x HP.out).mono ?_
            rintro e w2 ⟨rfl, hr2, hk2⟩
            go_wp2_with fail
            refine (Wire.qnum_some _ (Wire.ba x) false _ hr2 HXL.out n r HQ.out).mono ?_
            rintro e w3 ⟨rfl, hr3, hk3⟩
            have q1 := hr3.cell1
            go_wp2_with fail
            go_ret
            exact ⟨_, rfl, by rw [HE.out]; exact own_low ((hown.keep hk2 (by omega)).keep hk3 (by omega)) (Nat.le_succ _), Keep.below (Keep.below hbr (Nat.le_refl _) (Nat.le_refl _) hk2) (Nat.le_refl _) (Nat.le_refl _) hk3⟩
          · obtain ⟨js, hjs⟩ : ∃ js, js = jsum v := ⟨_, rfl⟩
            have hjl : js < 2147483647 := by rw [hjs]; exact jsum_lt v
            by_cases hn : n = js
            · have HST : Hid (step t = some (v, r)) := show _ = _ from step_good HTX.out HQ.out ⟨by omega, by rw [hn, hjs]⟩
              have HJS := Lib.hid hjs
              have hnb : ((n : Int) == (js : Int)) = true := by rw [hn]; simp
              have hnb' : ((n : Int) != (js : Int)) = false := by rw [hn]; simp
              clear hjs hn
              go_wp2_with fail
              refine (Wire.qleft_any _ (ba t) false _ hrd).mono ?_
              rintro e w2 ⟨rfl, rfl⟩
              go_wp2_with fail
              refine (Wire.qtext_some _ (ba t) _ hrd HT.out v x HP.out).mono ?_
              rintro e w2 ⟨rfl, hr2, hk2⟩
              go_wp2_with fail
              refine (Wire.qnum_some _ (Wire.ba x) false _ hr2 HXL.out n r HQ.out).mono ?_
              rintro e w3 ⟨rfl, hr3, hk3⟩
              have q1 := hr3.cell1
              have hown3 := (hown.keep hk2 (by omega)).keep hk3 (by omega)
              have hbel3 := Keep.below (Keep.below hbr (Nat.le_refl _) (Nat.le_refl _) hk2) (Nat.le_refl _) (Nat.le_refl _) hk3
              have hw3 := hr3.lt
              go_wp2_with fail
              refine (rsum_any (Wire.ba v) _ HVL.out).mono ?_
              rintro e w4 ⟨rfl, rfl⟩
              rw [show jsum (bts (Wire.ba v)) = js from HJS.out.symm]
              have hal2 : a.length ≤ 9000000 := by omega
              go_wp2_with (at_builtin; refine app1s rfl (.tmp 32) (.tmp 34) rfl (w.heap.size + 1) (.slice RA a.length rc) a v rfl hown3 rfl (by omega) (by omega) ?_; intro v4 w4 hown4 hg4; have H4 := Lib.hid (And.intro hown4 hg4); clear hown4 hg4)
              have hsl := own_len H4.out.1
              refine ⟨⟨a ++ [v], r, H4.out.1, hsl, rq_below H4.out.2 (Nat.lt_succ_self _) hr3, Keep.below2 hbel3 H4.out.2, recs_more HS.out HST.out⟩, ?_⟩
              rw [hsl, List.length_append]
              show s.size - (a.length + 1) < s.size - a.length
              omega
            · have HE : Hid (jrecs (bts s) = a) := show _ = _ by rw [HS.out.2, jrecs_none (step_bad3 HTX.out HQ.out (fun hh => hn (by rw [hh.2, hjs]))), List.append_nil]
              have HJS := Lib.hid hjs
              have hnb : ((n : Int) == (js : Int)) = false := beq_eq_false_iff_ne.2 (by omega)
              have hnb' : ((n : Int) != (js : Int)) = true := bne_iff_ne.2 (by omega)
              clear hjs
              go_wp2_with fail
              refine (Wire.qleft_any _ (ba t) false _ hrd).mono ?_
              rintro e w2 ⟨rfl, rfl⟩
              go_wp2_with fail
              refine (Wire.qtext_some _ (ba t) _ hrd HT.out v x HP.out).mono ?_
              rintro e w2 ⟨rfl, hr2, hk2⟩
              go_wp2_with fail
              refine (Wire.qnum_some _ (Wire.ba x) false _ hr2 HXL.out n r HQ.out).mono ?_
              rintro e w3 ⟨rfl, hr3, hk3⟩
              have q1 := hr3.cell1
              have hown3 := (hown.keep hk2 (by omega)).keep hk3 (by omega)
              have hbel3 := Keep.below (Keep.below hbr (Nat.le_refl _) (Nat.le_refl _) hk2) (Nat.le_refl _) (Nat.le_refl _) hk3
              go_wp2_with fail
              refine (rsum_any (Wire.ba v) _ HVL.out).mono ?_
              rintro e w4 ⟨rfl, rfl⟩
              rw [show jsum (bts (Wire.ba v)) = js from HJS.out.symm]
              go_wp2_with fail
              go_ret
              exact ⟨_, rfl, by rw [HE.out]; exact own_low hown3 (Nat.le_succ _), hbel3⟩

end Go.Proofs.Ytgocnjiabfmdpaa
