/- Walk of JournalReads. -/
import Derived.Test.YtgocnjiabfmdpaaKa
import Derived.Deep.CutBlock
import Derived.Deep.DeepCutAuto
namespace Go.Proofs.Ytgocnjiabfmdpaa
set_option maxRecDepth 8000
open Go.RowKit Wire

theorem calm_write_new {t : List UInt8} {f : Int} (hf : isFile f = true) (ht : t.length ≤ 1000000) : ∃ s', St.new.write f 0 t = (s', 0) ∧ Calm s' ∧ s'.now f = t := by
  obtain ⟨s', h1, h2, h3, _⟩ := Calm.new.write hf (a := 0) (t := t) (by omega)
  refine ⟨s', h1, h2, ?_⟩
  rw [h3]
  split
  · rename_i h; subst h; rfl
  · show putL [] 0 t = t
    unfold putL
    simp

theorem calm_read {s : St} (h : Calm s) {f : Int} (hf : isFile f = true) : s.size f = ((s.now f).length : Nat) ∧ s.read f 0 ((s.now f).length : Nat) = (s.now f, 0) := by
  unfold St.size St.read part
  rw [if_pos hf, if_neg (by rw [h.ready hf]; simp), if_neg (by omega)]
  simp

theorem Inv.jopen {s : St} (h : Inv s) (f : Int) : Inv (jopen s f).1.1 := by
  unfold Go.Proofs.Ytgocnjiabfmdpaa.jopen
  split
  · exact h
  · split
    · exact h.sync f
    · split
      · split
        · exact (h.sync f).trunc _ _
        · exact (h.sync f).trunc _ _
      · exact h.sync f

/-- A slice of strings whose array is nobody's. -/
def FreeS (L : Lab) (w : World) (v : Value) (l : List (List UInt8)) : Prop := OwnS w 0 v l ∧ ∀ g, v.ownBlock = some g → L g = none

theorem OwnS.free {L : Lab} {w w1 : World} {B : Nat} {v : Value} {l : List (List UInt8)} (h : OwnS w1 B v l) (hL : Fresh L w) (hB : w.heap.size ≤ B) : FreeS L w1 v l := by
  refine ⟨⟨h.1, ?_⟩, fun g hg => hL g (Nat.le_trans hB (World.ownsRow.lt h g hg).1)⟩
  rcases h.2 with h | ⟨g, cap, cur, e1, _, r⟩
  · exact .inl h
  · exact .inr ⟨g, cap, cur, e1, Nat.zero_le _, r⟩

theorem FreeS.keep {M : Nat × Role → Prop} {L L1 : Lab} {w w1 : World} {v : Value} {l : List (List UInt8)} (h : FreeS L w v l) (hf : Fr M L w L1 w1) : FreeS L1 w1 v l :=
  ⟨ownsRow_of_blocks h.1 (fun g hg => hf.block g (World.ownsRow.lt h.1 g hg).2 (fun t ht => by rw [h.2 g hg] at ht; cases ht)),
   fun g hg => (hf.lab g (World.ownsRow.lt h.1 g hg).2).trans (h.2 g hg)⟩

theorem FreeS.at {L : Lab} {w : World} {v : Value} {l : List (List UInt8)} (h : FreeS L w v l) : ∃ a cap, v = .slice a (l.map ba).length cap ∧ Wire.StrsAt w.heap.size w a (l.map ba) := h.1.at

theorem FreeS.len {L : Lab} {w : World} {v : Value} {l : List (List UInt8)} (h : FreeS L w v l) : ∃ a cap, v = .slice a l.length cap := by
  obtain ⟨a, c, e, _⟩ := h.at
  rw [List.length_map] at e
  exact ⟨a, c, e⟩

/-- SameTexts of two slices of strings. -/
theorem sameL_any {L L' : Lab} {w : World} {v v' : Value} {l l' : List (List UInt8)} (h : FreeS L w v l) (h' : FreeS L' w v' l') (hl : l.length ≤ 1000000000) (hl' : l'.length ≤ 1000000000) :
    Calls Try.prog 41 #[v, v'] w fun e w' => e = .returned (.bool (decide (l = l'))) ∧ Below w.heap.size w w' := by
  obtain ⟨a, c, rfl, h1⟩ := h.at
  obtain ⟨a', c', rfl, h2⟩ := h'.at
  refine (Wire.sameTexts_any a a' (l.map ba) (l'.map ba) c c' w h1 h2 (by rw [List.length_map]; omega) (by rw [List.length_map]; omega)).mono ?_
  rintro e w1 ⟨rfl, hb⟩
  refine ⟨?_, hb⟩
  have hinj : ∀ x y : List UInt8, ba x = ba y → x = y := fun x y hxy => by
    have := congrArg (fun z : ByteArray => z.data.toList) hxy
    simpa [ba] using this
  have e : (l.map ba = l'.map ba) ↔ (l = l') := ⟨fun e => (List.map_inj_right hinj).1 e, fun e => by rw [e]⟩
  rw [decide_eq_decide.2 e]

theorem ext_take {s : ByteArray} {a t : List UInt8} (h : bts s = a ++ t) (k : Nat) : (s.extract a.length (a.length + k)).toList = t.take k := by
  rw [ByteArray.toList_eq, Go.Lib.extract_data]
  have : s.data.toList = a ++ t := h
  rw [this, List.drop_left]
  congr 1
  omega

theorem OwnS.below {w w1 : World} {B : Nat} {v : Value} {l : List (List UInt8)} (h : OwnS w B v l) (hb : Below w.heap.size w w1) : OwnS w1 B v l := by
  refine ⟨h.1, ?_⟩
  rcases h.2 with hn | ⟨g, cap, cur, rfl, hbg, hg, rest⟩
  · exact .inl hn
  · exact .inr ⟨g, cap, cur, rfl, hbg, (hb.block g (Array.getElem?_eq_some_iff.1 hg).1).trans hg, rest⟩

set_option maxRecDepth 100000 in
set_option maxHeartbeats 8000000 in
theorem jreads_any (s : ByteArray) (w : World) : Calls Try.prog 7 #[.string s] w (LawPost w) := by
  by_cases h300 : 300 < s.size
  · go_enter Try.func7, Try.ntmps7
    go_wp2_with fail
    refine (small3_any (L := L0)).mono ?_
    rintro e w1 ⟨rfl, L1, f1⟩
    go_wp2_with fail
    go_ret
    exact law_head f1
  obtain ⟨sa, hw, hcalm, hnow⟩ := calm_write_new (t := bts s) (f := 7) (by rfl) (by rw [Wire.bts_len]; omega)
  obtain ⟨sb, ho, hcb, hnb, _⟩ := calm_open hcalm (f := 7) (by rfl)
  rw [hnow] at ho hnb
  obtain ⟨sc, ho2, hcc, hnc, _⟩ := calm_open hcb (f := 7) (by rfl)
  rw [hnb, recs_again] at ho2 hnc
  have hia : Inv sa := by have := Inv.new.write 7 0 (bts s); rw [hw] at this; exact this
  have hsp := recs_len (bts s)
  rw [Wire.bts_len] at hsp
  have hcount := jforms_count (jrecs (bts s))
  obtain ⟨R, hR⟩ : ∃ R, R = jrecs (bts s) := ⟨_, rfl⟩
  rw [← hR] at ho hnb ho2 hnc hsp hcount
  have H := Lib.hid (And.intro hw (And.intro hcalm (And.intro ho (And.intro hcb (And.intro hnb (And.intro ho2 (And.intro hcc (And.intro hnc (And.intro hia hR)))))))))
  clear hw hcalm ho hcb hnb ho2 hcc hnc hia hR hnow
  have hRl : R.length ≤ 300 := by omega
  have HSP := Lib.hid hsp
  clear hsp
  go_enter Try.func7, Try.ntmps7
  go_wp2_with fail
  refine (small3_any (L := L0)).mono ?_
  rintro e w1 ⟨rfl, L1, f1⟩
  go_wp2_with fail
  refine (New_any (L := L1) 0).mono ?_
  rintro e w2 ⟨d, L2, rfl, d2, f2⟩
  go_wp2_with fail
  refine (write_as 7 0 s H.out.1 f2.fresh d2 Inv.new (by omega) (by omega) (by omega)).mono ?_
  rintro e w3 ⟨rfl, L3, d3, f3⟩
  go_wp2_with fail
  refine (jopen_as 1 7 H.out.2.2.1 (by decide) f3.fresh d3 H.out.2.2.2.2.2.2.2.2.1 (by omega)).mono ?_
  rintro e w4 ⟨L4, d4, f4, ⟨h, _⟩ | ⟨a, j, ha, rfl, j4⟩⟩
  · cases h
  injection ha with ha
  subst ha
  change DAt L4 w4 0 d sb at d4
  go_wp2_with fail
  refine (jall_any j4 (by omega)).mono ?_
  rintro e w5 ⟨gv, rfl, hgot, hb5⟩
  have f5 : Fr (fun _ => False) L4 w4 L4 w5 := Fr.below f4.fresh hb5
  have d5 := d4.keep f4.fresh f5 (fun _ hh => hh)
  have g5 := (((f1.trans (f2.mono mt)).trans (f3.mono mt)).trans (f4.mono mt)).trans (f5.mono (M' := MT) mt)
  clear j4 d2 d3 d4
  go_wp2_with fail
  refine (Wire.open_any s _).mono ?_
  rintro e w6 ⟨rfl, hr6, hb6⟩
  go_upto_block 0 with fail
  go_cut [9, 10] (fun v n wx => OwnS wx (w5.heap.size + 1) v R ∧ n = .int .i64 ((jforms R).length : Nat) ∧ Below w5.heap.size w5 wx)
  case first =>
    go_wp2_with fail
    go_loopw [9, 10] (fun v n wr => ∃ (a : List (List UInt8)) (t : List UInt8), OwnS wr (w5.heap.size + 1) v a ∧ n = .int .i64 ((jforms a).length : Nat) ∧ Wire.Rd wr w5.heap.size (ba t) false ∧ Below w5.heap.size w5 wr ∧ Hid (bts s = jforms a ++ t ∧ jrecs (bts s) = a ++ jrecs t)) (fun _ n _ => s.size - (intOf n).toNat)
    case atStart => exact ⟨[], bts s, OwnS.nil _ _, rfl, by rw [← wba, Wire.ba_bts]; exact hr6, hb6, show _ ∧ _ from ⟨rfl, rfl⟩⟩
    case round =>
      obtain ⟨a, t, hown, rfl, hrd, hbr, HS⟩ := hrel
      have hroom := recs_room HS.out.1
      rw [Wire.bts_len] at hroom
      have hts : (Wire.ba t).size = t.length := Wire.ba_size t
      have hlt := hrd.lt
      have hcnt := jforms_count a
      have hend : Hid (step t = none → R = a) := show _ → _ from fun h => by
        rw [H.out.2.2.2.2.2.2.2.2.2, HS.out.2, jrecs_none h, List.append_nil]
      go_wp2_with fail
      refine (Wire.left_any _ (ba t) false _ hrd).mono ?_
      rintro e w7 ⟨rfl, rfl⟩
      rw [show (ba t).size = t.length from hts]
      by_cases ht0 : 0 < t.length
      · have cT := fun w => rdT_any w5.heap.size t false w
        have hTl := rdT_len t
        obtain ⟨q, hq⟩ : ∃ q, q = rdT t := ⟨_, rfl⟩
        rw [← hq] at cT hTl
        obtain ⟨v, x, fx⟩ := q
        simp only at cT hTl
        have cN := fun f w => rdN_any w5.heap.size x f w
        have hNl := rdN_le x
        obtain ⟨p, hp⟩ : ∃ p, p = rdN x := ⟨_, rfl⟩
        rw [← hp] at cN hNl
        obtain ⟨n, r, fr⟩ := p
        simp only at cN hNl
        have h1 : (Wire.ba (Wire.encStr (ba v))).size ≤ 1000022 := by rw [Wire.ba_size]; exact Wire.encStr_len (by rw [ba_size]; omega)
        have h2 : (Wire.ba (encInt (n : Int))).size ≤ 22 := by rw [Wire.ba_size]; exact Wire.encInt_len (by unfold Wire.isI64; omega)
        obtain ⟨F, hF⟩ : ∃ F, F = Wire.encStr (ba v) ++ encInt (n : Int) := ⟨_, rfl⟩
        have hFb : Wire.ba (Wire.encStr (ba v)) ++ Wire.ba (encInt (n : Int)) = ba F := by rw [hF, Wire.ba_append]; rfl
        have hFs : (ba F).size = F.length := ba_size F
        have hFl : F.length ≤ 1000044 := by
          have := congrArg ByteArray.size hFb
          rw [ByteArray.size_append, hFs] at this
          omega
        have hvs : (ba v).size ≤ 1000000 := by rw [ba_size]; omega
        have hI : Wire.isI64 (n : Int) := by unfold Wire.isI64; omega
        have HX := Lib.hid (And.intro hq (And.intro hp (And.intro cT (And.intro cN (And.intro hF (And.intro hFb (And.intro hI hvs)))))))
        clear hq hp cT cN hF hFb hI hvs
        have hnone : Hid (¬ (n = jsum v ∧ t.take F.length = F) → step t = none) := show _ → _ from fun h => rd_break (v := v) (n := n) (by rw [← HX.out.1]) (by rw [← HX.out.1]; show n = (rdN x).1; rw [← HX.out.2.1]) F HX.out.2.2.2.2.1 h
        go_wp2_with fail
        refine (HX.out.2.2.1 _ hrd (by omega)).mono ?_
        rintro e w8 ⟨rfl, hr8, hk8⟩
        go_wp2_with fail
        refine (HX.out.2.2.2.1 _ _ hr8 (by omega)).mono ?_
        rintro e w9 ⟨rfl, hr9, hk9⟩
        have hown9 := (hown.keep hk8 (by omega)).keep hk9 (by omega)
        have hb9 := Keep.below (Keep.below hbr (Nat.le_refl _) (Nat.le_refl _) hk8) (Nat.le_refl _) (Nat.le_refl _) hk9
        go_wp2_with fail
        refine (Wire.wText_any (ba v) _ (by have := HX.out.2.2.2.2.2.2.2; omega)).mono ?_
        rintro e w10 ⟨rfl, hb10⟩
        go_wp2_with fail
        refine (Wire.wNum_pos (n : Int) _ HX.out.2.2.2.2.2.2.1 (by omega)).mono ?_
        rintro e w11 ⟨rfl, hb11⟩
        have hb911 : Below w9.heap.size w9 w11 := hb10.trans (hb11.mono hb10.size)
        have hlt9 := hr9.lt
        have hs911 := hb911.size
        have hr11 := Keep.rdb hb911 hlt9 hr9
        have hown11 := hown9.below hb911
        have hb11' := hb9.trans (hb911.mono hb9.size)
        go_wp2_with fail
        refine (sum_any (ba v) _ (by have := HX.out.2.2.2.2.2.2.2; omega)).mono ?_
        rintro e w12 ⟨rfl, rfl⟩
        rw [show jsum (bts (ba v)) = jsum v from rfl, HX.out.2.2.2.2.2.1]
        by_cases hn : n = jsum v
        · have hb : ((n : Int) != (jsum v : Int)) = false := by rw [hn]; simp
          have HN := Lib.hid hn
          clear hn
          by_cases hfit : s.size < (jforms a).length + F.length
          · have hE := hend.out (hnone.out (fun hh => by have := congrArg List.length hh.2; rw [List.length_take] at this; omega))
            go_wp2_with fail
            go_meet
            exact ⟨by rw [hE]; exact hown11, by rw [hE], hb11'⟩
          · have hx : (s.extract (jforms a).length ((jforms a).length + F.length)).toList = t.take F.length := ext_take HS.out.1 _
            by_cases ht : t.take F.length = F
            · have hst := rd_more n v F HX.out.2.2.2.2.1 HN.out ht (by omega)
              obtain ⟨e1, e2, e3, e4⟩ := rd_step hst
              rw [← HX.out.1] at e2 e3 e4
              simp only at e2 e3 e4
              rw [← HX.out.2.1] at e3 e4
              simp only at e3 e4
              have hlenr : r.length = t.length - F.length := by rw [e3, List.length_drop]
              have hFpos : 0 < F.length := by
                have := jform_num v n HN.out
                rw [← HX.out.2.2.2.2.1] at this
                rw [this]
                have := jform_len v
                omega
              rw [e4] at hr11
              have hFj : F = jform v := by rw [HX.out.2.2.2.2.1, jform_num v n HN.out]
              have hfl2 : ((jforms a).length : Int) + (F.length : Int) = ((jforms (a ++ [v])).length : Nat) := by rw [jforms_snoc, List.length_append, hFj]; rfl
              have HM : Hid (bts s = jforms (a ++ [v]) ++ r ∧ jrecs (bts s) = (a ++ [v]) ++ jrecs r) := by
                have := recs_more HS.out hst
                rw [← e3] at this
                exact this
              have HL := Lib.hid hfl2
              have hbe : ((s.extract (jforms a).length ((jforms a).length + F.length)).toList == (ba F).toList) = true := by rw [hx, ht, ba_list]; simp
              clear hx ht e1 e2 e3 e4 hFj hfl2 hst
              go_wp2_with (first
                | (at_builtin; refine app1s rfl (.tmp 84) (.tmp 86) rfl (w5.heap.size + 1) _ a v rfl hown11 rfl (by omega) (by omega) ?_; intro v4 w12 hown12 hb12; have hr12 := Keep.rdb hb12 (Nat.lt_succ_self _) hr11))
              go_roundw
              case rel => exact ⟨a ++ [v], r, hown12, congrArg (Value.int .i64) HL.out, hr12, Keep.below2 hb11' hb12, HM⟩
              case measure => simp [intOf]; omega
            · have hE := hend.out (hnone.out (fun hh => ht hh.2))
              have hbe : ((s.extract (jforms a).length ((jforms a).length + F.length)).toList == (ba F).toList) = false := by rw [hx, ba_list]; simpa using ht
              clear hx ht
              go_wp2_with fail
              go_meet
              exact ⟨by rw [hE]; exact hown11, by rw [hE], hb11'⟩
        · have hb : ((n : Int) != (jsum v : Int)) = true := by rw [bne_iff_ne]; omega
          have hE := hend.out (hnone.out (fun hh => hn hh.1))
          clear hn
          go_wp2_with fail
          go_meet
          exact ⟨by rw [hE]; exact hown11, by rw [hE], hb11'⟩
      · have hE := hend.out (by
          have : t = [] := List.eq_nil_of_length_eq_zero (by omega)
          subst this; exact step_nil)
        go_wp2_with fail
        go_meet
        exact ⟨by rw [hE]; exact hown, by rw [hE], hbr⟩
  case rest =>
    obtain ⟨hwant, rfl, hbc⟩ := hcut
    have fc : Fr (fun _ => False) L4 w5 L4 wc := Fr.below f5.fresh hbc
    have dc := d5.keep f5.fresh fc (fun _ hh => hh)
    have hg5 := hgot.free f4.fresh (Nat.le_refl _)
    have hgc := hg5.keep fc
    have hwc := hwant.free f5.fresh (Nat.le_succ _)
    have hx : (s.extract 0 (jforms R).length).toList = jforms R := by
      have := ext_take (s := s) (a := []) (t := bts s) rfl (jforms R).length
      rw [List.length_nil, Nat.zero_add] at this
      rw [this, H.out.2.2.2.2.2.2.2.2.2]
      exact recs_take (bts s)
    have hrl : (jforms R).length ≤ s.size := by have := HSP.out; omega
    obtain ⟨X, hX⟩ : ∃ X, X = jforms R := ⟨_, rfl⟩
    rw [← hX] at hx hrl
    have hbe1 : ((ba X).toList == (s.extract 0 X.length).toList) = true := by rw [hx, ba_list]; simp
    have HXX := Lib.hid (And.intro hX hx)
    have crs := calm_read H.out.2.2.2.1 (f := 7) (by rfl)
    have crt := calm_read H.out.2.2.2.2.2.2.1 (f := 7) (by rfl)
    rw [H.out.2.2.2.2.1, ← hX] at crs
    rw [H.out.2.2.2.2.2.2.2.1, ← hX] at crt
    have HC := Lib.hid (And.intro crs crt)
    rw [← hX]
    clear hX hx crs crt hwant hgot
    go_wp2_with fail
    refine (size_as 7 HC.out.1.1 (by omega) dc).mono ?_
    rintro e w7 ⟨rfl, rfl⟩
    go_wp2_with fail
    refine (read_as 7 0 (X.length : Nat) HC.out.1.2 (by omega) dc).mono ?_
    rintro e w7 ⟨rfl, rfl⟩
    go_wp2_with fail
    refine (jopen_as 2 7 H.out.2.2.2.2.2.1 (by decide) fc.fresh dc (by
      have := H.out.2.2.2.2.2.2.2.2.1.jopen 7
      rw [H.out.2.2.1] at this
      exact this) (by omega)).mono ?_
    rintro e w8 ⟨L8, d8, f8, ⟨h, _⟩ | ⟨a, j8, ha, rfl, jj8⟩⟩
    · cases h
    injection ha with ha
    subst ha
    change DAt L8 w8 0 d sc at d8
    have hg8 := hgc.keep f8
    have hw8 := hwc.keep f8
    have hzz : (!(ba X).toList == (ba X).toList) = false := by simp
    have hz1 : ((ba X).toList == (ba X).toList) = true := by simp
    go_wp2_with fail
    refine (size_as 7 HC.out.2.1 (by omega) d8).mono ?_
    rintro e w9 ⟨rfl, rfl⟩
    go_wp2_with fail
    refine (read_as 7 0 (X.length : Nat) HC.out.2.2 (by omega) d8).mono ?_
    rintro e w9 ⟨rfl, rfl⟩
    obtain ⟨gA, gc, rfl⟩ := hg8.len
    obtain ⟨wA, wcp, rfl⟩ := hw8.len
    go_wp2_with fail
    refine (sameL_any hg8 hw8 (by omega) (by omega)).mono ?_
    rintro e w9 ⟨rfl, hb9⟩
    rw [decide_eq_true rfl]
    have f9 : Fr (fun _ => False) L8 w8 L8 w9 := Fr.below f8.fresh hb9
    have jj9 := jj8.keep f8.fresh f9 (fun _ hh => hh)
    have hw9 := hw8.keep f9
    go_wp2_with fail
    refine (jall_any jj9 (by omega)).mono ?_
    rintro e w10 ⟨v10, rfl, hown10, hb10⟩
    have f10 : Fr (fun _ => False) L8 w9 L8 w10 := Fr.below f9.fresh hb10
    have hv10 := hown10.free f9.fresh (Nat.le_refl _)
    have hw10 := hw9.keep f10
    obtain ⟨vA, vc, rfl⟩ := hv10.len
    go_wp2_with fail
    refine (sameL_any hv10 hw10 (by omega) (by omega)).mono ?_
    rintro e w11 ⟨rfl, hb11⟩
    rw [decide_eq_true rfl]
    have f11 : Fr (fun _ => False) L8 w10 L8 w11 := Fr.below f10.fresh hb11
    go_wp2_with fail
    go_ret
    exact law_head (((((g5.trans (fc.mono mt)).trans (f8.mono mt)).trans (f9.mono mt)).trans (f10.mono mt)).trans (f11.mono mt))

end Go.Proofs.Ytgocnjiabfmdpaa
