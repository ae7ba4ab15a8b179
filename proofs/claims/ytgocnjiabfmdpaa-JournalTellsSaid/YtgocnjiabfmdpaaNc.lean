/- Walk of JournalStays. -/
import Derived.Test.YtgocnjiabfmdpaaNb
import Derived.Deep.CutBlock
import Derived.Deep.DeepCutAuto
namespace Go.Proofs.Ytgocnjiabfmdpaa
set_option maxRecDepth 8000
open Go.RowKit Wire

/-- A journal, or nil, as it lies in memory. -/
def JV (L : Lab) (w : World) (d : Nat) (f : Int) (v : Value) : Option (Recs × Bool) → Prop
  | none => v = .pointer none
  | some (a, b) => ∃ j, v = .pointer (some ⟨j, 0, none⟩) ∧ JAt L w 1 j d f a b

theorem JV.keep {M : Nat × Role → Prop} {L L1 : Lab} {w w1 : World} {d : Nat} {f : Int} {v : Value} {o : Option (Recs × Bool)} (h : JV L w d f v o) (hL : Fresh L w) (hf : Fr M L w L1 w1) (hm : ∀ r, ¬ M (1, r)) : JV L1 w1 d f v o := by
  match o, h with
  | none, h => exact h
  | some (a, b), ⟨j, h1, h2⟩ => exact ⟨j, h1, h2.keep hL hf hm⟩

theorem opost_jv {L : Lab} {w w' : World} {d : Nat} {f : Int} {s : St} {o : Option Recs} {e : Int} {x : Ending} (h : OPost L w 0 1 d f ((s, o), e) x w') : ∃ L' v, x = .returned (.tuple #[v, .int .i64 e]) ∧ DAt L' w' 0 d s ∧ Fr (MA 0) L w L' w' ∧ JV L' w' d f v (o.map fun a => (a, false)) := by
  obtain ⟨L', d1, f1, ⟨h1, h2⟩ | ⟨a, j, h1, h2, h3⟩⟩ := h
  · simp only at h1
    subst h1
    exact ⟨L', _, h2, d1, f1, rfl⟩
  · simp only at h1
    subst h1
    exact ⟨L', _, h2, d1, f1, j, rfl, h3⟩

theorem jsync_as {L : Lab} {w : World} {k kj j d : Nat} {s : St} {a : List (List UInt8)} {bad : Bool} {r : (St × Bool) × Int} (f : Int) (hr : jsync s f bad = r) (hk : k ≠ kj) (hL : Fresh L w) (hd : DAt L w k d s) (hj : JAt L w kj j d f a bad) (hi : Inv s) (hf : 0 ≤ f ∧ f ≤ 100000000) :
    Calls Try.prog 31 #[.pointer (some ⟨j, 0, none⟩)] w (JPost L w k kj j d f ((r.1.1, a, r.1.2), r.2)) := by
  subst hr
  exact jsync_any f hk hL hd hj hi (isI64_small hf)

theorem sameW_any {w : World} {B B' : Nat} {v v' : Value} {l l' : Recs} (h : OwnS w B v l) (h' : OwnS w B' v' l') (hl : l.length ≤ 1000000000) (hl' : l'.length ≤ 1000000000) :
    Calls Try.prog 41 #[v, v'] w fun e w' => e = .returned (.bool (decide (l = l'))) ∧ Below w.heap.size w w' := by
  obtain ⟨a, c, rfl, h1⟩ := h.at
  obtain ⟨a', c', rfl, h2⟩ := h'.at
  refine (Wire.sameTexts_any a a' (l.map ba) (l'.map ba) c c' w h1 h2 (by rw [List.length_map]; omega) (by rw [List.length_map]; omega)).mono ?_
  rintro e w1 ⟨rfl, hb⟩
  refine ⟨?_, hb⟩
  have hinj : ∀ x y : List UInt8, ba x = ba y → x = y := fun x y hxy => by
    have := congrArg (fun z : ByteArray => z.data.toList) hxy
    simpa [ba] using this
  have e : (l.map ba = l'.map ba) ↔ (l = l') := ⟨fun e => (List.map_inj_right hinj).1 e, fun e => by rw [e]⟩
  rw [decide_eq_decide.2 e]

theorem OwnS.len {w : World} {B : Nat} {v : Value} {l : Recs} (h : OwnS w B v l) : ∃ a cap, v = .slice a l.length cap := by
  obtain ⟨a, c, e, _⟩ := h.at
  rw [List.length_map] at e
  exact ⟨a, c, e⟩

theorem JInv.opened2 {s : St} {f : Int} {n : Nat} {sure all : Recs} {o : Option (Recs × Bool)} (h : JInv s f n sure all o) (hd : s.down = false) (hf : isFile f = true) :
    ∃ s' oa e sure' all', jopen s f = ((s', oa), e) ∧ JInv s' f n sure' all' (oa.map fun a => (a, false)) ∧ (Up s → Up s') := by
  rcases h.opened hd hf with ⟨s', a, a1, a2, _, _, a3⟩ | ⟨s', e, a1, _, a2, a3, _⟩
  · exact ⟨s', some a, 0, a, a, a1, a2, a3⟩
  · exact ⟨s', none, e, sure, all, a1, a2, a3⟩

/-- A file that is all sure has just these records. -/
theorem held_all {s : St} {f : Int} {a : Recs} (h : Held s f a a) : s.now f = jforms a := by
  have h1 := h.under.len
  have h2 := take_len h.pre
  have h3 := h.pre
  rw [List.take_of_length_le (by omega)] at h3
  exact h3

theorem calm_again {s : St} {n : Nat} {a : Recs} {o : Option (Recs × Bool)} (h : JInv s 0 n a a o) (hc : Calm s) (keep : List Int) :
    ∃ s', jopen (s.crash keep).start 0 = ((s', some a), 0) ∧ JInv s' 0 n a a (some (a, false)) ∧ Calm s' ∧ Inv (s.crash keep) ∧ Inv (s.crash keep).start := by
  have h1 := (h.crash keep).start
  have hc1 : Calm (s.crash keep).start := by
    refine ⟨rfl, ?_, ?_⟩
    · show (s.crash keep).armed = 0
      unfold St.crash
      split
      · exact hc.armed
      · rfl
    · show (s.crash keep).lost = 0
      unfold St.crash
      split
      · exact hc.lost
      · show (s.setls _).lost = 0
        rw [(setls_rest s _).2.2.2.2.1]; exact hc.lost
  obtain ⟨s', o1, o2, o3, o4, _⟩ := calm_open2 hc1 (f := 0) (by rfl)
  have hn := held_all h1.held
  have hj : jrecs ((s.crash keep).start.now 0) = a := by rw [hn]; exact jrecs_all (fun v hv => by have := h.recs v hv; omega)
  rw [hj] at o1 o3
  have hi : Inv s' := by have := h1.inv.jopen 0; rw [o1] at this; exact this
  exact ⟨s', o1, ⟨hi, Held.exact o3 (o4.trans o3), h.cnt, h.recs, o2.up, o3, rfl⟩, o2, (h.crash keep).inv, h1.inv⟩

theorem jstart (f : Int) (hf : isFile f = true) : ∃ s' oa e sure' all', jopen St.new f = ((s', oa), e) ∧ JInv s' f 0 sure' all' (oa.map fun a => (a, false)) ∧ Up s' := by
  obtain ⟨s', oa, e, su, al, h1, h2, h3⟩ := (JInv.new f).opened2 rfl hf
  exact ⟨s', oa, e, su, al, h1, h2, h3 ⟨rfl, rfl⟩⟩

theorem sl_snoc {L : Lab} {w : World} {v : Value} {a : Recs} {XS : List Value} {z : ByteArray} {r : Nat × Role} (hX : XS = a.map strV) (h : Sl L w 9 1 v (XS.length + 1) (XS ++ [.string z]) r) : Sl L w 9 1 v (a ++ [bts z]).length ((a ++ [bts z]).map strV) r := by
  have e : (a ++ [bts z]).map strV = XS ++ [.string z] := by
    rw [List.map_append, hX]
    rfl
  have e2 : (a ++ [bts z]).length = XS.length + 1 := by rw [List.length_append, hX, List.length_map]; rfl
  rw [e, e2]
  exact h

set_option maxRecDepth 100000 in
set_option maxHeartbeats 8000000 in
theorem jstays_any {w : World} {v tv k1 k2 : Value} {l : List Op3} {T : List ByteArray} {one two : List Int} (hO : OpsAt L0 w v l) (hT : ArgT L0 w tv T) (h1 : ArgI L0 w k1 one) (h2 : ArgI L0 w k2 two) :
    Calls Try.prog 6 #[v, tv, k1, k2] w (LawPost w) := by
  have HA := Lib.hid (And.intro hO (And.intro hT (And.intro h1 h2)))
  obtain ⟨K1, c1, rfl⟩ := argI_len h1
  obtain ⟨K2, c2, rfl⟩ := argI_len h2
  obtain ⟨TA, tc, rfl, htl, _, _⟩ := hT
  obtain ⟨A, c, rfl, hlen, _, _⟩ := hO
  clear h1 h2
  go_enter Try.func6, Try.ntmps6
  go_wp2_with fail
  refine (small3_any (L := L0)).mono ?_
  rintro e w1 ⟨rfl, L1, f1⟩
  go_wp2_with fail
  refine (fewO_any (HA.out.1.keep f1)).mono ?_
  rintro e w2 ⟨rfl, rfl⟩
  cases hfew : fewOB l
  · go_wp2_with fail
    go_ret
    exact law_head f1
  go_wp2_with fail
  refine (texts_any (HA.out.2.1.keep f1)).mono ?_
  rintro e w2 ⟨rfl, rfl⟩
  cases htx : textsB T
  · go_wp2_with fail
    go_ret
    exact law_head f1
  by_cases h50 : 50 < one.length
  · go_wp2_with fail
    go_ret
    exact law_head f1
  by_cases h51 : 50 < two.length
  · go_wp2_with fail
    go_ret
    exact law_head f1
  obtain ⟨hf1, hf2⟩ := fewOB_mem hfew
  obtain ⟨ht1, ht2⟩ := textsB_mem htx
  obtain ⟨s0, oa, e0, su0, al0, ho, hj0, hu0⟩ := jstart 0 (by rfl)
  have H := Lib.hid (And.intro hf1 (And.intro ht1 (And.intro ho (And.intro hj0 hu0))))
  clear hf1 ht1 ho hj0 hu0 hfew htx
  go_wp2_with fail
  refine (New_any (L := L1) 0).mono ?_
  rintro e w2 ⟨d, L2, rfl, d2, f2⟩
  go_wp2_with fail
  refine (jopen_as 1 0 H.out.2.2.1 (by decide) f2.fresh d2 Inv.new (by omega)).mono ?_
  intro e w3 hpost
  obtain ⟨L3, jv, rfl, d3, f3, j3⟩ := opost_jv hpost
  clear hpost
  have g3 := (f1.trans (f2.mono mt)).trans (f3.mono (M' := MT) mt)
  clear d2
  go_wp2_with fail
  go_loopw [11, 13] (fun jv i wr => ∃ (k : Nat) (L' : Lab) (s : St) (o : Option (Recs × Bool)), k ≤ l.length ∧ i = .int .i64 k ∧ DAt L' wr 0 d s ∧ JV L' wr d 0 jv o ∧ Fr MT L0 w L' wr ∧ Hid (∃ su al, JInv s 0 k su al o ∧ Up s)) (fun _ i _ => l.length - (intOf i).toNat)
  case atStart => exact ⟨0, L3, s0, _, Nat.zero_le _, rfl, d3, j3, g3, show ∃ su al, _ from ⟨su0, al0, H.out.2.2.2.1, H.out.2.2.2.2⟩⟩
  case round =>
    obtain ⟨k, L4, s, o, hkl, rfl, d4, j4, g4, HS⟩ := hrel
    by_cases hlt : k < l.length
    · obtain ⟨A', c', e', _, hok, hc⟩ := HA.out.1.keep g4
      injection e' with e1 _ e2
      subst e1; subst e2
      obtain ⟨b, off, rfl, hlb, hb, hc⟩ := hc (by omega)
      obtain ⟨kv, q0, q1, q2, q3, hkv⟩ := hc k hlt
      have hokk := hok _ (List.getElem_mem hlt)
      have hfit := H.out.1 _ (List.getElem_mem hlt)
      obtain ⟨x, hx⟩ : ∃ x, l[k] = x := ⟨_, rfl⟩
      rw [hx] at q0 q1 q2 hkv hokk hfit
      obtain ⟨xk, xs, xn, xkeep⟩ := x
      obtain ⟨ok1, ok2⟩ := hokk
      obtain ⟨fit1, fit2⟩ := hfit
      simp only at q0 q1 q2 hkv ok1 ok2 fit1 fit2
      obtain ⟨KA, kc, rfl⟩ := argI_len hkv
      clear hx hc hok
      have c4 : (k + 1 : Nat) ≤ l.length := hlt
      by_cases h0 : xk = 0
      · subst h0
        match o, j4, HS with
        | none, j4, HS =>
          subst j4
          go_wp2_with fail
          go_roundw
          case rel =>
            obtain ⟨su, al, i1, i2⟩ := HS.out
            exact ⟨k + 1, L4, s, none, hlt, by go_num, d4, rfl, g4, show ∃ su al, _ from ⟨su, al, i1.mono (by omega), i2⟩⟩
          case measure => simp [intOf]; omega
        | some (a, bad), j4, HS =>
          obtain ⟨j, rfl, jj⟩ := j4
          obtain ⟨s', a', b', e, hap, hbd, hin, hnx⟩ : ∃ s' a' b' e, japp s 0 a bad (bts xs) = ((s', a', b'), e) ∧ (jforms a).length ≤ 20000000 ∧ Inv s ∧ ∃ su al, JInv s' 0 (k + 1) su al (some (a', b')) ∧ Up s' := by
            obtain ⟨su, al, i1, i2⟩ := HS.out
            obtain ⟨s', a', b', e, al', r1, r2, r3, _⟩ := i1.app (by rfl) (by omega) (v := bts xs) (by rw [Wire.bts_len]; exact fit1)
            have := i1.bytes (by omega)
            exact ⟨s', a', b', e, r1, by omega, i1.inv, su, al', r2, r3 i2⟩
          have HN := Lib.hid (And.intro hap (And.intro hin hnx))
          clear hap hin hnx
          go_wp2_with fail
          refine (japp_as 0 xs HN.out.1 (by decide) g4.fresh d4 jj HN.out.2.1 (by omega) (by omega) hbd).mono ?_
          rintro e w5 ⟨rfl, L5, d5, j5, f5⟩
          go_wp2_with fail
          go_roundw
          case rel => exact ⟨k + 1, L5, s', some (a', b'), hlt, by go_num, d5, ⟨j, rfl, j5⟩, g4.trans (f5.mono mt), HN.out.2.2⟩
          case measure => simp [intOf]; omega
      have n0 : ((xk : Int) == 0) = false := by simpa using h0
      by_cases h1 : xk = 1
      · subst h1
        match o, j4, HS with
        | none, j4, HS =>
          subst j4
          go_wp2_with fail
          go_roundw
          case rel =>
            obtain ⟨su, al, i1, i2⟩ := HS.out
            exact ⟨k + 1, L4, s, none, hlt, by go_num, d4, rfl, g4, show ∃ su al, _ from ⟨su, al, i1.mono (by omega), i2⟩⟩
          case measure => simp [intOf]; omega
        | some (a, bad), j4, HS =>
          obtain ⟨j, rfl, jj⟩ := j4
          obtain ⟨s', b', e, hap, hin, hnx⟩ : ∃ s' b' e, jsync s 0 bad = ((s', b'), e) ∧ Inv s ∧ ∃ su al, JInv s' 0 (k + 1) su al (some (a, b')) ∧ Up s' := by
            obtain ⟨su, al, i1, i2⟩ := HS.out
            obtain ⟨s', b', e, su', r1, r2, r3, _⟩ := i1.syn (by rfl)
            exact ⟨s', b', e, r1, i1.inv, su', al, r2.mono (by omega), r3 i2⟩
          have HN := Lib.hid (And.intro hap (And.intro hin hnx))
          clear hap hin hnx
          go_wp2_with fail
          refine (jsync_as 0 HN.out.1 (by decide) g4.fresh d4 jj HN.out.2.1 (by omega)).mono ?_
          rintro e w5 ⟨rfl, L5, d5, j5, f5⟩
          go_wp2_with fail
          go_roundw
          case rel => exact ⟨k + 1, L5, s', some (a, b'), hlt, by go_num, d5, ⟨j, rfl, j5⟩, g4.trans (f5.mono mt), HN.out.2.2⟩
          case measure => simp [intOf]; omega
      have n1 : ((xk : Int) == 1) = false := by simpa using h1
      by_cases h2 : xk = 2
      · subst h2
        go_wp2_with fail
        refine (lose_any xn g4.fresh d4).mono ?_
        rintro e w5 ⟨rfl, d5, f5⟩
        have j5 := j4.keep g4.fresh f5 (fun r hh => by injection hh with hh _; omega)
        go_wp2_with fail
        go_roundw
        case rel =>
          obtain ⟨su, al, i1, i2⟩ := HS.out
          exact ⟨k + 1, L4, s.lose xn, o, hlt, by go_num, d5, j5, g4.trans (f5.mono mt), show ∃ su al, _ from ⟨su, al, (i1.lose (by unfold isI64 at ok2; omega)).mono (by omega), i2⟩⟩
        case measure => simp [intOf]; omega
      have n2 : ((xk : Int) == 2) = false := by simpa using h2
      by_cases h4 : xk = 4
      · subst h4
        obtain ⟨s', oa, e, hop, hin, hin2, hnx⟩ : ∃ s' oa e, jopen (s.crash xkeep).start 0 = ((s', oa), e) ∧ Inv s ∧ Inv (s.crash xkeep).start ∧ ∃ su al, JInv s' 0 (k + 1) su al (oa.map fun a => (a, false)) ∧ Up s' := by
          obtain ⟨su, al, i1, i2⟩ := HS.out
          have i3 := (i1.crash xkeep).start
          obtain ⟨s', oa, e, su', al', r1, r2, r3⟩ := i3.opened2 rfl (by rfl)
          refine ⟨s', oa, e, r1, i1.inv, i3.inv, su', al', r2.mono (by omega), r3 ⟨?_, rfl⟩⟩
          show (s.crash xkeep).armed = 0
          unfold St.crash
          split
          · exact i2.1
          · rfl
        have HN := Lib.hid (And.intro hop (And.intro hin (And.intro hin2 hnx)))
        clear hop hin hin2 hnx
        go_wp2_with fail
        refine (crash_any _ xkeep g4.fresh d4 HN.out.2.1 (hkv.kat 0)).mono ?_
        rintro e w5 ⟨rfl, L5, d5, f5⟩
        go_wp2_with fail
        refine (start_any f5.fresh d5).mono ?_
        rintro e w6 ⟨rfl, d6, f6⟩
        go_wp2_with fail
        refine (jopen_as 1 0 HN.out.1 (by decide) f6.fresh d6 HN.out.2.2.1 (by omega)).mono ?_
        intro e w7 hpost
        obtain ⟨L7, jv7, rfl, d7, f7, j7⟩ := opost_jv hpost
        clear hpost
        have g7 := ((g4.trans (f5.mono (M' := MT) mt)).trans (f6.mono (M' := MT) mt)).trans (f7.mono (M' := MT) mt)
        go_wp2_with fail
        go_roundw
        case rel => exact ⟨k + 1, L7, s', _, hlt, by go_num, d7, j7, g7, HN.out.2.2.2⟩
        case measure => simp [intOf]; omega
      have n4 : ((xk : Int) == 4) = false := by simpa using h4
      go_wp2_with fail
      go_roundw
      case rel =>
        obtain ⟨su, al, i1, i2⟩ := HS.out
        exact ⟨k + 1, L4, s, o, hlt, by go_num, d4, j4, g4, show ∃ su al, _ from ⟨su, al, i1.mono (by omega), i2⟩⟩
      case measure => simp [intOf]; omega
    · obtain rfl : k = l.length := by omega
      obtain ⟨wo, rfl⟩ : ∃ x, x = wr := ⟨_, rfl⟩
      match o, j4, HS with
      | none, j4, HS =>
        subst j4
        go_wp2_with fail
        go_ret
        exact law_head g4
      | some (a, bad), j4, HS =>
        obtain ⟨j, rfl, jj⟩ := j4
        have hal : a.length ≤ 100 ∧ l.length ≤ 25 := by
          obtain ⟨su, al, i1, i2⟩ := HS.out
          have := i1.small.1
          omega
        have hTA := HA.out.2.1.keep g4
        go_wp2_with fail
        refine (jall_any jj (by omega)).mono ?_
        rintro e w5 ⟨wv, rfl, hwv, hb5⟩
        have f5 : Fr (fun _ => False) L4 wo L4 w5 := Fr.below g4.fresh hb5
        obtain ⟨L5, f5', hs5⟩ := own_label (7, .list) f5 hwv (Nat.le_refl _)
        have d5 := d4.keep g4.fresh f5' (fun _ hh => hh)
        have jj5 := jj.keep g4.fresh f5' (fun _ hh => hh)
        have g5 := g4.trans (f5'.mono (M' := MT) mt)
        clear hwv hb5 f5 f5' jj d4 hTA
        go_wp2_with fail
        go_loopw [14, 15] (fun wv i wr => ∃ (k : Nat) (L' : Lab) (s : St) (a : Recs) (b : Bool), k ≤ T.length ∧ i = .int .i64 k ∧ Sl L' wr 9 1 wv a.length (a.map strV) (7, .list) ∧ DAt L' wr 0 d s ∧ JAt L' wr 1 j d 0 a b ∧ Fr MT L0 w L' wr ∧ Hid (∃ su al, JInv s 0 (l.length + k) su al (some (a, b)) ∧ Up s)) (fun _ i _ => T.length - (intOf i).toNat)
        case atStart => exact ⟨0, L5, s, a, bad, Nat.zero_le _, rfl, hs5, d5, jj5, g5, show ∃ su al, _ from HS.out⟩
        case round =>
          obtain ⟨k, L6, s, a, b, hkT, rfl, hs6, d6, jj6, g6, HS⟩ := hrel
          by_cases hlt : k < T.length
          · obtain ⟨A', c', e', _, _, hc⟩ := HA.out.2.1.keep g6
            injection e' with e1 _ e2
            subst e1; subst e2
            obtain ⟨tb, toff, rfl, hlb, hb, hc⟩ := hc (by omega)
            have q0 := hc k hlt
            obtain ⟨z, hz⟩ : ∃ z, T.getD k ByteArray.empty = z := ⟨_, rfl⟩
            rw [hz] at q0
            have hzs : z.size ≤ 200 := by
              have hzT : T[k] = z := by rw [← hz, List.getD_eq_getElem?_getD, List.getElem?_eq_getElem hlt]; rfl
              have := H.out.2.1 _ (List.getElem_mem hlt); rw [hzT] at this; exact this
            have hT8 : T.length ≤ 8 := ht2
            obtain ⟨s', a', b', e, hap, hbd, hin, hae, hsm, hnx⟩ : ∃ s' a' b' e, japp s 0 a b (bts z) = ((s', a', b'), e) ∧ (jforms a).length ≤ 20000000 ∧ Inv s ∧ ((e = 7 ∧ a' = a) ∨ (e = 0 ∧ a' = a ++ [bts z])) ∧ a.length ≤ 1000 ∧ ∃ su al, JInv s' 0 (l.length + (k + 1)) su al (some (a', b')) ∧ Up s' := by
              obtain ⟨su, al, i1, i2⟩ := HS.out
              obtain ⟨s', a', b', e, al', r1, r2, r3, r4⟩ := i1.app (by rfl) (by omega) (v := bts z) (by rw [Wire.bts_len]; exact hzs)
              have hbb := i1.bytes (by omega)
              have hsm := i1.small.1
              refine ⟨s', a', b', e, r1, by omega, i1.inv, ?_, by omega, su, al', r2, r3 i2⟩
              rcases r4 with ⟨x1, _, x2, _⟩ | ⟨x1, _, _, x2, _⟩ | ⟨_, _, x3, _⟩
              · exact Or.inl ⟨x1, x2⟩
              · exact Or.inr ⟨x1, x2⟩
              · exact absurd i2.1 x3
            have HN := Lib.hid (And.intro hap (And.intro hin hnx))
            clear hap hin hnx hz hc
            go_wp2_with fail
            refine (japp_as 0 z HN.out.1 (by decide) g6.fresh d6 jj6 HN.out.2.1 (by omega) (by omega) hbd).mono ?_
            rintro e' w7 ⟨rfl, L7, d7, jj7, f7⟩
            have hs7 := hs6.keep g6.fresh f7 (by intro hh; rcases hh with hh | hh <;> cases hh)
            have g7 := g6.trans (f7.mono (M' := MT) mt)
            have q7 := (World.cell?_of_block (a := ⟨tb, toff + k, none⟩) (f7.block tb hb (fun t ht => by rw [hlb] at ht; cases ht))).trans q0
            clear q0
            rcases hae with ⟨rfl, rfl⟩ | ⟨rfl, rfl⟩
            · go_wp2_with fail
              go_roundw
              case rel => exact ⟨k + 1, L7, s', a', b', hlt, by go_num, hs7, d7, jj7, g7, HN.out.2.2⟩
              case measure => simp [intOf]; omega
            · obtain ⟨i0, hi0, hz0, hz1, hz2⟩ := info_parts Try.info9
              obtain ⟨XS, hXS⟩ : ∃ XS, XS = a.map strV := ⟨_, rfl⟩
              have hXl : XS.length = a.length := by rw [hXS, List.length_map]
              rw [← hXS, ← hXl] at hs7
              have HXS := Lib.hid hXS
              clear hXS hs6
              go_wp2_with (at_builtin; refine app1L rfl (.tmp 125) (.tmp 130) 57 rfl 9 i0 (.string ByteArray.empty) 16 Try.underlying57 hi0 hz0 hz1 hz2 (by omega) rfl _ XS (.string z) rfl rfl hs7 g7.fresh rfl (by omega) ?_; intro v8 w8 L8 hsl8 f8; have d8 := d7.keep g7.fresh f8 (fun _ hh => by cases hh); have jj8 := jj7.keep g7.fresh f8 (fun _ hh => by cases hh); have g8 := g7.trans (f8.mono (M' := MT) mt))
              go_roundw
              case rel => exact ⟨k + 1, L8, s', a ++ [bts z], b', hlt, by go_num, sl_snoc HXS.out hsl8, d8, jj8, g8, HN.out.2.2⟩
              case measure => simp [intOf]; omega
          · obtain rfl : k = T.length := by omega
            obtain ⟨w9, rfl⟩ : ∃ x, x = wr := ⟨_, rfl⟩
            obtain ⟨s', b', e, sure', hap, hin, hsm, hcase⟩ : ∃ s' b' e sure', jsync s 0 b = ((s', b'), e) ∧ Inv s ∧ a.length ≤ 1000 ∧ ((e = 0 ∧ b' = false ∧ ∃ n, JInv s' 0 n a a (some (a, false)) ∧ Up s') ∨ ((e = 7 ∨ e = 8 ∨ e = 9))) := by
              obtain ⟨su, al, i1, i2⟩ := HS.out
              obtain ⟨s', b', e, su', r1, r2, r3, r4⟩ := i1.syn (by rfl)
              have hsm := i1.small.1
              have ht8 : T.length ≤ 8 := ht2
              refine ⟨s', b', e, su', r1, i1.inv, by omega, ?_⟩
              rcases r4 with ⟨x1, _⟩ | ⟨x1, _, x2, x3, x4⟩ | ⟨x1, _⟩
              · exact Or.inr (Or.inl x1)
              · subst x3; subst x4; subst x2
                exact Or.inl ⟨x1, rfl, _, r2, r3 i2⟩
              · exact Or.inr (Or.inr x1)
            have HN := Lib.hid (And.intro hap hin)
            clear hap hin
            have HC := Lib.hid hcase
            clear hcase
            go_wp2_with fail
            refine (jsync_as 0 HN.out.1 (by decide) g6.fresh d6 jj6 HN.out.2 (by omega)).mono ?_
            rintro e' w10 ⟨rfl, L10, d10, jj10, f10⟩
            have hs10 := hs6.keep g6.fresh f10 (by intro hh; rcases hh with hh | hh <;> cases hh)
            have g10 := g6.trans (f10.mono (M' := MT) mt)
            obtain ⟨hown10, hlab10⟩ := hs10
            clear hs6 d6 jj6
            rcases HC.out with ⟨rfl, rfl, n, hjn, hup⟩ | he
            · obtain ⟨WA, wc, hwv⟩ := OwnS.len hown10
              subst hwv
              have hjl := hjn.lose (m := 0) (by omega)
              have hcl : Calm (s'.lose 0) := ⟨hup.2, hup.1, rfl⟩
              have HJ := Lib.hid (And.intro hjl hcl)
              clear hjn hup hjl hcl HC HS
              go_wp2_with fail
              refine (lose_any 0 g10.fresh d10).mono ?_
              rintro e' w11 ⟨rfl, d11, f11⟩
              have jj11 := jj10.keep g10.fresh f11 (fun r hh => by injection hh with hh _; omega)
              have hs11 := Sl.keep ⟨hown10, hlab10⟩ g10.fresh f11 (by intro hh; cases hh)
              have g11 := g10.trans (f11.mono (M' := MT) mt)
              clear d10 jj10 hown10 hlab10 f11
              go_wp2_with fail
              go_loopw [11, 17] (fun jv i wr => ∃ (k : Nat) (L' : Lab) (s : St) (j : Nat), k ≤ 2 ∧ i = .int .i64 k ∧ jv = .pointer (some ⟨j, 0, none⟩) ∧ DAt L' wr 0 d s ∧ JAt L' wr 1 j d 0 a false ∧ Sl L' wr 9 1 (.slice WA a.length wc) a.length (a.map strV) (7, .list) ∧ Fr MT L0 w L' wr ∧ Hid (JInv s 0 n a a (some (a, false)) ∧ Calm s)) (fun _ i _ => 2 - (intOf i).toNat)
              case atStart => exact ⟨0, L10, s'.lose 0, j, by omega, rfl, rfl, d11, jj11, hs11, g11, show _ ∧ _ from HJ.out⟩
              case round =>
                obtain ⟨k, L12, s, j, hk2, rfl, rfl, d12, jj12, hs12, g12, HS⟩ := hrel
                by_cases hlt : k < 2
                · have hltI : (k : Int) < 2 := by omega
                  go_wp2_with fail
                  refine (jall_any jj12 (by omega)).mono ?_
                  rintro e' w13 ⟨v13, rfl, hown13, hb13⟩
                  have f13 : Fr (fun _ => False) L12 wr L12 w13 := Fr.below g12.fresh hb13
                  have hs13 := hs12.keep g12.fresh f13 (fun hh => hh)
                  have d13 := d12.keep g12.fresh f13 (fun _ hh => hh)
                  have g13 := g12.trans (f13.mono (M' := MT) mt)
                  obtain ⟨VA, vc, rfl⟩ := OwnS.len hown13
                  go_wp2_with fail
                  refine (sameW_any hown13 hs13.1 (by omega) (by omega)).mono ?_
                  rintro e' w14 ⟨rfl, hb14⟩
                  rw [decide_eq_true rfl]
                  have f14 : Fr (fun _ => False) L12 w13 L12 w14 := Fr.below g13.fresh hb14
                  have hs14 := hs13.keep g13.fresh f14 (fun hh => hh)
                  have d14 := d13.keep g13.fresh f14 (fun _ hh => hh)
                  have g14 := g13.trans (f14.mono (M' := MT) mt)
                  have hii := HS.out.1.inv
                  clear jj12 d12 d13 hs12 hs13 hown13 hb13 hb14 f13 f14 g12 g13
                  have hA2 := HA.out.2.2.1.keep g14
                  have hA3 := HA.out.2.2.2.keep g14
                  by_cases hk0 : k = 0
                  · subst hk0
                    obtain ⟨s2, o1, o2, o3, o4, o5⟩ := calm_again HS.out.1 HS.out.2 one
                    have HO := Lib.hid (And.intro o1 (And.intro o2 (And.intro o3 (And.intro o4 o5))))
                    clear o1 o2 o3 o4 o5
                    go_wp2_with fail
                    refine (crash_any _ one g14.fresh d14 hii (hA2.kat 0)).mono ?_
                    rintro e' w15 ⟨rfl, L15, d15, f15⟩
                    go_wp2_with fail
                    refine (start_any f15.fresh d15).mono ?_
                    rintro e' w16 ⟨rfl, d16, f16⟩
                    go_wp2_with fail
                    refine (jopen_as 1 0 HO.out.1 (by decide) f16.fresh d16 HO.out.2.2.2.2 (by omega)).mono ?_
                    intro e' w17 hpost
                    obtain ⟨L17, jv17, rfl, d17, f17, j17, rfl, jj17⟩ := opost_jv hpost
                    clear hpost
                    have hs15 := hs14.keep g14.fresh f15 (by intro hh; cases hh)
                    have hs16 := hs15.keep f15.fresh f16 (by intro hh; cases hh)
                    have hs17 := hs16.keep f16.fresh f17 (by intro hh; cases hh)
                    have g17 := ((g14.trans (f15.mono (M' := MT) mt)).trans (f16.mono (M' := MT) mt)).trans (f17.mono (M' := MT) mt)
                    go_wp2_with fail
                    go_roundw
                    case rel => exact ⟨1, L17, s2, j17, by omega, by go_num, rfl, d17, jj17, hs17, g17, show _ ∧ _ from ⟨HO.out.2.1, HO.out.2.2.1⟩⟩
                    case measure => simp [intOf]
                  · obtain rfl : k = 1 := by omega
                    obtain ⟨s2, o1, o2, o3, o4, o5⟩ := calm_again HS.out.1 HS.out.2 two
                    have HO := Lib.hid (And.intro o1 (And.intro o2 (And.intro o3 (And.intro o4 o5))))
                    clear o1 o2 o3 o4 o5
                    go_wp2_with fail
                    refine (crash_any _ two g14.fresh d14 hii (hA3.kat 0)).mono ?_
                    rintro e' w15 ⟨rfl, L15, d15, f15⟩
                    go_wp2_with fail
                    refine (start_any f15.fresh d15).mono ?_
                    rintro e' w16 ⟨rfl, d16, f16⟩
                    go_wp2_with fail
                    refine (jopen_as 1 0 HO.out.1 (by decide) f16.fresh d16 HO.out.2.2.2.2 (by omega)).mono ?_
                    intro e' w17 hpost
                    obtain ⟨L17, jv17, rfl, d17, f17, j17, rfl, jj17⟩ := opost_jv hpost
                    clear hpost
                    have hs15 := hs14.keep g14.fresh f15 (by intro hh; cases hh)
                    have hs16 := hs15.keep f15.fresh f16 (by intro hh; cases hh)
                    have hs17 := hs16.keep f16.fresh f17 (by intro hh; cases hh)
                    have g17 := ((g14.trans (f15.mono (M' := MT) mt)).trans (f16.mono (M' := MT) mt)).trans (f17.mono (M' := MT) mt)
                    go_wp2_with fail
                    go_roundw
                    case rel => exact ⟨2, L17, s2, j17, by omega, by go_num, rfl, d17, jj17, hs17, g17, show _ ∧ _ from ⟨HO.out.2.1, HO.out.2.2.1⟩⟩
                    case measure => simp [intOf]
                · obtain rfl : k = 2 := by omega
                  obtain ⟨w18, rfl⟩ : ∃ x, x = wr := ⟨_, rfl⟩
                  go_wp2_with fail
                  refine (jall_any jj12 (by omega)).mono ?_
                  rintro e' w13 ⟨v13, rfl, hown13, hb13⟩
                  have f13 : Fr (fun _ => False) L12 w18 L12 w13 := Fr.below g12.fresh hb13
                  have hs13 := hs12.keep g12.fresh f13 (fun hh => hh)
                  obtain ⟨VA, vc, rfl⟩ := OwnS.len hown13
                  go_wp2_with fail
                  refine (sameW_any hown13 hs13.1 (by omega) (by omega)).mono ?_
                  rintro e' w14 ⟨rfl, hb14⟩
                  rw [decide_eq_true rfl]
                  have f14 : Fr (fun _ => False) L12 w13 L12 w14 := Fr.below f13.fresh hb14
                  go_wp2_with fail
                  go_ret
                  exact law_head ((g12.trans (f13.mono mt)).trans (f14.mono mt))
            · have hne : ((e : Int) != 0) = true := by rw [bne_iff_ne]; omega
              obtain ⟨WA, wc, hwv⟩ := OwnS.len hown10
              subst hwv
              clear he HC
              go_wp2_with fail
              refine (jall_any jj10 (by omega)).mono ?_
              rintro e' w11 ⟨v11, rfl, hown11, hb11⟩
              have f11 : Fr (fun _ => False) L10 w10 L10 w11 := Fr.below g10.fresh hb11
              have hw11 := (Sl.keep ⟨hown10, hlab10⟩ g10.fresh f11 (fun hh => hh)).1
              obtain ⟨VA, vc, rfl⟩ := OwnS.len hown11
              go_wp2_with fail
              refine (sameW_any hown11 hw11 (by omega) (by omega)).mono ?_
              rintro e' w12 ⟨rfl, hb12⟩
              rw [decide_eq_true rfl]
              have f12 : Fr (fun _ => False) L10 w11 L10 w12 := Fr.below f11.fresh hb12
              go_wp2_with fail
              go_ret
              exact law_head ((g10.trans (f11.mono mt)).trans (f12.mono mt))

end Go.Proofs.Ytgocnjiabfmdpaa
