/- Walk of JournalTells. -/
import Derived.Test.YtgocnjiabfmdpaaSce
import Derived.Test.YtgocnjiabfmdpaaNc
import Derived.BigQuiet
import Derived.Deep.CutBlock
import Derived.Deep.DeepCutAuto
import Derived.Deep.RegionHeld3
import Derived.Deep.DrawnRows
import Derived.Deep.QuietTactic
namespace Go.Proofs.Ytgocnjiabfmdpaa
set_option maxRecDepth 8000
open Go.RowKit Wire

/-- The reference's journal, or nil, as it lies in memory. -/
def QV (L : Lab) (w : World) (d : Nat) (f : Int) (v : Value) : Option (Recs × Bool) → Prop
  | none => v = .pointer none
  | some (a, b) => ∃ j, v = .pointer (some ⟨j, 0, none⟩) ∧ QAt L w 3 j d f a b

theorem QV.keep {M : Nat × Role → Prop} {L L1 : Lab} {w w1 : World} {d : Nat} {f : Int} {v : Value} {o : Option (Recs × Bool)} (h : QV L w d f v o) (hL : Fresh L w) (hf : Fr M L w L1 w1) (hm : ∀ r, ¬ M (3, r)) : QV L1 w1 d f v o :=
  match o, h with
  | none, h => h
  | some (_, _), ⟨j, h1, h2⟩ => ⟨j, h1, h2.keep hL hf hm⟩

theorem ropost_qv {L : Lab} {w w' : World} {d : Nat} {f : Int} {s : St} {o : Option Recs} {e : Int} {x : Ending} (h : ROPost L w 2 3 d f ((s, o), e) x w') : ∃ l' L' K' v, x = .returned (.tuple #[v, .int .i64 e]) ∧ RAt L' w' 2 d l' K' s ∧ KI K' s ∧ Fr (MA 2) L w L' w' ∧ QV L' w' d f v (o.map fun a => (a, false)) := by
  obtain ⟨l', L', K', d1, k1, f1, ⟨h1, h2⟩ | ⟨a, j, h1, h2, h3⟩⟩ := h
  · simp only at h1
    subst h1
    exact ⟨l', L', K', _, h2, d1, k1, f1, rfl⟩
  · simp only at h1
    subst h1
    exact ⟨l', L', K', _, h2, d1, k1, f1, j, rfl, h3⟩

theorem rjopen_as {L : Lab} {w : World} {d : Nat} {l : List Fl} {K : List Int} {s : St} {r : (St × Option (List (List UInt8))) × Int} (hr : jopen s 3 = r) (hL : Fresh L w) (hd : RAt L w 2 d l K s) (hi : Inv s) (hK : KI K s) (hc : ((s.sync 3).1.now 3).length ≤ 9000000) :
    Calls Try.prog 26 #[.pointer (some ⟨d, 0, none⟩), .int .i64 3] w (ROPost L w 2 3 d 3 r) := by
  subst hr
  exact rjopen_any 3 3 (by decide) hL hd hi hK hc

theorem rjapp_as {L : Lab} {w : World} {j d : Nat} {l : List Fl} {K : List Int} {s : St} {a : List (List UInt8)} {bad : Bool} {r : (St × List (List UInt8) × Bool) × Int} (t : ByteArray) (hr : japp s 3 a bad (bts t) = r) (hL : Fresh L w) (hd : RAt L w 2 d l K s) (hj : QAt L w 3 j d 3 a bad) (hi : Inv s) (hK : KI K s) (ht : t.size ≤ 900000) (hal : (jforms a).length ≤ 20000000) (has : ∀ x ∈ a, x.length ≤ 1000000) :
    Calls Try.prog 30 #[.pointer (some ⟨j, 0, none⟩), .string t] w (RJPost L w 2 3 j d 3 r) := by
  subst hr
  exact rjapp_any 3 t (by decide) hL hd hj hi hK ht hal has

theorem rjsync_as {L : Lab} {w : World} {j d : Nat} {l : List Fl} {K : List Int} {s : St} {a : List (List UInt8)} {bad : Bool} {r : (St × Bool) × Int} (hr : jsync s 3 bad = r) (hL : Fresh L w) (hd : RAt L w 2 d l K s) (hj : QAt L w 3 j d 3 a bad) (hi : Inv s) (hK : KI K s) :
    Calls Try.prog 32 #[.pointer (some ⟨j, 0, none⟩)] w (RJPost L w 2 3 j d 3 ((r.1.1, a, r.1.2), r.2)) := by
  subst hr
  exact rjsync_any 3 (by decide) hL hd hj hi hK

/-- The law's own copy of an operation. -/
def OB (L : Lab) (w : World) (ob : Nat) (xk : Int) (xs : ByteArray) (xn : Int) (kv : Value) : Prop := L ob = none ∧ w.heap[ob]? = some (.cells #[.int .i64 xk, .string xs, .int .i64 xn, kv] 49 (0, 0))

theorem OB.keep {M : Nat × Role → Prop} {L L1 : Lab} {w w1 : World} {ob : Nat} {xk : Int} {xs : ByteArray} {xn : Int} {kv : Value} (h : OB L w ob xk xs xn kv) (hf : Fr M L w L1 w1) : OB L1 w1 ob xk xs xn kv :=
  ⟨(hf.lab ob (blk_lt h.2)).trans h.1, (hf.block ob (blk_lt h.2) (fun t ht => by rw [h.1] at ht; cases ht)).trans h.2⟩

theorem OB.cells {L : Lab} {w : World} {ob : Nat} {xk : Int} {xs : ByteArray} {xn : Int} {kv : Value} (h : OB L w ob xk xs xn kv) : w.cell? ⟨ob, 0, none⟩ = some (.int .i64 xk) ∧ w.cell? ⟨ob, 1, none⟩ = some (.string xs) ∧ w.cell? ⟨ob, 2, none⟩ = some (.int .i64 xn) ∧ w.cell? ⟨ob, 3, none⟩ = some kv := by
  have c0 := blk_cell h.2 0
  have c1 := blk_cell h.2 1
  have c2 := blk_cell h.2 2
  have c3 := blk_cell h.2 3
  simp at c0 c1 c2 c3
  exact ⟨c0, c1, c2, c3⟩

theorem len_of {s : St} {n : Nat} {su al : Recs} {o : Option (Recs × Bool)} (h : JInv s 3 n su al o) (hn : n ≤ 100) : (s.now 3).length ≤ 22000 := by
  have h1 := h.held.under.len
  have hb := jforms_bound (l := al) (m := 200) (by omega) h.recs
  have hc := h.cnt
  have hb4 : (200 + 20) * al.length ≤ 220 * 100 := Nat.mul_le_mul (by omega) (by omega)
  omega

theorem sync_now_le {s : St} (hi : Inv s) (f : Int) : ((s.sync f).1.now f).length ≤ (s.now f).length := by
  have hc := count_rest s
  have hcr : ∀ keep, ((s.count.crash keep).now f).length ≤ (s.now f).length := fun keep => by
    unfold St.crash
    split
    · rw [hc.1]; exact Nat.le_refl _
    · have h1 := (left_bytes hi.count f keep).2.1
      rw [hc.1] at h1
      exact h1
  unfold St.sync
  split
  · exact hcr _
  split
  · rw [hc.1]; exact Nat.le_refl _
  split
  · show (s.count.now f).length ≤ _
    rw [hc.1]; exact Nat.le_refl _
  · show (s.count.now f).length ≤ _
    rw [hc.1]; exact Nat.le_refl _

theorem same_true {w : World} {B B' : Nat} {v v' : Value} {a : Recs} (h : OwnS w B v a) (h' : OwnS w B' v' a) (hl : a.length ≤ 1000) :
    Calls Try.prog 41 #[v, v'] w fun e w' => e = .returned (.bool true) ∧ Below w.heap.size w w' := by
  refine (sameW_any h h' (by omega) (by omega)).mono ?_
  rintro e w1 ⟨rfl, hb⟩
  exact ⟨by rw [decide_eq_true rfl], hb⟩

theorem size_at {L : Lab} {w : World} {k d : Nat} {s : St} (f z : Int) (hz : z = s.size f) (hf : isI64 f) (h : DAt L w k d s) :
    Calls Try.prog 17 #[.pointer (some ⟨d, 0, none⟩), .int .i64 f] w fun e w' => e = .returned (.int .i64 z) ∧ w = w' := by
  subst hz
  exact size_any f hf h

theorem rsize_as {L : Lab} {w : World} {k d : Nat} {l : List Fl} {K : List Int} {s : St} (f z : Int) (hz : z = (s.now f).length) (h : RAt L w k d l K s) :
    Calls Try.prog 18 #[.pointer (some ⟨d, 0, none⟩), .int .i64 f] w fun e w' => e = .returned (.int .i64 z) ∧ Below w.heap.size w w' := by
  subst hz
  exact rsize_any f h

theorem fdrew {L : Lab} {w : World} (hL : Fresh L w) (n : Nat) : Fr (fun _ => False) L w L (w.drewN n) := ⟨rfl, rfl, rfl, Nat.le_refl _, fun _ _ => rfl, hL, fun _ _ _ => rfl⟩
theorem nmj0 : ∀ r, ¬ MJ 2 3 (0, r) := fun _ hh => by unfold MJ at hh; simp at hh
theorem nmj1 : ∀ r, ¬ MJ 2 3 (1, r) := fun _ hh => by unfold MJ at hh; simp at hh
theorem nmj2 : ∀ r, ¬ MJ 0 1 (2, r) := fun _ hh => by unfold MJ at hh; simp at hh
theorem nmj3 : ∀ r, ¬ MJ 0 1 (3, r) := fun _ hh => by unfold MJ at hh; simp at hh

set_option maxRecDepth 100000 in
set_option maxHeartbeats 8000000 in
theorem jtells_any {w : World} {v : Value} {l : List Op3} (hO : OpsAt L0 w v l) :
    Calls Try.prog 4 #[v] w (LawPost w) := by
  have HA := Lib.hid hO
  obtain ⟨A, c, rfl, hlen, _, _⟩ := hO
  go_enter Try.func4, Try.ntmps4
  go_wp2_with fail
  refine (small3_any (L := L0)).mono ?_
  rintro e w1 ⟨rfl, L1, f1⟩
  go_wp2_with fail
  refine (fewO_any (HA.out.keep f1)).mono ?_
  rintro e w2 ⟨rfl, rfl⟩
  cases hfew : fewOB l
  · go_wp2_with fail
    go_ret
    exact law_head f1
  obtain ⟨hf1, hf2⟩ := fewOB_mem hfew
  obtain ⟨s0, oa, e0, su0, al0, ho, hj0, hu0⟩ := jstart 3 (by rfl)
  have hcap0 : ((St.new.sync 3).1.now 3).length ≤ 9000000 := by have := sync_now_le Inv.new 3; have h0 : (St.new.now 3).length = 0 := rfl; omega
  have H := Lib.hid (And.intro hf1 (And.intro ho (And.intro hj0 hcap0)))
  clear hf1 ho hj0 hu0 hfew hcap0
  go_wp2_with fail
  refine (New_any (L := L1) 0).mono ?_
  rintro e w2 ⟨d, L2, rfl, d2, f2⟩
  go_wp2_with fail
  refine (rnew_any (L := L2) 2 f2.fresh).mono ?_
  rintro e w3 ⟨r, L3, rfl, r3, f3⟩
  have d3 := d2.keep f2.fresh f3 (fun _ hh => hh)
  go_wp2_with fail
  refine (jopen_as 1 3 H.out.2.1 (by decide) f3.fresh d3 Inv.new (by omega)).mono ?_
  intro e w4 hpost
  obtain ⟨L4, jv, rfl, d4, f4, j4⟩ := opost_jv hpost
  clear hpost
  have r4 := r3.keep f3.fresh f4 (na (by decide))
  go_wp2_with fail
  refine (rjopen_as H.out.2.1 f4.fresh r4 Inv.new (fun hh => absurd rfl hh) H.out.2.2.2).mono ?_
  intro e w5 hpost
  obtain ⟨l5, L5, K5, qv, rfl, r5, k5, f5, q5⟩ := ropost_qv hpost
  clear hpost
  have d5 := d4.keep f4.fresh f5 (na (by decide))
  have j5 := j4.keep f4.fresh f5 (na (by decide))
  have g5 := (((f1.trans (f2.mono mt)).trans (f3.mono mt)).trans (f4.mono mt)).trans (f5.mono (M' := MT) mt)
  clear d2 d3 d4 r3 r4 j4
  go_wp2_with fail
  go_loopw [6, 7, 8, 9, 10] (fun jv ev kv fv i wr => ∃ (n : Nat) (L' : Lab) (s : St) (l1 : List Fl) (K1 : List Int) (o : Option (Recs × Bool)) (x : Int), n ≤ l.length ∧ i = .int .i64 n ∧ ev = .int .i64 x ∧ fv = .int .i64 x ∧ DAt L' wr 0 d s ∧ RAt L' wr 2 r l1 K1 s ∧ JV L' wr d 3 jv o ∧ QV L' wr r 3 kv o ∧ Fr MT L0 w L' wr ∧ Hid (KI K1 s ∧ ∃ su al, JInv s 3 n su al o)) (fun _ _ _ _ i _ => l.length - (intOf i).toNat)
  case atStart => exact ⟨0, L5, s0, l5, K5, _, e0, Nat.zero_le _, rfl, rfl, rfl, d5, r5, j5, q5, g5, k5, su0, al0, H.out.2.2.1⟩
  case round =>
    obtain ⟨n, L6, s, l1, K1, o, x, hn, rfl, rfl, rfl, d6, r6, j6, q6, g6, HS⟩ := hrel
    by_cases hlt : n < l.length
    · obtain ⟨A', c', e', _, hok, hc⟩ := HA.out.keep g6
      injection e' with e1 _ e2
      subst e1; subst e2
      obtain ⟨b, off, rfl, hlb, hb, hc⟩ := hc (by omega)
      obtain ⟨xkv, q0, q1, q2, q3, hxkv⟩ := hc n hlt
      have hokk := hok _ (List.getElem_mem hlt)
      have hfit := H.out.1 _ (List.getElem_mem hlt)
      obtain ⟨y, hy⟩ : ∃ y, l[n] = y := ⟨_, rfl⟩
      rw [hy] at q0 q1 q2 hxkv hokk hfit
      obtain ⟨xk, xs, xn, xkeep⟩ := y
      obtain ⟨ok1, ok2⟩ := hokk
      obtain ⟨fit1, fit2⟩ := hfit
      simp only at q0 q1 q2 hxkv ok1 ok2 fit1 fit2
      obtain ⟨KA, kc, rfl⟩ := argI_len hxkv
      clear hy hc hok
      go_upto_region 14 with fail
      obtain ⟨wA, hwA⟩ : ∃ wA, wA = wr.alloc (.cells #[.int .i64 xk, .string xs, .int .i64 xn, .slice KA xkeep.length kc] 49) := ⟨_, rfl⟩
      obtain ⟨ob, hob⟩ : ∃ ob, ob = wr.heap.size := ⟨_, rfl⟩
      have obA : OB L6 wA ob xk xs xn (.slice KA xkeep.length kc) := by
        rw [hwA, hob]
        exact ⟨g6.fresh _ (Nat.le_refl _), heap_alloc_new wr _⟩
      have fA : Fr (fun _ => False) L6 wr L6 wA := by rw [hwA]; exact (Fr.refl g6.fresh).alloc _
      rw [← hwA, ← hob]
      have hn1 : n + 1 ≤ l.length := hlt
      obtain ⟨m, hm⟩ : ∃ m, m = jsum (bts xs) := ⟨_, rfl⟩
      have hs1 : ∀ q, Calls Try.prog 27 #[.string xs] (wA.drewN q) fun e w' => e = .returned (.int .i64 (m : Nat)) ∧ ∃ p, w' = wA.drewN p := fun q => by rw [hm]; exact (sum_any xs _ (by omega)).mono (fun e w' ⟨h1, h2⟩ => ⟨h1, q, h2.symm⟩)
      have hs2 : ∀ q, Calls Try.prog 28 #[.string xs] (wA.drewN q) fun e w' => e = .returned (.int .i64 (m : Nat)) ∧ ∃ p, w' = wA.drewN p := fun q => by rw [hm]; exact (rsum_any xs _ (by omega)).mono (fun e w' ⟨h1, h2⟩ => ⟨h1, q, h2.symm⟩)
      have HSS := Lib.hid (And.intro hs1 hs2)
      clear hwA hob hm hs1 hs2 q0 q1 q2 q3 hb hlb
      have oc := obA.cells
      obtain ⟨o0, o1, o2, o3⟩ := oc
      go_quiet (first | (go_at_call 27; exact HSS.out.1 _) | (go_at_call 28; exact HSS.out.2 _))
      obtain ⟨wB, hwB⟩ : ∃ wB, wB = wA.drewN nq := ⟨_, rfl⟩
      have fB : Fr (fun _ => False) L6 wA L6 wB := by rw [hwB]; exact ⟨rfl, rfl, rfl, Nat.le_refl _, fun _ _ => rfl, fA.fresh, fun _ _ _ => rfl⟩
      have fAB := fA.trans fB
      have dB := d6.keep g6.fresh fAB (fun _ hh => hh)
      have rB := r6.keep g6.fresh fAB (fun _ hh => hh)
      have jB := j6.keep g6.fresh fAB (fun _ hh => hh)
      have qB := q6.keep g6.fresh fAB (fun _ hh => hh)
      have gB := g6.trans (fAB.mono (M' := MT) mt)
      have obB := obA.keep fB
      have hkB := hxkv.keep fAB
      rw [← hwB]
      clear hwB o0 o1 o2 o3 fA fB fAB d6 r6 j6 q6 g6 obA hxkv HSS
      obtain ⟨o0, o1, o2, o3⟩ := obB.cells
      go_upto_block 2 with fail
      go_cut [6, 7, 8, 9] (fun jv ev kv fv wx => ∃ (L7 : Lab) (s7 : St) (l7 : List Fl) (K7 : List Int) (o7 : Option (Recs × Bool)) (x7 : Int), ev = .int .i64 x7 ∧ fv = .int .i64 x7 ∧ DAt L7 wx 0 d s7 ∧ RAt L7 wx 2 r l7 K7 s7 ∧ JV L7 wx d 3 jv o7 ∧ QV L7 wx r 3 kv o7 ∧ Fr MT L0 w L7 wx ∧ Hid (KI K7 s7 ∧ ∃ su al, JInv s7 3 (n + 1) su al o7))
      case first =>
        have hn25 : n ≤ 25 := by omega
        by_cases h0 : xk = 0
        · subst h0
          match o, jB, qB, HS with
          | none, jB, qB, HS =>
            subst jB
            subst qB
            go_wp2_with fail
            obtain ⟨ki, su, al, i1⟩ := HS.out
            exact ⟨⟨n + 1, L6, s, l1, K1, none, x, hn1, by go_num, rfl, rfl, dB, rB, rfl, rfl, gB, show Hid _ from ⟨ki, su, al, i1.mono (by omega)⟩⟩, by simp [intOf]; omega⟩
          | some (a, bad), jB, qB, HS =>
            obtain ⟨j, rfl, jj⟩ := jB
            obtain ⟨jq, rfl, qq⟩ := qB
            obtain ⟨s', a', b', e, hap, hbd, hin, hsm, hki, hnx⟩ : ∃ s' a' b' e, japp s 3 a bad (bts xs) = ((s', a', b'), e) ∧ (jforms a).length ≤ 20000000 ∧ Inv s ∧ (∀ x ∈ a, x.length ≤ 1000000) ∧ KI K1 s ∧ ∃ su al, JInv s' 3 (n + 1) su al (some (a', b')) := by
              obtain ⟨ki, su, al, i1⟩ := HS.out
              obtain ⟨s', a', b', e, al', r1, r2, r3, _⟩ := i1.app (by rfl) (by omega) (v := bts xs) (by rw [Wire.bts_len]; exact fit1)
              have hby := i1.bytes (by omega)
              have hsml := i1.small.2
              exact ⟨s', a', b', e, r1, by omega, i1.inv, fun x hx => by have := hsml x hx; omega, ki, su, al', r2⟩
            have HN := Lib.hid (And.intro hap (And.intro hin (And.intro hsm (And.intro hki hnx))))
            clear hap hin hsm hki hnx
            go_wp2_with fail
            refine (japp_as 3 xs HN.out.1 (by decide) gB.fresh dB jj HN.out.2.1 (by omega) (by omega) hbd).mono ?_
            rintro e w8 ⟨rfl, L8, d8, j8, f8⟩
            have r8 := rB.keep gB.fresh f8 nmj2
            have q8 := qq.keep gB.fresh f8 nmj3
            have g8 := gB.trans (f8.mono (M' := MT) mt)
            obtain ⟨x0, x1, x2, x3⟩ := (obB.keep f8).cells
            clear o0 o1 o2 o3 dB rB jj qq
            go_wp2_with fail
            refine (rjapp_as xs HN.out.1 g8.fresh r8 q8 HN.out.2.1 HN.out.2.2.2.1 (by omega) hbd HN.out.2.2.1).mono ?_
            rintro e w9 ⟨rfl, l9, L9, K9, r9, k9, q9, f9⟩
            have d9 := d8.keep g8.fresh f9 nmj0
            have j9 := j8.keep g8.fresh f9 nmj1
            go_wp2_with fail
            go_meet
            exact ⟨L9, s', l9, K9, some (a', b'), _, rfl, rfl, d9, r9, ⟨j, rfl, j9⟩, ⟨jq, rfl, q9⟩, g8.trans (f9.mono (M' := MT) mt), show Hid _ from ⟨k9, HN.out.2.2.2.2⟩⟩
        have n0 : ((xk : Int) == 0) = false := by simpa using h0
        by_cases h1 : xk = 1
        · subst h1
          match o, jB, qB, HS with
          | none, jB, qB, HS =>
            subst jB
            subst qB
            go_wp2_with fail
            obtain ⟨ki, su, al, i1⟩ := HS.out
            exact ⟨⟨n + 1, L6, s, l1, K1, none, x, hn1, by go_num, rfl, rfl, dB, rB, rfl, rfl, gB, show Hid _ from ⟨ki, su, al, i1.mono (by omega)⟩⟩, by simp [intOf]; omega⟩
          | some (a, bad), jB, qB, HS =>
            obtain ⟨j, rfl, jj⟩ := jB
            obtain ⟨jq, rfl, qq⟩ := qB
            obtain ⟨s', b', e, hap, hin, hki, hnx⟩ : ∃ s' b' e, jsync s 3 bad = ((s', b'), e) ∧ Inv s ∧ KI K1 s ∧ ∃ su al, JInv s' 3 (n + 1) su al (some (a, b')) := by
              obtain ⟨ki, su, al, i1⟩ := HS.out
              obtain ⟨s', b', e, su', r1, r2, r3, _⟩ := i1.syn (by rfl)
              exact ⟨s', b', e, r1, i1.inv, ki, su', al, r2.mono (by omega)⟩
            have HN := Lib.hid (And.intro hap (And.intro hin (And.intro hki hnx)))
            clear hap hin hki hnx
            go_wp2_with fail
            refine (jsync_as 3 HN.out.1 (by decide) gB.fresh dB jj HN.out.2.1 (by omega)).mono ?_
            rintro e w8 ⟨rfl, L8, d8, j8, f8⟩
            have r8 := rB.keep gB.fresh f8 nmj2
            have q8 := qq.keep gB.fresh f8 nmj3
            have g8 := gB.trans (f8.mono (M' := MT) mt)
            clear o0 o1 o2 o3 dB rB jj qq
            go_wp2_with fail
            refine (rjsync_as HN.out.1 g8.fresh r8 q8 HN.out.2.1 HN.out.2.2.1).mono ?_
            rintro e w9 ⟨rfl, l9, L9, K9, r9, k9, q9, f9⟩
            have d9 := d8.keep g8.fresh f9 nmj0
            have j9 := j8.keep g8.fresh f9 nmj1
            go_wp2_with fail
            go_meet
            exact ⟨L9, s', l9, K9, some (a, b'), _, rfl, rfl, d9, r9, ⟨j, rfl, j9⟩, ⟨jq, rfl, q9⟩, g8.trans (f9.mono (M' := MT) mt), show Hid _ from ⟨k9, HN.out.2.2.2⟩⟩
        have n1 : ((xk : Int) == 1) = false := by simpa using h1
        by_cases h2 : xk = 2
        · subst h2
          go_wp2_with fail
          refine (lose_any xn gB.fresh dB).mono ?_
          rintro e w8 ⟨rfl, d8, f8⟩
          have r8 := rB.keep gB.fresh f8 (md_no (by decide))
          have j8 := jB.keep gB.fresh f8 (md_no (by decide))
          have q8 := qB.keep gB.fresh f8 (md_no (by decide))
          have g8 := gB.trans (f8.mono (M' := MT) mt)
          obtain ⟨x0, x1, x2, x3⟩ := (obB.keep f8).cells
          clear o0 o1 o2 o3 dB rB jB qB
          go_wp2_with fail
          refine (rlose_any xn g8.fresh r8).mono ?_
          rintro e w9 ⟨rfl, r9, f9⟩
          have d9 := d8.keep g8.fresh f9 (md_no (by decide))
          have j9 := j8.keep g8.fresh f9 (md_no (by decide))
          have q9 := q8.keep g8.fresh f9 (md_no (by decide))
          go_wp2_with fail
          go_meet
          refine ⟨L6, s.lose xn, l1, K1, o, x, rfl, rfl, d9, r9, j9, q9, g8.trans (f9.mono (M' := MT) mt), show Hid _ from ?_⟩
          obtain ⟨ki, su, al, i1⟩ := HS.out
          exact ⟨ki.same rfl rfl, su, al, (i1.lose (by unfold isI64 at ok2; omega)).mono (by omega)⟩
        have n2 : ((xk : Int) == 2) = false := by simpa using h2
        by_cases h3 : xk = 3
        · subst h3
          have hld : L6 d = some (0, .disk) := by obtain ⟨mb, pv, kv, fb, hd, _⟩ := dB; exact hd
          go_wp2_with fail
          refine (Arm_any xn _ xkeep gB.fresh dB hkB.rd (hkB.far hld) (by omega)).mono ?_
          rintro e w8 ⟨rfl, L8, d8, f8⟩
          have r8 := rB.keep gB.fresh f8 (na (by decide))
          have j8 := jB.keep gB.fresh f8 (na (by decide))
          have q8 := qB.keep gB.fresh f8 (na (by decide))
          have g8 := gB.trans (f8.mono (M' := MT) mt)
          obtain ⟨x0, x1, x2, x3⟩ := (obB.keep f8).cells
          have hk8 := hkB.keep f8
          clear o0 o1 o2 o3 dB rB jB qB
          go_wp2_with fail
          refine (rArm_any xn _ xkeep g8.fresh r8 hk8 (by omega)).mono ?_
          rintro e w9 ⟨rfl, L9, r9, f9⟩
          have d9 := d8.keep g8.fresh f9 (na (by decide))
          have j9 := j8.keep g8.fresh f9 (na (by decide))
          have q9 := q8.keep g8.fresh f9 (na (by decide))
          go_wp2_with fail
          go_meet
          refine ⟨L9, s.arm xn xkeep, l1, xkeep, o, x, rfl, rfl, d9, r9, j9, q9, g8.trans (f9.mono (M' := MT) mt), show Hid _ from ?_⟩
          obtain ⟨ki, su, al, i1⟩ := HS.out
          exact ⟨fun _ => rfl, su, al, (i1.arm (by unfold isI64 at ok2; omega) (by omega)).mono (by omega)⟩
        have n3 : ((xk : Int) == 3) = false := by simpa using h3
        by_cases h4 : xk = 4
        · subst h4
          obtain ⟨s', oa, e, hop, hin, hin2, hki, hki2, hcp, hnx⟩ : ∃ s' oa e, jopen (s.crash xkeep).start 3 = ((s', oa), e) ∧ Inv s ∧ Inv (s.crash xkeep).start ∧ KI K1 s ∧ KI K1 (s.crash xkeep).start ∧ (((s.crash xkeep).start.sync 3).1.now 3).length ≤ 9000000 ∧ ∃ su al, JInv s' 3 (n + 1) su al (oa.map fun a => (a, false)) := by
            obtain ⟨ki, su, al, i1⟩ := HS.out
            have i3 := (i1.crash xkeep).start
            obtain ⟨s', oa, e, su', al', r1, r2, r3⟩ := i3.opened2 rfl (by rfl)
            have hl := len_of i3 (by omega)
            have hsl := sync_now_le i3.inv 3
            exact ⟨s', oa, e, r1, i1.inv, i3.inv, ki, (ki.crashed xkeep).same rfl rfl, by omega, su', al', r2.mono (by omega)⟩
          have HN := Lib.hid (And.intro hop (And.intro hin (And.intro hin2 (And.intro hki (And.intro hki2 (And.intro hcp hnx))))))
          clear hop hin hin2 hki hki2 hcp hnx
          go_wp2_with fail
          refine (crash_any _ xkeep gB.fresh dB HN.out.2.1 (hkB.kat 0)).mono ?_
          rintro e w8 ⟨rfl, L8, d8, f8⟩
          have r8 := rB.keep gB.fresh f8 (na (by decide))
          have g8 := gB.trans (f8.mono (M' := MT) mt)
          have ob8 := obB.keep f8
          have hk8 := hkB.keep f8
          obtain ⟨x0, x1, x2, x3⟩ := ob8.cells
          clear o0 o1 o2 o3 dB rB jB qB
          go_wp2_with fail
          refine (rcrash_any _ xkeep g8.fresh r8 HN.out.2.1 (hk8.rkat 2)).mono ?_
          rintro e w9 ⟨rfl, l9, L9, r9, f9⟩
          have d9 := d8.keep g8.fresh f9 (md_no (by decide))
          have g9 := g8.trans (f9.mono (M' := MT) mt)
          clear x0 x1 x2 x3 d8 r8
          go_wp2_with fail
          refine (start_any g9.fresh d9).mono ?_
          rintro e wa ⟨rfl, da, fa⟩
          have ra := r9.keep g9.fresh fa (md_no (by decide))
          have ga := g9.trans (fa.mono (M' := MT) mt)
          clear d9 r9
          go_wp2_with fail
          refine (rstart_any ga.fresh ra).mono ?_
          rintro e wb ⟨rfl, rb, fb⟩
          have db := da.keep ga.fresh fb (md_no (by decide))
          have gb := ga.trans (fb.mono (M' := MT) mt)
          clear da ra
          go_wp2_with fail
          refine (jopen_as 1 3 HN.out.1 (by decide) gb.fresh db HN.out.2.2.1 (by omega)).mono ?_
          intro e wd hpost
          obtain ⟨Ld, jvd, rfl, dd, fd, jd⟩ := opost_jv hpost
          have rd := rb.keep gb.fresh fd (na (by decide))
          have gd := gb.trans (fd.mono (M' := MT) mt)
          clear hpost db rb
          go_wp2_with fail
          refine (rjopen_as HN.out.1 gd.fresh rd HN.out.2.2.1 HN.out.2.2.2.2.1 HN.out.2.2.2.2.2.1).mono ?_
          intro e we hpost
          obtain ⟨le, Le, Ke, qve, rfl, re, ke, fe, qe⟩ := ropost_qv hpost
          have de := dd.keep gd.fresh fe (na (by decide))
          have je := jd.keep gd.fresh fe (na (by decide))
          clear hpost dd rd jd
          go_wp2_with fail
          go_meet
          exact ⟨Le, s', le, Ke, _, _, rfl, rfl, de, re, je, qe, gd.trans (fe.mono (M' := MT) mt), show Hid _ from ⟨ke, HN.out.2.2.2.2.2.2⟩⟩
        have n4 : ((xk : Int) == 4) = false := by simpa using h4
        by_cases h5 : xk = 5
        · subst h5
          obtain ⟨s', oa, e, hop, hin2, hki2, hcp, hnx⟩ : ∃ s' oa e, jopen s.start 3 = ((s', oa), e) ∧ Inv s.start ∧ KI K1 s.start ∧ ((s.start.sync 3).1.now 3).length ≤ 9000000 ∧ ∃ su al, JInv s' 3 (n + 1) su al (oa.map fun a => (a, false)) := by
            obtain ⟨ki, su, al, i1⟩ := HS.out
            have i3 := i1.start
            obtain ⟨s', oa, e, su', al', r1, r2, r3⟩ := i3.opened2 rfl (by rfl)
            have hl := len_of i3 (by omega)
            have hsl := sync_now_le i3.inv 3
            exact ⟨s', oa, e, r1, i3.inv, ki.same rfl rfl, by omega, su', al', r2.mono (by omega)⟩
          have HN := Lib.hid (And.intro hop (And.intro hin2 (And.intro hki2 (And.intro hcp hnx))))
          clear hop hin2 hki2 hcp hnx
          go_wp2_with fail
          refine (start_any gB.fresh dB).mono ?_
          rintro e wa ⟨rfl, da, fa⟩
          have ra := rB.keep gB.fresh fa (md_no (by decide))
          have ga := gB.trans (fa.mono (M' := MT) mt)
          clear o0 o1 o2 o3 dB rB jB qB
          go_wp2_with fail
          refine (rstart_any ga.fresh ra).mono ?_
          rintro e wb ⟨rfl, rb, fb⟩
          have db := da.keep ga.fresh fb (md_no (by decide))
          have gb := ga.trans (fb.mono (M' := MT) mt)
          clear da ra
          go_wp2_with fail
          refine (jopen_as 1 3 HN.out.1 (by decide) gb.fresh db HN.out.2.1 (by omega)).mono ?_
          intro e wd hpost
          obtain ⟨Ld, jvd, rfl, dd, fd, jd⟩ := opost_jv hpost
          have rd := rb.keep gb.fresh fd (na (by decide))
          have gd := gb.trans (fd.mono (M' := MT) mt)
          clear hpost db rb
          go_wp2_with fail
          refine (rjopen_as HN.out.1 gd.fresh rd HN.out.2.1 HN.out.2.2.1 HN.out.2.2.2.1).mono ?_
          intro e we hpost
          obtain ⟨le, Le, Ke, qve, rfl, re, ke, fe, qe⟩ := ropost_qv hpost
          have de := dd.keep gd.fresh fe (na (by decide))
          have je := jd.keep gd.fresh fe (na (by decide))
          clear hpost dd rd jd
          go_wp2_with fail
          go_meet
          exact ⟨Le, s', le, Ke, _, _, rfl, rfl, de, re, je, qe, gd.trans (fe.mono (M' := MT) mt), show Hid _ from ⟨ke, HN.out.2.2.2.2⟩⟩
        have n5 : ((xk : Int) == 5) = false := by simpa using h5
        go_wp2_with fail
        go_meet
        refine ⟨L6, s, l1, K1, o, x, rfl, rfl, dB, rB, jB, qB, gB, show Hid _ from ?_⟩
        obtain ⟨ki, su, al, i1⟩ := HS.out
        exact ⟨ki, su, al, i1.mono (by omega)⟩
      case rest =>
        obtain ⟨L7, s7, l7, K7, o7, x7, rfl, rfl, d7, r7, j7, q7, g7, HS7⟩ := hcut
        obtain ⟨wm, rfl⟩ : ∃ y, y = wc := ⟨_, rfl⟩
        clear dB rB jB qB gB obB hkB o0 o1 o2 o3 HS
        have hxx : (x7 != x7) = false := by simp
        match o7, j7, q7, HS7 with
        | none, j7, q7, HS7 =>
          subst j7
          subst q7
          go_wp2_with fail
          go_quiet (fail)
          go_wp2_with fail
          go_roundw
          case rel => exact ⟨n + 1, L7, s7, l7, K7, none, x7, hn1, by go_num, rfl, rfl, d7.keep g7.fresh (fdrew g7.fresh _) (fun _ hh => hh), r7.keep g7.fresh (fdrew g7.fresh _) (fun _ hh => hh), rfl, rfl, g7.trans ((fdrew g7.fresh _).mono (M' := MT) mt), HS7⟩
          case measure => simp [intOf]; omega
        | some (a, bad), j7, q7, HS7 =>
          obtain ⟨j, rfl, jj⟩ := j7
          obtain ⟨jq, rfl, qq⟩ := q7
          have hal : a.length ≤ 100 := by obtain ⟨ki, su, al, i1⟩ := HS7.out; have := i1.small.1; omega
          have fD : Fr (fun _ => False) L7 wm L7 wm.drew := (Fr.refl g7.fresh).drew
          have jD := jj.keep g7.fresh fD (fun _ hh => hh)
          have qD := qq.keep g7.fresh fD (fun _ hh => hh)
          obtain ⟨rvq, b1, b2, b3⟩ := qD
          have y2 := blk_cell b2 2
          simp [qcells] at y2
          have HB := Lib.hid (And.intro b1 (And.intro b2 b3))
          clear b1 b2 b3
          have hown8 : OwnS wm.drew 0 rvq a := HB.out.2.2.1
          go_wp2_with fail
          go_region_held3 (fun w' => w'.cell? ⟨jq, 2, none⟩ = some rvq) (first | go_keep | exact zz8 | exact zz9) (first
            | (go_at_call 42; refine (jall_any jD (by omega)).mono ?_; rintro e w8 ⟨va, rfl, own8, b8⟩; have f8 : Fr (fun _ => False) L7 wm.drew L7 w8 := Fr.below fD.fresh b8; have sl8 := HB.out.2.2.keep fD.fresh f8 (fun hh => hh); have zz8 : w8.cell? ⟨jq, 2, none⟩ = some rvq := (World.cell?_of_block (a := ⟨jq, 2, none⟩) (f8.keeps fD.fresh HB.out.1 (fun hh => hh))).trans y2)
            | (go_at_call 41; refine (same_true own8 sl8.1 (by omega)).mono ?_; rintro e w9 ⟨rfl, b9⟩; have f9 : Fr (fun _ => False) L7 w8 L7 w9 := Fr.below f8.fresh b9; have zz9 : w9.cell? ⟨jq, 2, none⟩ = some rvq := (World.cell?_of_block (a := ⟨jq, 2, none⟩) (f9.keeps f8.fresh (f8.lab_of fD.fresh HB.out.1) (fun hh => hh))).trans zz8))
          all_goals
            go_wp2_with fail
            go_roundw
            case rel =>
              have fT := (fD.trans f8).trans f9
              exact ⟨n + 1, L7, s7, l7, K7, some (a, bad), x7, hn1, by go_num, rfl, rfl, d7.keep g7.fresh fT (fun _ hh => hh), r7.keep g7.fresh fT (fun _ hh => hh), ⟨j, rfl, jj.keep g7.fresh fT (fun _ hh => hh)⟩, ⟨jq, rfl, qq.keep g7.fresh fT (fun _ hh => hh)⟩, g7.trans (fT.mono (M' := MT) mt), HS7⟩
            case measure => simp [intOf]; omega
    · obtain rfl : n = l.length := by omega
      obtain ⟨wo, rfl⟩ : ∃ y, y = wr := ⟨_, rfl⟩
      have hinv : Inv s ∧ KI K1 s ∧ (s.now 3).length ≤ 22000 := by
        obtain ⟨ki, su, al, i1⟩ := HS.out
        exact ⟨i1.inv, ki, len_of i1 (by omega)⟩
      obtain ⟨hi, hki, hl22⟩ := hinv
      go_wp2_with fail
      refine (start_any g6.fresh d6).mono ?_
      rintro e wa ⟨rfl, da, fa⟩
      have ra := r6.keep g6.fresh fa (md_no (by decide))
      have ga := g6.trans (fa.mono (M' := MT) mt)
      go_wp2_with fail
      refine (rstart_any ga.fresh ra).mono ?_
      rintro e wb ⟨rfl, rb, fb⟩
      have db := da.keep ga.fresh fb (md_no (by decide))
      have gb := ga.trans (fb.mono (M' := MT) mt)
      obtain ⟨sz, hsz⟩ : ∃ sz : Int, sz = ((s.start.now 3).length : Int) := ⟨_, rfl⟩
      have hsz2 : sz = s.start.size 3 := by rw [hsz]; unfold St.size; rw [if_pos (by rfl)]
      have hszm : sz ≤ 9223372036854775807 := by rw [hsz]; show ((s.now 3).length : Int) ≤ _; omega
      obtain ⟨X, E, hX⟩ : ∃ X E, s.start.read 3 0 sz = (X, E) := ⟨_, _, rfl⟩
      have hr1 := read_any 3 0 sz (isI64_small (by omega)) db
      have hr2 := fun (LL : Lab) (W : World) (hW : RAt LL W 2 r l1 K1 s.start) => rread_any 3 0 sz hW hi.start hszm
      rw [hX] at hr1
      simp only [hX] at hr2
      have HR := Lib.hid (And.intro hr1 (And.intro hr2 (And.intro hsz hsz2)))
      clear hr1 hr2 hsz hsz2 hszm hX hl22 d6 r6 j6 q6 da ra
      go_wp2_with fail
      refine (size_at 3 sz HR.out.2.2.2 (isI64_small (by omega)) db).mono ?_
      rintro e wd ⟨rfl, rfl⟩
      go_wp2_with fail
      refine HR.out.1.mono ?_
      rintro e wd ⟨rfl, rfl⟩
      go_wp2_with fail
      refine (rsize_as 3 sz HR.out.2.2.1 rb).mono ?_
      rintro e we ⟨rfl, be⟩
      have fe : Fr (fun _ => False) _ _ _ we := Fr.below gb.fresh be
      have re := rb.keep gb.fresh fe (fun _ hh => hh)
      go_wp2_with fail
      refine (HR.out.2.1 _ _ re).mono ?_
      rintro e wf ⟨rfl, bf⟩
      go_wp2_with fail
      go_ret
      exact law_head (gb.trans ((fe.trans (Fr.below (M := fun _ => False) fe.fresh bf)).mono (M' := MT) mt))

end Go.Proofs.Ytgocnjiabfmdpaa
