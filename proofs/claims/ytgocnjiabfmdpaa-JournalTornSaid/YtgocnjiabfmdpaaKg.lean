/- Walk of JournalTorn. -/
import Derived.Test.YtgocnjiabfmdpaaKf
import Derived.Deep.CutBlock
import Derived.Deep.DeepCutAuto
import Derived.Deep.RegionHeld3
import Derived.Deep.DrawnRows
namespace Go.Proofs.Ytgocnjiabfmdpaa
set_option maxRecDepth 8000
open Go.RowKit Wire

theorem tor1 {s : St} (h : Calm s) (hi : Inv s) {l : List (List UInt8)} (hl : ∀ v ∈ l, v.length ≤ 200) (h8 : l.length ≤ 8) {i : Nat} (hn : s.now 0 = jforms (l.take i)) (h1 : s.now 1 = []) (hlt : i < l.length) :
    ∃ s', japp s 0 (l.take i) false l[i] = ((s', l.take (i + 1), false), 0) ∧ Calm s' ∧ Inv s' ∧ s'.now 0 = jforms (l.take (i + 1)) ∧ s'.now 1 = [] ∧ s'.size 0 = ((jforms (l.take (i + 1))).length : Nat) := by
  have hb := jforms_bound (l := l.take i) (m := 200) (by omega) (fun v hv => hl v (List.mem_of_mem_take hv))
  have hb2 := jform_len_le l[i] (by have := hl _ (List.getElem_mem hlt); omega)
  have hb3 := hl _ (List.getElem_mem hlt)
  rw [List.length_take] at hb
  have hb4 : (200 + 20) * min i l.length ≤ 220 * 8 := Nat.mul_le_mul (by omega) (by omega)
  obtain ⟨s', a1, a2, a3, a4, a5⟩ := calm_app h (f := 0) (by rfl) hn (v := l[i]) (by omega) (by omega)
  rw [← List.take_succ_eq_append_getElem hlt] at a1 a3
  refine ⟨s', a1, a2, ?_, a3, by rw [a5 1 (by omega), h1], ?_⟩
  · have := (hi.write 0 (jforms (l.take i)).length (jform l[i]))
    have e : (s.write 0 ((jforms (l.take i)).length : Nat) (jform l[i])).1 = s' := by
      unfold japp at a1
      rw [if_neg (by simp), if_neg (by omega), if_neg (by omega)] at a1
      split at a1
      · injection a1 with a1 e0
        rename_i hne
        exact absurd e0 hne
      · injection a1 with a1 _
        injection a1 with a1 _
    rw [e] at this
    exact this
  · rw [(calm_read a2 (f := 0) (by rfl)).1, a3]

theorem drewN_drewN (w : World) (n m : Nat) : (w.drewN n).drewN m = w.drewN (n + m) := by unfold World.drewN; simp [Nat.add_assoc]

theorem bits_one (x : Int) : bits .and .i64 x 1 = x % 2 := by
  show IntKind.i64.wrap ((BitVec.ofInt 64 x &&& BitVec.ofInt 64 1).toNat : Int) = _
  rw [BitVec.toNat_and]
  have e1 : (BitVec.ofInt 64 1).toNat = 1 := by decide
  rw [e1, Nat.and_one_is_mod, BitVec.toNat_ofInt, IntKind.wrap_i64]
  omega

theorem Below.setCell2 {B : Nat} {w : World} {g : Nat} (h : B ≤ g) (o : Nat) (u : Value) : Below B w (w.setCell ⟨g, o, none⟩ u) :=
  ⟨rfl, rfl, rfl, by simp, fun b hb => Below.heap_setCell _ _ _ _ (by simp; omega)⟩

/-- The numbers at which the forms end. -/
def endsOf (l : List (List UInt8)) (i : Nat) : List Value := (List.range i).map fun k => Value.int .i64 ((jforms (l.take (k + 1))).length : Nat)
theorem endsOf_len (l : List (List UInt8)) (i : Nat) : (endsOf l i).length = i := by simp [endsOf]
theorem endsOf_succ (l : List (List UInt8)) (i : Nat) : endsOf l (i + 1) = endsOf l i ++ [.int .i64 ((jforms (l.take (i + 1))).length : Nat)] := by simp [endsOf, List.range_succ]

theorem below_drewN {B : Nat} {w w1 : World} (h : Below B w w1) (n : Nat) : Below B w (w1.drewN n) := ⟨h.os, h.tape, h.output, h.size, h.block⟩

/-- The record that is appended at last. -/
def nxL : List UInt8 := [110, 101, 120, 116]

theorem inv_japp {s s' : St} {f : Int} {a a' : List (List UInt8)} {v : List UInt8} {b : Bool} {e : Int} (hi : Inv s) (h : japp s f a false v = ((s', a', b), e)) : Inv s' := by
  unfold japp at h
  rw [if_neg (by simp)] at h
  split at h
  · injection h with h _; injection h with h _; rw [← h]; exact hi
  · split at h
    · injection h with h _; injection h with h _; rw [← h]; exact hi
    · split at h
      · injection h with h _; injection h with h _; rw [← h]; exact hi.write _ _ _
      · injection h with h _; injection h with h _; rw [← h]; exact hi.write _ _ _

theorem tor2 {s : St} (h : Calm s) (hi : Inv s) {X : List UInt8} {R : List (List UInt8)} (hx : X.length ≤ 20000) (h1 : s.now 1 = []) (hr : jrecs X = R) (hR : (jforms R).length ≤ 20000) :
    ∃ s1 s2 s3, s.write 1 0 X = (s1, 0) ∧ Inv s1 ∧ jopen s1 1 = ((s2, some R), 0) ∧ Inv s2 ∧ japp s2 1 R false nxL = ((s3, R ++ [nxL], false), 0) ∧ Inv s3 := by
  obtain ⟨s1, a1, a2, a3, _, _⟩ := calm_write2 h (f := 1) (by rfl) (a := 0) (t := X) (by omega)
  have i1 : Inv s1 := by have := hi.write 1 ((0 : Nat) : Int) X; rw [a1] at this; exact this
  have n1 : s1.now 1 = X := by
    rw [a3, h1]
    split
    · rename_i h; rw [h]
    · show putL [] 0 X = X
      unfold putL
      simp
  obtain ⟨s2, b1, b2, b3, _, _⟩ := calm_open2 a2 (f := 1) (by rfl)
  rw [n1, hr] at b1 b3
  have i2 : Inv s2 := by have := i1.jopen 1; rw [b1] at this; exact this
  obtain ⟨s3, c1, _, _, _, _⟩ := calm_app b2 (f := 1) (by rfl) b3 (v := nxL) (by show 4 ≤ _; omega) (by
    have := jform_len_le nxL (by show 4 ≤ _; omega)
    have : nxL.length = 4 := rfl
    omega)
  exact ⟨s1, s2, s3, a1, i1, b1, i2, c1, inv_japp i2 c1⟩

theorem ArgT.at {L : Lab} {w : World} {A : Option Addr} {n c : Nat} {T : List ByteArray} (h : ArgT L w (.slice A n c) T) : Wire.StrsAt w.heap.size w A T := by
  obtain ⟨A', c', e, h1, h2, h3⟩ := h
  injection e with e1 e2 e3
  subst e1
  intro k hk
  obtain ⟨b, off, rfl, _, hb, hc⟩ := h3 (by omega)
  exact ⟨b, off, rfl, hb, hc k hk⟩

set_option maxHeartbeats 1000000 in
theorem jget_as {L : Lab} {w : World} {kj j d : Nat} {f : Int} {a : List (List UInt8)} {bad : Bool} {t : ByteArray} (hj : JAt L w kj j d f a bad) (i : Int) (hi : isI64 i) (ht : ba (jget a i) = t) : Calls Try.prog 54 #[.pointer (some ⟨j, 0, none⟩), .int .i64 i] w fun e w' => e = .returned (.string t) ∧ w = w' := by
  subst ht
  exact jget_any hj i hi
theorem jlen_as {L : Lab} {w : World} {kj j d : Nat} {f : Int} {a : List (List UInt8)} {bad : Bool} (n : Nat) (hn : a.length = n) (hj : JAt L w kj j d f a bad) : Calls Try.prog 53 #[.pointer (some ⟨j, 0, none⟩)] w fun e w' => e = .returned (.int .i64 (n : Nat)) ∧ w = w' := by
  subst hn
  exact jlen_any hj

theorem sameA_any {L : Lab} {w : World} {v : Value} {A : Option Addr} {c k : Nat} {T : List ByteArray} {l : List (List UInt8)} (h : FreeS L w v (l.take k)) (hl : l = T.map bts) (hA : Wire.StrsAt w.heap.size w A T) (hk : k ≤ T.length) (hT : T.length ≤ 1000000000) :
    Calls Try.prog 41 #[v, .slice A k c] w fun e w' => e = .returned (.bool true) ∧ Below w.heap.size w w' := by
  obtain ⟨a, c1, rfl, h1⟩ := h.at
  have e : (l.take k).map ba = T.take k := by
    rw [hl, ← List.map_take, List.map_map]
    conv => rhs; rw [← List.map_id (T.take k)]
    rfl
  have hlen : (T.take k).length = k := by rw [List.length_take]; omega
  have h2 : Wire.StrsAt w.heap.size w A (T.take k) := fun i hi => by
    obtain ⟨b, off, r1, r2, r3⟩ := hA i (by rw [hlen] at hi; omega)
    refine ⟨b, off, r1, r2, ?_⟩
    rw [r3, List.getD_eq_getElem?_getD, List.getD_eq_getElem?_getD, List.getElem?_take_of_lt (by omega)]
  have := Wire.sameTexts_any a A _ (T.take k) c1 c w h1 h2 (by rw [e, hlen]; omega) (by omega)
  rw [hlen] at this
  refine this.mono ?_
  rintro x w1 ⟨rfl, hb⟩
  exact ⟨by rw [decide_eq_true e], hb⟩

theorem zeros_cell {w : World} {M : Array Value} {n : Nat} (hM : M.toList = List.replicate n (Value.int .u8 0)) (i : Nat) (hi : i < n) : (w.alloc (.cells M 5)).cell? ⟨w.heap.size, i, none⟩ = some (.int .u8 (((List.replicate n (0 : UInt8)).getD i 0).toNat : Int)) := by
  refine (blk_cell (heap_alloc_new w (.cells M 5)) i).trans ?_
  rw [← Array.getElem?_toList, hM]
  simp [hi]

set_option maxRecDepth 100000 in
set_option maxHeartbeats 8000000 in
theorem jtorn_any {w : World} {v kv : Value} {T : List ByteArray} {zero : List Int} (size : Int) (hT : ArgT L0 w v T) (hk : ArgI L0 w kv zero) (_hsz : isI64 size) (hcap : ∀ A n c, v = .slice A n c → n ≤ c) :
    Calls Try.prog 8 #[v, .int .i64 size, kv] w (LawPost w) := by
  have hk' := hk
  have hT' := hT
  obtain ⟨KA, kc, rfl⟩ := argI_len hk
  obtain ⟨A, c, rfl, hlen, h1, h2⟩ := hT
  clear h1 h2
  have hTc : T.length ≤ c := hcap _ _ _ rfl
  clear hcap
  have HA := Lib.hid (And.intro hT' hk')
  clear hT' hk' hk
  go_enter Try.func8, Try.ntmps8
  go_wp2_with fail
  refine (small3_any (L := L0)).mono ?_
  rintro e w1 ⟨rfl, L1, f1⟩
  go_wp2_with fail
  refine (texts_any (HA.out.1.keep f1)).mono ?_
  rintro e w2 ⟨rfl, rfl⟩
  cases htx : textsB T
  · go_wp2_with fail
    go_ret
    exact law_head f1
  by_cases h50 : 50 < zero.length
  · go_wp2_with fail
    go_ret
    exact law_head f1
  obtain ⟨h200, h8⟩ := textsB_mem htx
  obtain ⟨l, hl⟩ : ∃ l, l = T.map bts := ⟨_, rfl⟩
  have hll : l.length = T.length := by rw [hl, List.length_map]
  have hlm : ∀ v ∈ l, v.length ≤ 200 := fun v hv => by
    rw [hl] at hv
    obtain ⟨z, hz, rfl⟩ := List.mem_map.1 hv
    rw [Wire.bts_len]; exact h200 z hz
  obtain ⟨s0, ho, hc0, hn0, _, hg0⟩ := calm_open2 Calm.new (f := 0) (by rfl)
  rw [show St.new.now 0 = [] from rfl, jrecs_nil] at ho hn0
  have hi0 : Inv s0 := by have := Inv.new.jopen 0; rw [ho] at this; exact this
  have hn1 : s0.now 1 = [] := hg0 1 (by omega)
  have H := Lib.hid (And.intro hl (And.intro hlm (And.intro h200 (And.intro ho (And.intro hc0 (And.intro hi0 (And.intro hn0 hn1)))))))
  clear hl hlm h200 ho hc0 hi0 hn0 hn1 hg0 htx
  go_wp2_with fail
  refine (New_any (L := L1) 0).mono ?_
  rintro e w2 ⟨d, L2, rfl, d2, f2⟩
  go_wp2_with fail
  refine (jopen_as 1 0 H.out.2.2.2.1 (by decide) f2.fresh d2 Inv.new (by omega)).mono ?_
  rintro e w3 ⟨L3, d3, f3, ⟨h, _⟩ | ⟨a, j, ha, rfl, j3⟩⟩
  · cases h
  injection ha with ha
  subst ha
  change DAt L3 w3 0 d s0 at d3
  have g3 := (f1.trans (f2.mono mt)).trans (f3.mono (M' := MT) mt)
  clear d2
  go_wp2_with fail
  go_loopw [11, 12] (fun ev i wr => ∃ (k : Nat) (L' : Lab) (s : St), k ≤ T.length ∧ i = .int .i64 k ∧ Sl L' wr 3 1 ev k (endsOf l k) (7, .list) ∧ DAt L' wr 0 d s ∧ JAt L' wr 1 j d 0 (l.take k) false ∧ Fr MT L0 w L' wr ∧ Hid (Calm s ∧ Inv s ∧ s.now 0 = jforms (l.take k) ∧ s.now 1 = [])) (fun _ i _ => T.length - (intOf i).toNat)
  case atStart => exact ⟨0, L3, s0, Nat.zero_le _, rfl, Sl.nil _ _ _ _ _, d3, j3, g3, H.out.2.2.2.2.1, H.out.2.2.2.2.2.1, H.out.2.2.2.2.2.2.1, H.out.2.2.2.2.2.2.2⟩
  case round =>
    obtain ⟨k, L4, s, hkT, rfl, hends, d4, j4, g4, HS⟩ := hrel
    by_cases hlt : k < T.length
    · obtain ⟨A', c', e', _, _, hc⟩ := HA.out.1.keep g4
      injection e' with e1 _ e2
      subst e1; subst e2
      obtain ⟨b, off, rfl, hlb, hb, hc⟩ := hc (by omega)
      have c0 := hc k hlt
      obtain ⟨z, hz⟩ : ∃ z, T.getD k ByteArray.empty = z := ⟨_, rfl⟩
      rw [hz] at c0
      have hzT : T[k] = z := by rw [← hz, List.getD_eq_getElem?_getD, List.getElem?_eq_getElem hlt]; rfl
      have hzs : z.size ≤ 200 := by have := H.out.2.2.1 _ (List.getElem_mem hlt); rw [hzT] at this; exact this
      have hlk : k < l.length := by omega
      have hlz : l[k] = bts z := by simp only [H.out.1, List.getElem_map, hzT]
      obtain ⟨s', t1, t2, t3, t4, t5, t6⟩ := tor1 HS.out.1 HS.out.2.1 H.out.2.1 (by omega) HS.out.2.2.1 HS.out.2.2.2 hlk
      rw [hlz] at t1
      have HT := Lib.hid (And.intro t1 (And.intro t2 (And.intro t3 (And.intro t4 (And.intro t5 t6)))))
      have hbl : (jforms (l.take k)).length ≤ 20000000 := by
        have hb := jforms_bound (l := l.take k) (m := 200) (by omega) (fun v hv => H.out.2.1 v (List.mem_of_mem_take hv))
        have hb4 : (200 + 20) * (l.take k).length ≤ 220 * 8 := Nat.mul_le_mul (by omega) (by rw [List.length_take]; omega)
        omega
      clear t1 t2 t3 t4 t5 t6 hlz hz hzT hc
      obtain ⟨i0, hi0, hz0, hz1, hz2⟩ := info_parts Try.info3
      go_wp2_with fail
      refine (japp_as 0 z HT.out.1 (by decide) g4.fresh d4 j4 HS.out.2.1 (by omega) (by omega) hbl).mono ?_
      rintro e w5 ⟨rfl, L5, d5, j5, f5⟩
      have hends5 := hends.keep g4.fresh f5 (by intro hh; rcases hh with hh | hh <;> cases hh)
      have g5 := g4.trans (f5.mono (M' := MT) mt)
      go_wp2_with fail
      refine (size_as 0 HT.out.2.2.2.2.2 (by omega) d5).mono ?_
      rintro e w6 ⟨rfl, rfl⟩
      go_wp2_with (at_builtin; refine app1L rfl (.tmp 54) (.tmp 57) 31 rfl 3 i0 (.int .i64 0) 8 Try.underlying31 hi0 hz0 hz1 hz2 (by omega) rfl _ (endsOf l k) (.int .i64 ((jforms (l.take (k + 1))).length : Nat)) rfl rfl (by rw [endsOf_len]; exact hends5) g5.fresh rfl (by rw [endsOf_len]; omega) ?_; intro v7 w7 L7 hsl7 f7; have d7 := d5.keep g5.fresh f7 (fun _ hh => by cases hh); have j7 := j5.keep g5.fresh f7 (fun _ hh => by cases hh); have g7 := g5.trans (f7.mono (M' := MT) mt))
      go_roundw
      case rel => exact ⟨k + 1, L7, s', by omega, by go_num, by rw [endsOf_succ]; rw [endsOf_len] at hsl7; exact hsl7, d7, j7, g7, HT.out.2.1, HT.out.2.2.1, HT.out.2.2.2.1, HT.out.2.2.2.2.1⟩
      case measure => simp [intOf]; omega
    · obtain rfl : k = T.length := by omega
      rw [← hll, List.take_length] at j4 HS
      obtain ⟨wo, rfl⟩ : ∃ x, x = wr := ⟨_, rfl⟩
      obtain ⟨J, hJ⟩ : ∃ J, J = jforms l := ⟨_, rfl⟩
      rw [← hJ] at HS
      have hJl : J.length ≤ 1760 := by
        have hb := jforms_bound (l := l) (m := 200) (by omega) H.out.2.1
        have hb4 : (200 + 20) * l.length ≤ 220 * 8 := Nat.mul_le_mul (by omega) (by omega)
        rw [hJ]
        omega
      have crd := calm_read HS.out.1 (f := 0) (by rfl)
      rw [HS.out.2.2.1] at crd
      have HR := Lib.hid (And.intro crd hJ)
      have hJb : (ba J).size = J.length := ba_size J
      have hcs := Wire.conv_sb wo (ba J)
      have hnew := bytes_new wo (ba J)
      have hbel := below_bytes wo (ba J)
      obtain ⟨wB, hwB⟩ : ∃ wB, wB = Lib.bytesWorld wo 5 (ba J) := ⟨_, rfl⟩
      rw [← hwB] at hcs hnew hbel
      rw [show bts (ba J) = J from rfl] at hnew
      rw [hJb] at hcs
      obtain ⟨cp, hcp⟩ : ∃ cp, cp = grownCap wo J.length 0 5 := ⟨_, rfl⟩
      have hcpl : J.length ≤ cp := by rw [hcp]; exact grownCap_ge wo J.length 0 5
      rw [← hcp] at hcs
      clear crd hJ hwB hcp
      obtain ⟨gb, hgb⟩ : ∃ gb, gb = wo.heap.size := ⟨_, rfl⟩
      rw [← hgb] at hcs hnew
      have HGB := Lib.hid hgb
      clear hgb
      go_wp2_with fail
      refine (size_as 0 HR.out.1.1 (by omega) d4).mono ?_
      rintro e w6 ⟨rfl, rfl⟩
      go_wp2_with fail
      refine (read_as 0 0 (J.length : Nat) HR.out.1.2 (by omega) d4).mono ?_
      rintro e w6 ⟨rfl, rfl⟩
      go_upto_block 2 with fail
      go_cut [16] (fun i wx => ∃ B, B.length = J.length ∧ BytesAt wx gb B ∧ Below wo.heap.size wo wx ∧ Hid (Under B J))
      case first =>
        go_wp2_with fail
        go_loopw [16] (fun i wx => ∃ (k : Nat) (B : List UInt8), k ≤ J.length ∧ i = .int .i64 k ∧ B.length = J.length ∧ BytesAt wx gb B ∧ Below wo.heap.size wo wx ∧ Hid (Under B J)) (fun i _ => J.length - (intOf i).toNat)
        case atStart => exact ⟨0, J, Nat.zero_le _, rfl, rfl, hnew, hbel, show Hid _ from Under.refl J⟩
        case round =>
          obtain ⟨k, B, hkJ, rfl, hBl, hB, hbx, HU⟩ := hrel
          by_cases hlt : k < J.length
          · rcases Nat.eq_zero_or_pos zero.length with hz0 | hz0
            · go_wp2_with fail
              go_meet
              exact ⟨B, hBl, hB, hbx, HU⟩
            · have hidx : k / 64 % zero.length < zero.length := Nat.mod_lt _ hz0
              have hq : ((k : Int)).tdiv 64 = ((k / 64 : Nat) : Int) := rfl
              have hm : (((k / 64 : Nat) : Int)).tmod (zero.length : Int) = ((k / 64 % zero.length : Nat) : Int) := rfl
              obtain ⟨q, hqq⟩ : ∃ q, q = k / 64 := ⟨_, rfl⟩
              have hqb : q ≤ 1760 := by rw [hqq]; omega
              rw [← hqq] at hidx hq hm
              obtain ⟨r, hrr⟩ : ∃ r, r = q % zero.length := ⟨_, rfl⟩
              rw [← hrr] at hidx hm
              have hkx := HA.out.2.keep (g4.trans (Fr.below (M := MT) g4.fresh hbx))
              rcases hkx with ⟨_, h0⟩ | ⟨b, off, c', e1, _, _, hcz⟩
              · rw [h0] at hz0; simp at hz0
              · injection e1 with e1 _ _
                subst e1
                have c0 := hcz r hidx
                obtain ⟨x, hx⟩ : ∃ x, zero[r] = x := ⟨_, rfl⟩
                rw [hx] at c0
                have hb1 := bits_one x
                clear hx hcz hqq hrr
                by_cases hx1 : x % 2 = 1
                · have hcell := hB.2 k (by omega)
                  have st1 := hcell.1
                  have st2 := hcell.2
                  have hset := hB.zero k (by omega)
                  have hbset : Below wo.heap.size wo (wr.setCell ⟨gb, k, none⟩ (.int .u8 0)) := hbx.trans (Below.setCell2 (by rw [HGB.out]; exact Nat.le_refl _) _ _)
                  go_wp2_with fail
                  go_roundw
                  case rel => exact ⟨k + 1, B.set k 0, by omega, by go_num, by rw [List.length_set]; exact hBl, hset, hbset, show Hid _ from HU.out.set k⟩
                  case measure => simp [intOf]; omega
                · go_wp2_with fail
                  go_roundw
                  case rel => exact ⟨k + 1, B, by omega, by go_num, hBl, hB, hbx, HU⟩
                  case measure => simp [intOf]; omega
          · obtain rfl : k = J.length := by omega
            go_wp2_with fail
            go_meet
            exact ⟨B, hBl, hB, hbx, HU⟩
      case rest =>
        obtain ⟨B, hBl, hB, hbx, HU⟩ := hcut
        obtain ⟨wm, rfl⟩ : ∃ x, x = wc := ⟨_, rfl⟩
        obtain ⟨m, hm⟩ : ∃ m : Nat, (m : Int) = max 0 (min size (J.length : Int)) := ⟨(max 0 (min size (J.length : Int))).toNat, by omega⟩
        have hmJ : m ≤ J.length := by omega
        obtain ⟨X, hX⟩ : ∃ X, X = B.take m := ⟨_, rfl⟩
        have hXl : X.length = m := by rw [hX, List.length_take]; omega
        have hcv := conv_at (w := wm) gb 0 m cp X hXl (fun i hi => by
          rw [Nat.zero_add, (hB.2 i (by omega)).1, hX, getD_take, if_pos hi])
        have HX := Lib.hid (And.intro hX (show Under X J from by rw [hX]; exact HU.out.take m))
        have hmm : m = (max 0 (min size (J.length : Int))).toNat := by omega
        rw [hmm] at hcv
        have hXJ : X.length ≤ J.length := by omega
        clear hX hmm hm hB hXl
        have hXb : (ba X).size = X.length := ba_size X
        have hec : ∃ EA ec, u11 = .slice EA T.length ec ∧ (∀ i, i < T.length → ∃ ge, EA = some ⟨ge, 0, none⟩ ∧ wm.cell? ⟨ge, i, none⟩ = some (.int .i64 ((jforms (l.take (i + 1))).length : Nat))) := by
          have fx : Fr (fun _ => False) L4 wo L4 wm := Fr.below g4.fresh hbx
          have hs := hends.keep g4.fresh fx (fun hh => hh)
          rcases hs.1.2 with ⟨e, h0⟩ | ⟨g, c', _, e, _⟩
          · exact ⟨none, 0, by rw [e, h0], fun i hi => by omega⟩
          · refine ⟨_, c', e, fun i hi => ⟨g, rfl, ?_⟩⟩
            have h1 := hs.1
            rw [e] at h1
            rw [World.ownsRow.cellAt h1 i (by omega)]
            simp [endsOf, hi]
        obtain ⟨EA, ec, rfl, hec⟩ := hec
        go_upto_block 4 with fail
        go_cut [18] (fun mv wx => ∃ k : Nat, mv = .int .i64 k ∧ Hid (∃ nd, wx = wm.drewN nd) ∧ Hid (k ≤ l.length ∧ X.take (jforms (l.take k)).length = jforms (l.take k) ∧ (k = l.length ∨ ¬ X.take (jforms (l.take (k + 1))).length = jforms (l.take (k + 1)))))
        case first =>
          go_wp2_with fail
          go_loopw [18] (fun mv wx => ∃ k : Nat, k ≤ T.length ∧ mv = .int .i64 k ∧ Hid (∃ nd, wx = wm.drewN nd) ∧ Hid (X.take (jforms (l.take k)).length = jforms (l.take k))) (fun mv _ => T.length - (intOf mv).toNat)
          case atStart => exact ⟨0, Nat.zero_le _, rfl, show Hid _ from ⟨0, rfl⟩, show X.take (jforms (l.take 0)).length = jforms (l.take 0) from by rw [List.take_zero]; rfl⟩
          case round =>
            obtain ⟨k, hkT, rfl, HW, HP⟩ := hrel
            have hdn : Hid (∀ n, ∃ nd, wr.drewN n = wm.drewN nd) := show _ from fun n => by
              obtain ⟨nd, rfl⟩ := HW.out
              exact ⟨nd + n, drewN_drewN wm nd n⟩
            by_cases hlt : k < T.length
            · obtain ⟨ge, rfl, c0⟩ := hec k hlt
              have cw : wr.cell? ⟨ge, k, none⟩ = some (Value.int IntKind.i64 ((jforms (l.take (k + 1))).length : Nat)) := by obtain ⟨nd, rfl⟩ := HW.out; exact c0
              clear c0 hec
              obtain ⟨E, hE⟩ : ∃ E, E = (jforms (l.take (k + 1))).length := ⟨_, rfl⟩
              have hEJ : J.take E = jforms (l.take (k + 1)) := by
                have e : J = jforms (l.take (k + 1)) ++ jforms (l.drop (k + 1)) := by rw [HR.out.2, ← jforms_append, List.take_append_drop]
                rw [e, hE, List.take_left]
              have hElen : E ≤ J.length := by
                have := congrArg List.length hEJ
                rw [List.length_take, ← hE] at this
                omega
              rw [← hE] at cw
              have HE := Lib.hid (And.intro hE hEJ)
              clear hE hEJ
              have hltI : (k : Int) < (T.length : Int) := by omega
              have hltD : decide ((k : Int) < (T.length : Int)) = true := decide_eq_true hltI
              have hEI : (E : Int) ≤ (J.length : Int) := by omega
              by_cases hfit : E ≤ X.length
              · have hfI : (E : Int) ≤ (X.length : Int) := by omega
                have hfD : decide ((E : Int) ≤ (X.length : Int)) = true := decide_eq_true hfI
                have hx1 : ((ba X).extract 0 E).toList = X.take E := by
                  have := ext_take (s := ba X) (a := []) (t := X) rfl E
                  rw [List.length_nil, Nat.zero_add] at this
                  exact this
                have hx2 : ((ba J).extract 0 E).toList = J.take E := by
                  have := ext_take (s := ba J) (a := []) (t := J) rfl E
                  rw [List.length_nil, Nat.zero_add] at this
                  exact this
                by_cases heq : X.take E = J.take E
                · have hbe : (((ba X).extract 0 E).toList == ((ba J).extract 0 E).toList) = true := by rw [hx1, hx2, heq]; simp
                  have HQ : Hid (X.take (jforms (l.take (k + 1))).length = jforms (l.take (k + 1))) := show _ = _ by rw [← HE.out.1, heq, HE.out.2]
                  clear hx1 hx2 heq
                  go_wp2_with fail
                  go_quiet (fail)
                  go_wp2_with fail
                  go_roundw
                  case rel => exact ⟨k + 1, by omega, by go_num, show Hid _ from hdn.out _, HQ⟩
                  case measure => simp [intOf]; omega
                · have hbe : (((ba X).extract 0 E).toList == ((ba J).extract 0 E).toList) = false := by rw [hx1, hx2]; simpa using heq
                  have HQ : Hid (¬ X.take (jforms (l.take (k + 1))).length = jforms (l.take (k + 1))) := show ¬ _ by rw [← HE.out.1, ← HE.out.2]; exact heq
                  clear hx1 hx2 heq
                  go_wp2_with fail
                  go_quiet (fail)
                  go_wp2_with fail
                  go_meet
                  exact ⟨k, rfl, show Hid _ from hdn.out _, show Hid _ from ⟨by omega, HP.out, Or.inr HQ.out⟩⟩
              · have hfd : decide ((E : Int) ≤ (X.length : Int)) = false := decide_eq_false (by omega)
                have HQ : Hid (¬ X.take (jforms (l.take (k + 1))).length = jforms (l.take (k + 1))) := show ¬ _ from fun e => by
                  have := congrArg List.length e
                  rw [← HE.out.1, List.length_take] at this
                  omega
                go_wp2_with fail
                go_quiet (fail)
                go_wp2_with fail
                go_meet
                exact ⟨k, rfl, show Hid _ from hdn.out _, show Hid _ from ⟨by omega, HP.out, Or.inr HQ.out⟩⟩
            · have hlf : decide ((k : Int) < (T.length : Int)) = false := decide_eq_false (by omega)
              go_wp2_with fail
              go_quiet (fail)
              go_wp2_with fail
              go_meet
              exact ⟨k, rfl, show Hid _ from hdn.out _, show Hid _ from ⟨by omega, HP.out, Or.inl (by omega)⟩⟩
        case rest =>
          obtain ⟨k, rfl, HW, HK⟩ := hcut
          have hbn : Below wo.heap.size wo wc := by
            obtain ⟨nd, rfl⟩ := HW.out
            exact below_drewN hbx nd
          have fn : Fr (fun _ => False) L4 wo L4 wc := Fr.below g4.fresh hbn
          have gn := g4.trans (fn.mono (M' := MT) mt)
          have dn := d4.keep g4.fresh fn (fun _ hh => hh)
          have hkl : k ≤ l.length := HK.out.1
          obtain ⟨s1, s2, s3, t1, t2, t3, t4, t5, t6⟩ := tor2 HS.out.1 HS.out.2.1 (X := X) (R := l.take k) (by omega) HS.out.2.2.2 (by
            have hu := HX.out.2
            rw [HR.out.2] at hu
            exact torn_exact hu (fun v hv => by have := H.out.2.1 v hv; omega) HK.out.2.1 HK.out.2.2) (by
            have hb := jforms_bound (l := l.take k) (m := 200) (by omega) (fun v hv => H.out.2.1 v (List.mem_of_mem_take hv))
            have hb4 : (200 + 20) * (l.take k).length ≤ 220 * 8 := Nat.mul_le_mul (by omega) (by rw [List.length_take]; omega)
            omega)
          have HT := Lib.hid (And.intro t1 (And.intro t2 (And.intro t3 (And.intro t4 (And.intro t5 t6)))))
          obtain ⟨A', hA'⟩ : ∃ A', A' = l.take k ++ [nxL] := ⟨_, rfl⟩
          have hAl : A'.length = k + 1 := by rw [hA', List.length_append, List.length_take]; simp; omega
          have hAb : (jforms A').length ≤ 20000000 := by
            have hb := jforms_bound (l := l.take k) (m := 200) (by omega) (fun v hv => H.out.2.1 v (List.mem_of_mem_take hv))
            have hb4 : (200 + 20) * (l.take k).length ≤ 220 * 8 := Nat.mul_le_mul (by omega) (by rw [List.length_take]; omega)
            rw [hA', jforms_snoc, List.length_append]
            have := jform_len_le nxL (by show 4 ≤ _; omega)
            have : nxL.length = 4 := rfl
            omega
          have hAk : (jforms (l.take k)).length ≤ 20000000 := by
            have hb := jforms_bound (l := l.take k) (m := 200) (by omega) (fun v hv => H.out.2.1 v (List.mem_of_mem_take hv))
            have hb4 : (200 + 20) * (l.take k).length ≤ 220 * 8 := Nat.mul_le_mul (by omega) (by rw [List.length_take]; omega)
            omega
          have gk : jget A' (k : Int) = nxL := by
            unfold jget
            rw [if_neg (by omega), hA', Int.toNat_natCast]
            have e : (l.take k).length = k := by rw [List.length_take]; omega
            rw [List.getD_eq_getElem?_getD, List.getElem?_append_right (by omega), e]
            simp
          have gk1 : jget A' ((k : Int) + 1) = [] := by unfold jget; rw [if_pos (by omega)]
          have gm : jget A' (-1) = [] := by unfold jget; rw [if_pos (by omega)]
          have HA2 := Lib.hid (And.intro hA' (And.intro hAl (And.intro gk (And.intro gk1 gm))))
          have hkT : k ≤ T.length := by omega
          clear t1 t2 t3 t4 t5 t6 hA' hAl gk gk1 gm hec hcv hends hcs hnew hbel hbn
          go_wp2_with fail
          refine (write_as 1 0 (ba X) HT.out.1 fn.fresh dn HS.out.2.1 (by omega) (by omega) (by omega)).mono ?_
          rintro e w7 ⟨rfl, L7, d7, f7⟩
          go_wp2_with fail
          refine (jopen_as 2 1 HT.out.2.2.1 (by decide) f7.fresh d7 HT.out.2.1 (by omega)).mono ?_
          rintro e w8 ⟨L8, d8, f8, ⟨h, _⟩ | ⟨a, j8, ha, rfl, jj8⟩⟩
          · cases h
          injection ha with ha
          subst ha
          change DAt L8 w8 0 d s2 at d8
          have g8 := (gn.trans (f7.mono (M' := MT) mt)).trans (f8.mono (M' := MT) mt)
          have fd : Fr (fun _ => False) L8 w8 L8 w8.drew := Fr.below f8.fresh ((Below.refl _ _).drew)
          have gd := g8.trans (fd.mono (M' := MT) mt)
          have jjd := jj8.keep f8.fresh fd (fun _ hh => hh)
          have dd := d8.keep f8.fresh fd (fun _ hh => hh)
          have hTd := HA.out.1.keep gd
          have hkc : k ≤ c := by omega
          have hkI : (k : Int) ≤ (c : Int) := by omega
          have hLl : (l.take k).length ≤ 10000000 := by rw [List.length_take]; omega
          clear d7 g4 gn fn dn f7 hbx d8 jj8 fd
          go_wp2_with fail
          go_region_held3 (fun _ => True) (trivial) (first
            | (go_at_call 42; refine (jall_any jjd hLl).mono ?_; rintro e w9 ⟨v9, rfl, hown9, hb9⟩; have f9 := Fr.below (M := MT) gd.fresh hb9; have hv9 := OwnS.free hown9 gd.fresh (Nat.le_refl _); have hT9 := (hTd.keep f9).at)
            | (go_at_call 41; refine (sameA_any hv9 H.out.1 hT9 hkT (by omega)).mono ?_; rintro e w10 ⟨rfl, hb10⟩))
          have fA : Fr (fun _ => False) L8 w8.drew L8 w10 := Fr.below gd.fresh (hb9.trans (hb10.mono hb9.size))
          have jjA := jjd.keep gd.fresh fA (fun _ hh => hh)
          have dA := dd.keep gd.fresh fA (fun _ hh => hh)
          have gA := gd.trans (fA.mono (M' := MT) mt)
          have hkb : ((k : Int) + 1) ≤ 100 := by omega
          have heq1 : (((k + 1 : Nat) : Int) == (k : Int) + 1) = true := by simp
          obtain ⟨i0, hi0, hz0, hz1, hz2⟩ := info_parts Try.info5
          obtain ⟨M, hM⟩ : ∃ M, M = madeCells (Value.int IntKind.u8 0).cells ((20001 : Int).toNat * i0.size) := ⟨_, rfl⟩
          have hmk : ∀ w : World, (Instr.makeSlice 73 (.int .i64 20001) (.int .i64 20001)).run Try.prog w = .ok (.slice (some ⟨w.heap.size, 0, none⟩) 20001 20001) (w.alloc (.cells M 5)) := fun w => by
            have h := run_make (P := Try.prog) w 73 5 i0 (.int .u8 0) Try.underlying73 hi0 hz0 .i64 .i64 20001 20001 (by omega) (by omega) (by rw [hz2]; omega) (by omega)
            rw [hM]
            simpa using h
          clear dd jjd hTd hb9 hb10 hv9 hT9 fA hown9
          go_wp2_with fail
          refine (japp_as 1 ⟨#[110, 101, 120, 116]⟩ HT.out.2.2.2.2.1 (by decide) gA.fresh dA jjA HT.out.2.2.2.1 (by omega) (by show 4 ≤ _; omega) hAk).mono ?_
          rintro e w11 ⟨rfl, L11, d11, jj11, f11⟩
          have g11 := gA.trans (f11.mono (M' := MT) mt)
          change DAt L11 w11 0 d s3 at d11
          change JAt L11 w11 2 j8 d 1 (l.take k ++ [nxL]) false at jj11
          rw [← HA2.out.1] at jj11
          go_wp2_with fail
          refine (jlen_as (k + 1) HA2.out.2.1 jj11).mono ?_
          rintro e w12 ⟨rfl, rfl⟩
          go_wp2_with fail
          refine (jget_as (t := ⟨#[110, 101, 120, 116]⟩) jj11 (k : Int) (by unfold isI64; omega) (by rw [HA2.out.2.2.1]; rfl)).mono ?_
          rintro e w12 ⟨rfl, rfl⟩
          go_wp2_with fail
          refine (jget_as (t := ⟨#[]⟩) jj11 ((k : Int) + 1) (by unfold isI64; omega) (by rw [HA2.out.2.2.2.1]; rfl)).mono ?_
          rintro e w12 ⟨rfl, rfl⟩
          go_wp2_with fail
          refine (jget_as (t := ⟨#[]⟩) jj11 (-1) (by unfold isI64; omega) (by rw [HA2.out.2.2.2.2]; rfl)).mono ?_
          rintro e w12 ⟨rfl, rfl⟩
          have hMl : M.toList = List.replicate 20001 (Value.int .u8 0) := by
            rw [hM, hz1]
            exact toList_madeCells_one _ _
          obtain ⟨Z, hZ⟩ : ∃ Z, Z = List.replicate 20001 (0 : UInt8) := ⟨_, rfl⟩
          have hZl : Z.length = 20001 := by rw [hZ, List.length_replicate]
          have hcvZ := conv_at (w := w11.alloc (.cells M 5)) w11.heap.size 0 20001 20001 Z hZl (fun i hi => by
            rw [Nat.zero_add, hZ]
            exact zeros_cell hMl i hi)
          have hZb : (ba Z).size = 20001 := by rw [ba_size, hZl]
          have HZ := Lib.hid (And.intro hZl hZb)
          clear hMl hZ hZl hZb hM
          go_wp2_with fail
          refine (japp_as 1 (ba Z) (japp_long (by show 20000 < Z.length; rw [HZ.out.1]; omega)) (by decide) (g11.trans ((Fr.refl g11.fresh).alloc _)).fresh (d11.keep g11.fresh (M := fun _ => False) ((Fr.refl g11.fresh).alloc _) (fun _ hh => hh)) (jj11.keep g11.fresh (M := fun _ => False) ((Fr.refl g11.fresh).alloc _) (fun _ hh => hh)) (inv_japp HT.out.2.2.2.1 HT.out.2.2.2.2.1) (by omega) (by rw [HZ.out.2]; omega) hAb).mono ?_
          rintro e w13 ⟨rfl, L13, d13, jj13, f13⟩
          go_wp2_with fail
          go_ret
          exact law_head (g11.trans (((Fr.refl (M := MT) g11.fresh).alloc _).trans (f13.mono (M' := MT) mt)))

end Go.Proofs.Ytgocnjiabfmdpaa
