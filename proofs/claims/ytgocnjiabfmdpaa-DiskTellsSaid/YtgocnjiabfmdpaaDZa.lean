/- Walk of DiskTells. -/
import Derived.Test.YtgocnjiabfmdpaaDYp
import Derived.Test.YtgocnjiabfmdpaaDYf
import Derived.Test.YtgocnjiabfmdpaaDXg
import Derived.Deep.CutBlock
import Derived.Deep.DeepCutAuto
import Derived.Deep.RegionHeld3
import Derived.Deep.DrawnRows
namespace Go.Proofs.Ytgocnjiabfmdpaa
set_option maxRecDepth 8000
open Go.RowKit

theorem Fr.cell_no {M : Nat × Role → Prop} {L L1 : Lab} {w w1 : World} (h : Fr M L w L1 w1) {b : Nat} (hl : L b = none) (hb : b < w.heap.size) (o : Nat) : w1.cell? ⟨b, o, none⟩ = w.cell? ⟨b, o, none⟩ :=
  World.cell?_of_block (a := ⟨b, o, none⟩) (h.block b hb (fun t ht => by rw [hl] at ht; cases ht))

/-- The five cells of an act. -/
def AcAt (w : World) (b o : Nat) (a : Ac) (kv : Value) : Prop :=
  w.cell? ⟨b, o, none⟩ = some (.int .i64 a.act) ∧ w.cell? ⟨b, o + 1, none⟩ = some (.int .i64 a.f) ∧ w.cell? ⟨b, o + 2, none⟩ = some (.int .i64 a.n) ∧ w.cell? ⟨b, o + 3, none⟩ = some (.string a.s) ∧ w.cell? ⟨b, o + 4, none⟩ = some kv

theorem AcAt.of {w w1 : World} {b o : Nat} {a : Ac} {kv : Value} (h : AcAt w b o a kv) (hc : ∀ i, w1.cell? ⟨b, i, none⟩ = w.cell? ⟨b, i, none⟩) : AcAt w1 b o a kv :=
  ⟨(hc _).trans h.1, (hc _).trans h.2.1, (hc _).trans h.2.2.1, (hc _).trans h.2.2.2.1, (hc _).trans h.2.2.2.2⟩

theorem rsize_as {L : Lab} {w : World} {k d : Nat} {l : List Fl} {K : List Int} {s : St} (f z : Int) (hz : z = (s.now f).length) (h : RAt L w k d l K s) :
    Calls Try.prog 18 #[.pointer (some ⟨d, 0, none⟩), .int .i64 f] w fun e w' => e = .returned (.int .i64 z) ∧ Below w.heap.size w w' := by
  subst hz
  exact rsize_any f h

theorem size_at {L : Lab} {w : World} {k d : Nat} {s : St} (f z : Int) (hz : z = s.size f) (hf : isI64 f) (h : DAt L w k d s) :
    Calls Try.prog 17 #[.pointer (some ⟨d, 0, none⟩), .int .i64 f] w fun e w' => e = .returned (.int .i64 z) ∧ w = w' := by
  subst hz
  exact size_any f hf h

set_option maxRecDepth 100000 in
set_option maxHeartbeats 4000000 in
theorem tells_any {w : World} {v : Value} {l : List Ac} (f at_ z : Int) (hf : isI64 f) (hz : isI64 z) (h : ActsAt L0 w v l) :
    Calls Try.prog 3 #[v, .int .i64 f, .int .i64 at_, .int .i64 z] w (LawPost w) := by
  have hok : ∀ x ∈ l, x.ok := by obtain ⟨A, c, _, _, hok, _⟩ := h; exact hok
  have h' := h
  obtain ⟨A, ac, rfl, hml, _, _⟩ := h
  have HOK := Lib.hid (And.intro hok h')
  clear hok h'
  go_enter Try.func3, Try.ntmps3
  go_wp2_with fail
  refine (small_any (L := L0)).mono ?_
  rintro e w1 ⟨rfl, L1, f1⟩
  go_wp2_with fail
  refine (few_any (HOK.out.2.keep f1)).mono ?_
  rintro e w2 ⟨rfl, rfl⟩
  cases hfew : fewB l
  · go_wp2_with fail
    go_ret
    exact law_head f1
  have HF := Lib.hid hfew
  clear hfew
  go_wp2_with fail
  refine (New_any (L := L1) 0).mono ?_
  rintro e w2 ⟨d, L2, rfl, d2, f2⟩
  go_wp2_with fail
  refine (rnew_any (L := L2) 1 f2.fresh).mono ?_
  rintro e w3 ⟨r, L3, rfl, r3, f3⟩
  have d3 := d2.keep f2.fresh f3 (fun _ hh => hh)
  have g3 := ((f1.mono mt).trans (f2.mono mt)).trans (f3.mono (M' := MT) mt)
  go_wp2_with fail
  go_loopw [10, 12] (fun dv i wr => ∃ (j kd d : Nat) (L5 : Lab) (s : St) (l1 : List Fl) (K1 : List Int), j ≤ l.length ∧ i = .int .i64 j ∧ dv = .pointer (some ⟨d, 0, none⟩) ∧ kd ≠ 1 ∧ DAt L5 wr kd d s ∧ RAt L5 wr 1 r l1 K1 s ∧ Fr MT L0 w L5 wr ∧ Hid (Inv s ∧ KI K1 s ∧ (isFile f = false → Safe f [] s))) (fun _ i _ => l.length - (intOf i).toNat)
  case atStart => exact ⟨0, 0, d, L3, _, _, _, Nat.zero_le _, rfl, rfl, by decide, d3, r3, g3, Inv.new, fun hh => absurd rfl hh, fun _ => safe_new f⟩
  case round =>
    obtain ⟨j, kd, d, L5, s, l1, K1, hj, rfl, rfl, hkd, d5, r5, g5, HS⟩ := hrel
    by_cases hlt : j < l.length
    · obtain ⟨A', c', e', _, _, hcc⟩ := HOK.out.2.keep g5
      injection e' with e1 _ e2
      subst e1; subst e2
      obtain ⟨b, off, rfl, hlb, hb, hcc⟩ := hcc (by omega)
      have hall := hcc j hlt
      have hall0 := hcc 0 (by omega)
      obtain ⟨kv, c0, c1, c2, c3', c4', ha⟩ := hall
      obtain ⟨kv0, p0, p1, p2, p3, p4, pa⟩ := hall0
      have hin : l[j] ∈ l := List.getElem_mem hlt
      have hin0 : l[0]'(by omega) ∈ l := List.getElem_mem (by omega)
      obtain ⟨a, hae⟩ : ∃ a, l[j] = a := ⟨_, rfl⟩
      obtain ⟨a0, hae0⟩ : ∃ a0, l[0]'(by omega) = a0 := ⟨_, rfl⟩
      rw [hae] at c0 c1 c2 c3' ha hin
      rw [hae0] at p0 p1 p2 p3 pa hin0
      have HP : Hid (AcAt wr b (off + 0 * 5) a0 kv0 ∧ ArgI L5 wr kv0 a0.keep) := ⟨⟨p0, p1, p2, p3, p4⟩, pa⟩
      have HA0 : Hid (AcAt wr b (off + j * 5) a kv) := ⟨c0, c1, c2, c3', c4'⟩
      have hfm := fewB_mem HF.out a hin
      have hfm0 := fewB_mem HF.out a0 hin0
      have HAA := Lib.hid (And.intro (HOK.out.1 a hin) (And.intro hfm (And.intro (HOK.out.1 a0 hin0) hfm0)))
      obtain ⟨s', e', hact⟩ : ∃ s' e', s.act a = (s', e') := ⟨_, _, rfl⟩
      have hi' : Inv s' := by have := HS.out.1.act (HOK.out.1 a hin) (by omega); rw [hact] at this; exact this
      have hs' : isFile f = false → Safe f [] s' := fun hh => by have := (HS.out.2.2 hh).any HS.out.1 hh a; rw [hact] at this; exact this
      obtain ⟨sz, hsz⟩ : ∃ sz, sz = s'.size f := ⟨_, rfl⟩
      have hsz2 : sz = ((s'.now f).length : Int) := by rw [hsz]; exact size_any_number hs'
      have HI := Lib.hid (And.intro hi' (And.intro hs' (And.intro hsz hsz2)))
      have DO : ∀ (L6 : Lab) (w6 : World), Fresh L6 w6 → DAt L6 w6 kd d s → ArgI L6 w6 kv a.keep → Calls Try.prog 13 #[.pointer (some ⟨d, 0, none⟩), .agg #[.int .i64 a.act, .int .i64 a.f, .int .i64 a.n, .string a.s, kv]] w6 (CallPost L6 w6 kd d (s', e')) := fun L6 w6 q1 q2 q4 => by
        have := do_any a kv q1 q2 HS.out.1 HAA.out.1 (by omega) (by omega) q4
        rw [hact] at this; exact this
      have TL : ∀ (L6 : Lab) (w6 : World), Fresh L6 w6 → RAt L6 w6 1 r l1 K1 s → ArgI L6 w6 kv a.keep → Calls Try.prog 14 #[.pointer (some ⟨r, 0, none⟩), .agg #[.int .i64 a.act, .int .i64 a.f, .int .i64 a.n, .string a.s, kv]] w6 (RPost L6 w6 1 r (s', e')) := fun L6 w6 q1 q2 q4 => by
        have := tell_any a kv q1 q2 HS.out.1 HS.out.2.1 HAA.out.1 (by omega) (by omega) q4
        rw [hact] at this; exact this
      have HDO := Lib.hid DO
      have HTL := Lib.hid TL
      clear DO TL hae hae0 hcc hfm hfm0 hin hin0 hact hi' hs' hsz hsz2 p0 p1 p2 p3 p4 pa
      have fD : Fr (fun _ => False) L5 wr L5 wr.drew := (Fr.refl g5.fresh).drew
      have dD := d5.keep g5.fresh fD (fun _ hh => hh)
      have rD := r5.keep g5.fresh fD (fun _ hh => hh)
      have gD := g5.trans (fD.mono (M' := MT) mt)
      have aD := ha.keep fD
      have hkd' : (1 : Nat) ≠ kd := fun e => hkd e.symm
      go_upto_region 11 with fail
      go_cut [61] from 33 to 61 (fun u wx => u = .bool false ∧ ∃ (L7 : Lab) (l7 : List Fl) (K7 : List Int), DAt L7 wx kd d s' ∧ RAt L7 wx 1 r l7 K7 s' ∧ Fr MT L0 w L7 wx ∧ Fr MT L5 wr L7 wx ∧ KI K7 s')
      case first =>
        have zD : AcAt wr.drew b (off + j * 5) a kv := HA0.out.of (fun i => fD.cell_no hlb hb i)
        have hbD : b < wr.drew.heap.size := hb
        have hlbD := (fD.lab b hb).trans hlb
        have hee : (e' != e') = false := by simp
        have hdd : (s'.down != s'.down) = false := by simp
        have hzz : (sz != sz) = false := by simp
        go_region_held3 (fun w' => w'.cell? ⟨b, off + j * 5, none⟩ = some (.int .i64 a.act) ∧ w'.cell? ⟨b, off + j * 5 + 1, none⟩ = some (.int .i64 a.f) ∧ w'.cell? ⟨b, off + j * 5 + 2, none⟩ = some (.int .i64 a.n) ∧ w'.cell? ⟨b, off + j * 5 + 3, none⟩ = some (.string a.s) ∧ w'.cell? ⟨b, off + j * 5 + 4, none⟩ = some kv)
          (first | go_keep | exact zz6 | exact zz7 | exact zz8) (first
          | (go_at_call 13; refine (HDO.out L5 wr.drew gD.fresh dD aD).mono ?_; rintro e w6 ⟨rfl, L6, d6, f6⟩; have r6 := rD.keep gD.fresh f6 (na hkd'); have g6 := gD.trans (f6.mono (M' := MT) mt); have h6 := (fD.mono (M' := MT) mt).trans (f6.mono (M' := MT) mt); have a6 := aD.keep f6; have zz6 := zD.of (fun i => f6.cell_no hlbD hbD i); have u6 := (f6.lab b hbD).trans hlbD; have t6 := Nat.lt_of_lt_of_le hbD f6.size)
          | (go_at_call 14; refine (HTL.out L6 w6 g6.fresh r6 a6).mono ?_; rintro e w7 ⟨rfl, l7, L7, K7, r7, f7, k7⟩; have d7 := d6.keep g6.fresh f7 (na hkd); have g7 := g6.trans (f7.mono (M' := MT) mt); have h7 := h6.trans (f7.mono (M' := MT) mt); have zz7 := zz6.of (fun i => f7.cell_no u6 t6 i); have u7 := (f7.lab b t6).trans u6; have t7 := Nat.lt_of_lt_of_le t6 f7.size)
          | (go_at_call 14; refine (HTL.out L5 wr.drew gD.fresh rD aD).mono ?_; rintro e w6 ⟨rfl, l7, L6, K7, r6, f6, k7⟩; have d6 := dD.keep gD.fresh f6 (na hkd); have g6 := gD.trans (f6.mono (M' := MT) mt); have h6 := (fD.mono (M' := MT) mt).trans (f6.mono (M' := MT) mt); have a6 := aD.keep f6; have zz6 := zD.of (fun i => f6.cell_no hlbD hbD i); have u6 := (f6.lab b hbD).trans hlbD; have t6 := Nat.lt_of_lt_of_le hbD f6.size)
          | (go_at_call 13; refine (HDO.out L6 w6 g6.fresh d6 a6).mono ?_; rintro e w7 ⟨rfl, L7, d7, f7⟩; have r7 := r6.keep g6.fresh f7 (na hkd'); have g7 := g6.trans (f7.mono (M' := MT) mt); have h7 := h6.trans (f7.mono (M' := MT) mt); have zz7 := zz6.of (fun i => f7.cell_no u6 t6 i); have u7 := (f7.lab b t6).trans u6; have t7 := Nat.lt_of_lt_of_le t6 f7.size)
          | (go_at_call 15; refine (down_any d7).mono ?_; rintro e w9 ⟨rfl, rfl⟩)
          | (go_at_call 16; refine (rdown_any r7).mono ?_; rintro e w9 ⟨rfl, rfl⟩)
          | (go_at_call 17; refine (size_at f sz HI.out.2.2.1 hf d7).mono ?_; rintro e w9 ⟨rfl, rfl⟩)
          | (go_at_call 18; refine (rsize_as f sz HI.out.2.2.2 r7).mono ?_; rintro e w8 ⟨rfl, b8⟩; have d8 := d7.keep g7.fresh (Fr.below (M := fun _ => False) g7.fresh b8) (fun _ hh => hh); have r8 := r7.below g7.fresh b8; have g8 := g7.trans (Fr.below (M := MT) g7.fresh b8); have h8 := h7.trans (Fr.below (M := MT) g7.fresh b8); have zz8 := zz7.of (fun i => (Fr.below (M := MT) g7.fresh b8).cell_no u7 t7 i))
          | (go_at_call 17; refine (size_at f sz HI.out.2.2.1 hf d8).mono ?_; rintro e w9 ⟨rfl, rfl⟩))
        all_goals
          go_wp2_with fail
          go_meet
          exact ⟨rfl, _, _, _, d8, r8, g8, h8, k7⟩
      case rest =>
        obtain ⟨rfl, L7, l7, K7, d7, r7, g7, h7, k7⟩ := hcut
        obtain ⟨wm, rfl⟩ : ∃ x, x = wc := ⟨_, rfl⟩
        have hqq : ((l.length : Int)).tdiv 2 = ((l.length / 2 : Nat) : Int) := rfl
        obtain ⟨q, hq⟩ : ∃ q, q = l.length / 2 := ⟨_, rfl⟩
        rw [← hq] at hqq
        have hwq : wrap64 (q : Int) = (q : Int) := by unfold wrap64; omega
        clear hq
        by_cases hmid : j = q
        · subst hmid
          have P0 := HP.out.1.of (fun i => h7.cell_no hlb hb i)
          have PA := HP.out.2.keep h7
          have u7 := (h7.lab b hb).trans hlb
          have t7 := Nat.lt_of_lt_of_le hb h7.size
          have hk2 : kd + 2 ≠ kd := by omega
          have hk1 : (1 : Nat) ≠ kd + 2 := by omega
          have HKK := Lib.hid (And.intro hk2 hk1)
          clear hk2 hk1
          go_wp2_with fail
          refine (Copy_any (kd + 2) HKK.out.1 g7.fresh d7 HI.out.1).mono ?_
          rintro e w8 ⟨c, L8, rfl, c8, f8⟩
          have hka : kd ≠ kd + 2 := fun e => HKK.out.1 e.symm
          have d8 := d7.keep g7.fresh f8 (na hka)
          have r8 := r7.keep g7.fresh f8 (na HKK.out.2)
          have g8 := g7.trans (f8.mono (M' := MT) mt)
          have P8 := P0.of (fun i => f8.cell_no u7 t7 i)
          have PA8 := PA.keep f8
          rw [Nat.zero_mul, Nat.add_zero] at P8
          obtain ⟨z0, z1, z2, z3, z4⟩ := P8
          have hsz0 : (0 : Int) < (l.length : Int) := by omega
          clear P0 PA
          go_wp2_with fail
          refine (do_any a0 kv0 g8.fresh d8 HI.out.1 HAA.out.2.2.1 (by have := HAA.out.2.2.2; omega) (by have := HAA.out.2.2.2; omega) PA8).mono ?_
          rintro e w9 ⟨rfl, L9, d9, f9⟩
          have c9 := c8.keep g8.fresh f9 (na HKK.out.1)
          have r9 := r8.keep g8.fresh f9 (na hkd')
          have g9 := g8.trans (f9.mono (M' := MT) mt)
          have i9 : Inv (s'.act a0).1 := HI.out.1.act HAA.out.2.2.1 (by have := HAA.out.2.2.2; omega)
          clear z0 z1 z2 z3 z4 d8 c8 r8
          go_wp2_with fail
          refine (Sync_any f g9.fresh d9 i9 hf).mono ?_
          rintro e w10 ⟨rfl, L10, d10, f10⟩
          have c10 := c9.keep g9.fresh f10 (na HKK.out.1)
          have r10 := r9.keep g9.fresh f10 (na hkd')
          have g10 := g9.trans (f10.mono (M' := MT) mt)
          go_wp2_with fail
          go_roundw
          case rel => exact ⟨j + 1, kd + 2, c, L10, s', l7, K7, by omega, by go_num, rfl, by omega, c10, r10, g10, HI.out.1, k7, HI.out.2.1⟩
          case measure => simp [intOf]; omega
        · have hmq : ((j : Int) == (q : Int)) = false := beq_eq_false_iff_ne.2 (by omega)
          go_wp2_with fail
          go_roundw
          case rel => exact ⟨j + 1, kd, d, L7, s', l7, K7, by omega, by go_num, rfl, hkd, d7, r7, g7, HI.out.1, k7, HI.out.2.1⟩
          case measure => simp [intOf]; omega
    · obtain rfl : j = l.length := by omega
      obtain ⟨X, E, hX⟩ : ∃ X E, s.read f at_ z = (X, E) := ⟨_, _, rfl⟩
      have hr1 := read_any f at_ z hf d5
      have hr2 := rread_any f at_ z r5 HS.out.1 hz.2
      rw [hX] at hr1 hr2
      have H1 := Lib.hid (And.intro hr1 hr2)
      clear hr1 hr2
      go_wp2_with fail
      refine H1.out.1.mono ?_
      rintro e w6 ⟨rfl, rfl⟩
      go_wp2_with fail
      refine H1.out.2.mono ?_
      rintro e w7 ⟨rfl, b7⟩
      go_wp2_with fail
      go_ret
      exact law_head (g5.trans (Fr.below (M := MT) g5.fresh b7))

end Go.Proofs.Ytgocnjiabfmdpaa
