/- The reference's journal in memory; its Sync and Append. The reference's journal: Append. The reference's journal: Open. -/
import Derived.Test.YtgocnjiabfmdpaaSab
import Derived.Test.YtgocnjiabfmdpaaDYop
import Derived.Test.YtgocnjiabfmdpaaJdg
import Derived.Test.YtgocnjiabfmdpaaNd
import Derived.Deep.CutBlock
import Derived.Deep.DeepCutAuto
import Derived.Deep.RegionHeld3
import Derived.Deep.DrawnRows
import Derived.StillTailTactics
namespace Go.Proofs.Ytgocnjiabfmdpaa
set_option maxRecDepth 8000
open Go.RowKit Wire

def qcells (d : Nat) (f : Int) (rv : Value) (bad : Bool) : Array Value := #[.pointer (some ⟨d, 0, none⟩), .int .i64 f, rv, .bool bad]

/-- The reference's journal at block j, its disk at block d. -/
def QAt (L : Lab) (w : World) (kj j d : Nat) (f : Int) (a : List (List UInt8)) (bad : Bool) : Prop :=
  ∃ rv, L j = some (kj, .disk) ∧ w.heap[j]? = some (.cells (qcells d f rv bad) 60 (0, 0)) ∧ Sl L w 9 1 rv a.length (a.map strV) (kj, .list)

section
variable {M : Nat × Role → Prop} {L L1 : Lab} {w w1 : World} {kj j d : Nat} {f : Int} {a : List (List UInt8)} {bad : Bool}

theorem QAt.keep (h : QAt L w kj j d f a bad) (hL : Fresh L w) (hf : Fr M L w L1 w1) (hm : ∀ r, ¬ M (kj, r)) : QAt L1 w1 kj j d f a bad := by
  obtain ⟨rv, a1, a2, a3⟩ := h
  exact ⟨rv, hf.lab_of hL a1, (hf.keeps hL a1 (hm _)).trans a2, a3.keep hL hf (hm _)⟩

theorem QAt.setBad (h : QAt L w kj j d f a bad) (b : Bool) : QAt L (w.setCell ⟨j, 3, none⟩ (.bool b)) kj j d f a b := by
  obtain ⟨rv, a1, a2, a3⟩ := h
  refine ⟨rv, a1, blk_set a2 3 _, ownsRow_of_blocks a3.1 (fun g hg => Below.heap_setCell _ _ _ _ (fun e => ?_)), a3.2⟩
  have := a3.2 g hg
  rw [e] at this
  have h2 : L j = some (kj, .list) := this
  rw [a1] at h2
  injection h2 with h2
  injection h2 with _ h2
  cases h2
end

theorem sl_sat {L : Lab} {w : World} {v : Value} {a : List (List UInt8)} {t : Nat × Role} (h : Sl L w 9 1 v a.length (a.map strV) t) : SAt w v a := by
  rcases own_form h.1 with ⟨rfl, h0⟩ | ⟨g, c, rfl, _, _⟩
  · exact ⟨none, 0, by rw [h0], fun j hj => by omega⟩
  · refine ⟨_, c, rfl, fun j hj => ⟨g, rfl, (h.1.lt g rfl).2, ?_⟩⟩
    rw [h.1.cellAt j (by omega)]
    simp [strV, List.getElem?_eq_getElem hj]

/-- What a call leaves of the reference's disk and journal. -/
def RJPost (L : Lab) (w : World) (k kj j d : Nat) (f : Int) (r : (St × List (List UInt8) × Bool) × Int) (e : Ending) (w' : World) : Prop :=
  e = .returned (.int .i64 r.2) ∧ ∃ l' L' K', RAt L' w' k d l' K' r.1.1 ∧ KI K' r.1.1 ∧ QAt L' w' kj j d f r.1.2.1 r.1.2.2 ∧ Fr (MJ k kj) L w L' w'

theorem qfr_set {L : Lab} {w : World} {j : Nat} {r : Role} (kj : Nat) (h : L j = some (kj, r)) (hL : Fresh L w) (o : Nat) (u : Value) : Fr (MA kj) L w L (w.setCell ⟨j, o, none⟩ u) := fr_set kj h hL o u

set_option maxRecDepth 100000 in
set_option maxHeartbeats 1000000 in
theorem rjsync_any {L : Lab} {w : World} {k kj j d : Nat} {l : List Fl} {K : List Int} {s : St} {a : List (List UInt8)} {bad : Bool} (f : Int) (hk : k ≠ kj) (hL : Fresh L w) (hd : RAt L w k d l K s) (hj : QAt L w kj j d f a bad) (hi : Inv s) (hK : KI K s) :
    Calls Try.prog 32 #[.pointer (some ⟨j, 0, none⟩)] w (RJPost L w k kj j d f (((jsync s f bad).1.1, a, (jsync s f bad).1.2), (jsync s f bad).2)) := by
  have hj' := hj
  obtain ⟨rv, a1, a2, a3⟩ := hj
  have c0 := blk_cell a2 0
  have c1 := blk_cell a2 1
  have c4 := blk_cell a2 3
  simp [qcells] at c0 c1 c4
  cases bad
  · go_enter Try.func32, Try.ntmps32
    go_wp2_with fail
    go_still_tail 8, (by kernel_rfl)
    change wpList _ _ _ _ _ w.drew
    have f0 : Fr (fun _ => False) L w L w.drew := (Fr.refl hL).drew
    have d0 := hd.keep hL f0 (fun _ hh => hh)
    have j0 := hj'.keep hL f0 (fun _ hh => hh)
    go_wp2_with fail
    refine (rSync_any f f0.fresh d0 hi hK).mono ?_
    rintro e w1 ⟨rfl, l1, L1, K1, d1, f1, k1⟩
    have j1 := j0.keep f0.fresh f1 (na' hk)
    obtain ⟨s1, hs1⟩ : ∃ s1, s1 = s.sync f := ⟨_, rfl⟩
    rw [← hs1] at d1 k1 ⊢
    have j2 := j1.setBad (s1.2 != 0)
    obtain ⟨rv1, b1, b2, b3⟩ := j1
    have q4 := blk_free b2 3
    have q0 := blk_cell b2 3
    have fr1 : Fr (MJ k kj) L w L1 (w1.setCell ⟨j, 3, none⟩ (.bool (s1.2 != 0))) := ((f0.mono (fun _ hh => hh.elim)).trans (f1.mono (M' := MJ k kj) mj0)).trans ((qfr_set kj b1 f1.fresh 3 (.bool (s1.2 != 0))).mono mj1)
    have dd : RAt L1 (w1.setCell ⟨j, 3, none⟩ (.bool (s1.2 != 0))) k d l1 K1 s1.1 := d1.keep f1.fresh (qfr_set kj b1 f1.fresh 3 (.bool (s1.2 != 0))) (na hk)
    have hjs : jsync s f false = ((s1.1, (s1.2 != 0)), s1.2) := by unfold jsync; rw [hs1]; simp [bne, BEq.beq]
    have HJ := Lib.hid (And.intro hjs (And.intro j2 (And.intro fr1 (And.intro dd k1))))
    simp [qcells] at q0
    clear hs1 hjs j2 fr1 dd b2 k1
    go_wp2_with fail
    go_ret
    rw [HJ.out.1]
    exact ⟨rfl, l1, L1, K1, HJ.out.2.2.2.1, HJ.out.2.2.2.2, HJ.out.2.1, HJ.out.2.2.1⟩
  · have HJ : Hid (jsync s f true = ((s, true), 7)) := show _ = _ by unfold jsync; rw [if_pos rfl]
    go_enter Try.func32, Try.ntmps32
    go_wp2_with fail
    go_ret
    rw [HJ.out]
    exact ⟨rfl, l, L, K, hd, hK, hj', Fr.refl hL⟩

end Go.Proofs.Ytgocnjiabfmdpaa

namespace Go.Proofs.Ytgocnjiabfmdpaa
set_option maxRecDepth 8000
open Go.RowKit Wire

theorem qat_push {L : Lab} {w w' : World} {kj j d : Nat} {f : Int} {rv v' : Value} {a' : List (List UInt8)} (hL : Fresh L w) (a1 : L j = some (kj, .disk)) (a2 : w.heap[j]? = some (.cells (qcells d f rv false) 60 (0, 0)))
    (hbel : Below w.heap.size w w') (hown : w'.ownsRow w.heap.size 9 1 v' a'.length (a'.map strV)) :
    ∃ L', QAt L' (w'.setCell ⟨j, 2, none⟩ v') kj j d f a' false ∧ Fr (MA kj) L w L' (w'.setCell ⟨j, 2, none⟩ v') := by
  obtain ⟨L1, f1, hsl⟩ := own_label (M := fun _ => False) (kj, .list) (Fr.below hL hbel) hown (Nat.le_refl _)
  have b1 := f1.lab_of hL a1
  have f2 := fr_set kj b1 f1.fresh 2 v'
  refine ⟨L1, ⟨v', f2.lab_of f1.fresh b1, ?_, ?_⟩, (f1.mono (fun _ hh => hh.elim)).trans f2⟩
  · rw [blk_set ((f1.keeps hL a1 (fun h => h)).trans a2) 2 v']; rfl
  · refine ⟨ownsRow_of_blocks hsl.1 (fun g hg => Below.heap_setCell _ _ _ _ (fun e => ?_)), hsl.2⟩
    have h1 := hsl.2 g hg
    rw [e, b1] at h1; cases h1

theorem QAt.z {L : Lab} {w : World} {kj j d : Nat} {f : Int} {a : List (List UInt8)} {bad : Bool} (h : QAt L w kj j d f a bad) : w.cell? ⟨j, 0, none⟩ = some (.pointer (some ⟨d, 0, none⟩)) ∧ w.cell? ⟨j, 1, none⟩ = some (.int .i64 f) := by
  obtain ⟨rv, a1, a2, a3⟩ := h
  have c0 := blk_cell a2 0
  have c1 := blk_cell a2 1
  simp [qcells] at c0 c1
  exact ⟨c0, c1⟩

set_option maxRecDepth 100000 in
set_option maxHeartbeats 2000000 in
theorem rjapp_any {L : Lab} {w : World} {k kj j d : Nat} {l : List Fl} {K : List Int} {s : St} {a : List (List UInt8)} {bad : Bool} (f : Int) (t : ByteArray) (hk : k ≠ kj) (hL : Fresh L w) (hd : RAt L w k d l K s) (hj : QAt L w kj j d f a bad) (hi : Inv s) (hK : KI K s) (ht : t.size ≤ 900000) (hal : (jforms a).length ≤ 20000000) (has : ∀ x ∈ a, x.length ≤ 1000000) :
    Calls Try.prog 30 #[.pointer (some ⟨j, 0, none⟩), .string t] w (RJPost L w k kj j d f (japp s f a bad (bts t))) := by
  have hj' := hj
  obtain ⟨rv, a1, a2, a3⟩ := hj
  have c2 := blk_cell a2 2
  have c3 := blk_cell a2 3
  simp [qcells] at c2 c3
  have hbt : (bts t).length = t.size := bts_len t
  cases bad
  · by_cases h1 : 20000 < t.size
    · have HJ : Hid (japp s f a false (bts t) = ((s, a, false), 3)) := show _ = _ from japp_long (by rw [hbt]; exact h1)
      clear a2 a3
      go_enter Try.func30, Try.ntmps30
      go_wp2_with fail
      go_ret
      rw [HJ.out]
      exact ⟨rfl, l, L, K, hd, hK, hj', Fr.refl hL⟩
    · have hFl := jform_len_le (bts t) (by omega)
      rw [hbt] at hFl
      have hforms := rforms_any (w := w) (sl_sat a3) (by omega) has
      obtain ⟨F, hF⟩ : ∃ F, F = jform (bts t) := ⟨_, rfl⟩
      obtain ⟨n, hn⟩ : ∃ n, n = (jforms a).length := ⟨_, rfl⟩
      have hfz : (ba F).size = F.length := ba_size F
      have hnz : (ba (jforms a)).size = n := by rw [hn]; exact ba_size _
      rw [← hF] at hFl
      rw [← hn] at hal
      have hform : ∀ W, Calls Try.prog 74 #[.string t] W fun e w' => e = .returned (.string (ba F)) ∧ Below W.heap.size W w' := fun W => by rw [hF]; exact rform_any t W (by omega)
      have HF := Lib.hid (And.intro hF (And.intro hn (And.intro hforms hform)))
      clear hF hn hforms hform
      by_cases h2 : 1048576 < n + F.length
      · have HJ : Hid (japp s f a false (bts t) = ((s, a, false), 6)) := show _ = _ from japp_full (by rw [hbt]; exact h1) (by rw [← HF.out.1, ← HF.out.2.1]; exact h2)
        have h2I : (1048576 : Int) < (n : Int) + (F.length : Int) := by omega
        clear a2 a3
        go_enter Try.func30, Try.ntmps30
        go_wp2_with fail
        refine HF.out.2.2.1.mono ?_
        rintro e w1 ⟨rfl, hb1⟩
        go_wp2_with fail
        refine (HF.out.2.2.2 _).mono ?_
        rintro e w2 ⟨rfl, hb2⟩
        have hb := hb1.trans (hb2.mono hb1.size)
        go_wp2_with fail
        go_ret
        rw [HJ.out]
        have fb : Fr (fun _ => False) L w L w2 := Fr.below hL hb
        exact ⟨rfl, l, L, K, hd.keep hL fb (fun _ hh => hh), hK, hj'.keep hL fb (fun _ hh => hh), fb.mono (fun _ hh => hh.elim)⟩
      · obtain ⟨q, hq⟩ : ∃ q, q = s.write f (n : Nat) F := ⟨_, rfl⟩
        have h2I : ¬ (1048576 : Int) < (n : Int) + (F.length : Int) := by omega
        have HQ : Hid (s.write f (n : Nat) (ba F).data.toList = q) := show _ = _ by rw [ba_toList, hq]
        obtain ⟨sq, x⟩ := q
        have HJ0 : Hid (x ≠ 0 → japp s f a false (bts t) = ((sq, a, true), x)) := show _ → _ from fun hx => japp_fail (r := (sq, x)) (by rw [hbt]; exact h1) (by rw [← HF.out.1, ← HF.out.2.1]; exact h2) (by rw [← HF.out.1, ← HF.out.2.1]; exact hq.symm) hx
        have HJ1 : Hid (x = 0 → japp s f a false (bts t) = ((sq, a ++ [bts t], false), 0)) := show _ → _ from fun hx => japp_ok (r := (sq, x)) (by rw [hbt]; exact h1) (by rw [← HF.out.1, ← HF.out.2.1]; exact h2) (by rw [← HF.out.1, ← HF.out.2.1]; exact hq.symm) hx
        have HAL : Hid (a.length ≤ 20000000) := show _ ≤ _ by have := jforms_count a; have := HF.out.2.1; omega
        clear a2 a3 hq
        go_enter Try.func30, Try.ntmps30
        go_wp2_with fail
        refine HF.out.2.2.1.mono ?_
        rintro e w1 ⟨rfl, hb1⟩
        go_wp2_with fail
        refine (HF.out.2.2.2 _).mono ?_
        rintro e w2 ⟨rfl, hb2⟩
        have fb : Fr (fun _ => False) L w L w2 := Fr.below hL (hb1.trans (hb2.mono hb1.size))
        have d2 := hd.keep hL fb (fun _ hh => hh)
        have j2 := hj'.keep hL fb (fun _ hh => hh)
        clear hb1 hb2
        go_upto_region 8 with fail
        go_cut [6] (fun u wx => u = .int .i64 x ∧ ∃ (l7 : List Fl) (L7 : Lab) (K7 : List Int), RAt L7 wx k d l7 K7 sq ∧ KI K7 sq ∧ QAt L7 wx kj j d f a false ∧ Fr (MJ k kj) L w L7 wx)
        case first =>
          have fD : Fr (fun _ => False) L w2 L w2.drew := (Fr.refl fb.fresh).drew
          have dD := d2.keep fb.fresh fD (fun _ hh => hh)
          have jD := j2.keep fb.fresh fD (fun _ hh => hh)
          have zD := jD.z
          have hn64 : isI64 (n : Int) := by unfold isI64; omega
          have hF6 : (ba F).size ≤ 1000000 := by omega
          obtain ⟨y0, y1⟩ := zD
          go_region_held3 (fun w' => w'.cell? ⟨j, 0, none⟩ = some (.pointer (some ⟨d, 0, none⟩)) ∧ w'.cell? ⟨j, 1, none⟩ = some (.int .i64 f)) (first | go_keep | exact zz6 | exact zz7) (first
            | (go_at_call 74; refine (HF.out.2.2.2 w2.drew).mono ?_; rintro e w6 ⟨rfl, b6⟩; have f6 : Fr (fun _ => False) L w2.drew L w6 := Fr.below fD.fresh b6; have d6 := dD.keep fD.fresh f6 (fun _ hh => hh); have j6 := jD.keep fD.fresh f6 (fun _ hh => hh); have zz6 := j6.z)
            | (go_at_call 58; refine (rWrite_any f (n : Nat) (ba F) f6.fresh d6 hi hK hn64 hF6).mono ?_; rw [HQ.out]; rintro e w7 ⟨rfl, l7, L7, K7, r7, f7, k7⟩; have j7 := j6.keep f6.fresh f7 (na' hk); have zz7 := j7.z))
          all_goals
            go_wp2_with fail
            go_meet
            exact ⟨rfl, l7, L7, K7, r7, k7, j7, (((fb.trans fD).trans f6).mono (fun _ hh => hh.elim)).trans (f7.mono (M' := MJ k kj) mj0)⟩
        case rest =>
          obtain ⟨rfl, l7, L7, K7, d7, k7, j7, f7⟩ := hcut
          obtain ⟨wm, rfl⟩ : ∃ y, y = wc := ⟨_, rfl⟩
          by_cases hx : x = 0
          · subst hx
            have HJ := Lib.hid (HJ1.out rfl)
            have j7' := j7
            obtain ⟨rv7, b1, b2, b3⟩ := j7
            have e2 := blk_cell b2 2
            have lj := blk_lt b2
            simp [qcells] at e2
            have key : ∃ v5 w5 v6 w6, (Builtin.append_ #[57, 57] 57 #[.slice (some ⟨wm.heap.size, 0, none⟩) 0 0, rv7]).run Try.prog (wm.alloc (.cells #[] 9)) = .ok v5 w5 ∧ (Builtin.append_ #[57, 57] 57 #[v5, .slice (some ⟨w5.heap.size, 0, none⟩) 1 1]).run Try.prog (w5.alloc (.cells #[.string t] 9)) = .ok v6 w6 ∧ (∃ A m c, v5 = .slice A m c) ∧ (∃ A m c, v6 = .slice A m c) ∧ (∃ u, w6.cell? ⟨j, 2, none⟩ = some u) ∧ w6.frozen? ⟨j, 2, none⟩ = false ∧
                ∃ L', QAt L' (w6.setCell ⟨j, 2, none⟩ v6) kj j d f (a ++ [bts t]) false ∧ Fr (MA kj) L7 wm L' (w6.setCell ⟨j, 2, none⟩ v6) := by
              obtain ⟨i0, hi0, hz0, hz1, hz2⟩ := info_parts Try.info9
              have hal2 := HAL.out
              have hsrc : Src (wm.alloc (.cells #[] 9)) rv7 a.length (a.map strV) := (sl_src b3).below ((Below.refl _ _).alloc (Nat.le_refl _) _)
              obtain ⟨v5, w5, r5, o5, g5, at5⟩ := run_append_src (P := Try.prog) (wm.alloc (.cells #[] 9)) wm.heap.size 57 57 9 i0 (.string ByteArray.empty) 16 Try.underlying57 hi0 hz0 hz1 hz2 rfl (.slice (some ⟨wm.heap.size, 0, none⟩) 0 0) 0 [] (own_empty (Nat.le_refl _) (heap_alloc_new wm _)) rv7 a.length (a.map strV) (List.length_map ..) hsrc (fun u hu => by obtain ⟨y, _, rfl⟩ := List.mem_map.1 hu; rfl) (by unfold maxLen; omega) (by omega) (by simp)
              have bl5 : Below wm.heap.size wm w5 := below_grown ((Below.refl _ _).alloc (Nat.le_refl _) _) g5 (fun g hg => own_ge (Nat.le_refl _) hg) (Nat.le_refl _)
              simp only [Nat.zero_add, List.nil_append] at o5
              obtain ⟨v6, w6, r6, o6, g6, at6⟩ := run_append_src (P := Try.prog) (w5.alloc (.cells #[.string t] 9)) wm.heap.size 57 57 9 i0 (.string ByteArray.empty) 16 Try.underlying57 hi0 hz0 hz1 hz2 rfl v5 a.length (a.map strV) (World.ownsRow.alloc o5 _) (.slice (some ⟨w5.heap.size, 0, none⟩) 1 1) 1 [.string t] rfl (src_one (heap_alloc_new w5 _)) (by simp [Value.oneCell']) (by unfold maxLen; omega) (by omega) (by have := bl5.size; simp; omega)
              have bl6 : Below wm.heap.size wm w6 := below_grown (bl5.alloc bl5.size _) g6 (fun g hg => (World.ownsRow.lt o5 g hg).1) (Nat.le_refl _)
              have o6' : w6.ownsRow wm.heap.size 9 1 v6 (a ++ [bts t]).length ((a ++ [bts t]).map strV) := by
                rw [List.length_append, List.map_append]
                exact o6
              have q6 := (bl6.block j (blk_lt b2)).trans b2
              have q62 := blk_cell q6 2
              simp [qcells] at q62
              exact ⟨v5, w5, v6, w6, r5, r6, own_slice (own_base o5), own_slice (own_base o6), ⟨_, q62⟩, blk_free q6 2, qat_push f7.fresh b1 b2 bl6 o6'⟩
            obtain ⟨v5, w5, v6, w6, r5, r6, ⟨A5, m5, c5, rfl⟩, ⟨A6, m6, c6, rfl⟩, ⟨u6, q6⟩, q6f, L8, j8, f8⟩ := key
            have d8 := d7.keep f7.fresh f8 (na hk)
            have HE := Lib.hid (And.intro j8 (And.intro f8 d8))
            clear b1 b2 b3 j8 f8 d8
            go_wp2_with (first
              | (at_builtin; refine Lib.wpList_append_run _ rfl (.tmp 45) (.tmp 49) 57 57 rfl _ _ rfl rfl _ _ r5 ?_)
              | (at_builtin; refine Lib.wpList_append_run _ rfl (.tmp 50) (.tmp 52) 57 57 rfl _ _ rfl rfl _ _ r6 ?_))
            go_ret
            rw [HJ.out]
            exact ⟨rfl, l7, L8, K7, HE.out.2.2, k7, HE.out.1, f7.trans (HE.out.2.1.mono mj1)⟩
          · have HJ := Lib.hid (HJ0.out hx)
            have hb : ((x : Int) != 0) = true := bne_iff_ne.2 hx
            have j8 := j7.setBad true
            obtain ⟨rv7, b1, b2, b3⟩ := j7
            have e3 := blk_cell b2 3
            have e3f := blk_free b2 3
            simp [qcells] at e3
            have f8 := fr_set kj b1 f7.fresh 3 (.bool true)
            have d8 := d7.keep f7.fresh f8 (na hk)
            have HE := Lib.hid (And.intro j8 (And.intro f8 d8))
            clear b1 b2 b3 j8 f8 d8 hx
            go_wp2_with fail
            go_ret
            rw [HJ.out]
            exact ⟨rfl, l7, L7, K7, HE.out.2.2, k7, HE.out.1, f7.trans (HE.out.2.1.mono mj1)⟩
  · have HJ : Hid (japp s f a true (bts t) = ((s, a, true), 7)) := show _ = _ from japp_bad _ _ _ _
    clear a2 a3
    go_enter Try.func30, Try.ntmps30
    go_wp2_with fail
    go_ret
    rw [HJ.out]
    exact ⟨rfl, l, L, K, hd, hK, hj', Fr.refl hL⟩

end Go.Proofs.Ytgocnjiabfmdpaa

namespace Go.Proofs.Ytgocnjiabfmdpaa
set_option maxRecDepth 8000
open Go.RowKit Wire

def ROPost (L : Lab) (w : World) (k kj d : Nat) (f : Int) (r : (St × Option (List (List UInt8))) × Int) (e : Ending) (w' : World) : Prop :=
  ∃ l' L' K', RAt L' w' k d l' K' r.1.1 ∧ KI K' r.1.1 ∧ Fr (MA k) L w L' w' ∧
    ((r.1.2 = none ∧ e = .returned (.tuple #[.pointer none, .int .i64 r.2])) ∨ ∃ a j, r.1.2 = some a ∧ e = .returned (.tuple #[.pointer (some ⟨j, 0, none⟩), .int .i64 r.2]) ∧ QAt L' w' kj j d f a false)

theorem qat_new {L : Lab} {w : World} {kj d : Nat} {f : Int} {a : List (List UInt8)} {rv : Value} {cs : Array Value} (hcs : cs = qcells d f rv false) (hL : Fresh L w) (hs : Sl L w 9 1 rv a.length (a.map strV) (kj, .list)) :
    ∃ L', QAt L' (w.alloc (.cells cs 60)) kj w.heap.size d f a false ∧ Fr (fun _ => False) L w L' (w.alloc (.cells cs 60)) := by
  subst hcs
  have f1 : Fr (fun _ => False) L w (setL L w.heap.size (kj, .disk)) (w.alloc (.cells (qcells d f rv false) 60)) := ((Fr.refl hL).alloc _).label (Nat.le_refl _) (by simp) _
  exact ⟨_, ⟨rv, setL_same _ _ _, heap_alloc_new w _, hs.keep hL f1 (fun hh => hh)⟩, f1⟩

theorem read_as0 {L : Lab} {w : World} {k d : Nat} {l : List Fl} {K : List Int} {s1 : St} {f : Int} {T : List UInt8} (z : Int) (h : RAt L w k d l K s1) (hi : Inv s1) (hz : z = (T.length : Nat)) (hzm : T.length ≤ 9000000) (hr : s1.read f 0 (T.length : Nat) = (T, 0)) :
    Calls Try.prog 22 #[.pointer (some ⟨d, 0, none⟩), .int .i64 f, .int .i64 0, .int .i64 z] w fun e w' => e = .returned (.tuple #[.string (ba T), .int .i64 0]) ∧ Below w.heap.size w w' := by
  subst hz
  have := rread_any f 0 (T.length : Nat) h hi (by omega)
  rw [hr] at this
  exact this

theorem rsize_eq {L : Lab} {w : World} {k d : Nat} {l : List Fl} {K : List Int} {s1 : St} {f : Int} {T : List UInt8} (h : RAt L w k d l K s1) (hT : T = s1.now f) :
    Calls Try.prog 18 #[.pointer (some ⟨d, 0, none⟩), .int .i64 f] w fun e w' => e = .returned (.int .i64 (T.length : Nat)) ∧ Below w.heap.size w w' := by
  subst hT
  exact rsize_any f h

set_option maxRecDepth 100000 in
set_option maxHeartbeats 4000000 in
theorem rjopen_any {L : Lab} {w : World} {k d : Nat} {l : List Fl} {K : List Int} {s : St} (kj : Nat) (f : Int) (hk : k ≠ kj) (hL : Fresh L w) (hd : RAt L w k d l K s) (hi : Inv s) (hK : KI K s) (hcapF : ((s.sync f).1.now f).length ≤ 9000000) :
    Calls Try.prog 26 #[.pointer (some ⟨d, 0, none⟩), .int .i64 f] w (ROPost L w k kj d f (jopen s f)) := by
  cases hfile : isFile f
  · have HJ := Lib.hid (jopen_arg (s := s) hfile)
    by_cases h0 : f < 0
    · clear hfile
      go_enter Try.func26, Try.ntmps26
      go_wp2_with fail
      go_ret2
      rw [HJ.out]
      exact ⟨l, L, K, hd, hK, Fr.refl hL, Or.inl ⟨rfl, rfl⟩⟩
    · have h1 : 15 < f := by unfold isFile at hfile; simp at hfile; omega
      clear hfile
      go_enter Try.func26, Try.ntmps26
      go_wp2_with fail
      go_ret2
      rw [HJ.out]
      exact ⟨l, L, K, hd, hK, Fr.refl hL, Or.inl ⟨rfl, rfl⟩⟩
  · have hff := isFile_iff.1 hfile
    have h0 : ¬ f < 0 := by omega
    have h16 : ¬ 15 < f := by omega
    have HI := Lib.hid hfile
    clear hfile hff
    obtain ⟨r, hr⟩ : ∃ r, s.sync f = r := ⟨_, rfl⟩
    have his : Inv (s.sync f).1 := hi.sync f
    rw [hr] at his hcapF
    by_cases hx : r.2 = 0
    · obtain ⟨s1, x⟩ := r
      simp only at hx
      subst hx
      obtain ⟨hrd, hdn⟩ := sync_read hr
      obtain ⟨T, hT⟩ : ∃ T, T = s1.now f := ⟨_, rfl⟩
      simp only at hcapF
      rw [← hT] at hcapF
      have hsz : s1.size f = (T.length : Nat) := by unfold St.size; rw [if_pos HI.out, hT]
      rw [hsz, ← hT] at hrd
      have HR := Lib.hid (And.intro hr (And.intro hrd (And.intro his hT)))
      clear hrd hdn his hsz hT
      have hlen := recs_len T
      have hbT : (ba T).size = T.length := ba_size T
      obtain ⟨A, hA⟩ : ∃ A, A = jrecs T := ⟨_, rfl⟩
      have hPost : ∀ W, Calls Try.prog 70 #[.string (ba T)] W fun e W' => ∃ v, e = .returned v ∧ OwnS W' W.heap.size v A ∧ Below W.heap.size W W' := fun W => by
        rw [hA]; exact rrecords_any (ba T) W (by omega)
      have hAs : ∀ x ∈ A, x.length ≤ 1000000 := fun x hx => by rw [hA] at hx; have := recs_small T x hx; omega
      rw [← hA] at hlen
      obtain ⟨n, hn⟩ : ∃ n, n = (jforms A).length := ⟨_, rfl⟩
      have hnz : (ba (jforms A)).size = n := by rw [hn]; exact ba_size _
      have hnT : n ≤ T.length := by omega
      have hAn : (jforms A).length ≤ 100000000 := by omega
      have HP := Lib.hid (And.intro hA (And.intro hPost (And.intro hAs (And.intro hn hAn))))
      clear hA hPost hAs hlen hn hAn
      by_cases hcut : n < T.length
      · obtain ⟨q, hq⟩ : ∃ q, s1.trunc f (n : Nat) = q := ⟨_, rfl⟩
        have hcutI : (n : Int) < (T.length : Int) := by omega
        obtain ⟨sq, y⟩ := q
        have HJ1 : Hid (y = 0 → jopen s f = ((sq, some A), 0)) := show _ → _ from fun hy => by
          have := jopen_cut (r := (sq, y)) HI.out HR.out.1 (by rw [← HR.out.2.2.2, ← HP.out.1, ← HP.out.2.2.2.1]; exact hcut) (by rw [← HR.out.2.2.2, ← HP.out.1, ← HP.out.2.2.2.1]; exact hq) hy
          rw [← HR.out.2.2.2, ← HP.out.1] at this
          exact this
        have HJ0 : Hid (y ≠ 0 → jopen s f = ((sq, none), y)) := show _ → _ from fun hy =>
          jopen_fail (r := (sq, y)) HI.out HR.out.1 (by rw [← HR.out.2.2.2, ← HP.out.1, ← HP.out.2.2.2.1]; exact hcut) (by rw [← HR.out.2.2.2, ← HP.out.1, ← HP.out.2.2.2.1]; exact hq) hy
        have HQ := Lib.hid hq
        clear hq
        go_enter Try.func26, Try.ntmps26
        go_wp2_with fail
        refine (rSync_any f hL hd hi hK).mono ?_
        rw [HR.out.1]
        rintro e w1 ⟨rfl, l1, L1, K1, d1, f1, k1⟩
        go_wp2_with fail
        refine (rsize_eq d1 HR.out.2.2.2).mono ?_
        rintro e w2 ⟨rfl, b2⟩
        have f2 : Fr (fun _ => False) L1 w1 L1 w2 := Fr.below f1.fresh b2
        have d2 := d1.keep f1.fresh f2 (fun _ hh => hh)
        go_wp2_with fail
        refine (read_as0 (T.length : Nat) d2 HR.out.2.2.1 rfl hcapF HR.out.2.1).mono ?_
        rintro e w3 ⟨rfl, b3⟩
        have f3 : Fr (fun _ => False) L1 w2 L1 w3 := Fr.below f2.fresh b3
        have d3 := d2.keep f2.fresh f3 (fun _ hh => hh)
        go_wp2_with fail
        refine (HP.out.2.1 _).mono ?_
        rintro e w4 ⟨v, rfl, hown, b4⟩
        obtain ⟨L4, f4, hsl⟩ := own_label (M := fun _ => False) (kj, .list) (Fr.below f3.fresh b4) hown (Nat.le_refl _)
        have d4 := d3.keep f3.fresh f4 (fun _ hh => hh)
        obtain ⟨vA, vm, vc, rfl⟩ := own_slice hsl.1
        obtain ⟨L5, j5, f5⟩ := qat_new (f := f) (d := d) (cs := #[.pointer (some ⟨d, 0, none⟩), .int .i64 f, .slice vA vm vc, .bool false]) rfl f4.fresh hsl
        have d5 := d4.keep f4.fresh f5 (fun _ hh => hh)
        have hsl5 := hsl.keep f4.fresh f5 (fun hh => hh)
        go_wp2_with fail
        refine (rforms_any (sl_sat hsl5) HP.out.2.2.2.2 HP.out.2.2.1).mono ?_
        rintro e w6 ⟨rfl, b6⟩
        have f6 : Fr (fun _ => False) L5 _ L5 w6 := Fr.below f5.fresh b6
        have d6 := d5.keep f5.fresh f6 (fun _ hh => hh)
        have j6 := j5.keep f5.fresh f6 (fun _ hh => hh)
        have g6 : Fr (MA k) L w L5 w6 := f1.trans ((((f2.trans f3).trans f4).trans f5).trans f6 |>.mono (fun _ hh => hh.elim))
        clear d2 d3 d4 d5 j5 hsl hsl5 b2 b3 b4 b6
        go_wp2_with fail
        refine (rTrunc_any f (n : Nat) f6.fresh d6 HR.out.2.2.1 k1).mono ?_
        rw [HQ.out]
        rintro e w7 ⟨rfl, l7, L7, K7, d7, f7, k7⟩
        have j7 := j6.keep f6.fresh f7 (na' hk)
        by_cases hy : y = 0
        · subst hy
          have HJ := Lib.hid (HJ1.out rfl)
          clear HJ0 HJ1
          go_wp2_with fail
          go_ret2
          rw [HJ.out]
          exact ⟨l7, L7, K7, d7, k7, g6.trans f7, Or.inr ⟨A, _, rfl, rfl, j7⟩⟩
        · have hb : ((y : Int) != 0) = true := bne_iff_ne.2 hy
          go_wp2_with fail
          go_ret2
          rw [HJ0.out hy]
          exact ⟨l7, L7, K7, d7, k7, g6.trans f7, Or.inl ⟨rfl, rfl⟩⟩
      · have hcutI : ¬ (n : Int) < (T.length : Int) := by omega
        have HJ : Hid (jopen s f = ((s1, some A), 0)) := show _ = _ by
          have := jopen_whole HI.out HR.out.1 (by rw [← HR.out.2.2.2, ← HP.out.1, ← HP.out.2.2.2.1]; exact hcut)
          rw [← HR.out.2.2.2, ← HP.out.1] at this
          exact this
        go_enter Try.func26, Try.ntmps26
        go_wp2_with fail
        refine (rSync_any f hL hd hi hK).mono ?_
        rw [HR.out.1]
        rintro e w1 ⟨rfl, l1, L1, K1, d1, f1, k1⟩
        go_wp2_with fail
        refine (rsize_eq d1 HR.out.2.2.2).mono ?_
        rintro e w2 ⟨rfl, b2⟩
        have f2 : Fr (fun _ => False) L1 w1 L1 w2 := Fr.below f1.fresh b2
        have d2 := d1.keep f1.fresh f2 (fun _ hh => hh)
        go_wp2_with fail
        refine (read_as0 (T.length : Nat) d2 HR.out.2.2.1 rfl hcapF HR.out.2.1).mono ?_
        rintro e w3 ⟨rfl, b3⟩
        have f3 : Fr (fun _ => False) L1 w2 L1 w3 := Fr.below f2.fresh b3
        have d3 := d2.keep f2.fresh f3 (fun _ hh => hh)
        go_wp2_with fail
        refine (HP.out.2.1 _).mono ?_
        rintro e w4 ⟨v, rfl, hown, b4⟩
        obtain ⟨L4, f4, hsl⟩ := own_label (M := fun _ => False) (kj, .list) (Fr.below f3.fresh b4) hown (Nat.le_refl _)
        have d4 := d3.keep f3.fresh f4 (fun _ hh => hh)
        obtain ⟨vA, vm, vc, rfl⟩ := own_slice hsl.1
        obtain ⟨L5, j5, f5⟩ := qat_new (f := f) (d := d) (cs := #[.pointer (some ⟨d, 0, none⟩), .int .i64 f, .slice vA vm vc, .bool false]) rfl f4.fresh hsl
        have d5 := d4.keep f4.fresh f5 (fun _ hh => hh)
        have hsl5 := hsl.keep f4.fresh f5 (fun hh => hh)
        go_wp2_with fail
        refine (rforms_any (sl_sat hsl5) HP.out.2.2.2.2 HP.out.2.2.1).mono ?_
        rintro e w6 ⟨rfl, b6⟩
        have f6 : Fr (fun _ => False) L5 _ L5 w6 := Fr.below f5.fresh b6
        have d6 := d5.keep f5.fresh f6 (fun _ hh => hh)
        have j6 := j5.keep f5.fresh f6 (fun _ hh => hh)
        have g6 : Fr (MA k) L w L5 w6 := f1.trans ((((f2.trans f3).trans f4).trans f5).trans f6 |>.mono (fun _ hh => hh.elim))
        clear d2 d3 d4 d5 j5 hsl hsl5 b2 b3 b4 b6
        go_wp2_with fail
        go_ret2
        rw [HJ.out]
        exact ⟨l1, L5, K1, d6, k1, g6, Or.inr ⟨A, _, rfl, rfl, j6⟩⟩
    · have HJ := Lib.hid (jopen_sync (s := s) HI.out hr hx)
      have HR := Lib.hid hr
      obtain ⟨sx, x⟩ := r
      simp only at hx
      have hb : ((x : Int) != 0) = true := bne_iff_ne.2 hx
      clear hr
      go_enter Try.func26, Try.ntmps26
      go_wp2_with fail
      refine (rSync_any f hL hd hi hK).mono ?_
      rw [HR.out]
      rintro e w1 ⟨rfl, l1, L1, K1, d1, f1, k1⟩
      go_wp2_with fail
      go_ret2
      rw [HJ.out]
      exact ⟨l1, L1, K1, d1, k1, f1, Or.inl ⟨rfl, rfl⟩⟩

end Go.Proofs.Ytgocnjiabfmdpaa
