/- Walk of Crash. -/
import Derived.Test.YtgocnjiabfmdpaaDWi
import Derived.Laws.BitsAllLaws
namespace Go.Proofs.Ytgocnjiabfmdpaa
set_option maxRecDepth 8000
open Go.RowKit

/-- The ints of a slice, in blocks that are none of the disk's files. -/
def KAt (L : Lab) (w : World) (k : Nat) (v : Value) (keep : List Int) : Prop :=
  ∃ A c, v = .slice A keep.length c ∧ ∀ j (hj : j < keep.length), ∃ b off, A = some ⟨b, off, none⟩ ∧ w.cell? ⟨b, off + j, none⟩ = some (.int .i64 keep[j]) ∧ b < w.heap.size ∧ ∀ i, L b ≠ some (k, .file i) ∧ L b ≠ some (k, .dur i)

/-- The structs and durable parts of all files. -/
def MQ (k : Nat) : Nat × Role → Prop := fun t => ∃ i, t = (k, Role.file i) ∨ t = (k, Role.dur i)

theorem KAt.keep {L L1 : Lab} {w w1 : World} {k : Nat} {v : Value} {keep : List Int} (h : KAt L w k v keep) (hf : Fr (MQ k) L w L1 w1) : KAt L1 w1 k v keep := by
  obtain ⟨A, c, rfl, h⟩ := h
  refine ⟨A, c, rfl, fun j hj => ?_⟩
  obtain ⟨b, off, hA, hc, hb, hl⟩ := h j hj
  refine ⟨b, off, hA, ?_, Nat.lt_of_lt_of_le hb hf.size, fun i => by rw [hf.lab b hb]; exact hl i⟩
  refine (World.cell?_of_block (a := ⟨b, off + j, none⟩) (hf.block b hb (fun t ht hm => ?_))).trans hc
  obtain ⟨i, hm | hm⟩ := hm
  · exact (hl i).1 (by rw [ht, hm])
  · exact (hl i).2 (by rw [ht, hm])

theorem bit_one (x : Int) : (bits .and .i64 x 1 == 1) = (x % 2 == 1) := by
  have h : bits .and .i64 x 1 = x % 2 := by
    show IntKind.i64.wrap ((BitVec.ofInt 64 x &&& BitVec.ofInt 64 1).toNat : Int) = _
    rw [BitVec.toNat_and]
    have e1 : (BitVec.ofInt 64 1).toNat = 1 := by decide
    rw [e1, Nat.and_one_is_mod, BitVec.toNat_ofInt, IntKind.wrap_i64]
    omega
  rw [h]

theorem chosen_take (keep : List Int) (l : List (Int × Int)) (j : Nat) (p : Int × Int) (hp : l[j]? = some p) : chosen keep 0 (l.take (j + 1)) = chosen keep 0 (l.take j) ++ (if survives keep j = true then [p] else []) := by
  obtain ⟨hj, rfl⟩ := List.getElem?_eq_some_iff.1 hp
  rw [List.take_succ_eq_append_getElem hj, chosen_snoc, List.length_take, Nat.zero_add, Nat.min_eq_left (by omega)]

theorem DAt.alloc {L : Lab} {w : World} {k d : Nat} {s : St} (h : DAt L w k d s) (hL : Fresh L w) (o : Obj) : DAt L (w.alloc o) k d s := h.keep (M := fun _ => False) hL ((Fr.refl hL).alloc o) (fun _ hh => hh)

theorem bc_oneCell (l : List UInt8) : ∀ u ∈ bc l, u.oneCell' = true := fun u hu => by unfold bc at hu; obtain ⟨c, _, rfl⟩ := List.mem_map.1 hu; rfl

/-- A file after the crash: it becomes its durable part, and none of its sectors is pending. -/
theorem crash_file {L : Lab} {w w1 : World} {k mb sb : Nat} {pv kv v' nv dv : Value} {fb : Int → Nat} {s s' : St} {f : Int} (hL : Fresh L w) (hbody : DBody L w k mb pv kv fb s) (a1 : L (fb f) = some (k, .file f)) (a2 : w.heap[fb f]? = some (.cells #[nv, dv, .map (some sb)] 82 (0, 0)))
    (a6 : Sl L w 5 1 dv (s.dur f).length (bc (s.dur f)) (k, .dur f)) (hown : w1.ownsRow 0 5 1 v' (s.dur f).length (bc (s.dur f))) (hb : Below w.heap.size w w1) (hnew : ∀ g, v'.ownBlock = some g → w.heap.size ≤ g)
    (hs : ∀ i, i ≠ f → s'.now i = s.now i ∧ s'.dur i = s.dur i ∧ s'.sec i = s.sec i) (hp : s'.pend = s.pend) (hk : s'.keep = s.keep) (e1 : s'.now f = s.dur f) (e2 : s'.dur f = s.dur f) (e3 : s'.sec f = fun _ => false) :
    ∃ L', DBody L' (((w1.setCell ⟨fb f, 0, none⟩ v').alloc (.map #[] 0)).setCell ⟨fb f, 2, none⟩ (.map (some w1.heap.size))) k mb pv kv fb s' ∧ Fr (MF k f) L w L' (((w1.setCell ⟨fb f, 0, none⟩ v').alloc (.map #[] 0)).setCell ⟨fb f, 2, none⟩ (.map (some w1.heap.size))) := by
  obtain ⟨L1, f1, hsl⟩ := new_label (M := MF k f) (k, .now f) hL hown hb hnew
  have b1 := f1.lab_of hL a1
  have q0 : w1.heap[fb f]? = some (.cells #[nv, dv, .map (some sb)] 82 (0, 0)) := (hb.block _ (blk_lt a2)).trans a2
  have q1 := blk_set q0 0 v'
  have q2 := blk_set (blk_alloc q1 (.map #[] 0)) 2 (.map (some w1.heap.size))
  simp at q2
  let M : Nat × Role → Prop := fun t => t = (k, Role.file f)
  have g1 : Fr M L1 w1 L1 (w1.setCell ⟨fb f, 0, none⟩ v') := (Fr.refl (M := M) f1.fresh).setCell (Or.inr ⟨_, b1, rfl⟩) _
  have g2 : Fr M L1 w1 (setL L1 w1.heap.size (k, .sect f)) ((w1.setCell ⟨fb f, 0, none⟩ v').alloc (.map #[] 0)) := (g1.alloc _).label (Nat.le_refl _) (by simp) _
  have g3 : Fr M L1 w1 (setL L1 w1.heap.size (k, .sect f)) (((w1.setCell ⟨fb f, 0, none⟩ v').alloc (.map #[] 0)).setCell ⟨fb f, 2, none⟩ (.map (some w1.heap.size))) := g2.setCell (p := ⟨fb f, 2, none⟩) (Or.inr ⟨_, g2.lab_of f1.fresh b1, rfl⟩) _
  have g4 := f1.trans (g3.mono (fun t ht => Or.inl ht : ∀ t, M t → MF k f t))
  have lfb : fb f < w1.heap.size := blk_lt q0
  have hm : IMap ((w1.setCell ⟨fb f, 0, none⟩ v').alloc (.map #[] 0)) w1.heap.size (fun _ => none) := by
    have := IMap.made (w1.setCell ⟨fb f, 0, none⟩ v')
    simpa using this
  refine ⟨_, hbody.file hL g4 hs hp hk ?_, g4⟩
  rw [e1, e2, e3]
  have a6' := a6.keep (M := fun _ => False) hL (Fr.below hL hb) (fun h => h)
  have a6k : Sl L1 w1 5 1 dv (s.dur f).length (bc (s.dur f)) (k, .dur f) := ⟨a6'.1, fun g hg => f1.lab_of hL (a6.2 g hg)⟩
  exact ⟨v', dv, w1.heap.size, g4.lab_of hL a1, q2, setL_same _ _ _,
    (hm.same (Below.heap_setCell _ ⟨fb f, 2, none⟩ _ _ (by simp; omega))).congr (fun x => by simp [secF]),
    hsl.keep f1.fresh g3 (by simp [M]), a6k.keep f1.fresh g3 (by simp [M])⟩

/-- The iterator of a range over the disk's files. -/
def MI (k : Nat) : Nat × Role → Prop := fun t => t = (k, Role.iter)

/-- The state while the files become their durable parts: those with 'left' are still to come. -/
def St.half (s : St) (left : Int → Bool) : St := { s with now := fun i => if left i = true then s.now i else s.dur i, sec := fun i => if left i = true then s.sec i else fun _ => false }

theorem half_start {L : Lab} {w : World} {k mb : Nat} {pv kv : Value} {fb : Int → Nat} {s : St} (h : DBody L w k mb pv kv fb s) : DBody L w k mb pv kv fb (s.half fun x => (filesF fb x).isSome) := by
  obtain ⟨a1, a2, a3, a4, a5⟩ := h
  refine ⟨a1, a2, a3, a4, fun i hi => ?_⟩
  have : (filesF fb i).isSome = true := by simp [filesF, hi]
  simp only [St.half, this, if_true]
  exact a5 i hi

theorem half_end {L : Lab} {w : World} {k mb : Nat} {pv kv : Value} {fb : Int → Nat} {s : St} {left : Int → Bool} (h : DBody L w k mb pv kv fb (s.half left)) (hl : ∀ x, left x = false) : DBody L w k mb (.slice none 0 0) (.slice none 0 0) fb s.fallen := by
  obtain ⟨a1, a2, a3, a4, a5⟩ := h
  refine ⟨a1, a2, Sl.nil _ _ _ _ _, Sl.nil _ _ _ _ _, fun i hi => ?_⟩
  have h1 := a5 i hi
  simp only [St.half, hl i] at h1
  exact h1

theorem filesF_some {fb : Int → Nat} {x : Int} {u : Value} (h : filesF fb x = some u) : isFile x = true ∧ u = .pointer (some ⟨fb x, 0, none⟩) := by
  unfold filesF at h
  split at h
  · exact ⟨by assumption, by injection h with h; exact h.symm⟩
  · cases h

set_option maxRecDepth 100000 in
set_option maxHeartbeats 1000000 in
theorem crash_any {L : Lab} {w : World} {k d : Nat} {s : St} (v : Value) (keep : List Int) (hL : Fresh L w) (h : DAt L w k d s) (hi : Inv s) (hk : KAt L w k v keep) :
    Calls Try.prog 37 #[.pointer (some ⟨d, 0, none⟩), v] w fun e w' => e = .returned (.tuple #[]) ∧ ∃ L', DAt L' w' k d (s.crash keep) ∧ Fr (MA k) L w L' w' := by
  have h' := h
  obtain ⟨mb, pv, kv, fb, hdl, hb, hbody⟩ := h
  have c1 := blk_cell hb 1
  have c2 := blk_cell hb 2
  simp [dcells] at c1 c2
  have hown := hbody.2.2.1
  obtain ⟨A, n, c, rfl⟩ := own_slice hown.1
  cases hdn : s.down
  · rw [hdn] at c2
    have hfew := hi.few
    obtain ⟨KA, kc, rfl, hkc⟩ := hk
    have HK := Lib.hid (show KAt L w k (.slice KA keep.length kc) keep from ⟨KA, kc, rfl, hkc⟩)
    have hn : n = s.pend.length := by
      rcases own_form hown.1 with ⟨e, e2⟩ | ⟨g, c', e, _⟩
      · injection e with _ e; omega
      · injection e
    subst hn
    clear hkc
    go_enter Try.func37, Try.ntmps37
    go_wp2_with fail
    go_loopw [17] (fun i wr => ∃ (j : Nat) (L1 : Lab), j ≤ s.pend.length ∧ i = .int .i64 j ∧ DAt L1 wr k d (s.setls (chosen keep 0 (s.pend.take j))) ∧ Fr (MQ k) L w L1 wr) (fun i _ => s.pend.length - (intOf i).toNat)
    case atStart => exact ⟨0, L, Nat.zero_le _, rfl, by simpa [chosen, St.setls] using h', Fr.refl hL⟩
    case round =>
      obtain ⟨j, L1, hj, rfl, hdr, hfr⟩ := hrel
      by_cases hlt : j < s.pend.length
      · obtain ⟨g, c', he, _, _⟩ := own_some hown.1 (by omega)
        injection he with he1 _ he2
        subst he1; subst he2
        have hsl := hown.keep hL hfr (by rintro ⟨i, hh | hh⟩ <;> injection hh with _ hh <;> cases hh)
        obtain ⟨h1, h2⟩ := pc_cells hsl.1 j hlt rfl
        obtain ⟨p, hp⟩ : ∃ p, s.pend[j] = p := ⟨_, rfl⟩
        rw [hp] at h1 h2
        have HP : Hid (s.pend[j]? = some p) := show _ = _ by rw [List.getElem?_eq_getElem hlt, hp]
        clear hp
        by_cases hk0 : keep.length = 0
        · have HS : Hid (survives keep j = false) := show _ = _ by simp [survives, hk0]
          have hkp : ¬ (0 : Int) < (keep.length : Int) := by omega
          have hkp' : ¬ 0 < keep.length := by omega
          clear hk0
          go_wp2_with fail
          go_roundw
          case rel =>
            refine ⟨j + 1, L1, by omega, by go_num, ?_, hfr.alloc _⟩
            rw [chosen_take _ _ _ _ HP.out, HS.out, if_neg (by simp), List.append_nil]
            exact hdr.alloc hfr.fresh _
          case measure => simp [intOf]; omega
        · have hkj := HK.out.keep hfr
          obtain ⟨KA', kc', e1, hkc⟩ := hkj
          injection e1 with e1 _ e2
          subst e1; subst e2
          obtain ⟨kb, ko, rfl, hcell, hkb, _⟩ := hkc (j % keep.length) (Nat.mod_lt _ (by omega))
          obtain ⟨x, hx⟩ : ∃ x, keep[j % keep.length]'(Nat.mod_lt _ (by omega)) = x := ⟨_, rfl⟩
          rw [hx] at hcell
          have hsv : survives keep j = (x % 2 == 1) := by
            unfold survives
            rw [List.getD_eq_getElem?_getD, List.getElem?_eq_getElem (Nat.mod_lt _ (by omega)), hx]
            simp; omega
          rw [← bit_one] at hsv
          have hkp : (0 : Int) < (keep.length : Int) := by omega
          have hm1 : (0 : Int) ≤ (j : Int) % (keep.length : Int) := Int.emod_nonneg _ (by omega)
          have hm2 : (j : Int) % (keep.length : Int) < (keep.length : Int) := Int.emod_lt_of_pos _ hkp
          have HM := Lib.hid (And.intro hm1 hm2)
          clear hx hkc
          cases hsj : survives keep j
          · have hbit : (bits .and .i64 x 1 == 1) = false := by rw [← hsv, hsj]
            have HS := Lib.hid hsj
            clear hsj hsv
            go_wp2_with fail
            go_roundw
            case rel =>
              refine ⟨j + 1, L1, by omega, by go_num, ?_, hfr.alloc _⟩
              rw [chosen_take _ _ _ _ HP.out, HS.out, if_neg (by simp), List.append_nil]
              exact hdr.alloc hfr.fresh _
            case measure => simp [intOf]; omega
          · have hbit : (bits .and .i64 x 1 == 1) = true := by rw [← hsv, hsj]
            have HS := Lib.hid hsj
            clear hsj hsv
            have hmem : ∀ q ∈ chosen keep 0 (s.pend.take j), s.sec q.1 q.2 = true := fun q hq => hi.pending q (List.mem_of_mem_take (mem_chosen hq))
            have hps : (s.setls (chosen keep 0 (s.pend.take j))).sec p.1 p.2 = true := by
              rw [(setls_rest s _).2.1]
              exact hi.pending p (List.mem_of_getElem? HP.out)
            have HI := Lib.hid (And.intro hmem hps)
            clear hmem hps
            go_wp2_with fail
            refine (settle_any p.1 p.2 ((hfr.alloc _).fresh) (hdr.alloc hfr.fresh _) (hi.setls HI.out.1) HI.out.2).mono ?_
            rintro e w2 ⟨rfl, L2, hd2, hf2⟩
            go_wp2_with fail
            go_roundw
            case rel =>
              refine ⟨j + 1, L2, by omega, by go_num, ?_, (hfr.alloc _).trans (hf2.mono (fun t ht => ⟨p.1, by rcases ht with ht | ht <;> simp [ht]⟩))⟩
              rw [chosen_take _ _ _ _ HP.out, HS.out, if_pos rfl, St.setls_snoc]
              exact hd2
            case measure => simp [intOf]; omega
      · have hje : j = s.pend.length := by omega
        subst hje
        rw [List.take_length] at hdr
        obtain ⟨wo, rfl⟩ : ∃ wo : World, wo = wr := ⟨_, rfl⟩
        have hrest := setls_rest s (chosen keep 0 s.pend)
        obtain ⟨s1, hs1⟩ : ∃ s1, s1 = s.setls (chosen keep 0 s.pend) := ⟨_, rfl⟩
        rw [← hs1] at hdr hrest
        have HR := Lib.hid (And.intro hs1 hrest)
        clear hs1 hrest
        obtain ⟨mb, pv1, kv1, fb, hdl1, hb1, hbody1⟩ := hdr
        have hmap := hbody1.2.1
        have c0 := blk_cell hb1 0
        simp [dcells] at c0
        have HB1 := Lib.hid hb1
        clear hb1
        go_wp2_with (at_range; refine wpList_rangeI _ rfl _ 75 rfl 3 79 Try.underlying75 mb _ rfl hmap ?_; intro w0 cnt0 hit0 hg0 hs0)
        go_frame
        obtain ⟨r, hr⟩ : ∃ r, r = wo.heap.size := ⟨_, rfl⟩
        rw [← hr] at hit0 ⊢
        have hf00 : Fr (MA k) L1 wo L1 w0 := Fr.grown hfr.fresh hg0 (fun g hg => by cases hg)
        have hf0 : Fr (MA k) L1 wo (setL L1 r (k, .iter)) w0 := hf00.label (by omega) (by omega) _
        have hf1 : Fr (fun _ => False) L1 wo (setL L1 r (k, .iter)) w0 := (Fr.grown (M := fun _ => False) hfr.fresh hg0 (fun g hg => by cases hg)).label (by omega) (by omega) _
        have hd0 := (hf1.keeps hfr.fresh hdl1 (fun h => h)).trans HB1.out
        have HD0 := Lib.hid hd0
        have HRR := Lib.hid hr
        clear hd0 hr
        go_loopw [7] (fun _ wr' => ∃ (left : Int → Bool) (cnt : Nat) (L2 : Lab), ITer wr' mb r (filesF fb) left cnt ∧ DBody L2 wr' k mb pv1 kv1 fb (s1.half left) ∧ Fr (MA k) L1 wo L2 wr' ∧ L2 r = some (k, .iter) ∧ Hid (wr'.heap[d]? = some (.cells (dcells mb pv1 kv1 s1) 78 (0, 0))) ∧ L2 d = some (k, .disk)) (fun _ wr' => wr'.rangeLeft mb r)
        case atStart => exact ⟨_, cnt0, _, hit0, half_start (hbody1.keep hfr.fresh hf1 (fun _ _ _ h => h)), hf0, setL_same _ _ _, HD0, hf1.lab_of hfr.fresh hdl1⟩
        case round =>
          obtain ⟨left, cnt, L2, hit, hbr, hfr2, hLr, HD, hLd⟩ := hrel
          go_wp2_with (at_next; refine wpList_nextI _ rfl _ rfl mb r _ left cnt rfl hit ?_ ?_)
          · intro hc0 hl0
            have k1 := blk_cell HD.out 1
            have k2 := blk_cell HD.out 2
            have k3 := blk_cell HD.out 4
            have k4 := blk_cell HD.out 5
            have f1 := blk_free HD.out 1
            have f2 := blk_free HD.out 2
            have f3 := blk_free HD.out 4
            have f4 := blk_free HD.out 5
            simp [dcells] at k1 k2 k3 k4
            have HL0 := Lib.hid hl0
            clear hl0 hc0
            go_wp2_with fail
            go_end0
            have hbf := half_end hbr HL0.out
            have q1 := blk_set (blk_set (blk_set (blk_set HD.out 1 (.slice none 0 0)) 4 (.int .i64 0)) 5 (.slice none 0 0)) 2 (.bool true)
            have hsd : ∀ o, Fr (MA k) L1 wo L2 o → ∀ i u, Fr (MA k) L1 wo L2 (o.setCell ⟨d, i, none⟩ u) := fun o ho i u => ho.setCell (Or.inr ⟨_, hLd, (show (k, Role.disk).1 = k from rfl)⟩) u
            have hfe := hsd _ (hsd _ (hsd _ (hsd _ hfr2 1 (.slice none 0 0)) 4 (.int .i64 0)) 5 (.slice none 0 0)) 2 (.bool true)
            have f1' := Fr.setD hfr2.fresh hLd 1 (.slice none 0 0)
            have f2' := Fr.setD f1'.fresh hLd 4 (.int .i64 0)
            have f3' := Fr.setD f2'.fresh hLd 5 (.slice none 0 0)
            have hbe := (((hbf.setD hfr2.fresh hLd 1 (.slice none 0 0)).setD f1'.fresh hLd 4 (.int .i64 0)).setD f2'.fresh hLd 5 (.slice none 0 0)).setD f3'.fresh hLd 2 (.bool true)
            have hcr : s.crash keep = s1.fallen := by
              unfold St.crash
              rw [hdn, if_neg (by simp), HR.out.1]
            rw [hcr]
            exact ⟨rfl, L2, ⟨mb, _, _, fb, hLd, q1, hbe⟩, (hfr.mono (fun t ht => by obtain ⟨i, ht | ht⟩ := ht <;> rw [ht] <;> rfl)).trans hfe⟩
          · intro x u w1 cnt1 hx hlx hfx hit1 hlt1 hg1 hs1 hen
            obtain ⟨hxf, rfl⟩ := filesF_some hfx
            have fr1 : Fr (MI k) L2 wr L2 w1 := Fr.grown hfr2.fresh hg1 (fun g hg _ => by injection hg with hg; subst hg; exact ⟨_, hLr, rfl⟩)
            have hb1 := hbr.keep hfr2.fresh fr1 (fun q h1 h2 h3 => h2 (by injection h3))
            obtain ⟨nv, dv, sb, a1, a2, a3, a4, a5, a6⟩ := hb1.2.2.2.2 x hxf
            have c0 := blk_cell a2 1
            have hdx : (s1.half left).dur x = s1.dur x := rfl
            have hdl := hi
            simp at c0
            go_wp2_with fail
            refine (clone49 (Rd.of_own a6.1) (bc_oneCell _) ?_).mono ?_
            · have h3 := (hi.setls (fun p hp => hi.pending p (mem_chosen hp)) : Inv (s.setls (chosen keep 0 s.pend)))
              rw [← HR.out.1] at h3
              have h4 := h3.le x
              have h5 := h3.cap x
              show (s1.dur x).length ≤ _
              omega
            rintro e w2 ⟨v', rfl, hown2, hb2, hnew2⟩
            have q2 := (hb2.block _ (blk_lt a2)).trans a2
            have c1 := blk_cell q2 0
            have c2 := blk_cell q2 2
            have f1 := blk_free q2 0
            have f2 := blk_free q2 2
            simp at c1 c2
            obtain ⟨A', n', c', rfl⟩ := own_slice hown2
            have q3 := blk_alloc (blk_set q2 0 (.slice A' n' c')) (.map #[] 0)
            have c3 := blk_cell q3 2
            have f3 := blk_free q3 2
            simp at c3
            have hmm := @run_makeMap Try.prog
            have H := crash_file (s' := s1.half (fun y => left y && !decide (y = x))) fr1.fresh hb1 a1 a2 a6 hown2 hb2 hnew2 (fun i hix => by simp [St.half, hix]) rfl rfl (by simp [St.half]) rfl (by simp [St.half])
            obtain ⟨L3, hbd, hf3⟩ := H
            have hit2 := hit1.same (hf3.keeps fr1.fresh hb1.1 (by rintro (h | h | h | h) <;> injection h with _ h <;> cases h)) (hf3.keeps fr1.fresh hLr (by rintro (h | h | h | h) <;> injection h with _ h <;> cases h))
            go_wp2_with fail
            go_roundw
            case rel =>
              exact ⟨_, cnt1, L3, hit2, hbd, (hfr2.trans (fr1.mono (fun t ht => by rw [ht]; rfl))).trans (hf3.mono (fun t ht => MF.own ht)), hf3.lab_of fr1.fresh hLr,
                (hf3.keeps fr1.fresh hLd mf_disk).trans ((fr1.keeps hfr2.fresh hLd (fun h => by injection h with _ h; cases h)).trans HD.out), hf3.lab_of fr1.fresh hLd⟩
            case measure => rw [hit2.left_eq, hit.left_eq]; exact hlt1
  · rw [hdn] at c2
    have HC : Hid (s.crash keep = s) := show _ = _ by unfold St.crash; rw [if_pos hdn]
    clear hdn
    go_enter Try.func37, Try.ntmps37
    go_wp2_with fail
    refine bodyPost_ret (results_none rfl _ _ _) rfl ?_
    rw [HC.out]
    exact ⟨rfl, L, h', Fr.refl hL⟩

end Go.Proofs.Ytgocnjiabfmdpaa
