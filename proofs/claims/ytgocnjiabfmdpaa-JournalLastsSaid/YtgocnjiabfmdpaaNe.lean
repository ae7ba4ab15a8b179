/- Walk of JournalLasts. -/
import Derived.Test.YtgocnjiabfmdpaaNd
import Derived.Deep.CutBlock
import Derived.Deep.DeepCutAuto
import Derived.Deep.RegionHeld3
import Derived.Deep.DrawnRows
namespace Go.Proofs.Ytgocnjiabfmdpaa
set_option maxRecDepth 8000
open Go.RowKit Wire

/-- The law's own copy of an operation, in a block of its own. -/
def OBk (L : Lab) (w : World) (ob : Nat) (k : Int) (s : ByteArray) (n : Int) (kv : Value) : Prop :=
  L ob = none ∧ w.heap[ob]? = some (.cells #[.int .i64 k, .string s, .int .i64 n, kv] 49 (0, 0))

theorem OBk.keep {M : Nat × Role → Prop} {L L1 : Lab} {w w1 : World} {ob : Nat} {k n : Int} {s : ByteArray} {kv : Value} (h : OBk L w ob k s n kv) (hf : Fr M L w L1 w1) : OBk L1 w1 ob k s n kv :=
  ⟨(hf.lab ob (blk_lt h.2)).trans h.1, (hf.block ob (blk_lt h.2) (fun t ht => by rw [h.1] at ht; cases ht)).trans h.2⟩

theorem lstart : ∃ s', jopen St.new 3 = ((s', some []), 0) ∧ JInv s' 3 0 [] [] (some ([], false)) := by
  rcases (JInv.new 3).opened rfl (by rfl) with ⟨s', a, a1, a2, ⟨r, a3⟩, _⟩ | ⟨s', e, _, _, _, _, a3⟩
  · have : a = [] := (List.append_eq_nil_iff.1 a3.symm).1
    subst this
    exact ⟨s', a1, a2⟩
  · exact absurd (a3 rfl) (by decide)

set_option maxRecDepth 100000 in
set_option maxHeartbeats 16000000 in
theorem jlasts_any {w : World} {v kv : Value} {l : List Op3} {keep : List Int} (hO : OpsAt L0 w v l) (hk : ArgI L0 w kv keep) :
    Calls Try.prog 5 #[v, kv] w (LawPost w) := by
  have HA := Lib.hid (And.intro hO hk)
  obtain ⟨K1, c1, rfl⟩ := argI_len hk
  obtain ⟨A, c, rfl, hlen, _, _⟩ := hO
  clear hk
  go_enter Try.func5, Try.ntmps5
  go_wp2_with fail
  refine (small3_any (L := L0)).mono ?_
  rintro e w1 ⟨rfl, L1, f1⟩
  go_wp2_with fail
  refine (fewO_any (HA.out.1.keep f1)).mono ?_
  rintro e w2 ⟨rfl, rfl⟩
  cases hfew : fewOB l
  · go_wp2_with fail
    go_ret
    exact law_head f1
  by_cases h50 : 50 < keep.length
  · go_wp2_with fail
    go_ret
    exact law_head f1
  obtain ⟨hf1, hf2⟩ := fewOB_mem hfew
  obtain ⟨s0, ho, hj0⟩ := lstart
  have H := Lib.hid (And.intro hf1 (And.intro ho hj0))
  clear hf1 ho hj0 hfew
  go_wp2_with fail
  refine (New_any (L := L1) 0).mono ?_
  rintro e w2 ⟨d, L2, rfl, d2, f2⟩
  go_wp2_with fail
  refine (jopen_as 1 3 H.out.2.1 (by decide) f2.fresh d2 Inv.new (by omega)).mono ?_
  intro e w3 hpost
  obtain ⟨L3, jv, rfl, d3, f3, j3, rfl, jj3⟩ := opost_jv hpost
  clear hpost
  have g3 := (f1.trans (f2.mono mt)).trans (f3.mono (M' := MT) mt)
  clear d2
  go_wp2_with fail
  go_loopw [7, 9, 10, 11] (fun jv av sv i wr => ∃ (k : Nat) (L' : Lab) (s : St) (o : Option (Recs × Bool)) (all sure : Recs), k ≤ l.length + 1 ∧ i = .int .i64 k ∧ DAt L' wr 0 d s ∧ JV L' wr d 3 jv o ∧ Sl L' wr 9 1 av all.length (all.map strV) (7, .list) ∧ Sl L' wr 9 1 sv sure.length (sure.map strV) (7, .list) ∧ Fr MT L0 w L' wr ∧ Hid (JInv s 3 k sure all o)) (fun _ _ _ i _ => l.length + 1 - (intOf i).toNat)
  case atStart => exact ⟨0, L3, s0, some ([], false), [], [], Nat.zero_le _, rfl, d3, ⟨j3, rfl, jj3⟩, Sl.nil _ _ _ _ _, Sl.nil _ _ _ _ _, g3, H.out.2.2⟩
  case round =>
    obtain ⟨k, L4, s, o, all, sure, hkl, rfl, d4, j4, ha4, hs4, g4, HS⟩ := hrel
    by_cases hle : k ≤ l.length
    · have hleI : (k : Int) ≤ (l.length : Int) := by omega
      obtain ⟨ob, hob⟩ : ∃ ob, ob = wr.heap.size := ⟨_, rfl⟩
      by_cases hlt : k < l.length
      · obtain ⟨A', c', e', _, hok, hc⟩ := HA.out.1.keep g4
        injection e' with e1 _ e2
        subst e1; subst e2
        obtain ⟨b, off, rfl, hlb, hb, hc⟩ := hc (by omega)
        obtain ⟨xkv, q0, q1, q2, q3, hxkv⟩ := hc k hlt
        have hokk := hok _ (List.getElem_mem hlt)
        have hfit := H.out.1 _ (List.getElem_mem hlt)
        obtain ⟨x, hx⟩ : ∃ x, l[k] = x := ⟨_, rfl⟩
        rw [hx] at q0 q1 q2 hxkv hokk hfit
        obtain ⟨xk, xs, xn, xkeep⟩ := x
        obtain ⟨ok1, ok2⟩ := hokk
        obtain ⟨fit1, fit2⟩ := hfit
        simp only at q0 q1 q2 hxkv ok1 ok2 fit1 fit2
        obtain ⟨KA, kc, rfl⟩ := argI_len hxkv
        clear hx hc hok
        have z : ∀ o, (wr.alloc o).heap[wr.heap.size]? = some o := heap_alloc_new wr
        clear hob
        go_upto_region 21 with fail
        obtain ⟨wA, hwA⟩ : ∃ wA, wA = wr.alloc (.cells #[.int .i64 xk, .string xs, .int .i64 xn, .slice KA xkeep.length kc] 49) := ⟨_, rfl⟩
        obtain ⟨ob, hob⟩ : ∃ ob, ob = wr.heap.size := ⟨_, rfl⟩
        have obA : OBk L4 wA ob xk xs xn (.slice KA xkeep.length kc) := by
          rw [hwA, hob]
          exact ⟨g4.fresh _ (Nat.le_refl _), heap_alloc_new wr _⟩
        have fA : Fr (fun _ => False) L4 wr L4 wA := by rw [hwA]; exact (Fr.refl g4.fresh).alloc _
        have dA := d4.keep g4.fresh fA (fun _ hh => hh)
        have jA := j4.keep g4.fresh fA (fun _ hh => hh)
        have haA := ha4.keep g4.fresh fA (fun hh => hh)
        have hsA := hs4.keep g4.fresh fA (fun hh => hh)
        have gA := g4.trans (fA.mono (M' := MT) mt)
        have hkA := hxkv.keep fA
        rw [← hwA, ← hob]
        have hk1 : k + 1 ≤ l.length + 1 := by omega
        clear hwA hob q0 q1 q2 q3 hb hlb fA d4 j4 ha4 hs4 g4 hxkv
        by_cases h0 : xk = 0
        · subst h0
          match o, jA, HS with
          | none, jA, HS =>
            subst jA
            go_wp2_with fail
            go_roundw
            case rel => exact ⟨k + 1, L4, s, none, all, sure, hk1, by go_num, dA, rfl, haA, hsA, gA, show Hid _ from HS.out.mono (by omega)⟩
            case measure => simp [intOf]; omega
          | some (a, bad), jA, HS =>
            obtain ⟨j, rfl, jj⟩ := jA
            obtain ⟨s', a', b', e, all', r1, r2, _, r3⟩ := HS.out.app (by rfl) (by omega) (v := bts xs) (by rw [Wire.bts_len]; exact fit1)
            have hbd := HS.out.bytes (by omega)
            have hsm := HS.out.small.1
            have hcn := HS.out.cnt
            have hii := HS.out.inv
            have hba : bad = false → a = all := fun hb => by subst hb; exact HS.out.jok.2.2
            have HN := Lib.hid (And.intro r1 (And.intro r2 (And.intro r3 (And.intro hii hba))))
            clear r1 r2 r3 hii hba
            go_wp2_with fail
            refine (jall_any jj (by omega)).mono ?_
            rintro e' w5 ⟨v5, rfl, hown5, hb5⟩
            obtain ⟨L5, f5, hs5⟩ := own_label (8, .list) (M := fun _ => False) (Fr.below gA.fresh hb5) hown5 (Nat.le_refl _)
            have d5 := dA.keep gA.fresh f5 (fun _ hh => hh)
            have jj5 := jj.keep gA.fresh f5 (fun _ hh => hh)
            have ha5 := haA.keep gA.fresh f5 (fun hh => hh)
            have hu5 := hsA.keep gA.fresh f5 (fun hh => hh)
            have ob5 := obA.keep f5
            have g5 := gA.trans (f5.mono (M' := MT) mt)
            have o1 := blk_cell ob5.2 1
            simp at o1
            clear hown5 hb5 f5 dA jj haA hsA obA
            go_wp2_with fail
            refine (japp_as 3 xs HN.out.1 (by decide) g5.fresh d5 jj5 HN.out.2.2.2.1 (by omega) (by omega) (by omega)).mono ?_
            rintro e' w6 ⟨rfl, L6, d6, jj6, f6⟩
            have hs6 := hs5.keep g5.fresh f6 (by intro hh; rcases hh with hh | hh <;> cases hh)
            have ha6 := ha5.keep g5.fresh f6 (by intro hh; rcases hh with hh | hh <;> cases hh)
            have hu6 := hu5.keep g5.fresh f6 (by intro hh; rcases hh with hh | hh <;> cases hh)
            have ob6 := ob5.keep f6
            have g6 := g5.trans (f6.mono (M' := MT) mt)
            have hsm' : a'.length ≤ 1000 := by have := HN.out.2.1.small.1; omega
            clear f6 d5 jj5 ha5 hu5 hs5 ob5 o1
            go_wp2_with fail
            refine (jall_any jj6 (by omega)).mono ?_
            rintro e' w7 ⟨v7, rfl, hown7, hb7⟩
            obtain ⟨L7, f7, ht7⟩ := own_label (9, .list) (M := fun _ => False) (Fr.below g6.fresh hb7) hown7 (Nat.le_refl _)
            have d7 := d6.keep g6.fresh f7 (fun _ hh => hh)
            have jj7 := jj6.keep g6.fresh f7 (fun _ hh => hh)
            have ha7 := ha6.keep g6.fresh f7 (fun hh => hh)
            have hu7 := hu6.keep g6.fresh f7 (fun hh => hh)
            have hs7 := hs6.keep g6.fresh f7 (fun hh => hh)
            have ob7 := ob6.keep f7
            have g7 := g6.trans (f7.mono (M' := MT) mt)
            have ho1 := blk_cell ob7.2 1
            simp at ho1
            clear hown7 hb7 f7 d6 jj6 ha6 hu6 hs6 ob6
            rcases HN.out.2.2.1 with ⟨rfl, rfl, ea, eall, rfl⟩ | ⟨rfl, rfl, rfl, ea, eall⟩ | ⟨rfl, rfl, _, ea, rfl, eall⟩
            · have HE := Lib.hid (And.intro ea eall)
              clear ea eall
              go_wp2_with fail
              refine (disky_any 7 _ (Or.inl rfl)).mono ?_
              rintro e' w8 ⟨rfl, rfl⟩
              rw [show decide ((7 : Int) ≠ 7) = false from rfl]
              go_wp2_with fail
              refine (sameW_any ht7.1 hs7.1 (by omega) (by omega)).mono ?_
              rintro e' w8 ⟨rfl, hb8⟩
              rw [decide_eq_true HE.out.1]
              have f8 : Fr (fun _ => False) L7 w7 L7 w8 := Fr.below g7.fresh hb8
              go_wp2_with fail
              go_roundw
              case rel => exact ⟨k + 1, L7, s', some (a', true), all, sure, hk1, by go_num, d7.keep g7.fresh f8 (fun _ hh => hh), ⟨j, rfl, jj7.keep g7.fresh f8 (fun _ hh => hh)⟩, ha7.keep g7.fresh f8 (fun hh => hh), hu7.keep g7.fresh f8 (fun hh => hh), g7.trans (f8.mono mt), show Hid _ from by rw [← HE.out.2]; exact HN.out.2.1⟩
              case measure => simp [intOf]; omega
            · have HE := Lib.hid (And.intro ea eall)
              clear ea eall
              go_upto_region 27 with fail
              go_cut [9] from 78 to 84 (fun v wx => ∃ L', Sl L' wx 9 1 v (all ++ [bts xs]).length ((all ++ [bts xs]).map strV) (7, .list) ∧ Fr (fun _ => False) L7 w7 L' wx)
              case first =>
                have hsrc := sl_src ha7
                have hxl : (all.map strV).length = all.length := List.length_map ..
                obtain ⟨XS, hXS⟩ : ∃ XS, XS = all.map strV := ⟨_, rfl⟩
                rw [← hXS] at hsrc hxl
                rw [← hxl] at hsrc
                have HX := Lib.hid (And.intro hXS hxl)
                have ho1 := blk_cell ob7.2 1
                simp at ho1
                have holt := blk_lt ob7.2
                obtain ⟨i0, hi0, hz0, hz1, hz2⟩ := info_parts Try.info9
                clear hXS hxl
                have h1 : ∀ u ∈ XS, u.oneCell' = true := by
                  intro u hu
                  rw [HX.out.1] at hu
                  obtain ⟨q, _, rfl⟩ := List.mem_map.1 hu
                  rfl
                have hX1000 : XS.length ≤ 1000 := by have := HX.out.2; omega
                have H1 := Lib.hid h1
                have HSRC := Lib.hid hsrc
                have HO1 := Lib.hid ho1
                clear h1 hsrc
                go_region_held3 (fun w' => w'.cell? ⟨ob, 1, none⟩ = some (.string xs)) (first | go_keep | exact (hb8.cell (p := ⟨ob, 1, none⟩) holt).trans HO1.out | exact (hb9.cell (p := ⟨ob, 1, none⟩) holt).trans HO1.out) (first
                  | (refine step_append_src rfl (.tmp 80) (.tmp 83) 57 rfl w7.heap.size 9 i0 (.string ByteArray.empty) 16 Try.underlying57 hi0 hz0 hz1 hz2 rfl v8 XS.length XS (by simp [Act.eval]) hown8 _ 1 [.string xs] (by simp [Act.eval]) rfl (src_one hx8) (by simp [Value.oneCell']) (by unfold maxLen; omega) (by omega) hb8.size ?_; intro v9 w9 hown9 hg9 hat9; have hb9 := below_grown hb8 hg9 hv8 (Nat.le_refl _))
                  | (refine step_append_src rfl (.tmp 80) (.tmp 83) 57 rfl w7.heap.size 9 i0 (.string ByteArray.empty) 16 Try.underlying57 hi0 hz0 hz1 hz2 rfl v8 XS.length XS (by simp [Act.eval]) (World.ownsRow.alloc hown8 _) (.slice (some ⟨w8.heap.size, 0, none⟩) 1 1) 1 [.string xs] (by simp [Act.eval]) rfl (src_one (heap_alloc_new w8 _)) (by simp [Value.oneCell']) (by unfold maxLen; omega) (by omega) (by have := hb8.size; simp; omega) ?_; intro v9 w9 hown9 hg9 hat9; have hb9 := below_grown (hb8.alloc hb8.size _) hg9 hv8 (Nat.le_refl _))
                  | (refine step_append_src rfl (.tmp 78) (.tmp 79) 57 rfl w7.heap.size 9 i0 (.string ByteArray.empty) 16 Try.underlying57 hi0 hz0 hz1 hz2 rfl (.slice (some ⟨w7.heap.size, 0, none⟩) 0 0) 0 [] (by simp [Act.eval]) (own_empty (Nat.le_refl _) (heap_e1 w7 _)) u9 XS.length XS (by simp [Act.eval]) rfl (HSRC.out.below (below_e1 w7 _)) H1.out (by unfold maxLen; omega) (by omega) (below_e1 w7 _).size ?_; intro v8 w8 hown8 hg8 hat8; have hb8 := below_grown (below_e1 w7 _) hg8 (fun g hg => own_ge (Nat.le_refl _) hg) (Nat.le_refl _); have hv8 : ∀ g, v8.ownBlock = some g → w7.heap.size ≤ g := fun g hg => (World.ownsRow.lt hown8 g hg).1; simp only [Nat.zero_add, List.nil_append] at hown8)
                  | (refine step_append_src rfl (.tmp 78) (.tmp 79) 57 rfl w7.heap.size 9 i0 (.string ByteArray.empty) 16 Try.underlying57 hi0 hz0 hz1 hz2 rfl (.slice (some ⟨w7.heap.size, 0, none⟩) 0 0) 0 [] (by simp [Act.eval]) (own_empty (Nat.le_refl _) (heap_e2 w7 _ _)) u9 XS.length XS (by simp [Act.eval]) rfl (HSRC.out.below (below_e2 w7 _ _)) H1.out (by unfold maxLen; omega) (by omega) (below_e2 w7 _ _).size ?_; intro v8 w8 hown8 hg8 hat8; have hb8 := below_grown (below_e2 w7 _ _) hg8 (fun g hg => own_ge (Nat.le_refl _) hg) (Nat.le_refl _); have hv8 : ∀ g, v8.ownBlock = some g → w7.heap.size ≤ g := fun g hg => (World.ownsRow.lt hown8 g hg).1; simp only [Nat.zero_add, List.nil_append] at hown8; obtain ⟨gx, hgx⟩ : ∃ gx, gx = w7.heap.size + 1 := ⟨_, rfl⟩; have hx8 : w8.heap[gx]? = some (.cells #[.string xs] 9 (0, 0)) := (hg8.block gx (by rw [hgx]; simp) (by rw [hgx]; simp [Value.ownBlock])).trans (by rw [hgx]; exact heap_e3 w7 _ _); subst hgx)
                  | (refine step_append_src rfl (.tmp 78) (.tmp 79) 57 rfl w7.heap.size 9 i0 (.string ByteArray.empty) 16 Try.underlying57 hi0 hz0 hz1 hz2 rfl (.slice (some ⟨w7.heap.size + 1, 0, none⟩) 0 0) 0 [] (by simp [Act.eval]) (own_empty (Nat.le_succ _) (heap_e3 w7 _ _)) u9 XS.length XS (by simp [Act.eval]) rfl (HSRC.out.below (below_e2 w7 _ _)) H1.out (by unfold maxLen; omega) (by omega) (below_e2 w7 _ _).size ?_; intro v8 w8 hown8 hg8 hat8; have hb8 := below_grown (below_e2 w7 _ _) hg8 (fun g hg => own_ge (Nat.le_succ _) hg) (Nat.le_refl _); have hv8 : ∀ g, v8.ownBlock = some g → w7.heap.size ≤ g := fun g hg => (World.ownsRow.lt hown8 g hg).1; simp only [Nat.zero_add, List.nil_append] at hown8; obtain ⟨gx, hgx⟩ : ∃ gx, gx = w7.heap.size := ⟨_, rfl⟩; have hx8 : w8.heap[gx]? = some (.cells #[.string xs] 9 (0, 0)) := (hg8.block gx (by rw [hgx]; simp; omega) (by rw [hgx]; simp [Value.ownBlock])).trans (by rw [hgx]; exact heap_e2 w7 _ _); subst hgx)
                  | (trace_state; fail))
                all_goals
                  go_wp2_with fail
                  go_meet
                  obtain ⟨L2, fl2, hl2⟩ := own_label (7, .list) (M := fun _ => False) (Fr.below g7.fresh hb9) hown9 (Nat.le_refl _)
                  exact ⟨L2, sl_snoc HX.out.1 hl2, fl2⟩
              case rest =>
                obtain ⟨L9, ha9, f9⟩ := hcut
                have d9 := d7.keep g7.fresh f9 (fun _ hh => hh)
                have jj9 := jj7.keep g7.fresh f9 (fun _ hh => hh)
                have hu9 := hu7.keep g7.fresh f9 (fun hh => hh)
                have hs9 := hs7.keep g7.fresh f9 (fun hh => hh)
                have ht9 := ht7.keep g7.fresh f9 (fun hh => hh)
                have ob9 := ob7.keep f9
                have g9 := g7.trans (f9.mono (M' := MT) mt)
                have hq1 := blk_cell ob9.2 1
                simp at hq1
                clear ha7 d7 jj7 hu7 hs7 ht7 ob7 ho1 f9
                obtain ⟨i0, hi0, hz0, hz1, hz2⟩ := info_parts Try.info9
                obtain ⟨YS, hYS⟩ : ∃ YS, YS = a.map strV := ⟨_, rfl⟩
                have hYl : YS.length = a.length := by rw [hYS, List.length_map]
                rw [← hYS, ← hYl] at hs9
                have HYS := Lib.hid hYS
                clear hYS
                go_wp2_with (at_builtin; refine app1Lg (by first | rfl | (simp [Region.wanted, yielded])) (.tmp 89) (.tmp 92) 57 rfl 9 i0 (.string ByteArray.empty) 16 Try.underlying57 hi0 hz0 hz1 hz2 (by omega) rfl _ YS (.string xs) rfl rfl hs9 g9.fresh rfl (by omega) ?_; intro v10 w10 L10 hsl10 f10)
                have d10 := d9.keep g9.fresh f10 (fun _ hh => by cases hh)
                have jj10 := jj9.keep g9.fresh f10 (fun _ hh => by cases hh)
                have ha10 := ha9.keep g9.fresh f10 (fun hh => by cases hh)
                have hu10 := hu9.keep g9.fresh f10 (fun hh => by cases hh)
                have ht10 := ht9.keep g9.fresh f10 (fun hh => by cases hh)
                have g10 := g9.trans (f10.mono (M' := MT) mt)
                have hv10 := sl_snoc HYS.out hsl10
                obtain ⟨VA, vc, hvv⟩ := OwnS.len hv10.1
                subst hvv
                have hlv : (a ++ [bts xs]).length ≤ 1000 := by rw [List.length_append]; simp; omega
                go_wp2_with fail
                refine (sameW_any ht10.1 hv10.1 (by omega) (by omega)).mono ?_
                rintro e' w11 ⟨rfl, hb11⟩
                rw [decide_eq_true HE.out.1]
                have f11 : Fr (fun _ => False) L10 w10 L10 w11 := Fr.below g10.fresh hb11
                go_wp2_with fail
                go_roundw
                case rel => exact ⟨k + 1, L10, s', some (a', false), all ++ [bts xs], sure, hk1, by go_num, d10.keep g10.fresh f11 (fun _ hh => hh), ⟨j, rfl, jj10.keep g10.fresh f11 (fun _ hh => hh)⟩, ha10.keep g10.fresh f11 (fun hh => hh), hu10.keep g10.fresh f11 (fun hh => hh), g10.trans (f11.mono mt), show Hid _ from by rw [← HE.out.2]; exact HN.out.2.1⟩
                case measure => simp [intOf]; omega
            · have HE := Lib.hid (And.intro ea eall)
              clear ea eall
              go_wp2_with fail
              refine (disky_any 8 _ (Or.inr (Or.inl rfl))).mono ?_
              rintro e' w8 ⟨rfl, rfl⟩
              rw [show decide ((8 : Int) ≠ 7) = true from rfl]
              go_upto_region 27 with fail
              go_cut [9] from 78 to 84 (fun v wx => ∃ L', Sl L' wx 9 1 v (all ++ [bts xs]).length ((all ++ [bts xs]).map strV) (7, .list) ∧ Fr (fun _ => False) L7 w7 L' wx)
              case first =>
                have hsrc := sl_src ha7
                have hxl : (all.map strV).length = all.length := List.length_map ..
                obtain ⟨XS, hXS⟩ : ∃ XS, XS = all.map strV := ⟨_, rfl⟩
                rw [← hXS] at hsrc hxl
                rw [← hxl] at hsrc
                have HX := Lib.hid (And.intro hXS hxl)
                have ho1 := blk_cell ob7.2 1
                simp at ho1
                have holt := blk_lt ob7.2
                obtain ⟨i0, hi0, hz0, hz1, hz2⟩ := info_parts Try.info9
                clear hXS hxl
                have h1 : ∀ u ∈ XS, u.oneCell' = true := by
                  intro u hu
                  rw [HX.out.1] at hu
                  obtain ⟨q, _, rfl⟩ := List.mem_map.1 hu
                  rfl
                have hX1000 : XS.length ≤ 1000 := by have := HX.out.2; omega
                have H1 := Lib.hid h1
                have HSRC := Lib.hid hsrc
                have HO1 := Lib.hid ho1
                clear h1 hsrc
                go_region_held3 (fun w' => w'.cell? ⟨ob, 1, none⟩ = some (.string xs)) (first | go_keep | exact (hb8.cell (p := ⟨ob, 1, none⟩) holt).trans HO1.out | exact (hb9.cell (p := ⟨ob, 1, none⟩) holt).trans HO1.out) (first
                  | (refine step_append_src rfl (.tmp 80) (.tmp 83) 57 rfl w7.heap.size 9 i0 (.string ByteArray.empty) 16 Try.underlying57 hi0 hz0 hz1 hz2 rfl v8 XS.length XS (by simp [Act.eval]) hown8 _ 1 [.string xs] (by simp [Act.eval]) rfl (src_one hx8) (by simp [Value.oneCell']) (by unfold maxLen; omega) (by omega) hb8.size ?_; intro v9 w9 hown9 hg9 hat9; have hb9 := below_grown hb8 hg9 hv8 (Nat.le_refl _))
                  | (refine step_append_src rfl (.tmp 80) (.tmp 83) 57 rfl w7.heap.size 9 i0 (.string ByteArray.empty) 16 Try.underlying57 hi0 hz0 hz1 hz2 rfl v8 XS.length XS (by simp [Act.eval]) (World.ownsRow.alloc hown8 _) (.slice (some ⟨w8.heap.size, 0, none⟩) 1 1) 1 [.string xs] (by simp [Act.eval]) rfl (src_one (heap_alloc_new w8 _)) (by simp [Value.oneCell']) (by unfold maxLen; omega) (by omega) (by have := hb8.size; simp; omega) ?_; intro v9 w9 hown9 hg9 hat9; have hb9 := below_grown (hb8.alloc hb8.size _) hg9 hv8 (Nat.le_refl _))
                  | (refine step_append_src rfl (.tmp 78) (.tmp 79) 57 rfl w7.heap.size 9 i0 (.string ByteArray.empty) 16 Try.underlying57 hi0 hz0 hz1 hz2 rfl (.slice (some ⟨w7.heap.size, 0, none⟩) 0 0) 0 [] (by simp [Act.eval]) (own_empty (Nat.le_refl _) (heap_e1 w7 _)) u9 XS.length XS (by simp [Act.eval]) rfl (HSRC.out.below (below_e1 w7 _)) H1.out (by unfold maxLen; omega) (by omega) (below_e1 w7 _).size ?_; intro v8 w8 hown8 hg8 hat8; have hb8 := below_grown (below_e1 w7 _) hg8 (fun g hg => own_ge (Nat.le_refl _) hg) (Nat.le_refl _); have hv8 : ∀ g, v8.ownBlock = some g → w7.heap.size ≤ g := fun g hg => (World.ownsRow.lt hown8 g hg).1; simp only [Nat.zero_add, List.nil_append] at hown8)
                  | (refine step_append_src rfl (.tmp 78) (.tmp 79) 57 rfl w7.heap.size 9 i0 (.string ByteArray.empty) 16 Try.underlying57 hi0 hz0 hz1 hz2 rfl (.slice (some ⟨w7.heap.size, 0, none⟩) 0 0) 0 [] (by simp [Act.eval]) (own_empty (Nat.le_refl _) (heap_e2 w7 _ _)) u9 XS.length XS (by simp [Act.eval]) rfl (HSRC.out.below (below_e2 w7 _ _)) H1.out (by unfold maxLen; omega) (by omega) (below_e2 w7 _ _).size ?_; intro v8 w8 hown8 hg8 hat8; have hb8 := below_grown (below_e2 w7 _ _) hg8 (fun g hg => own_ge (Nat.le_refl _) hg) (Nat.le_refl _); have hv8 : ∀ g, v8.ownBlock = some g → w7.heap.size ≤ g := fun g hg => (World.ownsRow.lt hown8 g hg).1; simp only [Nat.zero_add, List.nil_append] at hown8; obtain ⟨gx, hgx⟩ : ∃ gx, gx = w7.heap.size + 1 := ⟨_, rfl⟩; have hx8 : w8.heap[gx]? = some (.cells #[.string xs] 9 (0, 0)) := (hg8.block gx (by rw [hgx]; simp) (by rw [hgx]; simp [Value.ownBlock])).trans (by rw [hgx]; exact heap_e3 w7 _ _); subst hgx)
                  | (refine step_append_src rfl (.tmp 78) (.tmp 79) 57 rfl w7.heap.size 9 i0 (.string ByteArray.empty) 16 Try.underlying57 hi0 hz0 hz1 hz2 rfl (.slice (some ⟨w7.heap.size + 1, 0, none⟩) 0 0) 0 [] (by simp [Act.eval]) (own_empty (Nat.le_succ _) (heap_e3 w7 _ _)) u9 XS.length XS (by simp [Act.eval]) rfl (HSRC.out.below (below_e2 w7 _ _)) H1.out (by unfold maxLen; omega) (by omega) (below_e2 w7 _ _).size ?_; intro v8 w8 hown8 hg8 hat8; have hb8 := below_grown (below_e2 w7 _ _) hg8 (fun g hg => own_ge (Nat.le_succ _) hg) (Nat.le_refl _); have hv8 : ∀ g, v8.ownBlock = some g → w7.heap.size ≤ g := fun g hg => (World.ownsRow.lt hown8 g hg).1; simp only [Nat.zero_add, List.nil_append] at hown8; obtain ⟨gx, hgx⟩ : ∃ gx, gx = w7.heap.size := ⟨_, rfl⟩; have hx8 : w8.heap[gx]? = some (.cells #[.string xs] 9 (0, 0)) := (hg8.block gx (by rw [hgx]; simp; omega) (by rw [hgx]; simp [Value.ownBlock])).trans (by rw [hgx]; exact heap_e2 w7 _ _); subst hgx)
                  | (trace_state; fail))
                all_goals
                  go_wp2_with fail
                  go_meet
                  obtain ⟨L2, fl2, hl2⟩ := own_label (7, .list) (M := fun _ => False) (Fr.below g7.fresh hb9) hown9 (Nat.le_refl _)
                  exact ⟨L2, sl_snoc HX.out.1 hl2, fl2⟩
              case rest =>
                obtain ⟨L9, ha9, f9⟩ := hcut
                have d9 := d7.keep g7.fresh f9 (fun _ hh => hh)
                have jj9 := jj7.keep g7.fresh f9 (fun _ hh => hh)
                have hu9 := hu7.keep g7.fresh f9 (fun hh => hh)
                have hs9 := hs7.keep g7.fresh f9 (fun hh => hh)
                have ht9 := ht7.keep g7.fresh f9 (fun hh => hh)
                have ob9 := ob7.keep f9
                have g9 := g7.trans (f9.mono (M' := MT) mt)
                have hq1 := blk_cell ob9.2 1
                simp at hq1
                clear ha7 d7 jj7 hu7 hs7 ht7 ob7 ho1 f9
                go_wp2_with fail
                refine (sameW_any ht9.1 hs9.1 (by omega) (by omega)).mono ?_
                rintro e' w10 ⟨rfl, hb10⟩
                rw [decide_eq_true HE.out.1]
                have f10 : Fr (fun _ => False) L9 wc L9 w10 := Fr.below g9.fresh hb10
                go_wp2_with fail
                go_roundw
                case rel => exact ⟨k + 1, L9, s', some (a', true), all ++ [bts xs], sure, hk1, by go_num, d9.keep g9.fresh f10 (fun _ hh => hh), ⟨j, rfl, jj9.keep g9.fresh f10 (fun _ hh => hh)⟩, ha9.keep g9.fresh f10 (fun hh => hh), hu9.keep g9.fresh f10 (fun hh => hh), g9.trans (f10.mono mt), show Hid _ from by rw [← HE.out.2]; exact HN.out.2.1⟩
                case measure => simp [intOf]; omega
        have n0 : ((xk : Int) == 0) = false := by simpa using h0
        by_cases h1 : xk = 1
        · subst h1
          match o, jA, HS with
          | none, jA, HS =>
            subst jA
            go_wp2_with fail
            go_roundw
            case rel => exact ⟨k + 1, L4, s, none, all, sure, hk1, by go_num, dA, rfl, haA, hsA, gA, show Hid _ from HS.out.mono (by omega)⟩
            case measure => simp [intOf]; omega
          | some (a, bad), jA, HS =>
            obtain ⟨j, rfl, jj⟩ := jA
            obtain ⟨s', b', e, sure', r1, r2, _, r3⟩ := HS.out.syn (by rfl)
            have hsm := HS.out.small.1
            have hii := HS.out.inv
            have HN := Lib.hid (And.intro r1 (And.intro r2 (And.intro r3 hii)))
            clear r1 r2 r3 hii
            go_wp2_with fail
            refine (jsync_as 3 HN.out.1 (by decide) gA.fresh dA jj HN.out.2.2.2 (by omega)).mono ?_
            rintro e' w5 ⟨rfl, L5, d5, jj5, f5⟩
            have ha5 := haA.keep gA.fresh f5 (by intro hh; rcases hh with hh | hh <;> cases hh)
            have hu5 := hsA.keep gA.fresh f5 (by intro hh; rcases hh with hh | hh <;> cases hh)
            have g5 := gA.trans (f5.mono (M' := MT) mt)
            rcases HN.out.2.2.1 with ⟨rfl, rfl, rfl, rfl⟩ | ⟨rfl, rfl, rfl, rfl, rfl⟩ | ⟨he, rfl, rfl, rfl⟩
            · go_wp2_with fail
              go_roundw
              case rel => exact ⟨k + 1, L5, s', some (a, true), all, sure', hk1, by go_num, d5, ⟨j, rfl, jj5⟩, ha5, hu5, g5, show Hid _ from HN.out.2.1.mono (by omega)⟩
              case measure => simp [intOf]; omega
            · go_wp2_with fail
              refine (jall_any jj5 (by omega)).mono ?_
              rintro e' w6 ⟨v6, rfl, hown6, hb6⟩
              obtain ⟨L6, f6, ht6⟩ := own_label (7, .list) (M := fun _ => False) (Fr.below g5.fresh hb6) hown6 (Nat.le_refl _)
              go_wp2_with fail
              go_roundw
              case rel => exact ⟨k + 1, L6, s', some (_, false), _, _, hk1, by go_num, d5.keep g5.fresh f6 (fun _ hh => hh), ⟨j, rfl, jj5.keep g5.fresh f6 (fun _ hh => hh)⟩, ha5.keep g5.fresh f6 (fun hh => hh), ht6, g5.trans (f6.mono mt), show Hid _ from HN.out.2.1.mono (by omega)⟩
              case measure => simp [intOf]; omega
            · have hne : ((e : Int) == 0) = false := by simp; omega
              go_wp2_with fail
              go_roundw
              case rel => exact ⟨k + 1, L5, s', some (a, true), all, sure', hk1, by go_num, d5, ⟨j, rfl, jj5⟩, ha5, hu5, g5, show Hid _ from HN.out.2.1.mono (by omega)⟩
              case measure => simp [intOf]; omega
        have n1 : ((xk : Int) == 1) = false := by simpa using h1
        by_cases h2 : xk = 2
        · subst h2
          have o2 := blk_cell obA.2 2
          simp at o2
          go_wp2_with fail
          refine (lose_any xn gA.fresh dA).mono ?_
          rintro e w5 ⟨rfl, d5, f5⟩
          have j5 := jA.keep gA.fresh f5 (fun r hh => by injection hh with hh _; omega)
          have ha5 := haA.keep gA.fresh f5 (by intro hh; cases hh)
          have hu5 := hsA.keep gA.fresh f5 (by intro hh; cases hh)
          go_wp2_with fail
          go_roundw
          case rel => exact ⟨k + 1, L4, s.lose xn, o, all, sure, hk1, by go_num, d5, j5, ha5, hu5, gA.trans (f5.mono mt), show Hid _ from (HS.out.lose (by unfold isI64 at ok2; omega)).mono (by omega)⟩
          case measure => simp [intOf]; omega
        have n2 : ((xk : Int) == 2) = false := by simpa using h2
        by_cases h3 : xk = 3
        · subst h3
          have o2 := blk_cell obA.2 2
          have o3 := blk_cell obA.2 3
          simp at o2 o3
          have hld : L4 d = some (0, .disk) := by obtain ⟨mb, pv, kv, fb, hd, _⟩ := dA; exact hd
          go_wp2_with fail
          refine (Arm_any xn _ xkeep gA.fresh dA (hkA.rd) (hkA.far hld) (by omega)).mono ?_
          rintro e w5 ⟨rfl, L5, d5, f5⟩
          have j5 := jA.keep gA.fresh f5 (fun r hh => by cases hh)
          have ha5 := haA.keep gA.fresh f5 (by intro hh; cases hh)
          have hu5 := hsA.keep gA.fresh f5 (by intro hh; cases hh)
          go_wp2_with fail
          go_roundw
          case rel => exact ⟨k + 1, L5, s.arm xn xkeep, o, all, sure, hk1, by go_num, d5, j5, ha5, hu5, gA.trans (f5.mono mt), show Hid _ from (HS.out.arm (by unfold isI64 at ok2; omega) (by omega)).mono (by omega)⟩
          case measure => simp [intOf]; omega
        have n3 : ((xk : Int) == 3) = false := by simpa using h3
        by_cases h4 : xk = 4
        · subst h4
          have o0 := blk_cell obA.2 0
          have o3 := blk_cell obA.2 3
          simp at o0 o3
          have hiA := HS.out.inv
          go_wp2_with fail
          refine (crash_any _ xkeep gA.fresh dA hiA (hkA.kat 0)).mono ?_
          rintro e w5 ⟨rfl, L5, d5, f5⟩
          have ha5 := haA.keep gA.fresh f5 (by intro hh; cases hh)
          have hu5 := hsA.keep gA.fresh f5 (by intro hh; cases hh)
          have g5 := gA.trans (f5.mono (M' := MT) mt)
          go_wp2_with fail
          refine (start_any f5.fresh d5).mono ?_
          rintro e w6 ⟨rfl, d6, f6⟩
          have ha6 := ha5.keep g5.fresh f6 (by intro hh; cases hh)
          have hu6 := hu5.keep g5.fresh f6 (by intro hh; cases hh)
          have g6 := g5.trans (f6.mono (M' := MT) mt)
          have hi6 : Inv (s.crash xkeep).start := (hiA.crash _).start
          clear dA jA haA hsA gA hkA obA d5 ha5 hu5 g5 f5 f6 o0 o3 hiA
          rcases ((HS.out.crash xkeep).start).opened rfl (by rfl) with ⟨s', a, r1, r2, ⟨ra, r3⟩, ⟨rb, r4⟩, _⟩ | ⟨s', e, r1, r2, r3, _, r4⟩
          · have hcn := HS.out.cnt
            have hrl : a.length ≤ 1000 := by have := r2.small.1; omega
            have hsl : sure.length ≤ 1000 := by
              have := congrArg List.length r4
              rw [List.length_append] at this
              omega
            have HN := Lib.hid (And.intro r1 (And.intro r2 (And.intro r3 r4)))
            clear r1 r2 r3 r4
            go_wp2_with fail
            refine (jopen_as 1 3 HN.out.1 (by decide) g6.fresh d6 hi6 (by omega)).mono ?_
            intro e' w7 hpost
            obtain ⟨L7, jv7, rfl, d7, f7, j7, rfl, jj7⟩ := opost_jv hpost
            clear hpost
            have ha7 := ha6.keep g6.fresh f7 (by intro hh; cases hh)
            have hu7 := hu6.keep g6.fresh f7 (by intro hh; cases hh)
            have g7 := g6.trans (f7.mono (M' := MT) mt)
            go_wp2_with fail
            refine (jall_any jj7 (by omega)).mono ?_
            rintro e' w8 ⟨v8, rfl, hown8, hb8⟩
            obtain ⟨L8, f8, hn8⟩ := own_label (7, .list) (M := fun _ => False) (Fr.below g7.fresh hb8) hown8 (Nat.le_refl _)
            have d8 := d7.keep g7.fresh f8 (fun _ hh => hh)
            have jj8 := jj7.keep g7.fresh f8 (fun _ hh => hh)
            have ha8 := ha7.keep g7.fresh f8 (fun hh => hh)
            have hu8 := hu7.keep g7.fresh f8 (fun hh => hh)
            have g8 := g7.trans (f8.mono (M' := MT) mt)
            have hal2 : (a ++ ra).length ≤ 1000000 := by rw [← HN.out.2.2.1]; omega
            rw [HN.out.2.2.1] at ha8
            clear hown8 hb8 d7 jj7 ha7 hu7 f7
            go_wp2_with fail
            refine (begins_any ha8 hn8 hal2).mono ?_
            rintro e' w9 ⟨rfl, hb9⟩
            have f9 : Fr (fun _ => False) L8 w8 L8 w9 := Fr.below g8.fresh hb9
            have d9 := d8.keep g8.fresh f9 (fun _ hh => hh)
            have jj9 := jj8.keep g8.fresh f9 (fun _ hh => hh)
            have hn9 := hn8.keep g8.fresh f9 (fun hh => hh)
            have hu9 := hu8.keep g8.fresh f9 (fun hh => hh)
            have g9 := g8.trans (f9.mono (M' := MT) mt)
            have hn9' := hn9
            have hab : (sure ++ rb).length ≤ 1000000 := by rw [← HN.out.2.2.2]; omega
            rw [HN.out.2.2.2] at hn9'
            clear hb9 d8 jj8 ha8 hn8 hu8
            go_wp2_with fail
            refine (begins_any hn9' hu9 hab).mono ?_
            rintro e' w10 ⟨rfl, hb10⟩
            have f10 : Fr (fun _ => False) L8 w9 L8 w10 := Fr.below g9.fresh hb10
            go_wp2_with fail
            go_roundw
            case rel => exact ⟨k + 1, L8, s', some (a, false), a, a, by omega, by go_num, d9.keep g9.fresh f10 (fun _ hh => hh), ⟨j7, rfl, jj9.keep g9.fresh f10 (fun _ hh => hh)⟩, hn9.keep g9.fresh f10 (fun hh => hh), hn9.keep g9.fresh f10 (fun hh => hh), g9.trans (f10.mono mt), show Hid _ from HN.out.2.1.mono (by omega)⟩
            case measure => simp [intOf]; omega
          · have HN := Lib.hid (And.intro r1 r3)
            clear r1 r3 r4
            have hne : ((k : Int) == (l.length : Int)) = false := by simp; omega
            go_wp2_with fail
            refine (jopen_as 1 3 HN.out.1 (by decide) g6.fresh d6 hi6 (by omega)).mono ?_
            intro e' w7 hpost
            obtain ⟨L7, jv7, rfl, d7, f7, rfl⟩ := opost_jv hpost
            clear hpost
            have ha7 := ha6.keep g6.fresh f7 (by intro hh; cases hh)
            have hu7 := hu6.keep g6.fresh f7 (by intro hh; cases hh)
            have g7 := g6.trans (f7.mono (M' := MT) mt)
            go_wp2_with fail
            refine (disky_any e _ (Or.inr r2)).mono ?_
            rintro e' w8 ⟨rfl, rfl⟩
            rw [decide_eq_true (show e ≠ 7 by omega)]
            go_wp2_with fail
            go_roundw
            case rel => exact ⟨k + 1, L7, s', none, all, sure, hk1, by go_num, d7, rfl, ha7, hu7, g7, show Hid _ from HN.out.2.mono (by omega)⟩
            case measure => simp [intOf]; omega
        have n4 : ((xk : Int) == 4) = false := by simpa using h4
        by_cases h5 : xk = 5
        · subst h5
          have o0 := blk_cell obA.2 0
          simp at o0
          have hiA := HS.out.inv
          go_wp2_with fail
          refine (start_any gA.fresh dA).mono ?_
          rintro e w6 ⟨rfl, d6, f6⟩
          have ha6 := haA.keep gA.fresh f6 (by intro hh; cases hh)
          have hu6 := hsA.keep gA.fresh f6 (by intro hh; cases hh)
          have g6 := gA.trans (f6.mono (M' := MT) mt)
          have hi6 : Inv s.start := hiA.start
          clear dA jA haA hsA gA hkA obA f6 o0 hiA
          rcases (HS.out.start).opened rfl (by rfl) with ⟨s', a, r1, r2, ⟨ra, r3⟩, ⟨rb, r4⟩, _⟩ | ⟨s', e, r1, r2, r3, _, r4⟩
          · have hcn := HS.out.cnt
            have hrl : a.length ≤ 1000 := by have := r2.small.1; omega
            have hsl : sure.length ≤ 1000 := by
              have := congrArg List.length r4
              rw [List.length_append] at this
              omega
            have HN := Lib.hid (And.intro r1 (And.intro r2 (And.intro r3 r4)))
            clear r1 r2 r3 r4
            go_wp2_with fail
            refine (jopen_as 1 3 HN.out.1 (by decide) g6.fresh d6 hi6 (by omega)).mono ?_
            intro e' w7 hpost
            obtain ⟨L7, jv7, rfl, d7, f7, j7, rfl, jj7⟩ := opost_jv hpost
            clear hpost
            have ha7 := ha6.keep g6.fresh f7 (by intro hh; cases hh)
            have hu7 := hu6.keep g6.fresh f7 (by intro hh; cases hh)
            have g7 := g6.trans (f7.mono (M' := MT) mt)
            go_wp2_with fail
            refine (jall_any jj7 (by omega)).mono ?_
            rintro e' w8 ⟨v8, rfl, hown8, hb8⟩
            obtain ⟨L8, f8, hn8⟩ := own_label (7, .list) (M := fun _ => False) (Fr.below g7.fresh hb8) hown8 (Nat.le_refl _)
            have d8 := d7.keep g7.fresh f8 (fun _ hh => hh)
            have jj8 := jj7.keep g7.fresh f8 (fun _ hh => hh)
            have ha8 := ha7.keep g7.fresh f8 (fun hh => hh)
            have hu8 := hu7.keep g7.fresh f8 (fun hh => hh)
            have g8 := g7.trans (f8.mono (M' := MT) mt)
            have hal2 : (a ++ ra).length ≤ 1000000 := by rw [← HN.out.2.2.1]; omega
            rw [HN.out.2.2.1] at ha8
            clear hown8 hb8 d7 jj7 ha7 hu7 f7
            go_wp2_with fail
            refine (begins_any ha8 hn8 hal2).mono ?_
            rintro e' w9 ⟨rfl, hb9⟩
            have f9 : Fr (fun _ => False) L8 w8 L8 w9 := Fr.below g8.fresh hb9
            have d9 := d8.keep g8.fresh f9 (fun _ hh => hh)
            have jj9 := jj8.keep g8.fresh f9 (fun _ hh => hh)
            have hn9 := hn8.keep g8.fresh f9 (fun hh => hh)
            have hu9 := hu8.keep g8.fresh f9 (fun hh => hh)
            have g9 := g8.trans (f9.mono (M' := MT) mt)
            have hn9' := hn9
            have hab : (sure ++ rb).length ≤ 1000000 := by rw [← HN.out.2.2.2]; omega
            rw [HN.out.2.2.2] at hn9'
            clear hb9 d8 jj8 ha8 hn8 hu8
            go_wp2_with fail
            refine (begins_any hn9' hu9 hab).mono ?_
            rintro e' w10 ⟨rfl, hb10⟩
            have f10 : Fr (fun _ => False) L8 w9 L8 w10 := Fr.below g9.fresh hb10
            go_wp2_with fail
            go_roundw
            case rel => exact ⟨k + 1, L8, s', some (a, false), a, a, by omega, by go_num, d9.keep g9.fresh f10 (fun _ hh => hh), ⟨j7, rfl, jj9.keep g9.fresh f10 (fun _ hh => hh)⟩, hn9.keep g9.fresh f10 (fun hh => hh), hn9.keep g9.fresh f10 (fun hh => hh), g9.trans (f10.mono mt), show Hid _ from HN.out.2.1.mono (by omega)⟩
            case measure => simp [intOf]; omega
          · have HN := Lib.hid (And.intro r1 r3)
            clear r1 r3 r4
            have hne : ((k : Int) == (l.length : Int)) = false := by simp; omega
            go_wp2_with fail
            refine (jopen_as 1 3 HN.out.1 (by decide) g6.fresh d6 hi6 (by omega)).mono ?_
            intro e' w7 hpost
            obtain ⟨L7, jv7, rfl, d7, f7, rfl⟩ := opost_jv hpost
            clear hpost
            have ha7 := ha6.keep g6.fresh f7 (by intro hh; cases hh)
            have hu7 := hu6.keep g6.fresh f7 (by intro hh; cases hh)
            have g7 := g6.trans (f7.mono (M' := MT) mt)
            go_wp2_with fail
            refine (disky_any e _ (Or.inr r2)).mono ?_
            rintro e' w8 ⟨rfl, rfl⟩
            rw [decide_eq_true (show e ≠ 7 by omega)]
            go_wp2_with fail
            go_roundw
            case rel => exact ⟨k + 1, L7, s', none, all, sure, hk1, by go_num, d7, rfl, ha7, hu7, g7, show Hid _ from HN.out.2.mono (by omega)⟩
            case measure => simp [intOf]; omega
        have n5 : ((xk : Int) == 5) = false := by simpa using h5
        go_wp2_with fail
        go_roundw
        case rel => exact ⟨k + 1, L4, s, o, all, sure, hk1, by go_num, dA, jA, haA, hsA, gA, show Hid _ from HS.out.mono (by omega)⟩
        case measure => simp [intOf]; omega
      · obtain rfl : k = l.length := by omega
        have hq6 : ((((s.lose 0).arm 0 []).crash keep).start).armed = 0 ∧ ((((s.lose 0).arm 0 []).crash keep).start).lost = 0 := crash_quiet rfl rfl keep
        have hj6 := ((((HS.out.lose (m := 0) (by omega)).arm (m := 0) (keep := []) (by omega) (by simp)).crash keep).start).mono (Nat.le_refl _)
        have HQ6 := Lib.hid (And.intro hq6 hj6)
        clear hq6 hj6
        go_upto_region 18 with fail
        obtain ⟨wA, hwA⟩ : ∃ wA, wA = wr.alloc (.cells #[.int .i64 4, .string ⟨#[]⟩, .int .i64 0, .slice K1 keep.length c1] 49) := ⟨_, rfl⟩
        have obA : OBk L4 wA ob 4 ⟨#[]⟩ 0 (.slice K1 keep.length c1) := by
          rw [hwA, hob]
          exact ⟨g4.fresh _ (Nat.le_refl _), heap_alloc_new wr _⟩
        have fA : Fr (fun _ => False) L4 wr L4 wA := by rw [hwA]; exact (Fr.refl g4.fresh).alloc _
        have dA := d4.keep g4.fresh fA (fun _ hh => hh)
        have haA := ha4.keep g4.fresh fA (fun hh => hh)
        have hsA := hs4.keep g4.fresh fA (fun hh => hh)
        have gA := g4.trans (fA.mono (M' := MT) mt)
        rw [← hwA, ← hob]
        clear hwA hob fA d4 j4 ha4 hs4 g4
        have hiA := HS.out.inv
        go_wp2_with fail
        refine (lose_any 0 gA.fresh dA).mono ?_
        rintro e w1 ⟨rfl, d1, f1⟩
        have ha1 := haA.keep gA.fresh f1 (by intro hh; cases hh)
        have hu1 := hsA.keep gA.fresh f1 (by intro hh; cases hh)
        have ob1 := obA.keep f1
        have g1 := gA.trans (f1.mono (M' := MT) mt)
        have hld : L4 d = some (0, .disk) := by obtain ⟨mb, pv, kv, fb, hd, _⟩ := d1; exact hd
        have hnil : ArgI L4 w1 (.slice none 0 0) [] := Or.inl ⟨Or.inl rfl, rfl⟩
        clear dA haA hsA gA obA f1
        go_wp2_with fail
        refine (Arm_any 0 _ [] g1.fresh d1 hnil.rd (hnil.far hld) (by simp)).mono ?_
        rintro e w4 ⟨rfl, L5, d4, f4⟩
        have ha4 := ha1.keep g1.fresh f4 (by intro hh; cases hh)
        have hu4 := hu1.keep g1.fresh f4 (by intro hh; cases hh)
        have ob4 := ob1.keep f4
        have g4 := g1.trans (f4.mono (M' := MT) mt)
        have hi4 : Inv ((s.lose 0).arm 0 []) := (hiA.lose (by omega)).arm (by omega) (by simp)
        have o0 := blk_cell ob4.2 0
        have o3 := blk_cell ob4.2 3
        simp at o0 o3
        have hkk := HA.out.2.keep g4
        clear d1 ha1 hu1 ob1 g1 f4 hnil hld
        go_wp2_with fail
        refine (crash_any _ keep g4.fresh d4 hi4 (hkk.kat 0)).mono ?_
        rintro e w5 ⟨rfl, L6, d5, f5⟩
        have ha5 := ha4.keep g4.fresh f5 (by intro hh; cases hh)
        have hu5 := hu4.keep g4.fresh f5 (by intro hh; cases hh)
        have g5 := g4.trans (f5.mono (M' := MT) mt)
        go_wp2_with fail
        refine (start_any f5.fresh d5).mono ?_
        rintro e w6 ⟨rfl, d6, f6⟩
        have ha6 := ha5.keep g5.fresh f6 (by intro hh; cases hh)
        have hu6 := hu5.keep g5.fresh f6 (by intro hh; cases hh)
        have g6 := g5.trans (f6.mono (M' := MT) mt)
        have hi6 : Inv ((((s.lose 0).arm 0 []).crash keep).start) := (hi4.crash _).start
        have hq6 := HQ6.out.1
        clear d4 ha4 hu4 ob4 g4 d5 ha5 hu5 g5 f5 f6 o0 o3 hiA hi4 hkk
        rcases (HQ6.out.2).opened rfl (by rfl) with ⟨s', a, r1, r2, ⟨ra, r3⟩, ⟨rb, r4⟩, _⟩ | ⟨s', e, r1, r2, r3, _, r4⟩
        · have hcn := HS.out.cnt
          have hrl : a.length ≤ 1000 := by have := r2.small.1; omega
          have hsl : sure.length ≤ 1000 := by
            have := congrArg List.length r4
            rw [List.length_append] at this
            omega
          have HN := Lib.hid (And.intro r1 (And.intro r2 (And.intro r3 r4)))
          clear r1 r2 r3 r4
          go_wp2_with fail
          refine (jopen_as 1 3 HN.out.1 (by decide) g6.fresh d6 hi6 (by omega)).mono ?_
          intro e' w7 hpost
          obtain ⟨L7, jv7, rfl, d7, f7, j7, rfl, jj7⟩ := opost_jv hpost
          clear hpost
          have ha7 := ha6.keep g6.fresh f7 (by intro hh; cases hh)
          have hu7 := hu6.keep g6.fresh f7 (by intro hh; cases hh)
          have g7 := g6.trans (f7.mono (M' := MT) mt)
          go_wp2_with fail
          refine (jall_any jj7 (by omega)).mono ?_
          rintro e' w8 ⟨v8, rfl, hown8, hb8⟩
          obtain ⟨L8, f8, hn8⟩ := own_label (7, .list) (M := fun _ => False) (Fr.below g7.fresh hb8) hown8 (Nat.le_refl _)
          have d8 := d7.keep g7.fresh f8 (fun _ hh => hh)
          have jj8 := jj7.keep g7.fresh f8 (fun _ hh => hh)
          have ha8 := ha7.keep g7.fresh f8 (fun hh => hh)
          have hu8 := hu7.keep g7.fresh f8 (fun hh => hh)
          have g8 := g7.trans (f8.mono (M' := MT) mt)
          have hal2 : (a ++ ra).length ≤ 1000000 := by rw [← HN.out.2.2.1]; omega
          rw [HN.out.2.2.1] at ha8
          clear hown8 hb8 d7 jj7 ha7 hu7 f7
          go_wp2_with fail
          refine (begins_any ha8 hn8 hal2).mono ?_
          rintro e' w9 ⟨rfl, hb9⟩
          have f9 : Fr (fun _ => False) L8 w8 L8 w9 := Fr.below g8.fresh hb9
          have d9 := d8.keep g8.fresh f9 (fun _ hh => hh)
          have jj9 := jj8.keep g8.fresh f9 (fun _ hh => hh)
          have hn9 := hn8.keep g8.fresh f9 (fun hh => hh)
          have hu9 := hu8.keep g8.fresh f9 (fun hh => hh)
          have g9 := g8.trans (f9.mono (M' := MT) mt)
          have hn9' := hn9
          have hab : (sure ++ rb).length ≤ 1000000 := by rw [← HN.out.2.2.2]; omega
          rw [HN.out.2.2.2] at hn9'
          clear hb9 d8 jj8 ha8 hn8 hu8
          go_wp2_with fail
          refine (begins_any hn9' hu9 hab).mono ?_
          rintro e' w10 ⟨rfl, hb10⟩
          have f10 : Fr (fun _ => False) L8 w9 L8 w10 := Fr.below g9.fresh hb10
          go_wp2_with fail
          go_roundw
          case rel => exact ⟨l.length + 1, L8, s', some (a, false), a, a, by omega, by go_num, d9.keep g9.fresh f10 (fun _ hh => hh), ⟨j7, rfl, jj9.keep g9.fresh f10 (fun _ hh => hh)⟩, hn9.keep g9.fresh f10 (fun hh => hh), hn9.keep g9.fresh f10 (fun hh => hh), g9.trans (f10.mono mt), show Hid _ from HN.out.2.1.mono (by omega)⟩
          case measure => simp [intOf]
        · exact absurd (r4 hq6.1) (by rw [hq6.2]; decide)
    · obtain rfl : k = l.length + 1 := by omega
      go_wp2_with fail
      go_ret
      exact law_head g4

end Go.Proofs.Ytgocnjiabfmdpaa
