/- The reference's Crash. -/
import Derived.Test.YtgocnjiabfmdpaaDYk
import Derived.Test.YtgocnjiabfmdpaaDXa
import Derived.Deep.AppendLies
import Derived.Deep.RegionHeld3
import Derived.Deep.DrawnRows
namespace Go.Proofs.Ytgocnjiabfmdpaa
set_option maxRecDepth 8000
open Go.RowKit

/-- The ints of a slice, in blocks that are not the disk's own one. -/
def RKAt (L : Lab) (w : World) (k : Nat) (v : Value) (keep : List Int) : Prop :=
  ∃ A c, v = .slice A keep.length c ∧ ∀ j (hj : j < keep.length), ∃ b off, A = some ⟨b, off, none⟩ ∧ w.cell? ⟨b, off + j, none⟩ = some (.int .i64 keep[j]) ∧ b < w.heap.size ∧ L b ≠ some (k, .disk)

theorem RKAt.keep {L L1 : Lab} {w w1 : World} {k : Nat} {v : Value} {keep : List Int} (h : RKAt L w k v keep) (hf : Fr (MD k) L w L1 w1) : RKAt L1 w1 k v keep := by
  obtain ⟨A, c, rfl, h⟩ := h
  refine ⟨A, c, rfl, fun j hj => ?_⟩
  obtain ⟨b, off, hA, hc, hb, hl⟩ := h j hj
  refine ⟨b, off, hA, ?_, Nat.lt_of_lt_of_le hb hf.size, by rw [hf.lab b hb]; exact hl⟩
  exact (World.cell?_of_block (a := ⟨b, off + j, none⟩) (hf.block b hb (fun t ht hm => hl (by rw [ht, hm])))).trans hc

theorem ArgI.rkat {L : Lab} {w : World} {v : Value} {keep : List Int} (h : ArgI L w v keep) (k : Nat) : RKAt L w k v keep := by
  rcases h with ⟨rfl | ⟨a, c, rfl⟩, rfl⟩ | ⟨b, off, c, rfl, hl, hb, hc⟩
  · exact ⟨none, 0, rfl, fun j hj => by simp at hj⟩
  · exact ⟨some a, c, rfl, fun j hj => by simp at hj⟩
  · exact ⟨_, c, rfl, fun j hj => ⟨b, off, rfl, hc j hj, hb, by rw [hl]; simp⟩⟩

theorem RKAt.of_sl {L : Lab} {w : World} {k : Nat} {v : Value} {keep : List Int} (h : Sl L w 3 1 v keep.length (ic keep) (k, .keep)) : RKAt L w k v keep := by
  rcases own_form h.1 with ⟨rfl, h0⟩ | ⟨g, c, rfl, _, _⟩
  · have : keep = [] := List.eq_nil_of_length_eq_zero h0
    subst this
    exact ⟨none, 0, rfl, fun j hj => by simp at hj⟩
  · refine ⟨_, c, rfl, fun j hj => ⟨g, 0, rfl, ?_, (h.1.lt g rfl).2, ?_⟩⟩
    · rw [Nat.zero_add, h.1.cellAt j (by omega)]
      simp [ic, List.getElem?_eq_getElem hj]
    · rw [h.2 g rfl]; simp

theorem chosen_empty {keep : List Int} (h : keep.length = 0) (i : Nat) (l : List (Int × Int)) : chosen keep i l = [] := by
  induction l generalizing i with
  | nil => rfl
  | cons p l ih =>
    unfold chosen
    rw [if_neg (by simp [survives, h])]
    exact ih _

def fallF (x : Fl) : Fl := ⟨x.num, x.last, x.last⟩

theorem setls_flags (s : St) (b : Bool) (a : Int) (l : List (Int × Int)) : ({ s with down := b, armed := a } : St).setls l = { s.setls l with down := b, armed := a } := by
  induction l generalizing s with
  | nil => rfl
  | cons p l ih => exact ih (s.setl p)

theorem Inv.downed {s : St} (h : Inv s) : Inv { s with down := true, armed := 0 } :=
  ⟨h.le, h.eqb, h.tail, h.mem, h.nodup, h.rng, h.cap, h.lost, by simp, h.kept⟩

set_option maxRecDepth 100000 in
set_option maxHeartbeats 1000000 in
theorem rcrash_any {L : Lab} {w : World} {k d : Nat} {l : List Fl} {K : List Int} {s : St} (v : Value) (keep : List Int) (hL : Fresh L w) (h : RAt L w k d l K s) (hi : Inv s) (hk : RKAt L w k v keep) :
    Calls Try.prog 38 #[.pointer (some ⟨d, 0, none⟩), v] w fun e w' => e = .returned (.tuple #[]) ∧ ∃ l' L', RAt L' w' k d l' K (s.crash keep) ∧ Fr (MD k) L w L' w' := by
  have h' := h
  obtain ⟨fv, qv, kv, hd, hb, hbody⟩ := h
  have c3 := blk_cell hb 3
  have f3 := blk_free hb 3
  have c4 := blk_cell hb 4
  have f4 := blk_free hb 4
  simp [rcells] at c3 c4
  cases hdn : s.down
  · rw [hdn] at c3
    have hfew := hi.few
    obtain ⟨KA, kc, rfl, hkc⟩ := hk
    have HK := Lib.hid (show RKAt L w k (.slice KA keep.length kc) keep from ⟨KA, kc, rfl, hkc⟩)
    clear hkc
    obtain ⟨s0, hs0⟩ : ∃ s0 : St, s0 = { s with down := true, armed := 0 } := ⟨_, rfl⟩
    have hi0 : Inv s0 := by rw [hs0]; exact hi.downed
    have HDN := Lib.hid hdn
    have hp0 : s0.pend = s.pend := by rw [hs0]
    have e1 : (rcells fv qv kv s).setIfInBounds 3 (.bool true) = rcells fv qv kv { s with down := true } := rfl
    have fr1 := Fr.setD hL hd 3 (.bool true)
    have r1 : RAt L (w.setCell ⟨d, 3, none⟩ (.bool true)) k d l K { s with down := true } := RAt.setD hL hd hb 3 _ e1 ⟨hbody.1, hbody.2.1, hbody.2.2.1, hbody.2.2.2⟩
    have hb1 := blk_set hb 3 (.bool true)
    rw [e1] at hb1
    have e2 : (rcells fv qv kv { s with down := true }).setIfInBounds 4 (.int .i64 0) = rcells fv qv kv s0 := by rw [hs0]; rfl
    have fr2 := fr1.trans (Fr.setD fr1.fresh hd 4 (.int .i64 0))
    have hbody1 := hbody.keep hL fr1 (fun r hr e => hr (by injection e))
    have r2 : RAt L ((w.setCell ⟨d, 3, none⟩ (.bool true)).setCell ⟨d, 4, none⟩ (.int .i64 0)) k d l K s0 := RAt.setD fr1.fresh hd hb1 4 _ e2 (by rw [hs0]; exact ⟨hbody1.1, hbody1.2.1, hbody1.2.2.1, hbody1.2.2.2⟩)
    have HS := Lib.hid (And.intro hs0 (And.intro hi0 hp0))
    clear hs0 hi0 hp0 e1 e2 r1 hb1 hbody hbody1 hb h' hd hdn
    go_enter Try.func38, Try.ntmps38
    go_upto_block 0 with fail
    go_cut [4] (fun _ wx => ∃ (l1 : List Fl) (L1 : Lab), RAt L1 wx k d l1 K (s0.setls (chosen keep 0 s.pend)) ∧ Fr (MD k) L w L1 wx)
    case first =>
      go_wp2_with fail
      go_loopw [4] (fun i wr => ∃ (j : Nat) (l1 : List Fl) (L1 : Lab), j ≤ s.pend.length ∧ i = .int .i64 j ∧ RAt L1 wr k d l1 K (s0.setls (chosen keep 0 (s.pend.take j))) ∧ Fr (MD k) L w L1 wr) (fun i _ => s.pend.length - (intOf i).toNat)
      case atStart => exact ⟨0, l, L, Nat.zero_le _, rfl, by simpa [chosen, St.setls] using r2, fr2⟩
      case round =>
        obtain ⟨j, l1, L1, hj, rfl, hdr, hfr⟩ := hrel
        have hdr' := hdr
        obtain ⟨fv1, qv1, kv1, hd1, hb1, hbody1⟩ := hdr
        have hsr := setls_rest s0 (chosen keep 0 (s.pend.take j))
        obtain ⟨sj, hsj⟩ : ∃ sj, sj = s0.setls (chosen keep 0 (s.pend.take j)) := ⟨_, rfl⟩
        rw [← hsj] at hdr' hb1 hbody1 hsr
        have hpj : sj.pend = s.pend := hsr.2.2.1.trans HS.out.2.2
        have q1 := blk_cell hb1 1
        simp [rcells] at q1
        obtain ⟨A, c, rfl, hm, hcells⟩ := own_pairs hbody1.2.1.1
        rw [hpj] at q1 hm hcells
        have HC := Lib.hid hcells
        have HJ := Lib.hid (And.intro hsj (And.intro hsr hpj))
        clear hcells hsj hsr hpj
        by_cases hlt : j < s.pend.length
        · obtain ⟨g, rfl, lg, h1, h2⟩ := HC.out j hlt
          obtain ⟨p, hp⟩ : ∃ p, s.pend[j] = p := ⟨_, rfl⟩
          rw [hp] at h1 h2
          have HP : Hid (s.pend[j]? = some p) := show _ = _ by rw [List.getElem?_eq_getElem hlt, hp]
          clear hp
          by_cases hk0 : keep.length = 0
          · have hkp : ¬ (0 : Int) < (keep.length : Int) := by omega
            have hkp' : ¬ 0 < keep.length := by omega
            have HCH : Hid (chosen keep 0 (s.pend.take j) = chosen keep 0 s.pend) := show _ = _ by rw [chosen_empty hk0, chosen_empty hk0]
            clear hk0
            go_wp2_with fail
            go_meet
            exact ⟨l1, L1, by rw [← HCH.out, ← HJ.out.1]; exact hdr', hfr⟩
          · have hkj := HK.out.keep hfr
            obtain ⟨KA', kc', e1, hkc⟩ := hkj
            injection e1 with e1 _ e2
            subst e1; subst e2
            obtain ⟨kb, ko, rfl, hcell, hkb, _⟩ := hkc (j % keep.length) (Nat.mod_lt _ (by omega))
            obtain ⟨x, hx⟩ : ∃ x, keep[j % keep.length]'(Nat.mod_lt _ (by omega)) = x := ⟨_, rfl⟩
            rw [hx] at hcell
            have hsv : survives keep j = (x % 2 == 1) := by
              unfold survives
              rw [List.getD_eq_getElem?_getD, List.getElem?_eq_getElem (Nat.mod_lt _ (by omega)), hx]
              simp; omega
            rw [← bit_one] at hsv
            have hkp : (0 : Int) < (keep.length : Int) := by omega
            have hm1 : (0 : Int) ≤ (j : Int) % (keep.length : Int) := Int.emod_nonneg _ (by omega)
            have hm2 : (j : Int) % (keep.length : Int) < (keep.length : Int) := Int.emod_lt_of_pos _ hkp
            have HM := Lib.hid (And.intro hm1 hm2)
            clear hx hkc
            cases hsv2 : survives keep j
            · have hbit : (bits .and .i64 x 1 == 1) = false := by rw [← hsv, hsv2]
              have HSV := Lib.hid hsv2
              clear hsv2 hsv
              go_wp2_with fail
              go_roundw
              case rel =>
                refine ⟨j + 1, l1, L1, by omega, by go_num, ?_, hfr⟩
                rw [chosen_take _ _ _ _ HP.out, HSV.out, if_neg (by simp), List.append_nil, ← HJ.out.1]
                exact hdr'
              case measure => simp [intOf]; omega
            · have hbit : (bits .and .i64 x 1 == 1) = true := by rw [← hsv, hsv2]
              have HSV := Lib.hid hsv2
              clear hsv2 hsv
              have hmem : ∀ q ∈ chosen keep 0 (s.pend.take j), s0.sec q.1 q.2 = true := fun q hq => HS.out.2.1.pending q (by rw [HS.out.2.2]; exact List.mem_of_mem_take (mem_chosen hq))
              have hij : Inv sj := by rw [HJ.out.1]; exact HS.out.2.1.setls hmem
              have hps : sj.sec p.1 p.2 = true := hij.pending p (by rw [HJ.out.2.2]; exact List.mem_of_getElem? HP.out)
              obtain ⟨pf, pn⟩ := p
              obtain ⟨hpf, hp0, hpn⟩ := hij.rng pf pn hps
              obtain ⟨m, rfl⟩ := Int.eq_ofNat_of_zero_le hp0
              have hle := hij.le pf
              have hcap := hij.cap pf
              have HI := Lib.hid (And.intro hpf (And.intro (show 64 * m < (sj.now pf).length by omega) (And.intro hle hcap)))
              clear hmem hps hij hpf hp0 hpn hle hcap
              simp only at h1 h2
              go_wp2_with fail
              refine (rsurvive_any pf m hfr.fresh hdr' HI.out.1 HI.out.2.1 HI.out.2.2.1 HI.out.2.2.2).mono ?_
              rintro e w2 ⟨rfl, l2, L2, hd2, hf2⟩
              go_wp2_with fail
              go_roundw
              case rel =>
                refine ⟨j + 1, l2, L2, by omega, by go_num, ?_, hfr.trans hf2⟩
                rw [chosen_take _ _ _ _ HP.out, HSV.out, if_pos rfl, St.setls_snoc, ← HJ.out.1]
                exact hd2
              case measure => simp [intOf]; omega
        · obtain rfl : j = s.pend.length := by omega
          have HCH : Hid (s.pend.take s.pend.length = s.pend) := show _ = _ from List.take_length
          go_wp2_with fail
          go_meet
          exact ⟨l1, L1, by rw [HCH.out] at HJ; rw [← HJ.out.1]; exact hdr', hfr⟩
    case rest =>
      obtain ⟨l1, L1, r3, hfr⟩ := hcut
      obtain ⟨wm, rfl⟩ : ∃ x, x = wc := ⟨_, rfl⟩
      obtain ⟨i0, hi0, hz0, hz1, hz2⟩ := info_parts Try.info90
      obtain ⟨s1, hs1⟩ : ∃ s1, s1 = s0.setls (chosen keep 0 s.pend) := ⟨_, rfl⟩
      have hsr := setls_rest s0 (chosen keep 0 s.pend)
      rw [← hs1] at r3 hsr
      obtain ⟨fv1, qv1, kv1, hd1, hb1, hbody1⟩ := r3
      have c0 := blk_cell hb1 0
      have ld := blk_lt hb1
      simp [rcells] at c0
      obtain ⟨A, c, rfl, hm, hcells⟩ := own_files hbody1.1.1
      have hlen := hbody1.2.2.1.2.len
      obtain ⟨S, hS⟩ : ∃ S, S = wm.heap.size := ⟨_, rfl⟩
      rw [← hS] at ld
      have HC := Lib.hid hcells
      have HB := Lib.hid (And.intro hb1 (And.intro hbody1 (And.intro hd1 (And.intro hS (And.intro hs1 hsr)))))
      clear hb1 hbody1 hcells hS hd1 hs1 hsr
      go_wp2_with fail
      go_loopw [5, 6] (fun v i wr => ∃ j : Nat, j ≤ l1.length ∧ i = .int .i64 j ∧ Hid (wr.ownsRow S 90 3 v j (fc ((l1.take j).map fallF))) ∧ Hid (Below S wm wr)) (fun _ i _ => l1.length - (intOf i).toNat)
      case atStart => exact ⟨0, Nat.zero_le _, rfl, World.ownsRow_nil _ _ _ _, Below.refl _ _⟩
      case round =>
        obtain ⟨j, hj, rfl, HO, HBW⟩ := hrel
        have hcl : ∀ b o, b < S → wr.cell? ⟨b, o, none⟩ = wm.cell? ⟨b, o, none⟩ := fun b o hb => HBW.out.cell (p := ⟨b, o, none⟩) hb
        have c0r := (hcl d 0 ld).trans c0
        by_cases hlt : j < l1.length
        · obtain ⟨g, rfl, lg, h1, h2, h3⟩ := HC.out j hlt
          rw [← HB.out.2.2.2.1] at lg
          have h1r := (hcl g (j * 3) lg).trans h1
          have h2r := (hcl g (j * 3 + 1) lg).trans h2
          have h3r := (hcl g (j * 3 + 2) lg).trans h3
          obtain ⟨y, hy⟩ : ∃ y, l1[j] = y := ⟨_, rfl⟩
          have hks : (l1.take (j + 1)).map fallF = (l1.take j).map fallF ++ [fallF y] := by rw [List.take_succ_eq_append_getElem hlt, List.map_append, hy]; rfl
          rw [hy] at h1r h2r h3r
          have HKS := Lib.hid hks
          clear hks hy h1 h2 h3 hcl
          go_wp2_with fail
          have hjm : j + 1 ≤ maxLen := by unfold maxLen; omega
          have hSw : S ≤ wr.heap.size := by have := HBW.out.size; have := HB.out.2.2.2.1; omega
          have HF := Lib.hid (And.intro c0r (And.intro h1r h3r))
          go_region_held3 (fun w' => w'.cell? ⟨d, 0, none⟩ = some (.slice (some ⟨g, 0, none⟩) l1.length c) ∧ w'.cell? ⟨g, j * 3, none⟩ = some (.int .i64 y.num) ∧ w'.cell? ⟨g, j * 3 + 2, none⟩ = some (.string (ba y.last))) (first | go_keep | exact ⟨(hbz.cell (p := ⟨d, 0, none⟩) ld).trans HF.out.1, (hbz.cell (p := ⟨g, j * 3, none⟩) lg).trans HF.out.2.1, (hbz.cell (p := ⟨g, j * 3 + 2, none⟩) lg).trans HF.out.2.2⟩) (first
            | (refine step_append_lies _ rfl (.tmp 58) (.tmp 84) 83 rfl S 90 i0 (.agg #[.int .i64 0, .string ByteArray.empty, .string ByteArray.empty]) 3 40 Try.underlying83 hi0 hz0 hz1 hz2 rfl (by decide) u5 j (fc ((l1.take j).map fallF)) (by simp [Act.eval]) (World.ownsRow.alloc (w := wr.drew) HO.out _) ⟨wr.heap.size, 0, none⟩ 1 1 [.int .i64 y.num, .string (ba y.last), .string (ba y.last)] (by simp [Act.eval]) rfl (World.news_of_block (heap_alloc_new wr.drew _)) (by simp [Value.oneCell']) (by omega) hjm (by omega) (by simp; omega) _ rfl ?_; intro g4 cap4 w4 hown4 hg4 hat4 hlt4; have hbz : Below S wr w4 := (Below.grown ((Below.refl S wr).alloc hSw _).drew hg4 (by simp; omega) (fun k hk => (World.ownsRow.lt HO.out k hk).1)); have H4 := Lib.hid (And.intro hown4 hbz); clear hown4 hg4 hat4 hlt4)
            | (trace_state; fail))
          go_wp2_with fail
          go_roundw
          case rel =>
            refine ⟨j + 1, by omega, by go_num, ?_, ?_⟩
            · have h5 := H4.out.1
              rw [HKS.out, fc_append]
              exact h5
            · exact HBW.out.trans H4.out.2
          case measure => simp [intOf]; omega
        · obtain rfl : j = l1.length := by omega
          have q4 := (HBW.out.block d ld).trans HB.out.1
          have r0 := blk_cell q4 0
          have e0 := blk_free q4 0
          have r1 := blk_cell q4 1
          have e1 := blk_free q4 1
          simp [rcells] at r0 r1
          obtain ⟨A4, m4, c4, rfl⟩ := own_slice (own_base HO.out)
          clear q4 hcl
          go_wp2_with fail
          go_end0
          have hl : (l1.take l1.length).map fallF = l1.map fallF := by rw [List.take_length]
          have hown := HO.out
          rw [hl] at hown
          have hlen1 : (l1.map fallF).length = l1.length := List.length_map ..
          rw [← hlen1] at hown
          obtain ⟨L5, r5, f5⟩ := rset_end (l' := l1.map fallF) (s' := { s1 with now := s1.dur }) hfr.fresh HB.out.2.2.1 HB.out.1 HB.out.2.1 (by rw [← HB.out.2.2.2.1]; exact HBW.out) hown (by rw [← HB.out.2.2.2.1]; exact Nat.le_refl _) HB.out.2.1.2.2.1.2.fall
            (HB.out.2.1.2.2.2.fallen.same rfl rfl) ⟨rfl, rfl, rfl, rfl⟩
          obtain ⟨fv5, qv5, kv5, hd5, hb5, hbody5⟩ := r5
          obtain ⟨L6, r6, f6⟩ := rq_end (q := []) (s' := s1.fallen) f5.fresh hd5 hb5 hbody5 (Below.refl _ _) (World.ownsRow_nil _ _ _ _) (Nat.le_refl _) (by
            have h7 := HB.out.2.2.2.2.2
            refine ⟨rfl, ?_, ?_, rfl, rfl, rfl⟩
            · show true = s1.down
              rw [h7.2.2.2.1, HS.out.1]
            · show 0 = s1.armed
              rw [h7.2.2.2.2.2.1, HS.out.1])
          have hcr : s.crash keep = s1.fallen := by
            unfold St.crash
            rw [HDN.out, if_neg (by simp), HB.out.2.2.2.2.1, HS.out.1, setls_flags s true 0]
            rfl
          rw [hcr]
          exact ⟨rfl, _, L6, r6, (hfr.trans f5).trans f6⟩
  · rw [hdn] at c3
    have HC : Hid (s.crash keep = s) := show _ = _ by unfold St.crash; rw [if_pos hdn]
    obtain ⟨KA, kc, rfl, hkc⟩ := hk
    clear hdn hkc
    go_enter Try.func38, Try.ntmps38
    go_wp2_with fail
    refine bodyPost_ret (results_none rfl _ _ _) rfl ?_
    rw [HC.out]
    exact ⟨rfl, l, L, h', Fr.refl hL⟩

end Go.Proofs.Ytgocnjiabfmdpaa
