/- The reference's Crash. The reference's fits, comes, Arm. The reference's Write, Sync, Truncate, Arm. -/
import Derived.Test.YtgocnjiabfmdpaaDYgk
import Derived.Test.YtgocnjiabfmdpaaDXa
import Derived.Deep.AppendLies
import Derived.Deep.RegionHeld3
import Derived.Deep.DrawnRows
namespace Go.Proofs.Ytgocnjiabfmdpaa
set_option maxRecDepth 8000
open Go.RowKit

/-- The ints of a slice, in blocks that are not the disk's own one. -/
def RKAt (L : Lab) (w : World) (k : Nat) (v : Value) (keep : List Int) : Prop :=
  ∃ A c, v = .slice A keep.length c ∧ ∀ j (hj : j < keep.length), ∃ b off, A = some ⟨b, off, none⟩ ∧ w.cell? ⟨b, off + j, none⟩ = some (.int .i64 keep[j]) ∧ b < w.heap.size ∧ L b ≠ some (k, .disk)

theorem RKAt.keep {L L1 : Lab} {w w1 : World} {k : Nat} {v : Value} {keep : List Int} (h : RKAt L w k v keep) (hf : Fr (MD k) L w L1 w1) : RKAt L1 w1 k v keep := by
  obtain ⟨A, c, rfl, h⟩ := h
  refine ⟨A, c, rfl, fun j hj => ?_⟩
  obtain ⟨b, off, hA, hc, hb, hl⟩ := h j hj
  refine ⟨b, off, hA, ?_, Nat.lt_of_lt_of_le hb hf.size, by rw [hf.lab b hb]; exact hl⟩
  exact (World.cell?_of_block (a := ⟨b, off + j, none⟩) (hf.block b hb (fun t ht hm => hl (by rw [ht, hm])))).trans hc

theorem ArgI.rkat {L : Lab} {w : World} {v : Value} {keep : List Int} (h : ArgI L w v keep) (k : Nat) : RKAt L w k v keep := by
  rcases h with ⟨rfl | ⟨a, c, rfl⟩, rfl⟩ | ⟨b, off, c, rfl, hl, hb, hc⟩
  · exact ⟨none, 0, rfl, fun j hj => by simp at hj⟩
  · exact ⟨some a, c, rfl, fun j hj => by simp at hj⟩
  · exact ⟨_, c, rfl, fun j hj => ⟨b, off, rfl, hc j hj, hb, by rw [hl]; simp⟩⟩

theorem RKAt.of_sl {L : Lab} {w : World} {k : Nat} {v : Value} {keep : List Int} (h : Sl L w 3 1 v keep.length (ic keep) (k, .keep)) : RKAt L w k v keep := by
  rcases own_form h.1 with ⟨rfl, h0⟩ | ⟨g, c, rfl, _, _⟩
  · have : keep = [] := List.eq_nil_of_length_eq_zero h0
    subst this
    exact ⟨none, 0, rfl, fun j hj => by simp at hj⟩
  · refine ⟨_, c, rfl, fun j hj => ⟨g, 0, rfl, ?_, (h.1.lt g rfl).2, ?_⟩⟩
    · rw [Nat.zero_add, h.1.cellAt j (by omega)]
      simp [ic, List.getElem?_eq_getElem hj]
    · rw [h.2 g rfl]; simp

theorem chosen_empty {keep : List Int} (h : keep.length = 0) (i : Nat) (l : List (Int × Int)) : chosen keep i l = [] := by
  induction l generalizing i with
  | nil => rfl
  | cons p l ih =>
    unfold chosen
    rw [if_neg (by simp [survives, h])]
    exact ih _

def fallF (x : Fl) : Fl := ⟨x.num, x.last, x.last⟩

theorem setls_flags (s : St) (b : Bool) (a : Int) (l : List (Int × Int)) : ({ s with down := b, armed := a } : St).setls l = { s.setls l with down := b, armed := a } := by
  induction l generalizing s with
  | nil => rfl
  | cons p l ih => exact ih (s.setl p)

theorem Inv.downed {s : St} (h : Inv s) : Inv { s with down := true, armed := 0 } :=
  ⟨h.le, h.eqb, h.tail, h.mem, h.nodup, h.rng, h.cap, h.lost, by simp, h.kept⟩

set_option maxRecDepth 100000 in
set_option maxHeartbeats 1000000 in
theorem rcrash_any {L : Lab} {w : World} {k d : Nat} {l : List Fl} {K : List Int} {s : St} (v : Value) (keep : List Int) (hL : Fresh L w) (h : RAt L w k d l K s) (hi : Inv s) (hk : RKAt L w k v keep) :
    Calls Try.prog 38 #[.pointer (some ⟨d, 0, none⟩), v] w fun e w' => e = .returned (.tuple #[]) ∧ ∃ l' L', RAt L' w' k d l' K (s.crash keep) ∧ Fr (MD k) L w L' w' := by
  have h' := h
  obtain ⟨fv, qv, kv, hd, hb, hbody⟩ := h
  have c3 := blk_cell hb 3
  have f3 := blk_free hb 3
  have c4 := blk_cell hb 4
  have f4 := blk_free hb 4
  simp [rcells] at c3 c4
  cases hdn : s.down
  · rw [hdn] at c3
    have hfew := hi.few
    obtain ⟨KA, kc, rfl, hkc⟩ := hk
    have HK := Lib.hid (show RKAt L w k (.slice KA keep.length kc) keep from ⟨KA, kc, rfl, hkc⟩)
    clear hkc
    obtain ⟨s0, hs0⟩ : ∃ s0 : St, s0 = { s with down := true, armed := 0 } := ⟨_, rfl⟩
    have hi0 : Inv s0 := by rw [hs0]; exact hi.downed
    have HDN := Lib.hid hdn
    have hp0 : s0.pend = s.pend := by rw [hs0]
    have e1 : (rcells fv qv kv s).setIfInBounds 3 (.bool true) = rcells fv qv kv { s with down := true } := rfl
    have fr1 := Fr.setD hL hd 3 (.bool true)
    have r1 : RAt L (w.setCell ⟨d, 3, none⟩ (.bool true)) k d l K { s with down := true } := RAt.setD hL hd hb 3 _ e1 ⟨hbody.1, hbody.2.1, hbody.2.2.1, hbody.2.2.2⟩
    have hb1 := blk_set hb 3 (.bool true)
    rw [e1] at hb1
    have e2 : (rcells fv qv kv { s with down := true }).setIfInBounds 4 (.int .i64 0) = rcells fv qv kv s0 := by rw [hs0]; rfl
    have fr2 := fr1.trans (Fr.setD fr1.fresh hd 4 (.int .i64 0))
    have hbody1 := hbody.keep hL fr1 (fun r hr e => hr (by injection e))
    have r2 : RAt L ((w.setCell ⟨d, 3, none⟩ (.bool true)).setCell ⟨d, 4, none⟩ (.int .i64 0)) k d l K s0 := RAt.setD fr1.fresh hd hb1 4 _ e2 (by rw [hs0]; exact ⟨hbody1.1, hbody1.2.1, hbody1.2.2.1, hbody1.2.2.2⟩)
    have HS := Lib.hid (And.intro hs0 (And.intro hi0 hp0))
    clear hs0 hi0 hp0 e1 e2 r1 hb1 hbody hbody1 hb h' hd hdn
    go_enter Try.func38, Try.ntmps38
    go_upto_block 0 with fail
    go_cut [4] (fun _ wx => ∃ (l1 : List Fl) (L1 : Lab), RAt L1 wx k d l1 K (s0.setls (chosen keep 0 s.pend)) ∧ Fr (MD k) L w L1 wx)
    case first =>
      go_wp2_with fail
      go_loopw [4] (fun i wr => ∃ (j : Nat) (l1 : List Fl) (L1 : Lab), j ≤ s.pend.length ∧ i = .int .i64 j ∧ RAt L1 wr k d l1 K (s0.setls (chosen keep 0 (s.pend.take j))) ∧ Fr (MD k) L w L1 wr) (fun i _ => s.pend.length - (intOf i).toNat)
      case atStart => exact ⟨0, l, L, Nat.zero_le _, rfl, by simpa [chosen, St.setls] using r2, fr2⟩
      case round =>
        obtain ⟨j, l1, L1, hj, rfl, hdr, hfr⟩ := hrel
        have hdr' := hdr
        obtain ⟨fv1, qv1, kv1, hd1, hb1, hbody1⟩ := hdr
        have hsr := setls_rest s0 (chosen keep 0 (s.pend.take j))
        obtain ⟨sj, hsj⟩ : ∃ sj, sj = s0.setls (chosen keep 0 (s.pend.take j)) := ⟨_, rfl⟩
        rw [← hsj] at hdr' hb1 hbody1 hsr
        have hpj : sj.pend = s.pend := hsr.2.2.1.trans HS.out.2.2
        have q1 := blk_cell hb1 1
        simp [rcells] at q1
        obtain ⟨A, c, rfl, hm, hcells⟩ := own_pairs hbody1.2.1.1
        rw [hpj] at q1 hm hcells
        have HC := Lib.hid hcells
        have HJ := Lib.hid (And.intro hsj (And.intro hsr hpj))
        clear hcells hsj hsr hpj
        by_cases hlt : j < s.pend.length
        · obtain ⟨g, rfl, lg, h1, h2⟩ := HC.out j hlt
          obtain ⟨p, hp⟩ : ∃ p, s.pend[j] = p := ⟨_, rfl⟩
          rw [hp] at h1 h2
          have HP : Hid (s.pend[j]? = some p) := show _ = _ by rw [List.getElem?_eq_getElem hlt, hp]
          clear hp
          by_cases hk0 : keep.length = 0
          · have hkp : ¬ (0 : Int) < (keep.length : Int) := by omega
            have hkp' : ¬ 0 < keep.length := by omega
            have HCH : Hid (chosen keep 0 (s.pend.take j) = chosen keep 0 s.pend) := show _ = _ by rw [chosen_empty hk0, chosen_empty hk0]
            clear hk0
            go_wp2_with fail
            go_meet
            exact ⟨l1, L1, by rw [← HCH.out, ← HJ.out.1]; exact hdr', hfr⟩
          · have hkj := HK.out.keep hfr
            obtain ⟨KA', kc', e1, hkc⟩ := hkj
            injection e1 with e1 _ e2
            subst e1; subst e2
            obtain ⟨kb, ko, rfl, hcell, hkb, _⟩ := hkc (j % keep.length) (Nat.mod_lt _ (by omega))
            obtain ⟨x, hx⟩ : ∃ x, keep[j % keep.length]'(Nat.mod_lt _ (by omega)) = x := ⟨_, rfl⟩
            rw [hx] at hcell
            have hsv : survives keep j = (x % 2 == 1) := by
              unfold survives
              rw [List.getD_eq_getElem?_getD, List.getElem?_eq_getElem (Nat.mod_lt _ (by omega)), hx]
              simp; omega
            rw [← bit_one] at hsv
            have hkp : (0 : Int) < (keep.length : Int) := by omega
            have hm1 : (0 : Int) ≤ (j : Int) % (keep.length : Int) := Int.emod_nonneg _ (by omega)
            have hm2 : (j : Int) % (keep.length : Int) < (keep.length : Int) := Int.emod_lt_of_pos _ hkp
            have HM := Lib.hid (And.intro hm1 hm2)
            clear hx hkc
            cases hsv2 : survives keep j
            · have hbit : (bits .and .i64 x 1 == 1) = false := by rw [← hsv, hsv2]
              have HSV := Lib.hid hsv2
              clear hsv2 hsv
              go_wp2_with fail
              go_roundw
              case rel =>
                refine ⟨j + 1, l1, L1, by omega, by go_num, ?_, hfr⟩
                rw [chosen_take _ _ _ _ HP.out, HSV.out, if_neg (by simp), List.append_nil, ← HJ.out.1]
                exact hdr'
              case measure => simp [intOf]; omega
            · have hbit : (bits .and .i64 x 1 == 1) = true := by rw [← hsv, hsv2]
              have HSV := Lib.hid hsv2
              clear hsv2 hsv
              have hmem : ∀ q ∈ chosen keep 0 (s.pend.take j), s0.sec q.1 q.2 = true := fun q hq => HS.out.2.1.pending q (by rw [HS.out.2.2]; exact List.mem_of_mem_take (mem_chosen hq))
              have hij : Inv sj := by rw [HJ.out.1]; exact HS.out.2.1.setls hmem
              have hps : sj.sec p.1 p.2 = true := hij.pending p (by rw [HJ.out.2.2]; exact List.mem_of_getElem? HP.out)
              obtain ⟨pf, pn⟩ := p
              obtain ⟨hpf, hp0, hpn⟩ := hij.rng pf pn hps
              obtain ⟨m, rfl⟩ := Int.eq_ofNat_of_zero_le hp0
              have hle := hij.le pf
              have hcap := hij.cap pf
              have HI := Lib.hid (And.intro hpf (And.intro (show 64 * m < (sj.now pf).length by omega) (And.intro hle hcap)))
              clear hmem hps hij hpf hp0 hpn hle hcap
              simp only at h1 h2
              go_wp2_with fail
              refine (rsurvive_any pf m hfr.fresh hdr' HI.out.1 HI.out.2.1 HI.out.2.2.1 HI.out.2.2.2).mono ?_
              rintro e w2 ⟨rfl, l2, L2, hd2, hf2⟩
              go_wp2_with fail
              go_roundw
              case rel =>
                refine ⟨j + 1, l2, L2, by omega, by go_num, ?_, hfr.trans hf2⟩
                rw [chosen_take _ _ _ _ HP.out, HSV.out, if_pos rfl, St.setls_snoc, ← HJ.out.1]
                exact hd2
              case measure => simp [intOf]; omega
        · obtain rfl : j = s.pend.length := by omega
          have HCH : Hid (s.pend.take s.pend.length = s.pend) := show _ = _ from List.take_length
          go_wp2_with fail
          go_meet
          exact ⟨l1, L1, by rw [HCH.out] at HJ; rw [← HJ.out.1]; exact hdr', hfr⟩
    case rest =>
      obtain ⟨l1, L1, r3, hfr⟩ := hcut
      obtain ⟨wm, rfl⟩ : ∃ x, x = wc := ⟨_, rfl⟩
      obtain ⟨i0, hi0, hz0, hz1, hz2⟩ := info_parts Try.info90
      obtain ⟨s1, hs1⟩ : ∃ s1, s1 = s0.setls (chosen keep 0 s.pend) := ⟨_, rfl⟩
      have hsr := setls_rest s0 (chosen keep 0 s.pend)
      rw [← hs1] at r3 hsr
      obtain ⟨fv1, qv1, kv1, hd1, hb1, hbody1⟩ := r3
      have c0 := blk_cell hb1 0
      have ld := blk_lt hb1
      simp [rcells] at c0
      obtain ⟨A, c, rfl, hm, hcells⟩ := own_files hbody1.1.1
      have hlen := hbody1.2.2.1.2.len
      obtain ⟨S, hS⟩ : ∃ S, S = wm.heap.size := ⟨_, rfl⟩
      rw [← hS] at ld
      have HC := Lib.hid hcells
      have HB := Lib.hid (And.intro hb1 (And.intro hbody1 (And.intro hd1 (And.intro hS (And.intro hs1 hsr)))))
      clear hb1 hbody1 hcells hS hd1 hs1 hsr
      go_wp2_with fail
      go_loopw [5, 6] (fun v i wr => ∃ j : Nat, j ≤ l1.length ∧ i = .int .i64 j ∧ Hid (wr.ownsRow S 90 3 v j (fc ((l1.take j).map fallF))) ∧ Hid (Below S wm wr)) (fun _ i _ => l1.length - (intOf i).toNat)
      case atStart => exact ⟨0, Nat.zero_le _, rfl, World.ownsRow_nil _ _ _ _, Below.refl _ _⟩
      case round =>
        obtain ⟨j, hj, rfl, HO, HBW⟩ := hrel
        have hcl : ∀ b o, b < S → wr.cell? ⟨b, o, none⟩ = wm.cell? ⟨b, o, none⟩ := fun b o hb => HBW.out.cell (p := ⟨b, o, none⟩) hb
        have c0r := (hcl d 0 ld).trans c0
        by_cases hlt : j < l1.length
        · obtain ⟨g, rfl, lg, h1, h2, h3⟩ := HC.out j hlt
          rw [← HB.out.2.2.2.1] at lg
          have h1r := (hcl g (j * 3) lg).trans h1
          have h2r := (hcl g (j * 3 + 1) lg).trans h2
          have h3r := (hcl g (j * 3 + 2) lg).trans h3
          obtain ⟨y, hy⟩ : ∃ y, l1[j] = y := ⟨_, rfl⟩
          have hks : (l1.take (j + 1)).map fallF = (l1.take j).map fallF ++ [fallF y] := by rw [List.take_succ_eq_append_getElem hlt, List.map_append, hy]; rfl
          rw [hy] at h1r h2r h3r
          have HKS := Lib.hid hks
          clear hks hy h1 h2 h3 hcl
          go_wp2_with fail
          have hjm : j + 1 ≤ maxLen := by unfold maxLen; omega
          have hSw : S ≤ wr.heap.size := by have := HBW.out.size; have := HB.out.2.2.2.1; omega
          have HF := Lib.hid (And.intro c0r (And.intro h1r h3r))
          go_region_held3 (fun w' => w'.cell? ⟨d, 0, none⟩ = some (.slice (some ⟨g, 0, none⟩) l1.length c) ∧ w'.cell? ⟨g, j * 3, none⟩ = some (.int .i64 y.num) ∧ w'.cell? ⟨g, j * 3 + 2, none⟩ = some (.string (ba y.last))) (first | go_keep | exact ⟨(hbz.cell (p := ⟨d, 0, none⟩) ld).trans HF.out.1, (hbz.cell (p := ⟨g, j * 3, none⟩) lg).trans HF.out.2.1, (hbz.cell (p := ⟨g, j * 3 + 2, none⟩) lg).trans HF.out.2.2⟩) (first
            | (refine step_append_lies _ rfl (.tmp 58) (.tmp 84) 83 rfl S 90 i0 (.agg #[.int .i64 0, .string ByteArray.empty, .string ByteArray.empty]) 3 40 Try.underlying83 hi0 hz0 hz1 hz2 rfl (by decide) u5 j (fc ((l1.take j).map fallF)) (by simp [Act.eval]) (World.ownsRow.alloc (w := wr.drew) HO.out _) ⟨wr.heap.size, 0, none⟩ 1 1 [.int .i64 y.num, .string (ba y.last), .string (ba y.last)] (by simp [Act.eval]) rfl (World.news_of_block (heap_alloc_new wr.drew _)) (by simp [Value.oneCell']) (by omega) hjm (by omega) (by simp; omega) _ rfl ?_; intro g4 cap4 w4 hown4 hg4 hat4 hlt4; have hbz : Below S wr w4 := (Below.grown ((Below.refl S wr).alloc hSw _).drew hg4 (by simp; omega) (fun k hk => (World.ownsRow.lt HO.out k hk).1)); have H4 := Lib.hid (And.intro hown4 hbz); clear hown4 hg4 hat4 hlt4)
            | (trace_state; fail))
          go_wp2_with fail
          go_roundw
          case rel =>
            refine ⟨j + 1, by omega, by go_num, ?_, ?_⟩
            · have h5 := H4.out.1
              rw [HKS.out, fc_append]
              exact h5
            · exact HBW.out.trans H4.out.2
          case measure => simp [intOf]; omega
        · obtain rfl : j = l1.length := by omega
          have q4 := (HBW.out.block d ld).trans HB.out.1
          have r0 := blk_cell q4 0
          have e0 := blk_free q4 0
          have r1 := blk_cell q4 1
          have e1 := blk_free q4 1
          simp [rcells] at r0 r1
          obtain ⟨A4, m4, c4, rfl⟩ := own_slice (own_base HO.out)
          clear q4 hcl
          go_wp2_with fail
          go_end0
          have hl : (l1.take l1.length).map fallF = l1.map fallF := by rw [List.take_length]
          have hown := HO.out
          rw [hl] at hown
          have hlen1 : (l1.map fallF).length = l1.length := List.length_map ..
          rw [← hlen1] at hown
          obtain ⟨L5, r5, f5⟩ := rset_end (l' := l1.map fallF) (s' := { s1 with now := s1.dur }) hfr.fresh HB.out.2.2.1 HB.out.1 HB.out.2.1 (by rw [← HB.out.2.2.2.1]; exact HBW.out) hown (by rw [← HB.out.2.2.2.1]; exact Nat.le_refl _) HB.out.2.1.2.2.1.2.fall
            (HB.out.2.1.2.2.2.fallen.same rfl rfl) ⟨rfl, rfl, rfl, rfl⟩
          obtain ⟨fv5, qv5, kv5, hd5, hb5, hbody5⟩ := r5
          obtain ⟨L6, r6, f6⟩ := rq_end (q := []) (s' := s1.fallen) f5.fresh hd5 hb5 hbody5 (Below.refl _ _) (World.ownsRow_nil _ _ _ _) (Nat.le_refl _) (by
            have h7 := HB.out.2.2.2.2.2
            refine ⟨rfl, ?_, ?_, rfl, rfl, rfl⟩
            · show true = s1.down
              rw [h7.2.2.2.1, HS.out.1]
            · show 0 = s1.armed
              rw [h7.2.2.2.2.2.1, HS.out.1])
          have hcr : s.crash keep = s1.fallen := by
            unfold St.crash
            rw [HDN.out, if_neg (by simp), HB.out.2.2.2.2.1, HS.out.1, setls_flags s true 0]
            rfl
          rw [hcr]
          exact ⟨rfl, _, L6, r6, (hfr.trans f5).trans f6⟩
  · rw [hdn] at c3
    have HC : Hid (s.crash keep = s) := show _ = _ by unfold St.crash; rw [if_pos hdn]
    obtain ⟨KA, kc, rfl, hkc⟩ := hk
    clear hdn hkc
    go_enter Try.func38, Try.ntmps38
    go_wp2_with fail
    refine bodyPost_ret (results_none rfl _ _ _) rfl ?_
    rw [HC.out]
    exact ⟨rfl, l, L, h', Fr.refl hL⟩

end Go.Proofs.Ytgocnjiabfmdpaa

namespace Go.Proofs.Ytgocnjiabfmdpaa
set_option maxRecDepth 8000
open Go.RowKit

def SrcA (w : World) (X : Value) (m : Nat) (news : List Value) : Prop :=
  (X = .slice none 0 0 ∧ m = 0 ∧ news = []) ∨ ∃ ad c, X = .slice (some ad) m c ∧ ∀ j u, news[j]? = some u → w.cell? (ad.add j) = some u

theorem run_append_srcA {P : Program} (w : World) (base : Nat) (t ty e : TypeId) (i : TypeInfo) (z : Value) (bytes : Nat) (ht : P.underlying t = some (.slice e)) (hi : P.info? e = some i) (hz : i.zero = some z)
    (hsize : i.size = 1) (hby : i.bytes = bytes) (hzs : z.cells.size = 1)
    (v : Value) (n : Nat) (xs : List Value) (hown : w.ownsRow base e 1 v n xs)
    (X : Value) (m : Nat) (news : List Value) (hl : news.length = m) (hsrc : SrcA w X m news) (h1 : ∀ u ∈ news, u.oneCell' = true)
    (h63 : n + m ≤ maxLen) (hbytes : (n + m) * bytes ≤ 140737488355328) (hbase : base ≤ w.heap.size) :
    ∃ v' w', (Builtin.append_ #[t, t] ty #[v, X]).run P w = .ok v' w' ∧ w'.ownsRow base e 1 v' (n + m) (xs ++ news) ∧ w.grownBy w' v.ownBlock ∧ (v'.ownBlock = v.ownBlock ∨ v'.ownBlock = some w.heap.size) := by
  rcases hsrc with ⟨rfl, rfl, rfl⟩ | ⟨ad, c, rfl, hnews⟩
  · refine ⟨v, w, ?_, by simpa using hown, ⟨rfl, rfl, rfl, Nat.le_refl _, fun _ _ _ => rfl⟩, Or.inl rfl⟩
    rcases hown.2 with ⟨rfl, rfl⟩ | ⟨g, cap, cur, rfl, _, _, hnc, _⟩
    · simp [Builtin.append_, run_underlying ht, sizeOf, typeInfo, hi, Builtin.lenOf, Builtin.firstCells]
    · simp [Builtin.append_, run_underlying ht, sizeOf, typeInfo, hi, Builtin.lenOf, Builtin.firstCells, loadCells, hnc, storeCells]
  · obtain ⟨v', w', a1, a2, a3, _, a4⟩ := run_append_own_at (P := P) w base t ty e i z 1 bytes ht hi hz hsize hby hzs (by decide) v n xs hown ad m c news (by omega) hnews h1 h63 hbytes hbase
    exact ⟨v', w', a1, a2, a3, a4⟩

def fitsB (a : Int) (n : Nat) : Bool := decide (0 ≤ a) && decide (a ≤ 16777216) && decide (a + n ≤ 16777216)

theorem rfits_any (w : World) (a : Int) (t : ByteArray) (ha : isI64 a) (ht : t.size ≤ 1000000) : Calls Try.prog 85 #[.int .i64 a, .string t] w fun e w' => e = .returned (.bool (fitsB a t.size)) ∧ w = w' := by
  unfold isI64 at ha
  by_cases h0 : 0 ≤ a
  · by_cases h1 : a ≤ 16777216
    · by_cases h2 : a + t.size ≤ 16777216
      · have H : Hid (fitsB a t.size = true) := show _ = _ by simp [fitsB, h0, h1, h2]
        go_enter Try.func85, Try.ntmps85
        go_wp2_with fail
        go_ret
        rw [H.out]
        exact ⟨rfl, rfl⟩
      · have H : Hid (fitsB a t.size = false) := show _ = _ by simp [fitsB, h2]
        go_enter Try.func85, Try.ntmps85
        go_wp2_with fail
        go_ret
        rw [H.out]
        exact ⟨rfl, rfl⟩
    · have H : Hid (fitsB a t.size = false) := show _ = _ by simp [fitsB, h1]
      go_enter Try.func85, Try.ntmps85
      go_wp2_with fail
      go_ret
      rw [H.out]
      exact ⟨rfl, rfl⟩
  · have H : Hid (fitsB a t.size = false) := show _ = _ by simp [fitsB, h0]
    go_enter Try.func85, Try.ntmps85
    go_wp2_with fail
    go_ret
    rw [H.out]
    exact ⟨rfl, rfl⟩

/-- What stands when a call has been counted, and the scheduled crash performed. -/
def St.comes (s : St) (f a : Int) (t : List UInt8) : St := if s.hit = true then ((s.count.wr f a t).1).crash s.keep else s.count

set_option maxHeartbeats 400000 in
theorem radd_none {w : World} {d : Nat} (f a : Int) : Calls Try.prog 86 #[.pointer (some ⟨d, 0, none⟩), .int .i64 f, .int .i64 a, .string ByteArray.empty] w fun e w' => e = .returned (.tuple #[]) ∧ w = w' := by
  go_enter Try.func86, Try.ntmps86
  go_wp2_with fail
  refine bodyPost_ret (results_none rfl _ _ _) rfl ?_
  exact ⟨rfl, rfl⟩

/-- A write, if it is possible. -/
theorem radd_wr {L : Lab} {w : World} {k d : Nat} {l : List Fl} {K : List Int} {s : St} (f a : Int) (t : ByteArray) (hL : Fresh L w) (h : RAt L w k d l K s) (hi : Inv s) (hr : s.ready f = 0) (hfit : fitsB a t.size = true) :
    Calls Try.prog 86 #[.pointer (some ⟨d, 0, none⟩), .int .i64 f, .int .i64 a, .string t] w fun e w' => e = .returned (.tuple #[]) ∧ ∃ l' L', RAt L' w' k d l' K (s.wr f a t.data.toList).1 ∧ Fr (MA k) L w L' w' := by
  have hsz := size_toList t
  simp only [fitsB, Bool.and_eq_true, decide_eq_true_eq] at hfit
  obtain ⟨⟨h0, h1⟩, h2⟩ := hfit
  rcases Nat.eq_zero_or_pos t.size with ht | ht
  · have ht' : t.data.toList = [] := List.eq_nil_of_length_eq_zero (by rw [hsz]; exact ht)
    obtain rfl : t = ByteArray.empty := by rw [← ba_of t, ht']; rfl
    have hw : (s.wr f a (ByteArray.empty).data.toList).1 = s := by
      unfold St.wr
      rw [if_neg (by simp [hr]), if_neg (by omega), if_neg (by rw [hsz]; omega), if_pos ht']
    rw [hw]
    refine (radd_none f a).mono ?_
    rintro e w1 ⟨rfl, rfl⟩
    exact ⟨rfl, l, L, h, Fr.refl hL⟩
  · obtain ⟨a', rfl⟩ := Int.eq_ofNat_of_zero_le h0
    have hte : ¬ t.data.toList = [] := by intro e; rw [e] at hsz; simp at hsz; omega
    have hw : (s.wr f a' t.data.toList).1 = (s.wrote f a' t.data.toList).addSecs f (a' / 64) (St.secs a' t.data.toList) := by
      unfold St.wr
      rw [if_neg (by simp [hr]), if_neg (by omega), if_neg (by rw [hsz]; omega), if_neg hte]
    rw [hw]
    exact radd_any f a' t hL h hi (ready_zero hr).2 (by omega) ht

theorem wr_not {s : St} {f a : Int} {t : ByteArray} (h : s.ready f ≠ 0 ∨ fitsB a t.size = false) : (s.wr f a t.data.toList).1 = s := by
  have hsz := size_toList t
  unfold St.wr
  by_cases hr : s.ready f ≠ 0
  · rw [if_pos hr]
  · rw [if_neg hr]
    rcases h with h | h
    · exact absurd h hr
    · by_cases h0 : a < 0
      · rw [if_pos h0]
      · rw [if_neg h0]
        by_cases h1 : a > 16777216 - t.data.toList.length
        · rw [if_pos h1]
        · exfalso
          rw [hsz] at h1
          simp [fitsB] at h
          omega

theorem isFile_ready {s : St} {f : Int} (hd : s.down = false) : s.ready f = 0 ↔ 0 ≤ f ∧ f ≤ 15 := by
  unfold St.ready
  rw [hd, if_neg (by simp)]
  by_cases h : isFile f = true
  · rw [if_pos h]; have := isFile_iff.1 h; constructor <;> intro <;> omega
  · rw [if_neg h]; rw [isFile_iff] at h; constructor <;> intro <;> omega

set_option maxRecDepth 100000 in
set_option maxHeartbeats 1000000 in
theorem rcomes_any {L : Lab} {w : World} {k d : Nat} {l : List Fl} {K : List Int} {s : St} (f a : Int) (t : ByteArray) (hL : Fresh L w) (h : RAt L w k d l K s) (hi : Inv s) (hK : s.armed ≠ 0 → K = s.keep) (ha : isI64 a) (ht : t.size ≤ 1000000) :
    Calls Try.prog 83 #[.pointer (some ⟨d, 0, none⟩), .int .i64 f, .int .i64 a, .string t] w fun e w' => e = .returned (.tuple #[]) ∧ ∃ l' L', RAt L' w' k d l' K (s.comes f a t.data.toList) ∧ Fr (MA k) L w L' w' := by
  have h' := h
  have harm := hi.armed
  obtain ⟨fv, qv, kv, hd, hb, hbody⟩ := h
  have c3 := blk_cell hb 3
  have c4 := blk_cell hb 4
  have f4 := blk_free hb 4
  simp [rcells] at c3 c4
  cases hdn : s.down
  · rw [hdn] at c3
    by_cases h0 : s.armed = 0
    · have HC : Hid (s.comes f a t.data.toList = s) := show _ = _ by unfold St.comes St.count; rw [if_neg (by simp [St.hit, h0]), if_pos (Or.inr h0)]
      rw [h0] at c4
      clear hb hbody hd hdn h0 harm
      go_enter Try.func83, Try.ntmps83
      go_wp2_with fail
      refine bodyPost_ret (results_none rfl _ _ _) rfl ?_
      rw [HC.out]
      exact ⟨rfl, l, L, h', Fr.refl hL⟩
    · have hcnt : s.count = { s with armed := s.armed - 1 } := by unfold St.count; rw [if_neg (by simp [hdn, h0])]
      have e1 : (rcells fv qv kv s).setIfInBounds 4 (.int .i64 (s.armed - 1)) = rcells fv qv kv s.count := by rw [hcnt]; rfl
      have r1 : RAt L (w.setCell ⟨d, 4, none⟩ (.int .i64 (s.armed - 1))) k d l K s.count := RAt.setD hL hd hb 4 _ e1 (by rw [hcnt]; exact ⟨hbody.1, hbody.2.1, hbody.2.2.1, hbody.2.2.2⟩)
      have fr1 := Fr.setD hL hd 4 (.int .i64 (s.armed - 1))
      have hp : 1 ≤ s.armed := by omega
      by_cases h1 : s.armed = 1
      · have hcd : s.count.down = false := by rw [hcnt]; exact hdn
        have HH : Hid (s.comes f a t.data.toList = ((s.count.wr f a t.data.toList).1).crash s.keep) := show _ = _ by unfold St.comes; rw [if_pos (by simp [St.hit, hdn, h1])]
        have hKK := hK h0
        have hic := hi.count
        have hrd := isFile_ready (f := f) hcd
        have HX := Lib.hid (And.intro hKK (And.intro hic hrd))
        have tail : ∀ (L2 : Lab) (w2 : World) (l2 : List Fl), RAt L2 w2 k d l2 K (s.count.wr f a t.data.toList).1 → Fr (MA k) L w L2 w2 → ∃ kv2, w2.cell? ⟨d, 5, none⟩ = some kv2 ∧ Calls Try.prog 38 #[.pointer (some ⟨d, 0, none⟩), kv2] w2 fun e w' => e = .returned (.tuple #[]) ∧ ∃ l' L', RAt L' w' k d l' K (s.comes f a t.data.toList) ∧ Fr (MA k) L w L' w' := by
          intro L2 w2 l2 h2 fr2
          have h2' := h2
          obtain ⟨fv2, qv2, kv2, hd2, hb2, hbody2⟩ := h2
          have c5 := blk_cell hb2 5
          simp [rcells] at c5
          refine ⟨kv2, c5, ?_⟩
          refine (rcrash_any kv2 K fr2.fresh h2' (hi.count.wr f a _) (RKAt.of_sl hbody2.2.2.1.1)).mono ?_
          rintro e w3 ⟨rfl, l3, L3, h3, f3⟩
          refine ⟨rfl, l3, L3, ?_, fr2.trans (f3.mono md_ma)⟩
          rw [HH.out, ← hKK]
          exact h3
        have HT := Lib.hid tail
        have HW := Lib.hid (And.intro r1 (fr1.mono md_ma : Fr (MA k) L w L (w.setCell ⟨d, 4, none⟩ (.int .i64 (s.armed - 1)))))
        rw [h1] at c4
        have e9 : s.armed - 1 = 0 := by omega
        rw [e9] at HW
        clear tail hKK hic hrd hcnt e1 r1 fr1 hp hb hbody hd h' hcd hdn h0 harm h1 e9 hK
        by_cases hf0 : 0 ≤ f
        · by_cases hf1 : f ≤ 15
          · cases hfit : fitsB a t.size
            · have HN : Hid ((s.count.wr f a t.data.toList).1 = s.count) := show _ = _ from wr_not (Or.inr hfit)
              have HFIT := Lib.hid hfit
              clear hfit
              obtain ⟨kv2, c5, hcall⟩ := HT.out _ _ _ (by rw [HN.out]; exact HW.out.1) HW.out.2
              have HCALL := Lib.hid hcall
              clear hcall
              go_enter Try.func83, Try.ntmps83
              go_wp2_with fail
              refine (rfits_any _ a t ha ht).mono ?_
              rintro e w2 ⟨rfl, rfl⟩
              rw [HFIT.out]
              go_wp2_with fail
              refine HCALL.out.mono ?_
              rintro e w3 ⟨rfl, H⟩
              go_wp2_with fail
              go_end0
              exact ⟨rfl, H⟩
            · have HFIT := Lib.hid hfit
              clear hfit
              go_enter Try.func83, Try.ntmps83
              go_wp2_with fail
              refine (rfits_any _ a t ha ht).mono ?_
              rintro e w2 ⟨rfl, rfl⟩
              rw [HFIT.out]
              go_wp2_with fail
              refine (radd_wr f a t HW.out.2.fresh HW.out.1 HX.out.2.1 (HX.out.2.2.2 ⟨hf0, hf1⟩) HFIT.out).mono ?_
              rintro e w2 ⟨rfl, l2, L2, h2, fr2⟩
              obtain ⟨kv2, c5, hcall⟩ := HT.out _ _ _ h2 (HW.out.2.trans fr2)
              have HCALL := Lib.hid hcall
              clear hcall
              go_wp2_with fail
              refine HCALL.out.mono ?_
              rintro e w3 ⟨rfl, H⟩
              go_wp2_with fail
              go_end0
              exact ⟨rfl, H⟩
          · have HN : Hid ((s.count.wr f a t.data.toList).1 = s.count) := show _ = _ from wr_not (Or.inl (fun hh => hf1 (HX.out.2.2.1 hh).2))
            obtain ⟨kv2, c5, hcall⟩ := HT.out _ _ _ (by rw [HN.out]; exact HW.out.1) HW.out.2
            have HCALL := Lib.hid hcall
            clear hcall
            go_enter Try.func83, Try.ntmps83
            go_wp2_with fail
            refine HCALL.out.mono ?_
            rintro e w3 ⟨rfl, H⟩
            go_wp2_with fail
            go_end0
            exact ⟨rfl, H⟩
        · have HN : Hid ((s.count.wr f a t.data.toList).1 = s.count) := show _ = _ from wr_not (Or.inl (fun hh => hf0 (HX.out.2.2.1 hh).1))
          obtain ⟨kv2, c5, hcall⟩ := HT.out _ _ _ (by rw [HN.out]; exact HW.out.1) HW.out.2
          have HCALL := Lib.hid hcall
          clear hcall
          go_enter Try.func83, Try.ntmps83
          go_wp2_with fail
          refine HCALL.out.mono ?_
          rintro e w3 ⟨rfl, H⟩
          go_wp2_with fail
          go_end0
          exact ⟨rfl, H⟩
      · have HC : Hid (s.comes f a t.data.toList = s.count) := show _ = _ by unfold St.comes; rw [if_neg (by simp [St.hit, hdn, h1])]
        have HW := Lib.hid (And.intro r1 (fr1.mono md_ma : Fr (MA k) L w L (w.setCell ⟨d, 4, none⟩ (.int .i64 (s.armed - 1)))))
        have hq : 0 < s.armed - 1 := by omega
        clear hcnt e1 r1 fr1 hb hbody hd h' hdn hK
        go_enter Try.func83, Try.ntmps83
        go_wp2_with fail
        refine bodyPost_ret (results_none rfl _ _ _) rfl ?_
        rw [HC.out]
        exact ⟨rfl, l, L, HW.out⟩
  · rw [hdn] at c3
    have HC : Hid (s.comes f a t.data.toList = s) := show _ = _ by unfold St.comes St.count; rw [if_neg (by simp [St.hit, hdn]), if_pos (Or.inl hdn)]
    clear hb hbody hd hdn harm
    go_enter Try.func83, Try.ntmps83
    go_wp2_with fail
    refine bodyPost_ret (results_none rfl _ _ _) rfl ?_
    rw [HC.out]
    exact ⟨rfl, l, L, h', Fr.refl hL⟩

end Go.Proofs.Ytgocnjiabfmdpaa

namespace Go.Proofs.Ytgocnjiabfmdpaa
set_option maxRecDepth 8000
open Go.RowKit

/-- Where a crash is scheduled, the ints that choose are the plain state's. -/
def KI (K : List Int) (s : St) : Prop := s.armed ≠ 0 → K = s.keep

theorem wr_armed (s : St) (f a : Int) (t : List UInt8) : (s.wr f a t).1.armed = s.armed := by
  unfold St.wr
  split
  · rfl
  split
  · rfl
  split
  · rfl
  split
  · rfl
  · exact (addSecs_rest _ _ _ _).2.2.2.2.1

theorem KI.same {K : List Int} {s s' : St} (h : KI K s) (h1 : s'.armed = s.armed) (h2 : s'.keep = s.keep) : KI K s' := fun hh => by rw [h2]; exact h (by rw [← h1]; exact hh)

theorem KI.count {K : List Int} {s : St} (h : KI K s) : KI K s.count := by
  unfold St.count
  split
  · exact h
  · rename_i hh
    exact fun _ => h (fun e => hh (Or.inr e))

theorem KI.wr {K : List Int} {s : St} (h : KI K s) (f a : Int) (t : List UInt8) : KI K (s.wr f a t).1 := h.same (wr_armed s f a t) (wr_keep s f a t)

theorem hit_count {s : St} (h : s.hit = true) : s.count.armed = 0 ∧ s.count.down = false := by
  simp only [St.hit, Bool.and_eq_true, Bool.not_eq_true', beq_iff_eq] at h
  unfold St.count
  rw [if_neg (by simp [h.1, h.2])]
  exact ⟨by show s.armed - 1 = 0; omega, h.1⟩

theorem crash_down (s : St) (keep : List Int) : (s.crash keep).down = true := by
  unfold St.crash
  split
  · assumption
  · rfl

theorem KI.crash {K : List Int} {s : St} (h : s.armed = 0) (keep : List Int) : KI K (s.crash keep) := by
  intro hh
  exfalso
  apply hh
  unfold St.crash
  split
  · exact h
  · rfl

theorem KI.comes {K : List Int} {s : St} (h : KI K s) (f a : Int) (t : List UInt8) : KI K (s.comes f a t) := by
  unfold St.comes
  split
  · rename_i hh
    exact KI.crash (by rw [wr_armed]; exact (hit_count hh).1) _
  · exact h.count

theorem comes_hit {s : St} (hh : s.hit = true) (f a : Int) (t : List UInt8) (g : Int) : (s.comes f a t).ready g = 8 := by
  unfold St.comes
  rw [if_pos hh]
  unfold St.ready
  rw [if_pos (crash_down _ _)]

theorem comes_not {s : St} (hh : s.hit = false) (f a : Int) (t : List UInt8) : s.comes f a t = s.count := by
  unfold St.comes
  rw [hh, if_neg (by simp)]

theorem wr_nil (s : St) (f a : Int) : (s.wr f a []).1 = s := by
  unfold St.wr
  split
  · rfl
  split
  · rfl
  split
  · rfl
  · rw [if_pos rfl]

theorem comes_nil (s : St) : s.comes 0 0 [] = if s.hit = true then s.count.crash s.keep else s.count := by
  unfold St.comes
  rw [wr_nil]

/-- What a call leaves of the reference's disk. -/
def RPost (L : Lab) (w : World) (k d : Nat) (r : St × Int) (e : Ending) (w' : World) : Prop :=
  e = .returned (.int .i64 r.2) ∧ ∃ l' L' K', RAt L' w' k d l' K' r.1 ∧ Fr (MA k) L w L' w' ∧ KI K' r.1

theorem Inv.comes {s : St} (h : Inv s) (f a : Int) (t : List UInt8) : Inv (s.comes f a t) := by
  unfold St.comes
  split
  · exact (h.count.wr f a t).crash _
  · exact h.count

set_option maxRecDepth 100000 in
set_option maxHeartbeats 1000000 in
theorem rWrite_any {L : Lab} {w : World} {k d : Nat} {l : List Fl} {K : List Int} {s : St} (f a : Int) (t : ByteArray) (hL : Fresh L w) (h : RAt L w k d l K s) (hi : Inv s) (hK : KI K s) (ha : isI64 a) (ht : t.size ≤ 1000000) :
    Calls Try.prog 58 #[.pointer (some ⟨d, 0, none⟩), .int .i64 f, .int .i64 a, .string t] w (RPost L w k d (s.write f a t.data.toList)) := by
  have hsz := size_toList t
  have hKc := hK.comes f a t.data.toList
  cases hh : s.hit
  · have HW : Hid (s.write f a t.data.toList = s.count.wr f a t.data.toList) := show _ = _ by unfold St.write; rw [hh, if_neg (by simp)]
    have HC : Hid (s.comes f a t.data.toList = s.count) := show _ = _ from comes_not hh _ _ _
    rw [comes_not hh] at hKc
    have HKC := Lib.hid hKc
    clear hh hKc
    by_cases hr : s.count.ready f = 0
    · have HR := Lib.hid hr
      clear hr
      by_cases h0 : a < 0
      · have HQ : Hid (s.count.wr f a t.data.toList = (s.count, 1)) := show _ = _ by unfold St.wr; rw [if_neg (by rw [HR.out]; simp), if_pos h0]
        clear hsz
        go_enter Try.func58, Try.ntmps58
        go_wp2_with fail
        refine (rcomes_any f a t hL h hi hK ha ht).mono ?_
        rintro e w1 ⟨rfl, l1, L1, h1, f1⟩
        rw [HC.out] at h1
        go_wp2_with fail
        refine (rmay_any f h1).mono ?_
        rintro e w2 ⟨rfl, rfl⟩
        rw [HR.out]
        go_wp2_with fail
        go_ret
        rw [HW.out, HQ.out]
        exact ⟨rfl, l1, L1, K, h1, f1, HKC.out⟩
      · cases hfit : fitsB a t.size
        · have HQ : Hid (s.count.wr f a t.data.toList = (s.count, 6)) := show _ = _ by
            unfold St.wr
            simp [fitsB] at hfit
            rw [if_neg (by rw [HR.out]; simp), if_neg h0, if_pos (by rw [hsz]; omega)]
          have HFIT := Lib.hid hfit
          clear hfit hsz
          go_enter Try.func58, Try.ntmps58
          go_wp2_with fail
          refine (rcomes_any f a t hL h hi hK ha ht).mono ?_
          rintro e w1 ⟨rfl, l1, L1, h1, f1⟩
          rw [HC.out] at h1
          go_wp2_with fail
          refine (rmay_any f h1).mono ?_
          rintro e w2 ⟨rfl, rfl⟩
          rw [HR.out]
          go_wp2_with fail
          refine (rfits_any _ a t ha ht).mono ?_
          rintro e w2 ⟨rfl, rfl⟩
          rw [HFIT.out]
          go_wp2_with fail
          go_ret
          rw [HW.out, HQ.out]
          exact ⟨rfl, l1, L1, K, h1, f1, HKC.out⟩
        · have HQ : Hid ((s.count.wr f a t.data.toList).2 = 0) := show _ = _ by
            unfold St.wr
            simp [fitsB] at hfit
            rw [if_neg (by rw [HR.out]; simp), if_neg h0, if_neg (by rw [hsz]; omega)]
            split <;> rfl
          have HFIT := Lib.hid hfit
          clear hfit hsz
          go_enter Try.func58, Try.ntmps58
          go_wp2_with fail
          refine (rcomes_any f a t hL h hi hK ha ht).mono ?_
          rintro e w1 ⟨rfl, l1, L1, h1, f1⟩
          rw [HC.out] at h1
          go_wp2_with fail
          refine (rmay_any f h1).mono ?_
          rintro e w2 ⟨rfl, rfl⟩
          rw [HR.out]
          go_wp2_with fail
          refine (rfits_any _ a t ha ht).mono ?_
          rintro e w2 ⟨rfl, rfl⟩
          rw [HFIT.out]
          go_wp2_with fail
          refine (radd_wr f a t f1.fresh h1 hi.count HR.out HFIT.out).mono ?_
          rintro e w2 ⟨rfl, l2, L2, h2, fr2⟩
          go_wp2_with fail
          go_ret
          rw [HW.out]
          refine ⟨by rw [HQ.out]; rfl, l2, L2, K, h2, f1.trans fr2, HKC.out.wr _ _ _⟩
    · have HQ : Hid (s.count.wr f a t.data.toList = (s.count, s.count.ready f)) := show _ = _ by unfold St.wr; rw [if_pos hr]
      have hb : ((s.count.ready f : Int) == 0) = false := beq_eq_false_iff_ne.2 hr
      have hb' : ((s.count.ready f : Int) != 0) = true := bne_iff_ne.2 hr
      clear hr hsz
      go_enter Try.func58, Try.ntmps58
      go_wp2_with fail
      refine (rcomes_any f a t hL h hi hK ha ht).mono ?_
      rintro e w1 ⟨rfl, l1, L1, h1, f1⟩
      rw [HC.out] at h1
      go_wp2_with fail
      refine (rmay_any f h1).mono ?_
      rintro e w2 ⟨rfl, rfl⟩
      go_wp2_with fail
      go_ret
      rw [HW.out, HQ.out]
      exact ⟨rfl, l1, L1, K, h1, f1, HKC.out⟩
  · have HW : Hid (s.write f a t.data.toList = (s.comes f a t.data.toList, 8)) := show _ = _ by
      unfold St.write St.comes
      rw [hh, if_pos rfl, if_pos rfl, wr_keep, (count_rest s).2.2.2.2.2.2]
    have HR : Hid ((s.comes f a t.data.toList).ready f = 8) := show _ = _ from comes_hit hh _ _ _ _
    have HKC := Lib.hid hKc
    clear hh hKc hsz
    go_enter Try.func58, Try.ntmps58
    go_wp2_with fail
    refine (rcomes_any f a t hL h hi hK ha ht).mono ?_
    rintro e w1 ⟨rfl, l1, L1, h1, f1⟩
    go_wp2_with fail
    refine (rmay_any f h1).mono ?_
    rintro e w2 ⟨rfl, rfl⟩
    rw [HR.out]
    go_wp2_with fail
    go_ret
    rw [HW.out]
    exact ⟨rfl, l1, L1, K, h1, f1, HKC.out⟩

set_option maxRecDepth 100000 in
set_option maxHeartbeats 1000000 in
theorem rSync_any {L : Lab} {w : World} {k d : Nat} {l : List Fl} {K : List Int} {s : St} (f : Int) (hL : Fresh L w) (h : RAt L w k d l K s) (hi : Inv s) (hK : KI K s) :
    Calls Try.prog 56 #[.pointer (some ⟨d, 0, none⟩), .int .i64 f] w (RPost L w k d (s.sync f)) := by
  have hKc := hK.comes 0 0 []
  have hcm := (rcomes_any 0 0 ByteArray.empty hL h hi hK (by unfold isI64; omega) (by decide))
  have hem : (ByteArray.empty).data.toList = [] := rfl
  rw [hem] at hcm
  have HCM := Lib.hid hcm
  have hfld := field1
  have hlost := hi.lost
  clear hcm hem
  cases hh : s.hit
  · rw [comes_not hh] at hKc
    have HC : Hid (s.comes 0 0 [] = s.count) := show _ = _ from comes_not hh _ _ _
    have HKC := Lib.hid hKc
    have hls : s.count.lost = s.lost := (count_rest s).2.2.2.2.2.1
    by_cases hr : s.count.ready f = 0
    · by_cases h0 : s.lost > 0
      · have HW : Hid (s.sync f = ({ s.count with lost := s.lost - 1 }, 9)) := show _ = _ by unfold St.sync; rw [hh, if_neg (by simp), if_neg (by simp [hr]), if_pos h0]
        have HR := Lib.hid hr
        have HLS := Lib.hid hls
        clear hr hh hKc hls
        go_enter Try.func56, Try.ntmps56
        go_wp2_with fail
        refine HCM.out.mono ?_
        rintro e w1 ⟨rfl, l1, L1, h1, f1⟩
        rw [HC.out] at h1
        go_wp2_with fail
        refine (rmay_any f h1).mono ?_
        rintro e w2 ⟨rfl, rfl⟩
        rw [HR.out]
        obtain ⟨fv, qv, kv, hd, hb, hbody⟩ := h1
        have c2 := blk_cell hb 2
        have f2 := blk_free hb 2
        simp [rcells] at c2
        rw [HLS.out] at c2
        have e1 : (rcells fv qv kv s.count).setIfInBounds 2 (.int .i64 (s.lost - 1)) = rcells fv qv kv { s.count with lost := s.lost - 1 } := rfl
        have r1 : RAt L1 (w1.setCell ⟨d, 2, none⟩ (.int .i64 (s.lost - 1))) k d l1 K { s.count with lost := s.lost - 1 } := RAt.setD f1.fresh hd hb 2 _ e1 ⟨hbody.1, hbody.2.1, hbody.2.2.1, hbody.2.2.2⟩
        have fr1 := Fr.setD f1.fresh hd 2 (.int .i64 (s.lost - 1))
        have HF := Lib.hid (And.intro r1 (f1.trans (fr1.mono md_ma)))
        clear hb hbody hd e1 r1 fr1
        go_wp2_with fail
        go_ret
        rw [HW.out]
        exact ⟨rfl, l1, L1, K, HF.out.1, HF.out.2, HKC.out.same rfl rfl⟩
      · have HW : Hid (s.sync f = (s.count.synced f, 0)) := show _ = _ by unfold St.sync; rw [hh, if_neg (by simp), if_neg (by simp [hr]), if_neg h0]
        have HF := Lib.hid (ready_zero hr).2
        have HR := Lib.hid hr
        have HLS := Lib.hid hls
        clear hr hh hKc hls
        go_enter Try.func56, Try.ntmps56
        go_wp2_with fail
        refine HCM.out.mono ?_
        rintro e w1 ⟨rfl, l1, L1, h1, f1⟩
        rw [HC.out] at h1
        go_wp2_with fail
        refine (rmay_any f h1).mono ?_
        rintro e w2 ⟨rfl, rfl⟩
        rw [HR.out]
        have h1' := h1
        obtain ⟨fv, qv, kv, hd, hb, hbody⟩ := h1
        have c2 := blk_cell hb 2
        simp [rcells] at c2
        rw [HLS.out] at c2
        have hrd := (hbody.2.2.2 f).1
        have HRD := Lib.hid hrd
        clear hb hbody hd hrd
        go_wp2_with fail
        refine (rget_any f h1').mono ?_
        rintro e w2 ⟨rfl, hb2⟩
        unfold fval
        rw [HRD.out]
        have h2 := h1'.below f1.fresh hb2
        have f2 : Fr (MA k) L1 w1 L1 w2 := Fr.below f1.fresh hb2
        go_wp2_with fail
        refine (rsettle_any f (s.count.now f) f2.fresh h2 HF.out (by have := hi.count.few; omega)).mono ?_
        rintro e w3 ⟨rfl, l3, L3, h3, f3⟩
        go_wp2_with fail
        go_ret
        rw [HW.out]
        refine ⟨rfl, l3, L3, K, ?_, (f1.trans f2).trans (f3.mono md_ma), HKC.out.same rfl rfl⟩
        rw [upd_self] at h3
        exact h3
    · have HW : Hid (s.sync f = (s.count, s.count.ready f)) := show _ = _ by unfold St.sync; rw [hh, if_neg (by simp), if_pos hr]
      have hb : ((s.count.ready f : Int) == 0) = false := beq_eq_false_iff_ne.2 hr
      have hb' : ((s.count.ready f : Int) != 0) = true := bne_iff_ne.2 hr
      clear hr hh hKc hls
      go_enter Try.func56, Try.ntmps56
      go_wp2_with fail
      refine HCM.out.mono ?_
      rintro e w1 ⟨rfl, l1, L1, h1, f1⟩
      rw [HC.out] at h1
      go_wp2_with fail
      refine (rmay_any f h1).mono ?_
      rintro e w2 ⟨rfl, rfl⟩
      go_wp2_with fail
      go_ret
      rw [HW.out]
      exact ⟨rfl, l1, L1, K, h1, f1, HKC.out⟩
  · have HW : Hid (s.sync f = (s.comes 0 0 [], 8)) := show _ = _ by
      unfold St.sync
      rw [hh, if_pos rfl, comes_nil, hh, if_pos rfl]
    have HR : Hid ((s.comes 0 0 []).ready f = 8) := show _ = _ from comes_hit hh _ _ _ _
    have HKC := Lib.hid hKc
    clear hh hKc
    go_enter Try.func56, Try.ntmps56
    go_wp2_with fail
    refine HCM.out.mono ?_
    rintro e w1 ⟨rfl, l1, L1, h1, f1⟩
    go_wp2_with fail
    refine (rmay_any f h1).mono ?_
    rintro e w2 ⟨rfl, rfl⟩
    rw [HR.out]
    go_wp2_with fail
    go_ret
    rw [HW.out]
    exact ⟨rfl, l1, L1, K, h1, f1, HKC.out⟩

end Go.Proofs.Ytgocnjiabfmdpaa
