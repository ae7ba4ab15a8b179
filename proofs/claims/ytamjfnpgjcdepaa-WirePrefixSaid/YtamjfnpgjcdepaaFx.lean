/- Walk: what 'few' returns, exactly. -/
import Derived.Test.YtamjfnpgjcdepaaFw
namespace Go.Proofs.Ytamjfnpgjcdepaa
open Go.RowKit

def totT (l : List ByteArray) : Nat := (l.map ByteArray.size).sum
def totV (d : Vd) : Nat := d.S.size + d.L.length + d.T.length + totT d.T
def tot (ds : List Vd) : Nat := (ds.map totV).sum
def FewP (ds : List Vd) : Prop := AllFew ds ∧ tot ds ≤ 400
open Classical in
/-- What 'few' returns. -/
noncomputable def fewB (ds : List Vd) : Bool := decide (FewP ds)

theorem fewB_no {ds : List Vd} (h : ¬ FewP ds) : fewB ds = false := by unfold fewB; exact @decide_eq_false _ (Classical.propDecidable _) h
theorem fewB_yes {ds : List Vd} (h : FewP ds) : fewB ds = true := by unfold fewB; exact @decide_eq_true _ (Classical.propDecidable _) h

theorem totT_take (l : List ByteArray) (k : Nat) (h : k < l.length) : totT (l.take (k + 1)) = totT (l.take k) + (l[k]).size := by
  unfold totT; rw [List.take_succ_eq_append_getElem h, List.map_append, List.sum_append]; simp
theorem tot_take (l : List Vd) (k : Nat) (h : k < l.length) : tot (l.take (k + 1)) = tot (l.take k) + totV l[k] := by
  unfold tot; rw [List.take_succ_eq_append_getElem h, List.map_append, List.sum_append]; simp
theorem totT_le : ∀ (l : List ByteArray), (∀ x ∈ l, x.size ≤ 400) → totT l ≤ 400 * l.length
  | [], _ => by simp [totT]
  | x :: l, h => by
    have h1 := totT_le l (fun y hy => h y (List.mem_cons_of_mem _ hy))
    have h2 := h x List.mem_cons_self
    unfold totT at h1 ⊢
    simp only [List.map_cons, List.sum_cons, List.length_cons]
    omega
theorem totV_le {d : Vd} (h : d.Few) : totV d ≤ 161200 := by
  have h1 := totT_le d.T h.ts
  have := h.l; have := h.t; have := h.s
  unfold totV; omega
theorem tot_le : ∀ (l : List Vd), (∀ x ∈ l, x.Few) → tot l ≤ 161200 * l.length
  | [], _ => by simp [tot]
  | x :: l, h => by
    have h1 := tot_le l (fun y hy => h y (List.mem_cons_of_mem _ hy))
    have h2 := totV_le (h x List.mem_cons_self)
    unfold tot at h1 ⊢
    simp only [List.map_cons, List.sum_cons, List.length_cons]
    omega

def FewPost2 (B : Nat) (ds : List Vd) (w : World) (e : Ending) (w' : World) : Prop := e = .returned (.bool (fewB ds)) ∧ Below B w w'
theorem FewPost2.no {B : Nat} {ds : List Vd} {w w' : World} (h : Below B w w') (hn : ¬ FewP ds) : FewPost2 B ds w (.returned (.bool false)) w' := by
  exact ⟨by rw [fewB_no hn], h⟩
theorem FewPost2.of {B : Nat} {ds : List Vd} {w w' : World} {c : Bool} (h : Below B w w') (hn : c = true ↔ FewP ds) : FewPost2 B ds w (.returned (.bool c)) w' := by
  by_cases hp : FewP ds
  · exact ⟨by rw [fewB_yes hp, hn.2 hp], h⟩
  · refine ⟨?_, h⟩
    rw [fewB_no hp]
    cases c with
    | false => rfl
    | true => exact absurd (hn.1 rfl) hp

set_option maxHeartbeats 4000000 in
set_option maxRecDepth 100000 in
theorem few_exact (B : Nat) (a : Option Addr) (ds : List Vd) (cap : Nat) (w : World) (_hB : B ≤ w.heap.size) (hlen : ds.length ≤ 9223372036854775807) (hok : ∀ d ∈ ds, d.Ok B w) (hat : ValsAt B w a ds) :
    Calls Try.prog 10 #[.slice a ds.length cap] w (FewPost2 B ds w) := by
  by_cases h20 : 20 < ds.length
  · go_enter Try.func10, Try.ntmps10
    go_wp2_with fail
    go_ret
    exact FewPost2.no (Below.refl _ _) (fun h => by have := h.1.1; omega)
  · go_enter Try.func10, Try.ntmps10
    go_wp2_with fail
    go_loopw [3, 4] (fun n i wr => ∃ k : Nat, k ≤ ds.length ∧ i = .int .i64 k ∧ n = .int .i64 (tot (ds.take k)) ∧ (∀ j (h : j < ds.length), j < k → (ds[j]).Few) ∧ Below B w wr) (fun _ i _ => ds.length - (intOf i).toNat)
    case atStart => exact ⟨0, Nat.zero_le _, rfl, rfl, fun j _ h => absurd h (by omega), Below.refl _ _⟩
    case round =>
      obtain ⟨k, hk, rfl, rfl, hfew, hbr⟩ := hrel
      have htk : tot (ds.take k) ≤ 3224000 := by
        have := tot_le (ds.take k) (fun x hx => by
          obtain ⟨j, hj, rfl⟩ := List.mem_iff_getElem.1 hx
          rw [List.length_take] at hj
          rw [List.getElem_take]
          exact hfew j (by omega) (by omega))
        rw [List.length_take] at this
        omega
      have htt := tot_take ds k
      obtain ⟨M, hM⟩ : ∃ M, tot (ds.take k) = M := ⟨_, rfl⟩
      rw [hM] at htk ⊢
      have HM := Lib.hid hM; clear hM
      have HTT := Lib.hid htt; clear htt
      have HFEW := Lib.hid hfew; clear hfew
      have hsz := hbr.size
      by_cases hlt : k < ds.length
      · obtain ⟨b, off, rfl, hbB, hc⟩ := hat k hlt
        have hdok := hok (ds[k]) (List.getElem_mem hlt)
        have hc := hc.below hbr hbB
        obtain ⟨d, hd⟩ : ∃ d, ds[k] = d := ⟨_, rfl⟩
        rw [hd] at hdok hc
        have HDM : Hid (d ∈ ds) := Lib.hid (by rw [← hd]; exact List.getElem_mem hlt)
        have HD := Lib.hid hd; clear hd
        obtain ⟨d0, d1, d2, d3, d4⟩ := hc
        obtain ⟨_, _, q1, q2, q3, q4, _, _, q5⟩ := hdok
        by_cases h1 : 400 < d.L.length
        · go_wp2_with fail
          go_ret
          exact FewPost2.no hbr (fun h => by have := (h.1.2 d HDM.out).l; omega)
        · by_cases h2 : 400 < d.T.length
          · go_wp2_with fail
            go_ret
            exact FewPost2.no hbr (fun h => by have := (h.1.2 d HDM.out).t; omega)
          · by_cases h3 : 400 < d.S.size
            · go_wp2_with fail
              go_ret
              exact FewPost2.no hbr (fun h => by have := (h.1.2 d HDM.out).s; omega)
            · go_wp2_with fail
              go_quiet (fail)
              go_wp2_with fail
              have hbo : Below B w (wr.drewN nq) := ⟨hbr.os, hbr.tape, hbr.output, hbr.size, hbr.block⟩
              have o0 : (wr.drewN nq).cell? ⟨b, off + k * 5 + 4, none⟩ = some (.slice d.aT d.T.length d.cT) := d4
              clear d0 d1 d2 d3 d4 hbr hsz
              generalize wr.drewN nq = wo at *
              go_loopw [3, 5] (fun n i wr => ∃ k : Nat, k ≤ d.T.length ∧ i = .int .i64 k ∧ n = .int .i64 (M + d.S.size + d.L.length + d.T.length + totT (d.T.take k) : Nat) ∧ (∀ j (h : j < d.T.length), j < k → (d.T[j]).size ≤ 400) ∧ wr = wo) (fun _ i _ => d.T.length - (intOf i).toNat)
              case atStart => exact ⟨0, Nat.zero_le _, rfl, by go_num, fun j _ h => absurd h (by omega), rfl⟩
              case round =>
                obtain ⟨k2, hk2, rfl, rfl, hts, rfl⟩ := hrel
                have htk2 : totT (d.T.take k2) ≤ 160000 := by
                  have := totT_le (d.T.take k2) (fun x hx => by
                    obtain ⟨j, hj, rfl⟩ := List.mem_iff_getElem.1 hx
                    rw [List.length_take] at hj
                    rw [List.getElem_take]
                    exact hts j (by omega) (by omega))
                  rw [List.length_take] at this
                  omega
                have htt2 := totT_take d.T k2
                obtain ⟨M2, hM2⟩ : ∃ M2, totT (d.T.take k2) = M2 := ⟨_, rfl⟩
                rw [hM2] at htk2 ⊢
                have HM2 := Lib.hid hM2; clear hM2
                have HTT2 := Lib.hid htt2; clear htt2
                have HTS := Lib.hid hts; clear hts
                by_cases hlt2 : k2 < d.T.length
                · obtain ⟨b2, off2, ha2, hbB2, hc2⟩ := q5 k2 hlt2
                  rw [ha2] at o0
                  clear ha2
                  have hcr := (hbo.cell (p := ⟨b2, off2 + k2, none⟩) hbB2).trans hc2
                  have hz := q4 (d.T.getD k2 ByteArray.empty) (by rw [List.getD_eq_getElem?_getD, List.getElem?_eq_getElem hlt2]; simp)
                  obtain ⟨z, hze⟩ : ∃ z, d.T.getD k2 ByteArray.empty = z := ⟨_, rfl⟩
                  rw [hze] at hcr hz
                  have HZ := Lib.hid hze
                  clear hze hc2
                  by_cases hz4 : 400 < z.size
                  · go_wp2_with fail
                    go_ret
                    exact FewPost2.no hbo (fun h => by have := (h.1.2 d HDM.out).ts z (by have e := HZ.out; rw [List.getD_eq_getElem?_getD, List.getElem?_eq_getElem hlt2] at e; simp only [Option.getD_some] at e; rw [← e]; exact List.getElem_mem hlt2); omega)
                  · go_wp2_with fail
                    go_roundw
                    case rel =>
                      refine ⟨k2 + 1, by omega, by go_num, by have e := HZ.out; rw [List.getD_eq_getElem?_getD, List.getElem?_eq_getElem hlt2] at e; simp only [Option.getD_some] at e; rw [HTT2.out hlt2, HM2.out, e]; go_num, fun j hj hjk => ?_, by trivial⟩
                      by_cases hjk2 : j < k2
                      · exact HTS.out j hj hjk2
                      · have e := HZ.out
                        have : j = k2 := by omega
                        subst this
                        rw [List.getD_eq_getElem?_getD, List.getElem?_eq_getElem hlt2] at e
                        simp only [Option.getD_some] at e
                        rw [e]; omega
                    case measure => simp [intOf]; omega
                · go_wp2_with fail
                  go_roundw
                  case rel =>
                    refine ⟨k + 1, by omega, by go_num, by rw [HTT.out hlt, HM.out, HD.out]; have e := HM2.out; rw [show k2 = d.T.length by omega, List.take_length] at e; unfold totV; rw [e]; go_num, fun j hj hjk => ?_, hbo⟩
                    by_cases hjk2 : j < k
                    · exact HFEW.out j hj hjk2
                    · have : j = k := by omega
                      subst this
                      rw [HD.out]
                      refine ⟨by omega, by omega, by omega, fun x hx => ?_⟩
                      obtain ⟨i, hi, rfl⟩ := List.mem_iff_getElem.1 hx
                      exact HTS.out i hi (by omega)
                  case measure => simp [intOf]; omega
      · go_wp2_with fail
        go_ret
        have hall : AllFew ds := ⟨by omega, fun d hd => by
          obtain ⟨j, hj, rfl⟩ := List.mem_iff_getElem.1 hd
          exact HFEW.out j hj (by omega)⟩
        refine FewPost2.of hbr ?_
        have e := HM.out
        rw [show k = ds.length by omega, List.take_length] at e
        rw [decide_eq_true_iff]
        constructor
        · intro h; exact ⟨hall, by omega⟩
        · intro h; have := h.2; omega

end Go.Proofs.Ytamjfnpgjcdepaa
