/- Walks: the queue through the interface of container/heap: down, up. -/
import Derived.Test.YteiojobgjdfdpaaQd
namespace Go.Proofs.Yteiojobgjdfdpaa
open Go.RowKit

theorem load_q (G k : Nat) (w : World) (v : Value) (h : w.cell? ⟨G, k, none⟩ = some v) : (loadVar 68 ⟨G, k, none⟩).run Try.prog w = .ok v w := by
  simp [go_sem, loadVar, h]
theorem meth_len0 (a : Addr) (w : World) : (method 220 87 (.pointer (some a)) "Len").run Try.prog w = (do let r ← loadVar 68 a; pure (66, r) : Sem (FuncId × Value)).run Try.prog w := by kernel_rfl
theorem meth_less0 (a : Addr) (w : World) : (method 220 87 (.pointer (some a)) "Less").run Try.prog w = (do let r ← loadVar 68 a; pure (98, r) : Sem (FuncId × Value)).run Try.prog w := by kernel_rfl
theorem meth_swap0 (a : Addr) (w : World) : (method 220 87 (.pointer (some a)) "Swap").run Try.prog w = (do let r ← loadVar 68 a; pure (99, r) : Sem (FuncId × Value)).run Try.prog w := by kernel_rfl
theorem meth_pop (a : Addr) (w : World) : (method 220 87 (.pointer (some a)) "Pop").run Try.prog w = .ok (103, .pointer (some a)) w := by kernel_rfl
theorem meth_push (a : Addr) (w : World) : (method 220 87 (.pointer (some a)) "Push").run Try.prog w = .ok (104, .pointer (some a)) w := by kernel_rfl
section
variable {G k : Nat} {w : World} {v : Value} (h : w.cell? ⟨G, k, none⟩ = some v)
include h
theorem meth_len : (method 220 87 (.pointer (some ⟨G, k, none⟩)) "Len").run Try.prog w = .ok (66, v) w := by rw [meth_len0, Sem.run_bind, load_q G k w v h]; rfl
theorem meth_less : (method 220 87 (.pointer (some ⟨G, k, none⟩)) "Less").run Try.prog w = .ok (98, v) w := by rw [meth_less0, Sem.run_bind, load_q G k w v h]; rfl
theorem meth_swap : (method 220 87 (.pointer (some ⟨G, k, none⟩)) "Swap").run Try.prog w = .ok (99, v) w := by rw [meth_swap0, Sem.run_bind, load_q G k w v h]; rfl
end

set_option maxRecDepth 100000 in
theorem len_any (A : Option Addr) (n c : Nat) (w : World) :
    Calls Try.prog 66 #[.slice A n c] w fun e w' => e = .returned (.int .i64 n) ∧ w = w' := by
  go_enter Try.func66, Try.ntmps66
  go_wp2_with fail
  go_ret
  exact ⟨by rfl, rfl⟩

/-- What down and up keep. -/
structure Kq (w : World) (G g c : Nat) (q : List En) (n : Nat) (wr : World) (q' : List En) : Prop where
  own : OwnQ wr (G + 1) (.slice (some ⟨g, 0, none⟩) q.length c) q'
  len : q'.length = q.length
  rest : ∀ k, n ≤ k → gq q' k = gq q k
  mem : ∀ x, x ∈ q' ↔ x ∈ q
  fr : Fr (· = g) w wr
theorem Kq.cell {w wr : World} {G g c n : Nat} {q q' : List En} {v : Value} {i : Nat} (h : Kq w G g c q n wr q') (h3 : w.cell? ⟨G, i, none⟩ = some v) : wr.cell? ⟨G, i, none⟩ = some v :=
  (World.cell?_of_block (a := ⟨G, i, none⟩) (h.fr.2.2.2.2 G (block_lt_of_cell h3) (fun e => by have := h.own.lt; omega))).trans h3
theorem Kq.below {w wr w' : World} {G g c n : Nat} {q q' : List En} (h : Kq w G g c q n wr q') (hb : Below wr.heap.size wr w') : Kq w G g c q n w' q' :=
  ⟨h.own.below hb, h.len, h.rest, h.mem, h.fr.tr (Fr.of_below hb)⟩
theorem Kq.swap {w wr w' : World} {G g c n i j : Nat} {q q' : List En} (h : Kq w G g c q n wr q') (ho : OwnQ w' (G + 1) (.slice (some ⟨g, 0, none⟩) q.length c) (swp q' i j)) (hf : Fr (· = g) wr w') (hi : i < n) (hj : j < n) (hn : n ≤ q.length) : Kq w G g c q n w' (swp q' i j) :=
  ⟨ho, by rw [swp_len]; exact h.len, fun k hk => by rw [gq_swp (by rw [h.len]; omega) (by rw [h.len]; omega), if_neg (by omega), if_neg (by omega)]; exact h.rest k hk,
   fun x => (mem_swp (by rw [h.len]; omega) (by rw [h.len]; omega) x).trans (h.mem x), h.fr.tr hf⟩
theorem Kq.refl {w : World} {G g c : Nat} {q : List En} (n : Nat) (ho : OwnQ w (G + 1) (.slice (some ⟨g, 0, none⟩) q.length c) q) : Kq w G g c q n w q := ⟨ho, rfl, fun _ _ => rfl, fun _ => Iff.rfl, Fr.refl _ _⟩

def DownP (w : World) (G g c : Nat) (q : List En) (n : Nat) (e : Ending) (w' : World) : Prop := ∃ b q', e = .returned (.bool b) ∧ Kq w G g c q n w' q' ∧ Heap q' n
set_option maxRecDepth 100000 in
set_option maxHeartbeats 8000000 in
theorem down_any (q : List En) (G g c n m : Nat) (w : World) (hm : q.length = m) (h3 : w.cell? ⟨G, 3, none⟩ = some (.slice (some ⟨g, 0, none⟩) m c)) (hq : OwnQ w (G + 1) (.slice (some ⟨g, 0, none⟩) m c) q) (hnm : n ≤ m) (hmx : m ≤ 1000000) (hd : DownI q n 0) :
    Calls Try.prog 78 #[.iface 87 (.pointer (some ⟨G, 3, none⟩)), .int .i64 0, .int .i64 n] w (DownP w G g c q n) := by
  have HK := Lib.hid (Kq.refl (w := w) (G := G) (g := g) (c := c) (q := q) n (by rw [hm]; exact hq))
  have HD := Lib.hid hd; clear hd hq
  have H3 := Lib.hid h3; clear h3
  have HM := Lib.hid hm; clear hm
  go_enter Try.func78, Try.ntmps78
  go_wp2_with fail
  go_loopw [7] (fun iv wr => ∃ (i : Nat) (q' : List En), iv = .int .i64 i ∧ (i = 0 ∨ i < n) ∧ Hid (Kq w G g c q n wr q') ∧ Hid (DownI q' n i)) (fun iv _ => n - (intOf iv).toNat)
  case atStart => exact ⟨0, q, rfl, .inl rfl, HK, HD⟩
  case round =>
    obtain ⟨i, q', rfl, hi, hK, hD⟩ := hrel
    by_cases h1 : 2 * i + 1 < n
    · obtain ⟨j1, hj1⟩ : ∃ j1 : Nat, 2 * i + 1 = j1 := ⟨_, rfl⟩
      have e1 : (2 * (i : Int) + 1) = (j1 : Int) := by omega
      have w1 : IntKind.i64.wrap (2 * (i : Int)) = 2 * (i : Int) := by rw [IntKind.wrap_i64]; omega
      have hin : i < n := by omega
      have cl := hK.out.cell H3.out
      have ml := meth_less cl
      have hlenq : q'.length = m := hK.out.len.trans HM.out
      have hown := hK.out.own
      rw [HM.out] at hown
      by_cases h2 : j1 + 1 < n
      · obtain ⟨j2, hj2⟩ : ∃ j2 : Nat, j1 + 1 = j2 := ⟨_, rfl⟩
        have e2 : ((j1 : Int) + 1) = (j2 : Int) := by omega
        obtain ⟨r1, hr1⟩ : ∃ r, decide (En.lt (gq q' j2) (gq q' j1)) = r := ⟨_, rfl⟩
        have HL1 := Lib.hid (less_any q' g m c j2 j1 (G + 1) wr hown hlenq (by omega) (by omega) r1 hr1)
        go_wp2_with fail
        refine HL1.out.mono ?_
        rintro e w1 ⟨rfl, hb1⟩
        have hK1 := hK.out.below hb1
        have cl1 := hK1.cell H3.out
        have own1 := hK1.own
        rw [HM.out] at own1
        cases r1 with
        | true =>
          have hl1 := of_decide_eq_true hr1
          have HC : Hid (∀ k, 0 < k → k < n → (k - 1) / 2 = i → En.le (gq q' j2) (gq q' k)) := Lib.hid (fun k k0 kn ke => by
            by_cases e : k = j2
            · rw [e]; exact En.le_refl _
            · have : k = j1 := by omega
              rw [this]; exact En.lt_le hl1)
          clear hr1 hl1 hown cl ml hb1
          have ml2 := meth_less cl1
          obtain ⟨r2, hr2⟩ : ∃ r, decide (En.lt (gq q' j2) (gq q' i)) = r := ⟨_, rfl⟩
          have HL2 := Lib.hid (less_any q' g m c j2 i (G + 1) w1 own1 hlenq (by omega) (by omega) r2 hr2)
          go_wp2_with fail
          refine HL2.out.mono ?_
          rintro e w2 ⟨rfl, hb2⟩
          have hK2 := hK1.below hb2
          have own2 := hK2.own
          rw [HM.out] at own2
          cases r2 with
          | false =>
            have hle := of_decide_eq_false hr2
            go_wp2_with fail
            go_ret
            exact ⟨_, q', rfl, hK2, hD.out.done (fun k k0 kn ke => En.le_trans hle (HC.out k k0 kn ke))⟩
          | true =>
            have hl := of_decide_eq_true hr2
            have HX := Lib.hid (And.intro hK2 hl)
            have ms := meth_swap (hK2.cell H3.out)
            have HS := Lib.hid (swap_any q' g m c i j2 (G + 1) w2 own2 hlenq (by omega) (by omega))
            clear hK2 own2 hl hr2 hb2
            go_wp2_with fail
            refine HS.out.mono ?_
            rintro e w3 ⟨rfl, ho3, hs3, hf3⟩
            have HY := Lib.hid (And.intro ho3 hf3)
            clear ho3 hf3 hs3
            go_wp2_with fail
            go_roundw
            case rel => exact ⟨j2, swp q' i j2, rfl, .inr (by omega), Lib.hid (HX.out.1.swap (by rw [HM.out]; exact HY.out.1) HY.out.2 (by omega) (by omega) (by rw [HM.out]; exact hnm)), Lib.hid (hD.out.step (by omega) (by omega) (by omega) (by omega) HX.out.2 HC.out)⟩
            case measure => simp [intOf]; omega
        | false =>
          have hl1 := of_decide_eq_false hr1
          have HC : Hid (∀ k, 0 < k → k < n → (k - 1) / 2 = i → En.le (gq q' j1) (gq q' k)) := Lib.hid (fun k k0 kn ke => by
            by_cases e : k = j1
            · rw [e]; exact En.le_refl _
            · have : k = j2 := by omega
              rw [this]; exact hl1)
          clear hr1 hl1 hown cl ml hb1
          have ml2 := meth_less cl1
          obtain ⟨r2, hr2⟩ : ∃ r, decide (En.lt (gq q' j1) (gq q' i)) = r := ⟨_, rfl⟩
          have HL2 := Lib.hid (less_any q' g m c j1 i (G + 1) w1 own1 hlenq (by omega) (by omega) r2 hr2)
          go_wp2_with fail
          refine HL2.out.mono ?_
          rintro e w2 ⟨rfl, hb2⟩
          have hK2 := hK1.below hb2
          have own2 := hK2.own
          rw [HM.out] at own2
          cases r2 with
          | false =>
            have hle := of_decide_eq_false hr2
            go_wp2_with fail
            go_ret
            exact ⟨_, q', rfl, hK2, hD.out.done (fun k k0 kn ke => En.le_trans hle (HC.out k k0 kn ke))⟩
          | true =>
            have hl := of_decide_eq_true hr2
            have HX := Lib.hid (And.intro hK2 hl)
            have ms := meth_swap (hK2.cell H3.out)
            have HS := Lib.hid (swap_any q' g m c i j1 (G + 1) w2 own2 hlenq (by omega) (by omega))
            clear hK2 own2 hl hr2 hb2
            go_wp2_with fail
            refine HS.out.mono ?_
            rintro e w3 ⟨rfl, ho3, hs3, hf3⟩
            have HY := Lib.hid (And.intro ho3 hf3)
            clear ho3 hf3 hs3
            go_wp2_with fail
            go_roundw
            case rel => exact ⟨j1, swp q' i j1, rfl, .inr (by omega), Lib.hid (HX.out.1.swap (by rw [HM.out]; exact HY.out.1) HY.out.2 (by omega) (by omega) (by rw [HM.out]; exact hnm)), Lib.hid (hD.out.step (by omega) (by omega) (by omega) (by omega) HX.out.2 HC.out)⟩
            case measure => simp [intOf]; omega
      · have HC : Hid (∀ k, 0 < k → k < n → (k - 1) / 2 = i → En.le (gq q' j1) (gq q' k)) := Lib.hid (fun k k0 kn ke => by
          have : k = j1 := by omega
          rw [this]; exact En.le_refl _)
        have ml2 := meth_less cl
        obtain ⟨r2, hr2⟩ : ∃ r, decide (En.lt (gq q' j1) (gq q' i)) = r := ⟨_, rfl⟩
        have HL2 := Lib.hid (less_any q' g m c j1 i (G + 1) wr hown hlenq (by omega) (by omega) r2 hr2)
        go_wp2_with fail
        refine HL2.out.mono ?_
        rintro e w2 ⟨rfl, hb2⟩
        have hK2 := hK.out.below hb2
        have own2 := hK2.own
        rw [HM.out] at own2
        cases r2 with
        | false =>
          have hle := of_decide_eq_false hr2
          go_wp2_with fail
          go_ret
          exact ⟨_, q', rfl, hK2, hD.out.done (fun k k0 kn ke => En.le_trans hle (HC.out k k0 kn ke))⟩
        | true =>
          have hl := of_decide_eq_true hr2
          have HX := Lib.hid (And.intro hK2 hl)
          have ms := meth_swap (hK2.cell H3.out)
          have HS := Lib.hid (swap_any q' g m c i j1 (G + 1) w2 own2 hlenq (by omega) (by omega))
          clear hK2 own2 hl hr2 hb2
          go_wp2_with fail
          refine HS.out.mono ?_
          rintro e w3 ⟨rfl, ho3, hs3, hf3⟩
          have HY := Lib.hid (And.intro ho3 hf3)
          clear ho3 hf3 hs3
          go_wp2_with fail
          go_roundw
          case rel => exact ⟨j1, swp q' i j1, rfl, .inr (by omega), Lib.hid (HX.out.1.swap (by rw [HM.out]; exact HY.out.1) HY.out.2 (by omega) (by omega) (by rw [HM.out]; exact hnm)), Lib.hid (hD.out.step (by omega) (by omega) (by omega) (by omega) HX.out.2 HC.out)⟩
          case measure => simp [intOf]; omega
    · go_wp2_with fail
      go_ret
      exact ⟨_, q', rfl, hK.out, hD.out.done (fun k k0 kn ke => by omega)⟩

end Go.Proofs.Yteiojobgjdfdpaa
