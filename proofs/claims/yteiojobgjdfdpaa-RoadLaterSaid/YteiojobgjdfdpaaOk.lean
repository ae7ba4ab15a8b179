/- The statement RoadLater is proved: for every input the law returns true and leaves its arguments as they were. No condition. -/
import Derived.Test.YteiojobgjdfdpaaOj
import Derived.Test.YteiojobgjdfdpaaRj
import Derived.SizedLaws
namespace Go.Proofs.Yteiojobgjdfdpaa
open Go.ChangeShapes Go.WideShapes Go.ChangeAt Go.RowKit Go.Joins Go.Deep

set_option maxRecDepth 100000 in
theorem len_R {H : Type} {enc : TypeId × Value → H} {w : World} {A : Option Addr} {len c : Nat} {d : DataW H} {p : List MemPlace} (h : DataW.Trod enc Try.prog w 0 (fun _ => true) true 22 (.slice A len c) d p) : len = 0 ∨ ∃ elems spare, d = .slice elems spare ∧ elems.length = len := by
  obtain ⟨fuel, hf⟩ := h
  have h : DataW.trod enc Try.prog w 0 (fun _ => true) true fuel 22 [.slice A len c] = some (d, p) := by simpa [Value.cells] using hf
  rcases open_slice Try.underlying22 h with ⟨hcs, _⟩ | ⟨a, len', cap, m, n', D, Pl, hcs, _, hl, hm, hmm, hx, hi⟩
  · simp only [List.cons.injEq, and_true] at hcs
    injection hcs with q1 q2 q3
    exact .inl q2
  · simp only [List.cons.injEq, and_true] at hcs
    injection hcs with q1 q2 q3
    simp only [Prod.mk.injEq] at hx
    exact .inr ⟨_, _, hx.1, by rw [q2]; simp⟩

set_option maxRecDepth 100000 in
theorem later11_lifted (os : Os) (started : os.Started) (H : Type) (enc : TypeId × Value → H) :
    ReturnsInHanded {} Try.checked os 5 .any (Rows.roadLaterSpec.pre6 enc Try.prog Try.f5 Rows.roadLaterRow.domain false) (Rows.roadLaterSpec.post enc Try.prog Try.f5 false true false false) := by
  refine returnsInHanded_of_change_sized (C := Try.checked) Try.own started (by kernel_rfl) Try.func5
    (ChangeSpec.witness6 (enc := enc) (C := Try.checked) false ⟨#[], #[.int .i64 0, .slice none 0 0, .int .i64 0, .int .i64 0, .int .u16 0, .agg #[.int .i64 0, .int .i64 0, .slice none 0 0, .slice none 0 0]], []⟩ 8 (by kernel_rfl) (by kernel_rfl) (by kernel_rfl) (by kernel_rfl)) ?_
  intro W base args ds gs before hval0 hW _ hZ _
  have hval : ∀ (j : Nat) t v, Try.f5.params[j]? = some t → args[j]? = some v → Value.okWide Try.prog W .any base t v := hval0
  have hW' := hW
  obtain ⟨p, q, hA0, hV, rfl, _, _⟩ := hW
  have hA : DataW.TrodAll enc Try.prog W 0 (fun _ => true) true Try.f5.params.toList args.toList ds p := hA0
  rw [Try.params5] at hA hval
  obtain ⟨v0, v1, v2, v3, v4, v5, d0, d1, d2, d3, d4, d5, p0, p1, p2, p3, p4, p5, rfl, rfl, rfl, h0, h1, h2, h3, h4, h5⟩ := trodAll_six hA
  obtain ⟨rfl, rfl⟩ := trodVars_none hV
  have h0k := h0
  have h1k := h1
  have h2k := h2
  have h3k := h3
  have h4k := h4
  have h5k := h5
  clear hA0 hval0
  simp only [List.append_nil] at hW'
  obtain ⟨z0, rfl, lo0, hi0⟩ := open_I (hval 0 3 v0 rfl rfl) h0
  obtain ⟨l1, A1, c1, rfl, hl1, hM1⟩ := open_R (hval 1 22 v1 rfl rfl) h1
  obtain ⟨z2, rfl, lo2, hi2⟩ := open_I (hval 2 3 v2 rfl rfl) h2
  obtain ⟨z3, rfl, lo3, hi3⟩ := open_I (hval 3 3 v3 rfl rfl) h3
  obtain ⟨z4, rfl, hz4⟩ := open_W (hval 4 42 v4 rfl rfl) h4
  obtain ⟨a5, A5, A5', c5, c5', rfl, hM5⟩ := open_A (hval 5 39 v5 rfl rfl) h5
  have hmm : l1.length ≤ 2199023255488 := by
    rcases len_R h1k with h | ⟨elems, spare, rfl, h⟩
    · omega
    · have h2 := sized_slice hZ (j := 1) (t := 22) (e := 39) (elems := elems) (spare := spare) (by kernel_rfl) rfl Try.underlying22
      have h3 : Try.checked.prog.bytesOf 39 = 64 := by kernel_rfl
      rw [h3] at h2
      have h4 : reachBytes = 140737488351232 := by decide
      rw [h4] at h2
      omega
  refine (roadLater_any z0 l1 A1 c1 l1.length z2 z3 z4 ⟨a5, A5, c5, A5', c5'⟩ W rfl hM1 hmm hz4 hM5).mono fun e W' ⟨he, hb⟩ => ?_
  subst he
  have hlt : ∀ y ∈ p0 ++ p1 ++ p2 ++ p3 ++ p4 ++ p5, y.block < W.heap.size := fun y hy => by simpa using hW'.lt y (by simpa using hy)
  have k0 := Below.trod Try.laidOut (by kernel_rfl) (of_decide_eq_true (by kernel_rfl)) h0k hb (fun y hy => hlt y (by simp [hy]))
  have k1 := Below.trod Try.laidOut (by kernel_rfl) (of_decide_eq_true (by kernel_rfl)) h1k hb (fun y hy => hlt y (by simp [hy]))
  have k2 := Below.trod Try.laidOut (by kernel_rfl) (of_decide_eq_true (by kernel_rfl)) h2k hb (fun y hy => hlt y (by simp [hy]))
  have k3 := Below.trod Try.laidOut (by kernel_rfl) (of_decide_eq_true (by kernel_rfl)) h3k hb (fun y hy => hlt y (by simp [hy]))
  have k4 := Below.trod Try.laidOut (by kernel_rfl) (of_decide_eq_true (by kernel_rfl)) h4k hb (fun y hy => hlt y (by simp [hy]))
  have k5 := Below.trod Try.laidOut (by kernel_rfl) (of_decide_eq_true (by kernel_rfl)) h5k hb (fun y hy => hlt y (by simp [hy]))
  exact ⟨_, rfl, _, _, _, [], p0 ++ (p1 ++ (p2 ++ (p3 ++ (p4 ++ p5)))), [], hW', trodAll_mk1 (shut_bool Try.underlying4 true), trodAll_mk6 k0 k1 k2 k3 k4 k5, rfl, hb.frame _, fun h => by cases h⟩

theorem later11_holds : Rows.RoadLaterSaid :=
  OpenClaim.holds_of_wide 5 Try.f5 rfl rfl rfl rfl rfl rfl rfl ⟨rfl, rfl, rfl, rfl, rfl⟩ rfl rfl rfl rfl rfl (by kernel_rfl) Try.func5 (by kernel_rfl)
    (of_decide_eq_true (by kernel_rfl)) (by unfold Func.isWrapper; rw [if_neg (of_decide_eq_false (by kernel_rfl))]; exact ⟨rfl, rfl⟩)
    (fun os started H enc _ => later11_lifted os started H enc)

end Go.Proofs.Yteiojobgjdfdpaa
