/- Opening of the laws' arguments: lists of strings, operations. -/
import Derived.Test.YtgocnjiabfmdpaaKd
import Derived.Test.YtgocnjiabfmdpaaDXj
import Derived.Deep.Strs
namespace Go.Proofs.Ytgocnjiabfmdpaa
set_option maxRecDepth 8000
open Go.ChangeShapes Go.WideShapes Go.ChangeAt Go.RowKit Go.Joins Go.Deep

theorem Try.cells49 : Try.prog.cellsOf 49 = 4 := by kernel_rfl

section
variable {H : Type} {enc : TypeId × Value → H}

theorem strs_at {w : World} {a : Addr} {zs : List ByteArray} (h : ∀ i, i < zs.length → w.cell? (a.add i) = some (.string (zs.getD i ByteArray.empty))) (hp : 0 < zs.length) :
    ∃ b off, a = ⟨b, off, none⟩ ∧ ∀ j, j < zs.length → w.cell? ⟨b, off + j, none⟩ = some (.string (zs.getD j ByteArray.empty)) := by
  obtain ⟨b, off, spot⟩ := a
  have hspot : spot = none := by simpa [Addr.add] using World.cell?_spot (h 0 hp)
  subst hspot
  exact ⟨b, off, rfl, fun j hj => by rw [← Go.WideShapes.add_plain]; exact h j hj⟩

theorem open_Ts {w : World} {r : Reach} {b0 : Nat} {v : Value} {d : DataW H} {p : List MemPlace} (hv : Value.okWide Try.prog w r b0 57 v) (h : DataW.Trod enc Try.prog w 0 (fun _ => true) true 57 v d p) :
    ∃ T : List ByteArray, ArgT L0 w v T ∧ ∀ A n c, v = .slice A n c → n ≤ c := by
  obtain ⟨a0, len0, cap0, rfl⟩ := okWide_slice Try.underlying57 hv
  obtain ⟨fuel, hf⟩ := h
  rcases open_strings Try.underlying57 Try.underlying9 Try.cells9 hf with ⟨hcs, _⟩ | ⟨a, len, cap, zs, hcs, _, hl, hm, hz, _, hcell, hwf⟩
  · have e : Value.slice a0 len0 cap0 = .slice none 0 0 := by simpa [Value.cells] using hcs
    exact ⟨[], ⟨none, 0, e, by simp, by simp, fun h0 => absurd h0 (by simp)⟩, fun A n c h => by rw [e] at h; injection h with _ h1 h2; omega⟩
  · have e : Value.slice a0 len0 cap0 = .slice (some a) len cap := by simpa [Value.cells] using hcs
    simp only [if_true] at hz
    have hlen : (zs.take len).length = len := by rw [List.length_take]; omega
    refine ⟨zs.take len, ⟨some a, cap, by rw [hlen]; exact e, by rw [hlen]; unfold maxLen at hm; omega, fun z hz' => by have := hwf z (List.mem_of_mem_take hz'); unfold maxLen at this; omega, fun h0 => ?_⟩, fun A n c h => by rw [e] at h; injection h with _ h1 h2; omega⟩
    rw [hlen] at h0
    obtain ⟨b, off, rfl, hc⟩ := strs_at hcell (by omega)
    refine ⟨b, off, rfl, rfl, World.block_lt_of_cell? w _ (hc 0 (by omega)), fun k hk => ?_⟩
    rw [hlen] at hk
    have h1 := hc k (by omega)
    rw [h1, List.getD_eq_getElem?_getD, List.getD_eq_getElem?_getD, List.getElem?_take_of_lt hk]

theorem open_Ops {w : World} {r : Reach} {b0 : Nat} {v : Value} {d : DataW H} {p : List MemPlace} (hv : Value.okWide Try.prog w r b0 40 v) (h : DataW.Trod enc Try.prog w 0 (fun _ => true) true 40 v d p) :
    ∃ l : List Op3, OpsAt L0 w v l := by
  obtain ⟨a0, len0, cap0, rfl⟩ := okWide_slice Try.underlying40 hv
  obtain ⟨fuel, hf⟩ := h
  rcases open_slice_fields Try.underlying40 Try.underlying49 (by kernel_rfl) Try.cells49 hf with ⟨hcs, _⟩ | ⟨a, len, cap, m, D, Pl, hcs, _, hl, hm, hmm, _, hi⟩
  · simp only [Value.cells, List.cons.injEq, and_true] at hcs
    have e : Value.slice a0 len0 cap0 = .slice none 0 0 := by simpa using hcs
    exact ⟨[], none, 0, e, by simp, by simp, fun hk => absurd hk (by simp)⟩
  · have e : Value.slice a0 len0 cap0 = .slice (some a) len cap := by simpa [Value.cells] using hcs
    simp only [if_true] at hmm
    have key : ∀ i, i < len → ∃ x : Op3, x.ok ∧ ∃ b off kv, a = ⟨b, off, none⟩ ∧ b < w.heap.size ∧ w.cell? ⟨b, off + i * 4, none⟩ = some (.int .i64 x.kind) ∧ w.cell? ⟨b, off + i * 4 + 1, none⟩ = some (.string x.s) ∧
        w.cell? ⟨b, off + i * 4 + 2, none⟩ = some (.int .i64 x.n) ∧ w.cell? ⟨b, off + i * 4 + 3, none⟩ = some kv ∧ ArgI L0 w kv x.keep := by
      intro i hil
      obtain ⟨ys, n, _, _, _, hf⟩ := hi i (by omega)
      obtain ⟨v0, y0, k0, _, t0⟩ := hf 0 _ rfl
      obtain ⟨v1, y1, k1, _, t1⟩ := hf 1 _ rfl
      obtain ⟨v2, y2, k2, _, t2⟩ := hf 2 _ rfl
      obtain ⟨v3, y3, k3, _, t3⟩ := hf 3 _ rfl
      obtain ⟨A, e0, _, w0⟩ := DataW.trod_int Try.underlying3 t0
      obtain ⟨S, e1, _, w1⟩ := DataW.trod_string Try.underlying9 t1
      obtain ⟨N, e2, _, w2⟩ := DataW.trod_int Try.underlying3 t2
      obtain ⟨keep, hk⟩ := open_K t3
      simp only [List.cons.injEq, and_true] at e0 e1 e2
      subst e0 e1 e2
      obtain ⟨b, off, spot⟩ := a
      have hspot : spot = none := by
        obtain ⟨ys', n', _, _, _, hf'⟩ := hi 0 (by omega)
        obtain ⟨v0', y0', k0', _, _⟩ := hf' 0 _ rfl
        simpa [Addr.add] using World.cell?_spot k0'
      subst hspot
      have key : ∀ j : Nat, (⟨b, off, none⟩ : Addr).add (i * 4 + j) = ⟨b, off + i * 4 + j, none⟩ := by
        intro j; rw [Go.WideShapes.add_plain, Nat.add_assoc]
      exact ⟨⟨A, S, N, keep⟩, ⟨wf_int w0, wf_int w2⟩, b, off, v3, rfl, World.block_lt_of_cell? w _ ((congrArg w.cell? (key 0)).symm.trans k0),
        (congrArg w.cell? (key 0)).symm.trans k0, (congrArg w.cell? (key 1)).symm.trans k1, (congrArg w.cell? (key 2)).symm.trans k2, (congrArg w.cell? (key 3)).symm.trans k3, hk⟩
    obtain ⟨ds, hdl, hds⟩ := choose_list len key
    refine ⟨ds, some a, cap, by rw [hdl]; exact e, by rw [hdl]; unfold maxLen at hm; omega, fun x hx => ?_, fun h0 => ?_⟩
    · obtain ⟨i, hi', rfl⟩ := List.mem_iff_getElem.1 hx
      exact (hds i hi').1
    · obtain ⟨_, b, off, kv, ha, hb, _⟩ := hds 0 h0
      refine ⟨b, off, by rw [ha], rfl, hb, fun j hj => ?_⟩
      obtain ⟨_, b', off', kv', ha', _, h1, h2, h3, h4, h5⟩ := hds j hj
      rw [ha] at ha'
      simp only [Addr.mk.injEq, and_true] at ha'
      obtain ⟨rfl, rfl⟩ := ha'
      exact ⟨kv', h1, h2, h3, h4, h5⟩
end

end Go.Proofs.Ytgocnjiabfmdpaa
