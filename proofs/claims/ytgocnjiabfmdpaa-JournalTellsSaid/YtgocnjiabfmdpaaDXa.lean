/- The law's own helpers: acts as they lie in memory; few; do. -/
import Derived.Test.YtgocnjiabfmdpaaDWln
namespace Go.Proofs.Ytgocnjiabfmdpaa
set_option maxRecDepth 8000
open Go.RowKit

structure Ac where
  act : Int
  f : Int
  n : Int
  s : ByteArray
  keep : List Int

def Ac.ok (a : Ac) : Prop := isI64 a.act ∧ isI64 a.f ∧ isI64 a.n

/-- The ints of a slice that came in: in a block that is nobody's. -/
def ArgI (L : Lab) (w : World) (v : Value) (keep : List Int) : Prop :=
  ((v = .slice none 0 0 ∨ ∃ a c, v = .slice (some a) 0 c) ∧ keep = []) ∨ ∃ b off c, v = .slice (some ⟨b, off, none⟩) keep.length c ∧ L b = none ∧ b < w.heap.size ∧ ∀ j (hj : j < keep.length), w.cell? ⟨b, off + j, none⟩ = some (.int .i64 keep[j])

theorem ArgI.keep {M : Nat × Role → Prop} {L L1 : Lab} {w w1 : World} {v : Value} {keep : List Int} (h : ArgI L w v keep) (hf : Fr M L w L1 w1) : ArgI L1 w1 v keep := by
  rcases h with h | ⟨b, off, c, rfl, hl, hb, hc⟩
  · exact Or.inl h
  · exact Or.inr ⟨b, off, c, rfl, (hf.lab b hb).trans hl, Nat.lt_of_lt_of_le hb hf.size, fun j hj => (World.cell?_of_block (a := ⟨b, off + j, none⟩) (hf.block b hb (fun t ht => by rw [hl] at ht; cases ht))).trans (hc j hj)⟩

theorem ArgI.kat {L : Lab} {w : World} {v : Value} {keep : List Int} (h : ArgI L w v keep) (k : Nat) : KAt L w k v keep := by
  rcases h with ⟨rfl | ⟨a, c, rfl⟩, rfl⟩ | ⟨b, off, c, rfl, hl, hb, hc⟩
  · exact ⟨none, 0, rfl, fun j hj => by simp at hj⟩
  · exact ⟨some a, c, rfl, fun j hj => by simp at hj⟩
  · exact ⟨_, c, rfl, fun j hj => ⟨b, off, rfl, hc j hj, hb, fun i => by rw [hl]; simp⟩⟩

theorem ArgI.rd {L : Lab} {w : World} {v : Value} {keep : List Int} (h : ArgI L w v keep) : Rd w 1 v keep.length (ic keep) := by
  refine ⟨by rw [ic_length]; omega, ?_⟩
  rcases h with ⟨rfl | ⟨a, c, rfl⟩, rfl⟩ | ⟨b, off, c, rfl, hl, hb, hc⟩
  · exact Or.inl ⟨rfl, rfl⟩
  · exact Or.inr ⟨a, c, rfl, fun j u hu => by simp [ic] at hu⟩
  · refine Or.inr ⟨_, c, rfl, fun j u hu => ?_⟩
    have hj : j < keep.length := by have := (List.getElem?_eq_some_iff.1 hu).1; rw [ic_length] at this; exact this
    have e : (⟨b, off, none⟩ : Addr).add j = ⟨b, off + j, none⟩ := by unfold Addr.add; split <;> simp_all
    rw [e, hc j hj]
    simp [ic, List.getElem?_eq_getElem hj] at hu
    rw [hu]

theorem ArgI.far {L : Lab} {w : World} {v : Value} {keep : List Int} (h : ArgI L w v keep) {d k : Nat} (hd : L d = some (k, .disk)) : ∀ g, v.ownBlock = some g → 0 < keep.length → g ≠ d := by
  rcases h with ⟨_, rfl⟩ | ⟨b, off, c, rfl, hl, hb, hc⟩
  · intro g _ h0; simp at h0
  · intro g hg _ e
    simp [Value.ownBlock] at hg
    subst hg; rw [e, hd] at hl; cases hl

/-- Acts that came in. -/
def ActsAt (L : Lab) (w : World) (v : Value) (l : List Ac) : Prop :=
  ∃ A c, v = .slice A l.length c ∧ l.length ≤ 9223372036854775807 ∧ (∀ a ∈ l, a.ok) ∧ (0 < l.length → ∃ b off, A = some ⟨b, off, none⟩ ∧ L b = none ∧ b < w.heap.size ∧ ∀ j (hj : j < l.length), ∃ kv,
    w.cell? ⟨b, off + j * 5, none⟩ = some (.int .i64 l[j].act) ∧ w.cell? ⟨b, off + j * 5 + 1, none⟩ = some (.int .i64 l[j].f) ∧ w.cell? ⟨b, off + j * 5 + 2, none⟩ = some (.int .i64 l[j].n) ∧
    w.cell? ⟨b, off + j * 5 + 3, none⟩ = some (.string l[j].s) ∧ w.cell? ⟨b, off + j * 5 + 4, none⟩ = some kv ∧ ArgI L w kv l[j].keep)

theorem ActsAt.keep {M : Nat × Role → Prop} {L L1 : Lab} {w w1 : World} {v : Value} {l : List Ac} (h : ActsAt L w v l) (hf : Fr M L w L1 w1) : ActsAt L1 w1 v l := by
  obtain ⟨A, c, rfl, hm, hok, h⟩ := h
  refine ⟨A, c, rfl, hm, hok, fun hl => ?_⟩
  obtain ⟨b, off, hA, hlb, hb, hc⟩ := h hl
  have hk : ∀ o, w1.cell? ⟨b, o, none⟩ = w.cell? ⟨b, o, none⟩ := fun o => World.cell?_of_block (a := ⟨b, o, none⟩) (hf.block b hb (fun t ht => by rw [hlb] at ht; cases ht))
  refine ⟨b, off, hA, (hf.lab b hb).trans hlb, Nat.lt_of_lt_of_le hb hf.size, fun j hj => ?_⟩
  obtain ⟨kv, c0, c1, c2, c3, c4, ha⟩ := hc j hj
  exact ⟨kv, (hk _).trans c0, (hk _).trans c1, (hk _).trans c2, (hk _).trans c3, (hk _).trans c4, ha.keep hf⟩

def Ac.fit (a : Ac) : Bool := decide (a.s.size ≤ 300) && decide (a.keep.length ≤ 60) && !(decide (3000 < a.n) && decide (a.n < 16776916))
def fewB (l : List Ac) : Bool := l.all Ac.fit && decide (l.length ≤ 40)

theorem argI_len {L : Lab} {w : World} {v : Value} {keep : List Int} (h : ArgI L w v keep) : ∃ A c, v = .slice A keep.length c := by
  rcases h with ⟨rfl | ⟨a, c, rfl⟩, rfl⟩ | ⟨b, off, c, rfl, _⟩
  · exact ⟨_, _, rfl⟩
  · exact ⟨_, _, rfl⟩
  · exact ⟨_, _, rfl⟩

theorem fit_false {l : List Ac} {j : Nat} {a : Ac} (ha : l[j]? = some a) (h : a.fit = false) : fewB l = false := by
  unfold fewB
  rw [Bool.and_eq_false_iff]
  left
  rw [List.all_eq_false]
  exact ⟨a, List.mem_of_getElem? ha, by rw [h]; simp⟩

set_option maxRecDepth 100000 in
set_option maxHeartbeats 1000000 in
theorem few_any {L : Lab} {w : World} {v : Value} {l : List Ac} (h : ActsAt L w v l) : Calls Try.prog 10 #[v] w fun e w' => e = .returned (.bool (fewB l)) ∧ w = w' := by
  obtain ⟨A, c, rfl, hm, hok, h⟩ := h
  have HOK := Lib.hid hok
  clear hok
  go_enter Try.func10, Try.ntmps10
  go_wp2_with fail
  go_loop [3] (fun i => ∃ j : Nat, j ≤ l.length ∧ i = .int .i64 j ∧ Hid ((l.take j).all Ac.fit = true)) (fun i => l.length - (intOf i).toNat)
  case atStart => exact ⟨0, Nat.zero_le _, rfl, rfl⟩
  case round =>
    obtain ⟨j, hj, rfl, HA⟩ := hrel
    by_cases hlt : j < l.length
    · obtain ⟨b, off, rfl, hlb, hb, hc⟩ := h (by omega)
      obtain ⟨kv, c0, c1, c2, c3, c4, ha⟩ := hc j hlt
      obtain ⟨a, hae⟩ : ∃ a, l[j] = a := ⟨_, rfl⟩
      rw [hae] at c0 c1 c2 c3 ha
      have haj : l[j]? = some a := by rw [List.getElem?_eq_getElem hlt, hae]
      obtain ⟨KA, kc, rfl⟩ := argI_len ha
      have hsucc : Hid (a.fit = true → (l.take (j + 1)).all Ac.fit = true) := fun hf => by
        rw [List.take_succ_eq_append_getElem hlt, hae, List.all_append, HA.out]; simp [hf]
      have HJ := Lib.hid haj
      clear hae haj hc h
      by_cases h1 : 300 < a.s.size
      · have HF : Hid (a.fit = false) := show _ = _ by simp [Ac.fit]; omega
        go_wp2_with fail
        go_ret
        rw [fit_false HJ.out HF.out]
        exact ⟨rfl, rfl⟩
      · by_cases h2 : 60 < a.keep.length
        · have HF : Hid (a.fit = false) := show _ = _ by simp [Ac.fit]; omega
          go_wp2_with fail
          go_ret
          rw [fit_false HJ.out HF.out]
          exact ⟨rfl, rfl⟩
        · by_cases h3 : 3000 < a.n
          · by_cases h4 : a.n < 16776916
            · have HF : Hid (a.fit = false) := show _ = _ by simp [Ac.fit]; omega
              go_wp2_with fail
              go_ret
              rw [fit_false HJ.out HF.out]
              exact ⟨rfl, rfl⟩
            · have HF : Hid (a.fit = true) := show _ = _ by simp [Ac.fit]; omega
              go_wp2_with fail
              go_round
              case rel => exact ⟨j + 1, by omega, by go_num, hsucc.out HF.out⟩
              case measure => simp [intOf]; omega
          · have HF : Hid (a.fit = true) := show _ = _ by simp [Ac.fit]; omega
            go_wp2_with fail
            go_round
            case rel => exact ⟨j + 1, by omega, by go_num, hsucc.out HF.out⟩
            case measure => simp [intOf]; omega
    · have hje : j = l.length := by omega
      subst hje
      rw [List.take_length] at HA
      have HF : Hid (fewB l = decide (l.length ≤ 40)) := show _ = _ by unfold fewB; rw [HA.out, Bool.true_and]
      go_wp2_with fail
      go_ret
      rw [HF.out]
      refine ⟨?_, rfl⟩
      congr 2
      simp
      omega

end Go.Proofs.Ytgocnjiabfmdpaa
