/- Lists of strings and operations that came in; texts, few. -/
import Derived.Test.YtgocnjiabfmdpaaKb
import Derived.Test.YtgocnjiabfmdpaaDXa
namespace Go.Proofs.Ytgocnjiabfmdpaa
set_option maxRecDepth 8000
open Go.RowKit Wire

/-- The strings of a slice that came in: in a block that is nobody's. -/
def ArgT (L : Lab) (w : World) (v : Value) (T : List ByteArray) : Prop :=
  ∃ A c, v = .slice A T.length c ∧ T.length ≤ 9223372036854775807 ∧ (∀ z ∈ T, z.size ≤ 9223372036854775807) ∧
    (0 < T.length → ∃ b off, A = some ⟨b, off, none⟩ ∧ L b = none ∧ b < w.heap.size ∧ ∀ j (_ : j < T.length), w.cell? ⟨b, off + j, none⟩ = some (.string (T.getD j ByteArray.empty)))

theorem ArgT.keep {M : Nat × Role → Prop} {L L1 : Lab} {w w1 : World} {v : Value} {T : List ByteArray} (h : ArgT L w v T) (hf : Fr M L w L1 w1) : ArgT L1 w1 v T := by
  obtain ⟨A, c, rfl, h1, h2, h3⟩ := h
  refine ⟨A, c, rfl, h1, h2, fun h0 => ?_⟩
  obtain ⟨b, off, rfl, hl, hb, hc⟩ := h3 h0
  exact ⟨b, off, rfl, (hf.lab b hb).trans hl, Nat.lt_of_lt_of_le hb hf.size, fun j hj => (World.cell?_of_block (a := ⟨b, off + j, none⟩) (hf.block b hb (fun t ht => by rw [hl] at ht; cases ht))).trans (hc j hj)⟩

def textsB (T : List ByteArray) : Bool := T.all (fun z => decide (z.size ≤ 200)) && decide (T.length ≤ 8)

theorem long_false {T : List ByteArray} {j : Nat} {z : ByteArray} (ha : T[j]? = some z) (h : 200 < z.size) : textsB T = false := by
  unfold textsB
  rw [Bool.and_eq_false_iff]
  left
  rw [List.all_eq_false]
  exact ⟨z, List.mem_of_getElem? ha, by simp; omega⟩

theorem textsB_mem {T : List ByteArray} (h : textsB T = true) : (∀ z ∈ T, z.size ≤ 200) ∧ T.length ≤ 8 := by
  unfold textsB at h
  simp only [Bool.and_eq_true, List.all_eq_true, decide_eq_true_eq] at h
  exact h

set_option maxHeartbeats 1000000 in
theorem texts_any {L : Lab} {w : World} {v : Value} {T : List ByteArray} (h : ArgT L w v T) : Calls Try.prog 45 #[v] w fun e w' => e = .returned (.bool (textsB T)) ∧ w = w' := by
  obtain ⟨A, c, rfl, hm, hok, h⟩ := h
  have HOK := Lib.hid hok
  clear hok
  go_enter Try.func45, Try.ntmps45
  go_wp2_with fail
  go_loop [3] (fun i => ∃ j : Nat, j ≤ T.length ∧ i = .int .i64 j ∧ Hid ((T.take j).all (fun z => decide (z.size ≤ 200)) = true)) (fun i => T.length - (intOf i).toNat)
  case atStart => exact ⟨0, Nat.zero_le _, rfl, rfl⟩
  case round =>
    obtain ⟨j, hj, rfl, HA⟩ := hrel
    by_cases hlt : j < T.length
    · obtain ⟨b, off, rfl, hlb, hb, hc⟩ := h (by omega)
      have c0 := hc j hlt
      obtain ⟨z, hz⟩ : ∃ z, T.getD j ByteArray.empty = z := ⟨_, rfl⟩
      have hz' : T[j]? = some z := by rw [← hz, List.getD_eq_getElem?_getD, List.getElem?_eq_getElem hlt]; rfl
      rw [hz] at c0
      have hsucc : Hid (z.size ≤ 200 → (T.take (j + 1)).all (fun z => decide (z.size ≤ 200)) = true) := show _ → _ from fun hf => by
        have e : T[j] = z := by rw [List.getElem?_eq_getElem hlt] at hz'; exact Option.some.inj hz'
        rw [List.take_succ_eq_append_getElem hlt, e, List.all_append, HA.out]; simp [hf]
      have HJ := Lib.hid hz'
      clear hz hz' hc h
      by_cases h1 : 200 < z.size
      · go_wp2_with fail
        go_ret
        rw [long_false HJ.out h1]
        exact ⟨rfl, rfl⟩
      · go_wp2_with fail
        go_round
        case rel => exact ⟨j + 1, by omega, by go_num, hsucc.out (by omega)⟩
        case measure => simp [intOf]; omega
    · have hje : j = T.length := by omega
      subst hje
      rw [List.take_length] at HA
      have HF : Hid (textsB T = decide (T.length ≤ 8)) := show _ = _ by unfold textsB; rw [HA.out, Bool.true_and]
      go_wp2_with fail
      go_ret
      rw [HF.out]
      refine ⟨?_, rfl⟩
      congr 2
      simp
      omega

structure Op3 where
  kind : Int
  s : ByteArray
  n : Int
  keep : List Int

def Op3.ok (a : Op3) : Prop := isI64 a.kind ∧ isI64 a.n

/-- Operations that came in. -/
def OpsAt (L : Lab) (w : World) (v : Value) (l : List Op3) : Prop :=
  ∃ A c, v = .slice A l.length c ∧ l.length ≤ 9223372036854775807 ∧ (∀ a ∈ l, a.ok) ∧ (0 < l.length → ∃ b off, A = some ⟨b, off, none⟩ ∧ L b = none ∧ b < w.heap.size ∧ ∀ j (hj : j < l.length), ∃ kv,
    w.cell? ⟨b, off + j * 4, none⟩ = some (.int .i64 l[j].kind) ∧ w.cell? ⟨b, off + j * 4 + 1, none⟩ = some (.string l[j].s) ∧ w.cell? ⟨b, off + j * 4 + 2, none⟩ = some (.int .i64 l[j].n) ∧
    w.cell? ⟨b, off + j * 4 + 3, none⟩ = some kv ∧ ArgI L w kv l[j].keep)

theorem OpsAt.keep {M : Nat × Role → Prop} {L L1 : Lab} {w w1 : World} {v : Value} {l : List Op3} (h : OpsAt L w v l) (hf : Fr M L w L1 w1) : OpsAt L1 w1 v l := by
  obtain ⟨A, c, rfl, hm, hok, h⟩ := h
  refine ⟨A, c, rfl, hm, hok, fun hl => ?_⟩
  obtain ⟨b, off, hA, hlb, hb, hc⟩ := h hl
  have hk : ∀ o, w1.cell? ⟨b, o, none⟩ = w.cell? ⟨b, o, none⟩ := fun o => World.cell?_of_block (a := ⟨b, o, none⟩) (hf.block b hb (fun t ht => by rw [hlb] at ht; cases ht))
  refine ⟨b, off, hA, (hf.lab b hb).trans hlb, Nat.lt_of_lt_of_le hb hf.size, fun j hj => ?_⟩
  obtain ⟨kv, c0, c1, c2, c3, ha⟩ := hc j hj
  exact ⟨kv, (hk _).trans c0, (hk _).trans c1, (hk _).trans c2, (hk _).trans c3, ha.keep hf⟩

def Op3.fit (a : Op3) : Bool := decide (a.s.size ≤ 200) && decide (a.keep.length ≤ 50)
def fewOB (l : List Op3) : Bool := l.all Op3.fit && decide (l.length ≤ 25)

theorem fitO_false {l : List Op3} {j : Nat} {a : Op3} (ha : l[j]? = some a) (h : a.fit = false) : fewOB l = false := by
  unfold fewOB
  rw [Bool.and_eq_false_iff]
  left
  rw [List.all_eq_false]
  exact ⟨a, List.mem_of_getElem? ha, by rw [h]; simp⟩

theorem fewOB_mem {l : List Op3} (h : fewOB l = true) : (∀ a ∈ l, a.s.size ≤ 200 ∧ a.keep.length ≤ 50) ∧ l.length ≤ 25 := by
  unfold fewOB at h
  simp only [Bool.and_eq_true, List.all_eq_true, decide_eq_true_eq, Op3.fit] at h
  exact h

set_option maxRecDepth 100000 in
set_option maxHeartbeats 1000000 in
theorem fewO_any {L : Lab} {w : World} {v : Value} {l : List Op3} (h : OpsAt L w v l) : Calls Try.prog 24 #[v] w fun e w' => e = .returned (.bool (fewOB l)) ∧ w = w' := by
  obtain ⟨A, c, rfl, hm, hok, h⟩ := h
  have HOK := Lib.hid hok
  clear hok
  go_enter Try.func24, Try.ntmps24
  go_wp2_with fail
  go_loop [3] (fun i => ∃ j : Nat, j ≤ l.length ∧ i = .int .i64 j ∧ Hid ((l.take j).all Op3.fit = true)) (fun i => l.length - (intOf i).toNat)
  case atStart => exact ⟨0, Nat.zero_le _, rfl, rfl⟩
  case round =>
    obtain ⟨j, hj, rfl, HA⟩ := hrel
    by_cases hlt : j < l.length
    · obtain ⟨b, off, rfl, hlb, hb, hc⟩ := h (by omega)
      obtain ⟨kv, c0, c1, c2, c3, ha⟩ := hc j hlt
      obtain ⟨a, hae⟩ : ∃ a, l[j] = a := ⟨_, rfl⟩
      rw [hae] at c0 c1 c2 ha
      have haj : l[j]? = some a := by rw [List.getElem?_eq_getElem hlt, hae]
      obtain ⟨KA, kc, rfl⟩ := argI_len ha
      have hsucc : Hid (a.fit = true → (l.take (j + 1)).all Op3.fit = true) := fun hf => by
        rw [List.take_succ_eq_append_getElem hlt, hae, List.all_append, HA.out]; simp [hf]
      have HJ := Lib.hid haj
      clear hae haj hc h
      by_cases h1 : 200 < a.s.size
      · have HF : Hid (a.fit = false) := show _ = _ by simp [Op3.fit]; omega
        go_wp2_with fail
        go_ret
        rw [fitO_false HJ.out HF.out]
        exact ⟨rfl, rfl⟩
      · by_cases h2 : 50 < a.keep.length
        · have HF : Hid (a.fit = false) := show _ = _ by simp [Op3.fit]; omega
          go_wp2_with fail
          go_ret
          rw [fitO_false HJ.out HF.out]
          exact ⟨rfl, rfl⟩
        · have HF : Hid (a.fit = true) := show _ = _ by simp [Op3.fit]; omega
          go_wp2_with fail
          go_round
          case rel => exact ⟨j + 1, by omega, by go_num, hsucc.out HF.out⟩
          case measure => simp [intOf]; omega
    · have hje : j = l.length := by omega
      subst hje
      rw [List.take_length] at HA
      have HF : Hid (fewOB l = decide (l.length ≤ 25)) := show _ = _ by unfold fewOB; rw [HA.out, Bool.true_and]
      go_wp2_with fail
      go_ret
      rw [HF.out]
      refine ⟨?_, rfl⟩
      congr 2
      simp
      omega

end Go.Proofs.Ytgocnjiabfmdpaa
