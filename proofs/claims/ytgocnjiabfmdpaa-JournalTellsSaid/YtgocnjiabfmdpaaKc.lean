/- Appending on a machine that is up; a file of which bytes are missing or 0. -/
import Derived.Test.YtgocnjiabfmdpaaKb
namespace Go.Proofs.Ytgocnjiabfmdpaa
set_option maxRecDepth 8000
open Go.RowKit Wire

theorem putL_end (b t : List UInt8) : putL b b.length t = b ++ t := by
  unfold putL
  have e : b.length + t.length - b.length = t.length := by omega
  rw [e, List.take_left', List.drop_of_length_le (by simp), List.append_nil]
  rfl

theorem calm_write2 {s : St} (h : Calm s) {f : Int} (hf : isFile f = true) {a : Nat} {t : List UInt8} (hc : a + t.length ≤ 16777216) : ∃ s', s.write f (a : Nat) t = (s', 0) ∧ Calm s' ∧ s'.now f = (if t = [] then s.now f else putL (s.now f) a t) ∧ s'.dur = s.dur ∧ ∀ g, g ≠ f → s'.now g = s.now g := by
  obtain ⟨s', h1, h2, h3, h4⟩ := h.write hf hc
  refine ⟨s', h1, h2, h3, h4, fun g hg => ?_⟩
  unfold St.write at h1
  rw [h.hit, h.count, if_neg (by simp)] at h1
  unfold St.wr at h1
  rw [if_neg (by rw [h.ready hf]; simp), if_neg (by omega), if_neg (by omega)] at h1
  by_cases ht : t = []
  · rw [if_pos ht] at h1
    injection h1 with h1
    rw [← h1]
  · rw [if_neg ht] at h1
    injection h1 with h1
    rw [← h1, (addSecs_rest (s.wrote f a t) f (a / 64) (St.secs a t)).1]
    exact upd_ne _ _ hg

theorem calm_open2 {s : St} (h : Calm s) {f : Int} (hf : isFile f = true) : ∃ s', jopen s f = ((s', some (jrecs (s.now f))), 0) ∧ Calm s' ∧ s'.now f = jforms (jrecs (s.now f)) ∧ s'.dur f = s'.now f ∧ ∀ g, g ≠ f → s'.now g = s.now g := by
  obtain ⟨s', h1, h2, h3, h4⟩ := calm_open h hf
  refine ⟨s', h1, h2, h3, h4, fun g hg => ?_⟩
  have hsy := h.sync hf
  by_cases hc : (jforms (jrecs (s.now f))).length < (s.now f).length
  · have ht := (h.synced f).trunc hf (n := (jforms (jrecs (s.now f))).length) (by have := recs_len (s.now f); show _ ≤ (s.now f).length; omega)
    have := jopen_cut (r := ((s.synced f).cut f (jforms (jrecs (s.now f))).length, 0)) hf hsy hc ht rfl
    rw [h1] at this
    injection this with this _
    injection this with this _
    rw [this]
    exact upd_ne _ _ hg
  · have := jopen_whole hf hsy hc
    rw [h1] at this
    injection this with this _
    injection this with this _
    rw [this]
    rfl

theorem calm_app {s : St} (h : Calm s) {f : Int} (hf : isFile f = true) {a : List (List UInt8)} {v : List UInt8} (hn : s.now f = jforms a) (hv : v.length ≤ 20000) (hl : (jforms a).length + (jform v).length ≤ 1048576) :
    ∃ s', japp s f a false v = ((s', a ++ [v], false), 0) ∧ Calm s' ∧ s'.now f = jforms (a ++ [v]) ∧ s'.dur = s.dur ∧ ∀ g, g ≠ f → s'.now g = s.now g := by
  obtain ⟨s', h1, h2, h3, h4, h5⟩ := calm_write2 h hf (a := (jforms a).length) (t := jform v) (by omega)
  refine ⟨s', japp_ok (by omega) (by omega) h1 rfl, h2, ?_, h4, h5⟩
  have hne : jform v ≠ [] := fun e => by have := jform_len v; rw [e] at this; simp at this
  rw [h3, if_neg hne, hn, putL_end, jforms_snoc]

/-- Exactly those records are found whose forms are whole. -/
theorem torn_exact {t : List UInt8} {l : List (List UInt8)} (hu : Under t (jforms l)) (hl : ∀ v ∈ l, v.length ≤ 4000) {k : Nat} (ht : t.take (jforms (l.take k)).length = jforms (l.take k))
    (hend : k = l.length ∨ ¬ t.take (jforms (l.take (k + 1))).length = jforms (l.take (k + 1))) : jrecs t = l.take k := by
  have e : t = jforms (l.take k) ++ t.drop (jforms (l.take k)).length := by
    conv => lhs; rw [← List.take_append_drop (jforms (l.take k)).length t, ht]
  obtain ⟨x, hx⟩ : ∃ x, x = t.drop (jforms (l.take k)).length := ⟨_, rfl⟩
  rw [← hx] at e
  have hs : ∀ v ∈ l.take k, v.length ≤ 20000 := fun v hv => by have := hl v (List.mem_of_mem_take hv); omega
  rw [e, jrecs_forms hs]
  have hsplit : l = l.take k ++ l.drop k := (List.take_append_drop k l).symm
  have hu2 : Under x (jforms (l.drop k)) := by
    rw [e] at hu
    rw [hsplit, jforms_append] at hu
    rw [List.take_append_drop] at hu
    exact (hu.split rfl).2
  cases hst : step x with
  | none => rw [jrecs_none hst, List.append_nil]
  | some q =>
    obtain ⟨v', r'⟩ := q
    exfalso
    rcases Nat.lt_or_ge k l.length with hlt | hge
    · have hd : l.drop k = l[k] :: l.drop (k + 1) := List.drop_eq_getElem_cons hlt
      rw [hd, jforms_cons] at hu2
      obtain ⟨rfl, e2, _⟩ := torn_step hu2 (hl _ (List.getElem_mem hlt)) hst
      rcases hend with h | h
      · omega
      · apply h
        rw [List.take_succ_eq_append_getElem hlt, jforms_snoc, e, e2, ← List.append_assoc]
        exact List.take_left' (by simp)
    · rw [List.drop_eq_nil_of_le hge] at hu2
      have := hu2.len
      have hx0 : x = [] := List.eq_nil_of_length_eq_zero (by simpa [jforms] using this)
      rw [hx0, step_nil] at hst
      cases hst

theorem Under.take {t s : List UInt8} (h : Under t s) (n : Nat) : Under (t.take n) s := by
  refine Under.of (by have := h.len; rw [List.length_take]; omega) (fun i hi => ?_)
  rw [List.length_take] at hi
  rw [getD_take, if_pos (by omega)]
  exact h.get i

end Go.Proofs.Ytgocnjiabfmdpaa
