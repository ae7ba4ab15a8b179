/- What a crash leaves of a journal's file: the records of it are a beginning of those that were there. Plain. -/
import Derived.Test.YtgocnjiabfmdpaaKc
import Derived.Test.YtgocnjiabfmdpaaDXd
namespace Go.Proofs.Ytgocnjiabfmdpaa
set_option maxRecDepth 8000

/-- What is left of a file after a crash. -/
def St.left (s : St) (keep : List Int) (f : Int) : List UInt8 := (s.setls (chosen keep 0 s.pend)).dur f

theorem left_bytes {s : St} (hi : Inv s) (f : Int) (keep : List Int) : (s.dur f).length ≤ (s.left keep f).length ∧ (s.left keep f).length ≤ (s.now f).length ∧
    ∀ i, i < (s.left keep f).length → (s.left keep f).getD i 0 = (s.now f).getD i 0 ∨ (s.left keep f).getD i 0 = (s.dur f).getD i 0 := by
  obtain ⟨d1, d2, d3, d4⟩ := setls_dur hi (l := chosen keep 0 s.pend) (fun p hp => hi.pending p (mem_chosen hp)) f
  refine ⟨d2, d3, fun i hl => ?_⟩
  have hl' : i < (s.now f).length := Nat.lt_of_lt_of_le hl d3
  by_cases hm : (f, ((i / 64 : Nat) : Int)) ∈ chosen keep 0 s.pend
  · left
    unfold St.left
    rw [d1, if_pos ⟨hm, hl'⟩]
  · right
    unfold St.left
    rw [d1, if_neg (fun hh => hm hh.1)]

abbrev Recs := List (List UInt8)

structure Held (s : St) (f : Int) (sure all : Recs) : Prop where
  under : Under (s.now f) (jforms all)
  durs : Under (s.dur f) (jforms all)
  ext : ∃ r, all = sure ++ r
  pre : (s.now f).take (jforms sure).length = jforms sure
  durp : (s.dur f).take (jforms sure).length = jforms sure

theorem Under.append {t s : List UInt8} (h : Under t s) (x : List UInt8) : Under t (s ++ x) := by
  have hl := h.len
  refine Under.of (by rw [List.length_append]; omega) (fun i hi => ?_)
  rcases h.get i with h1 | h1
  · left
    rw [h1, List.getD_eq_getElem?_getD, List.getD_eq_getElem?_getD, List.getElem?_append_left (by omega)]
  · exact Or.inr h1

theorem take_getD {a p : List UInt8} (h : a.take p.length = p) {i : Nat} (hi : i < p.length) : a.getD i 0 = p.getD i 0 := by
  have e : (a.take p.length).getD i 0 = p.getD i 0 := by rw [h]
  rw [getD_take, if_pos hi] at e
  exact e

theorem take_len {a p : List UInt8} (h : a.take p.length = p) : p.length ≤ a.length := by
  have := congrArg List.length h; rw [List.length_take] at this; omega

theorem take_of {a p : List UInt8} (hl : p.length ≤ a.length) (h : ∀ i, i < p.length → a.getD i 0 = p.getD i 0) : a.take p.length = p := by
  refine ext_getD (by rw [List.length_take]; omega) (fun i hi => ?_)
  rw [List.length_take] at hi
  rw [getD_take, if_pos (by omega)]
  exact h i (by omega)

section
variable {s s' : St} {f : Int} {sure all : Recs}

theorem Held.cong (h : Held s f sure all) (hn : s'.now f = s.now f) (hd : s'.dur f = s.dur f) : Held s' f sure all :=
  ⟨by rw [hn]; exact h.under, by rw [hd]; exact h.durs, h.ext, by rw [hn]; exact h.pre, by rw [hd]; exact h.durp⟩

theorem Held.more (h : Held s f sure all) (v : List UInt8) : Held s f sure (all ++ [v]) := by
  obtain ⟨r, hr⟩ := h.ext
  refine ⟨by rw [jforms_snoc]; exact h.under.append _, by rw [jforms_snoc]; exact h.durs.append _, ⟨r ++ [v], by rw [hr, List.append_assoc]⟩, h.pre, h.durp⟩

/-- The file is what it was when it was synced. -/
theorem Held.exact (hn : s.now f = jforms all) (hd : s.dur f = jforms all) : Held s f all all :=
  ⟨by rw [hn]; exact Under.refl _, by rw [hd]; exact Under.refl _, ⟨[], by simp⟩, by rw [hn, List.take_length], by rw [hd, List.take_length]⟩

theorem Held.new (f : Int) : Held St.new f [] [] := Held.exact rfl rfl

theorem Held.crash (h : Held s f sure all) (hi : Inv s) (keep : List Int) : Held (s.crash keep) f sure all := by
  unfold St.crash
  split
  · exact h
  · obtain ⟨l1, l2, l3⟩ := left_bytes hi f keep
    have hu : Under (s.left keep f) (jforms all) := by
      refine Under.of (by have := h.under.len; omega) (fun i hi => ?_)
      rcases l3 i hi with e | e
      · rw [e]; exact h.under.get i
      · rw [e]; exact h.durs.get i
    have hp : (s.left keep f).take (jforms sure).length = jforms sure := by
      have := take_len h.durp
      refine take_of (by omega) (fun i hi => ?_)
      rcases l3 i (by omega) with e | e
      · rw [e]; exact take_getD h.pre hi
      · rw [e]; exact take_getD h.durp hi
    exact ⟨hu, hu, h.ext, hp, hp⟩

theorem count_rest' (s : St) : s.count.now = s.now ∧ s.count.dur = s.dur ∧ s.count.down = s.down ∧ s.count.lost = s.lost ∧ s.count.keep = s.keep ∧ s.count.pend = s.pend ∧ s.count.sec = s.sec := by
  unfold St.count; split <;> exact ⟨rfl, rfl, rfl, rfl, rfl, rfl, rfl⟩

theorem Held.counted (h : Held s f sure all) : Held s.count f sure all := h.cong (by rw [(count_rest' s).1]) (by rw [(count_rest' s).2.1])

theorem forms_pre (h : ∃ r, all = sure ++ r) : (jforms all).take (jforms sure).length = jforms sure := by
  obtain ⟨r, rfl⟩ := h
  rw [jforms_append, List.take_left']
  rfl

/-- A write at the end of the list. -/
theorem wr_end (hd : s.down = false) (hf : isFile f = true) (hn : s.now f = jforms all) (v : List UInt8) (hc : (jforms all).length + (jform v).length ≤ 16777216) :
    ∃ s', s.wr f ((jforms all).length : Nat) (jform v) = (s', 0) ∧ s'.now f = jforms (all ++ [v]) ∧ s'.dur = s.dur ∧ s'.down = false ∧ s'.armed = s.armed ∧ s'.lost = s.lost := by
  have hne : jform v ≠ [] := fun e => by have := jform_len v; rw [e] at this; simp at this
  unfold St.wr
  rw [if_neg (by rw [ready_up hd hf]; simp), if_neg (by omega), if_neg (by omega), if_neg hne]
  obtain ⟨a1, a2, a3, a4, a5, a6⟩ := addSecs_rest (s.wrote f ((jforms all).length : Nat) (jform v)) f (((jforms all).length : Nat) / 64) (St.secs ((jforms all).length : Nat) (jform v))
  refine ⟨_, rfl, ?_, a2, a3.trans hd, a5, a4⟩
  rw [a1]
  show upd s.now f (putL (s.now f) (((jforms all).length : Nat) : Int).toNat (jform v)) f = _
  rw [upd_same, Int.toNat_natCast, hn, putL_end, jforms_snoc]

theorem Held.wrote (h : Held s f sure all) {v : List UInt8} (hn : s'.now f = jforms (all ++ [v])) (hd : s'.dur = s.dur) : Held s' f sure (all ++ [v]) := by
  have m := h.more v
  refine ⟨by rw [hn]; exact Under.refl _, by rw [hd]; exact m.durs, m.ext, by rw [hn]; exact forms_pre m.ext, by rw [hd]; exact m.durp⟩

/-- Append to a journal that has not failed. -/
theorem app_held (hi : Inv s) (h : Held s f sure all) (hd : s.down = false) (hn : s.now f = jforms all) (hf : isFile f = true) {v : List UInt8} (hv : v.length ≤ 20000) (hc : (jforms all).length + (jform v).length ≤ 1048576) :
    (∃ s', japp s f all false v = ((s', all ++ [v], false), 0) ∧ Inv s' ∧ s'.down = false ∧ s'.now f = jforms (all ++ [v]) ∧ Held s' f sure (all ++ [v]) ∧ (s.armed = 0 → s'.armed = 0)) ∨
    (∃ s', japp s f all false v = ((s', all, true), 8) ∧ Inv s' ∧ Held s' f sure (all ++ [v]) ∧ s.armed ≠ 0) := by
  obtain ⟨c1, c2, c3, c4, c5, c6, c7⟩ := count_rest' s
  obtain ⟨s1, w1, w2, w3, w4, w5, w6⟩ := wr_end (s := s.count) (v := v) (by rw [c3]; exact hd) hf (by rw [c1]; exact hn) (by omega)
  have hi1 : Inv (s.write f ((jforms all).length : Nat) (jform v)).1 := hi.write _ _ _
  by_cases hh : s.hit = true
  · right
    have hw : s.write f ((jforms all).length : Nat) (jform v) = (s1.crash s1.keep, 8) := by unfold St.write; rw [if_pos hh, w1]
    rw [hw] at hi1
    have his : Inv s1 := by have := hi.count.wr f ((jforms all).length : Nat) (jform v); rw [w1] at this; exact this
    have ha : s.armed ≠ 0 := fun e => by unfold St.hit at hh; rw [e] at hh; simp at hh
    exact ⟨_, japp_fail (by omega) (by omega) hw (by simp), hi1, (h.counted.wrote w2 w3).crash his _, ha⟩
  · left
    have hw : s.write f ((jforms all).length : Nat) (jform v) = (s1, 0) := by unfold St.write; rw [if_neg hh, w1]
    rw [hw] at hi1
    exact ⟨_, japp_ok (by omega) (by omega) hw rfl, hi1, w4, w2, h.counted.wrote w2 w3, fun ha => by rw [w5, count_zero ha, ha]⟩

theorem synced_rest (s : St) (f : Int) : (s.synced f).now = s.now ∧ (s.synced f).dur = upd s.dur f (s.now f) ∧ (s.synced f).down = s.down ∧ (s.synced f).armed = s.armed ∧ (s.synced f).lost = s.lost := ⟨rfl, rfl, rfl, rfl, rfl⟩

/-- Sync of a machine that is up. -/
theorem sync_held (hi : Inv s) (h : Held s f sure all) (hd : s.down = false) (hf : isFile f = true) :
    (∃ s', s.sync f = (s', 0) ∧ Inv s' ∧ s'.down = false ∧ s'.now f = s.now f ∧ s'.dur f = s.now f ∧ Held s' f sure all ∧ (s.armed = 0 → s'.armed = 0)) ∨
    (∃ s' e, s.sync f = (s', e) ∧ (e = 8 ∧ s.armed ≠ 0 ∨ e = 9 ∧ s.lost > 0 ∧ s'.down = false ∧ (s.armed = 0 → s'.armed = 0)) ∧ Inv s' ∧ Held s' f sure all) := by
  obtain ⟨c1, c2, c3, c4, c5, c6, c7⟩ := count_rest' s
  have hi1 : Inv (s.sync f).1 := hi.sync f
  by_cases hh : s.hit = true
  · right
    have hw : s.sync f = (s.count.crash s.keep, 8) := by unfold St.sync; rw [if_pos hh]
    rw [hw] at hi1
    have ha : s.armed ≠ 0 := fun e => by unfold St.hit at hh; rw [e] at hh; simp at hh
    exact ⟨_, _, hw, Or.inl ⟨rfl, ha⟩, hi1, h.counted.crash hi.count _⟩
  · have hr : s.count.ready f = 0 := ready_up (by rw [c3]; exact hd) hf
    by_cases hl : s.lost > 0
    · right
      have hw : s.sync f = ({ s.count with lost := s.lost - 1 }, 9) := by unfold St.sync; rw [if_neg hh, if_neg (by rw [hr]; simp), if_pos hl]
      rw [hw] at hi1
      exact ⟨_, _, hw, Or.inr ⟨rfl, hl, by show s.count.down = false; rw [c3]; exact hd, fun ha => by show s.count.armed = 0; rw [count_zero ha, ha]⟩, hi1, h.counted.cong rfl rfl⟩
    · left
      have hw : s.sync f = (s.count.synced f, 0) := by unfold St.sync; rw [if_neg hh, if_neg (by rw [hr]; simp), if_neg hl]
      rw [hw] at hi1
      have hn : (s.count.synced f).now f = s.now f := by show s.count.now f = _; rw [c1]
      have hdu : (s.count.synced f).dur f = s.now f := by show upd s.count.dur f (s.count.now f) f = _; rw [upd_same, c1]
      exact ⟨_, hw, hi1, by show s.count.down = false; rw [c3]; exact hd, hn, hdu, ⟨by rw [hn]; exact h.under, by rw [hdu]; exact h.under, h.ext, by rw [hn]; exact h.pre, by rw [hdu]; exact h.pre⟩, fun ha => by show s.count.armed = 0; rw [count_zero ha, ha]⟩

/-- The records of such a file. -/
theorem held_recs (h : Held s f sure all) (hl : ∀ v ∈ all, v.length ≤ 4000) : (∃ k, k ≤ all.length ∧ jrecs (s.now f) = all.take k) ∧ ∃ r, jrecs (s.now f) = sure ++ r := by
  refine ⟨torn_recs h.under hl, ?_⟩
  have e : s.now f = jforms sure ++ (s.now f).drop (jforms sure).length := by
    conv => lhs; rw [← List.take_append_drop (jforms sure).length (s.now f), h.pre]
  obtain ⟨r, hr⟩ := h.ext
  rw [e, jrecs_forms (fun v hv => by have := hl v (by rw [hr]; simp [hv]); omega)]
  exact ⟨_, rfl⟩

/-- Opening on a machine that is up. -/
theorem open_held (hi : Inv s) (h : Held s f sure all) (hd : s.down = false) (hf : isFile f = true) (hl : ∀ v ∈ all, v.length ≤ 4000) :
    (∃ s' a, jopen s f = ((s', some a), 0) ∧ Inv s' ∧ s'.down = false ∧ s'.now f = jforms a ∧ Held s' f a a ∧ (∃ k, k ≤ all.length ∧ a = all.take k) ∧ (∃ r, a = sure ++ r) ∧ (s.armed = 0 → s'.armed = 0)) ∨
    (∃ s' e, jopen s f = ((s', none), e) ∧ (e = 8 ∧ s.armed ≠ 0 ∨ e = 9 ∧ s.lost > 0 ∧ s'.down = false ∧ (s.armed = 0 → s'.armed = 0)) ∧ Inv s' ∧ Held s' f sure all) := by
  rcases sync_held hi h hd hf with ⟨s1, y1, y2, y3, y4, y5, y6, y7⟩ | ⟨s1, e, y1, y2, y3, y4⟩
  · obtain ⟨r1, r2⟩ := held_recs y6 hl
    have hsp := recs_len (s1.now f)
    obtain ⟨c1, c2, c3, c4, c5, c6, c7⟩ := count_rest' s1
    by_cases hc : (jforms (jrecs (s1.now f))).length < (s1.now f).length
    · have hi2 : Inv (s1.trunc f (jforms (jrecs (s1.now f))).length).1 := y2.trunc f _
      by_cases hh : s1.hit = true
      · right
        have hw : s1.trunc f (jforms (jrecs (s1.now f))).length = (s1.count.crash s1.keep, 8) := by unfold St.trunc; rw [if_pos hh]
        rw [hw] at hi2
        have ha : s.armed ≠ 0 := fun e => by have := y7 e; unfold St.hit at hh; rw [this] at hh; simp at hh
        exact ⟨_, _, jopen_fail hf y1 hc hw (by simp), Or.inl ⟨rfl, ha⟩, hi2, y6.counted.crash y2.count _⟩
      · left
        have hr : s1.count.ready f = 0 := ready_up (by rw [c3]; exact y3) hf
        have hw : s1.trunc f (jforms (jrecs (s1.now f))).length = (s1.count.cut f (jforms (jrecs (s1.now f))).length, 0) := by
          unfold St.trunc; rw [if_neg hh, if_neg (by rw [hr]; simp), if_neg (by omega), Int.toNat_natCast]
        rw [hw] at hi2
        have hn : (s1.count.cut f (jforms (jrecs (s1.now f))).length).now f = jforms (jrecs (s1.now f)) := by
          show upd _ f _ f = _; rw [upd_same, c1, recs_take]
        have hdu : (s1.count.cut f (jforms (jrecs (s1.now f))).length).dur f = jforms (jrecs (s1.now f)) := by
          show upd _ f _ f = _; rw [upd_same, c1, recs_take]
        exact ⟨_, _, jopen_cut hf y1 hc hw rfl, hi2, by show s1.count.down = false; rw [c3]; exact y3, hn, Held.exact hn hdu, r1, r2, fun ha => by show s1.count.armed = 0; rw [count_zero (y7 ha), y7 ha]⟩
    · left
      have hz : jrest (s1.now f) = [] := List.eq_nil_of_length_eq_zero (by omega)
      have e := recs_split (s1.now f)
      rw [hz, List.append_nil] at e
      exact ⟨_, _, jopen_whole hf y1 hc, y2, y3, e, Held.exact e (by rw [y5, ← y4]; exact e), r1, r2, y7⟩
  · right
    refine ⟨s1, e, ?_, y2, y3, y4⟩
    refine jopen_sync hf y1 ?_
    rcases y2 with ⟨rfl, _⟩ | ⟨rfl, _⟩ <;> simp

end

end Go.Proofs.Ytgocnjiabfmdpaa
