/- DiskSynced: what the plain state says of it. -/
import Derived.Test.YtgocnjiabfmdpaaDXb
import Derived.Test.YtgocnjiabfmdpaaDXd
namespace Go.Proofs.Ytgocnjiabfmdpaa
set_option maxRecDepth 8000

/-- The file is durable as it is. -/
structure Safe (f : Int) (x : List UInt8) (s : St) : Prop where
  now : s.now f = x
  dur : s.dur f = x
  sec : ∀ n, s.sec f n = false

theorem setls_other {s : St} {f : Int} {l : List (Int × Int)} (h : ∀ p ∈ l, p.1 ≠ f) : (s.setls l).dur f = s.dur f := by
  induction l generalizing s with
  | nil => rfl
  | cons p l ih =>
    show ((s.setl p).setls l).dur f = _
    rw [ih (fun q hq => h q (by simp [hq]))]
    exact upd_ne _ _ (fun e => h p (by simp) e.symm)

theorem Safe.crash {f : Int} {x : List UInt8} {s : St} (h : Safe f x s) (hi : Inv s) (keep : List Int) : Safe f x (s.crash keep) := by
  unfold St.crash
  split
  · exact h
  · have hd : (s.setls (chosen keep 0 s.pend)).dur f = x := by
      rw [setls_other, h.dur]
      intro p hp e
      have := hi.pending p (mem_chosen hp)
      rw [e, h.sec] at this; cases this
    exact ⟨hd, hd, fun _ => rfl⟩

theorem Safe.count {f : Int} {x : List UInt8} {s : St} (h : Safe f x s) : Safe f x s.count := by
  unfold St.count
  split
  · exact h
  · exact ⟨h.now, h.dur, h.sec⟩

theorem Safe.wr {f : Int} {x : List UInt8} {s : St} (h : Safe f x s) {g : Int} (hg : g ≠ f) (a : Int) (t : List UInt8) : Safe f x (s.wr g a t).1 := by
  unfold St.wr
  split
  · exact h
  split
  · exact h
  split
  · exact h
  split
  · exact h
  · obtain ⟨r1, r2, _⟩ := addSecs_rest (s.wrote g a t) g (a / 64) (St.secs a t)
    refine ⟨?_, ?_, fun n => ?_⟩
    · show ((s.wrote g a t).addSecs g (a / 64) (St.secs a t)).now f = x
      rw [r1]
      exact (upd_ne _ _ (fun e => hg e.symm)).trans h.now
    · show ((s.wrote g a t).addSecs g (a / 64) (St.secs a t)).dur f = x
      rw [r2]
      exact h.dur
    · show ((s.wrote g a t).addSecs g (a / 64) (St.secs a t)).sec f n = false
      rw [addSecs_sec]
      have : (s.wrote g a t).sec f n = false := h.sec n
      rw [this]
      have hfg : ¬ f = g := fun e => hg e.symm
      simp [hfg]

theorem Safe.ofForget {f : Int} {x : List UInt8} {s : St} (h : Safe f x s) (g : Int) : Safe f x (s.forget g) := by
  refine ⟨h.now, h.dur, fun n => ?_⟩
  cases hb : (s.forget g).sec f n with
  | false => rfl
  | true =>
    have := ((forget_sec s g f n).1 hb).1
    rw [h.sec] at this; cases this

theorem Safe.act {f : Int} {x : List UInt8} {s : St} (h : Safe f x s) (hi : Inv s) {a : Ac} (ha : (a.act % 8 < 4 ∧ a.f ≠ f) ∨ a.act % 8 = 4) : Safe f x (s.act a).1 := by
  unfold St.act
  split
  · have hg : a.f ≠ f := by omega
    unfold St.sync
    split
    · exact h.count.crash hi.count _
    split
    · exact h.count
    split
    · exact ⟨h.count.now, h.count.dur, h.count.sec⟩
    · exact Safe.ofForget (s := { s.count with dur := upd s.count.dur a.f (s.count.now a.f) }) ⟨h.count.now, (upd_ne _ _ (fun e => hg e.symm)).trans h.count.dur, h.count.sec⟩ a.f
  split
  · have hg : a.f ≠ f := by omega
    unfold St.trunc
    split
    · exact h.count.crash hi.count _
    split
    · exact h.count
    split
    · exact h.count
    · exact Safe.ofForget (s := { s.count with now := upd s.count.now a.f ((s.count.now a.f).take a.n.toNat), dur := upd s.count.dur a.f ((s.count.now a.f).take a.n.toNat) })
        ⟨(upd_ne _ _ (fun e => hg e.symm)).trans h.count.now, (upd_ne _ _ (fun e => hg e.symm)).trans h.count.dur, h.count.sec⟩ a.f
  split
  · exact ⟨h.now, h.dur, h.sec⟩
  split
  · omega
  split
  · omega
  split
  · omega
  · have hg : a.f ≠ f := by omega
    unfold St.write
    split
    · exact (h.count.wr hg _ _).crash (hi.count.wr _ _ _) _
    · exact h.count.wr hg _ _

theorem read_whole {s : St} (hi : Inv s) {f : Int} (hd : s.down = false) (hf : isFile f = true) : s.read f 0 16777216 = (s.now f, 0) := by
  unfold St.read
  rw [if_neg (by rw [ready_up hd hf]; simp), if_neg (by omega), part_all _ _ (by have := hi.cap f; omega)]

theorem ready_nil {s : St} {f : Int} (h : s.ready f = 0) : s.down = false ∧ isFile f = true := by
  unfold St.ready at h
  split at h
  · omega
  · split at h
    · rename_i h1 h2; exact ⟨by simpa using h1, h2⟩
    · omega

theorem count_down (s : St) : s.count.down = s.down := by unfold St.count; split <;> rfl
theorem count_now (s : St) : s.count.now = s.now := by unfold St.count; split <;> rfl
theorem count_sec (s : St) : s.count.sec = s.sec := by unfold St.count; split <;> rfl

/-- A sync that is in order makes the file durable, and changes nothing that is read. -/
theorem sync_safe {s s1 : St} (hi : Inv s) {f : Int} (h : s.sync f = (s1, 0)) : isFile f = true ∧ s.read f 0 16777216 = (s.now f, 0) ∧ s1.read f 0 16777216 = (s.now f, 0) ∧ Safe f (s.now f) s1 ∧ Inv s1 := by
  have hi1 : Inv s1 := by have := hi.sync f; rw [h] at this; exact this
  unfold St.sync at h
  split at h
  · injection h with _ h; omega
  split at h
  · rename_i h1; injection h with _ h; exact absurd h h1
  rename_i h1
  split at h
  · injection h with _ h; omega
  · obtain ⟨hd, hf⟩ := ready_nil (s := s.count) (f := f) (by simpa using h1)
    injection h with h _
    have hn : s1.now f = s.now f := by rw [← h]; exact congrFun (count_now s) f
    refine ⟨hf, read_whole hi (by rw [← count_down]; exact hd) hf, ?_, ⟨hn, ?_, fun n => ?_⟩, hi1⟩
    · rw [read_whole hi1 (by rw [← h]; exact hd) hf, hn]
    · rw [← h]
      exact (upd_same _ _ _).trans (congrFun (count_now s) f)
    · cases hb : s1.sec f n with
      | false => rfl
      | true =>
        rw [← h] at hb
        exact absurd rfl ((forget_sec _ f f n).1 hb).2

theorem safe_read {s : St} {f : Int} {x : List UInt8} (h : Safe f x s) (hi : Inv s) (hf : isFile f = true) (keep : List Int) : ((s.crash keep).start).read f 0 16777216 = (x, 0) := by
  rw [read_whole (hi.crash keep).start rfl hf]
  exact congrArg (·, (0 : Int)) (h.crash hi keep).now

end Go.Proofs.Ytgocnjiabfmdpaa
