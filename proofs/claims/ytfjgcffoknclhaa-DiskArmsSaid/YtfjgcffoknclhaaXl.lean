/- DiskArms: what the plain state says of it. -/
import Derived.Test.YtfjgcffoknclhaaXb
namespace Go.Proofs.Ytfjgcffoknclhaa

/-- The state with another scheduled crash. -/
def St.with (s : St) (x : Int) (y : List Int) : St := { s with armed := x, keep := y }

theorem addSec_with (s : St) (x : Int) (y : List Int) (f n : Int) : (s.with x y).addSec f n = (s.addSec f n).with x y := by
  unfold St.addSec St.with
  split <;> rfl

theorem addSecs_with (s : St) (x : Int) (y : List Int) (f n : Int) (k : Nat) : (s.with x y).addSecs f n k = (s.addSecs f n k).with x y := by
  induction k generalizing s n with
  | zero => rfl
  | succ k ih => rw [St.addSecs, St.addSecs, addSec_with, ih]

theorem setls_with (s : St) (x : Int) (y : List Int) (l : List (Int × Int)) : (s.with x y).setls l = (s.setls l).with x y := by
  induction l generalizing s with
  | nil => rfl
  | cons p l ih => exact ih (s.setl p)

theorem crash_with (s : St) (x : Int) (y keep : List Int) (hd : s.down = false) : (s.with x y).crash keep = s.crash keep := by
  have h1 : ¬ s.down = true := by rw [hd]; simp
  have h2 : ¬ (s.with x y).down = true := h1
  unfold St.crash
  rw [if_neg h1, if_neg h2, setls_with]
  rfl

theorem wr_with (s : St) (x : Int) (y : List Int) (f a : Int) (t : List UInt8) : (s.with x y).wr f a t = ((s.wr f a t).1.with x y, (s.wr f a t).2) := by
  unfold St.wr
  rw [show (s.with x y).ready f = s.ready f from rfl]
  split
  · rfl
  split
  · rfl
  split
  · rfl
  split
  · rfl
  · rw [show (s.with x y).wrote f a t = (s.wrote f a t).with x y from rfl, addSecs_with]

theorem wr_rest (s : St) (f a : Int) (t : List UInt8) : (s.wr f a t).1.down = s.down ∧ (s.wr f a t).1.armed = s.armed ∧ (s.wr f a t).1.keep = s.keep := by
  unfold St.wr
  split
  · exact ⟨rfl, rfl, rfl⟩
  split
  · exact ⟨rfl, rfl, rfl⟩
  split
  · exact ⟨rfl, rfl, rfl⟩
  split
  · exact ⟨rfl, rfl, rfl⟩
  · obtain ⟨r1, r2, r3, r4, r5, r6⟩ := addSecs_rest (s.wrote f a t) f (a / 64) (St.secs a t)
    exact ⟨r3, r5, r6⟩

/-- Before the scheduled crash. -/
structure PhA (n : Int) (keep : List Int) (c : Int) (s u : St) : Prop where
  eq : s = u.with (n - c) keep
  armed : u.armed = 0
  down : u.down = false
  lt : c < n

/-- After it. -/
structure PhB (n c : Int) (s u : St) : Prop where
  now : s.now = u.now
  sd : s.down = true
  ud : u.down = true
  le : n ≤ c

theorem count_up {u : St} (x : Int) (keep : List Int) (hd : u.down = false) (hx : x ≠ 0) : (u.with x keep).count = u.with (x - 1) keep := by
  unfold St.count
  rw [if_neg]
  · rfl
  · rintro (h | h)
    · rw [show (u.with x keep).down = u.down from rfl, hd] at h; cases h
    · exact hx h

theorem hit_with {u : St} (x : Int) (keep : List Int) (hd : u.down = false) : (u.with x keep).hit = (x == 1) := by
  unfold St.hit
  rw [show (u.with x keep).down = u.down from rfl, hd]
  rfl

theorem count_none {u : St} (ha : u.armed = 0) : u.count = u := by unfold St.count; rw [if_pos (Or.inr ha)]
theorem hit_none {u : St} (ha : u.armed = 0) : u.hit = false := by simp [St.hit, ha]

theorem phA_lose {n : Int} {keep : List Int} {c : Int} {s u : St} (h : PhA n keep c s u) {a : Ac} (ha : a.act % 8 = 4) : (s.act a).2 = (u.act a).2 ∧ PhA n keep c (s.act a).1 (u.act a).1 := by
  unfold St.act
  have h2 : ¬ a.act % 8 = 2 := by omega
  have h3 : ¬ a.act % 8 = 3 := by omega
  rw [if_neg h2, if_neg h3, if_pos ha, if_neg h2, if_neg h3, if_pos ha]
  refine ⟨rfl, ?_, h.armed, h.down, h.lt⟩
  rw [h.eq]
  rfl

theorem phA_step {n : Int} {keep : List Int} {c : Int} {s u : St} (h : PhA n keep c s u) {a : Ac} (ha : a.act % 8 < 4) (hc : c + 1 < n) : (s.act a).2 = (u.act a).2 ∧ PhA n keep (c + 1) (s.act a).1 (u.act a).1 := by
  have hh : s.hit = false := by rw [h.eq, hit_with _ _ h.down]; simp; omega
  have hs : s.count = u.with (n - (c + 1)) keep := by rw [h.eq, count_up _ _ h.down (by omega)]; congr 1; omega
  have hu := hit_none h.armed
  have hcu := count_none h.armed
  unfold St.act
  by_cases h2 : a.act % 8 = 2
  · rw [if_pos h2, if_pos h2]
    unfold St.sync
    rw [hh, hu, if_neg Bool.false_ne_true, if_neg Bool.false_ne_true, hs, hcu, show (u.with (n - (c + 1)) keep).ready a.f = u.ready a.f from rfl, show s.lost = u.lost by rw [h.eq]; rfl]
    split
    · exact ⟨rfl, rfl, h.armed, h.down, hc⟩
    split
    · exact ⟨rfl, rfl, h.armed, h.down, hc⟩
    · exact ⟨rfl, rfl, h.armed, h.down, hc⟩
  · rw [if_neg h2, if_neg h2]
    by_cases h3 : a.act % 8 = 3
    · rw [if_pos h3, if_pos h3]
      unfold St.trunc
      rw [hh, hu, if_neg Bool.false_ne_true, if_neg Bool.false_ne_true, hs, hcu, show (u.with (n - (c + 1)) keep).ready a.f = u.ready a.f from rfl, show s.now = u.now by rw [h.eq]; rfl]
      split
      · exact ⟨rfl, rfl, h.armed, h.down, hc⟩
      split
      · exact ⟨rfl, rfl, h.armed, h.down, hc⟩
      · exact ⟨rfl, rfl, h.armed, h.down, hc⟩
    · rw [if_neg h3, if_neg h3]
      have h4 : ¬ a.act % 8 = 4 := by omega
      have h5 : ¬ a.act % 8 = 5 := by omega
      have h6 : ¬ a.act % 8 = 6 := by omega
      have h7 : ¬ a.act % 8 = 7 := by omega
      rw [if_neg h4, if_neg h5, if_neg h6, if_neg h7, if_neg h4, if_neg h5, if_neg h6, if_neg h7]
      unfold St.write
      rw [hh, hu, if_neg Bool.false_ne_true, if_neg Bool.false_ne_true, hs, hcu, wr_with]
      obtain ⟨r1, r2, r3⟩ := wr_rest u a.f a.n a.s.data.toList
      exact ⟨rfl, rfl, r2.trans h.armed, r1.trans h.down, hc⟩

theorem crash_down (s : St) (keep : List Int) : (s.crash keep).down = true := by
  unfold St.crash
  split
  · rename_i h; exact h
  · rfl

/-- The call in which it happens. -/
theorem phA_hit {n : Int} {keep : List Int} {c : Int} {s u : St} (h : PhA n keep c s u) {a : Ac} (ha : a.act % 8 < 4) (hc : c + 1 = n) :
    (s.act a).2 = 8 ∧ (a.act % 8 < 2 → PhB n n (s.act a).1 ((u.act a).1.crash keep)) ∧ (¬ a.act % 8 < 2 → PhB n n (s.act a).1 (u.crash keep)) := by
  have hh : s.hit = true := by rw [h.eq, hit_with _ _ h.down]; simp; omega
  have hs : s.count = u.with 0 keep := by rw [h.eq, count_up _ _ h.down (by omega)]; congr 1; omega
  have hk : s.keep = keep := by rw [h.eq]; rfl
  have hu := hit_none h.armed
  have hcu := count_none h.armed
  have hcr := crash_with u 0 keep keep h.down
  unfold St.act
  by_cases h2 : a.act % 8 = 2
  · rw [if_pos h2, if_pos h2]
    unfold St.sync
    rw [hh, if_pos rfl, hs, hk, hcr]
    exact ⟨rfl, fun _ => by omega, fun _ => ⟨rfl, crash_down _ _, crash_down _ _, Int.le_refl _⟩⟩
  · rw [if_neg h2, if_neg h2]
    by_cases h3 : a.act % 8 = 3
    · rw [if_pos h3, if_pos h3]
      unfold St.trunc
      rw [hh, if_pos rfl, hs, hk, hcr]
      exact ⟨rfl, fun _ => by omega, fun _ => ⟨rfl, crash_down _ _, crash_down _ _, Int.le_refl _⟩⟩
    · rw [if_neg h3, if_neg h3]
      have h4 : ¬ a.act % 8 = 4 := by omega
      have h5 : ¬ a.act % 8 = 5 := by omega
      have h6 : ¬ a.act % 8 = 6 := by omega
      have h7 : ¬ a.act % 8 = 7 := by omega
      rw [if_neg h4, if_neg h5, if_neg h6, if_neg h7, if_neg h4, if_neg h5, if_neg h6, if_neg h7]
      unfold St.write
      rw [hh, hu, if_pos rfl, if_neg Bool.false_ne_true, hs, hcu, wr_with]
      obtain ⟨r1, r2, r3⟩ := wr_rest u a.f a.n a.s.data.toList
      refine ⟨rfl, fun _ => ⟨?_, crash_down _ _, crash_down _ _, Int.le_refl _⟩, fun _ => by omega⟩
      show (((u.wr a.f a.n a.s.data.toList).1.with 0 keep).crash keep).now = _
      rw [crash_with _ _ _ _ (r1.trans h.down)]

/-- A call of a machine that is down. -/
theorem phB_step {n c c' : Int} {s u : St} (h : PhB n c s u) {a : Ac} (ha : a.act % 8 < 5) (hc : c ≤ c') : (a.act % 8 < 4 → (s.act a).2 = 8) ∧ PhB n c' (s.act a).1 u := by
  have hh : s.hit = false := by simp [St.hit, h.sd]
  have hs : s.count = s := by unfold St.count; rw [if_pos (Or.inl h.sd)]
  have hr : ∀ f, s.ready f = 8 := fun f => by unfold St.ready; rw [if_pos h.sd]
  have hle := h.le
  unfold St.act
  split
  · unfold St.sync
    rw [hh, if_neg Bool.false_ne_true, hs, if_pos (by rw [hr]; omega)]
    exact ⟨fun _ => hr _, h.now, h.sd, h.ud, by omega⟩
  split
  · unfold St.trunc
    rw [hh, if_neg Bool.false_ne_true, hs, if_pos (by rw [hr]; omega)]
    exact ⟨fun _ => hr _, h.now, h.sd, h.ud, by omega⟩
  split
  · exact ⟨fun _ => by omega, h.now, h.sd, h.ud, by omega⟩
  split
  · omega
  split
  · omega
  split
  · omega
  · unfold St.write
    rw [hh, if_neg Bool.false_ne_true, hs]
    unfold St.wr
    rw [if_pos (by rw [hr]; omega)]
    exact ⟨fun _ => hr _, h.now, h.sd, h.ud, by omega⟩

theorem phA_new {n : Int} {keep : List Int} (hn : 1 ≤ n) : PhA n keep 0 (St.new.arm n keep) St.new := by
  refine ⟨?_, rfl, rfl, by omega⟩
  unfold St.arm St.with
  congr 1
  omega

end Go.Proofs.Ytfjgcffoknclhaa
