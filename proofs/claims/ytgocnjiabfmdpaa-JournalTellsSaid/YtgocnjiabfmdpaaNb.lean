/- What the laws of layer 3 keep from operation to operation: disk, journal, the records that may be there and those that are sure. Plain. -/
import Derived.Test.YtgocnjiabfmdpaaNa
import Derived.Test.YtgocnjiabfmdpaaKf
namespace Go.Proofs.Ytgocnjiabfmdpaa
set_option maxRecDepth 8000

def JOk (s : St) (f : Int) (n : Nat) (all : Recs) : Option (Recs × Bool) → Prop
  | none => True
  | some (a, false) => s.down = false ∧ s.now f = jforms a ∧ a = all
  | some (a, true) => a.length ≤ n ∧ ∀ v ∈ a, v.length ≤ 200

structure JInv (s : St) (f : Int) (n : Nat) (sure all : Recs) (o : Option (Recs × Bool)) : Prop where
  inv : Inv s
  held : Held s f sure all
  cnt : all.length ≤ n
  recs : ∀ v ∈ all, v.length ≤ 200
  jok : JOk s f n all o

def Up (s : St) : Prop := s.armed = 0 ∧ s.down = false

section
variable {s : St} {f : Int} {n : Nat} {sure all : Recs} {o : Option (Recs × Bool)}

theorem JInv.small {a : Recs} {b : Bool} (h : JInv s f n sure all (some (a, b))) : a.length ≤ n ∧ ∀ v ∈ a, v.length ≤ 200 := by
  have hj := h.jok
  cases b with
  | true => exact hj
  | false =>
    obtain ⟨_, _, rfl⟩ := hj
    exact ⟨h.cnt, h.recs⟩

theorem JInv.bytes {a : Recs} {b : Bool} (h : JInv s f n sure all (some (a, b))) (hn : n ≤ 100) : (jforms a).length ≤ 22000 := by
  obtain ⟨h1, h2⟩ := h.small
  have hb := jforms_bound (l := a) (m := 200) (by omega) h2
  have hb4 : (200 + 20) * a.length ≤ 220 * 100 := Nat.mul_le_mul (by omega) (by omega)
  omega

theorem JInv.mono (h : JInv s f n sure all o) {m : Nat} (hm : n ≤ m) : JInv s f m sure all o := by
  refine ⟨h.inv, h.held, Nat.le_trans h.cnt hm, h.recs, ?_⟩
  have hj := h.jok
  match o, hj with
  | none, _ => exact trivial
  | some (a, false), hj => exact hj
  | some (a, true), hj => exact ⟨Nat.le_trans hj.1 hm, hj.2⟩

theorem JInv.app {a : Recs} {b : Bool} (h : JInv s f n sure all (some (a, b))) (hf : isFile f = true) (hn : n ≤ 99) {v : List UInt8} (hv : v.length ≤ 200) :
    ∃ s' a' b' e all', japp s f a b v = ((s', a', b'), e) ∧ JInv s' f (n + 1) sure all' (some (a', b')) ∧ (Up s → Up s') ∧
      ((e = 7 ∧ b = true ∧ a' = a ∧ all' = all ∧ b' = true) ∨ (e = 0 ∧ b = false ∧ b' = false ∧ a' = a ++ [v] ∧ all' = all ++ [v]) ∨ (e = 8 ∧ b = false ∧ s.armed ≠ 0 ∧ a' = a ∧ b' = true ∧ all' = all ++ [v])) := by
  have hb := h.bytes (by omega)
  have hvl := jform_len_le v (by omega)
  have hrec : ∀ x ∈ all ++ [v], x.length ≤ 200 := fun x hx => by
    rcases List.mem_append.1 hx with hx | hx
    · exact h.recs x hx
    · simp at hx; rw [hx]; exact hv
  have hc := h.cnt
  cases b with
  | true =>
    exact ⟨s, a, true, 7, all, japp_bad _ _ _ _, h.mono (by omega), id, Or.inl ⟨rfl, rfl, rfl, rfl, rfl⟩⟩
  | false =>
    obtain ⟨j1, j2, rfl⟩ := h.jok
    rcases app_held h.inv h.held j1 j2 hf (v := v) (by omega) (by omega) with ⟨s', a1, a2, a3, a4, a5, a6⟩ | ⟨s', a1, a2, a3, a4⟩
    · exact ⟨s', _, false, 0, _, a1, ⟨a2, a5, by rw [List.length_append]; simp; omega, hrec, a3, a4, rfl⟩, fun hu => ⟨a6 hu.1, a3⟩, Or.inr (Or.inl ⟨rfl, rfl, rfl, rfl, rfl⟩)⟩
    · exact ⟨s', _, true, 8, _, a1, ⟨a2, a3, by rw [List.length_append]; simp; omega, hrec, by omega, h.recs⟩, fun hu => absurd hu.1 a4, Or.inr (Or.inr ⟨rfl, rfl, a4, rfl, rfl, rfl⟩)⟩

theorem JInv.syn {a : Recs} {b : Bool} (h : JInv s f n sure all (some (a, b))) (hf : isFile f = true) :
    ∃ s' b' e sure', jsync s f b = ((s', b'), e) ∧ JInv s' f n sure' all (some (a, b')) ∧ (Up s → Up s') ∧
      ((e = 7 ∧ b = true ∧ sure' = sure ∧ b' = true) ∨ (e = 0 ∧ b = false ∧ b' = false ∧ a = all ∧ sure' = all) ∨ ((e = 8 ∨ e = 9) ∧ b = false ∧ b' = true ∧ sure' = sure)) := by
  cases b with
  | true => exact ⟨s, true, 7, sure, by unfold jsync; rw [if_pos rfl], h, id, Or.inl ⟨rfl, rfl, rfl, rfl⟩⟩
  | false =>
    obtain ⟨j1, j2, rfl⟩ := h.jok
    rcases sync_held h.inv h.held j1 hf with ⟨s', a1, a2, a3, a4, a5, a6, a7⟩ | ⟨s', e, a1, a2, a3, a4⟩
    · exact ⟨s', false, 0, a, by unfold jsync; rw [if_neg (by simp), a1]; simp, ⟨a2, Held.exact (a4.trans j2) (a5.trans j2), h.cnt, h.recs, a3, a4.trans j2, rfl⟩, fun hu => ⟨a7 hu.1, a3⟩, Or.inr (Or.inl ⟨rfl, rfl, rfl, rfl, rfl⟩)⟩
    · refine ⟨s', true, e, sure, by unfold jsync; rw [if_neg (by simp), a1]; rcases a2 with ⟨rfl, _⟩ | ⟨rfl, _⟩ <;> simp, ⟨a3, a4, h.cnt, h.recs, h.cnt, h.recs⟩, fun hu => ?_, Or.inr (Or.inr ⟨?_, rfl, rfl, rfl⟩)⟩
      · rcases a2 with ⟨_, h0⟩ | ⟨_, _, h0, h1⟩
        · exact absurd hu.1 h0
        · exact ⟨h1 hu.1, h0⟩
      · rcases a2 with ⟨h0, _⟩ | ⟨h0, _⟩
        · exact Or.inl h0
        · exact Or.inr h0

theorem JInv.lose (h : JInv s f n sure all o) {m : Int} (hm : m ≤ 9223372036854775807) : JInv (s.lose m) f n sure all o := by
  refine ⟨h.inv.lose hm, h.held.cong rfl rfl, h.cnt, h.recs, ?_⟩
  have hj := h.jok
  match o, hj with
  | none, _ => exact trivial
  | some (a, false), hj => exact hj
  | some (a, true), hj => exact hj

theorem JInv.arm (h : JInv s f n sure all o) {m : Int} {keep : List Int} (hm : m ≤ 9223372036854775807) (hk : keep.length ≤ 1000000) : JInv (s.arm m keep) f n sure all o := by
  refine ⟨h.inv.arm hm hk, h.held.cong rfl rfl, h.cnt, h.recs, ?_⟩
  have hj := h.jok
  match o, hj with
  | none, _ => exact trivial
  | some (a, false), hj => exact hj
  | some (a, true), hj => exact hj

theorem JInv.crash (h : JInv s f n sure all o) (keep : List Int) : JInv (s.crash keep) f n sure all none :=
  ⟨h.inv.crash keep, h.held.crash h.inv keep, h.cnt, h.recs, trivial⟩

theorem JInv.start (h : JInv s f n sure all o) : JInv s.start f n sure all none :=
  ⟨h.inv.start, h.held.cong rfl rfl, h.cnt, h.recs, trivial⟩

theorem JInv.opened (h : JInv s f n sure all o) (hd : s.down = false) (hf : isFile f = true) :
    (∃ s' a, jopen s f = ((s', some a), 0) ∧ JInv s' f n a a (some (a, false)) ∧ (∃ r, all = a ++ r) ∧ (∃ r, a = sure ++ r) ∧ (Up s → Up s')) ∨
    (∃ s' e, jopen s f = ((s', none), e) ∧ (e = 8 ∨ e = 9) ∧ JInv s' f n sure all none ∧ (Up s → Up s') ∧ (s.armed = 0 → s.lost > 0)) := by
  rcases open_held h.inv h.held hd hf (fun v hv => by have := h.recs v hv; omega) with ⟨s', a, a1, a2, a3, a4, a5, ⟨k, a6, a7⟩, a8, a9⟩ | ⟨s', e, a1, a2, a3, a4⟩
  · refine Or.inl ⟨s', a, a1, ⟨a2, a5, ?_, fun v hv => ?_, a3, a4, rfl⟩, ⟨all.drop k, by rw [a7, List.take_append_drop]⟩, a8, fun hu => ⟨a9 hu.1, a3⟩⟩
    · rw [a7, List.length_take]; have := h.cnt; omega
    · rw [a7] at hv; exact h.recs v (List.mem_of_mem_take hv)
  · refine Or.inr ⟨s', e, a1, ?_, ⟨a3, a4, h.cnt, h.recs, trivial⟩, fun hu => ?_, fun ha => ?_⟩
    · rcases a2 with ⟨h0, _⟩ | ⟨h0, _⟩
      · exact Or.inl h0
      · exact Or.inr h0
    · rcases a2 with ⟨_, h0⟩ | ⟨_, _, h0, h1⟩
      · exact absurd hu.1 h0
      · exact ⟨h1 hu.1, h0⟩
    · rcases a2 with ⟨_, h0⟩ | ⟨_, h0, _⟩
      · exact absurd ha h0
      · exact h0

theorem JInv.new (f : Int) : JInv St.new f 0 [] [] none := ⟨Inv.new, Held.new f, by simp, by simp, trivial⟩

end

end Go.Proofs.Ytgocnjiabfmdpaa
