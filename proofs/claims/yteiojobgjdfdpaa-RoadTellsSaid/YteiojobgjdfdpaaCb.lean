/- Walks: clock's minutes, isTime, hourStart, Right, Took. -/
import Derived.Test.YteiojobgjdfdpaaCa
import Derived.Test.YteiojobgjdfdpaaM
import Derived.Lib.MinMax
import Derived.BigQuiet
import Derived.Deep.QuietTactic
namespace Go.Proofs.Yteiojobgjdfdpaa
open Go.RowKit

/-- The lists of an arc as they lie. -/
structure ArcM (w : World) (a : Arc) (A A' : Option Addr) : Prop where
  lo : IntsAt w.heap.size w A a.lo
  hi : IntsAt w.heap.size w A' a.hi
theorem ArcM.below {w w' : World} {a : Arc} {A A' : Option Addr} (h : ArcM w a A A') (hb : Below w.heap.size w w') : ArcM w' a A A' :=
  ⟨(h.lo.below hb).more hb.size, (h.hi.below hb).more hb.size⟩
theorem IntsAt.get {w : World} {A : Option Addr} {l : List Int} {k : Nat} (h : IntsAt w.heap.size w A l) (hk : k < l.length) : ∃ b off, A = some ⟨b, off, none⟩ ∧ b < w.heap.size ∧ w.cell? ⟨b, off + k, none⟩ = some (.int .i64 (l.getD k 0)) := h k hk
theorem Arc.ok.len {a : Arc} (h : a.ok) (b : Bool) : (a.row b).length = 24 := by
  cases b
  · exact h.2.2.1
  · exact h.2.2.2.1

def Blk (w : World) (g : Nat) (t : TypeId) (cs : Array Value) : Prop := w.heap[g]? = some (.cells cs t (0, 0))
section
variable {w w' : World} {g : Nat} {t : TypeId} {cs : Array Value}
theorem Blk.lt (h : Blk w g t cs) : g < w.heap.size := by
  rcases Nat.lt_or_ge g w.heap.size with hlt | hge
  · exact hlt
  · unfold Blk at h; rw [Array.getElem?_eq_none hge] at h; cases h
theorem Blk.cell (h : Blk w g t cs) (i : Nat) : w.cell? ⟨g, i, none⟩ = cs[i]? := cell_of_row w g i cs t (0, 0) h
theorem Blk.frozen (h : Blk w g t cs) (i : Nat) : w.frozen? ⟨g, i, none⟩ = false := by
  unfold Blk at h
  simp [World.frozen?, h]
theorem Blk.new (w : World) (t : TypeId) (cs : Array Value) : Blk (w.alloc (.cells cs t)) w.heap.size t cs := heap_alloc_new w _
theorem Blk.drewN (h : Blk w g t cs) (n : Nat) : Blk (w.drewN n) g t cs := h
theorem Blk.alloc (h : Blk w g t cs) (o : Obj) : Blk (w.alloc o) g t cs := (Below.heap_alloc w o g h.lt).trans h
theorem Blk.set_ (h : Blk w g t cs) (i : Nat) (u : Value) : Blk (w.setCell ⟨g, i, none⟩ u) g t (cs.setIfInBounds i u) := by
  unfold Blk at h ⊢
  simp [World.setCell, Array.getElem?_modify, h]
theorem Blk.far (h : Blk w g t cs) {p : Addr} (hp : g ≠ p.block) (u : Value) : Blk (w.setCell p u) g t cs := (Below.heap_setCell w p u g hp).trans h
theorem Blk.below {B : Nat} (h : Blk w g t cs) (hb : Below B w w') (hg : g < B) : Blk w' g t cs := (hb.block g hg).trans h
end

set_option maxRecDepth 100000 in
set_option maxHeartbeats 2000000 in
theorem minutes_any (a : Arc) (A A' : Option Addr) (c c' : Nat) (b : Bool) (u : Int) (w : World) (hM : ArcM w a A A') (ho : a.ok) (h0 : 0 ≤ u) (h9 : u ≤ 1000000000) :
    Calls Try.prog 50 #[.agg #[.int .i64 a.f, .int .i64 a.t, .slice A 24 c, .slice A' 24 c'], .int .i64 u, .bool b] w fun e w' => e = .returned (.int .i64 (a.mm b u)) ∧ Below w.heap.size w w' := by
  have e := hr_eq h0
  have q1 : u.tdiv 60 = u / 60 := Int.tdiv_eq_ediv_of_nonneg h0
  have q2 : (u / 60).tmod 24 = u / 60 % 24 := Int.tmod_eq_emod_of_nonneg (by omega)
  rw [e] at q2
  have q3 : 0 ≤ u / 60 := by omega
  have q4 : u / 60 ≤ 1000000000 := by omega
  obtain ⟨q, hq⟩ : ∃ q, u / 60 = q := ⟨_, rfl⟩
  rw [hq] at q1 q2 q3 q4
  clear hq e
  have hlt := hr_lt u
  have hll := ho.2.2.1
  have hhl := ho.2.2.2.1
  obtain ⟨k1, o1, rfl, hb1, c1⟩ := hM.lo.get (k := hr u) (by omega)
  obtain ⟨k2, o2, rfl, hb2, c2⟩ := hM.hi.get (k := hr u) (by omega)
  have hmm : a.mm b u = (a.row b).getD (hr u) 0 := rfl
  obtain ⟨z, hz⟩ : ∃ z, a.mm b u = z := ⟨_, rfl⟩
  rw [hz] at hmm ⊢
  have H := Lib.hid hmm; clear hmm hz hll hhl ho hM
  obtain ⟨h, hh⟩ : ∃ h, hr u = h := ⟨_, rfl⟩
  rw [hh] at q2 hlt c1 c2 H
  clear hh
  obtain ⟨x, hx⟩ : ∃ x, a.lo.getD h 0 = x := ⟨_, rfl⟩
  obtain ⟨y, hy⟩ : ∃ y, a.hi.getD h 0 = y := ⟨_, rfl⟩
  rw [hx] at c1
  rw [hy] at c2
  have HX := Lib.hid (And.intro hx hy); clear hx hy
  go_enter Try.func50, Try.ntmps50
  cases b
  · go_wp2_with fail
    go_ret
    exact ⟨by rw [H.out]; show _ = Ending.returned (.int .i64 (a.lo.getD h 0)); rw [HX.out.1]; rfl, (Below.refl _ _).alloc (Nat.le_refl _) _⟩
  · go_wp2_with fail
    go_ret
    exact ⟨by rw [H.out]; show _ = Ending.returned (.int .i64 (a.hi.getD h 0)); rw [HX.out.2]; rfl, (Below.refl _ _).alloc (Nat.le_refl _) _⟩

set_option maxRecDepth 100000 in
theorem isTime_any (t : Int) (w : World) (r : Bool) (hr : r = decide (0 ≤ t ∧ t ≤ 1048576)) :
    Calls Try.prog 49 #[.int .i64 t] w fun e w' => e = .returned (.bool r) ∧ w = w' := by
  have HR := Lib.hid hr; clear hr
  go_enter Try.func49, Try.ntmps49
  by_cases h1 : 0 ≤ t
  · by_cases h2 : t ≤ 1048576
    · go_wp2_with fail
      go_ret
      exact ⟨by rw [HR.out, decide_eq_true ⟨h1, h2⟩]; rfl, rfl⟩
    · go_wp2_with fail
      go_ret
      exact ⟨by rw [HR.out, decide_eq_false (by omega)]; rfl, rfl⟩
  · go_wp2_with fail
    go_ret
    exact ⟨by rw [HR.out, decide_eq_false (by omega)]; rfl, rfl⟩

set_option maxRecDepth 100000 in
theorem hourStart_any (t : Int) (w : World) (h0 : 0 ≤ t) (h9 : t ≤ 1000000000) :
    Calls Try.prog 51 #[.int .i64 t] w fun e w' => e = .returned (.int .i64 (t - t % 60)) ∧ w = w' := by
  have h1 : 0 ≤ t % 60 := by omega
  have h2 : t % 60 ≤ t := by omega
  go_enter Try.func51, Try.ntmps51
  go_wp2_with fail
  go_ret
  exact ⟨by rfl, rfl⟩

set_option maxRecDepth 100000 in
set_option maxHeartbeats 4000000 in
theorem right_any (a : Arc) (A A' : Option Addr) (c c' : Nat) (w : World) (hM : ArcM w a A A') (r : Bool) (hr : r = true ↔ a.ok) :
    Calls Try.prog 46 #[.agg #[.int .i64 a.f, .int .i64 a.t, .slice A a.lo.length c, .slice A' a.hi.length c']] w fun e w' => e = .returned (.bool r) ∧ Below w.heap.size w w' := by
  have HM := Lib.hid hM; clear hM
  have hr0 : (a.f < 0 ∨ a.t < 0 ∨ a.lo.length ≠ 24 ∨ a.hi.length ≠ 24) → r = false := fun h => by
    cases r with
    | false => rfl
    | true =>
      obtain ⟨h1, h2, h3, h4, _⟩ := hr.1 rfl
      omega
  have hr1 : ∀ h, h < 24 → (a.lo.getD h 0 < 0 ∨ a.hi.getD h 0 < a.lo.getD h 0 ∨ 600 < a.hi.getD h 0) → r = false := fun h hh hb => by
    cases r with
    | false => rfl
    | true => exact absurd (hr.1 rfl) (Arc.ok.of_false hh hb)
  have hr2 : 0 ≤ a.f → 0 ≤ a.t → a.lo.length = 24 → a.hi.length = 24 → (∀ h, h < 24 → 0 ≤ a.lo.getD h 0 ∧ a.lo.getD h 0 ≤ a.hi.getD h 0 ∧ a.hi.getD h 0 ≤ 600) → r = true := fun h1 h2 h3 h4 h5 => hr.2 ⟨h1, h2, h3, h4, h5⟩
  have HR0 := Lib.hid hr0; clear hr0
  have HR1 := Lib.hid hr1; clear hr1
  have HR2 := Lib.hid hr2; clear hr2 hr
  obtain ⟨n, hn⟩ : ∃ n, a.lo.length = n := ⟨_, rfl⟩
  obtain ⟨m, hm⟩ : ∃ m, a.hi.length = m := ⟨_, rfl⟩
  obtain ⟨f, hf⟩ : ∃ f, a.f = f := ⟨_, rfl⟩
  obtain ⟨t, ht⟩ : ∃ t, a.t = t := ⟨_, rfl⟩
  rw [hf, ht, hn, hm] at HR0 HR2
  rw [hf, ht, hn, hm]
  have HN := Lib.hid (And.intro hn hm); clear hn hm hf ht
  go_enter Try.func46, Try.ntmps46
  have hA0 : Below w.heap.size w (w.alloc (.cells #[.int .i64 f, .int .i64 t, .slice A n c, .slice A' m c'] 39)) := (Below.refl _ _).alloc (Nat.le_refl _) _
  by_cases h1 : f < 0
  · have hrf := HR0.out (.inl h1)
    subst hrf
    go_wp2_with fail
    go_ret
    exact ⟨rfl, hA0⟩
  by_cases h2 : t < 0
  · have hrf := HR0.out (.inr (.inl h2))
    subst hrf
    go_wp2_with fail
    go_ret
    exact ⟨rfl, hA0⟩
  by_cases h3 : n ≠ 24
  · have hrf := HR0.out (.inr (.inr (.inl h3)))
    subst hrf
    have h3' : ((n : Int) != 24) = true := by simp; omega
    go_wp2_with fail
    go_ret
    exact ⟨rfl, hA0⟩
  by_cases h4 : m ≠ 24
  · have hrf := HR0.out (.inr (.inr (.inr h4)))
    subst hrf
    have h3' : n = 24 := by omega
    subst h3'
    have h4' : ((m : Int) != 24) = true := by simp; omega
    go_wp2_with fail
    go_ret
    exact ⟨rfl, hA0⟩
  have h3' : n = 24 := by omega
  have h4' : m = 24 := by omega
  subst h3'; subst h4'
  have HFT := Lib.hid (And.intro h1 h2)
  go_wp2_with fail
  go_loop [29] (fun iv => ∃ i : Nat, i ≤ 24 ∧ iv = .int .i64 i ∧ Hid (∀ h, h < i → 0 ≤ a.lo.getD h 0 ∧ a.lo.getD h 0 ≤ a.hi.getD h 0 ∧ a.hi.getD h 0 ≤ 600)) (fun iv => 24 - (intOf iv).toNat)
  case atStart => exact ⟨0, Nat.zero_le _, rfl, Lib.hid (fun h hh => by omega)⟩
  case round =>
    obtain ⟨i, hi, rfl, hI⟩ := hrel
    by_cases hgo : i < 24
    · obtain ⟨k1, o1, hA, hb1, c1⟩ := HM.out.lo.get (k := i) (by have := HN.out; omega)
      obtain ⟨k2, o2, hA', hb2, c2⟩ := HM.out.hi.get (k := i) (by have := HN.out; omega)
      subst hA; subst hA'
      have hno := HR1.out i hgo
      have hyes : (0 ≤ a.lo.getD i 0 ∧ a.lo.getD i 0 ≤ a.hi.getD i 0 ∧ a.hi.getD i 0 ≤ 600) → Hid (∀ h, h < i + 1 → 0 ≤ a.lo.getD h 0 ∧ a.lo.getD h 0 ≤ a.hi.getD h 0 ∧ a.hi.getD h 0 ≤ 600) := fun hh => Lib.hid (fun h h1 => by
        by_cases e : h < i
        · exact hI.out h e
        · have : h = i := by omega
          subst this
          exact hh)
      obtain ⟨x, hx⟩ : ∃ x, a.lo.getD i 0 = x := ⟨_, rfl⟩
      obtain ⟨y, hy⟩ : ∃ y, a.hi.getD i 0 = y := ⟨_, rfl⟩
      rw [hx] at c1 hno hyes
      rw [hy] at c2 hno hyes
      have HNO := Lib.hid hno; clear hno
      have HYES := Lib.hid hyes; clear hyes
      clear hx hy
      by_cases g1 : x < 0
      · have hrf := HNO.out (.inl g1)
        subst hrf
        go_wp2_with fail
        go_ret
        exact ⟨rfl, hA0⟩
      by_cases g2 : y < x
      · have hrf := HNO.out (.inr (.inl g2))
        subst hrf
        go_wp2_with fail
        go_ret
        exact ⟨rfl, hA0⟩
      by_cases g3 : 600 < y
      · have hrf := HNO.out (.inr (.inr g3))
        subst hrf
        go_wp2_with fail
        go_ret
        exact ⟨rfl, hA0⟩
      have HY := HYES.out (by omega)
      go_wp2_with fail
      go_round
      case rel => exact ⟨i + 1, by omega, rfl, HY⟩
      case measure => simp [intOf]; omega
    · have : i = 24 := by omega
      subst this
      have hrt := HR2.out (by have := HFT.out.1; omega) (by have := HFT.out.2; omega) trivial trivial hI.out
      subst hrt
      go_wp2_with fail
      go_ret
      exact ⟨rfl, hA0⟩

/-- The arc as an argument. -/
def av (a : Arc) (A : Option Addr) (c : Nat) (A' : Option Addr) (c' : Nat) : Value := .agg #[.int .i64 a.f, .int .i64 a.t, .slice A a.lo.length c, .slice A' a.hi.length c']

/-- The cells of an arc's box. -/
theorem box_cells {w : World} {g : Nat} {u0 u1 u2 u3 : Value} (h : Blk w g 39 #[u0, u1, u2, u3]) : w.cell? ⟨g, 0, none⟩ = some u0 ∧ w.cell? ⟨g, 1, none⟩ = some u1 ∧ w.cell? ⟨g, 2, none⟩ = some u2 ∧ w.cell? ⟨g, 3, none⟩ = some u3 := by
  have h0 := h.cell 0
  have h1 := h.cell 1
  have h2 := h.cell 2
  have h3 := h.cell 3
  simp at h0 h1 h2 h3
  exact ⟨h0, h1, h2, h3⟩
theorem right_yes (a : Arc) (A A' : Option Addr) (c c' : Nat) (w : World) (hM : ArcM w a A A') (h : a.ok) :
    Calls Try.prog 46 #[.agg #[.int .i64 a.f, .int .i64 a.t, .slice A 24 c, .slice A' 24 c']] w fun e w' => e = .returned (.bool true) ∧ Below w.heap.size w w' := by
  have hR := right_any a A A' c c' w hM true (by simp [h])
  rwa [h.2.2.1, h.2.2.2.1] at hR

theorem right_no (a : Arc) (A A' : Option Addr) (c c' n m : Nat) (w : World) (hM : ArcM w a A A') (h : ¬ a.ok) (hn : a.lo.length = n) (hm : a.hi.length = m) :
    Calls Try.prog 46 #[.agg #[.int .i64 a.f, .int .i64 a.t, .slice A n c, .slice A' m c']] w fun e w' => e = .returned (.bool false) ∧ Below w.heap.size w w' := by
  subst hn; subst hm
  exact right_any a A A' c c' w hM false (by simp [h])

end Go.Proofs.Yteiojobgjdfdpaa
