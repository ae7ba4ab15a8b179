/- Helpers of the walks of the laws: append of one element, bytes of a string that are turned. -/
import Derived.Test.YtgocnjiabfmdpaaKc
import Derived.Test.YtgocnjiabfmdpaaKd
namespace Go.Proofs.Ytgocnjiabfmdpaa
set_option maxRecDepth 8000
open Go.RowKit Wire

theorem jforms_bound {l : List (List UInt8)} {m : Nat} (hm : m ≤ 1000000) (h : ∀ v ∈ l, v.length ≤ m) : (jforms l).length ≤ (m + 20) * l.length := by
  induction l with
  | nil => simp [jforms]
  | cons v l ih =>
    rw [jforms_cons, List.length_append, List.length_cons, Nat.mul_succ]
    have h1 := jform_len_le v (by have := h v (by simp); omega)
    have h2 := h v (by simp)
    have h3 := ih (fun x hx => h x (by simp [hx]))
    omega

/-- append(s, x) of one element of one cell, onto a slice whose array bears a label. -/
theorem app1L {w : World} {ops : Array Oper} {rest : List Oper} {o : Oper} {a : Act} {Q : Exit → Act → World → Prop} {L : Lab} {r : Nat × Role} (hgd : o.guard = none) (s x : Operand) (t : TypeId)
    (ho : o.op = .call { callee := .builtin .append, args := #[s, x], argTypes := #[t, t] })
    (e : TypeId) (i : TypeInfo) (z : Value) (bytes : Nat) (ht : Try.prog.underlying t = some (.slice e)) (hi : Try.prog.info? e = some i) (hz : i.zero = some z) (hsize : i.size = 1) (hby : i.bytes = bytes) (hb16 : bytes ≤ 16) (hzs : z.cells.size = 1)
    (v : Value) (xs : List Value) (u : Value) (hu : u.oneCell' = true) (hs : a.eval s = v) (hown : Sl L w e 1 v xs.length xs r) (hL : Fresh L w)
    (hx : a.eval x = .slice (some ⟨w.heap.size, 0, none⟩) 1 1) (hlen : xs.length ≤ 10000000)
    (h : ∀ v' w' L', Sl L' w' e 1 v' (xs.length + 1) (xs ++ [u]) r → Fr (fun q => q = r) L w L' w' → wpList Try.prog ops Q rest (a.put o.dst v') w') : wpList Try.prog ops Q (o :: rest) a (w.alloc (.cells #[u] e)) := by
  have fA : Fr (fun q => q = r) L w L (w.alloc (.cells #[u] e)) := (Fr.refl hL).alloc _
  refine wpList_append_own_at _ hgd s x t ho 0 e i z 1 bytes ht hi hz hsize hby hzs (by decide) v xs.length xs hs (World.ownsRow.alloc hown.1 _) ⟨w.heap.size, 0, none⟩ 1 1 [u] hx rfl (World.news_of_block (heap_alloc_new w _)) (by intro y hy; simp at hy; subst hy; exact hu) (by unfold maxLen; omega) (by
    have h1 := Nat.mul_le_mul (show xs.length + 1 ≤ 10000001 by omega) hb16
    omega) (Nat.zero_le _) ?_
  intro v' w' hown' hg hnil hat
  have f3 : Fr (fun q => q = r) L w L w' := fA.trans (Fr.grown fA.fresh hg (fun g hg' _ => ⟨r, hown.2 g hg', rfl⟩))
  cases hv : v'.ownBlock with
  | none => exact h v' w' L ⟨hown', fun g hg' => by rw [hv] at hg'; cases hg'⟩ f3
  | some g =>
    rw [hv] at hat
    rcases hat with hat | hat
    · exact h v' w' L ⟨hown', fun g' hg' => by rw [hv] at hg'; injection hg' with hg'; subst hg'; exact hown.2 g hat.symm⟩ f3
    · have hgl := (World.ownsRow.lt hown' g hv).2
      injection hat with hat
      exact h v' w' (setL L g r) ⟨hown', fun g' hg' => by rw [hv] at hg'; injection hg' with hg'; subst hg'; exact setL_same _ _ _⟩ (f3.label (by rw [hat]; simp) hgl r)

/-- The first n cells of block g hold these bytes. -/
def BytesAt (w : World) (g : Nat) (B : List UInt8) : Prop :=
  g < w.heap.size ∧ ∀ i, i < B.length → w.cell? ⟨g, i, none⟩ = some (.int .u8 ((B.getD i 0).toNat : Int)) ∧ w.frozen? ⟨g, i, none⟩ = false

theorem BytesAt.zero {w : World} {g : Nat} {B : List UInt8} (h : BytesAt w g B) (i : Nat) (hi : i < B.length) : BytesAt (w.setCell ⟨g, i, none⟩ (.int .u8 0)) g (B.set i 0) := by
  refine ⟨by simpa using h.1, fun j hj => ?_⟩
  rw [List.length_set] at hj
  obtain ⟨h1, h2⟩ := h.2 j hj
  refine ⟨?_, by rw [World.frozen?_setCell]; exact h2⟩
  by_cases hij : i = j
  · subst hij
    rw [World.cell?_setCell_same (h := h1)]
    simp [hi]
  · rw [World.cell?_setCell_other (h := fun e => hij (by injection e)), h1]
    simp [hij]

theorem bytes_new (w : World) (s : ByteArray) : BytesAt (Lib.bytesWorld w 5 s) w.heap.size (bts s) := by
  refine ⟨by rw [Lib.bytesWorld_size]; omega, fun i hi => ?_⟩
  rw [Wire.bts_len] at hi
  refine ⟨Lib.bytesWorld_cell w 5 s i hi, ?_⟩
  unfold World.frozen?
  rw [Lib.bytesWorld_at_new]
  have hsz : s.size ≤ (Lib.bytesCells w 5 s).size := by
    unfold Lib.bytesCells
    rw [Array.size_append, Array.size_map]
    show s.size ≤ s.data.size + _
    have : s.data.size = s.size := rfl
    omega
  simp
  intro h
  omega

theorem below_bytes (w : World) (s : ByteArray) : Below w.heap.size w (Lib.bytesWorld w 5 s) := Wire.below_bytesWorld w s

theorem Under.set {B s : List UInt8} (h : Under B s) (i : Nat) : Under (B.set i 0) s := by
  refine Under.of (by rw [List.length_set]; exact h.len) (fun j hj => ?_)
  by_cases hij : i = j
  · subst hij
    right
    rw [List.length_set] at hj
    simp [hj]
  · have : (B.set i 0).getD j 0 = B.getD j 0 := by simp [hij]
    rw [this]
    exact h.get j

end Go.Proofs.Ytgocnjiabfmdpaa
