/- Walk of put. -/
import Derived.Test.YtgocnjiabfmdpaaDWa
import Derived.Outline
namespace Go.Proofs.Ytgocnjiabfmdpaa
set_option maxRecDepth 8000
open Go.RowKit

theorem splice_put (b : List UInt8) (n : Nat) (t : List UInt8) : (bc b ++ List.replicate (n + t.length - b.length) (Value.int .u8 0)).take n ++ (bc t ++ (bc b ++ List.replicate (n + t.length - b.length) (Value.int .u8 0)).drop (n + t.length)) = bc (putL b n t) := by
  unfold putL bc
  simp [List.map_append, List.map_take, List.map_drop]

theorem size_toList (s : ByteArray) : s.data.toList.length = s.size := by rw [Array.length_toList]; rfl

/-- What put leaves. -/
def PutPost (w : World) (bv : Value) (r : List UInt8) (e : Ending) (w' : World) : Prop :=
  ∃ v', e = .returned v' ∧ w'.ownsRow 0 5 1 v' r.length (bc r) ∧ w.grownBy w' bv.ownBlock ∧ (v'.ownBlock = bv.ownBlock ∨ v'.ownBlock = some w.heap.size)

/-- A slice that owns its array is nil, or lies at the head of its block. -/
theorem own_form {w : World} {e : TypeId} {size : Nat} {v : Value} {n : Nat} {xs : List Value} (h : w.ownsRow 0 e size v n xs) : (v = .slice none 0 0 ∧ n = 0) ∨ ∃ g c, v = .slice (some ⟨g, 0, none⟩) n c ∧ n ≤ c ∧ c ≤ 9223372036854775807 := by
  rcases h.2 with ⟨rfl, rfl⟩ | ⟨g, cap, cur, rfl, _, _, hnc, hm, _⟩
  · exact Or.inl ⟨rfl, rfl⟩
  · exact Or.inr ⟨g, cap, rfl, hnc, by unfold maxLen at hm; omega⟩

theorem own_some {w : World} {e : TypeId} {size : Nat} {v : Value} {n : Nat} {xs : List Value} (h : w.ownsRow 0 e size v n xs) (hn : 0 < n) : ∃ g c, v = .slice (some ⟨g, 0, none⟩) n c ∧ n ≤ c ∧ c ≤ 9223372036854775807 := by
  rcases own_form h with ⟨_, h0⟩ | h
  · omega
  · exact h

theorem put_grown {w w1 w2 : World} {v : Value} {g n c : Nat} (h1 : w.grownBy w1 v.ownBlock) (ha : (Value.slice (some ⟨g, 0, none⟩) n c).ownBlock = v.ownBlock ∨ (Value.slice (some ⟨g, 0, none⟩) n c).ownBlock = some w.heap.size) (h2 : w1.grownBy w2 (some g)) : w.grownBy w2 v.ownBlock := by
  refine h1.andThen h2 (fun j hj => ?_)
  cases hj
  rcases ha with ha | ha
  · exact Or.inr ha.symm
  · left
    simp [Value.ownBlock] at ha
    omega

set_option maxHeartbeats 400000 in
theorem put_any (w : World) (bv : Value) (b : List UInt8) (n : Nat) (s : ByteArray) (hown : w.ownsRow 0 5 1 bv b.length (bc b)) (hb : b.length ≤ 16777216) (hc : n + s.size ≤ 16777216) (hs : 0 < s.size) :
    Calls Try.prog 87 #[bv, .int .i64 n, .string s] w (PutPost w bv (putL b n s.data.toList)) := by
  obtain ⟨i0, hi, hz0, hz1, hz2⟩ := info_parts Try.info5
  have hpl := putL_length b n s.data.toList
  have hsp := splice_put b n s.data.toList
  rw [size_toList] at hpl hsp
  have HPL := Lib.hid hpl
  have HSP := Lib.hid hsp
  clear hpl hsp
  by_cases hgt : b.length < n + s.size
  · have hd : ((n : Int) + s.size) - b.length = ((n + s.size - b.length : Nat) : Int) := by omega
    have HD := Lib.hid hd
    clear hd
    rcases own_form hown with ⟨rfl, hb0⟩ | ⟨g, c, rfl, hnc, _⟩
    · have HB := Lib.hid hb0
      clear hb0
      go_enter Try.func87, Try.ntmps87
      go_wp2_with (first
        | (at_builtin; refine wpList_append_zeros rfl (.tmp 16) (.tmp 20) 73 3 5 rfl i0 .i64 Try.underlying73 Try.underlying3 hi hz0 hz1 hz2 (.slice none 0 0) _ _ rfl hown (n + s.size - b.length) _ rfl (by have := HD.out; have := HB.out; omega) (by omega) (by omega) ?_; intro v1 w1 hown1 hg1 hat1; rw [show b.length + (n + s.size - b.length) = n + s.size by omega] at hown1; obtain ⟨g1, c1, rfl, hnc1, hc1⟩ := own_some hown1 (by omega); have HAT := Lib.hid hat1; clear hat1; have hcn' : ¬ c1 = n := (by omega); have hle : (n : Int) ≤ (n : Int) + s.size := (by omega))
        | (with_reducible refine wpList_copy_str rfl (.tmp 24) (.tmp 25) 73 9 5 rfl i0 Try.underlying73 hi hz1 g1 _ c1 _ hown1 n s.size (c1 - n) rfl (by omega) s rfl (by omega) ?_; intro w2 hown2 hg2 hs2))
      go_ret
      rw [HSP.out] at hown2
      exact ⟨_, rfl, by rw [HPL.out, Nat.max_eq_right (by omega)]; exact hown2, put_grown hg1 HAT.out hg2, HAT.out⟩
    · go_enter Try.func87, Try.ntmps87
      go_wp2_with (first
        | (at_builtin; refine wpList_append_zeros rfl (.tmp 16) (.tmp 20) 73 3 5 rfl i0 .i64 Try.underlying73 Try.underlying3 hi hz0 hz1 hz2 (.slice (some ⟨g, 0, none⟩) b.length c) _ _ rfl hown (n + s.size - b.length) _ rfl (by have := HD.out; omega) (by omega) (by omega) ?_; intro v1 w1 hown1 hg1 hat1; rw [show b.length + (n + s.size - b.length) = n + s.size by omega] at hown1; obtain ⟨g1, c1, rfl, hnc1, hc1⟩ := own_some hown1 (by omega); have HAT := Lib.hid hat1; clear hat1; have hcn' : ¬ c1 = n := (by omega); have hle : (n : Int) ≤ (n : Int) + s.size := (by omega))
        | (with_reducible refine wpList_copy_str rfl (.tmp 24) (.tmp 25) 73 9 5 rfl i0 Try.underlying73 hi hz1 g1 _ c1 _ hown1 n s.size (c1 - n) rfl (by omega) s rfl (by omega) ?_; intro w2 hown2 hg2 hs2))
      go_ret
      rw [HSP.out] at hown2
      exact ⟨_, rfl, by rw [HPL.out, Nat.max_eq_right (by omega)]; exact hown2, put_grown hg1 HAT.out hg2, HAT.out⟩
  · rcases own_form hown with ⟨_, hz⟩ | ⟨g, c, rfl, hnc, _⟩
    · omega
    have hcn' : ¬ c = n := by omega
    have hle : (n : Int) ≤ (b.length : Int) := by omega
    go_enter Try.func87, Try.ntmps87
    go_wp2_with (with_reducible refine wpList_copy_str rfl (.tmp 24) (.tmp 25) 73 9 5 rfl i0 Try.underlying73 hi hz1 g _ c _ hown n (b.length - n) (c - n) rfl (by omega) s rfl (by omega) ?_; intro w2 hown2 hg2 hs2)
    go_ret
    have e0 : n + s.size - b.length = 0 := by omega
    have hsp := HSP.out
    rw [e0, List.replicate_zero, List.append_nil] at hsp
    rw [hsp] at hown2
    exact ⟨_, rfl, by rw [HPL.out, Nat.max_eq_left (by omega)]; exact hown2, hg2, Or.inl rfl⟩

end Go.Proofs.Ytgocnjiabfmdpaa
