/- Walk: RoadTells. -/
import Derived.Test.YteiojobgjdfdpaaOq
import Derived.Test.YteiojobgjdfdpaaOp
import Derived.Test.YteiojobgjdfdpaaQw
import Derived.Test.YteiojobgjdfdpaaRb
namespace Go.Proofs.Yteiojobgjdfdpaa
open Go.RowKit Go.Shelf Go.Sort

/-- What is kept from call to call. -/
structure RT (w W : World) (A : Option Addr) (l : List Am) (xs : List (Option Addr × List Lb)) : Prop where
  a : ArcsAt W.heap.size W A l
  x : ∀ y ∈ xs, LbsAt W.heap.size W y.1 y.2
  b : Below w.heap.size w W
section
variable {w W W' : World} {A : Option Addr} {l : List Am} {xs : List (Option Addr × List Lb)}
theorem LbsAt.low {A' : Option Addr} {lab : List Lb} (h : LbsAt W.heap.size W A' lab) (hb : Below W.heap.size W W') : LbsAt W'.heap.size W' A' lab := fun k hk => by
  obtain ⟨b, off, e, h1, h2⟩ := (h.below hb) k hk
  exact ⟨b, off, e, Nat.lt_of_lt_of_le h1 hb.size, h2⟩
theorem RT.step (h : RT w W A l xs) (hb : Below W.heap.size W W') : RT w W' A l xs :=
  ⟨(h.a.below hb).more hb.size, fun y hy => (h.x y hy).low hb, h.b.trans (hb.mono h.b.size)⟩
theorem RT.add (h : RT w W A l xs) {A' : Option Addr} {lab : List Lb} (hx : LbsAt W.heap.size W A' lab) : RT w W A l ((A', lab) :: xs) :=
  ⟨h.a, fun y hy => by rcases List.mem_cons.1 hy with rfl | hy; exact hx; exact h.x y hy, h.b⟩
end

theorem wayR_len {lab : List Lb} {ar : Nat → Int × Int} {m : Nat} : ∀ (k : Nat) (v : Int) (acc : List Int), (wayR lab ar m k v acc).length ≤ acc.length + k := by
  intro k
  induction k with
  | zero => intro v acc; show 0 ≤ _; omega
  | succ k ih =>
    intro v acc
    rw [wayR]
    split
    · split
      · omega
      · split
        · have := ih (ar (lb lab v.toNat).2.toNat).1 ((lb lab v.toNat).2 :: acc)
          rw [List.length_cons] at this
          omega
        · show 0 ≤ _; omega
    · show 0 ≤ _; omega
theorem wayP_len {lab : List Lb} {ar : Nat → Int × Int} {m : Nat} {v : Int} (h : lab.length ≤ 100000) : (wayP lab ar m v).length ≤ 4000000000000000000 := by
  unfold wayP
  split
  · have := wayR_len (lab := lab) (ar := ar) (m := m) (lab.length + 1) v []
    simp only [List.length_nil] at this
    omega
  · show 0 ≤ _; omega
theorem own_ints {w : World} {B n c : Nat} {A : Option Addr} {l : List Int} (h : OwnI w B (.slice A n c) l) : IntsAt w.heap.size w A l := by
  obtain ⟨a, cap, e, i⟩ := h.ints
  injection e with q _ _
  subst q
  exact i
set_option maxRecDepth 100000 in
set_option maxHeartbeats 8000000 in
theorem roadTells_any (n : Int) (l : List Am) (A : Option Addr) (c m : Nat) (src t : Int) (hb : Bool) (L : List Lb) (AL : Option Addr) (cL nL : Nat) (v : Int) (w : World) (hl : l.length = m) (hA : ArcsAt w.heap.size w A l) (hm : m ≤ 9223372036854775807) (hLl : L.length = nL) (hL : LbsAt w.heap.size w AL L) :
    Calls Try.prog 3 #[.int .i64 n, .slice A m c, .int .i64 src, .int .i64 t, .bool hb, .slice AL nL cL, .int .i64 v] w fun e w' => e = .returned (.bool true) ∧ Below w.heap.size w w' := by
  have HK := Lib.hid (And.intro hl hLl)
  have HS := Lib.hid (And.intro hA hL)
  clear hl hA hLl hL
  go_enter Try.func3, Try.ntmps3
  go_wp2_with fail
  refine (small_any _).mono ?_
  rintro e w0 ⟨rfl, b0⟩
  have H0 : Hid (RT w w0 A l [(AL, L)]) := Lib.hid (RT.step ⟨HS.out.1, fun y hy => by rw [List.mem_singleton] at hy; rw [hy]; exact HS.out.2, Below.refl _ _⟩ b0)
  clear b0 HS
  go_wp2_with fail
  refine (few11_any n l A c m w0 HK.out.1 H0.out.a hm).mono ?_
  rintro e w0' ⟨r, rfl, hFP, rfl⟩
  cases r with
  | false =>
    clear hFP
    go_wp2_with fail
    go_ret
    exact ⟨rfl, H0.out.b⟩
  | true =>
    have HF := Lib.hid (hFP rfl)
    clear hFP
    by_cases hn14 : 14 < nL
    · have h14 : decide ((14 : Int) < (nL : Int)) = true := decide_eq_true (by omega)
      go_wp2_with fail
      go_ret
      exact ⟨rfl, H0.out.b⟩
    · have h14 : decide ((14 : Int) < (nL : Int)) = false := decide_eq_false (by omega)
      have hm30 : m ≤ 100 := by
        have h1 := HF.out.1
        have h2 := HK.out.1
        omega
      obtain ⟨r2, hr2⟩ : ∃ r2 : Bool, r2 = true ↔ RRight n l := by
        by_cases h : RRight n l
        · exact ⟨true, by simp [h]⟩
        · exact ⟨false, by simp [h]⟩
      have HRr := Lib.hid hr2; clear hr2
      go_wp2_with fail
      refine (early_res n m c A l src t w0 HK.out.1 H0.out.a hb hm30).mono ?_
      rintro e w1 ⟨A1, n1, c1, lab1, k1, rfl, x1, y1, z1, E1, b1⟩
      have H1 := Lib.hid ((H0.out.step b1).add x1)
      clear x1 b1 H0
      go_wp2_with fail
      refine (rearly_res n m c A l src t w1 HK.out.1 H1.out.a hb).mono ?_
      rintro e w2 ⟨A2, n2, c2, lab2, k2, rfl, x2, y2, z2, E2, b2⟩
      have H2 := Lib.hid ((H1.out.step b2).add x2)
      obtain ⟨rfl, hlab⟩ := ResR.eq E1.out E2.out
      subst hlab
      clear x2 b2 H1 E1 E2
      go_wp2_with fail
      refine (late_res n m c A l src t w2 HK.out.1 H2.out.a hm30).mono ?_
      rintro e w3 ⟨A3, n3, c3, lab3, k3, rfl, x3, y3, z3, E3, b3⟩
      have H3 := Lib.hid ((H2.out.step b3).add x3)
      clear x3 b3 H2
      go_wp2_with fail
      refine (rlate_res n m c A l src t w3 HK.out.1 H3.out.a).mono ?_
      rintro e w4 ⟨A4, n4, c4, lab4, k4, rfl, x4, y4, z4, E4, b4⟩
      have H4 := Lib.hid ((H3.out.step b4).add x4)
      obtain ⟨rfl, hlab⟩ := ResR.eq E3.out E4.out
      subst hlab
      clear x4 b4 H3 E3 E4
      go_wp2_with fail
      refine (same_any A1 A2 lab1 lab1 n1 n2 c1 c2 w4 y1 y2 (H4.out.x (A1, lab1) (by simp)) (H4.out.x (A2, lab1) (by simp)) (by omega) true (by simp)).mono ?_
      rintro e w5 ⟨rfl, b5⟩
      have H5 := Lib.hid (H4.out.step b5)
      clear b5 H4
      go_wp2_with fail
      refine (same_any A3 A4 lab3 lab3 n3 n4 c3 c4 w5 y3 y4 (H5.out.x (A3, lab3) (by simp)) (H5.out.x (A4, lab3) (by simp)) (by omega) true (by simp)).mono ?_
      rintro e w6 ⟨rfl, b6⟩
      have H6 := Lib.hid (H5.out.step b6)
      clear b6 H5
      go_wp2_with fail
      refine (rr_any n l A c m w6 HK.out.1 H6.out.a r2 HRr.out).mono ?_
      rintro e w7 ⟨rfl, b7⟩
      have H7 := Lib.hid (H6.out.step b7)
      clear b7 H6
      go_wp2_with fail
      refine (rrr_any n l A c m w7 HK.out.1 H7.out.a r2 HRr.out).mono ?_
      rintro e w8 ⟨rfl, b8⟩
      have H8 := Lib.hid (H7.out.step b8)
      clear b8 H7
      go_wp2_with fail
      refine (way_any AL A nL cL m c L l v w8 HK.out.2 HK.out.1 (H8.out.x (AL, L) (by simp)) H8.out.a (by omega) _ rfl).mono ?_
      rintro e w9 ⟨B9, d9, rfl, o9, b9⟩
      have H9 := Lib.hid (H8.out.step b9)
      have O9 := Lib.hid (And.intro (wayP_len (lab := L) (ar := ends l) (m := m) (v := v) (by have := HK.out.2; omega)) (own_ints o9))
      clear b9 o9 H8
      go_wp2_with fail
      refine (rway_any AL A nL cL m c L l v w9 HK.out.2 HK.out.1 (H9.out.x (AL, L) (by simp)) H9.out.a (by omega) _ rfl).mono ?_
      rintro e w10 ⟨B10, d10, rfl, o10, b10⟩
      have H10 := Lib.hid (H9.out.step b10)
      have O10 := Lib.hid (And.intro (O9.out.2.low b10) (own_ints o10))
      clear b10 o10 H9
      go_wp2_with fail
      refine (ints_any B9 B10 _ _ _ _ d9 d10 w10 rfl rfl O10.out.1 O10.out.2 O9.out.1 true (by simp)).mono ?_
      rintro e w11 ⟨rfl, b11⟩
      have H11 := Lib.hid (H10.out.step b11)
      clear b11 H10
      go_wp2_with fail
      refine (way_any A1 A n1 c1 m c lab1 l v w11 y1 HK.out.1 (H11.out.x (A1, lab1) (by simp)) H11.out.a (by omega) _ rfl).mono ?_
      rintro e w12 ⟨B12, d12, rfl, o12, b12⟩
      have H12 := Lib.hid (H11.out.step b12)
      have O12 := Lib.hid (And.intro (wayP_len (lab := lab1) (ar := ends l) (m := m) (v := v) (by omega)) (own_ints o12))
      clear b12 o12 H11
      go_wp2_with fail
      refine (rway_any A2 A n2 c2 m c lab1 l v w12 y2 HK.out.1 (H12.out.x (A2, lab1) (by simp)) H12.out.a (by omega) _ rfl).mono ?_
      rintro e w13 ⟨B13, d13, rfl, o13, b13⟩
      have H13 := Lib.hid (H12.out.step b13)
      have O13 := Lib.hid (And.intro (O12.out.2.low b13) (own_ints o13))
      clear b13 o13 H12
      go_wp2_with fail
      refine (ints_any B12 B13 _ _ _ _ d12 d13 w13 rfl rfl O13.out.1 O13.out.2 O12.out.1 true (by simp)).mono ?_
      rintro e w14 ⟨rfl, b14⟩
      have H14 := Lib.hid (H13.out.step b14)
      clear b14 H13
      go_wp2_with fail
      go_ret
      exact ⟨rfl, H14.out.b⟩

end Go.Proofs.Yteiojobgjdfdpaa
