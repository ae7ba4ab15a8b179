/- Plain: Newton's divided differences; the sum of powers; at most twenty. -/
import Derived.Test.YtfipogmndokhkaaUt
namespace Go.Proofs.Ytfipogmndokhkaa
open Go.RowKit

theorem Pol.pow : ∀ n : Nat, Pol (n + 1) (fun x => x ^ n)
  | 0 => (Pol.const 1).of fun x => by simp
  | n + 1 => ((Pol.pow n).mulx 0).of fun x => by rw [Int.pow_succ]; grind

section
variable (X Y : Nat → Int)
/-- z is the leading factor of a polynomial of degree n through the points a .. a + n. -/
def Wd (a n : Nat) (z : Int) : Prop := ∃ g, Pol n g ∧ ∀ j, j ≤ n → Cg (g (X (a + j)) + z * X (a + j) ^ n) (Y (a + j))
theorem Wd.zero (a : Nat) {z : Int} (h : z = Y a) : Wd X Y a 0 z := ⟨fun _ => 0, Pol.zero 0, fun j hj => by
  have : j = 0 := by omega
  subst this
  refine Cg.of_eq ?_
  rw [h]
  simp⟩
variable {X Y}
theorem Wd.step {a n : Nat} {z1 z2 z v : Int} (h1 : Wd X Y a n z1) (h2 : Wd X Y (a + 1) n z2) (hv : Cg ((X (a + n + 1) - X a) * v) 1) (hz : Cg z ((z2 - z1) * v)) : Wd X Y a (n + 1) z := by
  obtain ⟨g1, p1, t1⟩ := h1
  obtain ⟨g2, p2, t2⟩ := h2
  refine ⟨fun x => (g1 x + z1 * x ^ n) + (v * ((g2 x - g1 x) * (x - X a)) - (X a * (z2 - z1) * v) * x ^ n), ?_, fun j hj => ?_⟩
  · exact (p1.up.add ((Pol.pow n).smul z1)).add ((((p2.sub p1).mulx (X a)).smul v).sub ((Pol.pow n).smul _))
  · have key : ∀ x : Int, (g1 x + z1 * x ^ n) + (v * ((g2 x - g1 x) * (x - X a)) - (X a * (z2 - z1) * v) * x ^ n) + ((z2 - z1) * v) * x ^ (n + 1) = (g1 x + z1 * x ^ n) + v * (x - X a) * ((g2 x + z2 * x ^ n) - (g1 x + z1 * x ^ n)) := fun x => by
      rw [Int.pow_succ]
      generalize x ^ n = y
      grind
    have h3 : Cg ((g1 (X (a + j)) + z1 * X (a + j) ^ n) + (v * ((g2 (X (a + j)) - g1 (X (a + j))) * (X (a + j) - X a)) - (X a * (z2 - z1) * v) * X (a + j) ^ n) + z * X (a + j) ^ (n + 1)) ((g1 (X (a + j)) + z1 * X (a + j) ^ n) + v * (X (a + j) - X a) * ((g2 (X (a + j)) + z2 * X (a + j) ^ n) - (g1 (X (a + j)) + z1 * X (a + j) ^ n))) := by
      rw [← key]
      exact (Cg.refl _).add (hz.mul (Cg.refl _))
    refine h3.trans ?_
    rcases Nat.eq_zero_or_pos j with rfl | hj0
    · have h4 : v * (X (a + 0) - X a) * ((g2 (X (a + 0)) + z2 * X (a + 0) ^ n) - (g1 (X (a + 0)) + z1 * X (a + 0) ^ n)) = 0 := by
        rw [Nat.add_zero, Int.sub_self, Int.mul_zero, Int.zero_mul]
      rw [h4, Int.add_zero]
      exact t1 0 (by omega)
    · obtain ⟨i, rfl⟩ : ∃ i, j = i + 1 := ⟨j - 1, by omega⟩
      have e : a + (i + 1) = a + 1 + i := by omega
      by_cases hjn : i + 1 ≤ n
      · have h5 := t1 (i + 1) hjn
        have h6 := t2 i (by omega)
        rw [← e] at h6
        have h7 := h5.add ((Cg.refl (v * (X (a + (i + 1)) - X a))).mul (h6.sub h5))
        rw [Int.sub_self, Int.mul_zero, Int.add_zero] at h7
        exact h7
      · have hi : i = n := by omega
        subst hi
        have h6 := t2 i (by omega)
        rw [← e] at h6
        have hv' : Cg (v * (X (a + (i + 1)) - X a)) 1 := by
          rw [Int.mul_comm]
          exact hv
        generalize g1 (X (a + (i + 1))) + z1 * X (a + (i + 1)) ^ i = P1 at *
        generalize g2 (X (a + (i + 1))) + z2 * X (a + (i + 1)) ^ i = P2 at *
        have h7 := (Cg.refl P1).add (hv'.mul (Cg.refl (P2 - P1)))
        refine h7.trans (Cg.trans (Cg.of_eq ?_) h6)
        omega
end

/-- Newton's form. -/
def nest : List (Int × Int) → Int → Int
  | [], _ => 0
  | d :: r, x => nest r x * (x - d.1) + d.2
def prod (l : List (Int × Int)) (x : Int) : Int := match l with
  | [] => 1
  | d :: r => prod r x * (x - d.1)
theorem nest_snoc (x : Int) (d : Int × Int) : ∀ l : List (Int × Int), nest (l ++ [d]) x = nest l x + d.2 * prod l x
  | [] => by simp [nest, prod]
  | e :: l => by
    rw [List.cons_append, nest, nest, prod, nest_snoc x d l]
    grind
theorem prod_snoc (x : Int) (d : Int × Int) : ∀ l : List (Int × Int), prod (l ++ [d]) x = prod l x * (x - d.1)
  | [] => by simp [prod]
  | e :: l => by
    rw [List.cons_append, prod, prod, prod_snoc x d l]
    grind
theorem prod_zero {l : List (Int × Int)} {d : Int × Int} (h : d ∈ l) : prod l d.1 = 0 := by
  induction l with
  | nil => simp at h
  | cons e l ih =>
    rw [prod]
    rcases List.mem_cons.1 h with rfl | h
    · rw [Int.sub_self, Int.mul_zero]
    · rw [ih h, Int.zero_mul]
theorem prod_pol : ∀ l : List (Int × Int), Pol (l.length + 1) (prod l)
  | [] => (Pol.const 1).of fun _ => rfl
  | e :: l => ((prod_pol l).mulx e.1).of fun _ => rfl
theorem nest_pol : ∀ l : List (Int × Int), Pol l.length (nest l)
  | [] => (Pol.zero 0).of fun _ => rfl
  | e :: l => (((nest_pol l).mulx e.1).add ((Pol.const e.2).mono (by omega))).of fun x => rfl
/-- The product is the power, but for a polynomial of a lower degree. -/
theorem prod_lead : ∀ l : List (Int × Int), ∃ h, Pol l.length h ∧ ∀ x, prod l x = x ^ l.length + h x
  | [] => ⟨fun _ => 0, Pol.zero 0, fun x => by simp [prod]⟩
  | e :: l => by
    obtain ⟨h, h1, h2⟩ := prod_lead l
    refine ⟨fun x => h x * (x - e.1) - e.1 * x ^ l.length, (h1.mulx e.1).sub ((Pol.pow l.length).smul e.1), fun x => ?_⟩
    rw [prod, h2, List.length_cons, Int.pow_succ]
    show (x ^ l.length + h x) * (x - e.1) = x ^ l.length * x + (h x * (x - e.1) - e.1 * x ^ l.length)
    generalize x ^ l.length = y
    grind
theorem nest_drop (l : List (Int × Int)) (x : Int) (k : Nat) (h : k < l.length) : nest (l.drop k) x = nest (l.drop (k + 1)) x * (x - (l.getD k (0, 0)).1) + (l.getD k (0, 0)).2 := by
  rw [List.drop_eq_getElem_cons h, nest, List.getD_eq_getElem?_getD, List.getElem?_eq_getElem h]
  rfl
def nw (X D : Nat → Int) (n : Nat) : List (Int × Int) := (List.range n).map fun i => (X i, D i)
theorem nw_len (X D : Nat → Int) (n : Nat) : (nw X D n).length = n := by simp [nw]
theorem nw_succ (X D : Nat → Int) (n : Nat) : nw X D (n + 1) = nw X D n ++ [(X n, D n)] := by
  unfold nw
  rw [List.range_succ, List.map_append]
  rfl
theorem nw_get (X D : Nat → Int) {n i : Nat} (hi : i < n) : (nw X D n).getD i (0, 0) = (X i, D i) := by
  unfold nw
  rw [List.getD_eq_getElem?_getD, List.getElem?_map, List.getElem?_range hi]
  rfl
theorem nw_mem {X D : Nat → Int} {n i : Nat} (hi : i < n) : (X i, D i) ∈ nw X D n := List.mem_map.2 ⟨i, List.mem_range.2 hi, rfl⟩
/-- Newton's form has the values of the points. -/
theorem newton {X Y D : Nat → Int} {k : Nat} (ha : ∀ i j, i < k → j < k → i ≠ j → ¬ Cg (X i) (X j)) (hD : ∀ m, m < k → Wd X Y 0 m (D m)) : ∀ n, n ≤ k → ∀ i, i < n → Cg (nest (nw X D n) (X i)) (Y i)
  | 0, _ => fun i hi => by omega
  | n + 1, hn => by
    have ih := newton ha hD n (by omega)
    obtain ⟨g, hg, ht⟩ := hD n (by omega)
    obtain ⟨h, hh, hp⟩ := prod_lead (nw X D n)
    rw [nw_len] at hh hp
    have hpol : Pol n (fun x => g x - D n * h x) := hg.sub (hh.smul _)
    have hnp := nest_pol (nw X D n)
    rw [nw_len] at hnp
    have hap : Apart ((List.range n).map X) := Apart.of_get fun i j hij hj => by
      rw [List.length_map, List.length_range] at hj
      rw [List.getD_eq_getElem?_getD, List.getD_eq_getElem?_getD, List.getElem?_map, List.getElem?_map, List.getElem?_range (by omega), List.getElem?_range hj]
      exact ha i j (by omega) (by omega) (by omega)
    have hsame := fun x => Pol.same_le ((List.range n).map X) (k := n) (by simp) hnp hpol hap (fun r hr => by
      obtain ⟨i, hi, rfl⟩ := List.mem_map.1 hr
      have hi' := List.mem_range.1 hi
      have h1 := ht i (by omega)
      rw [Nat.zero_add] at h1
      have h2 := prod_zero (nw_mem (X := X) (D := D) hi')
      rw [hp] at h2
      simp only at h2
      refine (ih i hi').trans (h1.symm.trans (Cg.of_eq ?_))
      have e : h (X i) = - X i ^ n := by omega
      rw [e]
      grind) x
    intro i hi
    rw [nw_succ, nest_snoc]
    have h1 := ht i (by omega)
    rw [Nat.zero_add] at h1
    have h2 := (hsame (X i)).add (Cg.refl (D n * prod (nw X D n) (X i)))
    refine h2.trans (Cg.trans (Cg.of_eq ?_) h1)
    rw [hp]
    grind

theorem ev_snoc (x c : Int) : ∀ l : List Int, ev (l ++ [c]) x = ev l x + c * x ^ l.length
  | [] => by simp [ev]
  | d :: l => by
    rw [List.cons_append, ev, ev, ev_snoc x c l, List.length_cons, Int.pow_succ]
    generalize x ^ l.length = y
    grind
theorem nodup_le : ∀ (n : Nat) (l : List Int), l.Nodup → (∀ x ∈ l, 1 ≤ x ∧ x ≤ n) → l.length ≤ n
  | 0, l, _, h => by
    cases l with
    | nil => exact Nat.le_refl _
    | cons x l => have := h x (by simp); omega
  | n + 1, l, hn, h => by
    have h1 := nodup_le n (l.erase ((n + 1 : Nat) : Int)) (hn.erase _) (fun x hx => by
      have h2 := h x (List.mem_of_mem_erase hx)
      have h3 : x ≠ ((n + 1 : Nat) : Int) := fun e => by
        subst e
        exact hn.not_mem_erase hx
      omega)
    rw [List.length_erase] at h1
    split at h1 <;> omega

end Go.Proofs.Ytfipogmndokhkaa
