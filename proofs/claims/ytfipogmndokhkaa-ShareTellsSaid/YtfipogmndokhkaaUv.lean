/- The law ShareChanges: facts. -/
import Derived.Test.YtfipogmndokhkaaUu
namespace Go.Proofs.Ytfipogmndokhkaa
open Go.RowKit

theorem pc_setY (m : List (Int × Int)) (i : Nat) (y : Int) (h : i < m.length) : (pc m).set (i * 2 + 1) (.int .i64 y) = pc (m.set i ((m.getD i (0, 0)).1, y)) := by
  induction m generalizing i with
  | nil => simp at h
  | cons q m ih =>
    cases i with
    | zero => simp [pc]
    | succ i =>
      have h := ih i (by simpa using h)
      have e1 : (i + 1) * 2 + 1 = i * 2 + 1 + 1 + 1 := by omega
      have e3 : ∀ l, pc (q :: l) = Value.int .i64 q.1 :: Value.int .i64 q.2 :: pc l := fun _ => rfl
      rw [List.set_cons_succ, e3, e3, e1]
      simp only [List.set_cons_succ]
      rw [h]
      rfl
theorem OwnS.storeY {w : World} {B : Nat} {ds : List (Int × Int)} {g n cap : Nat} (h : OwnS w B (.slice (some ⟨g, 0, none⟩) n cap) ds) (hn : ds.length = n) (k : Nat) (hk : k < n) (y : Int) :
    OwnS (w.setCell ⟨g, k * 2 + 1, none⟩ (.int .i64 y)) B (.slice (some ⟨g, 0, none⟩) n cap) (ds.set k ((ds.getD k (0, 0)).1, y)) := by
  subst hn
  have h1 := (World.ownsRow.stored h (k * 2 + 1) (.int .i64 y)).1
  unfold OwnS
  rw [List.length_set, ← pc_setY ds k y hk]
  exact h1
theorem OwnS.base {w : World} {B : Nat} {ds : List (Int × Int)} {v : Value} (h : OwnS w B v ds) (hn : 0 < ds.length) : ∃ g c, v = .slice (some ⟨g, 0, none⟩) ds.length c := by
  rcases h.2 with ⟨_, hz⟩ | ⟨g, cap, cur, rfl, _⟩
  · omega
  · exact ⟨g, cap, rfl⟩

/-- F with i's value bent. -/
def bendF (F : Nat → Int) (i : Nat) (y : Int) (j : Nat) : Int := if j = i then y else F j
theorem gl_set (F : Nat → Int) (n i : Nat) (y : Int) (hi : i < n) : (gl F n).set i (((gl F n).getD i (0, 0)).1, y) = gl (bendF F i y) n := by
  rw [gl_get F hi]
  apply List.ext_getElem
  · simp [gl]
  · intro j h1 h2
    rw [List.getElem_set]
    by_cases h : i = j
    · subst h
      simp [gl, bendF]
    · rw [if_neg h]
      have h' : ¬ j = i := fun e => h e.symm
      simp [gl, bendF, h']

variable {F : Nat → Int} {m q i : Nat} {f : Int → Int} {s d : Int}

theorem rest_sub (l : List (Int × Int)) (i : Nat) : (l.take i ++ l.drop (i + 1)).Sublist l := by
  rw [← List.eraseIdx_eq_take_drop_succ]
  exact List.eraseIdx_sublist _ _
theorem rest_len (l : List (Int × Int)) {i : Nat} (hi : i < l.length) : (l.take i ++ l.drop (i + 1)).length = l.length - 1 := by
  rw [List.length_append, List.length_take, List.length_drop]
  omega
theorem rest_nodup {l : List (Int × Int)} (h : (l.map (·.1)).Nodup) (i : Nat) : ((l.take i ++ l.drop (i + 1)).map (·.1)).Nodup := List.Sublist.nodup ((rest_sub l i).map _) h
/-- A place apart from i is the same in both. -/
theorem rest_mem {F F' : Nat → Int} {m i : Nat} (h : ∀ j, j ≠ i → F j = F' j) {e : Int × Int} (he : e ∈ (gl F m).take i ++ (gl F m).drop (i + 1)) (hi : i < m) : e ∈ gl F' m ∧ e.1 ≠ (i : Int) + 1 := by
  have hk : ∃ j, j < m ∧ j ≠ i ∧ e = ((j : Int) + 1, F j) := by
    rcases List.mem_append.1 he with h1 | h1
    · obtain ⟨j, hj, rfl⟩ := List.mem_iff_getElem.1 h1
      rw [List.length_take, gl_len] at hj
      exact ⟨j, by omega, by omega, by simp [gl]⟩
    · obtain ⟨j, hj, rfl⟩ := List.mem_iff_getElem.1 h1
      rw [List.length_drop, gl_len] at hj
      exact ⟨i + 1 + j, by omega, by omega, by simp [gl]⟩
  obtain ⟨j, h1, h2, rfl⟩ := hk
  refine ⟨?_, by simp only; omega⟩
  rw [h j h2]
  exact List.mem_map.2 ⟨j, List.mem_range.2 h1, rfl⟩

/-- A polynomial through the bent points that agrees elsewhere does not exist. -/
theorem bent_far {g : Int → Int} (hd0 : 0 ≤ d) (hd1 : d < 2147483647) (hd : d ≠ 0) (hfi : Cg (f ((i : Int) + 1)) (F i)) (hgi : Cg (g ((i : Int) + 1)) ((F i + d) % 2147483647)) : ¬ ∀ x, Cg (g x) (f x) := fun h => by
  have h1 := (hgi.symm.trans (h _)).trans hfi
  have h2 := (Cg.mod (F i + d)).symm.trans h1
  have h3 : Cg d 0 := by
    obtain ⟨t, ht⟩ := h2
    exact ⟨t, by omega⟩
  exact hd (h3.lt hd0 hd1)

theorem bent_bad (hm : m ≤ 20) (hq : q < m) (hi : i < m) (hF : ∀ j, 0 ≤ F j ∧ F j < 2147483647) (hd0 : 0 ≤ d) (hd1 : d < 2147483647) (hd : d ≠ 0) (hf : Pol q f) (ht : ∀ j : Nat, Cg (f ((j : Int) + 1)) (F j)) :
    ¬ OnP (gl (bendF F i ((F i + d) % 2147483647)) m) q := fun ⟨g, hg, hgt⟩ => by
  have hn := gl_nodup F m
  have hrn := rest_nodup hn i
  have hfd : Fd ((gl F m).take i ++ (gl F m).drop (i + 1)) := fun e he => (gl_rt hm (fun j _ => hF j)).fd e ((rest_sub _ _).subset he)
  have hap := apart_of hfd hrn
  refine bent_far hd0 hd1 hd (ht i) ?_ (Pol.same_le _ ?_ hg hf hap fun r hr => ?_)
  · have h1 := hgt i (by rw [gl_len]; exact hi)
    rw [gl_get _ hi] at h1
    simpa [bendF] using h1
  · rw [List.length_map, rest_len _ (by rw [gl_len]; exact hi), gl_len]
    omega
  · obtain ⟨e, he, rfl⟩ := List.mem_map.1 hr
    have h1 := (rest_mem (F' := bendF F i ((F i + d) % 2147483647)) (fun j hj => by simp [bendF, hj]) he hi).1
    have h2 := hgt.mem e h1
    obtain ⟨j, _, hej⟩ := gl_mem ((rest_sub _ _).subset he)
    have h3 := ht j
    rw [hej] at h2 ⊢
    exact h2.trans h3.symm
theorem bent_other {g : Int → Int} (hm : m ≤ 20) (hi : i < m) (hF : ∀ j, 0 ≤ F j ∧ F j < 2147483647) (hd0 : 0 ≤ d) (hd1 : d < 2147483647) (hd : d ≠ 0) (hf : Pol m f) (ht : ∀ j : Nat, Cg (f ((j : Int) + 1)) (F j)) (hg : Pol m g) (hgt : Thru g (gl (bendF F i ((F i + d) % 2147483647)) m)) :
    ¬ Cg (g 0) (f 0) := fun h0 => by
  have hn := gl_nodup F m
  have hrn := rest_nodup hn i
  have hrt : Rt ((gl F m).take i ++ (gl F m).drop (i + 1)) := fun e he => (gl_rt hm (fun j _ => hF j)) e ((rest_sub _ _).subset he)
  have hap := apart_of (fd_cons _ (secret := 0) (by decide) (by decide) hrt) (nodup_cons _ hrt hrn)
  refine bent_far hd0 hd1 hd (ht i) ?_ (Pol.same_le _ ?_ hg hf hap fun r hr => ?_)
  · have h1 := hgt i (by rw [gl_len]; exact hi)
    rw [gl_get _ hi] at h1
    simpa [bendF] using h1
  · rw [List.length_map, List.length_cons, rest_len _ (by rw [gl_len]; exact hi), gl_len]
    omega
  · obtain ⟨e, he, rfl⟩ := List.mem_map.1 hr
    rcases List.mem_cons.1 he with rfl | he
    · exact h0
    have h1 := (rest_mem (F' := bendF F i ((F i + d) % 2147483647)) (fun j hj => by simp [bendF, hj]) he hi).1
    have h2 := hgt.mem e h1
    obtain ⟨j, _, hej⟩ := gl_mem ((rest_sub _ _).subset he)
    have h3 := ht j
    rw [hej] at h2 ⊢
    exact h2.trans h3.symm

/-- What Join says of the bent shares. -/
theorem bent_join (B0 : Nat) (hm : m ≤ 20) (hq1 : 1 ≤ q) (hq : q ≤ m) (hi : i < m) (hF : ∀ j, 0 ≤ F j ∧ F j < 2147483647) (hd0 : 0 ≤ d) (hd1 : d < 2147483647) (hf : Pol q f) (ht : ∀ j : Nat, Cg (f ((j : Int) + 1)) (F j)) (hf0 : f 0 = s) (hs0 : 0 ≤ s) (hs1 : s < 2147483647) :
    ∃ zb eb : Int, (∀ (w1 : World) (v : Value), OwnS w1 B0 v (gl (bendF F i ((F i + d) % 2147483647)) m) → Calls Try.prog 10 #[v, .int .i64 q] w1 fun e w' => e = .returned (.tuple #[.int .i64 zb, .int .i64 eb]) ∧ Below w1.heap.size w1 w') ∧
      ((d = 0 ∧ eb = 0 ∧ zb = s) ∨ (d ≠ 0 ∧ q < m ∧ eb = 23 ∧ zb = 0) ∨ (d ≠ 0 ∧ q = m ∧ eb = 0 ∧ zb ≠ s)) := by
  have hbr : ∀ j, j < m → 0 ≤ bendF F i ((F i + d) % 2147483647) j ∧ bendF F i ((F i + d) % 2147483647) j < 2147483647 := fun j _ => by
    unfold bendF
    split
    · omega
    · exact hF j
  have hrt := gl_rt hm hbr
  have hnd := gl_nodup (bendF F i ((F i + d) % 2147483647)) m
  have hlen := gl_len (bendF F i ((F i + d) % 2147483647)) m
  by_cases hd : d = 0
  · refine ⟨s, 0, fun w1 v ho => ?_, .inl ⟨hd, rfl, rfl⟩⟩
    obtain ⟨A, c, rfl, hc1, hc2, hS⟩ := ho.at_
    have h := join_ok _ A c w1 q hS (by omega) hc1 hc2 hq1 (by omega) hrt hnd (by omega) f hf (gl_thru fun j _ => by
      unfold bendF
      split
      · rename_i e
        subst e
        rw [hd, Int.add_zero]
        exact (ht j).trans (Cg.mod _).symm
      · exact ht j)
    rw [hf0, Int.emod_eq_of_lt hs0 hs1] at h
    exact h
  · by_cases hqm : q < m
    · refine ⟨0, 23, fun w1 v ho => ?_, .inr (.inl ⟨hd, hqm, rfl, rfl⟩)⟩
      obtain ⟨A, c, rfl, hc1, hc2, hS⟩ := ho.at_
      exact join_check _ A c w1 q hS (by omega) hc1 hc2 hq1 (by omega) hrt hnd (by omega) (bent_bad hm hqm hi hF hd0 hd1 hd hf ht)
    · have : q = m := by omega
      subst this
      obtain ⟨g, hg, hgt⟩ := onP_few (k := q) (apart_of hrt.fd hnd) (by omega)
      refine ⟨g 0 % 2147483647, 0, fun w1 v ho => ?_, .inr (.inr ⟨hd, rfl, rfl, fun e => ?_⟩)⟩
      · obtain ⟨A, c, rfl, hc1, hc2, hS⟩ := ho.at_
        exact join_ok _ A c w1 q hS (by omega) hc1 hc2 hq1 (by omega) hrt hnd (by omega) g hg hgt
      · refine bent_other hm hi hF hd0 hd1 hd hf ht hg hgt ?_
        rw [hf0, ← e]
        exact (Cg.mod _).symm
/-- What Join says of the others. -/
theorem rest_join (B0 : Nat) (hm : m ≤ 20) (hq1 : 1 ≤ q) (hq : q ≤ m) (hi : i < m) (hF : ∀ j, 0 ≤ F j ∧ F j < 2147483647) (hf : Pol q f) (ht : ∀ j : Nat, Cg (f ((j : Int) + 1)) (F j)) (hf0 : f 0 = s) (hs0 : 0 ≤ s) (hs1 : s < 2147483647) :
    ∃ zr er : Int, (∀ (w1 : World) (v : Value), OwnS w1 B0 v ((gl F m).take i ++ (gl F m).drop (i + 1)) → Calls Try.prog 10 #[v, .int .i64 q] w1 fun e w' => e = .returned (.tuple #[.int .i64 zr, .int .i64 er]) ∧ Below w1.heap.size w1 w') ∧
      ((q < m ∧ er = 0 ∧ zr = s) ∨ (q = m ∧ er = 21 ∧ zr = 0)) := by
  have hrn := rest_nodup (gl_nodup F m) i
  have hrt : Rt ((gl F m).take i ++ (gl F m).drop (i + 1)) := fun e he => (gl_rt hm (fun j _ => hF j)) e ((rest_sub _ _).subset he)
  have hlen := rest_len (gl F m) (i := i) (by rw [gl_len]; exact hi)
  rw [gl_len] at hlen
  by_cases hqm : q < m
  · refine ⟨s, 0, fun w1 v ho => ?_, .inl ⟨hqm, rfl, rfl⟩⟩
    obtain ⟨A, c, rfl, hc1, hc2, hS⟩ := ho.at_
    have h := join_ok _ A c w1 q hS (by omega) hc1 hc2 hq1 (by omega) hrt hrn (by omega) f hf ((gl_thru fun j _ => ht j).sub fun e he => (rest_sub _ _).subset he)
    rw [hf0, Int.emod_eq_of_lt hs0 hs1] at h
    exact h
  · refine ⟨0, 21, fun w1 v ho => ?_, .inr ⟨by omega, rfl, rfl⟩⟩
    obtain ⟨A, c, rfl, hc1, hc2, hS⟩ := ho.at_
    exact join_few _ A c w1 q hS (by omega) hq1 (by omega) hrt hrn (by omega)

end Go.Proofs.Ytfipogmndokhkaa
