/- Walks: the reference's Enter. -/
import Derived.Test.YteiojobgjdfdpaaSc
namespace Go.Proofs.Yteiojobgjdfdpaa
open Go.RowKit Go.Sort

/-- z is a best time to enter, of those until u. -/
structure EntT (a : Arc) (t u z : Int) : Prop where
  lo : t ≤ z
  hi : z ≤ t + 1440
  le : ∀ v, t ≤ v → v < u → z + a.mm true z ≤ v + a.mm true v
theorem EntT.all {a : Arc} {t z : Int} (h : EntT a t (t + 1441) z) : ∀ u, t ≤ u → z + a.mm true z ≤ u + a.mm true u := by
  have key : ∀ k : Nat, ∀ u, t ≤ u → u ≤ t + 1440 + k * 1440 → z + a.mm true z ≤ u + a.mm true u := by
    intro k
    induction k with
    | zero => intro u h1 h2; exact h.le u h1 (by omega)
    | succ k ih =>
      intro u h1 h2
      by_cases hu : u ≤ t + 1440
      · exact h.le u h1 (by omega)
      · have := ih (u - 1440) (by omega) (by omega)
        have e : a.mm true u = a.mm true (u - 1440) := by
          rw [← Arc.mm_day (u - 1440), show u - 1440 + 1440 = u by omega]
        omega
  intro u hu
  exact key (u - t).toNat u hu (by omega)

set_option maxRecDepth 100000 in
set_option maxHeartbeats 8000000 in
theorem enter_any (a : Arc) (A A' : Option Addr) (c c' : Nat) (t : Int) (w : World) (hM : ArcM w a A A') (ho : a.ok) (h0 : 0 ≤ t) (h9 : t ≤ 1048576) :
    Calls Try.prog 32 #[.agg #[.int .i64 a.f, .int .i64 a.t, .slice A 24 c, .slice A' 24 c'], .int .i64 t] w fun e w' => ∃ z, e = .returned (.int .i64 z) ∧ Hid (EntT a t (t + 1441) z) ∧ Below w.heap.size w w' := by
  have HM := Lib.hid (And.intro hM ho)
  have hB := (Below.refl w.heap.size w).alloc (Nat.le_refl _) (.cells #[.int .i64 a.f, .int .i64 a.t, .slice A 24 c, .slice A' 24 c'] 39)
  have hK := Blk.new w 39 #[.int .i64 a.f, .int .i64 a.t, .slice A 24 c, .slice A' 24 c']
  clear hM ho
  go_enter Try.func32, Try.ntmps32
  go_wp2_with fail
  obtain ⟨W, hW⟩ : ∃ W, w.alloc (.cells #[.int .i64 a.f, .int .i64 a.t, .slice A 24 c, .slice A' 24 c'] 39) = W := ⟨_, rfl⟩
  rw [hW] at hB hK ⊢
  clear hW
  obtain ⟨C, hC⟩ : ∃ C, w.heap.size = C := ⟨_, rfl⟩
  rw [hC] at hK
  have HK := Lib.hid (And.intro hB hK)
  clear hB hK
  go_loopw [5, 6] (fun zv uv wr => ∃ z u : Int, zv = .int .i64 z ∧ uv = .int .i64 u ∧ t ≤ u ∧ u ≤ t + 1441 ∧ t ≤ z ∧ z ≤ t + 1440 ∧ Hid (∀ v, t ≤ v → v < u → z + a.mm true z ≤ v + a.mm true v) ∧ Hid (Below W.heap.size W wr)) (fun _ uv _ => (t + 1441 - intOf uv).toNat)
  case atStart => exact ⟨t, t, rfl, rfl, by omega, by omega, by omega, by omega, Lib.hid (fun v h1 h2 => by omega), Lib.hid (Below.refl _ _)⟩
  case round =>
    obtain ⟨z, u, rfl, rfl, hu0, hu1, hz0, hz1, hI, hBr⟩ := hrel
    have hKr := HK.out.2.below hBr.out HK.out.2.lt
    by_cases hgo : u ≤ t + 1440
    · have c3 : wr.cell? ⟨C, 3, none⟩ = some (.slice A' 24 c') := hKr.cell 3
      have hMr := HM.out.1.below (HK.out.1.trans (hBr.out.mono HK.out.1.size))
      have hh := HM.out.2.2.2.2.1
      have lu := hr_lt u
      have lz := hr_lt z
      obtain ⟨g, o, hAe, hg, k1⟩ := hMr.hi.get (k := hr u) (by omega)
      obtain ⟨g', o', hAe', hg', k2⟩ := hMr.hi.get (k := hr z) (by omega)
      subst hAe
      injection hAe' with hAe'
      injection hAe' with e1 e2 _
      subst e1; subst e2
      have m1 : a.mm true u = a.hi.getD (hr u) 0 := rfl
      have m2 : a.mm true z = a.hi.getD (hr z) 0 := rfl
      have b1 := HM.out.2.mm true u
      have b2 := HM.out.2.mm true z
      have HIs := Lib.hid (fun (h : u + a.mm true u < z + a.mm true z) => show ∀ v, t ≤ v → v < u + 1 → u + a.mm true u ≤ v + a.mm true v from fun v h1 h2 => by
        by_cases e : v < u
        · have := hI.out v h1 e; omega
        · have : v = u := by omega
          subst this; omega)
      have HIn := Lib.hid (fun (h : ¬ u + a.mm true u < z + a.mm true z) => show ∀ v, t ≤ v → v < u + 1 → z + a.mm true z ≤ v + a.mm true v from fun v h1 h2 => by
        by_cases e : v < u
        · exact hI.out v h1 e
        · have : v = u := by omega
          subst this; omega)
      have d1 : u.tdiv 60 = u / 60 := Int.tdiv_eq_ediv_of_nonneg (by omega)
      have d2 : z.tdiv 60 = z / 60 := Int.tdiv_eq_ediv_of_nonneg (by omega)
      have f1 : (u / 60).tmod 24 = (hr u : Int) := by rw [Int.tmod_eq_emod_of_nonneg (by omega)]; exact hr_eq (by omega)
      have f2 : (z / 60).tmod 24 = (hr z : Int) := by rw [Int.tmod_eq_emod_of_nonneg (by omega)]; exact hr_eq (by omega)
      have x1 : 0 ≤ u / 60 ∧ u / 60 ≤ 20000 := by omega
      have x2 : 0 ≤ z / 60 ∧ z / 60 ≤ 20000 := by omega
      rw [← m1] at k1
      rw [← m2] at k2
      obtain ⟨M1, hM1⟩ : ∃ M, a.mm true u = M := ⟨_, rfl⟩
      obtain ⟨M2, hM2⟩ : ∃ M, a.mm true z = M := ⟨_, rfl⟩
      rw [hM1] at k1 b1 HIs HIn
      rw [hM2] at k2 b2 HIs HIn
      obtain ⟨p1, hp1⟩ : ∃ p, u / 60 = p := ⟨_, rfl⟩
      obtain ⟨p2, hp2⟩ : ∃ p, z / 60 = p := ⟨_, rfl⟩
      obtain ⟨q1, hq1⟩ : ∃ p, hr u = p := ⟨_, rfl⟩
      obtain ⟨q2, hq2⟩ : ∃ p, hr z = p := ⟨_, rfl⟩
      rw [hp1] at d1 f1 x1
      rw [hp2] at d2 f2 x2
      rw [hq1] at f1 lu k1
      rw [hq2] at f2 lz k2
      have HM12 := Lib.hid (And.intro hM1 hM2)
      have w1 : IntKind.i64.wrap p1 = p1 := by rw [IntKind.wrap_i64]; omega
      have w2 : IntKind.i64.wrap p2 = p2 := by rw [IntKind.wrap_i64]; omega
      have w3 : IntKind.i64.wrap (u + M1) = u + M1 := by rw [IntKind.wrap_i64]; omega
      have w4 : IntKind.i64.wrap (z + M2) = z + M2 := by rw [IntKind.wrap_i64]; omega
      clear hMr hKr m1 m2 hM1 hM2 hp1 hp2 hq1 hq2 hh
      by_cases hc : u + M1 < z + M2
      · have HN := Lib.hid (HIs.out hc)
        clear HIs HIn
        go_upto_region 5 with fail
        go_quiet (fail)
        go_wp2_with fail
        go_roundw
        case rel => exact ⟨u, u + 1, rfl, rfl, by omega, by omega, by omega, by omega, Lib.hid (by have := HN.out; rw [HM12.out.1]; exact this), Lib.hid (below_drewN hBr.out _)⟩
        case measure => simp [intOf]; omega
      · have HN := Lib.hid (HIn.out hc)
        clear HIs HIn
        go_upto_region 5 with fail
        go_quiet (fail)
        go_wp2_with fail
        go_roundw
        case rel => exact ⟨z, u + 1, rfl, rfl, by omega, by omega, by omega, by omega, Lib.hid (by have := HN.out; rw [HM12.out.2]; exact this), Lib.hid (below_drewN hBr.out _)⟩
        case measure => simp [intOf]; omega
    · have e : u = t + 1441 := by omega
      subst e
      go_wp2_with fail
      go_ret
      exact ⟨z, rfl, Lib.hid ⟨hz0, hz1, hI.out⟩, hC ▸ HK.out.1.trans (hBr.out.mono HK.out.1.size)⟩

end Go.Proofs.Yteiojobgjdfdpaa
