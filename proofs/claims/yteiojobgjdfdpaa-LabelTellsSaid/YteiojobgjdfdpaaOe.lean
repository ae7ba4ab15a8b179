/- Walks: the reference's Sound. -/
import Derived.Test.YteiojobgjdfdpaaOd
namespace Go.Proofs.Yteiojobgjdfdpaa
open Go.RowKit Go.Sort

/-- What the reference asks of a node. -/
def NodeP (n : Nat) (l : List Am) (src : Nat) (t : Int) (b : Bool) (lab : List Lb) (v : Nat) : Prop :=
  FollP l src t b lab v ∧ (v ≠ src → (lb lab v).1 ≠ -1 → bk l src lab (n + 1) v = true)
theorem sound_nodes {n : Nat} {l : List Am} {src : Nat} {t : Int} {b : Bool} {lab : List Lb} (hR : RRight n l) (hs : src < n) (hl : lab.length = n) : SoundP l src t b lab ↔ ∀ v, v < n → NodeP n l src t b lab v := by
  constructor
  · intro h v hv
    have hfo : ∀ v, v < n → FollP l src t b lab v := fun v hv => h.fo v (by omega)
    exact ⟨hfo v hv, fun _ hr => (back_iff hR hs hfo hv hr).2 (h.ba v (by omega) hr)⟩
  · intro h
    have hfo : ∀ v, v < n → FollP l src t b lab v := fun v hv => (h v hv).1
    refine ⟨fun v hv => hfo v (by omega), fun v hv hr => ?_⟩
    by_cases hvs : v = src
    · exact ⟨0, hvs⟩
    · exact bk_back _ _ ((h v (by omega)).2 hvs hr)

set_option maxRecDepth 100000 in
set_option maxHeartbeats 16000000 in
theorem sound12_any (l : List Am) (A : Option Addr) (m c src : Nat) (t : Int) (b : Bool) (L : Option Addr) (n c2 : Nat) (lab : List Lb) (w : World) (hl : l.length = m) (hA : ArcsAt w.heap.size w A l) (hR : RRight n l) (hn : lab.length = n) (hL : LbsAt w.heap.size w L lab) (hs : src < n) (r : Bool) (hr : r = true ↔ SoundP l src t b lab) :
    Calls Try.prog 62 #[.slice A m c, .int .i64 src, .int .i64 t, .bool b, .slice L n c2] w fun e w' => e = .returned (.bool r) ∧ Below w.heap.size w w' := by
  have hn2 : n ≤ 2000 := by have := hR.2.1; omega
  have hm2 : m ≤ 20000 := by have := hR.2.2.1; omega
  rw [sound_nodes hR hs hn] at hr
  have hr0 : ¬ (∀ v, v < n → NodeP n l src t b lab v) → r = false := fun h => by
    cases r with
    | false => rfl
    | true => exact absurd (hr.1 rfl) h
  have HR := Lib.hid (And.intro hr hr0); clear hr hr0
  have HA := Lib.hid (And.intro hl (And.intro hA (And.intro hR (And.intro hn (And.intro hL hs)))))
  clear hl hA hR hn hL hs
  go_enter Try.func62, Try.ntmps62
  go_wp2_with fail
  go_loopw [11] (fun iv wr => ∃ (i : Nat), iv = .int .i64 i ∧ i ≤ n ∧ Hid (Below w.heap.size w wr) ∧ Hid (∀ k, k < i → NodeP n l src t b lab k)) (fun iv _ => n - (intOf iv).toNat)
  case atStart => exact ⟨0, rfl, by omega, Lib.hid (Below.refl _ _), Lib.hid (fun k hk => by omega)⟩
  case round =>
    obtain ⟨i, rfl, hi, hB, hK⟩ := hrel
    by_cases hgo : i < n
    · have hAr := (HA.out.2.1.below hB.out).more hB.out.size
      have hLr := (HA.out.2.2.2.2.1.below hB.out).more hB.out.size
      have hno : ¬ NodeP n l src t b lab i → r = false := fun h => HR.out.2 (fun hh => h (hh i hgo))
      have hyes : NodeP n l src t b lab i → ∀ k, k < i + 1 → NodeP n l src t b lab k := fun h k hk => by
        by_cases e : k < i
        · exact hK.out k e
        · have : k = i := by omega
          subst this
          exact h
      have HN := Lib.hid (And.intro hno hyes); clear hno hyes
      obtain ⟨g, off, hLe, hg, k0, k1⟩ := hLr i (by have := HA.out.2.2.2.1; omega)
      subst hLe
      obtain ⟨x, hx⟩ : ∃ x, (lb lab i).1 = x := ⟨_, rfl⟩
      obtain ⟨y, hy⟩ : ∃ y, (lb lab i).2 = y := ⟨_, rfl⟩
      rw [hx] at k0
      rw [hy] at k1
      have HX := Lib.hid (And.intro hx hy)
      clear hx hy
      have bk0 := Blk.new wr 37 #[.int .i64 x, .int .i64 y]
      have hB2 := (Below.refl wr.heap.size wr).alloc (Nat.le_refl _) (.cells #[.int .i64 x, .int .i64 y] 37)
      have HLr := Lib.hid (And.intro hAr hLr)
      clear hAr hLr
      go_upto_region 5 with fail
      obtain ⟨W2, hW2⟩ : ∃ W2, wr.alloc (.cells #[.int .i64 x, .int .i64 y] 37) = W2 := ⟨_, rfl⟩
      rw [hW2] at bk0 hB2 ⊢
      clear hW2 k0 k1
      have HB2 := Lib.hid (And.intro (hB.out.trans (hB2.mono hB.out.size)) (And.intro hB2 bk0))
      have d0 : W2.cell? ⟨wr.heap.size, 0, none⟩ = some (.int .i64 x) := bk0.cell 0
      have d1 : W2.cell? ⟨wr.heap.size, 1, none⟩ = some (.int .i64 y) := bk0.cell 1
      clear hB2 bk0
      by_cases hs : i = src
      · subst hs
        by_cases hxt : x = t
        · by_cases hy1 : y = -1
          · have HY := Lib.hid (HN.out.2 ⟨.inl ⟨rfl, Prod.ext (HX.out.1.trans hxt) (HX.out.2.trans hy1)⟩, fun h => absurd rfl h⟩)
            subst hy1
            have hxx : (x != t) = false := by simpa using hxt
            clear hxt
            go_wp2_with fail
            go_roundw
            case rel => exact ⟨i + 1, rfl, by omega, Lib.hid HB2.out.1, HY⟩
            case measure => simp [intOf]; omega
          · have hrf := HN.out.1 (fun h => by
              rcases h.1 with ⟨_, h2⟩ | ⟨h1, _⟩ | ⟨h1, _⟩
              · exact hy1 (by rw [← HX.out.2, h2])
              · exact absurd rfl h1
              · exact absurd rfl h1)
            subst hrf
            have hxx : (x != t) = false := by simpa using hxt
            have hyy : (y != -1) = true := by simpa using hy1
            clear hxt
            go_wp2_with fail
            go_ret
            exact ⟨by rfl, HB2.out.1⟩
        · have hrf := HN.out.1 (fun h => by
            rcases h.1 with ⟨_, h2⟩ | ⟨h1, _⟩ | ⟨h1, _⟩
            · exact hxt (by rw [← HX.out.1, h2])
            · exact absurd rfl h1
            · exact absurd rfl h1)
          subst hrf
          have hxx : (x != t) = true := by simpa using hxt
          go_wp2_with fail
          go_ret
          exact ⟨by rfl, HB2.out.1⟩
      · have hs2 : ((i : Int) == (src : Int)) = false := by simp; omega
        have hs3 : (i == src) = false := by simpa using hs
        by_cases hx1 : x = -1
        · by_cases hy1 : y = -1
          · have HY := Lib.hid (HN.out.2 ⟨.inr (.inl ⟨hs, HX.out.1.trans hx1, HX.out.2.trans hy1⟩), fun _ h => absurd (HX.out.1.trans hx1) h⟩)
            subst hx1; subst hy1
            go_wp2_with fail
            go_roundw
            case rel => exact ⟨i + 1, rfl, by omega, Lib.hid HB2.out.1, HY⟩
            case measure => simp [intOf]; omega
          · have hrf := HN.out.1 (fun h => by
              rcases h.1 with ⟨h1, _⟩ | ⟨_, _, h2⟩ | ⟨_, h1, _⟩
              · exact hs h1
              · exact hy1 (HX.out.2.symm.trans h2)
              · exact h1 (HX.out.1.trans hx1))
            subst hrf
            subst hx1
            have hyy : (y != -1) = true := by simpa using hy1
            go_wp2_with fail
            go_ret
            exact ⟨by rfl, HB2.out.1⟩
        · have hxx : (x == -1) = false := by simpa using hx1
          by_cases hT : IsT x
          rotate_left
          · have hrf := HN.out.1 (fun h => by
              rcases h.1 with ⟨h1, _⟩ | ⟨_, h1, _⟩ | ⟨_, _, h1, _⟩
              · exact hs h1
              · exact hx1 (HX.out.1.symm.trans h1)
              · rw [HX.out.1] at h1; exact hT h1)
            subst hrf
            have HTm := Lib.hid (r12Time_any x W2 false (decide_eq_false hT).symm)
            clear hT
            go_wp2_with fail
            refine HTm.out.mono ?_
            rintro e w3 ⟨rfl, rfl⟩
            go_wp2_with fail
            go_ret
            exact ⟨by rfl, HB2.out.1⟩
          · have HTm := Lib.hid (r12Time_any x W2 true (decide_eq_true hT).symm)
            have HTx := Lib.hid hT; clear hT
            by_cases hyr : 0 ≤ y ∧ y < (m : Int)
            rotate_left
            · have hrf := HN.out.1 (fun h => by
                rcases h.1 with ⟨h1, _⟩ | ⟨_, h1, _⟩ | ⟨_, _, _, j, hj, hb, _⟩
                · exact hs h1
                · exact hx1 (HX.out.1.symm.trans h1)
                · rw [HX.out.2] at hb
                  exact hyr ⟨by omega, by have := HA.out.1; omega⟩)
              subst hrf
              by_cases hy0 : y < 0
              · go_wp2_with fail
                refine HTm.out.mono ?_
                rintro e w3 ⟨rfl, rfl⟩
                go_wp2_with fail
                go_ret
                exact ⟨by rfl, HB2.out.1⟩
              · have hym : (m : Int) ≤ y := by omega
                go_wp2_with fail
                refine HTm.out.mono ?_
                rintro e w3 ⟨rfl, rfl⟩
                go_wp2_with fail
                go_ret
                exact ⟨by rfl, HB2.out.1⟩
            · obtain ⟨j, rfl⟩ : ∃ j : Nat, y = (j : Int) := ⟨y.toNat, by omega⟩
              have hjm : j < m := by omega
              have hjl : j < l.length := by have := HA.out.1; omega
              have hMx := HLr.out.1.m (Nat.le_refl _) hjl
              obtain ⟨b2, o2, hAe, hb2, z0, z1, z2, z3, _⟩ := HLr.out.1 j hjl
              subst hAe
              have hRx := HA.out.2.2.1.2.2.2 j hjl
              obtain ⟨u, hu⟩ : ∃ u : Nat, (am l j).a.f = (u : Int) := ⟨(am l j).a.f.toNat, by have := hRx.1.1; omega⟩
              have hun : u < n := by have := hRx.2.1; omega
              obtain ⟨g', off', hLe', hg', f0, _⟩ := HLr.out.2 u (by have := HA.out.2.2.2.1; omega)
              injection hLe' with hLe'
              injection hLe' with e1 e2 _
              subst e1; subst e2
              have hFP : FollP l src t b lab i ↔ (am l j).a.t = (i : Int) ∧ (am l j).a.pass b (lb lab u).1 = x := by
                constructor
                · rintro (⟨h3, _⟩ | ⟨_, h3, _⟩ | ⟨_, _, _, i', hi', hb, ht, hp⟩)
                  · exact absurd h3 hs
                  · rw [HX.out.1] at h3; exact absurd h3 hx1
                  · rw [HX.out.2] at hb
                    have : j = i' := by omega
                    subst this
                    rw [hu, Int.toNat_natCast, HX.out.1] at hp
                    exact ⟨ht, hp⟩
                · rintro ⟨ht, hp⟩
                  exact .inr (.inr ⟨hs, by rw [HX.out.1]; exact hx1, by rw [HX.out.1]; exact HTx.out, j, hjl, HX.out.2, ht, by rw [hu, Int.toNat_natCast, HX.out.1]; exact hp⟩)
              have hND : NodeP n l src t b lab i ↔ ((am l j).a.t = (i : Int) ∧ (am l j).a.pass b (lb lab u).1 = x) ∧ bk l src lab (n + 1) i = true := by
                unfold NodeP
                rw [hFP]
                constructor
                · rintro ⟨h1, h2⟩; exact ⟨h1, h2 hs (by rw [HX.out.1]; exact hx1)⟩
                · rintro ⟨h1, h2⟩; exact ⟨h1, fun _ _ => h2⟩
              have hTP : (am l j).a.pass b (lb lab u).1 = x → IsT (lb lab u).1 := fun h => (pass_time (by rw [h]; exact HTx.out)).1
              have HQ := Lib.hid (fun W (hb : Below wr.heap.size wr W) => rpass_is (am l j) b (lb lab u).1 W (hMx.below hb))
              obtain ⟨rb, hrb⟩ : ∃ rb, bk l src lab (n + 1) i = rb := ⟨_, rfl⟩
              have HBk := Lib.hid (fun W (hb : Below wr.heap.size wr W) => back12_any l (some ⟨b2, o2, none⟩) m c (some ⟨g, off, none⟩) n c2 src i lab W HA.out.1 ((HLr.out.1.below hb).more hb.size) HA.out.2.2.1 HA.out.2.2.2.1 ((HLr.out.2.below hb).more hb.size) hgo rb hrb.symm)
              rw [hrb] at hND
              obtain ⟨Tu, hTu⟩ : ∃ T, (lb lab u).1 = T := ⟨_, rfl⟩
              rw [hTu] at f0 hND hTP HQ
              obtain ⟨zp, hzp⟩ : ∃ z, (am l j).a.pass b Tu = z := ⟨_, rfl⟩
              rw [hzp] at hND hTP HQ
              have HTP := Lib.hid hTP
              clear hFP hzp hRx hMx hjl hTP hTu hrb hyr
              obtain ⟨x1, hx1'⟩ : ∃ x, am l j = x := ⟨_, rfl⟩
              rw [hx1'] at HQ z0 z1 z2 z3 hu hND
              clear hx1'
              obtain ⟨⟨f, t2, lo2, hi2⟩, A1, p1, A2, p2⟩ := x1
              simp only [Am.v] at HQ z0 z1 z2 z3 hu
              have HND : Hid (NodeP n l src t b lab i ↔ (t2 = (i : Int) ∧ zp = x) ∧ rb = true) := Lib.hid hND
              obtain ⟨n1, hn1⟩ : ∃ n1, lo2.length = n1 := ⟨_, rfl⟩
              obtain ⟨n2, hn2⟩ : ∃ n2, hi2.length = n2 := ⟨_, rfl⟩
              rw [hn1] at z2 HQ
              rw [hn2] at z3 HQ
              clear hn1 hn2 hND
              subst hu
              have y0 := (HB2.out.2.1.cell (p := ⟨b2, o2 + j * 4, none⟩) hb2).trans z0
              have y1 := (HB2.out.2.1.cell (p := ⟨b2, o2 + j * 4 + 1, none⟩) hb2).trans z1
              have y2 := (HB2.out.2.1.cell (p := ⟨b2, o2 + j * 4 + 2, none⟩) hb2).trans z2
              have y3 := (HB2.out.2.1.cell (p := ⟨b2, o2 + j * 4 + 3, none⟩) hb2).trans z3
              have f0 := (HB2.out.2.1.cell (p := ⟨g, off + u * 2, none⟩) hg).trans f0
              clear z0 z1 z2 z3
              have hA3 := (Below.refl W2.heap.size W2).alloc (Nat.le_refl _) (.cells #[.int .i64 u, .int .i64 t2, .slice A1 n1 p1, .slice A2 n2 p2] 39)
              have bk3 := Blk.new W2 39 #[.int .i64 u, .int .i64 t2, .slice A1 n1 p1, .slice A2 n2 p2]
              go_wp2_with fail
              refine HTm.out.mono ?_
              rintro e w3 ⟨rfl, rfl⟩
              go_upto_region 14 with fail
              obtain ⟨W5, hW5⟩ : ∃ W, W2.alloc (.cells #[.int .i64 u, .int .i64 t2, .slice A1 n1 p1, .slice A2 n2 p2] 39) = W := ⟨_, rfl⟩
              rw [hW5] at hA3 bk3 ⊢
              clear hW5 y0 y1 y2 y3
              have hB5 := HB2.out.2.1.trans (hA3.mono HB2.out.2.1.size)
              have HB5 := Lib.hid (And.intro hB5 (hB.out.trans (hB5.mono hB.out.size)))
              have f0 := (hA3.cell (p := ⟨g, off + u * 2, none⟩) (block_lt_of_cell f0)).trans f0
              have d0 := (hA3.cell (p := ⟨wr.heap.size, 0, none⟩) (block_lt_of_cell d0)).trans d0
              have q0 : W5.cell? ⟨W2.heap.size, 0, none⟩ = some (.int .i64 u) := bk3.cell 0
              have q1 : W5.cell? ⟨W2.heap.size, 1, none⟩ = some (.int .i64 t2) := bk3.cell 1
              have q2 : W5.cell? ⟨W2.heap.size, 2, none⟩ = some (.slice A1 n1 p1) := bk3.cell 2
              have q3 : W5.cell? ⟨W2.heap.size, 3, none⟩ = some (.slice A2 n2 p2) := bk3.cell 3
              clear hA3 bk3 hB5 d1
              by_cases htv : t2 = (i : Int)
              rotate_left
              · have hrf := HN.out.1 (fun h => htv (HND.out.1 h).1.1)
                subst hrf
                have htv2 : (t2 != (i : Int)) = true := by simpa using htv
                clear HQ HBk
                go_quiet (fail)
                go_wp2_with fail
                go_ret
                exact ⟨by rfl, below_drewN HB5.out.2 _⟩
              · subst htv
                have hii : ((i : Int) != (i : Int)) = false := by simp
                have hii2 : (i != i) = false := by simp
                by_cases hTu : IsT Tu
                rotate_left
                · have hrf := HN.out.1 (fun h => hTu (HTP.out (HND.out.1 h).1.2))
                  subst hrf
                  have S1 := Lib.hid (fun d => (r12Time_any Tu (W5.drewN d) false (decide_eq_false hTu).symm).mono (R' := fun e w' => e = .returned (.bool false) ∧ w' = W5.drewN d) (fun _ _ ⟨a, b⟩ => ⟨a, b.symm⟩))
                  clear hTu HQ HBk
                  go_quiet ((go_at_call 57; with_reducible exact Calls.quiet_of_same (S1.out _)))
                  go_wp2_with fail
                  go_ret
                  exact ⟨by rfl, below_drewN HB5.out.2 _⟩
                · have f0 := cell_regrown f0
                  have d0 := cell_regrown d0
                  have q0 := cell_regrown q0
                  have q1 := cell_regrown q1
                  have q2 := cell_regrown q2
                  have q3 := cell_regrown q3
                  have S1 : Hid (∀ xx os, Calls Try.prog 57 #[.int .i64 Tu] (grow (redrawn W5 xx) os) fun e w'' => e = .returned (.bool true) ∧ ∃ p : Regrown, w'' = grow (redrawn W5 p.d) p.os) := Lib.hid (fun xx os => Calls.regrown_of ((r12Time_any Tu _ true (decide_eq_true hTu).symm).mono (R' := fun e w' => e = .returned (.bool true) ∧ Below _ _ w') (by rintro e w' ⟨rfl, rfl⟩; exact ⟨rfl, Below.refl _ _⟩)))
                  have S2 : Hid (∀ xx os, Calls Try.prog 42 #[.agg #[.int .i64 u, .int .i64 i, .slice A1 n1 p1, .slice A2 n2 p2], .int .i64 Tu, .bool b] (grow (redrawn W5 xx) os) fun e w'' => e = .returned (.int .i64 zp) ∧ ∃ p : Regrown, w'' = grow (redrawn W5 p.d) p.os) := Lib.hid (fun xx os => Calls.regrown_of (HQ.out _ (HB5.out.1.trans ((below_regrown W5 xx os).mono HB5.out.1.size))))
                  have S3 : Hid (∀ xx os, Calls Try.prog 77 #[.slice (some ⟨b2, o2, none⟩) m c, .slice (some ⟨g, off, none⟩) n c2, .int .i64 src, .int .i64 i] (grow (redrawn W5 xx) os) fun e w'' => e = .returned (.bool rb) ∧ ∃ p : Regrown, w'' = grow (redrawn W5 p.d) p.os) := Lib.hid (fun xx os => Calls.regrown_of ((HBk.out _ (HB5.out.1.trans ((below_regrown W5 xx os).mono HB5.out.1.size))).mono (R' := fun e w' => e = .returned (.bool rb) ∧ Below _ _ w') (by rintro e w' ⟨rfl, rfl⟩; exact ⟨rfl, Below.refl _ _⟩)))
                  clear hTu HQ HBk
                  by_cases hzx : zp = x
                  rotate_left
                  · have hrf := HN.out.1 (fun h => hzx (HND.out.1 h).1.2)
                    subst hrf
                    have hzx2 : (zp != x) = true := by simpa using hzx
                    refine wp_region_quiet_below (by kernel_rfl) (by kernel_rfl) ?_
                    repeat (quiet_step (first | (go_at_call 57; with_reducible exact S1.out _ _) | (go_at_call 42; with_reducible exact S2.out _ _)))
                    refine wpQuiet_nil ?_
                    intro w6 hw6
                    have HB6 := Lib.hid (HB5.out.2.trans ((show Below W5.heap.size W5 w6 by obtain ⟨p, rfl⟩ := hw6; exact below_regrown W5 p.d p.os).mono HB5.out.2.size))
                    clear hw6 f0 d0 q0 q1 q2 q3 S1 S2 S3
                    go_wp2_with fail
                    go_ret
                    exact ⟨by rfl, HB6.out⟩
                  · have hzx2 : (zp != x) = false := by simpa using hzx
                    have HZX := Lib.hid hzx
                    clear hzx
                    refine wp_region_quiet_below (by kernel_rfl) (by kernel_rfl) ?_
                    repeat (quiet_step (first | (go_at_call 57; with_reducible exact S1.out _ _) | (go_at_call 42; with_reducible exact S2.out _ _) | (go_at_call 77; with_reducible exact S3.out _ _)))
                    refine wpQuiet_nil ?_
                    intro w6 hw6
                    have HB6 := Lib.hid (HB5.out.2.trans ((show Below W5.heap.size W5 w6 by obtain ⟨p, rfl⟩ := hw6; exact below_regrown W5 p.d p.os).mono HB5.out.2.size))
                    clear hw6 f0 d0 q0 q1 q2 q3 S1 S2 S3
                    cases rb with
                    | false =>
                      have hrf := HN.out.1 (fun h => by have := (HND.out.1 h).2; cases this)
                      subst hrf
                      go_wp2_with fail
                      go_ret
                      exact ⟨by rfl, HB6.out⟩
                    | true =>
                      have HY := Lib.hid (HN.out.2 (HND.out.2 ⟨⟨rfl, HZX.out⟩, rfl⟩))
                      go_wp2_with fail
                      go_roundw
                      case rel => exact ⟨i + 1, rfl, by omega, HB6, HY⟩
                      case measure => simp [intOf]; omega
    · have e : i = n := by omega
      subst e
      have hrt := HR.out.1.2 (fun k hk => hK.out k hk)
      subst hrt
      go_wp2_with fail
      go_ret
      exact ⟨by rfl, hB.out⟩

end Go.Proofs.Yteiojobgjdfdpaa
