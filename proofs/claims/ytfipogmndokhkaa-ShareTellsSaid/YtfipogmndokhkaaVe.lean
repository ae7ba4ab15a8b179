/- Walks: the reference's Split. -/
import Derived.Test.YtfipogmndokhkaaVd
import Derived.Test.YtfipogmndokhkaaUv
import Derived.StillTailTactics
namespace Go.Proofs.Ytfipogmndokhkaa
open Go.RowKit

theorem grown_cell (w : World) (g o : Nat) (u : Value) : w.grownBy (w.setCell ⟨g, o, none⟩ u) (some g) :=
  ⟨rfl, rfl, rfl, by simp [World.setCell], fun i _ hne => Below.heap_setCell w ⟨g, o, none⟩ u i (fun e => hne (by rw [e]))⟩
theorem OwnS.far {w : World} {B : Nat} {v : Value} {ds : List (Int × Int)} (h : OwnS w B v ds) {g : Nat} (hg : v.ownBlock ≠ some g) (o : Nat) (u : Value) : OwnS (w.setCell ⟨g, o, none⟩ u) B v ds := World.ownsRow.kept h (grown_cell w g o u) (.inr hg)
theorem OwnI.far {w : World} {B : Nat} {v : Value} {l : List Int} (h : OwnI w B v l) {g : Nat} (hg : v.ownBlock ≠ some g) (o : Nat) (u : Value) : OwnI (w.setCell ⟨g, o, none⟩ u) B v l := World.ownsRow.kept h (grown_cell w g o u) (.inr hg)
def il (H : Nat → Int) (n : Nat) : List Int := (List.range n).map H
theorem il_len (H : Nat → Int) (n : Nat) : (il H n).length = n := by simp [il]
theorem il_get (H : Nat → Int) {n i : Nat} (hi : i < n) : (il H n).getD i 0 = H i := by
  unfold il
  rw [List.getD_eq_getElem?_getD, List.getElem?_map, List.getElem?_range hi]
  rfl
theorem il_set (H : Nat → Int) (n i : Nat) (y : Int) : (il H n).set i y = il (bendF H i y) n := by
  apply List.ext_getElem
  · simp [il]
  · intro j h1 h2
    rw [List.getElem_set]
    by_cases h : i = j
    · subst h
      simp [il, bendF]
    · rw [if_neg h]
      have h' : ¬ j = i := fun e => h e.symm
      simp [il, bendF, h']
theorem gl_congr {F G : Nat → Int} {n : Nat} (h : ∀ i, i < n → F i = G i) : gl F n = gl G n := by
  unfold gl
  exact List.map_congr_left fun i hi => by rw [h i (List.mem_range.1 hi)]
theorem il_congr {F G : Nat → Int} {n : Nat} (h : ∀ i, i < n → F i = G i) : il F n = il G n := by
  unfold il
  exact List.map_congr_left fun i hi => h i (List.mem_range.1 hi)
theorem bend_step (F G : Nat → Int) (i : Nat) : bendF (fun j => if j < i then F j else G j) i (F i) = fun j => if j < i + 1 then F j else G j := by
  funext j
  unfold bendF
  by_cases h1 : j = i
  · subst h1; simp
  · rw [if_neg h1]
    by_cases h2 : j < i
    · have h3 : j < i + 1 := by omega
      simp only [h2, h3, if_true]
    · have h3 : ¬ j < i + 1 := by omega
      simp only [h2, h3, if_false]
theorem gl_pad (s : Int) (n i : Nat) (hi : i < n) : (gl (fun _ => s) i ++ List.replicate (n - i) (0, 0)).set i ((i : Int) + 1, s) = gl (fun _ => s) (i + 1) ++ List.replicate (n - (i + 1)) (0, 0) := by
  have h := pad_set (gl (fun _ => s) i) (n - (i + 1)) ((0 : Int), (0 : Int)) ((i : Int) + 1, s)
  rw [gl_len, show n - (i + 1) + 1 = n - i by omega] at h
  rw [h, gl_succ]

/-- The value of the first c factors at j + 1, and the power. -/
def eS (s seed : Int) (c j : Nat) : Int := ev (cfs s seed c) ((j : Int) + 1) % 2147483647
def pS (c j : Nat) : Int := ((j : Int) + 1) ^ c % 2147483647
theorem pS_step (c j : Nat) : pS c j * ((j : Int) + 1) % 2147483647 = pS (c + 1) j := by
  unfold pS
  rw [Int.pow_succ]
  exact ((Cg.mod _).mul (Cg.refl _)).emod
theorem eS_step (s seed : Int) {c : Nat} (hc : 1 ≤ c) (j : Nat) : (eS s seed c j + lc seed c % 2147483647 * pS c j) % 2147483647 = eS s seed (c + 1) j := by
  unfold eS pS
  rw [cfs_succ, ev_snoc, cfs_length, cf, if_neg (by omega)]
  exact ((Cg.mod _).add ((Cg.refl _).mul (Cg.mod _))).emod
theorem pS_range (c j : Nat) : 0 ≤ pS c j ∧ pS c j < 2147483647 := by unfold pS; omega
theorem eS_range (s seed : Int) (c j : Nat) : 0 ≤ eS s seed c j ∧ eS s seed c j < 2147483647 := by unfold eS; omega
theorem eS_one {s : Int} (h0 : 0 ≤ s) (h1 : s < 2147483647) (seed : Int) (j : Nat) : eS s seed 1 j = s := by
  unfold eS cfs cf
  simp [ev]
  omega
theorem pS_zero (j : Nat) : pS 0 j = 1 := by unfold pS; rw [Int.pow_zero]; decide

set_option maxRecDepth 100000 in
set_option maxHeartbeats 4000000 in
theorem rsplit_bad (secret k n seed : Int) (w : World) (h : okS secret k n = false) :
    Calls Try.prog 9 #[.int .i64 secret, .int .i64 k, .int .i64 n, .int .i64 seed] w fun e w' => e = .returned (.tuple #[.slice none 0 0, .int .i64 1]) ∧ w = w' := by
  by_cases h0 : secret < 0
  · go_enter Try.func9, Try.ntmps9
    clear h
    go_wp2_with fail
    go_ret2
    exact ⟨rfl, rfl⟩
  by_cases h1 : 2147483647 ≤ secret
  · go_enter Try.func9, Try.ntmps9
    clear h
    go_wp2_with fail
    go_ret2
    exact ⟨rfl, rfl⟩
  by_cases h2 : n < 1
  · go_enter Try.func9, Try.ntmps9
    clear h
    go_wp2_with fail
    go_ret2
    exact ⟨rfl, rfl⟩
  by_cases h3 : 20 < n
  · go_enter Try.func9, Try.ntmps9
    clear h
    go_wp2_with fail
    go_ret2
    exact ⟨rfl, rfl⟩
  by_cases h4 : k < 1
  · go_enter Try.func9, Try.ntmps9
    clear h
    go_wp2_with fail
    go_ret2
    exact ⟨rfl, rfl⟩
  by_cases h5 : n < k
  · go_enter Try.func9, Try.ntmps9
    clear h
    go_wp2_with fail
    go_ret2
    exact ⟨rfl, rfl⟩
  exfalso
  unfold okS at h
  simp at h
  omega

theorem seed_mod (n : Int) : ∃ M, n.tmod 2147483648 = M ∧ -2147483648 < M ∧ M < 2147483648 ∧ (M + 2147483648) % 2147483648 = n % 2147483648 := by
  refine ⟨_, rfl, ?_⟩
  rcases Int.lt_or_le n 0 with h | h
  · obtain ⟨k, rfl⟩ : ∃ k, n = -k := ⟨-n, by omega⟩
    rw [Int.neg_tmod, Int.tmod_eq_emod_of_nonneg (by omega)]
    omega
  · rw [Int.tmod_eq_emod_of_nonneg h]
    omega

set_option maxRecDepth 100000 in
set_option maxHeartbeats 16000000 in
theorem rsplit_good (secret : Int) (k n : Nat) (seed : Int) (w : World) (h : okS secret k n = true) :
    Calls Try.prog 9 #[.int .i64 secret, .int .i64 k, .int .i64 n, .int .i64 seed] w fun e w' => ∃ v, e = .returned (.tuple #[v, .int .i64 0]) ∧ OwnS w' w.heap.size v (shs (cfs secret seed k) n) ∧ Below w.heap.size w w' := by
  unfold okS at h
  simp at h
  obtain ⟨⟨⟨⟨⟨h0, h1⟩, h2⟩, h3⟩, h4⟩, h5⟩ := h
  have h2' : (1 : Int) ≤ n := by omega
  have h3' : (n : Int) ≤ 20 := by omega
  have h4' : (1 : Int) ≤ k := by omega
  have h5' : (k : Int) ≤ n := by omega
  obtain ⟨M, hM, hlo, hhi, hMM⟩ := seed_mod seed
  obtain ⟨N, hN⟩ : ∃ N, (M + 2147483648).tmod 2147483648 = N := ⟨_, rfl⟩
  have hNl : Hid (N = lc seed 0) := Lib.hid (by
    rw [← hN, Int.tmod_eq_emod_of_nonneg (by omega), hMM]
    rfl)
  have hN0 := lc_range seed 0
  rw [← hNl.out] at hN0
  obtain ⟨hN0, hN1⟩ := hN0
  clear hMM
  go_enter Try.func9, Try.ntmps9
  go_wp2_with (at_make; refine makeS rfl (.tmp 44) (.tmp 44) rfl w.heap.size n n _ _ rfl rfl rfl rfl (by omega) (by omega) (Nat.le_refl _) ?_; intro w2 hown2 hb2 hsz2)
  clear hM hN
  go_loopw [12] (fun iv wr => ∃ i : Nat, i ≤ n ∧ iv = .int .i64 i ∧ Below w.heap.size w wr ∧ OwnS wr w.heap.size (.slice (some ⟨w.heap.size, 0, none⟩) n n) (gl (fun _ => secret) i ++ List.replicate (n - i) (0, 0))) (fun iv _ => n - (intOf iv).toNat)
  case atStart => exact ⟨0, Nat.zero_le _, rfl, hb2, hown2⟩
  case round =>
    obtain ⟨i, hi, rfl, hb, ho⟩ := hrel
    by_cases hgo : i < n
    · have hlen : (gl (fun _ => secret) i ++ List.replicate (n - i) ((0 : Int), (0 : Int))).length = n := by simp [gl_len]; omega
      obtain ⟨hc0, hc1⟩ := ho.cell hlen hgo
      have hf0 := ho.frozen (k := i * 2) hlen
      have hf1 := ho.frozen (k := i * 2 + 1) hlen
      have hlt := ho.lt.2
      have hst := ho.store hlen i ((i : Int) + 1, secret)
      rw [gl_pad secret n i hgo] at hst
      obtain ⟨u, hu⟩ : ∃ u, (gl (fun _ => secret) i ++ List.replicate (n - i) ((0 : Int), (0 : Int))).getD i (0, 0) = u := ⟨_, rfl⟩
      rw [hu] at hc0 hc1
      obtain ⟨u0, u1⟩ := u
      simp only at hc0 hc1
      have HST := Lib.hid hst; clear hst
      clear hu ho hlen
      go_wp2_with fail
      go_roundw
      case rel => exact ⟨i + 1, by omega, rfl, (hb.setCell (p := ⟨w.heap.size, i * 2, none⟩) (Nat.le_refl _) _).setCell (p := ⟨w.heap.size, i * 2 + 1, none⟩) (Nat.le_refl _) _, HST.out⟩
      case measure => simp [intOf]; omega
    · have : n = i := by omega
      subst this
      rw [Nat.sub_self, List.replicate_zero, List.append_nil] at ho
      have HO := Lib.hid ho; clear ho
      have hlt := HO.out.lt.2
      have hsr := hb.size
      go_wp2_with (at_make; refine makeI rfl (.tmp 58) (.tmp 58) rfl wr.heap.size n n _ _ rfl rfl rfl rfl (by omega) (by omega) (Nat.le_refl _) ?_; intro w3 hown3 hb3 hsz3)
      have hb03 := hb.trans (hb3.mono hsr)
      have HO3 := Lib.hid (HO.out.below hb3); clear HO
      have hown3' := hown3.mono hsr
      obtain ⟨g2, hg2⟩ : ∃ g, wr.heap.size = g := ⟨_, rfl⟩
      rw [hg2] at hlt hown3' ⊢
      clear hown3 hg2 hb3 hsz3 hb hsr hown2 hb2 hsz2
      go_loopw [14] (fun iv wq => ∃ i : Nat, i ≤ n ∧ iv = .int .i64 i ∧ Below w.heap.size w wq ∧ Hid (OwnS wq w.heap.size (.slice (some ⟨w.heap.size, 0, none⟩) n n) (gl (fun _ => secret) n)) ∧ OwnI wq w.heap.size (.slice (some ⟨g2, 0, none⟩) n n) (List.replicate i 1 ++ List.replicate (n - i) 0)) (fun iv _ => n - (intOf iv).toNat)
      case atStart => exact ⟨0, Nat.zero_le _, rfl, hb03, HO3, hown3'⟩
      case round =>
        obtain ⟨i, hi, rfl, hb, hoS, ho⟩ := hrel
        by_cases hgo : i < n
        · have hlen : (List.replicate i (1 : Int) ++ List.replicate (n - i) 0).length = n := by simp; omega
          have hc0 := ho.cell hlen hgo
          have hf0 := ho.frozen (k := i) hlen
          have hlt2 := ho.lt.2
          have hst := ho.store hlen i 1
          have e1 : (List.replicate i (1 : Int) ++ List.replicate (n - i) 0).set i 1 = List.replicate (i + 1) 1 ++ List.replicate (n - (i + 1)) 0 := by
            have h := pad_set (List.replicate i (1 : Int)) (n - (i + 1)) 0 1
            rw [List.length_replicate, show n - (i + 1) + 1 = n - i by omega] at h
            rw [h, List.replicate_succ']
          rw [e1] at hst
          have hfar := hoS.out.far (g := g2) (by simp [Value.ownBlock]; omega) i (.int .i64 1)
          obtain ⟨u, hu⟩ : ∃ u, (List.replicate i (1 : Int) ++ List.replicate (n - i) 0).getD i 0 = u := ⟨_, rfl⟩
          rw [hu] at hc0
          have HST := Lib.hid (And.intro hst hfar); clear hst hfar
          clear hu ho hlen e1
          go_wp2_with fail
          go_roundw
          case rel => exact ⟨i + 1, by omega, rfl, hb.setCell (p := ⟨g2, i, none⟩) (by show w.heap.size ≤ g2; omega) _, Lib.hid HST.out.2, HST.out.1⟩
          case measure => simp [intOf]; omega
        · have : n = i := by omega
          subst this
          rw [Nat.sub_self, List.replicate_zero, List.append_nil] at ho
          have e2 : List.replicate n (1 : Int) = il (pS 0) n := by
            apply List.ext_getElem
            · simp [il]
            · intro j h1 h2
              simp [il, pS_zero]
          rw [e2] at ho
          have HO := Lib.hid ho; clear ho e2
          have e3 : gl (fun _ => secret) n = gl (eS secret seed 1) n := gl_congr fun i _ => (eS_one h0 h1 seed i).symm
          rw [e3] at hoS
          clear e3
          go_wp2_with fail
          go_loopw [10, 15] (fun xv cv wq => ∃ (x : Int) (c : Nat), 1 ≤ c ∧ c ≤ k ∧ xv = .int .i64 x ∧ cv = .int .i64 c ∧ 0 ≤ x ∧ x < 2147483648 ∧ Hid (x = lc seed (c - 1)) ∧ Below w.heap.size w wq ∧ Hid (OwnS wq w.heap.size (.slice (some ⟨w.heap.size, 0, none⟩) n n) (gl (eS secret seed c) n) ∧ OwnI wq w.heap.size (.slice (some ⟨g2, 0, none⟩) n n) (il (pS (c - 1)) n))) (fun _ cv _ => k - (intOf cv).toNat)
          case atStart => exact ⟨N, 1, Nat.le_refl _, by omega, rfl, rfl, hN0, hN1, hNl, hb, Lib.hid ⟨hoS.out, HO.out⟩⟩
          case round =>
            obtain ⟨x, c, hc1, hc2, rfl, rfl, hx0, hx1, hx, hb, hoo⟩ := hrel
            by_cases hgo2 : c < k
            · obtain ⟨y, hy⟩ : ∃ y, (1103515245 * x + 12345) % 2147483648 = y := ⟨_, rfl⟩
              have hyl : Hid (y = lc seed c) := Lib.hid (by
                obtain ⟨j, rfl⟩ : ∃ j, c = j + 1 := ⟨c - 1, by omega⟩
                rw [lc, ← hy, hx.out]
                rfl)
              have hy0 : 0 ≤ y ∧ y < 2147483648 := by omega
              obtain ⟨hy0, hy1⟩ := hy0
              go_wp2_with fail
              rw [hy]
              clear hy
              go_loopw [16] (fun iv wz => ∃ i : Nat, i ≤ n ∧ iv = .int .i64 i ∧ Below w.heap.size w wz ∧ Hid (OwnS wz w.heap.size (.slice (some ⟨w.heap.size, 0, none⟩) n n) (gl (fun j => if j < i then eS secret seed (c + 1) j else eS secret seed c j) n) ∧ OwnI wz w.heap.size (.slice (some ⟨g2, 0, none⟩) n n) (il (fun j => if j < i then pS c j else pS (c - 1) j) n))) (fun iv _ => n - (intOf iv).toNat)
              case atStart => exact ⟨0, Nat.zero_le _, rfl, hb, Lib.hid (by simpa using hoo.out)⟩
              case round =>
                obtain ⟨i, hi, rfl, hb, hoo⟩ := hrel
                by_cases hgo3 : i < n
                · obtain ⟨hoS, hoI⟩ := hoo.out
                  obtain ⟨c0, c1⟩ := hoS.cell (gl_len _ _) hgo3
                  have c2 := hoI.cell (il_len _ _) hgo3
                  have f1 := hoS.frozen (k := i * 2 + 1) (gl_len _ _)
                  have f2 := hoI.frozen (k := i) (il_len _ _)
                  have l1 := hoS.lt.2
                  have l2 := hoI.lt.2
                  rw [gl_get _ hgo3] at c0 c1
                  rw [il_get _ hgo3] at c2
                  simp only [Nat.lt_irrefl, if_false] at c0 c1 c2
                  have hp1 := pS_step (c - 1) i
                  rw [show c - 1 + 1 = c by omega] at hp1
                  have he1 := eS_step secret seed hc1 i
                  rw [← hyl.out] at he1
                  obtain ⟨p0, p1⟩ := pS_range (c - 1) i
                  obtain ⟨p2, p3⟩ := pS_range c i
                  obtain ⟨e0, e1⟩ := eS_range secret seed c i
                  have hsI := hoI.store (il_len _ _) i (pS c i)
                  rw [il_set] at hsI
                  have hsS := (hoS.far (g := g2) (by simp [Value.ownBlock]; omega) i (.int .i64 (pS c i))).storeY (gl_len _ _) i hgo3 (eS secret seed (c + 1) i)
                  rw [gl_set _ _ _ _ hgo3] at hsS
                  have hsI2 := hsI.far (g := w.heap.size) (by simp [Value.ownBlock]; omega) (i * 2 + 1) (.int .i64 (eS secret seed (c + 1) i))
                  have q1 := bend_step (fun j => pS c j) (fun j => pS (c - 1) j) i
                  have q2 := bend_step (fun j => eS secret seed (c + 1) j) (fun j => eS secret seed c j) i
                  have cW1 := ((hoS.far (g := g2) (by simp [Value.ownBlock]; omega) i (.int .i64 (pS c i))).cell (gl_len _ _) hgo3).2
                  have cW2 := hsI.cell (il_len _ _) hgo3
                  have fW1 := (hoS.far (g := g2) (by simp [Value.ownBlock]; omega) i (.int .i64 (pS c i))).frozen (k := i * 2 + 1) (gl_len _ _)
                  rw [gl_get _ hgo3] at cW1
                  rw [il_get _ hgo3] at cW2
                  simp only [Nat.lt_irrefl, if_false, bendF, if_true] at cW1 cW2
                  rw [q1] at hsI2
                  rw [q2] at hsS
                  clear q1 q2 hsI hoS hoI
                  obtain ⟨pa, hpa⟩ : ∃ z, pS (c - 1) i = z := ⟨_, rfl⟩
                  obtain ⟨pb, hpb⟩ : ∃ z, pS c i = z := ⟨_, rfl⟩
                  obtain ⟨ea, hea⟩ : ∃ z, eS secret seed c i = z := ⟨_, rfl⟩
                  obtain ⟨eb, heb⟩ : ∃ z, eS secret seed (c + 1) i = z := ⟨_, rfl⟩
                  rw [hpa] at c2 hp1 p0 p1
                  rw [hpb] at hp1 he1 p2 p3 hsI2 hsS cW1 cW2 fW1
                  rw [hea] at c1 he1 e0 e1 cW1
                  rw [heb] at he1 hsI2 hsS
                  have HSS := Lib.hid (And.intro hsS hsI2); clear hsS hsI2 hpa hpb hea heb
                  have m0 : 0 ≤ pa * ((i : Int) + 1) := Int.mul_nonneg p0 (by omega)
                  have m1 : pa * ((i : Int) + 1) ≤ 2147483646 * 20 := Int.mul_le_mul (by omega) (by omega) (by omega) (by omega)
                  obtain ⟨m2, m3⟩ := mulb (a := y % 2147483647) (b := pb) (by omega) (by omega) p2 p3
                  have hbS := (hb.setCell (p := ⟨g2, i, none⟩) (by show w.heap.size ≤ g2; omega) (.int .i64 pb)).setCell (p := ⟨w.heap.size, i * 2 + 1, none⟩) (Nat.le_refl _) (.int .i64 eb)
                  have HBS := Lib.hid hbS; clear hbS
                  have HW := Lib.hid (And.intro cW1 (And.intro cW2 fW1)); clear cW1 cW2 fW1
                  have hw1 : IntKind.i64.wrap (y % 2147483647 * pb) = y % 2147483647 * pb := by rw [IntKind.wrap_i64]; omega
                  have hw2 : IntKind.i64.wrap (ea + y % 2147483647 * pb) = ea + y % 2147483647 * pb := by rw [IntKind.wrap_i64]; omega
                  go_wp2_with fail
                  obtain ⟨cW1, cW2, fW1⟩ := HW.out
                  rw [hp1]
                  have hWs : (wr.setCell ⟨g2, i, none⟩ (.int .i64 pb)).heap.size = wr.heap.size := by simp [World.setCell]
                  rw [← hWs] at l1 l2
                  obtain ⟨W, hW⟩ : ∃ W, wr.setCell ⟨g2, i, none⟩ (.int .i64 pb) = W := ⟨_, rfl⟩
                  rw [hW] at cW1 cW2 fW1 l1 l2 HSS HBS ⊢
                  clear hW hWs c0 c1 c2 f1 f2
                  go_still_tail 18, (by kernel_rfl)
                  change wpList _ _ _ _ _ W.drew
                  have dW1 : W.drew.cell? ⟨w.heap.size, i * 2 + 1, none⟩ = some (.int .i64 ea) := cW1
                  have gW1 : W.drew.frozen? ⟨w.heap.size, i * 2 + 1, none⟩ = false := fW1
                  have lW1 : w.heap.size < W.drew.heap.size := l1
                  go_wp2_with fail
                  go_roundw
                  case rel => exact ⟨i + 1, by omega, rfl, HBS.out.drew, Lib.hid ⟨HSS.out.1, HSS.out.2⟩⟩
                  case measure => simp [intOf]; omega
                · have : n = i := by omega
                  subst this
                  have h1 := hoo.out.1
                  have h2 := hoo.out.2
                  rw [gl_congr (G := eS secret seed (c + 1)) fun j hj => if_pos hj] at h1
                  rw [il_congr (G := pS c) fun j hj => if_pos hj] at h2
                  have H12 := Lib.hid (And.intro h1 h2); clear h1 h2
                  go_wp2_with fail
                  go_roundw
                  case rel => exact ⟨y, c + 1, by omega, by omega, rfl, rfl, hy0, hy1, hyl, hb, Lib.hid H12.out⟩
                  case measure => simp [intOf]; omega
            · have : c = k := by omega
              subst this
              go_wp2_with fail
              go_ret2
              exact ⟨_, rfl, hoo.out.1, hb⟩

end Go.Proofs.Ytfipogmndokhkaa
