/- What the law on texts needs. Walks: the reference's tenth, made, kept. Walks: the reference's Right. -/
import Derived.Test.YtkjpfnbdlbnbkaaGreatDoorXao
import Derived.Deep.DeepCutAuto
import Derived.Laws.Concat
import Derived.Test.YtkjpfnbdlbnbkaaGreatDoorXah

namespace Go.Proofs.YtkjpfnbdlbnbkaaGreatDoor
open Go.RowKit

theorem text_back {S : ByteArray} {z : Int} (h : bts S = Lib.itoa z) : byt (Lib.itoa z) = S := by
  rw [← h]
  unfold byt bts
  simp
theorem text_len {z : Int} (h : ab z < pw 60) : (byt (Lib.itoa z)).size ≤ 99998 := by
  rw [byt_size, itoa_ab]
  have := dd_len_pw 60 (by decide) (ab z) (ab_nonneg z) h
  split <;> simp <;> omega
theorem itoa_zero : byt (Lib.itoa 0) = ⟨#[48]⟩ := by
  have h : Lib.itoa 0 = [48] := by
    unfold Lib.itoa
    rw [if_neg (by omega)]
    exact dd_lt (n := 0) (by decide)
  rw [h]
  rfl
theorem fitz_lt (z : Int) : ab (fitz z) < pw 60 := by
  unfold fitz
  split
  · assumption
  · rw [ab_zero]; exact pw_pos 60
theorem seven_cases (x : Int) :
    (fite (x * 10) = 0 ∧ fite (fitz (x * 10) + 7 * sgn x) = 0 ∧ fite (10 * x + 7 * sgn x) = 0 ∧ fitz (10 * x + 7 * sgn x) = fitz (fitz (x * 10) + 7 * sgn x)) ∨
    (fite (x * 10) = 0 ∧ fite (fitz (x * 10) + 7 * sgn x) = 6 ∧ fite (10 * x + 7 * sgn x) = 6) ∨ (fite (x * 10) = 6 ∧ fite (10 * x + 7 * sgn x) = 6) := by
  rw [show x * 10 = 10 * x by omega]
  by_cases h1 : ab (10 * x) < pw 60
  · rw [(fits h1).1, (fits h1).2]
    by_cases h2 : ab (10 * x + 7 * sgn x) < pw 60
    · rw [(fits h2).1]; exact .inl ⟨rfl, rfl, rfl, rfl⟩
    · rw [show fite (10 * x + 7 * sgn x) = 6 from if_neg h2]; exact .inr (.inl ⟨rfl, rfl, rfl⟩)
  · have h2 := seven_big h1
    exact .inr (.inr ⟨if_neg h1, if_neg h2⟩)
theorem Ar.bad {w : World} {s : Int} {l : List Int} {A : Option Addr} {n c : Nat} (h : Ar w s l A n c) (hr : ¬ RightP s l) :
    Calls Tryz.prog 27 #[.agg #[.int .i64 s, .slice A n c]] w fun e w' => e = .returned (.string ⟨#[]⟩) ∧ Below w.heap.size w w' := by
  obtain ⟨rfl, hI, hc, hm⟩ := h
  exact text_bad s l A c w hI (by omega) hr
theorem Aq.bx60 {W : World} {g : Nat} {s : Int} {l : List Int} {A : Option Addr} {n c : Nat} (h : Aq W g s l A n c) (hr : RightP s l) : ∃ z, Bx W g s A n c z ∧ s = sgn z ∧ ab z < pw 60 := by
  obtain ⟨z, h1, h2, h3, _⟩ := h.ar.z hr
  exact ⟨z, ⟨h.blk, h1⟩, h2, h3⟩

/-- A box that was laid zero, behind a store of a result. -/
theorem box_st {b : World} {g B : Nat} {u0 u1 : Value} {s : Int} {A : Option Addr} {n c : Nat} {z : Int} (hk : Blk b g 24 #[u0, u1]) (hr : BO b B (.agg #[.int .i64 s, .slice A n c]) z) (hg : g < B) :
    Bx ((b.setCell ⟨g, 0, none⟩ (.int .i64 s)).setCell ⟨g, 1, none⟩ (.slice A n c)) g s A n c z :=
  ⟨by simpa using hk.set2 (.int .i64 s) (.slice A n c), (hr.far2 hg _ _).bv⟩
theorem box_new {b : World} {B : Nat} {s : Int} {A : Option Addr} {n c : Nat} {z : Int} (hr : BO b B (.agg #[.int .i64 s, .slice A n c]) z) :
    Bx (b.alloc (.cells #[.int .i64 s, .slice A n c] 24)) b.heap.size s A n c z := by
  obtain ⟨W, rfl, _, h⟩ := box1 hr
  exact h
theorem below_st {B g : Nat} {w b : World} (h : Below B w b) (hg : B ≤ g) (u0 u1 : Value) : Below B w ((b.setCell ⟨g, 0, none⟩ u0).setCell ⟨g, 1, none⟩ u1) :=
  (h.setCell (p := ⟨g, 0, none⟩) hg u0).setCell (p := ⟨g, 1, none⟩) hg u1
theorem below_new {w b : World} (h : Below w.heap.size w b) (o : Obj) : Below w.heap.size w (b.alloc o) := h.alloc h.size o
theorem BV.new {b : World} {v : Value} {z : Int} (h : BV b b.heap.size v z) (o : Obj) : BV (b.alloc o) (b.alloc o).heap.size v z := h.later ((Below.refl _ _).alloc (Nat.le_refl _) o)
theorem blk_run {b b' : World} {a0 a1 : Value} (h : Below (b.alloc (.cells #[a0, a1] 24)).heap.size (b.alloc (.cells #[a0, a1] 24)) b') : Blk b' b.heap.size 24 #[a0, a1] := (Blk.new b 24 _).below h (by simp)

end Go.Proofs.YtkjpfnbdlbnbkaaGreatDoor

namespace Go.Proofs.YtkjpfnbdlbnbkaaGreatDoor
open Go.RowKit

set_option maxRecDepth 100000 in
set_option maxHeartbeats 4000000 in
theorem rtenth_any (l : List Int) (v : Value) (w : World) (h1 : Sv w v l) (hd : Dig l) (hl : l.length ≤ 400) :
    Calls Tryz.prog 88 #[v] w fun e w' => ∃ v1 r, e = .returned (.tuple #[v1, .int .i64 r]) ∧ OwnI w' w.heap.size v1 (D (nv l / 10)) ∧ r = nv l % 10 ∧ Below w.heap.size w w' := by
  obtain ⟨A, c, rfl, _, _, hI⟩ := h1
  obtain ⟨n, hn⟩ : ∃ n, l.length = n := ⟨_, rfl⟩
  rw [hn] at hl ⊢
  have HN := Lib.hid hn; clear hn
  have HI := Lib.hid hI; clear hI
  have HD := Lib.hid hd; clear hd
  go_enter Tryz.func88, Tryz.ntmps88
  go_wp2_with (at_make; refine makeI rfl (.tmp 8) (.tmp 8) rfl w.heap.size n n _ _ rfl rfl rfl rfl (by omega) (by omega) (Nat.le_refl _) ?_; intro w0 hown0 hb0 hsz0)
  have hlt0 := hown0.lt.2
  go_loopw [5, 6] (fun rv iv wr => ∃ (k : Nat) (qs : List Int) (r : Int), k ≤ n ∧ iv = .int .i64 ((k : Int) - 1) ∧ rv = .int .i64 r ∧ 0 ≤ r ∧ r < 10 ∧ Hid (qs.length = n) ∧ OwnI wr w.heap.size (.slice (some ⟨w.heap.size, 0, none⟩) n n) qs ∧ Hid (Dig qs) ∧ Hid (nv (qs.take k) = 0) ∧ Hid (nv (qs.drop k) = nv (l.drop k) / 10) ∧ Hid (r = nv (l.drop k) % 10) ∧ Below w.heap.size w wr) (fun _ i _ => (intOf i + 1).toNat)
  case atStart => exact ⟨n, List.replicate n 0, 0, Nat.le_refl _, rfl, rfl, by omega, by omega, Lib.hid (by simp), hown0, Lib.hid (Dig.zeros _), Lib.hid (by rw [List.take_of_length_le (by simp), nv_replicate] <;> simp), Lib.hid (by rw [List.drop_eq_nil_of_le (by simp), List.drop_eq_nil_of_le (by rw [HN.out]; exact Nat.le_refl _), nv_nil] <;> simp), Lib.hid (by rw [List.drop_eq_nil_of_le (by rw [HN.out]; exact Nat.le_refl _), nv_nil] <;> simp), hb0⟩
  case round =>
    obtain ⟨k, qs, r, hk, rfl, rfl, hr0, hr1, hql, hown, hdig, hq0, hqv, hRv, hb⟩ := hrel
    have hs := hb.size
    have hsw : w.heap.size < wr.heap.size := hown.lt.2
    by_cases hk0 : 0 < k
    · obtain ⟨i, rfl⟩ : ∃ i, k = i + 1 := ⟨k - 1, by omega⟩
      have hj : ((i + 1 : Nat) : Int) - 1 = (i : Int) := by omega
      rw [hj]
      clear hj hk0
      obtain ⟨b, off, hA, hbB, hc⟩ := HI.out i (by have := HN.out; omega)
      subst hA
      have hcw := (hb.cell (p := ⟨b, off + i, none⟩) hbB).trans hc
      have hx := HD.out.getD (k := i) (by have := HN.out; omega)
      have hdr := nv_drop_any l i
      obtain ⟨d, hd⟩ : ∃ d, l.getD i 0 = d := ⟨_, rfl⟩
      rw [hd] at hcw hx hdr
      obtain ⟨hd0, hd1⟩ := hx
      clear hd hc
      have hst := over_step (Y := 10) (X := r * 1048576 + d) (d := d) (by decide) rfl hRv.out (by omega)
      rw [← hqv.out, ← hdr] at hst
      have HST := Lib.hid hst; clear hst hdr
      have hfc := hown.cell (k := i) hql.out (by omega)
      have hff := hown.frozen (k := i) hql.out
      obtain ⟨uu, huu⟩ : ∃ d, qs.getD i 0 = d := ⟨_, rfl⟩
      rw [huu] at hfc
      have HUU := Lib.hid huu; clear huu
      go_wp2_with fail
      go_roundw
      case rel => exact ⟨i, qs.set i ((r * 1048576 + d) / 10), (r * 1048576 + d) % 10, by omega, rfl, rfl, by omega, by omega, Lib.hid (by simp [hql.out]), hown.store hql.out i _, Lib.hid (hdig.out.set i (by omega) (by omega)), Lib.hid (by
          have h1 := hq0.out
          rw [nv_take_any, HUU.out] at h1
          have h2 := (hdig.out.take i).nv_nonneg
          have h3 := hdig.out.getD' i
          rw [HUU.out] at h3
          have h4 : 0 ≤ pw i * uu := Int.mul_nonneg (by have := pw_pos i; omega) h3.1
          rw [List.take_set_of_le (Nat.le_refl _)]
          omega), Lib.hid (by
          rw [nv_drop_any, getD_set (by rw [hql.out]; omega), if_pos rfl, List.drop_set_of_lt (by omega), HST.out.1]), Lib.hid HST.out.2.symm, hb.setCell (p := ⟨w.heap.size, i, none⟩) (Nat.le_refl _) _⟩
      case measure => simp [intOf]
    · have : k = 0 := by omega
      subst this
      have h1 := hqv.out
      have h2 := hRv.out
      rw [List.drop_zero, List.drop_zero] at h1
      rw [List.drop_zero] at h2
      have HV1 := Lib.hid h1; clear h1
      have HV2 := Lib.hid h2; clear h2
      go_wp2_with fail
      (with_reducible refine (rtrim_any qs _ _ hown.sv hdig.out (by rw [hql.out]; omega)).mono ?_)
      rintro e w1 ⟨v1, rfl, hv1, hb1⟩
      go_wp2_with fail
      go_ret2
      exact ⟨_, _, rfl, by rw [← HV1.out]; exact hv1.mono hs, HV2.out, hb.trans (hb1.mono hs)⟩

/-- made: zero, or a sign and the digits. -/
theorem rmade_any (l : List Int) (s : Int) (z : Int) (v : Value) (w : World) (h1 : Sv w v l) (hd : Dig l) (hl : l.length ≤ 400) (hz : z = s * nv l) (hs : s = 1 ∨ s = -1 ∨ nv l = 0) :
    Calls Tryz.prog 62 #[.int .i64 s, v] w fun e w' => ∃ r, e = .returned r ∧ BO w' w.heap.size r z ∧ Below w.heap.size w w' := by
  have hnn := hd.nv_nonneg
  have htr := fun (w' : World) (hb : Below w.heap.size w w') => rtrim_any l v w' (h1.later hb) hd (by omega)
  have hab : ab z = nv l := by
    rw [hz]
    rcases hs with rfl | rfl | h
    · unfold ab; omega
    · unfold ab; omega
    · rw [h]; simp [ab]
  have hsg : nv l ≠ 0 → s = sgn z := by
    intro h0
    rcases hs with rfl | rfl | h
    · rw [hz, sgn_pos (by omega)]
    · rw [hz, sgn_of_neg (by omega)]
    · exact absurd h h0
  obtain ⟨X, hX⟩ : ∃ X, nv l = X := ⟨_, rfl⟩
  rw [hX] at htr hab hsg hnn
  have HTR := Lib.hid htr; clear htr
  have HAB := Lib.hid hab; clear hab
  have HSG := Lib.hid hsg; clear hsg
  have HX0 := Lib.hid hnn; clear hnn
  clear hX hz hs hd hl h1
  go_enter Tryz.func62, Tryz.ntmps62
  go_wp2_with fail
  have hb0 : Below w.heap.size w (w.alloc (.cells #[.int .i64 0, .slice none 0 0] 24)) := (Below.refl _ _).alloc (Nat.le_refl _) _
  have kR : Blk (w.alloc (.cells #[.int .i64 0, .slice none 0 0] 24)) w.heap.size 24 #[.int .i64 0, .slice none 0 0] := Blk.new _ _ _
  obtain ⟨W0, hW⟩ : ∃ W, W = w.alloc (.cells #[.int .i64 0, .slice none 0 0] 24) := ⟨_, rfl⟩
  have hlt : w.heap.size < W0.heap.size := by rw [hW]; simp
  rw [← hW] at hb0 kR ⊢
  clear hW
  (with_reducible refine (HTR.out _ hb0).mono ?_)
  rintro e u1 ⟨v1, rfl, hv1, hb1⟩
  have hT := hb0.trans (hb1.mono hb0.size)
  have kR := kR.below hb1 kR.lt
  have gR : w.heap.size ≤ w.heap.size := Nat.le_refl _
  obtain ⟨A1, c1, rfl⟩ := hv1.form
  have r0 := kR.cell 0
  have r1 := kR.cell 1
  have f0 := kR.frozen 0
  have f1 := kR.frozen 1
  simp at r0 r1
  by_cases h0 : X = 0
  · have hl0 : (D X).length = 0 := by rw [h0, D_zero]; rfl
    have hz0 : z = 0 := by have := HAB.out; unfold ab at this; omega
    rw [hl0]
    clear hl0
    have hbs := kR.set2 (.int .i64 0) (.slice none 0 0)
    have x0 := hbs.cell 0
    have x1 := hbs.cell 1
    simp at x0 x1
    have HZ0 := Lib.hid hz0; clear hz0 h0
    go_wp2_with fail
    refine bodyPost_ret (v := .agg #[.int .i64 0, .slice none 0 0]) (by simp [results, Tryz.results62, go_sem, x0, x1]) rfl ?_
    exact ⟨_, rfl, by rw [HZ0.out]; exact BO.zero _ _, below_st hT gR _ _⟩
  · have hlp := D_len_pos (z := X) (by have := HX0.out; omega)
    obtain ⟨n, hn⟩ : ∃ n, (D X).length = n := ⟨_, rfl⟩
    have hBO : BO u1 W0.heap.size (.agg #[.int .i64 s, .slice A1 (D X).length c1]) z := by
      rw [HSG.out h0]
      exact ⟨_, rfl, by rw [HAB.out]; exact hv1⟩
    rw [hn] at hlp hBO ⊢
    have hlp' : ((n : Int) == 0) = false := by simp; omega
    have hbs := kR.set2 (.int .i64 s) (.slice A1 n c1)
    have x0 := hbs.cell 0
    have x1 := hbs.cell 1
    simp at x0 x1
    clear hn h0 hv1
    go_wp2_with fail
    refine bodyPost_ret (v := .agg #[.int .i64 s, .slice A1 n c1]) (by simp [results, Tryz.results62, go_sem, x0, x1]) rfl ?_
    exact ⟨_, rfl, (hBO.far2 hlt _ _).mono (by omega), below_st hT gR _ _⟩

end Go.Proofs.YtkjpfnbdlbnbkaaGreatDoor

namespace Go.Proofs.YtkjpfnbdlbnbkaaGreatDoor
open Go.RowKit

theorem RightP.parts {s : Int} {l : List Int} : RightP s l ↔ Dig l ∧ ((s = 0 ∧ l.length = 0) ∨ ((s = 1 ∨ s = -1) ∧ 0 < l.length ∧ l.length ≤ 60 ∧ l.getD (l.length - 1) 0 ≠ 0)) := by
  constructor
  · rintro ⟨z, rfl, rfl, h3⟩
    have hn := Nrm_D (ab z)
    refine ⟨hn.1, ?_⟩
    by_cases h0 : z = 0
    · left; subst h0; rw [ab_zero, D_zero]; exact ⟨rfl, rfl⟩
    · right
      have hp : 0 < ab z := by unfold ab; omega
      have hl := D_len_pos hp
      exact ⟨by unfold sgn; split <;> (try split) <;> omega, hl, (D_len_le (ab_nonneg z)).2 h3, hn.2 hl⟩
  · rintro ⟨hd, h | ⟨h1, h2, h3, h4⟩⟩
    · obtain ⟨rfl, h⟩ := h
      have := List.eq_nil_of_length_eq_zero h
      subst this
      exact RightP.nil
    · exact RightP.mk h1 ⟨hd, fun _ => h4⟩ h2 h3

set_option maxRecDepth 100000 in
set_option maxHeartbeats 4000000 in
theorem rRight_any (s : Int) (l : List Int) (A : Option Addr) (n c : Nat) (w : World) (h : Ar w s l A n c) (res : Bool) (hres : res = true ↔ RightP s l) :
    Calls Tryz.prog 23 #[.agg #[.int .i64 s, .slice A n c]] w fun e w' => e = .returned (.bool res) ∧ Below w.heap.size w w' := by
  obtain ⟨hn, hI, hc, hm⟩ := h
  rw [RightP.parts, hn] at hres
  have hnn : l.length ≤ n ∧ n ≤ l.length := by omega
  have hn9 : n ≤ 9223372036854775807 := by omega
  have HRES := Lib.hid hres; clear hres hn hc hm
  obtain ⟨W, hW, hbx, k1⟩ : ∃ W, W = w.alloc (.cells #[.int .i64 s, .slice A n c] 24) ∧ Below w.heap.size w W ∧ Blk W w.heap.size 24 #[.int .i64 s, .slice A n c] := ⟨_, rfl, (Below.refl _ _).alloc (Nat.le_refl _) _, Blk.new _ _ _⟩
  go_enter Tryz.func23, Tryz.ntmps23
  go_wp2_with fail
  rw [← hW]
  clear hW
  have j0 : W.cell? ⟨w.heap.size, 0, none⟩ = some (.int .i64 s) := k1.cell 0
  have j1 : W.cell? ⟨w.heap.size, 1, none⟩ = some (.slice A n c) := k1.cell 1
  go_loop [3] (fun i => ∃ k : Nat, k ≤ n ∧ i = .int .i64 k ∧ Hid (Dig (l.take k))) (fun i => n - (intOf i).toNat)
  case atStart => exact ⟨0, Nat.zero_le _, rfl, Lib.hid Dig.nil⟩
  case round =>
    obtain ⟨k, hk, rfl, hdg⟩ := hrel
    by_cases hlt : k < n
    · obtain ⟨b, off, hA, hbB, hck⟩ := hI k (by omega)
      subst hA
      have hck' := (hbx.cell (p := ⟨b, off + k, none⟩) hbB).trans hck
      have hnd : ¬ (0 ≤ l.getD k 0 ∧ l.getD k 0 < 1048576) → res = false := fun h => by
        rcases res with _ | _
        · rfl
        · exact absurd ((HRES.out.1 rfl).1.getD (by omega)) h
      have hts := take_snoc (l := l) (k := k) (by omega)
      obtain ⟨d, hdd⟩ : ∃ d, l.getD k 0 = d := ⟨_, rfl⟩
      rw [hdd] at hck' hnd hts
      clear hdd hck
      have HND := Lib.hid hnd; clear hnd
      have HTS := Lib.hid hts; clear hts
      by_cases hd0 : d < 0
      · have := HND.out (by omega)
        subst this
        go_wp2_with fail
        go_ret
        exact ⟨rfl, hbx⟩
      · by_cases hd1 : 1048576 ≤ d
        · have := HND.out (by omega)
          subst this
          go_wp2_with fail
          go_ret
          exact ⟨rfl, hbx⟩
        · go_wp2_with fail
          go_round
          case rel => exact ⟨k + 1, by omega, by go_num, Lib.hid (by rw [HTS.out]; exact hdg.out.snoc (by omega) (by omega))⟩
          case measure => simp [intOf]; omega
    · have : k = n := by omega
      subst this
      have hdg' := hdg.out
      rw [List.take_of_length_le (by omega)] at hdg'
      have HDG := Lib.hid hdg'; clear hdg'
      have hno : ¬ ((s = 0 ∧ k = 0) ∨ ((s = 1 ∨ s = -1) ∧ 0 < k ∧ k ≤ 60 ∧ l.getD (k - 1) 0 ≠ 0)) → res = false := fun h => by
        rcases res with _ | _
        · rfl
        · exact absurd (HRES.out.1 rfl).2 h
      have hyes : ((s = 0 ∧ k = 0) ∨ ((s = 1 ∨ s = -1) ∧ 0 < k ∧ k ≤ 60 ∧ l.getD (k - 1) 0 ≠ 0)) → res = true := fun h => HRES.out.2 ⟨HDG.out, h⟩
      have HNO := Lib.hid hno; clear hno
      have HYES := Lib.hid hyes; clear hyes
      clear hlt
      have finish : ∀ (r : Bool), True := fun _ => trivial
      clear finish
      by_cases c1 : s < -1
      · have := HNO.out (by omega)
        subst this
        go_wp2_with fail
        go_ret
        exact ⟨rfl, hbx⟩
      by_cases c2 : 1 < s
      · have := HNO.out (by omega)
        subst this
        go_wp2_with fail
        go_ret
        exact ⟨rfl, hbx⟩
      have d1 : decide (s < -1) = false := decide_eq_false c1
      have d2 : decide (1 < s) = false := decide_eq_false c2
      by_cases c3 : 60 < k
      · have := HNO.out (by omega)
        subst this
        have d3 : decide ((60 : Int) < (k : Int)) = true := decide_eq_true (by omega)
        go_wp2_with fail
        go_ret
        exact ⟨rfl, hbx⟩
      have d3 : decide ((60 : Int) < (k : Int)) = false := decide_eq_false (by omega)
      have hs : s = 0 ∨ s = 1 ∨ s = -1 := by omega
      clear c1 c2 d1 d2
      by_cases c4 : k = 0
      · subst c4
        rcases hs with rfl | rfl | rfl
        · have := HYES.out (.inl ⟨rfl, rfl⟩)
          subst this
          go_wp2_with fail
          go_ret
          exact ⟨rfl, hbx⟩
        all_goals
          have := HNO.out (by omega)
          subst this
          go_wp2_with fail
          go_ret
          exact ⟨rfl, hbx⟩
      · have d4 : ((k : Int) == 0) = false := by simp; omega
        rcases hs with rfl | hs
        · have := HNO.out (by omega)
          subst this
          go_wp2_with fail
          go_ret
          exact ⟨rfl, hbx⟩
        · obtain ⟨b, off, hA, hbB, hck⟩ := hI (k - 1) (by omega)
          subst hA
          have hck' := (hbx.cell (p := ⟨b, off + (k - 1), none⟩) hbB).trans hck
          obtain ⟨t, ht⟩ : ∃ d, l.getD (k - 1) 0 = d := ⟨_, rfl⟩
          rw [ht] at hck' HNO HYES
          clear ht hck
          by_cases ht0 : t = 0
          · have := HNO.out (by omega)
            subst this
            subst ht0
            rcases hs with rfl | rfl
            all_goals
              go_wp2_with fail
              go_ret
              exact ⟨rfl, hbx⟩
          · have := HYES.out (.inr ⟨hs, by omega, by omega, ht0⟩)
            subst this
            have ht1 : (t != 0) = true := by simpa using ht0
            rcases hs with rfl | rfl
            all_goals
              go_wp2_with fail
              go_ret
              exact ⟨rfl, hbx⟩

end Go.Proofs.YtkjpfnbdlbnbkaaGreatDoor
