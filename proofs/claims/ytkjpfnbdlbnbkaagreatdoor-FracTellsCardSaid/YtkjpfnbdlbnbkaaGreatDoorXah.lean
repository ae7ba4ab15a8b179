/- Walks: the reference's over (division by bisection). Plain: decimal digits: what is read of them, and how they are cut into pieces. No program. Walks: Mul. -/
import Derived.Test.YtkjpfnbdlbnbkaaGreatDoorXad
import Derived.Test.YtkjpfnbdlbnbkaaGreatDoorXag
import Derived.Lib.ItoaNum
import Derived.Lib.Atoi

namespace Go.Proofs.YtkjpfnbdlbnbkaaGreatDoor
open Go.RowKit

theorem Sv.later' {w w' : World} {v : Value} {l : List Int} (h : Sv w v l) (hb : Below w.heap.size w w') : Sv w' v l := h.later hb
theorem sv_lit1 (w : World) (z : Int) : Sv (w.alloc (.cells #[.int .i64 z] 3)) (.slice (some ⟨w.heap.size, 0, none⟩) 1 1) [z] := by
  refine ⟨_, _, rfl, Nat.le_refl _, by decide, fun k hk => ⟨w.heap.size, 0, rfl, by simp, ?_⟩⟩
  have hk0 : k = 0 := by simpa using hk
  subst hk0
  exact cell_of_row _ _ 0 _ _ (0, 0) (heap_alloc_new w _)
theorem ownI_lit1 (w : World) (z : Int) : OwnI (w.alloc (.cells #[.int .i64 z] 3)) w.heap.size (.slice (some ⟨w.heap.size, 0, none⟩) 1 1) [z] :=
  World.ownsRow_lit (e := 3) (size := 1) (base := w.heap.size) w #[.int .i64 z] 1 (Nat.le_refl _) (by unfold maxLen; omega) (by simp)
theorem nv_one (z : Int) : nv [z] = z := by rw [nv_cons, nv_nil]; omega
theorem dig_one {z : Int} (h0 : 0 ≤ z) (h1 : z < 1048576) : Dig [z] := fun d hd => by
  rw [List.mem_singleton] at hd; subst hd; exact ⟨h0, h1⟩
theorem D_len_mono {x y : Int} (hx : 0 ≤ x) (h : x ≤ y) : (D x).length ≤ (D y).length := by
  rw [D_len_le hx]
  have := (D_len_le (z := y) (by omega)).1 (Nat.le_refl _)
  omega
theorem over_step {A Y Q R d X : Int} (hY : 1 ≤ Y) (hQ : Q = A / Y) (hR : R = A % Y) (hX : X = d + 1048576 * R) :
    (d + 1048576 * A) / Y = X / Y + 1048576 * Q ∧ (d + 1048576 * A) % Y = X % Y := by
  have h1 : A = Y * Q + R := by rw [hQ, hR]; exact (Int.mul_ediv_add_emod A Y).symm
  have h2 : d + 1048576 * A = X + Y * (1048576 * Q) := by
    have : Y * (1048576 * Q) = 1048576 * (Y * Q) := by rw [← Int.mul_assoc, Int.mul_comm Y, Int.mul_assoc]
    omega
  rw [h2, Int.add_mul_ediv_left _ _ (by omega), Int.add_mul_emod_self_left]
  exact ⟨rfl, rfl⟩
theorem over_bd {d R Y X : Int} (h0 : 0 ≤ d) (h1 : d < 1048576) (hR0 : 0 ≤ R) (hR : R < Y) (hX : X = d + 1048576 * R) : 0 ≤ X ∧ X < Y * 1048576 := by omega
theorem over_fin {lo X Y : Int} (hY : 1 ≤ Y) (h1 : Y * lo ≤ X) (h2 : X < Y * (lo + 1)) : lo = X / Y ∧ X - Y * lo = X % Y := by
  have h3 : Y * (lo + 1) = Y * lo + Y := by rw [Int.mul_add, Int.mul_one]
  have h4 : X / Y = lo := by
    rw [show X = (X - Y * lo) + Y * lo by omega, Int.add_mul_ediv_left _ _ (by omega), Int.ediv_eq_zero_of_lt (by omega) (by omega)]
    omega
  refine ⟨h4.symm, ?_⟩
  have := Int.mul_ediv_add_emod X Y
  rw [h4] at this
  omega

set_option maxRecDepth 100000 in
set_option maxHeartbeats 4000000 in
theorem rover_any (la lb : List Int) (va vb : Value) (w : World) (h1 : Sv w va la) (h2 : Sv w vb lb) (hda : Dig la) (hdb : Dig lb) (hla : la.length ≤ 400) (hlb : lb.length ≤ 400) (Y : Int) (hYb : nv lb = Y) (hY : 1 ≤ Y) :
    Calls Tryz.prog 73 #[va, vb] w fun e w' => ∃ v1 v2, e = .returned (.tuple #[v1, v2]) ∧ OwnI w' w.heap.size v1 (D (nv la / Y)) ∧ OwnI w' w.heap.size v2 (D (nv la % Y)) ∧ Below w.heap.size w w' := by
  obtain ⟨Aa, ca, rfl, _, _, hIa⟩ := h1
  have hvb := h2
  have HVB := Lib.hid hvb; clear hvb
  obtain ⟨Ab, cb, rfl, _, _, _⟩ := h2
  obtain ⟨n, hn⟩ : ∃ n, la.length = n := ⟨_, rfl⟩
  obtain ⟨nb, hnb⟩ : ∃ n, lb.length = n := ⟨_, rfl⟩
  have hYlt : Y < pw 400 := by
    have := hdb.nv_lt
    have := pw_le hlb
    omega
  rw [hn] at hla ⊢
  rw [hnb] at hlb HVB ⊢
  have HN := Lib.hid hn; clear hn
  have HNB := Lib.hid hnb; clear hnb
  have HYB := Lib.hid hYb; clear hYb
  have HIA := Lib.hid hIa; clear hIa
  have HDA := Lib.hid hda; clear hda
  have HDB := Lib.hid hdb; clear hdb
  have HYL := Lib.hid hYlt; clear hYlt
  have HY := Lib.hid hY; clear hY
  go_enter Tryz.func73, Tryz.ntmps73
  go_wp2_with (at_make; refine makeI rfl (.tmp 13) (.tmp 13) rfl w.heap.size n n _ _ rfl rfl rfl rfl (by omega) (by omega) (Nat.le_refl _) ?_; intro w0 hown0 hb0 hsz0)
  have hlt0 := hown0.lt.2
  go_loopw [7, 8] (fun rv iv wr => ∃ (k : Nat) (qs : List Int) (R : Int), k ≤ n ∧ iv = .int .i64 ((k : Int) - 1) ∧ OwnI wr (w.heap.size + 1) rv (D R) ∧ Hid (qs.length = n) ∧ OwnI wr w.heap.size (.slice (some ⟨w.heap.size, 0, none⟩) n n) qs ∧ Hid (Dig qs) ∧ Hid (nv (qs.take k) = 0) ∧ Hid (nv (qs.drop k) = nv (la.drop k) / Y) ∧ Hid (R = nv (la.drop k) % Y) ∧ Below w.heap.size w wr) (fun _ i _ => (intOf i + 1).toNat)
  case atStart => exact ⟨n, List.replicate n 0, 0, Nat.le_refl _, rfl, by rw [D_zero]; exact OwnI.nil _ _, Lib.hid (by simp), hown0, Lib.hid (Dig.zeros _), Lib.hid (by rw [List.take_of_length_le (by simp), nv_replicate] <;> simp), Lib.hid (by rw [List.drop_eq_nil_of_le (by simp), List.drop_eq_nil_of_le (by rw [HN.out]; exact Nat.le_refl _), nv_nil] <;> simp), Lib.hid (by rw [List.drop_eq_nil_of_le (by rw [HN.out]; exact Nat.le_refl _), nv_nil] <;> simp), hb0⟩
  case round =>
    obtain ⟨k, qs, R, hk, rfl, hr, hql, hown, hdig, hq0, hqv, hRv, hb⟩ := hrel
    have hs := hb.size
    have hsw : w.heap.size < wr.heap.size := hown.lt.2
    by_cases hk0 : 0 < k
    · obtain ⟨i, rfl⟩ : ∃ i, k = i + 1 := ⟨k - 1, by omega⟩
      have hj : ((i + 1 : Nat) : Int) - 1 = (i : Int) := by omega
      rw [hj]
      clear hj hk0
      obtain ⟨b, off, hA, hbB, hc⟩ := HIA.out i (by have := HN.out; omega)
      subst hA
      have hcw := (hb.cell (p := ⟨b, off + i, none⟩) hbB).trans hc
      have hx := HDA.out.getD (k := i) (by have := HN.out; omega)
      have hdr := nv_drop_any la i
      obtain ⟨d, hd⟩ : ∃ d, la.getD i 0 = d := ⟨_, rfl⟩
      rw [hd] at hcw hx hdr
      obtain ⟨hd0, hd1⟩ := hx
      clear hd hc
      have hR0 : 0 ≤ R := by rw [hRv.out]; exact Int.emod_nonneg _ (by have := HY.out; omega)
      have hR1 : R < Y := by rw [hRv.out]; exact Int.emod_lt_of_pos _ (by have := HY.out; omega)
      obtain ⟨X, hX⟩ : ∃ X, X = d + 1048576 * R := ⟨_, rfl⟩
      obtain ⟨hX0, hX1⟩ := over_bd hd0 hd1 hR0 hR1 hX
      have hst := over_step HY.out rfl hRv.out hX
      rw [← hqv.out, ← hdr] at hst
      have HST := Lib.hid hst; clear hst hdr
      have hXD : nv (d :: D R) = X := by rw [nv_cons, nv_D hR0, hX]
      have HXD := Lib.hid hXD; clear hXD
      have hRl : (D R).length ≤ 400 := (D_len_le hR0).2 (by have := HYL.out; omega)
      have HX0 := Lib.hid hX0; clear hX0
      have HX1 := Lib.hid hX1; clear hX1
      have HR0 := Lib.hid hR0; clear hR0
      clear hX hR1
      have hXl : X < pw 401 := by
        have h1 := HX1.out
        have h2 := HYL.out
        rw [show (401 : Nat) = 400 + 1 from rfl, pw_succ]
        omega
      have HXL := Lib.hid hXl; clear hXl
      obtain ⟨Ar, cr, hrv, hrc, hrm, hrI⟩ := hr.sv
      have hrown := hr
      subst hrv
      have hlit := ownI_lit1 wr d
      have hIr : IntsAt (wr.alloc (.cells #[.int .i64 d] 3)).heap.size (wr.alloc (.cells #[.int .i64 d] 3)) Ar (D R) := (hrI.below ((Below.refl _ wr).alloc (Nat.le_refl _) _)).more (by simp)
      have HLIT := Lib.hid hlit; clear hlit
      have HIR := Lib.hid hIr; clear hIr
      obtain ⟨nr, hnr⟩ : ∃ n, (D R).length = n := ⟨_, rfl⟩
      rw [hnr] at hrown hrc hRl ⊢
      have HNR := Lib.hid hnr; clear hnr
      clear hrI
      go_wp2_with (first
        | (at_builtin; refine appSl rfl (.tmp 26) (.tmp 27) rfl wr.heap.size _ [d] rfl HLIT.out Ar nr cr (D R) rfl HNR.out HIR.out (by simp; omega) (by simp) ?_; intro v1 w1 hown1 hb1))
      have hb1' : Below wr.heap.size wr w1 := ((Below.refl _ wr).alloc (Nat.le_refl _) _).trans hb1
      (with_reducible refine (rtrim_any (d :: D R) _ _ hown1.sv (by have := (dig_one hd0 hd1).append (Dig_D R); rw [List.singleton_append] at this; exact this) (by rw [List.length_cons, HNR.out]; omega)).mono ?_)
      rintro e w2 ⟨v2, rfl, hv2, hb2⟩
      rw [HXD.out] at hv2
      have hb2' : Below wr.heap.size wr w2 := hb1'.trans (hb2.mono hb1'.size)
      have hv2' := hv2.mono hb1'.size
      clear hown1 hb1 hb1' hb2
      have hxx : Y * 0 ≤ X ∧ X < Y * 1048576 := by have := HX0.out; have := HX1.out; omega
      have HXX := Lib.hid hxx; clear hxx
      go_wp2_with fail
      obtain ⟨wo, hwo⟩ : ∃ wo : World, wo = wr := ⟨_, rfl⟩
      subst hwo
      go_loopw [9, 10] (fun lv hv wx => ∃ lo hi : Int, lv = .int .i64 lo ∧ hv = .int .i64 hi ∧ 0 ≤ lo ∧ lo < hi ∧ hi ≤ 1048576 ∧ Hid (Y * lo ≤ X ∧ X < Y * hi) ∧ Below w2.heap.size w2 wx) (fun lo hi _ => (intOf hi - intOf lo).toNat)
      case atStart => exact ⟨0, 1048576, rfl, rfl, by omega, by omega, by omega, HXX, Below.refl _ _⟩
      case round =>
        obtain ⟨lo, hi, rfl, rfl, hl0, hlh, hh, hXX, hb9⟩ := hrel
        have hbq := hb.trans ((hb2'.trans (hb9.mono hb2'.size)).mono hs)
        have hv9 := hv2'.below hb9
        by_cases hgo : 1 < hi - lo
        · obtain ⟨M, hM⟩ : ∃ M, (lo + hi) / 2 = M := ⟨_, rfl⟩
          have hM0 : lo < M := by omega
          have hM1 : M < hi := by omega
          have hbz := hbq.alloc hbq.size (.cells #[.int .i64 M] 3)
          have hsvb := HVB.out.later' hbz
          have HSVB := Lib.hid hsvb; clear hsvb
          have hdm := dig_one (z := M) (by omega) (by omega)
          have HDM := Lib.hid hdm; clear hdm
          go_wp2_with fail
          have HMM := Lib.hid hM; clear hM
          (with_reducible refine (rtimes_any lb [M] _ _ _ HSVB.out (sv_lit1 wr M) HDB.out HDM.out (by rw [HNB.out]; omega) (by simp)).mono ?_)
          rintro e u1 ⟨v3, rfl, hv3, hbu⟩
          rw [nv_one, HYB.out] at hv3
          have hb9u : Below wr.heap.size wr u1 := ((Below.refl _ wr).alloc (Nat.le_refl _) _).trans (hbu.mono (by simp))
          have hv9u := hv9.below hb9u
          have hYM0 : 0 ≤ Y * M := Int.mul_nonneg (by have := HY.out; omega) (by omega)
          have hYM : Y * M < pw 401 := by
            have h1 : Y * M ≤ Y * 1048576 := Int.mul_le_mul_of_nonneg_left (by omega) (by have := HY.out; omega)
            have h2 := HYL.out
            rw [show (401 : Nat) = 400 + 1 from rfl, pw_succ]
            omega
          have hl3 : (D (Y * M)).length ≤ 1000 := by have := (D_len_le hYM0).2 hYM; omega
          have hlX : (D X).length ≤ 1000 := by have := (D_len_le HX0.out).2 HXL.out; omega
          have hnX : nv (D X) = X := nv_D HX0.out
          have hnM : nv (D (Y * M)) = Y * M := nv_D hYM0
          obtain ⟨bb, hbb⟩ : ∃ b, decide (nv (D X) < nv (D (Y * M))) = b := ⟨_, rfl⟩
          have hls := rless_any (D X) (D (Y * M)) v2 v3 u1 hv9u.sv hv3.sv (Dig_D _) (Dig_D _) hlX hl3 bb hbb.symm
          rw [hnX, hnM] at hbb
          have HLS := Lib.hid hls; clear hls
          have HBB := Lib.hid hbb; clear hbb hnX hnM hl3 hlX hYM hYM0
          go_wp2_with fail
          (with_reducible refine HLS.out.mono ?_)
          rintro e u2 ⟨rfl, rfl⟩
          rcases bb with _ | _
          · go_wp2_with fail
            go_roundw
            case rel => exact ⟨M, hi, by rw [HMM.out], rfl, by omega, by omega, hh, Lib.hid ⟨by have := of_decide_eq_false HBB.out; omega, hXX.out.2⟩, hb9.trans (hb9u.mono hb9.size)⟩
            case measure => simp [intOf]; omega
          · go_wp2_with fail
            go_roundw
            case rel => exact ⟨lo, M, rfl, by rw [HMM.out], hl0, hM0, by omega, Lib.hid ⟨hXX.out.1, of_decide_eq_true HBB.out⟩, hb9.trans (hb9u.mono hb9.size)⟩
            case measure => simp [intOf]; omega
        · obtain rfl : hi = lo + 1 := by omega
          obtain ⟨g1, g2⟩ := over_fin HY.out hXX.out.1 hXX.out.2
          have G1 := Lib.hid g1; clear g1
          have G2 := Lib.hid g2; clear g2
          have hq9 := hown.below (hb2'.trans (hb9.mono hb2'.size))
          have hfc := hq9.cell (k := i) hql.out (by omega)
          have hff := hq9.frozen (k := i) hql.out
          obtain ⟨uu, huu⟩ : ∃ d, qs.getD i 0 = d := ⟨_, rfl⟩
          rw [huu] at hfc
          have hqs := hq9.store hql.out i lo
          have hvV := hv9.far (g := w.heap.size) (k := i) hsw (.int .i64 lo)
          have hbV := hbq.setCell (p := ⟨w.heap.size, i, none⟩) (Nat.le_refl _) (.int .i64 lo)
          have HUU := Lib.hid huu; clear huu
          go_wp2_with fail
          clear hfc hff
          obtain ⟨V, hV⟩ : ∃ V, V = wr.setCell ⟨w.heap.size, i, none⟩ (.int .i64 lo) := ⟨_, rfl⟩
          have hsV : V.heap.size = wr.heap.size := by rw [hV]; simp
          rw [← hV] at hqs hvV hbV ⊢
          clear hV
          rw [← hsV]
          clear hsV
          have hbz := hbV.alloc hbV.size (.cells #[.int .i64 lo] 3)
          (with_reducible refine (rtrim_any [lo] _ _ (sv_lit1 V lo) (dig_one hl0 (by omega)) (by simp)).mono ?_)
          rintro e u1 ⟨v4, rfl, hv4, hbu1⟩
          rw [nv_one] at hv4
          have hVu1 : Below V.heap.size V u1 := ((Below.refl _ V).alloc (Nat.le_refl _) _).trans (hbu1.mono (by simp))
          have hbu := hbV.trans (hVu1.mono hbV.size)
          have hsvb := HVB.out.later' hbu
          have HSVB := Lib.hid hsvb; clear hsvb
          go_wp2_with fail
          (with_reducible refine (rtimes_any lb (D lo) _ _ _ HSVB.out hv4.sv HDB.out (Dig_D lo) (by rw [HNB.out]; omega) (by have := (D_len_le hl0 (k := 1)).2 (by rw [pw_one]; omega); omega)).mono ?_)
          rintro e u2 ⟨v5, rfl, hv5, hbu2⟩
          rw [nv_D hl0, HYB.out] at hv5
          have hVu2 := hVu1.trans (hbu2.mono hVu1.size)
          have hvu2 := hvV.below hVu2
          have hYlo0 : 0 ≤ Y * lo := Int.mul_nonneg (by have := HY.out; omega) hl0
          have hlX : (D X).length ≤ 1000 := by have := (D_len_le HX0.out).2 HXL.out; omega
          have hmi := rminus_any (D X) (D (Y * lo)) v2 v5 u2 hvu2.sv hv5.sv (Dig_D _) (Dig_D _) hlX (D_len_mono hYlo0 hXX.out.1) (by rw [nv_D HX0.out, nv_D hYlo0]; exact hXX.out.1)
          rw [nv_D HX0.out, nv_D hYlo0, G2.out] at hmi
          have HMI := Lib.hid hmi; clear hmi hlX hYlo0
          go_wp2_with fail
          (with_reducible refine HMI.out.mono ?_)
          rintro e u3 ⟨v6, rfl, hv6, hbu3⟩
          have hVu3 := hVu2.trans (hbu3.mono hVu2.size)
          have hbf := hbV.trans (hVu3.mono hbV.size)
          have hqf := hqs.below hVu3
          have hsz6 : w.heap.size + 1 ≤ u2.heap.size := by have := hVu2.size; have := hqs.lt.2; omega
          go_wp2_with fail
          go_roundw
          case rel => exact ⟨i, qs.set i lo, X % Y, by omega, rfl, hv6.mono hsz6, Lib.hid (by simp [hql.out]), hqf, Lib.hid (hdig.out.set i hl0 (by omega)), Lib.hid (by
              have h1 := hq0.out
              rw [nv_take_any, HUU.out] at h1
              have h2 := (hdig.out.take i).nv_nonneg
              have h3 := hdig.out.getD' i
              rw [HUU.out] at h3
              have h4 : 0 ≤ pw i * uu := Int.mul_nonneg (by have := pw_pos i; omega) h3.1
              rw [List.take_set_of_le (Nat.le_refl _)]
              omega), Lib.hid (by
              rw [nv_drop_any, getD_set (by rw [hql.out]; omega), if_pos rfl, List.drop_set_of_lt (by omega), HST.out.1, G1.out]), Lib.hid HST.out.2.symm, hbf⟩
          case measure => simp [intOf]
    · have : k = 0 := by omega
      subst this
      have h1 := hqv.out
      have h2 := hRv.out
      rw [List.drop_zero, List.drop_zero] at h1
      rw [List.drop_zero] at h2
      have HV1 := Lib.hid h1; clear h1
      have HV2 := Lib.hid h2; clear h2
      go_wp2_with fail
      (with_reducible refine (rtrim_any qs _ _ hown.sv hdig.out (by rw [hql.out]; omega)).mono ?_)
      rintro e w1 ⟨v1, rfl, hv1, hb1⟩
      go_wp2_with fail
      go_ret2
      exact ⟨_, _, rfl, by rw [← HV1.out]; exact hv1.mono hs, by rw [← HV2.out]; exact (hr.below hb1).mono (by omega), hb.trans (hb1.mono hs)⟩

end Go.Proofs.YtkjpfnbdlbnbkaaGreatDoor

namespace Go.Proofs.YtkjpfnbdlbnbkaaGreatDoor
open Go.RowKit

theorem dd_lt {n : Nat} (h : n < 10) : Lib.decDigits n = [UInt8.ofNat (48 + n)] := Lib.decDigits_one h
theorem dd_ge {n : Nat} (h : ¬ n < 10) : Lib.decDigits n = Lib.decDigits (n / 10) ++ [UInt8.ofNat (48 + n % 10)] := by
  rw [Lib.decDigits, dif_neg h]

def isD (b : UInt8) : Prop := 48 ≤ b.toNat ∧ b.toNat ≤ 57
def allD (l : List UInt8) : Prop := ∀ b ∈ l, isD b
/-- What decimal digits spell. -/
def dv (l : List UInt8) : Nat := l.foldl (fun a b => a * 10 + (b.toNat - 48)) 0
theorem dv_foldl (l : List UInt8) (a : Nat) : l.foldl (fun a b => a * 10 + (b.toNat - 48)) a = a * 10 ^ l.length + dv l := by
  induction l generalizing a with
  | nil => simp [dv]
  | cons b l ih =>
    unfold dv
    simp only [List.foldl_cons, List.length_cons]
    rw [ih, ih (0 * 10 + (b.toNat - 48)), Nat.pow_succ, Nat.zero_mul, Nat.zero_add, Nat.add_mul, Nat.mul_assoc, Nat.mul_comm 10, Nat.add_assoc]
theorem dv_append (a b : List UInt8) : dv (a ++ b) = dv a * 10 ^ b.length + dv b := by
  unfold dv
  rw [List.foldl_append, dv_foldl]
  rfl
theorem dv_one (c : UInt8) : dv [c] = c.toNat - 48 := by show 0 * 10 + (c.toNat - 48) = _; omega
theorem dv_snoc (a : List UInt8) (c : UInt8) : dv (a ++ [c]) = dv a * 10 + (c.toNat - 48) := by
  rw [dv_append, dv_one, List.length_singleton, Nat.pow_one]
theorem dv_cons (b : UInt8) (l : List UInt8) : dv (b :: l) = (b.toNat - 48) * 10 ^ l.length + dv l := by
  have := dv_append [b] l
  rw [dv_one] at this
  exact this
theorem dv_lt {l : List UInt8} (h : allD l) : dv l < 10 ^ l.length := by
  induction l with
  | nil => decide
  | cons b l ih =>
    have h1 := ih (fun c hc => h c (List.mem_cons_of_mem _ hc))
    have h2 := h b (List.mem_cons_self ..)
    unfold isD at h2
    rw [dv_cons, List.length_cons, Nat.pow_succ]
    have h3 : (b.toNat - 48) * 10 ^ l.length ≤ 9 * 10 ^ l.length := Nat.mul_le_mul_right _ (by omega)
    omega

theorem ofNat_toNat {n : Nat} (h : n < 10) : (UInt8.ofNat (48 + n)).toNat = 48 + n := by
  rw [UInt8.toNat_ofNat']; omega
theorem isD_ofNat {n : Nat} (h : n < 10) : isD (UInt8.ofNat (48 + n)) := by unfold isD; rw [ofNat_toNat h]; omega

theorem dd_all (n : Nat) : allD (Lib.decDigits n) := by
  induction n using Nat.strongRecOn with
  | _ n ih =>
    by_cases h : n < 10
    · rw [dd_lt h]; intro b hb; rw [List.mem_singleton] at hb; subst hb; exact isD_ofNat h
    · rw [dd_ge h]; intro b hb
      rcases List.mem_append.1 hb with h1 | h1
      · exact ih _ (by omega) b h1
      · rw [List.mem_singleton] at h1; subst h1; exact isD_ofNat (by omega)
theorem dd_ne (n : Nat) : Lib.decDigits n ≠ [] := by
  by_cases h : n < 10
  · rw [dd_lt h]; simp
  · rw [dd_ge h]; simp
theorem dv_dd (n : Nat) : dv (Lib.decDigits n) = n := by
  induction n using Nat.strongRecOn with
  | _ n ih =>
    by_cases h : n < 10
    · rw [dd_lt h]; show 0 * 10 + ((UInt8.ofNat (48 + n)).toNat - 48) = n; rw [ofNat_toNat h]; omega
    · rw [dd_ge h, dv_snoc, ih _ (by omega), ofNat_toNat (by omega)]; omega
/-- No zero leads, but that of 0 itself. -/
theorem dd_head (n : Nat) : Lib.decDigits n = [48] ∨ (Lib.decDigits n).head? ≠ some 48 := by
  induction n using Nat.strongRecOn with
  | _ n ih =>
    by_cases h : n < 10
    · rw [dd_lt h]
      by_cases h0 : n = 0
      · subst h0; exact .inl rfl
      · refine .inr (fun e => ?_)
        have e := Option.some.inj e
        have h1 := ofNat_toNat h
        rw [e] at h1
        have h2 : (48 : UInt8).toNat = 48 := rfl
        omega
    · rw [dd_ge h]
      right
      obtain ⟨c, r, hr⟩ : ∃ c r, Lib.decDigits (n / 10) = c :: r := by
        cases hd : Lib.decDigits (n / 10) with
        | nil => exact absurd hd (dd_ne _)
        | cons c r => exact ⟨c, r, rfl⟩
      rcases ih (n / 10) (by omega) with h1 | h1
      · have h2 := dv_dd (n / 10)
        rw [h1] at h2
        have h3 : dv [48] = 0 := rfl
        omega
      · rw [hr] at h1 ⊢
        simpa using h1

theorem u8_eq {b : UInt8} (h : isD b) : b = UInt8.ofNat (48 + (b.toNat - 48)) := by
  apply UInt8.toNat_inj.1
  unfold isD at h
  rw [ofNat_toNat (by omega)]; omega

theorem dd_of {l : List UInt8} (h : allD l) (hne : l ≠ []) (hh : l = [48] ∨ l.head? ≠ some 48) : Lib.decDigits (dv l) = l := by
  have key : ∀ n (l : List UInt8), l.length = n → allD l → l ≠ [] → (l = [48] ∨ l.head? ≠ some 48) → Lib.decDigits (dv l) = l := by
    intro n
    induction n with
    | zero => intro l hl _ hne; exact absurd (List.eq_nil_of_length_eq_zero hl) hne
    | succ n ih =>
      intro l hl h hne hh
      obtain ⟨a, c, rfl⟩ : ∃ a c, l = a ++ [c] := by
        refine ⟨l.dropLast, l.getLast hne, (List.dropLast_concat_getLast hne).symm⟩
      have hc := h c (by simp)
      have hc2 := u8_eq hc
      unfold isD at hc
      have ha : allD a := fun b hb => h b (by simp [hb])
      rcases List.eq_nil_or_concat a with rfl | ⟨a', d, rfl⟩
      · rw [List.nil_append]
        have : dv [c] = c.toNat - 48 := by show 0 * 10 + (c.toNat - 48) = _; omega
        rw [this, dd_lt (by omega), ← hc2]
      · rw [List.concat_eq_append] at *
        have hane : a' ++ [d] ≠ [] := by simp
        have hih := ih (a' ++ [d]) (by simp at hl ⊢; omega) ha hane (by
          rcases hh with hh | hh
          · have := congrArg List.length hh; simp at this
          · right
            intro e
            apply hh
            rw [List.head?_append, e]; rfl)
        have hpos : 0 < dv (a' ++ [d]) := by
          rcases Nat.eq_zero_or_pos (dv (a' ++ [d])) with h0 | h0
          · rw [h0, dd_lt (by omega)] at hih
            exfalso
            rcases hh with hh | hh
            · have := congrArg List.length hh; simp at this
            · apply hh
              rw [← hih]; rfl
          · exact h0
        rw [dv_snoc, dd_ge (by omega)]
        have e1 : (dv (a' ++ [d]) * 10 + (c.toNat - 48)) / 10 = dv (a' ++ [d]) := by omega
        have e2 : (dv (a' ++ [d]) * 10 + (c.toNat - 48)) % 10 = c.toNat - 48 := by omega
        rw [e1, e2, hih, ← hc2]
  exact key _ l rfl h hne hh

/-- A number below 10^k with zeros ahead of it. -/
def pad (k m : Nat) : List UInt8 := List.replicate (k - (Lib.decDigits m).length) 48 ++ Lib.decDigits m

theorem dd_len_le {m k : Nat} (hk : 1 ≤ k) (h : m < 10 ^ k) : (Lib.decDigits m).length ≤ k := by
  induction k generalizing m with
  | zero => omega
  | succ k ih =>
    by_cases h9 : m < 10
    · rw [dd_lt h9]; simp
    · rw [dd_ge h9, List.length_append, List.length_singleton]
      rcases Nat.eq_zero_or_pos k with h0 | h0
      · subst h0; omega
      · have := ih h0 (m := m / 10) (by rw [Nat.pow_succ] at h; omega)
        omega
theorem dd_pad (k q m : Nat) (hq : 0 < q) (hk : 1 ≤ k) (hm : m < 10 ^ k) : Lib.decDigits (q * 10 ^ k + m) = Lib.decDigits q ++ pad k m := by
  induction k generalizing m with
  | zero => omega
  | succ k ih =>
    rw [Nat.pow_succ] at hm ⊢
    rw [dd_ge (by have : 0 < 10 ^ k := Nat.pow_pos (by omega); have : 1 * 1 ≤ q * 10 ^ k := Nat.mul_le_mul hq this; rw [← Nat.mul_assoc]; omega)]
    have e1 : (q * (10 ^ k * 10) + m) / 10 = q * 10 ^ k + m / 10 := by rw [← Nat.mul_assoc]; omega
    have e2 : (q * (10 ^ k * 10) + m) % 10 = m % 10 := by rw [← Nat.mul_assoc]; omega
    rw [e1, e2]
    rcases Nat.eq_zero_or_pos k with h0 | h0
    · subst h0
      have : m / 10 = 0 := by omega
      rw [this]
      have hm10 : m < 10 := by omega
      unfold pad
      rw [dd_lt hm10, Nat.mod_eq_of_lt hm10]
      simp
    · rw [ih (m / 10) h0 (by omega), List.append_assoc]
      congr 1
      unfold pad
      by_cases h9 : m < 10
      · have : m / 10 = 0 := by omega
        rw [this, dd_lt (n := 0) (by omega), dd_lt h9, Nat.mod_eq_of_lt h9]
        have e : k + 1 - 1 = (k - 1) + 1 := by omega
        simp only [List.length_singleton]
        rw [e, List.replicate_succ', List.append_assoc, List.append_assoc]
        rfl
      · rw [dd_ge h9, List.length_append, List.length_singleton, List.append_assoc]
        congr 2
        omega

end Go.Proofs.YtkjpfnbdlbnbkaaGreatDoor

namespace Go.Proofs.YtkjpfnbdlbnbkaaGreatDoor
open Go.RowKit

def ResP (z : Int) (w : World) (e : Ending) (w' : World) : Prop := ∃ r, e = .returned (.tuple #[r, .int .i64 (fite z)]) ∧ BO w' w.heap.size r (fitz z) ∧ Below w.heap.size w w'

theorem rightP_of {z : Int} (h : ab z < pw 60) : RightP (sgn z) (D (ab z)) := ⟨z, rfl, rfl, h⟩
theorem len60 {z : Int} (h : ab z < pw 60) : (D (ab z)).length ≤ 60 := (D_len_le (ab_nonneg z)).2 h
theorem ab_mul (x y : Int) : ab (x * y) = ab x * ab y := by unfold ab; rw [Int.natAbs_mul]; rfl
theorem sgn_mul (x y : Int) : sgn (x * y) = sgn x * sgn y := by
  unfold sgn
  rcases Int.lt_trichotomy x 0 with hx | hx | hx <;> rcases Int.lt_trichotomy y 0 with hy | hy | hy
  · rw [if_neg (by have := Int.mul_pos_of_neg_of_neg hx hy; omega), if_neg (by have := Int.mul_pos_of_neg_of_neg hx hy; omega), if_pos hx, if_pos hy]; rfl
  · subst hy; simp
  · rw [if_pos (Int.mul_neg_of_neg_of_pos hx hy), if_pos hx, if_neg (by omega), if_neg (by omega)]; rfl
  · subst hx; simp
  · subst hx; simp
  · subst hx; simp
  · rw [if_pos (Int.mul_neg_of_pos_of_neg hx hy), if_neg (by omega), if_neg (by omega), if_pos hy]; rfl
  · subst hy; simp
  · have := Int.mul_pos hx hy
    rw [if_neg (by omega), if_neg (by omega), if_neg (by omega), if_neg (by omega), if_neg (by omega), if_neg (by omega)]; rfl

theorem boxes2 (w : World) (a b : Array Value) : ∃ W, W = (w.alloc (.cells a 24)).alloc (.cells b 24) ∧ Below w.heap.size w W ∧ Blk W w.heap.size 24 a ∧ Blk W (w.heap.size + 1) 24 b ∧ W.heap.size = w.heap.size + 2 := by
  refine ⟨_, rfl, ((Below.refl _ _).alloc (Nat.le_refl _) _).alloc (by simp) _, (Blk.new _ _ _).alloc _, ?_, by simp⟩
  have := Blk.new (w.alloc (.cells a 24)) 24 b
  rw [World.size_alloc] at this
  exact this
theorem boxes3 (w : World) (a b c : Array Value) : ∃ W, W = ((w.alloc (.cells a 24)).alloc (.cells b 24)).alloc (.cells c 24) ∧ Below w.heap.size w W ∧ Blk W w.heap.size 24 a ∧ Blk W (w.heap.size + 1) 24 b ∧ Blk W (w.heap.size + 1 + 1) 24 c ∧ W.heap.size = w.heap.size + 3 := by
  obtain ⟨W, hW, h1, h2, h3, h4⟩ := boxes2 w a b
  rw [← hW]
  have h5 := Blk.new W 24 c
  rw [h4] at h5
  exact ⟨_, rfl, h1.alloc h1.size _, h2.alloc _, h3.alloc _, h5, by simp [h4]⟩
theorem boxes4 (w : World) (a b c d : Array Value) : ∃ W, W = (((w.alloc (.cells a 24)).alloc (.cells b 24)).alloc (.cells c 24)).alloc (.cells d 24) ∧ Below w.heap.size w W ∧ Blk W w.heap.size 24 a ∧ Blk W (w.heap.size + 1) 24 b ∧ Blk W (w.heap.size + 1 + 1) 24 c ∧ Blk W (w.heap.size + 1 + 1 + 1) 24 d ∧ W.heap.size = w.heap.size + 4 := by
  obtain ⟨W, hW, h1, h2, h3, h4, h5⟩ := boxes3 w a b c
  rw [← hW]
  have h6 := Blk.new W 24 d
  rw [h5] at h6
  exact ⟨_, rfl, h1.alloc h1.size _, h2.alloc _, h3.alloc _, h4.alloc _, h6, by simp [h5]⟩

set_option maxRecDepth 100000 in
set_option maxHeartbeats 2000000 in
theorem mul_any (x y : Int) (vx vy : Value) (w : World) (hx : BV w w.heap.size vx x) (hy : BV w w.heap.size vy y) (hx6 : ab x < pw 60) (hy6 : ab y < pw 60) :
    Calls Tryz.prog 11 #[vx, vy] w (ResP (x * y) w) := by
  obtain ⟨A1, c1, rfl, hc1, hm1, hI1⟩ := hx
  obtain ⟨A2, c2, rfl, hc2, hm2, hI2⟩ := hy
  have hl1 := len60 hx6
  have hl2 := len60 hy6
  have hr1 := fun (w' : World) (hb : Below w.heap.size w w') => right_any (sgn x) (D (ab x)) A1 c1 w' ((hI1.below hb).more hb.size) (by omega) true (by simp [rightP_of hx6])
  have hr2 := fun (w' : World) (hb : Below w.heap.size w w') => right_any (sgn y) (D (ab y)) A2 c2 w' ((hI2.below hb).more hb.size) (by omega) true (by simp [rightP_of hy6])
  have htm := fun (w' : World) (hb : Below w.heap.size w w') => times_any (D (ab x)) (D (ab y)) A1 A2 c1 c2 w' ((hI1.below hb).more hb.size) ((hI2.below hb).more hb.size) (Dig_D _) (Dig_D _) (by omega) (by omega)
  rw [nv_D (ab_nonneg _), nv_D (ab_nonneg _), ← ab_mul] at htm
  have hft := fun A c w' => fitting_any (x * y) (sgn x * sgn y) A c w' (fun _ => (sgn_mul x y).symm)
  obtain ⟨n1, hn1⟩ : ∃ n, (D (ab x)).length = n := ⟨_, rfl⟩
  obtain ⟨n2, hn2⟩ : ∃ n, (D (ab y)).length = n := ⟨_, rfl⟩
  rw [hn1] at hr1 htm hl1 ⊢
  rw [hn2] at hr2 htm hl2 ⊢
  have hs1 := sgn_bd x
  have hs2 := sgn_bd y
  obtain ⟨s1, hs1e⟩ : ∃ s, sgn x = s := ⟨_, rfl⟩
  obtain ⟨s2, hs2e⟩ : ∃ s, sgn y = s := ⟨_, rfl⟩
  rw [hs1e] at hr1 hft hs1 ⊢
  rw [hs2e] at hr2 hft hs2 ⊢
  have HR1 := Lib.hid hr1; clear hr1
  have HR2 := Lib.hid hr2; clear hr2
  have HTM := Lib.hid htm; clear htm
  have HFT := Lib.hid hft; clear hft
  clear hn1 hn2 hs1e hs2e hI1 hI2 hx6 hy6 hc1 hc2
  have hms : -1 ≤ s1 * s2 ∧ s1 * s2 ≤ 1 := by
    have a : s1 = -1 ∨ s1 = 0 ∨ s1 = 1 := by omega
    rcases a with rfl | rfl | rfl <;> omega
  go_enter Tryz.func11, Tryz.ntmps11
  go_wp2_with fail
  obtain ⟨w1, hw1, hb1, k1, k2, k3, hsz⟩ := boxes3 w #[.int .i64 s1, .slice A1 n1 c1] #[.int .i64 s2, .slice A2 n2 c2] #[.int .i64 0, .slice none 0 0]
  rw [← hw1]
  clear hw1
  refine (HR1.out w1 hb1).mono ?_
  rintro e w2 ⟨rfl, hb2⟩
  have k1 := k1.below hb2 k1.lt
  have k2 := k2.below hb2 k2.lt
  have k3 := k3.below hb2 k3.lt
  have hs2' := hb2.size
  have hb2 := hb1.trans (hb2.mono hb1.size)
  have j1 : w2.cell? ⟨w.heap.size + 1, 0, none⟩ = some (.int .i64 s2) := k2.cell 0
  have j2 : w2.cell? ⟨w.heap.size + 1, 1, none⟩ = some (.slice A2 n2 c2) := k2.cell 1
  go_wp2_with fail
  refine (HR2.out w2 hb2).mono ?_
  rintro e w3 ⟨rfl, hb3⟩
  clear j1 j2
  have k1 := k1.below hb3 k1.lt
  have k2 := k2.below hb3 k2.lt
  have k3 := k3.below hb3 k3.lt
  have hs3' := hb3.size
  have hb3 := hb2.trans (hb3.mono hb2.size)
  clear hb1 hb2 HR1 HR2
  obtain ⟨g, hg⟩ : ∃ g, w.heap.size + 1 + 1 = g := ⟨_, rfl⟩
  have hgw : w.heap.size + 1 < g ∧ g < w3.heap.size := by have := k3.lt; omega
  rw [hg] at k3 ⊢
  clear hg
  have e0 : ∀ W' : World, Below g w3 W' → W'.cell? ⟨w.heap.size, 0, none⟩ = some (.int .i64 s1) ∧ W'.cell? ⟨w.heap.size, 1, none⟩ = some (.slice A1 n1 c1) ∧ W'.cell? ⟨w.heap.size + 1, 0, none⟩ = some (.int .i64 s2) ∧ W'.cell? ⟨w.heap.size + 1, 1, none⟩ = some (.slice A2 n2 c2) ∧ Below g w3 W' := fun W' hW =>
    ⟨(k1.below hW (by omega)).cell 0, (k1.below hW (by omega)).cell 1, (k2.below hW (by omega)).cell 0, (k2.below hW (by omega)).cell 1, hW⟩
  have E0 := Lib.hid e0; clear e0
  have hwm : IntKind.i64.wrap (s1 * s2) = s1 * s2 := IntWalk.i64_in _ (by omega)
  have hB00 : Below g w3 w3.drew := (Below.refl _ _).drew
  have hB01 : Below w3.heap.size w3 w3.drew := (Below.refl _ _).drew
  go_wp2_with fail
  go_region_held3 (fun W' => W'.cell? ⟨w.heap.size, 0, none⟩ = some (.int .i64 s1) ∧ W'.cell? ⟨w.heap.size, 1, none⟩ = some (.slice A1 n1 c1) ∧ W'.cell? ⟨w.heap.size + 1, 0, none⟩ = some (.int .i64 s2) ∧ W'.cell? ⟨w.heap.size + 1, 1, none⟩ = some (.slice A2 n2 c2) ∧ Below g w3 W')
    (first | exact E0.out _ (by assumption))
    (first
      | (go_at_call 67; refine (HTM.out _ (hb3.trans (Below.mono (B := w3.heap.size) (by assumption) hb3.size))).mono ?_; rintro e w4 ⟨v4, rfl, hown4, hb4⟩; have hB4 : Below w3.heap.size w3 w4 := hB01.trans (hb4.mono (by simp)); have hB4g : Below g w3 w4 := hB4.mono (by omega); obtain ⟨A4, c4, rfl, hc4, hm4, hI4⟩ := hown4.at_)
      | (go_at_call 66; refine (HFT.out _ _ _).mono ?_; rintro e w5 ⟨r, rfl, hr, hb5⟩; have HR := Lib.hid hr; obtain ⟨s', A', n', c', rfl⟩ := hr.form; clear hr; have hB5 : Below w3.heap.size w3 w5 := hB4.trans (hb5.mono hB4.size); have hB5g : Below g w3 w5 := hB5.mono (by omega); have hbk := k3.below hB5 (by omega); have q0 : w5.cell? ⟨g, 0, none⟩ = some (.int .i64 0) := hbk.cell 0; have q1 : w5.cell? ⟨g, 1, none⟩ = some (.slice none 0 0) := hbk.cell 1; have f0 := hbk.frozen 0; have f1 := hbk.frozen 1; have hB6 := (hB5g.setCell (p := ⟨g, 0, none⟩) (Nat.le_refl _) (.int .i64 s')).setCell (p := ⟨g, 1, none⟩) (Nat.le_refl _) (.slice A' n' c')))
  go_goals
  have hbs := hbk.set2 (.int .i64 s') (.slice A' n' c')
  have hd0 := hbs.cell 0
  have hd1 := hbs.cell 1
  simp at hd0 hd1
  go_wp2_with fail
  refine bodyPost_ret (v := .tuple #[.agg #[.int .i64 s', .slice A' n' c'], .int .i64 (fite (x * y))]) (by simp [results, Tryz.results11, go_sem, hd0, hd1]) rfl ?_
  have hof := (hown4.below hb5).far2 (g := g) (by simp; omega) (.int .i64 s') (.slice A' n' c')
  exact ⟨_, rfl, HR.out.fito (hof.mono (by have := hb3.size; first | omega | (simp; omega))), hb3.trans (hB6.mono (by omega))⟩

end Go.Proofs.YtkjpfnbdlbnbkaaGreatDoor
