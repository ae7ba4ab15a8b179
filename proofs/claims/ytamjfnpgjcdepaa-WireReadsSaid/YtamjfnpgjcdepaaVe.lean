/- Walk of the laws' helper 'equal': a reader at an encoding reads the value. -/
import Derived.Test.YtamjfnpgjcdepaaVb
import Derived.Deep.RegionWith
namespace Go.Proofs.Ytamjfnpgjcdepaa
open Go.RowKit

theorem Keep.cell {b : Nat} {w w' : World} (h : Keep b w w') {b' o : Nat} {v : Value} (hc : w.cell? ⟨b', o, none⟩ = some v) (hn : b' ≠ b) : w'.cell? ⟨b', o, none⟩ = some v :=
  World.grownBy.cell h hc (by simpa using hn)

theorem Keep.ofDrew {b : Nat} {w w' : World} (h : Keep b w.drew w') : Keep b w w' := ⟨h.os, h.tape, h.output, h.size, h.block⟩

theorem isI64_toNat {n : Int} (h : isI64 n) (h0 : 0 ≤ n) : n.toNat ≤ 9223372036854775807 := by unfold isI64 at h; omega
theorem numP_encInt {n : Int} (h : isI64 n) (h0 : 0 ≤ n) (r : List UInt8) : numP (encInt n ++ r) = some (n.toNat, r) := by
  unfold encInt
  rw [if_neg (by omega), List.append_assoc]
  exact numP_enc (isI64_toNat h h0) r

theorem nums_enc (b : Nat) (L : List Int) (hL : ∀ z ∈ L, isI64 z) (hl : L.length ≤ 1000000) (rest : List UInt8) (w : World) (h : Rd w b (ba (encList (L.map encInt) ++ rest)) false) (hs : (encList (L.map encInt) ++ rest).length ≤ 10000000) :
    Calls Try.prog 31 #[.pointer (some ⟨b, 0, none⟩)] w fun e w' => ∃ a cap, e = .returned (.slice a L.length cap) ∧ IntsAt w'.heap.size w' a L ∧ Rd w' b (ba rest) false ∧ Keep b w w' := by
  refine (nums_any b _ false w h (by simp) (by rw [ba_size]; exact hs)).mono ?_
  intro e w' hp
  unfold PostI at hp
  rw [bts_ba, listP_enc L (fun x hx r => intP_enc (hL x hx) r) (by omega) rest] at hp
  obtain ⟨v, rfl, ho, hr, hk⟩ := hp
  obtain ⟨a, cap, rfl, hi⟩ := ho.ints
  exact ⟨a, cap, rfl, hi, hr, hk⟩

theorem texts_enc (b : Nat) (T : List ByteArray) (hT : ∀ z ∈ T, z.size ≤ 1000000) (hl : T.length ≤ 1000000) (rest : List UInt8) (w : World) (h : Rd w b (ba (encList (T.map encStr) ++ rest)) false) (hs : (encList (T.map encStr) ++ rest).length ≤ 10000000) :
    Calls Try.prog 34 #[.pointer (some ⟨b, 0, none⟩)] w fun e w' => ∃ a cap, e = .returned (.slice a T.length cap) ∧ StrsAt w'.heap.size w' a T ∧ Rd w' b (ba rest) false ∧ Keep b w w' := by
  refine (texts_any b _ false w h (by simp) (by rw [ba_size]; exact hs)).mono ?_
  intro e w' hp
  unfold PostS at hp
  have he : encList (T.map encStr) = encList ((T.map bts).map encText) := by rw [List.map_map]; rfl
  rw [bts_ba, he, listP_enc (rd := textP) (enc := encText) (T.map bts) (fun x hx r => by
    obtain ⟨y, hy, rfl⟩ := List.mem_map.1 hx
    exact textP_enc (by rw [bts_len]; have := hT y hy; omega) r) (by rw [List.length_map]; omega) rest] at hp
  obtain ⟨v, rfl, ho, hr, hk⟩ := hp
  obtain ⟨a, cap, rfl, hi⟩ := ho.strs
  have hid : (T.map bts).map ba = T := by
    rw [List.map_map]
    conv => rhs; rw [← List.map_id T]
    exact List.map_congr_left (fun x _ => ba_bts x)
  rw [hid] at hi ⊢
  exact ⟨a, cap, rfl, hi, hr, hk⟩

theorem below_of {B b : Nat} {w0 w1 w2 : World} (h1 : Below w0.heap.size w0 w1) (h2 : Keep b w1.drew w2) (hBb : B ≤ b) (hB : B ≤ w0.heap.size) : Below B w0 w2 :=
  (h1.mono hB).trans ((Keep.ofDrew h2).below hBb (Nat.le_trans hB h1.size))

set_option maxHeartbeats 4000000 in
theorem equal_any (d : Vd) (B b : Nat) (hBb : B ≤ b) (rest : List UInt8) (w : World) (hf : d.Fit B w) (h : Rd w b (ba (encV d ++ rest)) false) (hs : (encV d ++ rest).length ≤ 10000000) :
    Calls Try.prog 43 #[.pointer (some ⟨b, 0, none⟩), d.val] w fun e w' => e = .returned (.bool true) ∧ Rd w' b (ba rest) false ∧ Keep b w w' := by
  have hB := (Below.refl w.heap.size w).alloc (Nat.le_refl _) (.cells d.parts.toArray 25)
  obtain ⟨c0, c1, c2, c3, c4⟩ := d.at_alloc w 25
  have hblt := h.lt
  have HF := Lib.hid hf; clear hf
  have HB := Lib.hid hB; clear hB
  have HS := Lib.hid hs; clear hs
  have HR := Lib.hid h; clear h
  rcases kinds d with hk | hk | hk | hk | hk
  · have he : encV d = encInt (numberP d.N) := by unfold encV; rw [if_pos hk]
    rw [he] at HR HS
    have HK := Lib.hid hk; clear hk he c0 c2 c3 c4
    rw [show d.val = .agg #[.int .i64 d.K, .int .i64 d.N, .string d.S, .slice d.aL d.L.length d.cL, .slice d.aT d.T.length d.cT] from rfl]
    go_enter Try.func43, Try.ntmps43
    go_wp2_with fail
    refine (kind_any d 0 HK.out _).mono ?_
    rintro e w1 ⟨rfl, hb1⟩
    have hne : w.heap.size ≠ b := by omega
    have cc := (hb1.cell (p := ⟨w.heap.size, 1, none⟩) (by simp)).trans c1
    clear c1
    have hs1 : w.heap.size ≤ w1.heap.size := by have := hb1.size; simp at this; omega
    have hbT := HB.out.trans (hb1.mono (by simp))
    have hR1 := Below.rd hbT HR.out
    have HR1 := Lib.hid hR1
    have HBT := Lib.hid hbT
    clear hbT hb1 hR1
    have hp := numP_encInt (numberP_i64 HF.out.n) numberP_nonneg rest
    have HP := Lib.hid hp; clear hp
    have hN := numberP_nonneg (n := d.N)
    go_wp2_with fail
    go_region_with (first
      | (go_at_call 24; refine (num_some b (ba (encInt (numberP d.N) ++ rest)) false _ (by exact HR1.out) (by rw [ba_size]; have := HS.out; omega) _ rest HP.out).mono ?_; rw [Int.toNat_of_nonneg hN]; rintro e w2 ⟨rfl, hr2, hk2⟩; have cc2 := hk2.cell cc hne)
      | (go_at_call 58; refine (number_any _ _ HF.out.n).mono ?_; rintro e w3 ⟨rfl, rfl⟩))
    all_goals
      go_wp2_with fail
      go_ret
      exact ⟨rfl, by assumption, (Below.keep HBT.out).trans (Keep.ofDrew (by assumption))⟩
  · have he : encV d = encInt d.N := by unfold encV; rw [if_neg (by omega), if_pos hk]
    rw [he] at HR HS
    have HK := Lib.hid hk; clear hk he c0 c2 c3 c4
    rw [show d.val = .agg #[.int .i64 d.K, .int .i64 d.N, .string d.S, .slice d.aL d.L.length d.cL, .slice d.aT d.T.length d.cT] from rfl]
    go_enter Try.func43, Try.ntmps43
    go_wp2_with fail
    refine (kind_any d 1 HK.out _).mono ?_
    rintro e w1 ⟨rfl, hb1⟩
    have hne : w.heap.size ≠ b := by omega
    have cc := (hb1.cell (p := ⟨w.heap.size, 1, none⟩) (by simp)).trans c1
    clear c1
    have hs1 : w.heap.size ≤ w1.heap.size := by have := hb1.size; simp at this; omega
    have hbT := HB.out.trans (hb1.mono (by simp))
    have hR1 := Below.rd hbT HR.out
    have HR1 := Lib.hid hR1
    have HBT := Lib.hid hbT
    clear hbT hb1 hR1
    have hp := intP_enc HF.out.n rest
    have HP := Lib.hid hp; clear hp
    go_wp2_with fail
    go_region_with (first
      | (go_at_call 26; refine (int_some b (ba (encInt d.N ++ rest)) false _ (by exact HR1.out) (by rw [ba_size]; have := HS.out; omega) _ rest HP.out).mono ?_; rintro e w2 ⟨rfl, hr2, hk2⟩; have cc2 := hk2.cell cc hne))
    all_goals
      go_wp2_with fail
      go_ret
      exact ⟨rfl, by assumption, (Below.keep HBT.out).trans (Keep.ofDrew (by assumption))⟩
  · have he : encV d = encStr d.S := by unfold encV; rw [if_neg (by omega), if_neg (by omega), if_pos hk]
    rw [he] at HR HS
    have HK := Lib.hid hk; clear hk he c0 c1 c3 c4
    rw [show d.val = .agg #[.int .i64 d.K, .int .i64 d.N, .string d.S, .slice d.aL d.L.length d.cL, .slice d.aT d.T.length d.cT] from rfl]
    go_enter Try.func43, Try.ntmps43
    go_wp2_with fail
    refine (kind_any d 2 HK.out _).mono ?_
    rintro e w1 ⟨rfl, hb1⟩
    have hne : w.heap.size ≠ b := by omega
    have cc := (hb1.cell (p := ⟨w.heap.size, 2, none⟩) (by simp)).trans c2
    clear c2
    have hs1 : w.heap.size ≤ w1.heap.size := by have := hb1.size; simp at this; omega
    have hbT := HB.out.trans (hb1.mono (by simp))
    have hR1 := Below.rd hbT HR.out
    have HR1 := Lib.hid hR1
    have HBT := Lib.hid hbT
    clear hbT hb1 hR1
    have hp : textP (encStr d.S ++ rest) = some (bts d.S, rest) := textP_enc (by have := HF.out.s; rw [bts_len]; omega) rest
    have HP := Lib.hid hp; clear hp
    go_wp2_with fail
    go_region_with (first
      | (go_at_call 28; refine (text_some b (ba (encStr d.S ++ rest)) false _ (by exact HR1.out) (by rw [ba_size]; have := HS.out; omega) _ rest HP.out).mono ?_; rw [ba_bts]; rintro e w2 ⟨rfl, hr2, hk2⟩; have cc2 := hk2.cell cc hne))
    all_goals
      go_wp2_with fail
      go_ret
      exact ⟨rfl, by assumption, (Below.keep HBT.out).trans (Keep.ofDrew (by assumption))⟩
  · have he : encV d = encList (d.L.map encInt) := by unfold encV; rw [if_neg (by omega), if_neg (by omega), if_neg (by omega), if_pos hk]
    rw [he] at HR HS
    have HK := Lib.hid hk; clear hk he c0 c1 c2 c4
    rw [show d.val = .agg #[.int .i64 d.K, .int .i64 d.N, .string d.S, .slice d.aL d.L.length d.cL, .slice d.aT d.T.length d.cT] from rfl]
    go_enter Try.func43, Try.ntmps43
    go_wp2_with fail
    refine (kind_any d 3 HK.out _).mono ?_
    rintro e w1 ⟨rfl, hb1⟩
    have hne : w.heap.size ≠ b := by omega
    have cc := (hb1.cell (p := ⟨w.heap.size, 3, none⟩) (by simp)).trans c3
    clear c3
    have hs1 : w.heap.size ≤ w1.heap.size := by have := hb1.size; simp at this; omega
    have hbT := HB.out.trans (hb1.mono (by simp))
    have hR1 := Below.rd hbT HR.out
    have HR1 := Lib.hid hR1
    have HBT := Lib.hid hbT
    clear hbT hb1 hR1
    go_wp2_with fail
    go_region_with (first
      | (go_at_call 31; refine (nums_enc b d.L HF.out.ls (Nat.le_trans HF.out.l (by omega)) rest _ (by exact HR1.out) HS.out).mono ?_; rintro e w2 ⟨a2, p2, rfl, hi2, hr2, hk2⟩; have cc2 := hk2.cell cc hne; have HI2 := Lib.hid hi2; clear hi2)
      | (go_at_call 30; refine (sameNums_any a2 d.aL d.L p2 d.cL _ (by exact HI2.out) (by exact HF.out.atL.mono (below_of HBT.out hk2 hBb (by omega)) (by have := hk2.size; simp at this; omega)) (Nat.le_trans HF.out.l (by omega))).mono ?_; rintro e w3 ⟨rfl, hb3⟩))
    all_goals
      go_wp2_with fail
      go_ret
      exact ⟨rfl, Below.rd (by assumption) (by assumption), ((Below.keep HBT.out).trans (Keep.ofDrew (by assumption))).trans (Below.keep (by assumption))⟩
  · have he : encV d = encList (d.T.map encStr) := by unfold encV; rw [if_neg (by omega), if_neg (by omega), if_neg (by omega), if_neg (by omega)]
    rw [he] at HR HS
    have HK := Lib.hid hk; clear hk he c0 c1 c2 c3
    rw [show d.val = .agg #[.int .i64 d.K, .int .i64 d.N, .string d.S, .slice d.aL d.L.length d.cL, .slice d.aT d.T.length d.cT] from rfl]
    go_enter Try.func43, Try.ntmps43
    go_wp2_with fail
    refine (kind_any d 4 HK.out _).mono ?_
    rintro e w1 ⟨rfl, hb1⟩
    have hne : w.heap.size ≠ b := by omega
    have cc := (hb1.cell (p := ⟨w.heap.size, 4, none⟩) (by simp)).trans c4
    clear c4
    have hs1 : w.heap.size ≤ w1.heap.size := by have := hb1.size; simp at this; omega
    have hbT := HB.out.trans (hb1.mono (by simp))
    have hR1 := Below.rd hbT HR.out
    have HR1 := Lib.hid hR1
    have HBT := Lib.hid hbT
    clear hbT hb1 hR1
    go_wp2_with fail
    go_region_with (first
      | (go_at_call 34; refine (texts_enc b d.T (fun x hx => Nat.le_trans (HF.out.ts x hx) (by omega)) (Nat.le_trans HF.out.t (by omega)) rest _ (by exact HR1.out) HS.out).mono ?_; rintro e w2 ⟨a2, p2, rfl, hi2, hr2, hk2⟩; have cc2 := hk2.cell cc hne; have HI2 := Lib.hid hi2; clear hi2)
      | (go_at_call 33; refine (sameTexts_any a2 d.aT d.T p2 d.cT _ (by exact HI2.out) (by exact HF.out.atT.mono (below_of HBT.out hk2 hBb (by omega)) (by have := hk2.size; simp at this; omega)) (Nat.le_trans HF.out.t (by omega))).mono ?_; rintro e w3 ⟨rfl, hb3⟩))
    all_goals
      go_wp2_with fail
      go_ret
      exact ⟨rfl, Below.rd (by assumption) (by assumption), ((Below.keep HBT.out).trans (Keep.ofDrew (by assumption))).trans (Below.keep (by assumption))⟩

end Go.Proofs.Ytamjfnpgjcdepaa
