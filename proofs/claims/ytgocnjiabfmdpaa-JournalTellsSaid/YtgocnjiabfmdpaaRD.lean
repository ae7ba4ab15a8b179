/- Walks of wire's reader: fail, digits. Walks of wire's reader: Num, Int, Text and the small methods. -/
import Derived.Test.YtgocnjiabfmdpaaRW
import Derived.Test.YtgocnjiabfmdpaaRP
import Derived.Lib.ConvBytes
namespace Go.Proofs.Ytgocnjiabfmdpaa.Wire
set_option maxRecDepth 8000
open Go.RowKit

/-- Block b of the world holds a reader of wire. -/
def Rd (w : World) (b : Nat) (s : ByteArray) (f : Bool) : Prop := w.heap[b]? = some (.cells #[.string s, .bool f] 109 (0, 0))

/-- Nothing that was there has turned but block b. -/
def Keep (b : Nat) (w w' : World) : Prop := w.grownBy w' (some b)
theorem Keep.refl (b : Nat) (w : World) : Keep b w w := World.grownBy.refl w _
theorem Keep.trans {b : Nat} {a c d : World} (h : Keep b a c) (k : Keep b c d) : Keep b a d :=
  ⟨k.os.trans h.os, k.tape.trans h.tape, k.output.trans h.output, Nat.le_trans h.size k.size, fun i hi hn => (k.block i (Nat.lt_of_lt_of_le hi h.size) hn).trans (h.block i hi hn)⟩

theorem Rd.cell0 {w : World} {b : Nat} {s : ByteArray} {f : Bool} (h : Rd w b s f) : w.cell? ⟨b, 0, none⟩ = some (.string s) := by rw [cell_of_row w b 0 _ 109 (0, 0) h]; rfl
theorem Rd.cell1 {w : World} {b : Nat} {s : ByteArray} {f : Bool} (h : Rd w b s f) : w.cell? ⟨b, 1, none⟩ = some (.bool f) := by rw [cell_of_row w b 1 _ 109 (0, 0) h]; rfl
theorem Rd.lt {w : World} {b : Nat} {s : ByteArray} {f : Bool} (h : Rd w b s f) : b < w.heap.size := (Array.getElem?_eq_some_iff.1 h).1
theorem Rd.free {w : World} {b : Nat} {s : ByteArray} {f : Bool} (h : Rd w b s f) (o : Nat) : w.frozen? ⟨b, o, none⟩ = false := by
  unfold Rd at h
  simp [World.frozen?, h]

theorem Rd.set0 {w : World} {b : Nat} {s : ByteArray} {f : Bool} (h : Rd w b s f) (s' : ByteArray) : Rd (w.setCell ⟨b, 0, none⟩ (.string s')) b s' f := by
  unfold Rd at h ⊢
  rw [heap_setCell_same w b 0 _ 109 _ h]; rfl
theorem Rd.set1 {w : World} {b : Nat} {s : ByteArray} {f : Bool} (h : Rd w b s f) (f' : Bool) : Rd (w.setCell ⟨b, 1, none⟩ (.bool f')) b s f' := by
  unfold Rd at h ⊢
  rw [heap_setCell_same w b 1 _ 109 _ h]; rfl
theorem Keep.set {b : Nat} {w w' : World} (h : Keep b w w') (o : Nat) (v : Value) : Keep b w (w'.setCell ⟨b, o, none⟩ v) :=
  h.trans ⟨rfl, rfl, rfl, by simp, fun k _ hn => heap_setCell_other w' _ k v (fun e => hn (by rw [e]))⟩
theorem Keep.rd {b : Nat} {w w' : World} (h : Keep b w w') {b' : Nat} {s : ByteArray} {f : Bool} (hr : Rd w b' s f) (hn : b' ≠ b) : Rd w' b' s f := by
  have hl := hr.lt
  unfold Rd at hr ⊢
  rw [h.block b' hl (by simpa using hn)]; exact hr

set_option maxHeartbeats 400000 in
theorem fail_any (b : Nat) (s : ByteArray) (f : Bool) (w : World) (h : Rd w b s f) :
    Calls Try.prog 79 #[.pointer (some ⟨b, 0, none⟩)] w fun e w' => e = .returned (.tuple #[]) ∧ Rd w' b (ba []) true ∧ Keep b w w' := by
  have c0 := h.cell0
  have c1 := h.cell1
  have f0 := h.free 0
  have f1 := h.free 1
  go_enter Try.func79, Try.ntmps79
  go_wp2_with fail
  go_end0
  exact ⟨rfl, (h.set0 _).set1 _, ((Keep.refl b w).set 0 _).set 1 _⟩

theorem bt_get {s : ByteArray} {k : Nat} (h : k < s.size) : (bts s)[k]? = some (s[k]'h) := by
  unfold bts
  rw [Array.getElem?_toList]
  exact Array.getElem?_eq_getElem h

theorem extract_drop (s : ByteArray) (k : Nat) : s.extract k s.size = ba ((bts s).drop k) := by
  apply ByteArray.ext
  apply Array.ext'
  simp only [ByteArray.data_extract, Array.toList_extract, ba, bts]
  rw [List.extract_eq_take_drop]
  refine List.take_of_length_le ?_
  rw [List.length_drop, Array.length_toList]
  exact Nat.le_refl _
theorem extract_take (s : ByteArray) (k : Nat) : s.extract 0 k = ba ((bts s).take k) := by
  apply ByteArray.ext
  apply Array.ext'
  simp only [ByteArray.data_extract, Array.toList_extract, ba, bts]
  rw [List.extract_eq_take_drop]
  simp

theorem bts_get {s : ByteArray} {k : Nat} (h : k < s.size) : (bts s)[k]'(by rw [bts_len]; exact h) = s[k]'h := by
  have h1 := bt_get h
  rw [List.getElem?_eq_getElem (by rw [bts_len]; exact h)] at h1
  exact Option.some.inj h1
theorem dig_at {s : ByteArray} {k : Nat} (h : k < s.size) (hk : k < cnt (bts s)) : 48 ≤ (s[k]'h).toNat ∧ (s[k]'h).toNat ≤ 57 := by
  have := cnt_dg (bts s) k hk
  rw [bts_get h] at this
  simpa [isDg] using this
theorem dig_not {s : ByteArray} {k : Nat} (hk : k = cnt (bts s)) (h : k < s.size) : ¬ (48 ≤ (s[k]'h).toNat ∧ (s[k]'h).toNat ≤ 57) := by
  subst hk
  have := cnt_end (bts s) (by rw [bts_len]; exact h)
  rw [bts_get h] at this
  simpa [isDg] using this
theorem val_at {s : ByteArray} {k : Nat} (h : k < s.size) : val ((bts s).take (k + 1)) = val ((bts s).take k) * 10 + ((s[k]'h).toNat - 48) := by
  rw [val_step _ _ (by rw [bts_len]; exact h), bts_get h]

set_option maxHeartbeats 400000 in
theorem digits_some (b : Nat) (s : ByteArray) (f : Bool) (w : World) (h : Rd w b s f) (hs : s.size ≤ 9223372036854775807) (most : Int) (h0 : 9 ≤ most) (h1 : most < 18446744073709551615) (e : UInt8) (z : Int) (hz : z = (e.toNat : Int)) (v : Nat) (r : List UInt8)
    (hd : digP most.toNat e (bts s) = some (v, r)) :
    Calls Try.prog 78 #[.pointer (some ⟨b, 0, none⟩), .int .u64 most, .int .u8 z] w fun x w' => x = .returned (.int .u64 v) ∧ Rd w' b (ba r) f ∧ Keep b w w' := by
  obtain ⟨d0, d1, d2, d3, d4, d5, d6⟩ := digP_some hd
  rw [bts_len] at d4
  have hle := cnt_le (bts s)
  rw [bts_len] at hle
  have hdig := fun k (h : k < s.size) => dig_at (s := s) (k := k) h
  have hnot := fun k (hk : k = cnt (bts s)) (h : k < s.size) => dig_not hk h
  have hmono := fun k (hk : k ≤ cnt (bts s)) => val_mono (bts s) k (cnt (bts s)) hk (cnt_le _)
  obtain ⟨c, hc⟩ : ∃ c, cnt (bts s) = c := ⟨_, rfl⟩
  simp only [hc] at hdig d0 d1 d2 d3 d4 d5 d6 hle hnot hmono
  have HMONO := Lib.hid hmono; clear hmono
  have HDIG := Lib.hid hdig; clear hdig
  have HNOT := Lib.hid hnot; clear hnot
  have HC := Lib.hid hc; clear hc
  have H1 := Lib.hid d1; clear d1
  have H3 := Lib.hid d3; clear d3
  have H5 := Lib.hid d5; clear d5
  have H6 := Lib.hid d6; clear d6
  have HD := Lib.hid hd; clear hd
  have HZ := Lib.hid hz; clear hz
  have c0 := h.cell0
  have f0 := h.free 0
  go_enter Try.func78, Try.ntmps78
  go_wp2_with fail
  go_loopw [7, 8] (fun n i wr => ∃ k : Nat, k ≤ c ∧ i = .int .i64 k ∧ n = .int .u64 (val ((bts s).take k)) ∧ wr = w) (fun _ i _ => s.size - (intOf i).toNat)
  case atStart => exact ⟨0, Nat.zero_le _, rfl, rfl, rfl⟩
  case round =>
    obtain ⟨k, hk, rfl, rfl, rfl⟩ := hrel
    by_cases hkc : k < c
    · have hlt : k < s.size := by omega
      obtain ⟨g1, g2⟩ := HDIG.out k hlt hkc
      have hv := val_at hlt
      have hm := HMONO.out (k + 1) (by omega)
      rw [hv] at hm
      have HV := Lib.hid hv; clear hv
      obtain ⟨N, hN⟩ : ∃ N, val ((bts s).take k) = N := ⟨_, rfl⟩
      rw [hN] at hm ⊢
      have HN := Lib.hid hN; clear hN
      have hm2 : (N : Int) * 10 + ((s[k]'hlt).toNat - 48) ≤ most := by omega
      clear hm
      go_wp2_with fail
      go_roundw
      case rel => exact ⟨k + 1, by omega, by go_num, by rw [HV.out, HN.out]; congr 1; omega, by trivial⟩
      case measure => simp [intOf]; omega
    · obtain rfl : k = c := by omega
      have hn := HNOT.out k rfl d4
      have he : (s[k]'d4).toNat = e.toNat := by
        have h3 := H3.out
        rw [bt_get d4] at h3
        rw [Option.some.inj h3]
      have hzz := HZ.out
      have hout : Rd (wr.setCell ⟨b, 0, none⟩ (.string (s.extract (k + 1) s.size))) b (ba r) f := by
        rw [H6.out, ← extract_drop]; exact h.set0 _
      have HOUT := Lib.hid hout; clear hout
      have b0 : ((k : Int) == 0) = false := by simp; omega
      have b1 : ((k : Int) == (s.size : Int)) = false := by simp; omega
      have b2 : (((s[k]'d4).toNat : Int) != z) = false := by simp; omega
      clear hzz he
      have hK := (Keep.refl b wr).set 0 (.string (s.extract (k + 1) s.size))
      have HK := Lib.hid hK; clear hK
      by_cases h1k : 1 < k
      · have b3 : (((s[0]'(by omega)).toNat : Int) == 48) = false := by
          have h00 : ¬ ((s[0]'(by omega)).toNat : Int) = 48 := by
            intro hh
            refine H1.out ⟨h1k, ?_⟩
            rw [bt_get (by omega)]
            congr 1
            apply UInt8.toNat_inj.1
            show _ = 48
            omega
          simpa using h00
        rcases Nat.lt_or_ge (s[k]'d4).toNat 48 with hd1 | hd1
        · clear hn
          go_wp2_with fail
          go_ret
          exact ⟨by rw [H5.out]; rfl, HOUT.out, HK.out⟩
        · have hd2 : 57 < (s[k]'d4).toNat := by omega
          clear hn
          go_wp2_with fail
          go_ret
          exact ⟨by rw [H5.out]; rfl, HOUT.out, HK.out⟩
      · rcases Nat.lt_or_ge (s[k]'d4).toNat 48 with hd1 | hd1
        · clear hn
          go_wp2_with fail
          go_ret
          exact ⟨by rw [H5.out]; rfl, HOUT.out, HK.out⟩
        · have hd2 : 57 < (s[k]'d4).toNat := by omega
          clear hn
          go_wp2_with fail
          go_ret
          exact ⟨by rw [H5.out]; rfl, HOUT.out, HK.out⟩

set_option maxHeartbeats 4000000 in
theorem digits_none (b : Nat) (s : ByteArray) (f : Bool) (w : World) (h : Rd w b s f) (hs : s.size ≤ 9223372036854775807) (most : Int) (h0 : 9 ≤ most) (h1 : most < 18446744073709551615) (e : UInt8) (z : Int) (hz : z = (e.toNat : Int))
    (hd : digP most.toNat e (bts s) = none) :
    Calls Try.prog 78 #[.pointer (some ⟨b, 0, none⟩), .int .u64 most, .int .u8 z] w fun x w' => x = .returned (.int .u64 0) ∧ Rd w' b (ba []) true ∧ Keep b w w' := by
  have hP := digP_none hd
  have hle := cnt_le (bts s)
  rw [bts_len] at hle
  have hdig := fun k (h : k < s.size) => dig_at (s := s) (k := k) h
  have hnot := fun k (hk : k = cnt (bts s)) (h : k < s.size) => dig_not hk h
  obtain ⟨c, hc⟩ : ∃ c, cnt (bts s) = c := ⟨_, rfl⟩
  simp only [hc] at hdig hle hnot hP
  have HP := Lib.hid hP; clear hP
  have HDIG := Lib.hid hdig; clear hdig
  have HNOT := Lib.hid hnot; clear hnot
  clear hc hd
  have HZ := Lib.hid hz; clear hz
  have c0 := h.cell0
  have f0 := h.free 0
  go_enter Try.func78, Try.ntmps78
  go_wp2_with fail
  go_loopw [7, 8] (fun n i wr => ∃ k : Nat, k ≤ c ∧ i = .int .i64 k ∧ n = .int .u64 (val ((bts s).take k)) ∧ (val ((bts s).take k) : Int) ≤ most ∧ wr = w) (fun _ i _ => s.size - (intOf i).toNat)
  case atStart => exact ⟨0, Nat.zero_le _, rfl, rfl, by show (0 : Int) ≤ most; omega, rfl⟩
  case round =>
    obtain ⟨k, hk, rfl, rfl, hvm, rfl⟩ := hrel
    by_cases hkc : k < c
    · have hlt : k < s.size := by omega
      obtain ⟨g1, g2⟩ := HDIG.out k hlt hkc
      have hv := val_at hlt
      have HV := Lib.hid hv; clear hv
      obtain ⟨N, hN⟩ : ∃ N, val ((bts s).take k) = N := ⟨_, rfl⟩
      rw [hN] at hvm ⊢
      have HN := Lib.hid hN; clear hN
      by_cases hm2 : (N : Int) * 10 + ((s[k]'hlt).toNat - 48) ≤ most
      · go_wp2_with fail
        go_roundw
        case rel => exact ⟨k + 1, by omega, by go_num, by rw [HV.out, HN.out]; congr 1; omega, by rw [HV.out, HN.out]; omega, by trivial⟩
        case measure => simp [intOf]; omega
      · go_wp2_with fail
        refine (fail_any b s f _ h).mono ?_
        rintro e w1 ⟨rfl, hr1, hk1⟩
        go_wp2_with fail
        go_ret
        exact ⟨rfl, hr1, hk1⟩
    · obtain rfl : k = c := by omega
      have hn := HNOT.out k rfl
      have hP := HP.out
      have hzz := HZ.out
      have hP' : ¬ k = 0 → ¬ (1 < k ∧ ∃ hh : 0 < s.size, (s[0]'hh).toNat = 48) → ∀ hlt : k < s.size, (((s[k]'hlt).toNat : Int) != z) = true := by
        intro a1 a2 hlt
        rcases hP with hP | ⟨hP1, hP2⟩ | hP | hP
        · exact absurd hP a1
        · rw [bt_get (by omega)] at hP2
          exact absurd ⟨hP1, by omega, by rw [Option.some.inj hP2]; rfl⟩ a2
        · omega
        · rw [bt_get hlt] at hP
          rw [bne_iff_ne]
          intro hh
          apply hP
          congr 1
          apply UInt8.toNat_inj.1
          omega
      clear hP hzz
      have HP' := Lib.hid hP'; clear hP'
      obtain ⟨V, hV⟩ : ∃ V, val ((bts s).take k) = V := ⟨_, rfl⟩
      rw [hV] at hvm ⊢
      clear hV
      have b3 : ∀ hh : 0 < s.size, (((s[0]'hh).toNat : Int) == 48) = true ∨ (((s[0]'hh).toNat : Int) == 48) = false := by
        intro hh; cases (((s[0]'hh).toNat : Int) == 48) <;> simp
      have B3 := Lib.hid b3; clear b3
      have b0 : ((k : Int) == 0) = true ∨ ((k : Int) == 0) = false := by cases ((k : Int) == 0) <;> simp
      have HN := Lib.hid hn; clear hn
      rcases Nat.lt_or_ge k s.size with hlt | hge
      · have b1 : ((k : Int) == (s.size : Int)) = false := by simp; omega
        have hn := HN.out hlt
        have hd : (s[k]'hlt).toNat < 48 ∨ 57 < (s[k]'hlt).toNat := by omega
        clear hn
        have hs0 : 0 < s.size := by omega
        rcases b0 with b0 | b0
        · have hk0 : k ≤ 0 := by have := eq_of_beq b0; omega
          rcases hd with hd | hd
          all_goals
            go_wp2_with fail
            refine (fail_any b s f _ h).mono ?_
            rintro e w1 ⟨rfl, hr1, hk1⟩
            go_wp2_with fail
            go_ret
            exact ⟨rfl, hr1, hk1⟩
        · have hk0 : 0 < k := by simp at b0; omega
          by_cases h1k : 1 < k
          · rcases B3.out hs0 with b3 | b3
            · rcases hd with hd | hd
              all_goals
                go_wp2_with fail
                refine (fail_any b s f _ h).mono ?_
                rintro e w1 ⟨rfl, hr1, hk1⟩
                go_wp2_with fail
                go_ret
                exact ⟨rfl, hr1, hk1⟩
            · have b2 := HP'.out (by omega) (by rintro ⟨_, hh, h48⟩; rw [h48] at b3; simp at b3) hlt
              rcases hd with hd | hd
              all_goals
                go_wp2_with fail
                refine (fail_any b s f _ h).mono ?_
                rintro e w1 ⟨rfl, hr1, hk1⟩
                go_wp2_with fail
                go_ret
                exact ⟨rfl, hr1, hk1⟩
          · have b2 := HP'.out (by omega) (by rintro ⟨hh, _⟩; omega) hlt
            rcases hd with hd | hd
            all_goals
              go_wp2_with fail
              refine (fail_any b s f _ h).mono ?_
              rintro e w1 ⟨rfl, hr1, hk1⟩
              go_wp2_with fail
              go_ret
              exact ⟨rfl, hr1, hk1⟩
      · have b1 : ((k : Int) == (s.size : Int)) = true := by simp; omega
        rcases b0 with b0 | b0
        · have hk0 : k ≤ 0 := by have := eq_of_beq b0; omega
          go_wp2_with fail
          refine (fail_any b s f _ h).mono ?_
          rintro e w1 ⟨rfl, hr1, hk1⟩
          go_wp2_with fail
          go_ret
          exact ⟨rfl, hr1, hk1⟩
        · have hk0 : 0 < k := by simp at b0; omega
          by_cases h1k : 1 < k
          · have hs0 : 0 < s.size := by omega
            rcases B3.out hs0 with b3 | b3
            all_goals
              go_wp2_with fail
              refine (fail_any b s f _ h).mono ?_
              rintro e w1 ⟨rfl, hr1, hk1⟩
              go_wp2_with fail
              go_ret
              exact ⟨rfl, hr1, hk1⟩
          · go_wp2_with fail
            refine (fail_any b s f _ h).mono ?_
            rintro e w1 ⟨rfl, hr1, hk1⟩
            go_wp2_with fail
            go_ret
            exact ⟨rfl, hr1, hk1⟩

end Go.Proofs.Ytgocnjiabfmdpaa.Wire

namespace Go.Proofs.Ytgocnjiabfmdpaa.Wire
set_option maxRecDepth 8000
open Go.RowKit

set_option maxHeartbeats 400000 in
theorem num_some (b : Nat) (s : ByteArray) (f : Bool) (w : World) (h : Rd w b s f) (hs : s.size ≤ 9223372036854775807) (v : Nat) (r : List UInt8) (hd : numP (bts s) = some (v, r)) :
    Calls Try.prog 50 #[.pointer (some ⟨b, 0, none⟩)] w fun x w' => x = .returned (.int .i64 v) ∧ Rd w' b (ba r) f ∧ Keep b w w' := by
  have hv : v ≤ 9223372036854775807 := (digP_le hd).1
  have hv0 : (0 : Int) ≤ v := by omega
  have HD := Lib.hid hd; clear hd
  go_enter Try.func50, Try.ntmps50
  go_wp2_with fail
  refine (digits_some b s f _ h hs 9223372036854775807 (by omega) (by omega) 59 59 rfl v r HD.out).mono ?_
  rintro e w1 ⟨rfl, hr1, hk1⟩
  go_wp2_with fail
  go_ret
  exact ⟨rfl, hr1, hk1⟩

set_option maxHeartbeats 400000 in
theorem num_none (b : Nat) (s : ByteArray) (f : Bool) (w : World) (h : Rd w b s f) (hs : s.size ≤ 9223372036854775807) (hd : numP (bts s) = none) :
    Calls Try.prog 50 #[.pointer (some ⟨b, 0, none⟩)] w fun x w' => x = .returned (.int .i64 0) ∧ Rd w' b (ba []) true ∧ Keep b w w' := by
  have HD := Lib.hid hd; clear hd
  go_enter Try.func50, Try.ntmps50
  go_wp2_with fail
  refine (digits_none b s f _ h hs 9223372036854775807 (by omega) (by omega) 59 59 rfl HD.out).mono ?_
  rintro e w1 ⟨rfl, hr1, hk1⟩
  go_wp2_with fail
  go_ret
  exact ⟨rfl, hr1, hk1⟩

theorem negint {v : Nat} (h0 : 0 < v) (h1 : v ≤ 9223372036854775808) : wrap64 (IntKind.u64.wrap (-(v : Int))) = -(v : Int) := by
  rw [IntKind.wrap_u64]
  unfold wrap64
  omega

theorem conv_sb (w : World) (s : ByteArray) : (convert 9 73 (.string s)).run Try.prog w = .ok (.slice (some ⟨w.heap.size, 0, none⟩) s.size (grownCap w s.size 0 5)) (Lib.bytesWorld w 5 s) :=
  Lib.run_convert_string_bytes w 9 73 5 s Try.underlying9 Try.underlying73 Try.underlying5

theorem conv_bs (w : World) (s : ByteArray) (c : Nat) : (convert 73 9 (.slice (some ⟨w.heap.size, 0, none⟩) s.size c)).run Try.prog (Lib.bytesWorld w 5 s) = .ok (.string s) (Lib.bytesWorld w 5 s) := by
  have := run_convert_bytes_arg (P := Try.prog) (Lib.bytesWorld w 5 s) 73 5 Try.underlying73 Try.underlying5 w.heap.size 0 s.size c ((bts s).map fun b => (b.toNat : Int)) (by rw [List.length_map, bts_len]) (fun i hi => by
    rw [Nat.zero_add, Lib.bytesWorld_cell w 5 s i hi]
    congr 2
    have hb : i < (bts s).length := by rw [bts_len]; exact hi
    rw [List.getD_eq_getElem?_getD, List.getD_eq_getElem?_getD, List.getElem?_map]
    show _ = ((Option.map _ (bts s)[i]?).getD 0 : Int)
    rw [List.getElem?_eq_getElem hb]
    show (((bts s)[i]?.getD 0).toNat : Int) = _
    rw [List.getElem?_eq_getElem hb]
    rfl) 9 Try.underlying9
  rw [this]
  have hs : strOfNums ((bts s).map fun b => (b.toNat : Int)) = s := by
    have : (bts s).map ((fun n : Int => UInt8.ofNat n.toNat) ∘ fun b : UInt8 => (b.toNat : Int)) = bts s := by
      conv => rhs; rw [← List.map_id (bts s)]
      exact List.map_congr_left (fun b _ => by simp)
    simp only [strOfNums, List.map_map, this]
    exact ba_bts s
  rw [hs]

theorem below_bytesWorld (w : World) (s : ByteArray) : Below w.heap.size w (Lib.bytesWorld w 5 s) :=
  ⟨rfl, rfl, rfl, by rw [Lib.bytesWorld_size]; omega, fun k hk => Lib.bytesWorld_at_old w 5 s k hk⟩

/-- A copy of a string: nothing of old memory turns. -/
theorem fresh_any (s : ByteArray) (w : World) :
    Calls Try.prog 80 #[.string s] w fun x w' => x = .returned (.string s) ∧ Below w.heap.size w w' := by
  have h1 := conv_sb w s
  have h2 := conv_bs w s
  have HB := Lib.hid (below_bytesWorld w s)
  go_enter Try.func80, Try.ntmps80
  go_wp2_with fail
  go_ret
  exact ⟨rfl, HB.out⟩

theorem Below.keep {b : Nat} {w w' : World} (h : Below w.heap.size w w') : Keep b w w' := ⟨h.os, h.tape, h.output, h.size, fun k hk _ => h.block k hk⟩
theorem Below.rd {b : Nat} {w w' : World} {s : ByteArray} {f : Bool} (h : Below w.heap.size w w') (hr : Rd w b s f) : Rd w' b s f := by
  have hl := hr.lt
  unfold Rd at hr ⊢
  rw [h.block b hl]; exact hr

set_option maxHeartbeats 1000000 in
theorem text_some (b : Nat) (s : ByteArray) (f : Bool) (w : World) (h : Rd w b s f) (hs : s.size ≤ 9223372036854775807) (v : List UInt8) (r : List UInt8) (hd : textP (bts s) = some (v, r)) :
    Calls Try.prog 49 #[.pointer (some ⟨b, 0, none⟩)] w fun x w' => x = .returned (.string (ba v)) ∧ Rd w' b (ba r) f ∧ Keep b w w' := by
  unfold textP at hd
  cases hn : lenP (bts s) with
  | none => rw [hn] at hd; cases hd
  | some x =>
    obtain ⟨n, t⟩ := x
    rw [hn] at hd
    simp only at hd
    split at hd
    · rename_i ht
      simp only [Option.some.injEq, Prod.mk.injEq] at hd
      obtain ⟨rfl, rfl⟩ := hd
      have hnt : n < t.length := by
        rcases Nat.lt_or_ge n t.length with h | h
        · exact h
        · rw [List.getElem?_eq_none h] at ht; cases ht
      have hle := (digP_le hn).2
      rw [bts_len] at hle
      have HN := Lib.hid hn; clear hn
      obtain ⟨T, hT⟩ : ∃ T, ba t = T := ⟨_, rfl⟩
      have ht' : t = bts T := by rw [← hT]; rfl
      subst ht'
      rw [bts_len] at hnt hle
      have b1 : (((T[n]'hnt).toNat : Int) != 44) = false := by
        rw [bt_get hnt] at ht
        rw [Option.some.inj ht]; rfl
      have e1 : T.extract 0 n = ba ((bts T).take n) := extract_take T n
      have e2 : T.extract (n + 1) T.size = ba ((bts T).drop (n + 1)) := extract_drop T (n + 1)
      have E1 := Lib.hid e1; clear e1
      have E2 := Lib.hid e2; clear e2
      clear ht hT
      go_enter Try.func49, Try.ntmps49
      go_wp2_with fail
      refine (digits_some b s f _ h hs 9223372036854775807 (by omega) (by omega) 58 58 rfl n (bts T) HN.out).mono ?_
      rintro e w1 ⟨rfl, hr1, hk1⟩
      rw [ba_bts] at hr1
      have c0 := hr1.cell0
      go_wp2_with fail
      refine (fresh_any _ _).mono ?_
      rintro e w2 ⟨rfl, hb2⟩
      have hr2 := Below.rd hb2 hr1
      have c2 := hr2.cell0
      have f2 := hr2.free 0
      go_wp2_with fail
      go_ret
      exact ⟨by rw [← E1.out]; rfl, by rw [← E2.out]; exact hr2.set0 _, (hk1.trans (Below.keep hb2)).set 0 _⟩
    · cases hd

set_option maxHeartbeats 1000000 in
theorem text_none (b : Nat) (s : ByteArray) (f : Bool) (w : World) (h : Rd w b s f) (hs : s.size ≤ 9223372036854775807) (hd : textP (bts s) = none) :
    Calls Try.prog 49 #[.pointer (some ⟨b, 0, none⟩)] w fun x w' => x = .returned (.string (ba [])) ∧ Rd w' b (ba []) true ∧ Keep b w w' := by
  unfold textP at hd
  cases hn : lenP (bts s) with
  | none =>
    have HN := Lib.hid hn; clear hn hd
    have z0 : (ba []).size = 0 := rfl
    go_enter Try.func49, Try.ntmps49
    go_wp2_with fail
    refine (digits_none b s f _ h hs 9223372036854775807 (by omega) (by omega) 58 58 rfl HN.out).mono ?_
    rintro e w1 ⟨rfl, hr1, hk1⟩
    have c0 := hr1.cell0
    go_wp2_with fail
    refine (fail_any b _ _ _ hr1).mono ?_
    rintro e w2 ⟨rfl, hr2, hk2⟩
    go_wp2_with fail
    go_ret
    exact ⟨rfl, hr2, hk1.trans hk2⟩
  | some x =>
    obtain ⟨n, t⟩ := x
    rw [hn] at hd
    simp only at hd
    split at hd
    · cases hd
    · rename_i ht
      have hle := (digP_le hn).2
      have hn1 := (digP_le hn).1
      have hn2 : n ≤ 9223372036854775807 := hn1
      clear hn1
      rw [bts_len] at hle
      have HN := Lib.hid hn; clear hn
      obtain ⟨T, hT⟩ : ∃ T, ba t = T := ⟨_, rfl⟩
      have ht' : t = bts T := by rw [← hT]; rfl
      subst ht'
      rw [bts_len] at hle
      clear hT
      rcases Nat.lt_or_ge n T.size with hnt | hnt
      · have b1 : (((T[n]'hnt).toNat : Int) != 44) = true := by
          rw [bne_iff_ne]
          intro hh
          apply ht
          rw [bt_get hnt]
          congr 1
          apply UInt8.toNat_inj.1
          show _ = 44
          omega
        clear ht
        go_enter Try.func49, Try.ntmps49
        go_wp2_with fail
        refine (digits_some b s f _ h hs 9223372036854775807 (by omega) (by omega) 58 58 rfl n (bts T) HN.out).mono ?_
        rintro e w1 ⟨rfl, hr1, hk1⟩
        rw [ba_bts] at hr1
        have c0 := hr1.cell0
        go_wp2_with fail
        refine (fail_any b _ _ _ hr1).mono ?_
        rintro e w2 ⟨rfl, hr2, hk2⟩
        go_wp2_with fail
        go_ret
        exact ⟨rfl, hr2, hk1.trans hk2⟩
      · clear ht
        go_enter Try.func49, Try.ntmps49
        go_wp2_with fail
        refine (digits_some b s f _ h hs 9223372036854775807 (by omega) (by omega) 58 58 rfl n (bts T) HN.out).mono ?_
        rintro e w1 ⟨rfl, hr1, hk1⟩
        rw [ba_bts] at hr1
        have c0 := hr1.cell0
        go_wp2_with fail
        refine (fail_any b _ _ _ hr1).mono ?_
        rintro e w2 ⟨rfl, hr2, hk2⟩
        go_wp2_with fail
        go_ret
        exact ⟨rfl, hr2, hk1.trans hk2⟩

set_option maxHeartbeats 400000 in
theorem left_any (b : Nat) (s : ByteArray) (f : Bool) (w : World) (h : Rd w b s f) :
    Calls Try.prog 48 #[.pointer (some ⟨b, 0, none⟩)] w fun x w' => x = .returned (.int .i64 s.size) ∧ w = w' := by
  have c0 := h.cell0
  go_enter Try.func48, Try.ntmps48
  go_wp2_with fail
  go_ret
  exact ⟨rfl, rfl⟩

set_option maxHeartbeats 400000 in
theorem done_any (b : Nat) (s : ByteArray) (f : Bool) (w : World) (h : Rd w b s f) :
    Calls Try.prog 90 #[.pointer (some ⟨b, 0, none⟩)] w fun x w' => x = .returned (.bool (!f && s.toList.isEmpty)) ∧ w = w' := by
  have c0 := h.cell0
  have c1 := h.cell1
  cases f
  · go_enter Try.func90, Try.ntmps90
    go_wp2_with fail
    go_ret
    exact ⟨rfl, rfl⟩
  · go_enter Try.func90, Try.ntmps90
    go_wp2_with fail
    go_ret
    exact ⟨rfl, rfl⟩

set_option maxHeartbeats 400000 in
theorem open_any (s : ByteArray) (w : World) :
    Calls Try.prog 47 #[.string s] w fun x w' => x = .returned (.pointer (some ⟨w.heap.size, 0, none⟩)) ∧ Rd w' w.heap.size s false ∧ Below w.heap.size w w' := by
  go_enter Try.func47, Try.ntmps47
  go_wp2_with fail
  go_ret
  exact ⟨rfl, heap_alloc_new w _, (Below.refl _ _).alloc (Nat.le_refl _) _⟩

end Go.Proofs.Ytgocnjiabfmdpaa.Wire
