/- Walks of wire's reader: Num, Int, Text and the small methods. -/
import Derived.Test.YtgocnjiabfmdpaaRDa
import Derived.Lib.ConvBytes
namespace Go.Proofs.Ytgocnjiabfmdpaa.Wire
set_option maxRecDepth 8000
open Go.RowKit

set_option maxHeartbeats 400000 in
theorem num_some (b : Nat) (s : ByteArray) (f : Bool) (w : World) (h : Rd w b s f) (hs : s.size ≤ 9223372036854775807) (v : Nat) (r : List UInt8) (hd : numP (bts s) = some (v, r)) :
    Calls Try.prog 50 #[.pointer (some ⟨b, 0, none⟩)] w fun x w' => x = .returned (.int .i64 v) ∧ Rd w' b (ba r) f ∧ Keep b w w' := by
  have hv : v ≤ 9223372036854775807 := (digP_le hd).1
  have hv0 : (0 : Int) ≤ v := by omega
  have HD := Lib.hid hd; clear hd
  go_enter Try.func50, Try.ntmps50
  go_wp2_with fail
  refine (digits_some b s f _ h hs 9223372036854775807 (by omega) (by omega) 59 59 rfl v r HD.out).mono ?_
  rintro e w1 ⟨rfl, hr1, hk1⟩
  go_wp2_with fail
  go_ret
  exact ⟨rfl, hr1, hk1⟩

set_option maxHeartbeats 400000 in
theorem num_none (b : Nat) (s : ByteArray) (f : Bool) (w : World) (h : Rd w b s f) (hs : s.size ≤ 9223372036854775807) (hd : numP (bts s) = none) :
    Calls Try.prog 50 #[.pointer (some ⟨b, 0, none⟩)] w fun x w' => x = .returned (.int .i64 0) ∧ Rd w' b (ba []) true ∧ Keep b w w' := by
  have HD := Lib.hid hd; clear hd
  go_enter Try.func50, Try.ntmps50
  go_wp2_with fail
  refine (digits_none b s f _ h hs 9223372036854775807 (by omega) (by omega) 59 59 rfl HD.out).mono ?_
  rintro e w1 ⟨rfl, hr1, hk1⟩
  go_wp2_with fail
  go_ret
  exact ⟨rfl, hr1, hk1⟩

theorem negint {v : Nat} (h0 : 0 < v) (h1 : v ≤ 9223372036854775808) : wrap64 (IntKind.u64.wrap (-(v : Int))) = -(v : Int) := by
  rw [IntKind.wrap_u64]
  unfold wrap64
  omega

theorem conv_sb (w : World) (s : ByteArray) : (convert 9 73 (.string s)).run Try.prog w = .ok (.slice (some ⟨w.heap.size, 0, none⟩) s.size (grownCap w s.size 0 5)) (Lib.bytesWorld w 5 s) :=
  Lib.run_convert_string_bytes w 9 73 5 s Try.underlying9 Try.underlying73 Try.underlying5

theorem conv_bs (w : World) (s : ByteArray) (c : Nat) : (convert 73 9 (.slice (some ⟨w.heap.size, 0, none⟩) s.size c)).run Try.prog (Lib.bytesWorld w 5 s) = .ok (.string s) (Lib.bytesWorld w 5 s) := by
  have := run_convert_bytes_arg (P := Try.prog) (Lib.bytesWorld w 5 s) 73 5 Try.underlying73 Try.underlying5 w.heap.size 0 s.size c ((bts s).map fun b => (b.toNat : Int)) (by rw [List.length_map, bts_len]) (fun i hi => by
    rw [Nat.zero_add, Lib.bytesWorld_cell w 5 s i hi]
    congr 2
    have hb : i < (bts s).length := by rw [bts_len]; exact hi
    rw [List.getD_eq_getElem?_getD, List.getD_eq_getElem?_getD, List.getElem?_map]
    show _ = ((Option.map _ (bts s)[i]?).getD 0 : Int)
    rw [List.getElem?_eq_getElem hb]
    show (((bts s)[i]?.getD 0).toNat : Int) = _
    rw [List.getElem?_eq_getElem hb]
    rfl) 9 Try.underlying9
  rw [this]
  have hs : strOfNums ((bts s).map fun b => (b.toNat : Int)) = s := by
    have : (bts s).map ((fun n : Int => UInt8.ofNat n.toNat) ∘ fun b : UInt8 => (b.toNat : Int)) = bts s := by
      conv => rhs; rw [← List.map_id (bts s)]
      exact List.map_congr_left (fun b _ => by simp)
    simp only [strOfNums, List.map_map, this]
    exact ba_bts s
  rw [hs]

theorem below_bytesWorld (w : World) (s : ByteArray) : Below w.heap.size w (Lib.bytesWorld w 5 s) :=
  ⟨rfl, rfl, rfl, by rw [Lib.bytesWorld_size]; omega, fun k hk => Lib.bytesWorld_at_old w 5 s k hk⟩

/-- A copy of a string: nothing of old memory turns. -/
theorem fresh_any (s : ByteArray) (w : World) :
    Calls Try.prog 80 #[.string s] w fun x w' => x = .returned (.string s) ∧ Below w.heap.size w w' := by
  have h1 := conv_sb w s
  have h2 := conv_bs w s
  have HB := Lib.hid (below_bytesWorld w s)
  go_enter Try.func80, Try.ntmps80
  go_wp2_with fail
  go_ret
  exact ⟨rfl, HB.out⟩

theorem Below.keep {b : Nat} {w w' : World} (h : Below w.heap.size w w') : Keep b w w' := ⟨h.os, h.tape, h.output, h.size, fun k hk _ => h.block k hk⟩
theorem Below.rd {b : Nat} {w w' : World} {s : ByteArray} {f : Bool} (h : Below w.heap.size w w') (hr : Rd w b s f) : Rd w' b s f := by
  have hl := hr.lt
  unfold Rd at hr ⊢
  rw [h.block b hl]; exact hr

set_option maxHeartbeats 1000000 in
theorem text_some (b : Nat) (s : ByteArray) (f : Bool) (w : World) (h : Rd w b s f) (hs : s.size ≤ 9223372036854775807) (v : List UInt8) (r : List UInt8) (hd : textP (bts s) = some (v, r)) :
    Calls Try.prog 49 #[.pointer (some ⟨b, 0, none⟩)] w fun x w' => x = .returned (.string (ba v)) ∧ Rd w' b (ba r) f ∧ Keep b w w' := by
  unfold textP at hd
  cases hn : lenP (bts s) with
  | none => rw [hn] at hd; cases hd
  | some x =>
    obtain ⟨n, t⟩ := x
    rw [hn] at hd
    simp only at hd
    split at hd
    · rename_i ht
      simp only [Option.some.injEq, Prod.mk.injEq] at hd
      obtain ⟨rfl, rfl⟩ := hd
      have hnt : n < t.length := by
        rcases Nat.lt_or_ge n t.length with h | h
        · exact h
        · rw [List.getElem?_eq_none h] at ht; cases ht
      have hle := (digP_le hn).2
      rw [bts_len] at hle
      have HN := Lib.hid hn; clear hn
      obtain ⟨T, hT⟩ : ∃ T, ba t = T := ⟨_, rfl⟩
      have ht' : t = bts T := by rw [← hT]; rfl
      subst ht'
      rw [bts_len] at hnt hle
      have b1 : (((T[n]'hnt).toNat : Int) != 44) = false := by
        rw [bt_get hnt] at ht
        rw [Option.some.inj ht]; rfl
      have e1 : T.extract 0 n = ba ((bts T).take n) := extract_take T n
      have e2 : T.extract (n + 1) T.size = ba ((bts T).drop (n + 1)) := extract_drop T (n + 1)
      have E1 := Lib.hid e1; clear e1
      have E2 := Lib.hid e2; clear e2
      clear ht hT
      go_enter Try.func49, Try.ntmps49
      go_wp2_with fail
      refine (digits_some b s f _ h hs 9223372036854775807 (by omega) (by omega) 58 58 rfl n (bts T) HN.out).mono ?_
      rintro e w1 ⟨rfl, hr1, hk1⟩
      rw [ba_bts] at hr1
      have c0 := hr1.cell0
      go_wp2_with fail
      refine (fresh_any _ _).mono ?_
      rintro e w2 ⟨rfl, hb2⟩
      have hr2 := Below.rd hb2 hr1
      have c2 := hr2.cell0
      have f2 := hr2.free 0
      go_wp2_with fail
      go_ret
      exact ⟨by rw [← E1.out]; rfl, by rw [← E2.out]; exact hr2.set0 _, (hk1.trans (Below.keep hb2)).set 0 _⟩
    · cases hd

set_option maxHeartbeats 1000000 in
theorem text_none (b : Nat) (s : ByteArray) (f : Bool) (w : World) (h : Rd w b s f) (hs : s.size ≤ 9223372036854775807) (hd : textP (bts s) = none) :
    Calls Try.prog 49 #[.pointer (some ⟨b, 0, none⟩)] w fun x w' => x = .returned (.string (ba [])) ∧ Rd w' b (ba []) true ∧ Keep b w w' := by
  unfold textP at hd
  cases hn : lenP (bts s) with
  | none =>
    have HN := Lib.hid hn; clear hn hd
    have z0 : (ba []).size = 0 := rfl
    go_enter Try.func49, Try.ntmps49
    go_wp2_with fail
    refine (digits_none b s f _ h hs 9223372036854775807 (by omega) (by omega) 58 58 rfl HN.out).mono ?_
    rintro e w1 ⟨rfl, hr1, hk1⟩
    have c0 := hr1.cell0
    go_wp2_with fail
    refine (fail_any b _ _ _ hr1).mono ?_
    rintro e w2 ⟨rfl, hr2, hk2⟩
    go_wp2_with fail
    go_ret
    exact ⟨rfl, hr2, hk1.trans hk2⟩
  | some x =>
    obtain ⟨n, t⟩ := x
    rw [hn] at hd
    simp only at hd
    split at hd
    · cases hd
    · rename_i ht
      have hle := (digP_le hn).2
      have hn1 := (digP_le hn).1
      have hn2 : n ≤ 9223372036854775807 := hn1
      clear hn1
      rw [bts_len] at hle
      have HN := Lib.hid hn; clear hn
      obtain ⟨T, hT⟩ : ∃ T, ba t = T := ⟨_, rfl⟩
      have ht' : t = bts T := by rw [← hT]; rfl
      subst ht'
      rw [bts_len] at hle
      clear hT
      rcases Nat.lt_or_ge n T.size with hnt | hnt
      · have b1 : (((T[n]'hnt).toNat : Int) != 44) = true := by
          rw [bne_iff_ne]
          intro hh
          apply ht
          rw [bt_get hnt]
          congr 1
          apply UInt8.toNat_inj.1
          show _ = 44
          omega
        clear ht
        go_enter Try.func49, Try.ntmps49
        go_wp2_with fail
        refine (digits_some b s f _ h hs 9223372036854775807 (by omega) (by omega) 58 58 rfl n (bts T) HN.out).mono ?_
        rintro e w1 ⟨rfl, hr1, hk1⟩
        rw [ba_bts] at hr1
        have c0 := hr1.cell0
        go_wp2_with fail
        refine (fail_any b _ _ _ hr1).mono ?_
        rintro e w2 ⟨rfl, hr2, hk2⟩
        go_wp2_with fail
        go_ret
        exact ⟨rfl, hr2, hk1.trans hk2⟩
      · clear ht
        go_enter Try.func49, Try.ntmps49
        go_wp2_with fail
        refine (digits_some b s f _ h hs 9223372036854775807 (by omega) (by omega) 58 58 rfl n (bts T) HN.out).mono ?_
        rintro e w1 ⟨rfl, hr1, hk1⟩
        rw [ba_bts] at hr1
        have c0 := hr1.cell0
        go_wp2_with fail
        refine (fail_any b _ _ _ hr1).mono ?_
        rintro e w2 ⟨rfl, hr2, hk2⟩
        go_wp2_with fail
        go_ret
        exact ⟨rfl, hr2, hk1.trans hk2⟩

set_option maxHeartbeats 400000 in
theorem left_any (b : Nat) (s : ByteArray) (f : Bool) (w : World) (h : Rd w b s f) :
    Calls Try.prog 48 #[.pointer (some ⟨b, 0, none⟩)] w fun x w' => x = .returned (.int .i64 s.size) ∧ w = w' := by
  have c0 := h.cell0
  go_enter Try.func48, Try.ntmps48
  go_wp2_with fail
  go_ret
  exact ⟨rfl, rfl⟩

set_option maxHeartbeats 400000 in
theorem done_any (b : Nat) (s : ByteArray) (f : Bool) (w : World) (h : Rd w b s f) :
    Calls Try.prog 90 #[.pointer (some ⟨b, 0, none⟩)] w fun x w' => x = .returned (.bool (!f && s.toList.isEmpty)) ∧ w = w' := by
  have c0 := h.cell0
  have c1 := h.cell1
  cases f
  · go_enter Try.func90, Try.ntmps90
    go_wp2_with fail
    go_ret
    exact ⟨rfl, rfl⟩
  · go_enter Try.func90, Try.ntmps90
    go_wp2_with fail
    go_ret
    exact ⟨rfl, rfl⟩

set_option maxHeartbeats 400000 in
theorem open_any (s : ByteArray) (w : World) :
    Calls Try.prog 47 #[.string s] w fun x w' => x = .returned (.pointer (some ⟨w.heap.size, 0, none⟩)) ∧ Rd w' w.heap.size s false ∧ Below w.heap.size w w' := by
  go_enter Try.func47, Try.ntmps47
  go_wp2_with fail
  go_ret
  exact ⟨rfl, heap_alloc_new w _, (Below.refl _ _).alloc (Nat.le_refl _) _⟩

end Go.Proofs.Ytgocnjiabfmdpaa.Wire
