/- Walk of the law WireAgain. -/
import Derived.Test.YtamjfnpgjcdepaaLb
namespace Go.Proofs.Ytamjfnpgjcdepaa
open Go.RowKit

theorem split_take {s : ByteArray} {e r : List UInt8} (h : bts s = e ++ r) (he : 1 ≤ e.length) : s.extract 0 (s.size - r.length) = ba e ∧ r.length < s.size ∧ s.size = e.length + r.length := by
  have hl := congrArg List.length h
  rw [bts_len, List.length_append] at hl
  refine ⟨?_, by omega, hl⟩
  rw [extract_take, h, show s.size - r.length = e.length by omega, List.take_left]

theorem flat_mem {α : Type} (f : α → List UInt8) : ∀ (l : List α) (x : α), x ∈ l → (f x).length ≤ ((l.map f).flatten).length
  | [], x, h => by cases h
  | y :: l, x, h => by
    simp only [List.map_cons, List.flatten_cons, List.length_append]
    rcases List.mem_cons.1 h with rfl | h
    · omega
    · have := flat_mem f l x h; omega
theorem flat_count {α : Type} (f : α → List UInt8) (hf : ∀ x, 1 ≤ (f x).length) : ∀ l : List α, l.length ≤ ((l.map f).flatten).length
  | [] => by simp
  | y :: l => by
    simp only [List.map_cons, List.flatten_cons, List.length_append, List.length_cons]
    have := flat_count f hf l
    have := hf y
    omega
theorem encInt_pos (n : Int) : 1 ≤ (encInt n).length := by unfold encInt; split <;> simp
theorem encText_pos (s : List UInt8) : 1 ≤ (encText s).length ∧ s.length ≤ (encText s).length := by
  unfold encText; simp only [List.length_append, List.length_cons, List.length_nil]; omega
theorem list_fit {α : Type} (f : α → List UInt8) (hf : ∀ x, 1 ≤ (f x).length) (l : List α) : l.length ≤ (encList (l.map f)).length ∧ ∀ x ∈ l, (f x).length ≤ (encList (l.map f)).length := by
  have h1 := flat_count f hf l
  unfold encList
  simp only [List.length_append, List.length_cons, List.length_nil, List.length_map]
  refine ⟨by omega, fun x hx => ?_⟩
  have := flat_mem f l x hx
  omega
theorem repP_all {α : Type} (rd : List UInt8 → Option (α × List UInt8)) (Q : α → Prop) (h : ∀ l x r, rd l = some (x, r) → Q x) : ∀ (n : Nat) (l : List UInt8) (xs : List α) (t : List UInt8), repP rd n l = some (xs, t) → ∀ x ∈ xs, Q x
  | 0, l, xs, t, hh => by
    simp only [repP, Option.some.injEq, Prod.mk.injEq] at hh
    obtain ⟨rfl, rfl⟩ := hh
    simp
  | n + 1, l, xs, t, hh => by
    simp only [repP] at hh
    cases h1 : rd l with
    | none => rw [h1] at hh; cases hh
    | some x =>
      rw [h1] at hh
      simp only at hh
      cases h2 : repP rd n x.2 with
      | none => rw [h2] at hh; cases hh
      | some y =>
        rw [h2] at hh
        simp only [Option.some.injEq, Prod.mk.injEq] at hh
        obtain ⟨rfl, rfl⟩ := hh
        intro z hz
        rcases List.mem_cons.1 hz with rfl | hz
        · exact h l _ x.2 (by rw [h1])
        · exact repP_all rd Q h n x.2 y.1 y.2 (by rw [h2]) z hz
theorem listP_all {α : Type} {rd : List UInt8 → Option (α × List UInt8)} (Q : α → Prop) (h : ∀ l x r, rd l = some (x, r) → Q x) {l : List UInt8} {xs : List α} {t : List UInt8} (hh : listP rd l = some (xs, t)) : ∀ x ∈ xs, Q x := by
  unfold listP at hh
  cases h1 : cntP l with
  | none => rw [h1] at hh; cases hh
  | some x =>
    rw [h1] at hh
    simp only at hh
    cases h2 : repP rd x.1 x.2 with
    | none => rw [h2] at hh; cases hh
    | some y =>
      rw [h2] at hh
      simp only at hh
      split at hh
      · simp only [Option.some.injEq, Prod.mk.injEq] at hh
        obtain ⟨rfl, _⟩ := hh
        exact repP_all rd Q h x.1 x.2 y.1 y.2 (by rw [h2])
      · cases hh

theorem nums_some (b : Nat) (s : ByteArray) (w : World) (h : Rd w b s false) (hs : s.size ≤ 10000000) (xs : List Int) (t : List UInt8) (hn : listP intP (bts s) = some (xs, t)) :
    Calls Try.prog 31 #[.pointer (some ⟨b, 0, none⟩)] w fun e w' => ∃ a cap, e = .returned (.slice a xs.length cap) ∧ IntsAt w'.heap.size w' a xs ∧ Rd w' b (ba t) false ∧ Keep b w w' := by
  refine (nums_any b s false w h (by simp) hs).mono ?_
  intro e w' hp
  unfold PostI at hp
  rw [hn] at hp
  obtain ⟨v, rfl, ho, hr, hk⟩ := hp
  obtain ⟨a, cap, rfl, hi⟩ := ho.ints
  exact ⟨a, cap, rfl, hi, hr, hk⟩
theorem nums_none (b : Nat) (s : ByteArray) (f : Bool) (w : World) (h : Rd w b s f) (hf : f = true → s.size = 0) (hs : s.size ≤ 10000000) (hn : listP intP (bts s) = none) :
    Calls Try.prog 31 #[.pointer (some ⟨b, 0, none⟩)] w fun e w' => e = .returned (.slice none 0 0) ∧ Rd w' b (ba []) true ∧ Keep b w w' := by
  refine (nums_any b s f w h hf hs).mono ?_
  intro e w' hp
  unfold PostI at hp
  rw [hn] at hp
  exact hp
theorem texts_some (b : Nat) (s : ByteArray) (w : World) (h : Rd w b s false) (hs : s.size ≤ 10000000) (xs : List (List UInt8)) (t : List UInt8) (hn : listP textP (bts s) = some (xs, t)) :
    Calls Try.prog 34 #[.pointer (some ⟨b, 0, none⟩)] w fun e w' => ∃ a cap, e = .returned (.slice a (xs.map ba).length cap) ∧ StrsAt w'.heap.size w' a (xs.map ba) ∧ Rd w' b (ba t) false ∧ Keep b w w' := by
  refine (texts_any b s false w h (by simp) hs).mono ?_
  intro e w' hp
  unfold PostS at hp
  rw [hn] at hp
  obtain ⟨v, rfl, ho, hr, hk⟩ := hp
  obtain ⟨a, cap, rfl, hi⟩ := ho.strs
  exact ⟨a, cap, rfl, hi, hr, hk⟩
theorem texts_none (b : Nat) (s : ByteArray) (f : Bool) (w : World) (h : Rd w b s f) (hf : f = true → s.size = 0) (hs : s.size ≤ 10000000) (hn : listP textP (bts s) = none) :
    Calls Try.prog 34 #[.pointer (some ⟨b, 0, none⟩)] w fun e w' => e = .returned (.slice none 0 0) ∧ Rd w' b (ba []) true ∧ Keep b w w' := by
  refine (texts_any b s f w h hf hs).mono ?_
  intro e w' hp
  unfold PostS at hp
  rw [hn] at hp
  exact hp
theorem encs_map (xs : List (List UInt8)) : encList ((xs.map ba).map encStr) = encList (xs.map encText) := by
  rw [List.map_map]; rfl

set_option maxHeartbeats 4000000 in
set_option maxRecDepth 100000 in
theorem again0 (s : ByteArray) (c : Int) (hk : c % 5 = 0) (w : World) (h4 : s.size ≤ 400) :
    Calls Try.prog 6 #[.string s, .int .i64 c] w fun e w' => e = .returned (.bool true) ∧ Below w.heap.size w w' := by
  have HK := Lib.hid hk; clear hk
  cases hn : numP (bts s) with
  | none =>
    have HN := Lib.hid hn; clear hn
    go_enter Try.func6, Try.ntmps6
    go_wp2_with fail
    refine (small_any _).mono ?_
    rintro e w1 ⟨rfl, hb1⟩
    have hs1 := hb1.size
    go_wp2_with fail
    refine (open_any _ _).mono ?_
    rintro e w2 ⟨rfl, hr2, hb2⟩
    go_wp2_with fail
    refine (kind_any ⟨c, 0, ByteArray.empty, [], none, 0, [], none, 0⟩ 0 HK.out _).mono ?_
    rintro e w3 ⟨rfl, hb3⟩
    have hr3 := Below.rd hb3 hr2
    have hb13 := (hb1.trans (hb2.mono hs1)).trans (hb3.mono (Nat.le_trans hs1 hb2.size))
    obtain ⟨rb, hrb⟩ : ∃ rb, w1.heap.size = rb := ⟨_, rfl⟩
    rw [hrb] at hr3 ⊢
    rw [hrb] at hs1
    have HB13 := Lib.hid hb13
    have hs3 := hb13.size
    clear hr2 hb2 hb3 hb13 hb1 hrb
    go_wp2_with fail
    refine (num_none rb s false _ hr3 (by omega) HN.out).mono ?_
    rintro e w4 ⟨rfl, hr4, hk4⟩
    have hs4 := hk4.size
    have HB4 := Lib.hid (HB13.out.trans (hk4.below hs1 hs3))
    clear hk4
    go_wp2_with fail
    refine (wNum_pos 0 _ (by unfold isI64; omega) (by omega)).mono ?_
    rintro e w5 ⟨rfl, hb5⟩
    have hr5 := Below.rd hb5 hr4
    have HB5 := Lib.hid (HB4.out.trans (hb5.mono (Nat.le_trans hs3 hs4)))
    clear hb5 hr4
    go_wp2_with fail
    refine (left_any rb _ _ _ hr5).mono ?_
    rw [show (ba []).size = 0 from rfl]
    rintro e w6 ⟨rfl, rfl⟩
    go_wp2_with fail
    refine (done_any rb _ _ _ hr5).mono ?_
    rintro e w6 ⟨rfl, rfl⟩
    go_wp2_with fail
    go_ret
    exact ⟨rfl, HB5.out⟩
  | some x =>
    obtain ⟨v, r⟩ := x
    have hinv := numP_inv hn
    have hv : isI64 (v : Int) := by have := (digP_le hn).1; have h9 : v ≤ 9223372036854775807 := this; unfold isI64; omega
    have hv0 : (0 : Int) ≤ (v : Int) := by omega
    obtain ⟨i1, i2, i3⟩ := split_take hinv (encInt_pos _)
    have I1 := Lib.hid i1; clear i1
    have I3 := Lib.hid i3; clear i3
    have HINV := Lib.hid hinv; clear hinv
    have HN := Lib.hid hn; clear hn
    go_enter Try.func6, Try.ntmps6
    go_wp2_with fail
    refine (small_any _).mono ?_
    rintro e w1 ⟨rfl, hb1⟩
    have hs1 := hb1.size
    go_wp2_with fail
    refine (open_any _ _).mono ?_
    rintro e w2 ⟨rfl, hr2, hb2⟩
    go_wp2_with fail
    refine (kind_any ⟨c, 0, ByteArray.empty, [], none, 0, [], none, 0⟩ 0 HK.out _).mono ?_
    rintro e w3 ⟨rfl, hb3⟩
    have hr3 := Below.rd hb3 hr2
    have hb13 := (hb1.trans (hb2.mono hs1)).trans (hb3.mono (Nat.le_trans hs1 hb2.size))
    obtain ⟨rb, hrb⟩ : ∃ rb, w1.heap.size = rb := ⟨_, rfl⟩
    rw [hrb] at hr3 ⊢
    rw [hrb] at hs1
    have HB13 := Lib.hid hb13
    have hs3 := hb13.size
    clear hr2 hb2 hb3 hb13 hb1 hrb
    go_wp2_with fail
    refine (num_some rb s false _ hr3 (by omega) v r HN.out).mono ?_
    rintro e w4 ⟨rfl, hr4, hk4⟩
    have hs4 := hk4.size
    have HB4 := Lib.hid (HB13.out.trans (hk4.below hs1 hs3))
    clear hk4
    go_wp2_with fail
    refine (wNum_pos (v : Int) _ hv (by omega)).mono ?_
    rintro e w5 ⟨rfl, hb5⟩
    have hr5 := Below.rd hb5 hr4
    have HB5 := Lib.hid (HB4.out.trans (hb5.mono (Nat.le_trans hs3 hs4)))
    clear hb5 hr4
    go_wp2_with fail
    have hre := isEmpty_cases (ba r)
    rw [ba_size] at hre
    rcases hre with ⟨t1, t2, t3⟩ | ⟨t1, t2, t3⟩
    · have b0 : ((r.length : Int) == 0) = true := beq_iff_eq.2 (by omega)
      clear t3
      refine (left_any rb _ _ _ hr5).mono ?_
      rw [ba_size]
      rintro e w6 ⟨rfl, rfl⟩
      go_wp2_with fail
      refine (done_any rb _ _ _ hr5).mono ?_
      rintro e w6 ⟨rfl, rfl⟩
      go_wp2_with fail
      refine (left_any rb _ _ _ hr5).mono ?_
      rw [ba_size]
      rintro e w6 ⟨rfl, rfl⟩
      go_wp2_with fail
      go_ret
      refine ⟨congrArg (fun z => Ending.returned (.bool z)) (?_ : ((ba (encInt (v : Int))).toList == (s.extract 0 (s.size - r.length)).toList) = true), HB5.out⟩
      rw [I1.out]
      exact beq_self_eq_true _
    · have b0 : ((r.length : Int) == 0) = false := beq_eq_false_iff_ne.2 (by omega)
      clear t3
      refine (left_any rb _ _ _ hr5).mono ?_
      rw [ba_size]
      rintro e w6 ⟨rfl, rfl⟩
      go_wp2_with fail
      refine (left_any rb _ _ _ hr5).mono ?_
      rw [ba_size]
      rintro e w6 ⟨rfl, rfl⟩
      go_wp2_with fail
      go_ret
      refine ⟨congrArg (fun z => Ending.returned (.bool z)) (?_ : ((ba (encInt (v : Int))).toList == (s.extract 0 (s.size - r.length)).toList) = true), HB5.out⟩
      rw [I1.out]
      exact beq_self_eq_true _

set_option maxHeartbeats 4000000 in
set_option maxRecDepth 100000 in
theorem again1 (s : ByteArray) (c : Int) (hk : c % 5 = 1) (w : World) (h4 : s.size ≤ 400) :
    Calls Try.prog 6 #[.string s, .int .i64 c] w fun e w' => e = .returned (.bool true) ∧ Below w.heap.size w w' := by
  have HK := Lib.hid hk; clear hk
  cases hn : intP (bts s) with
  | none =>
    have HN := Lib.hid hn; clear hn
    go_enter Try.func6, Try.ntmps6
    go_wp2_with fail
    refine (small_any _).mono ?_
    rintro e w1 ⟨rfl, hb1⟩
    have hs1 := hb1.size
    go_wp2_with fail
    refine (open_any _ _).mono ?_
    rintro e w2 ⟨rfl, hr2, hb2⟩
    go_wp2_with fail
    refine (kind_any ⟨c, 0, ByteArray.empty, [], none, 0, [], none, 0⟩ 1 HK.out _).mono ?_
    rintro e w3 ⟨rfl, hb3⟩
    have hr3 := Below.rd hb3 hr2
    have hb13 := (hb1.trans (hb2.mono hs1)).trans (hb3.mono (Nat.le_trans hs1 hb2.size))
    obtain ⟨rb, hrb⟩ : ∃ rb, w1.heap.size = rb := ⟨_, rfl⟩
    rw [hrb] at hr3 ⊢
    rw [hrb] at hs1
    have HB13 := Lib.hid hb13
    have hs3 := hb13.size
    clear hr2 hb2 hb3 hb13 hb1 hrb
    go_wp2_with fail
    refine (int_none rb s false _ hr3 (by omega) HN.out).mono ?_
    rintro e w4 ⟨rfl, hr4, hk4⟩
    have hs4 := hk4.size
    have HB4 := Lib.hid (HB13.out.trans (hk4.below hs1 hs3))
    clear hk4
    go_wp2_with fail
    refine (wInt_any 0 _ (by unfold isI64; omega)).mono ?_
    rintro e w5 ⟨rfl, hb5⟩
    have hr5 := Below.rd hb5 hr4
    have HB5 := Lib.hid (HB4.out.trans (hb5.mono (Nat.le_trans hs3 hs4)))
    clear hb5 hr4
    go_wp2_with fail
    refine (left_any rb _ _ _ hr5).mono ?_
    rw [show (ba []).size = 0 from rfl]
    rintro e w6 ⟨rfl, rfl⟩
    go_wp2_with fail
    refine (done_any rb _ _ _ hr5).mono ?_
    rintro e w6 ⟨rfl, rfl⟩
    go_wp2_with fail
    go_ret
    exact ⟨rfl, HB5.out⟩
  | some x =>
    obtain ⟨v, r⟩ := x
    have hinv := intP_inv hn
    have hv : isI64 v := intP_i64 hn
    obtain ⟨i1, i2, i3⟩ := split_take hinv (encInt_pos _)
    have I1 := Lib.hid i1; clear i1
    have I3 := Lib.hid i3; clear i3
    have HINV := Lib.hid hinv; clear hinv
    have HN := Lib.hid hn; clear hn
    go_enter Try.func6, Try.ntmps6
    go_wp2_with fail
    refine (small_any _).mono ?_
    rintro e w1 ⟨rfl, hb1⟩
    have hs1 := hb1.size
    go_wp2_with fail
    refine (open_any _ _).mono ?_
    rintro e w2 ⟨rfl, hr2, hb2⟩
    go_wp2_with fail
    refine (kind_any ⟨c, 0, ByteArray.empty, [], none, 0, [], none, 0⟩ 1 HK.out _).mono ?_
    rintro e w3 ⟨rfl, hb3⟩
    have hr3 := Below.rd hb3 hr2
    have hb13 := (hb1.trans (hb2.mono hs1)).trans (hb3.mono (Nat.le_trans hs1 hb2.size))
    obtain ⟨rb, hrb⟩ : ∃ rb, w1.heap.size = rb := ⟨_, rfl⟩
    rw [hrb] at hr3 ⊢
    rw [hrb] at hs1
    have HB13 := Lib.hid hb13
    have hs3 := hb13.size
    clear hr2 hb2 hb3 hb13 hb1 hrb
    go_wp2_with fail
    refine (int_some rb s false _ hr3 (by omega) v r HN.out).mono ?_
    rintro e w4 ⟨rfl, hr4, hk4⟩
    have hs4 := hk4.size
    have HB4 := Lib.hid (HB13.out.trans (hk4.below hs1 hs3))
    clear hk4
    go_wp2_with fail
    refine (wInt_any v _ hv).mono ?_
    rintro e w5 ⟨rfl, hb5⟩
    have hr5 := Below.rd hb5 hr4
    have HB5 := Lib.hid (HB4.out.trans (hb5.mono (Nat.le_trans hs3 hs4)))
    clear hb5 hr4
    go_wp2_with fail
    have hre := isEmpty_cases (ba r)
    rw [ba_size] at hre
    rcases hre with ⟨t1, t2, t3⟩ | ⟨t1, t2, t3⟩
    · have b0 : ((r.length : Int) == 0) = true := beq_iff_eq.2 (by omega)
      clear t3
      refine (left_any rb _ _ _ hr5).mono ?_
      rw [ba_size]
      rintro e w6 ⟨rfl, rfl⟩
      go_wp2_with fail
      refine (done_any rb _ _ _ hr5).mono ?_
      rintro e w6 ⟨rfl, rfl⟩
      go_wp2_with fail
      refine (left_any rb _ _ _ hr5).mono ?_
      rw [ba_size]
      rintro e w6 ⟨rfl, rfl⟩
      go_wp2_with fail
      go_ret
      refine ⟨congrArg (fun z => Ending.returned (.bool z)) (?_ : ((ba (encInt v)).toList == (s.extract 0 (s.size - r.length)).toList) = true), HB5.out⟩
      rw [I1.out]
      exact beq_self_eq_true _
    · have b0 : ((r.length : Int) == 0) = false := beq_eq_false_iff_ne.2 (by omega)
      clear t3
      refine (left_any rb _ _ _ hr5).mono ?_
      rw [ba_size]
      rintro e w6 ⟨rfl, rfl⟩
      go_wp2_with fail
      refine (left_any rb _ _ _ hr5).mono ?_
      rw [ba_size]
      rintro e w6 ⟨rfl, rfl⟩
      go_wp2_with fail
      go_ret
      refine ⟨congrArg (fun z => Ending.returned (.bool z)) (?_ : ((ba (encInt v)).toList == (s.extract 0 (s.size - r.length)).toList) = true), HB5.out⟩
      rw [I1.out]
      exact beq_self_eq_true _

set_option maxHeartbeats 4000000 in
set_option maxRecDepth 100000 in
theorem again2 (s : ByteArray) (c : Int) (hk : c % 5 = 2) (w : World) (h4 : s.size ≤ 400) :
    Calls Try.prog 6 #[.string s, .int .i64 c] w fun e w' => e = .returned (.bool true) ∧ Below w.heap.size w w' := by
  have HK := Lib.hid hk; clear hk
  cases hn : textP (bts s) with
  | none =>
    have HN := Lib.hid hn; clear hn
    go_enter Try.func6, Try.ntmps6
    go_wp2_with fail
    refine (small_any _).mono ?_
    rintro e w1 ⟨rfl, hb1⟩
    have hs1 := hb1.size
    go_wp2_with fail
    refine (open_any _ _).mono ?_
    rintro e w2 ⟨rfl, hr2, hb2⟩
    go_wp2_with fail
    refine (kind_any ⟨c, 0, ByteArray.empty, [], none, 0, [], none, 0⟩ 2 HK.out _).mono ?_
    rintro e w3 ⟨rfl, hb3⟩
    have hr3 := Below.rd hb3 hr2
    have hb13 := (hb1.trans (hb2.mono hs1)).trans (hb3.mono (Nat.le_trans hs1 hb2.size))
    obtain ⟨rb, hrb⟩ : ∃ rb, w1.heap.size = rb := ⟨_, rfl⟩
    rw [hrb] at hr3 ⊢
    rw [hrb] at hs1
    have HB13 := Lib.hid hb13
    have hs3 := hb13.size
    clear hr2 hb2 hb3 hb13 hb1 hrb
    go_wp2_with fail
    refine (text_none rb s false _ hr3 (by omega) HN.out).mono ?_
    rintro e w4 ⟨rfl, hr4, hk4⟩
    have hs4 := hk4.size
    have HB4 := Lib.hid (HB13.out.trans (hk4.below hs1 hs3))
    clear hk4
    go_wp2_with fail
    refine (wText_any (ba []) _ (by rw [ba_size]; simp)).mono ?_
    rintro e w5 ⟨rfl, hb5⟩
    have hr5 := Below.rd hb5 hr4
    have HB5 := Lib.hid (HB4.out.trans (hb5.mono (Nat.le_trans hs3 hs4)))
    clear hb5 hr4
    go_wp2_with fail
    refine (left_any rb _ _ _ hr5).mono ?_
    rw [show (ba []).size = 0 from rfl]
    rintro e w6 ⟨rfl, rfl⟩
    go_wp2_with fail
    refine (done_any rb _ _ _ hr5).mono ?_
    rintro e w6 ⟨rfl, rfl⟩
    go_wp2_with fail
    go_ret
    exact ⟨rfl, HB5.out⟩
  | some x =>
    obtain ⟨v, r⟩ := x
    have hinv : bts s = encStr (ba v) ++ r := textP_inv hn
    have hv : (ba v).size ≤ 10000000 := by have := textP_len hn; rw [bts_len] at this; rw [ba_size]; omega
    obtain ⟨i1, i2, i3⟩ := split_take hinv (encText_pos v).1
    have I1 := Lib.hid i1; clear i1
    have I3 := Lib.hid i3; clear i3
    have HINV := Lib.hid hinv; clear hinv
    have HN := Lib.hid hn; clear hn
    go_enter Try.func6, Try.ntmps6
    go_wp2_with fail
    refine (small_any _).mono ?_
    rintro e w1 ⟨rfl, hb1⟩
    have hs1 := hb1.size
    go_wp2_with fail
    refine (open_any _ _).mono ?_
    rintro e w2 ⟨rfl, hr2, hb2⟩
    go_wp2_with fail
    refine (kind_any ⟨c, 0, ByteArray.empty, [], none, 0, [], none, 0⟩ 2 HK.out _).mono ?_
    rintro e w3 ⟨rfl, hb3⟩
    have hr3 := Below.rd hb3 hr2
    have hb13 := (hb1.trans (hb2.mono hs1)).trans (hb3.mono (Nat.le_trans hs1 hb2.size))
    obtain ⟨rb, hrb⟩ : ∃ rb, w1.heap.size = rb := ⟨_, rfl⟩
    rw [hrb] at hr3 ⊢
    rw [hrb] at hs1
    have HB13 := Lib.hid hb13
    have hs3 := hb13.size
    clear hr2 hb2 hb3 hb13 hb1 hrb
    go_wp2_with fail
    refine (text_some rb s false _ hr3 (by omega) v r HN.out).mono ?_
    rintro e w4 ⟨rfl, hr4, hk4⟩
    have hs4 := hk4.size
    have HB4 := Lib.hid (HB13.out.trans (hk4.below hs1 hs3))
    clear hk4
    go_wp2_with fail
    refine (wText_any (ba v) _ hv).mono ?_
    rintro e w5 ⟨rfl, hb5⟩
    have hr5 := Below.rd hb5 hr4
    have HB5 := Lib.hid (HB4.out.trans (hb5.mono (Nat.le_trans hs3 hs4)))
    clear hb5 hr4
    go_wp2_with fail
    have hre := isEmpty_cases (ba r)
    rw [ba_size] at hre
    rcases hre with ⟨t1, t2, t3⟩ | ⟨t1, t2, t3⟩
    · have b0 : ((r.length : Int) == 0) = true := beq_iff_eq.2 (by omega)
      clear t3
      refine (left_any rb _ _ _ hr5).mono ?_
      rw [ba_size]
      rintro e w6 ⟨rfl, rfl⟩
      go_wp2_with fail
      refine (done_any rb _ _ _ hr5).mono ?_
      rintro e w6 ⟨rfl, rfl⟩
      go_wp2_with fail
      refine (left_any rb _ _ _ hr5).mono ?_
      rw [ba_size]
      rintro e w6 ⟨rfl, rfl⟩
      go_wp2_with fail
      go_ret
      refine ⟨congrArg (fun z => Ending.returned (.bool z)) (?_ : ((ba (encStr (ba v))).toList == (s.extract 0 (s.size - r.length)).toList) = true), HB5.out⟩
      rw [I1.out]
      exact beq_self_eq_true _
    · have b0 : ((r.length : Int) == 0) = false := beq_eq_false_iff_ne.2 (by omega)
      clear t3
      refine (left_any rb _ _ _ hr5).mono ?_
      rw [ba_size]
      rintro e w6 ⟨rfl, rfl⟩
      go_wp2_with fail
      refine (left_any rb _ _ _ hr5).mono ?_
      rw [ba_size]
      rintro e w6 ⟨rfl, rfl⟩
      go_wp2_with fail
      go_ret
      refine ⟨congrArg (fun z => Ending.returned (.bool z)) (?_ : ((ba (encStr (ba v))).toList == (s.extract 0 (s.size - r.length)).toList) = true), HB5.out⟩
      rw [I1.out]
      exact beq_self_eq_true _

set_option maxHeartbeats 4000000 in
set_option maxRecDepth 100000 in
theorem again3 (s : ByteArray) (c : Int) (hk : c % 5 = 3) (w : World) (h4 : s.size ≤ 400) :
    Calls Try.prog 6 #[.string s, .int .i64 c] w fun e w' => e = .returned (.bool true) ∧ Below w.heap.size w w' := by
  have HK := Lib.hid hk; clear hk
  cases hn : listP intP (bts s) with
  | none =>
    have HN := Lib.hid hn; clear hn
    go_enter Try.func6, Try.ntmps6
    go_wp2_with fail
    refine (small_any _).mono ?_
    rintro e w1 ⟨rfl, hb1⟩
    have hs1 := hb1.size
    go_wp2_with fail
    refine (open_any _ _).mono ?_
    rintro e w2 ⟨rfl, hr2, hb2⟩
    go_wp2_with fail
    refine (kind_any ⟨c, 0, ByteArray.empty, [], none, 0, [], none, 0⟩ 3 HK.out _).mono ?_
    rintro e w3 ⟨rfl, hb3⟩
    have hr3 := Below.rd hb3 hr2
    have hb13 := (hb1.trans (hb2.mono hs1)).trans (hb3.mono (Nat.le_trans hs1 hb2.size))
    obtain ⟨rb, hrb⟩ : ∃ rb, w1.heap.size = rb := ⟨_, rfl⟩
    rw [hrb] at hr3 ⊢
    rw [hrb] at hs1
    have HB13 := Lib.hid hb13
    have hs3 := hb13.size
    clear hr2 hb2 hb3 hb13 hb1 hrb
    go_wp2_with fail
    refine (nums_none rb s false _ hr3 (by simp) (by omega) HN.out).mono ?_
    rintro e w4 ⟨rfl, hr4, hk4⟩
    have hs4 := hk4.size
    have HB4 := Lib.hid (HB13.out.trans (hk4.below hs1 hs3))
    clear hk4
    go_wp2_with fail
    refine (wNums_any none [] 0 _ (by simp) (by intro z hz; cases hz) (by intro k hk; cases hk)).mono ?_
    rintro e w5 ⟨rfl, hb5⟩
    have hr5 := Below.rd hb5 hr4
    have HB5 := Lib.hid (HB4.out.trans (hb5.mono (Nat.le_trans hs3 hs4)))
    clear hb5 hr4
    go_wp2_with fail
    refine (left_any rb _ _ _ hr5).mono ?_
    rw [show (ba []).size = 0 from rfl]
    rintro e w6 ⟨rfl, rfl⟩
    go_wp2_with fail
    refine (done_any rb _ _ _ hr5).mono ?_
    rintro e w6 ⟨rfl, rfl⟩
    go_wp2_with fail
    go_ret
    exact ⟨rfl, HB5.out⟩
  | some x =>
    obtain ⟨v, r⟩ := x
    have hinv : bts s = encList (v.map encInt) ++ r := listP_inv (fun _ _ _ h => intP_inv h) hn
    have hsz : (encList (v.map encInt)).length ≤ s.size := by have := congrArg List.length hinv; rw [bts_len, List.length_append] at this; omega
    have hfit := list_fit encInt encInt_pos v
    have hvl : v.length ≤ 1000000 := by omega
    have hva : ∀ z ∈ v, isI64 z := listP_all isI64 (fun _ _ _ h => intP_i64 h) hn
    have hpos : 1 ≤ (encList (v.map encInt)).length := by unfold encList; simp only [List.length_append, List.length_cons, List.length_nil]; omega
    clear hfit
    have HVA := Lib.hid hva; clear hva
    obtain ⟨i1, i2, i3⟩ := split_take hinv hpos
    have I1 := Lib.hid i1; clear i1
    have I3 := Lib.hid i3; clear i3
    have HINV := Lib.hid hinv; clear hinv
    have HN := Lib.hid hn; clear hn
    go_enter Try.func6, Try.ntmps6
    go_wp2_with fail
    refine (small_any _).mono ?_
    rintro e w1 ⟨rfl, hb1⟩
    have hs1 := hb1.size
    go_wp2_with fail
    refine (open_any _ _).mono ?_
    rintro e w2 ⟨rfl, hr2, hb2⟩
    go_wp2_with fail
    refine (kind_any ⟨c, 0, ByteArray.empty, [], none, 0, [], none, 0⟩ 3 HK.out _).mono ?_
    rintro e w3 ⟨rfl, hb3⟩
    have hr3 := Below.rd hb3 hr2
    have hb13 := (hb1.trans (hb2.mono hs1)).trans (hb3.mono (Nat.le_trans hs1 hb2.size))
    obtain ⟨rb, hrb⟩ : ∃ rb, w1.heap.size = rb := ⟨_, rfl⟩
    rw [hrb] at hr3 ⊢
    rw [hrb] at hs1
    have HB13 := Lib.hid hb13
    have hs3 := hb13.size
    clear hr2 hb2 hb3 hb13 hb1 hrb
    go_wp2_with fail
    refine (nums_some rb s _ hr3 (by omega) v r HN.out).mono ?_
    rintro e w4 ⟨a4, p4, rfl, hi4, hr4, hk4⟩
    have HI4 := Lib.hid hi4; clear hi4
    have hs4 := hk4.size
    have HB4 := Lib.hid (HB13.out.trans (hk4.below hs1 hs3))
    clear hk4
    go_wp2_with fail
    refine (wNums_any a4 v p4 _ hvl HVA.out HI4.out).mono ?_
    rintro e w5 ⟨rfl, hb5⟩
    have hr5 := Below.rd hb5 hr4
    have HB5 := Lib.hid (HB4.out.trans (hb5.mono (Nat.le_trans hs3 hs4)))
    clear hb5 hr4
    go_wp2_with fail
    have hre := isEmpty_cases (ba r)
    rw [ba_size] at hre
    rcases hre with ⟨t1, t2, t3⟩ | ⟨t1, t2, t3⟩
    · have b0 : ((r.length : Int) == 0) = true := beq_iff_eq.2 (by omega)
      clear t3
      refine (left_any rb _ _ _ hr5).mono ?_
      rw [ba_size]
      rintro e w6 ⟨rfl, rfl⟩
      go_wp2_with fail
      refine (done_any rb _ _ _ hr5).mono ?_
      rintro e w6 ⟨rfl, rfl⟩
      go_wp2_with fail
      refine (left_any rb _ _ _ hr5).mono ?_
      rw [ba_size]
      rintro e w6 ⟨rfl, rfl⟩
      go_wp2_with fail
      go_ret
      refine ⟨congrArg (fun z => Ending.returned (.bool z)) (?_ : ((ba (encList (v.map encInt))).toList == (s.extract 0 (s.size - r.length)).toList) = true), HB5.out⟩
      rw [I1.out]
      exact beq_self_eq_true _
    · have b0 : ((r.length : Int) == 0) = false := beq_eq_false_iff_ne.2 (by omega)
      clear t3
      refine (left_any rb _ _ _ hr5).mono ?_
      rw [ba_size]
      rintro e w6 ⟨rfl, rfl⟩
      go_wp2_with fail
      refine (left_any rb _ _ _ hr5).mono ?_
      rw [ba_size]
      rintro e w6 ⟨rfl, rfl⟩
      go_wp2_with fail
      go_ret
      refine ⟨congrArg (fun z => Ending.returned (.bool z)) (?_ : ((ba (encList (v.map encInt))).toList == (s.extract 0 (s.size - r.length)).toList) = true), HB5.out⟩
      rw [I1.out]
      exact beq_self_eq_true _

set_option maxHeartbeats 4000000 in
set_option maxRecDepth 100000 in
theorem again4 (s : ByteArray) (c : Int) (hk : c % 5 = 4) (w : World) (h4 : s.size ≤ 400) :
    Calls Try.prog 6 #[.string s, .int .i64 c] w fun e w' => e = .returned (.bool true) ∧ Below w.heap.size w w' := by
  have HK := Lib.hid hk; clear hk
  cases hn : listP textP (bts s) with
  | none =>
    have HN := Lib.hid hn; clear hn
    go_enter Try.func6, Try.ntmps6
    go_wp2_with fail
    refine (small_any _).mono ?_
    rintro e w1 ⟨rfl, hb1⟩
    have hs1 := hb1.size
    go_wp2_with fail
    refine (open_any _ _).mono ?_
    rintro e w2 ⟨rfl, hr2, hb2⟩
    go_wp2_with fail
    refine (kind_any ⟨c, 0, ByteArray.empty, [], none, 0, [], none, 0⟩ 4 HK.out _).mono ?_
    rintro e w3 ⟨rfl, hb3⟩
    have hr3 := Below.rd hb3 hr2
    have hb13 := (hb1.trans (hb2.mono hs1)).trans (hb3.mono (Nat.le_trans hs1 hb2.size))
    obtain ⟨rb, hrb⟩ : ∃ rb, w1.heap.size = rb := ⟨_, rfl⟩
    rw [hrb] at hr3 ⊢
    rw [hrb] at hs1
    have HB13 := Lib.hid hb13
    have hs3 := hb13.size
    clear hr2 hb2 hb3 hb13 hb1 hrb
    go_wp2_with fail
    refine (texts_none rb s false _ hr3 (by simp) (by omega) HN.out).mono ?_
    rintro e w4 ⟨rfl, hr4, hk4⟩
    have hs4 := hk4.size
    have HB4 := Lib.hid (HB13.out.trans (hk4.below hs1 hs3))
    clear hk4
    go_wp2_with fail
    refine (wTexts_any none [] 0 _ (by simp) (by intro z hz; cases hz) (by intro k hk; cases hk)).mono ?_
    rintro e w5 ⟨rfl, hb5⟩
    have hr5 := Below.rd hb5 hr4
    have HB5 := Lib.hid (HB4.out.trans (hb5.mono (Nat.le_trans hs3 hs4)))
    clear hb5 hr4
    go_wp2_with fail
    refine (left_any rb _ _ _ hr5).mono ?_
    rw [show (ba []).size = 0 from rfl]
    rintro e w6 ⟨rfl, rfl⟩
    go_wp2_with fail
    refine (done_any rb _ _ _ hr5).mono ?_
    rintro e w6 ⟨rfl, rfl⟩
    go_wp2_with fail
    go_ret
    exact ⟨rfl, HB5.out⟩
  | some x =>
    obtain ⟨v, r⟩ := x
    have hinv : bts s = encList ((v.map ba).map encStr) ++ r := by rw [encs_map]; exact listP_inv (fun _ _ _ h => textP_inv h) hn
    have hsz : (encList (v.map encText)).length ≤ s.size := by have := congrArg List.length hinv; rw [bts_len, List.length_append, encs_map] at this; omega
    have hfit := list_fit encText (fun x => (encText_pos x).1) v
    have hvl : (v.map ba).length ≤ 1000000 := by rw [List.length_map]; omega
    have hva : ∀ z ∈ v.map ba, z.size ≤ 1000000 := by
      intro z hz
      obtain ⟨x, hx, rfl⟩ := List.mem_map.1 hz
      have h1 := hfit.2 x hx
      have h2 := (encText_pos x).2
      rw [ba_size]; omega
    have hpos : 1 ≤ (encList ((v.map ba).map encStr)).length := by unfold encList; simp only [List.length_append, List.length_cons, List.length_nil]; omega
    clear hfit
    have HVA := Lib.hid hva; clear hva
    obtain ⟨X, hX⟩ : ∃ X, encList ((v.map ba).map encStr) = X := ⟨_, rfl⟩
    rw [hX] at hinv hpos
    have HX := Lib.hid hX; clear hX hsz
    obtain ⟨i1, i2, i3⟩ := split_take hinv hpos
    have I1 := Lib.hid i1; clear i1
    have I3 := Lib.hid i3; clear i3
    have HINV := Lib.hid hinv; clear hinv
    have HN := Lib.hid hn; clear hn
    go_enter Try.func6, Try.ntmps6
    go_wp2_with fail
    refine (small_any _).mono ?_
    rintro e w1 ⟨rfl, hb1⟩
    have hs1 := hb1.size
    go_wp2_with fail
    refine (open_any _ _).mono ?_
    rintro e w2 ⟨rfl, hr2, hb2⟩
    go_wp2_with fail
    refine (kind_any ⟨c, 0, ByteArray.empty, [], none, 0, [], none, 0⟩ 4 HK.out _).mono ?_
    rintro e w3 ⟨rfl, hb3⟩
    have hr3 := Below.rd hb3 hr2
    have hb13 := (hb1.trans (hb2.mono hs1)).trans (hb3.mono (Nat.le_trans hs1 hb2.size))
    obtain ⟨rb, hrb⟩ : ∃ rb, w1.heap.size = rb := ⟨_, rfl⟩
    rw [hrb] at hr3 ⊢
    rw [hrb] at hs1
    have HB13 := Lib.hid hb13
    have hs3 := hb13.size
    clear hr2 hb2 hb3 hb13 hb1 hrb
    go_wp2_with fail
    refine (texts_some rb s _ hr3 (by omega) v r HN.out).mono ?_
    rintro e w4 ⟨a4, p4, rfl, hi4, hr4, hk4⟩
    have HI4 := Lib.hid hi4; clear hi4
    have hs4 := hk4.size
    have HB4 := Lib.hid (HB13.out.trans (hk4.below hs1 hs3))
    clear hk4
    go_wp2_with fail
    have hc := wTexts_any a4 (v.map ba) p4 _ hvl HVA.out HI4.out
    rw [List.length_map, HX.out] at hc
    refine hc.mono ?_
    clear hc
    rintro e w5 ⟨rfl, hb5⟩
    have hr5 := Below.rd hb5 hr4
    have HB5 := Lib.hid (HB4.out.trans (hb5.mono (Nat.le_trans hs3 hs4)))
    clear hb5 hr4
    go_wp2_with fail
    have hre := isEmpty_cases (ba r)
    rw [ba_size] at hre
    rcases hre with ⟨t1, t2, t3⟩ | ⟨t1, t2, t3⟩
    · have b0 : ((r.length : Int) == 0) = true := beq_iff_eq.2 (by omega)
      clear t3
      refine (left_any rb _ _ _ hr5).mono ?_
      rw [ba_size]
      rintro e w6 ⟨rfl, rfl⟩
      go_wp2_with fail
      refine (done_any rb _ _ _ hr5).mono ?_
      rintro e w6 ⟨rfl, rfl⟩
      go_wp2_with fail
      refine (left_any rb _ _ _ hr5).mono ?_
      rw [ba_size]
      rintro e w6 ⟨rfl, rfl⟩
      go_wp2_with fail
      go_ret
      refine ⟨congrArg (fun z => Ending.returned (.bool z)) (?_ : ((ba X).toList == (s.extract 0 (s.size - r.length)).toList) = true), HB5.out⟩
      rw [I1.out]
      exact beq_self_eq_true _
    · have b0 : ((r.length : Int) == 0) = false := beq_eq_false_iff_ne.2 (by omega)
      clear t3
      refine (left_any rb _ _ _ hr5).mono ?_
      rw [ba_size]
      rintro e w6 ⟨rfl, rfl⟩
      go_wp2_with fail
      refine (left_any rb _ _ _ hr5).mono ?_
      rw [ba_size]
      rintro e w6 ⟨rfl, rfl⟩
      go_wp2_with fail
      go_ret
      refine ⟨congrArg (fun z => Ending.returned (.bool z)) (?_ : ((ba X).toList == (s.extract 0 (s.size - r.length)).toList) = true), HB5.out⟩
      rw [I1.out]
      exact beq_self_eq_true _

set_option maxHeartbeats 1000000 in
theorem wireAgain_any (s : ByteArray) (c : Int) (w : World) (hs : s.size ≤ 9223372036854775807) :
    Calls Try.prog 6 #[.string s, .int .i64 c] w fun e w' => e = .returned (.bool true) ∧ Below w.heap.size w w' := by
  by_cases h4 : s.size ≤ 400
  · have hk : c % 5 = 0 ∨ c % 5 = 1 ∨ c % 5 = 2 ∨ c % 5 = 3 ∨ c % 5 = 4 := by omega
    rcases hk with hk | hk | hk | hk | hk
    · exact again0 s c hk w h4
    · exact again1 s c hk w h4
    · exact again2 s c hk w h4
    · exact again3 s c hk w h4
    · exact again4 s c hk w h4
  · go_enter Try.func6, Try.ntmps6
    go_wp2_with fail
    refine (small_any _).mono ?_
    rintro e w1 ⟨rfl, hb1⟩
    go_wp2_with fail
    go_ret
    exact ⟨rfl, hb1⟩

end Go.Proofs.Ytamjfnpgjcdepaa
