/- Walks: the reference's trim and digit. Walks: scale, combine. Walks: combine. -/
import Derived.Test.YtkjpfnbdlbnbkaaGreatDoorXaa
import Derived.Deep.AppendLies

namespace Go.Proofs.YtkjpfnbdlbnbkaaGreatDoor
open Go.RowKit

/-- A slice that reads as l. -/
def Sv (w : World) (v : Value) (l : List Int) : Prop := ∃ A c, v = .slice A l.length c ∧ l.length ≤ c ∧ c ≤ 9223372036854775807 ∧ IntsAt w.heap.size w A l
theorem Sv.later {w w' : World} {v : Value} {l : List Int} (h : Sv w v l) (hb : Below w.heap.size w w') : Sv w' v l := by
  obtain ⟨A, c, e, h1, h2, h3⟩ := h
  exact ⟨A, c, e, h1, h2, (h3.below hb).more hb.size⟩
theorem OwnI.sv {w : World} {B : Nat} {v : Value} {l : List Int} (h : OwnI w B v l) : Sv w v l := h.at_
theorem Sv.drewN {w : World} {v : Value} {l : List Int} (h : Sv w v l) (n : Nat) : Sv (w.drewN n) v l := h

set_option maxRecDepth 100000 in
/-- append(own, x...), where x reads as ms. -/
theorem appSl {w : World} {ops : Array Oper} {rest : List Oper} {o : Oper} {a : Act} {Q : Exit → Act → World → Prop} (hgd : o.guard = none) (s x : Operand)
    (ho : o.op = .call { callee := .builtin .append, args := #[s, x], argTypes := #[22, 22] })
    (B : Nat) (v : Value) (l : List Int) (hs : a.eval s = v) (hown : OwnI w B v l) (A : Option Addr) (m c : Nat) (ms : List Int)
    (hx : a.eval x = .slice A m c) (hm : ms.length = m) (hI : IntsAt w.heap.size w A ms) (hb : l.length + m ≤ 10000000) (hbase : B ≤ w.heap.size)
    (h : ∀ v' w', OwnI w' B v' (l ++ ms) → Below B w w' → wpList Tryz.prog ops Q rest (a.put o.dst v') w') : wpList Tryz.prog ops Q (o :: rest) a w := by
  obtain ⟨i0, hi, hz0, hz1, hz2⟩ := info_parts Tryz.info3
  rcases A with _ | ad
  · have hm0 : ms = [] := by
      rcases Nat.eq_zero_or_pos ms.length with h0 | h0
      · exact List.eq_nil_of_length_eq_zero h0
      · obtain ⟨b, off, e, _⟩ := hI 0 h0
        cases e
    subst hm0
    subst hm
    have hrun : ∀ ty, (Builtin.append_ #[22, 22] ty #[v, .slice none ([] : List Int).length c]).run Tryz.prog w = .ok v w := by
      intro ty
      rcases hown.2 with ⟨rfl, hn⟩ | ⟨g, cap, cur, rfl, _, _, hnc, _⟩
      · simp [Builtin.append_, run_underlying Tryz.underlying22, sizeOf, typeInfo, hi, Builtin.lenOf, Builtin.firstCells]
      · simp [Builtin.append_, run_underlying Tryz.underlying22, sizeOf, typeInfo, hi, Builtin.lenOf, Builtin.firstCells, hnc, storeCells]
    refine wpList_plain hgd fun K hK => ?_
    unfold Oper.wp execOp
    simp only [ho, resolve, invoke, builtin, Sem.run_bind, Sem.run_pure, Result.andThen_ok, List.map_toArray, List.map_cons, List.map_nil, hs, hx, hrun]
    refine hK _ _ (h v w ?_ (Below.refl _ _))
    rw [List.append_nil]; exact hown
  · refine wpList_append_own _ hgd s x 22 ho B 3 i0 (.int .i64 0) 1 8 Tryz.underlying22 hi hz0 hz1 hz2 rfl (by decide) _ _ _ hs hown ad m c (ms.map (Value.int .i64)) hx (by simp; omega) ?_ ?_ ?_ ?_ hbase ?_
    · intro j u hj
      rw [List.getElem?_map] at hj
      rcases Nat.lt_or_ge j ms.length with hlt | hge
      · obtain ⟨b, off, e, _, hc⟩ := hI j hlt
        injection e with e
        subst e
        rw [List.getElem?_eq_getElem hlt] at hj
        rw [List.getD_eq_getElem?_getD, List.getElem?_eq_getElem hlt] at hc
        simp only [Option.map_some, Option.some.injEq] at hj
        subst hj
        unfold Addr.add
        split
        · rename_i h0; subst h0; simpa using hc
        · exact hc
      · rw [List.getElem?_eq_none hge] at hj; cases hj
    · intro u hu
      obtain ⟨z, _, rfl⟩ := List.mem_map.1 hu
      rfl
    · unfold maxLen; omega
    · omega
    · intro v' w1 hown' hgrow _
      refine h v' w1 ?_ ?_
      · unfold OwnI
        rw [List.length_append, List.map_append, hm]
        exact hown'
      · exact (Below.refl B w).grown hgrow hbase (fun k hk => (World.ownsRow.lt hown k hk).1)

theorem ownI_lit0 (w : World) : OwnI (w.alloc (.cells #[] 3)) w.heap.size (.slice (some ⟨w.heap.size, 0, none⟩) 0 0) [] :=
  World.ownsRow_lit (e := 3) (size := 1) (base := w.heap.size) w #[] 0 (Nat.le_refl _) (by unfold maxLen; omega) (by simp)
theorem ints_take {B B' : Nat} {w : World} {A : Option Addr} {l : List Int} (h : IntsAt B w A l) (m : Nat) (hB : B ≤ B') : IntsAt B' w A (l.take m) := by
  intro k hk
  rw [List.length_take] at hk
  obtain ⟨b, off, e, h1, h2⟩ := h k (by omega)
  refine ⟨b, off, e, by omega, ?_⟩
  rw [h2, List.getD_eq_getElem?_getD, List.getD_eq_getElem?_getD, List.getElem?_take_of_lt (by omega)]
theorem nv_take_trim {l : List Int} {m : Nat} (h : m < l.length) (hz : l.getD m 0 = 0) : nv (l.take (m + 1)) = nv (l.take m) := by
  rw [nv_take_succ h, hz]; omega

set_option maxHeartbeats 1000000 in
theorem rtrim_any (l : List Int) (v : Value) (w : World) (h : Sv w v l) (hd : Dig l) (hl : l.length ≤ 1000000) :
    Calls Tryz.prog 78 #[v] w fun e w' => ∃ v', e = .returned v' ∧ OwnI w' w.heap.size v' (D (nv l)) ∧ Below w.heap.size w w' := by
  obtain ⟨A, c, rfl, hnc, hcm, hI⟩ := h
  obtain ⟨n, hn⟩ : ∃ n, l.length = n := ⟨_, rfl⟩
  have hnn : l.length ≤ n ∧ n ≤ l.length := by omega
  rw [hn] at hl hnc ⊢
  clear hn
  have hd0 := Lib.hid hd; clear hd
  go_enter Tryz.func78, Tryz.ntmps78
  go_wp2_with fail
  go_loop [3] (fun k => ∃ m : Nat, m ≤ n ∧ k = .int .i64 m ∧ Hid (nv (l.take m) = nv l)) (fun k => (intOf k).toNat)
  case atStart => exact ⟨n, Nat.le_refl _, rfl, Lib.hid (nv_take_all l (by omega))⟩
  case round =>
    obtain ⟨m, hm, rfl, hv⟩ := hrel
    by_cases h0 : 0 < m
    · obtain ⟨b, off, hA, _, hc⟩ := hI (m - 1) (by omega)
      subst hA
      obtain ⟨d, hd⟩ : ∃ d, l.getD (m - 1) 0 = d := ⟨_, rfl⟩
      rw [hd] at hc
      have HD := Lib.hid hd; clear hd
      by_cases hz : d = 0
      · subst hz
        go_wp2_with fail
        go_round
        case rel => exact ⟨m - 1, by omega, by congr 1; omega, Lib.hid (by
          have h1 := hv.out
          have h2 := nv_take_trim (l := l) (m := m - 1) (by omega) HD.out
          rw [show m - 1 + 1 = m by omega] at h2
          rw [← h2]; exact h1)⟩
        case measure => simp [intOf]; omega
      · have hz' : (d == 0) = false := by simpa using hz
        have hnil : OwnI (w.alloc (.cells #[] 3)) w.heap.size (.slice (some ⟨w.heap.size, 0, none⟩) 0 0) [] := ownI_lit0 w
        have hIm : IntsAt (w.alloc (.cells #[] 3)).heap.size (w.alloc (.cells #[] 3)) (some ⟨b, off, none⟩) (l.take m) := ints_take (hI.below ((Below.refl _ w).alloc (Nat.le_refl _) _)) m (by simp)
        have hlm : (l.take m).length = m := by rw [List.length_take]; omega
        have hD := D_take hd0.out (k := m) (by omega) hv.out (fun _ => by rw [HD.out]; exact hz)
        have HDD := Lib.hid hD; clear hD
        have HNIL := Lib.hid hnil; clear hnil
        have HLM := Lib.hid hlm; clear hlm
        go_wp2_with (first
          | (at_builtin; refine appSl rfl (.tmp 18) (.tmp 21) rfl w.heap.size _ [] rfl HNIL.out _ _ _ (l.take m) rfl HLM.out hIm (by simp; omega) (by simp) ?_; intro v1 w1 hown1 hb1))
        go_ret
        exact ⟨_, rfl, by rw [← HDD.out]; exact hown1, ((Below.refl _ w).alloc (Nat.le_refl _) _).trans hb1⟩
    · have : m = 0 := by omega
      subst this
      have hv0 : nv l = 0 := by have := hv.out; rw [List.take_zero, nv_nil] at this; exact this.symm
      have HV := Lib.hid hv0; clear hv0
      have hnil : OwnI (w.alloc (.cells #[] 3)) w.heap.size (.slice (some ⟨w.heap.size, 0, none⟩) 0 0) [] := ownI_lit0 w
      have HNIL := Lib.hid hnil; clear hnil
      have hI0 : ∀ X, IntsAt (w.alloc (.cells #[] 3)).heap.size (w.alloc (.cells #[] 3)) X [] := fun X => IntsAt.nil _ _ _
      rcases A with _ | ad
      all_goals
        go_wp2_with (first
          | (at_builtin; refine appSl rfl (.tmp 18) (.tmp 21) rfl w.heap.size _ [] rfl HNIL.out _ _ _ [] rfl rfl (hI0 _) (by simp) (by simp) ?_; intro v1 w1 hown1 hb1))
        go_ret
        exact ⟨_, rfl, by rw [HV.out, D_zero]; exact hown1, ((Below.refl _ w).alloc (Nat.le_refl _) _).trans hb1⟩

/-- A digit of a list, or 0. -/
theorem rdigit_any (l : List Int) (i : Nat) (v : Value) (w : World) (h : Sv w v l) (d : Int) (hd : l.getD i 0 = d) :
    Calls Tryz.prog 98 #[v, .int .i64 i] w fun e w' => e = .returned (.int .i64 d) ∧ w = w' := by
  obtain ⟨A, c, rfl, hnc, hcm, hI⟩ := h
  by_cases hlt : i < l.length
  · obtain ⟨b, off, hA, _, hc⟩ := hI i hlt
    subst hA
    rw [hd] at hc
    clear hd
    obtain ⟨n, hn⟩ : ∃ n, l.length = n := ⟨_, rfl⟩
    rw [hn] at hnc hlt ⊢
    clear hn hI
    go_enter Tryz.func98, Tryz.ntmps98
    go_wp2_with fail
    go_ret
    exact ⟨rfl, rfl⟩
  · have hd0 : d = 0 := by rw [← hd, List.getD_eq_getElem?_getD, List.getElem?_eq_none (by omega)]; rfl
    subst hd0
    clear hd
    obtain ⟨n, hn⟩ : ∃ n, l.length = n := ⟨_, rfl⟩
    rw [hn] at hnc hlt ⊢
    clear hn hI
    have hlt' : decide (i < n) = false := by simpa using hlt
    go_enter Tryz.func98, Tryz.ntmps98
    go_wp2_with fail
    go_ret
    exact ⟨rfl, rfl⟩

end Go.Proofs.YtkjpfnbdlbnbkaaGreatDoor

namespace Go.Proofs.YtkjpfnbdlbnbkaaGreatDoor
open Go.RowKit

theorem take_set_succ {l : List Int} {k : Nat} (h : k < l.length) (z : Int) : (l.set k z).take (k + 1) = l.take k ++ [z] := by
  rw [List.take_succ_eq_append_getElem (by simpa using h), List.getElem_set_self, List.take_set_of_le (Nat.le_refl k)]
theorem nv_take_succ' (l : List Int) (k : Nat) : nv (l.take (k + 1)) = nv (l.take k) + pw k * l.getD k 0 := by
  rcases Nat.lt_or_ge k l.length with h | h
  · exact nv_take_succ h
  · rw [nv_take_all l (by omega), nv_take_all l h, List.getD_eq_getElem?_getD, List.getElem?_eq_none h]
    simp
theorem mul_bd {x d M : Int} (h0 : -M ≤ x) (h1 : x ≤ M) (d0 : 0 ≤ d) (d1 : d ≤ 1048575) (hM : 0 ≤ M) : -(M * 1048575) ≤ x * d ∧ x * d ≤ M * 1048575 := by
  have a1 : x * d ≤ M * d := Int.mul_le_mul_of_nonneg_right h1 d0
  have a2 : M * d ≤ M * 1048575 := Int.mul_le_mul_of_nonneg_left d1 hM
  have a3 : -M * d ≤ x * d := Int.mul_le_mul_of_nonneg_right h0 d0
  rw [Int.neg_mul] at a3
  omega

set_option maxHeartbeats 400000 in
theorem scale_any (l : List Int) (A : Option Addr) (cA : Nat) (f c : Int) (w : World) (hI : IntsAt w.heap.size w A l) (hd : Dig l) (hl : l.length ≤ 200) (hf0 : 0 ≤ f) (hf1 : f ≤ 1099511627776) (hc0 : 0 ≤ c) (hc1 : c ≤ 1099511627776) :
    Calls Tryz.prog 70 #[.slice A l.length cA, .int .i64 f, .int .i64 c] w fun e w' => ∃ v', e = .returned v' ∧ OwnI w' w.heap.size v' (D (f * nv l + c)) ∧ Below w.heap.size w w' := by
  obtain ⟨n, hn⟩ : ∃ n, l.length = n := ⟨_, rfl⟩
  have hnn : l.length ≤ n ∧ n ≤ l.length := by omega
  have hZ : f * nv l + c < pw 1000 := by
    have h1 := hd.nv_lt
    have h0 := hd.nv_nonneg
    have h2 : f * nv l ≤ 1099511627776 * nv l := Int.mul_le_mul_of_nonneg_right hf1 h0
    have h3 := pw_le (a := l.length) (b := 200) hl
    have h4 : pw 1000 = pw 800 * pw 200 := pw_add 800 200
    have h5 : pw 3 * pw 200 ≤ pw 800 * pw 200 := Int.mul_le_mul_of_nonneg_right (pw_le (by omega)) (by have := pw_pos 200; omega)
    have h6 : pw 3 = 1152921504606846976 := by decide
    rw [h6] at h5
    have := pw_pos 200
    omega
  rw [hn] at hl ⊢
  have HN := Lib.hid hn; clear hn
  have HZ := Lib.hid hZ; clear hZ
  go_enter Tryz.func70, Tryz.ntmps70
  go_wp2_with (at_make; refine makeI rfl (.tmp 11) (.tmp 14) rfl w.heap.size n (n + 2) _ _ rfl rfl rfl (by omega) (by omega) (by omega) (Nat.le_refl _) ?_; intro w0 hown0 hb0 hsz0)
  have hlt0 := hown0.lt.2
  go_loopw [2, 18] (fun cc i wr => ∃ (k : Nat) (c' : Int) (rs : List Int), k ≤ n ∧ i = .int .i64 k ∧ cc = .int .i64 c' ∧ 0 ≤ c' ∧ c' ≤ 2199023255552 ∧ Hid (rs.length = n) ∧ OwnI wr w.heap.size (.slice (some ⟨w.heap.size, 0, none⟩) n (n + 2)) rs ∧ Dig (rs.take k) ∧ Hid (nv (rs.take k) + pw k * c' = f * nv (l.take k) + c) ∧ Below w.heap.size w wr) (fun _ i _ => n - (intOf i).toNat)
  case atStart => exact ⟨0, c, List.replicate n 0, Nat.zero_le _, rfl, rfl, hc0, by omega, Lib.hid (by simp), hown0, Dig.nil, Lib.hid (by simp [nv, pw]), hb0⟩
  case round =>
    obtain ⟨k, c', rs, hk, rfl, rfl, h0, h1, hrl, hown, hdg, hv, hb⟩ := hrel
    have hs := hb.size
    by_cases hlt : k < n
    · obtain ⟨b, off, hA, hbB, hc⟩ := hI k (by omega)
      subst hA
      have hd1 := hd.getD (k := k) (by omega)
      have hc := (hb.cell (p := ⟨b, off + k, none⟩) hbB).trans hc
      obtain ⟨d, hdd⟩ : ∃ d, l.getD k 0 = d := ⟨_, rfl⟩
      rw [hdd] at hc hd1
      have HD := Lib.hid hdd; clear hdd
      have hm := mul_bd (x := f) (d := d) (M := 1099511627776) (by omega) hf1 hd1.1 (by omega) (by omega)
      have hm0 : 0 ≤ f * d := Int.mul_nonneg hf0 hd1.1
      have hfc := hown.cell hrl.out hlt
      have hff := hown.frozen (k := k) hrl.out
      obtain ⟨u, hu⟩ : ∃ u, rs.getD k 0 = u := ⟨_, rfl⟩
      rw [hu] at hfc
      clear hu
      go_wp2_with fail
      go_roundw
      case rel => exact ⟨k + 1, _, rs.set k ((c' + f * d) % 1048576), by omega, by go_num, rfl, by omega, by omega, Lib.hid (by simp [hrl.out]), by first | exact hown.store hrl.out k _ | (rw [and_low]; exact hown.store hrl.out k _), by
          rw [take_set_succ (by rw [hrl.out]; exact hlt)]; exact hdg.snoc (by omega) (by omega), Lib.hid (by
          have hkl : (rs.take k).length = k := by rw [List.length_take, hrl.out]; omega
          rw [take_set_succ (by rw [hrl.out]; exact hlt), nv_snoc, hkl, nv_take_succ' l, HD.out, pw_succ, Int.mul_comm 1048576, Int.mul_assoc, Int.add_assoc, ← Int.mul_add]
          have e1 : (c' + f * d) % 1048576 + 1048576 * ((c' + f * d) / 1048576) = c' + f * d := by omega
          rw [e1, Int.mul_add, ← Int.add_assoc, hv.out, Int.mul_add]
          have e2 : pw k * (f * d) = f * (pw k * d) := by rw [← Int.mul_assoc, Int.mul_comm (pw k) f, Int.mul_assoc]
          rw [e2]; omega), by exact hb.setCell (p := ⟨w.heap.size, k, none⟩) (Nat.le_refl _) _⟩
      case measure => simp [intOf]; omega
    · have hkn : k = n := by omega
      subst hkn
      have hv' := hv.out
      rw [List.take_of_length_le (Nat.le_of_eq hrl.out), List.take_of_length_le (Nat.le_of_eq HN.out)] at hv'
      rw [List.take_of_length_le (Nat.le_of_eq hrl.out)] at hdg
      have hv2 : nv rs + pw rs.length * c' = f * nv l + c := by rw [hrl.out]; exact hv'
      have HV := Lib.hid hv2; clear hv2 hv'
      go_wp2_with fail
      refine (carried_any rs c' _ _ w.heap.size hown hdg hs h0 (by omega) (by rw [HV.out]; exact HZ.out) (by rw [hrl.out]; omega)).mono ?_
      rintro e w1 ⟨v1, rfl, hown1, hb1⟩
      go_wp2_with fail
      go_ret
      exact ⟨_, rfl, by rw [← HV.out]; exact hown1, hb.trans hb1⟩

end Go.Proofs.YtkjpfnbdlbnbkaaGreatDoor

namespace Go.Proofs.YtkjpfnbdlbnbkaaGreatDoor
open Go.RowKit

theorem getD_out {l : List Int} {k : Nat} (h : l.length ≤ k) : l.getD k 0 = 0 := by
  rw [List.getD_eq_getElem?_getD, List.getElem?_eq_none h]; rfl

theorem comb_step {P a b x y ta tb tr c' u : Int} (h : tr + P * c' = x * ta + y * tb) (hu : u = c' + x * a + y * b) :
    tr + P * (u % 1048576) + 1048576 * P * (u / 1048576) = x * (ta + P * a) + y * (tb + P * b) := by
  have e1 : u % 1048576 + 1048576 * (u / 1048576) = u := by omega
  rw [Int.mul_comm 1048576 P, Int.mul_assoc, Int.add_assoc, ← Int.mul_add, e1, hu, Int.mul_add, Int.mul_add, Int.mul_add, Int.mul_add]
  have e2 : P * (x * a) = x * (P * a) := by rw [← Int.mul_assoc, Int.mul_comm P x, Int.mul_assoc]
  have e3 : P * (y * b) = y * (P * b) := by rw [← Int.mul_assoc, Int.mul_comm P y, Int.mul_assoc]
  rw [e2, e3]
  omega

theorem comb_bd {la lb : List Int} {x y : Int} (hda : Dig la) (hdb : Dig lb) (hla : la.length ≤ 200) (hlb : lb.length ≤ 200) (hx1 : x ≤ 2199023255552) (hy1 : y ≤ 2199023255552) : x * nv la + y * nv lb < pw 1000 := by
  have h1 := hda.nv_lt
  have h0 := hda.nv_nonneg
  have h1' := hdb.nv_lt
  have h0' := hdb.nv_nonneg
  have h2 : x * nv la ≤ 2199023255552 * nv la := Int.mul_le_mul_of_nonneg_right hx1 h0
  have h2' : y * nv lb ≤ 2199023255552 * nv lb := Int.mul_le_mul_of_nonneg_right hy1 h0'
  have h3 := pw_le (a := la.length) (b := 200) hla
  have h3' := pw_le (a := lb.length) (b := 200) hlb
  have h4 : pw 1000 = pw 800 * pw 200 := pw_add 800 200
  have h5 : pw 3 * pw 200 ≤ pw 800 * pw 200 := Int.mul_le_mul_of_nonneg_right (pw_le (by omega)) (by have := pw_pos 200; omega)
  have h6 : pw 3 = 1152921504606846976 := by decide
  rw [h6] at h5
  have := pw_pos 200
  omega

set_option maxRecDepth 100000 in
set_option maxHeartbeats 1000000 in
theorem combine_lt (la lb : List Int) (Aa Ab : Option Addr) (ca cb : Nat) (x y : Int) (w : World) (hIa : IntsAt w.heap.size w Aa la) (hIb : IntsAt w.heap.size w Ab lb) (hda : Dig la) (hdb : Dig lb) (hla : la.length ≤ 200) (hlb : lb.length ≤ 200)
    (hx0 : -2199023255552 ≤ x) (hx1 : x ≤ 2199023255552) (hy0 : -2199023255552 ≤ y) (hy1 : y ≤ 2199023255552) (hp : 0 ≤ x * nv la + y * nv lb) (hle : la.length < lb.length) :
    Calls Tryz.prog 71 #[.slice Aa la.length ca, .int .i64 x, .slice Ab lb.length cb, .int .i64 y] w fun e w' => ∃ v', e = .returned v' ∧ OwnI w' w.heap.size v' (D (x * nv la + y * nv lb)) ∧ Below w.heap.size w w' := by
  obtain ⟨na, hna⟩ : ∃ n, la.length = n := ⟨_, rfl⟩
  obtain ⟨nb, hnb⟩ : ∃ n, lb.length = n := ⟨_, rfl⟩
  have hza : la.length ≤ na ∧ na ≤ la.length := by omega
  have hzb : lb.length ≤ nb ∧ nb ≤ lb.length := by omega
  have hZ := comb_bd hda hdb hla hlb hx1 hy1
  rw [hna] at hla ⊢
  rw [hnb] at hlb ⊢
  rw [hna, hnb] at hle
  have HNA := Lib.hid hna; clear hna
  have HNB := Lib.hid hnb; clear hnb
  have HZ := Lib.hid hZ; clear hZ
  have HP := Lib.hid hp; clear hp
  go_enter Tryz.func71, Tryz.ntmps71
  go_wp2_with (at_make; refine makeI rfl (.tmp 18) (.tmp 20) rfl w.heap.size nb (nb + 1) _ _ rfl rfl rfl (by omega) (by omega) (by omega) (Nat.le_refl _) ?_; intro w0 hown0 hb0 hsz0)
  have hlt0 := hown0.lt.2
  go_loopw [11, 23] (fun cc i wr => ∃ (k : Nat) (c' : Int) (rs : List Int), k ≤ nb ∧ i = .int .i64 k ∧ cc = .int .i64 c' ∧ -8796093022208 ≤ c' ∧ c' ≤ 8796093022208 ∧ Hid (rs.length = nb) ∧ OwnI wr w.heap.size (.slice (some ⟨w.heap.size, 0, none⟩) nb (nb + 1)) rs ∧ Dig (rs.take k) ∧ Hid (nv (rs.take k) + pw k * c' = x * nv (la.take k) + y * nv (lb.take k)) ∧ Below w.heap.size w wr) (fun _ i _ => nb - (intOf i).toNat)
  case atStart => exact ⟨0, 0, List.replicate nb 0, Nat.zero_le _, rfl, rfl, by omega, by omega, Lib.hid (by simp), hown0, Dig.nil, Lib.hid (by simp [nv]), hb0⟩
  case round =>
    obtain ⟨k, c', rs, hk, rfl, rfl, h0, h1, hrl, hown, hdg, hv, hb⟩ := hrel
    have hs := hb.size
    by_cases hlt : k < nb
    · have hda1 := hda.getD' k
      have hdb1 := hdb.getD' k
      have hca : k < na → ∃ b off, Aa = some ⟨b, off, none⟩ ∧ wr.cell? ⟨b, off + k, none⟩ = some (.int .i64 (la.getD k 0)) := fun h => by
        obtain ⟨b, off, hA, hbB, hc⟩ := hIa k (by omega)
        exact ⟨b, off, hA, (hb.cell (p := ⟨b, off + k, none⟩) hbB).trans hc⟩
      have hcb : k < nb → ∃ b off, Ab = some ⟨b, off, none⟩ ∧ wr.cell? ⟨b, off + k, none⟩ = some (.int .i64 (lb.getD k 0)) := fun h => by
        obtain ⟨b, off, hA, hbB, hc⟩ := hIb k (by omega)
        exact ⟨b, off, hA, (hb.cell (p := ⟨b, off + k, none⟩) hbB).trans hc⟩
      have hza' : na ≤ k → la.getD k 0 = 0 := fun h => getD_out (by omega)
      have hzb' : nb ≤ k → lb.getD k 0 = 0 := fun h => getD_out (by omega)
      have hstep := fun u => comb_step (P := pw k) (a := la.getD k 0) (b := lb.getD k 0) (u := u) hv.out
      rw [← nv_take_succ', ← nv_take_succ'] at hstep
      obtain ⟨da, hdda⟩ : ∃ d, la.getD k 0 = d := ⟨_, rfl⟩
      obtain ⟨db, hddb⟩ : ∃ d, lb.getD k 0 = d := ⟨_, rfl⟩
      rw [hdda] at hca hda1 hza' hstep
      rw [hddb] at hcb hdb1 hzb' hstep
      clear hdda hddb
      have hma := mul_bd (x := x) (d := da) (M := 2199023255552) hx0 hx1 hda1.1 (by omega) (by omega)
      have hmb := mul_bd (x := y) (d := db) (M := 2199023255552) hy0 hy1 hdb1.1 (by omega) (by omega)
      have hfc := hown.cell hrl.out hlt
      have hff := hown.frozen (k := k) hrl.out
      obtain ⟨u, hu⟩ : ∃ u, rs.getD k 0 = u := ⟨_, rfl⟩
      rw [hu] at hfc
      clear hu
      have HS := Lib.hid hstep; clear hstep
      have HZA := Lib.hid hza'; clear hza'
      have HZB := Lib.hid hzb'; clear hzb'
      have key : ∀ t : Int, t = c' + x * da + y * db → OwnI (wr.setCell ⟨w.heap.size, k, none⟩ (.int .i64 (bits BinOp.and IntKind.i64 t 1048575))) w.heap.size (.slice (some ⟨w.heap.size, 0, none⟩) nb (nb + 1)) (rs.set k (t % 1048576)) ∧ Dig ((rs.set k (t % 1048576)).take (k + 1)) ∧ nv ((rs.set k (t % 1048576)).take (k + 1)) + pw (k + 1) * (t / 1048576) = x * nv (la.take (k + 1)) + y * nv (lb.take (k + 1)) ∧ Below w.heap.size w (wr.setCell ⟨w.heap.size, k, none⟩ (.int .i64 (bits BinOp.and IntKind.i64 t 1048575))) := by
        intro t ht
        have hkl : (rs.take k).length = k := by rw [List.length_take, hrl.out]; omega
        refine ⟨by rw [and_low]; exact hown.store hrl.out k _, ?_, ?_, hb.setCell (p := ⟨w.heap.size, k, none⟩) (Nat.le_refl _) _⟩
        · rw [take_set_succ (by rw [hrl.out]; exact hlt)]; exact hdg.snoc (by omega) (by omega)
        · rw [take_set_succ (by rw [hrl.out]; exact hlt), nv_snoc, hkl, pw_succ]
          exact HS.out t ht
      have KEY := Lib.hid key; clear key
      by_cases hka : k < na
      · obtain ⟨b1, off1, hA1, hc1⟩ := hca hka
        subst hA1
        clear hca
        by_cases hkb : k < nb
        · obtain ⟨b2, off2, hA2, hc2⟩ := hcb hkb
          subst hA2
          clear hcb
          go_wp2_with fail
          go_roundw
          case rel =>
            obtain ⟨k1, k2, k3, k4⟩ := KEY.out (c' + x * da + y * db) rfl
            exact ⟨k + 1, _, _, by omega, by go_num, rfl, by omega, by omega, Lib.hid (by simp [hrl.out]), k1, k2, Lib.hid k3, k4⟩
          case measure => simp [intOf]; omega
        · omega
      · clear hca
        by_cases hkb : k < nb
        · obtain ⟨b2, off2, hA2, hc2⟩ := hcb hkb
          subst hA2
          clear hcb
          go_wp2_with fail
          go_roundw
          case rel =>
            obtain ⟨k1, k2, k3, k4⟩ := KEY.out (c' + y * db) (by rw [HZA.out (by omega)]; simp)
            exact ⟨k + 1, _, _, by omega, by go_num, rfl, by omega, by omega, Lib.hid (by simp [hrl.out]), k1, k2, Lib.hid k3, k4⟩
          case measure => simp [intOf]; omega
        · omega
    · have hkn : k = nb := by omega
      subst hkn
      have hv' := hv.out
      rw [List.take_of_length_le (Nat.le_of_eq hrl.out), List.take_of_length_le (l := la) (by omega), List.take_of_length_le (l := lb) (by omega)] at hv'
      rw [List.take_of_length_le (Nat.le_of_eq hrl.out)] at hdg
      have hv2 : nv rs + pw rs.length * c' = x * nv la + y * nv lb := by rw [hrl.out]; exact hv'
      have hc0 : 0 ≤ c' := by
        have h1 := HP.out
        rw [← hv2] at h1
        have h2 := hdg.nv_lt
        rcases Int.lt_or_le c' 0 with h | h
        · have h3 : pw rs.length * c' ≤ pw rs.length * (-1) := Int.mul_le_mul_of_nonneg_left (by omega) (by have := pw_pos rs.length; omega)
          omega
        · exact h
      have HV := Lib.hid hv2; clear hv2 hv'
      go_wp2_with fail
      refine (carried_any rs c' _ _ w.heap.size hown hdg hs hc0 (by omega) (by rw [HV.out]; exact HZ.out) (by rw [hrl.out]; omega)).mono ?_
      rintro e w1 ⟨v1, rfl, hown1, hb1⟩
      go_wp2_with fail
      go_ret
      exact ⟨_, rfl, by rw [← HV.out]; exact hown1, hb.trans hb1⟩

set_option maxRecDepth 100000 in
set_option maxHeartbeats 1000000 in
theorem combine_ge (la lb : List Int) (Aa Ab : Option Addr) (ca cb : Nat) (x y : Int) (w : World) (hIa : IntsAt w.heap.size w Aa la) (hIb : IntsAt w.heap.size w Ab lb) (hda : Dig la) (hdb : Dig lb) (hla : la.length ≤ 200) (hlb : lb.length ≤ 200)
    (hx0 : -2199023255552 ≤ x) (hx1 : x ≤ 2199023255552) (hy0 : -2199023255552 ≤ y) (hy1 : y ≤ 2199023255552) (hp : 0 ≤ x * nv la + y * nv lb) (hle : lb.length ≤ la.length) :
    Calls Tryz.prog 71 #[.slice Aa la.length ca, .int .i64 x, .slice Ab lb.length cb, .int .i64 y] w fun e w' => ∃ v', e = .returned v' ∧ OwnI w' w.heap.size v' (D (x * nv la + y * nv lb)) ∧ Below w.heap.size w w' := by
  obtain ⟨na, hna⟩ : ∃ n, la.length = n := ⟨_, rfl⟩
  obtain ⟨nb, hnb⟩ : ∃ n, lb.length = n := ⟨_, rfl⟩
  have hza : la.length ≤ na ∧ na ≤ la.length := by omega
  have hzb : lb.length ≤ nb ∧ nb ≤ lb.length := by omega
  have hZ := comb_bd hda hdb hla hlb hx1 hy1
  rw [hna] at hla ⊢
  rw [hnb] at hlb ⊢
  rw [hna, hnb] at hle
  have HNA := Lib.hid hna; clear hna
  have HNB := Lib.hid hnb; clear hnb
  have HZ := Lib.hid hZ; clear hZ
  have HP := Lib.hid hp; clear hp
  go_enter Tryz.func71, Tryz.ntmps71
  go_wp2_with (at_make; refine makeI rfl (.tmp 18) (.tmp 20) rfl w.heap.size na (na + 1) _ _ rfl rfl rfl (by omega) (by omega) (by omega) (Nat.le_refl _) ?_; intro w0 hown0 hb0 hsz0)
  have hlt0 := hown0.lt.2
  go_loopw [11, 23] (fun cc i wr => ∃ (k : Nat) (c' : Int) (rs : List Int), k ≤ na ∧ i = .int .i64 k ∧ cc = .int .i64 c' ∧ -8796093022208 ≤ c' ∧ c' ≤ 8796093022208 ∧ Hid (rs.length = na) ∧ OwnI wr w.heap.size (.slice (some ⟨w.heap.size, 0, none⟩) na (na + 1)) rs ∧ Dig (rs.take k) ∧ Hid (nv (rs.take k) + pw k * c' = x * nv (la.take k) + y * nv (lb.take k)) ∧ Below w.heap.size w wr) (fun _ i _ => na - (intOf i).toNat)
  case atStart => exact ⟨0, 0, List.replicate na 0, Nat.zero_le _, rfl, rfl, by omega, by omega, Lib.hid (by simp), hown0, Dig.nil, Lib.hid (by simp [nv]), hb0⟩
  case round =>
    obtain ⟨k, c', rs, hk, rfl, rfl, h0, h1, hrl, hown, hdg, hv, hb⟩ := hrel
    have hs := hb.size
    by_cases hlt : k < na
    · have hda1 := hda.getD' k
      have hdb1 := hdb.getD' k
      have hca : k < na → ∃ b off, Aa = some ⟨b, off, none⟩ ∧ wr.cell? ⟨b, off + k, none⟩ = some (.int .i64 (la.getD k 0)) := fun h => by
        obtain ⟨b, off, hA, hbB, hc⟩ := hIa k (by omega)
        exact ⟨b, off, hA, (hb.cell (p := ⟨b, off + k, none⟩) hbB).trans hc⟩
      have hcb : k < nb → ∃ b off, Ab = some ⟨b, off, none⟩ ∧ wr.cell? ⟨b, off + k, none⟩ = some (.int .i64 (lb.getD k 0)) := fun h => by
        obtain ⟨b, off, hA, hbB, hc⟩ := hIb k (by omega)
        exact ⟨b, off, hA, (hb.cell (p := ⟨b, off + k, none⟩) hbB).trans hc⟩
      have hza' : na ≤ k → la.getD k 0 = 0 := fun h => getD_out (by omega)
      have hzb' : nb ≤ k → lb.getD k 0 = 0 := fun h => getD_out (by omega)
      have hstep := fun u => comb_step (P := pw k) (a := la.getD k 0) (b := lb.getD k 0) (u := u) hv.out
      rw [← nv_take_succ', ← nv_take_succ'] at hstep
      obtain ⟨da, hdda⟩ : ∃ d, la.getD k 0 = d := ⟨_, rfl⟩
      obtain ⟨db, hddb⟩ : ∃ d, lb.getD k 0 = d := ⟨_, rfl⟩
      rw [hdda] at hca hda1 hza' hstep
      rw [hddb] at hcb hdb1 hzb' hstep
      clear hdda hddb
      have hma := mul_bd (x := x) (d := da) (M := 2199023255552) hx0 hx1 hda1.1 (by omega) (by omega)
      have hmb := mul_bd (x := y) (d := db) (M := 2199023255552) hy0 hy1 hdb1.1 (by omega) (by omega)
      have hfc := hown.cell hrl.out hlt
      have hff := hown.frozen (k := k) hrl.out
      obtain ⟨u, hu⟩ : ∃ u, rs.getD k 0 = u := ⟨_, rfl⟩
      rw [hu] at hfc
      clear hu
      have HS := Lib.hid hstep; clear hstep
      have HZA := Lib.hid hza'; clear hza'
      have HZB := Lib.hid hzb'; clear hzb'
      have key : ∀ t : Int, t = c' + x * da + y * db → OwnI (wr.setCell ⟨w.heap.size, k, none⟩ (.int .i64 (bits BinOp.and IntKind.i64 t 1048575))) w.heap.size (.slice (some ⟨w.heap.size, 0, none⟩) na (na + 1)) (rs.set k (t % 1048576)) ∧ Dig ((rs.set k (t % 1048576)).take (k + 1)) ∧ nv ((rs.set k (t % 1048576)).take (k + 1)) + pw (k + 1) * (t / 1048576) = x * nv (la.take (k + 1)) + y * nv (lb.take (k + 1)) ∧ Below w.heap.size w (wr.setCell ⟨w.heap.size, k, none⟩ (.int .i64 (bits BinOp.and IntKind.i64 t 1048575))) := by
        intro t ht
        have hkl : (rs.take k).length = k := by rw [List.length_take, hrl.out]; omega
        refine ⟨by rw [and_low]; exact hown.store hrl.out k _, ?_, ?_, hb.setCell (p := ⟨w.heap.size, k, none⟩) (Nat.le_refl _) _⟩
        · rw [take_set_succ (by rw [hrl.out]; exact hlt)]; exact hdg.snoc (by omega) (by omega)
        · rw [take_set_succ (by rw [hrl.out]; exact hlt), nv_snoc, hkl, pw_succ]
          exact HS.out t ht
      have KEY := Lib.hid key; clear key
      by_cases hka : k < na
      · obtain ⟨b1, off1, hA1, hc1⟩ := hca hka
        subst hA1
        clear hca
        by_cases hkb : k < nb
        · obtain ⟨b2, off2, hA2, hc2⟩ := hcb hkb
          subst hA2
          clear hcb
          go_wp2_with fail
          go_roundw
          case rel =>
            obtain ⟨k1, k2, k3, k4⟩ := KEY.out (c' + x * da + y * db) rfl
            exact ⟨k + 1, _, _, by omega, by go_num, rfl, by omega, by omega, Lib.hid (by simp [hrl.out]), k1, k2, Lib.hid k3, k4⟩
          case measure => simp [intOf]; omega
        · clear hcb
          go_wp2_with fail
          go_roundw
          case rel =>
            obtain ⟨k1, k2, k3, k4⟩ := KEY.out (c' + x * da) (by rw [HZB.out (by omega)]; simp)
            exact ⟨k + 1, _, _, by omega, by go_num, rfl, by omega, by omega, Lib.hid (by simp [hrl.out]), k1, k2, Lib.hid k3, k4⟩
          case measure => simp [intOf]; omega
      · omega
    · have hkn : k = na := by omega
      subst hkn
      have hv' := hv.out
      rw [List.take_of_length_le (Nat.le_of_eq hrl.out), List.take_of_length_le (l := la) (by omega), List.take_of_length_le (l := lb) (by omega)] at hv'
      rw [List.take_of_length_le (Nat.le_of_eq hrl.out)] at hdg
      have hv2 : nv rs + pw rs.length * c' = x * nv la + y * nv lb := by rw [hrl.out]; exact hv'
      have hc0 : 0 ≤ c' := by
        have h1 := HP.out
        rw [← hv2] at h1
        have h2 := hdg.nv_lt
        rcases Int.lt_or_le c' 0 with h | h
        · have h3 : pw rs.length * c' ≤ pw rs.length * (-1) := Int.mul_le_mul_of_nonneg_left (by omega) (by have := pw_pos rs.length; omega)
          omega
        · exact h
      have HV := Lib.hid hv2; clear hv2 hv'
      go_wp2_with fail
      refine (carried_any rs c' _ _ w.heap.size hown hdg hs hc0 (by omega) (by rw [HV.out]; exact HZ.out) (by rw [hrl.out]; omega)).mono ?_
      rintro e w1 ⟨v1, rfl, hown1, hb1⟩
      go_wp2_with fail
      go_ret
      exact ⟨_, rfl, by rw [← HV.out]; exact hown1, hb.trans hb1⟩

theorem combine_any (la lb : List Int) (Aa Ab : Option Addr) (ca cb : Nat) (x y : Int) (w : World) (hIa : IntsAt w.heap.size w Aa la) (hIb : IntsAt w.heap.size w Ab lb) (hda : Dig la) (hdb : Dig lb) (hla : la.length ≤ 200) (hlb : lb.length ≤ 200)
    (hx0 : -2199023255552 ≤ x) (hx1 : x ≤ 2199023255552) (hy0 : -2199023255552 ≤ y) (hy1 : y ≤ 2199023255552) (hp : 0 ≤ x * nv la + y * nv lb) :
    Calls Tryz.prog 71 #[.slice Aa la.length ca, .int .i64 x, .slice Ab lb.length cb, .int .i64 y] w fun e w' => ∃ v', e = .returned v' ∧ OwnI w' w.heap.size v' (D (x * nv la + y * nv lb)) ∧ Below w.heap.size w w' := by
  rcases Nat.lt_or_ge la.length lb.length with h | h
  · exact combine_lt la lb Aa Ab ca cb x y w hIa hIb hda hdb hla hlb hx0 hx1 hy0 hy1 hp h
  · exact combine_ge la lb Aa Ab ca cb x y w hIa hIb hda hdb hla hlb hx0 hx1 hy0 hy1 hp h

end Go.Proofs.YtkjpfnbdlbnbkaaGreatDoor
