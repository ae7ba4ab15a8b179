/- Walks of wire's reader: lists of strings. -/
import Derived.Test.YtamjfnpgjcdepaaDc
namespace Go.Proofs.Ytamjfnpgjcdepaa
open Go.RowKit

/-- A string as a value. -/
def strV (l : List UInt8) : Value := .string (ba l)

theorem Try.info9 : (Try.prog.info? 9).map (fun i => (i.zero, i.size, i.bytes)) = some (some (.string ByteArray.empty), 1, 16) := by kernel_rfl

/-- A slice of strings that is owned from block B on. -/
def OwnS (w : World) (B : Nat) (v : Value) (l : List (List UInt8)) : Prop := w.ownsRow B 9 1 v l.length (l.map strV)
theorem OwnS.nil (w : World) (B : Nat) : OwnS w B (.slice none 0 0) [] := World.ownsRow_nil w B 9 1
theorem OwnS.keep {w w' : World} {B b : Nat} {v : Value} {l : List (List UInt8)} (h : OwnS w B v l) (hb : Keep b w w') (hlt : b < B) : OwnS w' B v l :=
  World.ownsRow.kept h hb (by
    rcases hv : v.ownBlock with _ | k
    · exact .inl rfl
    · refine .inr ?_
      have := (World.ownsRow.lt h k hv).1
      simp; omega)

theorem app1s {w : World} {ops : Array Oper} {rest : List Oper} {o : Oper} {a : Act} {Q : Exit → Act → World → Prop} (hgd : o.guard = none) (s x : Operand)
    (ho : o.op = .call { callee := .builtin .append, args := #[s, x], argTypes := #[23, 23] })
    (B : Nat) (v : Value) (l : List (List UInt8)) (c : List UInt8) (hs : a.eval s = v) (hown : OwnS w B v l)
    (hx : a.eval x = .slice (some ⟨w.heap.size, 0, none⟩) 1 1) (hb : l.length ≤ 10000000) (hbase : B ≤ w.heap.size)
    (h : ∀ v' w', OwnS w' B v' (l ++ [c]) → Below B w w' → wpList Try.prog ops Q rest (a.put o.dst v') w') : wpList Try.prog ops Q (o :: rest) a (w.alloc (.cells #[.string (ba c)] 9)) := by
  obtain ⟨i0, hi, hz0, hz1, hz2⟩ := info_parts Try.info9
  refine wpList_append_own _ hgd s x 23 ho B 9 i0 (.string ByteArray.empty) 1 16 Try.underlying23 hi hz0 hz1 hz2 rfl (by decide) _ _ _ hs (World.ownsRow.alloc hown _) ⟨w.heap.size, 0, none⟩ 1 1 [.string (ba c)] hx rfl ?_ ?_ ?_ ?_ ?_ ?_
  · intro j u hj; match j, hj with | 0, hj => simp at hj; subst hj; simp [Addr.add]
  · intro u hu; simp at hu; subst hu; rfl
  · unfold maxLen; omega
  · omega
  · simp; omega
  · intro v' w1 hown' hgrow _
    refine h v' w1 ?_ ?_
    · unfold OwnS
      rw [List.map_append, List.length_append]
      exact hown'
    · exact ((Below.refl B w).alloc hbase _).grown hgrow (by simp; omega) (fun k hk => (World.ownsRow.lt hown k hk).1)

/-- What a call that reads a list leaves. -/
def PostS (w : World) (b : Nat) (s : ByteArray) (x : Ending) (w' : World) : Prop :=
  match listP textP (bts s) with
  | some (xs, t) => ∃ v, x = .returned v ∧ OwnS w' w.heap.size v xs ∧ Rd w' b (ba t) false ∧ Keep b w w'
  | none => x = .returned (.slice none 0 0) ∧ Rd w' b (ba []) true ∧ Keep b w w'

set_option maxHeartbeats 2000000 in
theorem listS_any (b : Nat) (s : ByteArray) (f : Bool) (w : World) (h : Rd w b s f) (hf : f = true → s.size = 0) (hs : s.size ≤ 10000000) :
    Calls Try.prog 57 #[.pointer (some ⟨b, 0, none⟩), .func (.func 28) #[.pointer (some ⟨b, 0, none⟩)] #[]] w (PostS w b s) := by
  have hblt := h.lt
  cases hn : cntP (bts s) with
  | none =>
    have hp : listP textP (bts s) = none := by unfold listP; rw [hn]
    have hpost : ∀ x w', x = .returned (.slice none 0 0) → Rd w' b (ba []) true → Keep b w w' → PostS w b s x w' := by
      intro x w' h1 h2 h3; unfold PostS; rw [hp]; exact ⟨h1, h2, h3⟩
    have HP := Lib.hid hpost; clear hpost hp
    have HN := Lib.hid hn; clear hn
    go_enter Try.func57, Try.ntmps57
    go_wp2_with fail
    refine (digits_none b s f _ h (by omega) 9223372036854775807 (by omega) (by omega) 91 91 rfl HN.out).mono ?_
    rintro e w1 ⟨rfl, hr1, hk1⟩
    have c1 := hr1.cell0
    have te1 : (ba []).toList = [] := ByteArray.toList_eq _
    have te2 : (ba []).toList.isEmpty = true := by rw [te1]; rfl
    go_wp2_with fail
    go_loopw [11, 6] (fun i v wr => i = .int .u64 0 ∧ v = .slice none 0 0 ∧ wr = w1) (fun _ _ _ => 0)
    case atStart => exact ⟨rfl, rfl, rfl⟩
    case round =>
      obtain ⟨rfl, rfl, rfl⟩ := hrel
      go_wp2_with fail
      refine (fail_any b _ _ _ hr1).mono ?_
      rintro e w2 ⟨rfl, hr2, hk2⟩
      go_wp2_with fail
      go_ret
      exact HP.out _ _ rfl hr2 (hk1.trans hk2)
  | some x =>
    obtain ⟨n, r⟩ := x
    have hf' : f = false := by
      cases f with
      | false => rfl
      | true =>
        have := hf rfl
        have he : bts s = [] := List.eq_nil_of_length_eq_zero (by rw [bts_len]; exact this)
        rw [he, cntP_nil] at hn; cases hn
    subst hf'
    clear hf
    have hnm : n ≤ 9223372036854775807 := (digP_le hn).1
    have hrl := (digP_le hn).2
    rw [bts_len] at hrl
    have hp : listP textP (bts s) = match repP textP n r with
      | none => none
      | some (xs, t) => if t[0]? = some 93 then some (xs, t.drop 1) else none := by simp only [listP, hn]; rcases repP textP n r with _ | ⟨xs, t⟩ <;> rfl
    have hnone : (∀ xs t, repP textP n r = some (xs, t) → ¬ t[0]? = some 93) → ∀ x w', x = .returned (.slice none 0 0) → Rd w' b (ba []) true → Keep b w w' → PostS w b s x w' := by
      intro h0 x w' h1 h2 h3
      unfold PostS; rw [hp]
      cases hh : repP textP n r with
      | none => exact ⟨h1, h2, h3⟩
      | some y =>
        obtain ⟨xs, t⟩ := y
        simp only [if_neg (h0 xs t hh)]
        exact ⟨h1, h2, h3⟩
    have hsome : ∀ xs t, repP textP n r = some (xs, t) → t[0]? = some 93 → ∀ x w' v, x = .returned v → OwnS w' w.heap.size v xs → Rd w' b (ba (t.drop 1)) false → Keep b w w' → PostS w b s x w' := by
      intro xs t hh h93 x w' v h1 h2 h3 h4
      unfold PostS; rw [hp, hh]
      simp only [if_pos h93]
      exact ⟨v, h1, h2, h3, h4⟩
    have HNONE := Lib.hid hnone; clear hnone
    have HSOME := Lib.hid hsome; clear hsome
    clear hp
    have HN := Lib.hid hn; clear hn
    go_enter Try.func57, Try.ntmps57
    go_wp2_with fail
    refine (digits_some b s false _ h (by omega) 9223372036854775807 (by omega) (by omega) 91 91 rfl n r HN.out).mono ?_
    rintro e w1 ⟨rfl, hr1, hk1⟩
    go_wp2_with fail
    go_loopw [11, 6] (fun i v wr => ∃ k : Nat, k ≤ n ∧ i = .int .u64 k ∧ ∃ ys t, repP textP k r = some (ys, t) ∧ OwnS wr w.heap.size v ys ∧ Rd wr b (ba t) false ∧ Keep b w wr) (fun i _ _ => n - (intOf i).toNat)
    case atStart => exact ⟨0, Nat.zero_le _, rfl, [], r, rfl, OwnS.nil _ _, hr1, hk1⟩
    case round =>
      obtain ⟨k, hk, rfl, ys, t, hrep, hown, hrr, hkr⟩ := hrel
      have hsz := hkr.size
      obtain ⟨hl1, hl2⟩ := repP_len textP (fun _ _ _ h => by have := textP_len h; omega) k r ys t hrep
      have hbs : (ba t).size ≤ 10000000 := by rw [ba_size]; omega
      obtain ⟨T, hT⟩ : ∃ T, ba t = T := ⟨_, rfl⟩
      have hTt : t = bts T := by rw [← hT]; rfl
      subst hTt
      clear hT
      rw [ba_bts] at hrr hbs
      by_cases hkn : k < n
      · cases hi : textP (bts T) with
        | none =>
          have HNONE' := Lib.hid (HNONE.out (by
            intro xs t' hh
            exfalso
            have h1 := repP_mono textP (n := n) (l := r) (by rw [hh]; rfl) (k + 1) (by omega)
            rw [repP_succ, hrep] at h1
            simp only [hi] at h1
            cases h1))
          have HI := Lib.hid hi; clear hi
          have HREP := Lib.hid hrep; clear hrep
          go_wp2_with fail
          refine (text_none b T false _ hrr (by omega) HI.out).mono ?_
          rintro e w2 ⟨rfl, hr2, hk2⟩
          have c2 := hr2.cell1
          go_wp2_with fail
          go_ret
          exact HNONE'.out _ _ rfl hr2 (hkr.trans hk2)
        | some x =>
          obtain ⟨z, r'⟩ := x
          have hrep' : repP textP (k + 1) r = some (ys ++ [z], r') := by
            rw [repP_succ, hrep]; simp only [hi]
          have HI := Lib.hid hi; clear hi
          have HREP := Lib.hid hrep'; clear hrep hrep'
          go_wp2_with fail
          refine (text_some b T false _ hrr (by omega) z r' HI.out).mono ?_
          rintro e w2 ⟨rfl, hr2, hk2⟩
          have c2 := hr2.cell1
          have hs2 := hk2.size
          have hown2 := hown.keep hk2 hblt
          go_wp2_with (first
            | (at_builtin; refine app1s rfl (.tmp 19) (.tmp 21) rfl w.heap.size _ _ z rfl hown2 rfl (by omega) (by omega) ?_; intro v3 w3 hown3 hb3))
          go_roundw
          case rel => exact ⟨k + 1, by omega, by go_num, _, _, HREP.out, hown3, Below.rdB hb3 hblt hr2, Below.keepB (hkr.trans hk2) hb3⟩
          case measure => simp [intOf]; omega
      · obtain rfl : k = n := by omega
        by_cases h93 : (bts T)[0]? = some 93
        · have hT0 : 0 < T.size := by
            rcases Nat.eq_zero_or_pos T.size with h0 | h0
            · rw [List.getElem?_eq_none (by rw [bts_len]; omega)] at h93; cases h93
            · exact h0
          have b1 : (((T[0]'hT0).toNat : Int) != 93) = false := by
            rw [bt_get hT0] at h93
            rw [Option.some.inj h93]; rfl
          have te2 : T.toList.isEmpty = false := by
            rw [ByteArray.toList_eq]
            cases hh : T.data.toList with
            | nil => have := bts_len T; unfold bts at this; rw [hh] at this; simp at this; omega
            | cons _ _ => rfl
          have hc := hrr.cell0
          have hf0 := hrr.free 0
          have HS := Lib.hid (HSOME.out ys (bts T) hrep h93)
          have e2 : T.extract 1 T.size = ba ((bts T).drop 1) := extract_drop T 1
          have E2 := Lib.hid e2; clear e2
          have HREP := Lib.hid hrep; clear hrep h93
          go_wp2_with fail
          go_ret
          exact HS.out _ _ _ rfl (OwnS.keep hown ((Keep.refl b _).set 0 _) hblt) (by rw [← E2.out]; exact hrr.set0 _) (hkr.set 0 _)
        · have HN' := Lib.hid (HNONE.out (by
            intro xs t' hh
            rw [hrep] at hh
            simp only [Option.some.injEq, Prod.mk.injEq] at hh
            rw [← hh.2]; exact h93))
          have hc := hrr.cell0
          have HREP := Lib.hid hrep; clear hrep
          rcases Nat.eq_zero_or_pos T.size with h0 | h0
          · have te1 : T.toList = [] := by
              rw [ByteArray.toList_eq]
              exact List.eq_nil_of_length_eq_zero (by have := bts_len T; unfold bts at this; omega)
            have te2 : T.toList.isEmpty = true := by rw [te1]; rfl
            clear h93 h0
            go_wp2_with fail
            refine (fail_any b _ _ _ hrr).mono ?_
            rintro e w2 ⟨rfl, hr2, hk2⟩
            go_wp2_with fail
            go_ret
            exact HN'.out _ _ rfl hr2 (hkr.trans hk2)
          · have b1 : (((T[0]'h0).toNat : Int) != 93) = true := by
              rw [bne_iff_ne]
              intro hh
              apply h93
              rw [bt_get h0]
              congr 1
              apply UInt8.toNat_inj.1
              show _ = 93
              omega
            have te2 : T.toList.isEmpty = false := by
              rw [ByteArray.toList_eq]
              cases hh : T.data.toList with
              | nil => have := bts_len T; unfold bts at this; rw [hh] at this; simp at this; omega
              | cons _ _ => rfl
            clear h93
            go_wp2_with fail
            refine (fail_any b _ _ _ hrr).mono ?_
            rintro e w2 ⟨rfl, hr2, hk2⟩
            go_wp2_with fail
            go_ret
            exact HN'.out _ _ rfl hr2 (hkr.trans hk2)

end Go.Proofs.Ytamjfnpgjcdepaa
