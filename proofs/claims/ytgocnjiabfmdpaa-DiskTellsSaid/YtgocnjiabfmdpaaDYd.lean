/- The reference's Size, pending, Read. -/
import Derived.Test.YtgocnjiabfmdpaaDYc
import Derived.Lib.Strings
namespace Go.Proofs.Ytgocnjiabfmdpaa
set_option maxRecDepth 8000
open Go.RowKit

theorem ba_cut (x : List UInt8) (a b : Nat) : (ba x).extract a b = ba ((x.drop a).take (b - a)) := by
  rw [← ba_of ((ba x).extract a b), Go.Lib.extract_data, ba_toList]

theorem field1 (w : World) (a b c : Value) : (Instr.field 90 (.agg #[a, b, c]) 1).run Try.prog w = .ok b w := by kernel_rfl

set_option maxRecDepth 100000 in
set_option maxHeartbeats 1000000 in
theorem rsize_any {L : Lab} {w : World} {k d : Nat} {l : List Fl} {K : List Int} {s : St} (f : Int) (h : RAt L w k d l K s) :
    Calls Try.prog 18 #[.pointer (some ⟨d, 0, none⟩), .int .i64 f] w fun e w' => e = .returned (.int .i64 ((s.now f).length : Int)) ∧ Below w.heap.size w w' := by
  have hn : (getF l f).now = s.now f := by obtain ⟨fv, qv, kv, _, _, hb⟩ := h; exact (hb.2.2.2 f).1
  have hsz : (ba (getF l f).now).size = (s.now f).length := by rw [hn]; exact ba_size _
  have HS := Lib.hid hsz
  clear hsz hn
  go_enter Try.func18, Try.ntmps18
  go_wp2_with fail
  refine (rget_any f h).mono ?_
  rintro e w1 ⟨rfl, hb⟩
  unfold fval
  have hsz := HS.out
  have hfld := field1
  go_wp2_with fail
  go_ret
  exact ⟨rfl, hb⟩

theorem own_pairs {w : World} {v : Value} {l : List (Int × Int)} (h : w.ownsRow 0 107 2 v l.length (pc l)) : ∃ A c, v = .slice A l.length c ∧ l.length ≤ 9223372036854775807 ∧ ∀ j (hj : j < l.length), ∃ g, A = some ⟨g, 0, none⟩ ∧ g < w.heap.size ∧
    w.cell? ⟨g, j * 2, none⟩ = some (.int .i64 l[j].1) ∧ w.cell? ⟨g, j * 2 + 1, none⟩ = some (.int .i64 l[j].2) := by
  rcases own_form h with ⟨rfl, hz⟩ | ⟨g, c, rfl, hnc, hc1⟩
  · exact ⟨none, 0, by rw [hz], by omega, fun j hj => by omega⟩
  · refine ⟨_, c, rfl, by omega, fun j hj => ⟨g, rfl, ((h.lt) g rfl).2, ?_⟩⟩
    obtain ⟨f1, f2⟩ := pc_get l j hj
    have hc := h.cells (g := g) rfl
    have key : ∀ i u, (pc l)[i]? = some u → w.cell? ⟨g, i, none⟩ = some u := fun i u hu => by
      have := hc i u hu
      rwa [Go.WideShapes.add_plain, Nat.zero_add] at this
    exact ⟨by rw [Nat.mul_comm]; exact key _ _ f1, by rw [Nat.mul_comm]; exact key _ _ f2⟩

set_option maxRecDepth 100000 in
set_option maxHeartbeats 1000000 in
theorem rpending_any {L : Lab} {w : World} {k d : Nat} {l : List Fl} {K : List Int} {s : St} (f n : Int) (h : RAt L w k d l K s) (hi : ∀ f n, (f, n) ∈ s.pend ↔ s.sec f n = true) :
    Calls Try.prog 102 #[.pointer (some ⟨d, 0, none⟩), .int .i64 f, .int .i64 n] w fun e w' => e = .returned (.bool (s.sec f n)) ∧ w = w' := by
  obtain ⟨fv, qv, kv, hd, hb, hbody⟩ := h
  have c1 := blk_cell hb 1
  simp [rcells] at c1
  obtain ⟨A, c, rfl, hm, hcells⟩ := own_pairs hbody.2.1.1
  have HC := Lib.hid (And.intro hcells hi)
  clear hb hbody hcells hd hi
  go_enter Try.func102, Try.ntmps102
  go_wp2_with fail
  go_loop [7] (fun i => ∃ j : Nat, j ≤ s.pend.length ∧ i = .int .i64 j ∧ Hid (∀ i (hil : i < s.pend.length), i < j → s.pend[i] ≠ (f, n))) (fun i => s.pend.length - (intOf i).toNat)
  case atStart => exact ⟨0, Nat.zero_le _, rfl, fun i _ hi => by omega⟩
  case round =>
    obtain ⟨j, hj, rfl, HN⟩ := hrel
    by_cases hlt : j < s.pend.length
    · obtain ⟨g, rfl, lg, h1, h2⟩ := HC.out.1 j hlt
      obtain ⟨p, hp⟩ : ∃ p, s.pend[j] = p := ⟨_, rfl⟩
      rw [hp] at h1 h2
      have HP := Lib.hid hp
      clear hp
      have hnext : p ≠ (f, n) → Hid (∀ i (hil : i < s.pend.length), i < j + 1 → s.pend[i] ≠ (f, n)) := fun hne i hil hi => by
        by_cases hij : i = j
        · subst hij; rw [HP.out]; exact hne
        · exact HN.out i hil (by omega)
      by_cases h3 : p.1 = f
      · by_cases h4 : p.2 = n
        · have HR : Hid (s.sec f n = true) := show _ = _ by
            refine (HC.out.2 f n).1 ?_
            rw [← h3, ← h4]
            show p ∈ s.pend
            rw [← HP.out]; exact List.getElem_mem hlt
          clear hnext
          go_wp2_with fail
          go_ret
          rw [HR.out]
          exact ⟨rfl, rfl⟩
        · have HX := hnext (fun e => h4 (by rw [e]))
          clear hnext
          go_wp2_with fail
          go_round
          case rel => exact ⟨j + 1, by omega, by go_num, HX⟩
          case measure => simp [intOf]; omega
      · have HX := hnext (fun e => h3 (by rw [e]))
        clear hnext
        go_wp2_with fail
        go_round
        case rel => exact ⟨j + 1, by omega, by go_num, HX⟩
        case measure => simp [intOf]; omega
    · have HR : Hid (s.sec f n = false) := show _ = _ by
        cases hb : s.sec f n with
        | false => rfl
        | true =>
          obtain ⟨i, hil, he⟩ := List.getElem_of_mem ((HC.out.2 f n).2 hb)
          exact absurd he (HN.out i hil (by omega))
      go_wp2_with fail
      go_ret
      rw [HR.out]
      exact ⟨rfl, rfl⟩

set_option maxRecDepth 100000 in
set_option maxHeartbeats 1000000 in
theorem rread_any {L : Lab} {w : World} {k d : Nat} {l : List Fl} {K : List Int} {s : St} (f a z : Int) (h : RAt L w k d l K s) (hi : Inv s) (hz : z ≤ 9223372036854775807) :
    Calls Try.prog 22 #[.pointer (some ⟨d, 0, none⟩), .int .i64 f, .int .i64 a, .int .i64 z] w fun e w' => e = .returned (.tuple #[.string (ba (s.read f a z).1), .int .i64 (s.read f a z).2]) ∧ Below w.heap.size w w' := by
  have hn : (getF l f).now = s.now f := by obtain ⟨fv, qv, kv, _, _, hb⟩ := h; exact (hb.2.2.2 f).1
  have hcap := hi.cap f
  have hfld := field1
  by_cases hr : s.ready f = 0
  · have H : s.read f a z = if a < 0 ∨ z < 0 then ([], 1) else (part (s.now f) a z, 0) := by unfold St.read; rw [if_neg (fun hh => hh hr)]
    by_cases h1 : a < 0
    · have HR : Hid (s.read f a z = ([], 1)) := show _ = _ by rw [H, if_pos (Or.inl h1)]
      clear H hn hcap
      go_enter Try.func22, Try.ntmps22
      go_wp2_with fail
      refine (rmay_any f h).mono ?_
      rintro e w1 ⟨rfl, rfl⟩
      rw [hr]
      go_wp2_with fail
      go_ret2
      rw [HR.out]
      exact ⟨rfl, Below.refl _ _⟩
    · by_cases h2 : z < 0
      · have HR : Hid (s.read f a z = ([], 1)) := show _ = _ by rw [H, if_pos (Or.inr h2)]
        clear H hn hcap
        go_enter Try.func22, Try.ntmps22
        go_wp2_with fail
        refine (rmay_any f h).mono ?_
        rintro e w1 ⟨rfl, rfl⟩
        rw [hr]
        go_wp2_with fail
        go_ret2
        rw [HR.out]
        exact ⟨rfl, Below.refl _ _⟩
      · obtain ⟨x, hx⟩ : ∃ x, x = s.now f := ⟨_, rfl⟩
        obtain ⟨n, hnl⟩ : ∃ n, n = x.length := ⟨_, rfl⟩
        have hsz : (ba x).size = n := by rw [hnl]; exact ba_size x
        rw [← hx] at hn hcap
        rw [← hnl] at hcap
        have HR : Hid (s.read f a z = (part x a z, 0)) := show _ = _ by rw [H, if_neg (by omega), hx]
        clear H hx
        obtain ⟨a', rfl⟩ := Int.eq_ofNat_of_zero_le (show 0 ≤ a by omega)
        obtain ⟨z', rfl⟩ := Int.eq_ofNat_of_zero_le (show 0 ≤ z by omega)
        have HN := Lib.hid hn
        have HL := Lib.hid hnl
        clear hn hnl
        by_cases h3 : (n : Int) ≤ (a' : Int)
        · go_enter Try.func22, Try.ntmps22
          go_wp2_with fail
          refine (rmay_any f h).mono ?_
          rintro e w1 ⟨rfl, rfl⟩
          rw [hr]
          go_wp2_with fail
          refine (rget_any f h).mono ?_
          rintro e w1 ⟨rfl, hb⟩
          unfold fval
          rw [HN.out]
          go_wp2_with fail
          go_ret2
          rw [HR.out]
          refine ⟨?_, hb⟩
          unfold part
          rw [Int.toNat_natCast, List.drop_of_length_le (by rw [← HL.out]; omega)]
          simp [ba]
        · by_cases h4 : (z' : Int) ≤ (n : Int) - (a' : Int)
          · have hmin : min (z' : Int) ((n : Int) - a') = z' := by omega
            go_enter Try.func22, Try.ntmps22
            go_wp2_with fail
            refine (rmay_any f h).mono ?_
            rintro e w1 ⟨rfl, rfl⟩
            rw [hr]
            go_wp2_with fail
            refine (rget_any f h).mono ?_
            rintro e w1 ⟨rfl, hb⟩
            unfold fval
            rw [HN.out]
            go_wp2_with fail
            go_ret2
            rw [HR.out, ba_cut]
            refine ⟨?_, hb⟩
            unfold part
            rw [Int.toNat_natCast, Int.toNat_natCast, show a' + z' - a' = z' by omega]
            rfl
          · have hmin : min (z' : Int) ((n : Int) - a') = (n : Int) - a' := by omega
            go_enter Try.func22, Try.ntmps22
            go_wp2_with fail
            refine (rmay_any f h).mono ?_
            rintro e w1 ⟨rfl, rfl⟩
            rw [hr]
            go_wp2_with fail
            refine (rget_any f h).mono ?_
            rintro e w1 ⟨rfl, hb⟩
            unfold fval
            rw [HN.out]
            go_wp2_with fail
            go_ret2
            rw [HR.out, ba_cut]
            refine ⟨?_, hb⟩
            unfold part
            rw [Int.toNat_natCast, Int.toNat_natCast, List.take_of_length_le (by rw [List.length_drop, ← HL.out]; omega), List.take_of_length_le (by rw [List.length_drop, ← HL.out]; omega)]
            rfl
  · have HR : Hid (s.read f a z = ([], s.ready f)) := show _ = _ by unfold St.read; rw [if_pos hr]
    have hr2 : (s.ready f == 0) = false := beq_eq_false_iff_ne.2 hr
    clear hn hcap
    go_enter Try.func22, Try.ntmps22
    go_wp2_with fail
    refine (rmay_any f h).mono ?_
    rintro e w1 ⟨rfl, rfl⟩
    go_wp2_with fail
    go_ret2
    rw [HR.out]
    exact ⟨rfl, Below.refl _ _⟩

end Go.Proofs.Ytgocnjiabfmdpaa
