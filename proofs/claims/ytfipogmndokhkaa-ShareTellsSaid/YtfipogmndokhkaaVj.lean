/- Walks: the reference's Join and Fits; both sides agree. -/
import Derived.Test.YtfipogmndokhkaaVi
import Derived.Test.YtfipogmndokhkaaUl
namespace Go.Proofs.Ytfipogmndokhkaa
open Go.RowKit

section
variable (ds : List (Int × Int)) (A : Option Addr) (n c : Nat) (w : World)
set_option maxRecDepth 100000 in
set_option maxHeartbeats 4000000 in
theorem rjoin_wrong (k r : Int) (hr : r = 1 ∨ r = 5) (hW : Calls Try.prog 25 #[.slice A n c, .int .i64 k] w fun e w' => e = .returned (.int .i64 r) ∧ Below w.heap.size w w') :
    Calls Try.prog 11 #[.slice A n c, .int .i64 k] w fun e w' => e = .returned (.tuple #[.int .i64 0, .int .i64 r]) ∧ Below w.heap.size w w' := by
  have HW := Lib.hid hW; clear hW
  rcases hr with rfl | rfl
  all_goals
    go_enter Try.func11, Try.ntmps11
    go_wp2_with fail
    refine HW.out.mono ?_
    rintro e w1 ⟨rfl, hb⟩
    go_wp2_with fail
    go_ret2
    exact ⟨rfl, hb⟩
set_option maxRecDepth 100000 in
set_option maxHeartbeats 4000000 in
theorem rjoin_few (k : Nat) (hn : n < k) (hW : Calls Try.prog 25 #[.slice A n c, .int .i64 k] w fun e w' => e = .returned (.int .i64 0) ∧ Below w.heap.size w w') :
    Calls Try.prog 11 #[.slice A n c, .int .i64 k] w fun e w' => e = .returned (.tuple #[.int .i64 0, .int .i64 21]) ∧ Below w.heap.size w w' := by
  have HW := Lib.hid hW; clear hW
  go_enter Try.func11, Try.ntmps11
  go_wp2_with fail
  refine HW.out.mono ?_
  rintro e w1 ⟨rfl, hb⟩
  go_wp2_with fail
  go_ret2
  exact ⟨rfl, hb⟩
set_option maxRecDepth 100000 in
set_option maxHeartbeats 4000000 in
theorem rjoin_on (k : Nat) (hn : k ≤ n) (z e' : Int) (b : Bool) (hb : (b = true ∧ e' = 0) ∨ (b = false ∧ e' = 23 ∧ z = 0)) (hW : Calls Try.prog 25 #[.slice A n c, .int .i64 k] w fun e w' => e = .returned (.int .i64 0) ∧ Below w.heap.size w w')
    (hO : ∀ w1, Below w.heap.size w w1 → Calls Try.prog 26 #[.slice A n c, .int .i64 k] w1 fun e w' => e = .returned (.tuple #[.int .i64 z, .bool b]) ∧ Below w1.heap.size w1 w') :
    Calls Try.prog 11 #[.slice A n c, .int .i64 k] w fun e w' => e = .returned (.tuple #[.int .i64 z, .int .i64 e']) ∧ Below w.heap.size w w' := by
  have HW := Lib.hid hW; clear hW
  have HO := Lib.hid hO; clear hO
  rcases hb with ⟨rfl, rfl⟩ | ⟨rfl, rfl, rfl⟩
  all_goals
    go_enter Try.func11, Try.ntmps11
    go_wp2_with fail
    refine HW.out.mono ?_
    rintro e w1 ⟨rfl, hb⟩
    go_wp2_with fail
    refine (HO.out _ hb).mono ?_
    rintro e w2 ⟨rfl, hb2⟩
    go_wp2_with fail
    go_ret2
    exact ⟨rfl, hb.trans (hb2.mono hb.size)⟩

set_option maxRecDepth 100000 in
set_option maxHeartbeats 4000000 in
theorem rfits_wrong (k r secret : Int) (hr : r = 1 ∨ r = 5) (hW : Calls Try.prog 25 #[.slice A n c, .int .i64 k] w fun e w' => e = .returned (.int .i64 r) ∧ Below w.heap.size w w') :
    Calls Try.prog 14 #[.slice A n c, .int .i64 k, .int .i64 secret] w fun e w' => e = .returned (.bool false) ∧ Below w.heap.size w w' := by
  have HW := Lib.hid hW; clear hW
  rcases hr with rfl | rfl
  all_goals
    go_enter Try.func14, Try.ntmps14
    go_wp2_with fail
    refine HW.out.mono ?_
    rintro e w1 ⟨rfl, hb⟩
    go_wp2_with fail
    go_ret
    exact ⟨rfl, hb⟩
set_option maxRecDepth 100000 in
set_option maxHeartbeats 4000000 in
theorem rfits_out (k secret : Int) (hs : secret < 0 ∨ 2147483647 ≤ secret) (hW : Calls Try.prog 25 #[.slice A n c, .int .i64 k] w fun e w' => e = .returned (.int .i64 0) ∧ Below w.heap.size w w') :
    Calls Try.prog 14 #[.slice A n c, .int .i64 k, .int .i64 secret] w fun e w' => e = .returned (.bool false) ∧ Below w.heap.size w w' := by
  have HW := Lib.hid hW; clear hW
  by_cases h1 : secret < 0
  · clear hs
    go_enter Try.func14, Try.ntmps14
    go_wp2_with fail
    refine HW.out.mono ?_
    rintro e w1 ⟨rfl, hb⟩
    go_wp2_with fail
    go_ret
    exact ⟨rfl, hb⟩
  · have h2 : 2147483647 ≤ secret := by omega
    clear hs
    go_enter Try.func14, Try.ntmps14
    go_wp2_with fail
    refine HW.out.mono ?_
    rintro e w1 ⟨rfl, hb⟩
    go_wp2_with fail
    go_ret
    exact ⟨rfl, hb⟩

theorem ownLit (w : World) {B : Nat} (hB : B ≤ w.heap.size) (x y : Int) : OwnS (w.alloc (.cells #[.int .i64 x, .int .i64 y] 39)) B (.slice (some ⟨w.heap.size, 0, none⟩) 1 1) [(x, y)] :=
  World.ownsRow_lit (e := 39) (size := 2) (base := B) w #[.int .i64 x, .int .i64 y] 1 hB (by unfold maxLen; omega) (by rfl)

set_option maxRecDepth 100000 in
set_option maxHeartbeats 4000000 in
theorem rfits_on (k : Nat) (secret : Int) (hS : ShAt w.heap.size w A ds) (hn : ds.length = n) (hl : n ≤ 900) (h1 : 1 ≤ k) (h2 : k ≤ 20) (h3 : 0 ≤ secret) (h4 : secret < 2147483647) (hr : Rt ds) (hnd : (ds.map (·.1)).Nodup) (b : Bool) (hb : b = true ↔ OnP ((0, secret) :: ds) k)
    (hW : Calls Try.prog 25 #[.slice A n c, .int .i64 k] w fun e w' => e = .returned (.int .i64 0) ∧ Below w.heap.size w w') :
    Calls Try.prog 14 #[.slice A n c, .int .i64 k, .int .i64 secret] w fun e w' => e = .returned (.bool b) ∧ Below w.heap.size w w' := by
  have hfd := fd_cons ds h3 h4 hr
  have hO : ∀ (w1 : World) (v : Value), OwnS w1 w.heap.size v ((0, secret) :: ds) → Calls Try.prog 26 #[v, .int .i64 k] w1 fun e w' => ∃ z : Int, e = .returned (.tuple #[.int .i64 z, .bool b]) ∧ Below w1.heap.size w1 w' := fun w1 v ho => by
    obtain ⟨A', c', rfl, hc1, hc2, hS'⟩ := ho.at_
    refine (ron_any _ A' _ c' k w1 hS' rfl (by simp; omega) hc1 hc2 hfd (apart_of hfd (nodup_cons ds hr hnd)) h1 h2 b hb).mono ?_
    rintro e w' ⟨z, rfl, _, _, hb'⟩
    exact ⟨z, rfl, hb'⟩
  have HO := Lib.hid hO; clear hO
  have HW := Lib.hid hW; clear hW
  have HS := Lib.hid hS; clear hS
  have HN := Lib.hid hn; clear hn
  clear hr hnd hb hfd
  have hlen : ([(0, secret)] : List (Int × Int)).length + n ≤ 1000000 := by simp; omega
  have HLEN := Lib.hid hlen; clear hlen
  go_enter Try.func14, Try.ntmps14
  go_wp2_with fail
  refine HW.out.mono ?_
  rintro e w1 ⟨rfl, hb1⟩
  have hs1 := hb1.size
  have hol := ownLit w1 (B := w.heap.size) hs1 0 secret
  have hba := hb1.alloc hs1 (.cells #[.int .i64 0, .int .i64 secret] 39)
  have HOL := Lib.hid (And.intro hol hba); clear hol hba
  go_wp2_with (at_builtin; refine appS rfl (.tmp 24) (.tmp 25) rfl w.heap.size _ [(0, secret)] ds A n c rfl HOL.out.1 rfl HN.out ((HS.out.below HOL.out.2).more HOL.out.2.size) HLEN.out HOL.out.2.size ?_; intro v2 w2 hown2 hg2; have hb2 := grown_bel HOL.out.2 HOL.out.1 hg2 (Nat.le_refl _))
  refine (HO.out _ _ hown2).mono ?_
  rintro e w3 ⟨z, rfl, hb3⟩
  have hB3 := hb2.trans (hb3.mono hb2.size)
  clear hown2 hg2
  go_wp2_with fail
  go_ret
  exact ⟨rfl, hB3⟩

theorem wrong_at (k : Int) (hS : ShAt w.heap.size w A ds) (hn : ds.length = n) (hl : n ≤ 900) : ∃ r : Int, ((r = 1 ∧ (k < 1 ∨ 20 < k ∨ ¬ Rt ds)) ∨ (1 ≤ k ∧ k ≤ 20 ∧ Rt ds ∧ ((r = 5 ∧ ¬ (ds.map (·.1)).Nodup) ∨ (r = 0 ∧ (ds.map (·.1)).Nodup)))) ∧
    ∀ w1, Below w.heap.size w w1 → Calls Try.prog 25 #[.slice A n c, .int .i64 k] w1 fun e w' => e = .returned (.int .i64 r) ∧ Below w1.heap.size w1 w' := by
  subst hn
  by_cases hk : k < 1 ∨ 20 < k
  · refine ⟨1, .inl ⟨rfl, ?_⟩, fun w1 _ => wrong_num ds A c k w1 hk⟩
    rcases hk with h | h
    · exact .inl h
    · exact .inr (.inl h)
  · have h1 : 1 ≤ k := by omega
    have h2 : k ≤ 20 := by omega
    by_cases hr : Rt ds
    · by_cases hn : (ds.map (·.1)).Nodup
      · exact ⟨0, .inr ⟨h1, h2, hr, .inr ⟨rfl, hn⟩⟩, fun w1 hb => wrong_any ds A c k w1 ((hS.below hb).more hb.size) (by omega) h1 h2 0 (.inr (.inr ⟨hr, hn, rfl⟩))⟩
      · exact ⟨5, .inr ⟨h1, h2, hr, .inl ⟨rfl, hn⟩⟩, fun w1 hb => wrong_any ds A c k w1 ((hS.below hb).more hb.size) (by omega) h1 h2 5 (.inr (.inl ⟨hr, hn, rfl⟩))⟩
    · exact ⟨1, .inl ⟨rfl, .inr (.inr hr)⟩, fun w1 hb => wrong_any ds A c k w1 ((hS.below hb).more hb.size) (by omega) h1 h2 1 (.inl ⟨hr, rfl⟩)⟩

theorem join_both (k : Int) (hS : ShAt w.heap.size w A ds) (hn : ds.length = n) (hl : n ≤ 900) (hnc : n ≤ c) (hcm : c ≤ 9223372036854775807) : ∃ z e' : Int,
    (∀ w1, Below w.heap.size w w1 → Calls Try.prog 10 #[.slice A n c, .int .i64 k] w1 fun e w' => e = .returned (.tuple #[.int .i64 z, .int .i64 e']) ∧ Below w1.heap.size w1 w') ∧
    (∀ w1, Below w.heap.size w w1 → Calls Try.prog 11 #[.slice A n c, .int .i64 k] w1 fun e w' => e = .returned (.tuple #[.int .i64 z, .int .i64 e']) ∧ Below w1.heap.size w1 w') := by
  obtain ⟨r, hr, hW⟩ := wrong_at ds A n c w k hS hn hl
  subst hn
  have hSb : ∀ w1, Below w.heap.size w w1 → ShAt w1.heap.size w1 A ds := fun w1 hb => (hS.below hb).more hb.size
  rcases hr with ⟨rfl, hbad⟩ | ⟨h1, h2, hrt, ⟨rfl, hnd⟩ | ⟨rfl, hnd⟩⟩
  · exact ⟨0, 1, fun w1 hb => join_arg ds A c w1 k (hSb w1 hb) (by omega) hbad, fun w1 hb => rjoin_wrong A _ c w1 k 1 (.inl rfl) (hW w1 hb)⟩
  · exact ⟨0, 5, fun w1 hb => join_twice ds A c w1 k (hSb w1 hb) (by omega) h1 h2 hrt hnd, fun w1 hb => rjoin_wrong A _ c w1 k 5 (.inr rfl) (hW w1 hb)⟩
  · obtain ⟨q, rfl⟩ : ∃ q : Nat, k = (q : Int) := ⟨k.toNat, by omega⟩
    by_cases hf : ds.length < q
    · exact ⟨0, 21, fun w1 hb => join_few ds A c w1 q (hSb w1 hb) (by omega) (by omega) (by omega) hrt hnd hf, fun w1 hb => rjoin_few A _ c w1 q hf (hW w1 hb)⟩
    · by_cases hon : OnP ds q
      · obtain ⟨f, hp, ht⟩ := hon
        refine ⟨f 0 % 2147483647, 0, fun w1 hb => join_ok ds A c w1 q (hSb w1 hb) (by omega) hnc hcm (by omega) (by omega) hrt hnd (by omega) f hp ht, fun w1 hb => ?_⟩
        refine rjoin_on A _ c w1 q (by omega) (f 0 % 2147483647) 0 true (.inl ⟨rfl, rfl⟩) (hW w1 hb) fun w2 hb2 => ?_
        have hb02 := hb.trans (hb2.mono hb.size)
        refine (ron_any ds A _ c q w2 (hSb w2 hb02) rfl (by omega) hnc hcm hrt.fd (apart_of hrt.fd hnd) (by omega) (by omega) true (by simp; exact ⟨f, hp, ht⟩)).mono ?_
        rintro e w' ⟨z, rfl, hz, _, hb'⟩
        exact ⟨by rw [hz rfl (by omega) f hp ht], hb'⟩
      · refine ⟨0, 23, fun w1 hb => join_check ds A c w1 q (hSb w1 hb) (by omega) hnc hcm (by omega) (by omega) hrt hnd (by omega) hon, fun w1 hb => ?_⟩
        refine rjoin_on A _ c w1 q (by omega) 0 23 false (.inr ⟨rfl, rfl, rfl⟩) (hW w1 hb) fun w2 hb2 => ?_
        have hb02 := hb.trans (hb2.mono hb.size)
        refine (ron_any ds A _ c q w2 (hSb w2 hb02) rfl (by omega) hnc hcm hrt.fd (apart_of hrt.fd hnd) (by omega) (by omega) false (by simp; exact hon)).mono ?_
        rintro e w' ⟨z, rfl, _, hz, hb'⟩
        exact ⟨by rw [hz rfl], hb'⟩
theorem fits_both (k secret : Int) (hS : ShAt w.heap.size w A ds) (hn : ds.length = n) (hl : n ≤ 900) : ∃ b : Bool,
    (∀ w1, Below w.heap.size w w1 → Calls Try.prog 13 #[.slice A n c, .int .i64 k, .int .i64 secret] w1 fun e w' => e = .returned (.bool b) ∧ Below w1.heap.size w1 w') ∧
    (∀ w1, Below w.heap.size w w1 → Calls Try.prog 14 #[.slice A n c, .int .i64 k, .int .i64 secret] w1 fun e w' => e = .returned (.bool b) ∧ Below w1.heap.size w1 w') := by
  obtain ⟨r, hr, hW⟩ := wrong_at ds A n c w k hS hn hl
  subst hn
  have hSb : ∀ w1, Below w.heap.size w w1 → ShAt w1.heap.size w1 A ds := fun w1 hb => (hS.below hb).more hb.size
  rcases hr with ⟨rfl, hbad⟩ | ⟨h1, h2, hrt, ⟨rfl, hnd⟩ | ⟨rfl, hnd⟩⟩
  · refine ⟨false, fun w1 hb => fits_no ds A c w1 k secret (hSb w1 hb) (by omega) ?_, fun w1 hb => rfits_wrong A _ c w1 k 1 secret (.inl rfl) (hW w1 hb)⟩
    rcases hbad with h | h | h
    · exact .inl h
    · exact .inr (.inl h)
    · exact .inr (.inr (.inr (.inl h)))
  · exact ⟨false, fun w1 hb => fits_no ds A c w1 k secret (hSb w1 hb) (by omega) (.inr (.inr (.inr (.inr hnd)))), fun w1 hb => rfits_wrong A _ c w1 k 5 secret (.inr rfl) (hW w1 hb)⟩
  · by_cases hs : 0 ≤ secret ∧ secret < 2147483647
    · obtain ⟨q, rfl⟩ : ∃ q : Nat, k = (q : Int) := ⟨k.toNat, by omega⟩
      have hb : ∃ b : Bool, b = true ↔ OnP ((0, secret) :: ds) q := by
        by_cases h : OnP ((0, secret) :: ds) q
        · exact ⟨true, by simp [h]⟩
        · exact ⟨false, by simp [h]⟩
      obtain ⟨b, hb⟩ := hb
      exact ⟨b, fun w1 h => fits_good ds A c w1 q secret (hSb w1 h) hl (by omega) (by omega) hs.1 hs.2 hrt hnd b hb, fun w1 h => rfits_on ds A _ c w1 q secret (hSb w1 h) rfl hl (by omega) (by omega) hs.1 hs.2 hrt hnd b hb (hW w1 h)⟩
    · exact ⟨false, fun w1 hb => fits_no ds A c w1 k secret (hSb w1 hb) (by omega) (.inr (.inr (.inl hs))), fun w1 hb => rfits_out A _ c w1 k secret (by omega) (hW w1 hb)⟩
end

end Go.Proofs.Ytfipogmndokhkaa
