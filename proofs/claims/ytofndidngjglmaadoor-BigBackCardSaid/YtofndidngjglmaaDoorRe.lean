/- Walks: the law on texts, whole. -/
import Derived.Test.YtofndidngjglmaaDoorRha
import Derived.Test.YtofndidngjglmaaDoorRhb
import Derived.Test.YtofndidngjglmaaDoorRhc
namespace Go.Proofs.YtofndidngjglmaaDoor
open Go.RowKit

set_option maxRecDepth 100000 in
set_option maxHeartbeats 4000000 in
theorem back_long (s1 : Int) (l1 : List Int) (A1 : Option Addr) (n1 c1 : Nat) (S : ByteArray) (w : World) (h400 : ¬ S.size ≤ 400) (ht : TB w) (h1 : Ar w s1 l1 A1 n1 c1) :
    Calls Tryd.prog 8 #[.agg #[.int .i64 s1, .slice A1 n1 c1], .string S] w fun e w' => e = .returned (.bool true) ∧ Below w.heap.size w w' := by
  have HT := Lib.hid ht; clear ht
  have hlen : decide ((400 : Int) < (S.size : Int)) = true := by simp; omega
  clear h400
  go_enter Tryd.func8, Tryd.ntmps8
  go_wp2_with fail
  obtain ⟨W0, hW, hbx, q1⟩ := abox1 h1
  rw [← hW]
  clear hW h1 q1
  have hT := hbx
  (with_reducible refine (small_any _ (HT.out.below hT)).mono ?_)
  rintro e v0 ⟨rfl, hb⟩
  have hT := hT.trans (hb.mono hT.size)
  go_wp2_with fail
  go_ret
  exact ⟨rfl, hT⟩

theorem back_any (s1 : Int) (l1 : List Int) (A1 : Option Addr) (n1 c1 : Nat) (S : ByteArray) (w : World) (ht : TB w) (h1 : Ar w s1 l1 A1 n1 c1) :
    Calls Tryd.prog 8 #[.agg #[.int .i64 s1, .slice A1 n1 c1], .string S] w fun e w' => e = .returned (.bool true) ∧ Below w.heap.size w w' := by
  by_cases h400 : S.size ≤ 400
  · by_cases hz : ∃ z, bts S = Lib.itoa z
    · obtain ⟨z, hz⟩ := hz
      by_cases h6 : ab z < pw 60
      · exact back_a s1 l1 A1 n1 c1 S w h400 z hz h6 ht h1
      · exact back_b s1 l1 A1 n1 c1 S w h400 z hz h6 ht h1
    · exact back_c s1 l1 A1 n1 c1 S w h400 (fun z h => hz ⟨z, h⟩) ht h1
  · exact back_long s1 l1 A1 n1 c1 S w h400 ht h1

end Go.Proofs.YtofndidngjglmaaDoor
