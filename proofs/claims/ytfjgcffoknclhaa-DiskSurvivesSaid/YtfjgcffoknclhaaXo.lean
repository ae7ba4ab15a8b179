/- Walks of after and of byteAt. -/
import Derived.Test.YtfjgcffoknclhaaXg
import Derived.Test.YtfjgcffoknclhaaXn
import Derived.Test.YtfjgcffoknclhaaXb
namespace Go.Proofs.Ytfjgcffoknclhaa
open Go.RowKit

def AfterPost (L : Lab) (w : World) (k2 : Nat) (x : List UInt8) (e : Ending) (w' : World) : Prop :=
  e = .returned (.tuple #[.string (ba x), .bool true]) ∧ ∃ L', Fr (MA k2) L w L' w'

set_option maxRecDepth 100000 in
set_option maxHeartbeats 1000000 in
theorem after_any {L : Lab} {w : World} {k d : Nat} {s : St} {kv : Value} {keep : List Int} (k2 : Nat) (hk2 : k2 ≠ k) (f : Int) (hL : Fresh L w) (h : DAt L w k d s) (hi : Inv s) (hd : s.down = false) (hf : isI64 f) (hff : isFile f = true) (hk : ArgI L w kv keep) :
    Calls Try.prog 23 #[.pointer (some ⟨d, 0, none⟩), .int .i64 f, kv] w (AfterPost L w k2 (s.left keep f)) := by
  have hk' := hk
  obtain ⟨KA, kc, rfl⟩ := argI_len hk
  have HK := Lib.hid hk'
  clear hk hk'
  go_enter Try.func23, Try.ntmps23
  go_wp2_with fail
  refine (Copy_any k2 hk2 hL h hi).mono ?_
  rintro e w1 ⟨c, L1, rfl, c1, f1⟩
  go_wp2_with fail
  refine (crash_any _ keep f1.fresh c1 hi ((HK.out.keep f1).kat k2)).mono ?_
  rintro e w2 ⟨rfl, L2, c2, f2⟩
  go_wp2_with fail
  refine (start_any f2.fresh c2).mono ?_
  rintro e w3 ⟨rfl, c3, f3⟩
  go_wp2_with fail
  have cr := read_any f 0 16777216 hf c3
  rw [read_left hi hd hff] at cr
  refine cr.mono ?_
  clear cr
  rintro e w4 ⟨rfl, rfl⟩
  go_wp2_with fail
  go_ret2
  exact ⟨rfl, L2, (f1.trans f2).trans (f3.mono md_ma)⟩

theorem byteAt_any {w : World} (x : List UInt8) (i : Nat) (hi : i ≤ 16777216) :
    Calls Try.prog 24 #[.string (ba x), .int .i64 i] w fun e w' => e = .returned (.int .u8 ((x.getD i 0).toNat : Int)) ∧ w = w' := by
  have hl : (ba x).size = x.length := ba_size x
  obtain ⟨n, hn⟩ : ∃ n, n = x.length := ⟨_, rfl⟩
  rw [← hn] at hl
  by_cases h1 : i < n
  · go_enter Try.func24, Try.ntmps24
    go_wp2_with fail
    go_ret
    refine ⟨?_, rfl⟩
    rw [List.getD_eq_getElem?_getD, List.getElem?_eq_getElem (by omega)]
    rfl
  · have h2 : (n : Int) ≤ (i : Int) := by omega
    go_enter Try.func24, Try.ntmps24
    go_wp2_with fail
    go_ret
    rw [getD_ge (by omega)]
    exact ⟨rfl, rfl⟩

end Go.Proofs.Ytfjgcffoknclhaa
