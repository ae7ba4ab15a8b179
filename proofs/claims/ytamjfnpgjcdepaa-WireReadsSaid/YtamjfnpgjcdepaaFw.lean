/- Walks: the law's value, 'kind', 'few'. -/
import Derived.Test.YtamjfnpgjcdepaaSm
import Derived.Deep.QuietTactic
import Derived.BigQuiet
namespace Go.Proofs.Ytamjfnpgjcdepaa
open Go.RowKit

/-- The parts of a value of the law. -/
structure Vd where
  K : Int
  N : Int
  S : ByteArray
  L : List Int
  aL : Option Addr
  cL : Nat
  T : List ByteArray
  aT : Option Addr
  cT : Nat

def Vd.parts (d : Vd) : List Value := [.int .i64 d.K, .int .i64 d.N, .string d.S, .slice d.aL d.L.length d.cL, .slice d.aT d.T.length d.cT]
def Vd.val (d : Vd) : Value := .agg #[.int .i64 d.K, .int .i64 d.N, .string d.S, .slice d.aL d.L.length d.cL, .slice d.aT d.T.length d.cT]

/-- What is given of every value that comes in. -/
structure Vd.Ok (B : Nat) (w : World) (d : Vd) : Prop where
  k : isI64 d.K
  n : isI64 d.N
  s : d.S.size ≤ 9223372036854775807
  l : d.L.length ≤ 9223372036854775807
  t : d.T.length ≤ 9223372036854775807
  ts : ∀ x ∈ d.T, x.size ≤ 9223372036854775807
  ls : ∀ z ∈ d.L, isI64 z
  atL : IntsAt B w d.aL d.L
  atT : StrsAt B w d.aT d.T

/-- What 'few' asks of a value. -/
structure Vd.Few (d : Vd) : Prop where
  l : d.L.length ≤ 400
  t : d.T.length ≤ 400
  s : d.S.size ≤ 400
  ts : ∀ x ∈ d.T, x.size ≤ 400

/-- The cells of a value at an address. -/
structure Vd.At (d : Vd) (w : World) (b o : Nat) : Prop where
  c0 : w.cell? ⟨b, o, none⟩ = some (.int .i64 d.K)
  c1 : w.cell? ⟨b, o + 1, none⟩ = some (.int .i64 d.N)
  c2 : w.cell? ⟨b, o + 2, none⟩ = some (.string d.S)
  c3 : w.cell? ⟨b, o + 3, none⟩ = some (.slice d.aL d.L.length d.cL)
  c4 : w.cell? ⟨b, o + 4, none⟩ = some (.slice d.aT d.T.length d.cT)

/-- The values of a slice at address a, in blocks below B. -/
def ValsAt (B : Nat) (w : World) (a : Option Addr) (ds : List Vd) : Prop :=
  ∀ k (h : k < ds.length), ∃ b off, a = some ⟨b, off, none⟩ ∧ b < B ∧ (ds[k]).At w b (off + k * 5)

theorem Vd.At.below {d : Vd} {B : Nat} {w w' : World} {b o : Nat} (h : d.At w b o) (hb : Below B w w') (hB : b < B) : d.At w' b o :=
  ⟨(hb.cell (p := ⟨b, _, none⟩) hB).trans h.c0, (hb.cell (p := ⟨b, _, none⟩) hB).trans h.c1, (hb.cell (p := ⟨b, _, none⟩) hB).trans h.c2, (hb.cell (p := ⟨b, _, none⟩) hB).trans h.c3, (hb.cell (p := ⟨b, _, none⟩) hB).trans h.c4⟩

def AllFew (ds : List Vd) : Prop := ds.length ≤ 20 ∧ ∀ d ∈ ds, d.Few

def FewPost (B : Nat) (ds : List Vd) (w : World) (e : Ending) (w' : World) : Prop := (∃ fb, e = .returned (.bool fb) ∧ (fb = true → AllFew ds)) ∧ Below B w w'
theorem FewPost.no {B : Nat} {ds : List Vd} {w w' : World} (h : Below B w w') : FewPost B ds w (.returned (.bool false)) w' := ⟨⟨false, rfl, by simp⟩, h⟩

set_option maxHeartbeats 4000000 in
set_option maxRecDepth 100000 in
theorem few_any (B : Nat) (a : Option Addr) (ds : List Vd) (cap : Nat) (w : World) (_hB : B ≤ w.heap.size) (hlen : ds.length ≤ 9223372036854775807) (hok : ∀ d ∈ ds, d.Ok B w) (hat : ValsAt B w a ds) :
    Calls Try.prog 10 #[.slice a ds.length cap] w (FewPost B ds w) := by
  by_cases h20 : 20 < ds.length
  · go_enter Try.func10, Try.ntmps10
    go_wp2_with fail
    go_ret
    exact FewPost.no (Below.refl _ _)
  · go_enter Try.func10, Try.ntmps10
    go_wp2_with fail
    go_loopw [3, 4] (fun n i wr => ∃ k : Nat, k ≤ ds.length ∧ i = .int .i64 k ∧ (∃ m, n = .int .i64 m) ∧ (∀ j (h : j < ds.length), j < k → (ds[j]).Few) ∧ Below B w wr) (fun _ i _ => ds.length - (intOf i).toNat)
    case atStart => exact ⟨0, Nat.zero_le _, rfl, ⟨0, rfl⟩, fun j _ h => absurd h (by omega), Below.refl _ _⟩
    case round =>
      obtain ⟨k, hk, rfl, ⟨m, rfl⟩, hfew, hbr⟩ := hrel
      have HFEW := Lib.hid hfew; clear hfew
      have hsz := hbr.size
      by_cases hlt : k < ds.length
      · obtain ⟨b, off, rfl, hbB, hc⟩ := hat k hlt
        have hdok := hok (ds[k]) (List.getElem_mem hlt)
        have hc := hc.below hbr hbB
        obtain ⟨d, hd⟩ : ∃ d, ds[k] = d := ⟨_, rfl⟩
        rw [hd] at hdok hc
        have HD := Lib.hid hd; clear hd
        obtain ⟨d0, d1, d2, d3, d4⟩ := hc
        obtain ⟨_, _, q1, q2, q3, q4, _, _, q5⟩ := hdok
        by_cases h1 : 400 < d.L.length
        · go_wp2_with fail
          go_ret
          exact FewPost.no hbr
        · by_cases h2 : 400 < d.T.length
          · go_wp2_with fail
            go_ret
            exact FewPost.no hbr
          · by_cases h3 : 400 < d.S.size
            · go_wp2_with fail
              go_ret
              exact FewPost.no hbr
            · go_wp2_with fail
              go_quiet (fail)
              go_wp2_with fail
              have hbo : Below B w (wr.drewN nq) := ⟨hbr.os, hbr.tape, hbr.output, hbr.size, hbr.block⟩
              have o0 : (wr.drewN nq).cell? ⟨b, off + k * 5 + 4, none⟩ = some (.slice d.aT d.T.length d.cT) := d4
              clear d0 d1 d2 d3 d4 hbr hsz
              generalize wr.drewN nq = wo at *
              go_loopw [3, 5] (fun n i wr => ∃ k : Nat, k ≤ d.T.length ∧ i = .int .i64 k ∧ (∃ m, n = .int .i64 m) ∧ (∀ j (h : j < d.T.length), j < k → (d.T[j]).size ≤ 400) ∧ wr = wo) (fun _ i _ => d.T.length - (intOf i).toNat)
              case atStart => exact ⟨0, Nat.zero_le _, rfl, ⟨_, rfl⟩, fun j _ h => absurd h (by omega), rfl⟩
              case round =>
                obtain ⟨k2, hk2, rfl, ⟨m2, rfl⟩, hts, rfl⟩ := hrel
                have HTS := Lib.hid hts; clear hts
                by_cases hlt2 : k2 < d.T.length
                · obtain ⟨b2, off2, ha2, hbB2, hc2⟩ := q5 k2 hlt2
                  rw [ha2] at o0
                  clear ha2
                  have hcr := (hbo.cell (p := ⟨b2, off2 + k2, none⟩) hbB2).trans hc2
                  have hz := q4 (d.T.getD k2 ByteArray.empty) (by rw [List.getD_eq_getElem?_getD, List.getElem?_eq_getElem hlt2]; simp)
                  obtain ⟨z, hze⟩ : ∃ z, d.T.getD k2 ByteArray.empty = z := ⟨_, rfl⟩
                  rw [hze] at hcr hz
                  have HZ := Lib.hid hze
                  clear hze hc2
                  by_cases hz4 : 400 < z.size
                  · go_wp2_with fail
                    go_ret
                    exact FewPost.no hbo
                  · go_wp2_with fail
                    go_roundw
                    case rel =>
                      refine ⟨k2 + 1, by omega, by go_num, ⟨_, rfl⟩, fun j hj hjk => ?_, by trivial⟩
                      by_cases hjk2 : j < k2
                      · exact HTS.out j hj hjk2
                      · have e := HZ.out
                        have : j = k2 := by omega
                        subst this
                        rw [List.getD_eq_getElem?_getD, List.getElem?_eq_getElem hlt2] at e
                        simp only [Option.getD_some] at e
                        rw [e]; omega
                    case measure => simp [intOf]; omega
                · go_wp2_with fail
                  go_roundw
                  case rel =>
                    refine ⟨k + 1, by omega, by go_num, ⟨_, rfl⟩, fun j hj hjk => ?_, hbo⟩
                    by_cases hjk2 : j < k
                    · exact HFEW.out j hj hjk2
                    · have : j = k := by omega
                      subst this
                      rw [HD.out]
                      refine ⟨by omega, by omega, by omega, fun x hx => ?_⟩
                      obtain ⟨i, hi, rfl⟩ := List.mem_iff_getElem.1 hx
                      exact HTS.out i hi (by omega)
                  case measure => simp [intOf]; omega
      · go_wp2_with fail
        go_ret
        refine ⟨⟨_, rfl, fun _ => ⟨by omega, fun d hd => ?_⟩⟩, hbr⟩
        obtain ⟨j, hj, rfl⟩ := List.mem_iff_getElem.1 hd
        exact HFEW.out j hj (by omega)

end Go.Proofs.Ytamjfnpgjcdepaa
