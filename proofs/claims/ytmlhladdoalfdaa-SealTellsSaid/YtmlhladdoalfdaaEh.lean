/- Walks: Open. -/
import Derived.Test.YtmlhladdoalfdaaEg
import Derived.OwnWalk
namespace Go.Proofs.Ytmlhladdoalfdaa
open Go.RowKit

def keysOk (ds : List En) : Bool := ds.all fun d => okKey d.1
def OpenPost (ds : List En) (w : World) (e : Ending) (w' : World) : Prop :=
  (keysOk ds = false → e = .returned (.tuple #[.pointer none, .int .i64 1])) ∧
  (keysOk ds = true → ¬ ds.Nodup → e = .returned (.tuple #[.pointer none, .int .i64 5])) ∧
  (keysOk ds = true → ds.Nodup → ∃ r S, e = .returned (.tuple #[.pointer (some ⟨r, 0, none⟩), .int .i64 0]) ∧ Ring w' S r ds ∧ ∀ b, S b → w.heap.size ≤ b) ∧
  Below w.heap.size w w'

theorem keysOk_take {ds : List En} {i : Nat} (h : keysOk (ds.take i) = true) (hi : i < ds.length) (hk : okKey (ds.getD i e0).1 = true) : keysOk (ds.take (i + 1)) = true := by
  rw [List.take_succ_eq_append_getElem hi]
  unfold keysOk at h ⊢
  rw [List.all_append, h]
  have : ds.getD i e0 = ds[i] := by rw [List.getD_eq_getElem?_getD, List.getElem?_eq_getElem hi]; rfl
  rw [this] at hk
  simpa using hk
theorem keysOk_bad {ds : List En} {i : Nat} (hi : i < ds.length) (hk : okKey (ds.getD i e0).1 = false) : keysOk ds = false := by
  have : ds.getD i e0 = ds[i] := by rw [List.getD_eq_getElem?_getD, List.getElem?_eq_getElem hi]; rfl
  rw [this] at hk
  unfold keysOk
  rw [List.all_eq_false]
  exact ⟨_, List.getElem_mem hi, by simpa using hk⟩
theorem take_snoc {ds : List En} {i : Nat} (hi : i < ds.length) : ds.take (i + 1) = ds.take i ++ [ds.getD i e0] := by
  rw [List.take_succ_eq_append_getElem hi, List.getD_eq_getElem?_getD, List.getElem?_eq_getElem hi]
  rfl
theorem nodup_snoc {es : List En} {p : En} (h : es.Nodup) (hp : p ∉ es) : (es ++ [p]).Nodup := by
  rw [List.nodup_append]
  refine ⟨h, by simp, ?_⟩
  intro a ha b hb e
  have : b = p := by simpa using hb
  subst this
  exact hp (e ▸ ha)
theorem not_nodup {ds : List En} {i : Nat} (hi : i < ds.length) (hp : ds.getD i e0 ∈ ds.take i) : ¬ ds.Nodup := by
  intro h
  have h2 : (ds.take (i + 1)).Nodup := h.sublist (List.take_sublist _ _)
  rw [take_snoc hi, List.nodup_append] at h2
  exact h2.2.2 _ hp _ (by simp) rfl
theorem en_get {ds : List En} {i : Nat} (hi : i < ds.length) : ds.getD i e0 ∈ ds := by
  rw [List.getD_eq_getElem?_getD, List.getElem?_eq_getElem hi]
  exact List.getElem_mem hi

theorem open_bad {ds : List En} {w w' : World} (h : keysOk ds = false) (hb : Below w.heap.size w w') : OpenPost ds w (.returned (.tuple #[.pointer none, .int .i64 1])) w' :=
  ⟨fun _ => rfl, fun h' => (Bool.false_ne_true (h.symm.trans h')).elim, fun h' => (Bool.false_ne_true (h.symm.trans h')).elim, hb⟩
theorem open_twice {ds : List En} {w w' : World} (h : keysOk ds = true) (hn : ¬ ds.Nodup) (hb : Below w.heap.size w w') : OpenPost ds w (.returned (.tuple #[.pointer none, .int .i64 5])) w' :=
  ⟨fun h' => (Bool.false_ne_true (h'.symm.trans h)).elim, fun _ _ => rfl, fun _ h' => (hn h').elim, hb⟩
theorem open_good {ds : List En} {w w' : World} {r : Nat} {S : Nat → Prop} (h : keysOk ds = true) (hn : ds.Nodup) (hR : Ring w' S r ds) (hS : ∀ b, S b → w.heap.size ≤ b) (hb : Below w.heap.size w w') : OpenPost ds w (.returned (.tuple #[.pointer (some ⟨r, 0, none⟩), .int .i64 0])) w' :=
  ⟨fun h' => (Bool.false_ne_true (h'.symm.trans h)).elim, fun _ h' => (h' hn).elim, fun _ _ => ⟨r, S, rfl, hR, hS⟩, hb⟩

set_option maxRecDepth 100000 in
set_option maxHeartbeats 8000000 in
theorem open_any (ds : List En) (A : Option Addr) (c : Nat) (w : World) (hS : SlAt w.heap.size w A ds) (hl : ds.length ≤ 1000) (hds : ∀ d ∈ ds, EnOk d ∧ d.2.size ≤ 1000) :
    Calls Try.prog 15 #[.slice A ds.length c] w (OpenPost ds w) := by
  have HS := Lib.hid hS; clear hS
  have HD := Lib.hid hds; clear hds
  obtain ⟨n, hn⟩ : ∃ n, ds.length = n := ⟨_, rfl⟩
  rw [hn] at hl ⊢
  have HN := Lib.hid hn; clear hn
  go_enter Try.func15, Try.ntmps15
  go_wp2_with fail
  go_loopw [13] (fun iv wr => ∃ i : Nat, i ≤ n ∧ iv = .int .i64 i ∧ Hid (keysOk (ds.take i) = true) ∧ Below w.heap.size w wr) (fun iv _ => n - (intOf iv).toNat)
  case atStart => exact ⟨0, Nat.zero_le _, rfl, Lib.hid rfl, Below.refl _ _⟩
  case round =>
    obtain ⟨i, hi, rfl, ht, hb⟩ := hrel
    by_cases hgo : i < n
    · obtain ⟨b1, o1, hA, hB1, w0, w1⟩ := HS.out i (by have := HN.out; omega)
      subst hA
      have c0 : wr.cell? ⟨b1, o1 + i * 2, none⟩ = some (.int .i64 (ds.getD i e0).1) := (hb.cell (p := ⟨b1, o1 + i * 2, none⟩) hB1).trans w0
      have c1 : wr.cell? ⟨b1, o1 + i * 2 + 1, none⟩ = some (.string (ds.getD i e0).2) := (hb.cell (p := ⟨b1, o1 + i * 2 + 1, none⟩) hB1).trans w1
      have HK : Hid (∀ b, okKey (ds.getD i e0).1 = b → b = (decide (0 ≤ (ds.getD i e0).1) && decide ((ds.getD i e0).1 < 5000))) := Lib.hid fun b h => h.symm
      have hyes : Hid (okKey (ds.getD i e0).1 = true → keysOk (ds.take (i + 1)) = true) := Lib.hid fun h => keysOk_take ht.out (by have := HN.out; omega) h
      have hno : Hid (okKey (ds.getD i e0).1 = false → keysOk ds = false) := Lib.hid fun h => keysOk_bad (by have := HN.out; omega) h
      have hs := hb.size
      obtain ⟨u, hu⟩ : ∃ u, ds.getD i e0 = u := ⟨_, rfl⟩
      rw [hu] at c0 c1 HK hyes hno
      obtain ⟨key, text⟩ := u
      simp only at c0 c1 HK hyes hno
      clear hu w0 w1
      have hb2 := hb.alloc hs (.cells #[.int .i64 key, .string text] 33)
      obtain ⟨b, hbk⟩ : ∃ b, okKey key = b := ⟨_, rfl⟩
      have HKB := Lib.hid (HK.out b hbk)
      cases b with
      | true =>
        have hy := Lib.hid (hyes.out hbk)
        clear hbk HK hyes hno
        go_wp2_with fail
        refine (isKey_any key _ true HKB.out).mono ?_
        rintro e w3 ⟨rfl, rfl⟩
        go_wp2_with fail
        go_roundw
        case rel => exact ⟨i + 1, by omega, rfl, hy, hb2⟩
        case measure => simp [intOf]; omega
      | false =>
        have hy := Lib.hid (hno.out hbk)
        clear hbk HK hyes hno
        go_wp2_with fail
        refine (isKey_any key _ false HKB.out).mono ?_
        rintro e w3 ⟨rfl, rfl⟩
        go_wp2_with fail
        go_ret2
        exact open_bad hy.out hb2
    · have : n = i := by omega
      subst this
      have hk : Hid (keysOk ds = true) := Lib.hid (by have := ht.out; rwa [List.take_of_length_le (by have := HN.out; omega)] at this)
      clear ht hgo hi
      go_wp2_with fail
      refine (new_any _).mono ?_
      rintro e w2 ⟨r, S, rfl, hR, hSb, hb2⟩
      have hB2 := hb.trans (hb2.mono hb.size)
      have hs := hb.size
      have hSb2 : ∀ b, S b → w.heap.size ≤ b := fun b hb' => Nat.le_trans hs (hSb b hb')
      obtain ⟨w3, hw3⟩ : ∃ w3, w3 = w2 := ⟨_, rfl⟩
      rw [← hw3] at hR hB2 ⊢
      clear hb2 hSb hb hs hw3
      go_wp2_with fail
      go_loopw [25] (fun iv wr => ∃ (i : Nat) (S : Nat → Prop), i ≤ i ∧ iv = .int .i64 i ∧ Hid (i ≤ n) ∧ Hid (Ring wr S r (ds.take i)) ∧ Hid (∀ b, S b → w.heap.size ≤ b) ∧ Hid ((ds.take i).Nodup) ∧ Below w.heap.size w wr) (fun iv _ => n - (intOf iv).toNat)
      case atStart => exact ⟨0, S, Nat.le_refl _, rfl, Lib.hid (Nat.zero_le _), Lib.hid hR, Lib.hid hSb2, Lib.hid (by simp), hB2⟩
      case round =>
        obtain ⟨i, S1, -, rfl, hi, hR1, hS1, hnd, hb⟩ := hrel
        clear hR hB2 hSb2
        by_cases hgo : i < n
        · have hin' : i < ds.length := by have := HN.out; omega
          obtain ⟨b1, o1, hA, hB1, w0, w1⟩ := HS.out i hin'
          subst hA
          have c0 : wr.cell? ⟨b1, o1 + i * 2, none⟩ = some (.int .i64 (ds.getD i e0).1) := (hb.cell (p := ⟨b1, o1 + i * 2, none⟩) hB1).trans w0
          have c1 : wr.cell? ⟨b1, o1 + i * 2 + 1, none⟩ = some (.string (ds.getD i e0).2) := (hb.cell (p := ⟨b1, o1 + i * 2 + 1, none⟩) hB1).trans w1
          have hs := hb.size
          have hdi := HD.out _ (en_get hin')
          have hsn := take_snoc hin'
          have hyes : Hid ((ds.getD i e0) ∉ ds.take i → (ds.take (i + 1)).Nodup) := Lib.hid fun h => by rw [hsn]; exact nodup_snoc hnd.out h
          have hno : Hid ((ds.getD i e0) ∈ ds.take i → ¬ ds.Nodup) := Lib.hid fun h => not_nodup hin' h
          obtain ⟨p, hp⟩ : ∃ p, ds.getD i e0 = p := ⟨_, rfl⟩
          rw [hp] at c0 c1 hdi hsn hyes hno
          have HSN := Lib.hid hsn
          have hle : (ds.take i).length ≤ 1000 := by rw [List.length_take]; omega
          clear hp w0 w1 hsn
          have hb2 := hb.alloc hs (.cells #[.int .i64 p.1, .string p.2] 33)
          have hRW : Ring (wr.alloc (.cells #[.int .i64 p.1, .string p.2] 33)) S1 r (ds.take i) := hR1.out.below ((Below.refl _ _).alloc (Nat.le_refl _) _)
          have hbe := Blk.new wr 33 #[.int .i64 p.1, .string p.2]
          obtain ⟨W, hW⟩ : ∃ W, wr.alloc (.cells #[.int .i64 p.1, .string p.2] 33) = W := ⟨_, rfl⟩
          rw [hW] at hb2 hRW hbe
          have HW := Lib.hid hW; clear hW
          have HR := Lib.hid hRW
          obtain ⟨m, v, h1, h2, h3, -⟩ := hRW
          have k1 : W.cell? ⟨r, 1, none⟩ = some (.map (some m)) := h1.cell 1
          have x0 : W.cell? ⟨wr.heap.size, 0, none⟩ = some (.int .i64 p.1) := hbe.cell 0
          have x1 : W.cell? ⟨wr.heap.size, 1, none⟩ = some (.string p.2) := hbe.cell 1
          have hlk : ∀ q, (Instr.lookup 46 (.map (some m)) (.agg #[.int .i64 p.1, .string p.2]) true).run Try.prog (W.drewN q) = .ok (lookRes (marks (ds.take i)) p (.int .i64 0) true) (W.drewN q) := fun q =>
            (show EMap (W.drewN q) m (marks (ds.take i)) from h2).look Try.underlying46 hdi.1 true (Try.zeroI _)
          clear h1 h2 h3 hbe
          by_cases hin : p ∈ ds.take i
          · rw [look_in hin] at hlk
            have HNO := Lib.hid (hno.out hin)
            obtain ⟨z, hz⟩ : ∃ z, pos (ds.take i) p = z := ⟨_, rfl⟩
            rw [hz] at hlk
            clear hz hin hdi hno hyes HSN hle hin'
            obtain ⟨key, text⟩ := p
            simp only at hlk x0 x1 c0 c1 HW
            go_upto_region 11 with fail
            rw [HW.out]
            go_quiet (fail)
            go_wp2_with fail
            go_ret2
            exact open_twice hk.out HNO.out (below_drewN hb2 _)
          · rw [look_out hin] at hlk
            have HY := Lib.hid (hyes.out hin)
            have HADD : Hid (∀ q, Calls Try.prog 22 #[.pointer (some ⟨r, 0, none⟩), env p] (W.drewN q) fun e w' => ∃ S', e = .returned (.int .i64 (ds.take i).length) ∧ Ring w' S' r (ds.take (i + 1)) ∧ Fr S1 (W.drewN q) w' ∧ ∀ b, S' b → S1 b ∨ (W.drewN q).heap.size ≤ b) := Lib.hid fun q => by
              rw [HSN.out]
              exact add_any (w := W.drewN q) (HR.out.below ⟨rfl, rfl, rfl, Nat.le_refl _, fun _ _ => rfl⟩) p hdi.1 hdi.2 hle hin
            obtain ⟨z, hz⟩ : ∃ z, (ds.take i).length = z := ⟨_, rfl⟩
            rw [hz] at HADD
            unfold env at HADD
            clear hz hin hdi hno hyes HSN hle hin'
            obtain ⟨key, text⟩ := p
            simp only at hlk x0 x1 c0 c1 HW HADD
            go_upto_region 11 with fail
            rw [HW.out]
            go_quiet (fail)
            go_wp2_with fail
            refine (HADD.out _).mono ?_
            rintro e w4 ⟨S2, rfl, hR4, hf4, hs4⟩
            have hsz : w.heap.size ≤ W.heap.size := hb2.size
            have hb4 : Below w.heap.size w w4 := (below_drewN hb2 _).trans (hf4.below hS1.out hsz)
            have hS2 : Hid (∀ b, S2 b → w.heap.size ≤ b) := Lib.hid fun b hb => by
              rcases hs4 b hb with h | h
              · exact hS1.out b h
              · exact Nat.le_trans hsz h
            clear hs4 hf4
            go_wp2_with fail
            go_roundw
            case rel => exact ⟨i + 1, S2, Nat.le_refl _, rfl, Lib.hid (by omega), Lib.hid hR4, hS2, HY, hb4⟩
            case measure => simp [intOf]; omega
        · have hie : n = i := by have := hi.out; omega
          have HE : Hid (ds.take i = ds) := Lib.hid (List.take_of_length_le (by have := HN.out; omega))
          rw [HE.out] at hR1 hnd
          clear hi HE
          subst hie
          go_wp2_with fail
          go_ret2
          exact open_good hk.out hnd.out hR1.out hS1.out hb

end Go.Proofs.Ytmlhladdoalfdaa
