/- The reference's fits, comes, Arm. -/
import Derived.Test.YtgocnjiabfmdpaaDYl
namespace Go.Proofs.Ytgocnjiabfmdpaa
set_option maxRecDepth 8000
open Go.RowKit

def SrcA (w : World) (X : Value) (m : Nat) (news : List Value) : Prop :=
  (X = .slice none 0 0 ∧ m = 0 ∧ news = []) ∨ ∃ ad c, X = .slice (some ad) m c ∧ ∀ j u, news[j]? = some u → w.cell? (ad.add j) = some u

theorem run_append_srcA {P : Program} (w : World) (base : Nat) (t ty e : TypeId) (i : TypeInfo) (z : Value) (bytes : Nat) (ht : P.underlying t = some (.slice e)) (hi : P.info? e = some i) (hz : i.zero = some z)
    (hsize : i.size = 1) (hby : i.bytes = bytes) (hzs : z.cells.size = 1)
    (v : Value) (n : Nat) (xs : List Value) (hown : w.ownsRow base e 1 v n xs)
    (X : Value) (m : Nat) (news : List Value) (hl : news.length = m) (hsrc : SrcA w X m news) (h1 : ∀ u ∈ news, u.oneCell' = true)
    (h63 : n + m ≤ maxLen) (hbytes : (n + m) * bytes ≤ 140737488355328) (hbase : base ≤ w.heap.size) :
    ∃ v' w', (Builtin.append_ #[t, t] ty #[v, X]).run P w = .ok v' w' ∧ w'.ownsRow base e 1 v' (n + m) (xs ++ news) ∧ w.grownBy w' v.ownBlock ∧ (v'.ownBlock = v.ownBlock ∨ v'.ownBlock = some w.heap.size) := by
  rcases hsrc with ⟨rfl, rfl, rfl⟩ | ⟨ad, c, rfl, hnews⟩
  · refine ⟨v, w, ?_, by simpa using hown, ⟨rfl, rfl, rfl, Nat.le_refl _, fun _ _ _ => rfl⟩, Or.inl rfl⟩
    rcases hown.2 with ⟨rfl, rfl⟩ | ⟨g, cap, cur, rfl, _, _, hnc, _⟩
    · simp [Builtin.append_, run_underlying ht, sizeOf, typeInfo, hi, Builtin.lenOf, Builtin.firstCells]
    · simp [Builtin.append_, run_underlying ht, sizeOf, typeInfo, hi, Builtin.lenOf, Builtin.firstCells, loadCells, hnc, storeCells]
  · obtain ⟨v', w', a1, a2, a3, _, a4⟩ := run_append_own_at (P := P) w base t ty e i z 1 bytes ht hi hz hsize hby hzs (by decide) v n xs hown ad m c news (by omega) hnews h1 h63 hbytes hbase
    exact ⟨v', w', a1, a2, a3, a4⟩

def fitsB (a : Int) (n : Nat) : Bool := decide (0 ≤ a) && decide (a ≤ 16777216) && decide (a + n ≤ 16777216)

theorem rfits_any (w : World) (a : Int) (t : ByteArray) (ha : isI64 a) (ht : t.size ≤ 1000000) : Calls Try.prog 85 #[.int .i64 a, .string t] w fun e w' => e = .returned (.bool (fitsB a t.size)) ∧ w = w' := by
  unfold isI64 at ha
  by_cases h0 : 0 ≤ a
  · by_cases h1 : a ≤ 16777216
    · by_cases h2 : a + t.size ≤ 16777216
      · have H : Hid (fitsB a t.size = true) := show _ = _ by simp [fitsB, h0, h1, h2]
        go_enter Try.func85, Try.ntmps85
        go_wp2_with fail
        go_ret
        rw [H.out]
        exact ⟨rfl, rfl⟩
      · have H : Hid (fitsB a t.size = false) := show _ = _ by simp [fitsB, h2]
        go_enter Try.func85, Try.ntmps85
        go_wp2_with fail
        go_ret
        rw [H.out]
        exact ⟨rfl, rfl⟩
    · have H : Hid (fitsB a t.size = false) := show _ = _ by simp [fitsB, h1]
      go_enter Try.func85, Try.ntmps85
      go_wp2_with fail
      go_ret
      rw [H.out]
      exact ⟨rfl, rfl⟩
  · have H : Hid (fitsB a t.size = false) := show _ = _ by simp [fitsB, h0]
    go_enter Try.func85, Try.ntmps85
    go_wp2_with fail
    go_ret
    rw [H.out]
    exact ⟨rfl, rfl⟩

/-- What stands when a call has been counted, and the scheduled crash performed. -/
def St.comes (s : St) (f a : Int) (t : List UInt8) : St := if s.hit = true then ((s.count.wr f a t).1).crash s.keep else s.count

set_option maxHeartbeats 400000 in
theorem radd_none {w : World} {d : Nat} (f a : Int) : Calls Try.prog 86 #[.pointer (some ⟨d, 0, none⟩), .int .i64 f, .int .i64 a, .string ByteArray.empty] w fun e w' => e = .returned (.tuple #[]) ∧ w = w' := by
  go_enter Try.func86, Try.ntmps86
  go_wp2_with fail
  refine bodyPost_ret (results_none rfl _ _ _) rfl ?_
  exact ⟨rfl, rfl⟩

/-- A write, if it is possible. -/
theorem radd_wr {L : Lab} {w : World} {k d : Nat} {l : List Fl} {K : List Int} {s : St} (f a : Int) (t : ByteArray) (hL : Fresh L w) (h : RAt L w k d l K s) (hi : Inv s) (hr : s.ready f = 0) (hfit : fitsB a t.size = true) :
    Calls Try.prog 86 #[.pointer (some ⟨d, 0, none⟩), .int .i64 f, .int .i64 a, .string t] w fun e w' => e = .returned (.tuple #[]) ∧ ∃ l' L', RAt L' w' k d l' K (s.wr f a t.data.toList).1 ∧ Fr (MA k) L w L' w' := by
  have hsz := size_toList t
  simp only [fitsB, Bool.and_eq_true, decide_eq_true_eq] at hfit
  obtain ⟨⟨h0, h1⟩, h2⟩ := hfit
  rcases Nat.eq_zero_or_pos t.size with ht | ht
  · have ht' : t.data.toList = [] := List.eq_nil_of_length_eq_zero (by rw [hsz]; exact ht)
    obtain rfl : t = ByteArray.empty := by rw [← ba_of t, ht']; rfl
    have hw : (s.wr f a (ByteArray.empty).data.toList).1 = s := by
      unfold St.wr
      rw [if_neg (by simp [hr]), if_neg (by omega), if_neg (by rw [hsz]; omega), if_pos ht']
    rw [hw]
    refine (radd_none f a).mono ?_
    rintro e w1 ⟨rfl, rfl⟩
    exact ⟨rfl, l, L, h, Fr.refl hL⟩
  · obtain ⟨a', rfl⟩ := Int.eq_ofNat_of_zero_le h0
    have hte : ¬ t.data.toList = [] := by intro e; rw [e] at hsz; simp at hsz; omega
    have hw : (s.wr f a' t.data.toList).1 = (s.wrote f a' t.data.toList).addSecs f (a' / 64) (St.secs a' t.data.toList) := by
      unfold St.wr
      rw [if_neg (by simp [hr]), if_neg (by omega), if_neg (by rw [hsz]; omega), if_neg hte]
    rw [hw]
    exact radd_any f a' t hL h hi (ready_zero hr).2 (by omega) ht

theorem wr_not {s : St} {f a : Int} {t : ByteArray} (h : s.ready f ≠ 0 ∨ fitsB a t.size = false) : (s.wr f a t.data.toList).1 = s := by
  have hsz := size_toList t
  unfold St.wr
  by_cases hr : s.ready f ≠ 0
  · rw [if_pos hr]
  · rw [if_neg hr]
    rcases h with h | h
    · exact absurd h hr
    · by_cases h0 : a < 0
      · rw [if_pos h0]
      · rw [if_neg h0]
        by_cases h1 : a > 16777216 - t.data.toList.length
        · rw [if_pos h1]
        · exfalso
          rw [hsz] at h1
          simp [fitsB] at h
          omega

theorem isFile_ready {s : St} {f : Int} (hd : s.down = false) : s.ready f = 0 ↔ 0 ≤ f ∧ f ≤ 15 := by
  unfold St.ready
  rw [hd, if_neg (by simp)]
  by_cases h : isFile f = true
  · rw [if_pos h]; have := isFile_iff.1 h; constructor <;> intro <;> omega
  · rw [if_neg h]; rw [isFile_iff] at h; constructor <;> intro <;> omega

set_option maxRecDepth 100000 in
set_option maxHeartbeats 1000000 in
theorem rcomes_any {L : Lab} {w : World} {k d : Nat} {l : List Fl} {K : List Int} {s : St} (f a : Int) (t : ByteArray) (hL : Fresh L w) (h : RAt L w k d l K s) (hi : Inv s) (hK : s.armed ≠ 0 → K = s.keep) (ha : isI64 a) (ht : t.size ≤ 1000000) :
    Calls Try.prog 83 #[.pointer (some ⟨d, 0, none⟩), .int .i64 f, .int .i64 a, .string t] w fun e w' => e = .returned (.tuple #[]) ∧ ∃ l' L', RAt L' w' k d l' K (s.comes f a t.data.toList) ∧ Fr (MA k) L w L' w' := by
  have h' := h
  have harm := hi.armed
  obtain ⟨fv, qv, kv, hd, hb, hbody⟩ := h
  have c3 := blk_cell hb 3
  have c4 := blk_cell hb 4
  have f4 := blk_free hb 4
  simp [rcells] at c3 c4
  cases hdn : s.down
  · rw [hdn] at c3
    by_cases h0 : s.armed = 0
    · have HC : Hid (s.comes f a t.data.toList = s) := show _ = _ by unfold St.comes St.count; rw [if_neg (by simp [St.hit, h0]), if_pos (Or.inr h0)]
      rw [h0] at c4
      clear hb hbody hd hdn h0 harm
      go_enter Try.func83, Try.ntmps83
      go_wp2_with fail
      refine bodyPost_ret (results_none rfl _ _ _) rfl ?_
      rw [HC.out]
      exact ⟨rfl, l, L, h', Fr.refl hL⟩
    · have hcnt : s.count = { s with armed := s.armed - 1 } := by unfold St.count; rw [if_neg (by simp [hdn, h0])]
      have e1 : (rcells fv qv kv s).setIfInBounds 4 (.int .i64 (s.armed - 1)) = rcells fv qv kv s.count := by rw [hcnt]; rfl
      have r1 : RAt L (w.setCell ⟨d, 4, none⟩ (.int .i64 (s.armed - 1))) k d l K s.count := RAt.setD hL hd hb 4 _ e1 (by rw [hcnt]; exact ⟨hbody.1, hbody.2.1, hbody.2.2.1, hbody.2.2.2⟩)
      have fr1 := Fr.setD hL hd 4 (.int .i64 (s.armed - 1))
      have hp : 1 ≤ s.armed := by omega
      by_cases h1 : s.armed = 1
      · have hcd : s.count.down = false := by rw [hcnt]; exact hdn
        have HH : Hid (s.comes f a t.data.toList = ((s.count.wr f a t.data.toList).1).crash s.keep) := show _ = _ by unfold St.comes; rw [if_pos (by simp [St.hit, hdn, h1])]
        have hKK := hK h0
        have hic := hi.count
        have hrd := isFile_ready (f := f) hcd
        have HX := Lib.hid (And.intro hKK (And.intro hic hrd))
        have tail : ∀ (L2 : Lab) (w2 : World) (l2 : List Fl), RAt L2 w2 k d l2 K (s.count.wr f a t.data.toList).1 → Fr (MA k) L w L2 w2 → ∃ kv2, w2.cell? ⟨d, 5, none⟩ = some kv2 ∧ Calls Try.prog 38 #[.pointer (some ⟨d, 0, none⟩), kv2] w2 fun e w' => e = .returned (.tuple #[]) ∧ ∃ l' L', RAt L' w' k d l' K (s.comes f a t.data.toList) ∧ Fr (MA k) L w L' w' := by
          intro L2 w2 l2 h2 fr2
          have h2' := h2
          obtain ⟨fv2, qv2, kv2, hd2, hb2, hbody2⟩ := h2
          have c5 := blk_cell hb2 5
          simp [rcells] at c5
          refine ⟨kv2, c5, ?_⟩
          refine (rcrash_any kv2 K fr2.fresh h2' (hi.count.wr f a _) (RKAt.of_sl hbody2.2.2.1.1)).mono ?_
          rintro e w3 ⟨rfl, l3, L3, h3, f3⟩
          refine ⟨rfl, l3, L3, ?_, fr2.trans (f3.mono md_ma)⟩
          rw [HH.out, ← hKK]
          exact h3
        have HT := Lib.hid tail
        have HW := Lib.hid (And.intro r1 (fr1.mono md_ma : Fr (MA k) L w L (w.setCell ⟨d, 4, none⟩ (.int .i64 (s.armed - 1)))))
        rw [h1] at c4
        have e9 : s.armed - 1 = 0 := by omega
        rw [e9] at HW
        clear tail hKK hic hrd hcnt e1 r1 fr1 hp hb hbody hd h' hcd hdn h0 harm h1 e9 hK
        by_cases hf0 : 0 ≤ f
        · by_cases hf1 : f ≤ 15
          · cases hfit : fitsB a t.size
            · have HN : Hid ((s.count.wr f a t.data.toList).1 = s.count) := show _ = _ from wr_not (Or.inr hfit)
              have HFIT := Lib.hid hfit
              clear hfit
              obtain ⟨kv2, c5, hcall⟩ := HT.out _ _ _ (by rw [HN.out]; exact HW.out.1) HW.out.2
              have HCALL := Lib.hid hcall
              clear hcall
              go_enter Try.func83, Try.ntmps83
              go_wp2_with fail
              refine (rfits_any _ a t ha ht).mono ?_
              rintro e w2 ⟨rfl, rfl⟩
              rw [HFIT.out]
              go_wp2_with fail
              refine HCALL.out.mono ?_
              rintro e w3 ⟨rfl, H⟩
              go_wp2_with fail
              go_end0
              exact ⟨rfl, H⟩
            · have HFIT := Lib.hid hfit
              clear hfit
              go_enter Try.func83, Try.ntmps83
              go_wp2_with fail
              refine (rfits_any _ a t ha ht).mono ?_
              rintro e w2 ⟨rfl, rfl⟩
              rw [HFIT.out]
              go_wp2_with fail
              refine (radd_wr f a t HW.out.2.fresh HW.out.1 HX.out.2.1 (HX.out.2.2.2 ⟨hf0, hf1⟩) HFIT.out).mono ?_
              rintro e w2 ⟨rfl, l2, L2, h2, fr2⟩
              obtain ⟨kv2, c5, hcall⟩ := HT.out _ _ _ h2 (HW.out.2.trans fr2)
              have HCALL := Lib.hid hcall
              clear hcall
              go_wp2_with fail
              refine HCALL.out.mono ?_
              rintro e w3 ⟨rfl, H⟩
              go_wp2_with fail
              go_end0
              exact ⟨rfl, H⟩
          · have HN : Hid ((s.count.wr f a t.data.toList).1 = s.count) := show _ = _ from wr_not (Or.inl (fun hh => hf1 (HX.out.2.2.1 hh).2))
            obtain ⟨kv2, c5, hcall⟩ := HT.out _ _ _ (by rw [HN.out]; exact HW.out.1) HW.out.2
            have HCALL := Lib.hid hcall
            clear hcall
            go_enter Try.func83, Try.ntmps83
            go_wp2_with fail
            refine HCALL.out.mono ?_
            rintro e w3 ⟨rfl, H⟩
            go_wp2_with fail
            go_end0
            exact ⟨rfl, H⟩
        · have HN : Hid ((s.count.wr f a t.data.toList).1 = s.count) := show _ = _ from wr_not (Or.inl (fun hh => hf0 (HX.out.2.2.1 hh).1))
          obtain ⟨kv2, c5, hcall⟩ := HT.out _ _ _ (by rw [HN.out]; exact HW.out.1) HW.out.2
          have HCALL := Lib.hid hcall
          clear hcall
          go_enter Try.func83, Try.ntmps83
          go_wp2_with fail
          refine HCALL.out.mono ?_
          rintro e w3 ⟨rfl, H⟩
          go_wp2_with fail
          go_end0
          exact ⟨rfl, H⟩
      · have HC : Hid (s.comes f a t.data.toList = s.count) := show _ = _ by unfold St.comes; rw [if_neg (by simp [St.hit, hdn, h1])]
        have HW := Lib.hid (And.intro r1 (fr1.mono md_ma : Fr (MA k) L w L (w.setCell ⟨d, 4, none⟩ (.int .i64 (s.armed - 1)))))
        have hq : 0 < s.armed - 1 := by omega
        clear hcnt e1 r1 fr1 hb hbody hd h' hdn hK
        go_enter Try.func83, Try.ntmps83
        go_wp2_with fail
        refine bodyPost_ret (results_none rfl _ _ _) rfl ?_
        rw [HC.out]
        exact ⟨rfl, l, L, HW.out⟩
  · rw [hdn] at c3
    have HC : Hid (s.comes f a t.data.toList = s) := show _ = _ by unfold St.comes St.count; rw [if_neg (by simp [St.hit, hdn]), if_pos (Or.inl hdn)]
    clear hb hbody hd hdn harm
    go_enter Try.func83, Try.ntmps83
    go_wp2_with fail
    refine bodyPost_ret (results_none rfl _ _ _) rfl ?_
    rw [HC.out]
    exact ⟨rfl, l, L, h', Fr.refl hL⟩

end Go.Proofs.Ytgocnjiabfmdpaa
