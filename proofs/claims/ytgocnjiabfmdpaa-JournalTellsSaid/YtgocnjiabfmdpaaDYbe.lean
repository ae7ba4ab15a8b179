/- The reference's disk in memory; its small methods. The reference's get. The reference's Size, pending, Read. The reference's New, Arm. -/
import Derived.Test.YtgocnjiabfmdpaaDWp
import Derived.Test.YtgocnjiabfmdpaaDYa
import Derived.Lib.Strings
namespace Go.Proofs.Ytgocnjiabfmdpaa
set_option maxRecDepth 8000
open Go.RowKit

def fc (l : List Fl) : List Value := l.flatMap (fun x => [.int .i64 x.num, .string (ba x.now), .string (ba x.last)])

theorem fc_length (l : List Fl) : (fc l).length = l.length * 3 := by
  induction l with
  | nil => rfl
  | cons p l ih => simp only [fc, List.flatMap_cons, List.length_append, List.length_cons, List.length_nil] at ih ⊢; omega

def rcells (fv qv kv : Value) (s : St) : Array Value := #[fv, qv, .int .i64 s.lost, .bool s.down, .int .i64 s.armed, kv]

def RBody (L : Lab) (w : World) (k : Nat) (fv qv kv : Value) (l : List Fl) (K : List Int) (s : St) : Prop :=
  Sl L w 90 3 fv l.length (fc l) (k, .files) ∧ Sl L w 107 2 qv s.pend.length (pc s.pend) (k, .list) ∧ (Sl L w 3 1 kv K.length (ic K) (k, .keep) ∧ FewF l) ∧ Reads l s

/-- The reference's disk, number k, at block d. -/
def RAt (L : Lab) (w : World) (k d : Nat) (l : List Fl) (K : List Int) (s : St) : Prop :=
  ∃ fv qv kv, L d = some (k, .disk) ∧ w.heap[d]? = some (.cells (rcells fv qv kv s) 86 (0, 0)) ∧ RBody L w k fv qv kv l K s

section
variable {M : Nat × Role → Prop} {L L1 : Lab} {w w1 : World} {k d : Nat} {fv qv kv : Value} {l : List Fl} {K : List Int} {s s' : St}

theorem RBody.keep (h : RBody L w k fv qv kv l K s) (hL : Fresh L w) (hf : Fr M L w L1 w1) (hm : ∀ r, r ≠ Role.disk → ¬ M (k, r)) : RBody L1 w1 k fv qv kv l K s :=
  ⟨h.1.keep hL hf (hm _ (by simp)), h.2.1.keep hL hf (hm _ (by simp)), ⟨h.2.2.1.1.keep hL hf (hm _ (by simp)), h.2.2.1.2⟩, h.2.2.2⟩

theorem RAt.keep (h : RAt L w k d l K s) (hL : Fresh L w) (hf : Fr M L w L1 w1) (hm : ∀ r, ¬ M (k, r)) : RAt L1 w1 k d l K s := by
  obtain ⟨fv, qv, kv, a1, a2, a3⟩ := h
  exact ⟨fv, qv, kv, hf.lab_of hL a1, (hf.keeps hL a1 (hm _)).trans a2, a3.keep hL hf (fun r _ => hm r)⟩

theorem RAt.setD (hL : Fresh L w) (hd : L d = some (k, .disk)) (hb : w.heap[d]? = some (.cells (rcells fv qv kv s) 86 (0, 0))) (i : Nat) (u : Value)
    (he : (rcells fv qv kv s).setIfInBounds i u = rcells fv qv kv s') (hbody : RBody L w k fv qv kv l K s') : RAt L (w.setCell ⟨d, i, none⟩ u) k d l K s' :=
  ⟨fv, qv, kv, hd, by rw [← he]; exact blk_set hb i u, hbody.keep hL (Fr.setD hL hd i u) (fun r hr e => hr (by injection e))⟩
end

theorem rdown_any {L : Lab} {w : World} {k d : Nat} {l : List Fl} {K : List Int} {s : St} (h : RAt L w k d l K s) : Calls Try.prog 16 #[.pointer (some ⟨d, 0, none⟩)] w fun e w' => e = .returned (.bool s.down) ∧ w = w' := by
  obtain ⟨fv, qv, kv, hd, hb, _⟩ := h
  have c3 := blk_cell hb 3
  simp [rcells] at c3
  clear hb
  go_enter Try.func16, Try.ntmps16
  go_wp2_with fail
  go_ret
  exact ⟨rfl, rfl⟩

theorem rstart_any {L : Lab} {w : World} {k d : Nat} {l : List Fl} {K : List Int} {s : St} (hL : Fresh L w) (h : RAt L w k d l K s) :
    Calls Try.prog 40 #[.pointer (some ⟨d, 0, none⟩)] w fun e w' => e = .returned (.tuple #[]) ∧ RAt L w' k d l K s.start ∧ Fr (MD k) L w L w' := by
  obtain ⟨fv, qv, kv, hd, hb, hbody⟩ := h
  have c3 := blk_cell hb 3
  have f3 := blk_free hb 3
  simp [rcells] at c3
  have HB := Lib.hid hb
  clear hb
  go_enter Try.func40, Try.ntmps40
  go_wp2_with fail
  go_end0
  exact ⟨rfl, RAt.setD hL hd HB.out 3 _ rfl hbody, Fr.setD hL hd _ _⟩

theorem rlose_any {L : Lab} {w : World} {k d : Nat} {l : List Fl} {K : List Int} {s : St} (n : Int) (hL : Fresh L w) (h : RAt L w k d l K s) :
    Calls Try.prog 34 #[.pointer (some ⟨d, 0, none⟩), .int .i64 n] w fun e w' => e = .returned (.tuple #[]) ∧ RAt L w' k d l K (s.lose n) ∧ Fr (MD k) L w L w' := by
  obtain ⟨fv, qv, kv, hd, hb, hbody⟩ := h
  have c2 := blk_cell hb 2
  have f2 := blk_free hb 2
  simp [rcells] at c2
  have HB := Lib.hid hb
  clear hb
  by_cases hn : 0 ≤ n
  · have H : Hid (max n 0 = n) := show _ = _ by omega
    go_enter Try.func34, Try.ntmps34
    go_wp2_with fail
    all_goals
      go_end0
      exact ⟨rfl, RAt.setD hL hd HB.out 2 _ (by simp [rcells, St.lose]; omega) hbody, Fr.setD hL hd _ _⟩
  · have H : Hid (max n 0 = 0) := show _ = _ by omega
    go_enter Try.func34, Try.ntmps34
    go_wp2_with fail
    all_goals
      go_end0
      exact ⟨rfl, RAt.setD hL hd HB.out 2 _ (by simp [rcells, St.lose]; omega) hbody, Fr.setD hL hd _ _⟩

theorem rmay_any {L : Lab} {w : World} {k d : Nat} {l : List Fl} {K : List Int} {s : St} (f : Int) (h : RAt L w k d l K s) :
    Calls Try.prog 68 #[.pointer (some ⟨d, 0, none⟩), .int .i64 f] w fun e w' => e = .returned (.int .i64 (s.ready f)) ∧ w = w' := by
  obtain ⟨fv, qv, kv, hd, hb, _⟩ := h
  have c3 := blk_cell hb 3
  simp [rcells] at c3
  clear hb
  rcases Bool.eq_false_or_eq_true s.down with hdn | hdn
  · have H : Hid (s.ready f = 8) := show _ = _ by unfold St.ready; rw [if_pos hdn]
    rw [hdn] at c3
    go_enter Try.func68, Try.ntmps68
    go_wp2_with fail
    go_ret
    rw [H.out]
    exact ⟨rfl, rfl⟩
  · rw [hdn] at c3
    by_cases h0 : f < 0
    · have H : Hid (s.ready f = 1) := show _ = _ by unfold St.ready; rw [hdn, if_neg Bool.false_ne_true, if_neg (by rw [isFile_iff]; omega)]
      go_enter Try.func68, Try.ntmps68
      go_wp2_with fail
      go_ret
      rw [H.out]
      exact ⟨rfl, rfl⟩
    · by_cases h1 : 15 < f
      · have H : Hid (s.ready f = 1) := show _ = _ by unfold St.ready; rw [hdn, if_neg Bool.false_ne_true, if_neg (by rw [isFile_iff]; omega)]
        go_enter Try.func68, Try.ntmps68
        go_wp2_with fail
        go_ret
        rw [H.out]
        exact ⟨rfl, rfl⟩
      · have H : Hid (s.ready f = 0) := show _ = _ by unfold St.ready; rw [hdn, if_neg Bool.false_ne_true, if_pos (by rw [isFile_iff]; omega)]
        go_enter Try.func68, Try.ntmps68
        go_wp2_with fail
        go_ret
        rw [H.out]
        exact ⟨rfl, rfl⟩

end Go.Proofs.Ytgocnjiabfmdpaa

namespace Go.Proofs.Ytgocnjiabfmdpaa
set_option maxRecDepth 8000
open Go.RowKit

theorem fc_get (l : List Fl) (j : Nat) (h : j < l.length) : (fc l)[3 * j]? = some (.int .i64 l[j].num) ∧ (fc l)[3 * j + 1]? = some (.string (ba l[j].now)) ∧ (fc l)[3 * j + 2]? = some (.string (ba l[j].last)) := by
  induction l generalizing j with
  | nil => simp at h
  | cons p l ih =>
    cases j with
    | zero => simp [fc]
    | succ j =>
      have h1 := ih j (by simpa using h)
      have e1 : 3 * (j + 1) = 3 * j + 1 + 1 + 1 := by omega
      have e3 : 3 * j + 1 + 1 + 1 + 2 = 3 * j + 2 + 1 + 1 + 1 := by omega
      simp only [fc, List.flatMap_cons] at h1 ⊢
      rw [e1, e3]
      simpa using h1

theorem own_files {w : World} {v : Value} {l : List Fl} (h : w.ownsRow 0 90 3 v l.length (fc l)) : ∃ A c, v = .slice A l.length c ∧ l.length ≤ 9223372036854775807 ∧ ∀ j (hj : j < l.length), ∃ g, A = some ⟨g, 0, none⟩ ∧ g < w.heap.size ∧
    w.cell? ⟨g, j * 3, none⟩ = some (.int .i64 l[j].num) ∧ w.cell? ⟨g, j * 3 + 1, none⟩ = some (.string (ba l[j].now)) ∧ w.cell? ⟨g, j * 3 + 2, none⟩ = some (.string (ba l[j].last)) := by
  rcases own_form h with ⟨rfl, hz⟩ | ⟨g, c, rfl, hnc, hc1⟩
  · exact ⟨none, 0, by rw [hz], by omega, fun j hj => by omega⟩
  · refine ⟨_, c, rfl, by omega, fun j hj => ⟨g, rfl, ((h.lt) g rfl).2, ?_⟩⟩
    obtain ⟨f1, f2, f3⟩ := fc_get l j hj
    have hc := h.cells (g := g) rfl
    have key : ∀ i u, (fc l)[i]? = some u → w.cell? ⟨g, i, none⟩ = some u := fun i u hu => by
      have := hc i u hu
      rwa [Go.WideShapes.add_plain, Nat.zero_add] at this
    exact ⟨by rw [Nat.mul_comm]; exact key _ _ f1, by rw [Nat.mul_comm]; exact key _ _ f2, by rw [Nat.mul_comm]; exact key _ _ f3⟩

theorem getF_drop (l : List Fl) (f : Int) (j : Nat) (hj : j < l.length) : getF (l.drop j) f = if l[j].num = f then l[j] else getF (l.drop (j + 1)) f := by
  rw [List.drop_eq_getElem_cons hj]
  rfl

def fval (x : Fl) : Value := .agg #[.int .i64 x.num, .string (ba x.now), .string (ba x.last)]

set_option maxRecDepth 100000 in
set_option maxHeartbeats 1000000 in
theorem rget_any {L : Lab} {w : World} {k d : Nat} {l : List Fl} {K : List Int} {s : St} (f : Int) (h : RAt L w k d l K s) :
    Calls Try.prog 59 #[.pointer (some ⟨d, 0, none⟩), .int .i64 f] w fun e w' => e = .returned (fval (getF l f)) ∧ Below w.heap.size w w' := by
  obtain ⟨fv, qv, kv, hd, hb, hbody⟩ := h
  have c0 := blk_cell hb 0
  have ld := blk_lt hb
  simp [rcells] at c0
  obtain ⟨A, c, rfl, hm, hcells⟩ := own_files hbody.1.1
  have HC := Lib.hid hcells
  clear hb hbody hcells hd
  go_enter Try.func59, Try.ntmps59
  go_wp2_with fail
  go_loopw [5] (fun i wr => ∃ j : Nat, j ≤ l.length ∧ i = .int .i64 j ∧ Hid (wr = w.alloc (.cells #[.int .i64 0, .string ByteArray.empty, .string ByteArray.empty] 90 (0, 0)) ∧ getF (l.drop j) f = getF l f)) (fun i _ => l.length - (intOf i).toNat)
  case atStart => exact ⟨0, Nat.zero_le _, rfl, rfl, rfl⟩
  case round =>
    obtain ⟨j, hj, rfl, HR⟩ := hrel
    obtain ⟨hw, hg⟩ := HR.out
    subst hw
    have c0' := (World.cell?_alloc_lt w (.cells #[.int .i64 0, .string ByteArray.empty, .string ByteArray.empty] 90 (0, 0)) ⟨d, 0, none⟩ ld).trans c0
    have r0 : (w.alloc (.cells #[.int .i64 0, .string ByteArray.empty, .string ByteArray.empty] 90 (0, 0))).heap[w.heap.size]? = some (.cells #[.int .i64 0, .string ByteArray.empty, .string ByteArray.empty] 90 (0, 0)) := heap_alloc_new w _
    by_cases hlt : j < l.length
    · obtain ⟨g, rfl, lg, h1, h2, h3⟩ := HC.out j hlt
      have hgd := getF_drop l f j hlt
      obtain ⟨x, hx⟩ : ∃ x, l[j] = x := ⟨_, rfl⟩
      rw [hx] at h1 h2 h3 hgd
      have h1' := (World.cell?_alloc_lt w (.cells #[.int .i64 0, .string ByteArray.empty, .string ByteArray.empty] 90 (0, 0)) ⟨g, j * 3, none⟩ lg).trans h1
      have h2' := (World.cell?_alloc_lt w (.cells #[.int .i64 0, .string ByteArray.empty, .string ByteArray.empty] 90 (0, 0)) ⟨g, j * 3 + 1, none⟩ lg).trans h2
      have h3' := (World.cell?_alloc_lt w (.cells #[.int .i64 0, .string ByteArray.empty, .string ByteArray.empty] 90 (0, 0)) ⟨g, j * 3 + 2, none⟩ lg).trans h3
      have HG := Lib.hid (And.intro hg (And.intro hgd hx))
      clear hg hgd hx HR h1 h2 h3
      by_cases hnf : x.num = f
      · go_wp2_with fail
        refine bodyPost_ret (results_cell_row rfl _ _ w.heap.size 90 _ (0, 0) _ rfl (heap_alloc_new w _) Try.underlying90 rfl (by kernel_rfl)) rfl ?_
        rw [← HG.out.1, HG.out.2.1, if_pos hnf, ← hnf]
        exact ⟨rfl, (Below.refl _ _).alloc (Nat.le_refl _) _⟩
      · go_wp2_with fail
        go_roundw
        case rel => exact ⟨j + 1, by omega, by go_num, trivial, by rw [← HG.out.1, HG.out.2.1, if_neg hnf]⟩
        case measure => simp [intOf]; omega
    · have hje : j = l.length := by omega
      subst hje
      rw [List.drop_length] at hg
      have HG := Lib.hid hg
      clear hg HR
      go_wp2_with fail
      refine bodyPost_ret (results_cell_row rfl _ _ w.heap.size 90 _ (0, 0) _ rfl (heap_alloc_new w _) Try.underlying90 rfl (by kernel_rfl)) rfl ?_
      rw [← HG.out]
      exact ⟨rfl, (Below.refl _ _).alloc (Nat.le_refl _) _⟩

end Go.Proofs.Ytgocnjiabfmdpaa

namespace Go.Proofs.Ytgocnjiabfmdpaa
set_option maxRecDepth 8000
open Go.RowKit

theorem ba_cut (x : List UInt8) (a b : Nat) : (ba x).extract a b = ba ((x.drop a).take (b - a)) := by
  rw [← ba_of ((ba x).extract a b), Go.Lib.extract_data, ba_toList]

theorem field1 (w : World) (a b c : Value) : (Instr.field 90 (.agg #[a, b, c]) 1).run Try.prog w = .ok b w := by kernel_rfl

set_option maxRecDepth 100000 in
set_option maxHeartbeats 1000000 in
theorem rsize_any {L : Lab} {w : World} {k d : Nat} {l : List Fl} {K : List Int} {s : St} (f : Int) (h : RAt L w k d l K s) :
    Calls Try.prog 18 #[.pointer (some ⟨d, 0, none⟩), .int .i64 f] w fun e w' => e = .returned (.int .i64 ((s.now f).length : Int)) ∧ Below w.heap.size w w' := by
  have hn : (getF l f).now = s.now f := by obtain ⟨fv, qv, kv, _, _, hb⟩ := h; exact (hb.2.2.2 f).1
  have hsz : (ba (getF l f).now).size = (s.now f).length := by rw [hn]; exact ba_size _
  have HS := Lib.hid hsz
  clear hsz hn
  go_enter Try.func18, Try.ntmps18
  go_wp2_with fail
  refine (rget_any f h).mono ?_
  rintro e w1 ⟨rfl, hb⟩
  unfold fval
  have hsz := HS.out
  have hfld := field1
  go_wp2_with fail
  go_ret
  exact ⟨rfl, hb⟩

theorem own_pairs {w : World} {v : Value} {l : List (Int × Int)} (h : w.ownsRow 0 107 2 v l.length (pc l)) : ∃ A c, v = .slice A l.length c ∧ l.length ≤ 9223372036854775807 ∧ ∀ j (hj : j < l.length), ∃ g, A = some ⟨g, 0, none⟩ ∧ g < w.heap.size ∧
    w.cell? ⟨g, j * 2, none⟩ = some (.int .i64 l[j].1) ∧ w.cell? ⟨g, j * 2 + 1, none⟩ = some (.int .i64 l[j].2) := by
  rcases own_form h with ⟨rfl, hz⟩ | ⟨g, c, rfl, hnc, hc1⟩
  · exact ⟨none, 0, by rw [hz], by omega, fun j hj => by omega⟩
  · refine ⟨_, c, rfl, by omega, fun j hj => ⟨g, rfl, ((h.lt) g rfl).2, ?_⟩⟩
    obtain ⟨f1, f2⟩ := pc_get l j hj
    have hc := h.cells (g := g) rfl
    have key : ∀ i u, (pc l)[i]? = some u → w.cell? ⟨g, i, none⟩ = some u := fun i u hu => by
      have := hc i u hu
      rwa [Go.WideShapes.add_plain, Nat.zero_add] at this
    exact ⟨by rw [Nat.mul_comm]; exact key _ _ f1, by rw [Nat.mul_comm]; exact key _ _ f2⟩

set_option maxRecDepth 100000 in
set_option maxHeartbeats 1000000 in
theorem rpending_any {L : Lab} {w : World} {k d : Nat} {l : List Fl} {K : List Int} {s : St} (f n : Int) (h : RAt L w k d l K s) (hi : ∀ f n, (f, n) ∈ s.pend ↔ s.sec f n = true) :
    Calls Try.prog 102 #[.pointer (some ⟨d, 0, none⟩), .int .i64 f, .int .i64 n] w fun e w' => e = .returned (.bool (s.sec f n)) ∧ w = w' := by
  obtain ⟨fv, qv, kv, hd, hb, hbody⟩ := h
  have c1 := blk_cell hb 1
  simp [rcells] at c1
  obtain ⟨A, c, rfl, hm, hcells⟩ := own_pairs hbody.2.1.1
  have HC := Lib.hid (And.intro hcells hi)
  clear hb hbody hcells hd hi
  go_enter Try.func102, Try.ntmps102
  go_wp2_with fail
  go_loop [7] (fun i => ∃ j : Nat, j ≤ s.pend.length ∧ i = .int .i64 j ∧ Hid (∀ i (hil : i < s.pend.length), i < j → s.pend[i] ≠ (f, n))) (fun i => s.pend.length - (intOf i).toNat)
  case atStart => exact ⟨0, Nat.zero_le _, rfl, fun i _ hi => by omega⟩
  case round =>
    obtain ⟨j, hj, rfl, HN⟩ := hrel
    by_cases hlt : j < s.pend.length
    · obtain ⟨g, rfl, lg, h1, h2⟩ := HC.out.1 j hlt
      obtain ⟨p, hp⟩ : ∃ p, s.pend[j] = p := ⟨_, rfl⟩
      rw [hp] at h1 h2
      have HP := Lib.hid hp
      clear hp
      have hnext : p ≠ (f, n) → Hid (∀ i (hil : i < s.pend.length), i < j + 1 → s.pend[i] ≠ (f, n)) := fun hne i hil hi => by
        by_cases hij : i = j
        · subst hij; rw [HP.out]; exact hne
        · exact HN.out i hil (by omega)
      by_cases h3 : p.1 = f
      · by_cases h4 : p.2 = n
        · have HR : Hid (s.sec f n = true) := show _ = _ by
            refine (HC.out.2 f n).1 ?_
            rw [← h3, ← h4]
            show p ∈ s.pend
            rw [← HP.out]; exact List.getElem_mem hlt
          clear hnext
          go_wp2_with fail
          go_ret
          rw [HR.out]
          exact ⟨rfl, rfl⟩
        · have HX := hnext (fun e => h4 (by rw [e]))
          clear hnext
          go_wp2_with fail
          go_round
          case rel => exact ⟨j + 1, by omega, by go_num, HX⟩
          case measure => simp [intOf]; omega
      · have HX := hnext (fun e => h3 (by rw [e]))
        clear hnext
        go_wp2_with fail
        go_round
        case rel => exact ⟨j + 1, by omega, by go_num, HX⟩
        case measure => simp [intOf]; omega
    · have HR : Hid (s.sec f n = false) := show _ = _ by
        cases hb : s.sec f n with
        | false => rfl
        | true =>
          obtain ⟨i, hil, he⟩ := List.getElem_of_mem ((HC.out.2 f n).2 hb)
          exact absurd he (HN.out i hil (by omega))
      go_wp2_with fail
      go_ret
      rw [HR.out]
      exact ⟨rfl, rfl⟩

set_option maxRecDepth 100000 in
set_option maxHeartbeats 1000000 in
theorem rread_any {L : Lab} {w : World} {k d : Nat} {l : List Fl} {K : List Int} {s : St} (f a z : Int) (h : RAt L w k d l K s) (hi : Inv s) (hz : z ≤ 9223372036854775807) :
    Calls Try.prog 22 #[.pointer (some ⟨d, 0, none⟩), .int .i64 f, .int .i64 a, .int .i64 z] w fun e w' => e = .returned (.tuple #[.string (ba (s.read f a z).1), .int .i64 (s.read f a z).2]) ∧ Below w.heap.size w w' := by
  have hn : (getF l f).now = s.now f := by obtain ⟨fv, qv, kv, _, _, hb⟩ := h; exact (hb.2.2.2 f).1
  have hcap := hi.cap f
  have hfld := field1
  by_cases hr : s.ready f = 0
  · have H : s.read f a z = if a < 0 ∨ z < 0 then ([], 1) else (part (s.now f) a z, 0) := by unfold St.read; rw [if_neg (fun hh => hh hr)]
    by_cases h1 : a < 0
    · have HR : Hid (s.read f a z = ([], 1)) := show _ = _ by rw [H, if_pos (Or.inl h1)]
      clear H hn hcap
      go_enter Try.func22, Try.ntmps22
      go_wp2_with fail
      refine (rmay_any f h).mono ?_
      rintro e w1 ⟨rfl, rfl⟩
      rw [hr]
      go_wp2_with fail
      go_ret2
      rw [HR.out]
      exact ⟨rfl, Below.refl _ _⟩
    · by_cases h2 : z < 0
      · have HR : Hid (s.read f a z = ([], 1)) := show _ = _ by rw [H, if_pos (Or.inr h2)]
        clear H hn hcap
        go_enter Try.func22, Try.ntmps22
        go_wp2_with fail
        refine (rmay_any f h).mono ?_
        rintro e w1 ⟨rfl, rfl⟩
        rw [hr]
        go_wp2_with fail
        go_ret2
        rw [HR.out]
        exact ⟨rfl, Below.refl _ _⟩
      · obtain ⟨x, hx⟩ : ∃ x, x = s.now f := ⟨_, rfl⟩
        obtain ⟨n, hnl⟩ : ∃ n, n = x.length := ⟨_, rfl⟩
        have hsz : (ba x).size = n := by rw [hnl]; exact ba_size x
        rw [← hx] at hn hcap
        rw [← hnl] at hcap
        have HR : Hid (s.read f a z = (part x a z, 0)) := show _ = _ by rw [H, if_neg (by omega), hx]
        clear H hx
        obtain ⟨a', rfl⟩ := Int.eq_ofNat_of_zero_le (show 0 ≤ a by omega)
        obtain ⟨z', rfl⟩ := Int.eq_ofNat_of_zero_le (show 0 ≤ z by omega)
        have HN := Lib.hid hn
        have HL := Lib.hid hnl
        clear hn hnl
        by_cases h3 : (n : Int) ≤ (a' : Int)
        · go_enter Try.func22, Try.ntmps22
          go_wp2_with fail
          refine (rmay_any f h).mono ?_
          rintro e w1 ⟨rfl, rfl⟩
          rw [hr]
          go_wp2_with fail
          refine (rget_any f h).mono ?_
          rintro e w1 ⟨rfl, hb⟩
          unfold fval
          rw [HN.out]
          go_wp2_with fail
          go_ret2
          rw [HR.out]
          refine ⟨?_, hb⟩
          unfold part
          rw [Int.toNat_natCast, List.drop_of_length_le (by rw [← HL.out]; omega)]
          simp [ba]
        · by_cases h4 : (z' : Int) ≤ (n : Int) - (a' : Int)
          · have hmin : min (z' : Int) ((n : Int) - a') = z' := by omega
            go_enter Try.func22, Try.ntmps22
            go_wp2_with fail
            refine (rmay_any f h).mono ?_
            rintro e w1 ⟨rfl, rfl⟩
            rw [hr]
            go_wp2_with fail
            refine (rget_any f h).mono ?_
            rintro e w1 ⟨rfl, hb⟩
            unfold fval
            rw [HN.out]
            go_wp2_with fail
            go_ret2
            rw [HR.out, ba_cut]
            refine ⟨?_, hb⟩
            unfold part
            rw [Int.toNat_natCast, Int.toNat_natCast, show a' + z' - a' = z' by omega]
            rfl
          · have hmin : min (z' : Int) ((n : Int) - a') = (n : Int) - a' := by omega
            go_enter Try.func22, Try.ntmps22
            go_wp2_with fail
            refine (rmay_any f h).mono ?_
            rintro e w1 ⟨rfl, rfl⟩
            rw [hr]
            go_wp2_with fail
            refine (rget_any f h).mono ?_
            rintro e w1 ⟨rfl, hb⟩
            unfold fval
            rw [HN.out]
            go_wp2_with fail
            go_ret2
            rw [HR.out, ba_cut]
            refine ⟨?_, hb⟩
            unfold part
            rw [Int.toNat_natCast, Int.toNat_natCast, List.take_of_length_le (by rw [List.length_drop, ← HL.out]; omega), List.take_of_length_le (by rw [List.length_drop, ← HL.out]; omega)]
            rfl
  · have HR : Hid (s.read f a z = ([], s.ready f)) := show _ = _ by unfold St.read; rw [if_pos hr]
    have hr2 : (s.ready f == 0) = false := beq_eq_false_iff_ne.2 hr
    clear hn hcap
    go_enter Try.func22, Try.ntmps22
    go_wp2_with fail
    refine (rmay_any f h).mono ?_
    rintro e w1 ⟨rfl, rfl⟩
    go_wp2_with fail
    go_ret2
    rw [HR.out]
    exact ⟨rfl, Below.refl _ _⟩

end Go.Proofs.Ytgocnjiabfmdpaa

namespace Go.Proofs.Ytgocnjiabfmdpaa
set_option maxRecDepth 8000
open Go.RowKit

theorem rnew_any {L : Lab} {w : World} (k : Nat) (hL : Fresh L w) : Calls Try.prog 12 #[] w fun e w' => ∃ d L', e = .returned (.pointer (some ⟨d, 0, none⟩)) ∧ RAt L' w' k d [] [] St.new ∧ Fr (fun _ => False) L w L' w' := by
  go_enter Try.func12, Try.ntmps12
  go_wp2_with fail
  go_ret
  refine ⟨w.heap.size, setL L w.heap.size (k, .disk), rfl, ⟨.slice none 0 0, .slice none 0 0, .slice none 0 0, setL_same _ _ _, heap_alloc_new w _, Sl.nil _ _ _ _ _, Sl.nil _ _ _ _ _, ⟨Sl.nil _ _ _ _ _, FewF.nil⟩, Reads.new⟩, ((Fr.refl hL).alloc _).label (Nat.le_refl _) (by simp) _⟩

end Go.Proofs.Ytgocnjiabfmdpaa
