/- The reference's disk in memory; its small methods. -/
import Derived.Test.YtgocnjiabfmdpaaDWp
import Derived.Test.YtgocnjiabfmdpaaDYa
namespace Go.Proofs.Ytgocnjiabfmdpaa
set_option maxRecDepth 8000
open Go.RowKit

def fc (l : List Fl) : List Value := l.flatMap (fun x => [.int .i64 x.num, .string (ba x.now), .string (ba x.last)])

theorem fc_length (l : List Fl) : (fc l).length = l.length * 3 := by
  induction l with
  | nil => rfl
  | cons p l ih => simp only [fc, List.flatMap_cons, List.length_append, List.length_cons, List.length_nil] at ih ⊢; omega

def rcells (fv qv kv : Value) (s : St) : Array Value := #[fv, qv, .int .i64 s.lost, .bool s.down, .int .i64 s.armed, kv]

def RBody (L : Lab) (w : World) (k : Nat) (fv qv kv : Value) (l : List Fl) (K : List Int) (s : St) : Prop :=
  Sl L w 90 3 fv l.length (fc l) (k, .files) ∧ Sl L w 107 2 qv s.pend.length (pc s.pend) (k, .list) ∧ (Sl L w 3 1 kv K.length (ic K) (k, .keep) ∧ FewF l) ∧ Reads l s

/-- The reference's disk, number k, at block d. -/
def RAt (L : Lab) (w : World) (k d : Nat) (l : List Fl) (K : List Int) (s : St) : Prop :=
  ∃ fv qv kv, L d = some (k, .disk) ∧ w.heap[d]? = some (.cells (rcells fv qv kv s) 86 (0, 0)) ∧ RBody L w k fv qv kv l K s

section
variable {M : Nat × Role → Prop} {L L1 : Lab} {w w1 : World} {k d : Nat} {fv qv kv : Value} {l : List Fl} {K : List Int} {s s' : St}

theorem RBody.keep (h : RBody L w k fv qv kv l K s) (hL : Fresh L w) (hf : Fr M L w L1 w1) (hm : ∀ r, r ≠ Role.disk → ¬ M (k, r)) : RBody L1 w1 k fv qv kv l K s :=
  ⟨h.1.keep hL hf (hm _ (by simp)), h.2.1.keep hL hf (hm _ (by simp)), ⟨h.2.2.1.1.keep hL hf (hm _ (by simp)), h.2.2.1.2⟩, h.2.2.2⟩

theorem RAt.keep (h : RAt L w k d l K s) (hL : Fresh L w) (hf : Fr M L w L1 w1) (hm : ∀ r, ¬ M (k, r)) : RAt L1 w1 k d l K s := by
  obtain ⟨fv, qv, kv, a1, a2, a3⟩ := h
  exact ⟨fv, qv, kv, hf.lab_of hL a1, (hf.keeps hL a1 (hm _)).trans a2, a3.keep hL hf (fun r _ => hm r)⟩

theorem RAt.setD (hL : Fresh L w) (hd : L d = some (k, .disk)) (hb : w.heap[d]? = some (.cells (rcells fv qv kv s) 86 (0, 0))) (i : Nat) (u : Value)
    (he : (rcells fv qv kv s).setIfInBounds i u = rcells fv qv kv s') (hbody : RBody L w k fv qv kv l K s') : RAt L (w.setCell ⟨d, i, none⟩ u) k d l K s' :=
  ⟨fv, qv, kv, hd, by rw [← he]; exact blk_set hb i u, hbody.keep hL (Fr.setD hL hd i u) (fun r hr e => hr (by injection e))⟩
end

theorem rdown_any {L : Lab} {w : World} {k d : Nat} {l : List Fl} {K : List Int} {s : St} (h : RAt L w k d l K s) : Calls Try.prog 16 #[.pointer (some ⟨d, 0, none⟩)] w fun e w' => e = .returned (.bool s.down) ∧ w = w' := by
  obtain ⟨fv, qv, kv, hd, hb, _⟩ := h
  have c3 := blk_cell hb 3
  simp [rcells] at c3
  clear hb
  go_enter Try.func16, Try.ntmps16
  go_wp2_with fail
  go_ret
  exact ⟨rfl, rfl⟩

theorem rstart_any {L : Lab} {w : World} {k d : Nat} {l : List Fl} {K : List Int} {s : St} (hL : Fresh L w) (h : RAt L w k d l K s) :
    Calls Try.prog 40 #[.pointer (some ⟨d, 0, none⟩)] w fun e w' => e = .returned (.tuple #[]) ∧ RAt L w' k d l K s.start ∧ Fr (MD k) L w L w' := by
  obtain ⟨fv, qv, kv, hd, hb, hbody⟩ := h
  have c3 := blk_cell hb 3
  have f3 := blk_free hb 3
  simp [rcells] at c3
  have HB := Lib.hid hb
  clear hb
  go_enter Try.func40, Try.ntmps40
  go_wp2_with fail
  go_end0
  exact ⟨rfl, RAt.setD hL hd HB.out 3 _ rfl hbody, Fr.setD hL hd _ _⟩

theorem rlose_any {L : Lab} {w : World} {k d : Nat} {l : List Fl} {K : List Int} {s : St} (n : Int) (hL : Fresh L w) (h : RAt L w k d l K s) :
    Calls Try.prog 34 #[.pointer (some ⟨d, 0, none⟩), .int .i64 n] w fun e w' => e = .returned (.tuple #[]) ∧ RAt L w' k d l K (s.lose n) ∧ Fr (MD k) L w L w' := by
  obtain ⟨fv, qv, kv, hd, hb, hbody⟩ := h
  have c2 := blk_cell hb 2
  have f2 := blk_free hb 2
  simp [rcells] at c2
  have HB := Lib.hid hb
  clear hb
  by_cases hn : 0 ≤ n
  · have H : Hid (max n 0 = n) := show _ = _ by omega
    go_enter Try.func34, Try.ntmps34
    go_wp2_with fail
    all_goals
      go_end0
      exact ⟨rfl, RAt.setD hL hd HB.out 2 _ (by simp [rcells, St.lose]; omega) hbody, Fr.setD hL hd _ _⟩
  · have H : Hid (max n 0 = 0) := show _ = _ by omega
    go_enter Try.func34, Try.ntmps34
    go_wp2_with fail
    all_goals
      go_end0
      exact ⟨rfl, RAt.setD hL hd HB.out 2 _ (by simp [rcells, St.lose]; omega) hbody, Fr.setD hL hd _ _⟩

theorem rmay_any {L : Lab} {w : World} {k d : Nat} {l : List Fl} {K : List Int} {s : St} (f : Int) (h : RAt L w k d l K s) :
    Calls Try.prog 68 #[.pointer (some ⟨d, 0, none⟩), .int .i64 f] w fun e w' => e = .returned (.int .i64 (s.ready f)) ∧ w = w' := by
  obtain ⟨fv, qv, kv, hd, hb, _⟩ := h
  have c3 := blk_cell hb 3
  simp [rcells] at c3
  clear hb
  rcases Bool.eq_false_or_eq_true s.down with hdn | hdn
  · have H : Hid (s.ready f = 8) := show _ = _ by unfold St.ready; rw [if_pos hdn]
    rw [hdn] at c3
    go_enter Try.func68, Try.ntmps68
    go_wp2_with fail
    go_ret
    rw [H.out]
    exact ⟨rfl, rfl⟩
  · rw [hdn] at c3
    by_cases h0 : f < 0
    · have H : Hid (s.ready f = 1) := show _ = _ by unfold St.ready; rw [hdn, if_neg Bool.false_ne_true, if_neg (by rw [isFile_iff]; omega)]
      go_enter Try.func68, Try.ntmps68
      go_wp2_with fail
      go_ret
      rw [H.out]
      exact ⟨rfl, rfl⟩
    · by_cases h1 : 15 < f
      · have H : Hid (s.ready f = 1) := show _ = _ by unfold St.ready; rw [hdn, if_neg Bool.false_ne_true, if_neg (by rw [isFile_iff]; omega)]
        go_enter Try.func68, Try.ntmps68
        go_wp2_with fail
        go_ret
        rw [H.out]
        exact ⟨rfl, rfl⟩
      · have H : Hid (s.ready f = 0) := show _ = _ by unfold St.ready; rw [hdn, if_neg Bool.false_ne_true, if_pos (by rw [isFile_iff]; omega)]
        go_enter Try.func68, Try.ntmps68
        go_wp2_with fail
        go_ret
        rw [H.out]
        exact ⟨rfl, rfl⟩

end Go.Proofs.Ytgocnjiabfmdpaa
