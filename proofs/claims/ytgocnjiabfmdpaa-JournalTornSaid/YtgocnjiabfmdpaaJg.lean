/- Walk of Open. -/
import Derived.Test.YtgocnjiabfmdpaaJf
namespace Go.Proofs.Ytgocnjiabfmdpaa
set_option maxRecDepth 8000
open Go.RowKit Wire

/-- What Open makes of the disk. -/
def jopen (s : St) (f : Int) : (St × Option (List (List UInt8))) × Int :=
  if isFile f = false then ((s, none), 1)
  else if (s.sync f).2 ≠ 0 then (((s.sync f).1, none), (s.sync f).2)
  else if (jforms (jrecs ((s.sync f).1.now f))).length < ((s.sync f).1.now f).length then
    (if ((s.sync f).1.trunc f (jforms (jrecs ((s.sync f).1.now f))).length).2 ≠ 0 then ((((s.sync f).1.trunc f (jforms (jrecs ((s.sync f).1.now f))).length).1, none), ((s.sync f).1.trunc f (jforms (jrecs ((s.sync f).1.now f))).length).2)
     else ((((s.sync f).1.trunc f (jforms (jrecs ((s.sync f).1.now f))).length).1, some (jrecs ((s.sync f).1.now f))), 0))
  else (((s.sync f).1, some (jrecs ((s.sync f).1.now f))), 0)

theorem jopen_arg {s : St} {f : Int} (h : isFile f = false) : jopen s f = ((s, none), 1) := by unfold jopen; rw [if_pos h]
theorem jopen_sync {s : St} {f : Int} {r : St × Int} (h : isFile f = true) (hr : s.sync f = r) (h2 : r.2 ≠ 0) : jopen s f = ((r.1, none), r.2) := by
  unfold jopen; rw [if_neg (by simp [h]), hr, if_pos h2]
theorem jopen_whole {s s1 : St} {f : Int} (h : isFile f = true) (hr : s.sync f = (s1, 0)) (h2 : ¬ (jforms (jrecs (s1.now f))).length < (s1.now f).length) : jopen s f = ((s1, some (jrecs (s1.now f))), 0) := by
  unfold jopen; rw [if_neg (by simp [h]), hr, if_neg (by simp), if_neg h2]
theorem jopen_fail {s s1 : St} {f : Int} {r : St × Int} (h : isFile f = true) (hr : s.sync f = (s1, 0)) (h2 : (jforms (jrecs (s1.now f))).length < (s1.now f).length) (ht : s1.trunc f (jforms (jrecs (s1.now f))).length = r) (h3 : r.2 ≠ 0) : jopen s f = ((r.1, none), r.2) := by
  unfold jopen; rw [if_neg (by simp [h]), hr, if_neg (by simp), if_pos h2, ht, if_pos h3]
theorem jopen_cut {s s1 : St} {f : Int} {r : St × Int} (h : isFile f = true) (hr : s.sync f = (s1, 0)) (h2 : (jforms (jrecs (s1.now f))).length < (s1.now f).length) (ht : s1.trunc f (jforms (jrecs (s1.now f))).length = r) (h3 : r.2 = 0) : jopen s f = ((r.1, some (jrecs (s1.now f))), 0) := by
  unfold jopen; rw [if_neg (by simp [h]), hr, if_neg (by simp), if_pos h2, ht, if_neg (by simpa using h3)]

/-- Behind a sync that was in order the whole file can be read. -/
theorem sync_read {s s1 : St} {f : Int} (h : s.sync f = (s1, 0)) : s1.read f 0 (s1.size f) = (s1.now f, 0) ∧ s1.down = false := by
  unfold St.sync at h
  split at h
  · injection h with _ h; cases h
  · split at h
    · rename_i hr
      injection h with _ h
      exact absurd h hr
    · split at h
      · injection h with _ h; cases h
      · rename_i hh hr hl
        have hr : s.count.ready f = 0 := Classical.byContradiction hr
        injection h with h _
        subst h
        obtain ⟨h1, h2⟩ := ready_zero hr
        have hd : (s.count.synced f).down = false := h1
        refine ⟨?_, hd⟩
        have hz : (s.count.synced f).ready f = 0 := by unfold St.ready; rw [hd, h2]; rfl
        unfold St.read St.size part
        rw [if_neg (by simpa using hz), h2, if_pos rfl, if_neg (by omega)]
        simp

def OPost (L : Lab) (w : World) (k kj d : Nat) (f : Int) (r : (St × Option (List (List UInt8))) × Int) (e : Ending) (w' : World) : Prop :=
  ∃ L', DAt L' w' k d r.1.1 ∧ Fr (MA k) L w L' w' ∧
    ((r.1.2 = none ∧ e = .returned (.tuple #[.pointer none, .int .i64 r.2])) ∨ ∃ a j, r.1.2 = some a ∧ e = .returned (.tuple #[.pointer (some ⟨j, 0, none⟩), .int .i64 r.2]) ∧ JAt L' w' kj j d f a false)

theorem own_label {M : Nat × Role → Prop} {L L1 : Lab} {w w1 : World} {B size n : Nat} {e : TypeId} {v : Value} {xs : List Value} (t : Nat × Role) (h : Fr M L w L1 w1) (hown : w1.ownsRow B e size v n xs) (hB : w.heap.size ≤ B) : ∃ L2, Fr M L w L2 w1 ∧ Sl L2 w1 e size v n xs t := by
  have h0 : w1.ownsRow 0 e size v n xs := ⟨hown.1, by
    rcases hown.2 with h | ⟨g, cap, cur, e1, _, r⟩
    · exact .inl h
    · exact .inr ⟨g, cap, cur, e1, Nat.zero_le _, r⟩⟩
  cases hv : v.ownBlock with
  | none => exact ⟨L1, h, h0, fun g hg => by rw [hv] at hg; cases hg⟩
  | some g =>
    have hl := World.ownsRow.lt hown g hv
    exact ⟨setL L1 g t, h.label (by omega) hl.2 t, h0, fun g' hg' => by rw [hv] at hg'; injection hg' with hg'; subst hg'; exact setL_same _ _ _⟩

theorem jat_new {L : Lab} {w : World} {k kj d : Nat} {f : Int} {a : List (List UInt8)} {rv : Value} {s : St} {cs : Array Value} (hcs : cs = jcells d f rv a false) (hL : Fresh L w) (hd : DAt L w k d s) (hs : Sl L w 9 1 rv a.length (a.map strV) (kj, .list)) :
    ∃ L', DAt L' (w.alloc (.cells cs 101)) k d s ∧ JAt L' (w.alloc (.cells cs 101)) kj w.heap.size d f a false ∧ Fr (fun _ => False) L w L' (w.alloc (.cells cs 101)) := by
  subst hcs
  have f1 : Fr (fun _ => False) L w (setL L w.heap.size (kj, .disk)) (w.alloc (.cells (jcells d f rv a false) 101)) := ((Fr.refl hL).alloc _).label (Nat.le_refl _) (by simp) _
  exact ⟨_, hd.keep hL f1 (fun _ hh => hh), ⟨rv, setL_same _ _ _, heap_alloc_new w _, hs.keep hL f1 (fun hh => hh)⟩, f1⟩

set_option maxRecDepth 100000 in
set_option maxHeartbeats 4000000 in
theorem jopen_any {L : Lab} {w : World} {k d : Nat} {s : St} (kj : Nat) (f : Int) (hk : k ≠ kj) (hL : Fresh L w) (hd : DAt L w k d s) (hi : Inv s) (hf : isI64 f) :
    Calls Try.prog 25 #[.pointer (some ⟨d, 0, none⟩), .int .i64 f] w (OPost L w k kj d f (jopen s f)) := by
  cases hfile : isFile f
  · have HJ := Lib.hid (jopen_arg (s := s) hfile)
    by_cases h0 : f < 0
    · clear hfile
      go_enter Try.func25, Try.ntmps25
      go_wp2_with fail
      go_ret2
      rw [HJ.out]
      exact ⟨L, hd, Fr.refl hL, Or.inl ⟨rfl, rfl⟩⟩
    · have h1 : 16 ≤ f := by unfold isFile at hfile; simp at hfile; omega
      clear hfile
      go_enter Try.func25, Try.ntmps25
      go_wp2_with fail
      go_ret2
      rw [HJ.out]
      exact ⟨L, hd, Fr.refl hL, Or.inl ⟨rfl, rfl⟩⟩
  · have hff := isFile_iff.1 hfile
    have h0 : ¬ f < 0 := by omega
    have h16 : f < 16 := by omega
    have HI := Lib.hid hfile
    clear hfile hff
    obtain ⟨r, hr⟩ : ∃ r, s.sync f = r := ⟨_, rfl⟩
    have his : Inv (s.sync f).1 := hi.sync f
    rw [hr] at his
    by_cases hx : r.2 = 0
    · obtain ⟨s1, x⟩ := r
      simp only at hx
      subst hx
      obtain ⟨hrd, hdn⟩ := sync_read hr
      have HR := Lib.hid (And.intro hr (And.intro hrd (And.intro hdn his)))
      have hcap := his.cap f
      clear hrd hdn his
      obtain ⟨T, hT⟩ : ∃ T, T = s1.now f := ⟨_, rfl⟩
      simp only at hcap
      rw [← hT] at hcap
      have hlen := recs_len T
      have hbT : (ba T).size = T.length := ba_size T
      have hsz : s1.size f = (T.length : Nat) := by unfold St.size; rw [if_pos HI.out, hT]
      have HT := Lib.hid (And.intro hT hsz)
      clear hT hsz
      have hsm : (ba T).size ≤ 20000000 := by rw [hbT]; omega
      have HS := Lib.hid (And.intro hsm hlen)
      obtain ⟨A, hA⟩ : ∃ A, A = jrecs T := ⟨_, rfl⟩
      have hPost : ∀ W e W', RecsPost W (bts (ba T)) e W' → ∃ v, e = .returned (.tuple #[v, .int .i64 ((jforms A).length : Nat)]) ∧ OwnS W' W.heap.size v A ∧ Below W.heap.size W W' := fun W e W' h => by
        rw [hA]; exact h
      have HP := Lib.hid (And.intro hA hPost)
      have hlen' := hlen
      rw [← hA] at hlen'
      clear hsm hlen hA hPost
      by_cases hcut : (jforms A).length < T.length
      · obtain ⟨q, hq⟩ : ∃ q, s1.trunc f (jforms A).length = q := ⟨_, rfl⟩
        by_cases hy : q.2 = 0
        · have HJ : Hid (jopen s f = ((q.1, some A), 0)) := show _ = _ by
            have := jopen_cut HI.out HR.out.1 (by rw [← HT.out.1, ← HP.out.1]; exact hcut) (by rw [← HT.out.1, ← HP.out.1]; exact hq) hy
            rw [← HT.out.1, ← HP.out.1] at this
            exact this
          have HQ := Lib.hid hq
          clear hq
          obtain ⟨sq, y⟩ := q
          simp only at hy
          subst hy
          go_enter Try.func25, Try.ntmps25
          go_wp2_with fail
          refine (Sync_any f hL hd hi hf).mono ?_
          rw [HR.out.1]
          rintro e w1 ⟨rfl, L1, d1, f1⟩
          go_wp2_with fail
          refine (size_any f hf d1).mono ?_
          rintro e w2 ⟨rfl, rfl⟩
          go_wp2_with fail
          refine (read_any f 0 (s1.size f) hf d1).mono ?_
          rw [HR.out.2.1, ← HT.out.1]
          rintro e w2 ⟨rfl, rfl⟩
          go_wp2_with fail
          refine (recordsOf_any (ba T) _ HS.out.1).mono ?_
          rintro e w2 hp
          obtain ⟨v, rfl, hown, hb2⟩ := HP.out.2 _ _ _ hp
          have f2 : Fr (fun _ => False) L1 w1 L1 w2 := Fr.below f1.fresh hb2
          obtain ⟨L2, f2, hsl⟩ := own_label (kj, .list) f2 hown (Nat.le_refl _)
          have d2 := d1.keep f1.fresh f2 (fun _ hh => hh)
          obtain ⟨vA, vm, vc, rfl⟩ := own_slice hsl.1
          go_wp2_with fail
          refine (Trunc_any f ((jforms A).length : Nat) f2.fresh d2 HR.out.2.2.2 hf).mono ?_
          rw [HQ.out]
          rintro e w3 ⟨rfl, L3, d3, f3⟩
          have hsl3 := hsl.keep f2.fresh f3 (na' hk _)
          go_wp2_with fail
          go_ret2
          rw [HJ.out]
          obtain ⟨L4, d4, j4, f4⟩ := jat_new (f := f) (cs := #[.pointer (some ⟨d, 0, none⟩), .int .i64 f, .slice vA vm vc, .int .i64 ((jforms A).length : Nat), .bool false]) rfl f3.fresh d3 hsl3
          exact ⟨L4, d4, ((f1.trans (f2.mono (fun _ hh => hh.elim))).trans f3).trans (f4.mono (fun _ hh => hh.elim)), Or.inr ⟨A, _, rfl, rfl, j4⟩⟩
        · have HJ : Hid (jopen s f = ((q.1, none), q.2)) := show _ = _ by
            exact jopen_fail HI.out HR.out.1 (by rw [← HT.out.1, ← HP.out.1]; exact hcut) (by rw [← HT.out.1, ← HP.out.1]; exact hq) hy
          have HQ := Lib.hid hq
          clear hq
          obtain ⟨sq, y⟩ := q
          simp only at hy
          have hb : ((y : Int) != 0) = true := bne_iff_ne.2 hy
          go_enter Try.func25, Try.ntmps25
          go_wp2_with fail
          refine (Sync_any f hL hd hi hf).mono ?_
          rw [HR.out.1]
          rintro e w1 ⟨rfl, L1, d1, f1⟩
          go_wp2_with fail
          refine (size_any f hf d1).mono ?_
          rintro e w2 ⟨rfl, rfl⟩
          go_wp2_with fail
          refine (read_any f 0 (s1.size f) hf d1).mono ?_
          rw [HR.out.2.1, ← HT.out.1]
          rintro e w2 ⟨rfl, rfl⟩
          go_wp2_with fail
          refine (recordsOf_any (ba T) _ HS.out.1).mono ?_
          rintro e w2 hp
          obtain ⟨v, rfl, hown, hb2⟩ := HP.out.2 _ _ _ hp
          have f2 : Fr (fun _ => False) L1 w1 L1 w2 := Fr.below f1.fresh hb2
          have d2 := d1.keep f1.fresh f2 (fun _ hh => hh)
          go_wp2_with fail
          refine (Trunc_any f ((jforms A).length : Nat) f2.fresh d2 HR.out.2.2.2 hf).mono ?_
          rw [HQ.out]
          rintro e w3 ⟨rfl, L3, d3, f3⟩
          go_wp2_with fail
          go_ret2
          rw [HJ.out]
          exact ⟨L3, d3, (f1.trans (f2.mono (fun _ hh => hh.elim))).trans f3, Or.inl ⟨rfl, rfl⟩⟩
      · have HJ : Hid (jopen s f = ((s1, some A), 0)) := show _ = _ by
          have := jopen_whole HI.out HR.out.1 (by rw [← HT.out.1, ← HP.out.1]; exact hcut)
          rw [← HT.out.1, ← HP.out.1] at this
          exact this
        go_enter Try.func25, Try.ntmps25
        go_wp2_with fail
        refine (Sync_any f hL hd hi hf).mono ?_
        rw [HR.out.1]
        rintro e w1 ⟨rfl, L1, d1, f1⟩
        go_wp2_with fail
        refine (size_any f hf d1).mono ?_
        rintro e w2 ⟨rfl, rfl⟩
        go_wp2_with fail
        refine (read_any f 0 (s1.size f) hf d1).mono ?_
        rw [HR.out.2.1, ← HT.out.1]
        rintro e w2 ⟨rfl, rfl⟩
        go_wp2_with fail
        refine (recordsOf_any (ba T) _ HS.out.1).mono ?_
        rintro e w2 hp
        obtain ⟨v, rfl, hown, hb2⟩ := HP.out.2 _ _ _ hp
        have f2 : Fr (fun _ => False) L1 w1 L1 w2 := Fr.below f1.fresh hb2
        obtain ⟨L2, f2, hsl⟩ := own_label (kj, .list) f2 hown (Nat.le_refl _)
        have d2 := d1.keep f1.fresh f2 (fun _ hh => hh)
        obtain ⟨vA, vm, vc, rfl⟩ := own_slice hsl.1
        go_wp2_with fail
        go_ret2
        rw [HJ.out]
        obtain ⟨L3, d3, j3, f3⟩ := jat_new (f := f) (cs := #[.pointer (some ⟨d, 0, none⟩), .int .i64 f, .slice vA vm vc, .int .i64 ((jforms A).length : Nat), .bool false]) rfl f2.fresh d2 hsl
        exact ⟨L3, d3, (f1.trans (f2.mono (fun _ hh => hh.elim))).trans (f3.mono (fun _ hh => hh.elim)), Or.inr ⟨A, _, rfl, rfl, j3⟩⟩
    · have HJ := Lib.hid (jopen_sync (s := s) HI.out hr hx)
      have HR := Lib.hid hr
      obtain ⟨sx, x⟩ := r
      simp only at hx
      have hb : ((x : Int) != 0) = true := bne_iff_ne.2 hx
      clear hr
      go_enter Try.func25, Try.ntmps25
      go_wp2_with fail
      refine (Sync_any f hL hd hi hf).mono ?_
      rw [HR.out]
      rintro e w1 ⟨rfl, L1, d1, f1⟩
      go_wp2_with fail
      go_ret2
      rw [HJ.out]
      exact ⟨L1, d1, f1, Or.inl ⟨rfl, rfl⟩⟩

end Go.Proofs.Ytgocnjiabfmdpaa
