/- Walks: container/heap's Pop and Push. -/
import Derived.Test.YteiojobgjdfdpaaQf
namespace Go.Proofs.Yteiojobgjdfdpaa
open Go.RowKit

theorem take_mem {q : List En} {n : Nat} (hn : q.length = n + 1) (x : En) (h : x ∈ q) : x = gq q n ∨ x ∈ q.take n := by
  obtain ⟨k, hk, rfl⟩ := mem_gq h
  by_cases e : k = n
  · subst e; exact .inl rfl
  · refine .inr ?_
    have hk' : k < (q.take n).length := by rw [List.length_take]; omega
    have := gq_mem hk'
    rwa [show gq (q.take n) k = gq q k by unfold gq; rw [List.getD_eq_getElem?_getD, List.getElem?_take_of_lt (by omega), List.getD_eq_getElem?_getD]] at this
theorem gq_take {q : List En} {n k : Nat} (h : k < n) : gq (q.take n) k = gq q k := by
  unfold gq; rw [List.getD_eq_getElem?_getD, List.getElem?_take_of_lt h, List.getD_eq_getElem?_getD]

def PopP (q : List En) (G g n c : Nat) (bk : Bool) (L D : Value) (w : World) (e : Ending) (w' : World) : Prop :=
  e = .returned (.iface 85 (.agg #[.int .i64 (gq q 0).1, .int .i64 (gq q 0).2])) ∧ ∃ q', Srch w' G bk L D (.slice (some ⟨g, 0, none⟩) n c) ∧ OwnQ w' (G + 1) (.slice (some ⟨g, 0, none⟩) n c) q' ∧ q'.length = n ∧ Heap q' n ∧
    (∀ x ∈ q', x ∈ q) ∧ (∀ x ∈ q, x = gq q 0 ∨ x ∈ q') ∧ Fr (fun b => b = G ∨ b = g) w w'
set_option maxRecDepth 100000 in
set_option maxHeartbeats 8000000 in
theorem heapPop_any (q : List En) (G g n c : Nat) (bk : Bool) (L D : Value) (w : World) (hs : Srch w G bk L D (.slice (some ⟨g, 0, none⟩) (n + 1) c)) (hq : OwnQ w (G + 1) (.slice (some ⟨g, 0, none⟩) (n + 1) c) q) (hn : q.length = n + 1) (hmx : n ≤ 900000) (hh : Heap q (n + 1)) :
    Calls Try.prog 67 #[.iface 87 (.pointer (some ⟨G, 3, none⟩))] w (PopP q G g n c bk L D w) := by
  have h3 : w.cell? ⟨G, 3, none⟩ = some (.slice (some ⟨g, 0, none⟩) (n + 1) c) := hs.cell 3
  have ml := meth_len h3
  have ms := meth_swap h3
  have hgG : g ≠ G := by have := hq.lt; omega
  have HG := Lib.hid hgG; clear hgG
  have HSw := Lib.hid (swap_any q g (n + 1) c 0 n (G + 1) w hq hn (by omega) (by omega))
  have HS := Lib.hid (And.intro hs (And.intro hq (And.intro hn hh))); clear hs hq hn hh h3
  go_enter Try.func67, Try.ntmps67
  go_wp2_with fail
  refine (len_any _ _ _ _).mono ?_
  rintro e w1 ⟨rfl, rfl⟩
  go_wp2_with fail
  refine HSw.out.mono ?_
  rintro e w1 ⟨rfl, ho1, hs1, hf1⟩
  have hk1 : Hid (Srch w1 G bk L D (.slice (some ⟨g, 0, none⟩) (n + 1) c)) := Lib.hid (Blk.fr HS.out.1 hf1 (fun e => HG.out e.symm))
  have HD := Lib.hid (down_any (swp q 0 n) G g c n (n + 1) w1 (by rw [swp_len]; exact HS.out.2.2.1) (hk1.out.cell 3) ho1 (by omega) (by omega) (HS.out.2.2.2.cut (by rw [HS.out.2.2.1]; omega)))
  have HF1 := Lib.hid hf1
  clear ho1 hs1 hf1 ml ms
  go_wp2_with fail
  refine HD.out.mono ?_
  rintro e w2 ⟨b, q2, rfl, hK, hH⟩
  have hl2 : q2.length = n + 1 := hK.len.trans (by rw [swp_len]; exact HS.out.2.2.1)
  have ho2 := hK.own
  rw [show (swp q 0 n).length = n + 1 by rw [swp_len]; exact HS.out.2.2.1] at ho2
  have hk2 : Srch w2 G bk L D (.slice (some ⟨g, 0, none⟩) (n + 1) c) := Blk.fr hk1.out hK.fr (fun e => HG.out e.symm)
  have he : gq q2 n = gq q 0 := by
    rw [hK.rest n (Nat.le_refl _), gq_swp (by rw [HS.out.2.2.1]; omega) (by rw [HS.out.2.2.1]; omega), if_pos rfl]
  have HP := Lib.hid (qPop_any q2 G g n c bk L D w2 hk2 ho2 hl2 (by omega) (gq q 0).1 (gq q 0).2 he)
  have mp := meth_pop ⟨G, 3, none⟩ w2
  have HX := Lib.hid (And.intro hK (And.intro hH (And.intro hl2 he)))
  clear hK hH hl2 ho2 hk2 he
  cases b
  all_goals
    go_wp2_with fail
    refine HP.out.mono ?_
    rintro e w3 ⟨rfl, hk3, ho3, hf3⟩
    go_wp2_with fail
    go_ret
    obtain ⟨hK, hH, hl2, he⟩ := HX.out
    have hmem : ∀ x, x ∈ q2 ↔ x ∈ q := fun x => (hK.mem x).trans (mem_swp (by rw [HS.out.2.2.1]; omega) (by rw [HS.out.2.2.1]; omega) x)
    refine ⟨by rfl, q2.take n, hk3, ho3, by rw [List.length_take]; omega, hH.less (fun k hk => gq_take hk), fun x hx => (hmem x).1 (List.mem_of_mem_take hx), fun x hx => ?_, (((HF1.out.more (fun b e => .inr e)).tr (hK.fr.more (fun b e => .inr e))).tr (hf3.more (fun b e => .inl e)))⟩
    rcases take_mem hl2 x ((hmem x).2 hx) with k | k
    · exact .inl (k.trans he)
    · exact .inr k

def PushP (q : List En) (x : En) (G : Nat) (bk : Bool) (L D v : Value) (w : World) (e : Ending) (w' : World) : Prop :=
  e = .returned (.tuple #[]) ∧ ∃ v' q', Srch w' G bk L D v' ∧ OwnQ w' (G + 1) v' q' ∧ q'.length = q.length + 1 ∧ Heap q' (q.length + 1) ∧ (∀ y, y ∈ q' ↔ y ∈ q ∨ y = x) ∧ Fr (QB G v) w w' ∧ (v'.ownBlock = v.ownBlock ∨ ∃ b, v'.ownBlock = some b ∧ w.heap.size ≤ b)
set_option maxRecDepth 100000 in
set_option maxHeartbeats 8000000 in
theorem heapPush_any (q : List En) (G : Nat) (bk : Bool) (L D v : Value) (x y : Int) (w : World) (hs : Srch w G bk L D v) (hq : OwnQ w (G + 1) v q) (hmx : q.length ≤ 900000) (hh : Heap q q.length) :
    Calls Try.prog 69 #[.iface 87 (.pointer (some ⟨G, 3, none⟩)), .iface 85 (.agg #[.int .i64 x, .int .i64 y])] w (PushP q (x, y) G bk L D v w) := by
  have HP := Lib.hid (qPush_any q G bk L D v x y w hs hq (by omega))
  have mp := meth_push ⟨G, 3, none⟩ w
  have HH := Lib.hid hh; clear hh
  have HS := Lib.hid (And.intro hs hq); clear hs hq
  go_enter Try.func69, Try.ntmps69
  go_wp2_with fail
  refine HP.out.mono ?_
  rintro e w1 ⟨v', rfl, hk1, ho1, hf1, hat⟩
  obtain ⟨g, c, rfl, hg1, hg2, hg3⟩ := ho1.some_of (by simp)
  have hl1 : (q ++ [(x, y)]).length = q.length + 1 := by simp
  rw [hl1] at hk1 ho1 hg3 hat
  have ml := meth_len (hk1.cell 3)
  have HU := Lib.hid (up_any (q ++ [(x, y)]) G g c q.length (q.length + 1) w1 hl1 (hk1.cell 3) ho1 (by omega) (by omega) (UpI.start HH.out (x, y) rfl))
  have HX := Lib.hid (And.intro hk1 (And.intro hf1 (And.intro hat (And.intro hg1 hl1))))
  clear hk1 ho1 hf1 hat hg1 hg2 hg3 hl1
  go_wp2_with fail
  refine (len_any _ _ _ _).mono ?_
  rintro e w2 ⟨rfl, rfl⟩
  go_wp2_with fail
  refine HU.out.mono ?_
  rintro e w3 ⟨q3, rfl, hK, hH⟩
  go_wp2_with fail
  go_end0
  obtain ⟨hk1, hf1, hat, hg1, hl1⟩ := HX.out
  have ho := hK.own
  rw [hl1] at ho
  refine ⟨by rfl, _, q3, Blk.fr hk1 hK.fr (fun e => by omega), ho, hK.len.trans hl1, hH, fun z => (hK.mem z).trans (by simp), ?_, hat⟩
  have hb := hf1
  refine hf1.trans hK.fr (fun b h => h) (fun b hb e => ?_)
  rcases hat with h | ⟨b', h, h'⟩
  · exact .inr (by rw [← h, e]; rfl)
  · have e : b = g := e
    have h : some g = some b' := h
    injection h with h
    omega

end Go.Proofs.Yteiojobgjdfdpaa
