/- Walk of copied. -/
import Derived.Test.YtgocnjiabfmdpaaDWe
import Derived.Test.YtgocnjiabfmdpaaDMc
import Derived.Test.YtgocnjiabfmdpaaDWj
import Derived.Deep.RegionHeld3
namespace Go.Proofs.Ytgocnjiabfmdpaa
set_option maxRecDepth 8000
open Go.RowKit

/-- Clone of a slice of bytes that was there in an older world. -/
theorem clone_later {w W : World} {v : Value} {l : List UInt8} (h : w.ownsRow 0 5 1 v l.length (bc l)) (hb : Below w.heap.size w W) (hl : l.length ≤ 16777216) : Calls Try.prog 75 #[v] W (ClonePost W 5 1 l.length (bc l)) :=
  clone49 (Rd.of_own (ownsRow_of_blocks (w1 := W) h (fun g hg => hb.block g (h.lt g hg).2))) (fun u hu => by unfold bc at hu; obtain ⟨c, _, rfl⟩ := List.mem_map.1 hu; rfl) hl

theorem below_step {w W w1 : World} (h : Below w.heap.size w W) (hb : Below W.heap.size W w1) : Below w.heap.size w w1 := h.trans (hb.mono h.size)

theorem below_alloc {w W : World} (h : Below w.heap.size w W) (o : Obj) : Below w.heap.size w (W.alloc o) := h.alloc h.size o

/-- A file's parts, all new since w: its slices, the map of its pending sectors, its struct. -/
structure Made (w W : World) (now dur : List UInt8) (v1 v2 : Value) (q p : Nat) (sec : Int → Bool) : Prop where
  below : Below w.heap.size w W
  own1 : W.ownsRow 0 5 1 v1 now.length (bc now)
  own2 : W.ownsRow 0 5 1 v2 dur.length (bc dur)
  map : IMap W q (secF sec)
  str : W.heap[p]? = some (.cells #[v1, v2, .map (some q)] 82 (0, 0))
  newq : w.heap.size ≤ q
  newp : w.heap.size ≤ p
  new1 : ∀ g, v1.ownBlock = some g → w.heap.size ≤ g
  new2 : ∀ g, v2.ownBlock = some g → w.heap.size ≤ g
  apart : ∀ g, v1.ownBlock = some g → v2.ownBlock ≠ some g

theorem own_cells {W : World} {v : Value} {e : TypeId} {size n : Nat} {xs : List Value} (h : W.ownsRow 0 e size v n xs) {g : Nat} (hg : v.ownBlock = some g) : ∃ cs, W.heap[g]? = some (.cells cs e (0, 0)) := by
  rcases h.2 with ⟨rfl, _⟩ | ⟨g', cap, cur, rfl, _, hh, _⟩
  · cases hg
  · simp [Value.ownBlock] at hg
    subst hg
    exact ⟨cur, hh⟩

theorem Made.label {L : Lab} {w W : World} {now dur : List UInt8} {v1 v2 : Value} {q p : Nat} {sec : Int → Bool} (h : Made w W now dur v1 v2 q p sec) (hL : Fresh L w) (k : Nat) (i : Int) :
    ∃ L', FAt L' W k i p now dur sec ∧ Fr (fun _ => False) L w L' W := by
  have hqp : q ≠ p := fun e => by
    obtain ⟨es, c, hq, _⟩ := h.map
    rw [e, h.str] at hq; cases hq
  have h1q : v1.ownBlock ≠ some q := fun e => by
    obtain ⟨cs, hc⟩ := own_cells h.own1 e
    obtain ⟨es, c, hq, _⟩ := h.map
    rw [hc] at hq; cases hq
  have h2q : v2.ownBlock ≠ some q := fun e => by
    obtain ⟨cs, hc⟩ := own_cells h.own2 e
    obtain ⟨es, c, hq, _⟩ := h.map
    rw [hc] at hq; cases hq
  have h1p : v1.ownBlock ≠ some p := fun e => by
    obtain ⟨cs, hc⟩ := own_cells h.own1 e
    rw [h.str] at hc; cases hc
  have h2p : v2.ownBlock ≠ some p := fun e => by
    obtain ⟨cs, hc⟩ := own_cells h.own2 e
    rw [h.str] at hc; cases hc
  refine ⟨fun b => if b = p then some (k, .file i) else if b = q then some (k, .sect i) else if v1.ownBlock = some b then some (k, .now i) else if v2.ownBlock = some b then some (k, .dur i) else L b,
    ⟨v1, v2, q, by simp, h.str, by simp [hqp], h.map, ⟨h.own1, fun g hg => ?_⟩, ⟨h.own2, fun g hg => ?_⟩⟩, ⟨h.below.os, h.below.tape, h.below.output, h.below.size, fun b hb => ?_, fun b hb => ?_, fun b hb _ => h.below.block b hb⟩⟩
  · have e1 : g ≠ p := fun e => h1p (by rw [← e]; exact hg)
    have e2 : g ≠ q := fun e => h1q (by rw [← e]; exact hg)
    simp [e1, e2, hg]
  · have e1 : g ≠ p := fun e => h2p (by rw [← e]; exact hg)
    have e2 : g ≠ q := fun e => h2q (by rw [← e]; exact hg)
    have e3 : v1.ownBlock ≠ some g := fun e => h.apart g e hg
    simp [e1, e2, e3, hg]
  · have e1 : b ≠ p := by have := h.newp; omega
    have e2 : b ≠ q := by have := h.newq; omega
    have e3 : v1.ownBlock ≠ some b := fun e => by have := h.new1 b e; omega
    have e4 : v2.ownBlock ≠ some b := fun e => by have := h.new2 b e; omega
    simp [e1, e2, e3, e4]
  · have e1 : b ≠ p := by have := blk_lt h.str; omega
    have e2 : b ≠ q := by have := h.map.lt; omega
    have e3 : v1.ownBlock ≠ some b := fun e => by have := (h.own1.lt b e).2; omega
    have e4 : v2.ownBlock ≠ some b := fun e => by have := (h.own2.lt b e).2; omega
    simp only [e1, e2, e3, e4, if_false]
    exact hL b (Nat.le_trans h.below.size hb)

/-- The parts stay while the map alone, and what is new, turns. -/
theorem Made.grow {w W W' : World} {now dur : List UInt8} {v1 v2 : Value} {q p : Nat} {sec sec' : Int → Bool} (h : Made w W now dur v1 v2 q p sec) (hg : W.grownBy W' (some q)) (hm : IMap W' q (secF sec')) : Made w W' now dur v1 v2 q p sec' := by
  have hqp : p ≠ q := fun e => by
    obtain ⟨es, c, hq, _⟩ := h.map
    rw [← e, h.str] at hq; cases hq
  have hk : ∀ v n xs, W.ownsRow 0 5 1 v n xs → W'.ownsRow 0 5 1 v n xs := fun v n xs ho => ownsRow_of_blocks ho (fun g hgg => by
    refine hg.block g (ho.lt g hgg).2 (fun e => ?_)
    obtain ⟨cs, hc⟩ := own_cells ho hgg
    obtain ⟨es, c, hq, _⟩ := h.map
    injection e with e
    rw [e, hq] at hc; cases hc)
  exact ⟨h.below.trans ⟨hg.os, hg.tape, hg.output, hg.size, fun b hb => hg.block b (Nat.lt_of_lt_of_le hb h.below.size) (fun e => by injection e with e; have := h.newq; omega)⟩, hk _ _ _ h.own1, hk _ _ _ h.own2, hm,
    (hg.block p (blk_lt h.str) (by simp; exact hqp)).trans h.str, h.newq, h.newp, h.new1, h.new2, h.apart⟩

theorem Made.ne {w W : World} {now dur : List UInt8} {v1 v2 : Value} {q p : Nat} {sec : Int → Bool} (h : Made w W now dur v1 v2 q p sec) : p ≠ q := fun e => by
  obtain ⟨es, c, hq, _⟩ := h.map
  rw [← e, h.str] at hq; cases hq

theorem secF_none : secF (fun _ => false) = fun _ => none := by funext x; simp [secF]

theorem made_a {w w1 w2 : World} {now dur : List UInt8} {v1 v2 : Value} (hB2 : Below w.heap.size w w2) (hs : w.heap.size ≤ w1.heap.size) (h1 : w1.ownsRow 0 5 1 v1 now.length (bc now)) (hb2 : Below w1.heap.size w1 w2) (h2 : w2.ownsRow 0 5 1 v2 dur.length (bc dur))
    (n1 : ∀ g, v1.ownBlock = some g → w.heap.size ≤ g) (n2 : ∀ g, v2.ownBlock = some g → w1.heap.size ≤ g) :
    Made w ((w2.alloc (.map #[] 0)).alloc (.cells #[v1, v2, .map (some w2.heap.size)] 82)) now dur v1 v2 w2.heap.size (w2.heap.size + 1) (fun _ => false) := by
  have h1' := ownsRow_of_blocks (w1 := w2) h1 (fun g hg => hb2.block g (h1.lt g hg).2)
  refine ⟨below_alloc (below_alloc hB2 _) _, (h1'.alloc _).alloc _, (h2.alloc _).alloc _, ?_, ?_, hB2.size, by have := hB2.size; omega, n1, fun g hg => Nat.le_trans hs (n2 g hg), fun g hg e => ?_⟩
  · rw [secF_none]; exact (IMap.made w2).same (Below.heap_alloc _ _ _ (by simp))
  · have := heap_alloc_new (w2.alloc (.map #[] 0)) (.cells #[v1, v2, .map (some w2.heap.size)] 82)
    simpa using this
  · have := (h1.lt g hg).2; have := n2 g e; omega

theorem made_b {w w1 w2 : World} {now dur : List UInt8} {v1 v2 : Value} (hB2 : Below w.heap.size w w2) (hs : w.heap.size ≤ w1.heap.size) (h1 : w1.ownsRow 0 5 1 v1 now.length (bc now)) (hb2 : Below (w1.alloc (.map #[] 0)).heap.size (w1.alloc (.map #[] 0)) w2) (h2 : w2.ownsRow 0 5 1 v2 dur.length (bc dur))
    (n1 : ∀ g, v1.ownBlock = some g → w.heap.size ≤ g) (n2 : ∀ g, v2.ownBlock = some g → (w1.alloc (.map #[] 0)).heap.size ≤ g) :
    Made w (w2.alloc (.cells #[v1, v2, .map (some w1.heap.size)] 82)) now dur v1 v2 w1.heap.size w2.heap.size (fun _ => false) := by
  have h1a := h1.alloc (.map #[] 0)
  have h1' := ownsRow_of_blocks (w1 := w2) h1a (fun g hg => hb2.block g (h1a.lt g hg).2)
  refine ⟨below_alloc hB2 _, h1'.alloc _, h2.alloc _, ?_, ?_, hs, hB2.size, n1, fun g hg => Nat.le_trans hs (by have := n2 g hg; simp at this; omega), fun g hg e => ?_⟩
  · rw [secF_none]
    have hlt : w1.heap.size < (w1.alloc (.map #[] 0)).heap.size := by simp
    have hm := (IMap.made w1).same (w' := w2) (hb2.block _ hlt)
    exact hm.same (Below.heap_alloc _ _ _ hm.lt)
  · exact heap_alloc_new _ _
  · have := (h1.lt g hg).2; have := n2 g e; simp at this; omega

theorem made_c {w w1 w2 : World} {now dur : List UInt8} {v1 v2 : Value} (hB2 : Below w.heap.size w w2) (hb1 : Below (w.alloc (.map #[] 0)).drew.heap.size (w.alloc (.map #[] 0)).drew w1) (h1 : w1.ownsRow 0 5 1 v1 now.length (bc now)) (hb2 : Below w1.heap.size w1 w2) (h2 : w2.ownsRow 0 5 1 v2 dur.length (bc dur))
    (n1 : ∀ g, v1.ownBlock = some g → (w.alloc (.map #[] 0)).drew.heap.size ≤ g) (n2 : ∀ g, v2.ownBlock = some g → w1.heap.size ≤ g) :
    Made w (w2.alloc (.cells #[v1, v2, .map (some w.heap.size)] 82)) now dur v1 v2 w.heap.size w2.heap.size (fun _ => false) := by
  have hs : w.heap.size + 1 ≤ w1.heap.size := by have := hb1.size; simpa using this
  have h1' := ownsRow_of_blocks (w1 := w2) h1 (fun g hg => hb2.block g (h1.lt g hg).2)
  refine ⟨below_alloc hB2 _, h1'.alloc _, h2.alloc _, ?_, ?_, Nat.le_refl _, hB2.size, fun g hg => (by have := n1 g hg; simp at this; omega), fun g hg => (by have := n2 g hg; omega), fun g hg e => ?_⟩
  · rw [secF_none]
    have hm1 : IMap w1 w.heap.size (fun _ => none) := (IMap.made w).same (hb1.block w.heap.size (by simp))
    have hm := hm1.same (w' := w2) (hb2.block _ hm1.lt)
    exact hm.same (Below.heap_alloc _ _ _ hm.lt)
  · exact heap_alloc_new _ _
  · have := (h1.lt g hg).2; have := n2 g e; omega

/-- The map of pending sectors while it is filled. -/
def filled (sec left : Int → Bool) : Int → Bool := fun n => sec n && !left n

def CopiedPost (L : Lab) (w : World) (k : Nat) (i : Int) (now dur : List UInt8) (sec : Int → Bool) (e : Ending) (w' : World) : Prop :=
  ∃ p L', e = .returned (.pointer (some ⟨p, 0, none⟩)) ∧ FAt L' w' k i p now dur sec ∧ Fr (fun _ => False) L w L' w'

set_option maxRecDepth 100000 in
set_option maxHeartbeats 1000000 in
theorem copied_any {L : Lab} {w : World} (k : Nat) (i : Int) (hL : Fresh L w) {b sb : Nat} {nv dv : Value} {now dur : List UInt8} {sec : Int → Bool} (hb : w.heap[b]? = some (.cells #[nv, dv, .map (some sb)] 82 (0, 0))) (hn : w.ownsRow 0 5 1 nv now.length (bc now)) (hd : w.ownsRow 0 5 1 dv dur.length (bc dur)) (hm : IMap w sb (secF sec))
    (hln : now.length ≤ 16777216) (hld : dur.length ≤ 16777216) :
    Calls Try.prog 60 #[.pointer (some ⟨b, 0, none⟩)] w (CopiedPost L w k i now dur sec) := by
  have c0 := blk_cell hb 0
  have c1 := blk_cell hb 1
  have c2 := blk_cell hb 2
  simp at c0 c1 c2
  have lb := blk_lt hb
  have hmm := @run_makeMap Try.prog
  go_enter Try.func60, Try.ntmps60
  go_wp2_with fail
  have hB0 : Below w.heap.size w w.drew := (Below.refl _ _).drew
  have e0 : ∀ W : World, Below w.heap.size w W → W.cell? ⟨b, 0, none⟩ = some nv ∧ W.cell? ⟨b, 1, none⟩ = some dv ∧ Below w.heap.size w W := fun W hW => ⟨(hW.cell (p := ⟨b, 0, none⟩) lb).trans c0, (hW.cell (p := ⟨b, 1, none⟩) lb).trans c1, hW⟩
  have E0 := Lib.hid e0
  clear e0
  go_region_held3 (fun w' => w'.cell? ⟨b, 0, none⟩ = some nv ∧ w'.cell? ⟨b, 1, none⟩ = some dv ∧ Below w.heap.size w w')
    (first | exact E0.out _ (by assumption) | exact E0.out _ (below_alloc (Below.refl _ _) _).drew | exact E0.out _ (below_alloc (by assumption) _) | exact E0.out _ (below_alloc (below_alloc (by assumption) _) _))
    (first
      | (go_at_call_of 75 nv; refine (clone_later (w := w) hn (by first | assumption | exact below_alloc (by assumption) _ | exact (below_alloc (Below.refl _ _) _).drew) hln).mono ?_; rintro e w1 ⟨v1, rfl, hown1, hb1, hnew1⟩; obtain ⟨A1, n1, k1, rfl⟩ := own_slice hown1; have hB1 : Below w.heap.size w w1 := (below_step (by first | assumption | exact below_alloc (by assumption) _ | exact (below_alloc (Below.refl _ _) _).drew) hb1))
      | (go_at_call_of 75 dv; refine (clone_later (w := w) hd (by first | assumption | exact below_alloc (by assumption) _ | exact (below_alloc (Below.refl _ _) _).drew) hld).mono ?_; rintro e w2 ⟨v2, rfl, hown2, hb2, hnew2⟩; obtain ⟨A2, n2, k2, rfl⟩ := own_slice hown2; have hB2 : Below w.heap.size w w2 := (below_step (by first | assumption | exact below_alloc (by assumption) _ | exact (below_alloc (Below.refl _ _) _).drew) hb2)))
  · have hM := made_a hB2 hB1.size hown1 hb2 hown2 hnew1 hnew2
    have hms := (hm.same (hM.below.block sb hm.lt) : IMap ((w2.alloc (.map #[] 0)).alloc (.cells #[.slice A1 n1 k1, .slice A2 n2 k2, .map (some w2.heap.size)] 82)) sb (secF sec))
    obtain ⟨W, hWW⟩ : ∃ W, W = (w2.alloc (.map #[] 0)).alloc (.cells #[.slice A1 n1 k1, .slice A2 n2 k2, .map (some w2.heap.size)] 82) := ⟨_, rfl⟩
    rw [← hWW] at hM hms ⊢
    have hc2 : W.cell? ⟨b, 2, none⟩ = some (.map (some sb)) := (hM.below.cell (p := ⟨b, 2, none⟩) lb).trans c2
    have hst := hM.str
    have hp2 := blk_cell hM.str 2
    simp at hp2
    have hqs : w2.heap.size ≠ sb := fun e => by have := hM.newq; have := hm.lt; omega
    have HH := Lib.hid (And.intro hWW hst)
    clear hWW hB0 E0 hst
    go_wp2_with (at_range; refine wpList_rangeI _ rfl _ 80 rfl 3 4 Try.underlying80 sb _ rfl hms ?_; intro w0 cnt0 hit0 hg0 hs0)
    go_frame
    have hrq : W.heap.size ≠ w2.heap.size := fun e => by have := hM.map.lt; omega
    have hrp : W.heap.size ≠ w2.heap.size + 1 := fun e => by have := blk_lt hM.str; omega
    have hMq : IMap w0 (w2.heap.size) (secF (filled sec (fun x => (secF sec x).isSome))) := (hM.map.same (hg0.block _ hM.map.lt (by simp))).congr (fun x => by unfold filled secF; cases sec x <;> simp)
    go_loopw [4] (fun _ wr => ∃ (left : Int → Bool) (cnt : Nat), ITer wr sb W.heap.size (secF sec) left cnt ∧ IMap wr (w2.heap.size) (secF (filled sec left)) ∧ W.grownBy wr (some (w2.heap.size)) ∧ W.heap.size < wr.heap.size) (fun _ wr => wr.rangeLeft sb W.heap.size)
    case atStart => exact ⟨_, cnt0, hit0, hMq, hg0.but _, by omega⟩
    case round =>
      obtain ⟨left, cnt, hit, hmq, hgr, hsz⟩ := hrel
      have hp3 : wr.cell? ⟨w2.heap.size + 1, 2, none⟩ = some (.map (some (w2.heap.size))) := (World.cell?_of_block (hgr.block _ (blk_lt hM.str) (by intro e; injection e with e; exact hM.ne e))).trans hp2
      go_wp2_with (at_next; refine wpList_nextI _ rfl _ rfl sb W.heap.size _ left cnt rfl hit ?_ ?_)
      · intro hc0 hl0
        have HL0 := Lib.hid hl0
        clear hl0 hc0
        go_wp2_with fail
        go_ret
        have hM2 := hM.grow hgr (sec' := sec) (hmq.congr (fun x => by show (if sec x = true then some (Value.bool true) else none) = (if (sec x && !left x) = true then some (Value.bool true) else none); rw [HL0.out x]; cases sec x <;> rfl))
        obtain ⟨L', h1, h2⟩ := hM2.label hL k i
        exact ⟨_, L', rfl, h1, h2⟩
      · intro x u w3 cnt1 hx hlx hfx hit1 hlt1 hg1 hs1 hen
        have hsx : sec x = true := by
          unfold secF at hfx
          split at hfx
          · assumption
          · cases hfx
        have hmq1 := hmq.same (hg1.block _ hmq.lt (by simp; exact hrq.symm))
        have hp4 : w3.cell? ⟨w2.heap.size + 1, 2, none⟩ = some (.map (some (w2.heap.size))) := (World.cell?_of_block (hg1.block _ (World.block_lt_of_cell? wr _ hp3) (by simp; exact hrp.symm))).trans hp3
        have HS1 := Lib.hid hs1
        have HSX := Lib.hid hsx
        clear hs1 hsx
        go_wp2_with (at_mapUpdate; refine wpList_put _ rfl _ _ _ 80 rfl 3 4 Try.underlying3 Try.underlying80 (w2.heap.size) _ rfl hmq1 x rfl hx _ rfl ?_; intro w4 hm4 hg4 hs4; go_frame)
        have hit2 := hit1.same (hg4.block sb hit1.map.lt (by simp; exact hqs.symm)) (hg4.block _ hit1.lt (by simp; exact hrq))
        go_roundw
        case rel =>
          have hg5 : W.grownBy w3 (some (w2.heap.size)) := hgr.andThen hg1 (fun j hj => by cases hj; exact Or.inl (Nat.le_refl _))
          refine ⟨_, cnt1, hit2, hm4.congr (fun y => ?_), hg5.andThen hg4 (fun j hj => Or.inr hj), by have := HS1.out; omega⟩
          show (if (sec y && !(left y && !decide (y = x))) = true then some (Value.bool true) else none) = (if y = x then some (Value.bool true) else if (sec y && !left y) = true then some (Value.bool true) else none)
          by_cases hyx : y = x
          · subst hyx; simp [HSX.out]
          · simp [hyx]
        case measure => rw [hit2.left_eq, hit.left_eq]; exact hlt1
  · have hM := made_b hB2 hB1.size hown1 hb2 hown2 hnew1 hnew2
    have hms := (hm.same (hM.below.block sb hm.lt) : IMap (w2.alloc (.cells #[.slice A1 n1 k1, .slice A2 n2 k2, .map (some w1.heap.size)] 82)) sb (secF sec))
    obtain ⟨W, hWW⟩ : ∃ W, W = w2.alloc (.cells #[.slice A1 n1 k1, .slice A2 n2 k2, .map (some w1.heap.size)] 82) := ⟨_, rfl⟩
    rw [← hWW] at hM hms ⊢
    have hc2 : W.cell? ⟨b, 2, none⟩ = some (.map (some sb)) := (hM.below.cell (p := ⟨b, 2, none⟩) lb).trans c2
    have hst := hM.str
    have hp2 := blk_cell hM.str 2
    simp at hp2
    have hqs : w1.heap.size ≠ sb := fun e => by have := hM.newq; have := hm.lt; omega
    have HH := Lib.hid (And.intro hWW hst)
    clear hWW hB0 E0 hst
    go_wp2_with (at_range; refine wpList_rangeI _ rfl _ 80 rfl 3 4 Try.underlying80 sb _ rfl hms ?_; intro w0 cnt0 hit0 hg0 hs0)
    go_frame
    have hrq : W.heap.size ≠ w1.heap.size := fun e => by have := hM.map.lt; omega
    have hrp : W.heap.size ≠ w2.heap.size := fun e => by have := blk_lt hM.str; omega
    have hMq : IMap w0 (w1.heap.size) (secF (filled sec (fun x => (secF sec x).isSome))) := (hM.map.same (hg0.block _ hM.map.lt (by simp))).congr (fun x => by unfold filled secF; cases sec x <;> simp)
    go_loopw [4] (fun _ wr => ∃ (left : Int → Bool) (cnt : Nat), ITer wr sb W.heap.size (secF sec) left cnt ∧ IMap wr (w1.heap.size) (secF (filled sec left)) ∧ W.grownBy wr (some (w1.heap.size)) ∧ W.heap.size < wr.heap.size) (fun _ wr => wr.rangeLeft sb W.heap.size)
    case atStart => exact ⟨_, cnt0, hit0, hMq, hg0.but _, by omega⟩
    case round =>
      obtain ⟨left, cnt, hit, hmq, hgr, hsz⟩ := hrel
      have hp3 : wr.cell? ⟨w2.heap.size, 2, none⟩ = some (.map (some (w1.heap.size))) := (World.cell?_of_block (hgr.block _ (blk_lt hM.str) (by intro e; injection e with e; exact hM.ne e))).trans hp2
      go_wp2_with (at_next; refine wpList_nextI _ rfl _ rfl sb W.heap.size _ left cnt rfl hit ?_ ?_)
      · intro hc0 hl0
        have HL0 := Lib.hid hl0
        clear hl0 hc0
        go_wp2_with fail
        go_ret
        have hM2 := hM.grow hgr (sec' := sec) (hmq.congr (fun x => by show (if sec x = true then some (Value.bool true) else none) = (if (sec x && !left x) = true then some (Value.bool true) else none); rw [HL0.out x]; cases sec x <;> rfl))
        obtain ⟨L', h1, h2⟩ := hM2.label hL k i
        exact ⟨_, L', rfl, h1, h2⟩
      · intro x u w3 cnt1 hx hlx hfx hit1 hlt1 hg1 hs1 hen
        have hsx : sec x = true := by
          unfold secF at hfx
          split at hfx
          · assumption
          · cases hfx
        have hmq1 := hmq.same (hg1.block _ hmq.lt (by simp; exact hrq.symm))
        have hp4 : w3.cell? ⟨w2.heap.size, 2, none⟩ = some (.map (some (w1.heap.size))) := (World.cell?_of_block (hg1.block _ (World.block_lt_of_cell? wr _ hp3) (by simp; exact hrp.symm))).trans hp3
        have HS1 := Lib.hid hs1
        have HSX := Lib.hid hsx
        clear hs1 hsx
        go_wp2_with (at_mapUpdate; refine wpList_put _ rfl _ _ _ 80 rfl 3 4 Try.underlying3 Try.underlying80 (w1.heap.size) _ rfl hmq1 x rfl hx _ rfl ?_; intro w4 hm4 hg4 hs4; go_frame)
        have hit2 := hit1.same (hg4.block sb hit1.map.lt (by simp; exact hqs.symm)) (hg4.block _ hit1.lt (by simp; exact hrq))
        go_roundw
        case rel =>
          have hg5 : W.grownBy w3 (some (w1.heap.size)) := hgr.andThen hg1 (fun j hj => by cases hj; exact Or.inl (Nat.le_refl _))
          refine ⟨_, cnt1, hit2, hm4.congr (fun y => ?_), hg5.andThen hg4 (fun j hj => Or.inr hj), by have := HS1.out; omega⟩
          show (if (sec y && !(left y && !decide (y = x))) = true then some (Value.bool true) else none) = (if y = x then some (Value.bool true) else if (sec y && !left y) = true then some (Value.bool true) else none)
          by_cases hyx : y = x
          · subst hyx; simp [HSX.out]
          · simp [hyx]
        case measure => rw [hit2.left_eq, hit.left_eq]; exact hlt1
  · have hM := made_c hB2 hb1 hown1 hb2 hown2 hnew1 hnew2
    have hms := (hm.same (hM.below.block sb hm.lt) : IMap (w2.alloc (.cells #[.slice A1 n1 k1, .slice A2 n2 k2, .map (some w.heap.size)] 82)) sb (secF sec))
    obtain ⟨W, hWW⟩ : ∃ W, W = w2.alloc (.cells #[.slice A1 n1 k1, .slice A2 n2 k2, .map (some w.heap.size)] 82) := ⟨_, rfl⟩
    rw [← hWW] at hM hms ⊢
    have hc2 : W.cell? ⟨b, 2, none⟩ = some (.map (some sb)) := (hM.below.cell (p := ⟨b, 2, none⟩) lb).trans c2
    have hst := hM.str
    have hp2 := blk_cell hM.str 2
    simp at hp2
    have hqs : w.heap.size ≠ sb := fun e => by have := hM.newq; have := hm.lt; omega
    have HH := Lib.hid (And.intro hWW hst)
    clear hWW hB0 E0 hst
    go_wp2_with (at_range; refine wpList_rangeI _ rfl _ 80 rfl 3 4 Try.underlying80 sb _ rfl hms ?_; intro w0 cnt0 hit0 hg0 hs0)
    go_frame
    have hrq : W.heap.size ≠ w.heap.size := fun e => by have := hM.map.lt; omega
    have hrp : W.heap.size ≠ w2.heap.size := fun e => by have := blk_lt hM.str; omega
    have hMq : IMap w0 (w.heap.size) (secF (filled sec (fun x => (secF sec x).isSome))) := (hM.map.same (hg0.block _ hM.map.lt (by simp))).congr (fun x => by unfold filled secF; cases sec x <;> simp)
    go_loopw [4] (fun _ wr => ∃ (left : Int → Bool) (cnt : Nat), ITer wr sb W.heap.size (secF sec) left cnt ∧ IMap wr (w.heap.size) (secF (filled sec left)) ∧ W.grownBy wr (some (w.heap.size)) ∧ W.heap.size < wr.heap.size) (fun _ wr => wr.rangeLeft sb W.heap.size)
    case atStart => exact ⟨_, cnt0, hit0, hMq, hg0.but _, by omega⟩
    case round =>
      obtain ⟨left, cnt, hit, hmq, hgr, hsz⟩ := hrel
      have hp3 : wr.cell? ⟨w2.heap.size, 2, none⟩ = some (.map (some (w.heap.size))) := (World.cell?_of_block (hgr.block _ (blk_lt hM.str) (by intro e; injection e with e; exact hM.ne e))).trans hp2
      go_wp2_with (at_next; refine wpList_nextI _ rfl _ rfl sb W.heap.size _ left cnt rfl hit ?_ ?_)
      · intro hc0 hl0
        have HL0 := Lib.hid hl0
        clear hl0 hc0
        go_wp2_with fail
        go_ret
        have hM2 := hM.grow hgr (sec' := sec) (hmq.congr (fun x => by show (if sec x = true then some (Value.bool true) else none) = (if (sec x && !left x) = true then some (Value.bool true) else none); rw [HL0.out x]; cases sec x <;> rfl))
        obtain ⟨L', h1, h2⟩ := hM2.label hL k i
        exact ⟨_, L', rfl, h1, h2⟩
      · intro x u w3 cnt1 hx hlx hfx hit1 hlt1 hg1 hs1 hen
        have hsx : sec x = true := by
          unfold secF at hfx
          split at hfx
          · assumption
          · cases hfx
        have hmq1 := hmq.same (hg1.block _ hmq.lt (by simp; exact hrq.symm))
        have hp4 : w3.cell? ⟨w2.heap.size, 2, none⟩ = some (.map (some (w.heap.size))) := (World.cell?_of_block (hg1.block _ (World.block_lt_of_cell? wr _ hp3) (by simp; exact hrp.symm))).trans hp3
        have HS1 := Lib.hid hs1
        have HSX := Lib.hid hsx
        clear hs1 hsx
        go_wp2_with (at_mapUpdate; refine wpList_put _ rfl _ _ _ 80 rfl 3 4 Try.underlying3 Try.underlying80 (w.heap.size) _ rfl hmq1 x rfl hx _ rfl ?_; intro w4 hm4 hg4 hs4; go_frame)
        have hit2 := hit1.same (hg4.block sb hit1.map.lt (by simp; exact hqs.symm)) (hg4.block _ hit1.lt (by simp; exact hrq))
        go_roundw
        case rel =>
          have hg5 : W.grownBy w3 (some (w.heap.size)) := hgr.andThen hg1 (fun j hj => by cases hj; exact Or.inl (Nat.le_refl _))
          refine ⟨_, cnt1, hit2, hm4.congr (fun y => ?_), hg5.andThen hg4 (fun j hj => Or.inr hj), by have := HS1.out; omega⟩
          show (if (sec y && !(left y && !decide (y = x))) = true then some (Value.bool true) else none) = (if y = x then some (Value.bool true) else if (sec y && !left y) = true then some (Value.bool true) else none)
          by_cases hyx : y = x
          · subst hyx; simp [HSX.out]
          · simp [hyx]
        case measure => rw [hit2.left_eq, hit.left_eq]; exact hlt1

end Go.Proofs.Ytgocnjiabfmdpaa
