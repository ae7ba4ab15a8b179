/- The plain side of LinearSums: other values and their sums; two lists of rows that the law owns. The law LinearSums. -/
import Derived.Test.YtlbjaimgoiimgaaXbc

namespace Go.Proofs.Ytlbjaimgoiimgaa
open Go.RowKit

section
variable {rs : List Rd} {vs : List Fd} {n : Nat}
/-- The rows with other values, and with the sums of both. -/
def othR (rs : List Rd) (vs : List Fd) (k : Nat) : Rd := ⟨(rs.getD k rnil).A, vs.getD k dnil⟩
def sumR (rs : List Rd) (vs : List Fd) (k : Nat) : Rd := ⟨(rs.getD k rnil).A, Fd.of ((rs.getD k rnil).v.q + (vs.getD k dnil).q)⟩
theorem rng_get {g : Nat → Rd} {k : Nat} (hk : k < n) : ((List.range n).map g).getD k rnil = g k := by
  rw [List.getD_eq_getElem?_getD, List.getElem?_map, List.getElem?_range hk]
  rfl
theorem rng_succ {g : Nat → Rd} (i : Nat) : (List.range (i + 1)).map g = (List.range i).map g ++ [g i] := by
  rw [List.range_succ, List.map_append]
  rfl
theorem rng_sys (S : Sml rs n) {g : Nat → Rd} (hA : ∀ k, k < n → (g k).A = (rs.getD k rnil).A) (hv : ∀ k, k < n → (g k).v.R) : SysR ((List.range n).map g) (n : Int) := by
  have h3 := S.n3
  refine ⟨by simp, by simp; omega, fun k hk => ?_⟩
  simp at hk
  rw [rng_get hk]
  have hR := S.R hk
  refine ⟨?_, fun j hj => ?_, hv k hk⟩
  · rw [hA k hk, hR.1]; simp
  · simp at hj
    rw [hA k hk]
    exact hR.2.1 j hj
theorem rng_same (S : Sml rs n) {g : Nat → Rd} (hA : ∀ k, k < n → (g k).A = (rs.getD k rnil).A) : SameA n (rs.map Rd.q) (((List.range n).map g).map Rd.q) := by
  refine ⟨by rw [S.X]; simp, fun k hk j hj => ?_⟩
  rw [S.X] at hk
  rw [S.el hk hj, q_get (by simpa using hk), rng_get hk, (rq_get (n := n) (by rw [hA k hk]; exact (S.R hk).1)).1 j hj, hA k hk]
theorem rng_val (S : Sml rs n) {g : Nat → Rd} (hA : ∀ k, k < n → (g k).A = (rs.getD k rnil).A) {k : Nat} (hk : k < n) : ((((List.range n).map g).map Rd.q).getD k []).getD n 0 = (g k).v.q := by
  rw [q_get (by simpa using hk), rng_get hk, (rq_get (n := n) (by rw [hA k hk]; exact (S.R hk).1)).2]
theorem oth_sml (S : Sml rs n) (hv : ∀ k, k < n → (vs.getD k dnil).R) (hf : ∀ k, k < n → FewD 1 (vs.getD k dnil)) : Sml ((List.range n).map (othR rs vs)) n :=
  ⟨rng_sys S (fun _ _ => rfl) hv, S.n3, fun k hk => by
    rw [rng_get hk]
    exact ⟨(S.bits k hk).1, fd_bits (hv k hk) (hf k hk)⟩⟩
theorem sum_sys (S : Sml rs n) (hv : ∀ k, k < n → (vs.getD k dnil).R) (hf : ∀ k, k < n → FewD 1 (vs.getD k dnil)) : SysR ((List.range n).map (sumR rs vs)) (n : Int) :=
  rng_sys S (fun _ _ => rfl) (fun k hk => Fd.of_R (bt_rb (((S.bits k hk).2.add (m := 40) (fd_bits (hv k hk) (hf k hk)) (by decide) (by decide)).more (by decide) (by decide))))
theorem SameA.symm {X X' : List (List Rat)} (h : SameA n X X') : SameA n X' X := ⟨h.1.symm, fun k hk j hj => (h.2 k (by rw [h.1]; exact hk) j hj).symm⟩
theorem same_free {k k' : Nat} {X Y X' Y' : List (List Rat)} (hs : SameA n X X') (h : runFree n 0 X = some (k, Y)) (h' : runFree n 0 X' = some (k', Y')) (hl : LenA n X) (hX : X.length = n) (hl' : LenA n X') (hX' : X'.length = n) : k = n ↔ k' = n :=
  ⟨hs.free h h' hl hX hl' hX', hs.symm.free h' h hl' hX' hl hX⟩
/-- Solve at rows with the same elements, unless something is too great. -/
theorem solve_elems {A : Option Addr} {cap k : Nat} {Y : List (List Rat)} {ds : List Rd} (w : World) (h : RdsAt w A ds) (S : Sml rs n) (h2 : SysR ds (n : Int)) (hs : SameA n (rs.map Rd.q) (ds.map Rd.q)) (hr : runFree n 0 (rs.map Rd.q) = some (k, Y)) :
    Calls Try.prog 11 #[.slice A n cap, .int .i64 n] w fun e w' => ∃ (Ao : Option Addr) (n' co : Nat) (ev : Int), e = .returned (.tuple #[.slice Ao n' co, .int .i64 ev]) ∧ Below w.heap.size w w' ∧
      (ev = 6 ∨ (k < n ∧ ev = 16) ∨ (k = n ∧ ev = 0 ∧ n' = n ∧ ∃ Y', runFree n 0 (ds.map Rd.q) = some (n, Y') ∧ QsAt w' Ao (solV Y' n))) := by
  obtain ⟨a1, a2, a3⟩ := S.sys.lenA
  obtain ⟨b1, b2, b3⟩ := h2.lenA
  refine (lsolve_q w h b1 (by have := S.n3; omega)).mono fun e w' hp => ?_
  obtain ⟨hb, ⟨hn, _⟩ | ⟨_, _, he⟩ | ⟨_, ⟨k', Y', hr', hk'⟩, he⟩ | ⟨_, Y', Ao, co, hr', he, hq⟩⟩ := hp
  · exact absurd h2 hn
  · exact ⟨none, 0, 0, 6, he, hb, .inl rfl⟩
  · have h3 := same_free hs hr hr' a3 a2 b3 b2
    have h4 := runFree_le hr
    exact ⟨none, 0, 0, 16, he, hb, .inr (.inl ⟨by
      by_cases e : k = n
      · have := h3.1 e; omega
      · omega, rfl⟩)⟩
  · have h3 := same_free hs hr hr' a3 a2 b3 b2
    exact ⟨Ao, n, co, 0, he, hb, .inr (.inr ⟨h3.2 rfl, rfl, rfl, Y', hr', hq⟩)⟩
/-- Where there is one solution, there is one of the others, and of 0. -/
theorem free_of (S : Sml rs n) {ds : List Rd} (S' : Sml ds n) (hs : SameA n (rs.map Rd.q) (ds.map Rd.q)) {k : Nat} {Y : List (List Rat)} (hr : runFree n 0 (rs.map Rd.q) = some (k, Y)) : ∃ k' Y', runFree n 0 (ds.map Rd.q) = some (k', Y') ∧ (k = n ↔ k' = n) := by
  obtain ⟨k', Y', hr'⟩ := S'.free
  obtain ⟨a1, a2, a3⟩ := S.sys.lenA
  obtain ⟨b1, b2, b3⟩ := S'.sys.lenA
  exact ⟨k', Y', hr', same_free hs hr hr' a3 a2 b3 b2⟩
theorem sums_at (S : Sml rs n) (hv : ∀ k, k < n → (vs.getD k dnil).R) (hf : ∀ k, k < n → FewD 1 (vs.getD k dnil)) {Y Y' W : List (List Rat)} (h : runFree n 0 (rs.map Rd.q) = some (n, Y)) (h' : runFree n 0 (((List.range n).map (othR rs vs)).map Rd.q) = some (n, Y')) (hz : runFree n 0 (((List.range n).map (sumR rs vs)).map Rd.q) = some (n, W)) :
    ∀ j, j < n → (solV W n).getD j 0 = (solV Y n).getD j 0 + (solV Y' n).getD j 0 := fun j hj => by
  have S1 := oth_sml S hv hf
  obtain ⟨a1, a2, a3⟩ := S.sys.lenA
  obtain ⟨b1, b2, b3⟩ := S1.sys.lenA
  obtain ⟨c1, c2, c3⟩ := (sum_sys S hv hf).lenA
  have e1 := rng_same (g := othR rs vs) S (fun _ _ => rfl)
  have e2 := rng_same (g := sumR rs vs) S (fun _ _ => rfl)
  have e3 : SameA n (((List.range n).map (othR rs vs)).map Rd.q) (((List.range n).map (sumR rs vs)).map Rd.q) :=
    ⟨by rw [b2, c2], fun k hk j hj => (e1.symm.2 k hk j hj).trans (e2.2 k (by rw [a2]; rw [b2] at hk; exact hk) j hj)⟩
  rw [solV_get hj, solV_get hj, solV_get hj]
  refine sums_sol e2 e3 (fun k hk => ?_) h h' hz a3 a2 b3 b2 c3 c2 j hj
  rw [rng_val (g := sumR rs vs) S (fun _ _ => rfl) hk, rng_val (g := othR rs vs) S (fun _ _ => rfl) hk, S.val hk]
  exact Fd.of_q _
theorem zero_at (S : Sml rs n) {Y : List (List Rat)} (h : runFree n 0 ((hom rs).map Rd.q) = some (n, Y)) : ∀ j, j < n → (solV Y n).getD j 0 = 0 := fun j hj => by
  obtain ⟨a1, a2, a3⟩ := S.hom.sys.lenA
  rw [solV_get hj]
  exact zero_sol h a3 a2 (fun k hk => S.hom_val hk) j hj
theorem sol_bits (S : Sml rs n) {Y : List (List Rat)} (h : runFree n 0 (rs.map Rd.q) = some (n, Y)) : ∀ j, j < n → Bt ((solV Y n).getD j 0) 243 243 := fun j hj => by
  rw [solV_get hj]
  exact only_bits h S.n3 S.lenA S.X S.btl j hj
end

/-- Two lists of rows that the law owns and that grow by turns. -/
def TT (vo vs : Value) (b : Nat) : Prop := some b = vo.ownBlock ∨ some b = vs.ownBlock
structure Two (w : World) (B : Nat) (vo vs : Value) (rs1 rs2 : List Rw) (ds1 ds2 : List Rd) : Prop where
  o1 : OwnR w B vo rs1
  o2 : OwnR w B vs rs2
  ne : ∀ b, some b = vo.ownBlock → some b = vs.ownBlock → False
  l1 : rs1.length = ds1.length
  l2 : rs2.length = ds2.length
  r1 : ∀ k, k < ds1.length → RwS (TT vo vs) w (rs1.getD k rwnil) (ds1.getD k rnil)
  r2 : ∀ k, k < ds2.length → RwS (TT vo vs) w (rs2.getD k rwnil) (ds2.getD k rnil)
section
variable {w w1 w2 : World} {B : Nat} {vo vs vo' : Value} {rs1 rs2 : List Rw} {ds1 ds2 : List Rd} {r : Rw} {d : Rd}
theorem Two.nil (w : World) (B : Nat) : Two w B (.slice none 0 0) (.slice none 0 0) [] [] [] [] := ⟨OwnR.nil _ _, OwnR.nil _ _, fun _ h => (by cases h), rfl, rfl, fun _ h => (by cases h), fun _ h => (by cases h)⟩
theorem Two.below (h : Two w B vo vs rs1 rs2 ds1 ds2) (hb : Below w.heap.size w w1) : Two w1 B vo vs rs1 rs2 ds1 ds2 :=
  ⟨h.o1.below hb, h.o2.below hb, h.ne, h.l1, h.l2, fun k hk => (h.r1 k hk).below hb, fun k hk => (h.r2 k hk).below hb⟩
theorem TT.swap {b : Nat} (h : TT vo vs b) : TT vs vo b := h.symm
theorem Two.swap (h : Two w B vo vs rs1 rs2 ds1 ds2) : Two w B vs vo rs2 rs1 ds2 ds1 :=
  ⟨h.o2, h.o1, fun b h1 h2 => h.ne b h2 h1, h.l2, h.l1, fun k hk => (h.r2 k hk).turn (Fr.refl _ _) (fun _ _ e => e.symm), fun k hk => (h.r1 k hk).turn (Fr.refl _ _) (fun _ _ e => e.symm)⟩
theorem Two.lt (h : Two w B vo vs rs1 rs2 ds1 ds2) {b : Nat} (hb : TT vo vs b) : B ≤ b ∧ b < w.heap.size := by
  rcases hb with hb | hb
  · exact h.o1.own_lt hb
  · exact h.o2.own_lt hb
theorem Two.left (h : Two w B vo vs rs1 rs2 ds1 ds2) (hb : Below w.heap.size w w1) (ho : OwnR w2 B vo' (rs1 ++ [r])) (hg : w1.grownBy w2 vo.ownBlock) (hv : vo'.ownBlock = vo.ownBlock ∨ ∃ g, w1.heap.size ≤ g ∧ vo'.ownBlock = some g)
    (hr : RwS (TT vo vs) w1 r d) : Two w2 B vo' vs (rs1 ++ [r]) rs2 (ds1 ++ [d]) ds2 := by
  have h1 := h.below hb
  have hF : Fr (fun b => some b = vo.ownBlock) w1 w2 := ⟨hg.os, hg.tape, hg.output, hg.size, fun b hb hn => hg.block b hb (fun e => hn e)⟩
  have hFT : Fr (TT vo vs) w1 w2 := hF.more (fun b hb => .inl hb)
  have hS0 : ∀ b, b < w1.heap.size → some b = vo'.ownBlock → some b = vo.ownBlock := fun b hb e => by
    rcases hv with hv | ⟨g, hg1, hv⟩
    · exact e.trans hv
    · rw [hv] at e
      injection e with e
      omega
  have hS : ∀ b, b < w1.heap.size → TT vo' vs b → TT vo vs b := fun b hb e => e.elim (fun e => .inl (hS0 b hb e)) .inr
  refine ⟨ho, World.ownsRow.kept h1.o2 hg ?_, fun b e1 e2 => ?_, by rw [List.length_append, List.length_append, h.l1]; rfl, h.l2, fun k hk => ?_, fun k hk => (h1.r2 k hk).turn hFT hS⟩
  · by_cases e : vs.ownBlock = none
    · exact .inl e
    · refine .inr (fun e' => ?_)
      obtain ⟨b, hb⟩ := Option.ne_none_iff_exists'.1 e
      exact h.ne b (by rw [← e', hb]) hb.symm
  · have hlt := (h1.o2.own_lt e2).2
    exact h.ne b (hS0 b hlt e1) e2
  · rw [List.length_append] at hk
    rw [getD_snoc, getD_snoc, h.l1]
    by_cases hkl : k < ds1.length
    · rw [if_pos hkl, if_pos hkl]
      exact (h1.r1 k hkl).turn hFT hS
    · have : k = ds1.length := by simp at hk; omega
      rw [if_neg hkl, if_neg hkl, if_pos this, if_pos this]
      exact hr.turn hFT hS
theorem Two.right (h : Two w B vo vs rs1 rs2 ds1 ds2) (hb : Below w.heap.size w w1) {vs' : Value} (ho : OwnR w2 B vs' (rs2 ++ [r])) (hg : w1.grownBy w2 vs.ownBlock) (hv : vs'.ownBlock = vs.ownBlock ∨ ∃ g, w1.heap.size ≤ g ∧ vs'.ownBlock = some g)
    (hr : RwS (TT vo vs) w1 r d) : Two w2 B vo vs' rs1 (rs2 ++ [r]) ds1 (ds2 ++ [d]) :=
  (h.swap.left hb ho hg hv (hr.turn (Fr.refl _ _) (fun _ _ e => e.symm))).swap
theorem Two.done (h : Two w B vo vs rs1 rs2 ds1 ds2) : ∃ A c A' c', vo = .slice A ds1.length c ∧ RdsAt w A ds1 ∧ vs = .slice A' ds2.length c' ∧ RdsAt w A' ds2 := by
  obtain ⟨A, c, rfl, _, _, h3⟩ := h.o1.at_
  obtain ⟨A', c', rfl, _, _, h4⟩ := h.o2.at_
  exact ⟨A, c, A', c', by rw [h.l1], rds_of h3 h.l1 (fun k hk => (h.r1 k hk).is), by rw [h.l2], rds_of h4 h.l2 (fun k hk => (h.r2 k hk).is)⟩
end

end Go.Proofs.Ytlbjaimgoiimgaa

namespace Go.Proofs.Ytlbjaimgoiimgaa
open Go.RowKit

/-- A fraction as it lies reads as x, whatever is written into the blocks S. -/
def FdS (S : Nat → Prop) (w : World) (f : Fc) (x : Rat) : Prop := ∀ w', Fr S w w' → FA (fun _ => False) w' f x
section
variable {S S' : Nat → Prop} {w w' : World} {f : Fc} {x : Rat}
theorem FdS.of (h : FA S w f x) : FdS S w f x := fun _ h' => (h.fr h').less (fun _ h => h.elim)
theorem FdS.below (h : FdS S w f x) (hb : Below w.heap.size w w') : FdS S w' f x := fun v hv => h v ((Fr.of_below hb).tr hv)
theorem FdS.turn (h : FdS S w f x) (hf : Fr S w w') (hS : ∀ b, b < w.heap.size → S' b → S b) : FdS S' w' f x := fun _ hv => h _ (hf.trans hv (fun _ h => h) hS)
theorem RwS.mixs {w0 : World} {A : Option Addr} {c : Nat} {l : List Fd} (hl : FdsAt w0 A l) (hlen : l.length ≤ 1000000) (hb : Below w0.heap.size w0 w) (hS : ∀ b, S b → w0.heap.size ≤ b) (hf : FdS S w f x) : RwS S w ⟨A, l.length, c, f⟩ ⟨l, Fd.of x⟩ := fun _ hv =>
  ⟨rfl, hlen, hl.below (hb.trans (hv.below hS hb.size)), (hf _ hv).is⟩
theorem tt_turn {vo vo' vs : Value} {N : Nat} (hv : vo'.ownBlock = vo.ownBlock ∨ vo'.ownBlock = some N) : ∀ b, b < N → TT vo' vs b → TT vo vs b := fun b hb e => e.elim (fun e => by
  rcases hv with hv | hv
  · exact .inl (e.trans hv)
  · rw [hv] at e
    injection e with e
    omega) .inr
end

/-- What the loop has. -/
structure LsI (w wr : World) (vo vs : Value) (rs1 rs2 : List Rw) (rs : List Rd) (xs : List Fd) (i : Nat) : Prop where
  bl : Below w.heap.size w wr
  two : Two wr w.heap.size vo vs rs1 rs2 ((List.range i).map (othR rs xs)) ((List.range i).map (sumR rs xs))
  r : ∀ k, k < i → (xs.getD k dnil).R

open Classical in
set_option maxRecDepth 100000 in
set_option maxHeartbeats 16000000 in
theorem sums_any {A Ax : Option Addr} {m cap mx cx : Nat} {rs : List Rd} {xs : List Fd} (w : World) (h : RdsL w A rs) (hm : rs.length = m) (hx : FdsAt w Ax xs) (hxm : xs.length = mx) :
    Calls Try.prog 5 #[.slice A m cap, .slice Ax mx cx] w fun e w' => e = .returned (.bool true) ∧ Below w.heap.size w w' := by
  have HDL := Lib.hid h; clear h
  have HM := Lib.hid hm; clear hm
  have HX := Lib.hid hx; clear hx
  have HXM := Lib.hid hxm; clear hxm
  go_enter Try.func5, Try.ntmps5
  go_wp2_with fail
  (with_reducible refine (small_any w).mono ?_)
  rintro e u1 ⟨rfl, hT⟩
  go_wp2_with fail
  (with_reducible refine (fewL_any (N := 3) (d := 1) _ (HDL.out.below hT) HM.out (by decide) (by decide)).mono ?_)
  rintro e u2 ⟨b, rfl, hb2, hbt⟩
  replace hT := hT.trans (hb2.mono hT.size)
  clear hb2
  cases b with
  | false =>
    clear hbt
    go_wp2_with fail
    go_ret
    exact ⟨rfl, hT⟩
  | true =>
  have hm5 : m ≤ 3 := by have := (hbt rfl).1; omega
  have HD := Lib.hid (HDL.out.tight (fun k hk => by have := ((hbt rfl).2 k (by rw [← HM.out]; exact hk)).1; omega))
  have HFW := Lib.hid (fun k hk => ((hbt rfl).2 k hk).2)
  clear HDL
  clear hbt
  go_wp2_with fail
  (with_reducible refine (fewF_any (N := 3) (d := 1) _ (HX.out.below hT) HXM.out (by decide) (by decide)).mono ?_)
  rintro e u3 ⟨b, rfl, hb2, hbt⟩
  replace hT := hT.trans (hb2.mono hT.size)
  clear hb2
  cases b with
  | false =>
    clear hbt
    go_wp2_with fail
    go_ret
    exact ⟨rfl, hT⟩
  | true =>
  have HFV := Lib.hid (hbt rfl).2
  clear hbt
  obtain ⟨bR, hbR⟩ : ∃ b, decide (SysR rs (m : Int)) = b := ⟨_, rfl⟩
  have HBR := Lib.hid (show bR = true ↔ SysR rs (m : Int) by rw [← hbR]; exact decide_eq_true_iff)
  clear hbR
  go_wp2_with fail
  (with_reducible refine (lright_any (n := (m : Int)) _ (HD.out.below hT) HM.out (by omega) bR HBR.out).mono ?_)
  rintro e v1 ⟨rfl, hb4⟩
  replace hT := hT.trans (hb4.mono hT.size)
  clear hb4
  cases bR with
  | false =>
    go_wp2_with fail
    go_ret
    exact ⟨rfl, hT⟩
  | true =>
  have HS := Lib.hid (sml_of (HBR.out.1 rfl) HM.out hm5 HFW.out)
  clear HBR HFW
  by_cases hmx : mx = m
  case neg =>
    have hmx' : ((mx : Int) == (m : Int)) = false := by simp; omega
    go_wp2_with fail
    go_ret
    exact ⟨rfl, hT⟩
  subst hmx
  have HT := Lib.hid hT
  clear hT
  go_wp2_with fail
  go_loopw [7, 8, 9] (fun ov sv iv wr => ∃ (i : Nat) (rs1 rs2 : List Rw) (Ao : Option Addr) (no co : Nat) (As : Option Addr) (ns cs : Nat), i ≤ mx ∧ ov = .slice Ao no co ∧ sv = .slice As ns cs ∧ iv = .int .i64 i ∧ Hid (LsI w wr (.slice Ao no co) (.slice As ns cs) rs1 rs2 rs xs i)) (fun _ _ iv _ => mx - (intOf iv).toNat)
  case atStart => exact ⟨0, [], [], none, 0, 0, none, 0, 0, Nat.zero_le _, rfl, rfl, rfl, Lib.hid ⟨HT.out, Two.nil _ _, fun k hk => by omega⟩⟩
  case round =>
    obtain ⟨i, rs1, rs2, Ao, no, co, As, ns, cs, hi, rfl, rfl, rfl, hI⟩ := hrel
    clear HT
    by_cases hgo : i < mx
    · have hgd : i < rs.length := by rw [HM.out]; exact hgo
      obtain ⟨b, off, Aa, ca, f, hA, hB, d0, d1, d2, d3, d4, hla, hfa, hfv⟩ := HD.out i hgd
      subst hA
      obtain ⟨bx, ox, g, hAx, hBx, c0, c1, c2, c3, hgx⟩ := HX.out i (by rw [HXM.out]; exact hgo)
      subst hAx
      obtain ⟨s1, X1, n1, e1, s2, X2, n2, e2⟩ := f
      obtain ⟨s3, X3, n3, e3, s4, X4, n4, e4⟩ := g
      simp only at d1 d2 d3 d4 c0 c1 c2 c3
      obtain ⟨la, hlae⟩ : ∃ l, (rs.getD i rnil).A.length = l := ⟨_, rfl⟩
      rw [hlae] at d0 hla
      have HFA := Lib.hid (And.intro hlae hfa)
      have HFL := Lib.hid hfv
      have HGX := Lib.hid hgx
      clear hlae hfa hfv hgx
      have hi01 : ((i : Nat) : Int) < (mx : Int) := by omega
      have HB0 := Lib.hid hI.out.bl
      have e0 : ∀ W' : World, Below w.heap.size w W' → W'.cell? ⟨b, off + i * 5, none⟩ = some (.slice Aa la ca) ∧ W'.cell? ⟨b, off + i * 5 + 1, none⟩ = some (.int .i64 s1) ∧ W'.cell? ⟨b, off + i * 5 + 2, none⟩ = some (.slice X1 n1 e1) ∧ W'.cell? ⟨b, off + i * 5 + 3, none⟩ = some (.int .i64 s2) ∧ W'.cell? ⟨b, off + i * 5 + 4, none⟩ = some (.slice X2 n2 e2) ∧
          W'.cell? ⟨bx, ox + i * 4, none⟩ = some (.int .i64 s3) ∧ W'.cell? ⟨bx, ox + i * 4 + 1, none⟩ = some (.slice X3 n3 e3) ∧ W'.cell? ⟨bx, ox + i * 4 + 2, none⟩ = some (.int .i64 s4) ∧ W'.cell? ⟨bx, ox + i * 4 + 3, none⟩ = some (.slice X4 n4 e4) := fun W' hW =>
        ⟨(hW.cell (p := ⟨b, _, none⟩) hB).trans d0, (hW.cell (p := ⟨b, _, none⟩) hB).trans d1, (hW.cell (p := ⟨b, _, none⟩) hB).trans d2, (hW.cell (p := ⟨b, _, none⟩) hB).trans d3, (hW.cell (p := ⟨b, _, none⟩) hB).trans d4, (hW.cell (p := ⟨bx, _, none⟩) hBx).trans c0, (hW.cell (p := ⟨bx, _, none⟩) hBx).trans c1, (hW.cell (p := ⟨bx, _, none⟩) hBx).trans c2, (hW.cell (p := ⟨bx, _, none⟩) hBx).trans c3⟩
      have E0 := Lib.hid e0
      clear e0 d0 d1 d2 d3 d4 c0 c1 c2 c3
      have HLN := Lib.hid (show rs1.length = i ∧ rs2.length = i by have h1 := hI.out.two.l1; have h2 := hI.out.two.l2; simp at h1 h2; exact ⟨h1, h2⟩)
      obtain ⟨bF, hbF⟩ : ∃ b, decide ((xs.getD i dnil).R) = b := ⟨_, rfl⟩
      have HBF := Lib.hid (show bF = true ↔ (xs.getD i dnil).R by rw [← hbF]; exact decide_eq_true_iff)
      clear hbF
      obtain ⟨-, -, -, -, -, x0, x1, x2, x3⟩ := E0.out _ HB0.out
      go_wp2_with fail
      clear x0 x1 x2 x3
      have ar1 : Ar wr s3 (xs.getD i dnil).l X3 n3 e3 := (HGX.out.below HB0.out).a1
      have ar2 : Ar wr s4 (xs.getD i dnil).l' X4 n4 e4 := (HGX.out.below HB0.out).a2
      have hRF : bF = true ↔ RF s3 (xs.getD i dnil).l s4 (xs.getD i dnil).l' := by
        have h1 : s3 = (xs.getD i dnil).s := HGX.out.e1
        have h2 : s4 = (xs.getD i dnil).s' := HGX.out.e2
        rw [h1, h2]
        exact HBF.out
      (with_reducible refine (fright_any _ ar1 ar2 bF hRF).mono ?_)
      rintro e wq ⟨rfl, hb2⟩
      clear ar1 ar2 hRF
      have HBQ := Lib.hid (HB0.out.trans (hb2.mono HB0.out.size))
      have HTW := Lib.hid (hI.out.two.below hb2)
      have HRR := Lib.hid hI.out.r
      clear hb2 hI HB0
      cases bF with
      | false =>
        go_wp2_with fail
        go_ret
        exact ⟨rfl, HBQ.out⟩
      | true =>
      have HVR := Lib.hid (HBF.out.1 rfl)
      clear HBF
      have hRv := (HS.out.R (k := i) hgo).2.2
      obtain ⟨qa, hqa⟩ : ∃ q, (rs.getD i rnil).v.q = q := ⟨_, rfl⟩
      obtain ⟨qb, hqb⟩ : ∃ q, (xs.getD i dnil).q = q := ⟨_, rfl⟩
      have haF := fd_fa (HFL.out.below HBQ.out) hRv
      have hxF := fd_fa (HGX.out.below HBQ.out) HVR.out
      have hom := okAdd_of (m := 40) (HS.out.bits i hgo).2 (fd_bits HVR.out (HFV.out i hgo)) (by decide) (by decide) (by decide) (by decide)
      rw [hqa] at haF hom
      rw [hqb] at hxF hom
      have HQAB := Lib.hid (And.intro hqa hqb)
      clear hqa hqb hRv
      have hB00 : Below wq.heap.size wq wq.drew := (Below.refl _ _).drew
      have HSB := Lib.hid (fun (W' : World) (hb : Below wq.heap.size wq W') => fadd_y (haF.below hb) (hxF.below hb) hom)
      clear haF hxF hom
      have HSW := Lib.hid (fun b' (hb : TT (.slice Ao no co) (.slice As ns cs) b') => (HTW.out.lt hb).2)
      have E12 := Lib.hid (show ∀ W' : World, Below wq.heap.size wq W' → W'.cell? ⟨b, off + i * 5 + 1, none⟩ = some (.int .i64 s1) ∧ W'.cell? ⟨b, off + i * 5 + 2, none⟩ = some (.slice X1 n1 e1) ∧ W'.cell? ⟨b, off + i * 5 + 3, none⟩ = some (.int .i64 s2) ∧ W'.cell? ⟨b, off + i * 5 + 4, none⟩ = some (.slice X2 n2 e2) ∧ W'.cell? ⟨bx, ox + i * 4, none⟩ = some (.int .i64 s3) ∧ W'.cell? ⟨bx, ox + i * 4 + 1, none⟩ = some (.slice X3 n3 e3) ∧ W'.cell? ⟨bx, ox + i * 4 + 2, none⟩ = some (.int .i64 s4) ∧ W'.cell? ⟨bx, ox + i * 4 + 3, none⟩ = some (.slice X4 n4 e4) from fun W' hW => (E0.out _ (HBQ.out.trans (hW.mono HBQ.out.size))).2)
      go_upto_region 12 with fail
      go_cut [10, 11] from 59 to 71 (fun p e wx => ∃ (G8 : Nat) (r1 : Int) (C1 : Option Addr) (k1 l1 : Nat) (r2 : Int) (C2 : Option Addr) (k2 l2 : Nat), p = .pointer (some ⟨G8, 0, none⟩) ∧ e = .int .i64 0 ∧ Blk wx G8 40 #[.int .i64 r1, .slice C1 k1 l1, .int .i64 r2, .slice C2 k2 l2] ∧ FA (TT (.slice Ao no co) (.slice As ns cs)) wx ⟨r1, C1, k1, l1, r2, C2, k2, l2⟩ (qa + qb) ∧ Below wq.heap.size wq wx ∧ wq.heap.size ≤ G8)
      case first =>
        go_region_held3 (fun W' => W'.cell? ⟨b, off + i * 5 + 1, none⟩ = some (.int .i64 s1) ∧ W'.cell? ⟨b, off + i * 5 + 2, none⟩ = some (.slice X1 n1 e1) ∧ W'.cell? ⟨b, off + i * 5 + 3, none⟩ = some (.int .i64 s2) ∧ W'.cell? ⟨b, off + i * 5 + 4, none⟩ = some (.slice X2 n2 e2) ∧ W'.cell? ⟨bx, ox + i * 4, none⟩ = some (.int .i64 s3) ∧ W'.cell? ⟨bx, ox + i * 4 + 1, none⟩ = some (.slice X3 n3 e3) ∧ W'.cell? ⟨bx, ox + i * 4 + 2, none⟩ = some (.int .i64 s4) ∧ W'.cell? ⟨bx, ox + i * 4 + 3, none⟩ = some (.slice X4 n4 e4))
          (first | exact E12.out _ (below_st4 hB4 (Nat.le_refl _) _ _ _ _) | exact E12.out _ (below_new hB4 _) | exact E12.out _ (below_new hB00 _) | exact E12.out _ (by assumption) | exact E12.out _ ⟨rfl, rfl, rfl, Nat.le_refl _, fun _ _ => rfl⟩)
          (first
            | (go_at_call 21; (first | refine (HSB.out _ hB00).mono ?_ | refine (HSB.out _ (below_new hB00 _)).mono ?_); rintro e w4 ⟨⟨r1, C1, k1, l1, r2, C2, k2, l2⟩, rfl, hro, hrb, hb4⟩; have hB4 : Below wq.heap.size wq w4 := (by first | exact ⟨hb4.os, hb4.tape, hb4.output, hb4.size, hb4.block⟩ | exact (below_new hB00 _).trans (hb4.mono (below_new hB00 _).size)); (try (have hk4 : Blk w4 wq.heap.size 40 #[.int .i64 0, .slice none 0 0, .int .i64 0, .slice none 0 0] := blk_run4 (b := wq.drew) hb4; have hlt4 := hk4.lt; have z0 := hk4.cell 0; have z1 := hk4.cell 1; have z2 := hk4.cell 2; have z3 := hk4.cell 3; have y0 := hk4.frozen 0; have y1 := hk4.frozen 1; have y2 := hk4.frozen 2; have y3 := hk4.frozen 3))))
        all_goals
          go_wp2_with fail
          go_meet
          first
            | exact ⟨_, r1, C1, k1, l1, r2, C2, k2, l2, rfl, rfl, hk4.set4 _ _ _ _, fa_st (f := ⟨r1, C1, k1, l1, r2, C2, k2, l2⟩) hk4 hro (by simp) HSW.out (by first | exact hB00.size | exact (below_new hB00 _).size) hrb, below_st4 hB4 (Nat.le_refl _) _ _ _ _, Nat.le_refl _⟩
            | exact ⟨_, r1, C1, k1, l1, r2, C2, k2, l2, rfl, rfl, Blk.new _ _ _, fa_new (f := ⟨r1, C1, k1, l1, r2, C2, k2, l2⟩) hro HSW.out (by first | exact hB00.size | exact (below_new hB00 _).size) hrb _, below_new hB4 _, hB4.size⟩
      obtain ⟨G8, r1, C1, k1, l1, r2, C2, k2, l2, rfl, rfl, k8, hq8, hb5, hG8⟩ := hcut
      clear hB00 HSB E12
      replace HTW := Lib.hid (HTW.out.below hb5)
      replace HBQ := Lib.hid (HBQ.out.trans (hb5.mono HBQ.out.size))
      have HK8 := Lib.hid k8
      have HQ8 := Lib.hid hq8
      have HG8 := Lib.hid (show G8 < wc.heap.size ∧ (∀ b', TT (.slice Ao no co) (.slice As ns cs) b' → b' ≠ G8) from ⟨k8.lt, fun b' h e => by have := HSW.out b' h; omega⟩)
      clear k8 hq8 hb5 hG8 HSW
      obtain ⟨w5, hw5⟩ : ∃ W, W = wc := ⟨_, rfl⟩
      subst hw5
      have HB55 := Lib.hid (show Below w5.heap.size w5 w5.drew from (Below.refl _ _).drew)
      have E15 := Lib.hid (show ∀ W' : World, Below w.heap.size w W' → W'.cell? ⟨b, off + i * 5, none⟩ = some (.slice Aa la ca) ∧ W'.cell? ⟨bx, ox + i * 4, none⟩ = some (.int .i64 s3) ∧ W'.cell? ⟨bx, ox + i * 4 + 1, none⟩ = some (.slice X3 n3 e3) ∧ W'.cell? ⟨bx, ox + i * 4 + 2, none⟩ = some (.int .i64 s4) ∧ W'.cell? ⟨bx, ox + i * 4 + 3, none⟩ = some (.slice X4 n4 e4) from fun W' hW => by
        obtain ⟨g0, -, -, -, -, g5⟩ := E0.out _ hW
        exact ⟨g0, g5⟩)
      have HBD := Lib.hid (HBQ.out.trans (HB55.out.mono HBQ.out.size))
      go_upto_region 15 with fail
      go_cut [7] from 74 to 86 (fun v wx => ∃ (A5 : Option Addr) (n5 c5 : Nat), v = .slice A5 n5 c5 ∧ Two wx w.heap.size (.slice A5 n5 c5) (.slice As ns cs) (rs1 ++ [⟨Aa, la, ca, ⟨s3, X3, n3, e3, s4, X4, n4, e4⟩⟩]) rs2 ((List.range (i + 1)).map (othR rs xs)) ((List.range i).map (sumR rs xs)) ∧ Below w.heap.size w wx ∧ Blk wx G8 40 #[.int .i64 r1, .slice C1 k1 l1, .int .i64 r2, .slice C2 k2 l2] ∧ FdS (TT (.slice A5 n5 c5) (.slice As ns cs)) wx ⟨r1, C1, k1, l1, r2, C2, k2, l2⟩ (qa + qb))
      case first =>
        go_region_held3 (fun W' => W'.cell? ⟨b, off + i * 5, none⟩ = some (.slice Aa la ca) ∧ W'.cell? ⟨bx, ox + i * 4, none⟩ = some (.int .i64 s3) ∧ W'.cell? ⟨bx, ox + i * 4 + 1, none⟩ = some (.slice X3 n3 e3) ∧ W'.cell? ⟨bx, ox + i * 4 + 2, none⟩ = some (.int .i64 s4) ∧ W'.cell? ⟨bx, ox + i * 4 + 3, none⟩ = some (.slice X4 n4 e4))
          (first | with_reducible exact E15.out _ hBA5 | with_reducible exact E15.out _ HBD.out | with_reducible exact E15.out _ HBQ.out | exact E15.out _ (HBD.out.alloc HBD.out.size _))
          ((refine step_appR rfl (.tmp 74) (.tmp 85) rfl w.heap.size _ rs1 [⟨Aa, la, ca, ⟨s3, X3, n3, e3, s4, X4, n4, e4⟩⟩] (some ⟨w5.drew.heap.size, 0, none⟩) 1 1 (by simp [Act.eval]) ((HTW.out.o1.below HB55.out).below ((Below.refl _ _).alloc (Nat.le_refl _) _)) (by simp [Act.eval]) rfl (lit_rc w5.drew ⟨Aa, la, ca, ⟨s3, X3, n3, e3, s4, X4, n4, e4⟩⟩) (by rw [HLN.out.1]; simp; omega) (by have h1 := HBQ.out.size; simp; omega) ?_; intro v5 w6 hown5 hg5 hat5; have hBA5 : Below w.heap.size w w6 := HBQ.out.trans (grown_belR ((HB55.out.alloc HB55.out.size _).mono HBQ.out.size) ((HTW.out.o1.below HB55.out).below ((Below.refl _ _).alloc (Nat.le_refl _) _)) hg5 HBQ.out.size); obtain ⟨A5, n5, c5, hv5⟩ : ∃ A n c, v5 = .slice A n c := (by obtain ⟨A, c, e, _⟩ := hown5.at_; exact ⟨A, _, c, e⟩); subst hv5))
        all_goals
          go_wp2_with fail
          go_meet
          have hal : Below w5.heap.size w5 (w5.drew.alloc (.cells #[.slice Aa la ca, .int .i64 s3, .slice X3 n3 e3, .int .i64 s4, .slice X4 n4 e4] 45)) := HB55.out.alloc HB55.out.size _
          have hmx := RwS.mixd (S := TT (.slice Ao no co) (.slice As ns cs)) (c := ca) (w := w5) HFA.out.2 (by rw [HFA.out.1]; exact hla) HBQ.out (fun b' e => (HTW.out.lt e).1) HGX.out
          rw [HFA.out.1] at hmx
          have htw := HTW.out.left hal hown5 hg5 (by rcases hat5 with h | h; exact .inl h; exact .inr ⟨_, Nat.le_refl _, h⟩) (hmx.below hal)
          have hFr : Fr (fun b' => some b' = (Value.slice Ao no co).ownBlock) (w5.drew.alloc (.cells #[.slice Aa la ca, .int .i64 s3, .slice X3 n3 e3, .int .i64 s4, .slice X4 n4 e4] 45)) w6 := ⟨hg5.os, hg5.tape, hg5.output, hg5.size, fun b' hb hn => hg5.block b' hb (fun e => hn e)⟩
          refine ⟨A5, n5, c5, rfl, ?_, hBA5, ?_, ?_⟩
          · rw [rng_succ]; exact htw
          · exact (HK8.out.below hal HK8.out.lt).fr hFr (fun e => HG8.out.2 G8 (.inl e) rfl)
          · exact ((FdS.of HQ8.out).below hal).turn (hFr.more (fun b' hb => .inl hb)) (tt_turn hat5)
      obtain ⟨A5, n5, c5, rfl, htw, hbW, k8, hq8⟩ := hcut
      have HGS := Lib.hid (fun b' (e : some b' = (Value.slice As ns cs).ownBlock) => HG8.out.2 b' (.inr e))
      clear HTW HBQ HK8 HQ8 HG8 HB55 E15 HBD
      have HTW := Lib.hid htw
      have HBQ := Lib.hid hbW
      have HK8 := Lib.hid k8
      have HQ8 := Lib.hid hq8
      clear htw hbW k8 hq8
      obtain ⟨w7, hw7⟩ : ∃ W, W = wc := ⟨_, rfl⟩
      subst hw7
      have HB55 := Lib.hid (show Below w7.heap.size w7 w7.drew from (Below.refl _ _).drew)
      have E8 := Lib.hid (show ∀ W' : World, Below w7.heap.size w7 W' → W'.cell? ⟨b, off + i * 5, none⟩ = some (.slice Aa la ca) ∧ W'.cell? ⟨G8, 0, none⟩ = some (.int .i64 r1) ∧ W'.cell? ⟨G8, 1, none⟩ = some (.slice C1 k1 l1) ∧ W'.cell? ⟨G8, 2, none⟩ = some (.int .i64 r2) ∧ W'.cell? ⟨G8, 3, none⟩ = some (.slice C2 k2 l2) from fun W' hW => by
        have k9 := HK8.out.below hW HK8.out.lt
        exact ⟨(E0.out _ (HBQ.out.trans (hW.mono HBQ.out.size))).1, k9.cell 0, k9.cell 1, k9.cell 2, k9.cell 3⟩)
      have HE6 := Lib.hid (show ∀ W' : World, Below w.heap.size w W' → (w7.drew.alloc (.cells #[.slice Aa la ca, .int .i64 r1, .slice C1 k1 l1, .int .i64 r2, .slice C2 k2 l2] 45)).grownBy W' (Value.slice As ns cs).ownBlock → W'.cell? ⟨b, off + i * 5, none⟩ = some (.slice Aa la ca) ∧ W'.cell? ⟨G8, 0, none⟩ = some (.int .i64 r1) ∧ W'.cell? ⟨G8, 1, none⟩ = some (.slice C1 k1 l1) ∧ W'.cell? ⟨G8, 2, none⟩ = some (.int .i64 r2) ∧ W'.cell? ⟨G8, 3, none⟩ = some (.slice C2 k2 l2) from fun W' hW hg => by
        have hal : Below w7.heap.size w7 (w7.drew.alloc (.cells #[.slice Aa la ca, .int .i64 r1, .slice C1 k1 l1, .int .i64 r2, .slice C2 k2 l2] 45)) := HB55.out.alloc HB55.out.size _
        have hFr : Fr (fun b' => some b' = (Value.slice As ns cs).ownBlock) (w7.drew.alloc (.cells #[.slice Aa la ca, .int .i64 r1, .slice C1 k1 l1, .int .i64 r2, .slice C2 k2 l2] 45)) W' := ⟨hg.os, hg.tape, hg.output, hg.size, fun b' hb hn => hg.block b' hb (fun e => hn e)⟩
        have k9 := (HK8.out.below hal HK8.out.lt).fr hFr (fun e => HGS.out G8 e rfl)
        exact ⟨(E0.out _ hW).1, k9.cell 0, k9.cell 1, k9.cell 2, k9.cell 3⟩)
      go_upto_region 16 with fail
      · go_region_held3 (fun W' => W'.cell? ⟨b, off + i * 5, none⟩ = some (.slice Aa la ca) ∧ W'.cell? ⟨G8, 0, none⟩ = some (.int .i64 r1) ∧ W'.cell? ⟨G8, 1, none⟩ = some (.slice C1 k1 l1) ∧ W'.cell? ⟨G8, 2, none⟩ = some (.int .i64 r2) ∧ W'.cell? ⟨G8, 3, none⟩ = some (.slice C2 k2 l2))
          (first | with_reducible exact hE8 | with_reducible exact E8.out _ (Below.refl _ _) | with_reducible exact E8.out _ HB55.out | exact E8.out _ (HB55.out.alloc HB55.out.size _))
          ((refine step_appR rfl (.tmp 87) (.tmp 95) rfl w.heap.size _ rs2 [⟨Aa, la, ca, ⟨r1, C1, k1, l1, r2, C2, k2, l2⟩⟩] (some ⟨w7.drew.heap.size, 0, none⟩) 1 1 (by simp [Act.eval]) ((HTW.out.o2.below HB55.out).below ((Below.refl _ _).alloc (Nat.le_refl _) _)) (by simp [Act.eval]) rfl (lit_rc w7.drew ⟨Aa, la, ca, ⟨r1, C1, k1, l1, r2, C2, k2, l2⟩⟩) (by rw [HLN.out.2]; simp; omega) (by have h1 := HBQ.out.size; simp; omega) ?_; intro v5 w6 hown5 hg5 hat5; have hBA5 : Below w.heap.size w w6 := HBQ.out.trans (grown_belR ((HB55.out.alloc HB55.out.size _).mono HBQ.out.size) ((HTW.out.o2.below HB55.out).below ((Below.refl _ _).alloc (Nat.le_refl _) _)) hg5 HBQ.out.size); obtain ⟨A6, n6, c6, hv5⟩ : ∃ A n c, v5 = .slice A n c := (by obtain ⟨A, c, e, _⟩ := hown5.at_; exact ⟨A, _, c, e⟩); subst hv5; have hE8 := HE6.out _ hBA5 hg5))
        all_goals
          have hal : Below w7.heap.size w7 (w7.drew.alloc (.cells #[.slice Aa la ca, .int .i64 r1, .slice C1 k1 l1, .int .i64 r2, .slice C2 k2 l2] 45)) := HB55.out.alloc HB55.out.size _
          have hmx := RwS.mixs (S := TT (.slice A5 n5 c5) (.slice As ns cs)) (c := ca) (w := w7) HFA.out.2 (by rw [HFA.out.1]; exact hla) HBQ.out (fun b' e => (HTW.out.lt e).1) HQ8.out
          rw [HFA.out.1] at hmx
          have htw := HTW.out.right hal hown5 hg5 (by rcases hat5 with h | h; exact .inl h; exact .inr ⟨_, Nat.le_refl _, h⟩) (hmx.below hal)
          have e9 : sumR rs xs i = ⟨(rs.getD i rnil).A, Fd.of (qa + qb)⟩ := by unfold sumR; rw [HQAB.out.1, HQAB.out.2]
          rw [← e9, ← rng_succ (g := sumR rs xs)] at htw
          have hnx : Hid (LsI w w6 (.slice A5 n5 c5) (.slice A6 n6 c6) (rs1 ++ [⟨Aa, la, ca, ⟨s3, X3, n3, e3, s4, X4, n4, e4⟩⟩]) (rs2 ++ [⟨Aa, la, ca, ⟨r1, C1, k1, l1, r2, C2, k2, l2⟩⟩]) rs xs (i + 1)) := Lib.hid ⟨hBA5, htw, fun k hk => by
            by_cases e : k = i
            · rw [e]; exact HVR.out
            · exact HRR.out k (by omega)⟩
          clear HTW HBQ HK8 HQ8 HB55 E8 HE6 HGS E0 htw hBA5 hE8 hown5 hg5 hat5 e9 hmx hal
          go_wp2_with fail
          go_roundw
          case rel => exact ⟨i + 1, _, _, _, _, _, _, _, _, by omega, rfl, rfl, rfl, hnx⟩
          case measure => simp [intOf]; omega
    · have : i = mx := by omega
      subst this
      obtain ⟨A1, c1', A2, c2', e1, hR1, e2, hR2⟩ := hI.out.two.done
      have hl1 : ((List.range i).map (othR rs xs)).length = i := by simp
      have hl2 : ((List.range i).map (sumR rs xs)).length = i := by simp
      rw [hl1] at e1
      rw [hl2] at e2
      injection e1 with e1 e1' e1''
      have e1' := e1'.symm
      subst e1; subst e1'; subst e1''
      injection e2 with e2 e2' e2''
      have e2' := e2'.symm
      subst e2; subst e2'; subst e2''
      have hVR := hI.out.r
      have HO := Lib.hid (oth_sml HS.out hVR HFV.out)
      have HSM := Lib.hid (sum_sys HS.out hVR HFV.out)
      have HVR := Lib.hid hVR
      have HR1 := Lib.hid hR1
      have HR2 := Lib.hid hR2
      have HT := Lib.hid hI.out.bl
      clear hI hR1 hR2 hl1 hl2 hVR
      obtain ⟨k, Y, hr⟩ := HS.out.free
      obtain ⟨k1, Y1, hr1, hk1⟩ := free_of HS.out HO.out (rng_same HS.out (fun _ _ => rfl)) hr
      obtain ⟨k0, Y0, hr0, hk0⟩ := free_of HS.out HS.out.hom HS.out.hom_same hr
      have HEL := Lib.hid (rng_same (g := sumR rs xs) HS.out (fun _ _ => rfl))
      have hle := runFree_le hr
      have hle1 := runFree_le hr1
      have hle0 := runFree_le hr0
      by_cases hk : k = i
      · rw [hk] at hr
        rw [hk1.1 hk] at hr1
        rw [hk0.1 hk] at hr0
        have HRA := Lib.hid hr
        have HRO := Lib.hid hr1
        have HRH := Lib.hid hr0
        clear hr hr1 hr0 hk1 hk0 hle hle1 hle0
        go_wp2_with fail
        (with_reducible refine (solve_yes _ (HD.out.below HT.out) HS.out HRA.out).mono ?_)
        rintro e v2 ⟨Ax2, cx2, rfl, hqx, hb5⟩
        replace HT := Lib.hid (HT.out.trans (hb5.mono HT.out.size))
        replace HR1 := Lib.hid (HR1.out.below hb5)
        replace HR2 := Lib.hid (HR2.out.below hb5)
        have HQX := Lib.hid hqx
        clear hb5 hqx
        go_wp2_with fail
        (with_reducible refine (solve_yes _ HR1.out HO.out HRO.out).mono ?_)
        rintro e v3 ⟨Ay, cy, rfl, hqy, hb5⟩
        replace HT := Lib.hid (HT.out.trans (hb5.mono HT.out.size))
        replace HR2 := Lib.hid (HR2.out.below hb5)
        replace HQX := Lib.hid (HQX.out.below hb5)
        have HQY := Lib.hid hqy
        clear hb5 hqy HR1
        go_wp2_with fail
        (with_reducible refine (solve_elems _ HR2.out HS.out HSM.out HEL.out HRA.out).mono ?_)
        rintro e v4 ⟨Az, nz, cz, ez, rfl, hb5, hdz⟩
        replace HT := Lib.hid (HT.out.trans (hb5.mono HT.out.size))
        replace HQX := Lib.hid (HQX.out.below hb5)
        replace HQY := Lib.hid (HQY.out.below hb5)
        have HDZ := Lib.hid hdz
        clear hb5 hdz HR2
        go_wp2_with fail
        (with_reducible refine (hom_any _ (HD.out.below HT.out) HM.out (by omega)).mono ?_)
        rintro e v5 ⟨A', c', rfl, hR', hb5⟩
        replace HT := Lib.hid (HT.out.trans (hb5.mono HT.out.size))
        replace HQX := Lib.hid (HQX.out.below hb5)
        replace HQY := Lib.hid (HQY.out.below hb5)
        have HRH' := Lib.hid hR'
        have HB5 := Lib.hid hb5
        clear hb5 hR'
        go_wp2_with fail
        (with_reducible refine (solve_yes _ HRH'.out HS.out.hom HRH.out).mono ?_)
        rintro e v6 ⟨Ah, ch, rfl, hqh, hb5⟩
        replace HT := Lib.hid (HT.out.trans (hb5.mono HT.out.size))
        replace HQX := Lib.hid (HQX.out.below hb5)
        replace HQY := Lib.hid (HQY.out.below hb5)
        have HQH := Lib.hid hqh
        have HB46 := Lib.hid (HB5.out.trans (hb5.mono HB5.out.size))
        clear hb5 hqh HRH' HB5
        rcases HDZ.out with h6 | ⟨h6, -⟩ | ⟨-, h6, hnz, Y2, hr2, hqz⟩
        · subst h6
          clear HDZ
          go_wp2_with fail
          go_ret
          exact ⟨rfl, HT.out⟩
        · omega
        subst h6
        have hnz := hnz.symm
        subst hnz
        have HQZ := Lib.hid (hqz.below HB46.out)
        have HSA := Lib.hid (sums_at HS.out HVR.out HFV.out HRA.out HRO.out hr2)
        have HZA := Lib.hid (zero_at HS.out HRH.out)
        have HXB := Lib.hid (sol_bits HS.out HRA.out)
        have HYB := Lib.hid (sol_bits HO.out HRO.out)
        clear HDZ hqz HB46 hr2 HRA HRO HRH HEL HSM HO HVR
        go_wp2_with fail
        go_loopw [20] (fun iv wr => ∃ j : Nat, j ≤ i ∧ iv = .int .i64 j ∧ Hid (Below v6.heap.size v6 wr)) (fun iv _ => i - (intOf iv).toNat)
        case atStart => exact ⟨0, Nat.zero_le _, rfl, Lib.hid (Below.refl _ _)⟩
        case round =>
          obtain ⟨j, hj, rfl, hbl⟩ := hrel
          by_cases hgo : j < i
          · obtain ⟨b1, o1, f1, hA1, hB1, c0, c1, c2, c3, hf1⟩ := (HQX.out.below hbl.out).at_ (k := j) (by rw [solV_len]; exact hgo)
            obtain ⟨b2, o2, f2, hA2, hB2, d0, d1, d2, d3, hf2⟩ := (HQY.out.below hbl.out).at_ (k := j) (by rw [solV_len]; exact hgo)
            obtain ⟨b3, o3, f3, hA3, hB3, g0, g1, g2, g3, hf3⟩ := (HQZ.out.below hbl.out).at_ (k := j) (by rw [solV_len]; exact hgo)
            obtain ⟨b4, o4, f4, hA4, hB4, q0, q1, q2, q3, hf4⟩ := (HQH.out.below hbl.out).at_ (k := j) (by rw [solV_len]; exact hgo)
            subst hA1 hA2 hA3 hA4
            obtain ⟨s1, X1, n1, p1, s2, X2, n2, p2⟩ := f1
            obtain ⟨s3, X3, n3, p3, s4, X4, n4, p4⟩ := f2
            obtain ⟨s5, X5, n5, p5, s6, X6, n6, p6⟩ := f3
            obtain ⟨s7, X7, n7, p7, s8, X8, n8, p8⟩ := f4
            simp only at c0 c1 c2 c3 d0 d1 d2 d3 g0 g1 g2 g3 q0 q1 q2 q3
            have hi01 : ((j : Nat) : Int) < (i : Int) := by omega
            have hom := okAdd_of (m := 486) (HXB.out j hgo) (HYB.out j hgo) (by decide) (by decide) (by decide) (by decide)
            have HSB := Lib.hid (fun (W' : World) (hb : Below wr.heap.size wr W') => fadd_y (hf1.below hb) (hf2.below hb) hom)
            have E0 := Lib.hid (show ∀ W' : World, Below wr.heap.size wr W' → W'.cell? ⟨b1, o1 + j * 4, none⟩ = some (.int .i64 s1) ∧ W'.cell? ⟨b1, o1 + j * 4 + 1, none⟩ = some (.slice X1 n1 p1) ∧ W'.cell? ⟨b1, o1 + j * 4 + 2, none⟩ = some (.int .i64 s2) ∧ W'.cell? ⟨b1, o1 + j * 4 + 3, none⟩ = some (.slice X2 n2 p2) ∧ W'.cell? ⟨b2, o2 + j * 4, none⟩ = some (.int .i64 s3) ∧ W'.cell? ⟨b2, o2 + j * 4 + 1, none⟩ = some (.slice X3 n3 p3) ∧ W'.cell? ⟨b2, o2 + j * 4 + 2, none⟩ = some (.int .i64 s4) ∧ W'.cell? ⟨b2, o2 + j * 4 + 3, none⟩ = some (.slice X4 n4 p4) from fun W' hW =>
              ⟨(hW.cell (p := ⟨b1, _, none⟩) hB1).trans c0, (hW.cell (p := ⟨b1, _, none⟩) hB1).trans c1, (hW.cell (p := ⟨b1, _, none⟩) hB1).trans c2, (hW.cell (p := ⟨b1, _, none⟩) hB1).trans c3, (hW.cell (p := ⟨b2, _, none⟩) hB2).trans d0, (hW.cell (p := ⟨b2, _, none⟩) hB2).trans d1, (hW.cell (p := ⟨b2, _, none⟩) hB2).trans d2, (hW.cell (p := ⟨b2, _, none⟩) hB2).trans d3⟩)
            have HG := Lib.hid (And.intro (And.intro hB3 (And.intro g0 (And.intro g1 (And.intro g2 g3)))) (And.intro hB4 (And.intro q0 (And.intro q1 (And.intro q2 q3)))))
            have HF3 := Lib.hid hf3
            have HF4 := Lib.hid hf4
            clear c0 c1 c2 c3 d0 d1 d2 d3 g0 g1 g2 g3 q0 q1 q2 q3 hf1 hf2 hf3 hf4 hom
            have hB00 : Below wr.heap.size wr wr.drew := (Below.refl _ _).drew
            go_upto_region 28 with fail
            go_cut [21, 22] from 151 to 162 (fun p e wx => ∃ (G8 : Nat) (r1 : Int) (C1 : Option Addr) (k1 l1 : Nat) (r2 : Int) (C2 : Option Addr) (k2 l2 : Nat), p = .pointer (some ⟨G8, 0, none⟩) ∧ e = .int .i64 0 ∧ Blk wx G8 40 #[.int .i64 r1, .slice C1 k1 l1, .int .i64 r2, .slice C2 k2 l2] ∧ FA (fun _ => False) wx ⟨r1, C1, k1, l1, r2, C2, k2, l2⟩ ((solV Y i).getD j 0 + (solV Y1 i).getD j 0) ∧ Below wr.heap.size wr wx)
            case first =>
              go_region_held3 (fun W' => W'.cell? ⟨b1, o1 + j * 4, none⟩ = some (.int .i64 s1) ∧ W'.cell? ⟨b1, o1 + j * 4 + 1, none⟩ = some (.slice X1 n1 p1) ∧ W'.cell? ⟨b1, o1 + j * 4 + 2, none⟩ = some (.int .i64 s2) ∧ W'.cell? ⟨b1, o1 + j * 4 + 3, none⟩ = some (.slice X2 n2 p2) ∧ W'.cell? ⟨b2, o2 + j * 4, none⟩ = some (.int .i64 s3) ∧ W'.cell? ⟨b2, o2 + j * 4 + 1, none⟩ = some (.slice X3 n3 p3) ∧ W'.cell? ⟨b2, o2 + j * 4 + 2, none⟩ = some (.int .i64 s4) ∧ W'.cell? ⟨b2, o2 + j * 4 + 3, none⟩ = some (.slice X4 n4 p4))
                (first | exact E0.out _ (below_st4 hBX (Nat.le_refl _) _ _ _ _) | exact E0.out _ (below_new hBX _) | exact E0.out _ (below_new hB00 _) | exact E0.out _ (by assumption) | exact E0.out _ ⟨rfl, rfl, rfl, Nat.le_refl _, fun _ _ => rfl⟩)
                (first
                  | (go_at_call 21; (first | refine (HSB.out _ hB00).mono ?_ | refine (HSB.out _ (below_new hB00 _)).mono ?_); rintro e w4 ⟨⟨r1, C1, k1, l1, r2, C2, k2, l2⟩, rfl, hro, hrb, hb4⟩; have hBX : Below wr.heap.size wr w4 := (by first | exact ⟨hb4.os, hb4.tape, hb4.output, hb4.size, hb4.block⟩ | exact (below_new hB00 _).trans (hb4.mono (below_new hB00 _).size)); (try (have hk4 : Blk w4 wr.heap.size 40 #[.int .i64 0, .slice none 0 0, .int .i64 0, .slice none 0 0] := blk_run4 (b := wr.drew) hb4; have hlt4 := hk4.lt; have z0 := hk4.cell 0; have z1 := hk4.cell 1; have z2 := hk4.cell 2; have z3 := hk4.cell 3; have y0 := hk4.frozen 0; have y1 := hk4.frozen 1; have y2 := hk4.frozen 2; have y3 := hk4.frozen 3))))
              all_goals
                go_wp2_with fail
                go_meet
                first
                  | exact ⟨_, r1, C1, k1, l1, r2, C2, k2, l2, rfl, rfl, hk4.set4 _ _ _ _, (fa_st (S := fun b => b < wr.heap.size) (f := ⟨r1, C1, k1, l1, r2, C2, k2, l2⟩) hk4 hro (by simp) (fun b hb => hb) (by first | exact hB00.size | exact (below_new hB00 _).size) hrb).less (fun _ h => h.elim), below_st4 hBX (Nat.le_refl _) _ _ _ _⟩
                  | exact ⟨_, r1, C1, k1, l1, r2, C2, k2, l2, rfl, rfl, Blk.new _ _ _, (fa_new (S := fun b => b < wr.heap.size) (f := ⟨r1, C1, k1, l1, r2, C2, k2, l2⟩) hro (fun b hb => hb) (by first | exact hB00.size | exact (below_new hB00 _).size) hrb _).less (fun _ h => h.elim), below_new hBX _⟩
            obtain ⟨G9, r1, C1, k1, l1, r2, C2, k2, l2, rfl, rfl, k9, hq9, hb5⟩ := hcut
            clear E0 hB00 HSB
            obtain ⟨w9, hw9⟩ : ∃ W, W = wc := ⟨_, rfl⟩
            subst hw9
            have E0 := Lib.hid (show ∀ W' : World, Below w9.heap.size w9 W' → W'.cell? ⟨G9, 0, none⟩ = some (.int .i64 r1) ∧ W'.cell? ⟨G9, 1, none⟩ = some (.slice C1 k1 l1) ∧ W'.cell? ⟨G9, 2, none⟩ = some (.int .i64 r2) ∧ W'.cell? ⟨G9, 3, none⟩ = some (.slice C2 k2 l2) ∧ W'.cell? ⟨b3, o3 + j * 4, none⟩ = some (.int .i64 s5) ∧ W'.cell? ⟨b3, o3 + j * 4 + 1, none⟩ = some (.slice X5 n5 p5) ∧ W'.cell? ⟨b3, o3 + j * 4 + 2, none⟩ = some (.int .i64 s6) ∧ W'.cell? ⟨b3, o3 + j * 4 + 3, none⟩ = some (.slice X6 n6 p6) ∧ W'.cell? ⟨b4, o4 + j * 4, none⟩ = some (.int .i64 s7) ∧ W'.cell? ⟨b4, o4 + j * 4 + 1, none⟩ = some (.slice X7 n7 p7) ∧ W'.cell? ⟨b4, o4 + j * 4 + 2, none⟩ = some (.int .i64 s8) ∧ W'.cell? ⟨b4, o4 + j * 4 + 3, none⟩ = some (.slice X8 n8 p8) from fun W' hW => by
              have hWr := hb5.trans (hW.mono hb5.size)
              obtain ⟨⟨hB3, g0, g1, g2, g3⟩, hB4, q0, q1, q2, q3⟩ := HG.out
              have k10 := k9.below hW k9.lt
              exact ⟨k10.cell 0, k10.cell 1, k10.cell 2, k10.cell 3, (hWr.cell (p := ⟨b3, _, none⟩) hB3).trans g0, (hWr.cell (p := ⟨b3, _, none⟩) hB3).trans g1, (hWr.cell (p := ⟨b3, _, none⟩) hB3).trans g2, (hWr.cell (p := ⟨b3, _, none⟩) hB3).trans g3, (hWr.cell (p := ⟨b4, _, none⟩) hB4).trans q0, (hWr.cell (p := ⟨b4, _, none⟩) hB4).trans q1, (hWr.cell (p := ⟨b4, _, none⟩) hB4).trans q2, (hWr.cell (p := ⟨b4, _, none⟩) hB4).trans q3⟩)
            have hz3 := HF3.out.below hb5
            rw [HSA.out j hgo] at hz3
            have hz4 := HF4.out.below hb5
            have HS1 := Lib.hid (fun (W' : World) (hb : Below w9.heap.size w9 W') => fsame_any _ _ _ _ _ _ _ _ _ _ _ _ _ _ _ _ _ _ _ _ W' (hq9.below hb).fv (hz3.below hb).fv true (by simp))
            have HS2 := Lib.hid (fun (W' : World) (hb : Below w9.heap.size w9 W') => rzero_any (hz4.below hb) true (decide_eq_true (HZA.out j hgo)))
            have HB9 := Lib.hid hb5
            have hB00 : Below w9.heap.size w9 w9.drew := (Below.refl _ _).drew
            clear hz3 hz4 hq9 k9 HG HF3 HF4 hb5
            go_upto_region 29 with fail
            go_cut [181] from 163 to 181 (fun v wx => v = .bool false ∧ Below w9.heap.size w9 wx)
            case first =>
              go_region_held3 (fun W' => W'.cell? ⟨G9, 0, none⟩ = some (.int .i64 r1) ∧ W'.cell? ⟨G9, 1, none⟩ = some (.slice C1 k1 l1) ∧ W'.cell? ⟨G9, 2, none⟩ = some (.int .i64 r2) ∧ W'.cell? ⟨G9, 3, none⟩ = some (.slice C2 k2 l2) ∧ W'.cell? ⟨b3, o3 + j * 4, none⟩ = some (.int .i64 s5) ∧ W'.cell? ⟨b3, o3 + j * 4 + 1, none⟩ = some (.slice X5 n5 p5) ∧ W'.cell? ⟨b3, o3 + j * 4 + 2, none⟩ = some (.int .i64 s6) ∧ W'.cell? ⟨b3, o3 + j * 4 + 3, none⟩ = some (.slice X6 n6 p6) ∧ W'.cell? ⟨b4, o4 + j * 4, none⟩ = some (.int .i64 s7) ∧ W'.cell? ⟨b4, o4 + j * 4 + 1, none⟩ = some (.slice X7 n7 p7) ∧ W'.cell? ⟨b4, o4 + j * 4 + 2, none⟩ = some (.int .i64 s8) ∧ W'.cell? ⟨b4, o4 + j * 4 + 3, none⟩ = some (.slice X8 n8 p8))
                (first | exact E0.out _ hBY | exact E0.out _ hBX | exact E0.out _ hB00 | exact E0.out _ (Below.refl _ _))
                (first
                  | (go_at_call 22; (with_reducible refine (HS1.out _ hB00).mono ?_); rintro e w4 ⟨rfl, hb4⟩; have hBX : Below w9.heap.size w9 w4 := ⟨hb4.os, hb4.tape, hb4.output, hb4.size, hb4.block⟩)
                  | (go_at_call 15; (with_reducible refine (HS2.out _ hBX).mono ?_); rintro e w5 ⟨rfl, hb4⟩; have hBY : Below w9.heap.size w9 w5 := hBX.trans (hb4.mono hBX.size)))
              all_goals
                go_wp2_with fail
                go_meet
                first | exact ⟨rfl, hBY⟩ | exact hBY
            obtain ⟨rfl, hb6⟩ := hcut
            have hbn := Lib.hid (hbl.out.trans ((HB9.out.trans (hb6.mono HB9.out.size)).mono hbl.out.size))
            clear E0 HS1 HS2 HB9 hB00 hb6
            go_wp2_with fail
            go_roundw
            case rel => exact ⟨j + 1, by omega, rfl, hbn⟩
            case measure => simp [intOf]; omega
          · have : j = i := by omega
            subst this
            go_wp2_with fail
            go_ret
            exact ⟨rfl, HT.out.trans (hbl.out.mono HT.out.size)⟩
      · skip
        have hk' : k < i := by omega
        have hk1' : k1 < i := by have := fun e => hk (hk1.2 e); omega
        have hk0' : k0 < i := by have := fun e => hk (hk0.2 e); omega
        have HRA := Lib.hid hr
        have HRO := Lib.hid hr1
        have HRH := Lib.hid hr0
        clear hr hr1 hr0 hk1 hk0 hle hle1 hle0
        go_wp2_with fail
        (with_reducible refine (solve_no _ (HD.out.below HT.out) HS.out HRA.out hk').mono ?_)
        rintro e v2 ⟨rfl, hb5⟩
        replace HT := Lib.hid (HT.out.trans (hb5.mono HT.out.size))
        replace HR1 := Lib.hid (HR1.out.below hb5)
        replace HR2 := Lib.hid (HR2.out.below hb5)
        clear hb5
        go_wp2_with fail
        (with_reducible refine (solve_no _ HR1.out HO.out HRO.out hk1').mono ?_)
        rintro e v3 ⟨rfl, hb5⟩
        replace HT := Lib.hid (HT.out.trans (hb5.mono HT.out.size))
        replace HR2 := Lib.hid (HR2.out.below hb5)
        clear hb5
        go_wp2_with fail
        (with_reducible refine (solve_elems _ HR2.out HS.out HSM.out HEL.out HRA.out).mono ?_)
        rintro e v4 ⟨Az, nz, cz, ez, rfl, hb5, hdz⟩
        replace HT := Lib.hid (HT.out.trans (hb5.mono HT.out.size))
        have HEZ := Lib.hid (show ez = 6 ∨ ez = 16 by
          rcases hdz with h | ⟨_, h⟩ | ⟨h, _⟩
          · exact .inl h
          · exact .inr h
          · omega)
        clear hb5 hdz HR2
        go_wp2_with fail
        (with_reducible refine (hom_any _ (HD.out.below HT.out) HM.out (by omega)).mono ?_)
        rintro e v5 ⟨A', c', rfl, hR', hb5⟩
        replace HT := Lib.hid (HT.out.trans (hb5.mono HT.out.size))
        have HRH' := Lib.hid hR'
        clear hb5 hR'
        go_wp2_with fail
        (with_reducible refine (solve_no _ HRH'.out HS.out.hom HRH.out hk0').mono ?_)
        rintro e v6 ⟨rfl, hb5⟩
        replace HT := Lib.hid (HT.out.trans (hb5.mono HT.out.size))
        clear hb5 HRH'
        rcases HEZ.out with h6 | h6
        · subst h6
          go_wp2_with fail
          go_ret
          exact ⟨rfl, HT.out⟩
        · subst h6
          go_wp2_with fail
          go_ret
          exact ⟨rfl, HT.out⟩


end Go.Proofs.Ytlbjaimgoiimgaa
