/- Walks: the law's chosen. -/
import Derived.Test.YtfipogmndokhkaaUm
namespace Go.Proofs.Ytfipogmndokhkaa
open Go.RowKit

def pick1 (l out : List (Int × Int)) (o : Nat) : List (Int × Int) := if l.getD (o % l.length) (0, 0) ∈ out then out else out ++ [l.getD (o % l.length) (0, 0)]
def chs (l : List (Int × Int)) (os : List Nat) : List (Int × Int) := os.foldl (pick1 l) []
theorem chs_step (l : List (Int × Int)) {os : List Nat} {i : Nat} (hi : i < os.length) : chs l (os.take (i + 1)) = pick1 l (chs l (os.take i)) (os.getD i 0) := by
  rw [take_one (d := 0) hi]
  unfold chs
  rw [List.foldl_append]
  rfl
theorem pick1_len (l out : List (Int × Int)) (o : Nat) : (pick1 l out o).length ≤ out.length + 1 := by
  unfold pick1
  split <;> simp
theorem chs_len (l : List (Int × Int)) (os : List Nat) : ∀ i, i ≤ os.length → (chs l (os.take i)).length ≤ i
  | 0, _ => Nat.le_refl 0
  | i + 1, h => by
    rw [chs_step l h]
    have := pick1_len l (chs l (os.take i)) (os.getD i 0)
    have := chs_len l os i (by omega)
    omega
theorem chs_sub {l : List (Int × Int)} (hl : 0 < l.length) (os : List Nat) : ∀ i, i ≤ os.length → (∀ d ∈ chs l (os.take i), d ∈ l) ∧ (chs l (os.take i)).Nodup
  | 0, _ => ⟨fun d hd => (List.not_mem_nil hd).elim, List.nodup_nil⟩
  | i + 1, h => by
    rw [chs_step l h]
    obtain ⟨h1, h2⟩ := chs_sub hl os i (by omega)
    unfold pick1
    have hk : os.getD i 0 % l.length < l.length := Nat.mod_lt _ hl
    split
    · exact ⟨h1, h2⟩
    · rename_i hn
      refine ⟨fun d hd => ?_, ?_⟩
      · rcases List.mem_append.1 hd with hd | hd
        · exact h1 d hd
        · rw [List.mem_singleton.1 hd, List.getD_eq_getElem?_getD, List.getElem?_eq_getElem hk]
          exact List.getElem_mem hk
      · rw [List.nodup_append]
        exact ⟨h2, by simp, fun a ha b hb => by rw [List.mem_singleton.1 hb]; exact fun e => hn (e ▸ ha)⟩

/-- The bytes of a slice at address a, in blocks below B. -/
def BsAt (B : Nat) (w : World) (a : Option Addr) (os : List Nat) : Prop :=
  ∀ k, k < os.length → ∃ b off, a = some ⟨b, off, none⟩ ∧ b < B ∧ w.cell? ⟨b, off + k, none⟩ = some (.int .u8 (os.getD k 0)) ∧ os.getD k 0 < 256
theorem BsAt.below {B : Nat} {w w' : World} {a : Option Addr} {os : List Nat} (h : BsAt B w a os) (hb : Below B w w') : BsAt B w' a os := fun k hk => by
  obtain ⟨b, off, e, hB, hc, h2⟩ := h k hk
  exact ⟨b, off, e, hB, (hb.cell (p := ⟨b, off + k, none⟩) hB).trans hc, h2⟩
theorem mem_take_one {l : List (Int × Int)} {s : Int × Int} {k : Nat} (hk : k < l.length) : decide (s ∈ l.take (k + 1)) = (decide (s ∈ l.take k) || decide (l.getD k (0, 0) = s)) := by
  rw [Bool.eq_iff_iff, Bool.or_eq_true, decide_eq_true_iff, decide_eq_true_iff, decide_eq_true_iff, take_one (d := (0, 0)) hk, List.mem_append, List.mem_singleton]
  exact or_congr Iff.rfl eq_comm

set_option maxRecDepth 100000 in
set_option maxHeartbeats 8000000 in
theorem chosen_any (ds : List (Int × Int)) (os : List Nat) (A O : Option Addr) (c co : Nat) (w : World) (hS : ShAt w.heap.size w A ds) (hB : BsAt w.heap.size w O os) (hl : ds.length ≤ 900) (hl0 : 1 ≤ ds.length) (hlo : os.length ≤ 30) :
    Calls Try.prog 17 #[.slice A ds.length c, .slice O os.length co] w fun e w' => ∃ v, e = .returned v ∧ OwnS w' w.heap.size v (chs ds os) ∧ Below w.heap.size w w' := by
  have HS := Lib.hid hS; clear hS
  have HB := Lib.hid hB; clear hB
  obtain ⟨n, hn⟩ : ∃ n, ds.length = n := ⟨_, rfl⟩
  obtain ⟨m, hm⟩ : ∃ m, os.length = m := ⟨_, rfl⟩
  rw [hn] at hl hl0 ⊢
  rw [hm] at hlo ⊢
  have HN := Lib.hid (And.intro hn hm); clear hn hm
  go_enter Try.func17, Try.ntmps17
  go_wp2_with fail
  go_loopw [5, 6] (fun ov iv wr => ∃ i : Nat, i ≤ m ∧ iv = .int .i64 i ∧ Below w.heap.size w wr ∧ OwnS wr w.heap.size ov (chs ds (os.take i))) (fun _ iv _ => m - (intOf iv).toNat)
  case atStart => exact ⟨0, Nat.zero_le _, rfl, Below.refl _ _, OwnS.nil _ _⟩
  case round =>
    obtain ⟨i, hi, rfl, hb, ho⟩ := hrel
    have hs := hb.size
    by_cases hgo : i < m
    · obtain ⟨b1, o1, hO, hbl, c0, hlt⟩ := (HB.out.below hb) i (by have := HN.out.2; omega)
      subst hO
      have hst := chs_step ds (os := os) (i := i) (by have := HN.out.2; omega)
      have hlen := chs_len ds os i (by have := HN.out.2; omega)
      unfold pick1 at hst
      rw [HN.out.1] at hst
      obtain ⟨o, hoo⟩ : ∃ o, os.getD i 0 = o := ⟨_, rfl⟩
      rw [hoo] at c0 hlt hst
      clear hoo
      have hmn : (o : Int) % (n : Int) = ((o % n : Nat) : Int) := by omega
      have hmk : o % n < n := Nat.mod_lt _ (by omega)
      obtain ⟨k, hk⟩ : ∃ k, o % n = k := ⟨_, rfl⟩
      rw [hk] at hmn hmk hst
      clear hk
      have hnz : ¬ n = 0 := by omega
      have hmkI : (k : Int) < (n : Int) := by omega
      obtain ⟨b2, o2, hA, _, c1, c2⟩ := (HS.out.below hb) k (by have := HN.out.1; omega)
      subst hA
      obtain ⟨s, hs'⟩ : ∃ s, ds.getD k (0, 0) = s := ⟨_, rfl⟩
      rw [hs'] at c1 c2 hst
      clear hs'
      obtain ⟨X, Y⟩ := s
      simp only at c1 c2
      obtain ⟨out, hout⟩ : ∃ out, chs ds (os.take i) = out := ⟨_, rfl⟩
      rw [hout] at ho hst hlen
      clear hout
      have HST := Lib.hid hst; clear hst
      obtain ⟨A5, c5, rfl, hc5, hc6, hS5⟩ := ho.at_
      have HO := Lib.hid ho; clear ho
      have HS5 := Lib.hid hS5; clear hS5
      obtain ⟨r, hr⟩ : ∃ r, out.length = r := ⟨_, rfl⟩
      rw [hr] at HO hlen hc5 ⊢
      have HR := Lib.hid hr; clear hr
      go_wp2_with fail
      have k2 := Blk.new wr 39 #[.int .i64 X, .int .i64 Y]
      have hb2 := hb.alloc hs (.cells #[.int .i64 X, .int .i64 Y] 39)
      have HO2 := Lib.hid (HO.out.below ((Below.refl _ _).alloc (Nat.le_refl _) (.cells #[.int .i64 X, .int .i64 Y] 39)))
      have HS6 := Lib.hid (HS5.out.below ((Below.refl _ _).alloc (Nat.le_refl _) (.cells #[.int .i64 X, .int .i64 Y] 39)))
      obtain ⟨W, hW⟩ : ∃ W, wr.alloc (.cells #[.int .i64 X, .int .i64 Y] 39) = W := ⟨_, rfl⟩
      obtain ⟨g, hg⟩ : ∃ g, wr.heap.size = g := ⟨_, rfl⟩
      rw [hW] at k2 hb2 HO2 HS6 ⊢
      rw [hg] at k2 HS6 ⊢
      have hgW := k2.lt
      have hs2 := hb2.size
      clear hW hg HO HS5 hb hs c0 c1 c2
      go_loopw [8, 9] (fun bv jv wq => ∃ (bb : Bool) (j : Nat), j ≤ r ∧ bv = .bool bb ∧ jv = .int .i64 j ∧ Hid (bb = decide ((X, Y) ∈ out.take j)) ∧ ∃ q, wq = W.drewN q) (fun _ jv _ => r - (intOf jv).toNat)
      case atStart => exact ⟨false, 0, Nat.zero_le _, rfl, rfl, Lib.hid (by simp), 0, rfl⟩
      case round =>
        obtain ⟨bb, j, hj, rfl, rfl, hbb, q, rfl⟩ := hrel
        by_cases hgo2 : j < r
        · obtain ⟨b3, o3, hA5, _, w2, w3⟩ := HS6.out j (by have := HR.out; omega)
          subst hA5
          have hmt := mem_take_one (l := out) (s := (X, Y)) (k := j) (by have := HR.out; omega)
          rw [← hbb.out] at hmt
          have w0 : W.cell? ⟨g, 0, none⟩ = some (.int .i64 X) := k2.cell 0
          have w1 : W.cell? ⟨g, 1, none⟩ = some (.int .i64 Y) := k2.cell 1
          obtain ⟨e, he⟩ : ∃ e, out.getD j (0, 0) = e := ⟨_, rfl⟩
          rw [he] at w2 w3 hmt
          clear he
          obtain ⟨e1, e2⟩ := e
          simp only at w2 w3
          have p0 : (W.drewN q).cell? ⟨g, 0, none⟩ = some (.int .i64 X) := w0
          have p1 : (W.drewN q).cell? ⟨g, 1, none⟩ = some (.int .i64 Y) := w1
          have p2 : (W.drewN q).cell? ⟨b3, o3 + j * 2, none⟩ = some (.int .i64 e1) := w2
          have p3 : (W.drewN q).cell? ⟨b3, o3 + j * 2 + 1, none⟩ = some (.int .i64 e2) := w3
          have HMT := Lib.hid hmt; clear hmt
          have HBB := Lib.hid hbb.out; clear hbb
          cases bb with
          | true =>
            have hnew : Hid (true = decide ((X, Y) ∈ out.take (j + 1))) := Lib.hid (by rw [HMT.out]; rfl)
            clear HMT HBB
            go_wp2_with fail
            go_quiet (fail)
            go_wp2_with fail
            go_roundw
            case rel => exact ⟨true, j + 1, by omega, rfl, rfl, hnew, _, rfl⟩
            case measure => simp [intOf]; omega
          | false =>
            by_cases h1 : e1 = X
            · subst h1
              by_cases h2 : e2 = Y
              · subst h2
                have hnew : Hid (true = decide ((e1, e2) ∈ out.take (j + 1))) := Lib.hid (by rw [HMT.out]; simp)
                clear HMT HBB
                go_wp2_with fail
                go_quiet (fail)
                go_wp2_with fail
                go_roundw
                case rel => exact ⟨true, j + 1, by omega, rfl, rfl, hnew, _, rfl⟩
                case measure => simp [intOf]; omega
              · have h2' : (e2 == Y) = false := by simpa using h2
                have hnew : Hid (false = decide ((e1, Y) ∈ out.take (j + 1))) := Lib.hid (by rw [HMT.out]; simp [h2])
                clear HMT HBB
                go_wp2_with fail
                go_quiet (fail)
                go_wp2_with fail
                go_roundw
                case rel => exact ⟨false, j + 1, by omega, rfl, rfl, hnew, _, rfl⟩
                case measure => simp [intOf]; omega
            · have h1' : (e1 == X) = false := by simpa using h1
              have hnew : Hid (false = decide ((X, Y) ∈ out.take (j + 1))) := Lib.hid (by rw [HMT.out]; simp [h1])
              clear HMT HBB
              go_wp2_with fail
              go_quiet (fail)
              go_wp2_with fail
              go_roundw
              case rel => exact ⟨false, j + 1, by omega, rfl, rfl, hnew, _, rfl⟩
              case measure => simp [intOf]; omega
        · have : j = r := by omega
          subst this
          have hmem := hbb.out
          rw [List.take_of_length_le (by rw [HR.out]; exact Nat.le_refl _)] at hmem
          have hst := HST.out
          have w0 : W.cell? ⟨g, 0, none⟩ = some (.int .i64 X) := k2.cell 0
          have w1 : W.cell? ⟨g, 1, none⟩ = some (.int .i64 Y) := k2.cell 1
          have p0 : (W.drewN q).cell? ⟨g, 0, none⟩ = some (.int .i64 X) := w0
          have p1 : (W.drewN q).cell? ⟨g, 1, none⟩ = some (.int .i64 Y) := w1
          have hbq : Below w.heap.size w (W.drewN q) := below_drewN hb2 q
          have HOq : Hid (OwnS (W.drewN q) w.heap.size (.slice A5 j c5) out) := Lib.hid HO2.out
          have hsq : (W.drewN q).heap.size = W.heap.size := rfl
          have hHQ := Lib.hid (And.intro hbq hsq); clear hbq hsq
          cases bb with
          | true =>
            rw [if_pos (by simpa using hmem.symm)] at hst
            have hst2 := Lib.hid hst; clear hst hmem
            go_wp2_with fail
            go_roundw
            case rel => exact ⟨i + 1, by omega, rfl, hHQ.out.1, by rw [hst2.out]; exact HOq.out⟩
            case measure => simp [intOf]; omega
          | false =>
            rw [if_neg (by simpa using hmem.symm)] at hst
            have hst2 := Lib.hid hst; clear hst hmem
            go_wp2_with (at_builtin; refine appS1 rfl (.tmp 49) (.tmp 51) rfl w.heap.size _ out X Y rfl HOq.out _ hHQ.out.2 rfl (by have := HR.out; omega) (by rw [hHQ.out.2]; exact hs2) ?_; intro v4 w4 hown4 hg4; have hb4 := grown_bel (hHQ.out.1.alloc (by rw [hHQ.out.2]; exact hs2) _) (HOq.out.below ((Below.refl _ _).alloc (Nat.le_refl _) _)) hg4 (Nat.le_refl _))
            go_roundw
            case rel => exact ⟨i + 1, by omega, rfl, hb4, by rw [hst2.out]; exact hown4⟩
            case measure => simp [intOf]; omega
    · have : i = m := by omega
      subst this
      have HO := Lib.hid ho; clear ho
      have e1 : os.take i = os := List.take_of_length_le (by have := HN.out.2; omega)
      rw [e1] at HO
      clear e1
      go_wp2_with fail
      go_ret
      exact ⟨_, rfl, HO.out, hb⟩

end Go.Proofs.Ytfipogmndokhkaa
