/- Walk of reduced. (Printed by tools/mkMa.py out of Lz.) The rows of the reference's elimination; the elimination with its free columns, plain; append of a number, with its block. Walk of Eliminated. -/
import Derived.Test.YtgpmmpajnfbecaaGreatXbr
import Derived.Test.YtgpmmpajnfbecaaGreatXbp
import Derived.Test.YtgpmmpajnfbecaaGreatXbo

namespace Go.Proofs.YtgpmmpajnfbecaaGreat
open Go.RowKit

theorem rless_n {S T U : Nat → Prop} {w : World} {f g h : Fc} {x y z : Rat} (hx : FA S w f x) (hy : FA T w g y) (hz : FA U w h z) (hn : ¬ (okMul y z ∧ okSub x (y * z))) :
    Calls Tryz.prog 69 #[f.v, g.v, h.v] w (OpN w) := by
  by_cases hm : okMul y z
  · exact rless_sub hx hy hz hm (fun hs => hn ⟨hm, hs⟩)
  · exact rless_mul hx hy hz hm
theorem subF_no {y x a : Rat} {zs : List Rat} {i : Nat} (h : zs.getD i 0 = a) (hn : ¬ (okMul y a ∧ okSub x (y * a))) : subF y zs i x = none := by
  by_cases hm : okMul y a
  · exact subF_sub h hm (fun hs => hn ⟨hm, hs⟩)
  · exact subF_mul h hm

set_option maxRecDepth 100000 in
set_option maxHeartbeats 8000000 in
theorem reduced_any {T : Nat → Prop} {w : World} {r rb : Rw} {m c : Nat} {x zs : List Rat} {y : Rat} (hr : RowIs T w m r x) (hrb : RowIs T w m rb zs) (hc : c < m) (hm : m ≤ 1000) (hy : x.getD c 0 = y) (hT : ∀ b, T b → b < w.heap.size) :
    Calls Tryz.prog 42 #[r.v, rb.v, .int .i64 m, .int .i64 c] w fun e w' => Below w.heap.size w w' ∧
      ((∃ (r' : Rw) (ys : List Rat), subL y zs x = some ys ∧ e = .returned (.tuple #[r'.v, .bool true]) ∧ RowIs T w' m r' ys) ∨ (subL y zs x = none ∧ ∃ r' : Rw, e = .returned (.tuple #[r'.v, .bool false]))) := by
  have HT := Lib.hid hT; clear hT
  have hlen := Lib.hid hr.len
  have hrn := hr.n
  have hru := hr.up
  have hrn2 := hrb.n
  have hrv := hrb.up
  obtain ⟨gz, fz0, hA2, _, _, _, _, _, _, _⟩ := hrb.cells hc
  obtain ⟨A7, n7, cp7, f7⟩ := rb
  simp only at hrn2 hA2
  subst hrn2 hA2
  obtain ⟨s7, A7, m7, d7, s8, A8, m8, d8⟩ := f7
  obtain ⟨gx, fc, hA, hgx, hgT, c0, c1, c2, c3, hfc⟩ := hr.cells hc
  obtain ⟨fs, hfl, hfa, hfq⟩ := hr.fcs
  obtain ⟨A, n0, cp, f⟩ := r
  simp only at hrn hA hfa
  subst hrn hA
  obtain ⟨s1, A1, n1, d1, s2, A2, n2, d2⟩ := f
  obtain ⟨s3, A3, n3, d3, s4, A4, n4, d4⟩ := fc
  simp only at c0 c1 c2 c3
  have hcI : ((c : Nat) : Int) < ((n0 : Nat) : Int) := by omega
  go_enter Tryz.func42, Tryz.ntmps42
  go_upto_region 1 with fail
  obtain ⟨W2, hW2, hbx2, k3, kb, k6⟩ := dboxes w #[.slice (some ⟨gx, 0, none⟩) n0 cp, .int .i64 s1, .slice A1 n1 d1, .int .i64 s2, .slice A2 n2 d2] #[.slice (some ⟨gz, 0, none⟩) n0 cp7, .int .i64 s7, .slice A7 m7 d7, .int .i64 s8, .slice A8 m8 d8] #[.slice none 0 0, .int .i64 0, .slice none 0 0, .int .i64 0, .slice none 0 0] 43 43
  rw [hW2]
  clear hW2
  rw [← hbx2.cell (p := ⟨gx, _, none⟩) hgx] at c0 c1 c2 c3
  have r0 := k3.cell 0
  simp at r0
  have hl6 : w.heap.size + 1 + 1 < W2.heap.size := k6.lt
  have hl3 := k3.lt
  have hgx2 : gx < W2.heap.size := Nat.lt_of_lt_of_le hgx hbx2.size
  go_upto_region 2 with fail
  clear c0 c1 c2 c3 r0
  have hbx3 : Below W2.heap.size W2 (W2.alloc (.cells #[.int .i64 s3, .slice A3 n3 d3, .int .i64 s4, .slice A4 n4 d4] 41)) := (Below.refl _ _).alloc (Nat.le_refl _) _
  have hbx := hbx2.trans (hbx3.mono hbx2.size)
  replace k3 := k3.below hbx3 k3.lt
  replace kb := kb.below hbx3 kb.lt
  replace k6 := k6.below hbx3 k6.lt
  have k8 := Blk.new W2 41 #[.int .i64 s3, .slice A3 n3 d3, .int .i64 s4, .slice A4 n4 d4]
  obtain ⟨GF, hGF⟩ : ∃ G, W2.heap.size = G := ⟨_, rfl⟩
  obtain ⟨W3, hW3⟩ : ∃ W, W2.alloc (.cells #[.int .i64 s3, .slice A3 n3 d3, .int .i64 s4, .slice A4 n4 d4] 41) = W := ⟨_, rfl⟩
  rw [hGF, hW3] at k8
  rw [hW3] at hbx k3 kb k6 ⊢
  rw [hGF] at hl6 ⊢
  clear hW3 hbx3 hbx2 hl3 hgx2 hGF
  have hru3 := hru.below hbx
  have hrv3 := hrv.below hbx
  have hfc3 := (hfc.up).below hbx
  have hfa3 := hfa.below hbx
  have hfq3 := fun j hj => ((hfq j hj).up).below hbx
  have r0 := (k3.alloc (.cells #[] 41)).cell 0
  simp at r0
  have hl3 := k3.lt
  have hszW : GF < W3.heap.size := k8.lt
  have hBE : Below W3.heap.size W3 (W3.alloc (.cells #[] 41)) := (Below.refl _ _).alloc (Nat.le_refl _) _
  go_wp2_with (at_builtin; refine appF_at rfl (.tmp 22) (.tmp 24) rfl W3.heap.size _ [] fs (some ⟨gx, 0, none⟩) n0 cp rfl (emptyF W3 (Nat.le_refl _)) rfl hfl (hfa3.below hBE) (by simp; omega) (by simp) ?_; intro v4 w4 hown4 hg4 hat4; have hB4 : Below W3.heap.size W3 w4 := grown_belF hBE (emptyF W3 (Nat.le_refl _)) hg4 (Nat.le_refl _); obtain ⟨g4, cap4, cur4, hv4, hge4, hb4, hc4, -⟩ := hown4.blk (by rw [List.nil_append, hfl]; omega); rw [List.nil_append, hfl] at hv4; subst hv4)
  rw [List.nil_append] at hc4
  have hb9 : Below w4.heap.size w4 (w4.alloc (.cells #[.slice (some ⟨g4, 0, none⟩) n0 cap4, .int .i64 0, .slice none 0 0, .int .i64 0, .slice none 0 0] 43)) := (Below.refl _ _).alloc (Nat.le_refl _) _
  have hbW : Below W3.heap.size W3 (w4.alloc (.cells #[.slice (some ⟨g4, 0, none⟩) n0 cap4, .int .i64 0, .slice none 0 0, .int .i64 0, .slice none 0 0] 43)) := hB4.trans (hb9.mono hB4.size)
  have k9 := Blk.new w4 43 #[.slice (some ⟨g4, 0, none⟩) n0 cap4, .int .i64 0, .slice none 0 0, .int .i64 0, .slice none 0 0]
  have h4lt := hb4.lt
  have hst : RoI T w (w4.alloc (.cells #[.slice (some ⟨g4, 0, none⟩) n0 cap4, .int .i64 0, .slice none 0 0, .int .i64 0, .slice none 0 0] 43)) n0 g4 (w4.heap.size + 1)
      [(w.heap.size, 43, #[.slice (some ⟨gx, 0, none⟩) n0 cp, .int .i64 s1, .slice A1 n1 d1, .int .i64 s2, .slice A2 n2 d2]), (w.heap.size + 1, 43, #[.slice (some ⟨gz, 0, none⟩) n0 cp7, .int .i64 s7, .slice A7 m7 d7, .int .i64 s8, .slice A8 m8 d8]), (w.heap.size + 1 + 1, 43, #[.slice none 0 0, .int .i64 0, .slice none 0 0, .int .i64 0, .slice none 0 0]), (GF, 41, #[.int .i64 s3, .slice A3 n3 d3, .int .i64 s4, .slice A4 n4 d4]), (w4.heap.size, 43, #[.slice (some ⟨g4, 0, none⟩) n0 cap4, .int .i64 0, .slice none 0 0, .int .i64 0, .slice none 0 0])]
      [(⟨some ⟨gx, 0, none⟩, n0, cp, ⟨s1, A1, n1, d1, s2, A2, n2, d2⟩⟩, x), (⟨some ⟨gz, 0, none⟩, n0, cp7, ⟨s7, A7, m7, d7, s8, A8, m8, d8⟩⟩, zs)] [(⟨s3, A3, n3, d3, s4, A4, n4, d4⟩, y)] (subF y zs) x [] fs 0 :=
    ⟨hbx.trans (hbW.mono hbx.size), fun p hp => by
      have h4 := hb4.lt
      simp only [List.mem_cons, List.not_mem_nil, or_false] at hp
      rcases hp with rfl | rfl | rfl | rfl | rfl
      · exact ⟨k3.below hbW k3.lt, by simp only; omega, by simp only; omega, by simp only; omega⟩
      · exact ⟨kb.below hbW kb.lt, by simp only; omega, by simp only; omega, by simp only; omega⟩
      · exact ⟨k6.below hbW k6.lt, by simp only; omega, by simp only; omega, by simp only; omega⟩
      · exact ⟨k8.below hbW k8.lt, by simp only; omega, by simp only; omega, by simp only; omega⟩
      · exact ⟨k9, by simp only; omega, by simp only; omega, by simp only; omega⟩, ⟨cur4, hb4.below hb9 hb4.lt, hc4⟩, hfl, fun p hp => by
      simp only [List.mem_cons, List.not_mem_nil, or_false] at hp
      rcases hp with rfl | rfl
      · exact (hru3.below hbW).less (fun b hb => hb.elim .inl (fun hb => .inr hb.1))
      · exact (hrv3.below hbW).less (fun b hb => hb.elim .inl (fun hb => .inr hb.1)), fun p hp => by
      simp only [List.mem_cons, List.not_mem_nil, or_false] at hp
      subst hp
      have h := (hfc3.below hbW).less (T := fun b => T b ∨ w.heap.size ≤ b ∧ b < w4.heap.size + 1) (fun b hb => hb.elim .inl (fun hb => .inr hb.1))
      rw [hy] at h
      exact h, fun j hj => by omega, Part.start _ _, by omega, by omega, by simp⟩
  have HST := Lib.hid hst
  obtain ⟨G9, hG9⟩ : ∃ G, w4.heap.size = G := ⟨_, rfl⟩
  obtain ⟨G3, hG3⟩ : ∃ G, w.heap.size = G := ⟨_, rfl⟩
  rw [hG3, hG9] at HST ⊢
  obtain ⟨R3, hR3⟩ : ∃ R : Array Value, #[.slice (some ⟨gx, 0, none⟩) n0 cp, .int .i64 s1, .slice A1 n1 d1, .int .i64 s2, .slice A2 n2 d2] = R := ⟨_, rfl⟩
  have HG3 := Lib.hid hG3
  clear hst hb9 hbW k9 hb4 hc4 hge4 hB4 hg4 hat4 hown4 hbx k3 kb k6 k8 hrv hrv3 hrb hru3 hfc3 hfa3 hfq3 r0 hl3 hszW hBE hG9 hG3 hr hru hfa hfq hfl hfc hR3
  generalize w4.alloc (.cells #[.slice (some ⟨g4, 0, none⟩) n0 cap4, .int .i64 0, .slice none 0 0, .int .i64 0, .slice none 0 0] 43) = W5 at *
  go_loopw [12] (fun iv wr => ∃ (i : Nat) (ys : List Rat) (fs : List Fc), i ≤ n0 ∧ iv = .int .i64 i ∧ Hid (RoI T w wr n0 g4 (G9 + 1)
      [(G3, 43, #[.slice (some ⟨gx, 0, none⟩) n0 cp, .int .i64 s1, .slice A1 n1 d1, .int .i64 s2, .slice A2 n2 d2]), (G3 + 1, 43, #[.slice (some ⟨gz, 0, none⟩) n0 cp7, .int .i64 s7, .slice A7 m7 d7, .int .i64 s8, .slice A8 m8 d8]), (G3 + 1 + 1, 43, #[.slice none 0 0, .int .i64 0, .slice none 0 0, .int .i64 0, .slice none 0 0]), (GF, 41, #[.int .i64 s3, .slice A3 n3 d3, .int .i64 s4, .slice A4 n4 d4]), (G9, 43, #[.slice (some ⟨g4, 0, none⟩) n0 cap4, .int .i64 0, .slice none 0 0, .int .i64 0, .slice none 0 0])]
      [(⟨some ⟨gx, 0, none⟩, n0, cp, ⟨s1, A1, n1, d1, s2, A2, n2, d2⟩⟩, x), (⟨some ⟨gz, 0, none⟩, n0, cp7, ⟨s7, A7, m7, d7, s8, A8, m8, d8⟩⟩, zs)] [(⟨s3, A3, n3, d3, s4, A4, n4, d4⟩, y)] (subF y zs) x ys fs i)) (fun iv _ => n0 - (intOf iv).toNat)
  case atStart => exact ⟨0, _, _, Nat.zero_le _, rfl, HST⟩
  case round =>
    obtain ⟨i, ys, fs', hi, rfl, hI⟩ := hrel
    clear HST
    have hU := Lib.hid (hI.out.small HT.out)
    have k3 := (hI.out.bx _ (.head _)).1
    have kb := (hI.out.bx _ (.tail _ (.head _))).1
    have k8 := (hI.out.bx _ (.tail _ (.tail _ (.tail _ (.head _))))).1
    simp only at k3 kb k8
    have hby := hI.out.fr _ (.head _)
    have hsr := hI.out.src _ (.head _)
    have hsb := hI.out.src _ (.tail _ (.head _))
    simp only at hby hsr hsb
    by_cases hgo : i < n0
    · obtain ⟨gx', fx, hgx', hgl, -, x0, x1, x2, x3, hfx⟩ := hsr.cells hgo
      simp only at hgx'
      injection hgx' with hgx'
      injection hgx' with hgx' _ _
      subst hgx'
      obtain ⟨s5, A5, n5, d5, s6, A6, n6, d6⟩ := fx
      simp only at x0 x1 x2 x3
      obtain ⟨gz', fz, hgz', hgzl, -, w0, w1, w2, w3, hfz⟩ := hsb.cells hgo
      simp only at hgz'
      injection hgz' with hgz'
      injection hgz' with hgz' _ _
      subst hgz'
      obtain ⟨s9, A9, n9, d9, s10, A10, n10, d10⟩ := fz
      simp only at w0 w1 w2 w3
      have e0 : ∀ W' : World, Below wr.heap.size wr W' → W'.cell? ⟨gx, i * 4, none⟩ = some (.int .i64 s5) ∧ W'.cell? ⟨gx, i * 4 + 1, none⟩ = some (.slice A5 n5 d5) ∧ W'.cell? ⟨gx, i * 4 + 2, none⟩ = some (.int .i64 s6) ∧ W'.cell? ⟨gx, i * 4 + 3, none⟩ = some (.slice A6 n6 d6) ∧ W'.cell? ⟨G3, 0, none⟩ = some (.slice (some ⟨gx, 0, none⟩) n0 cp) ∧ W'.cell? ⟨gz, i * 4, none⟩ = some (.int .i64 s9) ∧ W'.cell? ⟨gz, i * 4 + 1, none⟩ = some (.slice A9 n9 d9) ∧ W'.cell? ⟨gz, i * 4 + 2, none⟩ = some (.int .i64 s10) ∧ W'.cell? ⟨gz, i * 4 + 3, none⟩ = some (.slice A10 n10 d10) ∧ W'.cell? ⟨G3 + 1, 0, none⟩ = some (.slice (some ⟨gz, 0, none⟩) n0 cp7) ∧ W'.cell? ⟨GF, 0, none⟩ = some (.int .i64 s3) ∧ W'.cell? ⟨GF, 1, none⟩ = some (.slice A3 n3 d3) ∧ W'.cell? ⟨GF, 2, none⟩ = some (.int .i64 s4) ∧ W'.cell? ⟨GF, 3, none⟩ = some (.slice A4 n4 d4) ∧ Below wr.heap.size wr W' := fun W' hW =>
        ⟨(hW.cell (p := ⟨gx, _, none⟩) hgl).trans x0, (hW.cell (p := ⟨gx, _, none⟩) hgl).trans x1, (hW.cell (p := ⟨gx, _, none⟩) hgl).trans x2, (hW.cell (p := ⟨gx, _, none⟩) hgl).trans x3, (k3.below hW k3.lt).cell 0, (hW.cell (p := ⟨gz, _, none⟩) hgzl).trans w0, (hW.cell (p := ⟨gz, _, none⟩) hgzl).trans w1, (hW.cell (p := ⟨gz, _, none⟩) hgzl).trans w2, (hW.cell (p := ⟨gz, _, none⟩) hgzl).trans w3, (kb.below hW kb.lt).cell 0, (k8.below hW k8.lt).cell 0, (k8.below hW k8.lt).cell 1, (k8.below hW k8.lt).cell 2, (k8.below hW k8.lt).cell 3, hW⟩
      have E0 := Lib.hid e0; clear e0
      have hB00 : Below wr.heap.size wr wr.drew := (Below.refl _ _).drew
      obtain ⟨qx, hqx⟩ : ∃ q, x.getD i 0 = q := ⟨_, rfl⟩
      rw [hqx] at hfx
      have HQX := Lib.hid hqx; clear hqx
      obtain ⟨qz, hqz⟩ : ∃ q, zs.getD i 0 = q := ⟨_, rfl⟩
      rw [hqz] at hfz
      have HQZ := Lib.hid hqz; clear hqz
      have hb01 : ((i : Nat) : Int) < ((n0 : Nat) : Int) := by omega
      go_upto_region 6 with fail
      by_cases hok : okMul y qz ∧ okSub qx (y * qz)
      · have HSB := Lib.hid (fun (W' : World) (hb : Below wr.heap.size wr W') => rless_y (hfx.below hb) (hby.below hb) (hfz.below hb) hok.1 hok.2)
        clear hfx hby hsr hsb hfz k3 kb k8 x0 x1 x2 x3 w0 w1 w2 w3
        go_cut [13, 14] from 32 to 46 (fun p e wx => ∃ (G8 : Nat) (r1 : Int) (C1 : Option Addr) (k1 l1 : Nat) (r2 : Int) (C2 : Option Addr) (k2 l2 : Nat), p = .pointer (some ⟨G8, 0, none⟩) ∧ e = .int .i64 0 ∧ Blk wx G8 41 #[.int .i64 r1, .slice C1 k1 l1, .int .i64 r2, .slice C2 k2 l2] ∧ FA (fun b => T b ∨ w.heap.size ≤ b ∧ b < G9 + 1) wx ⟨r1, C1, k1, l1, r2, C2, k2, l2⟩ (qx - y * qz) ∧ Below wr.heap.size wr wx)
        case first =>
          go_region_held3 (fun W' => W'.cell? ⟨gx, i * 4, none⟩ = some (.int .i64 s5) ∧ W'.cell? ⟨gx, i * 4 + 1, none⟩ = some (.slice A5 n5 d5) ∧ W'.cell? ⟨gx, i * 4 + 2, none⟩ = some (.int .i64 s6) ∧ W'.cell? ⟨gx, i * 4 + 3, none⟩ = some (.slice A6 n6 d6) ∧ W'.cell? ⟨G3, 0, none⟩ = some (.slice (some ⟨gx, 0, none⟩) n0 cp) ∧ W'.cell? ⟨gz, i * 4, none⟩ = some (.int .i64 s9) ∧ W'.cell? ⟨gz, i * 4 + 1, none⟩ = some (.slice A9 n9 d9) ∧ W'.cell? ⟨gz, i * 4 + 2, none⟩ = some (.int .i64 s10) ∧ W'.cell? ⟨gz, i * 4 + 3, none⟩ = some (.slice A10 n10 d10) ∧ W'.cell? ⟨G3 + 1, 0, none⟩ = some (.slice (some ⟨gz, 0, none⟩) n0 cp7) ∧ W'.cell? ⟨GF, 0, none⟩ = some (.int .i64 s3) ∧ W'.cell? ⟨GF, 1, none⟩ = some (.slice A3 n3 d3) ∧ W'.cell? ⟨GF, 2, none⟩ = some (.int .i64 s4) ∧ W'.cell? ⟨GF, 3, none⟩ = some (.slice A4 n4 d4) ∧ Below wr.heap.size wr W')
            (first | exact E0.out _ (below_st4 hB4 (Nat.le_refl _) _ _ _ _) | exact E0.out _ (below_new hB4 _) | exact E0.out _ (below_new hB00 _) | exact E0.out _ (by assumption) | exact E0.out _ ⟨rfl, rfl, rfl, Nat.le_refl _, fun _ _ => rfl⟩)
            (first
              | (go_at_call 69; (first | refine (HSB.out _ hB00).mono ?_ | refine (HSB.out _ (below_new hB00 _)).mono ?_); rintro e w4 ⟨⟨r1, C1, k1, l1, r2, C2, k2, l2⟩, rfl, hro, hrb, hb4⟩; have hB4 : Below wr.heap.size wr w4 := (by first | exact ⟨hb4.os, hb4.tape, hb4.output, hb4.size, hb4.block⟩ | exact (below_new hB00 _).trans (hb4.mono (below_new hB00 _).size)); (try (have hk4 : Blk w4 wr.heap.size 41 #[.int .i64 0, .slice none 0 0, .int .i64 0, .slice none 0 0] := blk_run4 (b := wr.drew) hb4; have hlt4 := hk4.lt; have z0 := hk4.cell 0; have z1 := hk4.cell 1; have z2 := hk4.cell 2; have z3 := hk4.cell 3; have y0 := hk4.frozen 0; have y1 := hk4.frozen 1; have y2 := hk4.frozen 2; have y3 := hk4.frozen 3))))
          all_goals
            go_wp2_with fail
            go_meet
            first
              | exact ⟨_, r1, C1, k1, l1, r2, C2, k2, l2, rfl, rfl, hk4.set4 _ _ _ _, fa_st (f := ⟨r1, C1, k1, l1, r2, C2, k2, l2⟩) hk4 hro (by simp) hU.out (by first | exact hB00.size | exact (below_new hB00 _).size) hrb, below_st4 hB4 (Nat.le_refl _) _ _ _ _⟩
              | exact ⟨_, r1, C1, k1, l1, r2, C2, k2, l2, rfl, rfl, Blk.new _ _ _, fa_new (f := ⟨r1, C1, k1, l1, r2, C2, k2, l2⟩) hro hU.out (by first | exact hB00.size | exact (below_new hB00 _).size) hrb _, below_new hB4 _⟩
        obtain ⟨G8, r1, C1, k1, l1, r2, C2, k2, l2, rfl, rfl, kq, hq8, hb5⟩ := hcut
        clear E0 hB00 HSB
        have hI5 := hI.out.below hb5
        have hxz : (subF y zs) i (x.getD i 0) = some (qx - y * qz) := by rw [HQX.out]; exact subF_yes HQZ.out hok.1 hok.2
        obtain ⟨V, hV, hIV⟩ := hI5.put hgo (by rw [hlen.out]; omega) hq8 hxz
        simp only at hV
        have k9 := (hI5.bx _ (.tail _ (.tail _ (.tail _ (.tail _ (.head _)))))).1
        simp only at k9
        have r9 := k9.cell 0
        simp at r9
        have q0 := kq.cell 0
        have q1 := kq.cell 1
        have q2 := kq.cell 2
        have q3 := kq.cell 3
        simp at q0 q1 q2 q3
        have hfl5 := hI5.fl
        obtain ⟨cur5, hk5, hc5⟩ := hI5.line
        obtain ⟨b0, b1, b2, b3⟩ := hc5 i (by rw [hfl5]; exact hgo)
        rw [← hk5.cell] at b0 b1 b2 b3
        have z0 := hk5.frozen (i * 4)
        have z1 := hk5.frozen (i * 4 + 1)
        have z2 := hk5.frozen (i * 4 + 2)
        have z3 := hk5.frozen (i * 4 + 3)
        have hgl5 := hk5.lt
        have HIV := Lib.hid hIV; clear hIV
        clear hI5 hI hq8 kq hxz k9 hk5 hc5 hfl5
        go_wp2_with fail
        rw [← hV]
        go_roundw
        case rel => exact ⟨i + 1, _, _, by omega, rfl, HIV⟩
        case measure => simp [intOf]; omega
      · have HSB := Lib.hid (fun (W' : World) (hb : Below wr.heap.size wr W') => rless_n (hfx.below hb) (hby.below hb) (hfz.below hb) hok)
        have hfl := Lib.hid (hI.out.hp.fail (by rw [hlen.out]; omega) (by rw [HQX.out]; exact subF_no HQZ.out hok))
        clear hfx hby hsr hsb hfz k3 kb k8 x0 x1 x2 x3 w0 w1 w2 w3
        go_cut [13, 14] from 32 to 46 (fun p e wx => e = .int .i64 6 ∧ Below wr.heap.size wr wx)
        case first =>
          go_region_held3 (fun W' => W'.cell? ⟨gx, i * 4, none⟩ = some (.int .i64 s5) ∧ W'.cell? ⟨gx, i * 4 + 1, none⟩ = some (.slice A5 n5 d5) ∧ W'.cell? ⟨gx, i * 4 + 2, none⟩ = some (.int .i64 s6) ∧ W'.cell? ⟨gx, i * 4 + 3, none⟩ = some (.slice A6 n6 d6) ∧ W'.cell? ⟨G3, 0, none⟩ = some (.slice (some ⟨gx, 0, none⟩) n0 cp) ∧ W'.cell? ⟨gz, i * 4, none⟩ = some (.int .i64 s9) ∧ W'.cell? ⟨gz, i * 4 + 1, none⟩ = some (.slice A9 n9 d9) ∧ W'.cell? ⟨gz, i * 4 + 2, none⟩ = some (.int .i64 s10) ∧ W'.cell? ⟨gz, i * 4 + 3, none⟩ = some (.slice A10 n10 d10) ∧ W'.cell? ⟨G3 + 1, 0, none⟩ = some (.slice (some ⟨gz, 0, none⟩) n0 cp7) ∧ W'.cell? ⟨GF, 0, none⟩ = some (.int .i64 s3) ∧ W'.cell? ⟨GF, 1, none⟩ = some (.slice A3 n3 d3) ∧ W'.cell? ⟨GF, 2, none⟩ = some (.int .i64 s4) ∧ W'.cell? ⟨GF, 3, none⟩ = some (.slice A4 n4 d4) ∧ Below wr.heap.size wr W')
            (first | exact E0.out _ (below_st4 hB4 (Nat.le_refl _) _ _ _ _) | exact E0.out _ (below_new hB4 _) | exact E0.out _ (below_new hB00 _) | exact E0.out _ (by assumption) | exact E0.out _ ⟨rfl, rfl, rfl, Nat.le_refl _, fun _ _ => rfl⟩)
            (first
              | (go_at_call 69; (first | refine (HSB.out _ hB00).mono ?_ | refine (HSB.out _ (below_new hB00 _)).mono ?_); rintro e w4 ⟨rfl, hb4⟩; have hB4 : Below wr.heap.size wr w4 := (by first | exact ⟨hb4.os, hb4.tape, hb4.output, hb4.size, hb4.block⟩ | exact (below_new hB00 _).trans (hb4.mono (below_new hB00 _).size)); (try (have hk4 : Blk w4 wr.heap.size 41 #[.int .i64 0, .slice none 0 0, .int .i64 0, .slice none 0 0] := blk_run4 (b := wr.drew) hb4; have hlt4 := hk4.lt; have z0 := hk4.cell 0; have z1 := hk4.cell 1; have z2 := hk4.cell 2; have z3 := hk4.cell 3; have y0 := hk4.frozen 0; have y1 := hk4.frozen 1; have y2 := hk4.frozen 2; have y3 := hk4.frozen 3))))
          all_goals
            go_wp2_with fail
            go_meet
            first
              | exact ⟨rfl, below_st4 hB4 (Nat.le_refl _) _ _ _ _⟩
              | exact ⟨rfl, below_new hB4 _⟩
        obtain ⟨rfl, hb5⟩ := hcut
        clear E0 hB00 HSB
        have hI5 := hI.out.below hb5
        clear hI
        have k9 := (hI5.bx _ (.tail _ (.tail _ (.tail _ (.tail _ (.head _)))))).1
        have k6 := (hI5.bx _ (.tail _ (.tail _ (.head _)))).1
        have l6 := (hI5.bx _ (.tail _ (.tail _ (.head _)))).2.2.1
        simp only at k9 k6 l6
        have hbl := hI5.bl
        clear hI5 hb5
        have u0 := k9.cell 0
        have u1 := k9.cell 1
        have u2 := k9.cell 2
        have u3 := k9.cell 3
        have u4 := k9.cell 4
        have v0 := k6.cell 0
        have v1 := k6.cell 1
        have v2 := k6.cell 2
        have v3 := k6.cell 3
        have v4 := k6.cell 4
        simp at u0 u1 u2 u3 u4 v0 v1 v2 v3 v4
        have y0 := k6.frozen 0
        have y1 := k6.frozen 1
        have y2 := k6.frozen 2
        have y3 := k6.frozen 3
        have y4 := k6.frozen 4
        have hl6 := k6.lt
        have hfin := Lib.hid (below_st5 hbl l6 (.slice (some ⟨g4, 0, none⟩) n0 cap4) (.int .i64 0) (.slice none 0 0) (.int .i64 0) (.slice none 0 0))
        clear k9 k6 hbl
        go_wp2_with fail
        refine bodyPost_ret (v := .tuple #[.agg #[.slice (some ⟨g4, 0, none⟩) n0 cap4, .int .i64 0, .slice none 0 0, .int .i64 0, .slice none 0 0], .bool false]) (by simp [results, Tryz.results42, go_sem, v0, v1, v2, v3, v4]) rfl ?_
        exact ⟨hfin.out, .inr ⟨hfl.out, ⟨some ⟨g4, 0, none⟩, n0, cap4, fnil⟩, rfl⟩⟩
    · have : i = n0 := by omega
      subst this
      have hfv := hsr.v
      have hfw := hsb.v
      simp only at hfv hfw
      obtain ⟨z, hz⟩ : ∃ z, x.getD i 0 = z := ⟨_, rfl⟩
      rw [hz] at hfv
      have HZ := Lib.hid hz; clear hz
      obtain ⟨zz, hzz⟩ : ∃ z, zs.getD i 0 = z := ⟨_, rfl⟩
      rw [hzz] at hfw
      have HZZ := Lib.hid hzz; clear hzz
      have b1 := kb.cell 1
      have b2 := kb.cell 2
      have b3 := kb.cell 3
      have b4 := kb.cell 4
      simp at b1 b2 b3 b4
      have hlb := kb.lt
      have r1 := k3.cell 1
      have r2 := k3.cell 2
      have r3 := k3.cell 3
      have r4 := k3.cell 4
      have a0 := k8.cell 0
      have a1 := k8.cell 1
      have a2 := k8.cell 2
      have a3 := k8.cell 3
      simp at r1 r2 r3 r4 a0 a1 a2 a3
      have hl3 := k3.lt
      have hl8 := k8.lt
      clear hsr hsb
      go_wp2_with fail
      clear r1 r2 r3 r4 a0 a1 a2 a3 b1 b2 b3 b4
      by_cases hok : okMul y zz ∧ okSub z (y * zz)
      · (with_reducible refine (rless_y hfv hby hfw hok.1 hok.2).mono ?_)
        rintro e w6 ⟨⟨t1, B1, m1, e1, t2, B2, m2, e2⟩, rfl, ho6, rb6, hb6⟩
        have hI6 := hI.out.below hb6
        have k9 := (hI6.bx _ (.tail _ (.tail _ (.tail _ (.tail _ (.head _)))))).1
        have n9 := (hI6.bx _ (.tail _ (.tail _ (.tail _ (.tail _ (.head _)))))).2
        have k6 := (hI6.bx _ (.tail _ (.tail _ (.head _)))).1
        have n6 := (hI6.bx _ (.tail _ (.tail _ (.head _)))).2
        simp only at k9 n9 k6 n6
        have u0 := k9.cell 0
        have u1 := k9.cell 1
        have u2 := k9.cell 2
        have u3 := k9.cell 3
        have u4 := k9.cell 4
        have v0 := k6.cell 0
        have v1 := k6.cell 1
        have v2 := k6.cell 2
        have v3 := k6.cell 3
        have v4 := k6.cell 4
        simp at u0 u1 u2 u3 u4 v0 v1 v2 v3 v4
        have x1 := k9.frozen 1
        have x2 := k9.frozen 2
        have x3 := k9.frozen 3
        have x4 := k9.frozen 4
        have y0 := k6.frozen 0
        have y1 := k6.frozen 1
        have y2 := k6.frozen 2
        have y3 := k6.frozen 3
        have y4 := k6.frozen 4
        have hl6 := k6.lt
        have hl9 := k9.lt
        have h69 : G3 + 1 + 1 ≠ G9 := fun e => by
          rw [e] at k6
          have h := k6.symm.trans k9
          simp at h
        have hfr : ∀ o, Fr (fun b => w.heap.size ≤ b ∧ b < G9 + 1 ∧ b ≠ g4) w6 ((((((((((w6.setCell ⟨G9, 1, none⟩ (.int .i64 t1)).setCell ⟨G9, 2, none⟩ (.slice B1 m1 e1)).setCell ⟨G9, 3, none⟩ (.int .i64 t2)).setCell ⟨G9, 4, none⟩ (.slice B2 m2 e2)).setCell ⟨G3 + 1 + 1, 0, none⟩ (.slice (some ⟨g4, 0, none⟩) i cap4)).setCell ⟨G3 + 1 + 1, 1, none⟩ (.int .i64 t1)).setCell ⟨G3 + 1 + 1, 2, none⟩ (.slice B1 m1 e1)).setCell ⟨G3 + 1 + 1, 3, none⟩ (.int .i64 t2)).setCell ⟨G3 + 1 + 1, 4, none⟩ (.slice B2 m2 e2)).alloc o) := fun o =>
          (((fr_st4 G9 w6 _ _ _ _).more (fun b hb => by subst hb; exact ⟨n9.2.1, n9.2.2, n9.1⟩)).tr ((fr_st5 (G3 + 1 + 1) _ _ _ _ _ _).more (fun b hb => by subst hb; exact ⟨n6.2.1, n6.2.2, n6.1⟩))).tr (Fr.of_below ((Below.refl _ _).alloc (Nat.le_refl _) _))
        have hd := Lib.hid (hI.out.done hlen.out hb6 (hI.out.own HT.out ho6 (Nat.le_refl _) rb6) (show (subF y zs) i (x.getD i 0) = some (z - y * zz) by rw [HZ.out]; exact subF_yes HZZ.out hok.1 hok.2) HT.out (cap := cap4) (hfr (.cells #[.int .i64 t1, .slice B1 m1 e1, .int .i64 t2, .slice B2 m2 e2] 41)))
        clear hI6 k9 k6 n9 n6 hI hb6 ho6 rb6 hfv hfw hby k3 kb k8 hfr
        go_wp2_with fail
        refine bodyPost_ret (v := .tuple #[.agg #[.slice (some ⟨g4, 0, none⟩) i cap4, .int .i64 t1, .slice B1 m1 e1, .int .i64 t2, .slice B2 m2 e2], .bool true]) (by simp [results, Tryz.results42, go_sem, v0, v1, v2, v3, v4, hl6]) rfl ?_
        exact ⟨hd.out.1, .inl ⟨⟨some ⟨g4, 0, none⟩, i, cap4, ⟨t1, B1, m1, e1, t2, B2, m2, e2⟩⟩, _, hd.out.2.1, rfl, hd.out.2.2⟩⟩
      · (with_reducible refine (rless_n hfv hby hfw hok).mono ?_)
        rintro e w6 ⟨rfl, hb6⟩
        have hI6 := hI.out.below hb6
        have k9 := (hI6.bx _ (.tail _ (.tail _ (.tail _ (.tail _ (.head _)))))).1
        have n9 := (hI6.bx _ (.tail _ (.tail _ (.tail _ (.tail _ (.head _)))))).2
        have k6 := (hI6.bx _ (.tail _ (.tail _ (.head _)))).1
        have n6 := (hI6.bx _ (.tail _ (.tail _ (.head _)))).2
        simp only at k9 n9 k6 n6
        have u0 := k9.cell 0
        have u1 := k9.cell 1
        have u2 := k9.cell 2
        have u3 := k9.cell 3
        have u4 := k9.cell 4
        have v0 := k6.cell 0
        have v1 := k6.cell 1
        have v2 := k6.cell 2
        have v3 := k6.cell 3
        have v4 := k6.cell 4
        simp at u0 u1 u2 u3 u4 v0 v1 v2 v3 v4
        have x1 := k9.frozen 1
        have x2 := k9.frozen 2
        have x3 := k9.frozen 3
        have x4 := k9.frozen 4
        have y0 := k6.frozen 0
        have y1 := k6.frozen 1
        have y2 := k6.frozen 2
        have y3 := k6.frozen 3
        have y4 := k6.frozen 4
        have hl6 := k6.lt
        have hl9 := k9.lt
        have h69 : G3 + 1 + 1 ≠ G9 := fun e => by
          rw [e] at k6
          have h := k6.symm.trans k9
          simp at h
        have hfr : ∀ o, Below w.heap.size w ((((((((((w6.setCell ⟨G9, 1, none⟩ (.int .i64 0)).setCell ⟨G9, 2, none⟩ (.slice none 0 0)).setCell ⟨G9, 3, none⟩ (.int .i64 0)).setCell ⟨G9, 4, none⟩ (.slice none 0 0)).setCell ⟨G3 + 1 + 1, 0, none⟩ (.slice (some ⟨g4, 0, none⟩) i cap4)).setCell ⟨G3 + 1 + 1, 1, none⟩ (.int .i64 0)).setCell ⟨G3 + 1 + 1, 2, none⟩ (.slice none 0 0)).setCell ⟨G3 + 1 + 1, 3, none⟩ (.int .i64 0)).setCell ⟨G3 + 1 + 1, 4, none⟩ (.slice none 0 0)).alloc o) := fun o =>
          hI6.bl.trans (((((fr_st4 G9 w6 _ _ _ _).more (T := fun b => w.heap.size ≤ b) (fun b hb => by subst hb; exact n9.2.1)).tr ((fr_st5 (G3 + 1 + 1) _ _ _ _ _ _).more (fun b hb => by subst hb; exact n6.2.1))).tr (Fr.of_below ((Below.refl _ _).alloc (Nat.le_refl _) _))).below (fun b hb => hb) hI6.bl.size)
        have hd := Lib.hid (hfr (.cells #[.int .i64 0, .slice none 0 0, .int .i64 0, .slice none 0 0] 41))
        have hfl := Lib.hid (hI.out.hp.fail (by rw [hlen.out]; omega) (show (subF y zs) i (x.getD i 0) = none by rw [HZ.out]; exact subF_no HZZ.out hok))
        clear hI6 k9 k6 n9 n6 hI hb6 hfv hfw hby k3 kb k8 hfr
        go_wp2_with fail
        refine bodyPost_ret (v := .tuple #[.agg #[.slice (some ⟨g4, 0, none⟩) i cap4, .int .i64 0, .slice none 0 0, .int .i64 0, .slice none 0 0], .bool false]) (by simp [results, Tryz.results42, go_sem, v0, v1, v2, v3, v4, hl6]) rfl ?_
        exact ⟨hd.out, .inr ⟨hfl.out, ⟨some ⟨g4, 0, none⟩, i, cap4, fnil⟩, rfl⟩⟩

end Go.Proofs.YtgpmmpajnfbecaaGreat

namespace Go.Proofs.YtgpmmpajnfbecaaGreat
open Go.RowKit

/-- The elimination from the column c on, m columns, r pivots, free columns fr: the free columns, and the lines. -/
def runE (first : Bool) : Nat → Nat → Nat → List Int → List (List Rat) → Option (List Int × List (List Rat))
  | 0, _, _, fr, X => some (fr, X)
  | m + 1, c, r, fr, X => match elimS X r c with
    | none => none
    | some (false, Y) => if first then some (fr ++ [(c : Int)], Y) else runE first m (c + 1) r (fr ++ [(c : Int)]) Y
    | some (true, Y) => runE first m (c + 1) (r + 1) fr Y
theorem runE_fail {first : Bool} {m c r : Nat} {fr : List Int} {X : List (List Rat)} (h : elimS X r c = none) : runE first (m + 1) c r fr X = none := by rw [runE, h]
theorem runE_stop {m c r : Nat} {fr : List Int} {X Y : List (List Rat)} (h : elimS X r c = some (false, Y)) : runE true (m + 1) c r fr X = some (fr ++ [(c : Int)], Y) := by rw [runE, h]; rfl
theorem runE_free {m c r : Nat} {fr : List Int} {X Y : List (List Rat)} (h : elimS X r c = some (false, Y)) : runE false (m + 1) c r fr X = runE false m (c + 1) r (fr ++ [(c : Int)]) Y := by rw [runE, h]; rfl
theorem runE_on {first : Bool} {m c r : Nat} {fr : List Int} {X Y : List (List Rat)} (h : elimS X r c = some (true, Y)) : runE first (m + 1) c r fr X = runE first m (c + 1) (r + 1) fr Y := by rw [runE, h]
/-- It is the same elimination as the module's. -/
theorem runE_true (m c : Nat) (X : List (List Rat)) : runE true m c c [] X = (runFree m c X).map fun p => (if p.1 < c + m then [(p.1 : Int)] else [], p.2) := by
  induction m generalizing c X with
  | zero => simp [runE, runFree]
  | succ m ih =>
    rw [runE, runFree]
    cases h : elimS X c c with
    | none => rfl
    | some p =>
      obtain ⟨b, Y⟩ := p
      cases b with
      | false => simp
      | true => simp only [ih, show c + 1 + m = c + (m + 1) by omega]
theorem runE_false (m c r : Nat) (fr : List Int) (X : List (List Rat)) : (runE false m c r fr X).map (fun p => (p.1.length : Int)) = (runRank m c r X).map fun q => (fr.length : Int) + m - ((q : Int) - r) := by
  induction m generalizing c r fr X with
  | zero => simp [runE, runRank]
  | succ m ih =>
    cases h : elimS X r c with
    | none => rw [runE_fail h, runRank_fail h]; rfl
    | some p =>
      obtain ⟨b, Y⟩ := p
      cases b with
      | false =>
        rw [runE_free h, runRank_on h, ih]
        cases hq : runRank m (c + 1) r Y with
        | none => simp [hq]
        | some q => simp [hq]; omega
      | true =>
        rw [runE_on h, runRank_on h, ih]
        cases hq : runRank m (c + 1) (r + 1) Y with
        | none => simp [hq]
        | some q => simp [hq]; omega

/-- Five cells are stored. -/
theorem CellsR.store {w : World} {g : Nat} {cur : Array Value} {rs : List Rw} (hb : Blk w g 43 cur) (hc : CellsR cur rs) {k : Nat} (hk : k < rs.length) (r : Rw) :
    ∃ V cur', V = ((((w.setCell ⟨g, k * 5, none⟩ (.slice r.A r.n r.c)).setCell ⟨g, k * 5 + 1, none⟩ (.int .i64 r.f.s)).setCell ⟨g, k * 5 + 2, none⟩ (.slice r.f.A r.f.n r.f.c)).setCell ⟨g, k * 5 + 3, none⟩ (.int .i64 r.f.s')).setCell ⟨g, k * 5 + 4, none⟩ (.slice r.f.A' r.f.n' r.f.c') ∧
      Blk V g 43 cur' ∧ CellsR cur' (rs.set k r) ∧ Fr (· = g) w V := by
  have hb5 := ((((hb.set_ (k * 5) (.slice r.A r.n r.c)).set_ (k * 5 + 1) (.int .i64 r.f.s)).set_ (k * 5 + 2) (.slice r.f.A r.f.n r.f.c)).set_ (k * 5 + 3) (.int .i64 r.f.s')).set_ (k * 5 + 4) (.slice r.f.A' r.f.n' r.f.c')
  have hsz : k * 5 + 4 < cur.size := by
    obtain ⟨_, _, _, _, h4⟩ := hc k hk
    exact (Array.getElem?_eq_some_iff.1 h4).1
  refine ⟨_, _, rfl, hb5, fun j hj => ?_, ((((fr_set g _ w _).tr (fr_set g _ _ _)).tr (fr_set g _ _ _)).tr (fr_set g _ _ _)).tr (fr_set g _ _ _)⟩
  rw [List.length_set] at hj
  obtain ⟨h0, h1, h2, h3, h4⟩ := hc j hj
  simp only at h0 h1 h2 h3 h4
  by_cases hjk : j = k
  · subst hjk
    rw [getD_set_self hj]
    unfold Five
    simp only [Array.getElem?_setIfInBounds, Array.size_setIfInBounds]
    refine ⟨?_, ?_, ?_, ?_, ?_⟩ <;> simp <;> omega
  · rw [getD_set_ne (Ne.symm hjk)]
    unfold Five
    simp only [Array.getElem?_setIfInBounds, Array.size_setIfInBounds]
    rw [if_neg (by omega), if_neg (by omega), if_neg (by omega), if_neg (by omega), if_neg (by omega), if_neg (by omega), if_neg (by omega), if_neg (by omega), if_neg (by omega), if_neg (by omega),
      if_neg (by omega), if_neg (by omega), if_neg (by omega), if_neg (by omega), if_neg (by omega), if_neg (by omega), if_neg (by omega), if_neg (by omega), if_neg (by omega), if_neg (by omega),
      if_neg (by omega), if_neg (by omega), if_neg (by omega), if_neg (by omega), if_neg (by omega)]
    exact ⟨h0, h1, h2, h3, h4⟩

/-- What the elimination may write: the rows' block, and the list of the free columns. -/
def TE (M : Nat) (F : Option Nat) (b : Nat) : Prop := b = M ∨ some b = F
/-- N rows in the block M. -/
structure RowsM (w : World) (M N : Nat) (F : Option Nat) (rs : List Rw) (X : List (List Rat)) : Prop where
  blk : ∃ cur, Blk w M 43 cur ∧ CellsR cur rs
  len : rs.length = N
  xl : X.length = N
  row : ∀ k, k < N → RowIs (TE M F) w N (rs.getD k rwnil) (X.getD k [])
section
variable {w w' : World} {M N : Nat} {F F' : Option Nat} {rs : List Rw} {X : List (List Rat)}
theorem RowsM.below (h : RowsM w M N F rs X) (hb : Below w.heap.size w w') : RowsM w' M N F rs X := by
  obtain ⟨cur, hB, hC⟩ := h.blk
  exact ⟨⟨cur, hB.below hb hB.lt, hC⟩, h.len, h.xl, fun k hk => (h.row k hk).below hb⟩
theorem RowsM.lt (h : RowsM w M N F rs X) : M < w.heap.size := by
  obtain ⟨cur, hB, hC⟩ := h.blk
  exact hB.lt
theorem RowsM.cells (h : RowsM w M N F rs X) {k : Nat} (hk : k < N) : Five (fun i => w.cell? ⟨M, i, none⟩) (k * 5) (rs.getD k rwnil) := by
  obtain ⟨cur, hB, hC⟩ := h.blk
  obtain ⟨h0, h1, h2, h3, h4⟩ := hC k (by rw [h.len]; exact hk)
  exact ⟨(hB.cell _).trans h0, (hB.cell _).trans h1, (hB.cell _).trans h2, (hB.cell _).trans h3, (hB.cell _).trans h4⟩
theorem RowsM.frozen (h : RowsM w M N F rs X) (i : Nat) : w.frozen? ⟨M, i, none⟩ = false := by
  obtain ⟨cur, hB, hC⟩ := h.blk
  exact hB.frozen i
/-- A row is stored. -/
theorem RowsM.put (h : RowsM w M N F rs X) {k : Nat} (hk : k < N) {r : Rw} {x : List Rat} (hr : RowIs (TE M F) w N r x) :
    ∃ V, V = ((((w.setCell ⟨M, k * 5, none⟩ (.slice r.A r.n r.c)).setCell ⟨M, k * 5 + 1, none⟩ (.int .i64 r.f.s)).setCell ⟨M, k * 5 + 2, none⟩ (.slice r.f.A r.f.n r.f.c)).setCell ⟨M, k * 5 + 3, none⟩ (.int .i64 r.f.s')).setCell ⟨M, k * 5 + 4, none⟩ (.slice r.f.A' r.f.n' r.f.c') ∧
      RowsM V M N F (rs.set k r) (X.set k x) ∧ Fr (· = M) w V := by
  obtain ⟨cur, hB, hC⟩ := h.blk
  obtain ⟨V, cur', hV, hB', hC', hf⟩ := CellsR.store hB hC (k := k) (by rw [h.len]; exact hk) r
  have hT : Fr (TE M F) w V := hf.more (fun b hb => .inl hb)
  refine ⟨V, hV, ⟨⟨cur', hB', hC'⟩, by rw [List.length_set]; exact h.len, by rw [List.length_set]; exact h.xl, fun j hj => ?_⟩, hf⟩
  by_cases hjk : j = k
  · subst hjk
    rw [getD_set_self (by rw [h.len]; exact hj), getD_set_self (by rw [h.xl]; exact hj)]
    exact hr.fr hT
  · rw [getD_set_ne (Ne.symm hjk), getD_set_ne (Ne.symm hjk)]
    exact (h.row j hj).fr hT
end

/-- append of a number, with where the new slice lies. -/
theorem appIg {w : World} {ops : Array Oper} {rest : List Oper} {o : Oper} {a : Act} {Q : Exit → Act → World → Prop} (hgd : o.guard = none) (s x : Operand)
    (ho : o.op = .call { callee := .builtin .append, args := #[s, x], argTypes := #[37, 37] })
    (B : Nat) (v : Value) (l : List Int) (c : Int) (hs : a.eval s = v) (hown : OwnI w B v l)
    (hx : a.eval x = .slice (some ⟨w.heap.size, 0, none⟩) 1 1) (hb : l.length ≤ 1000000) (hbase : B ≤ w.heap.size)
    (h : ∀ v' w', OwnI w' B v' (l ++ [c]) → (w.alloc (.cells #[.int .i64 c] 3)).grownBy w' v.ownBlock → (v'.ownBlock = v.ownBlock ∨ v'.ownBlock = some (w.heap.size + 1)) → wpList Tryz.prog ops Q rest (a.put o.dst v') w') : wpList Tryz.prog ops Q (o :: rest) a (w.alloc (.cells #[.int .i64 c] 3)) := by
  obtain ⟨i0, hi, hz0, hz1, hz2⟩ := info_parts Tryz.info3
  obtain ⟨v', w', a1, a2, a3, _, a4⟩ := run_append_own_at (P := Tryz.prog) (w.alloc (.cells #[.int .i64 c] 3)) B 37 o.type 3 i0 (.int .i64 0) 1 8 Tryz.underlying37 hi hz0 hz1 hz2 rfl (by decide) v l.length (l.map (Value.int .i64)) (World.ownsRow.alloc hown _) ⟨w.heap.size, 0, none⟩ 1 1 [.int .i64 c] rfl
    (fun j u hj => by match j, hj with | 0, hj => simp at hj; subst hj; simp [Addr.add]) (fun u hu => by simp at hu; subst hu; rfl) (by unfold maxLen; omega) (by omega) (by simp; omega)
  refine wpList_plain hgd fun K' hK' => ?_
  unfold Oper.wp execOp
  simp only [ho, resolve, invoke, builtin, Sem.run_bind, Sem.run_pure, Result.andThen_ok, List.map_toArray, List.map_cons, List.map_nil, hs, hx, a1]
  refine hK' _ _ (h v' w' ?_ a3 (by simpa using a4))
  unfold OwnI
  rw [List.length_append, List.map_append]
  exact a2
theorem OwnI.not_row {w : World} {N g : Nat} {v : Value} {l : List Int} {cur : Array Value} {t : TypeId} (ho : OwnI w N v l) (hb : Blk w g t cur) (ht : t ≠ 3) : some g ≠ v.ownBlock := fun e => by
  rcases ho.2 with ⟨rfl, _⟩ | ⟨g', cap, cur', rfl, _, hg, _⟩
  · cases e
  · simp [Value.ownBlock] at e
    subst e
    have h := hb
    unfold Blk at h
    rw [hg] at h
    injection h with h
    injection h with _ h
    exact ht h.symm
theorem OwnI.own_lt {w : World} {N g : Nat} {v : Value} {l : List Int} (ho : OwnI w N v l) (h : some g = v.ownBlock) : N ≤ g ∧ g < w.heap.size := World.ownsRow.lt ho g h.symm
/-- A number is appended to the free columns. -/
theorem RowsM.grown {w w1 w2 : World} {M N B : Nat} {rs : List Rw} {X : List (List Rat)} {fv fv' : Value} {l : List Int} (h : RowsM w M N fv.ownBlock rs X) (ho : OwnI w B fv l) (hb : Below w.heap.size w w1) (hg : w1.grownBy w2 fv.ownBlock) (hv : fv'.ownBlock = fv.ownBlock ∨ fv'.ownBlock = some w1.heap.size) :
    RowsM w2 M N fv'.ownBlock rs X := by
  have h1 := h.below hb
  have hM := h1.lt
  obtain ⟨cur, hB, hC⟩ := h1.blk
  have ho1 := ho.below hb
  have hf : Fr (TE M fv.ownBlock) w1 w2 := ⟨hg.os, hg.tape, hg.output, hg.size, fun b hb hn => hg.block b hb (fun e => hn (.inr e))⟩
  refine ⟨⟨cur, (hg.block M hB.lt (ho1.not_row hB (by decide))).trans hB, hC⟩, h.len, h.xl, fun k hk => ?_⟩
  have hu := (h1.row k hk).up.fr (hf.more (fun b hb => .inl hb))
  refine hu.less (fun b hb => ?_)
  rcases hb with hb | hb
  · exact .inl (.inl hb)
  · rcases hv with hv | hv
    · exact .inl (.inr (hb.trans hv))
    · rw [hv] at hb
      injection hb with hb
      exact .inr (by omega)

end Go.Proofs.YtgpmmpajnfbecaaGreat

namespace Go.Proofs.YtgpmmpajnfbecaaGreat
open Go.RowKit

theorem RowC.is {w : World} {N m M : Nat} {r : Rw} {x : List Rat} {cur : Array Value} (h : RowC w N m r x) (hM : Blk w M 43 cur) (hN : N ≤ M) : RowIs (TE M none) w m r x := by
  obtain ⟨g, cur', fs, hA, hg, hB, hC, hl, hq⟩ := h.a
  have hT : ∀ b, TE M none b → N ≤ b := fun b hb => by
    rcases hb with rfl | hb
    · exact hN
    · cases hb
  refine ⟨h.n, h.len, ⟨g, cur', fs, hA, fun ht => ?_, hB, hC, hl, fun j hj => (hq j hj).less hT⟩, h.v.less hT⟩
  rcases ht with rfl | ht
  · have e := hB.symm.trans hM
    injection e with e
    injection e with _ e
    cases e
  · cases ht
theorem OwnI.farM {w V : World} {N M : Nat} {v : Value} {l : List Int} {cur : Array Value} (ho : OwnI w N v l) (hB : Blk w M 43 cur) (hf : Fr (· = M) w V) : OwnI V N v l :=
  World.ownsRow.kept (row := some M) ho ⟨hf.1, hf.2.1, hf.2.2.1, hf.size, fun k hk hn => hf.2.2.2.2 k hk (fun e => hn (by rw [e]))⟩ (.inr (fun e => ho.not_row hB (by decide) e.symm))

/-- What the loop over the columns has. -/
structure ElI (fst : Bool) (w wr : World) (M N : Nat) (X : List (List Rat)) (fv : Value) (fr : List Int) (rs : List Rw) (Y : List (List Rat)) (c r : Nat) : Prop where
  R : RowsM wr M N fv.ownBlock rs Y
  own : OwnI wr w.heap.size fv fr
  frl : fr.length ≤ c
  run : runE fst N 0 0 [] X = runE fst (N - c) c r fr Y
  rc : r ≤ c
  bl : Below w.heap.size w wr
  lo : w.heap.size ≤ M
theorem ElI.below {fst : Bool} {w wr wq : World} {M N : Nat} {X : List (List Rat)} {fv : Value} {fr : List Int} {rs : List Rw} {Y : List (List Rat)} {c r : Nat} (h : ElI fst w wr M N X fv fr rs Y c r) (hb : Below wr.heap.size wr wq) : ElI fst w wq M N X fv fr rs Y c r :=
  ⟨h.R.below hb, h.own.below hb, h.frl, h.run, h.rc, h.bl.trans (hb.mono h.bl.size), h.lo⟩

/-- What the loop over the rows has. -/
structure RdE (w wr : World) (M N : Nat) (fv : Value) (fr : List Int) (rs : List Rw) (p : List Rat) (r c : Nat) (X Y : List (List Rat)) (i : Nat) : Prop where
  R : RowsM wr M N fv.ownBlock rs (Y ++ X.drop i)
  own : OwnI wr w.heap.size fv fr
  P : PartR (redG p r c) X Y i
  pv : (Y ++ X.drop i).getD r [] = p
  bl : Below w.heap.size w wr
  lo : w.heap.size ≤ M
section
variable {w wr wq : World} {M N : Nat} {fv : Value} {fr : List Int} {rs : List Rw} {p : List Rat} {r c : Nat} {X Y : List (List Rat)} {i : Nat}
theorem RdE.below (h : RdE w wr M N fv fr rs p r c X Y i) (hb : Below wr.heap.size wr wq) : RdE w wq M N fv fr rs p r c X Y i :=
  ⟨h.R.below hb, h.own.below hb, h.P, h.pv, h.bl.trans (hb.mono h.bl.size), h.lo⟩
theorem RdE.skip (h : RdE w wr M N fv fr rs p r c X Y i) (hi : i < X.length) (hz : i = r ∨ (X.getD i []).getD c 0 = 0) : RdE w wr M N fv fr rs p r c X (Y ++ [X.getD i []]) (i + 1) :=
  ⟨by rw [PartR.keep hi]; exact h.R, h.own, h.P.step hi (by unfold redG; rw [if_pos hz]), by rw [PartR.keep hi]; exact h.pv, h.bl, h.lo⟩
theorem RdE.small (h : RdE w wr M N fv fr rs p r c X Y i) : ∀ b, TE M fv.ownBlock b → b < wr.heap.size := fun b hb => by
  rcases hb with hb | hb
  · have := h.R.lt
    omega
  · exact (h.own.own_lt hb).2
theorem RdE.put (h : RdE w wr M N fv fr rs p r c X Y i) (hi : i < X.length) (hN : X.length = N) (hir : i ≠ r) (hn : (X.getD i []).getD c 0 ≠ 0) {q : Rw} {ys : List Rat} (hq : RowIs (TE M fv.ownBlock) wr N q ys) (hs : subL ((X.getD i []).getD c 0) p (X.getD i []) = some ys) :
    ∃ V, V = ((((wr.setCell ⟨M, i * 5, none⟩ (.slice q.A q.n q.c)).setCell ⟨M, i * 5 + 1, none⟩ (.int .i64 q.f.s)).setCell ⟨M, i * 5 + 2, none⟩ (.slice q.f.A q.f.n q.f.c)).setCell ⟨M, i * 5 + 3, none⟩ (.int .i64 q.f.s')).setCell ⟨M, i * 5 + 4, none⟩ (.slice q.f.A' q.f.n' q.f.c') ∧
      RdE w V M N fv fr (rs.set i q) p r c X (Y ++ [ys]) (i + 1) := by
  obtain ⟨V, hV, hR, hf⟩ := h.R.put (k := i) (by omega) hq
  rw [h.P.set_ hi] at hR
  exact ⟨V, hV, hR, h.own.farM h.R.blk.choose_spec.1 hf, h.P.step hi (by unfold redG; rw [if_neg (by rintro (e | e); exact hir e; exact hn e)]; exact hs), by rw [← h.P.set_ hi, getD_set_ne hir]; exact h.pv,
    h.bl.trans (hf.below (fun b hb => by subst hb; exact h.lo) h.bl.size), h.lo⟩
theorem RdE.fail (h : RdE w wr M N fv fr rs p r c X Y i) (hi : i < X.length) (hir : i ≠ r) (hn : (X.getD i []).getD c 0 ≠ 0) (hs : subL ((X.getD i []).getD c 0) p (X.getD i []) = none) : mapR (redG p r c) 0 X = none :=
  h.P.fail hi (by unfold redG; rw [if_neg (by rintro (e | e); exact hir e; exact hn e)]; exact hs)
end

theorem blk_run5 {b b' : World} {a0 a1 a2 a3 a4 : Value} (h : Below (b.alloc (.cells #[a0, a1, a2, a3, a4] 43)).heap.size (b.alloc (.cells #[a0, a1, a2, a3, a4] 43)) b') : Blk b' b.heap.size 43 #[a0, a1, a2, a3, a4] := (Blk.new b 43 _).below h (by simp)
theorem Blk.set5 {w : World} {g : Nat} {t : TypeId} {a0 a1 a2 a3 a4 : Value} (h : Blk w g t #[a0, a1, a2, a3, a4]) (b0 b1 b2 b3 b4 : Value) : Blk (((((w.setCell ⟨g, 0, none⟩ b0).setCell ⟨g, 1, none⟩ b1).setCell ⟨g, 2, none⟩ b2).setCell ⟨g, 3, none⟩ b3).setCell ⟨g, 4, none⟩ b4) g t #[b0, b1, b2, b3, b4] := by
  simpa using ((((h.set_ 0 b0).set_ 1 b1).set_ 2 b2).set_ 3 b3).set_ 4 b4
theorem rowE_st {U : Nat → Prop} {w : World} {N1 N2 g m : Nat} {r : Rw} {x : List Rat} (h : RowIs (fun b => U b ∨ N1 ≤ b ∧ b < N2) w m r x) (h1 : N1 ≤ g) (h2 : g < N2) (u0 u1 u2 u3 u4 : Value) :
    RowIs U (((((w.setCell ⟨g, 0, none⟩ u0).setCell ⟨g, 1, none⟩ u1).setCell ⟨g, 2, none⟩ u2).setCell ⟨g, 3, none⟩ u3).setCell ⟨g, 4, none⟩ u4) m r x :=
  (h.fr ((fr_st5 g w u0 u1 u2 u3 u4).more (fun b hb => .inr (by subst hb; exact ⟨h1, h2⟩)))).less (fun _ hb => .inl hb)
theorem rowE_new {U : Nat → Prop} {w : World} {N1 N2 m : Nat} {r : Rw} {x : List Rat} (h : RowIs (fun b => U b ∨ N1 ≤ b ∧ b < N2) w m r x) (o : Obj) : RowIs U (w.alloc o) m r x :=
  (h.below ((Below.refl _ _).alloc (Nat.le_refl _) _)).less (fun _ hb => .inl hb)

set_option maxRecDepth 100000 in
set_option maxHeartbeats 16000000 in
theorem elimd_any {A : Option Addr} {m cap : Nat} {rs : List Rd} (fst : Bool) (w : World) (h : RdsAt w A rs) (hm : rs.length = m) (h40 : m ≤ 40) (hr : ∀ k, k < m → (rs.getD k rnil).R m) :
    Calls Tryz.prog 24 #[.slice A m cap, .int .i64 m, .bool fst] w fun e w' => Below w.heap.size w w' ∧
      ((runE fst m 0 0 [] (rs.map Rd.q) = none ∧ ∃ mv fv, e = .returned (.tuple #[mv, fv, .bool false])) ∨
       (∃ fr Y mv fv, runE fst m 0 0 [] (rs.map Rd.q) = some (fr, Y) ∧ e = .returned (.tuple #[mv, fv, .bool true]) ∧ OwnI w' w.heap.size fv fr ∧ fr.length ≤ m ∧
          (0 < m → ∃ M cp rows, mv = .slice (some ⟨M, 0, none⟩) m cp ∧ RowsM w' M m fv.ownBlock rows Y))) := by
  have HD := Lib.hid h; clear h
  have HM := Lib.hid hm; clear hm
  have HR := Lib.hid hr; clear hr
  go_enter Tryz.func24, Tryz.ntmps24
  go_wp2_with fail
  (with_reducible refine (copied_any w HD.out HM.out h40 HR.out).mono ?_)
  rintro e w1 ⟨vo, rows, rfl, hC⟩
  by_cases hm0 : m = 0
  · subst hm0
    have hbl := hC.bl
    obtain ⟨Am, cm, hvo, -⟩ := hC.own.at_
    rw [hC.len] at hvo
    subst hvo
    have HX0 := Lib.hid (show rs.map Rd.q = [] by rw [List.eq_nil_of_length_eq_zero HM.out]; rfl)
    clear hC
    go_wp2_with fail
    go_loopw [12, 10] (fun cv fv wr => cv = .int .i64 0 ∧ fv = .slice none 0 0 ∧ wr = w1) (fun _ _ _ => 0)
    case atStart => exact ⟨rfl, rfl, rfl⟩
    case round =>
      obtain ⟨rfl, rfl, rfl⟩ := hrel
      go_wp2_with fail
      go_ret3
      exact ⟨hbl, .inr ⟨[], [], _, _, by rw [HX0.out]; rfl, rfl, OwnI.nil _ _, Nat.le_refl _, fun h => by omega⟩⟩
  · obtain ⟨M, cp, cur, hvo, hlo, hB, hCR, -⟩ := hC.own.blk (by rw [hC.len]; omega)
    rw [hC.len] at hvo
    subst hvo
    have hst : ElI fst w w1 M m (rs.map Rd.q) (.slice none 0 0) [] rows (rs.map Rd.q) 0 0 :=
      ⟨⟨⟨cur, hB, hCR⟩, hC.len, by rw [List.length_map]; exact HM.out, fun k hk => by
        have h := (hC.row k hk).is hB hlo
        have e : (rs.map Rd.q).getD k [] = (rs.getD k rnil).q := by
          rw [List.getD_eq_getElem?_getD, List.getElem?_map, List.getD_eq_getElem?_getD, List.getElem?_eq_getElem (by rw [HM.out]; exact hk)]; rfl
        rw [e]
        exact h⟩, OwnI.nil _ _, Nat.zero_le _, by rw [Nat.sub_zero], Nat.le_refl _, hC.bl, hlo⟩
    have HST := Lib.hid hst
    clear hst hC hB hCR
    go_wp2_with fail
    go_loopw [12, 11, 10] (fun cv rv fv wr => ∃ (c r : Nat) (fr : List Int) (rw : List Rw) (Y : List (List Rat)), c ≤ m ∧ cv = .int .i64 c ∧ rv = .int .i64 r ∧ Hid (ElI fst w wr M m (rs.map Rd.q) fv fr rw Y c r)) (fun cv _ _ _ => m - (intOf cv).toNat)
    case atStart => exact ⟨0, 0, [], _, _, Nat.zero_le _, rfl, rfl, HST⟩
    case round =>
      obtain ⟨c, r, fr, rw', Y, hc, rfl, rfl, hI⟩ := hrel
      clear HST
      obtain ⟨fv, hfv⟩ : ∃ v, u10 = v := ⟨_, rfl⟩
      rw [hfv] at hI ⊢
      clear hfv
      by_cases hgo : c < m
      rotate_left
      · have : c = m := by omega
        subst this
        have hfin := Lib.hid hI.out
        clear hI
        go_wp2_with fail
        go_ret3
        exact ⟨hfin.out.bl, .inr ⟨fr, Y, _, _, by rw [hfin.out.run, Nat.sub_self]; rfl, rfl, hfin.out.own, hfin.out.frl, fun _ => ⟨M, cp, rw', rfl, hfin.out.R⟩⟩⟩
      have hrc := hI.out.rc
      have hcI : ((c : Nat) : Int) < ((m : Nat) : Int) := by omega
      go_wp2_with fail
      go_loopw [13] (fun av wq => ∃ j : Nat, r ≤ j ∧ j ≤ m ∧ av = .int .i64 j ∧ Below wr.heap.size wr wq ∧ Hid (∀ i, r ≤ i → i < j → (Y.getD i []).getD c 0 = 0)) (fun av _ => m - (intOf av).toNat)
      case atStart => exact ⟨r, Nat.le_refl _, by omega, rfl, Below.refl _ _, Lib.hid fun i h1 h2 => by omega⟩
      case round =>
        obtain ⟨j, hrj, hjm, rfl, hbq, hz⟩ := hrel
        by_cases hj : j < m
        · have hIq := Lib.hid (hI.out.below hbq)
          obtain ⟨p0, -, -, -, -⟩ := hIq.out.R.cells hj
          have hrow := hIq.out.R.row j hj
          have hMl := hIq.out.R.lt
          have hpn := hrow.n
          obtain ⟨gx, f, hA, hgx, -, c0, c1, c2, c3, hf⟩ := hrow.cells hgo
          obtain ⟨pr, hpr⟩ : ∃ p, rw'.getD j rwnil = p := ⟨_, rfl⟩
          rw [hpr] at p0 hA hpn
          clear hpr hrow
          obtain ⟨pA, pn, pc, pf⟩ := pr
          simp only at p0 hA hpn
          rw [hpn] at p0
          clear hpn
          subst hA
          obtain ⟨s1, A1, n1, d1, s2, A2, n2, d2⟩ := f
          simp only at c0 c1 c2 c3
          have hjI : ((j : Nat) : Int) < ((m : Nat) : Int) := by omega
          go_wp2_with fail
          clear p0 c0 c1 c2 c3
          by_cases hz0 : (Y.getD j []).getD c 0 = 0
          · (with_reducible refine (rzero_any hf true (decide_eq_true hz0)).mono ?_)
            rintro e u1 ⟨rfl, hb1⟩
            have HZ0 := Lib.hid hz0
            have hbb := hbq.trans (hb1.mono hbq.size)
            clear hf hz0 hIq
            go_wp2_with fail
            go_roundw
            case rel => exact ⟨j + 1, by omega, by omega, rfl, hbb, Lib.hid fun i h1 h2 => by
              by_cases hij : i < j
              · exact hz.out i h1 hij
              · have : i = j := by omega
                subst this
                exact HZ0.out⟩
            case measure => simp [intOf]; omega
          · (with_reducible refine (rzero_any hf false (decide_eq_false hz0)).mono ?_)
            rintro e u1 ⟨rfl, hb1⟩
            have HFN := Lib.hid (firstNZ_some (X := Y) (c := c) (r := r) (m := m - r) (j := j - r) (by omega) (by rw [show r + (j - r) = j by omega]; exact hz0) (fun i hi => hz.out (r + i) (by omega) (by omega)))
            have HZ0 := Lib.hid hz0
            have hI1 := Lib.hid (hIq.out.below hb1)
            clear hf hz0 hIq hb1 hbq hI hMl hgx hz
            have hjne : ((j : Int) == (m : Int)) = false := by rw [beq_eq_false_iff_ne]; omega
            have hrm : r < m := by omega
            have hrI : ((r : Nat) : Int) < ((m : Nat) : Int) := by omega
            obtain ⟨a0, a1, a2, a3, a4⟩ := hI1.out.R.cells hrm
            have HRr := Lib.hid (hI1.out.R.row r hrm)
            have HRj := Lib.hid (hI1.out.R.row j hj)
            obtain ⟨ro, hro⟩ : ∃ p, rw'.getD r rwnil = p := ⟨_, rfl⟩
            obtain ⟨rj, hrj'⟩ : ∃ p, rw'.getD j rwnil = p := ⟨_, rfl⟩
            rw [hro] at a0 a1 a2 a3 a4 HRr
            rw [hrj'] at HRj
            have HRO := Lib.hid hro; clear hro
            have HRJ := Lib.hid hrj'; clear hrj'
            obtain ⟨oA, on, oc, os1, oA1, on1, oc1, os2, oA2, on2, oc2⟩ := ro
            obtain ⟨qA, qn, qc, qs1, qA1, qn1, qc1, qs2, qA2, qn2, qc2⟩ := rj
            simp only at a0 a1 a2 a3 a4
            go_upto_region 15 with fail
            clear a0 a1 a2 a3 a4
            have hbA : Below u1.heap.size u1 (u1.alloc (.cells #[.slice oA on oc, .int .i64 os1, .slice oA1 on1 oc1, .int .i64 os2, .slice oA2 on2 oc2] 43)) := (Below.refl _ _).alloc (Nat.le_refl _) _
            have k14 := Blk.new u1 43 #[.slice oA on oc, .int .i64 os1, .slice oA1 on1 oc1, .int .i64 os2, .slice oA2 on2 oc2]
            have hI3 := hI1.out.below hbA
            have hRr3 := HRr.out.below hbA
            have hRj3 := HRj.out.below hbA
            obtain ⟨G14, hG14⟩ : ∃ G, u1.heap.size = G := ⟨_, rfl⟩
            have hMG : M ≠ G14 := by have := hI1.out.R.lt; omega
            rw [hG14] at k14 ⊢
            generalize u1.alloc (.cells #[.slice oA on oc, .int .i64 os1, .slice oA1 on1 oc1, .int .i64 os2, .slice oA2 on2 oc2] 43) = W3 at *
            clear hbA HRr HRj hI1 hG14
            obtain ⟨a0, a1, a2, a3, a4⟩ := hI3.R.cells hrm
            obtain ⟨b0, b1, b2, b3, b4⟩ := hI3.R.cells hj
            rw [HRO.out] at a0 a1 a2 a3 a4
            rw [HRJ.out] at b0 b1 b2 b3 b4
            simp only at a0 a1 a2 a3 a4 b0 b1 b2 b3 b4
            have z0 := hI3.R.frozen (r * 5)
            have z1 := hI3.R.frozen (r * 5 + 1)
            have z2 := hI3.R.frozen (r * 5 + 2)
            have z3 := hI3.R.frozen (r * 5 + 3)
            have z4 := hI3.R.frozen (r * 5 + 4)
            have hMl := hI3.R.lt
            obtain ⟨V, hV, hRV, hfV⟩ := hI3.R.put hrm hRj3
            simp only at hV
            have hownV := hI3.own.farM hI3.R.blk.choose_spec.1 hfV
            have HFV := Lib.hid (And.intro hRV (And.intro hownV (And.intro (hRr3.fr (hfV.more (fun b hb => .inl hb))) (And.intro (k14.fr hfV (fun e => hMG e.symm)) (And.intro (hI3.bl.trans (hfV.below (fun b hb => by subst hb; exact hI3.lo) hI3.bl.size)) (And.intro hI3.lo (And.intro hI3.frl (And.intro hI3.run hI3.rc))))))))
            have hI3len := Lib.hid hI3.R.xl
            clear hI3 hRr3 hRj3 k14 hRV hfV hownV
            go_upto_region 16 with fail
            rw [← hV]
            clear a0 a1 a2 a3 a4 b0 b1 b2 b3 b4 z0 z1 z2 z3 z4 hMl hV
            obtain ⟨hRV, hownV, hRrV, k14, hblV, hloV, hfrl, hrun, hrc0⟩ := HFV.out
            clear HFV
            have q0 := k14.cell 0
            have q1 := k14.cell 1
            have q2 := k14.cell 2
            have q3 := k14.cell 3
            have q4 := k14.cell 4
            simp at q0 q1 q2 q3 q4
            obtain ⟨a0, a1, a2, a3, a4⟩ := hRV.cells hj
            obtain ⟨ra, hra⟩ : ∃ p, (rw'.set r ⟨qA, qn, qc, ⟨qs1, qA1, qn1, qc1, qs2, qA2, qn2, qc2⟩⟩).getD j rwnil = p := ⟨_, rfl⟩
            rw [hra] at a0 a1 a2 a3 a4
            clear hra
            obtain ⟨pA, pn, pc, ps1, pA1, pn1, pc1, ps2, pA2, pn2, pc2⟩ := ra
            simp only at a0 a1 a2 a3 a4
            have z0 := hRV.frozen (j * 5)
            have z1 := hRV.frozen (j * 5 + 1)
            have z2 := hRV.frozen (j * 5 + 2)
            have z3 := hRV.frozen (j * 5 + 3)
            have z4 := hRV.frozen (j * 5 + 4)
            have hMl := hRV.lt
            obtain ⟨V2, hV2, hR2, hf2⟩ := hRV.put hj hRrV
            simp only at hV2
            have hown2 := hownV.farM hRV.blk.choose_spec.1 hf2
            have hbl2 := hblV.trans (hf2.below (fun b hb => by subst hb; exact hloV) hblV.size)
            obtain ⟨ws1, hws1⟩ : ∃ l, swapR rwnil rw' r j = l := ⟨_, rfl⟩
            obtain ⟨X1, hX1⟩ : ∃ l, swapR [] Y r j = l := ⟨_, rfl⟩
            have hR2' : RowsM V2 M m fv.ownBlock ws1 X1 := by
              rw [← HRO.out, ← HRJ.out] at hR2
              rw [← hws1, ← hX1]
              exact hR2
            have hYl := hI3len.out
            have hX1l : X1.length = m := by rw [← hX1, swapR_length]; exact hYl
            have hpc : (X1.getD r []).getD c 0 ≠ 0 := by
              rw [← hX1, swapR_getD _ _ (by omega) (by omega), place_self]
              exact HZ0.out
            have hel : Hid (elimS Y r c = (divL ((X1.getD r []).getD c 0) (X1.getD r [])).bind fun p => (mapR (redG p r c) 0 (X1.set r p)).map fun Y => (true, Y)) := Lib.hid (by
              unfold elimS
              rw [hYl, HFN.out, show r + (j - r) = j by omega]
              simp only [hX1])
            have hT2 := Lib.hid (show ∀ b, TE M fv.ownBlock b → b < V2.heap.size from fun b hb => by
              rcases hb with hb | hb
              · have := hR2'.lt
                omega
              · exact (hown2.own_lt hb).2)
            have HR2 := Lib.hid hR2'
            have HO2 := Lib.hid (And.intro hown2 (And.intro hbl2 (And.intro hloV (And.intro hfrl (And.intro hrun hrc0)))))
            have HX1l := Lib.hid hX1l
            have HPC := Lib.hid hpc
            clear hR2 hR2' hown2 hbl2 hfrl hrun hownV hblV hRrV k14 hRV hf2 hX1l hpc hYl hI3len hws1 hX1 HRO HRJ HFN HZ0
            go_upto_region 17 with fail
            rw [← hV2]
            clear hV2 a0 a1 a2 a3 a4 z0 z1 z2 z3 z4 q0 q1 q2 q3 q4 hMl
            have hrowR := HR2.out.row r hrm
            obtain ⟨a0, a1, a2, a3, a4⟩ := HR2.out.cells hrm
            obtain ⟨ra, hra⟩ : ∃ p, ws1.getD r rwnil = p := ⟨_, rfl⟩
            rw [hra] at a0 a1 a2 a3 a4 hrowR
            clear hra
            obtain ⟨oA', on', oc', os1', oA1', on1', oc1', os2', oA2', on2', oc2'⟩ := ra
            simp only at a0 a1 a2 a3 a4
            go_wp2_with fail
            clear a0 a1 a2 a3 a4
            (with_reducible refine (divided_any hrowR hgo (by omega) rfl HPC.out hT2.out).mono ?_)
            rintro e w5 ⟨hb5, ⟨⟨dA, dn, dc, ds1, dA1, dn1, dc1, ds2, dA2, dn2, dc2⟩, ys, hdv, rfl, hrow5⟩ | ⟨hdv, ⟨dA, dn, dc, ds1, dA1, dn1, dc1, ds2, dA2, dn2, dc2⟩, rfl⟩⟩
            rotate_left
            · have hres := Lib.hid (show runE fst m 0 0 [] (rs.map Rd.q) = none by
                rw [HO2.out.2.2.2.2.1, show m - c = (m - (c + 1)) + 1 by omega]
                exact runE_fail (by rw [hel.out, hdv]; rfl))
              have hbb := Lib.hid (HO2.out.2.1.trans (hb5.mono HO2.out.2.1.size))
              clear hdv hb5 hrowR
              go_wp2_with fail
              go_ret3
              exact ⟨hbb.out.alloc (by have := hbb.out.size; omega) _, .inl ⟨hres.out, _, _, rfl⟩⟩
            have HEL := Lib.hid (show elimS Y r c = (mapR (redG ys r c) 0 (X1.set r ys)).map fun Y => (true, Y) by rw [hel.out, hdv]; rfl)
            clear hdv hrowR hel
            go_upto_region 20 with fail
            have hbA : Below w5.heap.size w5 (w5.alloc (.cells #[.slice dA dn dc, .int .i64 ds1, .slice dA1 dn1 dc1, .int .i64 ds2, .slice dA2 dn2 dc2] 43)) := (Below.refl _ _).alloc (Nat.le_refl _) _
            have k15 := Blk.new w5 43 #[.slice dA dn dc, .int .i64 ds1, .slice dA1 dn1 dc1, .int .i64 ds2, .slice dA2 dn2 dc2]
            obtain ⟨hown2, hbl2, hlo2, hfrl, hrun, hrc0⟩ := HO2.out
            clear HO2
            have hb56 := hb5.trans (hbA.mono hb5.size)
            have hR6 := HR2.out.below hb56
            have hown6 := hown2.below hb56
            have hbl6 := hbl2.trans (hb56.mono hbl2.size)
            have hrow6 := hrow5.below hbA
            obtain ⟨G15, hG15⟩ : ∃ G, w5.heap.size = G := ⟨_, rfl⟩
            rw [hG15] at k15 ⊢
            generalize w5.alloc (.cells #[.slice dA dn dc, .int .i64 ds1, .slice dA1 dn1 dc1, .int .i64 ds2, .slice dA2 dn2 dc2] 43) = W6 at *
            clear hbA hb5 hb56 hG15 hown2 hbl2 hrow5 HR2
            have q0 := k15.cell 0
            have q1 := k15.cell 1
            have q2 := k15.cell 2
            have q3 := k15.cell 3
            have q4 := k15.cell 4
            simp at q0 q1 q2 q3 q4
            obtain ⟨a0, a1, a2, a3, a4⟩ := hR6.cells hrm
            obtain ⟨ra, hra⟩ : ∃ p, ws1.getD r rwnil = p := ⟨_, rfl⟩
            rw [hra] at a0 a1 a2 a3 a4
            clear hra
            obtain ⟨pA3, pn3, pc3, ps13, pA13, pn13, pc13, ps23, pA23, pn23, pc23⟩ := ra
            simp only at a0 a1 a2 a3 a4
            have z0 := hR6.frozen (r * 5)
            have z1 := hR6.frozen (r * 5 + 1)
            have z2 := hR6.frozen (r * 5 + 2)
            have z3 := hR6.frozen (r * 5 + 3)
            have z4 := hR6.frozen (r * 5 + 4)
            have hMl := hR6.lt
            obtain ⟨V3, hV3, hR3, hf3⟩ := hR6.put hrm hrow6
            simp only at hV3
            obtain ⟨X2, hX2⟩ : ∃ X, X1.set r ys = X := ⟨_, rfl⟩
            have hX2l := Lib.hid (show X2.length = m by rw [← hX2, List.length_set]; exact HX1l.out)
            have hst : RdE w V3 M m fv fr (ws1.set r ⟨dA, dn, dc, ⟨ds1, dA1, dn1, dc1, ds2, dA2, dn2, dc2⟩⟩) ys r c X2 [] 0 :=
              ⟨by rw [← hX2]; simpa using hR3, hown6.farM hR6.blk.choose_spec.1 hf3, PartR.start _ _, by rw [List.drop_zero, List.nil_append, ← hX2, getD_set_self (by rw [HX1l.out]; exact hrm)],
                hbl6.trans (hf3.below (fun b hb => by subst hb; exact hlo2) hbl6.size), hlo2⟩
            have HST := Lib.hid hst
            have HO3 := Lib.hid (And.intro hfrl (And.intro hrun hrc0))
            rw [hX2] at HEL
            clear hst hR3 hf3 hR6 hown6 hbl6 hrow6 k15 hfrl hrun hX2 HPC HX1l hT2
            go_upto_region 21 with fail
            rw [← hV3]
            clear hV3 a0 a1 a2 a3 a4 z0 z1 z2 z3 z4 q0 q1 q2 q3 q4 hMl
            go_wp2_with fail
            go_loopw [17] (fun iv wq => ∃ (i : Nat) (Yd : List (List Rat)) (rw2 : List Rw), i ≤ m ∧ iv = .int .i64 i ∧ Hid (RdE w wq M m fv fr rw2 ys r c X2 Yd i)) (fun iv _ => m - (intOf iv).toNat)
            case atStart => exact ⟨0, [], _, Nat.zero_le _, rfl, HST⟩
            case round =>
              obtain ⟨i, Yd, rw2, hi, rfl, hI⟩ := hrel
              clear HST
              by_cases hgi : i < m
              rotate_left
              · have : i = m := by omega
                subst this
                have hE := hI.out
                have hdone := hE.P
                rw [← hX2l.out] at hdone
                have hR9 := hE.R
                rw [List.drop_of_length_le (by rw [hX2l.out]; exact Nat.le_refl _), List.append_nil] at hR9
                have hfin : Hid (ElI fst w wr M i (rs.map Rd.q) fv fr rw2 Yd (c + 1) (r + 1)) := Lib.hid ⟨hR9, hE.own, by have := HO3.out.1; omega, by
                  rw [HO3.out.2.1, show i - c = (i - (c + 1)) + 1 by omega, runE_on (Y := Yd) (by rw [HEL.out, hdone.done]; rfl)], by omega, hE.bl, hE.lo⟩
                clear hI hE hdone hR9 HEL
                go_wp2_with fail
                go_roundw
                case rel => exact ⟨c + 1, r + 1, fr, rw2, Yd, by omega, rfl, rfl, hfin⟩
                case measure => simp [intOf]; omega
              by_cases hir : i = r
              · have hI1 := Lib.hid (hI.out.skip (by rw [hX2l.out]; exact hgi) (.inl hir))
                clear hI
                subst hir
                go_wp2_with fail
                go_roundw
                case rel => exact ⟨i + 1, _, rw2, by omega, rfl, hI1⟩
                case measure => simp [intOf]; omega
              have hineq : ((i : Int) == (r : Int)) = false := by rw [beq_eq_false_iff_ne]; omega
              obtain ⟨p0, -, -, -, -⟩ := hI.out.R.cells hgi
              have hrow := hI.out.R.row i hgi
              rw [hI.out.P.now] at hrow
              have hMl := hI.out.R.lt
              have hpn := hrow.n
              obtain ⟨gx', f', hA', hgx', -, c0, c1, c2, c3, hf'⟩ := hrow.cells hgo
              obtain ⟨pr, hpr⟩ : ∃ p, rw2.getD i rwnil = p := ⟨_, rfl⟩
              have HPR := Lib.hid hpr
              rw [hpr] at p0 hA' hpn
              clear hpr hrow
              obtain ⟨pA', pn', pc', pf'⟩ := pr
              simp only at p0 hA' hpn
              rw [hpn] at p0
              clear hpn
              subst hA'
              obtain ⟨t1, B1, m1, e1, t2, B2, m2, e2⟩ := f'
              simp only at c0 c1 c2 c3
              have hiI : ((i : Nat) : Int) < ((m : Nat) : Int) := by omega
              go_wp2_with fail
              clear p0 c0 c1 c2 c3
              by_cases hz0 : (X2.getD i []).getD c 0 = 0
              · (with_reducible refine (rzero_any hf' true (decide_eq_true hz0)).mono ?_)
                rintro e u2 ⟨rfl, hb2⟩
                have hI1 := Lib.hid ((hI.out.below hb2).skip (by rw [hX2l.out]; exact hgi) (.inr hz0))
                clear hI hf' hz0
                go_wp2_with fail
                go_roundw
                case rel => exact ⟨i + 1, _, rw2, by omega, rfl, hI1⟩
                case measure => simp [intOf]; omega
              (with_reducible refine (rzero_any hf' false (decide_eq_false hz0)).mono ?_)
              rintro e u2 ⟨rfl, hb2⟩
              have hI1 := hI.out.below hb2
              clear hI hf' HPR
              obtain ⟨a0, a1, a2, a3, a4⟩ := hI1.R.cells hgi
              obtain ⟨b0, b1, b2, b3, b4⟩ := hI1.R.cells hrm
              have hrow1 := hI1.R.row i hgi
              have hrow2 := hI1.R.row r hrm
              rw [hI1.P.now] at hrow1
              rw [hI1.pv] at hrow2
              have hMl2 := hI1.R.lt
              have HI1 := Lib.hid hI1
              clear hI1
              obtain ⟨ra, hra⟩ : ∃ p, rw2.getD i rwnil = p := ⟨_, rfl⟩
              rw [hra] at a0 a1 a2 a3 a4 hrow1
              clear hra
              obtain ⟨rb, hrb⟩ : ∃ p, rw2.getD r rwnil = p := ⟨_, rfl⟩
              rw [hrb] at b0 b1 b2 b3 b4 hrow2
              clear hrb
              obtain ⟨iA, in_, ic, is1, iA1, in1, ic1, is2, iA2, in2, ic2⟩ := ra
              obtain ⟨jA, jn, jc, js1, jA1, jn1, jc1, js2, jA2, jn2, jc2⟩ := rb
              simp only at a0 a1 a2 a3 a4 b0 b1 b2 b3 b4
              have e0 : ∀ W' : World, Below u2.heap.size u2 W' → W'.cell? ⟨M, i * 5, none⟩ = some (.slice iA in_ ic) ∧ W'.cell? ⟨M, i * 5 + 1, none⟩ = some (.int .i64 is1) ∧ W'.cell? ⟨M, i * 5 + 2, none⟩ = some (.slice iA1 in1 ic1) ∧ W'.cell? ⟨M, i * 5 + 3, none⟩ = some (.int .i64 is2) ∧ W'.cell? ⟨M, i * 5 + 4, none⟩ = some (.slice iA2 in2 ic2) ∧
                  W'.cell? ⟨M, r * 5, none⟩ = some (.slice jA jn jc) ∧ W'.cell? ⟨M, r * 5 + 1, none⟩ = some (.int .i64 js1) ∧ W'.cell? ⟨M, r * 5 + 2, none⟩ = some (.slice jA1 jn1 jc1) ∧ W'.cell? ⟨M, r * 5 + 3, none⟩ = some (.int .i64 js2) ∧ W'.cell? ⟨M, r * 5 + 4, none⟩ = some (.slice jA2 jn2 jc2) := fun W' hW =>
                ⟨(hW.cell (p := ⟨M, _, none⟩) hMl2).trans a0, (hW.cell (p := ⟨M, _, none⟩) hMl2).trans a1, (hW.cell (p := ⟨M, _, none⟩) hMl2).trans a2, (hW.cell (p := ⟨M, _, none⟩) hMl2).trans a3, (hW.cell (p := ⟨M, _, none⟩) hMl2).trans a4,
                  (hW.cell (p := ⟨M, _, none⟩) hMl2).trans b0, (hW.cell (p := ⟨M, _, none⟩) hMl2).trans b1, (hW.cell (p := ⟨M, _, none⟩) hMl2).trans b2, (hW.cell (p := ⟨M, _, none⟩) hMl2).trans b3, (hW.cell (p := ⟨M, _, none⟩) hMl2).trans b4⟩
              have E0 := Lib.hid e0; clear e0
              have hB00 : Below u2.heap.size u2 u2.drew := (Below.refl _ _).drew
              go_upto_region 25 with fail
              obtain ⟨x, hxe⟩ : ∃ x, X2.getD i [] = x := ⟨_, rfl⟩
              rw [hxe] at hrow1
              have HXE := Lib.hid hxe
              have hU1 := hrow1.up
              have hU2 := hrow2.up
              have hsm := HI1.out.small
              have HSA := Lib.hid (fun (W' : World) (hb : Below u2.heap.size u2 W') => reduced_any (T := fun b => TE M fv.ownBlock b ∨ u2.heap.size ≤ b ∧ b < W'.heap.size) ((hU1.below hb).less (fun b hb => hb.elim .inl (fun hb => .inr hb.1))) ((hU2.below hb).less (fun b hb => hb.elim .inl (fun hb => .inr hb.1))) hgo (by omega) (rfl : x.getD c 0 = x.getD c 0)
                (fun b hb' => by
                  have := hb.size
                  rcases hb' with hb' | hb'
                  · have := hsm b hb'
                    omega
                  · exact hb'.2))
              clear hxe hU1 hU2 hsm hrow1 hrow2 a0 a1 a2 a3 a4 b0 b1 b2 b3 b4
              cases hsub : subL (x.getD c 0) ys x with
              | some zs =>
                have HSB := Lib.hid (fun (W' : World) (hb : Below u2.heap.size u2 W') => (HSA.out W' hb).mono (R' := fun e w' => ∃ r' : Rw, e = .returned (.tuple #[r'.v, .bool true]) ∧ RowIs (fun b => TE M fv.ownBlock b ∨ u2.heap.size ≤ b ∧ b < W'.heap.size) w' m r' zs ∧ Below W'.heap.size W' w') (fun e w' hp => by
                  obtain ⟨hb9, ⟨r', ys', h1, h2, h3⟩ | ⟨h1, _⟩⟩ := hp
                  · rw [hsub] at h1
                    injection h1 with h1
                    subst h1
                    exact ⟨r', h2, h3, hb9⟩
                  · rw [hsub] at h1
                    cases h1))
                clear HSA
                go_cut [18, 19] from 106 to 119 (fun p e wx => ∃ (G8 : Nat) (rA : Option Addr) (rn rc : Nat) (r1 : Int) (C1 : Option Addr) (k1 l1 : Nat) (r2 : Int) (C2 : Option Addr) (k2 l2 : Nat), p = .pointer (some ⟨G8, 0, none⟩) ∧ e = .bool true ∧ Blk wx G8 43 #[.slice rA rn rc, .int .i64 r1, .slice C1 k1 l1, .int .i64 r2, .slice C2 k2 l2] ∧ RowIs (TE M fv.ownBlock) wx m ⟨rA, rn, rc, ⟨r1, C1, k1, l1, r2, C2, k2, l2⟩⟩ zs ∧ Below u2.heap.size u2 wx)
                case first =>
                  go_region_held3 (fun W' => W'.cell? ⟨M, i * 5, none⟩ = some (.slice iA in_ ic) ∧ W'.cell? ⟨M, i * 5 + 1, none⟩ = some (.int .i64 is1) ∧ W'.cell? ⟨M, i * 5 + 2, none⟩ = some (.slice iA1 in1 ic1) ∧ W'.cell? ⟨M, i * 5 + 3, none⟩ = some (.int .i64 is2) ∧ W'.cell? ⟨M, i * 5 + 4, none⟩ = some (.slice iA2 in2 ic2) ∧
                      W'.cell? ⟨M, r * 5, none⟩ = some (.slice jA jn jc) ∧ W'.cell? ⟨M, r * 5 + 1, none⟩ = some (.int .i64 js1) ∧ W'.cell? ⟨M, r * 5 + 2, none⟩ = some (.slice jA1 jn1 jc1) ∧ W'.cell? ⟨M, r * 5 + 3, none⟩ = some (.int .i64 js2) ∧ W'.cell? ⟨M, r * 5 + 4, none⟩ = some (.slice jA2 jn2 jc2))
                    (first | (with_reducible exact E0.out _ (below_st5 hB4 (Nat.le_refl _) _ _ _ _ _)) | (with_reducible exact E0.out _ (below_new hB4 _)) | (with_reducible exact E0.out _ hB4) | (with_reducible exact E0.out _ hB00) | (with_reducible exact E0.out _ (Below.refl _ _)) | exact E0.out _ (below_new hB00 _))
                    (first
                      | (go_at_call 42; (first | refine (HSB.out _ hB00).mono ?_ | refine (HSB.out _ (below_new hB00 _)).mono ?_); rintro e w4 ⟨⟨rA, rn, rc, r1, C1, k1, l1, r2, C2, k2, l2⟩, rfl, hro, hb4⟩; have hB4 : Below u2.heap.size u2 w4 := (by first | exact ⟨hb4.os, hb4.tape, hb4.output, hb4.size, hb4.block⟩ | exact (below_new hB00 _).trans (hb4.mono (below_new hB00 _).size)); (try (have hk4 : Blk w4 u2.heap.size 43 #[.slice none 0 0, .int .i64 0, .slice none 0 0, .int .i64 0, .slice none 0 0] := blk_run5 (b := u2.drew) hb4; have hlt4 := hk4.lt; have z0 := hk4.cell 0; have z1 := hk4.cell 1; have z2 := hk4.cell 2; have z3 := hk4.cell 3; have z4 := hk4.cell 4; have y0 := hk4.frozen 0; have y1 := hk4.frozen 1; have y2 := hk4.frozen 2; have y3 := hk4.frozen 3; have y4 := hk4.frozen 4))))
                  all_goals
                    go_wp2_with fail
                    go_meet
                    first
                      | exact ⟨_, rA, rn, rc, r1, C1, k1, l1, r2, C2, k2, l2, rfl, rfl, hk4.set5 _ _ _ _ _, rowE_st hro (Nat.le_refl _) (by simp) _ _ _ _ _, below_st5 hB4 (Nat.le_refl _) _ _ _ _ _⟩
                      | exact ⟨_, rA, rn, rc, r1, C1, k1, l1, r2, C2, k2, l2, rfl, rfl, Blk.new _ _ _, rowE_new hro _, below_new hB4 _⟩
                obtain ⟨G8, rA, rn, rc, r1, C1, k1, l1, r2, C2, k2, l2, rfl, rfl, kq, hq8, hb5⟩ := hcut
                clear E0 hB00 HSB
                have hI5 := HI1.out.below hb5
                clear HI1 hb5
                have q0 := kq.cell 0
                have q1 := kq.cell 1
                have q2 := kq.cell 2
                have q3 := kq.cell 3
                have q4 := kq.cell 4
                simp at q0 q1 q2 q3 q4
                obtain ⟨a0, a1, a2, a3, a4⟩ := hI5.R.cells hgi
                obtain ⟨ra, hra⟩ : ∃ p, rw2.getD i rwnil = p := ⟨_, rfl⟩
                rw [hra] at a0 a1 a2 a3 a4
                clear hra
                obtain ⟨pA4, pn4, pc4, ps14, pA14, pn14, pc14, ps24, pA24, pn24, pc24⟩ := ra
                simp only at a0 a1 a2 a3 a4
                have z0 := hI5.R.frozen (i * 5)
                have z1 := hI5.R.frozen (i * 5 + 1)
                have z2 := hI5.R.frozen (i * 5 + 2)
                have z3 := hI5.R.frozen (i * 5 + 3)
                have z4 := hI5.R.frozen (i * 5 + 4)
                have hMl5 := hI5.R.lt
                obtain ⟨V, hV, hnx⟩ := hI5.put (by rw [hX2l.out]; exact hgi) hX2l.out hir (by rw [HXE.out]; rw [HXE.out] at hz0; exact hz0) hq8 (by rw [HXE.out]; exact hsub)
                simp only at hV
                have HNX := Lib.hid hnx
                clear hnx hI5 hq8 kq hsub
                go_wp2_with fail
                rw [← hV]
                go_roundw
                case rel => exact ⟨i + 1, _, _, by omega, rfl, HNX⟩
                case measure => simp [intOf]; omega
              | none =>
                have HSB := Lib.hid (fun (W' : World) (hb : Below u2.heap.size u2 W') => (HSA.out W' hb).mono (R' := fun e w' => ∃ r' : Rw, e = .returned (.tuple #[r'.v, .bool false]) ∧ Below W'.heap.size W' w') (fun e w' hp => by
                  obtain ⟨hb9, ⟨r', ys', h1, h2, h3⟩ | ⟨h1, r', h2⟩⟩ := hp
                  · rw [hsub] at h1
                    cases h1
                  · exact ⟨r', h2, hb9⟩))
                clear HSA
                go_cut [18, 19] from 106 to 119 (fun p e wx => e = .bool false ∧ Below u2.heap.size u2 wx)
                case first =>
                  go_region_held3 (fun W' => W'.cell? ⟨M, i * 5, none⟩ = some (.slice iA in_ ic) ∧ W'.cell? ⟨M, i * 5 + 1, none⟩ = some (.int .i64 is1) ∧ W'.cell? ⟨M, i * 5 + 2, none⟩ = some (.slice iA1 in1 ic1) ∧ W'.cell? ⟨M, i * 5 + 3, none⟩ = some (.int .i64 is2) ∧ W'.cell? ⟨M, i * 5 + 4, none⟩ = some (.slice iA2 in2 ic2) ∧
                      W'.cell? ⟨M, r * 5, none⟩ = some (.slice jA jn jc) ∧ W'.cell? ⟨M, r * 5 + 1, none⟩ = some (.int .i64 js1) ∧ W'.cell? ⟨M, r * 5 + 2, none⟩ = some (.slice jA1 jn1 jc1) ∧ W'.cell? ⟨M, r * 5 + 3, none⟩ = some (.int .i64 js2) ∧ W'.cell? ⟨M, r * 5 + 4, none⟩ = some (.slice jA2 jn2 jc2))
                    (first | (with_reducible exact E0.out _ (below_st5 hB4 (Nat.le_refl _) _ _ _ _ _)) | (with_reducible exact E0.out _ (below_new hB4 _)) | (with_reducible exact E0.out _ hB4) | (with_reducible exact E0.out _ hB00) | (with_reducible exact E0.out _ (Below.refl _ _)) | exact E0.out _ (below_new hB00 _))
                    (first
                      | (go_at_call 42; (first | refine (HSB.out _ hB00).mono ?_ | refine (HSB.out _ (below_new hB00 _)).mono ?_); rintro e w4 ⟨⟨rA, rn, rc, r1, C1, k1, l1, r2, C2, k2, l2⟩, rfl, hb4⟩; have hB4 : Below u2.heap.size u2 w4 := (by first | exact ⟨hb4.os, hb4.tape, hb4.output, hb4.size, hb4.block⟩ | exact (below_new hB00 _).trans (hb4.mono (below_new hB00 _).size)); (try (have hk4 : Blk w4 u2.heap.size 43 #[.slice none 0 0, .int .i64 0, .slice none 0 0, .int .i64 0, .slice none 0 0] := blk_run5 (b := u2.drew) hb4; have hlt4 := hk4.lt; have z0 := hk4.cell 0; have z1 := hk4.cell 1; have z2 := hk4.cell 2; have z3 := hk4.cell 3; have z4 := hk4.cell 4; have y0 := hk4.frozen 0; have y1 := hk4.frozen 1; have y2 := hk4.frozen 2; have y3 := hk4.frozen 3; have y4 := hk4.frozen 4))))
                  all_goals
                    go_wp2_with fail
                    go_meet
                    first
                      | exact ⟨rfl, below_st5 hB4 (Nat.le_refl _) _ _ _ _ _⟩
                      | exact ⟨rfl, below_new hB4 _⟩
                obtain ⟨rfl, hb5⟩ := hcut
                clear E0 hB00 HSB
                have hres := Lib.hid (show runE fst m 0 0 [] (rs.map Rd.q) = none by
                  rw [HO3.out.2.1, show m - c = (m - (c + 1)) + 1 by omega]
                  exact runE_fail (by rw [HEL.out, HI1.out.fail (by rw [hX2l.out]; exact hgi) hir (by rw [HXE.out]; rw [HXE.out] at hz0; exact hz0) (by rw [HXE.out]; exact hsub)]; rfl))
                have hbb := Lib.hid (HI1.out.bl.trans (hb5.mono HI1.out.bl.size))
                clear HI1 hb5 hsub
                go_wp2_with fail
                go_ret3
                exact ⟨hbb.out, .inl ⟨hres.out, _, _, rfl⟩⟩
        · have : j = m := by omega
          subst this
          have hes := Lib.hid (show elimS Y r c = some (false, Y) by
            unfold elimS
            rw [hI.out.R.xl, firstNZ_none (fun i hi => hz.out (r + i) (by omega) (by omega))])
          have hI1 := Lib.hid (hI.out.below hbq)
          clear hI hbq hz
          have hfrl := hI1.out.frl
          have hmeq : ((j : Int) == (j : Int)) = true := by simp
          cases fst with
          | true =>
            go_wp2_with (at_builtin; refine appIg rfl (.tmp 47) (.tmp 49) rfl w.heap.size fv fr (c : Int) rfl hI1.out.own rfl (by omega) hI1.out.bl.size ?_; intro fv' w7 hown7 hg7 hat7)
            have hR7 := hI1.out.R.grown (fv' := fv') hI1.out.own (((Below.refl _ _).alloc (Nat.le_refl _) (.cells #[.int .i64 c] 3))) hg7 (by simpa using hat7)
            have hbl7 : Below w.heap.size w w7 := (hI1.out.bl.alloc hI1.out.bl.size _).grown hg7 (by have := hI1.out.bl.size; simp; omega) (fun k hk => (World.ownsRow.lt hI1.out.own k hk).1)
            have hfin := Lib.hid (And.intro hbl7 (And.intro hown7 hR7))
            have hrun := Lib.hid (show runE true j 0 0 [] (rs.map Rd.q) = some (fr ++ [(c : Int)], Y) by
              rw [hI1.out.run, show j - c = (j - (c + 1)) + 1 by omega]
              exact runE_stop hes.out)
            clear hI1 hown7 hR7 hg7 hat7 hbl7
            go_ret3
            exact ⟨hfin.out.1, .inr ⟨_, Y, _, _, hrun.out, rfl, hfin.out.2.1, by rw [List.length_append]; simp; omega, fun _ => ⟨M, cp, rw', rfl, hfin.out.2.2⟩⟩⟩
          | false =>
            go_wp2_with (at_builtin; refine appIg rfl (.tmp 47) (.tmp 49) rfl w.heap.size fv fr (c : Int) rfl hI1.out.own rfl (by omega) hI1.out.bl.size ?_; intro fv' w7 hown7 hg7 hat7)
            have hR7 := hI1.out.R.grown (fv' := fv') hI1.out.own (((Below.refl _ _).alloc (Nat.le_refl _) (.cells #[.int .i64 c] 3))) hg7 (by simpa using hat7)
            have hbl7 : Below w.heap.size w w7 := (hI1.out.bl.alloc hI1.out.bl.size _).grown hg7 (by have := hI1.out.bl.size; simp; omega) (fun k hk => (World.ownsRow.lt hI1.out.own k hk).1)
            have hnx : Hid (ElI false w w7 M j (rs.map Rd.q) fv' (fr ++ [(c : Int)]) rw' Y (c + 1) r) := Lib.hid
              ⟨hR7, hown7, by rw [List.length_append]; simp; omega, by
                rw [hI1.out.run, show j - c = (j - (c + 1)) + 1 by omega]
                exact runE_free hes.out, by omega, hbl7, hI1.out.lo⟩
            clear hI1 hown7 hR7 hg7 hat7 hbl7
            go_roundw
            case rel => exact ⟨c + 1, r, _, rw', Y, by omega, rfl, rfl, hnx⟩
            case measure => simp [intOf]; omega

end Go.Proofs.YtgpmmpajnfbecaaGreat
