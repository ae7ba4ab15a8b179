/- Walk of the law WireBack. -/
import Derived.Test.YtamjfnpgjcdepaaVe
namespace Go.Proofs.Ytamjfnpgjcdepaa
open Go.RowKit

theorem encV_len {d : Vd} {B : Nat} {w : World} (h : d.Fit B w) : (encV d).length ≤ 170000 := by
  have hl := dg_len20 (n := d.L.length) (by have := h.l; omega)
  have ht := dg_len20 (n := d.T.length) (by have := h.t; omega)
  have hfl := flat_len encInt 22 d.L (fun x hx => encInt_len (h.ls x hx))
  have hft := flat_len encStr 422 d.T (fun x hx => by
    have h1 := h.ts x hx
    have h2 := dg_len20 (n := x.size) (by omega)
    unfold encStr encText
    simp only [List.length_append, List.length_cons, List.length_nil, bts_len]; omega)
  have h1 := h.l
  have h2 := h.t
  have h3 := h.s
  have h4 := dg_len20 (n := d.S.size) (by omega)
  have h5 := encInt_len h.n
  have h6 := encInt_len (numberP_i64 h.n)
  unfold encV
  split
  · omega
  · split
    · omega
    · split
      · unfold encStr encText; simp only [List.length_append, List.length_cons, List.length_nil, bts_len]; omega
      · split
        · unfold encList; simp only [List.length_append, List.length_cons, List.length_nil, List.length_map]; omega
        · unfold encList; simp only [List.length_append, List.length_cons, List.length_nil, List.length_map]; omega

theorem isEmpty_cases (s : ByteArray) : (s.toList.isEmpty = true ∧ s.toList = [] ∧ s.size = 0) ∨ (s.toList.isEmpty = false ∧ ¬ s.toList = [] ∧ 0 < s.size) := by
  have h1 := bts_len s
  rw [ByteArray.toList_eq]
  unfold bts at h1
  cases hh : s.data.toList with
  | nil => rw [hh] at h1; exact .inl ⟨rfl, rfl, by simpa using h1.symm⟩
  | cons a b => rw [hh] at h1; refine .inr ⟨rfl, by simp, by simp at h1; omega⟩

def flatV (ds : List Vd) : List UInt8 := (ds.map encV).flatten
theorem flatV_take (ds : List Vd) (k : Nat) (h : k < ds.length) : flatV (ds.take (k + 1)) = flatV (ds.take k) ++ encV ds[k] := flat_take encV ds k h
theorem flatV_drop (ds : List Vd) (k : Nat) (h : k < ds.length) : flatV (ds.drop k) = encV ds[k] ++ flatV (ds.drop (k + 1)) := by
  unfold flatV
  rw [List.drop_eq_getElem_cons h, List.map_cons, List.flatten_cons]

theorem flatV_len {ds : List Vd} {B : Nat} {w : World} (hl : ds.length ≤ 20) (h : ∀ d ∈ ds, d.Fit B w) : (flatV ds).length ≤ 3400000 := by
  have := flat_len encV 170000 ds (fun d hd => encV_len (h d hd))
  unfold flatV
  omega

set_option maxHeartbeats 4000000 in
set_option maxRecDepth 100000 in
theorem wireBack_any (a : Option Addr) (ds : List Vd) (cap : Nat) (tail : ByteArray) (w : World) (hlen : ds.length ≤ 9223372036854775807) (htl : tail.size ≤ 9223372036854775807) (hok : ∀ d ∈ ds, d.Ok w.heap.size w) (hat : ValsAt w.heap.size w a ds) :
    Calls Try.prog 5 #[.slice a ds.length cap, .string tail] w fun e w' => e = .returned (.bool true) ∧ Below w.heap.size w w' := by
  go_enter Try.func5, Try.ntmps5
  go_wp2_with fail
  refine (small_any _).mono ?_
  rintro e w1 ⟨rfl, hb1⟩
  have hs1 := hb1.size
  have hok1 : ∀ d ∈ ds, d.Ok w.heap.size w1 := fun d hd => (hok d hd).mono hb1 (Nat.le_refl _)
  have hat1 : ValsAt w.heap.size w1 a ds := fun k hk => by
    obtain ⟨b, off, h1, h2, h3⟩ := hat k hk
    exact ⟨b, off, h1, h2, h3.below hb1 h2⟩
  have HOK := Lib.hid hok; clear hok
  go_wp2_with fail
  refine (few_any w.heap.size a ds cap w1 hs1 hlen hok1 hat1).mono ?_
  rintro e w2 ⟨⟨fb, rfl, hfew⟩, hb2⟩
  have hbT := hb1.trans hb2
  have hs2 := hbT.size
  clear hb1 hb2 hok1 hat1 hs1
  have HBT := Lib.hid hbT
  cases fb with
  | false =>
    go_wp2_with fail
    go_ret
    exact ⟨rfl, HBT.out⟩
  | true =>
    obtain ⟨h20, hfw⟩ := hfew rfl
    clear hfew
    by_cases ht4 : 400 < tail.size
    · go_wp2_with fail
      go_ret
      exact ⟨rfl, HBT.out⟩
    · have hfit : ∀ d ∈ ds, d.Fit w.heap.size w := fun d hd => Vd.Fit.of (HOK.out d hd) (hfw d hd)
      have HFIT := Lib.hid hfit
      clear hfw hfit
      go_wp2_with fail
      go_loopw [6, 7] (fun s i wr => ∃ k : Nat, k ≤ ds.length ∧ i = .int .i64 k ∧ s = .string (ba (flatV (ds.take k))) ∧ Below w.heap.size w wr) (fun _ i _ => ds.length - (intOf i).toNat)
      case atStart => exact ⟨0, Nat.zero_le _, rfl, rfl, hbT⟩
      case round =>
        clear hbT hs2
        obtain ⟨k, hk, rfl, rfl, hbr⟩ := hrel
        have hsr := hbr.size
        have hflen : (ba (flatV (ds.take k))).size ≤ 3400000 := by
          rw [ba_size]
          exact flatV_len (by rw [List.length_take]; omega) (fun d hd => HFIT.out d (List.mem_of_mem_take hd))
        by_cases hlt : k < ds.length
        · obtain ⟨b, off, rfl, hbB, hc⟩ := hat k hlt
          have hc := hc.below hbr hbB
          have hdf := (HFIT.out ds[k] (List.getElem_mem hlt)).mono hbr hsr
          have hft := flatV_take ds k hlt
          obtain ⟨d, hd⟩ : ∃ d, ds[k] = d := ⟨_, rfl⟩
          rw [hd] at hc hdf hft
          have HFT := Lib.hid hft
          clear hd hft
          have hel := encV_len hdf
          have hes : (ba (encV d)).size ≤ 170000 := by rw [ba_size]; exact hel
          obtain ⟨F, hF⟩ : ∃ F, flatV (ds.take k) = F := ⟨_, rfl⟩
          rw [hF] at hflen ⊢
          have HFF := Lib.hid hF
          clear hF hel
          have HDF := Lib.hid hdf
          clear hdf
          obtain ⟨d0, d1, d2, d3, d4⟩ := hc
          go_wp2_with fail
          refine (write_any d _ HDF.out).mono ?_
          rintro e w3 ⟨rfl, hb3⟩
          go_wp2_with fail
          go_roundw
          case rel => exact ⟨k + 1, by omega, by go_num, by rw [HFT.out, HFF.out, ba_append], hbr.trans (hb3.mono hsr)⟩
          case measure => simp [intOf]; omega
        · have hke : k = ds.length := by omega
          subst hke
          rw [List.take_length] at hflen ⊢
          go_wp2_with fail
          refine (open_any _ _).mono ?_
          rintro e w3 ⟨rfl, hr3, hb3⟩
          obtain ⟨rb, hrb⟩ : ∃ rb, wr.heap.size = rb := ⟨_, rfl⟩
          have hrbB : w.heap.size ≤ rb := by omega
          have hbT3 := hbr.trans (hb3.mono hsr)
          have hs3 : w.heap.size ≤ w3.heap.size := hbT3.size
          rw [hrb] at hr3 ⊢
          clear hrb hb3
          have hr3' : Rd w3 rb (ba (flatV (ds.drop 0) ++ bts tail)) false := by
            rw [← ba_append, ba_bts]; exact hr3
          have HR3 := Lib.hid hr3'
          clear hr3 hr3'
          go_wp2_with fail
          go_loopw [9] (fun i wq => ∃ k : Nat, k ≤ ds.length ∧ i = .int .i64 k ∧ Rd wq rb (ba (flatV (ds.drop k) ++ bts tail)) false ∧ Below w.heap.size w wq) (fun i _ => ds.length - (intOf i).toNat)
          case atStart => exact ⟨0, Nat.zero_le _, rfl, HR3.out, hbT3⟩
          case round =>
            clear hbT3 hs3 hbr hsr
            obtain ⟨k, hk, rfl, hrq, hbq⟩ := hrel
            have hsq := hbq.size
            by_cases hlt : k < ds.length
            · obtain ⟨b, off, rfl, hbB, hc⟩ := hat k hlt
              have hc := hc.below hbq hbB
              have hdf := (HFIT.out ds[k] (List.getElem_mem hlt)).mono hbq (Nat.le_refl _)
              have hfd := flatV_drop ds k hlt
              have hfl := flatV_len (ds := ds.drop (k + 1)) (by rw [List.length_drop]; omega) (fun d hd => HFIT.out d (List.mem_of_mem_drop hd))
              obtain ⟨d, hd⟩ : ∃ d, ds[k] = d := ⟨_, rfl⟩
              rw [hd] at hc hdf hfd
              rw [hfd, List.append_assoc] at hrq
              clear hd hfd
              have hel := encV_len hdf
              have htb := bts_len tail
              have hsum : (encV d ++ (flatV (ds.drop (k + 1)) ++ bts tail)).length ≤ 10000000 := by rw [List.length_append, List.length_append]; omega
              clear htb hel hfl
              have HDF := Lib.hid hdf
              have HRQ := Lib.hid hrq
              have HSUM := Lib.hid hsum
              clear hdf hrq hsum
              obtain ⟨d0, d1, d2, d3, d4⟩ := hc
              go_wp2_with fail
              refine (equal_any d w.heap.size rb hrbB _ _ HDF.out HRQ.out HSUM.out).mono ?_
              rintro e w4 ⟨rfl, hr4, hk4⟩
              have HR4 := Lib.hid hr4
              clear hr4
              go_wp2_with fail
              go_roundw
              case rel => exact ⟨k + 1, by omega, by go_num, HR4.out, hbq.trans (hk4.below hrbB hsq)⟩
              case measure => simp [intOf]; omega
            · have hke : k = ds.length := by omega
              subst hke
              have hrq' : Rd wr rb tail false := by
                have e : flatV (ds.drop ds.length) ++ bts tail = bts tail := by rw [List.drop_length]; rfl
                rw [e, ba_bts] at hrq; exact hrq
              clear hrq
              have HBQ := Lib.hid hbq
              clear hbq
              have HSQ := Lib.hid hsq
              clear hsq
              rcases isEmpty_cases tail with ⟨t1, t2, t3⟩ | ⟨t1, t2, t3⟩
              all_goals
                clear t3
                go_wp2_with fail
                refine (left_any rb _ _ _ hrq').mono ?_
                rintro e w4 ⟨rfl, rfl⟩
                go_wp2_with fail
                refine (done_any rb _ _ _ hrq').mono ?_
                rintro e w4 ⟨rfl, rfl⟩
                go_wp2_with fail
                refine (rest_any rb _ _ _ hrq').mono ?_
                rintro e w4 ⟨rfl, hr4, hk4⟩
                go_wp2_with fail
                refine (done_any rb _ _ _ hr4).mono ?_
                rintro e w5 ⟨rfl, rfl⟩
                have u1 : (ba []).toList = [] := ByteArray.toList_eq _
                go_wp2_with fail
                refine (left_any rb _ _ _ hr4).mono ?_
                rw [show (ba []).size = 0 from rfl]
                rintro e w5 ⟨rfl, rfl⟩
                go_wp2_with fail
                go_ret
                exact ⟨rfl, HBQ.out.trans (hk4.below hrbB HSQ.out)⟩

end Go.Proofs.Ytamjfnpgjcdepaa
