/- Walk of the law WireNests. -/
import Derived.Test.YtamjfnpgjcdepaaLb
namespace Go.Proofs.Ytamjfnpgjcdepaa
open Go.RowKit

theorem OwnS.strsZ {w : World} {B : Nat} {v : Value} {l : List (List UInt8)} {Z : List ByteArray} (h : OwnS w B v l) (hZ : l.map ba = Z) : ∃ a cap, v = .slice a Z.length cap ∧ StrsAt w.heap.size w a Z := by
  subst hZ; exact h.strs

theorem nest_len {Z : List ByteArray} (h1 : Z.length ≤ 20) (h2 : ∀ z ∈ Z, z.size ≤ 170000) : (encList (Z.map encStr)).length ≤ 3500000 := by
  have hl := dg_len20 (n := Z.length) (by omega)
  have h := flat_len encStr 170022 Z (fun z hz => by
    have a := h2 z hz
    have b := dg_len20 (n := z.size) (by omega)
    unfold encStr encText
    simp only [List.length_append, List.length_cons, List.length_nil, bts_len]; omega)
  unfold encList
  simp only [List.length_append, List.length_cons, List.length_nil, List.length_map]
  omega

set_option maxHeartbeats 4000000 in
set_option maxRecDepth 100000 in
theorem wireNests_any (a : Option Addr) (ds : List Vd) (cap : Nat) (w : World) (hlen : ds.length ≤ 9223372036854775807) (hok : ∀ d ∈ ds, d.Ok w.heap.size w) (hat : ValsAt w.heap.size w a ds) :
    Calls Try.prog 8 #[.slice a ds.length cap] w fun e w' => e = .returned (.bool true) ∧ Below w.heap.size w w' := by
  go_enter Try.func8, Try.ntmps8
  go_wp2_with fail
  refine (small_any _).mono ?_
  rintro e w1 ⟨rfl, hb1⟩
  have hs1 := hb1.size
  have hok1 : ∀ d ∈ ds, d.Ok w.heap.size w1 := fun d hd => (hok d hd).mono hb1 (Nat.le_refl _)
  have hat1 : ValsAt w.heap.size w1 a ds := fun k hk => by
    obtain ⟨b, off, h1, h2, h3⟩ := hat k hk
    exact ⟨b, off, h1, h2, h3.below hb1 h2⟩
  have HOK := Lib.hid hok; clear hok
  go_wp2_with fail
  refine (few_any w.heap.size a ds cap w1 hs1 hlen hok1 hat1).mono ?_
  rintro e w2 ⟨⟨fb, rfl, hfew⟩, hb2⟩
  have hbT := hb1.trans hb2
  have hs2 := hbT.size
  clear hb1 hb2 hok1 hat1 hs1
  have HBT := Lib.hid hbT
  cases fb with
  | false =>
    go_wp2_with fail
    go_ret
    exact ⟨rfl, HBT.out⟩
  | true =>
    obtain ⟨h20, hfw⟩ := hfew rfl
    clear hfew
    have hfit : ∀ d ∈ ds, d.Fit w.heap.size w := fun d hd => Vd.Fit.of (HOK.out d hd) (hfw d hd)
    have HFIT := Lib.hid hfit
    clear hfw hfit
    go_wp2_with fail
    go_loopw [4, 5] (fun v i wr => ∃ k : Nat, k ≤ ds.length ∧ i = .int .i64 k ∧ OwnS wr w.heap.size v ((ds.take k).map encV) ∧ Below w.heap.size w wr) (fun _ i _ => ds.length - (intOf i).toNat)
    case atStart => exact ⟨0, Nat.zero_le _, rfl, OwnS.nil _ _, hbT⟩
    case round =>
      clear hbT hs2
      obtain ⟨k, hk, rfl, hown, hbr⟩ := hrel
      have hsr := hbr.size
      by_cases hlt : k < ds.length
      · obtain ⟨b, off, rfl, hbB, hc⟩ := hat k hlt
        have hc := hc.below hbr hbB
        have hdf := (HFIT.out ds[k] (List.getElem_mem hlt)).mono hbr hsr
        have hft : (ds.take (k + 1)).map encV = (ds.take k).map encV ++ [encV ds[k]] := by rw [List.take_succ_eq_append_getElem hlt, List.map_append]; rfl
        have hol : ((ds.take k).map encV).length ≤ 10000000 := by rw [List.length_map, List.length_take]; omega
        obtain ⟨d, hd⟩ : ∃ d, ds[k] = d := ⟨_, rfl⟩
        rw [hd] at hc hdf hft
        obtain ⟨F, hF⟩ : ∃ F, (ds.take k).map encV = F := ⟨_, rfl⟩
        rw [hF] at hown hol hft
        have HFT := Lib.hid hft
        clear hd hft hF
        have HDF := Lib.hid hdf
        clear hdf
        obtain ⟨d0, d1, d2, d3, d4⟩ := hc
        go_wp2_with fail
        refine (write_any d _ HDF.out).mono ?_
        rintro e w3 ⟨rfl, hb3⟩
        have hs3 := hb3.size
        have hown3 : OwnS w3 w.heap.size _ F := World.ownsRow.kept (row := none) hown ⟨hb3.os, hb3.tape, hb3.output, hb3.size, fun k hk _ => hb3.block k hk⟩ (by cases Value.ownBlock _ <;> simp)
        have HB3 := Lib.hid (hbr.trans (hb3.mono hsr))
        clear hown hb3 hbr
        go_wp2_with (first
          | (at_builtin; refine app1s rfl (.tmp 22) (.tmp 28) rfl w.heap.size _ F (encV d) rfl hown3 rfl hol (by omega) ?_; intro v4 w4 hown4 hb4))
        go_roundw
        case rel => exact ⟨k + 1, by omega, by go_num, by rw [HFT.out]; exact hown4, HB3.out.trans hb4⟩
        case measure => simp [intOf]; omega
      · have hke : k = ds.length := by omega
        subst hke
        rw [List.take_length] at hown
        obtain ⟨Z, hZ⟩ : ∃ Z, (ds.map encV).map ba = Z := ⟨_, rfl⟩
        obtain ⟨az, pz, rfl, hiz⟩ := hown.strsZ hZ
        have hzl : Z.length = ds.length := by rw [← hZ, List.length_map, List.length_map]
        have hzs : ∀ z ∈ Z, z.size ≤ 170000 := by
          intro z hz
          rw [← hZ] at hz
          obtain ⟨y, hy, rfl⟩ := List.mem_map.1 hz
          obtain ⟨d, hd, rfl⟩ := List.mem_map.1 hy
          rw [ba_size]; exact encV_len (HFIT.out d hd)
        have hzat : ∀ k (h : k < ds.length), Z.getD k ByteArray.empty = ba (encV ds[k]) := by
          intro k h
          rw [← hZ, List.getD_eq_getElem?_getD, List.map_map, List.getElem?_map, List.getElem?_eq_getElem h]; rfl
        have hz20 : Z.length ≤ 20 := by omega
        have hX := nest_len hz20 hzs
        have HIZ := Lib.hid hiz
        have HZS := Lib.hid hzs
        have HZL := Lib.hid hzl
        have HZAT := Lib.hid hzat
        clear hiz hzs hzl hzat hZ hown
        go_wp2_with fail
        refine (wTexts_any az Z pz _ (by omega) (fun z hz => Nat.le_trans (HZS.out z hz) (by omega)) HIZ.out).mono ?_
        rintro e w3 ⟨rfl, hb3⟩
        have hb3' := hbr.trans (hb3.mono hsr)
        have hs3 := hb3'.size
        clear hb3 hbr
        obtain ⟨X, hXX⟩ : ∃ X, ba (encList (Z.map encStr)) = X := ⟨_, rfl⟩
        have hXs : X.size ≤ 3500000 := by rw [← hXX, ba_size]; exact hX
        rw [hXX]
        have HXX := Lib.hid hXX
        clear hXX hX
        go_wp2_with fail
        refine (wText_any X _ (by omega)).mono ?_
        rintro e w4 ⟨rfl, hb4⟩
        have hb4' := hb3'.trans (hb4.mono hs3)
        have hs4 := hb4'.size
        clear hb4 hb3'
        go_wp2_with fail
        refine (open_any _ _).mono ?_
        rintro e w5 ⟨rfl, hr5, hb5⟩
        have hb5' := hb4'.trans (hb5.mono hs4)
        have hs5 := hb5'.size
        obtain ⟨ob, hob⟩ : ∃ ob, w4.heap.size = ob := ⟨_, rfl⟩
        rw [hob] at hr5 hs4 ⊢
        clear hob hb5 hb4'
        have htx : textP (bts (ba (encStr X))) = some (bts X, []) := by
          have := textP_enc (s := bts X) (by rw [bts_len]; omega) []
          rw [List.append_nil] at this; exact this
        have hel : (ba (encStr X)).size ≤ 9223372036854775807 := by
          rw [ba_size]
          have b := dg_len20 (n := X.size) (by omega)
          unfold encStr encText
          simp only [List.length_append, List.length_cons, List.length_nil, bts_len]; omega
        have HTX := Lib.hid htx
        have HEL := Lib.hid hel
        have HR5 := Lib.hid hr5
        clear htx hel hr5
        go_wp2_with fail
        refine (text_some ob _ _ _ HR5.out HEL.out _ _ HTX.out).mono ?_
        rw [ba_bts]
        rintro e w6 ⟨rfl, hr6, hk6⟩
        have hb6 := hb5'.trans (hk6.below hs4 hs5)
        have hs6 := hb6.size
        have hob6 := hr6.lt
        clear hk6 hb5'
        go_wp2_with fail
        refine (open_any _ _).mono ?_
        rintro e w7 ⟨rfl, hr7, hb7⟩
        have hr6' := Below.rd hb7 hr6
        have hb7' := hb6.trans (hb7.mono hs6)
        have hs7 := hb7'.size
        obtain ⟨ib, hib⟩ : ∃ ib, w6.heap.size = ib := ⟨_, rfl⟩
        rw [hib] at hr7 hs6 hob6 ⊢
        have hne : ob ≠ ib := by omega
        clear hib hb7 hb6 hr6
        have hr7' : Rd w7 ib (ba (encList (Z.map encStr) ++ [])) false := by rw [List.append_nil, HXX.out]; exact hr7
        have HR7 := Lib.hid hr7'
        clear hr7 hr7'
        have u1 : (ba []).toList = [] := ByteArray.toList_eq _
        have u2 : (ba []).toList.isEmpty = true := by rw [u1]; rfl
        go_wp2_with fail
        refine (done_any ob _ _ _ hr6').mono ?_
        rintro e w8 ⟨rfl, rfl⟩
        have hnl : (encList (Z.map encStr) ++ []).length ≤ 10000000 := by
          rw [List.append_nil]
          exact Nat.le_trans (nest_len hz20 HZS.out) (by omega)
        have HNL := Lib.hid hnl
        clear hnl
        go_wp2_with fail
        refine (texts_enc ib Z (fun z hz => Nat.le_trans (HZS.out z hz) (by omega)) (by omega) [] _ HR7.out HNL.out).mono ?_
        rintro e w9 ⟨ag, pg, rfl, hig, hr9, hk9⟩
        have hb9 := hb7'.trans (hk9.below hs6 hs7)
        have hs9 := hb9.size
        have HIG := Lib.hid hig
        clear hk9 hb7' hig
        have b0 : ((Z.length : Int) != (ds.length : Int)) = false := by rw [HZL.out]; simp
        go_wp2_with fail
        refine (done_any ib _ _ _ hr9).mono ?_
        rintro e w10 ⟨rfl, rfl⟩
        go_wp2_with fail
        go_loopw [9, 10] (fun i _ wq => ∃ k : Nat, k ≤ ds.length ∧ i = .int .i64 k ∧ Below w9.heap.size w9 wq) (fun i _ _ => ds.length - (intOf i).toNat)
        case atStart => exact ⟨0, Nat.zero_le _, rfl, Below.refl _ _⟩
        case round =>
          obtain ⟨k, hk, rfl, hbq⟩ := hrel
          have hsq := hbq.size
          have hbw := hb9.trans (hbq.mono hs9)
          by_cases hlt : k < ds.length
          · obtain ⟨b, off, rfl, hbB, hc⟩ := hat k hlt
            have hAT : ∀ W, Below w.heap.size w W → (ds[k]).At W b (off + k * 5) := fun W h => hc.below h hbB
            have hdf : ∀ W, Below w.heap.size w W → (ds[k]).Fit w.heap.size W := fun W h => (HFIT.out ds[k] (List.getElem_mem hlt)).mono h (Nat.le_refl _)
            have hzk := HZAT.out k hlt
            obtain ⟨b2, off2, ha2, hbB2, hc2⟩ := HIG.out k (by rw [HZL.out]; exact hlt)
            have hcz := (hbq.cell (p := ⟨b2, off2 + k, none⟩) hbB2).trans hc2
            rw [hzk] at hcz
            obtain ⟨d, hd⟩ : ∃ d, ds[k] = d := ⟨_, rfl⟩
            rw [hd] at hAT hdf hcz
            have HAT := Lib.hid hAT
            have HDF := Lib.hid hdf
            clear hAT hdf hzk hc hc2 hd
            subst ha2
            have hzlt : (k : Int) < Z.length := by rw [HZL.out]; omega
            have hzlt' : k < Z.length := by omega
            have hrs : (ba (encV d)) = ba (encV d ++ []) := by rw [List.append_nil]
            have HRS := Lib.hid hrs
            have hel := encV_len (HDF.out _ hbw)
            clear hrs
            go_wp2_with fail
            refine (open_any _ _).mono ?_
            rintro e w10 ⟨rfl, hr10, hb10⟩
            have hbw10 := hbw.trans (hb10.mono hbw.size)
            have hb10' := hbq.trans (hb10.mono hsq)
            have hs10 := hb10'.size
            have hr10' := HRS.out ▸ hr10
            have HR10 := Lib.hid hr10'
            obtain ⟨d0, d1, d2, d3, d4⟩ := HAT.out _ hbw10
            have hBk : w.heap.size ≤ wr.heap.size := hbw.size
            have HF10 := Lib.hid (HDF.out _ hbw10)
            have HELN : Hid ((encV d ++ []).length ≤ 10000000) := Lib.hid (by rw [List.append_nil]; omega)
            clear hr10 hr10' hb10 hel
            go_wp2_with fail
            refine (equal_any d w.heap.size wr.heap.size hBk [] _ HF10.out HR10.out HELN.out).mono ?_
            rintro e w11 ⟨rfl, hr11, hk11⟩
            have hb11 := hb10'.trans (hk11.below hsq hs10)
            have HB11 := Lib.hid hb11
            clear hb11 hk11
            go_wp2_with fail
            refine (done_any _ _ _ _ hr11).mono ?_
            rintro e w12 ⟨rfl, rfl⟩
            clear hr11
            go_wp2_with fail
            go_roundw
            case rel => exact ⟨k + 1, by omega, by go_num, HB11.out⟩
            case measure => simp [intOf]; omega
          · have HBW := Lib.hid hbw
            go_wp2_with fail
            go_ret
            exact ⟨rfl, HBW.out⟩

end Go.Proofs.Ytamjfnpgjcdepaa
