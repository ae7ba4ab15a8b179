/- Plain facts of the laws on shares. -/
import Derived.Test.YtfipogmndokhkaaUq
namespace Go.Proofs.Ytfipogmndokhkaa
open Go.RowKit

theorem ev_zero (secret seed : Int) (k : Nat) (hk : 1 ≤ k) : ev (cfs secret seed k) 0 = secret := by
  obtain ⟨j, rfl⟩ : ∃ j, k = j + 1 := ⟨k - 1, by omega⟩
  unfold cfs
  rw [List.range_succ_eq_map, List.map_cons, ev, Int.mul_zero, Int.zero_add]
  rfl
theorem cfs_pol (secret seed : Int) (k : Nat) : Pol k (ev (cfs secret seed k)) := by
  have := Pol.ev (cfs secret seed k)
  rwa [cfs_length] at this
theorem shs_mem {cs : List Int} {n : Nat} {d : Int × Int} (h : d ∈ shs cs n) : ∃ i, i < n ∧ d = sh cs i := by
  obtain ⟨i, hi, rfl⟩ := List.mem_map.1 h
  exact ⟨i, List.mem_range.1 hi, rfl⟩
theorem shs_rt (cs : List Int) {n : Nat} (hn : n ≤ 20) : Rt (shs cs n) := fun d hd => by
  obtain ⟨i, hi, rfl⟩ := shs_mem hd
  unfold sh
  simp only
  omega
theorem shs_get (cs : List Int) {n i : Nat} (hi : i < n) : (shs cs n).getD i (0, 0) = sh cs i := by
  unfold shs
  rw [List.getD_eq_getElem?_getD, List.getElem?_map, List.getElem?_range hi]
  rfl
theorem shs_thru (cs : List Int) (n : Nat) : Thru (ev cs) (shs cs n) := Thru.of_mem fun d hd => by
  obtain ⟨i, _, rfl⟩ := shs_mem hd
  exact (Cg.mod _).symm
theorem shs_inj {cs : List Int} {n : Nat} {d e : Int × Int} (hd : d ∈ shs cs n) (he : e ∈ shs cs n) (h : d.1 = e.1) : d = e := by
  obtain ⟨i, _, rfl⟩ := shs_mem hd
  obtain ⟨j, _, rfl⟩ := shs_mem he
  have : i = j := by
    unfold sh at h
    simp only at h
    omega
  rw [this]
theorem nodup_fst {l out : List (Int × Int)} (hinj : ∀ d e, d ∈ l → e ∈ l → d.1 = e.1 → d = e) (hs : ∀ d ∈ out, d ∈ l) (hn : out.Nodup) : (out.map (·.1)).Nodup := by
  unfold List.Nodup at hn ⊢
  rw [List.pairwise_map]
  refine List.Pairwise.imp_of_mem ?_ hn
  intro a b ha hb hab h
  exact hab (hinj a b (hs a ha) (hs b hb) h)
theorem shs_nodup (cs : List Int) (n : Nat) : ((shs cs n).map (·.1)).Nodup := by
  unfold shs
  rw [List.map_map]
  unfold List.Nodup
  rw [List.pairwise_map]
  refine List.Pairwise.imp ?_ (List.nodup_range (n := n))
  intro a b hab h
  unfold sh at h
  simp only [Function.comp] at h
  omega
theorem chs_all (l : List (Int × Int)) (hl : 0 < l.length) (os : List Nat) : (∀ d ∈ chs l os, d ∈ l) ∧ (chs l os).Nodup ∧ (chs l os).length ≤ os.length := by
  have h1 := chs_sub hl os os.length (Nat.le_refl _)
  have h2 := chs_len l os os.length (Nat.le_refl _)
  rw [List.take_length] at h1 h2
  exact ⟨h1.1, h1.2, h2⟩
theorem Thru.sub {f : Int → Int} {l out : List (Int × Int)} (h : Thru f l) (hs : ∀ d ∈ out, d ∈ l) : Thru f out := Thru.of_mem fun d hd => h.mem d (hs d hd)
/-- What joins and fits, if there are enough. -/
theorem fits_iff {f : Int → Int} {out : List (Int × Int)} {k : Nat} {x s : Int} (hf : Pol k f) (ht : Thru f out) (hr : Rt out) (hn : (out.map (·.1)).Nodup) (hk : k ≤ out.length) (h0 : f 0 = s) (hs0 : 0 ≤ s) (hs1 : s < 2147483647) (hx0 : 0 ≤ x) (hx1 : x < 2147483647) :
    OnP ((0, x) :: out) k ↔ x = s := by
  constructor
  · rintro ⟨g, hg, htg⟩
    have h1 : Thru g out := Thru.of_mem fun d hd => htg.mem d (by simp [hd])
    have h2 := poly_eq (apart_of hr.fd hn) hk hf hg (ht.take k) (h1.take k) 0
    have h3 := h2.trans (htg.mem (0, x) (by simp))
    rw [h0] at h3
    exact (h3.eq hs0 hs1 hx0 hx1).symm
  · rintro rfl
    refine ⟨f, hf, Thru.of_mem fun d hd => ?_⟩
    rcases List.mem_cons.1 hd with rfl | hd
    · exact Cg.of_eq h0
    · exact ht.mem d hd
theorem fits_all {out : List (Int × Int)} {k : Nat} {x : Int} (hr : Rt out) (hn : (out.map (·.1)).Nodup) (hk : out.length < k) (hx0 : 0 ≤ x) (hx1 : x < 2147483647) : OnP ((0, x) :: out) k :=
  onP_few (apart_of (fd_cons out hx0 hx1 hr) (nodup_cons out hr hn)) (by simp; omega)

end Go.Proofs.Ytfipogmndokhkaa
