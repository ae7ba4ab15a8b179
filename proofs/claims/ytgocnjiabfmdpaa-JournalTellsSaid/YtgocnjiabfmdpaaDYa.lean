/- The reference's disk as plain lists, and how they read as the plain state. -/
import Derived.Test.YtgocnjiabfmdpaaDP
namespace Go.Proofs.Ytgocnjiabfmdpaa
set_option maxRecDepth 8000

/-- A file of the reference. -/
structure Fl where
  num : Int
  now : List UInt8
  last : List UInt8

/-- The file with the number f: the first one of the list, or an empty one. -/
def getF : List Fl → Int → Fl
  | [], f => ⟨f, [], []⟩
  | x :: l, f => if x.num = f then x else getF l f

theorem getF_cons (x : Fl) (l : List Fl) (f : Int) : getF (x :: l) f = if x.num = f then x else getF l f := rfl

def setF (l : List Fl) (x : Fl) : List Fl := l.filter (fun y => !(y.num == x.num)) ++ [x]

theorem getF_num (l : List Fl) (f : Int) : (getF l f).num = f := by
  induction l with
  | nil => rfl
  | cons x l ih =>
    unfold getF
    split
    · rename_i h; exact h
    · exact ih

theorem getF_snoc (l : List Fl) (x : Fl) (f : Int) : getF (l.filter (fun y => !(y.num == x.num)) ++ [x]) f = if x.num = f then x else getF l f := by
  induction l with
  | nil => rfl
  | cons y l ih =>
    by_cases hy : y.num = x.num
    · rw [List.filter_cons_of_neg (by simp [hy]), ih]
      split
      · rfl
      · rename_i h
        conv => rhs; unfold getF
        rw [if_neg (by rw [hy]; exact h)]
    · rw [List.filter_cons_of_pos (by simp [hy]), List.cons_append]
      conv => lhs; unfold getF
      rw [ih]
      by_cases hf : y.num = f
      · rw [if_pos hf, if_neg (by rw [← hf]; exact fun e => hy e.symm)]
        conv => rhs; unfold getF
        rw [if_pos hf]
      · rw [if_neg hf]
        split
        · rfl
        · conv => rhs; unfold getF
          rw [if_neg hf]

theorem getF_set (l : List Fl) (x : Fl) (f : Int) : getF (setF l x) f = if x.num = f then x else getF l f := getF_snoc l x f

theorem getF_fall (l : List Fl) (f : Int) : getF (l.map (fun x => ⟨x.num, x.last, x.last⟩)) f = ⟨f, (getF l f).last, (getF l f).last⟩ := by
  induction l with
  | nil => rfl
  | cons x l ih =>
    rw [List.map_cons, getF_cons, getF_cons]
    by_cases hx : x.num = f
    · rw [if_pos hx, if_pos (show (⟨x.num, x.last, x.last⟩ : Fl).num = f from hx), hx]
    · rw [if_neg hx, if_neg (show ¬ (⟨x.num, x.last, x.last⟩ : Fl).num = f from hx)]; exact ih

/-- The reference's files read as the plain state's. -/
def Reads (l : List Fl) (s : St) : Prop := ∀ f, (getF l f).now = s.now f ∧ (getF l f).last = s.dur f

theorem Reads.new : Reads [] St.new := fun _ => ⟨rfl, rfl⟩

theorem Reads.set {l : List Fl} {s s' : St} (h : Reads l s) {f : Int} {a b : List UInt8} (hn : s'.now = upd s.now f a) (hd : s'.dur = upd s.dur f b) : Reads (setF l ⟨f, a, b⟩) s' := by
  intro g
  rw [getF_set, hn, hd]
  by_cases hg : f = g
  · subst hg; rw [if_pos rfl, upd_same, upd_same]; exact ⟨rfl, rfl⟩
  · rw [if_neg hg, upd_ne _ _ (fun e => hg e.symm), upd_ne _ _ (fun e => hg e.symm)]; exact h g

theorem Reads.same {l : List Fl} {s s' : St} (h : Reads l s) (hn : s'.now = s.now) (hd : s'.dur = s.dur) : Reads l s' := fun g => by rw [hn, hd]; exact h g

theorem Reads.wrote {l : List Fl} {s : St} (h : Reads l s) (f a : Int) (t : List UInt8) : Reads (setF l ⟨f, putL (getF l f).now a.toNat t, (getF l f).last⟩) (s.wrote f a t) := by
  rw [(h f).1, (h f).2]
  refine h.set (f := f) rfl ?_
  funext g
  unfold upd
  split
  · rename_i e; rw [e]; rfl
  · rfl

theorem Reads.setl {l : List Fl} {s : St} (h : Reads l s) (p : Int × Int) : Reads (setF l ⟨p.1, (getF l p.1).now, putL (getF l p.1).last (64 * p.2).toNat (secOf (getF l p.1).now p.2)⟩) (s.setl p) := by
  rw [(h p.1).1, (h p.1).2]
  refine h.set (f := p.1) ?_ rfl
  funext g
  unfold upd
  split
  · rename_i e; rw [e]; rfl
  · rfl

theorem Reads.fallen {l : List Fl} {s : St} (h : Reads l s) : Reads (l.map (fun x => ⟨x.num, x.last, x.last⟩)) s.fallen := by
  intro f
  rw [getF_fall]
  exact ⟨(h f).2, (h f).2⟩

theorem Reads.synced {l : List Fl} {s : St} (h : Reads l s) (f : Int) : Reads (setF l ⟨f, (getF l f).now, (getF l f).now⟩) (s.synced f) := by
  rw [(h f).1]
  refine h.set (f := f) ?_ rfl
  funext g
  unfold upd
  split
  · rename_i e; rw [e]; rfl
  · rfl

theorem Reads.cut {l : List Fl} {s : St} (h : Reads l s) (f : Int) (n : Nat) : Reads (setF l ⟨f, (getF l f).now.take n, (getF l f).now.take n⟩) (s.cut f n) := by
  rw [(h f).1]
  exact h.set (f := f) rfl rfl

/-- The files of the list have numbers of files, each its own. -/
def FewF (l : List Fl) : Prop := (l.map (·.num)).Nodup ∧ ∀ x ∈ l, isFile x.num = true

theorem FewF.nil : FewF [] := ⟨by simp, by simp⟩

theorem FewF.len {l : List Fl} (h : FewF l) : l.length ≤ 16 := by
  have h1 : ((l.map (·.num)).map Int.toNat).Nodup := by
    refine List.pairwise_map.2 (List.Pairwise.imp_of_mem ?_ h.1)
    intro a b ha hb hne e
    obtain ⟨x, hx, rfl⟩ := List.mem_map.1 ha
    obtain ⟨y, hy, rfl⟩ := List.mem_map.1 hb
    have := isFile_iff.1 (h.2 x hx)
    have := isFile_iff.1 (h.2 y hy)
    exact hne (by omega)
  have h2 := length_le_of_lt 16 _ h1 (fun n hn => by
    obtain ⟨a, ha, rfl⟩ := List.mem_map.1 hn
    obtain ⟨x, hx, rfl⟩ := List.mem_map.1 ha
    have := isFile_iff.1 (h.2 x hx)
    omega)
  simpa using h2

theorem FewF.setF {l : List Fl} (h : FewF l) {x : Fl} (hx : isFile x.num = true) : FewF (setF l x) := by
  unfold Go.Proofs.Ytgocnjiabfmdpaa.setF
  refine ⟨?_, fun y hy => ?_⟩
  · rw [List.map_append]
    refine List.nodup_append.2 ⟨(h.1.sublist ((List.filter_sublist).map _)), by simp, ?_⟩
    intro a ha b hb e
    obtain ⟨y, hy, rfl⟩ := List.mem_map.1 ha
    simp at hb
    have := (List.mem_filter.1 hy).2
    simp at this
    exact this (e.trans hb)
  · rcases List.mem_append.1 hy with hy | hy
    · exact h.2 y (List.mem_filter.1 hy).1
    · simp at hy; subst hy; exact hx

theorem FewF.fall {l : List Fl} (h : FewF l) : FewF (l.map (fun x => ⟨x.num, x.last, x.last⟩)) := by
  refine ⟨?_, fun y hy => ?_⟩
  · rw [List.map_map]; exact h.1
  · obtain ⟨x, hx, rfl⟩ := List.mem_map.1 hy
    exact h.2 x hx

end Go.Proofs.Ytgocnjiabfmdpaa
