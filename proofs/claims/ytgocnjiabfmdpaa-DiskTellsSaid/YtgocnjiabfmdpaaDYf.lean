/- What is no file stays empty. -/
import Derived.Test.YtgocnjiabfmdpaaDXh
namespace Go.Proofs.Ytgocnjiabfmdpaa
set_option maxRecDepth 8000

theorem not_file {s : St} {f g : Int} (hf : isFile f = false) (hr : ¬ s.ready g ≠ 0) : g ≠ f := by
  intro e
  have := (ready_nil (s := s) (f := g) (by omega)).2
  rw [e, hf] at this; cases this

theorem Safe.wrAny {f : Int} {x : List UInt8} {s : St} (h : Safe f x s) (hf : isFile f = false) (g a : Int) (t : List UInt8) : Safe f x (s.wr g a t).1 := by
  by_cases hr : s.ready g ≠ 0
  · unfold St.wr
    rw [if_pos hr]
    exact h
  · exact h.wr (not_file hf hr) a t

theorem Safe.any {f : Int} {x : List UInt8} {s : St} (h : Safe f x s) (hi : Inv s) (hf : isFile f = false) (a : Ac) : Safe f x (s.act a).1 := by
  unfold St.act
  split
  · unfold St.sync
    split
    · exact h.count.crash hi.count _
    split
    · exact h.count
    rename_i hr
    have hg := not_file hf hr
    split
    · exact ⟨h.count.now, h.count.dur, h.count.sec⟩
    · exact Safe.ofForget (s := { s.count with dur := upd s.count.dur a.f (s.count.now a.f) }) ⟨h.count.now, (upd_ne _ _ (fun e => hg e.symm)).trans h.count.dur, h.count.sec⟩ a.f
  split
  · unfold St.trunc
    split
    · exact h.count.crash hi.count _
    split
    · exact h.count
    rename_i hr
    have hg := not_file hf hr
    split
    · exact h.count
    · exact Safe.ofForget (s := { s.count with now := upd s.count.now a.f ((s.count.now a.f).take a.n.toNat), dur := upd s.count.dur a.f ((s.count.now a.f).take a.n.toNat) })
        ⟨(upd_ne _ _ (fun e => hg e.symm)).trans h.count.now, (upd_ne _ _ (fun e => hg e.symm)).trans h.count.dur, h.count.sec⟩ a.f
  split
  · exact ⟨h.now, h.dur, h.sec⟩
  split
  · exact ⟨h.now, h.dur, h.sec⟩
  split
  · exact h.crash hi _
  split
  · exact ⟨h.now, h.dur, h.sec⟩
  · unfold St.write
    split
    · exact (h.count.wrAny hf _ _ _).crash (hi.count.wr _ _ _) _
    · exact h.count.wrAny hf _ _ _

theorem safe_new (f : Int) : Safe f [] St.new := ⟨rfl, rfl, fun _ => rfl⟩

/-- What the program says of a file's size is the length of what is in it, also where there is no file. -/
theorem size_any_number {s : St} {f : Int} (h : isFile f = false → Safe f [] s) : s.size f = (s.now f).length := by
  unfold St.size
  split
  · rfl
  · rename_i hf
    rw [(h (by simpa using hf)).now]; rfl

end Go.Proofs.Ytgocnjiabfmdpaa
