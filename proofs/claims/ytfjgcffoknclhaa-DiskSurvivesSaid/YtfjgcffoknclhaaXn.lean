/- DiskSurvives: what the plain state says of it. -/
import Derived.Test.YtfjgcffoknclhaaXd
namespace Go.Proofs.Ytfjgcffoknclhaa

/-- What is left of a file after a crash. -/
def St.left (s : St) (keep : List Int) (f : Int) : List UInt8 := (s.setls (chosen keep 0 s.pend)).dur f

theorem read_left {s : St} (hi : Inv s) (hd : s.down = false) {f : Int} (hf : isFile f = true) (keep : List Int) : ((s.crash keep).start).read f 0 16777216 = (s.left keep f, 0) := by
  have hc := (hi.crash keep).cap f
  have hn : (s.crash keep).now f = s.left keep f := by
    unfold St.crash
    rw [if_neg (by rw [hd]; simp)]
    rfl
  rw [hn] at hc
  unfold St.read
  rw [if_neg (by rw [ready_up (s := (s.crash keep).start) rfl hf]; simp), if_neg (by omega), part_all]
  · exact congrArg (·, (0 : Int)) hn
  · show ((s.crash keep).now f).length ≤ _
    rw [hn]; omega

theorem left_nil (s : St) (f : Int) : s.left [] f = s.dur f := by
  unfold St.left
  rw [chosen_none]
  rfl

theorem chosen_one (i : Nat) (l : List (Int × Int)) : chosen [1] i l = l := by
  induction l generalizing i with
  | nil => rfl
  | cons p l ih =>
    have : survives [1] i = true := by simp [survives, Nat.mod_one]
    rw [chosen, if_pos this, ih]

theorem left_one {s : St} (hi : Inv s) (f : Int) : s.left [1] f = s.now f := by
  unfold St.left
  rw [chosen_one]
  obtain ⟨d1, d2, d3, d4⟩ := setls_dur hi hi.pending f
  have hlen : ((s.setls s.pend).dur f).length = (s.now f).length := by
    rcases Nat.lt_or_ge (s.dur f).length (s.now f).length with hlt | hge
    · have h1 := hi.tail f hlt
      have h2 := d4 _ ((hi.mem f _).2 h1)
      omega
    · omega
  refine ext_getD hlen (fun i hl => ?_)
  rw [d1]
  rw [hlen] at hl
  split
  · rfl
  · rename_i hh
    refine hi.eqb f i hl ?_
    cases hse : s.sec f ((i / 64 : Nat) : Int)
    · rfl
    · exact absurd ⟨(hi.mem f _).2 hse, hl⟩ hh

/-- Each sector is left as it was written last, or as it was durable. -/
theorem left_sectors {s : St} (hi : Inv s) (f : Int) (keep : List Int) : (s.dur f).length ≤ (s.left keep f).length ∧ (s.left keep f).length ≤ (s.now f).length ∧
    ∀ n : Nat, (∀ i, i / 64 = n → i < (s.left keep f).length → (s.left keep f).getD i 0 = (s.now f).getD i 0) ∨ (∀ i, i / 64 = n → i < (s.left keep f).length → (s.left keep f).getD i 0 = (s.dur f).getD i 0) := by
  obtain ⟨d1, d2, d3, d4⟩ := setls_dur hi (l := chosen keep 0 s.pend) (fun p hp => hi.pending p (mem_chosen hp)) f
  refine ⟨d2, d3, fun n => ?_⟩
  by_cases hm : (f, (n : Int)) ∈ chosen keep 0 s.pend
  · left
    intro i hn hl
    have hl' : i < (s.now f).length := Nat.lt_of_lt_of_le hl d3
    unfold St.left
    rw [d1, if_pos ⟨by rw [hn]; exact hm, hl'⟩]
  · right
    intro i hn hl
    unfold St.left
    rw [d1, if_neg (fun hh => hm (by rw [← hn]; exact hh.1))]

end Go.Proofs.Ytfjgcffoknclhaa
