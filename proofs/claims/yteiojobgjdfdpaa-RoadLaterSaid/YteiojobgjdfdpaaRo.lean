/- What Early and Late return, as it is read. -/
import Derived.Test.YteiojobgjdfdpaaQt
import Derived.Test.YteiojobgjdfdpaaQv
namespace Go.Proofs.Yteiojobgjdfdpaa
open Go.RowKit

/-- What Early and Late return, as it is read. -/
def EndL (w : World) (n : Nat) (G : Net) (src : Nat) (t : Int) (e : Ending) (w' : World) : Prop :=
  ∃ gl lab, e = .returned (.tuple #[.slice (some ⟨gl, 0, none⟩) n n, .int .i64 0]) ∧ G.End src t lab ∧ G.Fin src t lab ∧ LbsAt w'.heap.size w' (some ⟨gl, 0, none⟩) lab ∧ lab.length = n ∧ Below w.heap.size w w'
theorem EndP.endL {w w' : World} {n : Nat} {G : Net} {src : Nat} {t : Int} {e : Ending} (h : EndP w G src t e w') (hG : G.ok) (hn : G.n = n) (hs : src < n) (ht : IsT t) : EndL w n G src t e w' := by
  subst hn
  obtain ⟨gl, lab, he, hE, ho, hl, hb⟩ := h
  exact ⟨gl, lab, he, hE, hE.fin hG hs ht, own_lbs ho hl, hl, hb⟩
theorem earlyL (n m c : Nat) (A : Option Addr) (l : List Am) (src : Nat) (t : Int) (b : Bool) (w : World) (hl : l.length = m) (hA : ArcsAt w.heap.size w A l) (hR : RRight n l) (hs : src < n) (ht : IsT t) (hm : m ≤ 100) :
    Calls Try.prog 13 #[.int .i64 n, .slice A m c, .int .i64 src, .int .i64 t, .bool b] w (EndL w n (netE n l b) src t) :=
  (early_ok n m c A l src t b w hl hA hR hs ht hm).mono fun _ _ h => h.endL (netE_ok hR) rfl hs ht
theorem lateL (n m c : Nat) (A : Option Addr) (l : List Am) (src : Nat) (t : Int) (w : World) (hl : l.length = m) (hA : ArcsAt w.heap.size w A l) (hR : RRight n l) (hs : src < n) (ht : IsT t) (hm : m ≤ 100) :
    Calls Try.prog 15 #[.int .i64 n, .slice A m c, .int .i64 src, .int .i64 t] w (EndL w n (netL n l) src t) :=
  (late_ok n m c A l src t w hl hA hR hs ht hm).mono fun _ _ h => h.endL (netL_ok hR) rfl hs ht
theorem LbsAt.get {B : Nat} {w : World} {g n : Nat} {l : List Lb} (h : LbsAt B w (some ⟨g, 0, none⟩) l) (hl : l.length = n) {k : Nat} (hk : k < n) : w.cell? ⟨g, k * 2, none⟩ = some (.int .i64 (lb l k).1) ∧ w.cell? ⟨g, k * 2 + 1, none⟩ = some (.int .i64 (lb l k).2) := by
  obtain ⟨b, off, e, _, h0, h1⟩ := h k (by omega)
  injection e with e
  injection e with e1 e2 _
  subst e1; subst e2
  rw [Nat.zero_add] at h0 h1
  exact ⟨h0, h1⟩

end Go.Proofs.Yteiojobgjdfdpaa
