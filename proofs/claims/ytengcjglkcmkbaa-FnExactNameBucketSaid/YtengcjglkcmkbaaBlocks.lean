/- What the functions of chapter 4 answer, of the program and of the model, for every block. -/
import Derived.Test.YtengcjglkcmkbaaRows
import Derived.Test.YtengcjglkcmkbaaBits
import Derived.Test.YtengcjglkcmkbaaDraw
import Derived.Test.YtengcjglkcmkbaaPages
import Derived.Test.YtengcjglkcmkbaaRows5
import Derived.Test.YtengcjglkcmkbaaDrawPages
import Derived.Deep.RegionHeld3
import Derived.Deep.DeepCutAuto
import Derived.Outline
namespace Go.Proofs.Ytengcjglkcmkbaa
open Go.ChangeShapes Go.WideShapes Go.ChangeAt Go.RowKit

/-- Page k is valid, and not written after one that is not. -/
def okAt (ps : List Pg) (k : Nat) : Bool := pgB (ps.getD k pz) && (decide (k = 0) || !(ps.getD k pz).f || (ps.getD (k - 1) pz).f)
def ordB (ps : List Pg) : Bool := (List.range ps.length).all (okAt ps)
def blockB (wear : Int) (ps : List Pg) : Bool := inB wear 0 100 && decide (ps.length = 4) && ordB ps
theorem ord_no {ps : List Pg} {k : Nat} (hk : k < ps.length) (h : okAt ps k = false) : ordB ps = false := by
  unfold ordB
  rw [List.all_eq_false]
  exact ⟨k, by simpa using hk, by simp [h]⟩
theorem ord_yes {ps : List Pg} (h : ∀ j, j < ps.length → okAt ps j = true) : ordB ps = true := by
  unfold ordB
  rw [List.all_eq_true]
  exact fun j hj => h j (by simpa using hj)
theorem okAt_of {ps : List Pg} {k : Nat} {p : Pg} (h : ps[k]? = some p) : okAt ps k = (pgB p && (decide (k = 0) || !p.f || (ps.getD (k - 1) pz).f)) := by
  unfold okAt
  rw [List.getD_eq_getElem?_getD, h]
  rfl
theorem okAt_zero {ps : List Pg} {p : Pg} (h : ps[0]? = some p) : okAt ps 0 = pgB p := by rw [okAt_of h]; simp
theorem okAt_succ {ps : List Pg} {j : Nat} {p q : Pg} (h : ps[j + 1]? = some p) (h' : ps[j]? = some q) : okAt ps (j + 1) = (pgB p && (!p.f || q.f)) := by
  rw [okAt_of h, Nat.add_sub_cancel, List.getD_eq_getElem?_getD, h']; simp
theorem ok_step {ps : List Pg} {k : Nat} (h : ∀ j, j < k → okAt ps j = true) (hk : okAt ps k = true) : ∀ j, j < k + 1 → okAt ps j = true := fun j hj => by
  rcases Nat.lt_or_ge j k with h1 | h1
  · exact h j h1
  · obtain rfl : j = k := by omega
    exact hk
theorem getD_at {ps : List Pg} {k : Nat} (h : k < ps.length) : ∃ p, ps[k]? = some p := ⟨_, List.getElem?_eq_getElem h⟩

/-- The loop over the pages, at page k. -/
def OrdRel (w : World) (ps : List Pg) (k : Nat) (wr : World) : Prop := k ≤ ps.length ∧ (∀ j, j < k → okAt ps j = true) ∧ w.grownBy wr none

end Go.Proofs.Ytengcjglkcmkbaa
