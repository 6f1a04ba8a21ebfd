/- The block with the least wear of those with, or without, a written page; the least and the greatest wear of a device, and all of it: what they are. -/
import Derived.Test.YtolpnloghogjjaaGreatZHeads6
namespace Go.Proofs.YtolpnloghogjjaaGreat
open Go.ChangeShapes Go.WideShapes Go.ChangeAt Go.RowKit
set_option linter.unusedVariables false

/-- Block k is better than the best so far; W: those with a written page are asked for, or those without. -/
def wornOk (W : Bool) (bs : List Bk) (a b h best : Int) (k : Nat) : Bool := match bs[k]? with
  | some q => ((nextV q.m q.ps != 0) == W) && !((k : Int) == a) && !((k : Int) == b) && !((k : Int) == h) && (decide (best < 0) || decide (q.m < wearAt bs best))
  | none => false
/-- The best of the first blocks. -/
def wornTo (W : Bool) (bs : List Bk) (a b h : Int) : Nat → Int
  | 0 => -1
  | k + 1 => if wornOk W bs a b h (wornTo W bs a b h k) k then (k : Int) else wornTo W bs a b h k
def wornV (W : Bool) (bs : List Bk) (a b h : Int) : Int := wornTo W bs a b h bs.length
theorem worn_at {W : Bool} {bs : List Bk} {a b h best : Int} {k : Nat} {m : Int} {A : Option Addr} {c : Nat} {ps : List Pg} (hk : bs[k]? = some ⟨m, A, c, ps⟩) :
    wornOk W bs a b h best k = (((nextV m ps != 0) == W) && !((k : Int) == a) && !((k : Int) == b) && !((k : Int) == h) && (decide (best < 0) || decide (m < wearAt bs best))) := by
  simp [wornOk, hk]
theorem worn_yes {W : Bool} {bs : List Bk} {a b h x : Int} {k : Nat} (hx : wornTo W bs a b h k = x) (h1 : wornOk W bs a b h x k = true) : wornTo W bs a b h (k + 1) = (k : Int) := by
  simp only [wornTo, hx, h1, if_true]
theorem worn_no {W : Bool} {bs : List Bk} {a b h x : Int} {k : Nat} (hx : wornTo W bs a b h k = x) (h1 : wornOk W bs a b h x k = false) : wornTo W bs a b h (k + 1) = x := by
  simp only [wornTo, hx, h1, Bool.false_eq_true, if_false]
theorem worn_facts (W : Bool) (bs : List Bk) (a b h : Int) (k : Nat) : wornTo W bs a b h k = -1 ∨ ∃ i : Nat, wornTo W bs a b h k = (i : Int) ∧ i < k := by
  induction k with
  | zero => exact .inl rfl
  | succ k ih =>
    cases h1 : wornOk W bs a b h (wornTo W bs a b h k) k
    · rw [worn_no rfl h1]
      rcases ih with h2 | ⟨i, h2, h3⟩
      · exact .inl h2
      · exact .inr ⟨i, h2, by omega⟩
    · rw [worn_yes rfl h1]
      exact .inr ⟨k, rfl, by omega⟩
/-- Those without a written page: the fresh ones. -/
theorem wornOk_fresh (bs : List Bk) (a b h best : Int) (k : Nat) : wornOk false bs a b h best k = freshOk bs a b h best k := by
  unfold wornOk freshOk
  cases bs[k]? with
  | none => rfl
  | some q =>
    have e : ((nextV q.m q.ps != 0) == false) = (nextV q.m q.ps == 0) := by cases e2 : (nextV q.m q.ps == 0) <;> simp [bne, e2]
    simp only [e]
theorem wornTo_fresh (bs : List Bk) (a b h : Int) (k : Nat) : wornTo false bs a b h k = freshTo bs a b h k := by
  induction k with
  | zero => rfl
  | succ k ih => simp only [wornTo, freshTo, ih, wornOk_fresh]
theorem worn_fresh (bs : List Bk) (a b h : Int) : wornV false bs a b h = freshV bs a b h := wornTo_fresh bs a b h _
end Go.Proofs.YtolpnloghogjjaaGreat
