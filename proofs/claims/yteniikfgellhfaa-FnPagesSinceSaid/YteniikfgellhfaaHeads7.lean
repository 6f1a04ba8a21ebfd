/- What the program's functions of chapter 6 answer: HeadsValid, HeadOf, and what they call.
   What the program's functions of chapter 6 answer, further: FreshBlock and the block with the least wear.
   What the program's functions of chapter 6 answer, further: blockToAppend, AppendPage. -/
import Derived.Test.YteniikfgellhfaaHeads6
import Derived.Test.YteniikfgellhfaaWearPlain
namespace Go.Proofs.Yteniikfgellhfaa
open Go.ChangeShapes Go.WideShapes Go.ChangeAt Go.RowKit

/-- A number of a block, or none. -/
def isHeadB (n : Nat) (a : Int) : Bool := (a == -1) || hasB n a
/-- Not the same block. -/
def apartB (a b : Int) : Bool := (a != b) || (a == -1)
def apart3 (a b h : Int) : Bool := apartB a b && apartB a h && apartB b h
theorem heads_eq (n : Nat) (a b h : Int) : headsB n a b h = (isHeadB n a && isHeadB n b && isHeadB n h && apart3 a b h) := by
  rw [Bool.eq_iff_iff]
  simp [headsB, inB, pairB, isHeadB, hasB, apart3, apartB]
  omega
end Go.Proofs.Yteniikfgellhfaa
namespace Go.Proofs.Yteniikfgellhfaa
open Go.ChangeShapes Go.WideShapes Go.ChangeAt Go.RowKit

theorem next_count {m : Int} {ps : List Pg} (h : blockB m ps = true) : (nextV m ps == 0) = decide (((cntF ps : Nat) : Int) ≤ 0) := by
  unfold nextV
  rw [if_pos h, Bool.eq_iff_iff]
  by_cases h4 : cntF ps = 4
  · rw [if_pos h4]; simp; omega
  · rw [if_neg h4]; simp
theorem next_wrote {m : Int} {ps : List Pg} (h : blockB m ps = true) : (nextV m ps != 0) = decide (0 < ((cntF ps : Nat) : Int)) := by
  have e := next_count h
  rw [bne, e, Bool.eq_iff_iff]
  simp
  omega
/-- The loop at block k. -/
def WornRun (W : Bool) (w : World) (A : Option Addr) (bs : List Bk) (a b h : Int) (k : Nat) (x : Int) (wr : World) : Prop := k ≤ bs.length ∧ wornTo W bs a b h k = x ∧ FIn w A bs a b h wr
end Go.Proofs.Yteniikfgellhfaa
namespace Go.Proofs.Yteniikfgellhfaa
open Go.ChangeShapes Go.WideShapes Go.ChangeAt Go.RowKit

/-- Which block is appended to. -/
def ToIs (bs : List Bk) (a b h : Int) (j : Nat) (r : Int) : Prop := (∃ (k : Nat) (m : Int) (ps : List Pg), hd a b h j = (k : Int) ∧ (bs.map Bk.is)[k]? = some (m, ps) ∧ 0 ≤ nextV m ps ∧ r = (k : Int)) ∨ (FullHead bs a b h j ∧ r = freshV bs a b h)
theorem ToIs.of {bs cs : List Bk} {a b h : Int} {j : Nat} {r : Int} (H : ToIs bs a b h j r) (hc : cs.map Bk.is = bs.map Bk.is) : ToIs cs a b h j r := by
  unfold ToIs FullHead
  rw [hc, fresh_same hc]
  exact H
theorem hset_same {a b h v : Int} {j : Nat} (hx : hd a b h j = v) : hset a b h j v = (a, b, h) := by
  subst hx
  match j with
  | 0 => rfl
  | 1 => rfl
  | j + 2 => rfl
/-- What of other arguments is returned: no device, no heads, -1. -/
theorem appMade_nil {w wr : World} (h : w.grownBy wr none) {D : Nat} (hw : w.heap.size ≤ D) (u0 u1 u2 : Value) :
    AppMade [] 0 0 0 0 (-1) w (.returned (.tuple #[.slice none 0 0, .agg #[.int .i64 0, .int .i64 0, .int .i64 0], .int .i64 (-1)])) (((wr.setCell ⟨D, 0, none⟩ u0).setCell ⟨D, 1, none⟩ u1).setCell ⟨D, 2, none⟩ u2) :=
  ⟨none, 0, [], rfl, rfl, rfl, ⟨World.ownsRow_nil _ _ _ _, fun b hb => by simp at hb, fun i j b b' a a' _ hi => by simp at hi⟩, grown_put3 h hw u0 u1 u2⟩
end Go.Proofs.Yteniikfgellhfaa
