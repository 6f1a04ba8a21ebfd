/- The exact laws' helpers for blocks, further: markBlock and heldBlock. -/
import Derived.Test.YtbhbbfpafonaiaaExactRows
namespace Go.Proofs.Ytbhbbfpafonaiaa
open Go.ChangeShapes Go.WideShapes Go.ChangeAt Go.RowKit

/-- The page that a mark writes from number K on; n of them; n of them in front of what was there. -/
def mkP (K : Nat) : Pg := ⟨(K : Int) % 3 == 0, (K : Int) + 1, (K : Int) + 1 + 1, (K : Int) + 1 + 1 + 1, (K : Int) + 1 + 1 + 1 + 1⟩
def marks (k0 n : Nat) : List Pg := (List.range n).map fun j => mkP (k0 + 5 * j)
def markTo (k0 : Nat) (ps : List Pg) (i : Nat) : List Pg := marks k0 i ++ ps.drop i
theorem marks_length (k0 n : Nat) : (marks k0 n).length = n := by simp [marks]
theorem marks_at {k0 n i : Nat} (h : i < n) : (marks k0 n)[i]? = some (mkP (k0 + 5 * i)) := by simp [marks, h]
theorem markTo_length {k0 i : Nat} {ps : List Pg} (h : i ≤ ps.length) : (markTo k0 ps i).length = ps.length := by
  simp only [markTo, List.length_append, marks_length, List.length_drop]; omega
theorem markTo_zero (k0 : Nat) (ps : List Pg) : markTo k0 ps 0 = ps := by simp [markTo, marks]
theorem markTo_end (k0 : Nat) (ps : List Pg) : markTo k0 ps ps.length = marks k0 ps.length := by simp [markTo]
theorem markTo_step {k0 i : Nat} {ps : List Pg} (h : i < ps.length) : (markTo k0 ps i).set i (mkP (k0 + 5 * i)) = markTo k0 ps (i + 1) := by
  unfold markTo
  rw [List.set_append_right _ _ (by rw [marks_length]; omega), marks_length, Nat.sub_self]
  have e : marks k0 (i + 1) = marks k0 i ++ [mkP (k0 + 5 * i)] := by simp [marks, List.range_succ]
  rw [e, List.append_assoc]
  congr 1
  rw [List.drop_eq_getElem_cons h]
  rfl
/-- A box made ahead of the marks. -/
theorem grown_of_alloc {w w' : World} {o : Obj} {row : Option Nat} (h : (w.alloc o).grownBy w' row) : w.grownBy w' row := by
  have k := World.grownBy_alloc w o row
  exact grown_trans k h
/-- Marked: the pages lie in the same row as before. -/
def Marked (k0 : Nat) (A : Option Addr) (n c base : Nat) (w : World) (e : Ending) (w' : World) : Prop :=
  e = .returned (.int .i64 ((k0 + 5 * n : Nat) : Int)) ∧ Own w' base (.slice A n c) (marks k0 n) ∧ w.grownBy w' (Value.slice A n c).ownBlock
def MarkSt (w : World) (base g n c k0 : Nat) (ps : List Pg) (i K : Nat) (wr : World) : Prop :=
  i ≤ n ∧ K = k0 + 5 * i ∧ Own wr base (.slice (some ⟨g, 0, none⟩) n c) (markTo k0 ps i) ∧ w.grownBy wr (some g)
theorem grown_own5 {a w : World} {k o : Nat} (h : a.grownBy w (some k)) (u0 u1 u2 u3 u4 : Value) :
    a.grownBy (((((w.setCell ⟨k, o, none⟩ u0).setCell ⟨k, o + 1, none⟩ u1).setCell ⟨k, o + 2, none⟩ u2).setCell ⟨k, o + 3, none⟩ u3).setCell ⟨k, o + 4, none⟩ u4) (some k) :=
  grown_set (grown_set (grown_set (grown_set (grown_set h (.inl rfl) u0) (.inl rfl) u1) (.inl rfl) u2) (.inl rfl) u3) (.inl rfl) u4
end Go.Proofs.Ytbhbbfpafonaiaa
