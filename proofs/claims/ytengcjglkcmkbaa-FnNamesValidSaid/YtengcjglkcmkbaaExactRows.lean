/- The exact laws' helpers for blocks: szBlock, toBlock, eqBlock.
   The exact laws' helpers for blocks, further: markBlock and heldBlock. -/
import Derived.Test.YtengcjglkcmkbaaBlocks6
import Derived.Test.YtengcjglkcmkbaaHand
namespace Go.Proofs.Ytengcjglkcmkbaa
open Go.ChangeShapes Go.WideShapes Go.ChangeAt Go.RowKit

theorem cells2' {w : World} {g : Nat} {t : TypeId} {u0 u1 : Value} (h : Blk w g t #[u0, u1]) :
    w.cell? ⟨g, 0, none⟩ = some u0 ∧ w.cell? ⟨g, 1, none⟩ = some u1 ∧ w.frozen? ⟨g, 0, none⟩ = false ∧ w.frozen? ⟨g, 1, none⟩ = false := ⟨h.cell 0, h.cell 1, h.frozen 0, h.frozen 1⟩
/-- A number that is not negative. -/
def NotNeg (w : World) (e : Ending) (w' : World) : Prop := ∃ v : Int, e = .returned (.int .i64 v) ∧ 0 ≤ v ∧ w.grownBy w' none
/-- The first k pages taken over, the rest not written. -/
def fill (ps : List Pg) (n k : Nat) : List Pg := ps.take k ++ List.replicate (n - k) pz
theorem fill_zero (ps : List Pg) (n : Nat) : fill ps n 0 = List.replicate n pz := by simp [fill]
theorem fill_end {ps : List Pg} {n : Nat} (h : ps.length = n) : fill ps n n = ps := by subst h; simp [fill]
theorem fill_length {ps : List Pg} {n k : Nat} (h : ps.length = n) (hk : k ≤ n) : (fill ps n k).length = n := by
  simp only [fill, List.length_append, List.length_take, List.length_replicate]; omega
theorem fill_step {ps : List Pg} {n k : Nat} {p : Pg} (h : ps.length = n) (hp : ps[k]? = some p) : (fill ps n k).set k p = fill ps n (k + 1) := by
  have hk : k < ps.length := (List.getElem?_eq_some_iff.1 hp).1
  have e : n - k = (n - (k + 1)) + 1 := by omega
  have ht : (ps.take k).length = k := by rw [List.length_take]; omega
  unfold fill
  rw [e, List.replicate_succ, List.set_append_right _ _ (by omega), ht, Nat.sub_self, List.set_cons_zero, List.take_add_one, hp]
  simp
theorem grown_putO' {a w : World} {k o : Nat} (h : a.grownBy w none) (hk : a.heap.size ≤ k) (u0 u1 u2 u3 u4 : Value) :
    a.grownBy (((((w.setCell ⟨k, o, none⟩ u0).setCell ⟨k, o + 1, none⟩ u1).setCell ⟨k, o + 2, none⟩ u2).setCell ⟨k, o + 3, none⟩ u3).setCell ⟨k, o + 4, none⟩ u4) none :=
  grown_put (grown_put (grown_put (grown_put (grown_put h hk u0) hk u1) hk u2) hk u3) hk u4
end Go.Proofs.Ytengcjglkcmkbaa
namespace Go.Proofs.Ytengcjglkcmkbaa
open Go.ChangeShapes Go.WideShapes Go.ChangeAt Go.RowKit

/-- The page that a mark writes from number K on; n of them; n of them in front of what was there. -/
def mkP (K : Nat) : Pg := ⟨(K : Int) % 3 == 0, (K : Int) + 1, (K : Int) + 1 + 1, (K : Int) + 1 + 1 + 1, (K : Int) + 1 + 1 + 1 + 1⟩
def marks (k0 n : Nat) : List Pg := (List.range n).map fun j => mkP (k0 + 5 * j)
def markTo (k0 : Nat) (ps : List Pg) (i : Nat) : List Pg := marks k0 i ++ ps.drop i
theorem marks_length (k0 n : Nat) : (marks k0 n).length = n := by simp [marks]
theorem marks_at {k0 n i : Nat} (h : i < n) : (marks k0 n)[i]? = some (mkP (k0 + 5 * i)) := by simp [marks, h]
theorem markTo_length {k0 i : Nat} {ps : List Pg} (h : i ≤ ps.length) : (markTo k0 ps i).length = ps.length := by
  simp only [markTo, List.length_append, marks_length, List.length_drop]; omega
theorem markTo_zero (k0 : Nat) (ps : List Pg) : markTo k0 ps 0 = ps := by simp [markTo, marks]
theorem markTo_end (k0 : Nat) (ps : List Pg) : markTo k0 ps ps.length = marks k0 ps.length := by simp [markTo]
theorem markTo_step {k0 i : Nat} {ps : List Pg} (h : i < ps.length) : (markTo k0 ps i).set i (mkP (k0 + 5 * i)) = markTo k0 ps (i + 1) := by
  unfold markTo
  rw [List.set_append_right _ _ (by rw [marks_length]; omega), marks_length, Nat.sub_self]
  have e : marks k0 (i + 1) = marks k0 i ++ [mkP (k0 + 5 * i)] := by simp [marks, List.range_succ]
  rw [e, List.append_assoc]
  congr 1
  rw [List.drop_eq_getElem_cons h]
  rfl
/-- A box made ahead of the marks. -/
theorem grown_of_alloc {w w' : World} {o : Obj} {row : Option Nat} (h : (w.alloc o).grownBy w' row) : w.grownBy w' row := by
  have k := World.grownBy_alloc w o row
  exact grown_trans k h
theorem grown_own5 {a w : World} {k o : Nat} (h : a.grownBy w (some k)) (u0 u1 u2 u3 u4 : Value) :
    a.grownBy (((((w.setCell ⟨k, o, none⟩ u0).setCell ⟨k, o + 1, none⟩ u1).setCell ⟨k, o + 2, none⟩ u2).setCell ⟨k, o + 3, none⟩ u3).setCell ⟨k, o + 4, none⟩ u4) (some k) :=
  grown_set (grown_set (grown_set (grown_set (grown_set h (.inl rfl) u0) (.inl rfl) u1) (.inl rfl) u2) (.inl rfl) u3) (.inl rfl) u4
end Go.Proofs.Ytengcjglkcmkbaa
