/- The exact laws' helpers for blocks: szBlock, toBlock, eqBlock. -/
import Derived.Test.YtbhbbfpafonaiaaBlocks8
import Derived.Test.YtbhbbfpafonaiaaHand
namespace Go.Proofs.Ytbhbbfpafonaiaa
open Go.ChangeShapes Go.WideShapes Go.ChangeAt Go.RowKit

theorem cells2' {w : World} {g : Nat} {t : TypeId} {u0 u1 : Value} (h : Blk w g t #[u0, u1]) :
    w.cell? ⟨g, 0, none⟩ = some u0 ∧ w.cell? ⟨g, 1, none⟩ = some u1 ∧ w.frozen? ⟨g, 0, none⟩ = false ∧ w.frozen? ⟨g, 1, none⟩ = false := ⟨h.cell 0, h.cell 1, h.frozen 0, h.frozen 1⟩
theorem Own.ne_lt {w : World} {base g : Nat} {v : Value} {ps : List Pg} (h : Own w base v ps) (hg : g < base) : v.ownBlock ≠ some g := fun e => by
  have := (World.ownsRow.lt h _ e).1
  omega
/-- A number that is not negative. -/
def NotNeg (w : World) (e : Ending) (w' : World) : Prop := ∃ v : Int, e = .returned (.int .i64 v) ∧ 0 ≤ v ∧ w.grownBy w' none
/-- The first k pages taken over, the rest not written. -/
def fill (ps : List Pg) (n k : Nat) : List Pg := ps.take k ++ List.replicate (n - k) pz
theorem fill_zero (ps : List Pg) (n : Nat) : fill ps n 0 = List.replicate n pz := by simp [fill]
theorem fill_end {ps : List Pg} {n : Nat} (h : ps.length = n) : fill ps n n = ps := by subst h; simp [fill]
theorem fill_length {ps : List Pg} {n k : Nat} (h : ps.length = n) (hk : k ≤ n) : (fill ps n k).length = n := by
  simp only [fill, List.length_append, List.length_take, List.length_replicate]; omega
theorem fill_step {ps : List Pg} {n k : Nat} {p : Pg} (h : ps.length = n) (hp : ps[k]? = some p) : (fill ps n k).set k p = fill ps n (k + 1) := by
  have hk : k < ps.length := (List.getElem?_eq_some_iff.1 hp).1
  have e : n - k = (n - (k + 1)) + 1 := by omega
  have ht : (ps.take k).length = k := by rw [List.length_take]; omega
  unfold fill
  rw [e, List.replicate_succ, List.set_append_right _ _ (by omega), ht, Nat.sub_self, List.set_cons_zero, List.take_add_one, hp]
  simp
/-- Pages in memory of the call's own are returned. -/
def RowMade (n : Nat) (ps : List Pg) (w : World) (e : Ending) (w' : World) : Prop := ∃ A c, e = .returned (.slice A n c) ∧ Own w' w.heap.size (.slice A n c) ps ∧ w.grownBy w' none
/-- The loop that takes pages over, at page k. -/
def FillSt (w : World) (ps : List Pg) (n k : Nat) (wr : World) : Prop := k ≤ n ∧ Own wr w.heap.size (.slice (some ⟨w.heap.size, 0, none⟩) n n) (fill ps n k) ∧ w.grownBy wr none
theorem grown_putO' {a w : World} {k o : Nat} (h : a.grownBy w none) (hk : a.heap.size ≤ k) (u0 u1 u2 u3 u4 : Value) :
    a.grownBy (((((w.setCell ⟨k, o, none⟩ u0).setCell ⟨k, o + 1, none⟩ u1).setCell ⟨k, o + 2, none⟩ u2).setCell ⟨k, o + 3, none⟩ u3).setCell ⟨k, o + 4, none⟩ u4) none :=
  grown_put (grown_put (grown_put (grown_put (grown_put h hk u0) hk u1) hk u2) hk u3) hk u4
end Go.Proofs.Ytbhbbfpafonaiaa
