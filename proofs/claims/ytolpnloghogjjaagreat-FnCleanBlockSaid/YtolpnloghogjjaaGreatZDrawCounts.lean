/- What the model draws for chapter 12: a table; a device and a table. -/
import Derived.Test.YtolpnloghogjjaaGreatZDrawBoth
import Derived.Test.YtolpnloghogjjaaGreatZFileFacts
namespace Go.Proofs.YtolpnloghogjjaaGreat
open Go.ChangeShapes Go.WideShapes Go.ChangeAt Go.RowKit
set_option linter.unusedVariables false
set_option linter.unusedSimpArgs false

/-- A device and a table, in memory of their own. -/
def Pair12 (w : World) (D : Option Addr) (nd : Nat) (bs : List Bk) (A : Option Addr) (n : Nat) (ls : List Li) (w' : World) : Prop :=
  (bs.length = nd ∧ nd ≤ 13 ∧ ∀ q, q ∈ bs → q.ps.length ≤ 4) ∧ (ls.length = n ∧ n ≤ 8 ∧ ∀ l, l ∈ ls → l.xs.length ≤ 6) ∧ DZ w.heap.size w'.heap.size D bs w' ∧ TRow w' w'.heap.size A ls ∧ TFar w.heap.size A ls ∧ Below w.heap.size w w'
/-- The result's cell, made ahead of all, is written. -/
theorem Pair12.put {w w' : World} {D A : Option Addr} {nd n : Nat} {bs : List Bk} {ls : List Li} {o : Obj} (h : Pair12 (w.alloc o) D nd bs A n ls w') (u : Value) : Pair12 w D nd bs A n ls (w'.setCell ⟨w.heap.size, 0, none⟩ u) := by
  obtain ⟨h1, h2, h3, h4, h5, h6⟩ := h
  simp only [size_alloc1] at h3 h5 h6
  have hs : (w'.setCell ⟨w.heap.size, 0, none⟩ u).heap.size = w'.heap.size := by simp [World.setCell]
  have h7 := h3.put (p := ⟨w.heap.size, 0, none⟩) (.inl (by dsimp only; omega)) u
  refine ⟨h1, h2, ?_, ?_, h5.more (by omega), ?_⟩
  · rw [hs]
    exact ⟨h7.1, fun ad e => by have := h7.2.1 ad e; omega, fun q ad hq e => by have := h7.2.2 q ad hq e; omega⟩
  · rw [hs]
    exact h4.putLo h5 (p := ⟨w.heap.size, 0, none⟩) (by dsimp only; omega) u
  · exact (((Below.refl w.heap.size w).alloc (Nat.le_refl _) o).trans (h6.mono (by omega))).setCell (p := ⟨w.heap.size, 0, none⟩) (Nat.le_refl _) u
theorem Pair12.drew {w w' : World} {D A : Option Addr} {nd n : Nat} {bs : List Bk} {ls : List Li} (h : Pair12 w D nd bs A n ls w') : Pair12 w D nd bs A n ls w'.drew :=
  ⟨h.1, h.2.1, h.2.2.1.grown (grown_drew (grown_refl _ none)) (fun g e => by cases e), h.2.2.2.1.drew, h.2.2.2.2.1, Below.and_kept h.2.2.2.2.2 (grown_drew (grown_refl _ none))⟩
theorem Pair12.rows {w w' : World} {D A : Option Addr} {nd n : Nat} {bs : List Bk} {ls : List Li} (h : Pair12 w D nd bs A n ls w') : LD w D bs w' ∧ LT w A ls w' := ⟨⟨h.2.2.1.1, h.2.2.2.2.2⟩, ⟨h.2.2.2.1, h.2.2.2.2.2⟩⟩
end Go.Proofs.YtolpnloghogjjaaGreat
