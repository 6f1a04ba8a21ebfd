/- The exact laws' helpers for devices (under way): eqBlockS, toBlockS. -/
import Derived.Test.YtbhbbfpafonaiaaDevices2
import Derived.Test.YtbhbbfpafonaiaaExactMark
namespace Go.Proofs.Ytbhbbfpafonaiaa
open Go.ChangeShapes Go.WideShapes Go.ChangeAt Go.RowKit

theorem D2.kept {w w' : World} {g o : Nat} {b : Bk} (h : D2 w g o b) (hk : w.grownBy w' none) : D2 w' g o b :=
  h.keep fun q hq => World.cell?_of_block (hk.block q.block (by have := h.lt; omega) (by simp))
theorem is_at {bs cs : List Bk} (h : bs.map Bk.is = cs.map Bk.is) {i : Nat} {m : Int} {A : Option Addr} {c : Nat} {ps : List Pg} (hi : bs[i]? = some ⟨m, A, c, ps⟩) : ∃ A' c', cs[i]? = some ⟨m, A', c', ps⟩ := by
  have e : (bs.map Bk.is)[i]? = (cs.map Bk.is)[i]? := by rw [h]
  rw [List.getElem?_map, List.getElem?_map, hi] at e
  cases hc : cs[i]? with
  | none => rw [hc] at e; simp at e
  | some b =>
    rw [hc] at e
    obtain ⟨m', A', c', ps'⟩ := b
    simp [Bk.is] at e
    obtain ⟨rfl, rfl⟩ := e
    exact ⟨A', c', rfl⟩
theorem is_length {bs cs : List Bk} (h : bs.map Bk.is = cs.map Bk.is) : bs.length = cs.length := by
  have := congrArg List.length h
  simpa using this
end Go.Proofs.Ytbhbbfpafonaiaa
