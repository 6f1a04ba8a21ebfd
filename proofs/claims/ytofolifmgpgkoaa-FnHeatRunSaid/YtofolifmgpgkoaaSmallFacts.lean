/- States that the Fn laws of chapter 11 ask. -/
import Derived.Test.YtofolifmgpgkoaaSmallDraw
import Derived.Test.YtofolifmgpgkoaaExtFacts
namespace Go.Proofs.Ytofolifmgpgkoaa
open Go.ChangeShapes Go.WideShapes Go.ChangeAt Go.RowKit
set_option linter.unusedVariables false

/-- list[:m] is read as the list is. -/
theorem VRow.upto {w : World} {B : Nat} {A : Option Addr} {xs : List Int} (h : IRow w B A xs) (m : Nat) : IRow w B A (xs.take m) := fun hn => by
  rw [iv_length, List.length_take] at hn
  obtain ⟨g, off, e, hb, hz, hc⟩ := h (by rw [iv_length]; omega)
  refine ⟨g, off, e, hb, hz, fun i u hu => hc i u ?_⟩
  rw [iv, List.map_take, List.getElem?_take] at hu
  split at hu
  · exact hu
  · cases hu
end Go.Proofs.Ytofolifmgpgkoaa
