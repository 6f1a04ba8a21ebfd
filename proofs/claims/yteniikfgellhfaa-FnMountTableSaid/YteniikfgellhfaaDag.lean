/- For a region that draws its order and makes memory: states that several orders lead to are walked once. -/
import Derived.Test.YteniikfgellhfaaHand
import Derived.Test.YteniikfgellhfaaBlocks
namespace Go.Proofs.Yteniikfgellhfaa
open Go.ChangeShapes Go.WideShapes Go.ChangeAt Go.RowKit

/-- Something that is shown later, once. -/
theorem mrg {G R : Prop} (h : RowKit.Hid G → R) (g : G) : R := h (Lib.hid g)
section
variable {P : Program} {ops : Array Oper} {Q : Exit → Act → World → Prop} {md : Region.Mode} {S S' : World → Prop}
/-- More may be kept than is asked. -/
theorem wpAnyH_to (hS : ∀ w, S' w → S w) : ∀ (fuel : Nat) (listed : Array Bool) (a : Act) (w : World), wpAnyH P md ops Q S' fuel listed a w → wpAnyH P md ops Q S fuel listed a w
  | 0, _, _, _, h => h
  | fuel + 1, _, _, _, h => ⟨h.1, fun i hi => wpOp_mono (fun a' w' h' => ⟨hS w' h'.1, wpAnyH_to hS fuel _ a' w' h'.2⟩) (h.2 i hi)⟩
end
end Go.Proofs.Yteniikfgellhfaa
