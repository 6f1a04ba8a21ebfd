/- What the model draws for chapter 6: DrawHeadsValid, DrawHeadOf, DrawFreshBlock, DrawAppendPage. -/
import Derived.Test.YtolpnloghogjjaaGreatZDrawHeads
import Derived.Test.YtolpnloghogjjaaGreatZDrawDev4
namespace Go.Proofs.YtolpnloghogjjaaGreat
open Go.ChangeShapes Go.WideShapes Go.ChangeAt Go.RowKit

theorem LD.far {w wr : World} {A : Option Addr} {bs : List Bk} {g : Nat} {p : Addr} (H : LD w A bs wr) (hA : ∀ ad, A = some ad → g < ad.block) (hP : ∀ (q : Bk) (ad : Addr), q ∈ bs → q.A = some ad → g < ad.block) (hp : p.block ≤ g) (hw : w.heap.size ≤ p.block) (u : Value) :
    LD w A bs (wr.setCell p u) :=
  ⟨(H.1.far (fun ad e => by have := hA ad e; omega) (fun q ad hq e => by have := hP q ad hq e; omega) u).here, H.2.setCell hw u⟩
section
variable {w wr w' : World} {B g Q Q' V : Nat} {A : Option Addr} {bs : List Bk} {a b h : Int}
end
end Go.Proofs.YtolpnloghogjjaaGreat
