/- What the draws of chapter 4 answer: blocks, pages, numbers, and nothing that was there is written. -/
import Derived.Test.YtolpnloghogjjaaGreatZDrawBlocks3
namespace Go.Proofs.YtolpnloghogjjaaGreat
open Go.ChangeShapes Go.WideShapes Go.ChangeAt Go.RowKit

theorem Row.grownNe {w w' : World} {B : Nat} {A : Option Addr} {ps : List Pg} {row : Option Nat} (h : Row w B A ps) (hg : w.grownBy w' row) (hne : ∀ ad, A = some ad → row ≠ some ad.block) : Row w' B A ps := fun hn => by
  obtain ⟨g, off, rfl, hb, hz, hc⟩ := h hn
  have h1 := hne _ rfl
  exact ⟨g, off, rfl, hb, Nat.lt_of_lt_of_le hz hg.size, fun i q hq => (hc i q hq).keep fun r hr => World.cell?_of_block (hg.block r.block (by omega) (fun e => h1 (by rw [← e, hr])))⟩
end Go.Proofs.YtolpnloghogjjaaGreat
