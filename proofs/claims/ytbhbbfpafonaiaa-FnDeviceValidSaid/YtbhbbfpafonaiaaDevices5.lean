/- What the model's functions of chapter 5 answer, further: EraseAt (under way). -/
import Derived.Test.YtbhbbfpafonaiaaDevices4
namespace Go.Proofs.Ytbhbbfpafonaiaa
open Go.ChangeShapes Go.WideShapes Go.ChangeAt Go.RowKit

/-- What EraseBlock answers of a valid block. -/
def eraseIs (m : Int) (ps : List Pg) : Int × List Pg := if m = 100 then (m, ps) else (m + 1, [pz, pz, pz, pz])
theorem DOwn.base_le {w : World} {base base' : Nat} {v : Value} {bs : List Bk} (h : DOwn w base v bs) (hb : base' ≤ base) : DOwn w base' v bs := by
  refine ⟨⟨h.1.1, ?_⟩, fun b hm => (h.2.1 b hm).base_le hb, h.2.2⟩
  rcases h.1.2 with hn | ⟨g, cap, cur, e, hg, rest⟩
  · exact .inl hn
  · exact .inr ⟨g, cap, cur, e, Nat.le_trans hb hg, rest⟩
/-- A device in memory of its own is returned, and another result. -/
def DevMade2 (l : List (Int × List Pg)) (n : Nat) (r : Value) (w : World) (e : Ending) (w' : World) : Prop :=
  ∃ (A : Option Addr) (c : Nat) (cs : List Bk), e = .returned (.tuple #[.slice A n c, r]) ∧ cs.length = n ∧ cs.map Bk.is = l ∧ DOwn w' w.heap.size (.slice A n c) cs ∧ w.grownBy w' none
end Go.Proofs.Ytbhbbfpafonaiaa
