/- What FnExactAppendPage carries along while heads are put into a variable. -/
import Derived.Test.YtpdkfgihpchkiaaExactHeads
namespace Go.Proofs.Ytpdkfgihpchkiaa
open Go.ChangeShapes Go.WideShapes Go.ChangeAt Go.RowKit

section
variable {w wr w' : World} {A : Option Addr} {n c lo hi D g : Nat} {bs : List Bk} {t : TypeId} {cs : Array Value}
theorem VD.heads (h : VD w A bs wr) (hD : w.heap.size ≤ D) (u0 u1 u2 : Value) : VD w A bs (((wr.setCell ⟨D, 0, none⟩ u0).setCell ⟨D, 1, none⟩ u1).setCell ⟨D, 2, none⟩ u2) := by
  have hr : ∀ (W : World), DRow W w.heap.size A bs → ∀ (o : Nat) (u : Value), DRow (W.setCell ⟨D, o, none⟩ u) w.heap.size A bs := fun W hd o u =>
    hd.keep (by simp [World.setCell]) fun q hq _ => World.cell?_setCell_other W ⟨D, o, none⟩ q u (fun e => by subst e; simp at hq; omega)
  exact ⟨hr _ (hr _ (hr _ h.1 0 u0) 1 u1) 2 u2, grown_put3 h.2 hD _ _ _⟩
theorem VX.heads (h : VX w A n c bs lo hi wr) (hV : Blk wr D 25 cs) (hD : w.heap.size ≤ D) (u0 u1 u2 : Value) : VX w A n c bs lo hi (((wr.setCell ⟨D, 0, none⟩ u0).setCell ⟨D, 1, none⟩ u1).setCell ⟨D, 2, none⟩ u2) :=
  ⟨h.1.heads hV u0 u1 u2, h.2.1, h.2.2.1, h.2.2.2.1, by simpa [World.setCell] using h.2.2.2.2.1, h.2.2.2.2.2.1, grown_put3 h.2.2.2.2.2.2 hD _ _ _⟩
theorem Blk.far3 (h : Blk wr g t cs) (hn : g ≠ D) (u0 u1 u2 : Value) : Blk (((wr.setCell ⟨D, 0, none⟩ u0).setCell ⟨D, 1, none⟩ u1).setCell ⟨D, 2, none⟩ u2) g t cs := ((h.far hn _).far hn _).far hn _
theorem Blk.set3 {c0 c1 c2 : Value} (h : Blk wr D t #[c0, c1, c2]) (u0 u1 u2 : Value) : Blk (((wr.setCell ⟨D, 0, none⟩ u0).setCell ⟨D, 1, none⟩ u1).setCell ⟨D, 2, none⟩ u2) D t #[u0, u1, u2] := ((h.put 0 u0).put 1 u1).put 2 u2
end
end Go.Proofs.Ytpdkfgihpchkiaa
