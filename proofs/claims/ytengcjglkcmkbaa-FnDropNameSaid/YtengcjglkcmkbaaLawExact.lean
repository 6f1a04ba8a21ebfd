/- What the exact laws of chapter 4 carry along: blocks in variables, and where their pages lie.
   What the exact law of WriteBlock carries along besides. -/
import Derived.Test.YtengcjglkcmkbaaExactRows
import Derived.Test.YtengcjglkcmkbaaAggRows
import Derived.Test.YtengcjglkcmkbaaDrawBlocks
namespace Go.Proofs.Ytengcjglkcmkbaa
open Go.ChangeShapes Go.WideShapes Go.ChangeAt Go.RowKit

/-- The variable's block V (of type t) holds a block; its pages lie in blocks lo .. hi - 1. -/
def VB (w : World) (t : TypeId) (V : Nat) (m : Int) (A : Option Addr) (n c : Nat) (ps : List Pg) (lo hi : Nat) (wr : World) : Prop :=
  Blk wr V t #[.int .i64 m, .slice A n c] ∧ ps.length = n ∧ Row wr wr.heap.size A ps ∧ (0 < ps.length → ∀ ad, A = some ad → lo ≤ ad.block ∧ ad.block < hi) ∧ w.grownBy wr none
section
variable {w wr w' : World} {t t' : TypeId} {V Vx : Nat} {m mx : Int} {A Ax : Option Addr} {n c nx cx lo hi lox hix : Nat} {ps qs : List Pg}
theorem VB.keep (h : VB w t V m A n c ps lo hi wr) (k : wr.grownBy w' none) : VB w t V m A n c ps lo hi w' :=
  ⟨h.1.keep k, h.2.1, (h.2.2.1.kept k).here, h.2.2.2.1, grown_trans h.2.2.2.2 k⟩
theorem VB.cells (h : VB w t V m A n c ps lo hi wr) : wr.cell? ⟨V, 0, none⟩ = some (.int .i64 m) ∧ wr.cell? ⟨V, 1, none⟩ = some (.slice A n c) ∧ V < wr.heap.size := ⟨h.1.cell 0, h.1.cell 1, h.1.lt⟩
end
end Go.Proofs.Ytengcjglkcmkbaa
namespace Go.Proofs.Ytengcjglkcmkbaa
open Go.ChangeShapes Go.WideShapes Go.ChangeAt Go.RowKit

/-- What WriteBlock answers. -/
def WriteIs (m : Int) (ps : List Pg) (f : Bool) (x1 x2 x3 x4 : Int) (m1 : Int) (n1 : Nat) (ps1 : List Pg) (r : Int) : Prop :=
  (((blockB m ps && (f && pageB f x1 x2 x3 x4)) = false) ∧ m1 = 0 ∧ n1 = 0 ∧ ps1 = [] ∧ r = -1) ∨
  (blockB m ps = true ∧ f = true ∧ pageB true x1 x2 x3 x4 = true ∧ nextV m ps = -1 ∧ m1 = m ∧ n1 = 4 ∧ ps1 = ps ∧ r = -1) ∨
  (∃ k : Nat, blockB m ps = true ∧ f = true ∧ pageB true x1 x2 x3 x4 = true ∧ nextV m ps = (k : Int) ∧ k < 4 ∧ m1 = m ∧ n1 = 4 ∧ ps1 = ps.set k ⟨true, x1, x2, x3, x4⟩ ∧ r = (k : Int))
theorem write_is (m : Int) (ps : List Pg) (f : Bool) (x1 x2 x3 x4 : Int) : ∃ m1 n1 ps1 r, WriteIs m ps f x1 x2 x3 x4 m1 n1 ps1 r ∧ n1 ≤ 4 := by
  cases h : (blockB m ps && (f && pageB f x1 x2 x3 x4))
  · exact ⟨0, 0, [], -1, .inl ⟨h, rfl, rfl, rfl, rfl⟩, by omega⟩
  · simp only [Bool.and_eq_true] at h
    obtain ⟨hv, rfl, hp⟩ := h
    rcases next_cases m ps with hn | ⟨k, hk, h4, _⟩
    · exact ⟨m, 4, ps, -1, .inr (.inl ⟨hv, rfl, hp, hn, rfl, rfl, rfl, rfl⟩), by omega⟩
    · exact ⟨m, 4, _, k, .inr (.inr ⟨k, hv, rfl, hp, hk, h4, rfl, rfl, rfl, rfl⟩), by omega⟩
section
variable {w wr w' : World} {t t' : TypeId} {V Vx D : Nat} {m mx : Int} {A Ax : Option Addr} {n c nx cx lo hi lox hix : Nat} {ps qs : List Pg} {cs : Array Value}
theorem VB.store (h : VB w t V m A n c ps lo hi wr) (hV : V ≠ D) (hd : hi ≤ D) (hD : w.heap.size ≤ D) (u0 u1 : Value) : VB w t V m A n c ps lo hi ((wr.setCell ⟨D, 0, none⟩ u0).setCell ⟨D, 1, none⟩ u1) := by
  refine ⟨(h.1.far hV _).far hV _, h.2.1, fun hn => ?_, h.2.2.2.1, grown_put (grown_put h.2.2.2.2 hD _) hD _⟩
  obtain ⟨g, off, rfl, hb, hz, hc⟩ := h.2.2.1 hn
  have hg := h.2.2.2.1 hn _ rfl
  have hg2 : g < hi := hg.2
  exact ⟨g, off, rfl, by simpa [World.setCell] using hz, by simpa [World.setCell] using hz, fun i q hq => ((hc i q hq).keep fun r hr => World.cell?_setCell_other wr ⟨D, 0, none⟩ r _ (fun e => by subst e; simp at hr; omega)).keep fun r hr => World.cell?_setCell_other _ ⟨D, 1, none⟩ r _ (fun e => by subst e; simp at hr; omega)⟩
theorem Blk.store (h : Blk wr V t cs) (hV : V ≠ D) (u0 u1 : Value) : Blk ((wr.setCell ⟨D, 0, none⟩ u0).setCell ⟨D, 1, none⟩ u1) V t cs := (h.far hV _).far hV _
theorem size_set2 (wr : World) (D : Nat) (u0 u1 : Value) : ((wr.setCell ⟨D, 0, none⟩ u0).setCell ⟨D, 1, none⟩ u1).heap.size = wr.heap.size := by simp [World.setCell]
end
end Go.Proofs.Ytengcjglkcmkbaa
