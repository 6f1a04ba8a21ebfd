/- Chapter 4, further: EraseBlock of both. -/
import Derived.Test.YtbhbbfpafonaiaaBlocks7
namespace Go.Proofs.Ytbhbbfpafonaiaa
open Go.ChangeShapes Go.WideShapes Go.ChangeAt Go.RowKit

theorem inB_iff {n lo hi : Int} : inB n lo hi = true ↔ lo ≤ n ∧ n ≤ hi := by simp [inB]
/-- The boxed argument, the result's cell, and the pages that came in. -/
def Frame2 (B : Nat) (m : Int) (A : Option Addr) (n c : Nat) (ps : List Pg) (w wr : World) : Prop :=
  Blk wr B 28 #[.int .i64 m, .slice A n c] ∧ Blk wr (B + 1) 28 #[.int .i64 0, .slice none 0 0] ∧ Row wr B A ps ∧ w.grownBy wr none
theorem frame2_start (m : Int) (A : Option Addr) (n c : Nat) (ps : List Pg) (w : World) (hr : Row w w.heap.size A ps) : Frame2 w.heap.size m A n c ps w ((w.alloc (.cells #[.int .i64 m, .slice A n c] 28)).alloc (.cells #[.int .i64 0, .slice none 0 0] 28)) := by
  refine ⟨(Blk.new w _ _).alloc _, ?_, (hr.alloc _).alloc _, grown_alloc (grown_alloc (grown_refl _ _) _) _⟩
  have h := Blk.new (w.alloc (.cells #[.int .i64 m, .slice A n c] 28)) 28 #[.int .i64 0, .slice none 0 0]
  simpa only [size_alloc1] using h
theorem Frame2.keep {B : Nat} {m : Int} {A : Option Addr} {n c : Nat} {ps : List Pg} {w wr w' : World} (h : Frame2 B m A n c ps w wr) (k : wr.grownBy w' none) : Frame2 B m A n c ps w w' :=
  ⟨h.1.keep k, h.2.1.keep k, h.2.2.1.kept k, grown_trans h.2.2.2 k⟩
theorem Frame2.cells {B : Nat} {m : Int} {A : Option Addr} {n c : Nat} {ps : List Pg} {w wr : World} (h : Frame2 B m A n c ps w wr) :
    wr.cell? ⟨B, 0, none⟩ = some (.int .i64 m) ∧ wr.cell? ⟨B, 1, none⟩ = some (.slice A n c) ∧ wr.cell? ⟨B + 1, 0, none⟩ = some (.int .i64 0) ∧ wr.cell? ⟨B + 1, 1, none⟩ = some (.slice none 0 0) ∧
    wr.frozen? ⟨B + 1, 0, none⟩ = false ∧ wr.frozen? ⟨B + 1, 1, none⟩ = false :=
  ⟨h.1.cell 0, h.1.cell 1, h.2.1.cell 0, h.2.1.cell 1, h.2.1.frozen 0, h.2.1.frozen 1⟩
end Go.Proofs.Ytbhbbfpafonaiaa
