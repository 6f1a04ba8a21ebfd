/- What the draws of chapter 3 answer: pages, and nothing that was there is written. -/
import Derived.Test.YtlldmbocaloogaaPages
import Derived.Outline
import Derived.Deep.RegionHeld3
import Derived.StillTailTactics
namespace Go.Proofs.Ytlldmbocaloogaa
open Go.ChangeShapes Go.WideShapes Go.ChangeAt Go.RowKit

theorem size_of_alloc (w : World) (o : Obj) : (w.alloc o).heap.size = w.heap.size + 1 := by simp
/-- A draw of a page out of a reader. -/
def DrewPage (w : World) (B g P : Nat) (e : Ending) (w' : World) : Prop :=
  ∃ (f : Bool) (a b c d : Int), e = .returned (.agg #[.bool f, .int .i64 a, .int .i64 b, .int .i64 c, .int .i64 d]) ∧ Rd w' B g P ∧ w.grownBy w' (some g)

theorem rd_put5 {w : World} {B g P k : Nat} (h : Rd w B g P) (hk : g ≠ k) (hB : B ≤ k) (u0 u1 u2 u3 u4 : Value) :
    Rd (((((w.setCell ⟨k, 0, none⟩ u0).setCell ⟨k, 1, none⟩ u1).setCell ⟨k, 2, none⟩ u2).setCell ⟨k, 3, none⟩ u3).setCell ⟨k, 4, none⟩ u4) B g P :=
  ((((h.far hk hB u0).far hk hB u1).far hk hB u2).far hk hB u3).far hk hB u4
theorem grown_put5 {a w : World} {g k : Nat} (h : a.grownBy w (some g)) (hk : a.heap.size ≤ k) (u0 u1 u2 u3 u4 : Value) :
    a.grownBy (((((w.setCell ⟨k, 0, none⟩ u0).setCell ⟨k, 1, none⟩ u1).setCell ⟨k, 2, none⟩ u2).setCell ⟨k, 3, none⟩ u3).setCell ⟨k, 4, none⟩ u4) (some g) :=
  grown_set (grown_set (grown_set (grown_set (grown_set h (.inr hk) u0) (.inr hk) u1) (.inr hk) u2) (.inr hk) u3) (.inr hk) u4
theorem Bytes.alloc {w : World} {A : Option Addr} {n : Nat} (h : Bytes w w.heap.size A n) (o : Obj) : Bytes (w.alloc o) (w.alloc o).heap.size A n := fun hn => by
  obtain ⟨b, off, z, e, hb, hc⟩ := h hn
  exact ⟨b, off, z, e, by simp; omega, fun i hi => ⟨(World.cell?_alloc_lt w o _ hb).trans (hc i hi).1, (hc i hi).2⟩⟩
theorem below_put5 {B : Nat} {a w : World} {k : Nat} (h : Below B a w) (hk : B ≤ k) (u0 u1 u2 u3 u4 : Value) :
    Below B a (((((w.setCell ⟨k, 0, none⟩ u0).setCell ⟨k, 1, none⟩ u1).setCell ⟨k, 2, none⟩ u2).setCell ⟨k, 3, none⟩ u3).setCell ⟨k, 4, none⟩ u4) :=
  ((((h.setCell hk u0).setCell hk u1).setCell hk u2).setCell hk u3).setCell hk u4
/-- A draw of one page out of a code: nothing that was there is written. -/
def PageDrawn (w : World) (e : Ending) (w' : World) : Prop :=
  ∃ (f : Bool) (a b c d : Int), e = .returned (.agg #[.bool f, .int .i64 a, .int .i64 b, .int .i64 c, .int .i64 d]) ∧ Below w.heap.size w w'
/-- A draw of two pages. -/
def Page2Drawn (w : World) (e : Ending) (w' : World) : Prop :=
  ∃ (f : Bool) (a b c d : Int) (f2 : Bool) (a2 b2 c2 d2 : Int), e = .returned (.tuple #[.agg #[.bool f, .int .i64 a, .int .i64 b, .int .i64 c, .int .i64 d], .agg #[.bool f2, .int .i64 a2, .int .i64 b2, .int .i64 c2, .int .i64 d2]]) ∧ Below w.heap.size w w'
end Go.Proofs.Ytlldmbocaloogaa
