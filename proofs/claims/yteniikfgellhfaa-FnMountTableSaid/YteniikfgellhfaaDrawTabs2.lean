/- What the model draws for chapter 7: DrawTableGet, DrawTableChanges.
   What the model draws for chapter 7: DrawTableChanges. -/
import Derived.Test.YteniikfgellhfaaDrawTabs
namespace Go.Proofs.Yteniikfgellhfaa
open Go.ChangeShapes Go.WideShapes Go.ChangeAt Go.RowKit
set_option linter.unusedVariables false
set_option linter.unusedSimpArgs false

/-- A drawn table while the law walks on. -/
def LT (w : World) (A : Option Addr) (ls : List Li) (wr : World) : Prop := TRow wr wr.heap.size A ls ∧ Below w.heap.size w wr
theorem LT.keep {w wr w' : World} {A : Option Addr} {ls : List Li} (h : LT w A ls wr) (k : wr.grownBy w' none) : LT w A ls w' := ⟨(h.1.kept k).here, Below.and_kept h.2 k⟩
theorem LT.alloc {w wr : World} {A : Option Addr} {ls : List Li} (h : LT w A ls wr) (o : Obj) : LT w A ls (wr.alloc o) := h.keep (grown_alloc (grown_refl _ _) o)
/-- A drawn table in a variable V, the reader in block g before it, the result's cell in block w.heap.size. -/
def GSt (w : World) (A : Option Addr) (n c : Nat) (ls : List Li) (V g B Q : Nat) (wr : World) : Prop :=
  (TRow wr wr.heap.size A ls ∧ Rd wr B g Q ∧ Below w.heap.size w wr ∧ Blk wr w.heap.size 40 #[.slice none 0 0] ∧ Blk wr V 40 #[.slice A n c]) ∧ w.heap.size < g ∧ g < V ∧ TFar (g + 1) A ls
section
variable {w wr w' : World} {B g Q Q' V n c : Nat} {A : Option Addr} {ls : List Li}
theorem GSt.grown (H : GSt w A n c ls V g B Q wr) (hg : wr.grownBy w' (some g)) (hr : Rd w' B g Q') : GSt w A n c ls V g B Q' w' := by
  obtain ⟨⟨h1, h2, h3, h4, h5⟩, h6, h7, h8⟩ := H
  exact ⟨⟨(h1.grownLo h8 hg (by omega)).here, hr, h3.trans (Below.of_grown hg (by omega) h3.size), h4.grown hg (by intro e; injection e with e; omega), h5.grown hg (by intro e; injection e with e; omega)⟩, h6, h7, h8⟩
theorem GSt.kept (H : GSt w A n c ls V g B Q wr) (hk : wr.grownBy w' none) : GSt w A n c ls V g B Q w' := H.grown (grown_some hk) (H.1.2.1.grown hk (by intro k e; cases e))
theorem GSt.cell (H : GSt w A n c ls V g B Q wr) : wr.cell? ⟨V, 0, none⟩ = some (.slice A n c) := H.1.2.2.2.2.cell 0
/-- The result's cell is written. -/
theorem GSt.put (H : GSt w A n c ls V g B Q wr) (u : Value) : LT w A ls (wr.setCell ⟨w.heap.size, 0, none⟩ u) := by
  obtain ⟨⟨h1, h2, h3, h4, h5⟩, h6, h7, h8⟩ := H
  have hs : (wr.setCell ⟨w.heap.size, 0, none⟩ u).heap.size = wr.heap.size := by simp [World.setCell]
  refine ⟨?_, h3.setCell (Nat.le_refl _) u⟩
  rw [hs]
  exact h1.putLo h8 (p := ⟨w.heap.size, 0, none⟩) (by dsimp only; omega) u
end
/-- A table, a file and a place are drawn. -/
def TabDrawn (w : World) (e : Ending) (w' : World) : Prop :=
  ∃ (A : Option Addr) (n c : Nat) (ls : List Li) (f k : Int), e = .returned (.tuple #[.agg #[.slice A n c], .int .i64 f, .int .i64 k]) ∧ ls.length = n ∧ n ≤ 8 ∧ (∀ l, l ∈ ls → l.xs.length ≤ 6) ∧ TFar w.heap.size A ls ∧ LT w A ls w'
/-- Which of the three is taken. -/
theorem lit8 (y : Nat) (h : y < 8) : ∃ z : Nat, z < 3 ∧ (#[Value.int .i64 0, .int .i64 0, .int .i64 0, .int .i64 0, .int .i64 0, .int .i64 0, .int .i64 1, .int .i64 2] : Array Value)[y]? = some (.int .i64 (z : Int)) := by
  match y, h with
  | 0, _ => exact ⟨0, by omega, rfl⟩
  | 1, _ => exact ⟨0, by omega, rfl⟩
  | 2, _ => exact ⟨0, by omega, rfl⟩
  | 3, _ => exact ⟨0, by omega, rfl⟩
  | 4, _ => exact ⟨0, by omega, rfl⟩
  | 5, _ => exact ⟨0, by omega, rfl⟩
  | 6, _ => exact ⟨1, by omega, rfl⟩
  | 7, _ => exact ⟨2, by omega, rfl⟩
theorem lit3 (z : Nat) (h : z < 3) (a b d : Int) : ∃ v : Int, (#[Value.int .i64 a, .int .i64 b, .int .i64 d] : Array Value)[z]? = some (.int .i64 v) := by
  match z, h with
  | 0, _ => exact ⟨a, rfl⟩
  | 1, _ => exact ⟨b, rfl⟩
  | 2, _ => exact ⟨d, rfl⟩
end Go.Proofs.Yteniikfgellhfaa
namespace Go.Proofs.Yteniikfgellhfaa
open Go.ChangeShapes Go.WideShapes Go.ChangeAt Go.RowKit
set_option linter.unusedVariables false
set_option linter.unusedSimpArgs false

/-- Two tables are drawn. -/
def TabsDrawn (w : World) (e : Ending) (w' : World) : Prop :=
  ∃ (A : Option Addr) (n c : Nat) (ls : List Li) (A' : Option Addr) (n' c' : Nat) (ms : List Li), e = .returned (.tuple #[.agg #[.slice A n c], .agg #[.slice A' n' c']]) ∧ ls.length = n ∧ n ≤ 8 ∧ (∀ l, l ∈ ls → l.xs.length ≤ 6) ∧ ms.length = n' ∧ n' ≤ 8 ∧ (∀ l, l ∈ ms → l.xs.length ≤ 6) ∧ LT w A ls w' ∧ LT w A' ms w'
theorem chgV_comm (a b : List (List Int)) : chgV b a = chgV a b := by
  unfold chgV
  rw [chgTo_comm b a, Bool.and_comm]
theorem LT.putLo {w wr : World} {A : Option Addr} {ls : List Li} {lo : Nat} (h : LT w A ls wr) (f : TFar lo A ls) {p : Addr} (hp : p.block < lo) (hw : w.heap.size ≤ p.block) (u : Value) : LT w A ls (wr.setCell p u) := by
  have hs : (wr.setCell p u).heap.size = wr.heap.size := by simp [World.setCell]
  refine ⟨?_, h.2.setCell hw u⟩
  rw [hs]
  exact h.1.putLo f hp u
end Go.Proofs.Yteniikfgellhfaa
