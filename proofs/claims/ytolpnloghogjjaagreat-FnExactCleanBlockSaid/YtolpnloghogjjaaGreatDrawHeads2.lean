/- What the model draws for chapter 6: DrawHeadsValid, DrawHeadOf, DrawFreshBlock, DrawAppendPage. -/
import Derived.Test.YtolpnloghogjjaaGreatDrawHeads
import Derived.Test.YtolpnloghogjjaaGreatDrawDev4
namespace Go.Proofs.YtolpnloghogjjaaGreat
open Go.ChangeShapes Go.WideShapes Go.ChangeAt Go.RowKit

theorem LD.far {w wr : World} {A : Option Addr} {bs : List Bk} {g : Nat} {p : Addr} (H : LD w A bs wr) (hA : ∀ ad, A = some ad → g < ad.block) (hP : ∀ (q : Bk) (ad : Addr), q ∈ bs → q.A = some ad → g < ad.block) (hp : p.block ≤ g) (hw : w.heap.size ≤ p.block) (u : Value) :
    LD w A bs (wr.setCell p u) :=
  ⟨(H.1.far (fun ad e => by have := hA ad e; omega) (fun q ad hq e => by have := hP q ad hq e; omega) u).here, H.2.setCell hw u⟩
/-- A device and heads, drawn, with the heads in a variable V; the result's heads in block w.heap.size. -/
def HSt (w : World) (A : Option Addr) (bs : List Bk) (V g B Q : Nat) (a b h : Int) (wr : World) : Prop :=
  (DRow wr wr.heap.size A bs ∧ Rd wr B g Q ∧ Below w.heap.size w wr ∧ Blk wr w.heap.size 28 #[.int .i64 0, .int .i64 0, .int .i64 0] ∧ Blk wr V 28 #[.int .i64 a, .int .i64 b, .int .i64 h]) ∧ w.heap.size < g ∧ g < V ∧ (∀ ad, A = some ad → g < ad.block) ∧ ∀ (q : Bk) (ad : Addr), q ∈ bs → q.A = some ad → g < ad.block
section
variable {w wr w' : World} {B g Q Q' V : Nat} {A : Option Addr} {bs : List Bk} {a b h : Int}
theorem HSt.grown (H : HSt w A bs V g B Q a b h wr) (hg : wr.grownBy w' (some g)) (hr : Rd w' B g Q') : HSt w A bs V g B Q' a b h w' := by
  obtain ⟨⟨h1, h2, h3, h4, h5⟩, h6, h7, h8, h9⟩ := H
  refine ⟨⟨(h1.grown2 hg (fun ad e e2 => ?_) (fun q ad hq e e2 => ?_)).here, hr, h3.trans (Below.of_grown hg (by omega) h3.size), h4.grown hg (by intro e; injection e with e; omega), h5.grown hg (by intro e; injection e with e; omega)⟩, h6, h7, h8, h9⟩
  · have := h8 ad e; injection e2 with e2; omega
  · have := h9 q ad hq e; injection e2 with e2; omega
theorem HSt.kept (H : HSt w A bs V g B Q a b h wr) (hk : wr.grownBy w' none) : HSt w A bs V g B Q a b h w' :=
  H.grown (grown_some hk) (H.1.2.1.grown hk (by intro k e; cases e))
theorem HSt.put3 (H : HSt w A bs V g B Q a b h wr) (u0 u1 u2 : Value) : LD w A bs (((wr.setCell ⟨w.heap.size, 0, none⟩ u0).setCell ⟨w.heap.size, 1, none⟩ u1).setCell ⟨w.heap.size, 2, none⟩ u2) := by
  obtain ⟨⟨h1, h2, h3, h4, h5⟩, h6, h7, h8, h9⟩ := H
  have hl : LD w A bs wr := ⟨h1, h3⟩
  exact ((hl.far h8 h9 (Nat.le_of_lt h6) (Nat.le_refl _) _).far h8 h9 (Nat.le_of_lt h6) (Nat.le_refl _) _).far h8 h9 (Nat.le_of_lt h6) (Nat.le_refl _) _
theorem HSt.put8 (H : HSt w A bs V g B Q a b h wr) (hg : w.heap.size + 1 ≤ g) (u0 u1 u2 v0 v1 v2 v3 v4 : Value) :
    LD w A bs ((((((((wr.setCell ⟨w.heap.size, 0, none⟩ u0).setCell ⟨w.heap.size, 1, none⟩ u1).setCell ⟨w.heap.size, 2, none⟩ u2).setCell ⟨w.heap.size + 1, 0, none⟩ v0).setCell ⟨w.heap.size + 1, 1, none⟩ v1).setCell ⟨w.heap.size + 1, 2, none⟩ v2).setCell ⟨w.heap.size + 1, 3, none⟩ v3).setCell ⟨w.heap.size + 1, 4, none⟩ v4) := by
  have H3 := H.put3 u0 u1 u2
  obtain ⟨_, _, _, h8, h9⟩ := H
  exact ((((H3.far h8 h9 hg (Nat.le_succ _) _).far h8 h9 hg (Nat.le_succ _) _).far h8 h9 hg (Nat.le_succ _) _).far h8 h9 hg (Nat.le_succ _) _).far h8 h9 hg (Nat.le_succ _) _
end
/-- A device and heads are drawn. -/
def DevHeadsDrawn (w : World) (e : Ending) (w' : World) : Prop :=
  ∃ (A : Option Addr) (n c : Nat) (bs : List Bk) (a b h : Int), e = .returned (.tuple #[.slice A n c, .agg #[.int .i64 a, .int .i64 b, .int .i64 h]]) ∧ bs.length = n ∧ n ≤ 13 ∧ (∀ q, q ∈ bs → q.ps.length ≤ 4) ∧ LD w A bs w'
/-- A device, heads and a kind of heat are drawn. -/
def DevHeatDrawn (w : World) (e : Ending) (w' : World) : Prop :=
  ∃ (A : Option Addr) (n c : Nat) (bs : List Bk) (a b h j : Int), e = .returned (.tuple #[.slice A n c, .agg #[.int .i64 a, .int .i64 b, .int .i64 h], .int .i64 j]) ∧ bs.length = n ∧ n ≤ 13 ∧ (∀ q, q ∈ bs → q.ps.length ≤ 4) ∧ LD w A bs w'
/-- A device, heads, a kind of heat and a page are drawn. -/
def DevAllDrawn (w : World) (e : Ending) (w' : World) : Prop :=
  ∃ (A : Option Addr) (n c : Nat) (bs : List Bk) (a b h j : Int) (f : Bool) (x1 x2 x3 x4 : Int), e = .returned (.tuple #[.slice A n c, .agg #[.int .i64 a, .int .i64 b, .int .i64 h], .int .i64 j, .agg #[.bool f, .int .i64 x1, .int .i64 x2, .int .i64 x3, .int .i64 x4]]) ∧ bs.length = n ∧ n ≤ 13 ∧ (∀ q, q ∈ bs → q.ps.length ≤ 4) ∧ LD w A bs w'
end Go.Proofs.YtolpnloghogjjaaGreat
