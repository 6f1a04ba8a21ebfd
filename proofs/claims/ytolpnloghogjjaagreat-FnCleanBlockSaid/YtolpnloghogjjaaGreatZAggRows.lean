/- A slice of pages that came in (the laws' own type): its cells, page by page.
   The exact laws' helpers for blocks: szBlock, toBlock, eqBlock.
   The exact laws' helpers for blocks, further: markBlock and heldBlock.
   What the exact laws of chapter 4 carry along: blocks in variables, and where their pages lie.
   What the exact law of WriteBlock carries along besides. -/
import Derived.Test.YtolpnloghogjjaaGreatZAgg
import Derived.Test.YtolpnloghogjjaaGreatZBlocks
import Derived.Test.YtolpnloghogjjaaGreatZHand
import Derived.Test.YtolpnloghogjjaaGreatZDrawBlocks
namespace Go.Proofs.YtolpnloghogjjaaGreat
open Go.ChangeShapes Go.WideShapes Go.Deep

section
variable {H : Type} {enc : TypeId × Value → H} {w : World} {base : Nat} {spare : Nat → Bool} {held : Bool}
end
end Go.Proofs.YtolpnloghogjjaaGreat
namespace Go.Proofs.YtolpnloghogjjaaGreat
open Go.ChangeShapes Go.WideShapes Go.ChangeAt Go.RowKit

theorem cells2' {w : World} {g : Nat} {t : TypeId} {u0 u1 : Value} (h : Blk w g t #[u0, u1]) :
    w.cell? ⟨g, 0, none⟩ = some u0 ∧ w.cell? ⟨g, 1, none⟩ = some u1 ∧ w.frozen? ⟨g, 0, none⟩ = false ∧ w.frozen? ⟨g, 1, none⟩ = false := ⟨h.cell 0, h.cell 1, h.frozen 0, h.frozen 1⟩
end Go.Proofs.YtolpnloghogjjaaGreat
namespace Go.Proofs.YtolpnloghogjjaaGreat
open Go.ChangeShapes Go.WideShapes Go.ChangeAt Go.RowKit

/-- The page that a mark writes from number K on; n of them; n of them in front of what was there. -/
def mkP (K : Nat) : Pg := ⟨(K : Int) % 3 == 0, (K : Int) + 1, (K : Int) + 1 + 1, (K : Int) + 1 + 1 + 1, (K : Int) + 1 + 1 + 1 + 1⟩
def marks (k0 n : Nat) : List Pg := (List.range n).map fun j => mkP (k0 + 5 * j)
end Go.Proofs.YtolpnloghogjjaaGreat
namespace Go.Proofs.YtolpnloghogjjaaGreat
open Go.ChangeShapes Go.WideShapes Go.ChangeAt Go.RowKit

theorem Own.apart {w : World} {base V n c : Nat} {ad : Addr} {ps : List Pg} {t : TypeId} {cs : Array Value} (ho : Own w base (.slice (some ad) n c) ps) (hb : Blk w V t cs) (ht : t ≠ 72) : V ≠ ad.block := by
  rcases ho.2 with ⟨e, _⟩ | ⟨g', cap, cur, e, _, hh, _⟩
  · cases e
  · injection e with e; injection e with e; subst e
    rintro rfl
    unfold Blk at hb
    rw [hh] at hb
    injection hb with hb
    injection hb with _ h2
    exact ht h2.symm
section
variable {w wr w' : World} {t t' : TypeId} {V Vx : Nat} {m mx : Int} {A Ax : Option Addr} {n c nx cx lo hi lox hix : Nat} {ps qs : List Pg}
end
end Go.Proofs.YtolpnloghogjjaaGreat
namespace Go.Proofs.YtolpnloghogjjaaGreat
open Go.ChangeShapes Go.WideShapes Go.ChangeAt Go.RowKit

/-- What WriteBlock answers. -/
def WriteIs (m : Int) (ps : List Pg) (f : Bool) (x1 x2 x3 x4 : Int) (m1 : Int) (n1 : Nat) (ps1 : List Pg) (r : Int) : Prop :=
  (((blockB m ps && (f && pageB f x1 x2 x3 x4)) = false) ∧ m1 = 0 ∧ n1 = 0 ∧ ps1 = [] ∧ r = -1) ∨
  (blockB m ps = true ∧ f = true ∧ pageB true x1 x2 x3 x4 = true ∧ nextV m ps = -1 ∧ m1 = m ∧ n1 = 4 ∧ ps1 = ps ∧ r = -1) ∨
  (∃ k : Nat, blockB m ps = true ∧ f = true ∧ pageB true x1 x2 x3 x4 = true ∧ nextV m ps = (k : Int) ∧ k < 4 ∧ m1 = m ∧ n1 = 4 ∧ ps1 = ps.set k ⟨true, x1, x2, x3, x4⟩ ∧ r = (k : Int))
theorem write_val {m : Int} {ps : List Pg} {f : Bool} {x1 x2 x3 x4 m1 : Int} {n1 : Nat} {ps1 : List Pg} {r : Int} (h : WriteIs m ps f x1 x2 x3 x4 m1 n1 ps1 r) (A : Option Addr) (n c : Nat) (w : World) (hl : ps.length = n) (hr : Row w w.heap.size A ps) (hn : n ≤ 1048576) :
    Calls Tryz.prog 140 #[.agg #[.int .i64 m, .slice A n c], .agg #[.bool f, .int .i64 x1, .int .i64 x2, .int .i64 x3, .int .i64 x4]] w (Made2 m1 n1 ps1 (.int .i64 r) w) := by
  rcases h with ⟨hb, rfl, rfl, rfl, rfl⟩ | ⟨hv, rfl, hp, hx, rfl, rfl, rfl, rfl⟩ | ⟨k, hv, rfl, hp, hx, h4, rfl, rfl, rfl, rfl⟩
  · cases hv : blockB m ps
    · exact write_bad m A n c f x1 x2 x3 x4 ps w hl hr hn hv
    · rw [hv, Bool.true_and] at hb
      exact write_page m A n c f x1 x2 x3 x4 ps w hl hr hn hv hb
  · have hn4 := (block_parts hv).2.1.symm.trans hl
    subst hn4
    exact write_full _ A c x1 x2 x3 x4 _ w hr hv hp hx
  · have hn4 := (block_parts hv).2.1.symm.trans hl
    subst hn4
    exact write_at _ A c x1 x2 x3 x4 ps w hr hv hp hx h4
theorem specWrite_val {m : Int} {ps : List Pg} {f : Bool} {x1 x2 x3 x4 m1 : Int} {n1 : Nat} {ps1 : List Pg} {r : Int} (h : WriteIs m ps f x1 x2 x3 x4 m1 n1 ps1 r) (A : Option Addr) (n c : Nat) (w : World) (hl : ps.length = n) (hr : Row w w.heap.size A ps) (hn : n ≤ 1048576) :
    Calls Tryz.prog 117 #[.agg #[.int .i64 m, .slice A n c], .agg #[.bool f, .int .i64 x1, .int .i64 x2, .int .i64 x3, .int .i64 x4]] w (Made2 m1 n1 ps1 (.int .i64 r) w) := by
  rcases h with ⟨hb, rfl, rfl, rfl, rfl⟩ | ⟨hv, rfl, hp, hx, rfl, rfl, rfl, rfl⟩ | ⟨k, hv, rfl, hp, hx, h4, rfl, rfl, rfl, rfl⟩
  · cases hv : blockB m ps
    · exact specWrite_bad m A n c f x1 x2 x3 x4 ps w hl hr hn hv
    · rw [hv, Bool.true_and] at hb
      exact specWrite_page m A n c f x1 x2 x3 x4 ps w hl hr hn hv hb
  · have hn4 := (block_parts hv).2.1.symm.trans hl
    subst hn4
    exact specWrite_full _ A c x1 x2 x3 x4 _ w hr hv hp hx
  · have hn4 := (block_parts hv).2.1.symm.trans hl
    subst hn4
    exact specWrite_at _ A c x1 x2 x3 x4 ps w hr hv hp hx h4

section
variable {w wr w' : World} {t t' : TypeId} {V Vx D : Nat} {m mx : Int} {A Ax : Option Addr} {n c nx cx lo hi lox hix : Nat} {ps qs : List Pg} {cs : Array Value}
end
end Go.Proofs.YtolpnloghogjjaaGreat
