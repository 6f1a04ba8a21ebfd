/- What the model draws for chapter 13: a device, a table and heads.
   What the model draws for chapter 13, further: numbers of used pages and ages; a device, a table, heads and a time.
   What the model draws for chapter 13, further: a device, a table, heads and a time.
   Plain facts that the laws of chapter 13 ask. -/
import Derived.Test.YtolpnloghogjjaaGreatZDrawCounts
import Derived.Test.YtolpnloghogjjaaGreatZDag
import Derived.Test.YtolpnloghogjjaaGreatZVicts
import Derived.Test.YtolpnloghogjjaaGreatZCountFacts
namespace Go.Proofs.YtolpnloghogjjaaGreat
open Go.ChangeShapes Go.WideShapes Go.ChangeAt Go.RowKit
set_option linter.unusedVariables false
set_option linter.unusedSimpArgs false

section
variable {w wr w' : World} {B g Q Q' : Nat}
end
/-- A device and a table in blocks from lo on, a reader (v: that still reads) behind the first blocks of the call, and nothing that was there is written. -/
def BV (w : World) (B g Q : Nat) (v : Bool) (lo : Nat) (D : Option Addr) (nd : Nat) (bs : List Bk) (A : Option Addr) (n : Nat) (ls : List Li) (wr : World) : Prop :=
  (bs.length = nd ∧ nd ≤ 13 ∧ ∀ q, q ∈ bs → q.ps.length ≤ 4) ∧ (ls.length = n ∧ n ≤ 8 ∧ ∀ l, l ∈ ls → l.xs.length ≤ 6) ∧ (DZ lo wr.heap.size D bs wr ∧ TRow wr wr.heap.size A ls ∧ TFar lo A ls) ∧ Below w.heap.size w wr ∧ (v = true → Rd wr B g Q) ∧ w.heap.size + 2 ≤ g ∧ g < lo ∧ lo ≤ wr.heap.size
section
variable {w wr w' : World} {B g Q Q' lo nd n : Nat} {v : Bool} {D A : Option Addr} {bs : List Bk} {ls : List Li}
theorem BV.rd (H : BV w B g Q true lo D nd bs A n ls wr) : Rd wr B g Q := H.2.2.2.2.1 rfl
theorem BV.far (H : BV w B g Q v lo D nd bs A n ls wr) : w.heap.size + 2 ≤ g := H.2.2.2.2.2.1
theorem BV.fresh (H : BV w B g Q v lo D nd bs A n ls wr) : wr.heap.size ≠ g ∧ w.heap.size + 2 ≤ wr.heap.size := by
  obtain ⟨_, _, _, _, _, h9, h10, h11⟩ := H
  exact ⟨by omega, by omega⟩
theorem DZ.moreHi {lo hi hi' : Nat} (h : DZ lo hi D bs wr) (hh : hi ≤ hi') : DZ lo hi' D bs wr := ⟨h.1.more hh, h.2⟩
theorem BV.grown (H : BV w B g Q v lo D nd bs A n ls wr) (hg : wr.grownBy w' (some g)) (hr : Rd w' B g Q') : BV w B g Q' v lo D nd bs A n ls w' := by
  obtain ⟨h1, h2, ⟨h3, h4, h5⟩, h6, h7, h9, h10, h11⟩ := H
  have hz := hg.size
  exact ⟨h1, h2, ⟨(h3.grown hg (fun k e => by injection e with e; omega)).moreHi hz, (h4.grownLo h5 hg h10).here, h5⟩, h6.trans (Below.of_grown hg (by omega) h6.size), fun _ => hr, h9, h10, by omega⟩
theorem BV.kept (H : BV w B g Q v lo D nd bs A n ls wr) (hg : wr.grownBy w' none) : BV w B g Q v lo D nd bs A n ls w' := by
  obtain ⟨h1, h2, ⟨h3, h4, h5⟩, h6, h7, h9, h10, h11⟩ := H
  have hz := hg.size
  exact ⟨h1, h2, ⟨(h3.grown hg (fun k e => by cases e)).moreHi hz, (h4.kept hg).here, h5⟩, Below.and_kept h6 hg, fun e => (h7 e).grown hg (by intro k e; cases e), h9, h10, by omega⟩
theorem BV.put (H : BV w B g Q v lo D nd bs A n ls wr) {p : Addr} (hp : p.block = w.heap.size ∨ p.block = w.heap.size + 1) (u : Value) : BV w B g Q false lo D nd bs A n ls (wr.setCell p u) := by
  obtain ⟨h1, h2, ⟨h3, h4, h5⟩, h6, h7, h9, h10, h11⟩ := H
  have hs : (wr.setCell p u).heap.size = wr.heap.size := by simp [World.setCell]
  refine ⟨h1, h2, ⟨?_, ?_, h5⟩, h6.setCell (by omega) u, fun e => (by cases e), h9, h10, by rw [hs]; exact h11⟩
  · rw [hs]; exact h3.put (.inl (by omega)) u
  · rw [hs]; exact h4.putLo h5 (by omega) u
theorem BV.pair (H : BV w B g Q v lo D nd bs A n ls wr) : Pair12 w D nd bs A n ls wr := by
  obtain ⟨h1, h2, ⟨h3, h4, h5⟩, h6, h7, h9, h10, h11⟩ := H
  exact ⟨h1, h2, ⟨h3.1, fun ad e => by have := h3.2.1 ad e; omega, fun q ad hq e => by have := h3.2.2 q ad hq e; omega⟩, h4, h5.more (by omega), h6⟩
/-- What l20Both has drawn, with the blocks ahead of it. -/
theorem BV.start {w1 w2 : World} (hb : Below w.heap.size w w1) (h0 : w.heap.size + 2 ≤ g) (hgl : g < w1.heap.size) (h1 : bs.length = nd ∧ nd ≤ 13 ∧ ∀ q, q ∈ bs → q.ps.length ≤ 4) (h2 : DZ w1.heap.size w2.heap.size D bs w2) (h3 : ls.length = n ∧ n ≤ 8 ∧ ∀ l, l ∈ ls → l.xs.length ≤ 6) (h4 : TRow w2 w2.heap.size A ls) (h5 : TFar w1.heap.size A ls) (h6 : Rd w2 B g Q) (h7 : w1.grownBy w2 (some g)) :
    BV w B g Q true w1.heap.size D nd bs A n ls w2 :=
  ⟨h1, h3, ⟨h2, h4, h5⟩, hb.trans (Below.of_grown h7 (by omega) hb.size), fun _ => h6, h0, hgl, h7.size⟩
end
end Go.Proofs.YtolpnloghogjjaaGreat
namespace Go.Proofs.YtolpnloghogjjaaGreat
open Go.ChangeShapes Go.WideShapes Go.ChangeAt Go.RowKit
set_option linter.unusedVariables false
set_option linter.unusedSimpArgs false

theorem litV4 (z : Nat) (h : z < 4) (a b d e : Int) : ∃ v : Int, (#[Value.int .i64 a, .int .i64 b, .int .i64 d, .int .i64 e] : Array Value)[z]? = some (.int .i64 v) := by
  have h1 : z = 0 ∨ z = 1 ∨ z = 2 ∨ z = 3 := by omega
  rcases h1 with rfl | rfl | rfl | rfl
  · exact ⟨a, rfl⟩
  · exact ⟨b, rfl⟩
  · exact ⟨d, rfl⟩
  · exact ⟨e, rfl⟩
end Go.Proofs.YtolpnloghogjjaaGreat
namespace Go.Proofs.YtolpnloghogjjaaGreat
open Go.ChangeShapes Go.WideShapes Go.ChangeAt Go.RowKit
set_option linter.unusedVariables false
set_option linter.unusedSimpArgs false

end Go.Proofs.YtolpnloghogjjaaGreat
namespace Go.Proofs.YtolpnloghogjjaaGreat
open Go.ChangeShapes Go.WideShapes Go.ChangeAt Go.RowKit
set_option linter.unusedVariables false

end Go.Proofs.YtolpnloghogjjaaGreat
