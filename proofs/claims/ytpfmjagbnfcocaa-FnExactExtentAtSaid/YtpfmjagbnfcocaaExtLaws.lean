/- The contracts of chapter 9, told by letters, for its laws. -/
import Derived.Test.YtpfmjagbnfcocaaPairLaw
import Derived.Test.YtpfmjagbnfcocaaExtImpl
namespace Go.Proofs.Ytpfmjagbnfcocaa
open Go.ChangeShapes Go.WideShapes Go.ChangeAt Go.RowKit
set_option linter.unusedVariables false

theorem pmarkExtent_val {w wr : World} {A : Option Addr} {n c lo hi : Nat} {xs : List Pr} {v : Int} (hv : v = ((1 + 2 * n : Nat) : Int)) (h : VP w 27 A n c xs lo hi wr) (hn : n ≤ 1048576) :
    Calls Try.prog 32 #[.slice A n c, .int .i64 1] wr fun e w' => e = .returned (.int .i64 v) ∧ POwn w' lo 27 (.slice A n c) (pmarks 1 n) ∧ Out lo hi wr w' := by
  subst hv
  refine (markExtentS_any A n c 1 lo xs wr h.2.1 h.1 hn (by omega)).mono ?_
  rintro e w' ⟨rfl, ho, hk⟩
  exact ⟨rfl, ho, h.out hk⟩
theorem pheldExtent_val {w wr : World} {A : Option Addr} {n c lo hi : Nat} {v : Int} (hv : v = ((1 + 2 * n : Nat) : Int)) (h : VP w 27 A n c (pmarks 1 n) lo hi wr) (hn : n ≤ 1048576) :
    Calls Try.prog 33 #[.slice A n c, .int .i64 1] wr (KeptV (.int .i64 v) wr) := by
  subst hv
  refine (heldExtentS_any A n c 1 wr h.row hn (by omega)).mono ?_
  rintro e w' ⟨rfl, rfl⟩
  exact ⟨rfl, grown_refl _ _⟩
/-- So many extents, in memory of their own, and whether it is possible. -/
def PMadeN2 (X : List Pr) (m : Nat) (r : Bool) (w : World) (e : Ending) (w' : World) : Prop := ∃ (A : Option Addr) (c : Nat), e = .returned (.tuple #[.slice A m c, .bool r]) ∧ X.length = m ∧ POwn w' w.heap.size 27 (.slice A m c) X ∧ w.grownBy w' none
theorem PMade2.to {X : List Pr} {m : Nat} {r : Bool} {w w' : World} {e : Ending} (h : PMade2 X r w e w') (hl : X.length = m) : PMadeN2 X m r w e w' := by
  obtain ⟨A, n, c, h1, h2, h3⟩ := h
  obtain rfl : n = m := by rw [← h2, ← hl]
  exact ⟨A, c, h1, h2, h3⟩
section
variable {A : Option Addr} {n c m : Nat} {ps X : List Pr} {xs Y : List Int} {x V : Int} {r : Bool} {w : World}
theorem specExtAt_val (h : exAtV ps x = V) (hl : ps.length = n) (hr : PRow w w.heap.size A ps) (hn : n ≤ 1048576) (hx : -9223372036854775808 ≤ x ∧ x ≤ 9223372036854775807) :
    Calls Try.prog 25 #[.slice A n c, .int .i64 x] w (KeptV (.int .i64 V) w) := h ▸ specExtAt_any A n c ps x w hl hr hn hx.2
theorem extAt_val (h : exAtV ps x = V) (hl : ps.length = n) (hr : PRow w w.heap.size A ps) (hn : n ≤ 1048576) (hx : -9223372036854775808 ≤ x ∧ x ≤ 9223372036854775807) :
    Calls Try.prog 24 #[.slice A n c, .int .i64 x] w (KeptV (.int .i64 V) w) := h ▸ extAt_any A n c ps x w hl hr hn hx
theorem specExtList_val (h : exListV ps = Y) (hY : Y.length = m) (hl : ps.length = n) (hr : PRow w w.heap.size A ps) (hn : n ≤ 1048576) :
    Calls Try.prog 22 #[.slice A n c] w (IMadeN Y m w) := (specExtList_any A n c ps w hl hr hn).mono fun _ _ q => by rw [h] at q; exact q.to hY
theorem extList_val (h : exListV ps = Y) (hY : Y.length = m) (hl : ps.length = n) (hr : PRow w w.heap.size A ps) (hn : n ≤ 1048576) :
    Calls Try.prog 20 #[.slice A n c] w (IMadeN Y m w) := (extList_any A n c ps w hl hr hn).mono fun _ _ q => by rw [h] at q; exact q.to hY
theorem specExtOf_val (h : exOfV xs = (X, r)) (hX : X.length = m) (hl : xs.length = n) (hr : IRow w w.heap.size A xs) (hn : n ≤ 1048576) (hx : ∀ x, x ∈ xs → -9223372036854775808 ≤ x ∧ x ≤ 9223372036854775807) :
    Calls Try.prog 17 #[.slice A n c] w (PMadeN2 X m r w) := (specExtOf_any A n c xs w hl hr hn hx).mono fun _ _ q => by rw [h] at q; exact q.to hX
theorem extOf_val (h : exOfV xs = (X, r)) (hX : X.length = m) (hl : xs.length = n) (hr : IRow w w.heap.size A xs) (hn : n ≤ 1048576) (hx : ∀ x, x ∈ xs → -9223372036854775808 ≤ x ∧ x ≤ 9223372036854775807) :
    Calls Try.prog 16 #[.slice A n c] w (PMadeN2 X m r w) := (extOf_any A n c xs w hl hr hn hx).mono fun _ _ q => by rw [h] at q; exact q.to hX
end
end Go.Proofs.Ytpfmjagbnfcocaa
