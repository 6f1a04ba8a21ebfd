/- What the model draws for chapter 5: DrawFreePages; a drawn device while a law walks. -/
import Derived.Test.YtbhbbfpafonaiaaDrawDev3
namespace Go.Proofs.Ytbhbbfpafonaiaa
open Go.ChangeShapes Go.WideShapes Go.ChangeAt Go.RowKit

/-- A device is drawn out of a code: nothing that was there is written. -/
def DevDrawn (w : World) (e : Ending) (w' : World) : Prop :=
  ∃ (A : Option Addr) (n c : Nat) (bs : List Bk), e = .returned (.slice A n c) ∧ bs.length = n ∧ n ≤ 13 ∧ (∀ q, q ∈ bs → q.ps.length ≤ 4) ∧ DRow w' w'.heap.size A bs ∧ Below w.heap.size w w'
theorem free_val {A : Option Addr} {n c V : Nat} {cs : List Bk} {w : World} (hl : cs.length = n) (hr : DRow w w.heap.size A cs) (hd : devB cs = true) (hV : freeV cs = V) :
    Calls Try.prog 17 #[.slice A n c] w (KeptV (.int .i64 V) w) := by
  subst hV
  exact freePages_yes A n c cs w hl hr hd
/-- A drawn device while the law walks on. -/
def LD (w : World) (A : Option Addr) (bs : List Bk) (wr : World) : Prop := DRow wr wr.heap.size A bs ∧ Below w.heap.size w wr
theorem LD.keep {w wr w' : World} {A : Option Addr} {bs : List Bk} (h : LD w A bs wr) (k : wr.grownBy w' none) : LD w A bs w' := ⟨(h.1.kept k).here, Below.and_kept h.2 k⟩
theorem LD.alloc {w wr : World} {A : Option Addr} {bs : List Bk} (h : LD w A bs wr) (o : Obj) : LD w A bs (wr.alloc o) := h.keep (grown_alloc (grown_refl _ _) o)
end Go.Proofs.Ytbhbbfpafonaiaa
