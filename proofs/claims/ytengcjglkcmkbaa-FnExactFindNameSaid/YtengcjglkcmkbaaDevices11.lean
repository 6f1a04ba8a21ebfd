/- What chapter 5 answers, further: Program of the program.
   What chapter 5 answers, further: Program of the model.
   What chapter 5 answers, further: Program of other arguments. -/
import Derived.Test.YtengcjglkcmkbaaDevices9
import Derived.Test.YtengcjglkcmkbaaLawExact
namespace Go.Proofs.Ytengcjglkcmkbaa
open Go.ChangeShapes Go.WideShapes Go.ChangeAt Go.RowKit

/-- Block k of a device, of four pages. -/
def BAt (bs : List Bk) (k : Nat) (m : Int) (Ab : Option Addr) (cb : Nat) (ps : List Pg) : Prop := bs[k]? = some ⟨m, Ab, cb, ps⟩ ∧ ps.length = 4
section
variable {w wr w' : World} {A : Option Addr} {bs : List Bk} {x1 x2 x3 x4 : Int}
end
theorem write_len {m : Int} {ps ps1 : List Pg} {x1 x2 x3 x4 r : Int} (h : WriteIs m ps true x1 x2 x3 x4 m 4 ps1 r) (hp : ps.length = 4) : ps1.length = 4 := by
  rcases h with ⟨_, _, h4, _⟩ | ⟨_, _, _, _, _, _, rfl, _⟩ | ⟨k, _, _, _, _, _, _, _, rfl, _⟩
  · omega
  · exact hp
  · rw [List.length_set]; exact hp
/-- The number that Program tells. -/
def progV (k : Nat) (r : Int) : Int := if r < 0 then -1 else (k : Int) * 4 + r
theorem progV_pos (k : Nat) {r : Int} (h : 0 ≤ r) : progV k r = (k : Int) * 4 + r := by
  unfold progV
  rw [if_neg (by omega)]
end Go.Proofs.Ytengcjglkcmkbaa
namespace Go.Proofs.Ytengcjglkcmkbaa
open Go.ChangeShapes Go.WideShapes Go.ChangeAt Go.RowKit

end Go.Proofs.Ytengcjglkcmkbaa
namespace Go.Proofs.Ytengcjglkcmkbaa
open Go.ChangeShapes Go.WideShapes Go.ChangeAt Go.RowKit

theorem hasB_iff {n : Nat} {a : Int} (h : hasB n a = true) : 0 ≤ a ∧ a ≤ (n : Int) - 1 := by
  simp [hasB] at h
  omega
end Go.Proofs.Ytengcjglkcmkbaa
