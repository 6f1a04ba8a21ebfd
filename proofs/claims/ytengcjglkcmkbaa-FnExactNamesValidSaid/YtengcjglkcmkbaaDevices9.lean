/- What the program's functions of chapter 5 answer, further: copyDevice, NewDevice.
   What chapter 5 answers, further: EraseAt of both. -/
import Derived.Test.YtengcjglkcmkbaaExactDev
import Derived.Test.YtengcjglkcmkbaaDevices6
namespace Go.Proofs.Ytengcjglkcmkbaa
open Go.ChangeShapes Go.WideShapes Go.ChangeAt Go.RowKit

/-- A new device of n blocks. -/
def zs (n : Nat) : List Bk := List.replicate n ⟨0, none, 0, [pz, pz, pz, pz]⟩
theorem zs_at {n k : Nat} (h : k < n) : (zs n)[k]? = some ⟨0, none, 0, [pz, pz, pz, pz]⟩ := by simp [zs, h]
theorem zs_length (n : Nat) : (zs n).length = n := by simp [zs]
end Go.Proofs.Ytengcjglkcmkbaa
namespace Go.Proofs.Ytengcjglkcmkbaa
open Go.ChangeShapes Go.WideShapes Go.ChangeAt Go.RowKit

/-- There is such a block. -/
def hasB (n : Nat) (a : Int) : Bool := decide (0 ≤ a) && decide (a < (n : Int))
theorem hasB_in {n : Nat} {a : Int} (h : hasB n a = false) : inB a 0 ((n : Int) - 1) = false := by
  cases h2 : inB a 0 ((n : Int) - 1)
  · rfl
  · obtain ⟨h3, h4⟩ := inB_iff.1 h2
    simp [hasB] at h
    omega
end Go.Proofs.Ytengcjglkcmkbaa
