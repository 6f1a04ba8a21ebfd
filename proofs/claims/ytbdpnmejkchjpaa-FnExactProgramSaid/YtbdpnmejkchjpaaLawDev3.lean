/- What the exact law of NewDevice carries along. -/
import Derived.Test.YtbdpnmejkchjpaaLawDev2
import Derived.Test.YtbdpnmejkchjpaaDevices9
namespace Go.Proofs.Ytbdpnmejkchjpaa
open Go.ChangeShapes Go.WideShapes Go.ChangeAt Go.RowKit

theorem zs_tot (n : Nat) (h : n ≤ 12) : tot (zs n) ≤ 1048576 := by
  have e : tot (zs n) = n * 4 := by simp [tot, zs]
  omega
end Go.Proofs.Ytbdpnmejkchjpaa
