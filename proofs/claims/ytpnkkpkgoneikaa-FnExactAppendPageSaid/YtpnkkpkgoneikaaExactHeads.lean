/- The exact laws' helpers for heads: toHeads, eqHeads. -/
import Derived.Test.YtpnkkpkgoneikaaHeads7
import Derived.Test.YtpnkkpkgoneikaaLawDev
namespace Go.Proofs.Ytpnkkpkgoneikaa
open Go.ChangeShapes Go.WideShapes Go.ChangeAt Go.RowKit

theorem toHeads_any (a b h : Int) (w : World) :
    Calls Try.prog 31 #[.agg #[.int .i64 a, .int .i64 b, .int .i64 h]] w (KeptV (.agg #[.int .i64 a, .int .i64 b, .int .i64 h]) w) := by
  go_enter Try.func31, Try.ntmps31
  go_wp2
  exact bodyPost_ret (v := .agg #[.int .i64 a, .int .i64 b, .int .i64 h]) (by simp [results, Try.results31, go_sem]) rfl ⟨rfl, grown_alloc (grown_alloc (grown_alloc (grown_refl _ _) _) _) _⟩
theorem eqHeads_same (a b h : Int) (w : World) :
    Calls Try.prog 34 #[.agg #[.int .i64 a, .int .i64 b, .int .i64 h], .agg #[.int .i64 a, .int .i64 b, .int .i64 h]] w (KeptV (.bool true) w) := by
  go_enter Try.func34, Try.ntmps34
  go_wp2
  go_ret
  exact ⟨rfl, grown_alloc (grown_alloc (grown_refl _ _) _) _⟩
end Go.Proofs.Ytpnkkpkgoneikaa
