/- The exact laws' helpers for heads: toHeads, eqHeads. -/
import Derived.Test.YtolpnloghogjjaaGreatHeads7
import Derived.Test.YtolpnloghogjjaaGreatExactDev3
namespace Go.Proofs.YtolpnloghogjjaaGreat
open Go.ChangeShapes Go.WideShapes Go.ChangeAt Go.RowKit

theorem toHeads_any (a b h : Int) (w : World) :
    Calls Tryz.prog 20 #[.agg #[.int .i64 a, .int .i64 b, .int .i64 h]] w (KeptV (.agg #[.int .i64 a, .int .i64 b, .int .i64 h]) w) := by
  go_enter Tryz.func20, Tryz.ntmps20
  go_wp2
  exact bodyPost_ret (v := .agg #[.int .i64 a, .int .i64 b, .int .i64 h]) (by simp [results, Tryz.results20, go_sem]) rfl ⟨rfl, grown_alloc (grown_alloc (grown_alloc (grown_refl _ _) _) _) _⟩
theorem eqHeads_same (a b h : Int) (w : World) :
    Calls Tryz.prog 23 #[.agg #[.int .i64 a, .int .i64 b, .int .i64 h], .agg #[.int .i64 a, .int .i64 b, .int .i64 h]] w (KeptV (.bool true) w) := by
  go_enter Tryz.func23, Tryz.ntmps23
  go_wp2
  go_ret
  exact ⟨rfl, grown_alloc (grown_alloc (grown_refl _ _) _) _⟩
end Go.Proofs.YtolpnloghogjjaaGreat
