/- The exact laws' helpers for heads: toHeads, eqHeads. -/
import Derived.Test.YtpdkfgihpchkiaaHeads7
import Derived.Test.YtpdkfgihpchkiaaExactDev3
namespace Go.Proofs.Ytpdkfgihpchkiaa
open Go.ChangeShapes Go.WideShapes Go.ChangeAt Go.RowKit

theorem toHeads_any (a b h : Int) (w : World) :
    Calls Try.prog 40 #[.agg #[.int .i64 a, .int .i64 b, .int .i64 h]] w (KeptV (.agg #[.int .i64 a, .int .i64 b, .int .i64 h]) w) := by
  go_enter Try.func40, Try.ntmps40
  go_wp2
  exact bodyPost_ret (v := .agg #[.int .i64 a, .int .i64 b, .int .i64 h]) (by simp [results, Try.results40, go_sem]) rfl ⟨rfl, grown_alloc (grown_alloc (grown_alloc (grown_refl _ _) _) _) _⟩
theorem eqHeads_same (a b h : Int) (w : World) :
    Calls Try.prog 42 #[.agg #[.int .i64 a, .int .i64 b, .int .i64 h], .agg #[.int .i64 a, .int .i64 b, .int .i64 h]] w (KeptV (.bool true) w) := by
  go_enter Try.func42, Try.ntmps42
  go_wp2
  go_ret
  exact ⟨rfl, grown_alloc (grown_alloc (grown_refl _ _) _) _⟩
end Go.Proofs.Ytpdkfgihpchkiaa
