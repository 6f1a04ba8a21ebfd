/- The exact laws' helpers for heads: toHeads, eqHeads. -/
import Derived.Test.YtjknfofdjkjnpaaHeads7
import Derived.Test.YtjknfofdjkjnpaaExactDev3
namespace Go.Proofs.Ytjknfofdjkjnpaa
open Go.ChangeShapes Go.WideShapes Go.ChangeAt Go.RowKit

theorem toHeads_any (a b h : Int) (w : World) :
    Calls Try.prog 26 #[.agg #[.int .i64 a, .int .i64 b, .int .i64 h]] w (KeptV (.agg #[.int .i64 a, .int .i64 b, .int .i64 h]) w) := by
  go_enter Try.func26, Try.ntmps26
  go_wp2
  exact bodyPost_ret (v := .agg #[.int .i64 a, .int .i64 b, .int .i64 h]) (by simp [results, Try.results26, go_sem]) rfl ⟨rfl, grown_alloc (grown_alloc (grown_alloc (grown_refl _ _) _) _) _⟩
end Go.Proofs.Ytjknfofdjkjnpaa
