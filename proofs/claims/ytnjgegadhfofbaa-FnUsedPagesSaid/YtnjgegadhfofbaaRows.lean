/-
  No cell of these rows narrows 'for every input' (looked for: loops, veiled, ifaces, maps, wideKeys, modest, calm, conditions, laid).
  DERIVED. THE GIVEN ROWS OF THIS SEAT. 6 by the template 'for every input the law returns true; each argument reads behind the call as it read before'; 0 by the template 'total and deterministic' (their statements: YtnjgegadhfofbaaTotals.lean).
  GIVEN WITH THE SEED: the statements are not yours to turn. If you find one false, say at which input.
  Laid BY PROGRAM, IN A SANDBOX (cutbox-rows.mjs): the forced cells as the released guide's own fill.sh prints them over the translation 5e73fa5cd12bc433… (all of the seat's roots in one cut). By AI agents, Wed Nov 11 2026. No macro, syntax, notation, axiom, sorry.
-/
import Derived.Test.YtnjgegadhfofbaaChecked
import GoSem.Claim
import GoSem.ClaimJoined
import GoSem.ClaimMapViews
import Derived.JoinedTies
import Derived.KernelRfl
namespace Go.Proofs.Ytnjgegadhfofbaa
/- THE CELL 'sum', in the pinned program and in every row, IS THE sha256 OF THE DUMP (.gsa) THAT YtnjgegadhfofbaaProg.lean LOADS. Nothing in Lean hashes anything: it is a label: what it is worth is what the hold of that sum in a sandbox is worth. -/
noncomputable def Try.pinned : Pinned := { name := "ytnjgegadhfofbaa", sum := "5e73fa5cd12bc433180a9f6988d3bd4f0b98437e8c5a54a32478053ca6268cea", checked := Try.checked }
namespace Rows
def none {H : Type} : Left H := { results := [], args := [] }

/-- 'laws.FnUsedPages': WHATEVER THE INPUT: true; the input reads as it did. -/
def fnUsedPagesSpec : ChangeSpec := { name := "fnUsedPages", fn := fun _ => fun
  | [d] => { results := [.lit (.bool true)], args := [d] }
  | _ => none }
def fnUsedPagesRow : OpenClaim := { program := "ytnjgegadhfofbaa", sum := "5e73fa5cd12bc433180a9f6988d3bd4f0b98437e8c5a54a32478053ca6268cea", func := "loop.example/flashfiles/laws.FnUsedPages", spec := "fnUsedPages", apart := false }
def FnUsedPagesSaid : Prop := fnUsedPagesRow.holds Try.pinned (OpenSpec.ofChange fnUsedPagesSpec)

/-- ITS FALSE NEIGHBOUR: 'it returns false'. Refute it at one input. -/
def fnUsedPagesWrong : ChangeSpec := { name := "fnUsedPages", fn := fun _ => fun
  | [d] => { results := [.lit (.bool false)], args := [d] }
  | _ => none }
def FnUsedPagesWrongFalsely : Prop := fnUsedPagesRow.holds Try.pinned (OpenSpec.ofChange fnUsedPagesWrong)

/-- 'laws.FnBlockCounts': WHATEVER THE INPUT: true; the input reads as it did. -/
def fnBlockCountsSpec : ChangeSpec := { name := "fnBlockCounts", fn := fun _ => fun
  | [d] => { results := [.lit (.bool true)], args := [d] }
  | _ => none }
def fnBlockCountsRow : OpenClaim := { program := "ytnjgegadhfofbaa", sum := "5e73fa5cd12bc433180a9f6988d3bd4f0b98437e8c5a54a32478053ca6268cea", func := "loop.example/flashfiles/laws.FnBlockCounts", spec := "fnBlockCounts", apart := false }
def FnBlockCountsSaid : Prop := fnBlockCountsRow.holds Try.pinned (OpenSpec.ofChange fnBlockCountsSpec)

/-- ITS FALSE NEIGHBOUR: 'it returns false'. Refute it at one input. -/
def fnBlockCountsWrong : ChangeSpec := { name := "fnBlockCounts", fn := fun _ => fun
  | [d] => { results := [.lit (.bool false)], args := [d] }
  | _ => none }
def FnBlockCountsWrongFalsely : Prop := fnBlockCountsRow.holds Try.pinned (OpenSpec.ofChange fnBlockCountsWrong)

/-- 'laws.FnOldPages': WHATEVER THE INPUT: true; the input reads as it did. -/
def fnOldPagesSpec : ChangeSpec := { name := "fnOldPages", fn := fun _ => fun
  | [d] => { results := [.lit (.bool true)], args := [d] }
  | _ => none }
def fnOldPagesRow : OpenClaim := { program := "ytnjgegadhfofbaa", sum := "5e73fa5cd12bc433180a9f6988d3bd4f0b98437e8c5a54a32478053ca6268cea", func := "loop.example/flashfiles/laws.FnOldPages", spec := "fnOldPages", apart := false }
def FnOldPagesSaid : Prop := fnOldPagesRow.holds Try.pinned (OpenSpec.ofChange fnOldPagesSpec)

/-- ITS FALSE NEIGHBOUR: 'it returns false'. Refute it at one input. -/
def fnOldPagesWrong : ChangeSpec := { name := "fnOldPages", fn := fun _ => fun
  | [d] => { results := [.lit (.bool false)], args := [d] }
  | _ => none }
def FnOldPagesWrongFalsely : Prop := fnOldPagesRow.holds Try.pinned (OpenSpec.ofChange fnOldPagesWrong)

/-- 'laws.FnExactUsedPages': WHATEVER THE INPUT: true; the input reads as it did. -/
def fnExactUsedPagesSpec : ChangeSpec := { name := "fnExactUsedPages", fn := fun _ => fun
  | [d] => { results := [.lit (.bool true)], args := [d] }
  | _ => none }
def fnExactUsedPagesRow : OpenClaim := { program := "ytnjgegadhfofbaa", sum := "5e73fa5cd12bc433180a9f6988d3bd4f0b98437e8c5a54a32478053ca6268cea", func := "loop.example/flashfiles/laws.FnExactUsedPages", spec := "fnExactUsedPages", apart := false }
def FnExactUsedPagesSaid : Prop := fnExactUsedPagesRow.holds Try.pinned (OpenSpec.ofChange fnExactUsedPagesSpec)

/-- ITS FALSE NEIGHBOUR: 'it returns false'. Refute it at one input. -/
def fnExactUsedPagesWrong : ChangeSpec := { name := "fnExactUsedPages", fn := fun _ => fun
  | [d] => { results := [.lit (.bool false)], args := [d] }
  | _ => none }
def FnExactUsedPagesWrongFalsely : Prop := fnExactUsedPagesRow.holds Try.pinned (OpenSpec.ofChange fnExactUsedPagesWrong)

/-- 'laws.FnExactBlockCounts': WHATEVER THE INPUT: true; the input reads as it did. -/
def fnExactBlockCountsSpec : ChangeSpec := { name := "fnExactBlockCounts", fn := fun _ => fun
  | [d1, d2] => { results := [.lit (.bool true)], args := [d1, d2] }
  | _ => none }
def fnExactBlockCountsRow : OpenClaim := { program := "ytnjgegadhfofbaa", sum := "5e73fa5cd12bc433180a9f6988d3bd4f0b98437e8c5a54a32478053ca6268cea", func := "loop.example/flashfiles/laws.FnExactBlockCounts", spec := "fnExactBlockCounts", apart := false }
def FnExactBlockCountsSaid : Prop := fnExactBlockCountsRow.holds Try.pinned (OpenSpec.ofChange fnExactBlockCountsSpec)

/-- ITS FALSE NEIGHBOUR: 'it returns false'. Refute it at one input. -/
def fnExactBlockCountsWrong : ChangeSpec := { name := "fnExactBlockCounts", fn := fun _ => fun
  | [d1, d2] => { results := [.lit (.bool false)], args := [d1, d2] }
  | _ => none }
def FnExactBlockCountsWrongFalsely : Prop := fnExactBlockCountsRow.holds Try.pinned (OpenSpec.ofChange fnExactBlockCountsWrong)

/-- 'laws.FnExactOldPages': WHATEVER THE INPUT: true; the input reads as it did. -/
def fnExactOldPagesSpec : ChangeSpec := { name := "fnExactOldPages", fn := fun _ => fun
  | [d1, d2] => { results := [.lit (.bool true)], args := [d1, d2] }
  | _ => none }
def fnExactOldPagesRow : OpenClaim := { program := "ytnjgegadhfofbaa", sum := "5e73fa5cd12bc433180a9f6988d3bd4f0b98437e8c5a54a32478053ca6268cea", func := "loop.example/flashfiles/laws.FnExactOldPages", spec := "fnExactOldPages", apart := false }
def FnExactOldPagesSaid : Prop := fnExactOldPagesRow.holds Try.pinned (OpenSpec.ofChange fnExactOldPagesSpec)

/-- ITS FALSE NEIGHBOUR: 'it returns false'. Refute it at one input. -/
def fnExactOldPagesWrong : ChangeSpec := { name := "fnExactOldPages", fn := fun _ => fun
  | [d1, d2] => { results := [.lit (.bool false)], args := [d1, d2] }
  | _ => none }
def FnExactOldPagesWrongFalsely : Prop := fnExactOldPagesRow.holds Try.pinned (OpenSpec.ofChange fnExactOldPagesWrong)

/- THE SECOND FORM. 'bulk': how many values and letters a reading holds, each counted each time it is reached (what is shared counts as often as it is met; a slice's spare places count too). A statement '..UptoSaid' is the law's where the arguments, and the package variables that the reading takes, are together of bulk at most 1048576: NARROWER than '..Said'. Prove '..Said' where nothing that the law and all that it calls make is longer than what came in: it says more and counts as full. Else prove '..UptoSaid'. A law counts once. -/
mutual
def uptoBulk {H : Type} : DataW H → Nat
  | .lit (.string bytes) => bytes.length + 1
  | .lit _ => 1
  | .nil => 1
  | .ptr d => uptoBulk d + 1
  | .slice elems spare => uptoBulkAll elems + uptoBulkAll spare + 1
  | .agg parts => uptoBulkAll parts + 1
  | .iface _ d => uptoBulk d + 1
  | .map entries => uptoBulkEntries entries + 1
  | .held _ => 1
def uptoBulkAll {H : Type} : List (DataW H) → Nat
  | [] => 0
  | d :: r => uptoBulk d + uptoBulkAll r
def uptoBulkEntries {H : Type} : List (Lit × DataW H) → Nat
  | [] => 0
  | x :: r => uptoBulkEntry x + uptoBulkEntries r
def uptoBulkEntry {H : Type} : Lit × DataW H → Nat
  | (.string bytes, d) => bytes.length + uptoBulk d + 1
  | (_, d) => uptoBulk d + 1
 end
def uptoSmall : (H : Type) → List (DataW H) → Bool := fun _ ds => decide (uptoBulkAll ds ≤ 1048576)
def OpenSpec.upto (s : _root_.Go.ChangeSpec) : _root_.Go.OpenSpec := { _root_.Go.OpenSpec.ofChange s with cond := some uptoSmall }

/-- 'laws.FnUsedPages', WHERE WHAT IT READS IS OF BULK AT MOST 1048576: true; the input reads as it did. -/
def fnUsedPagesUptoRow : OpenClaim := { program := "ytnjgegadhfofbaa", sum := "5e73fa5cd12bc433180a9f6988d3bd4f0b98437e8c5a54a32478053ca6268cea", func := "loop.example/flashfiles/laws.FnUsedPages", spec := "fnUsedPages", apart := false, narrowed := true }
def FnUsedPagesUptoSaid : Prop := fnUsedPagesUptoRow.holds Try.pinned (OpenSpec.upto fnUsedPagesSpec)

/-- 'laws.FnBlockCounts', WHERE WHAT IT READS IS OF BULK AT MOST 1048576: true; the input reads as it did. -/
def fnBlockCountsUptoRow : OpenClaim := { program := "ytnjgegadhfofbaa", sum := "5e73fa5cd12bc433180a9f6988d3bd4f0b98437e8c5a54a32478053ca6268cea", func := "loop.example/flashfiles/laws.FnBlockCounts", spec := "fnBlockCounts", apart := false, narrowed := true }
def FnBlockCountsUptoSaid : Prop := fnBlockCountsUptoRow.holds Try.pinned (OpenSpec.upto fnBlockCountsSpec)

/-- 'laws.FnOldPages', WHERE WHAT IT READS IS OF BULK AT MOST 1048576: true; the input reads as it did. -/
def fnOldPagesUptoRow : OpenClaim := { program := "ytnjgegadhfofbaa", sum := "5e73fa5cd12bc433180a9f6988d3bd4f0b98437e8c5a54a32478053ca6268cea", func := "loop.example/flashfiles/laws.FnOldPages", spec := "fnOldPages", apart := false, narrowed := true }
def FnOldPagesUptoSaid : Prop := fnOldPagesUptoRow.holds Try.pinned (OpenSpec.upto fnOldPagesSpec)

/-- 'laws.FnExactUsedPages', WHERE WHAT IT READS IS OF BULK AT MOST 1048576: true; the input reads as it did. -/
def fnExactUsedPagesUptoRow : OpenClaim := { program := "ytnjgegadhfofbaa", sum := "5e73fa5cd12bc433180a9f6988d3bd4f0b98437e8c5a54a32478053ca6268cea", func := "loop.example/flashfiles/laws.FnExactUsedPages", spec := "fnExactUsedPages", apart := false, narrowed := true }
def FnExactUsedPagesUptoSaid : Prop := fnExactUsedPagesUptoRow.holds Try.pinned (OpenSpec.upto fnExactUsedPagesSpec)

/-- 'laws.FnExactBlockCounts', WHERE WHAT IT READS IS OF BULK AT MOST 1048576: true; the input reads as it did. -/
def fnExactBlockCountsUptoRow : OpenClaim := { program := "ytnjgegadhfofbaa", sum := "5e73fa5cd12bc433180a9f6988d3bd4f0b98437e8c5a54a32478053ca6268cea", func := "loop.example/flashfiles/laws.FnExactBlockCounts", spec := "fnExactBlockCounts", apart := false, narrowed := true }
def FnExactBlockCountsUptoSaid : Prop := fnExactBlockCountsUptoRow.holds Try.pinned (OpenSpec.upto fnExactBlockCountsSpec)

/-- 'laws.FnExactOldPages', WHERE WHAT IT READS IS OF BULK AT MOST 1048576: true; the input reads as it did. -/
def fnExactOldPagesUptoRow : OpenClaim := { program := "ytnjgegadhfofbaa", sum := "5e73fa5cd12bc433180a9f6988d3bd4f0b98437e8c5a54a32478053ca6268cea", func := "loop.example/flashfiles/laws.FnExactOldPages", spec := "fnExactOldPages", apart := false, narrowed := true }
def FnExactOldPagesUptoSaid : Prop := fnExactOldPagesUptoRow.holds Try.pinned (OpenSpec.upto fnExactOldPagesSpec)

end Rows
end Go.Proofs.Ytnjgegadhfofbaa
