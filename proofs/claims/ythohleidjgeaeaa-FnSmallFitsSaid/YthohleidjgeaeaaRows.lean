/-
  No cell of these rows narrows 'for every input' (looked for: loops, veiled, ifaces, maps, wideKeys, modest, calm, conditions, laid).
  DERIVED. THE GIVEN ROWS OF THIS SEAT. 6 by the template 'for every input the law returns true; each argument reads behind the call as it read before'; 0 by the template 'total and deterministic' (their statements: YthohleidjgeaeaaTotals.lean).
  GIVEN WITH THE SEED: the statements are not yours to turn. If you find one false, say at which input.
  Laid BY PROGRAM, IN A SANDBOX (cutbox-rows.mjs): the forced cells as the released guide's own fill.sh prints them over the translation f8939baede7257ad… (all of the seat's roots in one cut). By AI agents, Wed Nov 11 2026. No macro, syntax, notation, axiom, sorry.
-/
import Derived.Test.YthohleidjgeaeaaChecked
import GoSem.Claim
import GoSem.ClaimJoined
import GoSem.ClaimMapViews
import Derived.JoinedTies
import Derived.KernelRfl
namespace Go.Proofs.Ythohleidjgeaeaa
/- THE CELL 'sum', in the pinned program and in every row, IS THE sha256 OF THE DUMP (.gsa) THAT YthohleidjgeaeaaProg.lean LOADS. Nothing in Lean hashes anything: it is a label: what it is worth is what the hold of that sum in a sandbox is worth. -/
noncomputable def Try.pinned : Pinned := { name := "ythohleidjgeaeaa", sum := "f8939baede7257ade473e5b266f7ffc979de0fbd84132923c036b1144eb26d64", checked := Try.checked }
namespace Rows
def none {H : Type} : Left H := { results := [], args := [] }

/-- 'laws.FnSmallFits': WHATEVER THE INPUT: true; the input reads as it did. -/
def fnSmallFitsSpec : ChangeSpec := { name := "fnSmallFits", fn := fun _ => fun
  | [d] => { results := [.lit (.bool true)], args := [d] }
  | _ => none }
def fnSmallFitsRow : OpenClaim := { program := "ythohleidjgeaeaa", sum := "f8939baede7257ade473e5b266f7ffc979de0fbd84132923c036b1144eb26d64", func := "loop.example/flashfiles/laws.FnSmallFits", spec := "fnSmallFits", apart := false }
def FnSmallFitsSaid : Prop := fnSmallFitsRow.holds Try.pinned (OpenSpec.ofChange fnSmallFitsSpec)

/-- ITS FALSE NEIGHBOUR: 'it returns false'. Refute it at one input. -/
def fnSmallFitsWrong : ChangeSpec := { name := "fnSmallFits", fn := fun _ => fun
  | [d] => { results := [.lit (.bool false)], args := [d] }
  | _ => none }
def FnSmallFitsWrongFalsely : Prop := fnSmallFitsRow.holds Try.pinned (OpenSpec.ofChange fnSmallFitsWrong)

/-- 'laws.FnPackSmall': WHATEVER THE INPUT: true; the input reads as it did. -/
def fnPackSmallSpec : ChangeSpec := { name := "fnPackSmall", fn := fun _ => fun
  | [d] => { results := [.lit (.bool true)], args := [d] }
  | _ => none }
def fnPackSmallRow : OpenClaim := { program := "ythohleidjgeaeaa", sum := "f8939baede7257ade473e5b266f7ffc979de0fbd84132923c036b1144eb26d64", func := "loop.example/flashfiles/laws.FnPackSmall", spec := "fnPackSmall", apart := false }
def FnPackSmallSaid : Prop := fnPackSmallRow.holds Try.pinned (OpenSpec.ofChange fnPackSmallSpec)

/-- ITS FALSE NEIGHBOUR: 'it returns false'. Refute it at one input. -/
def fnPackSmallWrong : ChangeSpec := { name := "fnPackSmall", fn := fun _ => fun
  | [d] => { results := [.lit (.bool false)], args := [d] }
  | _ => none }
def FnPackSmallWrongFalsely : Prop := fnPackSmallRow.holds Try.pinned (OpenSpec.ofChange fnPackSmallWrong)

/-- 'laws.FnUnpackSmall': WHATEVER THE INPUT: true; the input reads as it did. -/
def fnUnpackSmallSpec : ChangeSpec := { name := "fnUnpackSmall", fn := fun _ => fun
  | [d] => { results := [.lit (.bool true)], args := [d] }
  | _ => none }
def fnUnpackSmallRow : OpenClaim := { program := "ythohleidjgeaeaa", sum := "f8939baede7257ade473e5b266f7ffc979de0fbd84132923c036b1144eb26d64", func := "loop.example/flashfiles/laws.FnUnpackSmall", spec := "fnUnpackSmall", apart := false }
def FnUnpackSmallSaid : Prop := fnUnpackSmallRow.holds Try.pinned (OpenSpec.ofChange fnUnpackSmallSpec)

/-- ITS FALSE NEIGHBOUR: 'it returns false'. Refute it at one input. -/
def fnUnpackSmallWrong : ChangeSpec := { name := "fnUnpackSmall", fn := fun _ => fun
  | [d] => { results := [.lit (.bool false)], args := [d] }
  | _ => none }
def FnUnpackSmallWrongFalsely : Prop := fnUnpackSmallRow.holds Try.pinned (OpenSpec.ofChange fnUnpackSmallWrong)

/-- 'laws.FnExactSmallFits': WHATEVER THE INPUT: true; the input reads as it did. -/
def fnExactSmallFitsSpec : ChangeSpec := { name := "fnExactSmallFits", fn := fun _ => fun
  | [d] => { results := [.lit (.bool true)], args := [d] }
  | _ => none }
def fnExactSmallFitsRow : OpenClaim := { program := "ythohleidjgeaeaa", sum := "f8939baede7257ade473e5b266f7ffc979de0fbd84132923c036b1144eb26d64", func := "loop.example/flashfiles/laws.FnExactSmallFits", spec := "fnExactSmallFits", apart := false }
def FnExactSmallFitsSaid : Prop := fnExactSmallFitsRow.holds Try.pinned (OpenSpec.ofChange fnExactSmallFitsSpec)

/-- ITS FALSE NEIGHBOUR: 'it returns false'. Refute it at one input. -/
def fnExactSmallFitsWrong : ChangeSpec := { name := "fnExactSmallFits", fn := fun _ => fun
  | [d] => { results := [.lit (.bool false)], args := [d] }
  | _ => none }
def FnExactSmallFitsWrongFalsely : Prop := fnExactSmallFitsRow.holds Try.pinned (OpenSpec.ofChange fnExactSmallFitsWrong)

/-- 'laws.FnExactPackSmall': WHATEVER THE INPUT: true; the input reads as it did. -/
def fnExactPackSmallSpec : ChangeSpec := { name := "fnExactPackSmall", fn := fun _ => fun
  | [d] => { results := [.lit (.bool true)], args := [d] }
  | _ => none }
def fnExactPackSmallRow : OpenClaim := { program := "ythohleidjgeaeaa", sum := "f8939baede7257ade473e5b266f7ffc979de0fbd84132923c036b1144eb26d64", func := "loop.example/flashfiles/laws.FnExactPackSmall", spec := "fnExactPackSmall", apart := false }
def FnExactPackSmallSaid : Prop := fnExactPackSmallRow.holds Try.pinned (OpenSpec.ofChange fnExactPackSmallSpec)

/-- ITS FALSE NEIGHBOUR: 'it returns false'. Refute it at one input. -/
def fnExactPackSmallWrong : ChangeSpec := { name := "fnExactPackSmall", fn := fun _ => fun
  | [d] => { results := [.lit (.bool false)], args := [d] }
  | _ => none }
def FnExactPackSmallWrongFalsely : Prop := fnExactPackSmallRow.holds Try.pinned (OpenSpec.ofChange fnExactPackSmallWrong)

/-- 'laws.FnExactUnpackSmall': WHATEVER THE INPUT: true; the input reads as it did. -/
def fnExactUnpackSmallSpec : ChangeSpec := { name := "fnExactUnpackSmall", fn := fun _ => fun
  | [d] => { results := [.lit (.bool true)], args := [d] }
  | _ => none }
def fnExactUnpackSmallRow : OpenClaim := { program := "ythohleidjgeaeaa", sum := "f8939baede7257ade473e5b266f7ffc979de0fbd84132923c036b1144eb26d64", func := "loop.example/flashfiles/laws.FnExactUnpackSmall", spec := "fnExactUnpackSmall", apart := false }
def FnExactUnpackSmallSaid : Prop := fnExactUnpackSmallRow.holds Try.pinned (OpenSpec.ofChange fnExactUnpackSmallSpec)

/-- ITS FALSE NEIGHBOUR: 'it returns false'. Refute it at one input. -/
def fnExactUnpackSmallWrong : ChangeSpec := { name := "fnExactUnpackSmall", fn := fun _ => fun
  | [d] => { results := [.lit (.bool false)], args := [d] }
  | _ => none }
def FnExactUnpackSmallWrongFalsely : Prop := fnExactUnpackSmallRow.holds Try.pinned (OpenSpec.ofChange fnExactUnpackSmallWrong)

/- THE SECOND FORM. 'bulk': how many values and letters a reading holds, each counted each time it is reached (what is shared counts as often as it is met; a slice's spare places count too). A statement '..UptoSaid' is the law's where the arguments, and the package variables that the reading takes, are together of bulk at most 1048576: NARROWER than '..Said'. Prove '..Said' where nothing that the law and all that it calls make is longer than what came in: it says more and counts as full. Else prove '..UptoSaid'. A law counts once. -/
mutual
def uptoBulk {H : Type} : DataW H → Nat
  | .lit (.string bytes) => bytes.length + 1
  | .lit _ => 1
  | .nil => 1
  | .ptr d => uptoBulk d + 1
  | .slice elems spare => uptoBulkAll elems + uptoBulkAll spare + 1
  | .agg parts => uptoBulkAll parts + 1
  | .iface _ d => uptoBulk d + 1
  | .map entries => uptoBulkEntries entries + 1
  | .held _ => 1
def uptoBulkAll {H : Type} : List (DataW H) → Nat
  | [] => 0
  | d :: r => uptoBulk d + uptoBulkAll r
def uptoBulkEntries {H : Type} : List (Lit × DataW H) → Nat
  | [] => 0
  | x :: r => uptoBulkEntry x + uptoBulkEntries r
def uptoBulkEntry {H : Type} : Lit × DataW H → Nat
  | (.string bytes, d) => bytes.length + uptoBulk d + 1
  | (_, d) => uptoBulk d + 1
 end
def uptoSmall : (H : Type) → List (DataW H) → Bool := fun _ ds => decide (uptoBulkAll ds ≤ 1048576)
def OpenSpec.upto (s : _root_.Go.ChangeSpec) : _root_.Go.OpenSpec := { _root_.Go.OpenSpec.ofChange s with cond := some uptoSmall }

/-- 'laws.FnSmallFits', WHERE WHAT IT READS IS OF BULK AT MOST 1048576: true; the input reads as it did. -/
def fnSmallFitsUptoRow : OpenClaim := { program := "ythohleidjgeaeaa", sum := "f8939baede7257ade473e5b266f7ffc979de0fbd84132923c036b1144eb26d64", func := "loop.example/flashfiles/laws.FnSmallFits", spec := "fnSmallFits", apart := false, narrowed := true }
def FnSmallFitsUptoSaid : Prop := fnSmallFitsUptoRow.holds Try.pinned (OpenSpec.upto fnSmallFitsSpec)

/-- 'laws.FnPackSmall', WHERE WHAT IT READS IS OF BULK AT MOST 1048576: true; the input reads as it did. -/
def fnPackSmallUptoRow : OpenClaim := { program := "ythohleidjgeaeaa", sum := "f8939baede7257ade473e5b266f7ffc979de0fbd84132923c036b1144eb26d64", func := "loop.example/flashfiles/laws.FnPackSmall", spec := "fnPackSmall", apart := false, narrowed := true }
def FnPackSmallUptoSaid : Prop := fnPackSmallUptoRow.holds Try.pinned (OpenSpec.upto fnPackSmallSpec)

/-- 'laws.FnUnpackSmall', WHERE WHAT IT READS IS OF BULK AT MOST 1048576: true; the input reads as it did. -/
def fnUnpackSmallUptoRow : OpenClaim := { program := "ythohleidjgeaeaa", sum := "f8939baede7257ade473e5b266f7ffc979de0fbd84132923c036b1144eb26d64", func := "loop.example/flashfiles/laws.FnUnpackSmall", spec := "fnUnpackSmall", apart := false, narrowed := true }
def FnUnpackSmallUptoSaid : Prop := fnUnpackSmallUptoRow.holds Try.pinned (OpenSpec.upto fnUnpackSmallSpec)

/-- 'laws.FnExactSmallFits', WHERE WHAT IT READS IS OF BULK AT MOST 1048576: true; the input reads as it did. -/
def fnExactSmallFitsUptoRow : OpenClaim := { program := "ythohleidjgeaeaa", sum := "f8939baede7257ade473e5b266f7ffc979de0fbd84132923c036b1144eb26d64", func := "loop.example/flashfiles/laws.FnExactSmallFits", spec := "fnExactSmallFits", apart := false, narrowed := true }
def FnExactSmallFitsUptoSaid : Prop := fnExactSmallFitsUptoRow.holds Try.pinned (OpenSpec.upto fnExactSmallFitsSpec)

/-- 'laws.FnExactPackSmall', WHERE WHAT IT READS IS OF BULK AT MOST 1048576: true; the input reads as it did. -/
def fnExactPackSmallUptoRow : OpenClaim := { program := "ythohleidjgeaeaa", sum := "f8939baede7257ade473e5b266f7ffc979de0fbd84132923c036b1144eb26d64", func := "loop.example/flashfiles/laws.FnExactPackSmall", spec := "fnExactPackSmall", apart := false, narrowed := true }
def FnExactPackSmallUptoSaid : Prop := fnExactPackSmallUptoRow.holds Try.pinned (OpenSpec.upto fnExactPackSmallSpec)

/-- 'laws.FnExactUnpackSmall', WHERE WHAT IT READS IS OF BULK AT MOST 1048576: true; the input reads as it did. -/
def fnExactUnpackSmallUptoRow : OpenClaim := { program := "ythohleidjgeaeaa", sum := "f8939baede7257ade473e5b266f7ffc979de0fbd84132923c036b1144eb26d64", func := "loop.example/flashfiles/laws.FnExactUnpackSmall", spec := "fnExactUnpackSmall", apart := false, narrowed := true }
def FnExactUnpackSmallUptoSaid : Prop := fnExactUnpackSmallUptoRow.holds Try.pinned (OpenSpec.upto fnExactUnpackSmallSpec)

end Rows
end Go.Proofs.Ythohleidjgeaeaa
