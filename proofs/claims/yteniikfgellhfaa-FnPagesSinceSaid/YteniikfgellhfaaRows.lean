/-
  No cell of these rows narrows 'for every input' (looked for: loops, veiled, ifaces, maps, wideKeys, modest, calm, conditions, laid).
  DERIVED. THE GIVEN ROWS OF THIS SEAT. 8 by the template 'for every input the law returns true; each argument reads behind the call as it read before'; 0 by the template 'total and deterministic' (their statements: YteniikfgellhfaaTotals.lean).
  GIVEN WITH THE SEED: the statements are not yours to turn. If you find one false, say at which input.
  Laid BY PROGRAM, IN A SANDBOX (cutbox-rows.mjs): the forced cells as the released guide's own fill.sh prints them over the translation da1da8c6da22aa4b… (all of the seat's roots in one cut). By AI agents, Wed Nov 11 2026. No macro, syntax, notation, axiom, sorry.
-/
import Derived.Test.YteniikfgellhfaaChecked
import GoSem.Claim
import GoSem.ClaimJoined
import GoSem.ClaimMapViews
import Derived.JoinedTies
import Derived.KernelRfl
namespace Go.Proofs.Yteniikfgellhfaa
/- THE CELL 'sum', in the pinned program and in every row, IS THE sha256 OF THE DUMP (.gsa) THAT YteniikfgellhfaaProg.lean LOADS. Nothing in Lean hashes anything: it is a label: what it is worth is what the hold of that sum in a sandbox is worth. -/
noncomputable def Try.pinned : Pinned := { name := "yteniikfgellhfaa", sum := "da1da8c6da22aa4b6efb191255423ea0a695c2f28e2400e13256ac5cf0965e99", checked := Try.checked }
namespace Rows
def none {H : Type} : Left H := { results := [], args := [] }

/-- 'laws.FnPagesSince': WHATEVER THE INPUT: true; the input reads as it did. -/
def fnPagesSinceSpec : ChangeSpec := { name := "fnPagesSince", fn := fun _ => fun
  | [d] => { results := [.lit (.bool true)], args := [d] }
  | _ => none }
def fnPagesSinceRow : OpenClaim := { program := "yteniikfgellhfaa", sum := "da1da8c6da22aa4b6efb191255423ea0a695c2f28e2400e13256ac5cf0965e99", func := "loop.example/flashfiles/laws.FnPagesSince", spec := "fnPagesSince", apart := false }
def FnPagesSinceSaid : Prop := fnPagesSinceRow.holds Try.pinned (OpenSpec.ofChange fnPagesSinceSpec)

/-- ITS FALSE NEIGHBOUR: 'it returns false'. Refute it at one input. -/
def fnPagesSinceWrong : ChangeSpec := { name := "fnPagesSince", fn := fun _ => fun
  | [d] => { results := [.lit (.bool false)], args := [d] }
  | _ => none }
def FnPagesSinceWrongFalsely : Prop := fnPagesSinceRow.holds Try.pinned (OpenSpec.ofChange fnPagesSinceWrong)

/-- 'laws.FnRollForward': WHATEVER THE INPUT: true; the input reads as it did. -/
def fnRollForwardSpec : ChangeSpec := { name := "fnRollForward", fn := fun _ => fun
  | [d] => { results := [.lit (.bool true)], args := [d] }
  | _ => none }
def fnRollForwardRow : OpenClaim := { program := "yteniikfgellhfaa", sum := "da1da8c6da22aa4b6efb191255423ea0a695c2f28e2400e13256ac5cf0965e99", func := "loop.example/flashfiles/laws.FnRollForward", spec := "fnRollForward", apart := false }
def FnRollForwardSaid : Prop := fnRollForwardRow.holds Try.pinned (OpenSpec.ofChange fnRollForwardSpec)

/-- ITS FALSE NEIGHBOUR: 'it returns false'. Refute it at one input. -/
def fnRollForwardWrong : ChangeSpec := { name := "fnRollForward", fn := fun _ => fun
  | [d] => { results := [.lit (.bool false)], args := [d] }
  | _ => none }
def FnRollForwardWrongFalsely : Prop := fnRollForwardRow.holds Try.pinned (OpenSpec.ofChange fnRollForwardWrong)

/-- 'laws.FnLastStamp': WHATEVER THE INPUT: true; the input reads as it did. -/
def fnLastStampSpec : ChangeSpec := { name := "fnLastStamp", fn := fun _ => fun
  | [d] => { results := [.lit (.bool true)], args := [d] }
  | _ => none }
def fnLastStampRow : OpenClaim := { program := "yteniikfgellhfaa", sum := "da1da8c6da22aa4b6efb191255423ea0a695c2f28e2400e13256ac5cf0965e99", func := "loop.example/flashfiles/laws.FnLastStamp", spec := "fnLastStamp", apart := false }
def FnLastStampSaid : Prop := fnLastStampRow.holds Try.pinned (OpenSpec.ofChange fnLastStampSpec)

/-- ITS FALSE NEIGHBOUR: 'it returns false'. Refute it at one input. -/
def fnLastStampWrong : ChangeSpec := { name := "fnLastStamp", fn := fun _ => fun
  | [d] => { results := [.lit (.bool false)], args := [d] }
  | _ => none }
def FnLastStampWrongFalsely : Prop := fnLastStampRow.holds Try.pinned (OpenSpec.ofChange fnLastStampWrong)

/-- 'laws.FnMountTable': WHATEVER THE INPUT: true; the input reads as it did. -/
def fnMountTableSpec : ChangeSpec := { name := "fnMountTable", fn := fun _ => fun
  | [d] => { results := [.lit (.bool true)], args := [d] }
  | _ => none }
def fnMountTableRow : OpenClaim := { program := "yteniikfgellhfaa", sum := "da1da8c6da22aa4b6efb191255423ea0a695c2f28e2400e13256ac5cf0965e99", func := "loop.example/flashfiles/laws.FnMountTable", spec := "fnMountTable", apart := false }
def FnMountTableSaid : Prop := fnMountTableRow.holds Try.pinned (OpenSpec.ofChange fnMountTableSpec)

/-- ITS FALSE NEIGHBOUR: 'it returns false'. Refute it at one input. -/
def fnMountTableWrong : ChangeSpec := { name := "fnMountTable", fn := fun _ => fun
  | [d] => { results := [.lit (.bool false)], args := [d] }
  | _ => none }
def FnMountTableWrongFalsely : Prop := fnMountTableRow.holds Try.pinned (OpenSpec.ofChange fnMountTableWrong)

/-- 'laws.FnExactPagesSince': WHATEVER THE INPUT: true; the input reads as it did. -/
def fnExactPagesSinceSpec : ChangeSpec := { name := "fnExactPagesSince", fn := fun _ => fun
  | [d1, d2] => { results := [.lit (.bool true)], args := [d1, d2] }
  | _ => none }
def fnExactPagesSinceRow : OpenClaim := { program := "yteniikfgellhfaa", sum := "da1da8c6da22aa4b6efb191255423ea0a695c2f28e2400e13256ac5cf0965e99", func := "loop.example/flashfiles/laws.FnExactPagesSince", spec := "fnExactPagesSince", apart := false }
def FnExactPagesSinceSaid : Prop := fnExactPagesSinceRow.holds Try.pinned (OpenSpec.ofChange fnExactPagesSinceSpec)

/-- ITS FALSE NEIGHBOUR: 'it returns false'. Refute it at one input. -/
def fnExactPagesSinceWrong : ChangeSpec := { name := "fnExactPagesSince", fn := fun _ => fun
  | [d1, d2] => { results := [.lit (.bool false)], args := [d1, d2] }
  | _ => none }
def FnExactPagesSinceWrongFalsely : Prop := fnExactPagesSinceRow.holds Try.pinned (OpenSpec.ofChange fnExactPagesSinceWrong)

/-- 'laws.FnExactRollForward': WHATEVER THE INPUT: true; the input reads as it did. -/
def fnExactRollForwardSpec : ChangeSpec := { name := "fnExactRollForward", fn := fun _ => fun
  | [d1, d2, d3] => { results := [.lit (.bool true)], args := [d1, d2, d3] }
  | _ => none }
def fnExactRollForwardRow : OpenClaim := { program := "yteniikfgellhfaa", sum := "da1da8c6da22aa4b6efb191255423ea0a695c2f28e2400e13256ac5cf0965e99", func := "loop.example/flashfiles/laws.FnExactRollForward", spec := "fnExactRollForward", apart := false }
def FnExactRollForwardSaid : Prop := fnExactRollForwardRow.holds Try.pinned (OpenSpec.ofChange fnExactRollForwardSpec)

/-- ITS FALSE NEIGHBOUR: 'it returns false'. Refute it at one input. -/
def fnExactRollForwardWrong : ChangeSpec := { name := "fnExactRollForward", fn := fun _ => fun
  | [d1, d2, d3] => { results := [.lit (.bool false)], args := [d1, d2, d3] }
  | _ => none }
def FnExactRollForwardWrongFalsely : Prop := fnExactRollForwardRow.holds Try.pinned (OpenSpec.ofChange fnExactRollForwardWrong)

/-- 'laws.FnExactLastStamp': WHATEVER THE INPUT: true; the input reads as it did. -/
def fnExactLastStampSpec : ChangeSpec := { name := "fnExactLastStamp", fn := fun _ => fun
  | [d] => { results := [.lit (.bool true)], args := [d] }
  | _ => none }
def fnExactLastStampRow : OpenClaim := { program := "yteniikfgellhfaa", sum := "da1da8c6da22aa4b6efb191255423ea0a695c2f28e2400e13256ac5cf0965e99", func := "loop.example/flashfiles/laws.FnExactLastStamp", spec := "fnExactLastStamp", apart := false }
def FnExactLastStampSaid : Prop := fnExactLastStampRow.holds Try.pinned (OpenSpec.ofChange fnExactLastStampSpec)

/-- ITS FALSE NEIGHBOUR: 'it returns false'. Refute it at one input. -/
def fnExactLastStampWrong : ChangeSpec := { name := "fnExactLastStamp", fn := fun _ => fun
  | [d] => { results := [.lit (.bool false)], args := [d] }
  | _ => none }
def FnExactLastStampWrongFalsely : Prop := fnExactLastStampRow.holds Try.pinned (OpenSpec.ofChange fnExactLastStampWrong)

/-- 'laws.FnExactMountTable': WHATEVER THE INPUT: true; the input reads as it did. -/
def fnExactMountTableSpec : ChangeSpec := { name := "fnExactMountTable", fn := fun _ => fun
  | [d1, d2, d3, d4] => { results := [.lit (.bool true)], args := [d1, d2, d3, d4] }
  | _ => none }
def fnExactMountTableRow : OpenClaim := { program := "yteniikfgellhfaa", sum := "da1da8c6da22aa4b6efb191255423ea0a695c2f28e2400e13256ac5cf0965e99", func := "loop.example/flashfiles/laws.FnExactMountTable", spec := "fnExactMountTable", apart := false }
def FnExactMountTableSaid : Prop := fnExactMountTableRow.holds Try.pinned (OpenSpec.ofChange fnExactMountTableSpec)

/-- ITS FALSE NEIGHBOUR: 'it returns false'. Refute it at one input. -/
def fnExactMountTableWrong : ChangeSpec := { name := "fnExactMountTable", fn := fun _ => fun
  | [d1, d2, d3, d4] => { results := [.lit (.bool false)], args := [d1, d2, d3, d4] }
  | _ => none }
def FnExactMountTableWrongFalsely : Prop := fnExactMountTableRow.holds Try.pinned (OpenSpec.ofChange fnExactMountTableWrong)

/- THE SECOND FORM. 'bulk': how many values and letters a reading holds, each counted each time it is reached (what is shared counts as often as it is met; a slice's spare places count too). A statement '..UptoSaid' is the law's where the arguments, and the package variables that the reading takes, are together of bulk at most 1048576: NARROWER than '..Said'. Prove '..Said' where nothing that the law and all that it calls make is longer than what came in: it says more and counts as full. Else prove '..UptoSaid'. A law counts once. -/
mutual
def uptoBulk {H : Type} : DataW H → Nat
  | .lit (.string bytes) => bytes.length + 1
  | .lit _ => 1
  | .nil => 1
  | .ptr d => uptoBulk d + 1
  | .slice elems spare => uptoBulkAll elems + uptoBulkAll spare + 1
  | .agg parts => uptoBulkAll parts + 1
  | .iface _ d => uptoBulk d + 1
  | .map entries => uptoBulkEntries entries + 1
  | .held _ => 1
def uptoBulkAll {H : Type} : List (DataW H) → Nat
  | [] => 0
  | d :: r => uptoBulk d + uptoBulkAll r
def uptoBulkEntries {H : Type} : List (Lit × DataW H) → Nat
  | [] => 0
  | x :: r => uptoBulkEntry x + uptoBulkEntries r
def uptoBulkEntry {H : Type} : Lit × DataW H → Nat
  | (.string bytes, d) => bytes.length + uptoBulk d + 1
  | (_, d) => uptoBulk d + 1
 end
def uptoSmall : (H : Type) → List (DataW H) → Bool := fun _ ds => decide (uptoBulkAll ds ≤ 1048576)
def OpenSpec.upto (s : _root_.Go.ChangeSpec) : _root_.Go.OpenSpec := { _root_.Go.OpenSpec.ofChange s with cond := some uptoSmall }

/-- 'laws.FnPagesSince', WHERE WHAT IT READS IS OF BULK AT MOST 1048576: true; the input reads as it did. -/
def fnPagesSinceUptoRow : OpenClaim := { program := "yteniikfgellhfaa", sum := "da1da8c6da22aa4b6efb191255423ea0a695c2f28e2400e13256ac5cf0965e99", func := "loop.example/flashfiles/laws.FnPagesSince", spec := "fnPagesSince", apart := false, narrowed := true }
def FnPagesSinceUptoSaid : Prop := fnPagesSinceUptoRow.holds Try.pinned (OpenSpec.upto fnPagesSinceSpec)

/-- 'laws.FnRollForward', WHERE WHAT IT READS IS OF BULK AT MOST 1048576: true; the input reads as it did. -/
def fnRollForwardUptoRow : OpenClaim := { program := "yteniikfgellhfaa", sum := "da1da8c6da22aa4b6efb191255423ea0a695c2f28e2400e13256ac5cf0965e99", func := "loop.example/flashfiles/laws.FnRollForward", spec := "fnRollForward", apart := false, narrowed := true }
def FnRollForwardUptoSaid : Prop := fnRollForwardUptoRow.holds Try.pinned (OpenSpec.upto fnRollForwardSpec)

/-- 'laws.FnLastStamp', WHERE WHAT IT READS IS OF BULK AT MOST 1048576: true; the input reads as it did. -/
def fnLastStampUptoRow : OpenClaim := { program := "yteniikfgellhfaa", sum := "da1da8c6da22aa4b6efb191255423ea0a695c2f28e2400e13256ac5cf0965e99", func := "loop.example/flashfiles/laws.FnLastStamp", spec := "fnLastStamp", apart := false, narrowed := true }
def FnLastStampUptoSaid : Prop := fnLastStampUptoRow.holds Try.pinned (OpenSpec.upto fnLastStampSpec)

/-- 'laws.FnMountTable', WHERE WHAT IT READS IS OF BULK AT MOST 1048576: true; the input reads as it did. -/
def fnMountTableUptoRow : OpenClaim := { program := "yteniikfgellhfaa", sum := "da1da8c6da22aa4b6efb191255423ea0a695c2f28e2400e13256ac5cf0965e99", func := "loop.example/flashfiles/laws.FnMountTable", spec := "fnMountTable", apart := false, narrowed := true }
def FnMountTableUptoSaid : Prop := fnMountTableUptoRow.holds Try.pinned (OpenSpec.upto fnMountTableSpec)

/-- 'laws.FnExactPagesSince', WHERE WHAT IT READS IS OF BULK AT MOST 1048576: true; the input reads as it did. -/
def fnExactPagesSinceUptoRow : OpenClaim := { program := "yteniikfgellhfaa", sum := "da1da8c6da22aa4b6efb191255423ea0a695c2f28e2400e13256ac5cf0965e99", func := "loop.example/flashfiles/laws.FnExactPagesSince", spec := "fnExactPagesSince", apart := false, narrowed := true }
def FnExactPagesSinceUptoSaid : Prop := fnExactPagesSinceUptoRow.holds Try.pinned (OpenSpec.upto fnExactPagesSinceSpec)

/-- 'laws.FnExactRollForward', WHERE WHAT IT READS IS OF BULK AT MOST 1048576: true; the input reads as it did. -/
def fnExactRollForwardUptoRow : OpenClaim := { program := "yteniikfgellhfaa", sum := "da1da8c6da22aa4b6efb191255423ea0a695c2f28e2400e13256ac5cf0965e99", func := "loop.example/flashfiles/laws.FnExactRollForward", spec := "fnExactRollForward", apart := false, narrowed := true }
def FnExactRollForwardUptoSaid : Prop := fnExactRollForwardUptoRow.holds Try.pinned (OpenSpec.upto fnExactRollForwardSpec)

/-- 'laws.FnExactLastStamp', WHERE WHAT IT READS IS OF BULK AT MOST 1048576: true; the input reads as it did. -/
def fnExactLastStampUptoRow : OpenClaim := { program := "yteniikfgellhfaa", sum := "da1da8c6da22aa4b6efb191255423ea0a695c2f28e2400e13256ac5cf0965e99", func := "loop.example/flashfiles/laws.FnExactLastStamp", spec := "fnExactLastStamp", apart := false, narrowed := true }
def FnExactLastStampUptoSaid : Prop := fnExactLastStampUptoRow.holds Try.pinned (OpenSpec.upto fnExactLastStampSpec)

/-- 'laws.FnExactMountTable', WHERE WHAT IT READS IS OF BULK AT MOST 1048576: true; the input reads as it did. -/
def fnExactMountTableUptoRow : OpenClaim := { program := "yteniikfgellhfaa", sum := "da1da8c6da22aa4b6efb191255423ea0a695c2f28e2400e13256ac5cf0965e99", func := "loop.example/flashfiles/laws.FnExactMountTable", spec := "fnExactMountTable", apart := false, narrowed := true }
def FnExactMountTableUptoSaid : Prop := fnExactMountTableUptoRow.holds Try.pinned (OpenSpec.upto fnExactMountTableSpec)

end Rows
end Go.Proofs.Yteniikfgellhfaa
