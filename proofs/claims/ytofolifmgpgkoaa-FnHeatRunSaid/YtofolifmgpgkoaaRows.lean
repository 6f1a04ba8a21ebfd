/-
  No cell of these rows narrows 'for every input' (looked for: loops, veiled, ifaces, maps, wideKeys, modest, calm, conditions, laid).
  DERIVED. THE GIVEN ROWS OF THIS SEAT. 8 by the template 'for every input the law returns true; each argument reads behind the call as it read before'; 0 by the template 'total and deterministic' (their statements: YtofolifmgpgkoaaTotals.lean).
  GIVEN WITH THE SEED: the statements are not yours to turn. If you find one false, say at which input.
  Laid BY PROGRAM, IN A SANDBOX (cutbox-rows.mjs): the forced cells as the released guide's own fill.sh prints them over the translation 1e4950d82f83fe6d… (all of the seat's roots in one cut). By AI agents, Wed Nov 11 2026. No macro, syntax, notation, axiom, sorry.
-/
import Derived.Test.YtofolifmgpgkoaaChecked
import GoSem.Claim
import GoSem.ClaimJoined
import GoSem.ClaimMapViews
import Derived.JoinedTies
import Derived.KernelRfl
namespace Go.Proofs.Ytofolifmgpgkoaa
/- THE CELL 'sum', in the pinned program and in every row, IS THE sha256 OF THE DUMP (.gsa) THAT YtofolifmgpgkoaaProg.lean LOADS. Nothing in Lean hashes anything: it is a label: what it is worth is what the hold of that sum in a sandbox is worth. -/
noncomputable def Try.pinned : Pinned := { name := "ytofolifmgpgkoaa", sum := "1e4950d82f83fe6dea604ab35d775da95ecc0ca25473d0720df132cb859e5d38", checked := Try.checked }
namespace Rows
def none {H : Type} : Left H := { results := [], args := [] }

/-- 'laws.FnHeatStep': WHATEVER THE INPUT: true; the input reads as it did. -/
def fnHeatStepSpec : ChangeSpec := { name := "fnHeatStep", fn := fun _ => fun
  | [d] => { results := [.lit (.bool true)], args := [d] }
  | _ => none }
def fnHeatStepRow : OpenClaim := { program := "ytofolifmgpgkoaa", sum := "1e4950d82f83fe6dea604ab35d775da95ecc0ca25473d0720df132cb859e5d38", func := "loop.example/flashfiles/laws.FnHeatStep", spec := "fnHeatStep", apart := false }
def FnHeatStepSaid : Prop := fnHeatStepRow.holds Try.pinned (OpenSpec.ofChange fnHeatStepSpec)

/-- ITS FALSE NEIGHBOUR: 'it returns false'. Refute it at one input. -/
def fnHeatStepWrong : ChangeSpec := { name := "fnHeatStep", fn := fun _ => fun
  | [d] => { results := [.lit (.bool false)], args := [d] }
  | _ => none }
def FnHeatStepWrongFalsely : Prop := fnHeatStepRow.holds Try.pinned (OpenSpec.ofChange fnHeatStepWrong)

/-- 'laws.FnHeatKind': WHATEVER THE INPUT: true; the input reads as it did. -/
def fnHeatKindSpec : ChangeSpec := { name := "fnHeatKind", fn := fun _ => fun
  | [d] => { results := [.lit (.bool true)], args := [d] }
  | _ => none }
def fnHeatKindRow : OpenClaim := { program := "ytofolifmgpgkoaa", sum := "1e4950d82f83fe6dea604ab35d775da95ecc0ca25473d0720df132cb859e5d38", func := "loop.example/flashfiles/laws.FnHeatKind", spec := "fnHeatKind", apart := false }
def FnHeatKindSaid : Prop := fnHeatKindRow.holds Try.pinned (OpenSpec.ofChange fnHeatKindSpec)

/-- ITS FALSE NEIGHBOUR: 'it returns false'. Refute it at one input. -/
def fnHeatKindWrong : ChangeSpec := { name := "fnHeatKind", fn := fun _ => fun
  | [d] => { results := [.lit (.bool false)], args := [d] }
  | _ => none }
def FnHeatKindWrongFalsely : Prop := fnHeatKindRow.holds Try.pinned (OpenSpec.ofChange fnHeatKindWrong)

/-- 'laws.FnHeatRun': WHATEVER THE INPUT: true; the input reads as it did. -/
def fnHeatRunSpec : ChangeSpec := { name := "fnHeatRun", fn := fun _ => fun
  | [d] => { results := [.lit (.bool true)], args := [d] }
  | _ => none }
def fnHeatRunRow : OpenClaim := { program := "ytofolifmgpgkoaa", sum := "1e4950d82f83fe6dea604ab35d775da95ecc0ca25473d0720df132cb859e5d38", func := "loop.example/flashfiles/laws.FnHeatRun", spec := "fnHeatRun", apart := false }
def FnHeatRunSaid : Prop := fnHeatRunRow.holds Try.pinned (OpenSpec.ofChange fnHeatRunSpec)

/-- ITS FALSE NEIGHBOUR: 'it returns false'. Refute it at one input. -/
def fnHeatRunWrong : ChangeSpec := { name := "fnHeatRun", fn := fun _ => fun
  | [d] => { results := [.lit (.bool false)], args := [d] }
  | _ => none }
def FnHeatRunWrongFalsely : Prop := fnHeatRunRow.holds Try.pinned (OpenSpec.ofChange fnHeatRunWrong)

/-- 'laws.FnCoolsIn': WHATEVER THE INPUT: true; the input reads as it did. -/
def fnCoolsInSpec : ChangeSpec := { name := "fnCoolsIn", fn := fun _ => fun
  | [d] => { results := [.lit (.bool true)], args := [d] }
  | _ => none }
def fnCoolsInRow : OpenClaim := { program := "ytofolifmgpgkoaa", sum := "1e4950d82f83fe6dea604ab35d775da95ecc0ca25473d0720df132cb859e5d38", func := "loop.example/flashfiles/laws.FnCoolsIn", spec := "fnCoolsIn", apart := false }
def FnCoolsInSaid : Prop := fnCoolsInRow.holds Try.pinned (OpenSpec.ofChange fnCoolsInSpec)

/-- ITS FALSE NEIGHBOUR: 'it returns false'. Refute it at one input. -/
def fnCoolsInWrong : ChangeSpec := { name := "fnCoolsIn", fn := fun _ => fun
  | [d] => { results := [.lit (.bool false)], args := [d] }
  | _ => none }
def FnCoolsInWrongFalsely : Prop := fnCoolsInRow.holds Try.pinned (OpenSpec.ofChange fnCoolsInWrong)

/-- 'laws.FnExactHeatStep': WHATEVER THE INPUT: true; the input reads as it did. -/
def fnExactHeatStepSpec : ChangeSpec := { name := "fnExactHeatStep", fn := fun _ => fun
  | [d1, d2] => { results := [.lit (.bool true)], args := [d1, d2] }
  | _ => none }
def fnExactHeatStepRow : OpenClaim := { program := "ytofolifmgpgkoaa", sum := "1e4950d82f83fe6dea604ab35d775da95ecc0ca25473d0720df132cb859e5d38", func := "loop.example/flashfiles/laws.FnExactHeatStep", spec := "fnExactHeatStep", apart := false }
def FnExactHeatStepSaid : Prop := fnExactHeatStepRow.holds Try.pinned (OpenSpec.ofChange fnExactHeatStepSpec)

/-- ITS FALSE NEIGHBOUR: 'it returns false'. Refute it at one input. -/
def fnExactHeatStepWrong : ChangeSpec := { name := "fnExactHeatStep", fn := fun _ => fun
  | [d1, d2] => { results := [.lit (.bool false)], args := [d1, d2] }
  | _ => none }
def FnExactHeatStepWrongFalsely : Prop := fnExactHeatStepRow.holds Try.pinned (OpenSpec.ofChange fnExactHeatStepWrong)

/-- 'laws.FnExactHeatKind': WHATEVER THE INPUT: true; the input reads as it did. -/
def fnExactHeatKindSpec : ChangeSpec := { name := "fnExactHeatKind", fn := fun _ => fun
  | [d] => { results := [.lit (.bool true)], args := [d] }
  | _ => none }
def fnExactHeatKindRow : OpenClaim := { program := "ytofolifmgpgkoaa", sum := "1e4950d82f83fe6dea604ab35d775da95ecc0ca25473d0720df132cb859e5d38", func := "loop.example/flashfiles/laws.FnExactHeatKind", spec := "fnExactHeatKind", apart := false }
def FnExactHeatKindSaid : Prop := fnExactHeatKindRow.holds Try.pinned (OpenSpec.ofChange fnExactHeatKindSpec)

/-- ITS FALSE NEIGHBOUR: 'it returns false'. Refute it at one input. -/
def fnExactHeatKindWrong : ChangeSpec := { name := "fnExactHeatKind", fn := fun _ => fun
  | [d] => { results := [.lit (.bool false)], args := [d] }
  | _ => none }
def FnExactHeatKindWrongFalsely : Prop := fnExactHeatKindRow.holds Try.pinned (OpenSpec.ofChange fnExactHeatKindWrong)

/-- 'laws.FnExactHeatRun': WHATEVER THE INPUT: true; the input reads as it did. -/
def fnExactHeatRunSpec : ChangeSpec := { name := "fnExactHeatRun", fn := fun _ => fun
  | [d] => { results := [.lit (.bool true)], args := [d] }
  | _ => none }
def fnExactHeatRunRow : OpenClaim := { program := "ytofolifmgpgkoaa", sum := "1e4950d82f83fe6dea604ab35d775da95ecc0ca25473d0720df132cb859e5d38", func := "loop.example/flashfiles/laws.FnExactHeatRun", spec := "fnExactHeatRun", apart := false }
def FnExactHeatRunSaid : Prop := fnExactHeatRunRow.holds Try.pinned (OpenSpec.ofChange fnExactHeatRunSpec)

/-- ITS FALSE NEIGHBOUR: 'it returns false'. Refute it at one input. -/
def fnExactHeatRunWrong : ChangeSpec := { name := "fnExactHeatRun", fn := fun _ => fun
  | [d] => { results := [.lit (.bool false)], args := [d] }
  | _ => none }
def FnExactHeatRunWrongFalsely : Prop := fnExactHeatRunRow.holds Try.pinned (OpenSpec.ofChange fnExactHeatRunWrong)

/-- 'laws.FnExactCoolsIn': WHATEVER THE INPUT: true; the input reads as it did. -/
def fnExactCoolsInSpec : ChangeSpec := { name := "fnExactCoolsIn", fn := fun _ => fun
  | [d] => { results := [.lit (.bool true)], args := [d] }
  | _ => none }
def fnExactCoolsInRow : OpenClaim := { program := "ytofolifmgpgkoaa", sum := "1e4950d82f83fe6dea604ab35d775da95ecc0ca25473d0720df132cb859e5d38", func := "loop.example/flashfiles/laws.FnExactCoolsIn", spec := "fnExactCoolsIn", apart := false }
def FnExactCoolsInSaid : Prop := fnExactCoolsInRow.holds Try.pinned (OpenSpec.ofChange fnExactCoolsInSpec)

/-- ITS FALSE NEIGHBOUR: 'it returns false'. Refute it at one input. -/
def fnExactCoolsInWrong : ChangeSpec := { name := "fnExactCoolsIn", fn := fun _ => fun
  | [d] => { results := [.lit (.bool false)], args := [d] }
  | _ => none }
def FnExactCoolsInWrongFalsely : Prop := fnExactCoolsInRow.holds Try.pinned (OpenSpec.ofChange fnExactCoolsInWrong)

/- THE SECOND FORM. 'bulk': how many values and letters a reading holds, each counted each time it is reached (what is shared counts as often as it is met; a slice's spare places count too). A statement '..UptoSaid' is the law's where the arguments, and the package variables that the reading takes, are together of bulk at most 1048576: NARROWER than '..Said'. Prove '..Said' where nothing that the law and all that it calls make is longer than what came in: it says more and counts as full. Else prove '..UptoSaid'. A law counts once. -/
mutual
def uptoBulk {H : Type} : DataW H → Nat
  | .lit (.string bytes) => bytes.length + 1
  | .lit _ => 1
  | .nil => 1
  | .ptr d => uptoBulk d + 1
  | .slice elems spare => uptoBulkAll elems + uptoBulkAll spare + 1
  | .agg parts => uptoBulkAll parts + 1
  | .iface _ d => uptoBulk d + 1
  | .map entries => uptoBulkEntries entries + 1
  | .held _ => 1
def uptoBulkAll {H : Type} : List (DataW H) → Nat
  | [] => 0
  | d :: r => uptoBulk d + uptoBulkAll r
def uptoBulkEntries {H : Type} : List (Lit × DataW H) → Nat
  | [] => 0
  | x :: r => uptoBulkEntry x + uptoBulkEntries r
def uptoBulkEntry {H : Type} : Lit × DataW H → Nat
  | (.string bytes, d) => bytes.length + uptoBulk d + 1
  | (_, d) => uptoBulk d + 1
 end
def uptoSmall : (H : Type) → List (DataW H) → Bool := fun _ ds => decide (uptoBulkAll ds ≤ 1048576)
def OpenSpec.upto (s : _root_.Go.ChangeSpec) : _root_.Go.OpenSpec := { _root_.Go.OpenSpec.ofChange s with cond := some uptoSmall }

/-- 'laws.FnHeatStep', WHERE WHAT IT READS IS OF BULK AT MOST 1048576: true; the input reads as it did. -/
def fnHeatStepUptoRow : OpenClaim := { program := "ytofolifmgpgkoaa", sum := "1e4950d82f83fe6dea604ab35d775da95ecc0ca25473d0720df132cb859e5d38", func := "loop.example/flashfiles/laws.FnHeatStep", spec := "fnHeatStep", apart := false, narrowed := true }
def FnHeatStepUptoSaid : Prop := fnHeatStepUptoRow.holds Try.pinned (OpenSpec.upto fnHeatStepSpec)

/-- 'laws.FnHeatKind', WHERE WHAT IT READS IS OF BULK AT MOST 1048576: true; the input reads as it did. -/
def fnHeatKindUptoRow : OpenClaim := { program := "ytofolifmgpgkoaa", sum := "1e4950d82f83fe6dea604ab35d775da95ecc0ca25473d0720df132cb859e5d38", func := "loop.example/flashfiles/laws.FnHeatKind", spec := "fnHeatKind", apart := false, narrowed := true }
def FnHeatKindUptoSaid : Prop := fnHeatKindUptoRow.holds Try.pinned (OpenSpec.upto fnHeatKindSpec)

/-- 'laws.FnHeatRun', WHERE WHAT IT READS IS OF BULK AT MOST 1048576: true; the input reads as it did. -/
def fnHeatRunUptoRow : OpenClaim := { program := "ytofolifmgpgkoaa", sum := "1e4950d82f83fe6dea604ab35d775da95ecc0ca25473d0720df132cb859e5d38", func := "loop.example/flashfiles/laws.FnHeatRun", spec := "fnHeatRun", apart := false, narrowed := true }
def FnHeatRunUptoSaid : Prop := fnHeatRunUptoRow.holds Try.pinned (OpenSpec.upto fnHeatRunSpec)

/-- 'laws.FnCoolsIn', WHERE WHAT IT READS IS OF BULK AT MOST 1048576: true; the input reads as it did. -/
def fnCoolsInUptoRow : OpenClaim := { program := "ytofolifmgpgkoaa", sum := "1e4950d82f83fe6dea604ab35d775da95ecc0ca25473d0720df132cb859e5d38", func := "loop.example/flashfiles/laws.FnCoolsIn", spec := "fnCoolsIn", apart := false, narrowed := true }
def FnCoolsInUptoSaid : Prop := fnCoolsInUptoRow.holds Try.pinned (OpenSpec.upto fnCoolsInSpec)

/-- 'laws.FnExactHeatStep', WHERE WHAT IT READS IS OF BULK AT MOST 1048576: true; the input reads as it did. -/
def fnExactHeatStepUptoRow : OpenClaim := { program := "ytofolifmgpgkoaa", sum := "1e4950d82f83fe6dea604ab35d775da95ecc0ca25473d0720df132cb859e5d38", func := "loop.example/flashfiles/laws.FnExactHeatStep", spec := "fnExactHeatStep", apart := false, narrowed := true }
def FnExactHeatStepUptoSaid : Prop := fnExactHeatStepUptoRow.holds Try.pinned (OpenSpec.upto fnExactHeatStepSpec)

/-- 'laws.FnExactHeatKind', WHERE WHAT IT READS IS OF BULK AT MOST 1048576: true; the input reads as it did. -/
def fnExactHeatKindUptoRow : OpenClaim := { program := "ytofolifmgpgkoaa", sum := "1e4950d82f83fe6dea604ab35d775da95ecc0ca25473d0720df132cb859e5d38", func := "loop.example/flashfiles/laws.FnExactHeatKind", spec := "fnExactHeatKind", apart := false, narrowed := true }
def FnExactHeatKindUptoSaid : Prop := fnExactHeatKindUptoRow.holds Try.pinned (OpenSpec.upto fnExactHeatKindSpec)

/-- 'laws.FnExactHeatRun', WHERE WHAT IT READS IS OF BULK AT MOST 1048576: true; the input reads as it did. -/
def fnExactHeatRunUptoRow : OpenClaim := { program := "ytofolifmgpgkoaa", sum := "1e4950d82f83fe6dea604ab35d775da95ecc0ca25473d0720df132cb859e5d38", func := "loop.example/flashfiles/laws.FnExactHeatRun", spec := "fnExactHeatRun", apart := false, narrowed := true }
def FnExactHeatRunUptoSaid : Prop := fnExactHeatRunUptoRow.holds Try.pinned (OpenSpec.upto fnExactHeatRunSpec)

/-- 'laws.FnExactCoolsIn', WHERE WHAT IT READS IS OF BULK AT MOST 1048576: true; the input reads as it did. -/
def fnExactCoolsInUptoRow : OpenClaim := { program := "ytofolifmgpgkoaa", sum := "1e4950d82f83fe6dea604ab35d775da95ecc0ca25473d0720df132cb859e5d38", func := "loop.example/flashfiles/laws.FnExactCoolsIn", spec := "fnExactCoolsIn", apart := false, narrowed := true }
def FnExactCoolsInUptoSaid : Prop := fnExactCoolsInUptoRow.holds Try.pinned (OpenSpec.upto fnExactCoolsInSpec)

end Rows
end Go.Proofs.Ytofolifmgpgkoaa
