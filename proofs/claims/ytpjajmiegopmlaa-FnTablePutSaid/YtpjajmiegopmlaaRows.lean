/-
  No cell of these rows narrows 'for every input' (looked for: loops, veiled, ifaces, maps, wideKeys, modest, calm, conditions, laid).
  DERIVED. THE GIVEN ROWS OF THIS SEAT. 12 by the template 'for every input the law returns true; each argument reads behind the call as it read before'; 0 by the template 'total and deterministic' (their statements: YtpjajmiegopmlaaTotals.lean).
  GIVEN WITH THE SEED: the statements are not yours to turn. If you find one false, say at which input.
  Laid BY PROGRAM, IN A SANDBOX (cutbox-rows.mjs): the forced cells as the released guide's own fill.sh prints them over the translation 48858b7be176b03b… (all of the seat's roots in one cut). By AI agents, Wed Nov 11 2026. No macro, syntax, notation, axiom, sorry.
-/
import Derived.Test.YtpjajmiegopmlaaChecked
import GoSem.Claim
import GoSem.ClaimJoined
import GoSem.ClaimMapViews
import Derived.JoinedTies
import Derived.KernelRfl
namespace Go.Proofs.Ytpjajmiegopmlaa
/- THE CELL 'sum', in the pinned program and in every row, IS THE sha256 OF THE DUMP (.gsa) THAT YtpjajmiegopmlaaProg.lean LOADS. Nothing in Lean hashes anything: it is a label: what it is worth is what the hold of that sum in a sandbox is worth. -/
noncomputable def Try.pinned : Pinned := { name := "ytpjajmiegopmlaa", sum := "48858b7be176b03b227def84b19cebda326f4fbc568ddaabbfb40cc044f22504", checked := Try.checked }
namespace Rows
def none {H : Type} : Left H := { results := [], args := [] }

/-- 'laws.FnReadPage': WHATEVER THE INPUT: true; the input reads as it did. -/
def fnReadPageSpec : ChangeSpec := { name := "fnReadPage", fn := fun _ => fun
  | [d] => { results := [.lit (.bool true)], args := [d] }
  | _ => none }
def fnReadPageRow : OpenClaim := { program := "ytpjajmiegopmlaa", sum := "48858b7be176b03b227def84b19cebda326f4fbc568ddaabbfb40cc044f22504", func := "loop.example/flashfiles/laws.FnReadPage", spec := "fnReadPage", apart := false }
def FnReadPageSaid : Prop := fnReadPageRow.holds Try.pinned (OpenSpec.ofChange fnReadPageSpec)

/-- ITS FALSE NEIGHBOUR: 'it returns false'. Refute it at one input. -/
def fnReadPageWrong : ChangeSpec := { name := "fnReadPage", fn := fun _ => fun
  | [d] => { results := [.lit (.bool false)], args := [d] }
  | _ => none }
def FnReadPageWrongFalsely : Prop := fnReadPageRow.holds Try.pinned (OpenSpec.ofChange fnReadPageWrong)

/-- 'laws.FnProgram': WHATEVER THE INPUT: true; the input reads as it did. -/
def fnProgramSpec : ChangeSpec := { name := "fnProgram", fn := fun _ => fun
  | [d] => { results := [.lit (.bool true)], args := [d] }
  | _ => none }
def fnProgramRow : OpenClaim := { program := "ytpjajmiegopmlaa", sum := "48858b7be176b03b227def84b19cebda326f4fbc568ddaabbfb40cc044f22504", func := "loop.example/flashfiles/laws.FnProgram", spec := "fnProgram", apart := false }
def FnProgramSaid : Prop := fnProgramRow.holds Try.pinned (OpenSpec.ofChange fnProgramSpec)

/-- ITS FALSE NEIGHBOUR: 'it returns false'. Refute it at one input. -/
def fnProgramWrong : ChangeSpec := { name := "fnProgram", fn := fun _ => fun
  | [d] => { results := [.lit (.bool false)], args := [d] }
  | _ => none }
def FnProgramWrongFalsely : Prop := fnProgramRow.holds Try.pinned (OpenSpec.ofChange fnProgramWrong)

/-- 'laws.FnAppendPage': WHATEVER THE INPUT: true; the input reads as it did. -/
def fnAppendPageSpec : ChangeSpec := { name := "fnAppendPage", fn := fun _ => fun
  | [d] => { results := [.lit (.bool true)], args := [d] }
  | _ => none }
def fnAppendPageRow : OpenClaim := { program := "ytpjajmiegopmlaa", sum := "48858b7be176b03b227def84b19cebda326f4fbc568ddaabbfb40cc044f22504", func := "loop.example/flashfiles/laws.FnAppendPage", spec := "fnAppendPage", apart := false }
def FnAppendPageSaid : Prop := fnAppendPageRow.holds Try.pinned (OpenSpec.ofChange fnAppendPageSpec)

/-- ITS FALSE NEIGHBOUR: 'it returns false'. Refute it at one input. -/
def fnAppendPageWrong : ChangeSpec := { name := "fnAppendPage", fn := fun _ => fun
  | [d] => { results := [.lit (.bool false)], args := [d] }
  | _ => none }
def FnAppendPageWrongFalsely : Prop := fnAppendPageRow.holds Try.pinned (OpenSpec.ofChange fnAppendPageWrong)

/-- 'laws.FnTableGet': WHATEVER THE INPUT: true; the input reads as it did. -/
def fnTableGetSpec : ChangeSpec := { name := "fnTableGet", fn := fun _ => fun
  | [d] => { results := [.lit (.bool true)], args := [d] }
  | _ => none }
def fnTableGetRow : OpenClaim := { program := "ytpjajmiegopmlaa", sum := "48858b7be176b03b227def84b19cebda326f4fbc568ddaabbfb40cc044f22504", func := "loop.example/flashfiles/laws.FnTableGet", spec := "fnTableGet", apart := false }
def FnTableGetSaid : Prop := fnTableGetRow.holds Try.pinned (OpenSpec.ofChange fnTableGetSpec)

/-- ITS FALSE NEIGHBOUR: 'it returns false'. Refute it at one input. -/
def fnTableGetWrong : ChangeSpec := { name := "fnTableGet", fn := fun _ => fun
  | [d] => { results := [.lit (.bool false)], args := [d] }
  | _ => none }
def FnTableGetWrongFalsely : Prop := fnTableGetRow.holds Try.pinned (OpenSpec.ofChange fnTableGetWrong)

/-- 'laws.FnTablePut': WHATEVER THE INPUT: true; the input reads as it did. -/
def fnTablePutSpec : ChangeSpec := { name := "fnTablePut", fn := fun _ => fun
  | [d] => { results := [.lit (.bool true)], args := [d] }
  | _ => none }
def fnTablePutRow : OpenClaim := { program := "ytpjajmiegopmlaa", sum := "48858b7be176b03b227def84b19cebda326f4fbc568ddaabbfb40cc044f22504", func := "loop.example/flashfiles/laws.FnTablePut", spec := "fnTablePut", apart := false }
def FnTablePutSaid : Prop := fnTablePutRow.holds Try.pinned (OpenSpec.ofChange fnTablePutSpec)

/-- ITS FALSE NEIGHBOUR: 'it returns false'. Refute it at one input. -/
def fnTablePutWrong : ChangeSpec := { name := "fnTablePut", fn := fun _ => fun
  | [d] => { results := [.lit (.bool false)], args := [d] }
  | _ => none }
def FnTablePutWrongFalsely : Prop := fnTablePutRow.holds Try.pinned (OpenSpec.ofChange fnTablePutWrong)

/-- 'laws.FnTableChanges': WHATEVER THE INPUT: true; the input reads as it did. -/
def fnTableChangesSpec : ChangeSpec := { name := "fnTableChanges", fn := fun _ => fun
  | [d] => { results := [.lit (.bool true)], args := [d] }
  | _ => none }
def fnTableChangesRow : OpenClaim := { program := "ytpjajmiegopmlaa", sum := "48858b7be176b03b227def84b19cebda326f4fbc568ddaabbfb40cc044f22504", func := "loop.example/flashfiles/laws.FnTableChanges", spec := "fnTableChanges", apart := false }
def FnTableChangesSaid : Prop := fnTableChangesRow.holds Try.pinned (OpenSpec.ofChange fnTableChangesSpec)

/-- ITS FALSE NEIGHBOUR: 'it returns false'. Refute it at one input. -/
def fnTableChangesWrong : ChangeSpec := { name := "fnTableChanges", fn := fun _ => fun
  | [d] => { results := [.lit (.bool false)], args := [d] }
  | _ => none }
def FnTableChangesWrongFalsely : Prop := fnTableChangesRow.holds Try.pinned (OpenSpec.ofChange fnTableChangesWrong)

/-- 'laws.FnExactReadPage': WHATEVER THE INPUT: true; the input reads as it did. -/
def fnExactReadPageSpec : ChangeSpec := { name := "fnExactReadPage", fn := fun _ => fun
  | [d1, d2] => { results := [.lit (.bool true)], args := [d1, d2] }
  | _ => none }
def fnExactReadPageRow : OpenClaim := { program := "ytpjajmiegopmlaa", sum := "48858b7be176b03b227def84b19cebda326f4fbc568ddaabbfb40cc044f22504", func := "loop.example/flashfiles/laws.FnExactReadPage", spec := "fnExactReadPage", apart := false }
def FnExactReadPageSaid : Prop := fnExactReadPageRow.holds Try.pinned (OpenSpec.ofChange fnExactReadPageSpec)

/-- ITS FALSE NEIGHBOUR: 'it returns false'. Refute it at one input. -/
def fnExactReadPageWrong : ChangeSpec := { name := "fnExactReadPage", fn := fun _ => fun
  | [d1, d2] => { results := [.lit (.bool false)], args := [d1, d2] }
  | _ => none }
def FnExactReadPageWrongFalsely : Prop := fnExactReadPageRow.holds Try.pinned (OpenSpec.ofChange fnExactReadPageWrong)

/-- 'laws.FnExactTableValid': WHATEVER THE INPUT: true; the input reads as it did. -/
def fnExactTableValidSpec : ChangeSpec := { name := "fnExactTableValid", fn := fun _ => fun
  | [d] => { results := [.lit (.bool true)], args := [d] }
  | _ => none }
def fnExactTableValidRow : OpenClaim := { program := "ytpjajmiegopmlaa", sum := "48858b7be176b03b227def84b19cebda326f4fbc568ddaabbfb40cc044f22504", func := "loop.example/flashfiles/laws.FnExactTableValid", spec := "fnExactTableValid", apart := false }
def FnExactTableValidSaid : Prop := fnExactTableValidRow.holds Try.pinned (OpenSpec.ofChange fnExactTableValidSpec)

/-- ITS FALSE NEIGHBOUR: 'it returns false'. Refute it at one input. -/
def fnExactTableValidWrong : ChangeSpec := { name := "fnExactTableValid", fn := fun _ => fun
  | [d] => { results := [.lit (.bool false)], args := [d] }
  | _ => none }
def FnExactTableValidWrongFalsely : Prop := fnExactTableValidRow.holds Try.pinned (OpenSpec.ofChange fnExactTableValidWrong)

/-- 'laws.FnExactTableOf': WHATEVER THE INPUT: true; the input reads as it did. -/
def fnExactTableOfSpec : ChangeSpec := { name := "fnExactTableOf", fn := fun _ => fun
  | [d] => { results := [.lit (.bool true)], args := [d] }
  | _ => none }
def fnExactTableOfRow : OpenClaim := { program := "ytpjajmiegopmlaa", sum := "48858b7be176b03b227def84b19cebda326f4fbc568ddaabbfb40cc044f22504", func := "loop.example/flashfiles/laws.FnExactTableOf", spec := "fnExactTableOf", apart := false }
def FnExactTableOfSaid : Prop := fnExactTableOfRow.holds Try.pinned (OpenSpec.ofChange fnExactTableOfSpec)

/-- ITS FALSE NEIGHBOUR: 'it returns false'. Refute it at one input. -/
def fnExactTableOfWrong : ChangeSpec := { name := "fnExactTableOf", fn := fun _ => fun
  | [d] => { results := [.lit (.bool false)], args := [d] }
  | _ => none }
def FnExactTableOfWrongFalsely : Prop := fnExactTableOfRow.holds Try.pinned (OpenSpec.ofChange fnExactTableOfWrong)

/-- 'laws.FnExactTableGet': WHATEVER THE INPUT: true; the input reads as it did. -/
def fnExactTableGetSpec : ChangeSpec := { name := "fnExactTableGet", fn := fun _ => fun
  | [d1, d2, d3] => { results := [.lit (.bool true)], args := [d1, d2, d3] }
  | _ => none }
def fnExactTableGetRow : OpenClaim := { program := "ytpjajmiegopmlaa", sum := "48858b7be176b03b227def84b19cebda326f4fbc568ddaabbfb40cc044f22504", func := "loop.example/flashfiles/laws.FnExactTableGet", spec := "fnExactTableGet", apart := false }
def FnExactTableGetSaid : Prop := fnExactTableGetRow.holds Try.pinned (OpenSpec.ofChange fnExactTableGetSpec)

/-- ITS FALSE NEIGHBOUR: 'it returns false'. Refute it at one input. -/
def fnExactTableGetWrong : ChangeSpec := { name := "fnExactTableGet", fn := fun _ => fun
  | [d1, d2, d3] => { results := [.lit (.bool false)], args := [d1, d2, d3] }
  | _ => none }
def FnExactTableGetWrongFalsely : Prop := fnExactTableGetRow.holds Try.pinned (OpenSpec.ofChange fnExactTableGetWrong)

/-- 'laws.FnExactTablePut': WHATEVER THE INPUT: true; the input reads as it did. -/
def fnExactTablePutSpec : ChangeSpec := { name := "fnExactTablePut", fn := fun _ => fun
  | [d1, d2, d3, d4] => { results := [.lit (.bool true)], args := [d1, d2, d3, d4] }
  | _ => none }
def fnExactTablePutRow : OpenClaim := { program := "ytpjajmiegopmlaa", sum := "48858b7be176b03b227def84b19cebda326f4fbc568ddaabbfb40cc044f22504", func := "loop.example/flashfiles/laws.FnExactTablePut", spec := "fnExactTablePut", apart := false }
def FnExactTablePutSaid : Prop := fnExactTablePutRow.holds Try.pinned (OpenSpec.ofChange fnExactTablePutSpec)

/-- ITS FALSE NEIGHBOUR: 'it returns false'. Refute it at one input. -/
def fnExactTablePutWrong : ChangeSpec := { name := "fnExactTablePut", fn := fun _ => fun
  | [d1, d2, d3, d4] => { results := [.lit (.bool false)], args := [d1, d2, d3, d4] }
  | _ => none }
def FnExactTablePutWrongFalsely : Prop := fnExactTablePutRow.holds Try.pinned (OpenSpec.ofChange fnExactTablePutWrong)

/-- 'laws.FnExactTableChanges': WHATEVER THE INPUT: true; the input reads as it did. -/
def fnExactTableChangesSpec : ChangeSpec := { name := "fnExactTableChanges", fn := fun _ => fun
  | [d1, d2] => { results := [.lit (.bool true)], args := [d1, d2] }
  | _ => none }
def fnExactTableChangesRow : OpenClaim := { program := "ytpjajmiegopmlaa", sum := "48858b7be176b03b227def84b19cebda326f4fbc568ddaabbfb40cc044f22504", func := "loop.example/flashfiles/laws.FnExactTableChanges", spec := "fnExactTableChanges", apart := false }
def FnExactTableChangesSaid : Prop := fnExactTableChangesRow.holds Try.pinned (OpenSpec.ofChange fnExactTableChangesSpec)

/-- ITS FALSE NEIGHBOUR: 'it returns false'. Refute it at one input. -/
def fnExactTableChangesWrong : ChangeSpec := { name := "fnExactTableChanges", fn := fun _ => fun
  | [d1, d2] => { results := [.lit (.bool false)], args := [d1, d2] }
  | _ => none }
def FnExactTableChangesWrongFalsely : Prop := fnExactTableChangesRow.holds Try.pinned (OpenSpec.ofChange fnExactTableChangesWrong)

/- THE SECOND FORM. 'bulk': how many values and letters a reading holds, each counted each time it is reached (what is shared counts as often as it is met; a slice's spare places count too). A statement '..UptoSaid' is the law's where the arguments, and the package variables that the reading takes, are together of bulk at most 1048576: NARROWER than '..Said'. Prove '..Said' where nothing that the law and all that it calls make is longer than what came in: it says more and counts as full. Else prove '..UptoSaid'. A law counts once. -/
mutual
def uptoBulk {H : Type} : DataW H → Nat
  | .lit (.string bytes) => bytes.length + 1
  | .lit _ => 1
  | .nil => 1
  | .ptr d => uptoBulk d + 1
  | .slice elems spare => uptoBulkAll elems + uptoBulkAll spare + 1
  | .agg parts => uptoBulkAll parts + 1
  | .iface _ d => uptoBulk d + 1
  | .map entries => uptoBulkEntries entries + 1
  | .held _ => 1
def uptoBulkAll {H : Type} : List (DataW H) → Nat
  | [] => 0
  | d :: r => uptoBulk d + uptoBulkAll r
def uptoBulkEntries {H : Type} : List (Lit × DataW H) → Nat
  | [] => 0
  | x :: r => uptoBulkEntry x + uptoBulkEntries r
def uptoBulkEntry {H : Type} : Lit × DataW H → Nat
  | (.string bytes, d) => bytes.length + uptoBulk d + 1
  | (_, d) => uptoBulk d + 1
 end
def uptoSmall : (H : Type) → List (DataW H) → Bool := fun _ ds => decide (uptoBulkAll ds ≤ 1048576)
def OpenSpec.upto (s : _root_.Go.ChangeSpec) : _root_.Go.OpenSpec := { _root_.Go.OpenSpec.ofChange s with cond := some uptoSmall }

/-- 'laws.FnReadPage', WHERE WHAT IT READS IS OF BULK AT MOST 1048576: true; the input reads as it did. -/
def fnReadPageUptoRow : OpenClaim := { program := "ytpjajmiegopmlaa", sum := "48858b7be176b03b227def84b19cebda326f4fbc568ddaabbfb40cc044f22504", func := "loop.example/flashfiles/laws.FnReadPage", spec := "fnReadPage", apart := false, narrowed := true }
def FnReadPageUptoSaid : Prop := fnReadPageUptoRow.holds Try.pinned (OpenSpec.upto fnReadPageSpec)

/-- 'laws.FnProgram', WHERE WHAT IT READS IS OF BULK AT MOST 1048576: true; the input reads as it did. -/
def fnProgramUptoRow : OpenClaim := { program := "ytpjajmiegopmlaa", sum := "48858b7be176b03b227def84b19cebda326f4fbc568ddaabbfb40cc044f22504", func := "loop.example/flashfiles/laws.FnProgram", spec := "fnProgram", apart := false, narrowed := true }
def FnProgramUptoSaid : Prop := fnProgramUptoRow.holds Try.pinned (OpenSpec.upto fnProgramSpec)

/-- 'laws.FnAppendPage', WHERE WHAT IT READS IS OF BULK AT MOST 1048576: true; the input reads as it did. -/
def fnAppendPageUptoRow : OpenClaim := { program := "ytpjajmiegopmlaa", sum := "48858b7be176b03b227def84b19cebda326f4fbc568ddaabbfb40cc044f22504", func := "loop.example/flashfiles/laws.FnAppendPage", spec := "fnAppendPage", apart := false, narrowed := true }
def FnAppendPageUptoSaid : Prop := fnAppendPageUptoRow.holds Try.pinned (OpenSpec.upto fnAppendPageSpec)

/-- 'laws.FnTableGet', WHERE WHAT IT READS IS OF BULK AT MOST 1048576: true; the input reads as it did. -/
def fnTableGetUptoRow : OpenClaim := { program := "ytpjajmiegopmlaa", sum := "48858b7be176b03b227def84b19cebda326f4fbc568ddaabbfb40cc044f22504", func := "loop.example/flashfiles/laws.FnTableGet", spec := "fnTableGet", apart := false, narrowed := true }
def FnTableGetUptoSaid : Prop := fnTableGetUptoRow.holds Try.pinned (OpenSpec.upto fnTableGetSpec)

/-- 'laws.FnTablePut', WHERE WHAT IT READS IS OF BULK AT MOST 1048576: true; the input reads as it did. -/
def fnTablePutUptoRow : OpenClaim := { program := "ytpjajmiegopmlaa", sum := "48858b7be176b03b227def84b19cebda326f4fbc568ddaabbfb40cc044f22504", func := "loop.example/flashfiles/laws.FnTablePut", spec := "fnTablePut", apart := false, narrowed := true }
def FnTablePutUptoSaid : Prop := fnTablePutUptoRow.holds Try.pinned (OpenSpec.upto fnTablePutSpec)

/-- 'laws.FnTableChanges', WHERE WHAT IT READS IS OF BULK AT MOST 1048576: true; the input reads as it did. -/
def fnTableChangesUptoRow : OpenClaim := { program := "ytpjajmiegopmlaa", sum := "48858b7be176b03b227def84b19cebda326f4fbc568ddaabbfb40cc044f22504", func := "loop.example/flashfiles/laws.FnTableChanges", spec := "fnTableChanges", apart := false, narrowed := true }
def FnTableChangesUptoSaid : Prop := fnTableChangesUptoRow.holds Try.pinned (OpenSpec.upto fnTableChangesSpec)

/-- 'laws.FnExactReadPage', WHERE WHAT IT READS IS OF BULK AT MOST 1048576: true; the input reads as it did. -/
def fnExactReadPageUptoRow : OpenClaim := { program := "ytpjajmiegopmlaa", sum := "48858b7be176b03b227def84b19cebda326f4fbc568ddaabbfb40cc044f22504", func := "loop.example/flashfiles/laws.FnExactReadPage", spec := "fnExactReadPage", apart := false, narrowed := true }
def FnExactReadPageUptoSaid : Prop := fnExactReadPageUptoRow.holds Try.pinned (OpenSpec.upto fnExactReadPageSpec)

/-- 'laws.FnExactTableValid', WHERE WHAT IT READS IS OF BULK AT MOST 1048576: true; the input reads as it did. -/
def fnExactTableValidUptoRow : OpenClaim := { program := "ytpjajmiegopmlaa", sum := "48858b7be176b03b227def84b19cebda326f4fbc568ddaabbfb40cc044f22504", func := "loop.example/flashfiles/laws.FnExactTableValid", spec := "fnExactTableValid", apart := false, narrowed := true }
def FnExactTableValidUptoSaid : Prop := fnExactTableValidUptoRow.holds Try.pinned (OpenSpec.upto fnExactTableValidSpec)

/-- 'laws.FnExactTableOf', WHERE WHAT IT READS IS OF BULK AT MOST 1048576: true; the input reads as it did. -/
def fnExactTableOfUptoRow : OpenClaim := { program := "ytpjajmiegopmlaa", sum := "48858b7be176b03b227def84b19cebda326f4fbc568ddaabbfb40cc044f22504", func := "loop.example/flashfiles/laws.FnExactTableOf", spec := "fnExactTableOf", apart := false, narrowed := true }
def FnExactTableOfUptoSaid : Prop := fnExactTableOfUptoRow.holds Try.pinned (OpenSpec.upto fnExactTableOfSpec)

/-- 'laws.FnExactTableGet', WHERE WHAT IT READS IS OF BULK AT MOST 1048576: true; the input reads as it did. -/
def fnExactTableGetUptoRow : OpenClaim := { program := "ytpjajmiegopmlaa", sum := "48858b7be176b03b227def84b19cebda326f4fbc568ddaabbfb40cc044f22504", func := "loop.example/flashfiles/laws.FnExactTableGet", spec := "fnExactTableGet", apart := false, narrowed := true }
def FnExactTableGetUptoSaid : Prop := fnExactTableGetUptoRow.holds Try.pinned (OpenSpec.upto fnExactTableGetSpec)

/-- 'laws.FnExactTablePut', WHERE WHAT IT READS IS OF BULK AT MOST 1048576: true; the input reads as it did. -/
def fnExactTablePutUptoRow : OpenClaim := { program := "ytpjajmiegopmlaa", sum := "48858b7be176b03b227def84b19cebda326f4fbc568ddaabbfb40cc044f22504", func := "loop.example/flashfiles/laws.FnExactTablePut", spec := "fnExactTablePut", apart := false, narrowed := true }
def FnExactTablePutUptoSaid : Prop := fnExactTablePutUptoRow.holds Try.pinned (OpenSpec.upto fnExactTablePutSpec)

/-- 'laws.FnExactTableChanges', WHERE WHAT IT READS IS OF BULK AT MOST 1048576: true; the input reads as it did. -/
def fnExactTableChangesUptoRow : OpenClaim := { program := "ytpjajmiegopmlaa", sum := "48858b7be176b03b227def84b19cebda326f4fbc568ddaabbfb40cc044f22504", func := "loop.example/flashfiles/laws.FnExactTableChanges", spec := "fnExactTableChanges", apart := false, narrowed := true }
def FnExactTableChangesUptoSaid : Prop := fnExactTableChangesUptoRow.holds Try.pinned (OpenSpec.upto fnExactTableChangesSpec)

end Rows
end Go.Proofs.Ytpjajmiegopmlaa
