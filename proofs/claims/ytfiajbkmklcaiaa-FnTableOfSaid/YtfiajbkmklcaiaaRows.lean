/-
  No cell of these rows narrows 'for every input' (looked for: loops, veiled, ifaces, maps, wideKeys, modest, calm, conditions, laid).
  DERIVED. THE GIVEN ROWS OF THIS SEAT. 10 by the template 'for every input the law returns true; each argument reads behind the call as it read before'; 0 by the template 'total and deterministic' (their statements: YtfiajbkmklcaiaaTotals.lean).
  GIVEN WITH THE SEED: the statements are not yours to turn. If you find one false, say at which input.
  Laid BY PROGRAM, IN A SANDBOX (cutbox-rows.mjs): the forced cells as the released guide's own fill.sh prints them over the translation f15cc9c077248a7d… (all of the seat's roots in one cut). By AI agents, Wed Nov 11 2026. No macro, syntax, notation, axiom, sorry.
-/
import Derived.Test.YtfiajbkmklcaiaaChecked
import GoSem.Claim
import GoSem.ClaimJoined
import GoSem.ClaimMapViews
import Derived.JoinedTies
import Derived.KernelRfl
namespace Go.Proofs.Ytfiajbkmklcaiaa
/- THE CELL 'sum', in the pinned program and in every row, IS THE sha256 OF THE DUMP (.gsa) THAT YtfiajbkmklcaiaaProg.lean LOADS. Nothing in Lean hashes anything: it is a label: what it is worth is what the hold of that sum in a sandbox is worth. -/
noncomputable def Try.pinned : Pinned := { name := "ytfiajbkmklcaiaa", sum := "f15cc9c077248a7d7252ca33cd306c682c20ff0bb2dc2eef9e282c0b3c7d67e8", checked := Try.checked }
namespace Rows
def none {H : Type} : Left H := { results := [], args := [] }

/-- 'laws.FnTableValid': WHATEVER THE INPUT: true; the input reads as it did. -/
def fnTableValidSpec : ChangeSpec := { name := "fnTableValid", fn := fun _ => fun
  | [d] => { results := [.lit (.bool true)], args := [d] }
  | _ => none }
def fnTableValidRow : OpenClaim := { program := "ytfiajbkmklcaiaa", sum := "f15cc9c077248a7d7252ca33cd306c682c20ff0bb2dc2eef9e282c0b3c7d67e8", func := "loop.example/flashfiles/laws.FnTableValid", spec := "fnTableValid", apart := false }
def FnTableValidSaid : Prop := fnTableValidRow.holds Try.pinned (OpenSpec.ofChange fnTableValidSpec)

/-- ITS FALSE NEIGHBOUR: 'it returns false'. Refute it at one input. -/
def fnTableValidWrong : ChangeSpec := { name := "fnTableValid", fn := fun _ => fun
  | [d] => { results := [.lit (.bool false)], args := [d] }
  | _ => none }
def FnTableValidWrongFalsely : Prop := fnTableValidRow.holds Try.pinned (OpenSpec.ofChange fnTableValidWrong)

/-- 'laws.FnTableOf': WHATEVER THE INPUT: true; the input reads as it did. -/
def fnTableOfSpec : ChangeSpec := { name := "fnTableOf", fn := fun _ => fun
  | [d] => { results := [.lit (.bool true)], args := [d] }
  | _ => none }
def fnTableOfRow : OpenClaim := { program := "ytfiajbkmklcaiaa", sum := "f15cc9c077248a7d7252ca33cd306c682c20ff0bb2dc2eef9e282c0b3c7d67e8", func := "loop.example/flashfiles/laws.FnTableOf", spec := "fnTableOf", apart := false }
def FnTableOfSaid : Prop := fnTableOfRow.holds Try.pinned (OpenSpec.ofChange fnTableOfSpec)

/-- ITS FALSE NEIGHBOUR: 'it returns false'. Refute it at one input. -/
def fnTableOfWrong : ChangeSpec := { name := "fnTableOf", fn := fun _ => fun
  | [d] => { results := [.lit (.bool false)], args := [d] }
  | _ => none }
def FnTableOfWrongFalsely : Prop := fnTableOfRow.holds Try.pinned (OpenSpec.ofChange fnTableOfWrong)

/-- 'laws.FnFileSize': WHATEVER THE INPUT: true; the input reads as it did. -/
def fnFileSizeSpec : ChangeSpec := { name := "fnFileSize", fn := fun _ => fun
  | [d] => { results := [.lit (.bool true)], args := [d] }
  | _ => none }
def fnFileSizeRow : OpenClaim := { program := "ytfiajbkmklcaiaa", sum := "f15cc9c077248a7d7252ca33cd306c682c20ff0bb2dc2eef9e282c0b3c7d67e8", func := "loop.example/flashfiles/laws.FnFileSize", spec := "fnFileSize", apart := false }
def FnFileSizeSaid : Prop := fnFileSizeRow.holds Try.pinned (OpenSpec.ofChange fnFileSizeSpec)

/-- ITS FALSE NEIGHBOUR: 'it returns false'. Refute it at one input. -/
def fnFileSizeWrong : ChangeSpec := { name := "fnFileSize", fn := fun _ => fun
  | [d] => { results := [.lit (.bool false)], args := [d] }
  | _ => none }
def FnFileSizeWrongFalsely : Prop := fnFileSizeRow.holds Try.pinned (OpenSpec.ofChange fnFileSizeWrong)

/-- 'laws.FnFileHoles': WHATEVER THE INPUT: true; the input reads as it did. -/
def fnFileHolesSpec : ChangeSpec := { name := "fnFileHoles", fn := fun _ => fun
  | [d] => { results := [.lit (.bool true)], args := [d] }
  | _ => none }
def fnFileHolesRow : OpenClaim := { program := "ytfiajbkmklcaiaa", sum := "f15cc9c077248a7d7252ca33cd306c682c20ff0bb2dc2eef9e282c0b3c7d67e8", func := "loop.example/flashfiles/laws.FnFileHoles", spec := "fnFileHoles", apart := false }
def FnFileHolesSaid : Prop := fnFileHolesRow.holds Try.pinned (OpenSpec.ofChange fnFileHolesSpec)

/-- ITS FALSE NEIGHBOUR: 'it returns false'. Refute it at one input. -/
def fnFileHolesWrong : ChangeSpec := { name := "fnFileHoles", fn := fun _ => fun
  | [d] => { results := [.lit (.bool false)], args := [d] }
  | _ => none }
def FnFileHolesWrongFalsely : Prop := fnFileHolesRow.holds Try.pinned (OpenSpec.ofChange fnFileHolesWrong)

/-- 'laws.FnCutFile': WHATEVER THE INPUT: true; the input reads as it did. -/
def fnCutFileSpec : ChangeSpec := { name := "fnCutFile", fn := fun _ => fun
  | [d] => { results := [.lit (.bool true)], args := [d] }
  | _ => none }
def fnCutFileRow : OpenClaim := { program := "ytfiajbkmklcaiaa", sum := "f15cc9c077248a7d7252ca33cd306c682c20ff0bb2dc2eef9e282c0b3c7d67e8", func := "loop.example/flashfiles/laws.FnCutFile", spec := "fnCutFile", apart := false }
def FnCutFileSaid : Prop := fnCutFileRow.holds Try.pinned (OpenSpec.ofChange fnCutFileSpec)

/-- ITS FALSE NEIGHBOUR: 'it returns false'. Refute it at one input. -/
def fnCutFileWrong : ChangeSpec := { name := "fnCutFile", fn := fun _ => fun
  | [d] => { results := [.lit (.bool false)], args := [d] }
  | _ => none }
def FnCutFileWrongFalsely : Prop := fnCutFileRow.holds Try.pinned (OpenSpec.ofChange fnCutFileWrong)

/-- 'laws.FnFileValues': WHATEVER THE INPUT: true; the input reads as it did. -/
def fnFileValuesSpec : ChangeSpec := { name := "fnFileValues", fn := fun _ => fun
  | [d] => { results := [.lit (.bool true)], args := [d] }
  | _ => none }
def fnFileValuesRow : OpenClaim := { program := "ytfiajbkmklcaiaa", sum := "f15cc9c077248a7d7252ca33cd306c682c20ff0bb2dc2eef9e282c0b3c7d67e8", func := "loop.example/flashfiles/laws.FnFileValues", spec := "fnFileValues", apart := false }
def FnFileValuesSaid : Prop := fnFileValuesRow.holds Try.pinned (OpenSpec.ofChange fnFileValuesSpec)

/-- ITS FALSE NEIGHBOUR: 'it returns false'. Refute it at one input. -/
def fnFileValuesWrong : ChangeSpec := { name := "fnFileValues", fn := fun _ => fun
  | [d] => { results := [.lit (.bool false)], args := [d] }
  | _ => none }
def FnFileValuesWrongFalsely : Prop := fnFileValuesRow.holds Try.pinned (OpenSpec.ofChange fnFileValuesWrong)

/-- 'laws.FnExactFileSize': WHATEVER THE INPUT: true; the input reads as it did. -/
def fnExactFileSizeSpec : ChangeSpec := { name := "fnExactFileSize", fn := fun _ => fun
  | [d1, d2] => { results := [.lit (.bool true)], args := [d1, d2] }
  | _ => none }
def fnExactFileSizeRow : OpenClaim := { program := "ytfiajbkmklcaiaa", sum := "f15cc9c077248a7d7252ca33cd306c682c20ff0bb2dc2eef9e282c0b3c7d67e8", func := "loop.example/flashfiles/laws.FnExactFileSize", spec := "fnExactFileSize", apart := false }
def FnExactFileSizeSaid : Prop := fnExactFileSizeRow.holds Try.pinned (OpenSpec.ofChange fnExactFileSizeSpec)

/-- ITS FALSE NEIGHBOUR: 'it returns false'. Refute it at one input. -/
def fnExactFileSizeWrong : ChangeSpec := { name := "fnExactFileSize", fn := fun _ => fun
  | [d1, d2] => { results := [.lit (.bool false)], args := [d1, d2] }
  | _ => none }
def FnExactFileSizeWrongFalsely : Prop := fnExactFileSizeRow.holds Try.pinned (OpenSpec.ofChange fnExactFileSizeWrong)

/-- 'laws.FnExactFileHoles': WHATEVER THE INPUT: true; the input reads as it did. -/
def fnExactFileHolesSpec : ChangeSpec := { name := "fnExactFileHoles", fn := fun _ => fun
  | [d1, d2] => { results := [.lit (.bool true)], args := [d1, d2] }
  | _ => none }
def fnExactFileHolesRow : OpenClaim := { program := "ytfiajbkmklcaiaa", sum := "f15cc9c077248a7d7252ca33cd306c682c20ff0bb2dc2eef9e282c0b3c7d67e8", func := "loop.example/flashfiles/laws.FnExactFileHoles", spec := "fnExactFileHoles", apart := false }
def FnExactFileHolesSaid : Prop := fnExactFileHolesRow.holds Try.pinned (OpenSpec.ofChange fnExactFileHolesSpec)

/-- ITS FALSE NEIGHBOUR: 'it returns false'. Refute it at one input. -/
def fnExactFileHolesWrong : ChangeSpec := { name := "fnExactFileHoles", fn := fun _ => fun
  | [d1, d2] => { results := [.lit (.bool false)], args := [d1, d2] }
  | _ => none }
def FnExactFileHolesWrongFalsely : Prop := fnExactFileHolesRow.holds Try.pinned (OpenSpec.ofChange fnExactFileHolesWrong)

/-- 'laws.FnExactCutFile': WHATEVER THE INPUT: true; the input reads as it did. -/
def fnExactCutFileSpec : ChangeSpec := { name := "fnExactCutFile", fn := fun _ => fun
  | [d1, d2, d3] => { results := [.lit (.bool true)], args := [d1, d2, d3] }
  | _ => none }
def fnExactCutFileRow : OpenClaim := { program := "ytfiajbkmklcaiaa", sum := "f15cc9c077248a7d7252ca33cd306c682c20ff0bb2dc2eef9e282c0b3c7d67e8", func := "loop.example/flashfiles/laws.FnExactCutFile", spec := "fnExactCutFile", apart := false }
def FnExactCutFileSaid : Prop := fnExactCutFileRow.holds Try.pinned (OpenSpec.ofChange fnExactCutFileSpec)

/-- ITS FALSE NEIGHBOUR: 'it returns false'. Refute it at one input. -/
def fnExactCutFileWrong : ChangeSpec := { name := "fnExactCutFile", fn := fun _ => fun
  | [d1, d2, d3] => { results := [.lit (.bool false)], args := [d1, d2, d3] }
  | _ => none }
def FnExactCutFileWrongFalsely : Prop := fnExactCutFileRow.holds Try.pinned (OpenSpec.ofChange fnExactCutFileWrong)

/-- 'laws.FnExactFileValues': WHATEVER THE INPUT: true; the input reads as it did. -/
def fnExactFileValuesSpec : ChangeSpec := { name := "fnExactFileValues", fn := fun _ => fun
  | [d1, d2, d3] => { results := [.lit (.bool true)], args := [d1, d2, d3] }
  | _ => none }
def fnExactFileValuesRow : OpenClaim := { program := "ytfiajbkmklcaiaa", sum := "f15cc9c077248a7d7252ca33cd306c682c20ff0bb2dc2eef9e282c0b3c7d67e8", func := "loop.example/flashfiles/laws.FnExactFileValues", spec := "fnExactFileValues", apart := false }
def FnExactFileValuesSaid : Prop := fnExactFileValuesRow.holds Try.pinned (OpenSpec.ofChange fnExactFileValuesSpec)

/-- ITS FALSE NEIGHBOUR: 'it returns false'. Refute it at one input. -/
def fnExactFileValuesWrong : ChangeSpec := { name := "fnExactFileValues", fn := fun _ => fun
  | [d1, d2, d3] => { results := [.lit (.bool false)], args := [d1, d2, d3] }
  | _ => none }
def FnExactFileValuesWrongFalsely : Prop := fnExactFileValuesRow.holds Try.pinned (OpenSpec.ofChange fnExactFileValuesWrong)

/- THE SECOND FORM. 'bulk': how many values and letters a reading holds, each counted each time it is reached (what is shared counts as often as it is met; a slice's spare places count too). A statement '..UptoSaid' is the law's where the arguments, and the package variables that the reading takes, are together of bulk at most 1048576: NARROWER than '..Said'. Prove '..Said' where nothing that the law and all that it calls make is longer than what came in: it says more and counts as full. Else prove '..UptoSaid'. A law counts once. -/
mutual
def uptoBulk {H : Type} : DataW H → Nat
  | .lit (.string bytes) => bytes.length + 1
  | .lit _ => 1
  | .nil => 1
  | .ptr d => uptoBulk d + 1
  | .slice elems spare => uptoBulkAll elems + uptoBulkAll spare + 1
  | .agg parts => uptoBulkAll parts + 1
  | .iface _ d => uptoBulk d + 1
  | .map entries => uptoBulkEntries entries + 1
  | .held _ => 1
def uptoBulkAll {H : Type} : List (DataW H) → Nat
  | [] => 0
  | d :: r => uptoBulk d + uptoBulkAll r
def uptoBulkEntries {H : Type} : List (Lit × DataW H) → Nat
  | [] => 0
  | x :: r => uptoBulkEntry x + uptoBulkEntries r
def uptoBulkEntry {H : Type} : Lit × DataW H → Nat
  | (.string bytes, d) => bytes.length + uptoBulk d + 1
  | (_, d) => uptoBulk d + 1
 end
def uptoSmall : (H : Type) → List (DataW H) → Bool := fun _ ds => decide (uptoBulkAll ds ≤ 1048576)
def OpenSpec.upto (s : _root_.Go.ChangeSpec) : _root_.Go.OpenSpec := { _root_.Go.OpenSpec.ofChange s with cond := some uptoSmall }

/-- 'laws.FnTableValid', WHERE WHAT IT READS IS OF BULK AT MOST 1048576: true; the input reads as it did. -/
def fnTableValidUptoRow : OpenClaim := { program := "ytfiajbkmklcaiaa", sum := "f15cc9c077248a7d7252ca33cd306c682c20ff0bb2dc2eef9e282c0b3c7d67e8", func := "loop.example/flashfiles/laws.FnTableValid", spec := "fnTableValid", apart := false, narrowed := true }
def FnTableValidUptoSaid : Prop := fnTableValidUptoRow.holds Try.pinned (OpenSpec.upto fnTableValidSpec)

/-- 'laws.FnTableOf', WHERE WHAT IT READS IS OF BULK AT MOST 1048576: true; the input reads as it did. -/
def fnTableOfUptoRow : OpenClaim := { program := "ytfiajbkmklcaiaa", sum := "f15cc9c077248a7d7252ca33cd306c682c20ff0bb2dc2eef9e282c0b3c7d67e8", func := "loop.example/flashfiles/laws.FnTableOf", spec := "fnTableOf", apart := false, narrowed := true }
def FnTableOfUptoSaid : Prop := fnTableOfUptoRow.holds Try.pinned (OpenSpec.upto fnTableOfSpec)

/-- 'laws.FnFileSize', WHERE WHAT IT READS IS OF BULK AT MOST 1048576: true; the input reads as it did. -/
def fnFileSizeUptoRow : OpenClaim := { program := "ytfiajbkmklcaiaa", sum := "f15cc9c077248a7d7252ca33cd306c682c20ff0bb2dc2eef9e282c0b3c7d67e8", func := "loop.example/flashfiles/laws.FnFileSize", spec := "fnFileSize", apart := false, narrowed := true }
def FnFileSizeUptoSaid : Prop := fnFileSizeUptoRow.holds Try.pinned (OpenSpec.upto fnFileSizeSpec)

/-- 'laws.FnFileHoles', WHERE WHAT IT READS IS OF BULK AT MOST 1048576: true; the input reads as it did. -/
def fnFileHolesUptoRow : OpenClaim := { program := "ytfiajbkmklcaiaa", sum := "f15cc9c077248a7d7252ca33cd306c682c20ff0bb2dc2eef9e282c0b3c7d67e8", func := "loop.example/flashfiles/laws.FnFileHoles", spec := "fnFileHoles", apart := false, narrowed := true }
def FnFileHolesUptoSaid : Prop := fnFileHolesUptoRow.holds Try.pinned (OpenSpec.upto fnFileHolesSpec)

/-- 'laws.FnCutFile', WHERE WHAT IT READS IS OF BULK AT MOST 1048576: true; the input reads as it did. -/
def fnCutFileUptoRow : OpenClaim := { program := "ytfiajbkmklcaiaa", sum := "f15cc9c077248a7d7252ca33cd306c682c20ff0bb2dc2eef9e282c0b3c7d67e8", func := "loop.example/flashfiles/laws.FnCutFile", spec := "fnCutFile", apart := false, narrowed := true }
def FnCutFileUptoSaid : Prop := fnCutFileUptoRow.holds Try.pinned (OpenSpec.upto fnCutFileSpec)

/-- 'laws.FnFileValues', WHERE WHAT IT READS IS OF BULK AT MOST 1048576: true; the input reads as it did. -/
def fnFileValuesUptoRow : OpenClaim := { program := "ytfiajbkmklcaiaa", sum := "f15cc9c077248a7d7252ca33cd306c682c20ff0bb2dc2eef9e282c0b3c7d67e8", func := "loop.example/flashfiles/laws.FnFileValues", spec := "fnFileValues", apart := false, narrowed := true }
def FnFileValuesUptoSaid : Prop := fnFileValuesUptoRow.holds Try.pinned (OpenSpec.upto fnFileValuesSpec)

/-- 'laws.FnExactFileSize', WHERE WHAT IT READS IS OF BULK AT MOST 1048576: true; the input reads as it did. -/
def fnExactFileSizeUptoRow : OpenClaim := { program := "ytfiajbkmklcaiaa", sum := "f15cc9c077248a7d7252ca33cd306c682c20ff0bb2dc2eef9e282c0b3c7d67e8", func := "loop.example/flashfiles/laws.FnExactFileSize", spec := "fnExactFileSize", apart := false, narrowed := true }
def FnExactFileSizeUptoSaid : Prop := fnExactFileSizeUptoRow.holds Try.pinned (OpenSpec.upto fnExactFileSizeSpec)

/-- 'laws.FnExactFileHoles', WHERE WHAT IT READS IS OF BULK AT MOST 1048576: true; the input reads as it did. -/
def fnExactFileHolesUptoRow : OpenClaim := { program := "ytfiajbkmklcaiaa", sum := "f15cc9c077248a7d7252ca33cd306c682c20ff0bb2dc2eef9e282c0b3c7d67e8", func := "loop.example/flashfiles/laws.FnExactFileHoles", spec := "fnExactFileHoles", apart := false, narrowed := true }
def FnExactFileHolesUptoSaid : Prop := fnExactFileHolesUptoRow.holds Try.pinned (OpenSpec.upto fnExactFileHolesSpec)

/-- 'laws.FnExactCutFile', WHERE WHAT IT READS IS OF BULK AT MOST 1048576: true; the input reads as it did. -/
def fnExactCutFileUptoRow : OpenClaim := { program := "ytfiajbkmklcaiaa", sum := "f15cc9c077248a7d7252ca33cd306c682c20ff0bb2dc2eef9e282c0b3c7d67e8", func := "loop.example/flashfiles/laws.FnExactCutFile", spec := "fnExactCutFile", apart := false, narrowed := true }
def FnExactCutFileUptoSaid : Prop := fnExactCutFileUptoRow.holds Try.pinned (OpenSpec.upto fnExactCutFileSpec)

/-- 'laws.FnExactFileValues', WHERE WHAT IT READS IS OF BULK AT MOST 1048576: true; the input reads as it did. -/
def fnExactFileValuesUptoRow : OpenClaim := { program := "ytfiajbkmklcaiaa", sum := "f15cc9c077248a7d7252ca33cd306c682c20ff0bb2dc2eef9e282c0b3c7d67e8", func := "loop.example/flashfiles/laws.FnExactFileValues", spec := "fnExactFileValues", apart := false, narrowed := true }
def FnExactFileValuesUptoSaid : Prop := fnExactFileValuesUptoRow.holds Try.pinned (OpenSpec.upto fnExactFileValuesSpec)

end Rows
end Go.Proofs.Ytfiajbkmklcaiaa
