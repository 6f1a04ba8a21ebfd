/-
  No cell of these rows narrows 'for every input' (looked for: loops, veiled, ifaces, maps, wideKeys, modest, calm, conditions, laid).
  DERIVED. THE GIVEN ROWS OF THIS SEAT. 10 by the template 'for every input the law returns true; each argument reads behind the call as it read before'; 0 by the template 'total and deterministic' (their statements: YtcmnnleebjlaeaaTotals.lean).
  GIVEN WITH THE SEED: the statements are not yours to turn. If you find one false, say at which input.
  Laid BY PROGRAM, IN A SANDBOX (cutbox-rows.mjs): the forced cells as the released guide's own fill.sh prints them over the translation e515cf948e96e26c… (all of the seat's roots in one cut). By AI agents, Wed Nov 11 2026. No macro, syntax, notation, axiom, sorry.
-/
import Derived.Test.YtcmnnleebjlaeaaChecked
import GoSem.Claim
import GoSem.ClaimJoined
import GoSem.ClaimMapViews
import Derived.JoinedTies
import Derived.KernelRfl
namespace Go.Proofs.Ytcmnnleebjlaeaa
/- THE CELL 'sum', in the pinned program and in every row, IS THE sha256 OF THE DUMP (.gsa) THAT YtcmnnleebjlaeaaProg.lean LOADS. Nothing in Lean hashes anything: it is a label: what it is worth is what the hold of that sum in a sandbox is worth. -/
noncomputable def Try.pinned : Pinned := { name := "ytcmnnleebjlaeaa", sum := "e515cf948e96e26c7d8c20ed6cc365962a9a8877484a77e93f9827a5f48536db", checked := Try.checked }
namespace Rows
def none {H : Type} : Left H := { results := [], args := [] }

/-- 'laws.FnBlockValid': WHATEVER THE INPUT: true; the input reads as it did. -/
def fnBlockValidSpec : ChangeSpec := { name := "fnBlockValid", fn := fun _ => fun
  | [d] => { results := [.lit (.bool true)], args := [d] }
  | _ => none }
def fnBlockValidRow : OpenClaim := { program := "ytcmnnleebjlaeaa", sum := "e515cf948e96e26c7d8c20ed6cc365962a9a8877484a77e93f9827a5f48536db", func := "loop.example/flashfiles/laws.FnBlockValid", spec := "fnBlockValid", apart := false }
def FnBlockValidSaid : Prop := fnBlockValidRow.holds Try.pinned (OpenSpec.ofChange fnBlockValidSpec)

/-- ITS FALSE NEIGHBOUR: 'it returns false'. Refute it at one input. -/
def fnBlockValidWrong : ChangeSpec := { name := "fnBlockValid", fn := fun _ => fun
  | [d] => { results := [.lit (.bool false)], args := [d] }
  | _ => none }
def FnBlockValidWrongFalsely : Prop := fnBlockValidRow.holds Try.pinned (OpenSpec.ofChange fnBlockValidWrong)

/-- 'laws.FnNewBlock': WHATEVER THE INPUT: true; the input reads as it did. -/
def fnNewBlockSpec : ChangeSpec := { name := "fnNewBlock", fn := fun _ => fun
  | [d] => { results := [.lit (.bool true)], args := [d] }
  | _ => none }
def fnNewBlockRow : OpenClaim := { program := "ytcmnnleebjlaeaa", sum := "e515cf948e96e26c7d8c20ed6cc365962a9a8877484a77e93f9827a5f48536db", func := "loop.example/flashfiles/laws.FnNewBlock", spec := "fnNewBlock", apart := false }
def FnNewBlockSaid : Prop := fnNewBlockRow.holds Try.pinned (OpenSpec.ofChange fnNewBlockSpec)

/-- ITS FALSE NEIGHBOUR: 'it returns false'. Refute it at one input. -/
def fnNewBlockWrong : ChangeSpec := { name := "fnNewBlock", fn := fun _ => fun
  | [d] => { results := [.lit (.bool false)], args := [d] }
  | _ => none }
def FnNewBlockWrongFalsely : Prop := fnNewBlockRow.holds Try.pinned (OpenSpec.ofChange fnNewBlockWrong)

/-- 'laws.FnBlockNext': WHATEVER THE INPUT: true; the input reads as it did. -/
def fnBlockNextSpec : ChangeSpec := { name := "fnBlockNext", fn := fun _ => fun
  | [d] => { results := [.lit (.bool true)], args := [d] }
  | _ => none }
def fnBlockNextRow : OpenClaim := { program := "ytcmnnleebjlaeaa", sum := "e515cf948e96e26c7d8c20ed6cc365962a9a8877484a77e93f9827a5f48536db", func := "loop.example/flashfiles/laws.FnBlockNext", spec := "fnBlockNext", apart := false }
def FnBlockNextSaid : Prop := fnBlockNextRow.holds Try.pinned (OpenSpec.ofChange fnBlockNextSpec)

/-- ITS FALSE NEIGHBOUR: 'it returns false'. Refute it at one input. -/
def fnBlockNextWrong : ChangeSpec := { name := "fnBlockNext", fn := fun _ => fun
  | [d] => { results := [.lit (.bool false)], args := [d] }
  | _ => none }
def FnBlockNextWrongFalsely : Prop := fnBlockNextRow.holds Try.pinned (OpenSpec.ofChange fnBlockNextWrong)

/-- 'laws.FnWriteBlock': WHATEVER THE INPUT: true; the input reads as it did. -/
def fnWriteBlockSpec : ChangeSpec := { name := "fnWriteBlock", fn := fun _ => fun
  | [d] => { results := [.lit (.bool true)], args := [d] }
  | _ => none }
def fnWriteBlockRow : OpenClaim := { program := "ytcmnnleebjlaeaa", sum := "e515cf948e96e26c7d8c20ed6cc365962a9a8877484a77e93f9827a5f48536db", func := "loop.example/flashfiles/laws.FnWriteBlock", spec := "fnWriteBlock", apart := false }
def FnWriteBlockSaid : Prop := fnWriteBlockRow.holds Try.pinned (OpenSpec.ofChange fnWriteBlockSpec)

/-- ITS FALSE NEIGHBOUR: 'it returns false'. Refute it at one input. -/
def fnWriteBlockWrong : ChangeSpec := { name := "fnWriteBlock", fn := fun _ => fun
  | [d] => { results := [.lit (.bool false)], args := [d] }
  | _ => none }
def FnWriteBlockWrongFalsely : Prop := fnWriteBlockRow.holds Try.pinned (OpenSpec.ofChange fnWriteBlockWrong)

/-- 'laws.FnEraseBlock': WHATEVER THE INPUT: true; the input reads as it did. -/
def fnEraseBlockSpec : ChangeSpec := { name := "fnEraseBlock", fn := fun _ => fun
  | [d] => { results := [.lit (.bool true)], args := [d] }
  | _ => none }
def fnEraseBlockRow : OpenClaim := { program := "ytcmnnleebjlaeaa", sum := "e515cf948e96e26c7d8c20ed6cc365962a9a8877484a77e93f9827a5f48536db", func := "loop.example/flashfiles/laws.FnEraseBlock", spec := "fnEraseBlock", apart := false }
def FnEraseBlockSaid : Prop := fnEraseBlockRow.holds Try.pinned (OpenSpec.ofChange fnEraseBlockSpec)

/-- ITS FALSE NEIGHBOUR: 'it returns false'. Refute it at one input. -/
def fnEraseBlockWrong : ChangeSpec := { name := "fnEraseBlock", fn := fun _ => fun
  | [d] => { results := [.lit (.bool false)], args := [d] }
  | _ => none }
def FnEraseBlockWrongFalsely : Prop := fnEraseBlockRow.holds Try.pinned (OpenSpec.ofChange fnEraseBlockWrong)

/-- 'laws.FnExactBlockValid': WHATEVER THE INPUT: true; the input reads as it did. -/
def fnExactBlockValidSpec : ChangeSpec := { name := "fnExactBlockValid", fn := fun _ => fun
  | [d] => { results := [.lit (.bool true)], args := [d] }
  | _ => none }
def fnExactBlockValidRow : OpenClaim := { program := "ytcmnnleebjlaeaa", sum := "e515cf948e96e26c7d8c20ed6cc365962a9a8877484a77e93f9827a5f48536db", func := "loop.example/flashfiles/laws.FnExactBlockValid", spec := "fnExactBlockValid", apart := false }
def FnExactBlockValidSaid : Prop := fnExactBlockValidRow.holds Try.pinned (OpenSpec.ofChange fnExactBlockValidSpec)

/-- ITS FALSE NEIGHBOUR: 'it returns false'. Refute it at one input. -/
def fnExactBlockValidWrong : ChangeSpec := { name := "fnExactBlockValid", fn := fun _ => fun
  | [d] => { results := [.lit (.bool false)], args := [d] }
  | _ => none }
def FnExactBlockValidWrongFalsely : Prop := fnExactBlockValidRow.holds Try.pinned (OpenSpec.ofChange fnExactBlockValidWrong)

/-- 'laws.FnExactNewBlock': WHATEVER THE INPUT: true; the input reads as it did. -/
def fnExactNewBlockSpec : ChangeSpec := { name := "fnExactNewBlock", fn := fun _ => fun
  | [d] => { results := [.lit (.bool true)], args := [d] }
  | _ => none }
def fnExactNewBlockRow : OpenClaim := { program := "ytcmnnleebjlaeaa", sum := "e515cf948e96e26c7d8c20ed6cc365962a9a8877484a77e93f9827a5f48536db", func := "loop.example/flashfiles/laws.FnExactNewBlock", spec := "fnExactNewBlock", apart := false }
def FnExactNewBlockSaid : Prop := fnExactNewBlockRow.holds Try.pinned (OpenSpec.ofChange fnExactNewBlockSpec)

/-- ITS FALSE NEIGHBOUR: 'it returns false'. Refute it at one input. -/
def fnExactNewBlockWrong : ChangeSpec := { name := "fnExactNewBlock", fn := fun _ => fun
  | [d] => { results := [.lit (.bool false)], args := [d] }
  | _ => none }
def FnExactNewBlockWrongFalsely : Prop := fnExactNewBlockRow.holds Try.pinned (OpenSpec.ofChange fnExactNewBlockWrong)

/-- 'laws.FnExactBlockNext': WHATEVER THE INPUT: true; the input reads as it did. -/
def fnExactBlockNextSpec : ChangeSpec := { name := "fnExactBlockNext", fn := fun _ => fun
  | [d] => { results := [.lit (.bool true)], args := [d] }
  | _ => none }
def fnExactBlockNextRow : OpenClaim := { program := "ytcmnnleebjlaeaa", sum := "e515cf948e96e26c7d8c20ed6cc365962a9a8877484a77e93f9827a5f48536db", func := "loop.example/flashfiles/laws.FnExactBlockNext", spec := "fnExactBlockNext", apart := false }
def FnExactBlockNextSaid : Prop := fnExactBlockNextRow.holds Try.pinned (OpenSpec.ofChange fnExactBlockNextSpec)

/-- ITS FALSE NEIGHBOUR: 'it returns false'. Refute it at one input. -/
def fnExactBlockNextWrong : ChangeSpec := { name := "fnExactBlockNext", fn := fun _ => fun
  | [d] => { results := [.lit (.bool false)], args := [d] }
  | _ => none }
def FnExactBlockNextWrongFalsely : Prop := fnExactBlockNextRow.holds Try.pinned (OpenSpec.ofChange fnExactBlockNextWrong)

/-- 'laws.FnExactWriteBlock': WHATEVER THE INPUT: true; the input reads as it did. -/
def fnExactWriteBlockSpec : ChangeSpec := { name := "fnExactWriteBlock", fn := fun _ => fun
  | [d1, d2] => { results := [.lit (.bool true)], args := [d1, d2] }
  | _ => none }
def fnExactWriteBlockRow : OpenClaim := { program := "ytcmnnleebjlaeaa", sum := "e515cf948e96e26c7d8c20ed6cc365962a9a8877484a77e93f9827a5f48536db", func := "loop.example/flashfiles/laws.FnExactWriteBlock", spec := "fnExactWriteBlock", apart := false }
def FnExactWriteBlockSaid : Prop := fnExactWriteBlockRow.holds Try.pinned (OpenSpec.ofChange fnExactWriteBlockSpec)

/-- ITS FALSE NEIGHBOUR: 'it returns false'. Refute it at one input. -/
def fnExactWriteBlockWrong : ChangeSpec := { name := "fnExactWriteBlock", fn := fun _ => fun
  | [d1, d2] => { results := [.lit (.bool false)], args := [d1, d2] }
  | _ => none }
def FnExactWriteBlockWrongFalsely : Prop := fnExactWriteBlockRow.holds Try.pinned (OpenSpec.ofChange fnExactWriteBlockWrong)

/-- 'laws.FnExactEraseBlock': WHATEVER THE INPUT: true; the input reads as it did. -/
def fnExactEraseBlockSpec : ChangeSpec := { name := "fnExactEraseBlock", fn := fun _ => fun
  | [d] => { results := [.lit (.bool true)], args := [d] }
  | _ => none }
def fnExactEraseBlockRow : OpenClaim := { program := "ytcmnnleebjlaeaa", sum := "e515cf948e96e26c7d8c20ed6cc365962a9a8877484a77e93f9827a5f48536db", func := "loop.example/flashfiles/laws.FnExactEraseBlock", spec := "fnExactEraseBlock", apart := false }
def FnExactEraseBlockSaid : Prop := fnExactEraseBlockRow.holds Try.pinned (OpenSpec.ofChange fnExactEraseBlockSpec)

/-- ITS FALSE NEIGHBOUR: 'it returns false'. Refute it at one input. -/
def fnExactEraseBlockWrong : ChangeSpec := { name := "fnExactEraseBlock", fn := fun _ => fun
  | [d] => { results := [.lit (.bool false)], args := [d] }
  | _ => none }
def FnExactEraseBlockWrongFalsely : Prop := fnExactEraseBlockRow.holds Try.pinned (OpenSpec.ofChange fnExactEraseBlockWrong)

/- THE SECOND FORM. 'bulk': how many values and letters a reading holds, each counted each time it is reached (what is shared counts as often as it is met; a slice's spare places count too). A statement '..UptoSaid' is the law's where the arguments, and the package variables that the reading takes, are together of bulk at most 1048576: NARROWER than '..Said'. Prove '..Said' where nothing that the law and all that it calls make is longer than what came in: it says more and counts as full. Else prove '..UptoSaid'. A law counts once. -/
mutual
def uptoBulk {H : Type} : DataW H → Nat
  | .lit (.string bytes) => bytes.length + 1
  | .lit _ => 1
  | .nil => 1
  | .ptr d => uptoBulk d + 1
  | .slice elems spare => uptoBulkAll elems + uptoBulkAll spare + 1
  | .agg parts => uptoBulkAll parts + 1
  | .iface _ d => uptoBulk d + 1
  | .map entries => uptoBulkEntries entries + 1
  | .held _ => 1
def uptoBulkAll {H : Type} : List (DataW H) → Nat
  | [] => 0
  | d :: r => uptoBulk d + uptoBulkAll r
def uptoBulkEntries {H : Type} : List (Lit × DataW H) → Nat
  | [] => 0
  | x :: r => uptoBulkEntry x + uptoBulkEntries r
def uptoBulkEntry {H : Type} : Lit × DataW H → Nat
  | (.string bytes, d) => bytes.length + uptoBulk d + 1
  | (_, d) => uptoBulk d + 1
 end
def uptoSmall : (H : Type) → List (DataW H) → Bool := fun _ ds => decide (uptoBulkAll ds ≤ 1048576)
def OpenSpec.upto (s : _root_.Go.ChangeSpec) : _root_.Go.OpenSpec := { _root_.Go.OpenSpec.ofChange s with cond := some uptoSmall }

/-- 'laws.FnBlockValid', WHERE WHAT IT READS IS OF BULK AT MOST 1048576: true; the input reads as it did. -/
def fnBlockValidUptoRow : OpenClaim := { program := "ytcmnnleebjlaeaa", sum := "e515cf948e96e26c7d8c20ed6cc365962a9a8877484a77e93f9827a5f48536db", func := "loop.example/flashfiles/laws.FnBlockValid", spec := "fnBlockValid", apart := false, narrowed := true }
def FnBlockValidUptoSaid : Prop := fnBlockValidUptoRow.holds Try.pinned (OpenSpec.upto fnBlockValidSpec)

/-- 'laws.FnNewBlock', WHERE WHAT IT READS IS OF BULK AT MOST 1048576: true; the input reads as it did. -/
def fnNewBlockUptoRow : OpenClaim := { program := "ytcmnnleebjlaeaa", sum := "e515cf948e96e26c7d8c20ed6cc365962a9a8877484a77e93f9827a5f48536db", func := "loop.example/flashfiles/laws.FnNewBlock", spec := "fnNewBlock", apart := false, narrowed := true }
def FnNewBlockUptoSaid : Prop := fnNewBlockUptoRow.holds Try.pinned (OpenSpec.upto fnNewBlockSpec)

/-- 'laws.FnBlockNext', WHERE WHAT IT READS IS OF BULK AT MOST 1048576: true; the input reads as it did. -/
def fnBlockNextUptoRow : OpenClaim := { program := "ytcmnnleebjlaeaa", sum := "e515cf948e96e26c7d8c20ed6cc365962a9a8877484a77e93f9827a5f48536db", func := "loop.example/flashfiles/laws.FnBlockNext", spec := "fnBlockNext", apart := false, narrowed := true }
def FnBlockNextUptoSaid : Prop := fnBlockNextUptoRow.holds Try.pinned (OpenSpec.upto fnBlockNextSpec)

/-- 'laws.FnWriteBlock', WHERE WHAT IT READS IS OF BULK AT MOST 1048576: true; the input reads as it did. -/
def fnWriteBlockUptoRow : OpenClaim := { program := "ytcmnnleebjlaeaa", sum := "e515cf948e96e26c7d8c20ed6cc365962a9a8877484a77e93f9827a5f48536db", func := "loop.example/flashfiles/laws.FnWriteBlock", spec := "fnWriteBlock", apart := false, narrowed := true }
def FnWriteBlockUptoSaid : Prop := fnWriteBlockUptoRow.holds Try.pinned (OpenSpec.upto fnWriteBlockSpec)

/-- 'laws.FnEraseBlock', WHERE WHAT IT READS IS OF BULK AT MOST 1048576: true; the input reads as it did. -/
def fnEraseBlockUptoRow : OpenClaim := { program := "ytcmnnleebjlaeaa", sum := "e515cf948e96e26c7d8c20ed6cc365962a9a8877484a77e93f9827a5f48536db", func := "loop.example/flashfiles/laws.FnEraseBlock", spec := "fnEraseBlock", apart := false, narrowed := true }
def FnEraseBlockUptoSaid : Prop := fnEraseBlockUptoRow.holds Try.pinned (OpenSpec.upto fnEraseBlockSpec)

/-- 'laws.FnExactBlockValid', WHERE WHAT IT READS IS OF BULK AT MOST 1048576: true; the input reads as it did. -/
def fnExactBlockValidUptoRow : OpenClaim := { program := "ytcmnnleebjlaeaa", sum := "e515cf948e96e26c7d8c20ed6cc365962a9a8877484a77e93f9827a5f48536db", func := "loop.example/flashfiles/laws.FnExactBlockValid", spec := "fnExactBlockValid", apart := false, narrowed := true }
def FnExactBlockValidUptoSaid : Prop := fnExactBlockValidUptoRow.holds Try.pinned (OpenSpec.upto fnExactBlockValidSpec)

/-- 'laws.FnExactNewBlock', WHERE WHAT IT READS IS OF BULK AT MOST 1048576: true; the input reads as it did. -/
def fnExactNewBlockUptoRow : OpenClaim := { program := "ytcmnnleebjlaeaa", sum := "e515cf948e96e26c7d8c20ed6cc365962a9a8877484a77e93f9827a5f48536db", func := "loop.example/flashfiles/laws.FnExactNewBlock", spec := "fnExactNewBlock", apart := false, narrowed := true }
def FnExactNewBlockUptoSaid : Prop := fnExactNewBlockUptoRow.holds Try.pinned (OpenSpec.upto fnExactNewBlockSpec)

/-- 'laws.FnExactBlockNext', WHERE WHAT IT READS IS OF BULK AT MOST 1048576: true; the input reads as it did. -/
def fnExactBlockNextUptoRow : OpenClaim := { program := "ytcmnnleebjlaeaa", sum := "e515cf948e96e26c7d8c20ed6cc365962a9a8877484a77e93f9827a5f48536db", func := "loop.example/flashfiles/laws.FnExactBlockNext", spec := "fnExactBlockNext", apart := false, narrowed := true }
def FnExactBlockNextUptoSaid : Prop := fnExactBlockNextUptoRow.holds Try.pinned (OpenSpec.upto fnExactBlockNextSpec)

/-- 'laws.FnExactWriteBlock', WHERE WHAT IT READS IS OF BULK AT MOST 1048576: true; the input reads as it did. -/
def fnExactWriteBlockUptoRow : OpenClaim := { program := "ytcmnnleebjlaeaa", sum := "e515cf948e96e26c7d8c20ed6cc365962a9a8877484a77e93f9827a5f48536db", func := "loop.example/flashfiles/laws.FnExactWriteBlock", spec := "fnExactWriteBlock", apart := false, narrowed := true }
def FnExactWriteBlockUptoSaid : Prop := fnExactWriteBlockUptoRow.holds Try.pinned (OpenSpec.upto fnExactWriteBlockSpec)

/-- 'laws.FnExactEraseBlock', WHERE WHAT IT READS IS OF BULK AT MOST 1048576: true; the input reads as it did. -/
def fnExactEraseBlockUptoRow : OpenClaim := { program := "ytcmnnleebjlaeaa", sum := "e515cf948e96e26c7d8c20ed6cc365962a9a8877484a77e93f9827a5f48536db", func := "loop.example/flashfiles/laws.FnExactEraseBlock", spec := "fnExactEraseBlock", apart := false, narrowed := true }
def FnExactEraseBlockUptoSaid : Prop := fnExactEraseBlockUptoRow.holds Try.pinned (OpenSpec.upto fnExactEraseBlockSpec)

end Rows
end Go.Proofs.Ytcmnnleebjlaeaa
