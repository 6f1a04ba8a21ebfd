/-
  No cell of these rows narrows 'for every input' (looked for: loops, veiled, ifaces, maps, wideKeys, modest, calm, conditions, laid).
  DERIVED. THE GIVEN ROWS OF THIS SEAT. 8 by the template 'for every input the law returns true; each argument reads behind the call as it read before'; 0 by the template 'total and deterministic' (their statements: YtpnkkpkgoneikaaTotals.lean).
  GIVEN WITH THE SEED: the statements are not yours to turn. If you find one false, say at which input.
  Laid BY PROGRAM, IN A SANDBOX (cutbox-rows.mjs): the forced cells as the released guide's own fill.sh prints them over the translation 88a26104b6103992… (all of the seat's roots in one cut). By AI agents, Wed Nov 11 2026. No macro, syntax, notation, axiom, sorry.
-/
import Derived.Test.YtpnkkpkgoneikaaChecked
import GoSem.Claim
import GoSem.ClaimJoined
import GoSem.ClaimMapViews
import Derived.JoinedTies
import Derived.KernelRfl
namespace Go.Proofs.Ytpnkkpkgoneikaa
/- THE CELL 'sum', in the pinned program and in every row, IS THE sha256 OF THE DUMP (.gsa) THAT YtpnkkpkgoneikaaProg.lean LOADS. Nothing in Lean hashes anything: it is a label: what it is worth is what the hold of that sum in a sandbox is worth. -/
noncomputable def Try.pinned : Pinned := { name := "ytpnkkpkgoneikaa", sum := "88a26104b61039921ed163389d42a19e2a64d04f2c9aeff66c434a2cb9e6071a", checked := Try.checked }
namespace Rows
def none {H : Type} : Left H := { results := [], args := [] }

/-- 'laws.FnHeadsValid': WHATEVER THE INPUT: true; the input reads as it did. -/
def fnHeadsValidSpec : ChangeSpec := { name := "fnHeadsValid", fn := fun _ => fun
  | [d] => { results := [.lit (.bool true)], args := [d] }
  | _ => none }
def fnHeadsValidRow : OpenClaim := { program := "ytpnkkpkgoneikaa", sum := "88a26104b61039921ed163389d42a19e2a64d04f2c9aeff66c434a2cb9e6071a", func := "loop.example/flashfiles/laws.FnHeadsValid", spec := "fnHeadsValid", apart := false }
def FnHeadsValidSaid : Prop := fnHeadsValidRow.holds Try.pinned (OpenSpec.ofChange fnHeadsValidSpec)

/-- ITS FALSE NEIGHBOUR: 'it returns false'. Refute it at one input. -/
def fnHeadsValidWrong : ChangeSpec := { name := "fnHeadsValid", fn := fun _ => fun
  | [d] => { results := [.lit (.bool false)], args := [d] }
  | _ => none }
def FnHeadsValidWrongFalsely : Prop := fnHeadsValidRow.holds Try.pinned (OpenSpec.ofChange fnHeadsValidWrong)

/-- 'laws.FnHeadOf': WHATEVER THE INPUT: true; the input reads as it did. -/
def fnHeadOfSpec : ChangeSpec := { name := "fnHeadOf", fn := fun _ => fun
  | [d] => { results := [.lit (.bool true)], args := [d] }
  | _ => none }
def fnHeadOfRow : OpenClaim := { program := "ytpnkkpkgoneikaa", sum := "88a26104b61039921ed163389d42a19e2a64d04f2c9aeff66c434a2cb9e6071a", func := "loop.example/flashfiles/laws.FnHeadOf", spec := "fnHeadOf", apart := false }
def FnHeadOfSaid : Prop := fnHeadOfRow.holds Try.pinned (OpenSpec.ofChange fnHeadOfSpec)

/-- ITS FALSE NEIGHBOUR: 'it returns false'. Refute it at one input. -/
def fnHeadOfWrong : ChangeSpec := { name := "fnHeadOf", fn := fun _ => fun
  | [d] => { results := [.lit (.bool false)], args := [d] }
  | _ => none }
def FnHeadOfWrongFalsely : Prop := fnHeadOfRow.holds Try.pinned (OpenSpec.ofChange fnHeadOfWrong)

/-- 'laws.FnFreshBlock': WHATEVER THE INPUT: true; the input reads as it did. -/
def fnFreshBlockSpec : ChangeSpec := { name := "fnFreshBlock", fn := fun _ => fun
  | [d] => { results := [.lit (.bool true)], args := [d] }
  | _ => none }
def fnFreshBlockRow : OpenClaim := { program := "ytpnkkpkgoneikaa", sum := "88a26104b61039921ed163389d42a19e2a64d04f2c9aeff66c434a2cb9e6071a", func := "loop.example/flashfiles/laws.FnFreshBlock", spec := "fnFreshBlock", apart := false }
def FnFreshBlockSaid : Prop := fnFreshBlockRow.holds Try.pinned (OpenSpec.ofChange fnFreshBlockSpec)

/-- ITS FALSE NEIGHBOUR: 'it returns false'. Refute it at one input. -/
def fnFreshBlockWrong : ChangeSpec := { name := "fnFreshBlock", fn := fun _ => fun
  | [d] => { results := [.lit (.bool false)], args := [d] }
  | _ => none }
def FnFreshBlockWrongFalsely : Prop := fnFreshBlockRow.holds Try.pinned (OpenSpec.ofChange fnFreshBlockWrong)

/-- 'laws.FnAppendPage': WHATEVER THE INPUT: true; the input reads as it did. -/
def fnAppendPageSpec : ChangeSpec := { name := "fnAppendPage", fn := fun _ => fun
  | [d] => { results := [.lit (.bool true)], args := [d] }
  | _ => none }
def fnAppendPageRow : OpenClaim := { program := "ytpnkkpkgoneikaa", sum := "88a26104b61039921ed163389d42a19e2a64d04f2c9aeff66c434a2cb9e6071a", func := "loop.example/flashfiles/laws.FnAppendPage", spec := "fnAppendPage", apart := false }
def FnAppendPageSaid : Prop := fnAppendPageRow.holds Try.pinned (OpenSpec.ofChange fnAppendPageSpec)

/-- ITS FALSE NEIGHBOUR: 'it returns false'. Refute it at one input. -/
def fnAppendPageWrong : ChangeSpec := { name := "fnAppendPage", fn := fun _ => fun
  | [d] => { results := [.lit (.bool false)], args := [d] }
  | _ => none }
def FnAppendPageWrongFalsely : Prop := fnAppendPageRow.holds Try.pinned (OpenSpec.ofChange fnAppendPageWrong)

/-- 'laws.FnExactHeadsValid': WHATEVER THE INPUT: true; the input reads as it did. -/
def fnExactHeadsValidSpec : ChangeSpec := { name := "fnExactHeadsValid", fn := fun _ => fun
  | [d1, d2] => { results := [.lit (.bool true)], args := [d1, d2] }
  | _ => none }
def fnExactHeadsValidRow : OpenClaim := { program := "ytpnkkpkgoneikaa", sum := "88a26104b61039921ed163389d42a19e2a64d04f2c9aeff66c434a2cb9e6071a", func := "loop.example/flashfiles/laws.FnExactHeadsValid", spec := "fnExactHeadsValid", apart := false }
def FnExactHeadsValidSaid : Prop := fnExactHeadsValidRow.holds Try.pinned (OpenSpec.ofChange fnExactHeadsValidSpec)

/-- ITS FALSE NEIGHBOUR: 'it returns false'. Refute it at one input. -/
def fnExactHeadsValidWrong : ChangeSpec := { name := "fnExactHeadsValid", fn := fun _ => fun
  | [d1, d2] => { results := [.lit (.bool false)], args := [d1, d2] }
  | _ => none }
def FnExactHeadsValidWrongFalsely : Prop := fnExactHeadsValidRow.holds Try.pinned (OpenSpec.ofChange fnExactHeadsValidWrong)

/-- 'laws.FnExactHeadOf': WHATEVER THE INPUT: true; the input reads as it did. -/
def fnExactHeadOfSpec : ChangeSpec := { name := "fnExactHeadOf", fn := fun _ => fun
  | [d1, d2, d3] => { results := [.lit (.bool true)], args := [d1, d2, d3] }
  | _ => none }
def fnExactHeadOfRow : OpenClaim := { program := "ytpnkkpkgoneikaa", sum := "88a26104b61039921ed163389d42a19e2a64d04f2c9aeff66c434a2cb9e6071a", func := "loop.example/flashfiles/laws.FnExactHeadOf", spec := "fnExactHeadOf", apart := false }
def FnExactHeadOfSaid : Prop := fnExactHeadOfRow.holds Try.pinned (OpenSpec.ofChange fnExactHeadOfSpec)

/-- ITS FALSE NEIGHBOUR: 'it returns false'. Refute it at one input. -/
def fnExactHeadOfWrong : ChangeSpec := { name := "fnExactHeadOf", fn := fun _ => fun
  | [d1, d2, d3] => { results := [.lit (.bool false)], args := [d1, d2, d3] }
  | _ => none }
def FnExactHeadOfWrongFalsely : Prop := fnExactHeadOfRow.holds Try.pinned (OpenSpec.ofChange fnExactHeadOfWrong)

/-- 'laws.FnExactFreshBlock': WHATEVER THE INPUT: true; the input reads as it did. -/
def fnExactFreshBlockSpec : ChangeSpec := { name := "fnExactFreshBlock", fn := fun _ => fun
  | [d1, d2] => { results := [.lit (.bool true)], args := [d1, d2] }
  | _ => none }
def fnExactFreshBlockRow : OpenClaim := { program := "ytpnkkpkgoneikaa", sum := "88a26104b61039921ed163389d42a19e2a64d04f2c9aeff66c434a2cb9e6071a", func := "loop.example/flashfiles/laws.FnExactFreshBlock", spec := "fnExactFreshBlock", apart := false }
def FnExactFreshBlockSaid : Prop := fnExactFreshBlockRow.holds Try.pinned (OpenSpec.ofChange fnExactFreshBlockSpec)

/-- ITS FALSE NEIGHBOUR: 'it returns false'. Refute it at one input. -/
def fnExactFreshBlockWrong : ChangeSpec := { name := "fnExactFreshBlock", fn := fun _ => fun
  | [d1, d2] => { results := [.lit (.bool false)], args := [d1, d2] }
  | _ => none }
def FnExactFreshBlockWrongFalsely : Prop := fnExactFreshBlockRow.holds Try.pinned (OpenSpec.ofChange fnExactFreshBlockWrong)

/-- 'laws.FnExactAppendPage': WHATEVER THE INPUT: true; the input reads as it did. -/
def fnExactAppendPageSpec : ChangeSpec := { name := "fnExactAppendPage", fn := fun _ => fun
  | [d1, d2, d3, d4] => { results := [.lit (.bool true)], args := [d1, d2, d3, d4] }
  | _ => none }
def fnExactAppendPageRow : OpenClaim := { program := "ytpnkkpkgoneikaa", sum := "88a26104b61039921ed163389d42a19e2a64d04f2c9aeff66c434a2cb9e6071a", func := "loop.example/flashfiles/laws.FnExactAppendPage", spec := "fnExactAppendPage", apart := false }
def FnExactAppendPageSaid : Prop := fnExactAppendPageRow.holds Try.pinned (OpenSpec.ofChange fnExactAppendPageSpec)

/-- ITS FALSE NEIGHBOUR: 'it returns false'. Refute it at one input. -/
def fnExactAppendPageWrong : ChangeSpec := { name := "fnExactAppendPage", fn := fun _ => fun
  | [d1, d2, d3, d4] => { results := [.lit (.bool false)], args := [d1, d2, d3, d4] }
  | _ => none }
def FnExactAppendPageWrongFalsely : Prop := fnExactAppendPageRow.holds Try.pinned (OpenSpec.ofChange fnExactAppendPageWrong)

/- THE SECOND FORM. 'bulk': how many values and letters a reading holds, each counted each time it is reached (what is shared counts as often as it is met; a slice's spare places count too). A statement '..UptoSaid' is the law's where the arguments, and the package variables that the reading takes, are together of bulk at most 1048576: NARROWER than '..Said'. Prove '..Said' where nothing that the law and all that it calls make is longer than what came in: it says more and counts as full. Else prove '..UptoSaid'. A law counts once. -/
mutual
def uptoBulk {H : Type} : DataW H → Nat
  | .lit (.string bytes) => bytes.length + 1
  | .lit _ => 1
  | .nil => 1
  | .ptr d => uptoBulk d + 1
  | .slice elems spare => uptoBulkAll elems + uptoBulkAll spare + 1
  | .agg parts => uptoBulkAll parts + 1
  | .iface _ d => uptoBulk d + 1
  | .map entries => uptoBulkEntries entries + 1
  | .held _ => 1
def uptoBulkAll {H : Type} : List (DataW H) → Nat
  | [] => 0
  | d :: r => uptoBulk d + uptoBulkAll r
def uptoBulkEntries {H : Type} : List (Lit × DataW H) → Nat
  | [] => 0
  | x :: r => uptoBulkEntry x + uptoBulkEntries r
def uptoBulkEntry {H : Type} : Lit × DataW H → Nat
  | (.string bytes, d) => bytes.length + uptoBulk d + 1
  | (_, d) => uptoBulk d + 1
 end
def uptoSmall : (H : Type) → List (DataW H) → Bool := fun _ ds => decide (uptoBulkAll ds ≤ 1048576)
def OpenSpec.upto (s : _root_.Go.ChangeSpec) : _root_.Go.OpenSpec := { _root_.Go.OpenSpec.ofChange s with cond := some uptoSmall }

/-- 'laws.FnHeadsValid', WHERE WHAT IT READS IS OF BULK AT MOST 1048576: true; the input reads as it did. -/
def fnHeadsValidUptoRow : OpenClaim := { program := "ytpnkkpkgoneikaa", sum := "88a26104b61039921ed163389d42a19e2a64d04f2c9aeff66c434a2cb9e6071a", func := "loop.example/flashfiles/laws.FnHeadsValid", spec := "fnHeadsValid", apart := false, narrowed := true }
def FnHeadsValidUptoSaid : Prop := fnHeadsValidUptoRow.holds Try.pinned (OpenSpec.upto fnHeadsValidSpec)

/-- 'laws.FnHeadOf', WHERE WHAT IT READS IS OF BULK AT MOST 1048576: true; the input reads as it did. -/
def fnHeadOfUptoRow : OpenClaim := { program := "ytpnkkpkgoneikaa", sum := "88a26104b61039921ed163389d42a19e2a64d04f2c9aeff66c434a2cb9e6071a", func := "loop.example/flashfiles/laws.FnHeadOf", spec := "fnHeadOf", apart := false, narrowed := true }
def FnHeadOfUptoSaid : Prop := fnHeadOfUptoRow.holds Try.pinned (OpenSpec.upto fnHeadOfSpec)

/-- 'laws.FnFreshBlock', WHERE WHAT IT READS IS OF BULK AT MOST 1048576: true; the input reads as it did. -/
def fnFreshBlockUptoRow : OpenClaim := { program := "ytpnkkpkgoneikaa", sum := "88a26104b61039921ed163389d42a19e2a64d04f2c9aeff66c434a2cb9e6071a", func := "loop.example/flashfiles/laws.FnFreshBlock", spec := "fnFreshBlock", apart := false, narrowed := true }
def FnFreshBlockUptoSaid : Prop := fnFreshBlockUptoRow.holds Try.pinned (OpenSpec.upto fnFreshBlockSpec)

/-- 'laws.FnAppendPage', WHERE WHAT IT READS IS OF BULK AT MOST 1048576: true; the input reads as it did. -/
def fnAppendPageUptoRow : OpenClaim := { program := "ytpnkkpkgoneikaa", sum := "88a26104b61039921ed163389d42a19e2a64d04f2c9aeff66c434a2cb9e6071a", func := "loop.example/flashfiles/laws.FnAppendPage", spec := "fnAppendPage", apart := false, narrowed := true }
def FnAppendPageUptoSaid : Prop := fnAppendPageUptoRow.holds Try.pinned (OpenSpec.upto fnAppendPageSpec)

/-- 'laws.FnExactHeadsValid', WHERE WHAT IT READS IS OF BULK AT MOST 1048576: true; the input reads as it did. -/
def fnExactHeadsValidUptoRow : OpenClaim := { program := "ytpnkkpkgoneikaa", sum := "88a26104b61039921ed163389d42a19e2a64d04f2c9aeff66c434a2cb9e6071a", func := "loop.example/flashfiles/laws.FnExactHeadsValid", spec := "fnExactHeadsValid", apart := false, narrowed := true }
def FnExactHeadsValidUptoSaid : Prop := fnExactHeadsValidUptoRow.holds Try.pinned (OpenSpec.upto fnExactHeadsValidSpec)

/-- 'laws.FnExactHeadOf', WHERE WHAT IT READS IS OF BULK AT MOST 1048576: true; the input reads as it did. -/
def fnExactHeadOfUptoRow : OpenClaim := { program := "ytpnkkpkgoneikaa", sum := "88a26104b61039921ed163389d42a19e2a64d04f2c9aeff66c434a2cb9e6071a", func := "loop.example/flashfiles/laws.FnExactHeadOf", spec := "fnExactHeadOf", apart := false, narrowed := true }
def FnExactHeadOfUptoSaid : Prop := fnExactHeadOfUptoRow.holds Try.pinned (OpenSpec.upto fnExactHeadOfSpec)

/-- 'laws.FnExactFreshBlock', WHERE WHAT IT READS IS OF BULK AT MOST 1048576: true; the input reads as it did. -/
def fnExactFreshBlockUptoRow : OpenClaim := { program := "ytpnkkpkgoneikaa", sum := "88a26104b61039921ed163389d42a19e2a64d04f2c9aeff66c434a2cb9e6071a", func := "loop.example/flashfiles/laws.FnExactFreshBlock", spec := "fnExactFreshBlock", apart := false, narrowed := true }
def FnExactFreshBlockUptoSaid : Prop := fnExactFreshBlockUptoRow.holds Try.pinned (OpenSpec.upto fnExactFreshBlockSpec)

/-- 'laws.FnExactAppendPage', WHERE WHAT IT READS IS OF BULK AT MOST 1048576: true; the input reads as it did. -/
def fnExactAppendPageUptoRow : OpenClaim := { program := "ytpnkkpkgoneikaa", sum := "88a26104b61039921ed163389d42a19e2a64d04f2c9aeff66c434a2cb9e6071a", func := "loop.example/flashfiles/laws.FnExactAppendPage", spec := "fnExactAppendPage", apart := false, narrowed := true }
def FnExactAppendPageUptoSaid : Prop := fnExactAppendPageUptoRow.holds Try.pinned (OpenSpec.upto fnExactAppendPageSpec)

end Rows
end Go.Proofs.Ytpnkkpkgoneikaa
