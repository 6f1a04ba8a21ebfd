/-
  No cell of these rows narrows 'for every input' (looked for: loops, veiled, ifaces, maps, wideKeys, modest, calm, conditions, laid).
  DERIVED. THE GIVEN ROWS OF THIS SEAT. 8 by the template 'for every input the law returns true; each argument reads behind the call as it read before'; 0 by the template 'total and deterministic' (their statements: YthgcjnieajoceaaTotals.lean).
  GIVEN WITH THE SEED: the statements are not yours to turn. If you find one false, say at which input.
  Laid BY PROGRAM, IN A SANDBOX (cutbox-rows.mjs): the forced cells as the released guide's own fill.sh prints them over the translation 33591e49c07dc741… (all of the seat's roots in one cut). By AI agents, Wed Nov 11 2026. No macro, syntax, notation, axiom, sorry.
-/
import Derived.Test.YthgcjnieajoceaaChecked
import GoSem.Claim
import GoSem.ClaimJoined
import GoSem.ClaimMapViews
import Derived.JoinedTies
import Derived.KernelRfl
namespace Go.Proofs.Ythgcjnieajoceaa
/- THE CELL 'sum', in the pinned program and in every row, IS THE sha256 OF THE DUMP (.gsa) THAT YthgcjnieajoceaaProg.lean LOADS. Nothing in Lean hashes anything: it is a label: what it is worth is what the hold of that sum in a sandbox is worth. -/
noncomputable def Try.pinned : Pinned := { name := "ythgcjnieajoceaa", sum := "33591e49c07dc7410b2a6953e0faaa6761834d3eac98d51c67f7c143f39921ab", checked := Try.checked }
namespace Rows
def none {H : Type} : Left H := { results := [], args := [] }

/-- 'laws.FnCodeWord': WHATEVER THE INPUT: true; the input reads as it did. -/
def fnCodeWordSpec : ChangeSpec := { name := "fnCodeWord", fn := fun _ => fun
  | [d] => { results := [.lit (.bool true)], args := [d] }
  | _ => none }
def fnCodeWordRow : OpenClaim := { program := "ythgcjnieajoceaa", sum := "33591e49c07dc7410b2a6953e0faaa6761834d3eac98d51c67f7c143f39921ab", func := "loop.example/flashfiles/laws.FnCodeWord", spec := "fnCodeWord", apart := false }
def FnCodeWordSaid : Prop := fnCodeWordRow.holds Try.pinned (OpenSpec.ofChange fnCodeWordSpec)

/-- ITS FALSE NEIGHBOUR: 'it returns false'. Refute it at one input. -/
def fnCodeWordWrong : ChangeSpec := { name := "fnCodeWord", fn := fun _ => fun
  | [d] => { results := [.lit (.bool false)], args := [d] }
  | _ => none }
def FnCodeWordWrongFalsely : Prop := fnCodeWordRow.holds Try.pinned (OpenSpec.ofChange fnCodeWordWrong)

/-- 'laws.FnFlipBit': WHATEVER THE INPUT: true; the input reads as it did. -/
def fnFlipBitSpec : ChangeSpec := { name := "fnFlipBit", fn := fun _ => fun
  | [d] => { results := [.lit (.bool true)], args := [d] }
  | _ => none }
def fnFlipBitRow : OpenClaim := { program := "ythgcjnieajoceaa", sum := "33591e49c07dc7410b2a6953e0faaa6761834d3eac98d51c67f7c143f39921ab", func := "loop.example/flashfiles/laws.FnFlipBit", spec := "fnFlipBit", apart := false }
def FnFlipBitSaid : Prop := fnFlipBitRow.holds Try.pinned (OpenSpec.ofChange fnFlipBitSpec)

/-- ITS FALSE NEIGHBOUR: 'it returns false'. Refute it at one input. -/
def fnFlipBitWrong : ChangeSpec := { name := "fnFlipBit", fn := fun _ => fun
  | [d] => { results := [.lit (.bool false)], args := [d] }
  | _ => none }
def FnFlipBitWrongFalsely : Prop := fnFlipBitRow.holds Try.pinned (OpenSpec.ofChange fnFlipBitWrong)

/-- 'laws.FnFixWord': WHATEVER THE INPUT: true; the input reads as it did. -/
def fnFixWordSpec : ChangeSpec := { name := "fnFixWord", fn := fun _ => fun
  | [d] => { results := [.lit (.bool true)], args := [d] }
  | _ => none }
def fnFixWordRow : OpenClaim := { program := "ythgcjnieajoceaa", sum := "33591e49c07dc7410b2a6953e0faaa6761834d3eac98d51c67f7c143f39921ab", func := "loop.example/flashfiles/laws.FnFixWord", spec := "fnFixWord", apart := false }
def FnFixWordSaid : Prop := fnFixWordRow.holds Try.pinned (OpenSpec.ofChange fnFixWordSpec)

/-- ITS FALSE NEIGHBOUR: 'it returns false'. Refute it at one input. -/
def fnFixWordWrong : ChangeSpec := { name := "fnFixWord", fn := fun _ => fun
  | [d] => { results := [.lit (.bool false)], args := [d] }
  | _ => none }
def FnFixWordWrongFalsely : Prop := fnFixWordRow.holds Try.pinned (OpenSpec.ofChange fnFixWordWrong)

/-- 'laws.FnWordsApart': WHATEVER THE INPUT: true; the input reads as it did. -/
def fnWordsApartSpec : ChangeSpec := { name := "fnWordsApart", fn := fun _ => fun
  | [d] => { results := [.lit (.bool true)], args := [d] }
  | _ => none }
def fnWordsApartRow : OpenClaim := { program := "ythgcjnieajoceaa", sum := "33591e49c07dc7410b2a6953e0faaa6761834d3eac98d51c67f7c143f39921ab", func := "loop.example/flashfiles/laws.FnWordsApart", spec := "fnWordsApart", apart := false }
def FnWordsApartSaid : Prop := fnWordsApartRow.holds Try.pinned (OpenSpec.ofChange fnWordsApartSpec)

/-- ITS FALSE NEIGHBOUR: 'it returns false'. Refute it at one input. -/
def fnWordsApartWrong : ChangeSpec := { name := "fnWordsApart", fn := fun _ => fun
  | [d] => { results := [.lit (.bool false)], args := [d] }
  | _ => none }
def FnWordsApartWrongFalsely : Prop := fnWordsApartRow.holds Try.pinned (OpenSpec.ofChange fnWordsApartWrong)

/-- 'laws.FnExactCodeWord': WHATEVER THE INPUT: true; the input reads as it did. -/
def fnExactCodeWordSpec : ChangeSpec := { name := "fnExactCodeWord", fn := fun _ => fun
  | [d] => { results := [.lit (.bool true)], args := [d] }
  | _ => none }
def fnExactCodeWordRow : OpenClaim := { program := "ythgcjnieajoceaa", sum := "33591e49c07dc7410b2a6953e0faaa6761834d3eac98d51c67f7c143f39921ab", func := "loop.example/flashfiles/laws.FnExactCodeWord", spec := "fnExactCodeWord", apart := false }
def FnExactCodeWordSaid : Prop := fnExactCodeWordRow.holds Try.pinned (OpenSpec.ofChange fnExactCodeWordSpec)

/-- ITS FALSE NEIGHBOUR: 'it returns false'. Refute it at one input. -/
def fnExactCodeWordWrong : ChangeSpec := { name := "fnExactCodeWord", fn := fun _ => fun
  | [d] => { results := [.lit (.bool false)], args := [d] }
  | _ => none }
def FnExactCodeWordWrongFalsely : Prop := fnExactCodeWordRow.holds Try.pinned (OpenSpec.ofChange fnExactCodeWordWrong)

/-- 'laws.FnExactFlipBit': WHATEVER THE INPUT: true; the input reads as it did. -/
def fnExactFlipBitSpec : ChangeSpec := { name := "fnExactFlipBit", fn := fun _ => fun
  | [d1, d2] => { results := [.lit (.bool true)], args := [d1, d2] }
  | _ => none }
def fnExactFlipBitRow : OpenClaim := { program := "ythgcjnieajoceaa", sum := "33591e49c07dc7410b2a6953e0faaa6761834d3eac98d51c67f7c143f39921ab", func := "loop.example/flashfiles/laws.FnExactFlipBit", spec := "fnExactFlipBit", apart := false }
def FnExactFlipBitSaid : Prop := fnExactFlipBitRow.holds Try.pinned (OpenSpec.ofChange fnExactFlipBitSpec)

/-- ITS FALSE NEIGHBOUR: 'it returns false'. Refute it at one input. -/
def fnExactFlipBitWrong : ChangeSpec := { name := "fnExactFlipBit", fn := fun _ => fun
  | [d1, d2] => { results := [.lit (.bool false)], args := [d1, d2] }
  | _ => none }
def FnExactFlipBitWrongFalsely : Prop := fnExactFlipBitRow.holds Try.pinned (OpenSpec.ofChange fnExactFlipBitWrong)

/-- 'laws.FnExactFixWord': WHATEVER THE INPUT: true; the input reads as it did. -/
def fnExactFixWordSpec : ChangeSpec := { name := "fnExactFixWord", fn := fun _ => fun
  | [d] => { results := [.lit (.bool true)], args := [d] }
  | _ => none }
def fnExactFixWordRow : OpenClaim := { program := "ythgcjnieajoceaa", sum := "33591e49c07dc7410b2a6953e0faaa6761834d3eac98d51c67f7c143f39921ab", func := "loop.example/flashfiles/laws.FnExactFixWord", spec := "fnExactFixWord", apart := false }
def FnExactFixWordSaid : Prop := fnExactFixWordRow.holds Try.pinned (OpenSpec.ofChange fnExactFixWordSpec)

/-- ITS FALSE NEIGHBOUR: 'it returns false'. Refute it at one input. -/
def fnExactFixWordWrong : ChangeSpec := { name := "fnExactFixWord", fn := fun _ => fun
  | [d] => { results := [.lit (.bool false)], args := [d] }
  | _ => none }
def FnExactFixWordWrongFalsely : Prop := fnExactFixWordRow.holds Try.pinned (OpenSpec.ofChange fnExactFixWordWrong)

/-- 'laws.FnExactWordsApart': WHATEVER THE INPUT: true; the input reads as it did. -/
def fnExactWordsApartSpec : ChangeSpec := { name := "fnExactWordsApart", fn := fun _ => fun
  | [d1, d2] => { results := [.lit (.bool true)], args := [d1, d2] }
  | _ => none }
def fnExactWordsApartRow : OpenClaim := { program := "ythgcjnieajoceaa", sum := "33591e49c07dc7410b2a6953e0faaa6761834d3eac98d51c67f7c143f39921ab", func := "loop.example/flashfiles/laws.FnExactWordsApart", spec := "fnExactWordsApart", apart := false }
def FnExactWordsApartSaid : Prop := fnExactWordsApartRow.holds Try.pinned (OpenSpec.ofChange fnExactWordsApartSpec)

/-- ITS FALSE NEIGHBOUR: 'it returns false'. Refute it at one input. -/
def fnExactWordsApartWrong : ChangeSpec := { name := "fnExactWordsApart", fn := fun _ => fun
  | [d1, d2] => { results := [.lit (.bool false)], args := [d1, d2] }
  | _ => none }
def FnExactWordsApartWrongFalsely : Prop := fnExactWordsApartRow.holds Try.pinned (OpenSpec.ofChange fnExactWordsApartWrong)

/- THE SECOND FORM. 'bulk': how many values and letters a reading holds, each counted each time it is reached (what is shared counts as often as it is met; a slice's spare places count too). A statement '..UptoSaid' is the law's where the arguments, and the package variables that the reading takes, are together of bulk at most 1048576: NARROWER than '..Said'. Prove '..Said' where nothing that the law and all that it calls make is longer than what came in: it says more and counts as full. Else prove '..UptoSaid'. A law counts once. -/
mutual
def uptoBulk {H : Type} : DataW H → Nat
  | .lit (.string bytes) => bytes.length + 1
  | .lit _ => 1
  | .nil => 1
  | .ptr d => uptoBulk d + 1
  | .slice elems spare => uptoBulkAll elems + uptoBulkAll spare + 1
  | .agg parts => uptoBulkAll parts + 1
  | .iface _ d => uptoBulk d + 1
  | .map entries => uptoBulkEntries entries + 1
  | .held _ => 1
def uptoBulkAll {H : Type} : List (DataW H) → Nat
  | [] => 0
  | d :: r => uptoBulk d + uptoBulkAll r
def uptoBulkEntries {H : Type} : List (Lit × DataW H) → Nat
  | [] => 0
  | x :: r => uptoBulkEntry x + uptoBulkEntries r
def uptoBulkEntry {H : Type} : Lit × DataW H → Nat
  | (.string bytes, d) => bytes.length + uptoBulk d + 1
  | (_, d) => uptoBulk d + 1
 end
def uptoSmall : (H : Type) → List (DataW H) → Bool := fun _ ds => decide (uptoBulkAll ds ≤ 1048576)
def OpenSpec.upto (s : _root_.Go.ChangeSpec) : _root_.Go.OpenSpec := { _root_.Go.OpenSpec.ofChange s with cond := some uptoSmall }

/-- 'laws.FnCodeWord', WHERE WHAT IT READS IS OF BULK AT MOST 1048576: true; the input reads as it did. -/
def fnCodeWordUptoRow : OpenClaim := { program := "ythgcjnieajoceaa", sum := "33591e49c07dc7410b2a6953e0faaa6761834d3eac98d51c67f7c143f39921ab", func := "loop.example/flashfiles/laws.FnCodeWord", spec := "fnCodeWord", apart := false, narrowed := true }
def FnCodeWordUptoSaid : Prop := fnCodeWordUptoRow.holds Try.pinned (OpenSpec.upto fnCodeWordSpec)

/-- 'laws.FnFlipBit', WHERE WHAT IT READS IS OF BULK AT MOST 1048576: true; the input reads as it did. -/
def fnFlipBitUptoRow : OpenClaim := { program := "ythgcjnieajoceaa", sum := "33591e49c07dc7410b2a6953e0faaa6761834d3eac98d51c67f7c143f39921ab", func := "loop.example/flashfiles/laws.FnFlipBit", spec := "fnFlipBit", apart := false, narrowed := true }
def FnFlipBitUptoSaid : Prop := fnFlipBitUptoRow.holds Try.pinned (OpenSpec.upto fnFlipBitSpec)

/-- 'laws.FnFixWord', WHERE WHAT IT READS IS OF BULK AT MOST 1048576: true; the input reads as it did. -/
def fnFixWordUptoRow : OpenClaim := { program := "ythgcjnieajoceaa", sum := "33591e49c07dc7410b2a6953e0faaa6761834d3eac98d51c67f7c143f39921ab", func := "loop.example/flashfiles/laws.FnFixWord", spec := "fnFixWord", apart := false, narrowed := true }
def FnFixWordUptoSaid : Prop := fnFixWordUptoRow.holds Try.pinned (OpenSpec.upto fnFixWordSpec)

/-- 'laws.FnWordsApart', WHERE WHAT IT READS IS OF BULK AT MOST 1048576: true; the input reads as it did. -/
def fnWordsApartUptoRow : OpenClaim := { program := "ythgcjnieajoceaa", sum := "33591e49c07dc7410b2a6953e0faaa6761834d3eac98d51c67f7c143f39921ab", func := "loop.example/flashfiles/laws.FnWordsApart", spec := "fnWordsApart", apart := false, narrowed := true }
def FnWordsApartUptoSaid : Prop := fnWordsApartUptoRow.holds Try.pinned (OpenSpec.upto fnWordsApartSpec)

/-- 'laws.FnExactCodeWord', WHERE WHAT IT READS IS OF BULK AT MOST 1048576: true; the input reads as it did. -/
def fnExactCodeWordUptoRow : OpenClaim := { program := "ythgcjnieajoceaa", sum := "33591e49c07dc7410b2a6953e0faaa6761834d3eac98d51c67f7c143f39921ab", func := "loop.example/flashfiles/laws.FnExactCodeWord", spec := "fnExactCodeWord", apart := false, narrowed := true }
def FnExactCodeWordUptoSaid : Prop := fnExactCodeWordUptoRow.holds Try.pinned (OpenSpec.upto fnExactCodeWordSpec)

/-- 'laws.FnExactFlipBit', WHERE WHAT IT READS IS OF BULK AT MOST 1048576: true; the input reads as it did. -/
def fnExactFlipBitUptoRow : OpenClaim := { program := "ythgcjnieajoceaa", sum := "33591e49c07dc7410b2a6953e0faaa6761834d3eac98d51c67f7c143f39921ab", func := "loop.example/flashfiles/laws.FnExactFlipBit", spec := "fnExactFlipBit", apart := false, narrowed := true }
def FnExactFlipBitUptoSaid : Prop := fnExactFlipBitUptoRow.holds Try.pinned (OpenSpec.upto fnExactFlipBitSpec)

/-- 'laws.FnExactFixWord', WHERE WHAT IT READS IS OF BULK AT MOST 1048576: true; the input reads as it did. -/
def fnExactFixWordUptoRow : OpenClaim := { program := "ythgcjnieajoceaa", sum := "33591e49c07dc7410b2a6953e0faaa6761834d3eac98d51c67f7c143f39921ab", func := "loop.example/flashfiles/laws.FnExactFixWord", spec := "fnExactFixWord", apart := false, narrowed := true }
def FnExactFixWordUptoSaid : Prop := fnExactFixWordUptoRow.holds Try.pinned (OpenSpec.upto fnExactFixWordSpec)

/-- 'laws.FnExactWordsApart', WHERE WHAT IT READS IS OF BULK AT MOST 1048576: true; the input reads as it did. -/
def fnExactWordsApartUptoRow : OpenClaim := { program := "ythgcjnieajoceaa", sum := "33591e49c07dc7410b2a6953e0faaa6761834d3eac98d51c67f7c143f39921ab", func := "loop.example/flashfiles/laws.FnExactWordsApart", spec := "fnExactWordsApart", apart := false, narrowed := true }
def FnExactWordsApartUptoSaid : Prop := fnExactWordsApartUptoRow.holds Try.pinned (OpenSpec.upto fnExactWordsApartSpec)

end Rows
end Go.Proofs.Ythgcjnieajoceaa
