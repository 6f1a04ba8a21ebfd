/-
  No cell of these rows narrows 'for every input' (looked for: loops, veiled, ifaces, maps, wideKeys, modest, calm, conditions, laid).
  DERIVED. THE GIVEN ROWS OF THIS SEAT. 8 by the template 'for every input the law returns true; each argument reads behind the call as it read before'; 0 by the template 'total and deterministic' (their statements: YtogjolgaobcppaaTotals.lean).
  GIVEN WITH THE SEED: the statements are not yours to turn. If you find one false, say at which input.
  Laid BY PROGRAM, IN A SANDBOX (cutbox-rows.mjs): the forced cells as the released guide's own fill.sh prints them over the translation 09d4dfa938727874… (all of the seat's roots in one cut). By AI agents, Wed Nov 11 2026. No macro, syntax, notation, axiom, sorry.
-/
import Derived.Test.YtogjolgaobcppaaChecked
import GoSem.Claim
import GoSem.ClaimJoined
import GoSem.ClaimMapViews
import Derived.JoinedTies
import Derived.KernelRfl
namespace Go.Proofs.Ytogjolgaobcppaa
/- THE CELL 'sum', in the pinned program and in every row, IS THE sha256 OF THE DUMP (.gsa) THAT YtogjolgaobcppaaProg.lean LOADS. Nothing in Lean hashes anything: it is a label: what it is worth is what the hold of that sum in a sandbox is worth. -/
noncomputable def Try.pinned : Pinned := { name := "ytogjolgaobcppaa", sum := "09d4dfa93872787485f29450a4f56007af2a8436a9c1bec3d9275b6341e0a09e", checked := Try.checked }
namespace Rows
def none {H : Type} : Left H := { results := [], args := [] }

/-- 'laws.FnBitCount': WHATEVER THE INPUT: true; the input reads as it did. -/
def fnBitCountSpec : ChangeSpec := { name := "fnBitCount", fn := fun _ => fun
  | [d] => { results := [.lit (.bool true)], args := [d] }
  | _ => none }
def fnBitCountRow : OpenClaim := { program := "ytogjolgaobcppaa", sum := "09d4dfa93872787485f29450a4f56007af2a8436a9c1bec3d9275b6341e0a09e", func := "loop.example/flashfiles/laws.FnBitCount", spec := "fnBitCount", apart := false }
def FnBitCountSaid : Prop := fnBitCountRow.holds Try.pinned (OpenSpec.ofChange fnBitCountSpec)

/-- ITS FALSE NEIGHBOUR: 'it returns false'. Refute it at one input. -/
def fnBitCountWrong : ChangeSpec := { name := "fnBitCount", fn := fun _ => fun
  | [d] => { results := [.lit (.bool false)], args := [d] }
  | _ => none }
def FnBitCountWrongFalsely : Prop := fnBitCountRow.holds Try.pinned (OpenSpec.ofChange fnBitCountWrong)

/-- 'laws.FnBitHas': WHATEVER THE INPUT: true; the input reads as it did. -/
def fnBitHasSpec : ChangeSpec := { name := "fnBitHas", fn := fun _ => fun
  | [d] => { results := [.lit (.bool true)], args := [d] }
  | _ => none }
def fnBitHasRow : OpenClaim := { program := "ytogjolgaobcppaa", sum := "09d4dfa93872787485f29450a4f56007af2a8436a9c1bec3d9275b6341e0a09e", func := "loop.example/flashfiles/laws.FnBitHas", spec := "fnBitHas", apart := false }
def FnBitHasSaid : Prop := fnBitHasRow.holds Try.pinned (OpenSpec.ofChange fnBitHasSpec)

/-- ITS FALSE NEIGHBOUR: 'it returns false'. Refute it at one input. -/
def fnBitHasWrong : ChangeSpec := { name := "fnBitHas", fn := fun _ => fun
  | [d] => { results := [.lit (.bool false)], args := [d] }
  | _ => none }
def FnBitHasWrongFalsely : Prop := fnBitHasRow.holds Try.pinned (OpenSpec.ofChange fnBitHasWrong)

/-- 'laws.FnBitPut': WHATEVER THE INPUT: true; the input reads as it did. -/
def fnBitPutSpec : ChangeSpec := { name := "fnBitPut", fn := fun _ => fun
  | [d] => { results := [.lit (.bool true)], args := [d] }
  | _ => none }
def fnBitPutRow : OpenClaim := { program := "ytogjolgaobcppaa", sum := "09d4dfa93872787485f29450a4f56007af2a8436a9c1bec3d9275b6341e0a09e", func := "loop.example/flashfiles/laws.FnBitPut", spec := "fnBitPut", apart := false }
def FnBitPutSaid : Prop := fnBitPutRow.holds Try.pinned (OpenSpec.ofChange fnBitPutSpec)

/-- ITS FALSE NEIGHBOUR: 'it returns false'. Refute it at one input. -/
def fnBitPutWrong : ChangeSpec := { name := "fnBitPut", fn := fun _ => fun
  | [d] => { results := [.lit (.bool false)], args := [d] }
  | _ => none }
def FnBitPutWrongFalsely : Prop := fnBitPutRow.holds Try.pinned (OpenSpec.ofChange fnBitPutWrong)

/-- 'laws.FnBitFirst': WHATEVER THE INPUT: true; the input reads as it did. -/
def fnBitFirstSpec : ChangeSpec := { name := "fnBitFirst", fn := fun _ => fun
  | [d] => { results := [.lit (.bool true)], args := [d] }
  | _ => none }
def fnBitFirstRow : OpenClaim := { program := "ytogjolgaobcppaa", sum := "09d4dfa93872787485f29450a4f56007af2a8436a9c1bec3d9275b6341e0a09e", func := "loop.example/flashfiles/laws.FnBitFirst", spec := "fnBitFirst", apart := false }
def FnBitFirstSaid : Prop := fnBitFirstRow.holds Try.pinned (OpenSpec.ofChange fnBitFirstSpec)

/-- ITS FALSE NEIGHBOUR: 'it returns false'. Refute it at one input. -/
def fnBitFirstWrong : ChangeSpec := { name := "fnBitFirst", fn := fun _ => fun
  | [d] => { results := [.lit (.bool false)], args := [d] }
  | _ => none }
def FnBitFirstWrongFalsely : Prop := fnBitFirstRow.holds Try.pinned (OpenSpec.ofChange fnBitFirstWrong)

/-- 'laws.FnExactBitCount': WHATEVER THE INPUT: true; the input reads as it did. -/
def fnExactBitCountSpec : ChangeSpec := { name := "fnExactBitCount", fn := fun _ => fun
  | [d] => { results := [.lit (.bool true)], args := [d] }
  | _ => none }
def fnExactBitCountRow : OpenClaim := { program := "ytogjolgaobcppaa", sum := "09d4dfa93872787485f29450a4f56007af2a8436a9c1bec3d9275b6341e0a09e", func := "loop.example/flashfiles/laws.FnExactBitCount", spec := "fnExactBitCount", apart := false }
def FnExactBitCountSaid : Prop := fnExactBitCountRow.holds Try.pinned (OpenSpec.ofChange fnExactBitCountSpec)

/-- ITS FALSE NEIGHBOUR: 'it returns false'. Refute it at one input. -/
def fnExactBitCountWrong : ChangeSpec := { name := "fnExactBitCount", fn := fun _ => fun
  | [d] => { results := [.lit (.bool false)], args := [d] }
  | _ => none }
def FnExactBitCountWrongFalsely : Prop := fnExactBitCountRow.holds Try.pinned (OpenSpec.ofChange fnExactBitCountWrong)

/-- 'laws.FnExactBitHas': WHATEVER THE INPUT: true; the input reads as it did. -/
def fnExactBitHasSpec : ChangeSpec := { name := "fnExactBitHas", fn := fun _ => fun
  | [d1, d2] => { results := [.lit (.bool true)], args := [d1, d2] }
  | _ => none }
def fnExactBitHasRow : OpenClaim := { program := "ytogjolgaobcppaa", sum := "09d4dfa93872787485f29450a4f56007af2a8436a9c1bec3d9275b6341e0a09e", func := "loop.example/flashfiles/laws.FnExactBitHas", spec := "fnExactBitHas", apart := false }
def FnExactBitHasSaid : Prop := fnExactBitHasRow.holds Try.pinned (OpenSpec.ofChange fnExactBitHasSpec)

/-- ITS FALSE NEIGHBOUR: 'it returns false'. Refute it at one input. -/
def fnExactBitHasWrong : ChangeSpec := { name := "fnExactBitHas", fn := fun _ => fun
  | [d1, d2] => { results := [.lit (.bool false)], args := [d1, d2] }
  | _ => none }
def FnExactBitHasWrongFalsely : Prop := fnExactBitHasRow.holds Try.pinned (OpenSpec.ofChange fnExactBitHasWrong)

/-- 'laws.FnExactBitPut': WHATEVER THE INPUT: true; the input reads as it did. -/
def fnExactBitPutSpec : ChangeSpec := { name := "fnExactBitPut", fn := fun _ => fun
  | [d1, d2, d3] => { results := [.lit (.bool true)], args := [d1, d2, d3] }
  | _ => none }
def fnExactBitPutRow : OpenClaim := { program := "ytogjolgaobcppaa", sum := "09d4dfa93872787485f29450a4f56007af2a8436a9c1bec3d9275b6341e0a09e", func := "loop.example/flashfiles/laws.FnExactBitPut", spec := "fnExactBitPut", apart := false }
def FnExactBitPutSaid : Prop := fnExactBitPutRow.holds Try.pinned (OpenSpec.ofChange fnExactBitPutSpec)

/-- ITS FALSE NEIGHBOUR: 'it returns false'. Refute it at one input. -/
def fnExactBitPutWrong : ChangeSpec := { name := "fnExactBitPut", fn := fun _ => fun
  | [d1, d2, d3] => { results := [.lit (.bool false)], args := [d1, d2, d3] }
  | _ => none }
def FnExactBitPutWrongFalsely : Prop := fnExactBitPutRow.holds Try.pinned (OpenSpec.ofChange fnExactBitPutWrong)

/-- 'laws.FnExactBitFirst': WHATEVER THE INPUT: true; the input reads as it did. -/
def fnExactBitFirstSpec : ChangeSpec := { name := "fnExactBitFirst", fn := fun _ => fun
  | [d] => { results := [.lit (.bool true)], args := [d] }
  | _ => none }
def fnExactBitFirstRow : OpenClaim := { program := "ytogjolgaobcppaa", sum := "09d4dfa93872787485f29450a4f56007af2a8436a9c1bec3d9275b6341e0a09e", func := "loop.example/flashfiles/laws.FnExactBitFirst", spec := "fnExactBitFirst", apart := false }
def FnExactBitFirstSaid : Prop := fnExactBitFirstRow.holds Try.pinned (OpenSpec.ofChange fnExactBitFirstSpec)

/-- ITS FALSE NEIGHBOUR: 'it returns false'. Refute it at one input. -/
def fnExactBitFirstWrong : ChangeSpec := { name := "fnExactBitFirst", fn := fun _ => fun
  | [d] => { results := [.lit (.bool false)], args := [d] }
  | _ => none }
def FnExactBitFirstWrongFalsely : Prop := fnExactBitFirstRow.holds Try.pinned (OpenSpec.ofChange fnExactBitFirstWrong)

/- THE SECOND FORM. 'bulk': how many values and letters a reading holds, each counted each time it is reached (what is shared counts as often as it is met; a slice's spare places count too). A statement '..UptoSaid' is the law's where the arguments, and the package variables that the reading takes, are together of bulk at most 1048576: NARROWER than '..Said'. Prove '..Said' where nothing that the law and all that it calls make is longer than what came in: it says more and counts as full. Else prove '..UptoSaid'. A law counts once. -/
mutual
def uptoBulk {H : Type} : DataW H → Nat
  | .lit (.string bytes) => bytes.length + 1
  | .lit _ => 1
  | .nil => 1
  | .ptr d => uptoBulk d + 1
  | .slice elems spare => uptoBulkAll elems + uptoBulkAll spare + 1
  | .agg parts => uptoBulkAll parts + 1
  | .iface _ d => uptoBulk d + 1
  | .map entries => uptoBulkEntries entries + 1
  | .held _ => 1
def uptoBulkAll {H : Type} : List (DataW H) → Nat
  | [] => 0
  | d :: r => uptoBulk d + uptoBulkAll r
def uptoBulkEntries {H : Type} : List (Lit × DataW H) → Nat
  | [] => 0
  | x :: r => uptoBulkEntry x + uptoBulkEntries r
def uptoBulkEntry {H : Type} : Lit × DataW H → Nat
  | (.string bytes, d) => bytes.length + uptoBulk d + 1
  | (_, d) => uptoBulk d + 1
 end
def uptoSmall : (H : Type) → List (DataW H) → Bool := fun _ ds => decide (uptoBulkAll ds ≤ 1048576)
def OpenSpec.upto (s : _root_.Go.ChangeSpec) : _root_.Go.OpenSpec := { _root_.Go.OpenSpec.ofChange s with cond := some uptoSmall }

/-- 'laws.FnBitCount', WHERE WHAT IT READS IS OF BULK AT MOST 1048576: true; the input reads as it did. -/
def fnBitCountUptoRow : OpenClaim := { program := "ytogjolgaobcppaa", sum := "09d4dfa93872787485f29450a4f56007af2a8436a9c1bec3d9275b6341e0a09e", func := "loop.example/flashfiles/laws.FnBitCount", spec := "fnBitCount", apart := false, narrowed := true }
def FnBitCountUptoSaid : Prop := fnBitCountUptoRow.holds Try.pinned (OpenSpec.upto fnBitCountSpec)

/-- 'laws.FnBitHas', WHERE WHAT IT READS IS OF BULK AT MOST 1048576: true; the input reads as it did. -/
def fnBitHasUptoRow : OpenClaim := { program := "ytogjolgaobcppaa", sum := "09d4dfa93872787485f29450a4f56007af2a8436a9c1bec3d9275b6341e0a09e", func := "loop.example/flashfiles/laws.FnBitHas", spec := "fnBitHas", apart := false, narrowed := true }
def FnBitHasUptoSaid : Prop := fnBitHasUptoRow.holds Try.pinned (OpenSpec.upto fnBitHasSpec)

/-- 'laws.FnBitPut', WHERE WHAT IT READS IS OF BULK AT MOST 1048576: true; the input reads as it did. -/
def fnBitPutUptoRow : OpenClaim := { program := "ytogjolgaobcppaa", sum := "09d4dfa93872787485f29450a4f56007af2a8436a9c1bec3d9275b6341e0a09e", func := "loop.example/flashfiles/laws.FnBitPut", spec := "fnBitPut", apart := false, narrowed := true }
def FnBitPutUptoSaid : Prop := fnBitPutUptoRow.holds Try.pinned (OpenSpec.upto fnBitPutSpec)

/-- 'laws.FnBitFirst', WHERE WHAT IT READS IS OF BULK AT MOST 1048576: true; the input reads as it did. -/
def fnBitFirstUptoRow : OpenClaim := { program := "ytogjolgaobcppaa", sum := "09d4dfa93872787485f29450a4f56007af2a8436a9c1bec3d9275b6341e0a09e", func := "loop.example/flashfiles/laws.FnBitFirst", spec := "fnBitFirst", apart := false, narrowed := true }
def FnBitFirstUptoSaid : Prop := fnBitFirstUptoRow.holds Try.pinned (OpenSpec.upto fnBitFirstSpec)

/-- 'laws.FnExactBitCount', WHERE WHAT IT READS IS OF BULK AT MOST 1048576: true; the input reads as it did. -/
def fnExactBitCountUptoRow : OpenClaim := { program := "ytogjolgaobcppaa", sum := "09d4dfa93872787485f29450a4f56007af2a8436a9c1bec3d9275b6341e0a09e", func := "loop.example/flashfiles/laws.FnExactBitCount", spec := "fnExactBitCount", apart := false, narrowed := true }
def FnExactBitCountUptoSaid : Prop := fnExactBitCountUptoRow.holds Try.pinned (OpenSpec.upto fnExactBitCountSpec)

/-- 'laws.FnExactBitHas', WHERE WHAT IT READS IS OF BULK AT MOST 1048576: true; the input reads as it did. -/
def fnExactBitHasUptoRow : OpenClaim := { program := "ytogjolgaobcppaa", sum := "09d4dfa93872787485f29450a4f56007af2a8436a9c1bec3d9275b6341e0a09e", func := "loop.example/flashfiles/laws.FnExactBitHas", spec := "fnExactBitHas", apart := false, narrowed := true }
def FnExactBitHasUptoSaid : Prop := fnExactBitHasUptoRow.holds Try.pinned (OpenSpec.upto fnExactBitHasSpec)

/-- 'laws.FnExactBitPut', WHERE WHAT IT READS IS OF BULK AT MOST 1048576: true; the input reads as it did. -/
def fnExactBitPutUptoRow : OpenClaim := { program := "ytogjolgaobcppaa", sum := "09d4dfa93872787485f29450a4f56007af2a8436a9c1bec3d9275b6341e0a09e", func := "loop.example/flashfiles/laws.FnExactBitPut", spec := "fnExactBitPut", apart := false, narrowed := true }
def FnExactBitPutUptoSaid : Prop := fnExactBitPutUptoRow.holds Try.pinned (OpenSpec.upto fnExactBitPutSpec)

/-- 'laws.FnExactBitFirst', WHERE WHAT IT READS IS OF BULK AT MOST 1048576: true; the input reads as it did. -/
def fnExactBitFirstUptoRow : OpenClaim := { program := "ytogjolgaobcppaa", sum := "09d4dfa93872787485f29450a4f56007af2a8436a9c1bec3d9275b6341e0a09e", func := "loop.example/flashfiles/laws.FnExactBitFirst", spec := "fnExactBitFirst", apart := false, narrowed := true }
def FnExactBitFirstUptoSaid : Prop := fnExactBitFirstUptoRow.holds Try.pinned (OpenSpec.upto fnExactBitFirstSpec)

end Rows
end Go.Proofs.Ytogjolgaobcppaa
