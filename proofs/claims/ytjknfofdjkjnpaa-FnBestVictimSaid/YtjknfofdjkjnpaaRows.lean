/-
  No cell of these rows narrows 'for every input' (looked for: loops, veiled, ifaces, maps, wideKeys, modest, calm, conditions, laid).
  DERIVED. THE GIVEN ROWS OF THIS SEAT. 6 by the template 'for every input the law returns true; each argument reads behind the call as it read before'; 0 by the template 'total and deterministic' (their statements: YtjknfofdjkjnpaaTotals.lean).
  GIVEN WITH THE SEED: the statements are not yours to turn. If you find one false, say at which input.
  Laid BY PROGRAM, IN A SANDBOX (cutbox-rows.mjs): the forced cells as the released guide's own fill.sh prints them over the translation 3393c643396157b1… (all of the seat's roots in one cut). By AI agents, Wed Nov 11 2026. No macro, syntax, notation, axiom, sorry.
-/
import Derived.Test.YtjknfofdjkjnpaaChecked
import GoSem.Claim
import GoSem.ClaimJoined
import GoSem.ClaimMapViews
import Derived.JoinedTies
import Derived.KernelRfl
namespace Go.Proofs.Ytjknfofdjkjnpaa
/- THE CELL 'sum', in the pinned program and in every row, IS THE sha256 OF THE DUMP (.gsa) THAT YtjknfofdjkjnpaaProg.lean LOADS. Nothing in Lean hashes anything: it is a label: what it is worth is what the hold of that sum in a sandbox is worth. -/
noncomputable def Try.pinned : Pinned := { name := "ytjknfofdjkjnpaa", sum := "3393c643396157b1b81e1acbe20be2b770d0119943ec11e359b74d62e7dd8a2a", checked := Try.checked }
namespace Rows
def none {H : Type} : Left H := { results := [], args := [] }

/-- 'laws.FnGreedyVictim': WHATEVER THE INPUT: true; the input reads as it did. -/
def fnGreedyVictimSpec : ChangeSpec := { name := "fnGreedyVictim", fn := fun _ => fun
  | [d] => { results := [.lit (.bool true)], args := [d] }
  | _ => none }
def fnGreedyVictimRow : OpenClaim := { program := "ytjknfofdjkjnpaa", sum := "3393c643396157b1b81e1acbe20be2b770d0119943ec11e359b74d62e7dd8a2a", func := "loop.example/flashfiles/laws.FnGreedyVictim", spec := "fnGreedyVictim", apart := false }
def FnGreedyVictimSaid : Prop := fnGreedyVictimRow.holds Try.pinned (OpenSpec.ofChange fnGreedyVictimSpec)

/-- ITS FALSE NEIGHBOUR: 'it returns false'. Refute it at one input. -/
def fnGreedyVictimWrong : ChangeSpec := { name := "fnGreedyVictim", fn := fun _ => fun
  | [d] => { results := [.lit (.bool false)], args := [d] }
  | _ => none }
def FnGreedyVictimWrongFalsely : Prop := fnGreedyVictimRow.holds Try.pinned (OpenSpec.ofChange fnGreedyVictimWrong)

/-- 'laws.FnVictimScore': WHATEVER THE INPUT: true; the input reads as it did. -/
def fnVictimScoreSpec : ChangeSpec := { name := "fnVictimScore", fn := fun _ => fun
  | [d] => { results := [.lit (.bool true)], args := [d] }
  | _ => none }
def fnVictimScoreRow : OpenClaim := { program := "ytjknfofdjkjnpaa", sum := "3393c643396157b1b81e1acbe20be2b770d0119943ec11e359b74d62e7dd8a2a", func := "loop.example/flashfiles/laws.FnVictimScore", spec := "fnVictimScore", apart := false }
def FnVictimScoreSaid : Prop := fnVictimScoreRow.holds Try.pinned (OpenSpec.ofChange fnVictimScoreSpec)

/-- ITS FALSE NEIGHBOUR: 'it returns false'. Refute it at one input. -/
def fnVictimScoreWrong : ChangeSpec := { name := "fnVictimScore", fn := fun _ => fun
  | [d] => { results := [.lit (.bool false)], args := [d] }
  | _ => none }
def FnVictimScoreWrongFalsely : Prop := fnVictimScoreRow.holds Try.pinned (OpenSpec.ofChange fnVictimScoreWrong)

/-- 'laws.FnBestVictim': WHATEVER THE INPUT: true; the input reads as it did. -/
def fnBestVictimSpec : ChangeSpec := { name := "fnBestVictim", fn := fun _ => fun
  | [d] => { results := [.lit (.bool true)], args := [d] }
  | _ => none }
def fnBestVictimRow : OpenClaim := { program := "ytjknfofdjkjnpaa", sum := "3393c643396157b1b81e1acbe20be2b770d0119943ec11e359b74d62e7dd8a2a", func := "loop.example/flashfiles/laws.FnBestVictim", spec := "fnBestVictim", apart := false }
def FnBestVictimSaid : Prop := fnBestVictimRow.holds Try.pinned (OpenSpec.ofChange fnBestVictimSpec)

/-- ITS FALSE NEIGHBOUR: 'it returns false'. Refute it at one input. -/
def fnBestVictimWrong : ChangeSpec := { name := "fnBestVictim", fn := fun _ => fun
  | [d] => { results := [.lit (.bool false)], args := [d] }
  | _ => none }
def FnBestVictimWrongFalsely : Prop := fnBestVictimRow.holds Try.pinned (OpenSpec.ofChange fnBestVictimWrong)

/-- 'laws.FnExactGreedyVictim': WHATEVER THE INPUT: true; the input reads as it did. -/
def fnExactGreedyVictimSpec : ChangeSpec := { name := "fnExactGreedyVictim", fn := fun _ => fun
  | [d1, d2, d3] => { results := [.lit (.bool true)], args := [d1, d2, d3] }
  | _ => none }
def fnExactGreedyVictimRow : OpenClaim := { program := "ytjknfofdjkjnpaa", sum := "3393c643396157b1b81e1acbe20be2b770d0119943ec11e359b74d62e7dd8a2a", func := "loop.example/flashfiles/laws.FnExactGreedyVictim", spec := "fnExactGreedyVictim", apart := false }
def FnExactGreedyVictimSaid : Prop := fnExactGreedyVictimRow.holds Try.pinned (OpenSpec.ofChange fnExactGreedyVictimSpec)

/-- ITS FALSE NEIGHBOUR: 'it returns false'. Refute it at one input. -/
def fnExactGreedyVictimWrong : ChangeSpec := { name := "fnExactGreedyVictim", fn := fun _ => fun
  | [d1, d2, d3] => { results := [.lit (.bool false)], args := [d1, d2, d3] }
  | _ => none }
def FnExactGreedyVictimWrongFalsely : Prop := fnExactGreedyVictimRow.holds Try.pinned (OpenSpec.ofChange fnExactGreedyVictimWrong)

/-- 'laws.FnExactVictimScore': WHATEVER THE INPUT: true; the input reads as it did. -/
def fnExactVictimScoreSpec : ChangeSpec := { name := "fnExactVictimScore", fn := fun _ => fun
  | [d1, d2] => { results := [.lit (.bool true)], args := [d1, d2] }
  | _ => none }
def fnExactVictimScoreRow : OpenClaim := { program := "ytjknfofdjkjnpaa", sum := "3393c643396157b1b81e1acbe20be2b770d0119943ec11e359b74d62e7dd8a2a", func := "loop.example/flashfiles/laws.FnExactVictimScore", spec := "fnExactVictimScore", apart := false }
def FnExactVictimScoreSaid : Prop := fnExactVictimScoreRow.holds Try.pinned (OpenSpec.ofChange fnExactVictimScoreSpec)

/-- ITS FALSE NEIGHBOUR: 'it returns false'. Refute it at one input. -/
def fnExactVictimScoreWrong : ChangeSpec := { name := "fnExactVictimScore", fn := fun _ => fun
  | [d1, d2] => { results := [.lit (.bool false)], args := [d1, d2] }
  | _ => none }
def FnExactVictimScoreWrongFalsely : Prop := fnExactVictimScoreRow.holds Try.pinned (OpenSpec.ofChange fnExactVictimScoreWrong)

/-- 'laws.FnExactBestVictim': WHATEVER THE INPUT: true; the input reads as it did. -/
def fnExactBestVictimSpec : ChangeSpec := { name := "fnExactBestVictim", fn := fun _ => fun
  | [d1, d2, d3, d4] => { results := [.lit (.bool true)], args := [d1, d2, d3, d4] }
  | _ => none }
def fnExactBestVictimRow : OpenClaim := { program := "ytjknfofdjkjnpaa", sum := "3393c643396157b1b81e1acbe20be2b770d0119943ec11e359b74d62e7dd8a2a", func := "loop.example/flashfiles/laws.FnExactBestVictim", spec := "fnExactBestVictim", apart := false }
def FnExactBestVictimSaid : Prop := fnExactBestVictimRow.holds Try.pinned (OpenSpec.ofChange fnExactBestVictimSpec)

/-- ITS FALSE NEIGHBOUR: 'it returns false'. Refute it at one input. -/
def fnExactBestVictimWrong : ChangeSpec := { name := "fnExactBestVictim", fn := fun _ => fun
  | [d1, d2, d3, d4] => { results := [.lit (.bool false)], args := [d1, d2, d3, d4] }
  | _ => none }
def FnExactBestVictimWrongFalsely : Prop := fnExactBestVictimRow.holds Try.pinned (OpenSpec.ofChange fnExactBestVictimWrong)

/- THE SECOND FORM. 'bulk': how many values and letters a reading holds, each counted each time it is reached (what is shared counts as often as it is met; a slice's spare places count too). A statement '..UptoSaid' is the law's where the arguments, and the package variables that the reading takes, are together of bulk at most 1048576: NARROWER than '..Said'. Prove '..Said' where nothing that the law and all that it calls make is longer than what came in: it says more and counts as full. Else prove '..UptoSaid'. A law counts once. -/
mutual
def uptoBulk {H : Type} : DataW H → Nat
  | .lit (.string bytes) => bytes.length + 1
  | .lit _ => 1
  | .nil => 1
  | .ptr d => uptoBulk d + 1
  | .slice elems spare => uptoBulkAll elems + uptoBulkAll spare + 1
  | .agg parts => uptoBulkAll parts + 1
  | .iface _ d => uptoBulk d + 1
  | .map entries => uptoBulkEntries entries + 1
  | .held _ => 1
def uptoBulkAll {H : Type} : List (DataW H) → Nat
  | [] => 0
  | d :: r => uptoBulk d + uptoBulkAll r
def uptoBulkEntries {H : Type} : List (Lit × DataW H) → Nat
  | [] => 0
  | x :: r => uptoBulkEntry x + uptoBulkEntries r
def uptoBulkEntry {H : Type} : Lit × DataW H → Nat
  | (.string bytes, d) => bytes.length + uptoBulk d + 1
  | (_, d) => uptoBulk d + 1
 end
def uptoSmall : (H : Type) → List (DataW H) → Bool := fun _ ds => decide (uptoBulkAll ds ≤ 1048576)
def OpenSpec.upto (s : _root_.Go.ChangeSpec) : _root_.Go.OpenSpec := { _root_.Go.OpenSpec.ofChange s with cond := some uptoSmall }

/-- 'laws.FnGreedyVictim', WHERE WHAT IT READS IS OF BULK AT MOST 1048576: true; the input reads as it did. -/
def fnGreedyVictimUptoRow : OpenClaim := { program := "ytjknfofdjkjnpaa", sum := "3393c643396157b1b81e1acbe20be2b770d0119943ec11e359b74d62e7dd8a2a", func := "loop.example/flashfiles/laws.FnGreedyVictim", spec := "fnGreedyVictim", apart := false, narrowed := true }
def FnGreedyVictimUptoSaid : Prop := fnGreedyVictimUptoRow.holds Try.pinned (OpenSpec.upto fnGreedyVictimSpec)

/-- 'laws.FnVictimScore', WHERE WHAT IT READS IS OF BULK AT MOST 1048576: true; the input reads as it did. -/
def fnVictimScoreUptoRow : OpenClaim := { program := "ytjknfofdjkjnpaa", sum := "3393c643396157b1b81e1acbe20be2b770d0119943ec11e359b74d62e7dd8a2a", func := "loop.example/flashfiles/laws.FnVictimScore", spec := "fnVictimScore", apart := false, narrowed := true }
def FnVictimScoreUptoSaid : Prop := fnVictimScoreUptoRow.holds Try.pinned (OpenSpec.upto fnVictimScoreSpec)

/-- 'laws.FnBestVictim', WHERE WHAT IT READS IS OF BULK AT MOST 1048576: true; the input reads as it did. -/
def fnBestVictimUptoRow : OpenClaim := { program := "ytjknfofdjkjnpaa", sum := "3393c643396157b1b81e1acbe20be2b770d0119943ec11e359b74d62e7dd8a2a", func := "loop.example/flashfiles/laws.FnBestVictim", spec := "fnBestVictim", apart := false, narrowed := true }
def FnBestVictimUptoSaid : Prop := fnBestVictimUptoRow.holds Try.pinned (OpenSpec.upto fnBestVictimSpec)

/-- 'laws.FnExactGreedyVictim', WHERE WHAT IT READS IS OF BULK AT MOST 1048576: true; the input reads as it did. -/
def fnExactGreedyVictimUptoRow : OpenClaim := { program := "ytjknfofdjkjnpaa", sum := "3393c643396157b1b81e1acbe20be2b770d0119943ec11e359b74d62e7dd8a2a", func := "loop.example/flashfiles/laws.FnExactGreedyVictim", spec := "fnExactGreedyVictim", apart := false, narrowed := true }
def FnExactGreedyVictimUptoSaid : Prop := fnExactGreedyVictimUptoRow.holds Try.pinned (OpenSpec.upto fnExactGreedyVictimSpec)

/-- 'laws.FnExactVictimScore', WHERE WHAT IT READS IS OF BULK AT MOST 1048576: true; the input reads as it did. -/
def fnExactVictimScoreUptoRow : OpenClaim := { program := "ytjknfofdjkjnpaa", sum := "3393c643396157b1b81e1acbe20be2b770d0119943ec11e359b74d62e7dd8a2a", func := "loop.example/flashfiles/laws.FnExactVictimScore", spec := "fnExactVictimScore", apart := false, narrowed := true }
def FnExactVictimScoreUptoSaid : Prop := fnExactVictimScoreUptoRow.holds Try.pinned (OpenSpec.upto fnExactVictimScoreSpec)

/-- 'laws.FnExactBestVictim', WHERE WHAT IT READS IS OF BULK AT MOST 1048576: true; the input reads as it did. -/
def fnExactBestVictimUptoRow : OpenClaim := { program := "ytjknfofdjkjnpaa", sum := "3393c643396157b1b81e1acbe20be2b770d0119943ec11e359b74d62e7dd8a2a", func := "loop.example/flashfiles/laws.FnExactBestVictim", spec := "fnExactBestVictim", apart := false, narrowed := true }
def FnExactBestVictimUptoSaid : Prop := fnExactBestVictimUptoRow.holds Try.pinned (OpenSpec.upto fnExactBestVictimSpec)

end Rows
end Go.Proofs.Ytjknfofdjkjnpaa
