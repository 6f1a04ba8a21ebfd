/-
  No cell of these rows narrows 'for every input' (looked for: loops, veiled, ifaces, maps, wideKeys, modest, calm, conditions, laid).
  DERIVED. THE GIVEN ROWS OF THIS SEAT. 6 by the template 'for every input the law returns true; each argument reads behind the call as it read before'; 0 by the template 'total and deterministic' (their statements: YtohfalkkaanhoaaTotals.lean).
  GIVEN WITH THE SEED: the statements are not yours to turn. If you find one false, say at which input.
  Laid BY PROGRAM, IN A SANDBOX (cutbox-rows.mjs): the forced cells as the released guide's own fill.sh prints them over the translation 98d1055fa13b077e… (all of the seat's roots in one cut). By AI agents, Wed Nov 11 2026. No macro, syntax, notation, axiom, sorry.
-/
import Derived.Test.YtohfalkkaanhoaaChecked
import GoSem.Claim
import GoSem.ClaimJoined
import GoSem.ClaimMapViews
import Derived.JoinedTies
import Derived.KernelRfl
namespace Go.Proofs.Ytohfalkkaanhoaa
/- THE CELL 'sum', in the pinned program and in every row, IS THE sha256 OF THE DUMP (.gsa) THAT YtohfalkkaanhoaaProg.lean LOADS. Nothing in Lean hashes anything: it is a label: what it is worth is what the hold of that sum in a sandbox is worth. -/
noncomputable def Try.pinned : Pinned := { name := "ytohfalkkaanhoaa", sum := "98d1055fa13b077e05c2423a17c4266050b50cdab81550904c4203cdba85eda6", checked := Try.checked }
namespace Rows
def none {H : Type} : Left H := { results := [], args := [] }

/-- 'laws.FnPageValid': WHATEVER THE INPUT: true; the input reads as it did. -/
def fnPageValidSpec : ChangeSpec := { name := "fnPageValid", fn := fun _ => fun
  | [d] => { results := [.lit (.bool true)], args := [d] }
  | _ => none }
def fnPageValidRow : OpenClaim := { program := "ytohfalkkaanhoaa", sum := "98d1055fa13b077e05c2423a17c4266050b50cdab81550904c4203cdba85eda6", func := "loop.example/flashfiles/laws.FnPageValid", spec := "fnPageValid", apart := false }
def FnPageValidSaid : Prop := fnPageValidRow.holds Try.pinned (OpenSpec.ofChange fnPageValidSpec)

/-- ITS FALSE NEIGHBOUR: 'it returns false'. Refute it at one input. -/
def fnPageValidWrong : ChangeSpec := { name := "fnPageValid", fn := fun _ => fun
  | [d] => { results := [.lit (.bool false)], args := [d] }
  | _ => none }
def FnPageValidWrongFalsely : Prop := fnPageValidRow.holds Try.pinned (OpenSpec.ofChange fnPageValidWrong)

/-- 'laws.FnSamePlace': WHATEVER THE INPUT: true; the input reads as it did. -/
def fnSamePlaceSpec : ChangeSpec := { name := "fnSamePlace", fn := fun _ => fun
  | [d] => { results := [.lit (.bool true)], args := [d] }
  | _ => none }
def fnSamePlaceRow : OpenClaim := { program := "ytohfalkkaanhoaa", sum := "98d1055fa13b077e05c2423a17c4266050b50cdab81550904c4203cdba85eda6", func := "loop.example/flashfiles/laws.FnSamePlace", spec := "fnSamePlace", apart := false }
def FnSamePlaceSaid : Prop := fnSamePlaceRow.holds Try.pinned (OpenSpec.ofChange fnSamePlaceSpec)

/-- ITS FALSE NEIGHBOUR: 'it returns false'. Refute it at one input. -/
def fnSamePlaceWrong : ChangeSpec := { name := "fnSamePlace", fn := fun _ => fun
  | [d] => { results := [.lit (.bool false)], args := [d] }
  | _ => none }
def FnSamePlaceWrongFalsely : Prop := fnSamePlaceRow.holds Try.pinned (OpenSpec.ofChange fnSamePlaceWrong)

/-- 'laws.FnNewerPage': WHATEVER THE INPUT: true; the input reads as it did. -/
def fnNewerPageSpec : ChangeSpec := { name := "fnNewerPage", fn := fun _ => fun
  | [d] => { results := [.lit (.bool true)], args := [d] }
  | _ => none }
def fnNewerPageRow : OpenClaim := { program := "ytohfalkkaanhoaa", sum := "98d1055fa13b077e05c2423a17c4266050b50cdab81550904c4203cdba85eda6", func := "loop.example/flashfiles/laws.FnNewerPage", spec := "fnNewerPage", apart := false }
def FnNewerPageSaid : Prop := fnNewerPageRow.holds Try.pinned (OpenSpec.ofChange fnNewerPageSpec)

/-- ITS FALSE NEIGHBOUR: 'it returns false'. Refute it at one input. -/
def fnNewerPageWrong : ChangeSpec := { name := "fnNewerPage", fn := fun _ => fun
  | [d] => { results := [.lit (.bool false)], args := [d] }
  | _ => none }
def FnNewerPageWrongFalsely : Prop := fnNewerPageRow.holds Try.pinned (OpenSpec.ofChange fnNewerPageWrong)

/-- 'laws.FnExactPageValid': WHATEVER THE INPUT: true; the input reads as it did. -/
def fnExactPageValidSpec : ChangeSpec := { name := "fnExactPageValid", fn := fun _ => fun
  | [d] => { results := [.lit (.bool true)], args := [d] }
  | _ => none }
def fnExactPageValidRow : OpenClaim := { program := "ytohfalkkaanhoaa", sum := "98d1055fa13b077e05c2423a17c4266050b50cdab81550904c4203cdba85eda6", func := "loop.example/flashfiles/laws.FnExactPageValid", spec := "fnExactPageValid", apart := false }
def FnExactPageValidSaid : Prop := fnExactPageValidRow.holds Try.pinned (OpenSpec.ofChange fnExactPageValidSpec)

/-- ITS FALSE NEIGHBOUR: 'it returns false'. Refute it at one input. -/
def fnExactPageValidWrong : ChangeSpec := { name := "fnExactPageValid", fn := fun _ => fun
  | [d] => { results := [.lit (.bool false)], args := [d] }
  | _ => none }
def FnExactPageValidWrongFalsely : Prop := fnExactPageValidRow.holds Try.pinned (OpenSpec.ofChange fnExactPageValidWrong)

/-- 'laws.FnExactSamePlace': WHATEVER THE INPUT: true; the input reads as it did. -/
def fnExactSamePlaceSpec : ChangeSpec := { name := "fnExactSamePlace", fn := fun _ => fun
  | [d1, d2] => { results := [.lit (.bool true)], args := [d1, d2] }
  | _ => none }
def fnExactSamePlaceRow : OpenClaim := { program := "ytohfalkkaanhoaa", sum := "98d1055fa13b077e05c2423a17c4266050b50cdab81550904c4203cdba85eda6", func := "loop.example/flashfiles/laws.FnExactSamePlace", spec := "fnExactSamePlace", apart := false }
def FnExactSamePlaceSaid : Prop := fnExactSamePlaceRow.holds Try.pinned (OpenSpec.ofChange fnExactSamePlaceSpec)

/-- ITS FALSE NEIGHBOUR: 'it returns false'. Refute it at one input. -/
def fnExactSamePlaceWrong : ChangeSpec := { name := "fnExactSamePlace", fn := fun _ => fun
  | [d1, d2] => { results := [.lit (.bool false)], args := [d1, d2] }
  | _ => none }
def FnExactSamePlaceWrongFalsely : Prop := fnExactSamePlaceRow.holds Try.pinned (OpenSpec.ofChange fnExactSamePlaceWrong)

/-- 'laws.FnExactNewerPage': WHATEVER THE INPUT: true; the input reads as it did. -/
def fnExactNewerPageSpec : ChangeSpec := { name := "fnExactNewerPage", fn := fun _ => fun
  | [d1, d2] => { results := [.lit (.bool true)], args := [d1, d2] }
  | _ => none }
def fnExactNewerPageRow : OpenClaim := { program := "ytohfalkkaanhoaa", sum := "98d1055fa13b077e05c2423a17c4266050b50cdab81550904c4203cdba85eda6", func := "loop.example/flashfiles/laws.FnExactNewerPage", spec := "fnExactNewerPage", apart := false }
def FnExactNewerPageSaid : Prop := fnExactNewerPageRow.holds Try.pinned (OpenSpec.ofChange fnExactNewerPageSpec)

/-- ITS FALSE NEIGHBOUR: 'it returns false'. Refute it at one input. -/
def fnExactNewerPageWrong : ChangeSpec := { name := "fnExactNewerPage", fn := fun _ => fun
  | [d1, d2] => { results := [.lit (.bool false)], args := [d1, d2] }
  | _ => none }
def FnExactNewerPageWrongFalsely : Prop := fnExactNewerPageRow.holds Try.pinned (OpenSpec.ofChange fnExactNewerPageWrong)

/- THE SECOND FORM. 'bulk': how many values and letters a reading holds, each counted each time it is reached (what is shared counts as often as it is met; a slice's spare places count too). A statement '..UptoSaid' is the law's where the arguments, and the package variables that the reading takes, are together of bulk at most 1048576: NARROWER than '..Said'. Prove '..Said' where nothing that the law and all that it calls make is longer than what came in: it says more and counts as full. Else prove '..UptoSaid'. A law counts once. -/
mutual
def uptoBulk {H : Type} : DataW H → Nat
  | .lit (.string bytes) => bytes.length + 1
  | .lit _ => 1
  | .nil => 1
  | .ptr d => uptoBulk d + 1
  | .slice elems spare => uptoBulkAll elems + uptoBulkAll spare + 1
  | .agg parts => uptoBulkAll parts + 1
  | .iface _ d => uptoBulk d + 1
  | .map entries => uptoBulkEntries entries + 1
  | .held _ => 1
def uptoBulkAll {H : Type} : List (DataW H) → Nat
  | [] => 0
  | d :: r => uptoBulk d + uptoBulkAll r
def uptoBulkEntries {H : Type} : List (Lit × DataW H) → Nat
  | [] => 0
  | x :: r => uptoBulkEntry x + uptoBulkEntries r
def uptoBulkEntry {H : Type} : Lit × DataW H → Nat
  | (.string bytes, d) => bytes.length + uptoBulk d + 1
  | (_, d) => uptoBulk d + 1
 end
def uptoSmall : (H : Type) → List (DataW H) → Bool := fun _ ds => decide (uptoBulkAll ds ≤ 1048576)
def OpenSpec.upto (s : _root_.Go.ChangeSpec) : _root_.Go.OpenSpec := { _root_.Go.OpenSpec.ofChange s with cond := some uptoSmall }

/-- 'laws.FnPageValid', WHERE WHAT IT READS IS OF BULK AT MOST 1048576: true; the input reads as it did. -/
def fnPageValidUptoRow : OpenClaim := { program := "ytohfalkkaanhoaa", sum := "98d1055fa13b077e05c2423a17c4266050b50cdab81550904c4203cdba85eda6", func := "loop.example/flashfiles/laws.FnPageValid", spec := "fnPageValid", apart := false, narrowed := true }
def FnPageValidUptoSaid : Prop := fnPageValidUptoRow.holds Try.pinned (OpenSpec.upto fnPageValidSpec)

/-- 'laws.FnSamePlace', WHERE WHAT IT READS IS OF BULK AT MOST 1048576: true; the input reads as it did. -/
def fnSamePlaceUptoRow : OpenClaim := { program := "ytohfalkkaanhoaa", sum := "98d1055fa13b077e05c2423a17c4266050b50cdab81550904c4203cdba85eda6", func := "loop.example/flashfiles/laws.FnSamePlace", spec := "fnSamePlace", apart := false, narrowed := true }
def FnSamePlaceUptoSaid : Prop := fnSamePlaceUptoRow.holds Try.pinned (OpenSpec.upto fnSamePlaceSpec)

/-- 'laws.FnNewerPage', WHERE WHAT IT READS IS OF BULK AT MOST 1048576: true; the input reads as it did. -/
def fnNewerPageUptoRow : OpenClaim := { program := "ytohfalkkaanhoaa", sum := "98d1055fa13b077e05c2423a17c4266050b50cdab81550904c4203cdba85eda6", func := "loop.example/flashfiles/laws.FnNewerPage", spec := "fnNewerPage", apart := false, narrowed := true }
def FnNewerPageUptoSaid : Prop := fnNewerPageUptoRow.holds Try.pinned (OpenSpec.upto fnNewerPageSpec)

/-- 'laws.FnExactPageValid', WHERE WHAT IT READS IS OF BULK AT MOST 1048576: true; the input reads as it did. -/
def fnExactPageValidUptoRow : OpenClaim := { program := "ytohfalkkaanhoaa", sum := "98d1055fa13b077e05c2423a17c4266050b50cdab81550904c4203cdba85eda6", func := "loop.example/flashfiles/laws.FnExactPageValid", spec := "fnExactPageValid", apart := false, narrowed := true }
def FnExactPageValidUptoSaid : Prop := fnExactPageValidUptoRow.holds Try.pinned (OpenSpec.upto fnExactPageValidSpec)

/-- 'laws.FnExactSamePlace', WHERE WHAT IT READS IS OF BULK AT MOST 1048576: true; the input reads as it did. -/
def fnExactSamePlaceUptoRow : OpenClaim := { program := "ytohfalkkaanhoaa", sum := "98d1055fa13b077e05c2423a17c4266050b50cdab81550904c4203cdba85eda6", func := "loop.example/flashfiles/laws.FnExactSamePlace", spec := "fnExactSamePlace", apart := false, narrowed := true }
def FnExactSamePlaceUptoSaid : Prop := fnExactSamePlaceUptoRow.holds Try.pinned (OpenSpec.upto fnExactSamePlaceSpec)

/-- 'laws.FnExactNewerPage', WHERE WHAT IT READS IS OF BULK AT MOST 1048576: true; the input reads as it did. -/
def fnExactNewerPageUptoRow : OpenClaim := { program := "ytohfalkkaanhoaa", sum := "98d1055fa13b077e05c2423a17c4266050b50cdab81550904c4203cdba85eda6", func := "loop.example/flashfiles/laws.FnExactNewerPage", spec := "fnExactNewerPage", apart := false, narrowed := true }
def FnExactNewerPageUptoSaid : Prop := fnExactNewerPageUptoRow.holds Try.pinned (OpenSpec.upto fnExactNewerPageSpec)

end Rows
end Go.Proofs.Ytohfalkkaanhoaa
