/-
  No cell of these rows narrows 'for every input' (looked for: loops, veiled, ifaces, maps, wideKeys, modest, calm, conditions, laid).
  DERIVED. THE GIVEN ROWS OF THIS SEAT. 7 by the template 'for every input the law returns true; each argument reads behind the call as it read before'; 0 by the template 'total and deterministic' (their statements: YtbdpnmejkchjpaaTotals.lean).
  GIVEN WITH THE SEED: the statements are not yours to turn. If you find one false, say at which input.
  Laid BY PROGRAM, IN A SANDBOX (cutbox-rows.mjs): the forced cells as the released guide's own fill.sh prints them over the translation 07f088d909d8a59a… (all of the seat's roots in one cut). By AI agents, Wed Nov 11 2026. No macro, syntax, notation, axiom, sorry.
-/
import Derived.Test.YtbdpnmejkchjpaaChecked
import GoSem.Claim
import GoSem.ClaimJoined
import GoSem.ClaimMapViews
import Derived.JoinedTies
import Derived.KernelRfl
namespace Go.Proofs.Ytbdpnmejkchjpaa
/- THE CELL 'sum', in the pinned program and in every row, IS THE sha256 OF THE DUMP (.gsa) THAT YtbdpnmejkchjpaaProg.lean LOADS. Nothing in Lean hashes anything: it is a label: what it is worth is what the hold of that sum in a sandbox is worth. -/
noncomputable def Try.pinned : Pinned := { name := "ytbdpnmejkchjpaa", sum := "07f088d909d8a59a9b4cd0071528c1bb4ed606a6d4b591d03d4767b433de8322", checked := Try.checked }
namespace Rows
def none {H : Type} : Left H := { results := [], args := [] }

/-- 'laws.FnFreePages': WHATEVER THE INPUT: true; the input reads as it did. -/
def fnFreePagesSpec : ChangeSpec := { name := "fnFreePages", fn := fun _ => fun
  | [d] => { results := [.lit (.bool true)], args := [d] }
  | _ => none }
def fnFreePagesRow : OpenClaim := { program := "ytbdpnmejkchjpaa", sum := "07f088d909d8a59a9b4cd0071528c1bb4ed606a6d4b591d03d4767b433de8322", func := "loop.example/flashfiles/laws.FnFreePages", spec := "fnFreePages", apart := false }
def FnFreePagesSaid : Prop := fnFreePagesRow.holds Try.pinned (OpenSpec.ofChange fnFreePagesSpec)

/-- ITS FALSE NEIGHBOUR: 'it returns false'. Refute it at one input. -/
def fnFreePagesWrong : ChangeSpec := { name := "fnFreePages", fn := fun _ => fun
  | [d] => { results := [.lit (.bool false)], args := [d] }
  | _ => none }
def FnFreePagesWrongFalsely : Prop := fnFreePagesRow.holds Try.pinned (OpenSpec.ofChange fnFreePagesWrong)

/-- 'laws.FnExactDeviceValid': WHATEVER THE INPUT: true; the input reads as it did. -/
def fnExactDeviceValidSpec : ChangeSpec := { name := "fnExactDeviceValid", fn := fun _ => fun
  | [d] => { results := [.lit (.bool true)], args := [d] }
  | _ => none }
def fnExactDeviceValidRow : OpenClaim := { program := "ytbdpnmejkchjpaa", sum := "07f088d909d8a59a9b4cd0071528c1bb4ed606a6d4b591d03d4767b433de8322", func := "loop.example/flashfiles/laws.FnExactDeviceValid", spec := "fnExactDeviceValid", apart := false }
def FnExactDeviceValidSaid : Prop := fnExactDeviceValidRow.holds Try.pinned (OpenSpec.ofChange fnExactDeviceValidSpec)

/-- ITS FALSE NEIGHBOUR: 'it returns false'. Refute it at one input. -/
def fnExactDeviceValidWrong : ChangeSpec := { name := "fnExactDeviceValid", fn := fun _ => fun
  | [d] => { results := [.lit (.bool false)], args := [d] }
  | _ => none }
def FnExactDeviceValidWrongFalsely : Prop := fnExactDeviceValidRow.holds Try.pinned (OpenSpec.ofChange fnExactDeviceValidWrong)

/-- 'laws.FnExactNewDevice': WHATEVER THE INPUT: true; the input reads as it did. -/
def fnExactNewDeviceSpec : ChangeSpec := { name := "fnExactNewDevice", fn := fun _ => fun
  | [d] => { results := [.lit (.bool true)], args := [d] }
  | _ => none }
def fnExactNewDeviceRow : OpenClaim := { program := "ytbdpnmejkchjpaa", sum := "07f088d909d8a59a9b4cd0071528c1bb4ed606a6d4b591d03d4767b433de8322", func := "loop.example/flashfiles/laws.FnExactNewDevice", spec := "fnExactNewDevice", apart := false }
def FnExactNewDeviceSaid : Prop := fnExactNewDeviceRow.holds Try.pinned (OpenSpec.ofChange fnExactNewDeviceSpec)

/-- ITS FALSE NEIGHBOUR: 'it returns false'. Refute it at one input. -/
def fnExactNewDeviceWrong : ChangeSpec := { name := "fnExactNewDevice", fn := fun _ => fun
  | [d] => { results := [.lit (.bool false)], args := [d] }
  | _ => none }
def FnExactNewDeviceWrongFalsely : Prop := fnExactNewDeviceRow.holds Try.pinned (OpenSpec.ofChange fnExactNewDeviceWrong)

/-- 'laws.FnExactReadPage': WHATEVER THE INPUT: true; the input reads as it did. -/
def fnExactReadPageSpec : ChangeSpec := { name := "fnExactReadPage", fn := fun _ => fun
  | [d1, d2] => { results := [.lit (.bool true)], args := [d1, d2] }
  | _ => none }
def fnExactReadPageRow : OpenClaim := { program := "ytbdpnmejkchjpaa", sum := "07f088d909d8a59a9b4cd0071528c1bb4ed606a6d4b591d03d4767b433de8322", func := "loop.example/flashfiles/laws.FnExactReadPage", spec := "fnExactReadPage", apart := false }
def FnExactReadPageSaid : Prop := fnExactReadPageRow.holds Try.pinned (OpenSpec.ofChange fnExactReadPageSpec)

/-- ITS FALSE NEIGHBOUR: 'it returns false'. Refute it at one input. -/
def fnExactReadPageWrong : ChangeSpec := { name := "fnExactReadPage", fn := fun _ => fun
  | [d1, d2] => { results := [.lit (.bool false)], args := [d1, d2] }
  | _ => none }
def FnExactReadPageWrongFalsely : Prop := fnExactReadPageRow.holds Try.pinned (OpenSpec.ofChange fnExactReadPageWrong)

/-- 'laws.FnExactProgram': WHATEVER THE INPUT: true; the input reads as it did. -/
def fnExactProgramSpec : ChangeSpec := { name := "fnExactProgram", fn := fun _ => fun
  | [d1, d2, d3] => { results := [.lit (.bool true)], args := [d1, d2, d3] }
  | _ => none }
def fnExactProgramRow : OpenClaim := { program := "ytbdpnmejkchjpaa", sum := "07f088d909d8a59a9b4cd0071528c1bb4ed606a6d4b591d03d4767b433de8322", func := "loop.example/flashfiles/laws.FnExactProgram", spec := "fnExactProgram", apart := false }
def FnExactProgramSaid : Prop := fnExactProgramRow.holds Try.pinned (OpenSpec.ofChange fnExactProgramSpec)

/-- ITS FALSE NEIGHBOUR: 'it returns false'. Refute it at one input. -/
def fnExactProgramWrong : ChangeSpec := { name := "fnExactProgram", fn := fun _ => fun
  | [d1, d2, d3] => { results := [.lit (.bool false)], args := [d1, d2, d3] }
  | _ => none }
def FnExactProgramWrongFalsely : Prop := fnExactProgramRow.holds Try.pinned (OpenSpec.ofChange fnExactProgramWrong)

/-- 'laws.FnExactEraseAt': WHATEVER THE INPUT: true; the input reads as it did. -/
def fnExactEraseAtSpec : ChangeSpec := { name := "fnExactEraseAt", fn := fun _ => fun
  | [d1, d2] => { results := [.lit (.bool true)], args := [d1, d2] }
  | _ => none }
def fnExactEraseAtRow : OpenClaim := { program := "ytbdpnmejkchjpaa", sum := "07f088d909d8a59a9b4cd0071528c1bb4ed606a6d4b591d03d4767b433de8322", func := "loop.example/flashfiles/laws.FnExactEraseAt", spec := "fnExactEraseAt", apart := false }
def FnExactEraseAtSaid : Prop := fnExactEraseAtRow.holds Try.pinned (OpenSpec.ofChange fnExactEraseAtSpec)

/-- ITS FALSE NEIGHBOUR: 'it returns false'. Refute it at one input. -/
def fnExactEraseAtWrong : ChangeSpec := { name := "fnExactEraseAt", fn := fun _ => fun
  | [d1, d2] => { results := [.lit (.bool false)], args := [d1, d2] }
  | _ => none }
def FnExactEraseAtWrongFalsely : Prop := fnExactEraseAtRow.holds Try.pinned (OpenSpec.ofChange fnExactEraseAtWrong)

/-- 'laws.FnExactFreePages': WHATEVER THE INPUT: true; the input reads as it did. -/
def fnExactFreePagesSpec : ChangeSpec := { name := "fnExactFreePages", fn := fun _ => fun
  | [d] => { results := [.lit (.bool true)], args := [d] }
  | _ => none }
def fnExactFreePagesRow : OpenClaim := { program := "ytbdpnmejkchjpaa", sum := "07f088d909d8a59a9b4cd0071528c1bb4ed606a6d4b591d03d4767b433de8322", func := "loop.example/flashfiles/laws.FnExactFreePages", spec := "fnExactFreePages", apart := false }
def FnExactFreePagesSaid : Prop := fnExactFreePagesRow.holds Try.pinned (OpenSpec.ofChange fnExactFreePagesSpec)

/-- ITS FALSE NEIGHBOUR: 'it returns false'. Refute it at one input. -/
def fnExactFreePagesWrong : ChangeSpec := { name := "fnExactFreePages", fn := fun _ => fun
  | [d] => { results := [.lit (.bool false)], args := [d] }
  | _ => none }
def FnExactFreePagesWrongFalsely : Prop := fnExactFreePagesRow.holds Try.pinned (OpenSpec.ofChange fnExactFreePagesWrong)

/- THE SECOND FORM. 'bulk': how many values and letters a reading holds, each counted each time it is reached (what is shared counts as often as it is met; a slice's spare places count too). A statement '..UptoSaid' is the law's where the arguments, and the package variables that the reading takes, are together of bulk at most 1048576: NARROWER than '..Said'. Prove '..Said' where nothing that the law and all that it calls make is longer than what came in: it says more and counts as full. Else prove '..UptoSaid'. A law counts once. -/
mutual
def uptoBulk {H : Type} : DataW H → Nat
  | .lit (.string bytes) => bytes.length + 1
  | .lit _ => 1
  | .nil => 1
  | .ptr d => uptoBulk d + 1
  | .slice elems spare => uptoBulkAll elems + uptoBulkAll spare + 1
  | .agg parts => uptoBulkAll parts + 1
  | .iface _ d => uptoBulk d + 1
  | .map entries => uptoBulkEntries entries + 1
  | .held _ => 1
def uptoBulkAll {H : Type} : List (DataW H) → Nat
  | [] => 0
  | d :: r => uptoBulk d + uptoBulkAll r
def uptoBulkEntries {H : Type} : List (Lit × DataW H) → Nat
  | [] => 0
  | x :: r => uptoBulkEntry x + uptoBulkEntries r
def uptoBulkEntry {H : Type} : Lit × DataW H → Nat
  | (.string bytes, d) => bytes.length + uptoBulk d + 1
  | (_, d) => uptoBulk d + 1
 end
def uptoSmall : (H : Type) → List (DataW H) → Bool := fun _ ds => decide (uptoBulkAll ds ≤ 1048576)
def OpenSpec.upto (s : _root_.Go.ChangeSpec) : _root_.Go.OpenSpec := { _root_.Go.OpenSpec.ofChange s with cond := some uptoSmall }

/-- 'laws.FnFreePages', WHERE WHAT IT READS IS OF BULK AT MOST 1048576: true; the input reads as it did. -/
def fnFreePagesUptoRow : OpenClaim := { program := "ytbdpnmejkchjpaa", sum := "07f088d909d8a59a9b4cd0071528c1bb4ed606a6d4b591d03d4767b433de8322", func := "loop.example/flashfiles/laws.FnFreePages", spec := "fnFreePages", apart := false, narrowed := true }
def FnFreePagesUptoSaid : Prop := fnFreePagesUptoRow.holds Try.pinned (OpenSpec.upto fnFreePagesSpec)

/-- 'laws.FnExactDeviceValid', WHERE WHAT IT READS IS OF BULK AT MOST 1048576: true; the input reads as it did. -/
def fnExactDeviceValidUptoRow : OpenClaim := { program := "ytbdpnmejkchjpaa", sum := "07f088d909d8a59a9b4cd0071528c1bb4ed606a6d4b591d03d4767b433de8322", func := "loop.example/flashfiles/laws.FnExactDeviceValid", spec := "fnExactDeviceValid", apart := false, narrowed := true }
def FnExactDeviceValidUptoSaid : Prop := fnExactDeviceValidUptoRow.holds Try.pinned (OpenSpec.upto fnExactDeviceValidSpec)

/-- 'laws.FnExactNewDevice', WHERE WHAT IT READS IS OF BULK AT MOST 1048576: true; the input reads as it did. -/
def fnExactNewDeviceUptoRow : OpenClaim := { program := "ytbdpnmejkchjpaa", sum := "07f088d909d8a59a9b4cd0071528c1bb4ed606a6d4b591d03d4767b433de8322", func := "loop.example/flashfiles/laws.FnExactNewDevice", spec := "fnExactNewDevice", apart := false, narrowed := true }
def FnExactNewDeviceUptoSaid : Prop := fnExactNewDeviceUptoRow.holds Try.pinned (OpenSpec.upto fnExactNewDeviceSpec)

/-- 'laws.FnExactReadPage', WHERE WHAT IT READS IS OF BULK AT MOST 1048576: true; the input reads as it did. -/
def fnExactReadPageUptoRow : OpenClaim := { program := "ytbdpnmejkchjpaa", sum := "07f088d909d8a59a9b4cd0071528c1bb4ed606a6d4b591d03d4767b433de8322", func := "loop.example/flashfiles/laws.FnExactReadPage", spec := "fnExactReadPage", apart := false, narrowed := true }
def FnExactReadPageUptoSaid : Prop := fnExactReadPageUptoRow.holds Try.pinned (OpenSpec.upto fnExactReadPageSpec)

/-- 'laws.FnExactProgram', WHERE WHAT IT READS IS OF BULK AT MOST 1048576: true; the input reads as it did. -/
def fnExactProgramUptoRow : OpenClaim := { program := "ytbdpnmejkchjpaa", sum := "07f088d909d8a59a9b4cd0071528c1bb4ed606a6d4b591d03d4767b433de8322", func := "loop.example/flashfiles/laws.FnExactProgram", spec := "fnExactProgram", apart := false, narrowed := true }
def FnExactProgramUptoSaid : Prop := fnExactProgramUptoRow.holds Try.pinned (OpenSpec.upto fnExactProgramSpec)

/-- 'laws.FnExactEraseAt', WHERE WHAT IT READS IS OF BULK AT MOST 1048576: true; the input reads as it did. -/
def fnExactEraseAtUptoRow : OpenClaim := { program := "ytbdpnmejkchjpaa", sum := "07f088d909d8a59a9b4cd0071528c1bb4ed606a6d4b591d03d4767b433de8322", func := "loop.example/flashfiles/laws.FnExactEraseAt", spec := "fnExactEraseAt", apart := false, narrowed := true }
def FnExactEraseAtUptoSaid : Prop := fnExactEraseAtUptoRow.holds Try.pinned (OpenSpec.upto fnExactEraseAtSpec)

/-- 'laws.FnExactFreePages', WHERE WHAT IT READS IS OF BULK AT MOST 1048576: true; the input reads as it did. -/
def fnExactFreePagesUptoRow : OpenClaim := { program := "ytbdpnmejkchjpaa", sum := "07f088d909d8a59a9b4cd0071528c1bb4ed606a6d4b591d03d4767b433de8322", func := "loop.example/flashfiles/laws.FnExactFreePages", spec := "fnExactFreePages", apart := false, narrowed := true }
def FnExactFreePagesUptoSaid : Prop := fnExactFreePagesUptoRow.holds Try.pinned (OpenSpec.upto fnExactFreePagesSpec)

end Rows
end Go.Proofs.Ytbdpnmejkchjpaa
