/-
  No cell of these rows narrows 'for every input' (looked for: loops, veiled, ifaces, maps, wideKeys, modest, calm, conditions, laid).
  DERIVED. THE GIVEN ROWS OF THIS SEAT. 12 by the template 'for every input the law returns true; each argument reads behind the call as it read before'; 0 by the template 'total and deterministic' (their statements: YtpdkfgihpchkiaaTotals.lean).
  GIVEN WITH THE SEED: the statements are not yours to turn. If you find one false, say at which input.
  Laid BY PROGRAM, IN A SANDBOX (cutbox-rows.mjs): the forced cells as the released guide's own fill.sh prints them over the translation eec89feac731aec7… (all of the seat's roots in one cut). By AI agents, Wed Nov 11 2026. No macro, syntax, notation, axiom, sorry.
-/
import Derived.Test.YtpdkfgihpchkiaaChecked
import GoSem.Claim
import GoSem.ClaimJoined
import GoSem.ClaimMapViews
import Derived.JoinedTies
import Derived.KernelRfl
namespace Go.Proofs.Ytpdkfgihpchkiaa
/- THE CELL 'sum', in the pinned program and in every row, IS THE sha256 OF THE DUMP (.gsa) THAT YtpdkfgihpchkiaaProg.lean LOADS. Nothing in Lean hashes anything: it is a label: what it is worth is what the hold of that sum in a sandbox is worth. -/
noncomputable def Try.pinned : Pinned := { name := "ytpdkfgihpchkiaa", sum := "eec89feac731aec7d07384ed2dbd68cbda44b8054432e18d4e58e4885328d5ce", checked := Try.checked }
namespace Rows
def none {H : Type} : Left H := { results := [], args := [] }

/-- 'laws.FnFreshBlock': WHATEVER THE INPUT: true; the input reads as it did. -/
def fnFreshBlockSpec : ChangeSpec := { name := "fnFreshBlock", fn := fun _ => fun
  | [d] => { results := [.lit (.bool true)], args := [d] }
  | _ => none }
def fnFreshBlockRow : OpenClaim := { program := "ytpdkfgihpchkiaa", sum := "eec89feac731aec7d07384ed2dbd68cbda44b8054432e18d4e58e4885328d5ce", func := "loop.example/flashfiles/laws.FnFreshBlock", spec := "fnFreshBlock", apart := false }
def FnFreshBlockSaid : Prop := fnFreshBlockRow.holds Try.pinned (OpenSpec.ofChange fnFreshBlockSpec)

/-- ITS FALSE NEIGHBOUR: 'it returns false'. Refute it at one input. -/
def fnFreshBlockWrong : ChangeSpec := { name := "fnFreshBlock", fn := fun _ => fun
  | [d] => { results := [.lit (.bool false)], args := [d] }
  | _ => none }
def FnFreshBlockWrongFalsely : Prop := fnFreshBlockRow.holds Try.pinned (OpenSpec.ofChange fnFreshBlockWrong)

/-- 'laws.FnAppendPage': WHATEVER THE INPUT: true; the input reads as it did. -/
def fnAppendPageSpec : ChangeSpec := { name := "fnAppendPage", fn := fun _ => fun
  | [d] => { results := [.lit (.bool true)], args := [d] }
  | _ => none }
def fnAppendPageRow : OpenClaim := { program := "ytpdkfgihpchkiaa", sum := "eec89feac731aec7d07384ed2dbd68cbda44b8054432e18d4e58e4885328d5ce", func := "loop.example/flashfiles/laws.FnAppendPage", spec := "fnAppendPage", apart := false }
def FnAppendPageSaid : Prop := fnAppendPageRow.holds Try.pinned (OpenSpec.ofChange fnAppendPageSpec)

/-- ITS FALSE NEIGHBOUR: 'it returns false'. Refute it at one input. -/
def fnAppendPageWrong : ChangeSpec := { name := "fnAppendPage", fn := fun _ => fun
  | [d] => { results := [.lit (.bool false)], args := [d] }
  | _ => none }
def FnAppendPageWrongFalsely : Prop := fnAppendPageRow.holds Try.pinned (OpenSpec.ofChange fnAppendPageWrong)

/-- 'laws.FnWearSpread': WHATEVER THE INPUT: true; the input reads as it did. -/
def fnWearSpreadSpec : ChangeSpec := { name := "fnWearSpread", fn := fun _ => fun
  | [d] => { results := [.lit (.bool true)], args := [d] }
  | _ => none }
def fnWearSpreadRow : OpenClaim := { program := "ytpdkfgihpchkiaa", sum := "eec89feac731aec7d07384ed2dbd68cbda44b8054432e18d4e58e4885328d5ce", func := "loop.example/flashfiles/laws.FnWearSpread", spec := "fnWearSpread", apart := false }
def FnWearSpreadSaid : Prop := fnWearSpreadRow.holds Try.pinned (OpenSpec.ofChange fnWearSpreadSpec)

/-- ITS FALSE NEIGHBOUR: 'it returns false'. Refute it at one input. -/
def fnWearSpreadWrong : ChangeSpec := { name := "fnWearSpread", fn := fun _ => fun
  | [d] => { results := [.lit (.bool false)], args := [d] }
  | _ => none }
def FnWearSpreadWrongFalsely : Prop := fnWearSpreadRow.holds Try.pinned (OpenSpec.ofChange fnWearSpreadWrong)

/-- 'laws.FnWearTotal': WHATEVER THE INPUT: true; the input reads as it did. -/
def fnWearTotalSpec : ChangeSpec := { name := "fnWearTotal", fn := fun _ => fun
  | [d] => { results := [.lit (.bool true)], args := [d] }
  | _ => none }
def fnWearTotalRow : OpenClaim := { program := "ytpdkfgihpchkiaa", sum := "eec89feac731aec7d07384ed2dbd68cbda44b8054432e18d4e58e4885328d5ce", func := "loop.example/flashfiles/laws.FnWearTotal", spec := "fnWearTotal", apart := false }
def FnWearTotalSaid : Prop := fnWearTotalRow.holds Try.pinned (OpenSpec.ofChange fnWearTotalSpec)

/-- ITS FALSE NEIGHBOUR: 'it returns false'. Refute it at one input. -/
def fnWearTotalWrong : ChangeSpec := { name := "fnWearTotal", fn := fun _ => fun
  | [d] => { results := [.lit (.bool false)], args := [d] }
  | _ => none }
def FnWearTotalWrongFalsely : Prop := fnWearTotalRow.holds Try.pinned (OpenSpec.ofChange fnWearTotalWrong)

/-- 'laws.FnWearVictim': WHATEVER THE INPUT: true; the input reads as it did. -/
def fnWearVictimSpec : ChangeSpec := { name := "fnWearVictim", fn := fun _ => fun
  | [d] => { results := [.lit (.bool true)], args := [d] }
  | _ => none }
def fnWearVictimRow : OpenClaim := { program := "ytpdkfgihpchkiaa", sum := "eec89feac731aec7d07384ed2dbd68cbda44b8054432e18d4e58e4885328d5ce", func := "loop.example/flashfiles/laws.FnWearVictim", spec := "fnWearVictim", apart := false }
def FnWearVictimSaid : Prop := fnWearVictimRow.holds Try.pinned (OpenSpec.ofChange fnWearVictimSpec)

/-- ITS FALSE NEIGHBOUR: 'it returns false'. Refute it at one input. -/
def fnWearVictimWrong : ChangeSpec := { name := "fnWearVictim", fn := fun _ => fun
  | [d] => { results := [.lit (.bool false)], args := [d] }
  | _ => none }
def FnWearVictimWrongFalsely : Prop := fnWearVictimRow.holds Try.pinned (OpenSpec.ofChange fnWearVictimWrong)

/-- 'laws.FnExactWearSpread': WHATEVER THE INPUT: true; the input reads as it did. -/
def fnExactWearSpreadSpec : ChangeSpec := { name := "fnExactWearSpread", fn := fun _ => fun
  | [d] => { results := [.lit (.bool true)], args := [d] }
  | _ => none }
def fnExactWearSpreadRow : OpenClaim := { program := "ytpdkfgihpchkiaa", sum := "eec89feac731aec7d07384ed2dbd68cbda44b8054432e18d4e58e4885328d5ce", func := "loop.example/flashfiles/laws.FnExactWearSpread", spec := "fnExactWearSpread", apart := false }
def FnExactWearSpreadSaid : Prop := fnExactWearSpreadRow.holds Try.pinned (OpenSpec.ofChange fnExactWearSpreadSpec)

/-- ITS FALSE NEIGHBOUR: 'it returns false'. Refute it at one input. -/
def fnExactWearSpreadWrong : ChangeSpec := { name := "fnExactWearSpread", fn := fun _ => fun
  | [d] => { results := [.lit (.bool false)], args := [d] }
  | _ => none }
def FnExactWearSpreadWrongFalsely : Prop := fnExactWearSpreadRow.holds Try.pinned (OpenSpec.ofChange fnExactWearSpreadWrong)

/-- 'laws.FnExactWearTotal': WHATEVER THE INPUT: true; the input reads as it did. -/
def fnExactWearTotalSpec : ChangeSpec := { name := "fnExactWearTotal", fn := fun _ => fun
  | [d] => { results := [.lit (.bool true)], args := [d] }
  | _ => none }
def fnExactWearTotalRow : OpenClaim := { program := "ytpdkfgihpchkiaa", sum := "eec89feac731aec7d07384ed2dbd68cbda44b8054432e18d4e58e4885328d5ce", func := "loop.example/flashfiles/laws.FnExactWearTotal", spec := "fnExactWearTotal", apart := false }
def FnExactWearTotalSaid : Prop := fnExactWearTotalRow.holds Try.pinned (OpenSpec.ofChange fnExactWearTotalSpec)

/-- ITS FALSE NEIGHBOUR: 'it returns false'. Refute it at one input. -/
def fnExactWearTotalWrong : ChangeSpec := { name := "fnExactWearTotal", fn := fun _ => fun
  | [d] => { results := [.lit (.bool false)], args := [d] }
  | _ => none }
def FnExactWearTotalWrongFalsely : Prop := fnExactWearTotalRow.holds Try.pinned (OpenSpec.ofChange fnExactWearTotalWrong)

/-- 'laws.FnExactWearVictim': WHATEVER THE INPUT: true; the input reads as it did. -/
def fnExactWearVictimSpec : ChangeSpec := { name := "fnExactWearVictim", fn := fun _ => fun
  | [d1, d2] => { results := [.lit (.bool true)], args := [d1, d2] }
  | _ => none }
def fnExactWearVictimRow : OpenClaim := { program := "ytpdkfgihpchkiaa", sum := "eec89feac731aec7d07384ed2dbd68cbda44b8054432e18d4e58e4885328d5ce", func := "loop.example/flashfiles/laws.FnExactWearVictim", spec := "fnExactWearVictim", apart := false }
def FnExactWearVictimSaid : Prop := fnExactWearVictimRow.holds Try.pinned (OpenSpec.ofChange fnExactWearVictimSpec)

/-- ITS FALSE NEIGHBOUR: 'it returns false'. Refute it at one input. -/
def fnExactWearVictimWrong : ChangeSpec := { name := "fnExactWearVictim", fn := fun _ => fun
  | [d1, d2] => { results := [.lit (.bool false)], args := [d1, d2] }
  | _ => none }
def FnExactWearVictimWrongFalsely : Prop := fnExactWearVictimRow.holds Try.pinned (OpenSpec.ofChange fnExactWearVictimWrong)

/-- 'laws.FnExactFreshBlock': WHATEVER THE INPUT: true; the input reads as it did. -/
def fnExactFreshBlockSpec : ChangeSpec := { name := "fnExactFreshBlock", fn := fun _ => fun
  | [d1, d2] => { results := [.lit (.bool true)], args := [d1, d2] }
  | _ => none }
def fnExactFreshBlockRow : OpenClaim := { program := "ytpdkfgihpchkiaa", sum := "eec89feac731aec7d07384ed2dbd68cbda44b8054432e18d4e58e4885328d5ce", func := "loop.example/flashfiles/laws.FnExactFreshBlock", spec := "fnExactFreshBlock", apart := false }
def FnExactFreshBlockSaid : Prop := fnExactFreshBlockRow.holds Try.pinned (OpenSpec.ofChange fnExactFreshBlockSpec)

/-- ITS FALSE NEIGHBOUR: 'it returns false'. Refute it at one input. -/
def fnExactFreshBlockWrong : ChangeSpec := { name := "fnExactFreshBlock", fn := fun _ => fun
  | [d1, d2] => { results := [.lit (.bool false)], args := [d1, d2] }
  | _ => none }
def FnExactFreshBlockWrongFalsely : Prop := fnExactFreshBlockRow.holds Try.pinned (OpenSpec.ofChange fnExactFreshBlockWrong)

/-- 'laws.FnExactAppendPage': WHATEVER THE INPUT: true; the input reads as it did. -/
def fnExactAppendPageSpec : ChangeSpec := { name := "fnExactAppendPage", fn := fun _ => fun
  | [d1, d2, d3, d4] => { results := [.lit (.bool true)], args := [d1, d2, d3, d4] }
  | _ => none }
def fnExactAppendPageRow : OpenClaim := { program := "ytpdkfgihpchkiaa", sum := "eec89feac731aec7d07384ed2dbd68cbda44b8054432e18d4e58e4885328d5ce", func := "loop.example/flashfiles/laws.FnExactAppendPage", spec := "fnExactAppendPage", apart := false }
def FnExactAppendPageSaid : Prop := fnExactAppendPageRow.holds Try.pinned (OpenSpec.ofChange fnExactAppendPageSpec)

/-- ITS FALSE NEIGHBOUR: 'it returns false'. Refute it at one input. -/
def fnExactAppendPageWrong : ChangeSpec := { name := "fnExactAppendPage", fn := fun _ => fun
  | [d1, d2, d3, d4] => { results := [.lit (.bool false)], args := [d1, d2, d3, d4] }
  | _ => none }
def FnExactAppendPageWrongFalsely : Prop := fnExactAppendPageRow.holds Try.pinned (OpenSpec.ofChange fnExactAppendPageWrong)

/-- 'laws.FnNewDevice': WHATEVER THE INPUT: true; the input reads as it did. -/
def fnNewDeviceSpec : ChangeSpec := { name := "fnNewDevice", fn := fun _ => fun
  | [d] => { results := [.lit (.bool true)], args := [d] }
  | _ => none }
def fnNewDeviceRow : OpenClaim := { program := "ytpdkfgihpchkiaa", sum := "eec89feac731aec7d07384ed2dbd68cbda44b8054432e18d4e58e4885328d5ce", func := "loop.example/flashfiles/laws.FnNewDevice", spec := "fnNewDevice", apart := false }
def FnNewDeviceSaid : Prop := fnNewDeviceRow.holds Try.pinned (OpenSpec.ofChange fnNewDeviceSpec)

/-- ITS FALSE NEIGHBOUR: 'it returns false'. Refute it at one input. -/
def fnNewDeviceWrong : ChangeSpec := { name := "fnNewDevice", fn := fun _ => fun
  | [d] => { results := [.lit (.bool false)], args := [d] }
  | _ => none }
def FnNewDeviceWrongFalsely : Prop := fnNewDeviceRow.holds Try.pinned (OpenSpec.ofChange fnNewDeviceWrong)

/-- 'laws.FnEraseAt': WHATEVER THE INPUT: true; the input reads as it did. -/
def fnEraseAtSpec : ChangeSpec := { name := "fnEraseAt", fn := fun _ => fun
  | [d] => { results := [.lit (.bool true)], args := [d] }
  | _ => none }
def fnEraseAtRow : OpenClaim := { program := "ytpdkfgihpchkiaa", sum := "eec89feac731aec7d07384ed2dbd68cbda44b8054432e18d4e58e4885328d5ce", func := "loop.example/flashfiles/laws.FnEraseAt", spec := "fnEraseAt", apart := false }
def FnEraseAtSaid : Prop := fnEraseAtRow.holds Try.pinned (OpenSpec.ofChange fnEraseAtSpec)

/-- ITS FALSE NEIGHBOUR: 'it returns false'. Refute it at one input. -/
def fnEraseAtWrong : ChangeSpec := { name := "fnEraseAt", fn := fun _ => fun
  | [d] => { results := [.lit (.bool false)], args := [d] }
  | _ => none }
def FnEraseAtWrongFalsely : Prop := fnEraseAtRow.holds Try.pinned (OpenSpec.ofChange fnEraseAtWrong)

/- THE SECOND FORM. 'bulk': how many values and letters a reading holds, each counted each time it is reached (what is shared counts as often as it is met; a slice's spare places count too). A statement '..UptoSaid' is the law's where the arguments, and the package variables that the reading takes, are together of bulk at most 1048576: NARROWER than '..Said'. Prove '..Said' where nothing that the law and all that it calls make is longer than what came in: it says more and counts as full. Else prove '..UptoSaid'. A law counts once. -/
mutual
def uptoBulk {H : Type} : DataW H → Nat
  | .lit (.string bytes) => bytes.length + 1
  | .lit _ => 1
  | .nil => 1
  | .ptr d => uptoBulk d + 1
  | .slice elems spare => uptoBulkAll elems + uptoBulkAll spare + 1
  | .agg parts => uptoBulkAll parts + 1
  | .iface _ d => uptoBulk d + 1
  | .map entries => uptoBulkEntries entries + 1
  | .held _ => 1
def uptoBulkAll {H : Type} : List (DataW H) → Nat
  | [] => 0
  | d :: r => uptoBulk d + uptoBulkAll r
def uptoBulkEntries {H : Type} : List (Lit × DataW H) → Nat
  | [] => 0
  | x :: r => uptoBulkEntry x + uptoBulkEntries r
def uptoBulkEntry {H : Type} : Lit × DataW H → Nat
  | (.string bytes, d) => bytes.length + uptoBulk d + 1
  | (_, d) => uptoBulk d + 1
 end
def uptoSmall : (H : Type) → List (DataW H) → Bool := fun _ ds => decide (uptoBulkAll ds ≤ 1048576)
def OpenSpec.upto (s : _root_.Go.ChangeSpec) : _root_.Go.OpenSpec := { _root_.Go.OpenSpec.ofChange s with cond := some uptoSmall }

/-- 'laws.FnFreshBlock', WHERE WHAT IT READS IS OF BULK AT MOST 1048576: true; the input reads as it did. -/
def fnFreshBlockUptoRow : OpenClaim := { program := "ytpdkfgihpchkiaa", sum := "eec89feac731aec7d07384ed2dbd68cbda44b8054432e18d4e58e4885328d5ce", func := "loop.example/flashfiles/laws.FnFreshBlock", spec := "fnFreshBlock", apart := false, narrowed := true }
def FnFreshBlockUptoSaid : Prop := fnFreshBlockUptoRow.holds Try.pinned (OpenSpec.upto fnFreshBlockSpec)

/-- 'laws.FnAppendPage', WHERE WHAT IT READS IS OF BULK AT MOST 1048576: true; the input reads as it did. -/
def fnAppendPageUptoRow : OpenClaim := { program := "ytpdkfgihpchkiaa", sum := "eec89feac731aec7d07384ed2dbd68cbda44b8054432e18d4e58e4885328d5ce", func := "loop.example/flashfiles/laws.FnAppendPage", spec := "fnAppendPage", apart := false, narrowed := true }
def FnAppendPageUptoSaid : Prop := fnAppendPageUptoRow.holds Try.pinned (OpenSpec.upto fnAppendPageSpec)

/-- 'laws.FnWearSpread', WHERE WHAT IT READS IS OF BULK AT MOST 1048576: true; the input reads as it did. -/
def fnWearSpreadUptoRow : OpenClaim := { program := "ytpdkfgihpchkiaa", sum := "eec89feac731aec7d07384ed2dbd68cbda44b8054432e18d4e58e4885328d5ce", func := "loop.example/flashfiles/laws.FnWearSpread", spec := "fnWearSpread", apart := false, narrowed := true }
def FnWearSpreadUptoSaid : Prop := fnWearSpreadUptoRow.holds Try.pinned (OpenSpec.upto fnWearSpreadSpec)

/-- 'laws.FnWearTotal', WHERE WHAT IT READS IS OF BULK AT MOST 1048576: true; the input reads as it did. -/
def fnWearTotalUptoRow : OpenClaim := { program := "ytpdkfgihpchkiaa", sum := "eec89feac731aec7d07384ed2dbd68cbda44b8054432e18d4e58e4885328d5ce", func := "loop.example/flashfiles/laws.FnWearTotal", spec := "fnWearTotal", apart := false, narrowed := true }
def FnWearTotalUptoSaid : Prop := fnWearTotalUptoRow.holds Try.pinned (OpenSpec.upto fnWearTotalSpec)

/-- 'laws.FnWearVictim', WHERE WHAT IT READS IS OF BULK AT MOST 1048576: true; the input reads as it did. -/
def fnWearVictimUptoRow : OpenClaim := { program := "ytpdkfgihpchkiaa", sum := "eec89feac731aec7d07384ed2dbd68cbda44b8054432e18d4e58e4885328d5ce", func := "loop.example/flashfiles/laws.FnWearVictim", spec := "fnWearVictim", apart := false, narrowed := true }
def FnWearVictimUptoSaid : Prop := fnWearVictimUptoRow.holds Try.pinned (OpenSpec.upto fnWearVictimSpec)

/-- 'laws.FnExactWearSpread', WHERE WHAT IT READS IS OF BULK AT MOST 1048576: true; the input reads as it did. -/
def fnExactWearSpreadUptoRow : OpenClaim := { program := "ytpdkfgihpchkiaa", sum := "eec89feac731aec7d07384ed2dbd68cbda44b8054432e18d4e58e4885328d5ce", func := "loop.example/flashfiles/laws.FnExactWearSpread", spec := "fnExactWearSpread", apart := false, narrowed := true }
def FnExactWearSpreadUptoSaid : Prop := fnExactWearSpreadUptoRow.holds Try.pinned (OpenSpec.upto fnExactWearSpreadSpec)

/-- 'laws.FnExactWearTotal', WHERE WHAT IT READS IS OF BULK AT MOST 1048576: true; the input reads as it did. -/
def fnExactWearTotalUptoRow : OpenClaim := { program := "ytpdkfgihpchkiaa", sum := "eec89feac731aec7d07384ed2dbd68cbda44b8054432e18d4e58e4885328d5ce", func := "loop.example/flashfiles/laws.FnExactWearTotal", spec := "fnExactWearTotal", apart := false, narrowed := true }
def FnExactWearTotalUptoSaid : Prop := fnExactWearTotalUptoRow.holds Try.pinned (OpenSpec.upto fnExactWearTotalSpec)

/-- 'laws.FnExactWearVictim', WHERE WHAT IT READS IS OF BULK AT MOST 1048576: true; the input reads as it did. -/
def fnExactWearVictimUptoRow : OpenClaim := { program := "ytpdkfgihpchkiaa", sum := "eec89feac731aec7d07384ed2dbd68cbda44b8054432e18d4e58e4885328d5ce", func := "loop.example/flashfiles/laws.FnExactWearVictim", spec := "fnExactWearVictim", apart := false, narrowed := true }
def FnExactWearVictimUptoSaid : Prop := fnExactWearVictimUptoRow.holds Try.pinned (OpenSpec.upto fnExactWearVictimSpec)

/-- 'laws.FnExactFreshBlock', WHERE WHAT IT READS IS OF BULK AT MOST 1048576: true; the input reads as it did. -/
def fnExactFreshBlockUptoRow : OpenClaim := { program := "ytpdkfgihpchkiaa", sum := "eec89feac731aec7d07384ed2dbd68cbda44b8054432e18d4e58e4885328d5ce", func := "loop.example/flashfiles/laws.FnExactFreshBlock", spec := "fnExactFreshBlock", apart := false, narrowed := true }
def FnExactFreshBlockUptoSaid : Prop := fnExactFreshBlockUptoRow.holds Try.pinned (OpenSpec.upto fnExactFreshBlockSpec)

/-- 'laws.FnExactAppendPage', WHERE WHAT IT READS IS OF BULK AT MOST 1048576: true; the input reads as it did. -/
def fnExactAppendPageUptoRow : OpenClaim := { program := "ytpdkfgihpchkiaa", sum := "eec89feac731aec7d07384ed2dbd68cbda44b8054432e18d4e58e4885328d5ce", func := "loop.example/flashfiles/laws.FnExactAppendPage", spec := "fnExactAppendPage", apart := false, narrowed := true }
def FnExactAppendPageUptoSaid : Prop := fnExactAppendPageUptoRow.holds Try.pinned (OpenSpec.upto fnExactAppendPageSpec)

/-- 'laws.FnNewDevice', WHERE WHAT IT READS IS OF BULK AT MOST 1048576: true; the input reads as it did. -/
def fnNewDeviceUptoRow : OpenClaim := { program := "ytpdkfgihpchkiaa", sum := "eec89feac731aec7d07384ed2dbd68cbda44b8054432e18d4e58e4885328d5ce", func := "loop.example/flashfiles/laws.FnNewDevice", spec := "fnNewDevice", apart := false, narrowed := true }
def FnNewDeviceUptoSaid : Prop := fnNewDeviceUptoRow.holds Try.pinned (OpenSpec.upto fnNewDeviceSpec)

/-- 'laws.FnEraseAt', WHERE WHAT IT READS IS OF BULK AT MOST 1048576: true; the input reads as it did. -/
def fnEraseAtUptoRow : OpenClaim := { program := "ytpdkfgihpchkiaa", sum := "eec89feac731aec7d07384ed2dbd68cbda44b8054432e18d4e58e4885328d5ce", func := "loop.example/flashfiles/laws.FnEraseAt", spec := "fnEraseAt", apart := false, narrowed := true }
def FnEraseAtUptoSaid : Prop := fnEraseAtUptoRow.holds Try.pinned (OpenSpec.upto fnEraseAtSpec)

end Rows
end Go.Proofs.Ytpdkfgihpchkiaa
