/-
  No cell of these rows narrows 'for every input' (looked for: loops, veiled, ifaces, maps, wideKeys, modest, calm, conditions, laid).
  DERIVED. THE GIVEN ROWS OF THIS SEAT. 12 by the template 'for every input the law returns true; each argument reads behind the call as it read before'; 0 by the template 'total and deterministic' (their statements: YtengcjglkcmkbaaTotals.lean).
  GIVEN WITH THE SEED: the statements are not yours to turn. If you find one false, say at which input.
  Laid BY PROGRAM, IN A SANDBOX (cutbox-rows.mjs): the forced cells as the released guide's own fill.sh prints them over the translation e5e50c1935e749ef… (all of the seat's roots in one cut). By AI agents, Wed Nov 11 2026. No macro, syntax, notation, axiom, sorry.
-/
import Derived.Test.YtengcjglkcmkbaaChecked
import GoSem.Claim
import GoSem.ClaimJoined
import GoSem.ClaimMapViews
import Derived.JoinedTies
import Derived.KernelRfl
namespace Go.Proofs.Ytengcjglkcmkbaa
/- THE CELL 'sum', in the pinned program and in every row, IS THE sha256 OF THE DUMP (.gsa) THAT YtengcjglkcmkbaaProg.lean LOADS. Nothing in Lean hashes anything: it is a label: what it is worth is what the hold of that sum in a sandbox is worth. -/
noncomputable def Try.pinned : Pinned := { name := "ytengcjglkcmkbaa", sum := "e5e50c1935e749effe7f7954c3ec17e57d1ea2104a21de2131aec5396c7a8149", checked := Try.checked }
namespace Rows
def none {H : Type} : Left H := { results := [], args := [] }

/-- 'laws.FnTextValid': WHATEVER THE INPUT: true; the input reads as it did. -/
def fnTextValidSpec : ChangeSpec := { name := "fnTextValid", fn := fun _ => fun
  | [d] => { results := [.lit (.bool true)], args := [d] }
  | _ => none }
def fnTextValidRow : OpenClaim := { program := "ytengcjglkcmkbaa", sum := "e5e50c1935e749effe7f7954c3ec17e57d1ea2104a21de2131aec5396c7a8149", func := "loop.example/flashfiles/laws.FnTextValid", spec := "fnTextValid", apart := false }
def FnTextValidSaid : Prop := fnTextValidRow.holds Try.pinned (OpenSpec.ofChange fnTextValidSpec)

/-- ITS FALSE NEIGHBOUR: 'it returns false'. Refute it at one input. -/
def fnTextValidWrong : ChangeSpec := { name := "fnTextValid", fn := fun _ => fun
  | [d] => { results := [.lit (.bool false)], args := [d] }
  | _ => none }
def FnTextValidWrongFalsely : Prop := fnTextValidRow.holds Try.pinned (OpenSpec.ofChange fnTextValidWrong)

/-- 'laws.FnNameBucket': WHATEVER THE INPUT: true; the input reads as it did. -/
def fnNameBucketSpec : ChangeSpec := { name := "fnNameBucket", fn := fun _ => fun
  | [d] => { results := [.lit (.bool true)], args := [d] }
  | _ => none }
def fnNameBucketRow : OpenClaim := { program := "ytengcjglkcmkbaa", sum := "e5e50c1935e749effe7f7954c3ec17e57d1ea2104a21de2131aec5396c7a8149", func := "loop.example/flashfiles/laws.FnNameBucket", spec := "fnNameBucket", apart := false }
def FnNameBucketSaid : Prop := fnNameBucketRow.holds Try.pinned (OpenSpec.ofChange fnNameBucketSpec)

/-- ITS FALSE NEIGHBOUR: 'it returns false'. Refute it at one input. -/
def fnNameBucketWrong : ChangeSpec := { name := "fnNameBucket", fn := fun _ => fun
  | [d] => { results := [.lit (.bool false)], args := [d] }
  | _ => none }
def FnNameBucketWrongFalsely : Prop := fnNameBucketRow.holds Try.pinned (OpenSpec.ofChange fnNameBucketWrong)

/-- 'laws.FnNamesValid': WHATEVER THE INPUT: true; the input reads as it did. -/
def fnNamesValidSpec : ChangeSpec := { name := "fnNamesValid", fn := fun _ => fun
  | [d] => { results := [.lit (.bool true)], args := [d] }
  | _ => none }
def fnNamesValidRow : OpenClaim := { program := "ytengcjglkcmkbaa", sum := "e5e50c1935e749effe7f7954c3ec17e57d1ea2104a21de2131aec5396c7a8149", func := "loop.example/flashfiles/laws.FnNamesValid", spec := "fnNamesValid", apart := false }
def FnNamesValidSaid : Prop := fnNamesValidRow.holds Try.pinned (OpenSpec.ofChange fnNamesValidSpec)

/-- ITS FALSE NEIGHBOUR: 'it returns false'. Refute it at one input. -/
def fnNamesValidWrong : ChangeSpec := { name := "fnNamesValid", fn := fun _ => fun
  | [d] => { results := [.lit (.bool false)], args := [d] }
  | _ => none }
def FnNamesValidWrongFalsely : Prop := fnNamesValidRow.holds Try.pinned (OpenSpec.ofChange fnNamesValidWrong)

/-- 'laws.FnFindName': WHATEVER THE INPUT: true; the input reads as it did. -/
def fnFindNameSpec : ChangeSpec := { name := "fnFindName", fn := fun _ => fun
  | [d] => { results := [.lit (.bool true)], args := [d] }
  | _ => none }
def fnFindNameRow : OpenClaim := { program := "ytengcjglkcmkbaa", sum := "e5e50c1935e749effe7f7954c3ec17e57d1ea2104a21de2131aec5396c7a8149", func := "loop.example/flashfiles/laws.FnFindName", spec := "fnFindName", apart := false }
def FnFindNameSaid : Prop := fnFindNameRow.holds Try.pinned (OpenSpec.ofChange fnFindNameSpec)

/-- ITS FALSE NEIGHBOUR: 'it returns false'. Refute it at one input. -/
def fnFindNameWrong : ChangeSpec := { name := "fnFindName", fn := fun _ => fun
  | [d] => { results := [.lit (.bool false)], args := [d] }
  | _ => none }
def FnFindNameWrongFalsely : Prop := fnFindNameRow.holds Try.pinned (OpenSpec.ofChange fnFindNameWrong)

/-- 'laws.FnPutName': WHATEVER THE INPUT: true; the input reads as it did. -/
def fnPutNameSpec : ChangeSpec := { name := "fnPutName", fn := fun _ => fun
  | [d] => { results := [.lit (.bool true)], args := [d] }
  | _ => none }
def fnPutNameRow : OpenClaim := { program := "ytengcjglkcmkbaa", sum := "e5e50c1935e749effe7f7954c3ec17e57d1ea2104a21de2131aec5396c7a8149", func := "loop.example/flashfiles/laws.FnPutName", spec := "fnPutName", apart := false }
def FnPutNameSaid : Prop := fnPutNameRow.holds Try.pinned (OpenSpec.ofChange fnPutNameSpec)

/-- ITS FALSE NEIGHBOUR: 'it returns false'. Refute it at one input. -/
def fnPutNameWrong : ChangeSpec := { name := "fnPutName", fn := fun _ => fun
  | [d] => { results := [.lit (.bool false)], args := [d] }
  | _ => none }
def FnPutNameWrongFalsely : Prop := fnPutNameRow.holds Try.pinned (OpenSpec.ofChange fnPutNameWrong)

/-- 'laws.FnDropName': WHATEVER THE INPUT: true; the input reads as it did. -/
def fnDropNameSpec : ChangeSpec := { name := "fnDropName", fn := fun _ => fun
  | [d] => { results := [.lit (.bool true)], args := [d] }
  | _ => none }
def fnDropNameRow : OpenClaim := { program := "ytengcjglkcmkbaa", sum := "e5e50c1935e749effe7f7954c3ec17e57d1ea2104a21de2131aec5396c7a8149", func := "loop.example/flashfiles/laws.FnDropName", spec := "fnDropName", apart := false }
def FnDropNameSaid : Prop := fnDropNameRow.holds Try.pinned (OpenSpec.ofChange fnDropNameSpec)

/-- ITS FALSE NEIGHBOUR: 'it returns false'. Refute it at one input. -/
def fnDropNameWrong : ChangeSpec := { name := "fnDropName", fn := fun _ => fun
  | [d] => { results := [.lit (.bool false)], args := [d] }
  | _ => none }
def FnDropNameWrongFalsely : Prop := fnDropNameRow.holds Try.pinned (OpenSpec.ofChange fnDropNameWrong)

/-- 'laws.FnExactTextValid': WHATEVER THE INPUT: true; the input reads as it did. -/
def fnExactTextValidSpec : ChangeSpec := { name := "fnExactTextValid", fn := fun _ => fun
  | [d] => { results := [.lit (.bool true)], args := [d] }
  | _ => none }
def fnExactTextValidRow : OpenClaim := { program := "ytengcjglkcmkbaa", sum := "e5e50c1935e749effe7f7954c3ec17e57d1ea2104a21de2131aec5396c7a8149", func := "loop.example/flashfiles/laws.FnExactTextValid", spec := "fnExactTextValid", apart := false }
def FnExactTextValidSaid : Prop := fnExactTextValidRow.holds Try.pinned (OpenSpec.ofChange fnExactTextValidSpec)

/-- ITS FALSE NEIGHBOUR: 'it returns false'. Refute it at one input. -/
def fnExactTextValidWrong : ChangeSpec := { name := "fnExactTextValid", fn := fun _ => fun
  | [d] => { results := [.lit (.bool false)], args := [d] }
  | _ => none }
def FnExactTextValidWrongFalsely : Prop := fnExactTextValidRow.holds Try.pinned (OpenSpec.ofChange fnExactTextValidWrong)

/-- 'laws.FnExactNameBucket': WHATEVER THE INPUT: true; the input reads as it did. -/
def fnExactNameBucketSpec : ChangeSpec := { name := "fnExactNameBucket", fn := fun _ => fun
  | [d] => { results := [.lit (.bool true)], args := [d] }
  | _ => none }
def fnExactNameBucketRow : OpenClaim := { program := "ytengcjglkcmkbaa", sum := "e5e50c1935e749effe7f7954c3ec17e57d1ea2104a21de2131aec5396c7a8149", func := "loop.example/flashfiles/laws.FnExactNameBucket", spec := "fnExactNameBucket", apart := false }
def FnExactNameBucketSaid : Prop := fnExactNameBucketRow.holds Try.pinned (OpenSpec.ofChange fnExactNameBucketSpec)

/-- ITS FALSE NEIGHBOUR: 'it returns false'. Refute it at one input. -/
def fnExactNameBucketWrong : ChangeSpec := { name := "fnExactNameBucket", fn := fun _ => fun
  | [d] => { results := [.lit (.bool false)], args := [d] }
  | _ => none }
def FnExactNameBucketWrongFalsely : Prop := fnExactNameBucketRow.holds Try.pinned (OpenSpec.ofChange fnExactNameBucketWrong)

/-- 'laws.FnExactNamesValid': WHATEVER THE INPUT: true; the input reads as it did. -/
def fnExactNamesValidSpec : ChangeSpec := { name := "fnExactNamesValid", fn := fun _ => fun
  | [d] => { results := [.lit (.bool true)], args := [d] }
  | _ => none }
def fnExactNamesValidRow : OpenClaim := { program := "ytengcjglkcmkbaa", sum := "e5e50c1935e749effe7f7954c3ec17e57d1ea2104a21de2131aec5396c7a8149", func := "loop.example/flashfiles/laws.FnExactNamesValid", spec := "fnExactNamesValid", apart := false }
def FnExactNamesValidSaid : Prop := fnExactNamesValidRow.holds Try.pinned (OpenSpec.ofChange fnExactNamesValidSpec)

/-- ITS FALSE NEIGHBOUR: 'it returns false'. Refute it at one input. -/
def fnExactNamesValidWrong : ChangeSpec := { name := "fnExactNamesValid", fn := fun _ => fun
  | [d] => { results := [.lit (.bool false)], args := [d] }
  | _ => none }
def FnExactNamesValidWrongFalsely : Prop := fnExactNamesValidRow.holds Try.pinned (OpenSpec.ofChange fnExactNamesValidWrong)

/-- 'laws.FnExactFindName': WHATEVER THE INPUT: true; the input reads as it did. -/
def fnExactFindNameSpec : ChangeSpec := { name := "fnExactFindName", fn := fun _ => fun
  | [d1, d2] => { results := [.lit (.bool true)], args := [d1, d2] }
  | _ => none }
def fnExactFindNameRow : OpenClaim := { program := "ytengcjglkcmkbaa", sum := "e5e50c1935e749effe7f7954c3ec17e57d1ea2104a21de2131aec5396c7a8149", func := "loop.example/flashfiles/laws.FnExactFindName", spec := "fnExactFindName", apart := false }
def FnExactFindNameSaid : Prop := fnExactFindNameRow.holds Try.pinned (OpenSpec.ofChange fnExactFindNameSpec)

/-- ITS FALSE NEIGHBOUR: 'it returns false'. Refute it at one input. -/
def fnExactFindNameWrong : ChangeSpec := { name := "fnExactFindName", fn := fun _ => fun
  | [d1, d2] => { results := [.lit (.bool false)], args := [d1, d2] }
  | _ => none }
def FnExactFindNameWrongFalsely : Prop := fnExactFindNameRow.holds Try.pinned (OpenSpec.ofChange fnExactFindNameWrong)

/-- 'laws.FnExactPutName': WHATEVER THE INPUT: true; the input reads as it did. -/
def fnExactPutNameSpec : ChangeSpec := { name := "fnExactPutName", fn := fun _ => fun
  | [d1, d2] => { results := [.lit (.bool true)], args := [d1, d2] }
  | _ => none }
def fnExactPutNameRow : OpenClaim := { program := "ytengcjglkcmkbaa", sum := "e5e50c1935e749effe7f7954c3ec17e57d1ea2104a21de2131aec5396c7a8149", func := "loop.example/flashfiles/laws.FnExactPutName", spec := "fnExactPutName", apart := false }
def FnExactPutNameSaid : Prop := fnExactPutNameRow.holds Try.pinned (OpenSpec.ofChange fnExactPutNameSpec)

/-- ITS FALSE NEIGHBOUR: 'it returns false'. Refute it at one input. -/
def fnExactPutNameWrong : ChangeSpec := { name := "fnExactPutName", fn := fun _ => fun
  | [d1, d2] => { results := [.lit (.bool false)], args := [d1, d2] }
  | _ => none }
def FnExactPutNameWrongFalsely : Prop := fnExactPutNameRow.holds Try.pinned (OpenSpec.ofChange fnExactPutNameWrong)

/-- 'laws.FnExactDropName': WHATEVER THE INPUT: true; the input reads as it did. -/
def fnExactDropNameSpec : ChangeSpec := { name := "fnExactDropName", fn := fun _ => fun
  | [d1, d2] => { results := [.lit (.bool true)], args := [d1, d2] }
  | _ => none }
def fnExactDropNameRow : OpenClaim := { program := "ytengcjglkcmkbaa", sum := "e5e50c1935e749effe7f7954c3ec17e57d1ea2104a21de2131aec5396c7a8149", func := "loop.example/flashfiles/laws.FnExactDropName", spec := "fnExactDropName", apart := false }
def FnExactDropNameSaid : Prop := fnExactDropNameRow.holds Try.pinned (OpenSpec.ofChange fnExactDropNameSpec)

/-- ITS FALSE NEIGHBOUR: 'it returns false'. Refute it at one input. -/
def fnExactDropNameWrong : ChangeSpec := { name := "fnExactDropName", fn := fun _ => fun
  | [d1, d2] => { results := [.lit (.bool false)], args := [d1, d2] }
  | _ => none }
def FnExactDropNameWrongFalsely : Prop := fnExactDropNameRow.holds Try.pinned (OpenSpec.ofChange fnExactDropNameWrong)

/- THE SECOND FORM. 'bulk': how many values and letters a reading holds, each counted each time it is reached (what is shared counts as often as it is met; a slice's spare places count too). A statement '..UptoSaid' is the law's where the arguments, and the package variables that the reading takes, are together of bulk at most 1048576: NARROWER than '..Said'. Prove '..Said' where nothing that the law and all that it calls make is longer than what came in: it says more and counts as full. Else prove '..UptoSaid'. A law counts once. -/
mutual
def uptoBulk {H : Type} : DataW H → Nat
  | .lit (.string bytes) => bytes.length + 1
  | .lit _ => 1
  | .nil => 1
  | .ptr d => uptoBulk d + 1
  | .slice elems spare => uptoBulkAll elems + uptoBulkAll spare + 1
  | .agg parts => uptoBulkAll parts + 1
  | .iface _ d => uptoBulk d + 1
  | .map entries => uptoBulkEntries entries + 1
  | .held _ => 1
def uptoBulkAll {H : Type} : List (DataW H) → Nat
  | [] => 0
  | d :: r => uptoBulk d + uptoBulkAll r
def uptoBulkEntries {H : Type} : List (Lit × DataW H) → Nat
  | [] => 0
  | x :: r => uptoBulkEntry x + uptoBulkEntries r
def uptoBulkEntry {H : Type} : Lit × DataW H → Nat
  | (.string bytes, d) => bytes.length + uptoBulk d + 1
  | (_, d) => uptoBulk d + 1
 end
def uptoSmall : (H : Type) → List (DataW H) → Bool := fun _ ds => decide (uptoBulkAll ds ≤ 1048576)
def OpenSpec.upto (s : _root_.Go.ChangeSpec) : _root_.Go.OpenSpec := { _root_.Go.OpenSpec.ofChange s with cond := some uptoSmall }

/-- 'laws.FnTextValid', WHERE WHAT IT READS IS OF BULK AT MOST 1048576: true; the input reads as it did. -/
def fnTextValidUptoRow : OpenClaim := { program := "ytengcjglkcmkbaa", sum := "e5e50c1935e749effe7f7954c3ec17e57d1ea2104a21de2131aec5396c7a8149", func := "loop.example/flashfiles/laws.FnTextValid", spec := "fnTextValid", apart := false, narrowed := true }
def FnTextValidUptoSaid : Prop := fnTextValidUptoRow.holds Try.pinned (OpenSpec.upto fnTextValidSpec)

/-- 'laws.FnNameBucket', WHERE WHAT IT READS IS OF BULK AT MOST 1048576: true; the input reads as it did. -/
def fnNameBucketUptoRow : OpenClaim := { program := "ytengcjglkcmkbaa", sum := "e5e50c1935e749effe7f7954c3ec17e57d1ea2104a21de2131aec5396c7a8149", func := "loop.example/flashfiles/laws.FnNameBucket", spec := "fnNameBucket", apart := false, narrowed := true }
def FnNameBucketUptoSaid : Prop := fnNameBucketUptoRow.holds Try.pinned (OpenSpec.upto fnNameBucketSpec)

/-- 'laws.FnNamesValid', WHERE WHAT IT READS IS OF BULK AT MOST 1048576: true; the input reads as it did. -/
def fnNamesValidUptoRow : OpenClaim := { program := "ytengcjglkcmkbaa", sum := "e5e50c1935e749effe7f7954c3ec17e57d1ea2104a21de2131aec5396c7a8149", func := "loop.example/flashfiles/laws.FnNamesValid", spec := "fnNamesValid", apart := false, narrowed := true }
def FnNamesValidUptoSaid : Prop := fnNamesValidUptoRow.holds Try.pinned (OpenSpec.upto fnNamesValidSpec)

/-- 'laws.FnFindName', WHERE WHAT IT READS IS OF BULK AT MOST 1048576: true; the input reads as it did. -/
def fnFindNameUptoRow : OpenClaim := { program := "ytengcjglkcmkbaa", sum := "e5e50c1935e749effe7f7954c3ec17e57d1ea2104a21de2131aec5396c7a8149", func := "loop.example/flashfiles/laws.FnFindName", spec := "fnFindName", apart := false, narrowed := true }
def FnFindNameUptoSaid : Prop := fnFindNameUptoRow.holds Try.pinned (OpenSpec.upto fnFindNameSpec)

/-- 'laws.FnPutName', WHERE WHAT IT READS IS OF BULK AT MOST 1048576: true; the input reads as it did. -/
def fnPutNameUptoRow : OpenClaim := { program := "ytengcjglkcmkbaa", sum := "e5e50c1935e749effe7f7954c3ec17e57d1ea2104a21de2131aec5396c7a8149", func := "loop.example/flashfiles/laws.FnPutName", spec := "fnPutName", apart := false, narrowed := true }
def FnPutNameUptoSaid : Prop := fnPutNameUptoRow.holds Try.pinned (OpenSpec.upto fnPutNameSpec)

/-- 'laws.FnDropName', WHERE WHAT IT READS IS OF BULK AT MOST 1048576: true; the input reads as it did. -/
def fnDropNameUptoRow : OpenClaim := { program := "ytengcjglkcmkbaa", sum := "e5e50c1935e749effe7f7954c3ec17e57d1ea2104a21de2131aec5396c7a8149", func := "loop.example/flashfiles/laws.FnDropName", spec := "fnDropName", apart := false, narrowed := true }
def FnDropNameUptoSaid : Prop := fnDropNameUptoRow.holds Try.pinned (OpenSpec.upto fnDropNameSpec)

/-- 'laws.FnExactTextValid', WHERE WHAT IT READS IS OF BULK AT MOST 1048576: true; the input reads as it did. -/
def fnExactTextValidUptoRow : OpenClaim := { program := "ytengcjglkcmkbaa", sum := "e5e50c1935e749effe7f7954c3ec17e57d1ea2104a21de2131aec5396c7a8149", func := "loop.example/flashfiles/laws.FnExactTextValid", spec := "fnExactTextValid", apart := false, narrowed := true }
def FnExactTextValidUptoSaid : Prop := fnExactTextValidUptoRow.holds Try.pinned (OpenSpec.upto fnExactTextValidSpec)

/-- 'laws.FnExactNameBucket', WHERE WHAT IT READS IS OF BULK AT MOST 1048576: true; the input reads as it did. -/
def fnExactNameBucketUptoRow : OpenClaim := { program := "ytengcjglkcmkbaa", sum := "e5e50c1935e749effe7f7954c3ec17e57d1ea2104a21de2131aec5396c7a8149", func := "loop.example/flashfiles/laws.FnExactNameBucket", spec := "fnExactNameBucket", apart := false, narrowed := true }
def FnExactNameBucketUptoSaid : Prop := fnExactNameBucketUptoRow.holds Try.pinned (OpenSpec.upto fnExactNameBucketSpec)

/-- 'laws.FnExactNamesValid', WHERE WHAT IT READS IS OF BULK AT MOST 1048576: true; the input reads as it did. -/
def fnExactNamesValidUptoRow : OpenClaim := { program := "ytengcjglkcmkbaa", sum := "e5e50c1935e749effe7f7954c3ec17e57d1ea2104a21de2131aec5396c7a8149", func := "loop.example/flashfiles/laws.FnExactNamesValid", spec := "fnExactNamesValid", apart := false, narrowed := true }
def FnExactNamesValidUptoSaid : Prop := fnExactNamesValidUptoRow.holds Try.pinned (OpenSpec.upto fnExactNamesValidSpec)

/-- 'laws.FnExactFindName', WHERE WHAT IT READS IS OF BULK AT MOST 1048576: true; the input reads as it did. -/
def fnExactFindNameUptoRow : OpenClaim := { program := "ytengcjglkcmkbaa", sum := "e5e50c1935e749effe7f7954c3ec17e57d1ea2104a21de2131aec5396c7a8149", func := "loop.example/flashfiles/laws.FnExactFindName", spec := "fnExactFindName", apart := false, narrowed := true }
def FnExactFindNameUptoSaid : Prop := fnExactFindNameUptoRow.holds Try.pinned (OpenSpec.upto fnExactFindNameSpec)

/-- 'laws.FnExactPutName', WHERE WHAT IT READS IS OF BULK AT MOST 1048576: true; the input reads as it did. -/
def fnExactPutNameUptoRow : OpenClaim := { program := "ytengcjglkcmkbaa", sum := "e5e50c1935e749effe7f7954c3ec17e57d1ea2104a21de2131aec5396c7a8149", func := "loop.example/flashfiles/laws.FnExactPutName", spec := "fnExactPutName", apart := false, narrowed := true }
def FnExactPutNameUptoSaid : Prop := fnExactPutNameUptoRow.holds Try.pinned (OpenSpec.upto fnExactPutNameSpec)

/-- 'laws.FnExactDropName', WHERE WHAT IT READS IS OF BULK AT MOST 1048576: true; the input reads as it did. -/
def fnExactDropNameUptoRow : OpenClaim := { program := "ytengcjglkcmkbaa", sum := "e5e50c1935e749effe7f7954c3ec17e57d1ea2104a21de2131aec5396c7a8149", func := "loop.example/flashfiles/laws.FnExactDropName", spec := "fnExactDropName", apart := false, narrowed := true }
def FnExactDropNameUptoSaid : Prop := fnExactDropNameUptoRow.holds Try.pinned (OpenSpec.upto fnExactDropNameSpec)

end Rows
end Go.Proofs.Ytengcjglkcmkbaa
