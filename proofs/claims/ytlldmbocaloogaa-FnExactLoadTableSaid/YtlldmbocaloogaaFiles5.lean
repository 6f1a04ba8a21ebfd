/- What the program's FileSize, FileHoles and CutFile answer.
   What the program's FileValues answers. -/
import Derived.Test.YtlldmbocaloogaaFiles
import Derived.Test.YtlldmbocaloogaaTables7
import Derived.Test.YtlldmbocaloogaaDevices6
import Derived.Test.YtlldmbocaloogaaHand
namespace Go.Proofs.Ytlldmbocaloogaa
open Go.ChangeShapes Go.WideShapes Go.ChangeAt Go.RowKit
set_option linter.unusedVariables false

theorem tab_hole {xss : List (List Int)} {f k : Nat} {xs : List Int} {x : Int} (hv : tabB xss = true) (hx : xss[f]? = some xs) (hk : xs[k]? = some x) (h0 : ¬ 0 ≤ x) : x = -1 := by
  have := ((tabB_iff _).1 hv).inb f k x (cellO_of hx hk)
  omega
end Go.Proofs.Ytlldmbocaloogaa
namespace Go.Proofs.Ytlldmbocaloogaa
open Go.ChangeShapes Go.WideShapes Go.ChangeAt Go.RowKit Go.Deep
set_option linter.unusedVariables false

/-- A page is told, and whether it is written, of a file and a place. -/
def OwnRead (p : Pg) (f k : Int) (w : World) (e : Ending) (w' : World) : Prop := e = .returned (.tuple #[.agg #[.bool p.f, .int .i64 p.a, .int .i64 p.b, .int .i64 p.c, .int .i64 p.d], .bool (p.f && (p.a == f) && (p.b == k))]) ∧ w.grownBy w' none
theorem ext_vals {l : List Int} {z k : Nat} (hl : l.length = k) (hk : k < z) (v : Int) : (l ++ List.replicate (z - k) 0).set k v = (l ++ [v]) ++ List.replicate (z - (k + 1)) 0 := by
  rw [List.set_append_right _ _ (by omega), hl, Nat.sub_self, show z - k = (z - (k + 1)) + 1 by omega, List.replicate_succ, List.set_cons_zero, List.append_assoc]
  rfl
theorem ext_hole {l : List Int} {z k : Nat} (hk : k < z) : l ++ List.replicate (z - k) (0 : Int) = (l ++ [0]) ++ List.replicate (z - (k + 1)) 0 := by
  rw [show z - k = (z - (k + 1)) + 1 by omega, List.replicate_succ, List.append_assoc]
  rfl
/-- No numbers. -/
theorem imade2_none {w w' : World} (h : w.grownBy w' none) : IMade2 [] false w (.returned (.tuple #[.slice none 0 0, .bool false])) w' := ⟨none, 0, 0, rfl, rfl, World.ownsRow_nil _ _ _ _, h⟩
end Go.Proofs.Ytlldmbocaloogaa
