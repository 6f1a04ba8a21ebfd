/- What the exact laws of chapter 7 carry along: a table that came in, tables in variables of the call's own.
   What the exact law of TableOf carries along: tables and devices side by side. -/
import Derived.Test.YtolpnloghogjjaaGreatZExactInts
import Derived.Test.YtolpnloghogjjaaGreatZTables7
import Derived.Test.YtolpnloghogjjaaGreatZExactDev3
namespace Go.Proofs.YtolpnloghogjjaaGreat
open Go.ChangeShapes Go.WideShapes Go.ChangeAt Go.RowKit Go.Deep
set_option linter.unusedVariables false

section
variable {H : Type} {enc : TypeId × Value → H} {w : World} {base : Nat} {spare : Nat → Bool} {held : Bool}
end
section
variable {w wr w' : World} {A Ax : Option Addr} {V Vx n c nx cx lo hi lox hix : Nat} {ls cs : List Li}
end
/-- What TablePut answers, by letters. -/
def TPutIs (xss : List (List Int)) (f k x : Int) (l1 : List (List Int)) (r : Bool) : Prop := tputV xss f k x = (l1, r)
theorem TPutIs.of {xss yss : List (List Int)} {f k x : Int} {l1 : List (List Int)} {r : Bool} (h : TPutIs xss f k x l1 r) (e : yss = xss) : TPutIs yss f k x l1 r := e ▸ h
/-- A table of so many lists, in memory of its own, and whether it is possible. -/
def TabMadeN (xss : List (List Int)) (n : Nat) (r : Bool) (w : World) (e : Ending) (w' : World) : Prop :=
  ∃ (A : Option Addr) (c : Nat) (cs : List Li), e = .returned (.tuple #[.agg #[.slice A n c], .bool r]) ∧ cs.length = n ∧ ll cs = xss ∧ TOwn w' w.heap.size (.slice A n c) cs ∧ w.grownBy w' none
theorem TabMade2.to {xss : List (List Int)} {n : Nat} {r : Bool} {w w' : World} {e : Ending} (h : TabMade2 xss r w e w') (hl : xss.length = n) : TabMadeN xss n r w e w' := by
  obtain ⟨A, m, c, cs, h1, h2, h3, h4⟩ := h
  obtain rfl : m = n := by rw [← h2, ← hl, ← h3, ll_length]
  exact ⟨A, c, cs, h1, h2, h3, h4⟩
section
variable {w : World} {A A' : Option Addr} {n c n' c' n1 : Nat} {ls ls' : List Li} {f k x : Int} {l1 : List (List Int)} {r : Bool} {V : Int}
theorem tablePut_val (h : TPutIs (ll ls) f k x l1 r) (h1 : l1.length = n1) (hl : ls.length = n) (hr : TRow w w.heap.size A ls) (hn : n ≤ 1048576) (hp : ∀ l, l ∈ ls → l.xs.length ≤ 1048576) :
    Calls Tryz.prog 114 #[.agg #[.slice A n c], .int .i64 f, .int .i64 k, .int .i64 x] w (TabMadeN l1 n1 r w) := by
  have e := tablePut_any A n c ls f k x w hl hr hn hp
  unfold TPutIs at h
  rw [h] at e
  exact e.mono fun _ _ q => q.to h1
end
end Go.Proofs.YtolpnloghogjjaaGreat
namespace Go.Proofs.YtolpnloghogjjaaGreat
open Go.ChangeShapes Go.WideShapes Go.ChangeAt Go.RowKit

theorem ltot_few {l : List (List Int)} {m : Nat} (hl : l.length = m) (hm : m ≤ 8) (h6 : ∀ xs, xs ∈ l → xs.length = 6) : ltot l ≤ 1048576 := by
  have : ∀ l : List (List Int), (∀ xs, xs ∈ l → xs.length = 6) → ltot l = 6 * l.length := by
    intro l hl
    induction l with
    | nil => rfl
    | cons p r ih =>
      have h1 := ih fun xs hx => hl xs (by simp [hx])
      have h2 := hl p (by simp)
      simp only [ltot, List.map_cons, List.sum_cons, List.length_cons] at h1 ⊢
      omega
  rw [this l h6, hl]
  omega
end Go.Proofs.YtolpnloghogjjaaGreat
