/- What chapter 11's functions answer: the program's and the model's. -/
import Derived.Test.YtofolifmgpgkoaaSmallPlain
import Derived.Test.YtofolifmgpgkoaaLawFiles
import Derived.BigQuiet
namespace Go.Proofs.Ytofolifmgpgkoaa
open Go.ChangeShapes Go.WideShapes Go.ChangeAt Go.RowKit
set_option linter.unusedVariables false

/-- append([]int{x}, xs...): nothing that was there is written. -/
theorem cons_ints {w : World} {A : Option Addr} {n c : Nat} {xs : List Int} (x : Int) (hl : xs.length = n) (hr : IRow w w.heap.size A xs) (hn : n ≤ 1000000) :
    ∃ (A' : Option Addr) (c' : Nat) (w' : World), (∀ ty, (Builtin.append_ #[30, 30] ty #[.slice (some ⟨w.heap.size, 0, none⟩) 1 1, .slice A n c]).run Try.prog (w.alloc (.cells #[.int .i64 x] 3)) = .ok (.slice A' (n + 1) c') w') ∧
      IOwn w' w.heap.size (.slice A' (n + 1) c') (x :: xs) ∧ w.grownBy w' none := by
  have ho : IOwn (w.alloc (.cells #[.int .i64 x] 3)) w.heap.size (.slice (some ⟨w.heap.size, 0, none⟩) 1 1) [x] := vown_lit w w.heap.size 3 (iv [x]) (Nat.le_refl _) (by simp [iv, maxLen])
  have hr1 := VRow.alloc hr (.cells #[.int .i64 x] 3)
  rcases Nat.eq_zero_or_pos n with rfl | hpos
  · rw [List.eq_nil_of_length_eq_zero hl]
    exact ⟨_, _, _, appendInts_none _ w.heap.size _ _ A c _ ho, ho, grown_alloc (grown_refl _ _) _⟩
  · obtain ⟨v', w', hrun, h2, hg, _⟩ := append_ints _ w.heap.size _ 1 A _ n c xs (iv [x]) ho hr1 hl hpos (by omega) (by simp only [size_alloc1]; omega)
    have h3 : IOwn w' w.heap.size v' (x :: xs) := by
      unfold IOwn VOwn
      rw [iv_length, show x :: xs = [x] ++ xs from rfl, iv_append, List.length_append, hl]
      exact h2
    obtain ⟨A', c', e⟩ := IOwn.slice h3
    rw [List.length_cons, hl] at e
    subst e
    exact ⟨A', c', w', hrun, h3, grown_joinR (grown_alloc (grown_refl w none) _) hg (fun g e => (VOwn.lt ho g e).1)⟩
theorem set_drop {ys : List Int} {p : Nat} (h : p < ys.length) (d : Int) : (ys.set p d).drop p = d :: ys.drop (p + 1) := by
  rw [List.drop_eq_getElem_cons (by rw [List.length_set]; exact h), List.getElem_set_self, List.drop_set_of_lt (by omega)]
/-- The model's inner loop: k of the number's last digits so far, in a row of the call's own. -/
def UIn (w : World) (n : Int) (k : Nat) (u : Value) (wr : World) : Prop := IOwn wr w.heap.size u (smDig n k) ∧ w.grownBy wr none
end Go.Proofs.Ytofolifmgpgkoaa
