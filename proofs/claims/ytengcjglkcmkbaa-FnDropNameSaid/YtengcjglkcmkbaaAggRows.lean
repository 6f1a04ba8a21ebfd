/- A slice of pages that came in (the laws' own type): its cells, page by page. -/
import Derived.Test.YtengcjglkcmkbaaAgg
import Derived.Test.YtengcjglkcmkbaaRows5
namespace Go.Proofs.Ytengcjglkcmkbaa
open Go.ChangeShapes Go.WideShapes Go.Deep

/-- What a walk is told of a slice of pages that came in. -/
def IsPages (w : World) (A : Option Addr) (n c : Nat) (ps : List Pg) : Prop := ps.length = n ∧ n ≤ c ∧ c ≤ maxLen ∧ Row w w.heap.size A ps
theorem list2 {α : Type} {l : List α} (h : l.length = 2) : ∃ a b, l = [a, b] := by
  match l, h with
  | [a, b], _ => exact ⟨a, b, rfl⟩
theorem all_of {Q : Nat → Pg → Prop} (n : Nat) (h : ∀ i, i < n → ∃ p, Q i p) : ∃ ps : List Pg, ps.length = n ∧ ∀ i p, ps[i]? = some p → Q i p := by
  induction n with
  | zero => exact ⟨[], rfl, fun i p hp => by simp at hp⟩
  | succ n ih =>
    obtain ⟨ps, hl, hq⟩ := ih fun i hi => h i (by omega)
    obtain ⟨p, hp⟩ := h n (by omega)
    refine ⟨ps ++ [p], by simp [hl], fun i q hi => ?_⟩
    rcases Nat.lt_trichotomy i n with h1 | h1 | h1
    · rw [List.getElem?_append_left (by omega)] at hi
      exact hq i q hi
    · subst h1
      rw [List.getElem?_append_right (by omega), hl, Nat.sub_self] at hi
      simp at hi
      rw [← hi]; exact hp
    · rw [List.getElem?_eq_none (by simp; omega)] at hi
      cases hi
section
variable {H : Type} {enc : TypeId × Value → H} {w : World} {base : Nat} {spare : Nat → Bool} {held : Bool}
end
end Go.Proofs.Ytengcjglkcmkbaa
