/- What the laws of chapter 10 on drawn names want: a name before names, names told apart by their number. -/
import Derived.Test.YtengcjglkcmkbaaDrawNames
import Derived.Test.YtengcjglkcmkbaaNameLaw
namespace Go.Proofs.Ytengcjglkcmkbaa
open Go.ChangeShapes Go.WideShapes Go.ChangeAt Go.RowKit
set_option linter.unusedVariables false

/-- append of known run, in an operation whose guard is met. -/
theorem wpList_append_runG {P : Program} (w : World) {ops : Array Oper} {rest : List Oper} {o : Oper} {a : Act} {Q : Exit → Act → World → Prop} (hw : Region.wanted o (yielded ops a.tmps) = true) (d s : Operand) (t t' : TypeId)
    (ho : o.op = .call { callee := .builtin .append, args := #[d, s], argTypes := #[t, t'] }) (v u : Value) (hd : a.eval d = v) (hs : a.eval s = u) {v' : Value} {w' : World}
    (hr : ∀ ty, (Builtin.append_ #[t, t'] ty #[v, u]).run P w = .ok v' w') (h : wpList P ops Q rest (a.put o.dst v') w') : wpList P ops Q (o :: rest) a w :=
  wpList_step fun K hK => by simp only [hw, if_true]; exact wp_append_run w d s t t' ho v u hd hs hr (hK _ _ h)
/-- append([]Name{p}, list...): nothing that was there is written. -/
theorem append_firstN (a : ByteArray) (b : Int) {w : World} {A : Option Addr} {n c : Nat} {ps : List Nm} (hl : ps.length = n) (hr : NRow w w.heap.size A ps) (hn : n ≤ 1000) :
    ∃ (A' : Option Addr) (c' : Nat) (w' : World), (∀ ty, (Builtin.append_ #[28, 28] ty #[.slice (some ⟨w.heap.size, 0, none⟩) 1 1, .slice A n c]).run Try.prog (w.alloc (.cells #[.string a, .int .i64 b] 32)) = .ok (.slice A' (n + 1) c') w') ∧
      NRow w' w'.heap.size A' (⟨a, b⟩ :: ps) ∧ w.grownBy w' none := by
  have ho := nown_lit1 w w.heap.size 32 a b (Nat.le_refl _)
  have hr1 := hr.alloc (.cells #[.string a, .int .i64 b] 32)
  obtain ⟨v', w', hrun, h2, hg, _⟩ := append_nameK (w.alloc (.cells #[.string a, .int .i64 b] 32)) w.heap.size _ A _ n c [⟨a, b⟩] ps ho hr1 hl (by simp; omega) (by simp only [size_alloc1]; omega)
  obtain ⟨A', c', e⟩ := h2.slice
  rw [List.length_append] at e
  simp only [List.length_cons, List.length_nil, hl] at e
  rw [show 0 + 1 + n = n + 1 by omega] at e
  subst e
  exact ⟨A', c', w', hrun, h2.row, grown_ownK (grown_alloc (grown_refl w none) _) hg (fun g e => (NOwn.lt ho g e).1)⟩
theorem sameNames_len (A A' : Option Addr) (n n' c c' : Nat) (w : World) (hn : n ≠ n') :
    Calls Try.prog 31 #[.slice A n c, .slice A' n' c'] w (KeptV (.bool false) w) := by
  have e1 : ((n : Int) != (n' : Int)) = true := by
    rw [bne_iff_ne]
    intro h
    exact hn (by omega)
  go_enter Try.func31, Try.ntmps31
  go_wp2
  go_ret
  exact ⟨rfl, grown_refl _ _⟩
/-- Names that are either these or none at all. -/
theorem sameNames_or (A A' : Option Addr) (n m c c' : Nat) (ps X : List Nm) (w : World) (hl : ps.length = n) (hX : X.length = m) (h : X = ps ∨ X = []) (hr : NRow w w.heap.size A X) (hr' : NRow w w.heap.size A' ps) (hn : n ≤ 1048576) :
    Calls Try.prog 31 #[.slice A m c, .slice A' n c'] w fun e w' => ∃ q : Bool, e = .returned (.bool q) ∧ (q = true ∨ m = 0) ∧ w.grownBy w' none := by
  by_cases hm : m = n
  · subst hm
    rcases h with rfl | rfl
    · refine (sameNames_same _ _ _ _ _ _ _ hl hr hr' hn).mono ?_
      rintro e w' ⟨rfl, hk⟩
      exact ⟨true, rfl, .inl rfl, hk⟩
    · simp at hX
      subst hX
      have e := List.eq_nil_of_length_eq_zero hl
      subst e
      refine (sameNames_same _ _ _ _ _ _ _ rfl hr hr' hn).mono ?_
      rintro e w' ⟨rfl, hk⟩
      exact ⟨true, rfl, .inl rfl, hk⟩
  · refine (sameNames_len A A' m n c c' w hm).mono ?_
    rintro e w' ⟨rfl, hk⟩
    refine ⟨false, rfl, .inr ?_, hk⟩
    rcases h with rfl | rfl
    · exact absurd (hX.symm.trans hl) hm
    · exact hX.symm
theorem Shorts.tail {p : Nm} {r : List Nm} (h : Shorts (p :: r)) : Shorts r := fun k q hq => h (k + 1) q (by simpa using hq)
theorem Shorts.twice {p : Nm} {r : List Nm} (h : Shorts (p :: r)) : Shorts (p :: p :: r) := fun k q hq => by
  cases k with
  | zero => exact h 0 q hq
  | succ k => exact h k q (by simpa using hq)
theorem Shorts.out {ps : List Nm} {s : ByteArray} (h : Shorts ps) : Shorts (dropNms ps s) := fun k q hq => by
  have h1 := List.mem_of_getElem? hq
  unfold dropNms at h1
  split at h1
  · obtain ⟨j, hj⟩ := List.getElem?_of_mem (List.mem_filter.1 h1).1
    exact h j q hj
  · cases h1
end Go.Proofs.Ytengcjglkcmkbaa
