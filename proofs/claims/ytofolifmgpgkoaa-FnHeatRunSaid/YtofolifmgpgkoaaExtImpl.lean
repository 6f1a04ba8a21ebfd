/- What the program's functions of chapter 9 answer. -/
import Derived.Test.YtofolifmgpgkoaaExts
import Derived.Test.YtofolifmgpgkoaaHand
import Derived.BigQuiet
namespace Go.Proofs.Ytofolifmgpgkoaa
open Go.ChangeShapes Go.WideShapes Go.ChangeAt Go.RowKit
set_option linter.unusedVariables false
set_option linter.unusedSimpArgs false

theorem exOk_nums {p : Pr} (h : exOk p = true) : (0 ≤ p.a ∧ p.a ≤ 1000000) ∧ 1 ≤ p.b ∧ p.b ≤ 1048576 := by
  simp only [exOk, Bool.and_eq_true] at h
  have h1 := inB_iff.1 h.1
  have h2 := inB_iff.1 h.2
  omega
theorem exAdd_last (out : List Pr) (x : Int) : (out = [] ∧ exAdd out x = [⟨x, 1⟩]) ∨ (∃ r l, out = r ++ [l] ∧ joinB l x = true ∧ exAdd out x = r ++ [⟨l.a, l.b + 1⟩]) ∨ (∃ r l, out = r ++ [l] ∧ joinB l x = false ∧ exAdd out x = out ++ [⟨x, 1⟩]) := by
  rcases Nat.eq_zero_or_pos out.length with h0 | h0
  · have e := List.eq_nil_of_length_eq_zero h0
    subst e
    exact .inl ⟨rfl, rfl⟩
  · obtain ⟨m, hm⟩ : ∃ m, out.length = m + 1 := ⟨out.length - 1, by omega⟩
    obtain ⟨r, l, e, hr, hl⟩ := list_last hm
    cases hj : joinB l x
    · exact .inr (.inr ⟨r, l, e, hj, exAdd_new hm hl hj⟩)
    · exact .inr (.inl ⟨r, l, e, hj, by rw [exAdd_join hm hl hj, e, set_last hr]⟩)
/-- What is valid with one more is valid without it. -/
theorem ext_front {r q : List Pr} (h : extB (r ++ q) = true) : extB r = true := by
  refine ext_of (by have := (ext_steps h).2; rw [List.length_append] at this; omega) (fun k p hp => ?_) (fun k p q hp hq => ?_)
  · have hk := (List.getElem?_eq_some_iff.1 hp).1
    exact exStep_ok (ps := r ++ _) (by rw [List.getElem?_append_left hk]; exact hp) ((ext_steps h).1 k (by rw [List.length_append]; omega))
  · have hk := (List.getElem?_eq_some_iff.1 hp).1
    exact ext_sep h (k := k) (by rw [List.getElem?_append_left hk]; exact hp) (by rw [List.getElem?_append_left (by omega)]; exact hq)
theorem ext_less {r : List Pr} {l : Pr} (h : extB (r ++ [⟨l.a, l.b + 1⟩]) = true) (h1 : 1 ≤ l.b) : extB (r ++ [l]) = true := by
  have hlen : (r ++ [l]).length = (r ++ [(⟨l.a, l.b + 1⟩ : Pr)]).length := by simp
  refine ext_of (by rw [hlen]; exact (ext_steps h).2) (fun k p hp => ?_) (fun k p q hp hq => ?_)
  · have hk := (List.getElem?_eq_some_iff.1 hp).1
    rw [List.length_append, List.length_singleton] at hk
    rcases Nat.lt_or_ge k r.length with h2 | h2
    · rw [List.getElem?_append_left h2] at hp
      exact exStep_ok (ps := r ++ _) (by rw [List.getElem?_append_left h2]; exact hp) ((ext_steps h).1 k (by rw [List.length_append]; omega))
    · obtain rfl : k = r.length := by omega
      rw [List.getElem?_append_right (Nat.le_refl _), Nat.sub_self] at hp
      injection hp with hp
      subst hp
      have h3 := ext_ok h (k := r.length) (p := ⟨l.a, l.b + 1⟩) (by rw [List.getElem?_append_right (Nat.le_refl _), Nat.sub_self]; rfl)
      dsimp only at h3
      simp only [exOk, Bool.and_eq_true]
      exact ⟨inB_iff.2 (by omega), inB_iff.2 (by omega)⟩
  · have hk := (List.getElem?_eq_some_iff.1 hp).1
    rw [List.length_append, List.length_singleton] at hk
    rw [List.getElem?_append_left (by omega)] at hq
    rcases Nat.lt_or_ge (k + 1) r.length with h2 | h2
    · rw [List.getElem?_append_left h2] at hp
      exact ext_sep h (k := k) (by rw [List.getElem?_append_left h2]; exact hp) (by rw [List.getElem?_append_left (by omega)]; exact hq)
    · have e : r.length = k + 1 := by omega
      rw [List.getElem?_append_right h2, e, Nat.sub_self] at hp
      injection hp with hp
      subst hp
      exact ext_sep h (k := k) (p := ⟨l.a, l.b + 1⟩) (by rw [List.getElem?_append_right h2, e, Nat.sub_self]; rfl) (by rw [List.getElem?_append_left (by omega)]; exact hq)
theorem exTo_back {xs : List Int} {k : Nat} (hk : k < xs.length) (h : extB (exTo xs (k + 1)) = true) : extB (exTo xs k) = true := by
  have hx := List.getElem?_eq_getElem hk
  rw [exTo_step hx] at h
  have hi := exInv (xs := xs) k (by omega)
  rcases exAdd_last (exTo xs k) xs[k] with ⟨e, _⟩ | ⟨r, l, e, _, e2⟩ | ⟨r, l, e, _, e2⟩
  · rw [e]; rfl
  · rw [e2] at h
    rw [e]
    exact ext_less h (hi.pos l (by rw [e]; simp)).1
  · rw [e2] at h
    exact ext_front h
theorem exTo_back' {xs : List Int} {k : Nat} : ∀ m, k + m ≤ xs.length → extB (exTo xs (k + m)) = true → extB (exTo xs k) = true
  | 0, _, h => h
  | m + 1, hm, h => exTo_back' m (by omega) (exTo_back (k := k + m) (by omega) h)
theorem exOf_bad {xs : List Int} {k : Nat} (hk : k ≤ xs.length) (h : extB (exTo xs k) = false) : exOfV xs = ([], false) := by
  have h2 : extB (exTo xs xs.length) = false := by
    cases hb : extB (exTo xs xs.length) with
    | false => rfl
    | true =>
      have := exTo_back' (xs := xs) (k := k) (xs.length - k) (by omega) (by rw [show k + (xs.length - k) = xs.length by omega]; exact hb)
      rw [h] at this
      cases this
  unfold exOfV
  rw [h2]
  rfl
/-- Behind a valid extent a number goes on exactly if it is the sum. -/
theorem join_ok {a b x : Int} (h : exOk ⟨a, b⟩ = true) : joinB ⟨a, b⟩ x = (x == a + b) := by
  simp only [exOk, Bool.and_eq_true] at h
  have h1 := inB_iff.1 h.1
  have h2 := inB_iff.1 h.2
  unfold joinB
  cases hx : (x == a + b)
  · rfl
  · rw [beq_iff_eq] at hx
    simp only [Bool.true_and]
    exact inB_iff.2 (by omega)
theorem VOwn.off {w : World} {base V : Nat} {t t' : TypeId} {v : Value} {cs : List Value} {cc : Array Value} (h : VOwn w base t v cs) (hb : Blk w V t' cc) (ht : t ≠ t') : some V ≠ v.ownBlock := by
  rcases h.form with ⟨rfl, _⟩ | ⟨g, cap, rfl, _⟩
  · simp [Value.ownBlock]
  · intro e
    simp only [Value.ownBlock, Option.some.injEq] at e
    exact h.ne_blk hb ht e.symm
/-- ExtentAt is told by the list. -/
theorem exAt_list (ps : List Pr) (n : Nat) : exAtV ps (n : Int) = ((exListV ps)[n]?).getD (-1) := by
  cases hv : extB ps
  · simp [exAtV, exListV, hv]
  · simp [exAtV, exListV, hv]
end Go.Proofs.Ytofolifmgpgkoaa
