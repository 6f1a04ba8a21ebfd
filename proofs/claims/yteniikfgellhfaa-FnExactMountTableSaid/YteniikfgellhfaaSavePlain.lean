/- Saves of tables and their sums: what they are. -/
import Derived.Test.YteniikfgellhfaaCounts
namespace Go.Proofs.Yteniikfgellhfaa
open Go.ChangeShapes Go.WideShapes Go.ChangeAt Go.RowKit
set_option linter.unusedVariables false

/-- A number and pages that have a sum. -/
def sumOk (n : Int) (X : List Int) : Bool := inB n 0 1000000 && decide (X.length ≤ 48) && X.all fun x => inB x (-1) 47
def sumS (s x : Int) : Int := (127 * s + x + 2) % 99991
def sumTo (n : Int) (X : List Int) : Int := X.foldl sumS (n % 99991)
def ssumV (n : Int) (X : List Int) : Int := if sumOk n X then sumTo n X else -1
theorem sumS_in (s x : Int) : 0 ≤ sumS s x ∧ sumS s x < 99991 := by unfold sumS; omega
theorem sum_acc : ∀ (X : List Int) (s : Int), 0 ≤ s → s < 99991 → 0 ≤ X.foldl sumS s ∧ X.foldl sumS s < 99991 := by
  intro X
  induction X with
  | nil => intro s h0 h1; exact ⟨h0, h1⟩
  | cons x r ih => intro s _ _; exact ih _ (sumS_in s x).1 (sumS_in s x).2
theorem sum_in (n : Int) (X : List Int) : 0 ≤ sumTo n X ∧ sumTo n X < 99991 := sum_acc X _ (by omega) (by omega)
theorem sum_snoc (n : Int) (X : List Int) (x : Int) : sumTo n (X ++ [x]) = sumS (sumTo n X) x := by simp only [sumTo, List.foldl_append, List.foldl_cons, List.foldl_nil]
theorem sum_take {n : Int} {X : List Int} {i : Nat} {x : Int} (h : X[i]? = some x) : sumTo n (X.take (i + 1)) = sumS (sumTo n (X.take i)) x := by
  rw [List.take_add_one, h, Option.toList_some, sum_snoc]
theorem sum_last (n : Int) (X : List Int) {x y : Int} (hx : -1 ≤ x ∧ x ≤ 47) (hy : -1 ≤ y ∧ y ≤ 47) (hxy : x ≠ y) : sumTo n (X ++ [x]) ≠ sumTo n (X ++ [y]) := by
  rw [sum_snoc, sum_snoc]
  unfold sumS
  omega
theorem ssum_no {n : Int} {X : List Int} (h : sumOk n X = false) : ssumV n X = -1 := by simp [ssumV, h]
theorem ssum_of {n : Int} {X : List Int} (h : sumOk n X = true) : ssumV n X = sumTo n X := by simp [ssumV, h]
theorem ssum_cases (n : Int) (X : List Int) : (sumOk n X = false ∧ ssumV n X = -1) ∨ (sumOk n X = true ∧ ssumV n X = sumTo n X ∧ 0 ≤ ssumV n X ∧ ssumV n X < 99991) := by
  cases h : sumOk n X
  · exact .inl ⟨rfl, ssum_no h⟩
  · refine .inr ⟨rfl, ssum_of h, ?_⟩
    rw [ssum_of h]
    exact sum_in n X
theorem sumOk_parts {n : Int} {X : List Int} (h : sumOk n X = true) : inB n 0 1000000 = true ∧ X.length ≤ 48 ∧ ∀ x, x ∈ X → inB x (-1) 47 = true := by
  simp only [sumOk, Bool.and_eq_true, decide_eq_true_eq, List.all_eq_true] at h
  exact ⟨h.1.1, h.1.2, h.2⟩
theorem sumOk_of {n : Int} {X : List Int} (h1 : inB n 0 1000000 = true) (h2 : X.length ≤ 48) (h3 : ∀ x, x ∈ X → inB x (-1) 47 = true) : sumOk n X = true := by
  simp only [sumOk, Bool.and_eq_true, decide_eq_true_eq, List.all_eq_true]
  exact ⟨⟨h1, h2⟩, h3⟩
theorem sumOk_snoc {n : Int} {X : List Int} {x : Int} (h : sumOk n X = true) (hl : X.length < 48) (hx : inB x (-1) 47 = true) : sumOk n (X ++ [x]) = true := by
  obtain ⟨h1, _, h3⟩ := sumOk_parts h
  refine sumOk_of h1 (by simp; omega) fun y hy => ?_
  rcases List.mem_append.1 hy with hy | hy
  · exact h3 y hy
  · rw [List.mem_singleton.1 hy]; exact hx
/-- Eight rows of six. -/
def rowsOf (X : List Int) : List (List Int) := (List.range 8).map fun f => (X.drop (6 * f)).take 6
theorem rowsOf_length (X : List Int) : (rowsOf X).length = 8 := by simp [rowsOf]
theorem rowsOf_at (X : List Int) {f : Nat} (h : f < 8) : (rowsOf X)[f]? = some ((X.drop (6 * f)).take 6) := by simp [rowsOf, h]
theorem rowsOf_six {X : List Int} (h : X.length = 48) : ∀ xs, xs ∈ rowsOf X → xs.length = 6 := fun xs hx => by
  simp only [rowsOf, List.mem_map, List.mem_range] at hx
  obtain ⟨f, hf, rfl⟩ := hx
  rw [List.length_take, List.length_drop]
  omega
theorem rowsOf_flat {X : List Int} (h : X.length = 48) : (rowsOf X).flatten = X := by
  have h6 := rowsOf_six h
  have hl := flat_len _ h6
  rw [rowsOf_length] at hl
  refine List.ext_getElem? fun i => ?_
  rcases Nat.lt_or_ge i 48 with hi | hi
  · have h1 := flat_get _ h6 (i / 6) (i % 6) (Nat.mod_lt _ (by omega))
    rw [Nat.div_add_mod] at h1
    rw [h1]
    unfold cellO
    rw [rowsOf_at X (by omega)]
    simp only [Option.bind_some]
    rw [List.getElem?_take_of_lt (Nat.mod_lt _ (by omega)), List.getElem?_drop, Nat.div_add_mod]
  · rw [List.getElem?_eq_none (by omega), List.getElem?_eq_none (by omega)]
theorem rows_of_flat {xss : List (List Int)} (h8 : xss.length = 8) (h6 : ∀ xs, xs ∈ xss → xs.length = 6) : rowsOf xss.flatten = xss := by
  have hl := flat_len _ h6
  refine List.ext_getElem? fun f => ?_
  rcases Nat.lt_or_ge f 8 with hf | hf
  · rw [rowsOf_at _ hf]
    have e := List.getElem?_eq_getElem (l := xss) (i := f) (by omega)
    rw [e]
    have h7 := h6 _ (List.getElem_mem (l := xss) (n := f) (by omega))
    refine congrArg some (List.ext_getElem? fun k => ?_)
    rcases Nat.lt_or_ge k 6 with hk | hk
    · rw [List.getElem?_take_of_lt hk, List.getElem?_drop, flat_get _ h6 f k hk]
      unfold cellO
      rw [e]
      rfl
    · rw [List.getElem?_eq_none (by rw [List.length_take]; omega), List.getElem?_eq_none (by omega)]
  · rw [List.getElem?_eq_none (by rw [rowsOf_length]; exact hf), List.getElem?_eq_none (by omega)]
theorem tab_shape {xss : List (List Int)} (h : tabB xss = true) : xss.length = 8 ∧ ∀ xs, xs ∈ xss → xs.length = 6 := by
  simp only [tabB, Bool.and_eq_true, decide_eq_true_eq, List.all_eq_true] at h
  exact h.1
/-- Saves that can be loaded: a number, pages, a sum. -/
def loadB (n : Int) (X : List Int) (s : Int) : Bool := decide (X.length = 48) && (ssumV n X == s) && decide (0 ≤ s) && tabB (rowsOf X)
def saveB (xss : List (List Int)) (n : Int) : Bool := tabB xss && inB n 0 1000000
theorem save_sum {xss : List (List Int)} {n : Int} (h : saveB xss n = true) : sumOk n xss.flatten = true := by
  simp only [saveB, Bool.and_eq_true] at h
  refine sumOk_of h.2 (by rw [tab_flat h.1]; omega) fun x hx => ?_
  have := tab_in h.1 hx
  exact inB_iff.2 ⟨by omega, by omega⟩
/-- Saved tables can be loaded. -/
theorem load_save {xss : List (List Int)} {n : Int} (h : saveB xss n = true) : loadB n xss.flatten (ssumV n xss.flatten) = true ∧ rowsOf xss.flatten = xss := by
  have hs := save_sum h
  simp only [saveB, Bool.and_eq_true] at h
  obtain ⟨h8, h6⟩ := tab_shape h.1
  have hr := rows_of_flat h8 h6
  refine ⟨?_, hr⟩
  simp only [loadB, Bool.and_eq_true, decide_eq_true_eq, beq_self_eq_true, and_true, hr, h.1]
  refine ⟨tab_flat h.1, ?_⟩
  rw [ssum_of hs]
  exact (sum_in n _).1
/-- Loaded saves are saves. -/
theorem save_load {n s : Int} {X : List Int} (h : loadB n X s = true) : saveB (rowsOf X) n = true ∧ (rowsOf X).flatten = X ∧ ssumV n X = s ∧ 0 ≤ s ∧ s < 99991 ∧ X.length = 48 := by
  simp only [loadB, Bool.and_eq_true, decide_eq_true_eq, beq_iff_eq] at h
  obtain ⟨⟨⟨h1, h2⟩, h3⟩, h4⟩ := h
  rcases ssum_cases n X with ⟨_, h5⟩ | ⟨h5, _, _, h6⟩
  · omega
  · refine ⟨?_, rowsOf_flat h1, h2, h3, by omega, h1⟩
    simp only [saveB, Bool.and_eq_true]
    exact ⟨h4, (sumOk_parts h5).1⟩
/-- With another sum it cannot be loaded. -/
theorem load_other {n s s' : Int} {X : List Int} (h : loadB n X s = true) (hs : s' ≠ s) : loadB n X s' = false := by
  obtain ⟨_, _, h2, _⟩ := save_load h
  have e : (ssumV n X == s') = false := by simp; omega
  simp [loadB, e]
end Go.Proofs.Yteniikfgellhfaa
