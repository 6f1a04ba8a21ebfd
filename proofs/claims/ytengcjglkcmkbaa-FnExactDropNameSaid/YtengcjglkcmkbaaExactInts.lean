/- The exact laws' helpers for rows of numbers: szIntS, toIntS, eqIntS, markIntS, heldIntS.
   The exact laws' helpers for tables: szTable, toTable, eqTable, markTable, heldTable; a table that came in. -/
import Derived.Test.YtengcjglkcmkbaaTables7
import Derived.Test.YtengcjglkcmkbaaLawDev
import Derived.Test.YtengcjglkcmkbaaHand
import Derived.BigQuiet
namespace Go.Proofs.Ytengcjglkcmkbaa
open Go.ChangeShapes Go.WideShapes Go.ChangeAt Go.RowKit
set_option linter.unusedVariables false

/-- The numbers of a marked row. -/
def imarks (K n : Nat) : List Int := (List.range n).map fun i => ((K + i : Nat) : Int)
theorem imarks_length (K n : Nat) : (imarks K n).length = n := by simp [imarks]
theorem imarks_at {K n i : Nat} (h : i < n) : (imarks K n)[i]? = some ((K + i : Nat) : Int) := by simp [imarks, h]
theorem imarks_snoc (K n : Nat) : imarks K (n + 1) = imarks K n ++ [((K + n : Nat) : Int)] := by simp [imarks, List.range_succ]
def imarkTo (K : Nat) (xs : List Int) (k : Nat) : List Int := imarks K k ++ xs.drop k
theorem imarkTo_length {K k : Nat} {xs : List Int} (h : k ≤ xs.length) : (imarkTo K xs k).length = xs.length := by
  simp only [imarkTo, List.length_append, imarks_length, List.length_drop]; omega
theorem imarkTo_step {K k : Nat} {xs : List Int} (h : k < xs.length) : (imarkTo K xs k).set k ((K + k : Nat) : Int) = imarkTo K xs (k + 1) := by
  unfold imarkTo
  rw [List.set_append_right _ _ (by rw [imarks_length]; exact Nat.le_refl _), imarks_length, Nat.sub_self, imarks_snoc, List.append_assoc, List.drop_eq_getElem_cons h]
  rfl
theorem imarkTo_zero (K : Nat) (xs : List Int) : imarkTo K xs 0 = xs := by simp [imarkTo, imarks]
theorem imarkTo_end {K n : Nat} {xs : List Int} (h : xs.length = n) : imarkTo K xs n = imarks K n := by simp [imarkTo, ← h]
end Go.Proofs.Ytengcjglkcmkbaa
namespace Go.Proofs.Ytengcjglkcmkbaa
open Go.ChangeShapes Go.WideShapes Go.ChangeAt Go.RowKit Go.Deep
set_option linter.unusedVariables false
set_option linter.unusedSimpArgs false

/-- What a walk is told of a slice of lists of numbers that came in. -/
def IsLists (w : World) (A : Option Addr) (n c : Nat) (ls : List Li) : Prop := ls.length = n ∧ n ≤ c ∧ c ≤ maxLen ∧ TRow w w.heap.size A ls ∧ ∀ l, l ∈ ls → l.xs.length ≤ l.c ∧ l.c ≤ maxLen
/-- How many numbers. -/
def ltot (xss : List (List Int)) : Nat := (xss.map List.length).sum
theorem ltot_take {xss : List (List Int)} {k : Nat} {xs : List Int} (h : xss[k]? = some xs) : ltot (xss.take (k + 1)) = ltot (xss.take k) + xs.length := by
  unfold ltot
  rw [List.take_add_one, h, List.map_append, List.sum_append]
  simp
theorem ltot_le {xss : List (List Int)} {xs : List Int} (h : xs ∈ xss) : xs.length ≤ ltot xss := by
  induction xss with
  | nil => simp at h
  | cons p r ih =>
    simp only [ltot, List.map_cons, List.sum_cons] at ih ⊢
    rcases List.mem_cons.1 h with rfl | h
    · omega
    · have := ih h
      omega
theorem ltot_take_le (xss : List (List Int)) (k : Nat) : ltot (xss.take k) ≤ ltot xss := by
  have e : ltot xss = ltot (xss.take k) + ltot (xss.drop k) := by
    unfold ltot
    rw [← List.sum_append, ← List.map_append, List.take_append_drop]
  omega
/-- Few numbers in all. -/
theorem small_ll {ls : List Li} (h : ltot (ll ls) ≤ 1048576) : ∀ l, l ∈ ls → l.xs.length ≤ 1048576 := fun l hl => Nat.le_trans (ltot_le (List.mem_map_of_mem hl)) h
theorem ltot_tab {xss : List (List Int)} (h : tabB xss = true) : ltot xss ≤ 48 := by
  have hT := (tabB_iff _).1 h
  have : ∀ l : List (List Int), (∀ xs, xs ∈ l → xs.length = 6) → ltot l = 6 * l.length := by
    intro l hl
    induction l with
    | nil => rfl
    | cons p r ih =>
      have h1 := ih fun xs hx => hl xs (by simp [hx])
      have h2 := hl p (by simp)
      simp only [ltot, List.map_cons, List.sum_cons, List.length_cons] at h1 ⊢
      omega
  rw [this xss hT.six, hT.len]
  omega
/-- -1; or what is left, and the table is small. -/
def SzT (n : Nat) (ls : List Li) (L : Int) (w : World) (e : Ending) (w' : World) : Prop := ∃ v : Int, e = .returned (.int .i64 v) ∧ w.grownBy w' none ∧ ((v = -1) ∨ (0 ≤ v ∧ v ≤ L ∧ n ≤ 1048576 ∧ ltot (ll ls) ≤ 1048576))
/-- A table marked from number K on; the number behind it. -/
def lmark : Nat → List Li → List Li
  | _, [] => []
  | K, l :: r => ⟨l.A, l.c, imarks K l.xs.length⟩ :: lmark (K + l.xs.length) r
def lend (K : Nat) (ls : List Li) : Nat := K + ltot (ll ls)
theorem lmark_length (K : Nat) (ls : List Li) : (lmark K ls).length = ls.length := by
  induction ls generalizing K with
  | nil => rfl
  | cons b r ih => simp [lmark, ih]
theorem lend_cons (K : Nat) (l : Li) (r : List Li) : lend K (l :: r) = lend (K + l.xs.length) r := by
  simp only [lend, ll, ltot, List.map_cons, List.sum_cons]; omega
theorem lmark_at {K k : Nat} {ls : List Li} {l : Li} (h : ls[k]? = some l) : (lmark K ls)[k]? = some ⟨l.A, l.c, imarks (lend K (ls.take k)) l.xs.length⟩ := by
  induction ls generalizing K k with
  | nil => simp at h
  | cons p r ih =>
    cases k with
    | zero => simp at h; subst h; simp [lmark, lend, ltot, ll]
    | succ k =>
      have hh := ih (K := K + p.xs.length) (k := k) (by simpa using h)
      rw [← lend_cons] at hh
      simpa [lmark] using hh
theorem lend_step {K k : Nat} {ls : List Li} {l : Li} (h : ls[k]? = some l) : lend K (ls.take (k + 1)) = lend K (ls.take k) + l.xs.length := by
  have h1 := ltot_take (ll_at h)
  simp only [lend, ll, List.map_take] at h1 ⊢
  omega
theorem lend_le (K : Nat) (ls : List Li) (k : Nat) : lend K (ls.take k) ≤ lend K ls := by
  have h1 := ltot_take_le (ll ls) k
  simp only [lend, ll, List.map_take] at h1 ⊢
  omega
/-- The table, its first k lists marked. -/
def markT (K : Nat) (ls : List Li) (k : Nat) : List Li := lmark K (ls.take k) ++ ls.drop k
theorem markT_length {K k : Nat} {ls : List Li} (h : k ≤ ls.length) : (markT K ls k).length = ls.length := by
  simp only [markT, List.length_append, lmark_length, List.length_take, List.length_drop]; omega
theorem markT_at {K k : Nat} {ls : List Li} {l : Li} (h : ls[k]? = some l) : (markT K ls k)[k]? = some l := by
  have hk : k < ls.length := (List.getElem?_eq_some_iff.1 h).1
  unfold markT
  rw [List.getElem?_append_right (by rw [lmark_length, List.length_take]; omega), lmark_length, List.length_take, List.getElem?_drop, ← h]
  congr 1
  omega
theorem lmark_snoc (K : Nat) (ls : List Li) (l : Li) : lmark K (ls ++ [l]) = lmark K ls ++ [⟨l.A, l.c, imarks (lend K ls) l.xs.length⟩] := by
  induction ls generalizing K with
  | nil => simp [lmark, lend, ltot, ll]
  | cons p r ih => simp only [List.cons_append, lmark, ih, lend_cons]
theorem markT_step {K k : Nat} {ls : List Li} {l : Li} (h : ls[k]? = some l) : (markT K ls k).set k ⟨l.A, l.c, imarks (lend K (ls.take k)) l.xs.length⟩ = markT K ls (k + 1) := by
  have hk : k < ls.length := (List.getElem?_eq_some_iff.1 h).1
  have hl : (lmark K (ls.take k)).length = k := by rw [lmark_length, List.length_take]; omega
  unfold markT
  rw [List.set_append_right _ _ (by omega), hl, Nat.sub_self, List.take_add_one, h, Option.toList_some, lmark_snoc, List.append_assoc]
  congr 1
  obtain ⟨hlt, rfl⟩ := List.getElem?_eq_some_iff.1 h
  rw [List.drop_eq_getElem_cons hlt]
  rfl
theorem markT_end (K : Nat) (ls : List Li) : markT K ls ls.length = lmark K ls := by simp [markT]
theorem markT_zero (K : Nat) (ls : List Li) : markT K ls 0 = ls := by simp [markT, lmark]
theorem lmark_addr {K : Nat} {ls : List Li} {l : Li} (h : l ∈ lmark K ls) : ∃ l', l' ∈ ls ∧ l'.A = l.A := by
  induction ls generalizing K with
  | nil => simp [lmark] at h
  | cons p r ih =>
    simp only [lmark, List.mem_cons] at h
    rcases h with rfl | h
    · exact ⟨p, by simp, rfl⟩
    · obtain ⟨b', h1, h2⟩ := ih h
      exact ⟨b', by simp [h1], h2⟩
theorem lmark_xs {K : Nat} {ls : List Li} : ltot (ll (lmark K ls)) = ltot (ll ls) := by
  induction ls generalizing K with
  | nil => rfl
  | cons p r ih =>
    have h := @ih (K + p.xs.length)
    simp only [lmark, ll, ltot, List.map_cons, List.sum_cons, imarks_length] at h ⊢
    omega
/-- All memory of a table lies in the blocks lo .. hi - 1. -/
def TIs (lo hi g : Nat) (ls : List Li) : Prop := (lo ≤ g ∧ g < hi) ∧ ∀ (l : Li) (a : Addr), l ∈ ls → l.A = some a → lo ≤ a.block ∧ a.block < hi
end Go.Proofs.Ytengcjglkcmkbaa
