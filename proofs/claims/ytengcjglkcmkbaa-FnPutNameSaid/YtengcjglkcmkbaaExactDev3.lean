/- The exact laws' helpers for devices, further (under way): szBlockS; a device that came in.
   The exact laws' helpers for devices, further (under way): heldBlockS.
   The exact laws' helpers for devices, further (under way): markBlockS.
   The exact laws' helpers for devices, further (under way): markBlockS. -/
import Derived.Test.YtengcjglkcmkbaaExactDev
import Derived.Test.YtengcjglkcmkbaaAggRows
namespace Go.Proofs.Ytengcjglkcmkbaa
open Go.ChangeShapes Go.WideShapes Go.ChangeAt Go.RowKit Go.Deep

/-- What is left, or -1. -/
def SzB (n : Nat) (L : Int) (w : World) (e : Ending) (w' : World) : Prop := ∃ v : Int, e = .returned (.int .i64 v) ∧ w.grownBy w' none ∧ ((v = -1) ∨ (0 ≤ v ∧ v + n = L))
/-- What a walk is told of a device that came in. -/
def IsBlocks (w : World) (A : Option Addr) (n c : Nat) (bs : List Bk) : Prop := bs.length = n ∧ n ≤ c ∧ c ≤ maxLen ∧ DRow w w.heap.size A bs ∧ ∀ b, b ∈ bs → b.ps.length ≤ b.c ∧ b.c ≤ maxLen
/-- How many pages. -/
def tot (bs : List Bk) : Nat := (bs.map fun b => b.ps.length).sum
theorem tot_take {bs : List Bk} {k : Nat} {b : Bk} (h : bs[k]? = some b) : tot (bs.take (k + 1)) = tot (bs.take k) + b.ps.length := by
  unfold tot
  rw [List.take_add_one, h, List.map_append, List.sum_append]
  simp
theorem tot_le {bs : List Bk} {b : Bk} (h : b ∈ bs) : b.ps.length ≤ tot bs := by
  induction bs with
  | nil => simp at h
  | cons p r ih =>
    simp only [tot, List.map_cons, List.sum_cons] at ih ⊢
    rcases List.mem_cons.1 h with rfl | h
    · omega
    · have := ih h
      omega
/-- -1; or what is left, and the device is small. -/
def SzD (n : Nat) (bs : List Bk) (w : World) (e : Ending) (w' : World) : Prop := ∃ v : Int, e = .returned (.int .i64 v) ∧ w.grownBy w' none ∧ ((v = -1) ∨ (0 ≤ v ∧ n ≤ 1048576 ∧ tot bs ≤ 1048576))
/-- The same, and that no more is left than there was. -/
def SzD2 (n : Nat) (bs : List Bk) (w : World) (e : Ending) (w' : World) : Prop := ∃ v : Int, e = .returned (.int .i64 v) ∧ w.grownBy w' none ∧ ((v = -1) ∨ (0 ≤ v ∧ v ≤ 1048576 ∧ n ≤ 1048576 ∧ tot bs ≤ 1048576))
def SzRel (w : World) (bs : List Bk) (k : Nat) (L : Int) (wr : World) : Prop := k ≤ bs.length ∧ 0 ≤ L ∧ L ≤ 1048576 ∧ ((tot (bs.take k) : Int) + L ≤ 1048576) ∧ w.grownBy wr none
section
variable {H : Type} {enc : TypeId × Value → H} {w : World} {base : Nat} {spare : Nat → Bool} {held : Bool}
theorem all_bk {Q : Nat → Bk → Prop} (n : Nat) (h : ∀ i, i < n → ∃ p, Q i p) : ∃ ps : List Bk, ps.length = n ∧ ∀ i p, ps[i]? = some p → Q i p := by
  induction n with
  | zero => exact ⟨[], rfl, fun i p hp => by simp at hp⟩
  | succ n ih =>
    obtain ⟨ps, hl, hq⟩ := ih fun i hi => h i (by omega)
    obtain ⟨p, hp⟩ := h n (by omega)
    refine ⟨ps ++ [p], by simp [hl], fun i q hi => ?_⟩
    rcases Nat.lt_trichotomy i n with h1 | h1 | h1
    · rw [List.getElem?_append_left (by omega)] at hi
      exact hq i q hi
    · subst h1
      rw [List.getElem?_append_right (by omega), hl, Nat.sub_self] at hi
      simp at hi
      rw [← hi]; exact hp
    · rw [List.getElem?_eq_none (by simp; omega)] at hi
      cases hi
end
end Go.Proofs.Ytengcjglkcmkbaa
namespace Go.Proofs.Ytengcjglkcmkbaa
open Go.ChangeShapes Go.WideShapes Go.ChangeAt Go.RowKit

/-- A device marked from number K on; the number behind it. -/
def markL : Nat → List Bk → List Bk
  | _, [] => []
  | K, b :: r => ⟨(K : Int), b.A, b.c, marks (K + 1) b.ps.length⟩ :: markL (K + 1 + 5 * b.ps.length) r
def endK (K : Nat) (bs : List Bk) : Nat := K + bs.length + 5 * tot bs
theorem markL_length (K : Nat) (bs : List Bk) : (markL K bs).length = bs.length := by
  induction bs generalizing K with
  | nil => rfl
  | cons b r ih => simp [markL, ih]
theorem markL_at {K k : Nat} {bs : List Bk} {b : Bk} (h : bs[k]? = some b) : (markL K bs)[k]? = some ⟨((endK K (bs.take k) : Nat) : Int), b.A, b.c, marks (endK K (bs.take k) + 1) b.ps.length⟩ := by
  induction bs generalizing K k with
  | nil => simp at h
  | cons p r ih =>
    cases k with
    | zero => simp at h; subst h; simp [markL, endK, tot]
    | succ k =>
      have hh := ih (K := K + 1 + 5 * p.ps.length) (k := k) (by simpa using h)
      have e : endK (K + 1 + 5 * p.ps.length) (r.take k) = endK K ((p :: r).take (k + 1)) := by
        simp only [endK, List.take_succ_cons, List.length_cons, tot, List.map_cons, List.sum_cons]
        omega
      rw [e] at hh
      simpa [markL] using hh
theorem endK_step {K k : Nat} {bs : List Bk} {b : Bk} (h : bs[k]? = some b) : endK K (bs.take (k + 1)) = endK K (bs.take k) + 1 + 5 * b.ps.length := by
  have hk : k < bs.length := (List.getElem?_eq_some_iff.1 h).1
  unfold endK
  rw [tot_take h, List.length_take, List.length_take]
  omega
theorem tot_take_le (bs : List Bk) (k : Nat) : tot (bs.take k) ≤ tot bs := by
  have e : tot bs = tot (bs.take k) + tot (bs.drop k) := by
    unfold tot
    rw [← List.sum_append, ← List.map_append, List.take_append_drop]
  omega
end Go.Proofs.Ytengcjglkcmkbaa
namespace Go.Proofs.Ytengcjglkcmkbaa
open Go.ChangeShapes Go.WideShapes Go.ChangeAt Go.RowKit

/-- Nothing outside of the blocks lo .. hi - 1 has changed. -/
structure Out (lo hi : Nat) (w w' : World) : Prop where
  os : w'.os = w.os
  tape : w'.tape = w.tape
  output : w'.output = w.output
  size : w.heap.size ≤ w'.heap.size
  block : ∀ i, i < w.heap.size → (i < lo ∨ hi ≤ i) → w'.heap[i]? = w.heap[i]?
theorem Out.refl (lo hi : Nat) (w : World) : Out lo hi w w := ⟨rfl, rfl, rfl, Nat.le_refl _, fun _ _ _ => rfl⟩
theorem Out.trans {lo hi : Nat} {a b c : World} (h : Out lo hi a b) (k : Out lo hi b c) : Out lo hi a c :=
  ⟨k.os.trans h.os, k.tape.trans h.tape, k.output.trans h.output, Nat.le_trans h.size k.size, fun i hi1 ho => (k.block i (Nat.lt_of_lt_of_le hi1 h.size) ho).trans (h.block i hi1 ho)⟩
theorem Out.setCell {lo hi : Nat} {a w : World} (h : Out lo hi a w) {p : Addr} (h1 : lo ≤ p.block) (h2 : p.block < hi) (u : Value) : Out lo hi a (w.setCell p u) :=
  ⟨h.os, h.tape, h.output, by simpa [World.setCell] using h.size, fun i hi1 ho => (Below.heap_setCell w p u i (by omega)).trans (h.block i hi1 ho)⟩
theorem Out.of_grown {lo hi : Nat} {w w' : World} {row : Option Nat} (h : w.grownBy w' row) (hr : ∀ g, row = some g → lo ≤ g ∧ g < hi) : Out lo hi w w' :=
  ⟨h.os, h.tape, h.output, h.size, fun i hi1 ho => h.block i hi1 (by intro e; have := hr i e.symm; omega)⟩
theorem Out.below {lo hi : Nat} {w w' : World} (h : Out lo hi w w') : Below lo w w' ∨ w.heap.size < lo := by
  rcases Nat.lt_or_ge w.heap.size lo with h1 | h1
  · exact .inr h1
  · exact .inl ⟨h.os, h.tape, h.output, h.size, fun i hi1 => h.block i (by omega) (.inl hi1)⟩
/-- All memory of a device lies in the blocks lo .. hi - 1. -/
def DIn (lo hi g : Nat) (bs : List Bk) : Prop := (lo ≤ g ∧ g < hi) ∧ ∀ (b : Bk) (a : Addr), b ∈ bs → b.A = some a → lo ≤ a.block ∧ a.block < hi
/-- The device, its first k blocks marked. -/
def markD (K : Nat) (bs : List Bk) (k : Nat) : List Bk := markL K (bs.take k) ++ bs.drop k
theorem markD_length {K k : Nat} {bs : List Bk} (h : k ≤ bs.length) : (markD K bs k).length = bs.length := by
  simp only [markD, List.length_append, markL_length, List.length_take, List.length_drop]; omega
theorem markD_at {K k : Nat} {bs : List Bk} {b : Bk} (h : bs[k]? = some b) : (markD K bs k)[k]? = some b := by
  have hk : k < bs.length := (List.getElem?_eq_some_iff.1 h).1
  unfold markD
  rw [List.getElem?_append_right (by rw [markL_length, List.length_take]; omega), markL_length, List.length_take, List.getElem?_drop, ← h]
  congr 1
  omega
theorem markL_snoc (K : Nat) (bs : List Bk) (b : Bk) : markL K (bs ++ [b]) = markL K bs ++ [⟨((endK K bs : Nat) : Int), b.A, b.c, marks (endK K bs + 1) b.ps.length⟩] := by
  induction bs generalizing K with
  | nil => simp [markL, endK, tot]
  | cons p r ih =>
    have e : endK (K + 1 + 5 * p.ps.length) r = endK K (p :: r) := by
      simp only [endK, List.length_cons, tot, List.map_cons, List.sum_cons]
      omega
    simp only [List.cons_append, markL, ih, e]
theorem markD_step {K k : Nat} {bs : List Bk} {b : Bk} (h : bs[k]? = some b) : (markD K bs k).set k ⟨((endK K (bs.take k) : Nat) : Int), b.A, b.c, marks (endK K (bs.take k) + 1) b.ps.length⟩ = markD K bs (k + 1) := by
  have hk : k < bs.length := (List.getElem?_eq_some_iff.1 h).1
  have hl : (markL K (bs.take k)).length = k := by rw [markL_length, List.length_take]; omega
  unfold markD
  rw [List.set_append_right _ _ (by omega), hl, Nat.sub_self, List.take_add_one, h, Option.toList_some, markL_snoc, List.append_assoc]
  congr 1
  obtain ⟨hlt, rfl⟩ := List.getElem?_eq_some_iff.1 h
  rw [List.drop_eq_getElem_cons hlt]
  rfl
theorem markD_end (K : Nat) (bs : List Bk) : markD K bs bs.length = markL K bs := by simp [markD]
theorem markD_zero (K : Nat) (bs : List Bk) : markD K bs 0 = bs := by simp [markD, markL]
end Go.Proofs.Ytengcjglkcmkbaa
namespace Go.Proofs.Ytengcjglkcmkbaa
open Go.ChangeShapes Go.WideShapes Go.ChangeAt Go.RowKit

theorem set_same {l : List Value} {i : Nat} {v : Value} (h : l[i]? = some v) : l.set i v = l := by
  obtain ⟨hlt, rfl⟩ := List.getElem?_eq_some_iff.1 h
  exact List.set_getElem_self hlt
theorem bv_set_wear {bs : List Bk} {i : Nat} {b : Bk} (h : bs[i]? = some b) (m : Int) : bv (bs.set i ⟨m, b.A, b.c, b.ps⟩) = (bv bs).set (i * 2) (.int .i64 m) := by
  rw [bv_set]
  refine set_same ?_
  rw [List.getElem?_set_ne (by omega)]
  exact (bv_at _ _ _ h).2
theorem bv_set_pages {bs : List Bk} {i : Nat} {b : Bk} (h : bs[i]? = some b) {qs : List Pg} (hq : qs.length = b.ps.length) : bv (bs.set i ⟨b.m, b.A, b.c, qs⟩) = bv bs := by
  rw [bv_set]
  have h0 : (bv bs).set (i * 2) (.int .i64 b.m) = bv bs := set_same (bv_at _ _ _ h).1
  show ((bv bs).set (i * 2) (.int .i64 b.m)).set (i * 2 + 1) (Bk.row ⟨b.m, b.A, b.c, qs⟩) = bv bs
  rw [h0]
  refine set_same ?_
  have e : Bk.row ⟨b.m, b.A, b.c, qs⟩ = b.row := by simp [Bk.row, hq]
  rw [e]
  exact (bv_at _ _ _ h).2
theorem apart_set {bs : List Bk} {i : Nat} {b b' : Bk} (h : apart bs) (hi : bs[i]? = some b) (hA : b'.A = b.A) : apart (bs.set i b') := by
  intro j k b1 b2 a1 a2 hjk hj hk h1 h2
  have look : ∀ {j : Nat} {b1 : Bk}, (bs.set i b')[j]? = some b1 → ∃ c, bs[j]? = some c ∧ c.A = b1.A := fun {j b1} hj => by
    rw [List.getElem?_set] at hj
    split at hj
    · rename_i e
      subst e
      split at hj
      · injection hj with hj; subst hj; exact ⟨b, hi, hA.symm⟩
      · cases hj
    · exact ⟨b1, hj, rfl⟩
  obtain ⟨c1, hc1, e1⟩ := look hj
  obtain ⟨c2, hc2, e2⟩ := look hk
  exact h j k c1 c2 a1 a2 hjk hc1 hc2 (e1.trans h1) (e2.trans h2)
end Go.Proofs.Ytengcjglkcmkbaa
