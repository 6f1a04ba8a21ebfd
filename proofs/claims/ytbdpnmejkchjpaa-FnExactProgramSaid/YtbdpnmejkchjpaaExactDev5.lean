/- The exact laws' helpers for devices, further (under way): markBlockS. -/
import Derived.Test.YtbdpnmejkchjpaaExactDev4
namespace Go.Proofs.Ytbdpnmejkchjpaa
open Go.ChangeShapes Go.WideShapes Go.ChangeAt Go.RowKit

/-- Nothing outside of the blocks lo .. hi - 1 has changed. -/
structure Out (lo hi : Nat) (w w' : World) : Prop where
  os : w'.os = w.os
  tape : w'.tape = w.tape
  output : w'.output = w.output
  size : w.heap.size ≤ w'.heap.size
  block : ∀ i, i < w.heap.size → (i < lo ∨ hi ≤ i) → w'.heap[i]? = w.heap[i]?
theorem Out.refl (lo hi : Nat) (w : World) : Out lo hi w w := ⟨rfl, rfl, rfl, Nat.le_refl _, fun _ _ _ => rfl⟩
theorem Out.trans {lo hi : Nat} {a b c : World} (h : Out lo hi a b) (k : Out lo hi b c) : Out lo hi a c :=
  ⟨k.os.trans h.os, k.tape.trans h.tape, k.output.trans h.output, Nat.le_trans h.size k.size, fun i hi1 ho => (k.block i (Nat.lt_of_lt_of_le hi1 h.size) ho).trans (h.block i hi1 ho)⟩
theorem Out.setCell {lo hi : Nat} {a w : World} (h : Out lo hi a w) {p : Addr} (h1 : lo ≤ p.block) (h2 : p.block < hi) (u : Value) : Out lo hi a (w.setCell p u) :=
  ⟨h.os, h.tape, h.output, by simpa [World.setCell] using h.size, fun i hi1 ho => (Below.heap_setCell w p u i (by omega)).trans (h.block i hi1 ho)⟩
theorem Out.of_grown {lo hi : Nat} {w w' : World} {row : Option Nat} (h : w.grownBy w' row) (hr : ∀ g, row = some g → lo ≤ g ∧ g < hi) : Out lo hi w w' :=
  ⟨h.os, h.tape, h.output, h.size, fun i hi1 ho => h.block i hi1 (by intro e; have := hr i e.symm; omega)⟩
theorem Out.below {lo hi : Nat} {w w' : World} (h : Out lo hi w w') : Below lo w w' ∨ w.heap.size < lo := by
  rcases Nat.lt_or_ge w.heap.size lo with h1 | h1
  · exact .inr h1
  · exact .inl ⟨h.os, h.tape, h.output, h.size, fun i hi1 => h.block i (by omega) (.inl hi1)⟩
/-- All memory of a device lies in the blocks lo .. hi - 1. -/
def DIn (lo hi g : Nat) (bs : List Bk) : Prop := (lo ≤ g ∧ g < hi) ∧ ∀ (b : Bk) (a : Addr), b ∈ bs → b.A = some a → lo ≤ a.block ∧ a.block < hi
/-- The device, its first k blocks marked. -/
def markD (K : Nat) (bs : List Bk) (k : Nat) : List Bk := markL K (bs.take k) ++ bs.drop k
theorem markD_length {K k : Nat} {bs : List Bk} (h : k ≤ bs.length) : (markD K bs k).length = bs.length := by
  simp only [markD, List.length_append, markL_length, List.length_take, List.length_drop]; omega
theorem markD_at {K k : Nat} {bs : List Bk} {b : Bk} (h : bs[k]? = some b) : (markD K bs k)[k]? = some b := by
  have hk : k < bs.length := (List.getElem?_eq_some_iff.1 h).1
  unfold markD
  rw [List.getElem?_append_right (by rw [markL_length, List.length_take]; omega), markL_length, List.length_take, List.getElem?_drop, ← h]
  congr 1
  omega
theorem markL_snoc (K : Nat) (bs : List Bk) (b : Bk) : markL K (bs ++ [b]) = markL K bs ++ [⟨((endK K bs : Nat) : Int), b.A, b.c, marks (endK K bs + 1) b.ps.length⟩] := by
  induction bs generalizing K with
  | nil => simp [markL, endK, tot]
  | cons p r ih =>
    have e : endK (K + 1 + 5 * p.ps.length) r = endK K (p :: r) := by
      simp only [endK, List.length_cons, tot, List.map_cons, List.sum_cons]
      omega
    simp only [List.cons_append, markL, ih, e]
theorem markD_step {K k : Nat} {bs : List Bk} {b : Bk} (h : bs[k]? = some b) : (markD K bs k).set k ⟨((endK K (bs.take k) : Nat) : Int), b.A, b.c, marks (endK K (bs.take k) + 1) b.ps.length⟩ = markD K bs (k + 1) := by
  have hk : k < bs.length := (List.getElem?_eq_some_iff.1 h).1
  have hl : (markL K (bs.take k)).length = k := by rw [markL_length, List.length_take]; omega
  unfold markD
  rw [List.set_append_right _ _ (by omega), hl, Nat.sub_self, List.take_add_one, h, Option.toList_some, markL_snoc, List.append_assoc]
  congr 1
  obtain ⟨hlt, rfl⟩ := List.getElem?_eq_some_iff.1 h
  rw [List.drop_eq_getElem_cons hlt]
  rfl
theorem markD_end (K : Nat) (bs : List Bk) : markD K bs bs.length = markL K bs := by simp [markD]
theorem markD_zero (K : Nat) (bs : List Bk) : markD K bs 0 = bs := by simp [markD, markL]
end Go.Proofs.Ytbdpnmejkchjpaa
