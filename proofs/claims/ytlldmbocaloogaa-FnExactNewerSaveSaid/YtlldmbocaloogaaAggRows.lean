/- A slice of pages that came in (the laws' own type): its cells, page by page.
   The exact laws' helpers for blocks: szBlock, toBlock, eqBlock.
   The exact laws' helpers for blocks, further: markBlock and heldBlock.
   What the exact laws of chapter 4 carry along: blocks in variables, and where their pages lie.
   What the exact law of WriteBlock carries along besides. -/
import Derived.Test.YtlldmbocaloogaaAgg
import Derived.Test.YtlldmbocaloogaaBlocks
import Derived.Test.YtlldmbocaloogaaHand
import Derived.Test.YtlldmbocaloogaaDrawBlocks
namespace Go.Proofs.Ytlldmbocaloogaa
open Go.ChangeShapes Go.WideShapes Go.Deep

/-- What a walk is told of a slice of pages that came in. -/
def IsPages (w : World) (A : Option Addr) (n c : Nat) (ps : List Pg) : Prop := ps.length = n ∧ n ≤ c ∧ c ≤ maxLen ∧ Row w w.heap.size A ps
theorem list2 {α : Type} {l : List α} (h : l.length = 2) : ∃ a b, l = [a, b] := by
  match l, h with
  | [a, b], _ => exact ⟨a, b, rfl⟩
theorem all_of {Q : Nat → Pg → Prop} (n : Nat) (h : ∀ i, i < n → ∃ p, Q i p) : ∃ ps : List Pg, ps.length = n ∧ ∀ i p, ps[i]? = some p → Q i p := by
  induction n with
  | zero => exact ⟨[], rfl, fun i p hp => by simp at hp⟩
  | succ n ih =>
    obtain ⟨ps, hl, hq⟩ := ih fun i hi => h i (by omega)
    obtain ⟨p, hp⟩ := h n (by omega)
    refine ⟨ps ++ [p], by simp [hl], fun i q hi => ?_⟩
    rcases Nat.lt_trichotomy i n with h1 | h1 | h1
    · rw [List.getElem?_append_left (by omega)] at hi
      exact hq i q hi
    · subst h1
      rw [List.getElem?_append_right (by omega), hl, Nat.sub_self] at hi
      simp at hi
      rw [← hi]; exact hp
    · rw [List.getElem?_eq_none (by simp; omega)] at hi
      cases hi
section
variable {H : Type} {enc : TypeId × Value → H} {w : World} {base : Nat} {spare : Nat → Bool} {held : Bool}
end
end Go.Proofs.Ytlldmbocaloogaa
namespace Go.Proofs.Ytlldmbocaloogaa
open Go.ChangeShapes Go.WideShapes Go.ChangeAt Go.RowKit

theorem cells2' {w : World} {g : Nat} {t : TypeId} {u0 u1 : Value} (h : Blk w g t #[u0, u1]) :
    w.cell? ⟨g, 0, none⟩ = some u0 ∧ w.cell? ⟨g, 1, none⟩ = some u1 ∧ w.frozen? ⟨g, 0, none⟩ = false ∧ w.frozen? ⟨g, 1, none⟩ = false := ⟨h.cell 0, h.cell 1, h.frozen 0, h.frozen 1⟩
/-- A number that is not negative. -/
def NotNeg (w : World) (e : Ending) (w' : World) : Prop := ∃ v : Int, e = .returned (.int .i64 v) ∧ 0 ≤ v ∧ w.grownBy w' none
/-- The first k pages taken over, the rest not written. -/
def fill (ps : List Pg) (n k : Nat) : List Pg := ps.take k ++ List.replicate (n - k) pz
theorem fill_zero (ps : List Pg) (n : Nat) : fill ps n 0 = List.replicate n pz := by simp [fill]
theorem fill_end {ps : List Pg} {n : Nat} (h : ps.length = n) : fill ps n n = ps := by subst h; simp [fill]
theorem fill_length {ps : List Pg} {n k : Nat} (h : ps.length = n) (hk : k ≤ n) : (fill ps n k).length = n := by
  simp only [fill, List.length_append, List.length_take, List.length_replicate]; omega
theorem fill_step {ps : List Pg} {n k : Nat} {p : Pg} (h : ps.length = n) (hp : ps[k]? = some p) : (fill ps n k).set k p = fill ps n (k + 1) := by
  have hk : k < ps.length := (List.getElem?_eq_some_iff.1 hp).1
  have e : n - k = (n - (k + 1)) + 1 := by omega
  have ht : (ps.take k).length = k := by rw [List.length_take]; omega
  unfold fill
  rw [e, List.replicate_succ, List.set_append_right _ _ (by omega), ht, Nat.sub_self, List.set_cons_zero, List.take_add_one, hp]
  simp
theorem grown_putO' {a w : World} {k o : Nat} (h : a.grownBy w none) (hk : a.heap.size ≤ k) (u0 u1 u2 u3 u4 : Value) :
    a.grownBy (((((w.setCell ⟨k, o, none⟩ u0).setCell ⟨k, o + 1, none⟩ u1).setCell ⟨k, o + 2, none⟩ u2).setCell ⟨k, o + 3, none⟩ u3).setCell ⟨k, o + 4, none⟩ u4) none :=
  grown_put (grown_put (grown_put (grown_put (grown_put h hk u0) hk u1) hk u2) hk u3) hk u4
end Go.Proofs.Ytlldmbocaloogaa
namespace Go.Proofs.Ytlldmbocaloogaa
open Go.ChangeShapes Go.WideShapes Go.ChangeAt Go.RowKit

/-- The page that a mark writes from number K on; n of them; n of them in front of what was there. -/
def mkP (K : Nat) : Pg := ⟨(K : Int) % 3 == 0, (K : Int) + 1, (K : Int) + 1 + 1, (K : Int) + 1 + 1 + 1, (K : Int) + 1 + 1 + 1 + 1⟩
def marks (k0 n : Nat) : List Pg := (List.range n).map fun j => mkP (k0 + 5 * j)
def markTo (k0 : Nat) (ps : List Pg) (i : Nat) : List Pg := marks k0 i ++ ps.drop i
theorem marks_length (k0 n : Nat) : (marks k0 n).length = n := by simp [marks]
theorem marks_at {k0 n i : Nat} (h : i < n) : (marks k0 n)[i]? = some (mkP (k0 + 5 * i)) := by simp [marks, h]
theorem markTo_length {k0 i : Nat} {ps : List Pg} (h : i ≤ ps.length) : (markTo k0 ps i).length = ps.length := by
  simp only [markTo, List.length_append, marks_length, List.length_drop]; omega
theorem markTo_zero (k0 : Nat) (ps : List Pg) : markTo k0 ps 0 = ps := by simp [markTo, marks]
theorem markTo_end (k0 : Nat) (ps : List Pg) : markTo k0 ps ps.length = marks k0 ps.length := by simp [markTo]
theorem markTo_step {k0 i : Nat} {ps : List Pg} (h : i < ps.length) : (markTo k0 ps i).set i (mkP (k0 + 5 * i)) = markTo k0 ps (i + 1) := by
  unfold markTo
  rw [List.set_append_right _ _ (by rw [marks_length]; omega), marks_length, Nat.sub_self]
  have e : marks k0 (i + 1) = marks k0 i ++ [mkP (k0 + 5 * i)] := by simp [marks, List.range_succ]
  rw [e, List.append_assoc]
  congr 1
  rw [List.drop_eq_getElem_cons h]
  rfl
/-- A box made ahead of the marks. -/
theorem grown_of_alloc {w w' : World} {o : Obj} {row : Option Nat} (h : (w.alloc o).grownBy w' row) : w.grownBy w' row := by
  have k := World.grownBy_alloc w o row
  exact grown_trans k h
theorem grown_own5 {a w : World} {k o : Nat} (h : a.grownBy w (some k)) (u0 u1 u2 u3 u4 : Value) :
    a.grownBy (((((w.setCell ⟨k, o, none⟩ u0).setCell ⟨k, o + 1, none⟩ u1).setCell ⟨k, o + 2, none⟩ u2).setCell ⟨k, o + 3, none⟩ u3).setCell ⟨k, o + 4, none⟩ u4) (some k) :=
  grown_set (grown_set (grown_set (grown_set (grown_set h (.inl rfl) u0) (.inl rfl) u1) (.inl rfl) u2) (.inl rfl) u3) (.inl rfl) u4
end Go.Proofs.Ytlldmbocaloogaa
namespace Go.Proofs.Ytlldmbocaloogaa
open Go.ChangeShapes Go.WideShapes Go.ChangeAt Go.RowKit

/-- The variable's block V (of type t) holds a block; its pages lie in blocks lo .. hi - 1. -/
def VB (w : World) (t : TypeId) (V : Nat) (m : Int) (A : Option Addr) (n c : Nat) (ps : List Pg) (lo hi : Nat) (wr : World) : Prop :=
  Blk wr V t #[.int .i64 m, .slice A n c] ∧ ps.length = n ∧ Row wr wr.heap.size A ps ∧ (0 < ps.length → ∀ ad, A = some ad → lo ≤ ad.block ∧ ad.block < hi) ∧ w.grownBy wr none
section
variable {w wr w' : World} {t t' : TypeId} {V Vx : Nat} {m mx : Int} {A Ax : Option Addr} {n c nx cx lo hi lox hix : Nat} {ps qs : List Pg}
theorem VB.keep (h : VB w t V m A n c ps lo hi wr) (k : wr.grownBy w' none) : VB w t V m A n c ps lo hi w' :=
  ⟨h.1.keep k, h.2.1, (h.2.2.1.kept k).here, h.2.2.2.1, grown_trans h.2.2.2.2 k⟩
theorem VB.cells (h : VB w t V m A n c ps lo hi wr) : wr.cell? ⟨V, 0, none⟩ = some (.int .i64 m) ∧ wr.cell? ⟨V, 1, none⟩ = some (.slice A n c) ∧ V < wr.heap.size := ⟨h.1.cell 0, h.1.cell 1, h.1.lt⟩
end
end Go.Proofs.Ytlldmbocaloogaa
namespace Go.Proofs.Ytlldmbocaloogaa
open Go.ChangeShapes Go.WideShapes Go.ChangeAt Go.RowKit

/-- What WriteBlock answers. -/
def WriteIs (m : Int) (ps : List Pg) (f : Bool) (x1 x2 x3 x4 : Int) (m1 : Int) (n1 : Nat) (ps1 : List Pg) (r : Int) : Prop :=
  (((blockB m ps && (f && pageB f x1 x2 x3 x4)) = false) ∧ m1 = 0 ∧ n1 = 0 ∧ ps1 = [] ∧ r = -1) ∨
  (blockB m ps = true ∧ f = true ∧ pageB true x1 x2 x3 x4 = true ∧ nextV m ps = -1 ∧ m1 = m ∧ n1 = 4 ∧ ps1 = ps ∧ r = -1) ∨
  (∃ k : Nat, blockB m ps = true ∧ f = true ∧ pageB true x1 x2 x3 x4 = true ∧ nextV m ps = (k : Int) ∧ k < 4 ∧ m1 = m ∧ n1 = 4 ∧ ps1 = ps.set k ⟨true, x1, x2, x3, x4⟩ ∧ r = (k : Int))
theorem write_is (m : Int) (ps : List Pg) (f : Bool) (x1 x2 x3 x4 : Int) : ∃ m1 n1 ps1 r, WriteIs m ps f x1 x2 x3 x4 m1 n1 ps1 r ∧ n1 ≤ 4 := by
  cases h : (blockB m ps && (f && pageB f x1 x2 x3 x4))
  · exact ⟨0, 0, [], -1, .inl ⟨h, rfl, rfl, rfl, rfl⟩, by omega⟩
  · simp only [Bool.and_eq_true] at h
    obtain ⟨hv, rfl, hp⟩ := h
    rcases next_cases m ps with hn | ⟨k, hk, h4, _⟩
    · exact ⟨m, 4, ps, -1, .inr (.inl ⟨hv, rfl, hp, hn, rfl, rfl, rfl, rfl⟩), by omega⟩
    · exact ⟨m, 4, _, k, .inr (.inr ⟨k, hv, rfl, hp, hk, h4, rfl, rfl, rfl, rfl⟩), by omega⟩
section
variable {w wr w' : World} {t t' : TypeId} {V Vx D : Nat} {m mx : Int} {A Ax : Option Addr} {n c nx cx lo hi lox hix : Nat} {ps qs : List Pg} {cs : Array Value}
theorem VB.store (h : VB w t V m A n c ps lo hi wr) (hV : V ≠ D) (hd : hi ≤ D) (hD : w.heap.size ≤ D) (u0 u1 : Value) : VB w t V m A n c ps lo hi ((wr.setCell ⟨D, 0, none⟩ u0).setCell ⟨D, 1, none⟩ u1) := by
  refine ⟨(h.1.far hV _).far hV _, h.2.1, fun hn => ?_, h.2.2.2.1, grown_put (grown_put h.2.2.2.2 hD _) hD _⟩
  obtain ⟨g, off, rfl, hb, hz, hc⟩ := h.2.2.1 hn
  have hg := h.2.2.2.1 hn _ rfl
  have hg2 : g < hi := hg.2
  exact ⟨g, off, rfl, by simpa [World.setCell] using hz, by simpa [World.setCell] using hz, fun i q hq => ((hc i q hq).keep fun r hr => World.cell?_setCell_other wr ⟨D, 0, none⟩ r _ (fun e => by subst e; simp at hr; omega)).keep fun r hr => World.cell?_setCell_other _ ⟨D, 1, none⟩ r _ (fun e => by subst e; simp at hr; omega)⟩
theorem Blk.store (h : Blk wr V t cs) (hV : V ≠ D) (u0 u1 : Value) : Blk ((wr.setCell ⟨D, 0, none⟩ u0).setCell ⟨D, 1, none⟩ u1) V t cs := (h.far hV _).far hV _
theorem size_set2 (wr : World) (D : Nat) (u0 u1 : Value) : ((wr.setCell ⟨D, 0, none⟩ u0).setCell ⟨D, 1, none⟩ u1).heap.size = wr.heap.size := by simp [World.setCell]
end
end Go.Proofs.Ytlldmbocaloogaa
