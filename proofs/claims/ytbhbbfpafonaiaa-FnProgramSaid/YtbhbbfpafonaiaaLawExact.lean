/- What the exact laws of chapter 4 carry along: blocks in variables, and where their pages lie. -/
import Derived.Test.YtbhbbfpafonaiaaExactMark
import Derived.Test.YtbhbbfpafonaiaaAggRows
namespace Go.Proofs.Ytbhbbfpafonaiaa
open Go.ChangeShapes Go.WideShapes Go.ChangeAt Go.RowKit

theorem Own.apart {w : World} {base V n c : Nat} {ad : Addr} {ps : List Pg} {t : TypeId} {cs : Array Value} (ho : Own w base (.slice (some ad) n c) ps) (hb : Blk w V t cs) (ht : t ≠ 34) : V ≠ ad.block := by
  rcases ho.2 with ⟨e, _⟩ | ⟨g', cap, cur, e, _, hh, _⟩
  · cases e
  · injection e with e; injection e with e; subst e
    rintro rfl
    unfold Blk at hb
    rw [hh] at hb
    injection hb with hb
    injection hb with _ h2
    exact ht h2.symm
/-- The variable's block V (of type t) holds a block; its pages lie in blocks lo .. hi - 1. -/
def VB (w : World) (t : TypeId) (V : Nat) (m : Int) (A : Option Addr) (n c : Nat) (ps : List Pg) (lo hi : Nat) (wr : World) : Prop :=
  Blk wr V t #[.int .i64 m, .slice A n c] ∧ ps.length = n ∧ Row wr wr.heap.size A ps ∧ (0 < ps.length → ∀ ad, A = some ad → lo ≤ ad.block ∧ ad.block < hi) ∧ w.grownBy wr none
/-- The same of pages that the call owns. -/
def VO (w : World) (t : TypeId) (V : Nat) (m : Int) (A : Option Addr) (n c : Nat) (ps : List Pg) (lo hi : Nat) (wr : World) : Prop :=
  VB w t V m A n c ps lo hi wr ∧ Own wr lo (.slice A n c) ps ∧ (∀ ad, A = some ad → lo ≤ ad.block ∧ ad.block < hi) ∧ w.heap.size ≤ lo
section
variable {w wr w' : World} {t t' : TypeId} {V Vx : Nat} {m mx : Int} {A Ax : Option Addr} {n c nx cx lo hi lox hix : Nat} {ps qs : List Pg}
theorem VB.keep (h : VB w t V m A n c ps lo hi wr) (k : wr.grownBy w' none) : VB w t V m A n c ps lo hi w' :=
  ⟨h.1.keep k, h.2.1, (h.2.2.1.kept k).here, h.2.2.2.1, grown_trans h.2.2.2.2 k⟩
theorem VB.cells (h : VB w t V m A n c ps lo hi wr) : wr.cell? ⟨V, 0, none⟩ = some (.int .i64 m) ∧ wr.cell? ⟨V, 1, none⟩ = some (.slice A n c) ∧ V < wr.heap.size := ⟨h.1.cell 0, h.1.cell 1, h.1.lt⟩
theorem VO.keep (h : VO w t V m A n c ps lo hi wr) (k : wr.grownBy w' none) : VO w t V m A n c ps lo hi w' := ⟨h.1.keep k, h.2.1.keep k, h.2.2⟩
theorem VO.cells (h : VO w t V m A n c ps lo hi wr) : wr.cell? ⟨V, 0, none⟩ = some (.int .i64 m) ∧ wr.cell? ⟨V, 1, none⟩ = some (.slice A n c) ∧ V < wr.heap.size := h.1.cells
/-- A block that a call has made goes into a new variable. -/
theorem VO.start (hG : w.grownBy wr none) (hl : ps.length = n) (ho : Own wr lo (.slice A n c) ps) (hlo : w.heap.size ≤ lo) :
    VO w t wr.heap.size m A n c ps lo wr.heap.size (wr.alloc (.cells #[.int .i64 m, .slice A n c] t)) := by
  have hb : ∀ ad, A = some ad → lo ≤ ad.block ∧ ad.block < wr.heap.size := fun ad e => by
    subst e
    exact ⟨(World.ownsRow.lt ho _ rfl).1, (World.ownsRow.lt ho _ rfl).2⟩
  exact ⟨⟨Blk.new wr _ _, hl, (ho.row.alloc _).here, fun _ => hb, grown_alloc hG _⟩, ho.keep (grown_alloc (grown_refl _ _) _), hb, hlo⟩
/-- Another row has been written to. -/
theorem VB.marked (h : VB w t V m A n c ps lo hi wr) (hx : VO w t' Vx mx Ax nx cx qs lox hix wr) (ht : t ≠ 34) (hd : hi ≤ lox ∨ hix ≤ lo)
    (k : wr.grownBy w' (Value.slice Ax nx cx).ownBlock) : VB w t V m A n c ps lo hi w' := by
  rcases Ax with _ | ad
  · exact h.keep k
  · have hb := hx.2.2.1 ad rfl
    have hlo := hx.2.2.2
    have hV : V ≠ ad.block := hx.2.1.apart h.1 ht
    have k' : wr.grownBy w' (some ad.block) := k
    refine ⟨h.1.grown k' (by intro e; injection e with e; exact hV e), h.2.1, fun hn => ?_, h.2.2.2.1, grown_join h.2.2.2.2 k' (by omega)⟩
    obtain ⟨g, off, e, _, hz, hc⟩ := h.2.2.1 hn
    have hg := h.2.2.2.1 hn _ e
    have hne : g ≠ ad.block := by
      have h1 : (⟨g, off, none⟩ : Addr).block = g := rfl
      rw [h1] at hg
      omega
    exact ⟨g, off, e, Nat.lt_of_lt_of_le hz k'.size, Nat.lt_of_lt_of_le hz k'.size, fun i q hq => (hc i q hq).keep fun r hr => World.cell?_of_block (k'.block r.block (by omega) (fun e2 => by injection e2 with e2; omega))⟩
theorem VO.marked (h : VO w t V m A n c ps lo hi wr) (hx : VO w t' Vx mx Ax nx cx qs lox hix wr) (ht : t ≠ 34) (hd : hi ≤ lox ∨ hix ≤ lo)
    (k : wr.grownBy w' (Value.slice Ax nx cx).ownBlock) : VO w t V m A n c ps lo hi w' := by
  refine ⟨h.1.marked hx ht hd k, h.2.1.kept k ?_, h.2.2⟩
  rcases A with _ | ad
  · exact .inl rfl
  · rcases Ax with _ | ax
    · exact .inr (by simp [Value.ownBlock])
    · have h1 := h.2.2.1 ad rfl
      have h2 := hx.2.2.1 ax rfl
      exact .inr (by simp [Value.ownBlock]; omega)
/-- The row itself has been written to. -/
theorem VO.self (hx : VO w t Vx mx Ax nx cx qs lox hix wr) (ht : t ≠ 34)
    (k : wr.grownBy w' (Value.slice Ax nx cx).ownBlock) (ho' : Own w' lox (.slice Ax nx cx) ps) (hl : ps.length = nx) : VO w t Vx mx Ax nx cx ps lox hix w' := by
  refine ⟨?_, ho', hx.2.2⟩
  rcases Ax with _ | ad
  · exact ⟨(hx.1.keep k).1, hl, ho'.row, fun _ => hx.2.2.1, (hx.1.keep k).2.2.2.2⟩
  · have hb := hx.2.2.1 ad rfl
    have hlo := hx.2.2.2
    have hV : Vx ≠ ad.block := hx.2.1.apart hx.1.1 ht
    have k' : wr.grownBy w' (some ad.block) := k
    exact ⟨hx.1.1.grown k' (by intro e; injection e with e; exact hV e), hl, ho'.row, fun _ => hx.2.2.1, grown_join hx.1.2.2.2.2 k' (by omega)⟩
end
/-- The mark, its number told by an equation. -/
def MarkedV (v : Int) (A : Option Addr) (n c base : Nat) (w : World) (e : Ending) (w' : World) : Prop :=
  e = .returned (.int .i64 v) ∧ Own w' base (.slice A n c) (marks 1 n) ∧ w.grownBy w' (Value.slice A n c).ownBlock
end Go.Proofs.Ytbhbbfpafonaiaa
