/- What the exact laws of chapter 4 carry along: blocks in variables, and where their pages lie.
   What the exact law of WriteBlock carries along besides. -/
import Derived.Test.YtfiajbkmklcaiaaExactRows
import Derived.Test.YtfiajbkmklcaiaaAggRows
import Derived.Test.YtfiajbkmklcaiaaDrawBlocks
namespace Go.Proofs.Ytfiajbkmklcaiaa
open Go.ChangeShapes Go.WideShapes Go.ChangeAt Go.RowKit

theorem Own.apart {w : World} {base V n c : Nat} {ad : Addr} {ps : List Pg} {t : TypeId} {cs : Array Value} (ho : Own w base (.slice (some ad) n c) ps) (hb : Blk w V t cs) (ht : t ≠ 37) : V ≠ ad.block := by
  rcases ho.2 with ⟨e, _⟩ | ⟨g', cap, cur, e, _, hh, _⟩
  · cases e
  · injection e with e; injection e with e; subst e
    rintro rfl
    unfold Blk at hb
    rw [hh] at hb
    injection hb with hb
    injection hb with _ h2
    exact ht h2.symm
/-- The variable's block V (of type t) holds a block; its pages lie in blocks lo .. hi - 1. -/
def VB (w : World) (t : TypeId) (V : Nat) (m : Int) (A : Option Addr) (n c : Nat) (ps : List Pg) (lo hi : Nat) (wr : World) : Prop :=
  Blk wr V t #[.int .i64 m, .slice A n c] ∧ ps.length = n ∧ Row wr wr.heap.size A ps ∧ (0 < ps.length → ∀ ad, A = some ad → lo ≤ ad.block ∧ ad.block < hi) ∧ w.grownBy wr none
/-- The same of pages that the call owns. -/
def VO (w : World) (t : TypeId) (V : Nat) (m : Int) (A : Option Addr) (n c : Nat) (ps : List Pg) (lo hi : Nat) (wr : World) : Prop :=
  VB w t V m A n c ps lo hi wr ∧ Own wr lo (.slice A n c) ps ∧ (∀ ad, A = some ad → lo ≤ ad.block ∧ ad.block < hi) ∧ w.heap.size ≤ lo
section
variable {w wr w' : World} {t t' : TypeId} {V Vx : Nat} {m mx : Int} {A Ax : Option Addr} {n c nx cx lo hi lox hix : Nat} {ps qs : List Pg}
theorem VB.keep (h : VB w t V m A n c ps lo hi wr) (k : wr.grownBy w' none) : VB w t V m A n c ps lo hi w' :=
  ⟨h.1.keep k, h.2.1, (h.2.2.1.kept k).here, h.2.2.2.1, grown_trans h.2.2.2.2 k⟩
theorem VB.cells (h : VB w t V m A n c ps lo hi wr) : wr.cell? ⟨V, 0, none⟩ = some (.int .i64 m) ∧ wr.cell? ⟨V, 1, none⟩ = some (.slice A n c) ∧ V < wr.heap.size := ⟨h.1.cell 0, h.1.cell 1, h.1.lt⟩
theorem VO.keep (h : VO w t V m A n c ps lo hi wr) (k : wr.grownBy w' none) : VO w t V m A n c ps lo hi w' := ⟨h.1.keep k, h.2.1.keep k, h.2.2⟩
theorem VO.cells (h : VO w t V m A n c ps lo hi wr) : wr.cell? ⟨V, 0, none⟩ = some (.int .i64 m) ∧ wr.cell? ⟨V, 1, none⟩ = some (.slice A n c) ∧ V < wr.heap.size := h.1.cells
/-- A block that a call has made goes into a new variable. -/
theorem VO.start (hG : w.grownBy wr none) (hl : ps.length = n) (ho : Own wr lo (.slice A n c) ps) (hlo : w.heap.size ≤ lo) :
    VO w t wr.heap.size m A n c ps lo wr.heap.size (wr.alloc (.cells #[.int .i64 m, .slice A n c] t)) := by
  have hb : ∀ ad, A = some ad → lo ≤ ad.block ∧ ad.block < wr.heap.size := fun ad e => by
    subst e
    exact ⟨(World.ownsRow.lt ho _ rfl).1, (World.ownsRow.lt ho _ rfl).2⟩
  exact ⟨⟨Blk.new wr _ _, hl, (ho.row.alloc _).here, fun _ => hb, grown_alloc hG _⟩, ho.keep (grown_alloc (grown_refl _ _) _), hb, hlo⟩
/-- Another row has been written to. -/
theorem VB.marked (h : VB w t V m A n c ps lo hi wr) (hx : VO w t' Vx mx Ax nx cx qs lox hix wr) (ht : t ≠ 37) (hd : hi ≤ lox ∨ hix ≤ lo)
    (k : wr.grownBy w' (Value.slice Ax nx cx).ownBlock) : VB w t V m A n c ps lo hi w' := by
  rcases Ax with _ | ad
  · exact h.keep k
  · have hb := hx.2.2.1 ad rfl
    have hlo := hx.2.2.2
    have hV : V ≠ ad.block := hx.2.1.apart h.1 ht
    have k' : wr.grownBy w' (some ad.block) := k
    refine ⟨h.1.grown k' (by intro e; injection e with e; exact hV e), h.2.1, fun hn => ?_, h.2.2.2.1, grown_join h.2.2.2.2 k' (by omega)⟩
    obtain ⟨g, off, e, _, hz, hc⟩ := h.2.2.1 hn
    have hg := h.2.2.2.1 hn _ e
    have hne : g ≠ ad.block := by
      have h1 : (⟨g, off, none⟩ : Addr).block = g := rfl
      rw [h1] at hg
      omega
    exact ⟨g, off, e, Nat.lt_of_lt_of_le hz k'.size, Nat.lt_of_lt_of_le hz k'.size, fun i q hq => (hc i q hq).keep fun r hr => World.cell?_of_block (k'.block r.block (by omega) (fun e2 => by injection e2 with e2; omega))⟩
theorem VO.marked (h : VO w t V m A n c ps lo hi wr) (hx : VO w t' Vx mx Ax nx cx qs lox hix wr) (ht : t ≠ 37) (hd : hi ≤ lox ∨ hix ≤ lo)
    (k : wr.grownBy w' (Value.slice Ax nx cx).ownBlock) : VO w t V m A n c ps lo hi w' := by
  refine ⟨h.1.marked hx ht hd k, h.2.1.kept k ?_, h.2.2⟩
  rcases A with _ | ad
  · exact .inl rfl
  · rcases Ax with _ | ax
    · exact .inr (by simp [Value.ownBlock])
    · have h1 := h.2.2.1 ad rfl
      have h2 := hx.2.2.1 ax rfl
      exact .inr (by simp [Value.ownBlock]; omega)
/-- The row itself has been written to. -/
theorem VO.self (hx : VO w t Vx mx Ax nx cx qs lox hix wr) (ht : t ≠ 37)
    (k : wr.grownBy w' (Value.slice Ax nx cx).ownBlock) (ho' : Own w' lox (.slice Ax nx cx) ps) (hl : ps.length = nx) : VO w t Vx mx Ax nx cx ps lox hix w' := by
  refine ⟨?_, ho', hx.2.2⟩
  rcases Ax with _ | ad
  · exact ⟨(hx.1.keep k).1, hl, ho'.row, fun _ => hx.2.2.1, (hx.1.keep k).2.2.2.2⟩
  · have hb := hx.2.2.1 ad rfl
    have hlo := hx.2.2.2
    have hV : Vx ≠ ad.block := hx.2.1.apart hx.1.1 ht
    have k' : wr.grownBy w' (some ad.block) := k
    exact ⟨hx.1.1.grown k' (by intro e; injection e with e; exact hV e), hl, ho'.row, fun _ => hx.2.2.1, grown_join hx.1.2.2.2.2 k' (by omega)⟩
end
/-- The mark, its number told by an equation. -/
def MarkedV (v : Int) (A : Option Addr) (n c base : Nat) (w : World) (e : Ending) (w' : World) : Prop :=
  e = .returned (.int .i64 v) ∧ Own w' base (.slice A n c) (marks 1 n) ∧ w.grownBy w' (Value.slice A n c).ownBlock
theorem VB.arg {w : World} {m : Int} {A : Option Addr} {n c : Nat} {ps : List Pg} (h : IsPages w A n c ps) : VB w 93 w.heap.size m A n c ps 0 w.heap.size (w.alloc (.cells #[.int .i64 m, .slice A n c] 93)) := by
  refine ⟨Blk.new w _ _, h.1, (h.2.2.2.alloc _).here, fun hn ad e => ?_, grown_alloc (grown_refl _ _) _⟩
  obtain ⟨g, off, e2, hb, _, _⟩ := h.2.2.2 hn
  rw [e] at e2
  injection e2 with e2
  subst e2
  exact ⟨Nat.zero_le _, hb⟩
end Go.Proofs.Ytfiajbkmklcaiaa
namespace Go.Proofs.Ytfiajbkmklcaiaa
open Go.ChangeShapes Go.WideShapes Go.ChangeAt Go.RowKit

/-- What WriteBlock answers. -/
def WriteIs (m : Int) (ps : List Pg) (f : Bool) (x1 x2 x3 x4 : Int) (m1 : Int) (n1 : Nat) (ps1 : List Pg) (r : Int) : Prop :=
  (((blockB m ps && (f && pageB f x1 x2 x3 x4)) = false) ∧ m1 = 0 ∧ n1 = 0 ∧ ps1 = [] ∧ r = -1) ∨
  (blockB m ps = true ∧ f = true ∧ pageB true x1 x2 x3 x4 = true ∧ nextV m ps = -1 ∧ m1 = m ∧ n1 = 4 ∧ ps1 = ps ∧ r = -1) ∨
  (∃ k : Nat, blockB m ps = true ∧ f = true ∧ pageB true x1 x2 x3 x4 = true ∧ nextV m ps = (k : Int) ∧ k < 4 ∧ m1 = m ∧ n1 = 4 ∧ ps1 = ps.set k ⟨true, x1, x2, x3, x4⟩ ∧ r = (k : Int))
theorem write_is (m : Int) (ps : List Pg) (f : Bool) (x1 x2 x3 x4 : Int) : ∃ m1 n1 ps1 r, WriteIs m ps f x1 x2 x3 x4 m1 n1 ps1 r ∧ n1 ≤ 4 := by
  cases h : (blockB m ps && (f && pageB f x1 x2 x3 x4))
  · exact ⟨0, 0, [], -1, .inl ⟨h, rfl, rfl, rfl, rfl⟩, by omega⟩
  · simp only [Bool.and_eq_true] at h
    obtain ⟨hv, rfl, hp⟩ := h
    rcases next_cases m ps with hn | ⟨k, hk, h4, _⟩
    · exact ⟨m, 4, ps, -1, .inr (.inl ⟨hv, rfl, hp, hn, rfl, rfl, rfl, rfl⟩), by omega⟩
    · exact ⟨m, 4, _, k, .inr (.inr ⟨k, hv, rfl, hp, hk, h4, rfl, rfl, rfl, rfl⟩), by omega⟩
theorem specWrite_val {m : Int} {ps : List Pg} {f : Bool} {x1 x2 x3 x4 m1 : Int} {n1 : Nat} {ps1 : List Pg} {r : Int} (h : WriteIs m ps f x1 x2 x3 x4 m1 n1 ps1 r) (A : Option Addr) (n c : Nat) (w : World) (hl : ps.length = n) (hr : Row w w.heap.size A ps) (hn : n ≤ 1048576) :
    Calls Try.prog 117 #[.agg #[.int .i64 m, .slice A n c], .agg #[.bool f, .int .i64 x1, .int .i64 x2, .int .i64 x3, .int .i64 x4]] w (Made2 m1 n1 ps1 (.int .i64 r) w) := by
  rcases h with ⟨hb, rfl, rfl, rfl, rfl⟩ | ⟨hv, rfl, hp, hx, rfl, rfl, rfl, rfl⟩ | ⟨k, hv, rfl, hp, hx, h4, rfl, rfl, rfl, rfl⟩
  · cases hv : blockB m ps
    · exact specWrite_bad m A n c f x1 x2 x3 x4 ps w hl hr hn hv
    · rw [hv, Bool.true_and] at hb
      exact specWrite_page m A n c f x1 x2 x3 x4 ps w hl hr hn hv hb
  · have hn4 := (block_parts hv).2.1.symm.trans hl
    subst hn4
    exact specWrite_full _ A c x1 x2 x3 x4 _ w hr hv hp hx
  · have hn4 := (block_parts hv).2.1.symm.trans hl
    subst hn4
    exact specWrite_at _ A c x1 x2 x3 x4 ps w hr hv hp hx h4

section
variable {w wr w' : World} {t t' : TypeId} {V Vx D : Nat} {m mx : Int} {A Ax : Option Addr} {n c nx cx lo hi lox hix : Nat} {ps qs : List Pg} {cs : Array Value}
theorem Blk.marked (h : Blk wr V t cs) (hx : VO w t' Vx mx Ax nx cx qs lox hix wr) (ht : t ≠ 37) (k : wr.grownBy w' (Value.slice Ax nx cx).ownBlock) : Blk w' V t cs := by
  rcases Ax with _ | ad
  · exact h.keep k
  · have hV : V ≠ ad.block := hx.2.1.apart h ht
    have k' : wr.grownBy w' (some ad.block) := k
    exact h.grown k' (by intro e; injection e with e; exact hV e)
/-- A variable made ahead of the call is written. -/
theorem VO.put (hG : w.grownBy wr none) (hl : ps.length = n) (ho : Own wr lo (.slice A n c) ps) (hlo : w.heap.size ≤ lo) (hD : Blk wr D 96 #[.int .i64 0, .slice none 0 0]) (hDw : w.heap.size ≤ D) :
    VO w 96 D m A n c ps lo wr.heap.size ((wr.setCell ⟨D, 0, none⟩ (.int .i64 m)).setCell ⟨D, 1, none⟩ (.slice A n c)) := by
  have hb : ∀ ad, A = some ad → lo ≤ ad.block ∧ ad.block < wr.heap.size := fun ad e => by
    subst e
    exact ⟨(World.ownsRow.lt ho _ rfl).1, (World.ownsRow.lt ho _ rfl).2⟩
  have hne : (Value.slice A n c).ownBlock ≠ some D := by
    rcases A with _ | ad
    · simp [Value.ownBlock]
    · have := ho.apart hD (by decide)
      simpa [Value.ownBlock] using (Ne.symm this)
  have ho' := (ho.to_put (k := 0) hne (.int .i64 m)).to_put (k := 1) hne (.slice A n c)
  exact ⟨⟨(hD.put 0 _).put 1 _, hl, ho'.row, fun _ => hb, grown_put (grown_put hG hDw _) hDw _⟩, ho', hb, hlo⟩
theorem VB.store (h : VB w t V m A n c ps lo hi wr) (hV : V ≠ D) (hd : hi ≤ D) (hD : w.heap.size ≤ D) (u0 u1 : Value) : VB w t V m A n c ps lo hi ((wr.setCell ⟨D, 0, none⟩ u0).setCell ⟨D, 1, none⟩ u1) := by
  refine ⟨(h.1.far hV _).far hV _, h.2.1, fun hn => ?_, h.2.2.2.1, grown_put (grown_put h.2.2.2.2 hD _) hD _⟩
  obtain ⟨g, off, rfl, hb, hz, hc⟩ := h.2.2.1 hn
  have hg := h.2.2.2.1 hn _ rfl
  have hg2 : g < hi := hg.2
  exact ⟨g, off, rfl, by simpa [World.setCell] using hz, by simpa [World.setCell] using hz, fun i q hq => ((hc i q hq).keep fun r hr => World.cell?_setCell_other wr ⟨D, 0, none⟩ r _ (fun e => by subst e; simp at hr; omega)).keep fun r hr => World.cell?_setCell_other _ ⟨D, 1, none⟩ r _ (fun e => by subst e; simp at hr; omega)⟩
theorem VO.store (h : VO w t V m A n c ps lo hi wr) (hV : V ≠ D) (hd : hi ≤ D) (hD : w.heap.size ≤ D) (u0 u1 : Value) : VO w t V m A n c ps lo hi ((wr.setCell ⟨D, 0, none⟩ u0).setCell ⟨D, 1, none⟩ u1) := by
  have hne : (Value.slice A n c).ownBlock ≠ some D := by
    rcases A with _ | ad
    · simp [Value.ownBlock]
    · have := h.2.2.1 ad rfl
      simp [Value.ownBlock]; omega
  exact ⟨h.1.store hV hd hD u0 u1, (h.2.1.to_put hne _).to_put hne _, h.2.2⟩
theorem Blk.store (h : Blk wr V t cs) (hV : V ≠ D) (u0 u1 : Value) : Blk ((wr.setCell ⟨D, 0, none⟩ u0).setCell ⟨D, 1, none⟩ u1) V t cs := (h.far hV _).far hV _
theorem size_set2 (wr : World) (D : Nat) (u0 u1 : Value) : ((wr.setCell ⟨D, 0, none⟩ u0).setCell ⟨D, 1, none⟩ u1).heap.size = wr.heap.size := by simp [World.setCell]
end
end Go.Proofs.Ytfiajbkmklcaiaa
