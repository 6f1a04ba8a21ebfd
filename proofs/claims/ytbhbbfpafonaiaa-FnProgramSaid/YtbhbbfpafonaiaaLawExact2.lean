/- What the exact law of WriteBlock carries along besides. -/
import Derived.Test.YtbhbbfpafonaiaaLawExact
import Derived.Test.YtbhbbfpafonaiaaDrawBlocks
namespace Go.Proofs.Ytbhbbfpafonaiaa
open Go.ChangeShapes Go.WideShapes Go.ChangeAt Go.RowKit

/-- What WriteBlock answers. -/
def WriteIs (m : Int) (ps : List Pg) (f : Bool) (x1 x2 x3 x4 : Int) (m1 : Int) (n1 : Nat) (ps1 : List Pg) (r : Int) : Prop :=
  (((blockB m ps && (f && pageB f x1 x2 x3 x4)) = false) ∧ m1 = 0 ∧ n1 = 0 ∧ ps1 = [] ∧ r = -1) ∨
  (blockB m ps = true ∧ f = true ∧ pageB true x1 x2 x3 x4 = true ∧ nextV m ps = -1 ∧ m1 = m ∧ n1 = 4 ∧ ps1 = ps ∧ r = -1) ∨
  (∃ k : Nat, blockB m ps = true ∧ f = true ∧ pageB true x1 x2 x3 x4 = true ∧ nextV m ps = (k : Int) ∧ k < 4 ∧ m1 = m ∧ n1 = 4 ∧ ps1 = ps.set k ⟨true, x1, x2, x3, x4⟩ ∧ r = (k : Int))
theorem write_is (m : Int) (ps : List Pg) (f : Bool) (x1 x2 x3 x4 : Int) : ∃ m1 n1 ps1 r, WriteIs m ps f x1 x2 x3 x4 m1 n1 ps1 r ∧ n1 ≤ 4 := by
  cases h : (blockB m ps && (f && pageB f x1 x2 x3 x4))
  · exact ⟨0, 0, [], -1, .inl ⟨h, rfl, rfl, rfl, rfl⟩, by omega⟩
  · simp only [Bool.and_eq_true] at h
    obtain ⟨hv, rfl, hp⟩ := h
    rcases next_cases m ps with hn | ⟨k, hk, h4, _⟩
    · exact ⟨m, 4, ps, -1, .inr (.inl ⟨hv, rfl, hp, hn, rfl, rfl, rfl, rfl⟩), by omega⟩
    · exact ⟨m, 4, _, k, .inr (.inr ⟨k, hv, rfl, hp, hk, h4, rfl, rfl, rfl, rfl⟩), by omega⟩
theorem write_val {m : Int} {ps : List Pg} {f : Bool} {x1 x2 x3 x4 m1 : Int} {n1 : Nat} {ps1 : List Pg} {r : Int} (h : WriteIs m ps f x1 x2 x3 x4 m1 n1 ps1 r) (A : Option Addr) (n c : Nat) (w : World) (hl : ps.length = n) (hr : Row w w.heap.size A ps) (hn : n ≤ 1048576) :
    Calls Try.prog 30 #[.agg #[.int .i64 m, .slice A n c], .agg #[.bool f, .int .i64 x1, .int .i64 x2, .int .i64 x3, .int .i64 x4]] w (Made2 m1 n1 ps1 (.int .i64 r) w) := by
  rcases h with ⟨hb, rfl, rfl, rfl, rfl⟩ | ⟨hv, rfl, hp, hx, rfl, rfl, rfl, rfl⟩ | ⟨k, hv, rfl, hp, hx, h4, rfl, rfl, rfl, rfl⟩
  · cases hv : blockB m ps
    · exact write_bad m A n c f x1 x2 x3 x4 ps w hl hr hn hv
    · rw [hv, Bool.true_and] at hb
      exact write_page m A n c f x1 x2 x3 x4 ps w hl hr hn hv hb
  · have hn4 := (block_parts hv).2.1.symm.trans hl
    subst hn4
    exact write_full _ A c x1 x2 x3 x4 _ w hr hv hp hx
  · have hn4 := (block_parts hv).2.1.symm.trans hl
    subst hn4
    exact write_at _ A c x1 x2 x3 x4 ps w hr hv hp hx h4
theorem specWrite_val {m : Int} {ps : List Pg} {f : Bool} {x1 x2 x3 x4 m1 : Int} {n1 : Nat} {ps1 : List Pg} {r : Int} (h : WriteIs m ps f x1 x2 x3 x4 m1 n1 ps1 r) (A : Option Addr) (n c : Nat) (w : World) (hl : ps.length = n) (hr : Row w w.heap.size A ps) (hn : n ≤ 1048576) :
    Calls Try.prog 34 #[.agg #[.int .i64 m, .slice A n c], .agg #[.bool f, .int .i64 x1, .int .i64 x2, .int .i64 x3, .int .i64 x4]] w (Made2 m1 n1 ps1 (.int .i64 r) w) := by
  rcases h with ⟨hb, rfl, rfl, rfl, rfl⟩ | ⟨hv, rfl, hp, hx, rfl, rfl, rfl, rfl⟩ | ⟨k, hv, rfl, hp, hx, h4, rfl, rfl, rfl, rfl⟩
  · cases hv : blockB m ps
    · exact specWrite_bad m A n c f x1 x2 x3 x4 ps w hl hr hn hv
    · rw [hv, Bool.true_and] at hb
      exact specWrite_page m A n c f x1 x2 x3 x4 ps w hl hr hn hv hb
  · have hn4 := (block_parts hv).2.1.symm.trans hl
    subst hn4
    exact specWrite_full _ A c x1 x2 x3 x4 _ w hr hv hp hx
  · have hn4 := (block_parts hv).2.1.symm.trans hl
    subst hn4
    exact specWrite_at _ A c x1 x2 x3 x4 ps w hr hv hp hx h4

section
variable {w wr w' : World} {t t' : TypeId} {V Vx D : Nat} {m mx : Int} {A Ax : Option Addr} {n c nx cx lo hi lox hix : Nat} {ps qs : List Pg} {cs : Array Value}
theorem Blk.marked (h : Blk wr V t cs) (hx : VO w t' Vx mx Ax nx cx qs lox hix wr) (ht : t ≠ 34) (k : wr.grownBy w' (Value.slice Ax nx cx).ownBlock) : Blk w' V t cs := by
  rcases Ax with _ | ad
  · exact h.keep k
  · have hV : V ≠ ad.block := hx.2.1.apart h ht
    have k' : wr.grownBy w' (some ad.block) := k
    exact h.grown k' (by intro e; injection e with e; exact hV e)
/-- A variable made ahead of the call is written. -/
theorem VO.put (hG : w.grownBy wr none) (hl : ps.length = n) (ho : Own wr lo (.slice A n c) ps) (hlo : w.heap.size ≤ lo) (hD : Blk wr D 28 #[.int .i64 0, .slice none 0 0]) (hDw : w.heap.size ≤ D) :
    VO w 28 D m A n c ps lo wr.heap.size ((wr.setCell ⟨D, 0, none⟩ (.int .i64 m)).setCell ⟨D, 1, none⟩ (.slice A n c)) := by
  have hb : ∀ ad, A = some ad → lo ≤ ad.block ∧ ad.block < wr.heap.size := fun ad e => by
    subst e
    exact ⟨(World.ownsRow.lt ho _ rfl).1, (World.ownsRow.lt ho _ rfl).2⟩
  have hne : (Value.slice A n c).ownBlock ≠ some D := by
    rcases A with _ | ad
    · simp [Value.ownBlock]
    · have := ho.apart hD (by decide)
      simpa [Value.ownBlock] using (Ne.symm this)
  have ho' := (ho.to_put (k := 0) hne (.int .i64 m)).to_put (k := 1) hne (.slice A n c)
  exact ⟨⟨(hD.put 0 _).put 1 _, hl, ho'.row, fun _ => hb, grown_put (grown_put hG hDw _) hDw _⟩, ho', hb, hlo⟩
theorem VB.store (h : VB w t V m A n c ps lo hi wr) (hV : V ≠ D) (hd : hi ≤ D) (hD : w.heap.size ≤ D) (u0 u1 : Value) : VB w t V m A n c ps lo hi ((wr.setCell ⟨D, 0, none⟩ u0).setCell ⟨D, 1, none⟩ u1) := by
  refine ⟨(h.1.far hV _).far hV _, h.2.1, fun hn => ?_, h.2.2.2.1, grown_put (grown_put h.2.2.2.2 hD _) hD _⟩
  obtain ⟨g, off, rfl, hb, hz, hc⟩ := h.2.2.1 hn
  have hg := h.2.2.2.1 hn _ rfl
  have hg2 : g < hi := hg.2
  exact ⟨g, off, rfl, by simpa [World.setCell] using hz, by simpa [World.setCell] using hz, fun i q hq => ((hc i q hq).keep fun r hr => World.cell?_setCell_other wr ⟨D, 0, none⟩ r _ (fun e => by subst e; simp at hr; omega)).keep fun r hr => World.cell?_setCell_other _ ⟨D, 1, none⟩ r _ (fun e => by subst e; simp at hr; omega)⟩
theorem VO.store (h : VO w t V m A n c ps lo hi wr) (hV : V ≠ D) (hd : hi ≤ D) (hD : w.heap.size ≤ D) (u0 u1 : Value) : VO w t V m A n c ps lo hi ((wr.setCell ⟨D, 0, none⟩ u0).setCell ⟨D, 1, none⟩ u1) := by
  have hne : (Value.slice A n c).ownBlock ≠ some D := by
    rcases A with _ | ad
    · simp [Value.ownBlock]
    · have := h.2.2.1 ad rfl
      simp [Value.ownBlock]; omega
  exact ⟨h.1.store hV hd hD u0 u1, (h.2.1.to_put hne _).to_put hne _, h.2.2⟩
theorem Blk.store (h : Blk wr V t cs) (hV : V ≠ D) (u0 u1 : Value) : Blk ((wr.setCell ⟨D, 0, none⟩ u0).setCell ⟨D, 1, none⟩ u1) V t cs := (h.far hV _).far hV _
theorem size_set2 (wr : World) (D : Nat) (u0 u1 : Value) : ((wr.setCell ⟨D, 0, none⟩ u0).setCell ⟨D, 1, none⟩ u1).heap.size = wr.heap.size := by simp [World.setCell]
end
end Go.Proofs.Ytbhbbfpafonaiaa
