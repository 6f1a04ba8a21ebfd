/- Chapter 4, further: copies and new blocks of both. -/
import Derived.Test.YtbhbbfpafonaiaaBlocks3
import Derived.Test.YtbhbbfpafonaiaaHand
namespace Go.Proofs.Ytbhbbfpafonaiaa
open Go.ChangeShapes Go.WideShapes Go.ChangeAt Go.RowKit

/-- A block is returned whose n pages lie in memory of its own. -/
def Made (m : Int) (n : Nat) (ps : List Pg) (w : World) (e : Ending) (w' : World) : Prop :=
  ∃ A c, e = .returned (.agg #[.int .i64 m, .slice A n c]) ∧ ps.length = n ∧ Own w' w.heap.size (.slice A n c) ps ∧ w.grownBy w' none
/-- The zero value is returned. -/
theorem made_zero {w w' : World} (h : w.grownBy w' none) : Made 0 0 [] w (.returned (.agg #[.int .i64 0, .slice none 0 0])) w' := ⟨none, 0, rfl, rfl, World.ownsRow_nil _ _ _ _, h⟩
theorem Own.to_put {w : World} {base g k : Nat} {v : Value} {ps : List Pg} (h : Own w base v ps) (hv : v.ownBlock ≠ some g) (u : Value) : Own (w.setCell ⟨g, k, none⟩ u) base v ps :=
  h.kept (grown_set (g := g) (grown_refl _ _) (.inl rfl) u) (.inr hv)

theorem copyBlock_any (m : Int) (A : Option Addr) (c n : Nat) (ps : List Pg) (w : World) (hl : ps.length = n) (hr : Row w w.heap.size A ps) (hpos : 0 < n) (hn : n ≤ 1048576) :
    Calls Try.prog 47 #[.agg #[.int .i64 m, .slice A n c]] w (Made m n ps w) := by
  have hR := (((hr.alloc (.cells #[.int .i64 m, .slice A n c] 28)).alloc (.cells #[.int .i64 0, .slice none 0 0] 28)).alloc (.cells (madeCells #[.bool false, .int .i64 0, .int .i64 0, .int .i64 0, .int .i64 0] (n * 5)) 34))
  have hO := own_made ((w.alloc (.cells #[.int .i64 m, .slice A n c] 28)).alloc (.cells #[.int .i64 0, .slice none 0 0] 28)) w.heap.size n (by simp only [size_alloc1]; omega) (by simp only [maxLen]; omega)
  obtain ⟨w3, hrun, hown, hg3⟩ := copy_pages _ _ _ _ c _ _ n _ ps (by simp) hl hpos hO hR
  simp only [size_alloc1] at hrun hown hg3
  have hB := (((Blk.new w 28 #[.int .i64 m, .slice A n c]).alloc (.cells #[.int .i64 0, .slice none 0 0] 28)).alloc (.cells (madeCells #[.bool false, .int .i64 0, .int .i64 0, .int .i64 0, .int .i64 0] (n * 5)) 34)).grown hg3 (by intro e; injection e with e; omega)
  have hC := ((Blk.new (w.alloc (.cells #[.int .i64 m, .slice A n c] 28)) 28 #[.int .i64 0, .slice none 0 0]).alloc (.cells (madeCells #[.bool false, .int .i64 0, .int .i64 0, .int .i64 0, .int .i64 0] (n * 5)) 34)).grown hg3 (by intro e; injection e with e; simp only [size_alloc1] at e; omega)
  simp only [size_alloc1] at hC
  have hG := grown_join (grown_alloc (grown_alloc (grown_alloc (grown_refl w none) (.cells #[.int .i64 m, .slice A n c] 28)) (.cells #[.int .i64 0, .slice none 0 0] 28)) (.cells (madeCells #[.bool false, .int .i64 0, .int .i64 0, .int .i64 0, .int .i64 0] (n * 5)) 34)) hg3 (by omega)
  have hmk := fun W => make_pages W n hn
  have b0 : w3.cell? ⟨w.heap.size, 0, none⟩ = some (.int .i64 m) := hB.cell 0
  have b1 : w3.cell? ⟨w.heap.size, 1, none⟩ = some (.slice A n c) := hB.cell 1
  have r0 : w3.cell? ⟨w.heap.size + 1, 0, none⟩ = some (.int .i64 0) := hC.cell 0
  have r1 : w3.cell? ⟨w.heap.size + 1, 1, none⟩ = some (.slice none 0 0) := hC.cell 1
  have q0 : w3.frozen? ⟨w.heap.size + 1, 0, none⟩ = false := hC.frozen 0
  have q1 : w3.frozen? ⟨w.heap.size + 1, 1, none⟩ = false := hC.frozen 1
  have HX := Lib.hid (And.intro hl (And.intro hown hG))
  clear hR hO hown hg3 hB hC hG hl hr
  go_enter Try.func47, Try.ntmps47
  go_wp2
  exact bodyPost_ret (v := .agg #[.int .i64 m, .slice (some ⟨w.heap.size + 1 + 1, 0, none⟩) n n]) (by simp [results, Try.results47, go_sem, *]) rfl
    ⟨_, _, rfl, HX.out.1, (HX.out.2.1.to_put (by simp [Value.ownBlock]) _).to_put (by simp [Value.ownBlock]) _, grown_put (grown_put HX.out.2.2 (by simp) _) (by simp) _⟩

theorem specNewBlock_any (m : Int) (w : World) (h : inB m 0 100 = true) :
    Calls Try.prog 42 #[.int .i64 m] w (Made m 4 [pz, pz, pz, pz] w) := by
  have hO := own_made4 (w.alloc (.cells #[.int .i64 m, .slice (some ⟨w.heap.size + 1, 0, none⟩) 4 4] 28)) w.heap.size (by simp)
  simp only [size_alloc1] at hO
  have hmk := fun W => make_pages4 W
  have HX := Lib.hid (And.intro h hO)
  clear h hO
  go_enter Try.func42, Try.ntmps42
  go_wp2_with (go_at_call 23; refine (in_any _ _ _ _).mono ?_; rintro e w' ⟨rfl, rfl⟩; rw [HX.out.1])
  exact bodyPost_ret (v := .agg #[.int .i64 m, .slice (some ⟨w.heap.size + 1, 0, none⟩) 4 4]) (by simp [results, Try.results42, go_sem, *]) rfl
    ⟨_, _, rfl, rfl, HX.out.2, by repeat (first | exact grown_refl _ _ | refine grown_put ?_ (by simp) _ | refine grown_alloc ?_ _)⟩
theorem specNewBlock_no (m : Int) (w : World) (h : inB m 0 100 = false) :
    Calls Try.prog 42 #[.int .i64 m] w (Made 0 0 [] w) := by
  have HX := Lib.hid h
  clear h
  go_enter Try.func42, Try.ntmps42
  go_wp2_with (go_at_call 23; refine (in_any _ _ _ _).mono ?_; rintro e w' ⟨rfl, rfl⟩; rw [HX.out])
  exact bodyPost_ret (v := .agg #[.int .i64 0, .slice none 0 0]) (by simp [results, Try.results42, go_sem]) rfl (made_zero (by repeat (first | exact grown_refl _ _ | refine grown_put ?_ (by simp) _ | refine grown_alloc ?_ _)))
end Go.Proofs.Ytbhbbfpafonaiaa
