/- What the functions of chapter 3 answer, of the program and of the model, for every page; and the two helpers of the exact laws. -/
import Derived.Test.YtolpnloghogjjaaGreatRows
import Derived.Test.YtolpnloghogjjaaGreatZBits
import Derived.Test.YtolpnloghogjjaaGreatZDraw
import Derived.Deep.RegionHeld3
import Derived.Deep.DeepCutAuto
import Derived.Outline
namespace Go.Proofs.YtolpnloghogjjaaGreat
open Go.ChangeShapes Go.WideShapes Go.ChangeAt Go.RowKit

def KeptV (v : Value) (w : World) (e : Ending) (w' : World) : Prop := e = .returned v ∧ w.grownBy w' none
theorem isFile_any (n : Int) (w : World) :
    Calls Tryz.prog 49 #[.int .i64 n] w fun e w' => e = .returned (.bool (inB n 0 7)) ∧ w = w' := by
  go_enter Tryz.func49, Tryz.ntmps49
  go_wp2
  all_goals (go_ret; refine ⟨retB ?_, rfl⟩; rw [Bool.eq_iff_iff]; simp [inB]; omega)
theorem isFilePlace_any (n : Int) (w : World) :
    Calls Tryz.prog 133 #[.int .i64 n] w fun e w' => e = .returned (.bool (inB n 0 5)) ∧ w = w' := by
  go_enter Tryz.func133, Tryz.ntmps133
  go_wp2
  all_goals (go_ret; refine ⟨retB ?_, rfl⟩; rw [Bool.eq_iff_iff]; simp [inB]; omega)
theorem isValue_any (n : Int) (w : World) :
    Calls Tryz.prog 136 #[.int .i64 n] w fun e w' => e = .returned (.bool (inB n 0 9999)) ∧ w = w' := by
  go_enter Tryz.func136, Tryz.ntmps136
  go_wp2
  all_goals (go_ret; refine ⟨retB ?_, rfl⟩; rw [Bool.eq_iff_iff]; simp [inB]; omega)
theorem isStamp_any (n : Int) (w : World) :
    Calls Tryz.prog 32 #[.int .i64 n] w fun e w' => e = .returned (.bool (inB n 1 1000000)) ∧ w = w' := by
  go_enter Tryz.func32, Tryz.ntmps32
  go_wp2
  all_goals (go_ret; refine ⟨retB ?_, rfl⟩; rw [Bool.eq_iff_iff]; simp [inB]; omega)

theorem grown_put {a w : World} (h : a.grownBy w none) {p : Addr} (hp : a.heap.size ≤ p.block) (u : Value) : a.grownBy (w.setCell p u) none :=
  ⟨h.os, h.tape, h.output, by simpa [World.setCell] using h.size, fun i hi hne => (Below.heap_setCell w p u i (by omega)).trans (h.block i hi hne)⟩
theorem size_alloc1 (w : World) (o : Obj) : (w.alloc o).heap.size = w.heap.size + 1 := by simp
theorem Blk.keep {w w' : World} {g : Nat} {t : TypeId} {cs : Array Value} (h : Blk w g t cs) (k : w.grownBy w' none) : Blk w' g t cs := h.grown k (by simp)
theorem cells5 {w : World} {g : Nat} {t : TypeId} {u0 u1 u2 u3 u4 : Value} (h : Blk w g t #[u0, u1, u2, u3, u4]) :
    w.cell? ⟨g, 0, none⟩ = some u0 ∧ w.cell? ⟨g, 1, none⟩ = some u1 ∧ w.cell? ⟨g, 2, none⟩ = some u2 ∧ w.cell? ⟨g, 3, none⟩ = some u3 ∧ w.cell? ⟨g, 4, none⟩ = some u4 :=
  ⟨h.cell 0, h.cell 1, h.cell 2, h.cell 3, h.cell 4⟩
theorem Blk.put5 {w : World} {g k : Nat} {t : TypeId} {cs : Array Value} (h : Blk w g t cs) (hk : g ≠ k) (u0 u1 u2 u3 u4 : Value) :
    Blk (((((w.setCell ⟨k, 0, none⟩ u0).setCell ⟨k, 1, none⟩ u1).setCell ⟨k, 2, none⟩ u2).setCell ⟨k, 3, none⟩ u3).setCell ⟨k, 4, none⟩ u4) g t cs :=
  ((((h.far hk u0).far hk u1).far hk u2).far hk u3).far hk u4
theorem Blk.set5 {w : World} {k : Nat} {t : TypeId} {c0 c1 c2 c3 c4 : Value} (h : Blk w k t #[c0, c1, c2, c3, c4]) (u0 u1 u2 u3 u4 : Value) :
    Blk (((((w.setCell ⟨k, 0, none⟩ u0).setCell ⟨k, 1, none⟩ u1).setCell ⟨k, 2, none⟩ u2).setCell ⟨k, 3, none⟩ u3).setCell ⟨k, 4, none⟩ u4) k t #[u0, u1, u2, u3, u4] :=
  ((((h.put 0 u0).put 1 u1).put 2 u2).put 3 u3).put 4 u4
theorem grown_put5n {a w : World} {k : Nat} (h : a.grownBy w none) (hk : a.heap.size ≤ k) (u0 u1 u2 u3 u4 : Value) :
    a.grownBy (((((w.setCell ⟨k, 0, none⟩ u0).setCell ⟨k, 1, none⟩ u1).setCell ⟨k, 2, none⟩ u2).setCell ⟨k, 3, none⟩ u3).setCell ⟨k, 4, none⟩ u4) none :=
  grown_put (grown_put (grown_put (grown_put (grown_put h hk u0) hk u1) hk u2) hk u3) hk u4
theorem Rd.drew {w : World} {B g P : Nat} (h : Rd w B g P) : Rd w.drew B g P := h
theorem Blk.drew {w : World} {g : Nat} {t : TypeId} {cs : Array Value} (h : Blk w g t cs) : Blk w.drew g t cs := h
theorem grown_drew {a w : World} {row : Option Nat} (h : a.grownBy w row) : a.grownBy w.drew row := ⟨h.os, h.tape, h.output, h.size, h.block⟩
def pageB (f : Bool) (a b c d : Int) : Bool := if f then inB a 0 7 && inB b 0 5 && inB c 0 9999 && inB d 1 1000000 else decide (a = 0) && decide (b = 0) && decide (c = 0) && decide (d = 0)
/-- A page. -/
structure Pg where
  f : Bool
  a : Int
  b : Int
  c : Int
  d : Int

theorem valid_ex (f : Bool) (a b c d : Int) (w : World) :
    Calls Tryz.prog 122 #[.agg #[.bool f, .int .i64 a, .int .i64 b, .int .i64 c, .int .i64 d]] w fun e w' => e = .returned (.bool (pageB f a b c d)) ∧ w.alloc (.cells #[.bool f, .int .i64 a, .int .i64 b, .int .i64 c, .int .i64 d] 72) = w' := by
  cases f
  · go_enter Tryz.func122, Tryz.ntmps122
    go_wp2
    all_goals (go_ret; exact ⟨retB (by simp [pageB, *]), by simp [*]⟩)
  · go_enter Tryz.func122, Tryz.ntmps122
    go_wp2_with (first | (go_at_call 49; refine (isFile_any _ _).mono ?_; rintro e w' ⟨rfl, rfl⟩) | (go_at_call 133; refine (isFilePlace_any _ _).mono ?_; rintro e w' ⟨rfl, rfl⟩) | (go_at_call 136; refine (isValue_any _ _).mono ?_; rintro e w' ⟨rfl, rfl⟩) | (go_at_call 32; refine (isStamp_any _ _).mono ?_; rintro e w' ⟨rfl, rfl⟩))
    all_goals (go_ret; exact ⟨retB (by simp [pageB, *]), by simp [*]⟩)
theorem specValid_ex (f : Bool) (a b c d : Int) (w : World) :
    Calls Tryz.prog 83 #[.agg #[.bool f, .int .i64 a, .int .i64 b, .int .i64 c, .int .i64 d]] w fun e w' => e = .returned (.bool (pageB f a b c d)) ∧ w.alloc (.cells #[.bool f, .int .i64 a, .int .i64 b, .int .i64 c, .int .i64 d] 72) = w' := by
  cases f
  · go_enter Tryz.func83, Tryz.ntmps83
    go_wp2
    all_goals (go_ret; exact ⟨retB (by simp [pageB, *]), by simp [*]⟩)
  · go_enter Tryz.func83, Tryz.ntmps83
    go_wp2_with (go_at_call 39; refine (in_any _ _ _ _).mono ?_; rintro e w' ⟨rfl, rfl⟩)
    all_goals (go_ret; exact ⟨retB (by simp [pageB, *]), by simp [*]⟩)
theorem valid_any (f : Bool) (a b c d : Int) (w : World) :
    Calls Tryz.prog 122 #[.agg #[.bool f, .int .i64 a, .int .i64 b, .int .i64 c, .int .i64 d]] w (KeptV (.bool (pageB f a b c d)) w) :=
  (valid_ex f a b c d w).mono fun _ _ ⟨h, k⟩ => ⟨h, k ▸ grown_alloc (grown_refl _ _) _⟩
theorem specValid_any (f : Bool) (a b c d : Int) (w : World) :
    Calls Tryz.prog 83 #[.agg #[.bool f, .int .i64 a, .int .i64 b, .int .i64 c, .int .i64 d]] w (KeptV (.bool (pageB f a b c d)) w) :=
  (specValid_ex f a b c d w).mono fun _ _ ⟨h, k⟩ => ⟨h, k ▸ grown_alloc (grown_refl _ _) _⟩
end Go.Proofs.YtolpnloghogjjaaGreat
