/- What the functions of chapter 3 answer, of the program and of the model, for every page; and the two helpers of the exact laws. -/
import Derived.Test.YteniikfgellhfaaRows
import Derived.Test.YteniikfgellhfaaBits
import Derived.Test.YteniikfgellhfaaDraw
import Derived.Deep.RegionHeld3
import Derived.Deep.DeepCutAuto
import Derived.Outline
namespace Go.Proofs.Yteniikfgellhfaa
open Go.ChangeShapes Go.WideShapes Go.ChangeAt Go.RowKit

def KeptV (v : Value) (w : World) (e : Ending) (w' : World) : Prop := e = .returned v ∧ w.grownBy w' none
theorem isFile_any (n : Int) (w : World) :
    Calls Try.prog 68 #[.int .i64 n] w fun e w' => e = .returned (.bool (inB n 0 7)) ∧ w = w' := by
  go_enter Try.func68, Try.ntmps68
  go_wp2
  all_goals (go_ret; refine ⟨retB ?_, rfl⟩; rw [Bool.eq_iff_iff]; simp [inB]; omega)
theorem isFilePlace_any (n : Int) (w : World) :
    Calls Try.prog 69 #[.int .i64 n] w fun e w' => e = .returned (.bool (inB n 0 5)) ∧ w = w' := by
  go_enter Try.func69, Try.ntmps69
  go_wp2
  all_goals (go_ret; refine ⟨retB ?_, rfl⟩; rw [Bool.eq_iff_iff]; simp [inB]; omega)
theorem isValue_any (n : Int) (w : World) :
    Calls Try.prog 134 #[.int .i64 n] w fun e w' => e = .returned (.bool (inB n 0 9999)) ∧ w = w' := by
  go_enter Try.func134, Try.ntmps134
  go_wp2
  all_goals (go_ret; refine ⟨retB ?_, rfl⟩; rw [Bool.eq_iff_iff]; simp [inB]; omega)
theorem isStamp_any (n : Int) (w : World) :
    Calls Try.prog 135 #[.int .i64 n] w fun e w' => e = .returned (.bool (inB n 1 1000000)) ∧ w = w' := by
  go_enter Try.func135, Try.ntmps135
  go_wp2
  all_goals (go_ret; refine ⟨retB ?_, rfl⟩; rw [Bool.eq_iff_iff]; simp [inB]; omega)

theorem grown_put {a w : World} (h : a.grownBy w none) {p : Addr} (hp : a.heap.size ≤ p.block) (u : Value) : a.grownBy (w.setCell p u) none :=
  ⟨h.os, h.tape, h.output, by simpa [World.setCell] using h.size, fun i hi hne => (Below.heap_setCell w p u i (by omega)).trans (h.block i hi hne)⟩
theorem size_alloc1 (w : World) (o : Obj) : (w.alloc o).heap.size = w.heap.size + 1 := by simp
theorem Blk.keep {w w' : World} {g : Nat} {t : TypeId} {cs : Array Value} (h : Blk w g t cs) (k : w.grownBy w' none) : Blk w' g t cs := h.grown k (by simp)
theorem cells5 {w : World} {g : Nat} {t : TypeId} {u0 u1 u2 u3 u4 : Value} (h : Blk w g t #[u0, u1, u2, u3, u4]) :
    w.cell? ⟨g, 0, none⟩ = some u0 ∧ w.cell? ⟨g, 1, none⟩ = some u1 ∧ w.cell? ⟨g, 2, none⟩ = some u2 ∧ w.cell? ⟨g, 3, none⟩ = some u3 ∧ w.cell? ⟨g, 4, none⟩ = some u4 :=
  ⟨h.cell 0, h.cell 1, h.cell 2, h.cell 3, h.cell 4⟩
theorem cells55 {w : World} {g k : Nat} {t t' : TypeId} {u0 u1 u2 u3 u4 v0 v1 v2 v3 v4 : Value} (h : Blk w g t #[u0, u1, u2, u3, u4]) (h' : Blk w k t' #[v0, v1, v2, v3, v4]) :
    w.cell? ⟨g, 0, none⟩ = some u0 ∧ w.cell? ⟨g, 1, none⟩ = some u1 ∧ w.cell? ⟨g, 2, none⟩ = some u2 ∧ w.cell? ⟨g, 3, none⟩ = some u3 ∧ w.cell? ⟨g, 4, none⟩ = some u4 ∧
    w.cell? ⟨k, 0, none⟩ = some v0 ∧ w.cell? ⟨k, 1, none⟩ = some v1 ∧ w.cell? ⟨k, 2, none⟩ = some v2 ∧ w.cell? ⟨k, 3, none⟩ = some v3 ∧ w.cell? ⟨k, 4, none⟩ = some v4 :=
  ⟨h.cell 0, h.cell 1, h.cell 2, h.cell 3, h.cell 4, h'.cell 0, h'.cell 1, h'.cell 2, h'.cell 3, h'.cell 4⟩
theorem cells555 {w : World} {g k m : Nat} {t t' t'' : TypeId} {u0 u1 u2 u3 u4 v0 v1 v2 v3 v4 x0 x1 x2 x3 x4 : Value} (h : Blk w g t #[u0, u1, u2, u3, u4]) (h' : Blk w k t' #[v0, v1, v2, v3, v4]) (h'' : Blk w m t'' #[x0, x1, x2, x3, x4]) :
    w.cell? ⟨g, 0, none⟩ = some u0 ∧ w.cell? ⟨g, 1, none⟩ = some u1 ∧ w.cell? ⟨g, 2, none⟩ = some u2 ∧ w.cell? ⟨g, 3, none⟩ = some u3 ∧ w.cell? ⟨g, 4, none⟩ = some u4 ∧
    w.cell? ⟨k, 0, none⟩ = some v0 ∧ w.cell? ⟨k, 1, none⟩ = some v1 ∧ w.cell? ⟨k, 2, none⟩ = some v2 ∧ w.cell? ⟨k, 3, none⟩ = some v3 ∧ w.cell? ⟨k, 4, none⟩ = some v4 ∧
    w.cell? ⟨m, 0, none⟩ = some x0 ∧ w.cell? ⟨m, 1, none⟩ = some x1 ∧ w.cell? ⟨m, 2, none⟩ = some x2 ∧ w.cell? ⟨m, 3, none⟩ = some x3 ∧ w.cell? ⟨m, 4, none⟩ = some x4 :=
  ⟨h.cell 0, h.cell 1, h.cell 2, h.cell 3, h.cell 4, h'.cell 0, h'.cell 1, h'.cell 2, h'.cell 3, h'.cell 4, h''.cell 0, h''.cell 1, h''.cell 2, h''.cell 3, h''.cell 4⟩
theorem Blk.put5 {w : World} {g k : Nat} {t : TypeId} {cs : Array Value} (h : Blk w g t cs) (hk : g ≠ k) (u0 u1 u2 u3 u4 : Value) :
    Blk (((((w.setCell ⟨k, 0, none⟩ u0).setCell ⟨k, 1, none⟩ u1).setCell ⟨k, 2, none⟩ u2).setCell ⟨k, 3, none⟩ u3).setCell ⟨k, 4, none⟩ u4) g t cs :=
  ((((h.far hk u0).far hk u1).far hk u2).far hk u3).far hk u4
theorem Blk.set5 {w : World} {k : Nat} {t : TypeId} {c0 c1 c2 c3 c4 : Value} (h : Blk w k t #[c0, c1, c2, c3, c4]) (u0 u1 u2 u3 u4 : Value) :
    Blk (((((w.setCell ⟨k, 0, none⟩ u0).setCell ⟨k, 1, none⟩ u1).setCell ⟨k, 2, none⟩ u2).setCell ⟨k, 3, none⟩ u3).setCell ⟨k, 4, none⟩ u4) k t #[u0, u1, u2, u3, u4] :=
  ((((h.put 0 u0).put 1 u1).put 2 u2).put 3 u3).put 4 u4
theorem grown_put5n {a w : World} {k : Nat} (h : a.grownBy w none) (hk : a.heap.size ≤ k) (u0 u1 u2 u3 u4 : Value) :
    a.grownBy (((((w.setCell ⟨k, 0, none⟩ u0).setCell ⟨k, 1, none⟩ u1).setCell ⟨k, 2, none⟩ u2).setCell ⟨k, 3, none⟩ u3).setCell ⟨k, 4, none⟩ u4) none :=
  grown_put (grown_put (grown_put (grown_put (grown_put h hk u0) hk u1) hk u2) hk u3) hk u4
theorem grown_below {a w : World} (h : a.grownBy w none) : Below a.heap.size a w := Below.of_kept h (Nat.le_refl _)
theorem Rd.drew {w : World} {B g P : Nat} (h : Rd w B g P) : Rd w.drew B g P := h
theorem Blk.drew {w : World} {g : Nat} {t : TypeId} {cs : Array Value} (h : Blk w g t cs) : Blk w.drew g t cs := h
theorem grown_drew {a w : World} {row : Option Nat} (h : a.grownBy w row) : a.grownBy w.drew row := ⟨h.os, h.tape, h.output, h.size, h.block⟩
def pageB (f : Bool) (a b c d : Int) : Bool := if f then inB a 0 7 && inB b 0 5 && inB c 0 9999 && inB d 1 1000000 else decide (a = 0) && decide (b = 0) && decide (c = 0) && decide (d = 0)
/-- A page. -/
structure Pg where
  f : Bool
  a : Int
  b : Int
  c : Int
  d : Int

theorem valid_ex (f : Bool) (a b c d : Int) (w : World) :
    Calls Try.prog 132 #[.agg #[.bool f, .int .i64 a, .int .i64 b, .int .i64 c, .int .i64 d]] w fun e w' => e = .returned (.bool (pageB f a b c d)) ∧ w.alloc (.cells #[.bool f, .int .i64 a, .int .i64 b, .int .i64 c, .int .i64 d] 30) = w' := by
  cases f
  · go_enter Try.func132, Try.ntmps132
    go_wp2
    all_goals (go_ret; exact ⟨retB (by simp [pageB, *]), by simp [*]⟩)
  · go_enter Try.func132, Try.ntmps132
    go_wp2_with (first | (go_at_call 68; refine (isFile_any _ _).mono ?_; rintro e w' ⟨rfl, rfl⟩) | (go_at_call 69; refine (isFilePlace_any _ _).mono ?_; rintro e w' ⟨rfl, rfl⟩) | (go_at_call 134; refine (isValue_any _ _).mono ?_; rintro e w' ⟨rfl, rfl⟩) | (go_at_call 135; refine (isStamp_any _ _).mono ?_; rintro e w' ⟨rfl, rfl⟩))
    all_goals (go_ret; exact ⟨retB (by simp [pageB, *]), by simp [*]⟩)
theorem specValid_ex (f : Bool) (a b c d : Int) (w : World) :
    Calls Try.prog 112 #[.agg #[.bool f, .int .i64 a, .int .i64 b, .int .i64 c, .int .i64 d]] w fun e w' => e = .returned (.bool (pageB f a b c d)) ∧ w.alloc (.cells #[.bool f, .int .i64 a, .int .i64 b, .int .i64 c, .int .i64 d] 30) = w' := by
  cases f
  · go_enter Try.func112, Try.ntmps112
    go_wp2
    all_goals (go_ret; exact ⟨retB (by simp [pageB, *]), by simp [*]⟩)
  · go_enter Try.func112, Try.ntmps112
    go_wp2_with (go_at_call 95; refine (in_any _ _ _ _).mono ?_; rintro e w' ⟨rfl, rfl⟩)
    all_goals (go_ret; exact ⟨retB (by simp [pageB, *]), by simp [*]⟩)
theorem valid_any (f : Bool) (a b c d : Int) (w : World) :
    Calls Try.prog 132 #[.agg #[.bool f, .int .i64 a, .int .i64 b, .int .i64 c, .int .i64 d]] w (KeptV (.bool (pageB f a b c d)) w) :=
  (valid_ex f a b c d w).mono fun _ _ ⟨h, k⟩ => ⟨h, k ▸ grown_alloc (grown_refl _ _) _⟩
theorem specValid_any (f : Bool) (a b c d : Int) (w : World) :
    Calls Try.prog 112 #[.agg #[.bool f, .int .i64 a, .int .i64 b, .int .i64 c, .int .i64 d]] w (KeptV (.bool (pageB f a b c d)) w) :=
  (specValid_ex f a b c d w).mono fun _ _ ⟨h, k⟩ => ⟨h, k ▸ grown_alloc (grown_refl _ _) _⟩
theorem toPage_any (f : Bool) (a b c d : Int) (w : World) :
    Calls Try.prog 129 #[.agg #[.bool f, .int .i64 a, .int .i64 b, .int .i64 c, .int .i64 d]] w (KeptV (.agg #[.bool f, .int .i64 a, .int .i64 b, .int .i64 c, .int .i64 d]) w) := by
  go_enter Try.func129, Try.ntmps129
  go_wp2
  exact bodyPost_ret (v := .agg #[.bool f, .int .i64 a, .int .i64 b, .int .i64 c, .int .i64 d]) (by simp [results, Try.results129, go_sem]) rfl ⟨rfl, grown_alloc (grown_alloc (grown_alloc (grown_refl _ _) _) _) _⟩
theorem eqPage_same (f : Bool) (a b c d : Int) (w : World) :
    Calls Try.prog 130 #[.agg #[.bool f, .int .i64 a, .int .i64 b, .int .i64 c, .int .i64 d], .agg #[.bool f, .int .i64 a, .int .i64 b, .int .i64 c, .int .i64 d]] w (KeptV (.bool true) w) := by
  cases f
  all_goals
    go_enter Try.func130, Try.ntmps130
    go_wp2
    go_ret
    exact ⟨rfl, grown_alloc (grown_alloc (grown_refl _ _) _) _⟩

/-- SamePlace. -/
def sameB (f : Bool) (a b c d : Int) (f' : Bool) (a' b' c' d' : Int) : Bool := pageB f a b c d && pageB f' a' b' c' d' && f && f' && decide (a = a') && decide (b = b')
theorem same_flip (f : Bool) (a b c d : Int) (f' : Bool) (a' b' c' d' : Int) : sameB f' a' b' c' d' f a b c d = sameB f a b c d f' a' b' c' d' := by
  rw [Bool.eq_iff_iff]; simp only [sameB, Bool.and_eq_true, decide_eq_true_eq]
  constructor <;> (rintro ⟨⟨⟨⟨⟨h1, h2⟩, h3⟩, h4⟩, h5⟩, h6⟩; exact ⟨⟨⟨⟨⟨h2, h1⟩, h4⟩, h3⟩, h5.symm⟩, h6.symm⟩)
theorem same_self (f : Bool) (a b c d : Int) : sameB f a b c d f a b c d = (pageB f a b c d && f) := by
  cases f <;> simp [sameB]
/-- NewerPage. -/
def newG (f : Bool) (a b c d : Int) (f' : Bool) (a' b' c' d' : Int) : Pg := if pageB f a b c d && pageB f' a' b' c' d' then (if d < d' then ⟨f', a', b', c', d'⟩ else ⟨f, a, b, c, d⟩) else ⟨false, 0, 0, 0, 0⟩
theorem new_cases (f : Bool) (a b c d : Int) (f' : Bool) (a' b' c' d' : Int) (h1 : pageB f a b c d = true) (h2 : pageB f' a' b' c' d' = true) :
    (d < d' ∧ newG f a b c d f' a' b' c' d' = ⟨f', a', b', c', d'⟩) ∨ (¬ d < d' ∧ newG f a b c d f' a' b' c' d' = ⟨f, a, b, c, d⟩) := by
  by_cases h : d < d' <;> simp [newG, h1, h2, h]
theorem new_none (f : Bool) (a b c d : Int) (f' : Bool) (a' b' c' d' : Int) (h : (pageB f a b c d && pageB f' a' b' c' d') = false) : newG f a b c d f' a' b' c' d' = ⟨false, 0, 0, 0, 0⟩ := by
  simp [newG, h]
theorem new_self (f : Bool) (a b c d : Int) (h1 : pageB f a b c d = true) : newG f a b c d f a b c d = ⟨f, a, b, c, d⟩ := by
  simp [newG, h1]
end Go.Proofs.Yteniikfgellhfaa
