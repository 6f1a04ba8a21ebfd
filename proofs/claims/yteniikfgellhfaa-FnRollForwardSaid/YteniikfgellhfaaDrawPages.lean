/- What the draws of chapter 3 answer: pages, and nothing that was there is written. -/
import Derived.Test.YteniikfgellhfaaPages
import Derived.Outline
import Derived.Deep.RegionHeld3
import Derived.StillTailTactics
namespace Go.Proofs.Yteniikfgellhfaa
open Go.ChangeShapes Go.WideShapes Go.ChangeAt Go.RowKit

theorem size_of_alloc (w : World) (o : Obj) : (w.alloc o).heap.size = w.heap.size + 1 := by simp
/-- A draw of a page out of a reader. -/
def DrewPage (w : World) (B g P : Nat) (e : Ending) (w' : World) : Prop :=
  ∃ (f : Bool) (a b c d : Int), e = .returned (.agg #[.bool f, .int .i64 a, .int .i64 b, .int .i64 c, .int .i64 d]) ∧ Rd w' B g P ∧ w.grownBy w' (some g)

theorem rd_put5 {w : World} {B g P k : Nat} (h : Rd w B g P) (hk : g ≠ k) (hB : B ≤ k) (u0 u1 u2 u3 u4 : Value) :
    Rd (((((w.setCell ⟨k, 0, none⟩ u0).setCell ⟨k, 1, none⟩ u1).setCell ⟨k, 2, none⟩ u2).setCell ⟨k, 3, none⟩ u3).setCell ⟨k, 4, none⟩ u4) B g P :=
  ((((h.far hk hB u0).far hk hB u1).far hk hB u2).far hk hB u3).far hk hB u4
theorem grown_put5 {a w : World} {g k : Nat} (h : a.grownBy w (some g)) (hk : a.heap.size ≤ k) (u0 u1 u2 u3 u4 : Value) :
    a.grownBy (((((w.setCell ⟨k, 0, none⟩ u0).setCell ⟨k, 1, none⟩ u1).setCell ⟨k, 2, none⟩ u2).setCell ⟨k, 3, none⟩ u3).setCell ⟨k, 4, none⟩ u4) (some g) :=
  grown_set (grown_set (grown_set (grown_set (grown_set h (.inr hk) u0) (.inr hk) u1) (.inr hk) u2) (.inr hk) u3) (.inr hk) u4
theorem valid_val {f : Bool} {a b c d : Int} {v : Bool} (h : pageB f a b c d = v) (w : World) :
    Calls Try.prog 132 #[.agg #[.bool f, .int .i64 a, .int .i64 b, .int .i64 c, .int .i64 d]] w (KeptV (.bool v) w) := h ▸ valid_any f a b c d w
theorem page_any (w : World) (B g P : Nat) (N : Int) (h : Rd w B g P) (hP : P ≤ 1000000000) (hN : 1 ≤ N) (hN2 : N ≤ 1000000000000) :
    Calls Try.prog 120 #[.pointer (some ⟨g, 0, none⟩), .int .i64 N] w (DrewPage w B g (P + 6)) := by
  have h0 := h.alloc (.cells #[.bool false, .int .i64 0, .int .i64 0, .int .i64 0, .int .i64 0] 30)
  have hg := h.lt
  have HB := Lib.hid (Nat.le_trans h.le (Nat.le_of_lt hg))
  go_enter Try.func120, Try.ntmps120
  go_wp2_with (go_at_call 91; refine (odd_any _ _ _ _ _ h0 (by omega) hN hN2).mono ?_; rintro e w1 ⟨v, rfl, h1, hg1⟩)
  · have g1 := h1.lt
    have hr1 := (Blk.new w 30 _).grown hg1 (by intro e; injection e with e; omega)
    refine (pick_lt _ _ _ _ _ (h1.alloc _) (by omega) (by omega)).mono ?_
    rintro e w2 ⟨x, rfl, x0, x1, h2, hg2⟩
    have hb := (Blk.new w1 30 _).grown hg2 (by intro e; injection e with e; omega)
    have hr := (hr1.alloc _).grown hg2 (by intro e; injection e with e; omega)
    have HF := Lib.hid (grown_trans (grown_alloc (grown_refl w _) _) (grown_trans hg1 (grown_trans (grown_alloc (grown_refl w1 _) _) hg2)))
    clear hg1 hg2 h0
    have c0 : w2.cell? ⟨w1.heap.size, 0, none⟩ = some (.bool false) := hb.cell 0
    have c1 : w2.cell? ⟨w1.heap.size, 1, none⟩ = some (.int .i64 0) := hb.cell 1
    have c2 : w2.cell? ⟨w1.heap.size, 2, none⟩ = some (.int .i64 0) := hb.cell 2
    have c3 : w2.cell? ⟨w1.heap.size, 3, none⟩ = some (.int .i64 1) := hb.cell 3
    have c4 : w2.cell? ⟨w1.heap.size, 4, none⟩ = some (.int .i64 0) := hb.cell 4
    have c5 : w2.cell? ⟨w1.heap.size, 5, none⟩ = some (.bool true) := hb.cell 5
    have c6 : w2.cell? ⟨w1.heap.size, 6, none⟩ = some (.int .i64 0) := hb.cell 6
    have c7 : w2.cell? ⟨w1.heap.size, 7, none⟩ = some (.int .i64 0) := hb.cell 7
    have c8 : w2.cell? ⟨w1.heap.size, 8, none⟩ = some (.int .i64 0) := hb.cell 8
    have c9 : w2.cell? ⟨w1.heap.size, 9, none⟩ = some (.int .i64 0) := hb.cell 9
    have c10 : w2.cell? ⟨w1.heap.size, 10, none⟩ = some (.bool true) := hb.cell 10
    have c11 : w2.cell? ⟨w1.heap.size, 11, none⟩ = some (.int .i64 8) := hb.cell 11
    have c12 : w2.cell? ⟨w1.heap.size, 12, none⟩ = some (.int .i64 0) := hb.cell 12
    have c13 : w2.cell? ⟨w1.heap.size, 13, none⟩ = some (.int .i64 0) := hb.cell 13
    have c14 : w2.cell? ⟨w1.heap.size, 14, none⟩ = some (.int .i64 1) := hb.cell 14
    have c15 : w2.cell? ⟨w1.heap.size, 15, none⟩ = some (.bool true) := hb.cell 15
    have c16 : w2.cell? ⟨w1.heap.size, 16, none⟩ = some (.int .i64 0) := hb.cell 16
    have c17 : w2.cell? ⟨w1.heap.size, 17, none⟩ = some (.int .i64 (-1)) := hb.cell 17
    have c18 : w2.cell? ⟨w1.heap.size, 18, none⟩ = some (.int .i64 0) := hb.cell 18
    have c19 : w2.cell? ⟨w1.heap.size, 19, none⟩ = some (.int .i64 1) := hb.cell 19
    have c20 : w2.cell? ⟨w1.heap.size, 20, none⟩ = some (.bool true) := hb.cell 20
    have c21 : w2.cell? ⟨w1.heap.size, 21, none⟩ = some (.int .i64 0) := hb.cell 21
    have c22 : w2.cell? ⟨w1.heap.size, 22, none⟩ = some (.int .i64 0) := hb.cell 22
    have c23 : w2.cell? ⟨w1.heap.size, 23, none⟩ = some (.int .i64 10000) := hb.cell 23
    have c24 : w2.cell? ⟨w1.heap.size, 24, none⟩ = some (.int .i64 1) := hb.cell 24
    have c25 : w2.cell? ⟨w1.heap.size, 25, none⟩ = some (.bool true) := hb.cell 25
    have c26 : w2.cell? ⟨w1.heap.size, 26, none⟩ = some (.int .i64 0) := hb.cell 26
    have c27 : w2.cell? ⟨w1.heap.size, 27, none⟩ = some (.int .i64 0) := hb.cell 27
    have c28 : w2.cell? ⟨w1.heap.size, 28, none⟩ = some (.int .i64 0) := hb.cell 28
    have c29 : w2.cell? ⟨w1.heap.size, 29, none⟩ = some (.int .i64 1000001) := hb.cell 29
    have r0 : w2.cell? ⟨w.heap.size, 0, none⟩ = some (.bool false) := hr.cell 0
    have q0 : w2.frozen? ⟨w.heap.size, 0, none⟩ = false := hr.frozen 0
    have r1 : w2.cell? ⟨w.heap.size, 1, none⟩ = some (.int .i64 0) := hr.cell 1
    have q1 : w2.frozen? ⟨w.heap.size, 1, none⟩ = false := hr.frozen 1
    have r2 : w2.cell? ⟨w.heap.size, 2, none⟩ = some (.int .i64 0) := hr.cell 2
    have q2 : w2.frozen? ⟨w.heap.size, 2, none⟩ = false := hr.frozen 2
    have r3 : w2.cell? ⟨w.heap.size, 3, none⟩ = some (.int .i64 0) := hr.cell 3
    have q3 : w2.frozen? ⟨w.heap.size, 3, none⟩ = false := hr.frozen 3
    have r4 : w2.cell? ⟨w.heap.size, 4, none⟩ = some (.int .i64 0) := hr.cell 4
    have q4 : w2.frozen? ⟨w.heap.size, 4, none⟩ = false := hr.frozen 4
    clear hb hr hr1
    rcases (show x = 0 ∨ x = 1 ∨ x = 2 ∨ x = 3 ∨ x = 4 ∨ x = 5 by omega) with rfl | rfl | rfl | rfl | rfl | rfl
    · go_wp2
      exact bodyPost_ret (v := .agg #[.bool false, .int .i64 0, .int .i64 0, .int .i64 1, .int .i64 0]) (by simp [results, Try.results120, go_sem, *]) rfl ⟨_, _, _, _, _, rfl, rd_put5 (h2.more (by omega)) (by omega) HB.out _ _ _ _ _, grown_put5 HF.out (Nat.le_refl _) _ _ _ _ _⟩
    · go_wp2
      exact bodyPost_ret (v := .agg #[.bool true, .int .i64 0, .int .i64 0, .int .i64 0, .int .i64 0]) (by simp [results, Try.results120, go_sem, *]) rfl ⟨_, _, _, _, _, rfl, rd_put5 (h2.more (by omega)) (by omega) HB.out _ _ _ _ _, grown_put5 HF.out (Nat.le_refl _) _ _ _ _ _⟩
    · go_wp2
      exact bodyPost_ret (v := .agg #[.bool true, .int .i64 8, .int .i64 0, .int .i64 0, .int .i64 1]) (by simp [results, Try.results120, go_sem, *]) rfl ⟨_, _, _, _, _, rfl, rd_put5 (h2.more (by omega)) (by omega) HB.out _ _ _ _ _, grown_put5 HF.out (Nat.le_refl _) _ _ _ _ _⟩
    · go_wp2
      exact bodyPost_ret (v := .agg #[.bool true, .int .i64 0, .int .i64 (-1), .int .i64 0, .int .i64 1]) (by simp [results, Try.results120, go_sem, *]) rfl ⟨_, _, _, _, _, rfl, rd_put5 (h2.more (by omega)) (by omega) HB.out _ _ _ _ _, grown_put5 HF.out (Nat.le_refl _) _ _ _ _ _⟩
    · go_wp2
      exact bodyPost_ret (v := .agg #[.bool true, .int .i64 0, .int .i64 0, .int .i64 10000, .int .i64 1]) (by simp [results, Try.results120, go_sem, *]) rfl ⟨_, _, _, _, _, rfl, rd_put5 (h2.more (by omega)) (by omega) HB.out _ _ _ _ _, grown_put5 HF.out (Nat.le_refl _) _ _ _ _ _⟩
    · go_wp2
      exact bodyPost_ret (v := .agg #[.bool true, .int .i64 0, .int .i64 0, .int .i64 0, .int .i64 1000001]) (by simp [results, Try.results120, go_sem, *]) rfl ⟨_, _, _, _, _, rfl, rd_put5 (h2.more (by omega)) (by omega) HB.out _ _ _ _ _, grown_put5 HF.out (Nat.le_refl _) _ _ _ _ _⟩
  · have hr1 := (Blk.new w 30 _).grown hg1 (by intro e; injection e with e; omega)
    refine (pick_lt _ _ _ _ _ h1 (by omega) (by omega)).mono ?_
    rintro e w2 ⟨x, rfl, x0, x1, h2, hg2⟩
    have hr2 := hr1.grown hg2 (by intro e; injection e with e; omega)
    have hf2 := grown_trans (grown_alloc (grown_refl w _) _) (grown_trans hg1 hg2)
    clear hg1 hg2 hr1 h0 h1
    by_cases hx : x = 0
    · subst hx
      have HF := Lib.hid hf2
      have hr := hr2
      have r0 : w2.cell? ⟨w.heap.size, 0, none⟩ = some (.bool false) := hr.cell 0
      have q0 : w2.frozen? ⟨w.heap.size, 0, none⟩ = false := hr.frozen 0
      have r1 : w2.cell? ⟨w.heap.size, 1, none⟩ = some (.int .i64 0) := hr.cell 1
      have q1 : w2.frozen? ⟨w.heap.size, 1, none⟩ = false := hr.frozen 1
      have r2 : w2.cell? ⟨w.heap.size, 2, none⟩ = some (.int .i64 0) := hr.cell 2
      have q2 : w2.frozen? ⟨w.heap.size, 2, none⟩ = false := hr.frozen 2
      have r3 : w2.cell? ⟨w.heap.size, 3, none⟩ = some (.int .i64 0) := hr.cell 3
      have q3 : w2.frozen? ⟨w.heap.size, 3, none⟩ = false := hr.frozen 3
      have r4 : w2.cell? ⟨w.heap.size, 4, none⟩ = some (.int .i64 0) := hr.cell 4
      have q4 : w2.frozen? ⟨w.heap.size, 4, none⟩ = false := hr.frozen 4
      clear hf2 hr2 hr
      go_wp2
      exact bodyPost_ret (v := .agg #[.bool false, .int .i64 0, .int .i64 0, .int .i64 0, .int .i64 0]) (by simp [results, Try.results120, go_sem, *]) rfl ⟨_, _, _, _, _, rfl, rd_put5 (h2.more (by omega)) (by omega) HB.out _ _ _ _ _, grown_put5 HF.out (Nat.le_refl _) _ _ _ _ _⟩
    · have t1 : (x == 0) = false := by simp [hx]
      go_wp2_with fail
      refine (pick_lt _ _ _ _ _ h2 (by omega) (by omega)).mono ?_
      rintro e w3 ⟨x3, rfl, x30, x31, h3, hg3⟩
      go_wp2_with fail
      refine (pick_lt _ _ _ _ _ h3 (by omega) (by omega)).mono ?_
      rintro e w4 ⟨x4, rfl, x40, x41, h4, hg4⟩
      go_wp2_with fail
      refine (pick_lt _ _ _ _ _ h4 (by omega) (by omega)).mono ?_
      rintro e w5 ⟨x5, rfl, x50, x51, h5, hg5⟩
      go_wp2_with fail
      refine (pick_lt _ _ _ _ _ h5 (by omega) (by omega)).mono ?_
      rintro e w6 ⟨x6, rfl, x60, x61, h6, hg6⟩
      have hg := grown_trans hg3 (grown_trans hg4 (grown_trans hg5 hg6))
      have hr := hr2.grown hg (by intro e; injection e with e; omega)
      have HF := Lib.hid (grown_trans hf2 hg)
      have r0 : w6.cell? ⟨w.heap.size, 0, none⟩ = some (.bool false) := hr.cell 0
      have q0 : w6.frozen? ⟨w.heap.size, 0, none⟩ = false := hr.frozen 0
      have r1 : w6.cell? ⟨w.heap.size, 1, none⟩ = some (.int .i64 0) := hr.cell 1
      have q1 : w6.frozen? ⟨w.heap.size, 1, none⟩ = false := hr.frozen 1
      have r2 : w6.cell? ⟨w.heap.size, 2, none⟩ = some (.int .i64 0) := hr.cell 2
      have q2 : w6.frozen? ⟨w.heap.size, 2, none⟩ = false := hr.frozen 2
      have r3 : w6.cell? ⟨w.heap.size, 3, none⟩ = some (.int .i64 0) := hr.cell 3
      have q3 : w6.frozen? ⟨w.heap.size, 3, none⟩ = false := hr.frozen 3
      have r4 : w6.cell? ⟨w.heap.size, 4, none⟩ = some (.int .i64 0) := hr.cell 4
      have q4 : w6.frozen? ⟨w.heap.size, 4, none⟩ = false := hr.frozen 4
      clear hf2 hr2 hr hg hg3 hg4 hg5 hg6 h2 h3 h4 h5
      go_wp2
      exact bodyPost_ret (v := .agg #[.bool true, .int .i64 x3, .int .i64 x4, .int .i64 x5, .int .i64 (1 + x6)]) (by simp [results, Try.results120, go_sem, *]) rfl ⟨_, _, _, _, _, rfl, rd_put5 (h6.more (by omega)) (by omega) HB.out _ _ _ _ _, grown_put5 HF.out (Nat.le_refl _) _ _ _ _ _⟩
theorem Bytes.alloc {w : World} {A : Option Addr} {n : Nat} (h : Bytes w w.heap.size A n) (o : Obj) : Bytes (w.alloc o) (w.alloc o).heap.size A n := fun hn => by
  obtain ⟨b, off, z, e, hb, hc⟩ := h hn
  exact ⟨b, off, z, e, by simp; omega, fun i hi => ⟨(World.cell?_alloc_lt w o _ hb).trans (hc i hi).1, (hc i hi).2⟩⟩
theorem below_put5 {B : Nat} {a w : World} {k : Nat} (h : Below B a w) (hk : B ≤ k) (u0 u1 u2 u3 u4 : Value) :
    Below B a (((((w.setCell ⟨k, 0, none⟩ u0).setCell ⟨k, 1, none⟩ u1).setCell ⟨k, 2, none⟩ u2).setCell ⟨k, 3, none⟩ u3).setCell ⟨k, 4, none⟩ u4) :=
  ((((h.setCell hk u0).setCell hk u1).setCell hk u2).setCell hk u3).setCell hk u4
/-- A draw of one page out of a code: nothing that was there is written. -/
def PageDrawn (w : World) (e : Ending) (w' : World) : Prop :=
  ∃ (f : Bool) (a b c d : Int), e = .returned (.agg #[.bool f, .int .i64 a, .int .i64 b, .int .i64 c, .int .i64 d]) ∧ Below w.heap.size w w'
/-- A draw of two pages. -/
def Page2Drawn (w : World) (e : Ending) (w' : World) : Prop :=
  ∃ (f : Bool) (a b c d : Int) (f2 : Bool) (a2 b2 c2 d2 : Int), e = .returned (.tuple #[.agg #[.bool f, .int .i64 a, .int .i64 b, .int .i64 c, .int .i64 d], .agg #[.bool f2, .int .i64 a2, .int .i64 b2, .int .i64 c2, .int .i64 d2]]) ∧ Below w.heap.size w w'
end Go.Proofs.Yteniikfgellhfaa
