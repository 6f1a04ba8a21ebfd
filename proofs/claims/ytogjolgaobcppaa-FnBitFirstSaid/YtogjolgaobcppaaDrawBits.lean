/- What the draws of chapter 1 answer: sets and numbers, and nothing that was there is written. -/
import Derived.Test.YtogjolgaobcppaaDraw
import Derived.Outline
namespace Go.Proofs.Ytogjolgaobcppaa
open Go.ChangeShapes Go.WideShapes Go.ChangeAt Go.RowKit

theorem size_of_alloc (w : World) (o : Obj) : (w.alloc o).heap.size = w.heap.size + 1 := by simp
/-- A draw of a number out of a reader. -/
def DrewInt (w : World) (B g P : Nat) (e : Ending) (w' : World) : Prop :=
  ∃ v : Int, e = .returned (.int .i64 v) ∧ Rd w' B g P ∧ w.grownBy w' (some g)

theorem set_any (w : World) (B g P : Nat) (N : Int) (h : Rd w B g P) (hP : P ≤ 1000000000) (hN : 1 ≤ N) (hN2 : N ≤ 1000000000000) :
    Calls Try.prog 24 #[.pointer (some ⟨g, 0, none⟩), .int .i64 N] w (DrewInt w B g (P + 4)) := by
  go_enter Try.func24, Try.ntmps24
  go_wp2_with (go_at_call 31; refine (odd_any _ _ _ _ _ h (by omega) hN hN2).mono ?_; rintro e w1 ⟨v, rfl, h1, hg1⟩)
  · have g1 := h1.lt
    refine (pick_lt _ _ _ _ _ (h1.alloc _) (by omega) (by omega)).mono ?_
    rintro e w2 ⟨x, rfl, x0, x1, h2, hg2⟩
    have hb := (Blk.new w1 3 _).grown hg2 (by intro e; injection e with e; omega)
    have fin := grown_trans hg1 (grown_trans (grown_alloc (grown_refl w1 _) _) hg2)
    have HF := Lib.hid fin
    clear fin hg1 hg2 h
    have c0 : w2.cell? ⟨w1.heap.size, 0, none⟩ = some (.int .i64 (-1)) := hb.cell 0
    have c1 : w2.cell? ⟨w1.heap.size, 1, none⟩ = some (.int .i64 65536) := hb.cell 1
    clear hb
    rcases (show x = 0 ∨ x = 1 by omega) with rfl | rfl
    all_goals
      go_wp2
      go_ret
      exact ⟨_, rfl, h2.more (by omega), HF.out⟩
  · refine (pick_lt _ _ _ _ _ h1 (by omega) (by omega)).mono ?_
    rintro e w2 ⟨x, rfl, x0, x1, h2, hg2⟩
    go_wp2_with fail
    refine (pick_lt _ _ _ _ _ h2 (by omega) (by omega)).mono ?_
    rintro e w3 ⟨y, rfl, y0, y1, h3, hg3⟩
    have g3 := h3.lt
    go_wp2_with fail
    refine (pick_lt _ _ _ _ _ ((h3.alloc _).alloc _) (by omega) (by omega)).mono ?_
    rintro e w4 ⟨x5, rfl, z0, z1, h4, hg4⟩
    have hb := ((Blk.new w3 3 #[.int .i64 x, .int .i64 (y * 257), .int .i64 0, .int .i64 65535]).alloc _).grown hg4 (by intro e; injection e with e; omega)
    have fin := grown_trans hg1 (grown_trans hg2 (grown_trans hg3 (grown_trans (grown_alloc (grown_alloc (grown_refl w3 _) _) _) hg4)))
    have hb2 := (Blk.new (w3.alloc (.cells #[.int .i64 x, .int .i64 (y * 257), .int .i64 0, .int .i64 65535] 3)) 3 _).grown hg4 (by intro e; injection e with e; simp at e; omega)
    have HF := Lib.hid fin
    simp only [size_of_alloc] at hb2
    clear fin hg1 hg2 hg3 hg4 h h1 h2 h3 g3
    have a0 : w4.cell? ⟨w3.heap.size, 0, none⟩ = some (.int .i64 x) := hb.cell 0
    have a1 : w4.cell? ⟨w3.heap.size, 1, none⟩ = some (.int .i64 (y * 257)) := hb.cell 1
    have a2 : w4.cell? ⟨w3.heap.size, 2, none⟩ = some (.int .i64 0) := hb.cell 2
    have a3 : w4.cell? ⟨w3.heap.size, 3, none⟩ = some (.int .i64 65535) := hb.cell 3
    have c0 : w4.cell? ⟨w3.heap.size + 1, 0, none⟩ = some (.int .i64 0) := hb2.cell 0
    have c1 : w4.cell? ⟨w3.heap.size + 1, 1, none⟩ = some (.int .i64 0) := hb2.cell 1
    have c2 : w4.cell? ⟨w3.heap.size + 1, 2, none⟩ = some (.int .i64 1) := hb2.cell 2
    have c3 : w4.cell? ⟨w3.heap.size + 1, 3, none⟩ = some (.int .i64 1) := hb2.cell 3
    have c4 : w4.cell? ⟨w3.heap.size + 1, 4, none⟩ = some (.int .i64 2) := hb2.cell 4
    have c5 : w4.cell? ⟨w3.heap.size + 1, 5, none⟩ = some (.int .i64 3) := hb2.cell 5
    clear hb hb2
    rcases (show x5 = 0 ∨ x5 = 1 ∨ x5 = 2 ∨ x5 = 3 ∨ x5 = 4 ∨ x5 = 5 by omega) with rfl | rfl | rfl | rfl | rfl | rfl
    all_goals
      go_wp2
      go_ret
      exact ⟨_, rfl, h4, HF.out⟩

/-- A draw of one number out of a code: nothing that was there is written. -/
def IntDrawn (w : World) (e : Ending) (w' : World) : Prop := ∃ v : Int, e = .returned (.int .i64 v) ∧ Below w.heap.size w w'
def Int2Drawn (w : World) (e : Ending) (w' : World) : Prop := ∃ u v : Int, e = .returned (.tuple #[.int .i64 u, .int .i64 v]) ∧ Below w.heap.size w w'
def Int2BDrawn (w : World) (e : Ending) (w' : World) : Prop := ∃ (u v : Int) (b : Bool), e = .returned (.tuple #[.int .i64 u, .int .i64 v, .bool b]) ∧ Below w.heap.size w w'

theorem drawCount_any (w : World) (A : Option Addr) (n c : Nat) (hn : n ≤ c) (hc : c ≤ 9223372036854775807) (h : Bytes w w.heap.size A n) :
    Calls Try.prog 11 #[.slice A n c] w (IntDrawn w) := by
  go_enter Try.func11, Try.ntmps11
  go_wp2_with fail
  refine (open_any w A n c hn hc h).mono ?_
  rintro e w1 ⟨rfl, h1, hb1⟩
  go_wp2_with fail
  refine (set_any _ _ _ _ _ h1 (by omega) (by omega) (by omega)).mono ?_
  rintro e w2 ⟨v, rfl, h2, hg2⟩
  have HF := Lib.hid (hb1.trans (Below.of_grown hg2 (Nat.le_refl _) hb1.size))
  clear h h1 h2 hb1 hg2
  go_wp2
  go_ret
  exact ⟨_, rfl, HF.out⟩
theorem drawFirst_any (w : World) (A : Option Addr) (n c : Nat) (hn : n ≤ c) (hc : c ≤ 9223372036854775807) (h : Bytes w w.heap.size A n) :
    Calls Try.prog 21 #[.slice A n c] w (IntDrawn w) := by
  go_enter Try.func21, Try.ntmps21
  go_wp2_with fail
  refine (open_any w A n c hn hc h).mono ?_
  rintro e w1 ⟨rfl, h1, hb1⟩
  go_wp2_with fail
  refine (set_any _ _ _ _ _ h1 (by omega) (by omega) (by omega)).mono ?_
  rintro e w2 ⟨v, rfl, h2, hg2⟩
  have HF := Lib.hid (hb1.trans (Below.of_grown hg2 (Nat.le_refl _) hb1.size))
  clear h h1 h2 hb1 hg2
  go_wp2
  go_ret
  exact ⟨_, rfl, HF.out⟩
theorem drawHas_any (w : World) (A : Option Addr) (n c : Nat) (hn : n ≤ c) (hc : c ≤ 9223372036854775807) (h : Bytes w w.heap.size A n) :
    Calls Try.prog 16 #[.slice A n c] w (Int2Drawn w) := by
  go_enter Try.func16, Try.ntmps16
  go_wp2_with fail
  refine (open_any w A n c hn hc h).mono ?_
  rintro e w1 ⟨rfl, h1, hb1⟩
  go_wp2_with fail
  refine (set_any _ _ _ _ _ h1 (by omega) (by omega) (by omega)).mono ?_
  rintro e w2 ⟨v, rfl, h2, hg2⟩
  go_wp2_with fail
  refine (pick_lt _ _ _ _ _ h2 (by omega) (by omega)).mono ?_
  rintro e w3 ⟨x, rfl, x0, x1, h3, hg3⟩
  go_wp2_with fail
  refine (pick_lt _ _ _ _ _ h3 (by omega) (by omega)).mono ?_
  rintro e w4 ⟨y, rfl, y0, y1, h4, hg4⟩
  have HF := Lib.hid (hb1.trans (Below.of_grown (grown_trans hg2 (grown_trans hg3 hg4)) (Nat.le_refl _) hb1.size))
  clear h h1 h2 h3 h4 hb1 hg2 hg3 hg4
  go_wp2
  go_ret2
  exact ⟨_, _, rfl, HF.out⟩
theorem drawPut_any (w : World) (A : Option Addr) (n c : Nat) (hn : n ≤ c) (hc : c ≤ 9223372036854775807) (h : Bytes w w.heap.size A n) :
    Calls Try.prog 19 #[.slice A n c] w (Int2BDrawn w) := by
  go_enter Try.func19, Try.ntmps19
  go_wp2_with fail
  refine (drawHas_any w A n c hn hc h).mono ?_
  rintro e w1 ⟨u, v, rfl, hb1⟩
  have HF := Lib.hid hb1
  clear h hb1
  go_wp2
  go_ret3
  exact ⟨_, _, _, rfl, HF.out⟩
end Go.Proofs.Ytogjolgaobcppaa
