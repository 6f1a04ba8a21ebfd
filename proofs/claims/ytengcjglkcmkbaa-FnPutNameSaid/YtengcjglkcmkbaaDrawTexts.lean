/- What the draws of texts answer: a text of at most 9 bytes, and nothing that was there is written. -/
import Derived.Test.YtengcjglkcmkbaaDraw
import Derived.Test.YtengcjglkcmkbaaTexts
namespace Go.Proofs.Ytengcjglkcmkbaa
open Go.ChangeShapes Go.WideShapes Go.ChangeAt Go.RowKit
set_option linter.unusedVariables false

def DrewText (w : World) (B g P : Nat) (e : Ending) (w' : World) : Prop :=
  ∃ s : ByteArray, e = .returned (.string s) ∧ s.size ≤ 9 ∧ Rd w' B g P ∧ w.grownBy w' (some g)
theorem text_good (w : World) (B g P : Nat) (h : Rd w B g P) (hP : P ≤ 1000000000) :
    Calls Try.prog 42 #[.pointer (some ⟨g, 0, none⟩), .int .i64 0] w (DrewText w B g (P + 1)) := by
  go_enter Try.func42, Try.ntmps42
  go_wp2_with (go_at_call 56; refine (odd_zero _ _).mono ?_; rintro e w' ⟨rfl, rfl⟩)
  have g1 := h.lt
  refine (pick_lt _ _ _ _ _ (h.alloc _) (by omega) (by omega)).mono ?_
  rintro e w2 ⟨x, rfl, x0, x1, h2, hg2⟩
  have hb := (Blk.new w 9 _).grown hg2 (by intro e; injection e with e; omega)
  have c0 : w2.cell? ⟨w.heap.size, 0, none⟩ = some (.string ⟨#[97]⟩) := hb.cell 0
  have c1 : w2.cell? ⟨w.heap.size, 1, none⟩ = some (.string ⟨#[98]⟩) := hb.cell 1
  have c2 : w2.cell? ⟨w.heap.size, 2, none⟩ = some (.string ⟨#[99]⟩) := hb.cell 2
  have c3 : w2.cell? ⟨w.heap.size, 3, none⟩ = some (.string ⟨#[100]⟩) := hb.cell 3
  have c4 : w2.cell? ⟨w.heap.size, 4, none⟩ = some (.string ⟨#[101]⟩) := hb.cell 4
  have c5 : w2.cell? ⟨w.heap.size, 5, none⟩ = some (.string ⟨#[102]⟩) := hb.cell 5
  have c6 : w2.cell? ⟨w.heap.size, 6, none⟩ = some (.string ⟨#[103]⟩) := hb.cell 6
  have c7 : w2.cell? ⟨w.heap.size, 7, none⟩ = some (.string ⟨#[108, 111, 103]⟩) := hb.cell 7
  clear hb
  have HF := Lib.hid (grown_trans (grown_alloc (grown_refl w _) _) hg2)
  clear hg2 h
  rcases (show x = 0 ∨ x = 1 ∨ x = 2 ∨ x = 3 ∨ x = 4 ∨ x = 5 ∨ x = 6 ∨ x = 7 by omega) with rfl | rfl | rfl | rfl | rfl | rfl | rfl | rfl
  all_goals
    go_wp2
    go_ret
    exact ⟨_, rfl, by decide, h2.more (by omega), HF.out⟩
theorem text_any (w : World) (B g P : Nat) (N : Int) (h : Rd w B g P) (hP : P ≤ 1000000000) (hN : 1 ≤ N) (hN2 : N ≤ 1000000000000) :
    Calls Try.prog 42 #[.pointer (some ⟨g, 0, none⟩), .int .i64 N] w (DrewText w B g (P + 2)) := by
  go_enter Try.func42, Try.ntmps42
  go_wp2_with (go_at_call 56; refine (odd_any _ _ _ _ _ h (by omega) hN hN2).mono ?_; rintro e w1 ⟨v, rfl, h1, hg1⟩)
  · have g1 := h1.lt
    refine (pick_lt _ _ _ _ _ (h1.alloc _) (by omega) (by omega)).mono ?_
    rintro e w2 ⟨x, rfl, x0, x1, h2, hg2⟩
    have hb := (Blk.new w1 9 _).grown hg2 (by intro e; injection e with e; omega)
    have c0 : w2.cell? ⟨w1.heap.size, 0, none⟩ = some (.string ⟨#[]⟩) := hb.cell 0
    have c1 : w2.cell? ⟨w1.heap.size, 1, none⟩ = some (.string ⟨#[65]⟩) := hb.cell 1
    have c2 : w2.cell? ⟨w1.heap.size, 2, none⟩ = some (.string ⟨#[97, 49]⟩) := hb.cell 2
    have c3 : w2.cell? ⟨w1.heap.size, 3, none⟩ = some (.string ⟨#[97, 98, 99, 100, 101, 102, 103, 104, 105]⟩) := hb.cell 3
    clear hb
    have HF := Lib.hid (grown_trans hg1 (grown_trans (grown_alloc (grown_refl w1 _) _) hg2))
    clear hg2 hg1 h h1
    rcases (show x = 0 ∨ x = 1 ∨ x = 2 ∨ x = 3 by omega) with rfl | rfl | rfl | rfl
    all_goals
      go_wp2
      go_ret
      exact ⟨_, rfl, by decide, h2.more (by omega), HF.out⟩
  · have g1 := h1.lt
    refine (pick_lt _ _ _ _ _ (h1.alloc _) (by omega) (by omega)).mono ?_
    rintro e w2 ⟨x, rfl, x0, x1, h2, hg2⟩
    have hb := (Blk.new w1 9 _).grown hg2 (by intro e; injection e with e; omega)
    have c0 : w2.cell? ⟨w1.heap.size, 0, none⟩ = some (.string ⟨#[97]⟩) := hb.cell 0
    have c1 : w2.cell? ⟨w1.heap.size, 1, none⟩ = some (.string ⟨#[98]⟩) := hb.cell 1
    have c2 : w2.cell? ⟨w1.heap.size, 2, none⟩ = some (.string ⟨#[99]⟩) := hb.cell 2
    have c3 : w2.cell? ⟨w1.heap.size, 3, none⟩ = some (.string ⟨#[100]⟩) := hb.cell 3
    have c4 : w2.cell? ⟨w1.heap.size, 4, none⟩ = some (.string ⟨#[101]⟩) := hb.cell 4
    have c5 : w2.cell? ⟨w1.heap.size, 5, none⟩ = some (.string ⟨#[102]⟩) := hb.cell 5
    have c6 : w2.cell? ⟨w1.heap.size, 6, none⟩ = some (.string ⟨#[103]⟩) := hb.cell 6
    have c7 : w2.cell? ⟨w1.heap.size, 7, none⟩ = some (.string ⟨#[108, 111, 103]⟩) := hb.cell 7
    clear hb
    have HF := Lib.hid (grown_trans hg1 (grown_trans (grown_alloc (grown_refl w1 _) _) hg2))
    clear hg2 hg1 h h1
    rcases (show x = 0 ∨ x = 1 ∨ x = 2 ∨ x = 3 ∨ x = 4 ∨ x = 5 ∨ x = 6 ∨ x = 7 by omega) with rfl | rfl | rfl | rfl | rfl | rfl | rfl | rfl
    all_goals
      go_wp2
      go_ret
      exact ⟨_, rfl, by decide, h2.more (by omega), HF.out⟩
/-- What a draw of a text answers. -/
def TextDrawn (w : World) (e : Ending) (w' : World) : Prop := ∃ s : ByteArray, e = .returned (.string s) ∧ s.size ≤ 9 ∧ Below w.heap.size w w'
theorem drawText_any (w : World) (A : Option Addr) (n c : Nat) (hn : n ≤ c) (hc : c ≤ 9223372036854775807) (h : Bytes w w.heap.size A n) :
    Calls Try.prog 15 #[.slice A n c] w (TextDrawn w) := by
  go_enter Try.func15, Try.ntmps15
  go_wp2_with fail
  refine (open_any w A n c hn hc h).mono ?_
  rintro e w1 ⟨rfl, h1, hb1⟩
  go_wp2_with fail
  refine (text_any _ _ _ _ _ h1 (by omega) (by omega) (by omega)).mono ?_
  rintro e w2 ⟨s, rfl, hs, h2, hg2⟩
  have HF := Lib.hid (hb1.trans (Below.of_grown hg2 (Nat.le_refl _) hb1.size))
  clear h h1 h2 hb1 hg2
  go_wp2
  go_ret
  exact ⟨_, rfl, hs, HF.out⟩
theorem drawBucket_any (w : World) (A : Option Addr) (n c : Nat) (hn : n ≤ c) (hc : c ≤ 9223372036854775807) (h : Bytes w w.heap.size A n) :
    Calls Try.prog 19 #[.slice A n c] w (TextDrawn w) := by
  go_enter Try.func19, Try.ntmps19
  go_wp2_with fail
  refine (open_any w A n c hn hc h).mono ?_
  rintro e w1 ⟨rfl, h1, hb1⟩
  go_wp2_with fail
  refine (text_any _ _ _ _ _ h1 (by omega) (by omega) (by omega)).mono ?_
  rintro e w2 ⟨s, rfl, hs, h2, hg2⟩
  have HF := Lib.hid (hb1.trans (Below.of_grown hg2 (Nat.le_refl _) hb1.size))
  clear h h1 h2 hb1 hg2
  go_wp2
  go_ret
  exact ⟨_, rfl, hs, HF.out⟩
end Go.Proofs.Ytengcjglkcmkbaa
