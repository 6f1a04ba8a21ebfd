/- What the draws of chapter 2 answer: numbers, and nothing that was there is written. -/
import Derived.Test.YthgcjnieajoceaaDrawBits
import Derived.Test.YthgcjnieajoceaaCodes
import Derived.Outline
namespace Go.Proofs.Ythgcjnieajoceaa
open Go.ChangeShapes Go.WideShapes Go.ChangeAt Go.RowKit

theorem Rd.kept {w w' : World} {B g P : Nat} (h : Rd w B g P) (k : Kept w w') : Rd w' B g P := h.grown k (fun _ e => by cases e)

theorem word_any (w : World) (B g P : Nat) (N : Int) (h : Rd w B g P) (hP : P ≤ 1000000000) (hN : 1 ≤ N) (hN2 : N ≤ 1000000000000) :
    Calls Try.prog 37 #[.pointer (some ⟨g, 0, none⟩), .int .i64 N] w (DrewInt w B g (P + 6)) := by
  go_enter Try.func37, Try.ntmps37
  go_wp2_with (go_at_call 42; refine (odd_any _ _ _ _ _ h (by omega) hN hN2).mono ?_; rintro e w1 ⟨v, rfl, h1, hg1⟩)
  · have g1 := h1.lt
    refine (pick_lt _ _ _ _ _ (h1.alloc _) (by omega) (by omega)).mono ?_
    rintro e w2 ⟨x, rfl, x0, x1, h2, hg2⟩
    have hb := (Blk.new w1 3 _).grown hg2 (by intro e; injection e with e; omega)
    have fin := grown_trans hg1 (grown_trans (grown_alloc (grown_refl w1 _) _) hg2)
    have HF := Lib.hid fin
    clear fin hg1 hg2 h
    have c0 : w2.cell? ⟨w1.heap.size, 0, none⟩ = some (.int .i64 (-1)) := hb.cell 0
    have c1 : w2.cell? ⟨w1.heap.size, 1, none⟩ = some (.int .i64 4096) := hb.cell 1
    clear hb
    rcases (show x = 0 ∨ x = 1 by omega) with rfl | rfl
    all_goals
      go_wp2
      go_ret
      exact ⟨_, rfl, h2.more (by omega), HF.out⟩
  · refine (pick_lt _ _ _ _ _ h1 (by omega) (by omega)).mono ?_
    rintro e w2 ⟨x, rfl, x0, x1, h2, hg2⟩
    go_wp2_with fail
    refine (specCode_any _ _).mono ?_
    rintro e w3 ⟨rfl, hk3⟩
    have h3 := h2.kept hk3
    have hg3 := grown_trans hg1 (grown_trans hg2 (grown_some hk3))
    go_wp2_with fail
    refine (pick_lt _ _ _ _ _ h3 (by omega) (by omega)).mono ?_
    rintro e w4 ⟨k4, rfl, z0, z1, h4, hg4⟩
    have HG := Lib.hid (grown_trans hg3 hg4)
    clear hg1 hg2 hg3 hg4 hk3 h h1 h2 h3
    obtain ⟨k0, rfl⟩ := Int.eq_ofNat_of_zero_le z0
    go_wp2_with fail
    go_loopw [5, 6] (fun s i wr => ∃ (y : Int) (k : Nat), k ≤ 2 ∧ i = .int .i64 k ∧ s = .int .i64 y ∧ Rd wr B g (P + 5 - k) ∧ w.grownBy wr (some g)) (fun _ i _ => (intOf i).toNat)
    case atStart => exact ⟨_, k0, by omega, rfl, rfl, h4.more (by omega), HG.out⟩
    case round =>
      obtain ⟨y, k, hk, rfl, rfl, h5, hg5⟩ := hrel
      clear HG h4
      have HG := Lib.hid hg5
      clear hg5
      by_cases hlt : 0 < k
      · go_wp2_with fail
        refine (pick_lt _ _ _ _ _ h5 (by omega) (by omega)).mono ?_
        rintro e w6 ⟨q, rfl, q0, q1, h6, hg6⟩
        have HG2 := Lib.hid (grown_trans HG.out hg6)
        clear hg6 h5
        go_wp2_with fail
        refine (specFlip_any _ _ _).mono ?_
        rintro e w' ⟨rfl, rfl⟩
        go_wp2_with fail
        go_roundw
        case rel => exact ⟨_, k - 1, by omega, by go_num, rfl, h6.more (by omega), HG2.out⟩
        case measure => simp [intOf]; omega
      · go_wp2
        go_ret
        exact ⟨_, rfl, h5.more (by omega), HG.out⟩
theorem drawWord_any (w : World) (A : Option Addr) (n c : Nat) (hn : n ≤ c) (hc : c ≤ 9223372036854775807) (h : Bytes w w.heap.size A n) :
    Calls Try.prog 20 #[.slice A n c] w (IntDrawn w) := by
  go_enter Try.func20, Try.ntmps20
  go_wp2_with fail
  refine (open_any w A n c hn hc h).mono ?_
  rintro e w1 ⟨rfl, h1, hb1⟩
  go_wp2_with fail
  refine (word_any _ _ _ _ _ h1 (by omega) (by omega) (by omega)).mono ?_
  rintro e w2 ⟨v, rfl, h2, hg2⟩
  have HF := Lib.hid (hb1.trans (Below.of_grown hg2 (Nat.le_refl _) hb1.size))
  clear h h1 h2 hb1 hg2
  go_wp2
  go_ret
  exact ⟨_, rfl, HF.out⟩
theorem drawFlip_any (w : World) (A : Option Addr) (n c : Nat) (hn : n ≤ c) (hc : c ≤ 9223372036854775807) (h : Bytes w w.heap.size A n) :
    Calls Try.prog 18 #[.slice A n c] w (Int2Drawn w) := by
  go_enter Try.func18, Try.ntmps18
  go_wp2_with fail
  refine (open_any w A n c hn hc h).mono ?_
  rintro e w1 ⟨rfl, h1, hb1⟩
  go_wp2_with fail
  refine (word_any _ _ _ _ _ h1 (by omega) (by omega) (by omega)).mono ?_
  rintro e w2 ⟨v, rfl, h2, hg2⟩
  go_wp2_with fail
  refine (pick_lt _ _ _ _ _ h2 (by omega) (by omega)).mono ?_
  rintro e w3 ⟨x, rfl, x0, x1, h3, hg3⟩
  have HF := Lib.hid (hb1.trans (Below.of_grown (grown_trans hg2 hg3) (Nat.le_refl _) hb1.size))
  clear h h1 h2 h3 hb1 hg2 hg3
  go_wp2
  go_ret2
  exact ⟨_, _, rfl, HF.out⟩
theorem drawApart_any (w : World) (A : Option Addr) (n c : Nat) (hn : n ≤ c) (hc : c ≤ 9223372036854775807) (h : Bytes w w.heap.size A n) :
    Calls Try.prog 22 #[.slice A n c] w (Int2Drawn w) := by
  go_enter Try.func22, Try.ntmps22
  go_wp2_with fail
  refine (open_any w A n c hn hc h).mono ?_
  rintro e w1 ⟨rfl, h1, hb1⟩
  go_wp2_with fail
  refine (word_any _ _ _ _ _ h1 (by omega) (by omega) (by omega)).mono ?_
  rintro e w2 ⟨v, rfl, h2, hg2⟩
  go_wp2_with fail
  refine (word_any _ _ _ _ _ h2 (by omega) (by omega) (by omega)).mono ?_
  rintro e w3 ⟨x, rfl, h3, hg3⟩
  have HF := Lib.hid (hb1.trans (Below.of_grown (grown_trans hg2 hg3) (Nat.le_refl _) hb1.size))
  clear h h1 h2 h3 hb1 hg2 hg3
  go_wp2
  go_ret2
  exact ⟨_, _, rfl, HF.out⟩
theorem drawCode_any (w : World) (A : Option Addr) (n c : Nat) (hn : n ≤ c) (hc : c ≤ 9223372036854775807) (h : Bytes w w.heap.size A n) :
    Calls Try.prog 11 #[.slice A n c] w (IntDrawn w) := by
  go_enter Try.func11, Try.ntmps11
  go_wp2_with fail
  refine (open_any w A n c hn hc h).mono ?_
  rintro e w1 ⟨rfl, h1, hb1⟩
  go_wp2_with fail
  refine (pick_lt _ _ _ _ _ h1 (by omega) (by omega)).mono ?_
  rintro e w2 ⟨x, rfl, x0, x1, h2, hg2⟩
  have g2 := h2.lt
  go_wp2_with fail
  refine (pick_lt _ _ _ _ _ ((h2.alloc _).alloc _) (by omega) (by omega)).mono ?_
  rintro e w3 ⟨y, rfl, y0, y1, h3, hg3⟩
  have hb := ((Blk.new w2 3 #[.int .i64 x, .int .i64 256, .int .i64 (-1)]).alloc _).grown hg3 (by intro e; injection e with e; omega)
  have hb2 := (Blk.new (w2.alloc (.cells #[.int .i64 x, .int .i64 256, .int .i64 (-1)] 3)) 3 _).grown hg3 (by intro e; injection e with e; simp at e; omega)
  have HF := Lib.hid (hb1.trans (Below.of_grown (grown_trans hg2 (grown_trans (grown_alloc (grown_alloc (grown_refl w2 _) _) _) hg3)) (Nat.le_refl _) hb1.size))
  simp only [size_of_alloc] at hb2
  clear h h1 h2 h3 hb1 hg2 hg3 g2
  have a0 : w3.cell? ⟨w2.heap.size, 0, none⟩ = some (.int .i64 x) := hb.cell 0
  have a1 : w3.cell? ⟨w2.heap.size, 1, none⟩ = some (.int .i64 256) := hb.cell 1
  have a2 : w3.cell? ⟨w2.heap.size, 2, none⟩ = some (.int .i64 (-1)) := hb.cell 2
  have c0 : w3.cell? ⟨w2.heap.size + 1, 0, none⟩ = some (.int .i64 0) := hb2.cell 0
  have c1 : w3.cell? ⟨w2.heap.size + 1, 1, none⟩ = some (.int .i64 0) := hb2.cell 1
  have c2 : w3.cell? ⟨w2.heap.size + 1, 2, none⟩ = some (.int .i64 0) := hb2.cell 2
  have c3 : w3.cell? ⟨w2.heap.size + 1, 3, none⟩ = some (.int .i64 0) := hb2.cell 3
  have c4 : w3.cell? ⟨w2.heap.size + 1, 4, none⟩ = some (.int .i64 0) := hb2.cell 4
  have c5 : w3.cell? ⟨w2.heap.size + 1, 5, none⟩ = some (.int .i64 1) := hb2.cell 5
  have c6 : w3.cell? ⟨w2.heap.size + 1, 6, none⟩ = some (.int .i64 2) := hb2.cell 6
  clear hb hb2
  rcases (show y = 0 ∨ y = 1 ∨ y = 2 ∨ y = 3 ∨ y = 4 ∨ y = 5 ∨ y = 6 by omega) with rfl | rfl | rfl | rfl | rfl | rfl | rfl
  all_goals
    go_wp2
    go_ret
    exact ⟨_, rfl, HF.out⟩
end Go.Proofs.Ythgcjnieajoceaa
