/- What the model draws for chapter 11: small values, a number. -/
import Derived.Test.YthohleidjgeaeaaSmalls
import Derived.Test.YthohleidjgeaeaaExtDraw
namespace Go.Proofs.Ythohleidjgeaeaa
open Go.ChangeShapes Go.WideShapes Go.ChangeAt Go.RowKit
set_option linter.unusedVariables false
set_option linter.unusedSimpArgs false

/-- Small values are drawn. -/
def DrewSmall (w : World) (B g P : Nat) (e : Ending) (w' : World) : Prop :=
  ∃ (A : Option Addr) (n c : Nat) (xs : List Int), e = .returned (.slice A n c) ∧ xs.length = n ∧ n ≤ 5 ∧ IOwn w' w.heap.size (.slice A n c) xs ∧ Rd w' B g P ∧ w.grownBy w' (some g)
theorem litS3 (z : Nat) (h : z < 3) (a b c : Int) : ∃ v : Int, (#[Value.int .i64 a, .int .i64 b, .int .i64 c] : Array Value)[z]? = some (.int .i64 v) := by
  match z, h with
  | 0, _ => exact ⟨a, rfl⟩
  | 1, _ => exact ⟨b, rfl⟩
  | 2, _ => exact ⟨c, rfl⟩
set_option maxHeartbeats 2000000 in
theorem smalls_any (w : World) (B g P : Nat) (N : Int) (h : Rd w B g P) (hP : P ≤ 100000) (hN : 0 ≤ N) (hN2 : N ≤ 1000000000000) :
    Calls Try.prog 24 #[.pointer (some ⟨g, 0, none⟩), .int .i64 N] w (DrewSmall w B g (P + 20)) := by
  have hg := h.lt
  have HS : RowKit.Hid (NSt w B g P [] (.slice (some ⟨w.heap.size, 0, none⟩) 0 0) (w.alloc (.cells #[] 3))) := Lib.hid ⟨iown_lit0 w w.heap.size (Nat.le_refl _), h.alloc _, grown_alloc (grown_refl _ _) _, hg⟩
  clear h
  go_enter Try.func24, Try.ntmps24
  go_wp2_with fail
  refine (pick_lt _ _ _ _ _ HS.out.2.1 (by omega) (by omega)).mono ?_
  rintro e w1 ⟨x1, rfl, u1, v1, h1, hg1⟩
  replace HS := Lib.hid (HS.out.grown hg1 h1)
  clear h1 hg1
  obtain ⟨k0, rfl⟩ := Int.eq_ofNat_of_zero_le u1
  go_wp2
  go_loopw [5, 6] (fun u i wr => ∃ (k Q : Nat) (xs : List Int), i = .int .i64 k ∧ k ≤ 4 ∧ xs.length + k ≤ 4 ∧ Q + k ≤ P + 5 ∧ NSt w B g Q xs u wr) (fun _ i _ => (intOf i).toNat)
  case atStart => exact ⟨k0, P + 1, [], rfl, by omega, by simp; omega, by omega, HS.out⟩
  case round =>
    rename World => wq
    obtain ⟨k, Q, xs, rfl, hk, hlen, hQ, hS⟩ := hrel
    clear HS
    have HS := Lib.hid hS
    clear hS
    by_cases hk0 : k = 0
    · subst hk0
      rcases (show N = 0 ∨ 1 ≤ N by omega) with rfl | hN1
      · go_wp2_with fail
        refine (odd_zero _ _).mono ?_
        rintro e w3 ⟨rfl, rfl⟩
        obtain ⟨Au, cu, rfl⟩ := IOwn.slice HS.out.1
        go_wp2
        go_ret
        exact ⟨_, _, _, xs, rfl, rfl, by omega, HS.out.1, HS.out.2.1.more (by omega), HS.out.2.2.1⟩
      · go_wp2_with fail
        refine (odd_any _ _ _ _ _ HS.out.2.1 (by omega) hN1 hN2).mono ?_
        rintro e w3 ⟨q, rfl, h3, hg3⟩
        replace HS := Lib.hid (HS.out.grown hg3 h3)
        clear h3 hg3
        cases q
        · obtain ⟨Au, cu, rfl⟩ := IOwn.slice HS.out.1
          go_wp2
          go_ret
          exact ⟨_, _, _, xs, rfl, rfl, by omega, HS.out.1, HS.out.2.1.more (by omega), HS.out.2.2.1⟩
        · have hL := Blk.new w3 3 #[.int .i64 (-1), .int .i64 16, .int .i64 3]
          have HL := Lib.hid hL
          have hlt := HS.out.2.1.lt
          replace HS := Lib.hid (HS.out.kept (grown_alloc (grown_refl w3 none) (.cells #[.int .i64 (-1), .int .i64 16, .int .i64 3] 3)))
          clear hL
          go_wp2_with fail
          refine (pick_lt _ _ _ _ _ HS.out.2.1 (by omega) (by omega)).mono ?_
          rintro e w4 ⟨x4, rfl, u4, v4, h4, hg4⟩
          obtain ⟨y, rfl⟩ := Int.eq_ofNat_of_zero_le u4
          obtain ⟨v, hv⟩ := litS3 y (by omega) (-1) 16 3
          have e4 : w4.cell? ⟨w3.heap.size, y, none⟩ = some (.int .i64 v) := ((HL.out.grown hg4 (by intro e; injection e with e; omega)).cell y).trans hv
          replace HS := Lib.hid (HS.out.grown hg4 h4)
          have y0 : decide ((0 : Int) ≤ y) = true := decide_eq_true (by omega)
          have y1 : (y : Int) < 3 := by omega
          obtain ⟨u', w5, hrun, hz⟩ := HS.out.push v (by omega)
          have HZ := Lib.hid hz
          have HRUN := Lib.hid hrun
          clear h4 hg4 hv hz hrun HL
          go_wp2_with (at_builtin; refine wpList_append_run _ rfl (.tmp 22) (.tmp 28) _ _ rfl _ _ rfl rfl HRUN.out ?_)
          obtain ⟨Au, cu, rfl⟩ := IOwn.slice HZ.out.1
          go_ret
          exact ⟨_, _, _, xs ++ [v], rfl, rfl, by rw [List.length_append]; simp; omega, HZ.out.1, HZ.out.2.1.more (by omega), HZ.out.2.2.1⟩
    · obtain ⟨k, rfl⟩ : ∃ j, k = j + 1 := ⟨k - 1, by omega⟩
      have k1 : decide ((0 : Int) < ((k + 1 : Nat) : Int)) = true := decide_eq_true (by omega)
      have k2 : (0 : Int) < ((k + 1 : Nat) : Int) := by omega
      go_wp2_with fail
      refine (pick_lt _ _ _ _ _ HS.out.2.1 (by omega) (by omega)).mono ?_
      rintro e w4 ⟨x, rfl, u4, v4, h4, hg4⟩
      replace HS := Lib.hid (HS.out.grown hg4 h4)
      obtain ⟨u', w5, hrun, hz⟩ := HS.out.push x (by omega)
      have HZ := Lib.hid hz
      have HRUN := Lib.hid hrun
      clear h4 hg4 hz hrun
      go_wp2_with (first | (at_builtin; refine wpList_append_run _ rfl (.tmp 14) (.tmp 17) _ _ rfl _ _ rfl rfl HRUN.out ?_) | fail)
      go_roundw
      case rel => exact ⟨k, Q + 1, xs ++ [x], by go_num, by omega, by rw [List.length_append]; simp; omega, by omega, HZ.out⟩
      case measure => simp [intOf]
/-- Small values are drawn out of a code. -/
def SmallDrawn (w : World) (e : Ending) (w' : World) : Prop := ∃ (A : Option Addr) (n c : Nat) (xs : List Int), e = .returned (.slice A n c) ∧ xs.length = n ∧ n ≤ 5 ∧ n ≤ c ∧ c ≤ maxLen ∧ IRow w' w'.heap.size A xs ∧ Below w.heap.size w w'
theorem drawSmallFits_any (w : World) (A : Option Addr) (n c : Nat) (hn : n ≤ c) (hc : c ≤ 9223372036854775807) (h : Bytes w w.heap.size A n) :
    Calls Try.prog 9 #[.slice A n c] w (SmallDrawn w) := by
  go_enter Try.func9, Try.ntmps9
  go_wp2_with fail
  refine (open_any _ A n c hn hc h).mono ?_
  rintro e w1 ⟨rfl, h1, hb1⟩
  go_wp2_with fail
  refine (smalls_any _ _ _ _ 2 h1 (by omega) (by omega) (by omega)).mono ?_
  rintro e w2 ⟨A2, n2, c2, xs, rfl, hl, h5, ho, h2, hg2⟩
  have HF := Lib.hid (And.intro (hb1.trans (Below.of_grown hg2 (by omega) hb1.size)) (And.intro hl (And.intro h5 (And.intro (VOwn.row ho) (VOwn.capn ho (by rw [iv_length]; exact hl))))))
  clear h h1 h2 hb1 hg2 hl ho
  go_wp2
  go_ret
  exact ⟨_, _, _, xs, rfl, HF.out.2.1, HF.out.2.2.1, HF.out.2.2.2.2.1, HF.out.2.2.2.2.2, HF.out.2.2.2.1, HF.out.1⟩
theorem drawPackSmall_any (w : World) (A : Option Addr) (n c : Nat) (hn : n ≤ c) (hc : c ≤ 9223372036854775807) (h : Bytes w w.heap.size A n) :
    Calls Try.prog 13 #[.slice A n c] w (SmallDrawn w) := by
  go_enter Try.func13, Try.ntmps13
  go_wp2_with fail
  refine (open_any _ A n c hn hc h).mono ?_
  rintro e w1 ⟨rfl, h1, hb1⟩
  go_wp2_with fail
  refine (smalls_any _ _ _ _ 6 h1 (by omega) (by omega) (by omega)).mono ?_
  rintro e w2 ⟨A2, n2, c2, xs, rfl, hl, h5, ho, h2, hg2⟩
  have HF := Lib.hid (And.intro (hb1.trans (Below.of_grown hg2 (by omega) hb1.size)) (And.intro hl (And.intro h5 (And.intro (VOwn.row ho) (VOwn.capn ho (by rw [iv_length]; exact hl))))))
  clear h h1 h2 hb1 hg2 hl ho
  go_wp2
  go_ret
  exact ⟨_, _, _, xs, rfl, HF.out.2.1, HF.out.2.2.1, HF.out.2.2.2.2.1, HF.out.2.2.2.2.2, HF.out.2.2.2.1, HF.out.1⟩
/-- A number is drawn out of a code. -/
def SmNumDrawn (w : World) (e : Ending) (w' : World) : Prop := ∃ v : Int, e = .returned (.int .i64 v) ∧ -9223372036854775808 ≤ v ∧ v ≤ 9223372036854775807 ∧ Below w.heap.size w w'
theorem drawUnpackSmall_any (w : World) (A : Option Addr) (n c : Nat) (hn : n ≤ c) (hc : c ≤ 9223372036854775807) (h : Bytes w w.heap.size A n) :
    Calls Try.prog 18 #[.slice A n c] w (SmNumDrawn w) := by
  go_enter Try.func18, Try.ntmps18
  go_wp2_with fail
  refine (open_any _ A n c hn hc h).mono ?_
  rintro e w1 ⟨rfl, h1, hb1⟩
  have hz1 := hb1.size
  have hg1 := h1.lt
  go_wp2_with fail
  refine (smalls_any _ _ _ _ 0 h1 (by omega) (by omega) (by omega)).mono ?_
  rintro e w2 ⟨A2, n2, c2, xs, rfl, hl, h5, ho, h2, hg2⟩
  have HB := Lib.hid (hb1.trans (Below.of_grown hg2 (by omega) hb1.size))
  have HO := Lib.hid (And.intro hl (And.intro (VOwn.row ho) h2))
  clear h h1 h2 hb1 hg2 hl ho
  obtain ⟨V, hV⟩ : ∃ V, smV xs = V := ⟨_, rfl⟩
  have hV1 := smV_range xs
  rw [hV] at hV1
  have HV := Lib.hid hV
  obtain ⟨hV0, hV2⟩ := hV1
  clear hV
  go_wp2_with fail
  refine (specPackSmall_val HV.out HO.out.1 HO.out.2.1 (by omega)).mono ?_
  rintro e w3 ⟨rfl, hk⟩
  replace HB := Lib.hid (Below.and_kept HB.out hk)
  have h3 := HO.out.2.2.grown hk (by intro k e; cases e)
  clear HO hk
  have HR := Lib.hid h3
  clear h3
  go_wp2_with fail
  refine (pick_lt _ _ _ _ _ HR.out (by omega) (by omega)).mono ?_
  rintro e w4 ⟨x, rfl, x0, x1, h4, hg4⟩
  replace HB := Lib.hid (HB.out.trans (Below.of_grown hg4 (by omega) HB.out.size))
  have g4 := h4.lt
  clear hg4
  go_wp2_with fail
  refine (pick_lt _ _ _ _ _ ((h4.alloc _).alloc _) (by omega) (by omega)).mono ?_
  rintro e w5 ⟨x5, rfl, z0, z1, h5', hg5⟩
  have hb := ((Blk.new w4 3 #[.int .i64 V, .int .i64 (V + 1), .int .i64 (V - 16), .int .i64 x, .int .i64 (-1), .int .i64 327680]).alloc _).grown hg5 (by intro e; injection e with e; omega)
  have hb2 := (Blk.new (w4.alloc (.cells #[.int .i64 V, .int .i64 (V + 1), .int .i64 (V - 16), .int .i64 x, .int .i64 (-1), .int .i64 327680] 3)) 3 _).grown hg5 (by intro e; injection e with e; simp at e; omega)
  have fin := HB.out.trans (Below.of_grown (grown_trans (grown_some (grown_alloc (grown_alloc (grown_refl w4 none) _) _)) hg5) (by omega) HB.out.size)
  have HF := Lib.hid fin
  simp only [size_of_alloc] at hb2
  clear fin hg5 h4 g4 h5'
  have a0 : w5.cell? ⟨w4.heap.size, 0, none⟩ = some (.int .i64 V) := hb.cell 0
  have a1 : w5.cell? ⟨w4.heap.size, 1, none⟩ = some (.int .i64 (V + 1)) := hb.cell 1
  have a2 : w5.cell? ⟨w4.heap.size, 2, none⟩ = some (.int .i64 (V - 16)) := hb.cell 2
  have a3 : w5.cell? ⟨w4.heap.size, 3, none⟩ = some (.int .i64 x) := hb.cell 3
  have a4 : w5.cell? ⟨w4.heap.size, 4, none⟩ = some (.int .i64 (-1)) := hb.cell 4
  have a5 : w5.cell? ⟨w4.heap.size, 5, none⟩ = some (.int .i64 327680) := hb.cell 5
  have c0 : w5.cell? ⟨w4.heap.size + 1, 0, none⟩ = some (.int .i64 0) := hb2.cell 0
  have c1 : w5.cell? ⟨w4.heap.size + 1, 1, none⟩ = some (.int .i64 0) := hb2.cell 1
  have c2 : w5.cell? ⟨w4.heap.size + 1, 2, none⟩ = some (.int .i64 0) := hb2.cell 2
  have c3 : w5.cell? ⟨w4.heap.size + 1, 3, none⟩ = some (.int .i64 1) := hb2.cell 3
  have c4 : w5.cell? ⟨w4.heap.size + 1, 4, none⟩ = some (.int .i64 2) := hb2.cell 4
  have c5 : w5.cell? ⟨w4.heap.size + 1, 5, none⟩ = some (.int .i64 3) := hb2.cell 5
  have c6 : w5.cell? ⟨w4.heap.size + 1, 6, none⟩ = some (.int .i64 4) := hb2.cell 6
  have c7 : w5.cell? ⟨w4.heap.size + 1, 7, none⟩ = some (.int .i64 5) := hb2.cell 7
  clear hb hb2
  rcases (show x5 = 0 ∨ x5 = 1 ∨ x5 = 2 ∨ x5 = 3 ∨ x5 = 4 ∨ x5 = 5 ∨ x5 = 6 ∨ x5 = 7 by omega) with rfl | rfl | rfl | rfl | rfl | rfl | rfl | rfl
  all_goals
    go_wp2
    go_ret
    exact ⟨_, rfl, by omega, by omega, HF.out⟩
end Go.Proofs.Ythohleidjgeaeaa
