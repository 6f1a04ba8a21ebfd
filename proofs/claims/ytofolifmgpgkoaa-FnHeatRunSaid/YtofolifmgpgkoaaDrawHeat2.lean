/- What the model draws for chapter 15, further: rounds. -/
import Derived.Test.YtofolifmgpgkoaaDrawHeat
namespace Go.Proofs.Ytofolifmgpgkoaa
open Go.ChangeShapes Go.WideShapes Go.ChangeAt Go.RowKit
set_option linter.unusedVariables false
set_option linter.unusedSimpArgs false

theorem IRow.drewHere {w : World} {B : Nat} {A : Option Addr} {xs : List Int} (h : IRow w B A xs) (k : Nat) : IRow (w.drewN k) (w.drewN k).heap.size A xs := VRow.here (VRow.drewN h k)
theorem make_ints41 (w : World) : (Instr.makeSlice 30 (.int .i64 41) (.int .i64 41)).run Try.prog w = .ok (.slice (some ⟨w.heap.size, 0, none⟩) 41 41) (w.alloc (.cells (madeCells #[.int .i64 0] 41) 3)) := make_ints w 41 (by omega)
set_option maxHeartbeats 2000000 in
theorem drawRun_any (w : World) (A : Option Addr) (n c : Nat) (hn : n ≤ c) (hc : c ≤ 9223372036854775807) (h : Bytes w w.heap.size A n) :
    Calls Try.prog 18 #[.slice A n c] w (RunDrawn w) := by
  go_enter Try.func18, Try.ntmps18
  go_wp2_with fail
  refine (open_any _ A n c hn hc h).mono ?_
  rintro e w0 ⟨rfl, h1, hb1⟩
  have hg := h1.lt
  have HB := Lib.hid (And.intro hb1 (Nat.le_refl w.heap.size))
  have HS : RowKit.Hid (NSt w0 w.heap.size w.heap.size 0 [] (.slice (some ⟨w0.heap.size, 0, none⟩) 0 0) (w0.alloc (.cells #[] 3))) := Lib.hid ⟨iown_lit0 w0 w0.heap.size (Nat.le_refl _), h1.alloc _, grown_alloc (grown_refl _ _) _, hg⟩
  clear h h1 hb1
  go_wp2_with fail
  refine (pick_lt _ _ _ _ _ HS.out.2.1 (by omega) (by omega)).mono ?_
  rintro e w1 ⟨x1, rfl, u1, v1, h1, hg1⟩
  replace HS := Lib.hid (HS.out.grown hg1 h1)
  clear h1 hg1
  obtain ⟨k0, rfl⟩ := Int.eq_ofNat_of_zero_le u1
  go_wp2
  go_loopw [4, 5] (fun u i wr => ∃ (k Q : Nat) (xs : List Int), i = .int .i64 k ∧ k ≤ 8 ∧ xs.length + k ≤ 8 ∧ Q + 2 * k ≤ 20 ∧ NSt w0 w.heap.size w.heap.size Q xs u wr) (fun _ i _ => (intOf i).toNat)
  case atStart => exact ⟨k0, 1, [], rfl, by omega, by simp; omega, by omega, HS.out⟩
  case round =>
    rename World => wq
    obtain ⟨k, Q, xs, rfl, hk, hlen, hQ, hS⟩ := hrel
    clear HS
    have HS := Lib.hid hS
    clear hS
    by_cases hk0 : k = 0
    · subst hk0
      go_wp2_with fail
      refine (odd_any _ _ _ _ _ HS.out.2.1 (by omega) (by omega) (by omega)).mono ?_
      rintro e w3 ⟨q, rfl, h3, hg3⟩
      replace HS := Lib.hid (HS.out.grown hg3 h3)
      clear h3 hg3
      cases q
      · obtain ⟨Au, cu, rfl⟩ := IOwn.slice HS.out.1
        go_wp2
        go_ret
        exact ⟨_, _, _, xs, rfl, rfl, by omega, (VOwn.capn HS.out.1 (by rw [iv_length])).1, (VOwn.capn HS.out.1 (by rw [iv_length])).2, VOwn.row HS.out.1, HB.out.1.trans (Below.of_grown HS.out.2.2.1 HB.out.2 HB.out.1.size)⟩
      · have hmk := make_ints41 w3
        have HM := Lib.hid (And.intro (iown_made w3 w0.heap.size 41 HS.out.2.2.1.size (by simp only [maxLen]; omega)) (HS.out.kept (grown_alloc (grown_refl w3 none) (.cells (madeCells #[.int .i64 0] 41) 3))))
        go_wp2
        go_ret
        exact ⟨_, 41, 41, List.replicate 41 0, rfl, by simp, by omega, by omega, by simp only [maxLen]; omega, VOwn.row HM.out.1, HB.out.1.trans (Below.of_grown HM.out.2.2.2.1 HB.out.2 HB.out.1.size)⟩
    · obtain ⟨k, rfl⟩ : ∃ j, k = j + 1 := ⟨k - 1, by omega⟩
      have k1 : decide ((0 : Int) < ((k + 1 : Nat) : Int)) = true := decide_eq_true (by omega)
      have k2 : (0 : Int) < ((k + 1 : Nat) : Int) := by omega
      go_wp2_with fail
      refine (pick_lt _ _ _ _ _ HS.out.2.1 (by omega) (by omega)).mono ?_
      rintro e w4 ⟨x, rfl, u4, v4, h4, hg4⟩
      replace HS := Lib.hid (HS.out.grown hg4 h4)
      have HLT := Lib.hid HS.out.2.1.lt
      replace HS := Lib.hid (HS.out.kept (grown_alloc (grown_alloc (grown_refl w4 none) (.cells #[.int .i64 x, .int .i64 0, .int .i64 100, .int .i64 (-1)] 3)) (.cells #[.int .i64 0, .int .i64 0, .int .i64 0, .int .i64 0, .int .i64 0, .int .i64 0, .int .i64 1, .int .i64 1, .int .i64 1, .int .i64 2, .int .i64 3] 3)))
      clear h4 hg4 u4 v4
      go_wp2_with fail
      refine (pick_lt _ _ _ _ _ HS.out.2.1 (by omega) (by omega)).mono ?_
      rintro e w5 ⟨y5, rfl, u5, v5, h5, hg5⟩
      obtain ⟨y, rfl⟩ := Int.eq_ofNat_of_zero_le u5
      obtain ⟨z, hz4, hz⟩ := litH11 y (by omega)
      obtain ⟨v, hv⟩ := litH4 z hz4 x 0 100 (-1)
      have hb := ((Blk.new w4 3 #[.int .i64 x, .int .i64 0, .int .i64 100, .int .i64 (-1)]).alloc (.cells #[.int .i64 0, .int .i64 0, .int .i64 0, .int .i64 0, .int .i64 0, .int .i64 0, .int .i64 1, .int .i64 1, .int .i64 1, .int .i64 2, .int .i64 3] 3)).grown hg5 (fun e => by have := HLT.out; injection e with e; omega)
      have hb2 := (Blk.new (w4.alloc (.cells #[.int .i64 x, .int .i64 0, .int .i64 100, .int .i64 (-1)] 3)) 3 #[.int .i64 0, .int .i64 0, .int .i64 0, .int .i64 0, .int .i64 0, .int .i64 0, .int .i64 1, .int .i64 1, .int .i64 1, .int .i64 2, .int .i64 3]).grown hg5 (fun e => by have := HLT.out; injection e with e; simp at e; omega)
      simp only [size_alloc1] at hb2
      have e1 : w5.cell? ⟨w4.heap.size + 1, y, none⟩ = some (.int .i64 (z : Int)) := (hb2.cell y).trans hz
      have e2 : w5.cell? ⟨w4.heap.size, z, none⟩ = some (.int .i64 v) := (hb.cell z).trans hv
      replace HS := Lib.hid (HS.out.grown hg5 h5)
      have y0 : decide ((0 : Int) ≤ y) = true := decide_eq_true (by omega)
      have z0 : decide ((0 : Int) ≤ z) = true := decide_eq_true (by omega)
      have z1 : (z : Int) < 4 := by omega
      obtain ⟨u', w6, hrun, hw⟩ := HS.out.push v (by omega)
      have HZ := Lib.hid hw
      have HRUN := Lib.hid hrun
      clear hb hb2 hz hv h5 hg5 hrun hw hz4
      go_wp2_with (first | (at_builtin; refine wpList_append_run _ rfl (.tmp 15) (.tmp 26) _ _ rfl _ _ rfl rfl HRUN.out ?_) | fail)
      go_roundw
      case rel => exact ⟨k, Q + 2, xs ++ [v], by go_num, by omega, by rw [List.length_append]; simp; omega, by omega, HZ.out⟩
      case measure => simp [intOf]
end Go.Proofs.Ytofolifmgpgkoaa
