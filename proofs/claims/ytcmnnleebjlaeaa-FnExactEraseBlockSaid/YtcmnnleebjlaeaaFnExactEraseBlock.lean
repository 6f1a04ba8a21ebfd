/- EraseBlock answers as its model for every block, every field, leaves it as it was, and shares no memory with it or with another answer: proved.
   Conditions: none beyond the row's own reading of the input. The frame was written by the guide's proof-skeleton; the walk is ours. -/
import Derived.Test.YtcmnnleebjlaeaaAgg
import Derived.Test.YtcmnnleebjlaeaaAggRows
import Derived.Test.YtcmnnleebjlaeaaLawExact
import Derived.Test.YtcmnnleebjlaeaaRows
import Derived.WalkKit
import Derived.ProofKit
import Derived.OpenShut
import Derived.ShutString
import Derived.ChangeOld
import Derived.Below
namespace Go.Proofs.Ytcmnnleebjlaeaa.fnExactEraseBlock
open Go.ChangeShapes Go.WideShapes Go.ChangeAt Go.RowKit
open Go.ChangeMaps (open_string shut_string)
set_option linter.unusedVariables false
set_option linter.unusedSimpArgs false

theorem own : ownKnob Try.prog.godebug = none := by kernel_rfl
theorem laidOut : laidOutB Try.prog = true := by kernel_rfl

/-- WHAT THE WALK IS TOLD OF A SLICE OF INTEGERS THAT CAME IN: it is nil; or it leads to a row of 'cap' cells, the numbers 'zs' (the first 'len' are its elements, the rest its spare room), each fitting its kind. -/
def IsRow (k : IntKind) (w : World) (a : Option Addr) (len cap : Nat) (zs : List Int) : Prop :=
  (a = none ∧ len = 0 ∧ cap = 0 ∧ zs = []) ∨
  ∃ x, a = some x ∧ len ≤ cap ∧ cap ≤ maxLen ∧ zs.length = cap ∧ (∀ i, i < zs.length → w.cell? (x.add i) = some (.int k (zs.getD i 0))) ∧ ∀ n ∈ zs, (Lit.int k n).wf = true

/-! ### STEP 1: THE WALK: the Go text returns true, AND WRITES NOTHING THAT WAS THERE: 'Below w.heap.size w w'' (Derived/Below.lean: '.refl', '.alloc', '.drew', '.setCell' at a new block, '.trans'). Open each 'IsRow' by 'rcases' AHEAD of 'go_enter'; part every test ahead of the walk. -/
set_option maxHeartbeats 4000000 in
theorem walk (a0f0 : Int) (a0f1 : Option Addr) (n0f1 c0f1 : Nat) (p0f1 : List Pg) (w : World) (w0f0 : (Lit.int .i64 a0f0).wf = true) (w0f1 : IsPages w a0f1 n0f1 c0f1 p0f1) :
    Calls Try.prog 12 #[.agg #[.int .i64 a0f0, .slice a0f1 n0f1 c0f1]] w fun e w' => e = .returned (.bool true) ∧ Below w.heap.size w w' := by
  by_cases hbig : 1048576 < n0f1
  · have hm := w0f1.2.1; have hm2 := w0f1.2.2.1
    unfold maxLen at hm2
    go_enter Try.func12, Try.ntmps12
    go_wp2_with fail
    refine (szBlock_big _ _ _ _ _ hbig (by omega)).mono ?_
    rintro e w1 ⟨rfl, hk⟩
    go_wp2
    go_ret
    exact ⟨rfl, grown_below (grown_trans (grown_alloc (grown_refl w none) (.cells #[.int .i64 a0f0, .slice a0f1 n0f1 c0f1] 45)) hk)⟩
  · cases hv : blockB a0f0 p0f1
    · have HV := Lib.hid hv
      clear hv
      have HA := Lib.hid (VB.arg (m := a0f0) w0f1)
      have HZ := Lib.hid w0f1
      clear w0f1
      go_enter Try.func12, Try.ntmps12
      go_wp2_with fail
      refine (szBlock_ok _ _ _ _ _ (by omega)).mono ?_
      rintro e w1 ⟨v, rfl, hv0, hk⟩
      have z1 := hk.size
      (try simp only [size_alloc1] at z1)
      replace HA := Lib.hid (HA.out.keep hk)
      clear hk
      obtain ⟨a0, a1, al⟩ := HA.out.cells
      have tv : decide (v < 0) = false := decide_eq_false (by omega)
      go_wp2_with fail
      clear tv
      clear a0 a1 al
      refine (toBlock_any _ _ _ _ _ _ HA.out.2.1 HA.out.2.2.1 (by omega)).mono ?_
      rintro e w2 ⟨A2, c2, rfl, hl, ho, hk⟩
      have z2 := hk.size
      (try simp only [size_alloc1] at z2)
      replace HA := Lib.hid (HA.out.keep hk)
      have HR2 := Lib.hid (And.intro hl ho.row)
      clear hk hl ho
      obtain ⟨a0, a1, al⟩ := HA.out.cells
      go_wp2_with fail
      clear a0 a1 al
      have hlo := HA.out.2.2.2.2.size
      refine (specErase_bad _ _ _ _ _ _ HR2.out.1 HR2.out.2 (by omega) HV.out).mono ?_
      rintro e w3 ⟨A4, c4, rfl, hl, ho, hk⟩
      have z3 := hk.size
      (try simp only [size_alloc1] at z3)
      replace HA := Lib.hid (HA.out.keep hk)
      have hG := HA.out.2.2.2.2
      have hst := VO.start (t := 25) (m := 0) (n := 0) (c := c4) hG hl ho hlo
      obtain ⟨a0, a1, al⟩ := HA.out.cells
      replace HA := Lib.hid (HA.out.keep (grown_alloc (grown_refl w3 none) (.cells #[.int .i64 0, .slice A4 0 c4] 25)))
      (try simp only [size_alloc1] at hst)
      have HW := Lib.hid hst
      clear hk hl ho hG hlo hst
      go_wp2_with fail
      clear a0 a1 al
      have hlo := HA.out.2.2.2.2.size
      refine (toBlock_any _ _ _ _ _ _ HA.out.2.1 HA.out.2.2.1 (by omega)).mono ?_
      rintro e w4 ⟨A3, c3, rfl, hl, ho, hk⟩
      have z4 := hk.size
      (try simp only [size_alloc1] at z4)
      replace HA := Lib.hid (HA.out.keep hk)
      replace HW := Lib.hid (HW.out.keep hk)
      have hG := HA.out.2.2.2.2
      have hst := VO.start (t := 25) (m := a0f0) (n := n0f1) (c := c3) hG hl ho hlo
      obtain ⟨a0, a1, al⟩ := HA.out.cells
      obtain ⟨u0, u1, ul⟩ := HW.out.cells
      replace HA := Lib.hid (HA.out.keep (grown_alloc (grown_refl w4 none) (.cells #[.int .i64 a0f0, .slice A3 n0f1 c3] 25)))
      replace HW := Lib.hid (HW.out.keep (grown_alloc (grown_refl w4 none) (.cells #[.int .i64 a0f0, .slice A3 n0f1 c3] 25)))
      (try simp only [size_alloc1] at hst)
      have HX := Lib.hid hst
      clear hk hl ho hG hlo hst
      go_wp2_with fail
      clear a0 a1 al u0 u1 ul
      have hlo := HA.out.2.2.2.2.size
      refine (erase_bad _ _ _ _ _ _ HX.out.1.2.1 HX.out.1.2.2.1 (by omega) HV.out).mono ?_
      rintro e w5 ⟨A5, c5, rfl, hl, ho, hk⟩
      have z5 := hk.size
      (try simp only [size_alloc1] at z5)
      replace HA := Lib.hid (HA.out.keep hk)
      replace HW := Lib.hid (HW.out.keep hk)
      replace HX := Lib.hid (HX.out.keep hk)
      have hG := HA.out.2.2.2.2
      have hst := VO.start (t := 25) (m := 0) (n := 0) (c := c5) hG hl ho hlo
      obtain ⟨a0, a1, al⟩ := HA.out.cells
      obtain ⟨u0, u1, ul⟩ := HW.out.cells
      obtain ⟨x0, x1, xl⟩ := HX.out.cells
      replace HA := Lib.hid (HA.out.keep (grown_alloc (grown_refl w5 none) (.cells #[.int .i64 0, .slice A5 0 c5] 25)))
      replace HW := Lib.hid (HW.out.keep (grown_alloc (grown_refl w5 none) (.cells #[.int .i64 0, .slice A5 0 c5] 25)))
      replace HX := Lib.hid (HX.out.keep (grown_alloc (grown_refl w5 none) (.cells #[.int .i64 0, .slice A5 0 c5] 25)))
      (try simp only [size_alloc1] at hst)
      have HG := Lib.hid hst
      clear hk hl ho hG hlo hst
      go_wp2_with fail
      clear a0 a1 al u0 u1 ul x0 x1 xl
      refine (eqBlock_same _ _ _ _ _ 0 [] _ HG.out.1.2.1 HG.out.1.2.2.1 HW.out.1.2.2.1 (by omega)).mono ?_
      rintro e w6 ⟨rfl, hk⟩
      have z6 := hk.size
      (try simp only [size_alloc1] at z6)
      replace HA := Lib.hid (HA.out.keep hk)
      replace HW := Lib.hid (HW.out.keep hk)
      replace HX := Lib.hid (HX.out.keep hk)
      replace HG := Lib.hid (HG.out.keep hk)
      clear hk
      obtain ⟨a0, a1, al⟩ := HA.out.cells
      obtain ⟨u0, u1, ul⟩ := HW.out.cells
      obtain ⟨x0, x1, xl⟩ := HX.out.cells
      obtain ⟨g0, g1, gl⟩ := HG.out.cells
      go_wp2_with fail
      refine wp_region_held_drew (S := (fun w' => w'.cell? ⟨w4.heap.size, 0, none⟩ = some (.int .i64 a0f0) ∧ w'.cell? ⟨w4.heap.size, 1, none⟩ = some (.slice A3 n0f1 c3) ∧ w'.cell? ⟨w.heap.size, 0, none⟩ = some (.int .i64 a0f0) ∧ w'.cell? ⟨w.heap.size, 1, none⟩ = some (.slice a0f1 n0f1 c0f1))) (by kernel_rfl) ?_ (fun hHeld => ?_)
      · exact ⟨x0, x1, a0, a1⟩
      replace HA := Lib.hid (HA.out.keep (grown_drew (grown_refl _ none)))
      replace HW := Lib.hid (HW.out.keep (grown_drew (grown_refl _ none)))
      replace HX := Lib.hid (HX.out.keep (grown_drew (grown_refl _ none)))
      replace HG := Lib.hid (HG.out.keep (grown_drew (grown_refl _ none)))
      refine held_yes (i := 0) (d := some 41) (v := ?_) rfl rfl (by kernel_rfl) (by kernel_rfl) (by kernel_rfl) (fun _ _ _ h => h) (by rfl) ?_ (by assumption) ?_
      rotate_left
      · (intro w hSw; (try dsimp only at hSw); go_simp; (first | done | with_reducible rfl))
      try simp only [Act.put, List.setIfInBounds_toArray, List.set_cons_zero, List.set_cons_succ]
      refine held_yes (i := 1) (d := some 42) (v := ?_) rfl rfl (by kernel_rfl) (by kernel_rfl) (by kernel_rfl) (fun _ _ _ h => h) (by rfl) ?_ (by assumption) ?_
      rotate_left
      · (intro w hSw; (try dsimp only at hSw); go_simp; (first | done | with_reducible rfl))
      try simp only [Act.put, List.setIfInBounds_toArray, List.set_cons_zero, List.set_cons_succ]
      refine wpAnyH_ready (rs := [2]) (by kernel_rfl) (by simp) ?_
      refine AllReadyH.cons rfl (fun K hK => ?_) AllReadyH.nil
      go_simp
      go_at_call 32
      refine (toBlock_any _ _ _ _ _ _ HA.out.2.1 HA.out.2.2.1 (by omega)).mono ?_
      rintro e w7 ⟨A7, c7, rfl, hl, ho, hk⟩
      replace HA := Lib.hid (HA.out.keep hk)
      replace HW := Lib.hid (HW.out.keep hk)
      replace HX := Lib.hid (HX.out.keep hk)
      replace HG := Lib.hid (HG.out.keep hk)
      have HR7 := Lib.hid (And.intro hl ho.row)
      have z7 := hk.size
      (try simp only [World.drew, size_alloc1] at z7)
      clear hk hl ho
      clear a0 a1 al u0 u1 ul x0 x1 xl g0 g1 gl
      obtain ⟨a0, a1, al⟩ := HA.out.cells
      obtain ⟨u0, u1, ul⟩ := HW.out.cells
      obtain ⟨x0, x1, xl⟩ := HX.out.cells
      obtain ⟨g0, g1, gl⟩ := HG.out.cells
      refine hK.out _ _ ?_ (fun hHeld => ?_)
      · exact ⟨x0, x1, a0, a1⟩
      clear hK K
      try simp only [Act.put, List.setIfInBounds_toArray, List.set_cons_zero, List.set_cons_succ]
      refine wpAnyH_ready (rs := [3]) (by kernel_rfl) (by simp) ?_
      refine AllReadyH.cons rfl (fun K hK => ?_) AllReadyH.nil
      go_simp
      go_at_call 33
      refine (eqBlock_same _ _ _ _ _ _ _ _ HX.out.1.2.1 HX.out.1.2.2.1 HR7.out.2 (by omega)).mono ?_
      rintro e w8 ⟨rfl, hk⟩
      have z8 := hk.size
      (try simp only [size_alloc1] at z8)
      replace HA := Lib.hid (HA.out.keep hk)
      replace HW := Lib.hid (HW.out.keep hk)
      replace HX := Lib.hid (HX.out.keep hk)
      replace HG := Lib.hid (HG.out.keep hk)
      clear hk
      clear a0 a1 al u0 u1 ul x0 x1 xl g0 g1 gl
      obtain ⟨a0, a1, al⟩ := HA.out.cells
      obtain ⟨u0, u1, ul⟩ := HW.out.cells
      obtain ⟨x0, x1, xl⟩ := HX.out.cells
      obtain ⟨g0, g1, gl⟩ := HG.out.cells
      refine hK.out _ _ ?_ (fun hHeld => ?_)
      · exact ⟨x0, x1, a0, a1⟩
      clear hK K
      try simp only [Act.put, List.setIfInBounds_toArray, List.set_cons_zero, List.set_cons_succ]
      refine held_yes (i := 4) (d := some 45) (v := ?_) rfl rfl (by kernel_rfl) (by kernel_rfl) (by kernel_rfl) (fun _ _ _ h => h) (by rfl) ?_ (by assumption) ?_
      rotate_left
      · (intro w hSw; (try dsimp only at hSw); go_simp; (first | done | with_reducible rfl))
      try simp only [Act.put, List.setIfInBounds_toArray, List.set_cons_zero, List.set_cons_succ]
      refine wpAnyH_done (by kernel_rfl) ?_ _
      go_wp2_with fail
      obtain ⟨vX, hvX⟩ : ∃ v : Int, v = ((1 + 5 * n0f1 : Nat) : Int) := ⟨_, rfl⟩
      have tX : decide (vX < 0) = false := decide_eq_false (by omega)
      have HVX := Lib.hid hvX
      clear hvX
      clear a0 a1 al u0 u1 ul x0 x1 xl g0 g1 gl
      refine (markBlock_val _ _ _ _ _ _ _ HVX.out HX.out.1.2.1 HX.out.2.1 (by omega)).mono ?_
      rintro e w9 ⟨rfl, ho, hk⟩
      have hxlo := HX.out.2.2.2
      replace HA := Lib.hid (HA.out.marked HX.out (by decide) (by omega) hk)
      replace HW := Lib.hid (HW.out.marked HX.out (by decide) (by omega) hk)
      replace HG := Lib.hid (HG.out.marked HX.out (by decide) (by omega) hk)
      replace HX := Lib.hid (HX.out.self (by decide) hk ho (marks_length _ _))
      have z9 := hk.size
      (try simp only [size_alloc1] at z9)
      clear ho hk hxlo
      obtain ⟨a0, a1, al⟩ := HA.out.cells
      obtain ⟨u0, u1, ul⟩ := HW.out.cells
      obtain ⟨x0, x1, xl⟩ := HX.out.cells
      obtain ⟨g0, g1, gl⟩ := HG.out.cells
      go_wp2_with fail
      clear a0 a1 al u0 u1 ul x0 x1 xl g0 g1 gl
      refine (eqBlock_same _ _ _ _ _ 0 [] _ HG.out.1.2.1 HG.out.1.2.2.1 HW.out.1.2.2.1 (by omega)).mono ?_
      rintro e w10 ⟨rfl, hk⟩
      have z10 := hk.size
      (try simp only [size_alloc1] at z10)
      replace HA := Lib.hid (HA.out.keep hk)
      replace HW := Lib.hid (HW.out.keep hk)
      replace HX := Lib.hid (HX.out.keep hk)
      replace HG := Lib.hid (HG.out.keep hk)
      clear hk
      obtain ⟨a0, a1, al⟩ := HA.out.cells
      obtain ⟨u0, u1, ul⟩ := HW.out.cells
      obtain ⟨x0, x1, xl⟩ := HX.out.cells
      obtain ⟨g0, g1, gl⟩ := HG.out.cells
      go_wp2_with fail
      obtain ⟨vG, hvG⟩ : ∃ v : Int, v = ((1 + 5 * 0 : Nat) : Int) := ⟨_, rfl⟩
      have tG : decide (vG < 0) = false := decide_eq_false (by omega)
      have HVG := Lib.hid hvG
      clear hvG
      clear a0 a1 al u0 u1 ul x0 x1 xl g0 g1 gl
      refine (markBlock_val _ _ _ _ _ _ _ HVG.out HG.out.1.2.1 HG.out.2.1 (by omega)).mono ?_
      rintro e w11 ⟨rfl, ho, hk⟩
      have hxlo := HG.out.2.2.2
      replace HA := Lib.hid (HA.out.marked HG.out (by decide) (by omega) hk)
      replace HW := Lib.hid (HW.out.marked HG.out (by decide) (by omega) hk)
      replace HX := Lib.hid (HX.out.marked HG.out (by decide) (by omega) hk)
      replace HG := Lib.hid (HG.out.self (by decide) hk ho (marks_length _ _))
      have z11 := hk.size
      (try simp only [size_alloc1] at z11)
      clear ho hk hxlo
      obtain ⟨a0, a1, al⟩ := HA.out.cells
      obtain ⟨u0, u1, ul⟩ := HW.out.cells
      obtain ⟨x0, x1, xl⟩ := HX.out.cells
      obtain ⟨g0, g1, gl⟩ := HG.out.cells
      go_wp2_with fail
      clear a0 a1 al u0 u1 ul x0 x1 xl g0 g1 gl
      refine (heldBlock_val _ _ _ _ _ HVG.out HG.out.1.2.2.1 (by omega)).mono ?_
      rintro e w12 ⟨rfl, hk⟩
      have z12 := hk.size
      (try simp only [size_alloc1] at z12)
      replace HA := Lib.hid (HA.out.keep hk)
      replace HW := Lib.hid (HW.out.keep hk)
      replace HX := Lib.hid (HX.out.keep hk)
      replace HG := Lib.hid (HG.out.keep hk)
      clear hk
      obtain ⟨a0, a1, al⟩ := HA.out.cells
      obtain ⟨u0, u1, ul⟩ := HW.out.cells
      obtain ⟨x0, x1, xl⟩ := HX.out.cells
      obtain ⟨g0, g1, gl⟩ := HG.out.cells
      go_wp2_with fail
      clear a0 a1 al u0 u1 ul x0 x1 xl g0 g1 gl
      refine (toBlock_any _ _ _ _ _ _ HA.out.2.1 HA.out.2.2.1 (by omega)).mono ?_
      rintro e w13 ⟨A8, c8, rfl, hl, ho, hk⟩
      have z13 := hk.size
      (try simp only [size_alloc1] at z13)
      replace HA := Lib.hid (HA.out.keep hk)
      replace HW := Lib.hid (HW.out.keep hk)
      replace HX := Lib.hid (HX.out.keep hk)
      replace HG := Lib.hid (HG.out.keep hk)
      have HR8 := Lib.hid (And.intro hl ho.row)
      clear hk hl ho
      obtain ⟨a0, a1, al⟩ := HA.out.cells
      obtain ⟨u0, u1, ul⟩ := HW.out.cells
      obtain ⟨x0, x1, xl⟩ := HX.out.cells
      obtain ⟨g0, g1, gl⟩ := HG.out.cells
      go_wp2_with fail
      clear a0 a1 al u0 u1 ul x0 x1 xl g0 g1 gl
      have hlo := HA.out.2.2.2.2.size
      refine (erase_bad _ _ _ _ _ _ HR8.out.1 HR8.out.2 (by omega) HV.out).mono ?_
      rintro e w14 ⟨A9, c9, rfl, hl, ho, hk⟩
      have z14 := hk.size
      (try simp only [size_alloc1] at z14)
      replace HA := Lib.hid (HA.out.keep hk)
      replace HW := Lib.hid (HW.out.keep hk)
      replace HX := Lib.hid (HX.out.keep hk)
      replace HG := Lib.hid (HG.out.keep hk)
      have hG := HA.out.2.2.2.2
      have hst := VO.start (t := 25) (m := 0) (n := 0) (c := c9) hG hl ho hlo
      obtain ⟨a0, a1, al⟩ := HA.out.cells
      obtain ⟨u0, u1, ul⟩ := HW.out.cells
      obtain ⟨x0, x1, xl⟩ := HX.out.cells
      obtain ⟨g0, g1, gl⟩ := HG.out.cells
      replace HA := Lib.hid (HA.out.keep (grown_alloc (grown_refl w14 none) (.cells #[.int .i64 0, .slice A9 0 c9] 25)))
      replace HW := Lib.hid (HW.out.keep (grown_alloc (grown_refl w14 none) (.cells #[.int .i64 0, .slice A9 0 c9] 25)))
      replace HX := Lib.hid (HX.out.keep (grown_alloc (grown_refl w14 none) (.cells #[.int .i64 0, .slice A9 0 c9] 25)))
      replace HG := Lib.hid (HG.out.keep (grown_alloc (grown_refl w14 none) (.cells #[.int .i64 0, .slice A9 0 c9] 25)))
      (try simp only [size_alloc1] at hst)
      have HH := Lib.hid hst
      clear hk hl ho hG hlo hst
      go_wp2_with fail
      clear a0 a1 al u0 u1 ul x0 x1 xl g0 g1 gl
      refine (eqBlock_same _ _ _ _ _ 0 [] _ HH.out.1.2.1 HH.out.1.2.2.1 HW.out.1.2.2.1 (by omega)).mono ?_
      rintro e w15 ⟨rfl, hk⟩
      have z15 := hk.size
      (try simp only [size_alloc1] at z15)
      replace HA := Lib.hid (HA.out.keep hk)
      replace HW := Lib.hid (HW.out.keep hk)
      replace HX := Lib.hid (HX.out.keep hk)
      replace HG := Lib.hid (HG.out.keep hk)
      replace HH := Lib.hid (HH.out.keep hk)
      clear hk
      obtain ⟨a0, a1, al⟩ := HA.out.cells
      obtain ⟨u0, u1, ul⟩ := HW.out.cells
      obtain ⟨x0, x1, xl⟩ := HX.out.cells
      obtain ⟨g0, g1, gl⟩ := HG.out.cells
      obtain ⟨h0, h1, hl⟩ := HH.out.cells
      go_wp2_with fail
      clear a0 a1 al u0 u1 ul x0 x1 xl g0 g1 gl h0 h1 hl
      refine (heldBlock_val _ _ _ _ _ HVG.out HG.out.1.2.2.1 (by omega)).mono ?_
      rintro e w16 ⟨rfl, hk⟩
      have z16 := hk.size
      (try simp only [size_alloc1] at z16)
      replace HA := Lib.hid (HA.out.keep hk)
      replace HW := Lib.hid (HW.out.keep hk)
      replace HX := Lib.hid (HX.out.keep hk)
      replace HG := Lib.hid (HG.out.keep hk)
      replace HH := Lib.hid (HH.out.keep hk)
      clear hk
      obtain ⟨a0, a1, al⟩ := HA.out.cells
      obtain ⟨u0, u1, ul⟩ := HW.out.cells
      obtain ⟨x0, x1, xl⟩ := HX.out.cells
      obtain ⟨g0, g1, gl⟩ := HG.out.cells
      obtain ⟨h0, h1, hl⟩ := HH.out.cells
      go_wp2
      go_ret
      exact ⟨rfl, grown_below HA.out.2.2.2.2⟩
    · have hn4 := (block_parts hv).2.1.symm.trans w0f1.1
      subst hn4
      have HV := Lib.hid hv
      by_cases hmm : a0f0 = 100
      · have HM := Lib.hid hmm
        clear hmm hv
        have HA := Lib.hid (VB.arg (m := a0f0) w0f1)
        have HZ := Lib.hid w0f1
        clear w0f1
        go_enter Try.func12, Try.ntmps12
        go_wp2_with fail
        refine (szBlock_ok _ _ _ _ _ (by omega)).mono ?_
        rintro e w1 ⟨v, rfl, hv0, hk⟩
        have z1 := hk.size
        (try simp only [size_alloc1] at z1)
        replace HA := Lib.hid (HA.out.keep hk)
        clear hk
        obtain ⟨a0, a1, al⟩ := HA.out.cells
        have tv : decide (v < 0) = false := decide_eq_false (by omega)
        go_wp2_with fail
        clear tv
        clear a0 a1 al
        refine (toBlock_any _ _ _ _ _ _ HA.out.2.1 HA.out.2.2.1 (by omega)).mono ?_
        rintro e w2 ⟨A2, c2, rfl, hl, ho, hk⟩
        have z2 := hk.size
        (try simp only [size_alloc1] at z2)
        replace HA := Lib.hid (HA.out.keep hk)
        have HR2 := Lib.hid (And.intro hl ho.row)
        clear hk hl ho
        obtain ⟨a0, a1, al⟩ := HA.out.cells
        go_wp2_with fail
        clear a0 a1 al
        have hlo := HA.out.2.2.2.2.size
        refine (specErase_max _ _ _ _ _ HR2.out.2 HV.out HM.out).mono ?_
        rintro e w3 ⟨A4, c4, rfl, hl, ho, hk⟩
        have z3 := hk.size
        (try simp only [size_alloc1] at z3)
        replace HA := Lib.hid (HA.out.keep hk)
        have hG := HA.out.2.2.2.2
        have hst := VO.start (t := 25) (m := a0f0) (n := 4) (c := c4) hG hl ho hlo
        obtain ⟨a0, a1, al⟩ := HA.out.cells
        replace HA := Lib.hid (HA.out.keep (grown_alloc (grown_refl w3 none) (.cells #[.int .i64 a0f0, .slice A4 4 c4] 25)))
        (try simp only [size_alloc1] at hst)
        have HW := Lib.hid hst
        clear hk hl ho hG hlo hst
        go_wp2_with fail
        clear a0 a1 al
        have hlo := HA.out.2.2.2.2.size
        refine (toBlock_any _ _ _ _ _ _ HA.out.2.1 HA.out.2.2.1 (by omega)).mono ?_
        rintro e w4 ⟨A3, c3, rfl, hl, ho, hk⟩
        have z4 := hk.size
        (try simp only [size_alloc1] at z4)
        replace HA := Lib.hid (HA.out.keep hk)
        replace HW := Lib.hid (HW.out.keep hk)
        have hG := HA.out.2.2.2.2
        have hst := VO.start (t := 25) (m := a0f0) (n := 4) (c := c3) hG hl ho hlo
        obtain ⟨a0, a1, al⟩ := HA.out.cells
        obtain ⟨u0, u1, ul⟩ := HW.out.cells
        replace HA := Lib.hid (HA.out.keep (grown_alloc (grown_refl w4 none) (.cells #[.int .i64 a0f0, .slice A3 4 c3] 25)))
        replace HW := Lib.hid (HW.out.keep (grown_alloc (grown_refl w4 none) (.cells #[.int .i64 a0f0, .slice A3 4 c3] 25)))
        (try simp only [size_alloc1] at hst)
        have HX := Lib.hid hst
        clear hk hl ho hG hlo hst
        go_wp2_with fail
        clear a0 a1 al u0 u1 ul
        have hlo := HA.out.2.2.2.2.size
        refine (erase_max _ _ _ _ _ HX.out.1.2.2.1 HV.out HM.out).mono ?_
        rintro e w5 ⟨A5, c5, rfl, hl, ho, hk⟩
        have z5 := hk.size
        (try simp only [size_alloc1] at z5)
        replace HA := Lib.hid (HA.out.keep hk)
        replace HW := Lib.hid (HW.out.keep hk)
        replace HX := Lib.hid (HX.out.keep hk)
        have hG := HA.out.2.2.2.2
        have hst := VO.start (t := 25) (m := a0f0) (n := 4) (c := c5) hG hl ho hlo
        obtain ⟨a0, a1, al⟩ := HA.out.cells
        obtain ⟨u0, u1, ul⟩ := HW.out.cells
        obtain ⟨x0, x1, xl⟩ := HX.out.cells
        replace HA := Lib.hid (HA.out.keep (grown_alloc (grown_refl w5 none) (.cells #[.int .i64 a0f0, .slice A5 4 c5] 25)))
        replace HW := Lib.hid (HW.out.keep (grown_alloc (grown_refl w5 none) (.cells #[.int .i64 a0f0, .slice A5 4 c5] 25)))
        replace HX := Lib.hid (HX.out.keep (grown_alloc (grown_refl w5 none) (.cells #[.int .i64 a0f0, .slice A5 4 c5] 25)))
        (try simp only [size_alloc1] at hst)
        have HG := Lib.hid hst
        clear hk hl ho hG hlo hst
        go_wp2_with fail
        clear a0 a1 al u0 u1 ul x0 x1 xl
        refine (eqBlock_same _ _ _ _ _ 4 p0f1 _ HG.out.1.2.1 HG.out.1.2.2.1 HW.out.1.2.2.1 (by omega)).mono ?_
        rintro e w6 ⟨rfl, hk⟩
        have z6 := hk.size
        (try simp only [size_alloc1] at z6)
        replace HA := Lib.hid (HA.out.keep hk)
        replace HW := Lib.hid (HW.out.keep hk)
        replace HX := Lib.hid (HX.out.keep hk)
        replace HG := Lib.hid (HG.out.keep hk)
        clear hk
        obtain ⟨a0, a1, al⟩ := HA.out.cells
        obtain ⟨u0, u1, ul⟩ := HW.out.cells
        obtain ⟨x0, x1, xl⟩ := HX.out.cells
        obtain ⟨g0, g1, gl⟩ := HG.out.cells
        go_wp2_with fail
        refine wp_region_held_drew (S := (fun w' => w'.cell? ⟨w4.heap.size, 0, none⟩ = some (.int .i64 a0f0) ∧ w'.cell? ⟨w4.heap.size, 1, none⟩ = some (.slice A3 4 c3) ∧ w'.cell? ⟨w.heap.size, 0, none⟩ = some (.int .i64 a0f0) ∧ w'.cell? ⟨w.heap.size, 1, none⟩ = some (.slice a0f1 4 c0f1))) (by kernel_rfl) ?_ (fun hHeld => ?_)
        · exact ⟨x0, x1, a0, a1⟩
        replace HA := Lib.hid (HA.out.keep (grown_drew (grown_refl _ none)))
        replace HW := Lib.hid (HW.out.keep (grown_drew (grown_refl _ none)))
        replace HX := Lib.hid (HX.out.keep (grown_drew (grown_refl _ none)))
        replace HG := Lib.hid (HG.out.keep (grown_drew (grown_refl _ none)))
        refine held_yes (i := 0) (d := some 41) (v := ?_) rfl rfl (by kernel_rfl) (by kernel_rfl) (by kernel_rfl) (fun _ _ _ h => h) (by rfl) ?_ (by assumption) ?_
        rotate_left
        · (intro w hSw; (try dsimp only at hSw); go_simp; (first | done | with_reducible rfl))
        try simp only [Act.put, List.setIfInBounds_toArray, List.set_cons_zero, List.set_cons_succ]
        refine held_yes (i := 1) (d := some 42) (v := ?_) rfl rfl (by kernel_rfl) (by kernel_rfl) (by kernel_rfl) (fun _ _ _ h => h) (by rfl) ?_ (by assumption) ?_
        rotate_left
        · (intro w hSw; (try dsimp only at hSw); go_simp; (first | done | with_reducible rfl))
        try simp only [Act.put, List.setIfInBounds_toArray, List.set_cons_zero, List.set_cons_succ]
        refine wpAnyH_ready (rs := [2]) (by kernel_rfl) (by simp) ?_
        refine AllReadyH.cons rfl (fun K hK => ?_) AllReadyH.nil
        go_simp
        go_at_call 32
        refine (toBlock_any _ _ _ _ _ _ HA.out.2.1 HA.out.2.2.1 (by omega)).mono ?_
        rintro e w7 ⟨A7, c7, rfl, hl, ho, hk⟩
        replace HA := Lib.hid (HA.out.keep hk)
        replace HW := Lib.hid (HW.out.keep hk)
        replace HX := Lib.hid (HX.out.keep hk)
        replace HG := Lib.hid (HG.out.keep hk)
        have HR7 := Lib.hid (And.intro hl ho.row)
        have z7 := hk.size
        (try simp only [World.drew, size_alloc1] at z7)
        clear hk hl ho
        clear a0 a1 al u0 u1 ul x0 x1 xl g0 g1 gl
        obtain ⟨a0, a1, al⟩ := HA.out.cells
        obtain ⟨u0, u1, ul⟩ := HW.out.cells
        obtain ⟨x0, x1, xl⟩ := HX.out.cells
        obtain ⟨g0, g1, gl⟩ := HG.out.cells
        refine hK.out _ _ ?_ (fun hHeld => ?_)
        · exact ⟨x0, x1, a0, a1⟩
        clear hK K
        try simp only [Act.put, List.setIfInBounds_toArray, List.set_cons_zero, List.set_cons_succ]
        refine wpAnyH_ready (rs := [3]) (by kernel_rfl) (by simp) ?_
        refine AllReadyH.cons rfl (fun K hK => ?_) AllReadyH.nil
        go_simp
        go_at_call 33
        refine (eqBlock_same _ _ _ _ _ _ _ _ HX.out.1.2.1 HX.out.1.2.2.1 HR7.out.2 (by omega)).mono ?_
        rintro e w8 ⟨rfl, hk⟩
        have z8 := hk.size
        (try simp only [size_alloc1] at z8)
        replace HA := Lib.hid (HA.out.keep hk)
        replace HW := Lib.hid (HW.out.keep hk)
        replace HX := Lib.hid (HX.out.keep hk)
        replace HG := Lib.hid (HG.out.keep hk)
        clear hk
        clear a0 a1 al u0 u1 ul x0 x1 xl g0 g1 gl
        obtain ⟨a0, a1, al⟩ := HA.out.cells
        obtain ⟨u0, u1, ul⟩ := HW.out.cells
        obtain ⟨x0, x1, xl⟩ := HX.out.cells
        obtain ⟨g0, g1, gl⟩ := HG.out.cells
        refine hK.out _ _ ?_ (fun hHeld => ?_)
        · exact ⟨x0, x1, a0, a1⟩
        clear hK K
        try simp only [Act.put, List.setIfInBounds_toArray, List.set_cons_zero, List.set_cons_succ]
        refine held_yes (i := 4) (d := some 45) (v := ?_) rfl rfl (by kernel_rfl) (by kernel_rfl) (by kernel_rfl) (fun _ _ _ h => h) (by rfl) ?_ (by assumption) ?_
        rotate_left
        · (intro w hSw; (try dsimp only at hSw); go_simp; (first | done | with_reducible rfl))
        try simp only [Act.put, List.setIfInBounds_toArray, List.set_cons_zero, List.set_cons_succ]
        refine wpAnyH_done (by kernel_rfl) ?_ _
        go_wp2_with fail
        obtain ⟨vX, hvX⟩ : ∃ v : Int, v = ((1 + 5 * 4 : Nat) : Int) := ⟨_, rfl⟩
        have tX : decide (vX < 0) = false := decide_eq_false (by omega)
        have HVX := Lib.hid hvX
        clear hvX
        clear a0 a1 al u0 u1 ul x0 x1 xl g0 g1 gl
        refine (markBlock_val _ _ _ _ _ _ _ HVX.out HX.out.1.2.1 HX.out.2.1 (by omega)).mono ?_
        rintro e w9 ⟨rfl, ho, hk⟩
        have hxlo := HX.out.2.2.2
        replace HA := Lib.hid (HA.out.marked HX.out (by decide) (by omega) hk)
        replace HW := Lib.hid (HW.out.marked HX.out (by decide) (by omega) hk)
        replace HG := Lib.hid (HG.out.marked HX.out (by decide) (by omega) hk)
        replace HX := Lib.hid (HX.out.self (by decide) hk ho (marks_length _ _))
        have z9 := hk.size
        (try simp only [size_alloc1] at z9)
        clear ho hk hxlo
        obtain ⟨a0, a1, al⟩ := HA.out.cells
        obtain ⟨u0, u1, ul⟩ := HW.out.cells
        obtain ⟨x0, x1, xl⟩ := HX.out.cells
        obtain ⟨g0, g1, gl⟩ := HG.out.cells
        go_wp2_with fail
        clear a0 a1 al u0 u1 ul x0 x1 xl g0 g1 gl
        refine (eqBlock_same _ _ _ _ _ 4 p0f1 _ HG.out.1.2.1 HG.out.1.2.2.1 HW.out.1.2.2.1 (by omega)).mono ?_
        rintro e w10 ⟨rfl, hk⟩
        have z10 := hk.size
        (try simp only [size_alloc1] at z10)
        replace HA := Lib.hid (HA.out.keep hk)
        replace HW := Lib.hid (HW.out.keep hk)
        replace HX := Lib.hid (HX.out.keep hk)
        replace HG := Lib.hid (HG.out.keep hk)
        clear hk
        obtain ⟨a0, a1, al⟩ := HA.out.cells
        obtain ⟨u0, u1, ul⟩ := HW.out.cells
        obtain ⟨x0, x1, xl⟩ := HX.out.cells
        obtain ⟨g0, g1, gl⟩ := HG.out.cells
        go_wp2_with fail
        obtain ⟨vG, hvG⟩ : ∃ v : Int, v = ((1 + 5 * 4 : Nat) : Int) := ⟨_, rfl⟩
        have tG : decide (vG < 0) = false := decide_eq_false (by omega)
        have HVG := Lib.hid hvG
        clear hvG
        clear a0 a1 al u0 u1 ul x0 x1 xl g0 g1 gl
        refine (markBlock_val _ _ _ _ _ _ _ HVG.out HG.out.1.2.1 HG.out.2.1 (by omega)).mono ?_
        rintro e w11 ⟨rfl, ho, hk⟩
        have hxlo := HG.out.2.2.2
        replace HA := Lib.hid (HA.out.marked HG.out (by decide) (by omega) hk)
        replace HW := Lib.hid (HW.out.marked HG.out (by decide) (by omega) hk)
        replace HX := Lib.hid (HX.out.marked HG.out (by decide) (by omega) hk)
        replace HG := Lib.hid (HG.out.self (by decide) hk ho (marks_length _ _))
        have z11 := hk.size
        (try simp only [size_alloc1] at z11)
        clear ho hk hxlo
        obtain ⟨a0, a1, al⟩ := HA.out.cells
        obtain ⟨u0, u1, ul⟩ := HW.out.cells
        obtain ⟨x0, x1, xl⟩ := HX.out.cells
        obtain ⟨g0, g1, gl⟩ := HG.out.cells
        go_wp2_with fail
        clear a0 a1 al u0 u1 ul x0 x1 xl g0 g1 gl
        refine (heldBlock_val _ _ _ _ _ HVG.out HG.out.1.2.2.1 (by omega)).mono ?_
        rintro e w12 ⟨rfl, hk⟩
        have z12 := hk.size
        (try simp only [size_alloc1] at z12)
        replace HA := Lib.hid (HA.out.keep hk)
        replace HW := Lib.hid (HW.out.keep hk)
        replace HX := Lib.hid (HX.out.keep hk)
        replace HG := Lib.hid (HG.out.keep hk)
        clear hk
        obtain ⟨a0, a1, al⟩ := HA.out.cells
        obtain ⟨u0, u1, ul⟩ := HW.out.cells
        obtain ⟨x0, x1, xl⟩ := HX.out.cells
        obtain ⟨g0, g1, gl⟩ := HG.out.cells
        go_wp2_with fail
        clear a0 a1 al u0 u1 ul x0 x1 xl g0 g1 gl
        refine (toBlock_any _ _ _ _ _ _ HA.out.2.1 HA.out.2.2.1 (by omega)).mono ?_
        rintro e w13 ⟨A8, c8, rfl, hl, ho, hk⟩
        have z13 := hk.size
        (try simp only [size_alloc1] at z13)
        replace HA := Lib.hid (HA.out.keep hk)
        replace HW := Lib.hid (HW.out.keep hk)
        replace HX := Lib.hid (HX.out.keep hk)
        replace HG := Lib.hid (HG.out.keep hk)
        have HR8 := Lib.hid (And.intro hl ho.row)
        clear hk hl ho
        obtain ⟨a0, a1, al⟩ := HA.out.cells
        obtain ⟨u0, u1, ul⟩ := HW.out.cells
        obtain ⟨x0, x1, xl⟩ := HX.out.cells
        obtain ⟨g0, g1, gl⟩ := HG.out.cells
        go_wp2_with fail
        clear a0 a1 al u0 u1 ul x0 x1 xl g0 g1 gl
        have hlo := HA.out.2.2.2.2.size
        refine (erase_max _ _ _ _ _ HR8.out.2 HV.out HM.out).mono ?_
        rintro e w14 ⟨A9, c9, rfl, hl, ho, hk⟩
        have z14 := hk.size
        (try simp only [size_alloc1] at z14)
        replace HA := Lib.hid (HA.out.keep hk)
        replace HW := Lib.hid (HW.out.keep hk)
        replace HX := Lib.hid (HX.out.keep hk)
        replace HG := Lib.hid (HG.out.keep hk)
        have hG := HA.out.2.2.2.2
        have hst := VO.start (t := 25) (m := a0f0) (n := 4) (c := c9) hG hl ho hlo
        obtain ⟨a0, a1, al⟩ := HA.out.cells
        obtain ⟨u0, u1, ul⟩ := HW.out.cells
        obtain ⟨x0, x1, xl⟩ := HX.out.cells
        obtain ⟨g0, g1, gl⟩ := HG.out.cells
        replace HA := Lib.hid (HA.out.keep (grown_alloc (grown_refl w14 none) (.cells #[.int .i64 a0f0, .slice A9 4 c9] 25)))
        replace HW := Lib.hid (HW.out.keep (grown_alloc (grown_refl w14 none) (.cells #[.int .i64 a0f0, .slice A9 4 c9] 25)))
        replace HX := Lib.hid (HX.out.keep (grown_alloc (grown_refl w14 none) (.cells #[.int .i64 a0f0, .slice A9 4 c9] 25)))
        replace HG := Lib.hid (HG.out.keep (grown_alloc (grown_refl w14 none) (.cells #[.int .i64 a0f0, .slice A9 4 c9] 25)))
        (try simp only [size_alloc1] at hst)
        have HH := Lib.hid hst
        clear hk hl ho hG hlo hst
        go_wp2_with fail
        clear a0 a1 al u0 u1 ul x0 x1 xl g0 g1 gl
        refine (eqBlock_same _ _ _ _ _ 4 p0f1 _ HH.out.1.2.1 HH.out.1.2.2.1 HW.out.1.2.2.1 (by omega)).mono ?_
        rintro e w15 ⟨rfl, hk⟩
        have z15 := hk.size
        (try simp only [size_alloc1] at z15)
        replace HA := Lib.hid (HA.out.keep hk)
        replace HW := Lib.hid (HW.out.keep hk)
        replace HX := Lib.hid (HX.out.keep hk)
        replace HG := Lib.hid (HG.out.keep hk)
        replace HH := Lib.hid (HH.out.keep hk)
        clear hk
        obtain ⟨a0, a1, al⟩ := HA.out.cells
        obtain ⟨u0, u1, ul⟩ := HW.out.cells
        obtain ⟨x0, x1, xl⟩ := HX.out.cells
        obtain ⟨g0, g1, gl⟩ := HG.out.cells
        obtain ⟨h0, h1, hl⟩ := HH.out.cells
        go_wp2_with fail
        clear a0 a1 al u0 u1 ul x0 x1 xl g0 g1 gl h0 h1 hl
        refine (heldBlock_val _ _ _ _ _ HVG.out HG.out.1.2.2.1 (by omega)).mono ?_
        rintro e w16 ⟨rfl, hk⟩
        have z16 := hk.size
        (try simp only [size_alloc1] at z16)
        replace HA := Lib.hid (HA.out.keep hk)
        replace HW := Lib.hid (HW.out.keep hk)
        replace HX := Lib.hid (HX.out.keep hk)
        replace HG := Lib.hid (HG.out.keep hk)
        replace HH := Lib.hid (HH.out.keep hk)
        clear hk
        obtain ⟨a0, a1, al⟩ := HA.out.cells
        obtain ⟨u0, u1, ul⟩ := HW.out.cells
        obtain ⟨x0, x1, xl⟩ := HX.out.cells
        obtain ⟨g0, g1, gl⟩ := HG.out.cells
        obtain ⟨h0, h1, hl⟩ := HH.out.cells
        go_wp2
        go_ret
        exact ⟨rfl, grown_below HA.out.2.2.2.2⟩
      · obtain ⟨hm0, hm1⟩ := inB_iff.1 (block_parts hv).1
        have HM := Lib.hid hmm
        clear hmm hv
        have HA := Lib.hid (VB.arg (m := a0f0) w0f1)
        have HZ := Lib.hid w0f1
        clear w0f1
        go_enter Try.func12, Try.ntmps12
        go_wp2_with fail
        refine (szBlock_ok _ _ _ _ _ (by omega)).mono ?_
        rintro e w1 ⟨v, rfl, hv0, hk⟩
        have z1 := hk.size
        (try simp only [size_alloc1] at z1)
        replace HA := Lib.hid (HA.out.keep hk)
        clear hk
        obtain ⟨a0, a1, al⟩ := HA.out.cells
        have tv : decide (v < 0) = false := decide_eq_false (by omega)
        go_wp2_with fail
        clear tv
        clear a0 a1 al
        refine (toBlock_any _ _ _ _ _ _ HA.out.2.1 HA.out.2.2.1 (by omega)).mono ?_
        rintro e w2 ⟨A2, c2, rfl, hl, ho, hk⟩
        have z2 := hk.size
        (try simp only [size_alloc1] at z2)
        replace HA := Lib.hid (HA.out.keep hk)
        have HR2 := Lib.hid (And.intro hl ho.row)
        clear hk hl ho
        obtain ⟨a0, a1, al⟩ := HA.out.cells
        go_wp2_with fail
        clear a0 a1 al
        have hlo := HA.out.2.2.2.2.size
        refine (specErase_ok _ _ _ _ _ HR2.out.2 HV.out HM.out).mono ?_
        rintro e w3 ⟨A4, c4, rfl, hl, ho, hk⟩
        have z3 := hk.size
        (try simp only [size_alloc1] at z3)
        replace HA := Lib.hid (HA.out.keep hk)
        have hG := HA.out.2.2.2.2
        have hst := VO.start (t := 25) (m := (a0f0 + 1)) (n := 4) (c := c4) hG hl ho hlo
        obtain ⟨a0, a1, al⟩ := HA.out.cells
        replace HA := Lib.hid (HA.out.keep (grown_alloc (grown_refl w3 none) (.cells #[.int .i64 (a0f0 + 1), .slice A4 4 c4] 25)))
        (try simp only [size_alloc1] at hst)
        have HW := Lib.hid hst
        clear hk hl ho hG hlo hst
        go_wp2_with fail
        clear a0 a1 al
        have hlo := HA.out.2.2.2.2.size
        refine (toBlock_any _ _ _ _ _ _ HA.out.2.1 HA.out.2.2.1 (by omega)).mono ?_
        rintro e w4 ⟨A3, c3, rfl, hl, ho, hk⟩
        have z4 := hk.size
        (try simp only [size_alloc1] at z4)
        replace HA := Lib.hid (HA.out.keep hk)
        replace HW := Lib.hid (HW.out.keep hk)
        have hG := HA.out.2.2.2.2
        have hst := VO.start (t := 25) (m := a0f0) (n := 4) (c := c3) hG hl ho hlo
        obtain ⟨a0, a1, al⟩ := HA.out.cells
        obtain ⟨u0, u1, ul⟩ := HW.out.cells
        replace HA := Lib.hid (HA.out.keep (grown_alloc (grown_refl w4 none) (.cells #[.int .i64 a0f0, .slice A3 4 c3] 25)))
        replace HW := Lib.hid (HW.out.keep (grown_alloc (grown_refl w4 none) (.cells #[.int .i64 a0f0, .slice A3 4 c3] 25)))
        (try simp only [size_alloc1] at hst)
        have HX := Lib.hid hst
        clear hk hl ho hG hlo hst
        go_wp2_with fail
        clear a0 a1 al u0 u1 ul
        have hlo := HA.out.2.2.2.2.size
        refine (erase_ok _ _ _ _ _ HX.out.1.2.2.1 HV.out HM.out).mono ?_
        rintro e w5 ⟨A5, c5, rfl, hl, ho, hk⟩
        have z5 := hk.size
        (try simp only [size_alloc1] at z5)
        replace HA := Lib.hid (HA.out.keep hk)
        replace HW := Lib.hid (HW.out.keep hk)
        replace HX := Lib.hid (HX.out.keep hk)
        have hG := HA.out.2.2.2.2
        have hst := VO.start (t := 25) (m := (a0f0 + 1)) (n := 4) (c := c5) hG hl ho hlo
        obtain ⟨a0, a1, al⟩ := HA.out.cells
        obtain ⟨u0, u1, ul⟩ := HW.out.cells
        obtain ⟨x0, x1, xl⟩ := HX.out.cells
        replace HA := Lib.hid (HA.out.keep (grown_alloc (grown_refl w5 none) (.cells #[.int .i64 (a0f0 + 1), .slice A5 4 c5] 25)))
        replace HW := Lib.hid (HW.out.keep (grown_alloc (grown_refl w5 none) (.cells #[.int .i64 (a0f0 + 1), .slice A5 4 c5] 25)))
        replace HX := Lib.hid (HX.out.keep (grown_alloc (grown_refl w5 none) (.cells #[.int .i64 (a0f0 + 1), .slice A5 4 c5] 25)))
        (try simp only [size_alloc1] at hst)
        have HG := Lib.hid hst
        clear hk hl ho hG hlo hst
        go_wp2_with fail
        clear a0 a1 al u0 u1 ul x0 x1 xl
        refine (eqBlock_same _ _ _ _ _ 4 [pz, pz, pz, pz] _ HG.out.1.2.1 HG.out.1.2.2.1 HW.out.1.2.2.1 (by omega)).mono ?_
        rintro e w6 ⟨rfl, hk⟩
        have z6 := hk.size
        (try simp only [size_alloc1] at z6)
        replace HA := Lib.hid (HA.out.keep hk)
        replace HW := Lib.hid (HW.out.keep hk)
        replace HX := Lib.hid (HX.out.keep hk)
        replace HG := Lib.hid (HG.out.keep hk)
        clear hk
        obtain ⟨a0, a1, al⟩ := HA.out.cells
        obtain ⟨u0, u1, ul⟩ := HW.out.cells
        obtain ⟨x0, x1, xl⟩ := HX.out.cells
        obtain ⟨g0, g1, gl⟩ := HG.out.cells
        go_wp2_with fail
        refine wp_region_held_drew (S := (fun w' => w'.cell? ⟨w4.heap.size, 0, none⟩ = some (.int .i64 a0f0) ∧ w'.cell? ⟨w4.heap.size, 1, none⟩ = some (.slice A3 4 c3) ∧ w'.cell? ⟨w.heap.size, 0, none⟩ = some (.int .i64 a0f0) ∧ w'.cell? ⟨w.heap.size, 1, none⟩ = some (.slice a0f1 4 c0f1))) (by kernel_rfl) ?_ (fun hHeld => ?_)
        · exact ⟨x0, x1, a0, a1⟩
        replace HA := Lib.hid (HA.out.keep (grown_drew (grown_refl _ none)))
        replace HW := Lib.hid (HW.out.keep (grown_drew (grown_refl _ none)))
        replace HX := Lib.hid (HX.out.keep (grown_drew (grown_refl _ none)))
        replace HG := Lib.hid (HG.out.keep (grown_drew (grown_refl _ none)))
        refine held_yes (i := 0) (d := some 41) (v := ?_) rfl rfl (by kernel_rfl) (by kernel_rfl) (by kernel_rfl) (fun _ _ _ h => h) (by rfl) ?_ (by assumption) ?_
        rotate_left
        · (intro w hSw; (try dsimp only at hSw); go_simp; (first | done | with_reducible rfl))
        try simp only [Act.put, List.setIfInBounds_toArray, List.set_cons_zero, List.set_cons_succ]
        refine held_yes (i := 1) (d := some 42) (v := ?_) rfl rfl (by kernel_rfl) (by kernel_rfl) (by kernel_rfl) (fun _ _ _ h => h) (by rfl) ?_ (by assumption) ?_
        rotate_left
        · (intro w hSw; (try dsimp only at hSw); go_simp; (first | done | with_reducible rfl))
        try simp only [Act.put, List.setIfInBounds_toArray, List.set_cons_zero, List.set_cons_succ]
        refine wpAnyH_ready (rs := [2]) (by kernel_rfl) (by simp) ?_
        refine AllReadyH.cons rfl (fun K hK => ?_) AllReadyH.nil
        go_simp
        go_at_call 32
        refine (toBlock_any _ _ _ _ _ _ HA.out.2.1 HA.out.2.2.1 (by omega)).mono ?_
        rintro e w7 ⟨A7, c7, rfl, hl, ho, hk⟩
        replace HA := Lib.hid (HA.out.keep hk)
        replace HW := Lib.hid (HW.out.keep hk)
        replace HX := Lib.hid (HX.out.keep hk)
        replace HG := Lib.hid (HG.out.keep hk)
        have HR7 := Lib.hid (And.intro hl ho.row)
        have z7 := hk.size
        (try simp only [World.drew, size_alloc1] at z7)
        clear hk hl ho
        clear a0 a1 al u0 u1 ul x0 x1 xl g0 g1 gl
        obtain ⟨a0, a1, al⟩ := HA.out.cells
        obtain ⟨u0, u1, ul⟩ := HW.out.cells
        obtain ⟨x0, x1, xl⟩ := HX.out.cells
        obtain ⟨g0, g1, gl⟩ := HG.out.cells
        refine hK.out _ _ ?_ (fun hHeld => ?_)
        · exact ⟨x0, x1, a0, a1⟩
        clear hK K
        try simp only [Act.put, List.setIfInBounds_toArray, List.set_cons_zero, List.set_cons_succ]
        refine wpAnyH_ready (rs := [3]) (by kernel_rfl) (by simp) ?_
        refine AllReadyH.cons rfl (fun K hK => ?_) AllReadyH.nil
        go_simp
        go_at_call 33
        refine (eqBlock_same _ _ _ _ _ _ _ _ HX.out.1.2.1 HX.out.1.2.2.1 HR7.out.2 (by omega)).mono ?_
        rintro e w8 ⟨rfl, hk⟩
        have z8 := hk.size
        (try simp only [size_alloc1] at z8)
        replace HA := Lib.hid (HA.out.keep hk)
        replace HW := Lib.hid (HW.out.keep hk)
        replace HX := Lib.hid (HX.out.keep hk)
        replace HG := Lib.hid (HG.out.keep hk)
        clear hk
        clear a0 a1 al u0 u1 ul x0 x1 xl g0 g1 gl
        obtain ⟨a0, a1, al⟩ := HA.out.cells
        obtain ⟨u0, u1, ul⟩ := HW.out.cells
        obtain ⟨x0, x1, xl⟩ := HX.out.cells
        obtain ⟨g0, g1, gl⟩ := HG.out.cells
        refine hK.out _ _ ?_ (fun hHeld => ?_)
        · exact ⟨x0, x1, a0, a1⟩
        clear hK K
        try simp only [Act.put, List.setIfInBounds_toArray, List.set_cons_zero, List.set_cons_succ]
        refine held_yes (i := 4) (d := some 45) (v := ?_) rfl rfl (by kernel_rfl) (by kernel_rfl) (by kernel_rfl) (fun _ _ _ h => h) (by rfl) ?_ (by assumption) ?_
        rotate_left
        · (intro w hSw; (try dsimp only at hSw); go_simp; (first | done | with_reducible rfl))
        try simp only [Act.put, List.setIfInBounds_toArray, List.set_cons_zero, List.set_cons_succ]
        refine wpAnyH_done (by kernel_rfl) ?_ _
        go_wp2_with fail
        obtain ⟨vX, hvX⟩ : ∃ v : Int, v = ((1 + 5 * 4 : Nat) : Int) := ⟨_, rfl⟩
        have tX : decide (vX < 0) = false := decide_eq_false (by omega)
        have HVX := Lib.hid hvX
        clear hvX
        clear a0 a1 al u0 u1 ul x0 x1 xl g0 g1 gl
        refine (markBlock_val _ _ _ _ _ _ _ HVX.out HX.out.1.2.1 HX.out.2.1 (by omega)).mono ?_
        rintro e w9 ⟨rfl, ho, hk⟩
        have hxlo := HX.out.2.2.2
        replace HA := Lib.hid (HA.out.marked HX.out (by decide) (by omega) hk)
        replace HW := Lib.hid (HW.out.marked HX.out (by decide) (by omega) hk)
        replace HG := Lib.hid (HG.out.marked HX.out (by decide) (by omega) hk)
        replace HX := Lib.hid (HX.out.self (by decide) hk ho (marks_length _ _))
        have z9 := hk.size
        (try simp only [size_alloc1] at z9)
        clear ho hk hxlo
        obtain ⟨a0, a1, al⟩ := HA.out.cells
        obtain ⟨u0, u1, ul⟩ := HW.out.cells
        obtain ⟨x0, x1, xl⟩ := HX.out.cells
        obtain ⟨g0, g1, gl⟩ := HG.out.cells
        go_wp2_with fail
        clear a0 a1 al u0 u1 ul x0 x1 xl g0 g1 gl
        refine (eqBlock_same _ _ _ _ _ 4 [pz, pz, pz, pz] _ HG.out.1.2.1 HG.out.1.2.2.1 HW.out.1.2.2.1 (by omega)).mono ?_
        rintro e w10 ⟨rfl, hk⟩
        have z10 := hk.size
        (try simp only [size_alloc1] at z10)
        replace HA := Lib.hid (HA.out.keep hk)
        replace HW := Lib.hid (HW.out.keep hk)
        replace HX := Lib.hid (HX.out.keep hk)
        replace HG := Lib.hid (HG.out.keep hk)
        clear hk
        obtain ⟨a0, a1, al⟩ := HA.out.cells
        obtain ⟨u0, u1, ul⟩ := HW.out.cells
        obtain ⟨x0, x1, xl⟩ := HX.out.cells
        obtain ⟨g0, g1, gl⟩ := HG.out.cells
        go_wp2_with fail
        obtain ⟨vG, hvG⟩ : ∃ v : Int, v = ((1 + 5 * 4 : Nat) : Int) := ⟨_, rfl⟩
        have tG : decide (vG < 0) = false := decide_eq_false (by omega)
        have HVG := Lib.hid hvG
        clear hvG
        clear a0 a1 al u0 u1 ul x0 x1 xl g0 g1 gl
        refine (markBlock_val _ _ _ _ _ _ _ HVG.out HG.out.1.2.1 HG.out.2.1 (by omega)).mono ?_
        rintro e w11 ⟨rfl, ho, hk⟩
        have hxlo := HG.out.2.2.2
        replace HA := Lib.hid (HA.out.marked HG.out (by decide) (by omega) hk)
        replace HW := Lib.hid (HW.out.marked HG.out (by decide) (by omega) hk)
        replace HX := Lib.hid (HX.out.marked HG.out (by decide) (by omega) hk)
        replace HG := Lib.hid (HG.out.self (by decide) hk ho (marks_length _ _))
        have z11 := hk.size
        (try simp only [size_alloc1] at z11)
        clear ho hk hxlo
        obtain ⟨a0, a1, al⟩ := HA.out.cells
        obtain ⟨u0, u1, ul⟩ := HW.out.cells
        obtain ⟨x0, x1, xl⟩ := HX.out.cells
        obtain ⟨g0, g1, gl⟩ := HG.out.cells
        go_wp2_with fail
        clear a0 a1 al u0 u1 ul x0 x1 xl g0 g1 gl
        refine (heldBlock_val _ _ _ _ _ HVG.out HG.out.1.2.2.1 (by omega)).mono ?_
        rintro e w12 ⟨rfl, hk⟩
        have z12 := hk.size
        (try simp only [size_alloc1] at z12)
        replace HA := Lib.hid (HA.out.keep hk)
        replace HW := Lib.hid (HW.out.keep hk)
        replace HX := Lib.hid (HX.out.keep hk)
        replace HG := Lib.hid (HG.out.keep hk)
        clear hk
        obtain ⟨a0, a1, al⟩ := HA.out.cells
        obtain ⟨u0, u1, ul⟩ := HW.out.cells
        obtain ⟨x0, x1, xl⟩ := HX.out.cells
        obtain ⟨g0, g1, gl⟩ := HG.out.cells
        go_wp2_with fail
        clear a0 a1 al u0 u1 ul x0 x1 xl g0 g1 gl
        refine (toBlock_any _ _ _ _ _ _ HA.out.2.1 HA.out.2.2.1 (by omega)).mono ?_
        rintro e w13 ⟨A8, c8, rfl, hl, ho, hk⟩
        have z13 := hk.size
        (try simp only [size_alloc1] at z13)
        replace HA := Lib.hid (HA.out.keep hk)
        replace HW := Lib.hid (HW.out.keep hk)
        replace HX := Lib.hid (HX.out.keep hk)
        replace HG := Lib.hid (HG.out.keep hk)
        have HR8 := Lib.hid (And.intro hl ho.row)
        clear hk hl ho
        obtain ⟨a0, a1, al⟩ := HA.out.cells
        obtain ⟨u0, u1, ul⟩ := HW.out.cells
        obtain ⟨x0, x1, xl⟩ := HX.out.cells
        obtain ⟨g0, g1, gl⟩ := HG.out.cells
        go_wp2_with fail
        clear a0 a1 al u0 u1 ul x0 x1 xl g0 g1 gl
        have hlo := HA.out.2.2.2.2.size
        refine (erase_ok _ _ _ _ _ HR8.out.2 HV.out HM.out).mono ?_
        rintro e w14 ⟨A9, c9, rfl, hl, ho, hk⟩
        have z14 := hk.size
        (try simp only [size_alloc1] at z14)
        replace HA := Lib.hid (HA.out.keep hk)
        replace HW := Lib.hid (HW.out.keep hk)
        replace HX := Lib.hid (HX.out.keep hk)
        replace HG := Lib.hid (HG.out.keep hk)
        have hG := HA.out.2.2.2.2
        have hst := VO.start (t := 25) (m := (a0f0 + 1)) (n := 4) (c := c9) hG hl ho hlo
        obtain ⟨a0, a1, al⟩ := HA.out.cells
        obtain ⟨u0, u1, ul⟩ := HW.out.cells
        obtain ⟨x0, x1, xl⟩ := HX.out.cells
        obtain ⟨g0, g1, gl⟩ := HG.out.cells
        replace HA := Lib.hid (HA.out.keep (grown_alloc (grown_refl w14 none) (.cells #[.int .i64 (a0f0 + 1), .slice A9 4 c9] 25)))
        replace HW := Lib.hid (HW.out.keep (grown_alloc (grown_refl w14 none) (.cells #[.int .i64 (a0f0 + 1), .slice A9 4 c9] 25)))
        replace HX := Lib.hid (HX.out.keep (grown_alloc (grown_refl w14 none) (.cells #[.int .i64 (a0f0 + 1), .slice A9 4 c9] 25)))
        replace HG := Lib.hid (HG.out.keep (grown_alloc (grown_refl w14 none) (.cells #[.int .i64 (a0f0 + 1), .slice A9 4 c9] 25)))
        (try simp only [size_alloc1] at hst)
        have HH := Lib.hid hst
        clear hk hl ho hG hlo hst
        go_wp2_with fail
        clear a0 a1 al u0 u1 ul x0 x1 xl g0 g1 gl
        refine (eqBlock_same _ _ _ _ _ 4 [pz, pz, pz, pz] _ HH.out.1.2.1 HH.out.1.2.2.1 HW.out.1.2.2.1 (by omega)).mono ?_
        rintro e w15 ⟨rfl, hk⟩
        have z15 := hk.size
        (try simp only [size_alloc1] at z15)
        replace HA := Lib.hid (HA.out.keep hk)
        replace HW := Lib.hid (HW.out.keep hk)
        replace HX := Lib.hid (HX.out.keep hk)
        replace HG := Lib.hid (HG.out.keep hk)
        replace HH := Lib.hid (HH.out.keep hk)
        clear hk
        obtain ⟨a0, a1, al⟩ := HA.out.cells
        obtain ⟨u0, u1, ul⟩ := HW.out.cells
        obtain ⟨x0, x1, xl⟩ := HX.out.cells
        obtain ⟨g0, g1, gl⟩ := HG.out.cells
        obtain ⟨h0, h1, hl⟩ := HH.out.cells
        go_wp2_with fail
        clear a0 a1 al u0 u1 ul x0 x1 xl g0 g1 gl h0 h1 hl
        refine (heldBlock_val _ _ _ _ _ HVG.out HG.out.1.2.2.1 (by omega)).mono ?_
        rintro e w16 ⟨rfl, hk⟩
        have z16 := hk.size
        (try simp only [size_alloc1] at z16)
        replace HA := Lib.hid (HA.out.keep hk)
        replace HW := Lib.hid (HW.out.keep hk)
        replace HX := Lib.hid (HX.out.keep hk)
        replace HG := Lib.hid (HG.out.keep hk)
        replace HH := Lib.hid (HH.out.keep hk)
        clear hk
        obtain ⟨a0, a1, al⟩ := HA.out.cells
        obtain ⟨u0, u1, ul⟩ := HW.out.cells
        obtain ⟨x0, x1, xl⟩ := HX.out.cells
        obtain ⟨g0, g1, gl⟩ := HG.out.cells
        obtain ⟨h0, h1, hl⟩ := HH.out.cells
        go_wp2
        go_ret
        exact ⟨rfl, grown_below HA.out.2.2.2.2⟩

/-! ### THE ROW's STEP: WRITTEN OUT: LEAVE IT -/
set_option maxRecDepth 100000 in
theorem lifted (os : Os) (started : os.Started) (H : Type) (enc : TypeId × Value → H) :
    ReturnsInHanded {} Try.checked os 12 .any (Rows.fnExactEraseBlockSpec.pre6 enc Try.prog Try.f12 Rows.fnExactEraseBlockRow.domain false) (Rows.fnExactEraseBlockSpec.post enc Try.prog Try.f12 false true false false) := by
  refine returnsInHanded_of_change (C := Try.checked) own started (by kernel_rfl) Try.func12
    (ChangeSpec.witness6 (enc := enc) (C := Try.checked) false ⟨#[], #[.agg #[.int .i64 0, .slice none 0 0]], []⟩ 8 (by kernel_rfl) (by kernel_rfl) (by kernel_rfl) (by kernel_rfl)) ?_
  intro W base args ds gs before hval0 hW hcnd _
  have hval : ∀ (j : Nat) t v, Try.f12.params[j]? = some t → args[j]? = some v → Value.okWide Try.prog W .any base t v := hval0
  have hW' := hW
  obtain ⟨p, q, hA0, hV, rfl, hfz, hnd⟩ := hW
  have hA : DataW.TrodAll enc Try.prog W 0 (fun _ => true) true Try.f12.params.toList args.toList ds p := hA0
  rw [Try.params12] at hA hval
  obtain ⟨v0, vs0, d0, ds0, p0, q0, hargs, rfl, rfl, h0, r0⟩ := trodAll_cons hA
  obtain ⟨rfl, rfl, rfl⟩ := trodAll_nil r0
  obtain rfl : args = #[v0] := by cases args; simp_all
  obtain ⟨rfl, rfl⟩ := trodVars_none hV
  have k0 := h0
  have lt0 : ∀ x ∈ p0, x.block < W.heap.size := by obtain ⟨m, hm⟩ := k0; exact DataW.trod_lt m _ _ _ hm
  obtain ⟨c0, rfl, l0, f0⟩ := open_agg Try.underlying45 (by kernel_rfl) (by kernel_rfl) (hval 0 45 v0 rfl rfl) h0
  obtain ⟨v0f0, v0f1, rfl⟩ := list2 l0
  obtain ⟨n0f0, y0f0, t0f0⟩ := f0 0 _ _ rfl rfl
  obtain ⟨a0f0, e0f0, _, w0f0⟩ := DataW.trod_int Try.underlying3 t0f0
  obtain ⟨rfl, _⟩ := List.cons.inj e0f0
  obtain ⟨n0f1, y0f1, t0f1⟩ := f0 1 _ _ rfl rfl
  obtain ⟨a0f1, n0f1, c0f1, p0f1, rfl, w0f1⟩ := open_pages t0f1
  clear hA0 hval0
  refine (walk a0f0 a0f1 n0f1 c0f1 p0f1 W w0f0 w0f1).mono fun e W' ⟨he, bel⟩ => ?_
  subst he
  exact ⟨_, rfl, _, _, _, [], _, [], hW', trodAll_mk1 (shut_bool Try.underlying4 _), (trodAll_cons_mk (Below.trod laidOut (by kernel_rfl) (of_decide_eq_true (by kernel_rfl)) k0 bel lt0) trodAll_mk0), rfl, bel.frame _, fun h => by cases h⟩

theorem over : Rows.fnExactEraseBlockRow.holds Try.pinned (OpenSpec.ofChange Rows.fnExactEraseBlockSpec) :=
  OpenClaim.holds_of_wide 12 Try.f12 rfl rfl rfl rfl rfl rfl rfl ⟨rfl, rfl, rfl, rfl, rfl⟩ rfl rfl rfl rfl rfl (by kernel_rfl) Try.func12 (by kernel_rfl)
    (of_decide_eq_true (by kernel_rfl)) (by unfold Func.isWrapper; first | (rw [if_pos (by decide +kernel)]; kernel_rfl) | (rw [if_neg (by decide +kernel)]; exact ⟨rfl, rfl⟩))
    (fun os started H enc _ => lifted os started H enc)

/-- ████ THE STATEMENT ████ -/
theorem proved : Rows.FnExactEraseBlockSaid := over
#print axioms proved
end Go.Proofs.Ytcmnnleebjlaeaa.fnExactEraseBlock
