/- SaveTable answers as its model for every table and number, changes nothing of the table, and its answer owns its memory: proved.
   Conditions: none beyond the row's own reading of the input. The frame was written by the guide's proof-skeleton; the walk is ours. -/
import Derived.Test.YtlldmbocaloogaaAgg
import Derived.Test.YtlldmbocaloogaaLawSave
import Derived.Test.YtlldmbocaloogaaHand
import Derived.Test.YtlldmbocaloogaaRows
import Derived.WalkKit
import Derived.ProofKit
import Derived.OpenShut
import Derived.ShutString
import Derived.ChangeOld
import Derived.Below
namespace Go.Proofs.Ytlldmbocaloogaa.fnExactSaveTable
open Go.ChangeShapes Go.WideShapes Go.ChangeAt Go.RowKit
open Go.ChangeMaps (open_string shut_string)
set_option linter.unusedVariables false
set_option linter.unusedSimpArgs false

theorem own : ownKnob Try.prog.godebug = none := by kernel_rfl
theorem laidOut : laidOutB Try.prog = true := by kernel_rfl

/-- WHAT THE WALK IS TOLD OF A SLICE OF INTEGERS THAT CAME IN: it is nil; or it leads to a row of 'cap' cells, the numbers 'zs' (the first 'len' are its elements, the rest its spare room), each fitting its kind. -/
def IsRow (k : IntKind) (w : World) (a : Option Addr) (len cap : Nat) (zs : List Int) : Prop :=
  (a = none ∧ len = 0 ∧ cap = 0 ∧ zs = []) ∨
  ∃ x, a = some x ∧ len ≤ cap ∧ cap ≤ maxLen ∧ zs.length = cap ∧ (∀ i, i < zs.length → w.cell? (x.add i) = some (.int k (zs.getD i 0))) ∧ ∀ n ∈ zs, (Lit.int k n).wf = true

/-! ### STEP 1: THE WALK: the Go text returns true, AND WRITES NOTHING THAT WAS THERE: 'Below w.heap.size w w'' (Derived/Below.lean: '.refl', '.alloc', '.drew', '.setCell' at a new block, '.trans'). Open each 'IsRow' by 'rcases' AHEAD of 'go_enter'; part every test ahead of the walk. -/
set_option maxHeartbeats 4000000 in
set_option maxRecDepth 100000 in
theorem walk (a0f0 : Option Addr) (n0f0 c0f0 : Nat) (p0f0 : List Li) (a1 : Int) (w : World) (w0f0 : IsLists w a0f0 n0f0 c0f0 p0f0) (w1 : (Lit.int .i64 a1).wf = true) :
    Calls Try.prog 8 #[.agg #[.slice a0f0 n0f0 c0f0], .int .i64 a1] w fun e w' => e = .returned (.bool true) ∧ Below w.heap.size w w' := by
  obtain ⟨M, X, S, hV⟩ : ∃ M X S, saveV (ll p0f0) a1 = (M, X, S) := ⟨_, _, _, rfl⟩
  obtain ⟨n1, hn1'⟩ : ∃ n1, X.length = n1 := ⟨_, rfl⟩
  have hn1 : n1 ≤ 1048576 := by rw [← hn1']; exact saveV_small hV
  have HI := Lib.hid (And.intro hV hn1')
  clear hV hn1'
  have HA := Lib.hid (VA.arg w0f0)
  have HZ := Lib.hid (w0f0.alloc (.cells #[.slice a0f0 n0f0 c0f0] 50))
  have HLHA := Lib.hid w0f0.1
  clear w0f0
  go_enter Try.func8, Try.ntmps8
  go_wp2_with fail
  refine (szTable_any _ _ _ _ _ _ HZ.out (by omega) (by omega)).mono ?_
  rintro e w1 ⟨v, rfl, hk, hv⟩
  replace HA := Lib.hid (HA.out.keep hk)
  rcases hv with rfl | ⟨hv0, hvL, hn, ht⟩
  · clear hk
    go_wp2
    go_ret
    exact ⟨rfl, grown_below HA.out.2.2.2⟩
  · have tv : decide (v < 0) = false := decide_eq_false (by omega)
    have HPHA := Lib.hid (And.intro (small_ll ht) ht)
    clear hk ht
    have bHA := HA.out.cell
    have lHA := HA.out.1.lt
    go_wp2_with fail
    clear tv
    clear bHA lHA
    refine (toTable_any _ _ _ _ _ HLHA.out HA.out.row hn HPHA.out.1).mono ?_
    rintro e w2 ⟨A2, c2, cs2, rfl, hl, hs, ho, hk⟩
    replace HA := Lib.hid (HA.out.keep hk)
    have HR2 := Lib.hid (And.intro hl (And.intro hs ho.row))
    clear hk hl hs ho
    have bHA := HA.out.cell
    have lHA := HA.out.1.lt
    go_wp2_with fail
    have hp := HA.out.1.lt
    clear bHA lHA
    refine (specSave_val (show saveV (ll cs2) a1 = (M, X, S) by rw [HR2.out.2.1]; exact HI.out.1) HR2.out.1 HR2.out.2.2 hn (small_cp HR2.out.2.1 HPHA.out.2)).mono ?_
    rintro e w3 ⟨A4, n4, c4, rfl, hl, ho, hk⟩
    obtain rfl : n1 = n4 := HI.out.2.symm.trans hl
    obtain ⟨loHW, hiHW, hx, qHW, rHW, sHW⟩ : ∃ lo hi, SvV w w3.heap.size M S A4 n1 c4 X lo hi (w3.alloc (.cells #[.int .i64 M, .slice A4 n1 c4, .int .i64 S] 35)) ∧ w.heap.size < lo ∧ lo ≤ hi ∧ hi ≤ w3.heap.size := ⟨_, _, SvV.start HA.out.2.2.2 hl ho hk, hp, hk.size, Nat.le_refl _⟩
    replace HA := Lib.hid (HA.out.keep hk)
    have bHA := HA.out.cell
    have lHA := HA.out.1.lt
    replace HA := Lib.hid (HA.out.keep (grown_alloc (grown_refl w3 none) (.cells #[.int .i64 M, .slice A4 n1 c4, .int .i64 S] 35)))
    have HW := Lib.hid hx
    clear hk ho hx hp hl
    go_wp2_with fail
    have hp := HW.out.1.lt
    clear bHA lHA
    refine (toTable_any _ _ _ _ _ HLHA.out HA.out.row hn HPHA.out.1).mono ?_
    rintro e w4 ⟨A3, c3, cs3, rfl, hl, hs, ho, hk⟩
    obtain ⟨loHX, hiHX, hx, qHX, rHX, sHX⟩ : ∃ lo hi, VT w w4.heap.size A3 n0f0 c3 cs3 lo hi (w4.alloc (.cells #[.slice A3 n0f0 c3] 31)) ∧ w3.heap.size < lo ∧ lo ≤ hi ∧ hi ≤ w4.heap.size := ⟨_, _, VT.start HA.out.2.2.2 hl ho hk, hp, hk.size, Nat.le_refl _⟩
    replace HA := Lib.hid (HA.out.keep hk)
    replace HW := Lib.hid (HW.out.keep hk)
    have bHA := HA.out.cell
    have lHA := HA.out.1.lt
    obtain ⟨bHW, cHW, dHW⟩ := HW.out.cells
    have lHW := HW.out.1.lt
    replace HA := Lib.hid (HA.out.keep (grown_alloc (grown_refl w4 none) (.cells #[.slice A3 n0f0 c3] 31)))
    replace HW := Lib.hid (HW.out.keep (grown_alloc (grown_refl w4 none) (.cells #[.slice A3 n0f0 c3] 31)))
    have HX := Lib.hid hx
    have SHX := Lib.hid hs
    clear hk hl hs ho hx hp
    go_wp2_with fail
    have hp := HX.out.1.lt
    clear bHA lHA bHW cHW dHW lHW
    refine (saveTable_val (show saveV (ll cs3) a1 = (M, X, S) by rw [SHX.out]; exact HI.out.1) HX.out.2.2.1 HX.out.row hn (small_cp SHX.out HPHA.out.2)).mono ?_
    rintro e w5 ⟨A5, n5, c5, rfl, hl, ho, hk⟩
    obtain rfl : n1 = n5 := HI.out.2.symm.trans hl
    obtain ⟨loHG, hiHG, hx, qHG, rHG, sHG⟩ : ∃ lo hi, SvV w w5.heap.size M S A5 n1 c5 X lo hi (w5.alloc (.cells #[.int .i64 M, .slice A5 n1 c5, .int .i64 S] 35)) ∧ w4.heap.size < lo ∧ lo ≤ hi ∧ hi ≤ w5.heap.size := ⟨_, _, SvV.start HA.out.2.2.2 hl ho hk, hp, hk.size, Nat.le_refl _⟩
    replace HA := Lib.hid (HA.out.keep hk)
    replace HW := Lib.hid (HW.out.keep hk)
    replace HX := Lib.hid (HX.out.keep hk)
    have bHA := HA.out.cell
    have lHA := HA.out.1.lt
    obtain ⟨bHW, cHW, dHW⟩ := HW.out.cells
    have lHW := HW.out.1.lt
    have bHX := HX.out.cell
    have lHX := HX.out.1.lt
    replace HA := Lib.hid (HA.out.keep (grown_alloc (grown_refl w5 none) (.cells #[.int .i64 M, .slice A5 n1 c5, .int .i64 S] 35)))
    replace HW := Lib.hid (HW.out.keep (grown_alloc (grown_refl w5 none) (.cells #[.int .i64 M, .slice A5 n1 c5, .int .i64 S] 35)))
    replace HX := Lib.hid (HX.out.keep (grown_alloc (grown_refl w5 none) (.cells #[.int .i64 M, .slice A5 n1 c5, .int .i64 S] 35)))
    have HG := Lib.hid hx
    clear hk ho hx hp hl
    go_wp2_with fail
    clear bHA lHA bHW cHW dHW lHW bHX lHX
    refine (eqSave_same _ _ _ _ _ _ _ _ _ HG.out.2.1.2.1 HG.out.row HW.out.row hn1).mono ?_
    rintro e w6 ⟨rfl, hk⟩
    replace HA := Lib.hid (HA.out.keep hk)
    replace HW := Lib.hid (HW.out.keep hk)
    replace HX := Lib.hid (HX.out.keep hk)
    replace HG := Lib.hid (HG.out.keep hk)
    clear hk
    have bHA := HA.out.cell
    have lHA := HA.out.1.lt
    obtain ⟨bHW, cHW, dHW⟩ := HW.out.cells
    have lHW := HW.out.1.lt
    have bHX := HX.out.cell
    have lHX := HX.out.1.lt
    obtain ⟨bHG, cHG, dHG⟩ := HG.out.cells
    have lHG := HG.out.1.lt
    go_wp2_with fail
    refine wp_region_held_drew (S := (fun w' => w'.cell? ⟨w4.heap.size, 0, none⟩ = some (.slice A3 n0f0 c3) ∧ w'.cell? ⟨w.heap.size, 0, none⟩ = some (.slice a0f0 n0f0 c0f0))) (by kernel_rfl) ?_ (fun hHeld => ?_)
    · exact ⟨bHX, bHA⟩
    replace HA := Lib.hid (HA.out.keep (grown_drew (grown_refl _ none)))
    replace HW := Lib.hid (HW.out.keep (grown_drew (grown_refl _ none)))
    replace HX := Lib.hid (HX.out.keep (grown_drew (grown_refl _ none)))
    replace HG := Lib.hid (HG.out.keep (grown_drew (grown_refl _ none)))
    refine heldY 0 31 ?_
    refine heldY 1 32 ?_
    refine wpAnyH_ready (rs := [2]) (by kernel_rfl) (by simp) ?_
    refine AllReadyH.cons rfl (fun K hK => ?_) AllReadyH.nil
    go_simp
    go_at_call 30
    clear bHA lHA bHW cHW dHW lHW bHX lHX bHG cHG dHG lHG
    refine (toTable_any _ _ _ _ _ HLHA.out HA.out.row hn HPHA.out.1).mono ?_
    rintro e w7 ⟨A6, c6, cs6, rfl, hl, hs, ho, hk⟩
    replace HA := Lib.hid (HA.out.keep hk)
    replace HW := Lib.hid (HW.out.keep hk)
    replace HX := Lib.hid (HX.out.keep hk)
    replace HG := Lib.hid (HG.out.keep hk)
    have HR6 := Lib.hid (And.intro hl (And.intro hs ho.row))
    clear hk hl hs ho
    have bHA := HA.out.cell
    have lHA := HA.out.1.lt
    obtain ⟨bHW, cHW, dHW⟩ := HW.out.cells
    have lHW := HW.out.1.lt
    have bHX := HX.out.cell
    have lHX := HX.out.1.lt
    obtain ⟨bHG, cHG, dHG⟩ := HG.out.cells
    have lHG := HG.out.1.lt
    refine hK.out _ _ ?_ (fun hHeld => ?_)
    · exact ⟨bHX, bHA⟩
    clear hK K
    try simp only [Act.put, List.setIfInBounds_toArray, List.set_cons_zero, List.set_cons_succ]
    refine wpAnyH_ready (rs := [3]) (by kernel_rfl) (by simp) ?_
    refine AllReadyH.cons rfl (fun K hK => ?_) AllReadyH.nil
    go_simp
    go_at_call 32
    clear bHA lHA bHW cHW dHW lHW bHX lHX bHG cHG dHG lHG
    refine (eqTable_same _ _ _ _ _ _ _ _ HX.out.2.2.1 (SHX.out.trans HR6.out.2.1.symm) HX.out.row HR6.out.2.2 hn (by rw [SHX.out]; exact HPHA.out.2)).mono ?_
    rintro e w8 ⟨rfl, hk⟩
    replace HA := Lib.hid (HA.out.keep hk)
    replace HW := Lib.hid (HW.out.keep hk)
    replace HX := Lib.hid (HX.out.keep hk)
    replace HG := Lib.hid (HG.out.keep hk)
    clear hk
    have bHA := HA.out.cell
    have lHA := HA.out.1.lt
    obtain ⟨bHW, cHW, dHW⟩ := HW.out.cells
    have lHW := HW.out.1.lt
    have bHX := HX.out.cell
    have lHX := HX.out.1.lt
    obtain ⟨bHG, cHG, dHG⟩ := HG.out.cells
    have lHG := HG.out.1.lt
    refine hK.out _ _ ?_ (fun hHeld => ?_)
    · exact ⟨bHX, bHA⟩
    clear hK K
    try simp only [Act.put, List.setIfInBounds_toArray, List.set_cons_zero, List.set_cons_succ]
    refine heldY 4 35 ?_
    refine wpAnyH_done (by kernel_rfl) ?_ _
    go_wp2_with fail
    have MHX := Lib.hid (show ltot (ll cs3) ≤ 1048576 by rw [SHX.out]; exact HPHA.out.2)
    obtain ⟨vX, hvX⟩ : ∃ v : Int, v = ((lend 1 cs3 : Nat) : Int) := ⟨_, rfl⟩
    have tX : decide (vX < 0) = false := decide_eq_false (by omega)
    have HVX := Lib.hid (And.intro hvX tX)
    clear hvX
    clear bHA lHA bHW cHW dHW lHW bHX lHX bHG cHG dHG lHG
    refine (markTable_val HVX.out.1 HX.out hn MHX.out).mono ?_
    rintro e w9 ⟨rfl, ho, hk⟩
    have hxlo := HX.out.2.2.2.2.2.2.1
    replace HA := Lib.hid (HA.out.marked hxlo (by omega) hk)
    replace HW := Lib.hid (HW.out.marked (by omega) hxlo hk)
    replace HG := Lib.hid (HG.out.marked (by omega) hxlo hk)
    have LHX := Lib.hid HX.out.2.2.1
    replace HX := Lib.hid (HX.out.self ho hk)
    clear ho hk hxlo
    have bHA := HA.out.cell
    have lHA := HA.out.1.lt
    obtain ⟨bHW, cHW, dHW⟩ := HW.out.cells
    have lHW := HW.out.1.lt
    have bHX := HX.out.cell
    have lHX := HX.out.1.lt
    obtain ⟨bHG, cHG, dHG⟩ := HG.out.cells
    have lHG := HG.out.1.lt
    go_wp2_with fail
    clear bHA lHA bHW cHW dHW lHW bHX lHX bHG cHG dHG lHG
    refine (eqSave_same _ _ _ _ _ _ _ _ _ HG.out.2.1.2.1 HG.out.row HW.out.row hn1).mono ?_
    rintro e w10 ⟨rfl, hk⟩
    replace HA := Lib.hid (HA.out.keep hk)
    replace HW := Lib.hid (HW.out.keep hk)
    replace HX := Lib.hid (HX.out.keep hk)
    replace HG := Lib.hid (HG.out.keep hk)
    clear hk
    have bHA := HA.out.cell
    have lHA := HA.out.1.lt
    obtain ⟨bHW, cHW, dHW⟩ := HW.out.cells
    have lHW := HW.out.1.lt
    have bHX := HX.out.cell
    have lHX := HX.out.1.lt
    obtain ⟨bHG, cHG, dHG⟩ := HG.out.cells
    have lHG := HG.out.1.lt
    go_wp2_with fail
    obtain ⟨vG, hvG⟩ : ∃ v : Int, v = ((1 + n1 : Nat) : Int) := ⟨_, rfl⟩
    have tG : decide (vG < 0) = false := decide_eq_false (by omega)
    have HVG := Lib.hid (And.intro hvG tG)
    clear hvG
    clear bHA lHA bHW cHW dHW lHW bHX lHX bHG cHG dHG lHG
    refine (markSave_val HVG.out.1 HG.out hn1).mono ?_
    rintro e w11 ⟨rfl, ho, hk⟩
    have hxlo := HG.out.2.1.2.2.2.2.1
    replace HA := Lib.hid (HA.out.marked hxlo (by omega) hk)
    replace HW := Lib.hid (HW.out.marked (by omega) hxlo hk)
    replace HX := Lib.hid (HX.out.marked (by omega) hxlo hk)
    replace HG := Lib.hid (HG.out.self ho hk)
    clear ho hk hxlo
    have bHA := HA.out.cell
    have lHA := HA.out.1.lt
    obtain ⟨bHW, cHW, dHW⟩ := HW.out.cells
    have lHW := HW.out.1.lt
    have bHX := HX.out.cell
    have lHX := HX.out.1.lt
    obtain ⟨bHG, cHG, dHG⟩ := HG.out.cells
    have lHG := HG.out.1.lt
    go_wp2_with fail
    clear bHA lHA bHW cHW dHW lHW bHX lHX bHG cHG dHG lHG
    refine (heldSave_val HVG.out.1 HG.out hn1).mono ?_
    rintro e w12 ⟨rfl, hk⟩
    replace HA := Lib.hid (HA.out.keep hk)
    replace HW := Lib.hid (HW.out.keep hk)
    replace HX := Lib.hid (HX.out.keep hk)
    replace HG := Lib.hid (HG.out.keep hk)
    clear hk
    have bHA := HA.out.cell
    have lHA := HA.out.1.lt
    obtain ⟨bHW, cHW, dHW⟩ := HW.out.cells
    have lHW := HW.out.1.lt
    have bHX := HX.out.cell
    have lHX := HX.out.1.lt
    obtain ⟨bHG, cHG, dHG⟩ := HG.out.cells
    have lHG := HG.out.1.lt
    go_wp2_with fail
    clear bHA lHA bHW cHW dHW lHW bHX lHX bHG cHG dHG lHG
    refine (toTable_any _ _ _ _ _ HLHA.out HA.out.row hn HPHA.out.1).mono ?_
    rintro e w13 ⟨A8, c8, cs8, rfl, hl, hs, ho, hk⟩
    replace HA := Lib.hid (HA.out.keep hk)
    replace HW := Lib.hid (HW.out.keep hk)
    replace HX := Lib.hid (HX.out.keep hk)
    replace HG := Lib.hid (HG.out.keep hk)
    have HR8 := Lib.hid (And.intro hl (And.intro hs ho.row))
    clear hk hl hs ho
    have bHA := HA.out.cell
    have lHA := HA.out.1.lt
    obtain ⟨bHW, cHW, dHW⟩ := HW.out.cells
    have lHW := HW.out.1.lt
    have bHX := HX.out.cell
    have lHX := HX.out.1.lt
    obtain ⟨bHG, cHG, dHG⟩ := HG.out.cells
    have lHG := HG.out.1.lt
    go_wp2_with fail
    have hp := HG.out.1.lt
    clear bHA lHA bHW cHW dHW lHW bHX lHX bHG cHG dHG lHG
    refine (saveTable_val (show saveV (ll cs8) a1 = (M, X, S) by rw [HR8.out.2.1]; exact HI.out.1) HR8.out.1 HR8.out.2.2 hn (small_cp HR8.out.2.1 HPHA.out.2)).mono ?_
    rintro e w14 ⟨A9, n9, c9, rfl, hl, ho, hk⟩
    obtain rfl : n1 = n9 := HI.out.2.symm.trans hl
    obtain ⟨loHH, hiHH, hx, qHH, rHH, sHH⟩ : ∃ lo hi, SvV w w14.heap.size M S A9 n1 c9 X lo hi (w14.alloc (.cells #[.int .i64 M, .slice A9 n1 c9, .int .i64 S] 35)) ∧ w5.heap.size < lo ∧ lo ≤ hi ∧ hi ≤ w14.heap.size := ⟨_, _, SvV.start HA.out.2.2.2 hl ho hk, hp, hk.size, Nat.le_refl _⟩
    replace HA := Lib.hid (HA.out.keep hk)
    replace HW := Lib.hid (HW.out.keep hk)
    replace HX := Lib.hid (HX.out.keep hk)
    replace HG := Lib.hid (HG.out.keep hk)
    have bHA := HA.out.cell
    have lHA := HA.out.1.lt
    obtain ⟨bHW, cHW, dHW⟩ := HW.out.cells
    have lHW := HW.out.1.lt
    have bHX := HX.out.cell
    have lHX := HX.out.1.lt
    obtain ⟨bHG, cHG, dHG⟩ := HG.out.cells
    have lHG := HG.out.1.lt
    replace HA := Lib.hid (HA.out.keep (grown_alloc (grown_refl w14 none) (.cells #[.int .i64 M, .slice A9 n1 c9, .int .i64 S] 35)))
    replace HW := Lib.hid (HW.out.keep (grown_alloc (grown_refl w14 none) (.cells #[.int .i64 M, .slice A9 n1 c9, .int .i64 S] 35)))
    replace HX := Lib.hid (HX.out.keep (grown_alloc (grown_refl w14 none) (.cells #[.int .i64 M, .slice A9 n1 c9, .int .i64 S] 35)))
    replace HG := Lib.hid (HG.out.keep (grown_alloc (grown_refl w14 none) (.cells #[.int .i64 M, .slice A9 n1 c9, .int .i64 S] 35)))
    have HH := Lib.hid hx
    clear hk ho hx hp hl
    go_wp2_with fail
    clear bHA lHA bHW cHW dHW lHW bHX lHX bHG cHG dHG lHG
    refine (eqSave_same _ _ _ _ _ _ _ _ _ HH.out.2.1.2.1 HH.out.row HW.out.row hn1).mono ?_
    rintro e w15 ⟨rfl, hk⟩
    replace HA := Lib.hid (HA.out.keep hk)
    replace HW := Lib.hid (HW.out.keep hk)
    replace HX := Lib.hid (HX.out.keep hk)
    replace HG := Lib.hid (HG.out.keep hk)
    replace HH := Lib.hid (HH.out.keep hk)
    clear hk
    have bHA := HA.out.cell
    have lHA := HA.out.1.lt
    obtain ⟨bHW, cHW, dHW⟩ := HW.out.cells
    have lHW := HW.out.1.lt
    have bHX := HX.out.cell
    have lHX := HX.out.1.lt
    obtain ⟨bHG, cHG, dHG⟩ := HG.out.cells
    have lHG := HG.out.1.lt
    obtain ⟨bHH, cHH, dHH⟩ := HH.out.cells
    have lHH := HH.out.1.lt
    go_wp2_with fail
    clear bHA lHA bHW cHW dHW lHW bHX lHX bHG cHG dHG lHG bHH cHH dHH lHH
    refine (heldSave_val HVG.out.1 HG.out hn1).mono ?_
    rintro e w16 ⟨rfl, hk⟩
    replace HA := Lib.hid (HA.out.keep hk)
    replace HW := Lib.hid (HW.out.keep hk)
    replace HX := Lib.hid (HX.out.keep hk)
    replace HG := Lib.hid (HG.out.keep hk)
    replace HH := Lib.hid (HH.out.keep hk)
    clear hk
    have bHA := HA.out.cell
    have lHA := HA.out.1.lt
    obtain ⟨bHW, cHW, dHW⟩ := HW.out.cells
    have lHW := HW.out.1.lt
    have bHX := HX.out.cell
    have lHX := HX.out.1.lt
    obtain ⟨bHG, cHG, dHG⟩ := HG.out.cells
    have lHG := HG.out.1.lt
    obtain ⟨bHH, cHH, dHH⟩ := HH.out.cells
    have lHH := HH.out.1.lt
    go_wp2
    go_ret
    exact ⟨rfl, grown_below HA.out.2.2.2⟩

/-! ### THE ROW's STEP: WRITTEN OUT: LEAVE IT -/
set_option maxRecDepth 100000 in
theorem lifted (os : Os) (started : os.Started) (H : Type) (enc : TypeId × Value → H) :
    ReturnsInHanded {} Try.checked os 8 .any (Rows.fnExactSaveTableSpec.pre6 enc Try.prog Try.f8 Rows.fnExactSaveTableRow.domain false) (Rows.fnExactSaveTableSpec.post enc Try.prog Try.f8 false true false false) := by
  refine returnsInHanded_of_change (C := Try.checked) own started (by kernel_rfl) Try.func8
    (ChangeSpec.witness6 (enc := enc) (C := Try.checked) false ⟨#[], #[.agg #[.slice none 0 0], .int .i64 0], []⟩ 8 (by kernel_rfl) (by kernel_rfl) (by kernel_rfl) (by kernel_rfl)) ?_
  intro W base args ds gs before hval0 hW hcnd _
  have hval : ∀ (j : Nat) t v, Try.f8.params[j]? = some t → args[j]? = some v → Value.okWide Try.prog W .any base t v := hval0
  have hW' := hW
  obtain ⟨p, q, hA0, hV, rfl, hfz, hnd⟩ := hW
  have hA : DataW.TrodAll enc Try.prog W 0 (fun _ => true) true Try.f8.params.toList args.toList ds p := hA0
  rw [Try.params8] at hA hval
  obtain ⟨v0, vs0, d0, ds0, p0, q0, hargs, rfl, rfl, h0, r0⟩ := trodAll_cons hA
  obtain ⟨v1, vs1, d1, ds1, p1, q1, rfl, rfl, rfl, h1, r1⟩ := trodAll_cons r0
  obtain ⟨rfl, rfl, rfl⟩ := trodAll_nil r1
  obtain rfl : args = #[v0, v1] := by cases args; simp_all
  obtain ⟨rfl, rfl⟩ := trodVars_none hV
  have k0 := h0
  have lt0 : ∀ x ∈ p0, x.block < W.heap.size := by obtain ⟨m, hm⟩ := k0; exact DataW.trod_lt m _ _ _ hm
  obtain ⟨c0, rfl, l0, f0⟩ := open_agg Try.underlying50 (by kernel_rfl) (by kernel_rfl) (hval 0 50 v0 rfl rfl) h0
  obtain ⟨v0f0, rfl⟩ := list1 l0
  obtain ⟨n0f0, y0f0, t0f0⟩ := f0 0 _ _ rfl rfl
  obtain ⟨a0f0, n0f0, c0f0, p0f0, rfl, w0f0⟩ := open_lists t0f0
  obtain ⟨a1, rfl, rfl, rfl, w1⟩ := open_int Try.underlying3 (hval 1 3 v1 rfl rfl) h1
  clear hA0 hval0
  refine (walk a0f0 n0f0 c0f0 p0f0 a1 W w0f0 w1).mono fun e W' ⟨he, bel⟩ => ?_
  subst he
  exact ⟨_, rfl, _, _, _, [], _, [], hW', trodAll_mk1 (shut_bool Try.underlying4 _), (trodAll_cons_mk (Below.trod laidOut (by kernel_rfl) (of_decide_eq_true (by kernel_rfl)) k0 bel lt0) (trodAll_cons_mk (shut_int Try.underlying3 w1) trodAll_mk0)), rfl, bel.frame _, fun h => by cases h⟩

theorem over : Rows.fnExactSaveTableRow.holds Try.pinned (OpenSpec.ofChange Rows.fnExactSaveTableSpec) :=
  OpenClaim.holds_of_wide 8 Try.f8 rfl rfl rfl rfl rfl rfl rfl ⟨rfl, rfl, rfl, rfl, rfl⟩ rfl rfl rfl rfl rfl (by kernel_rfl) Try.func8 (by kernel_rfl)
    (of_decide_eq_true (by kernel_rfl)) (by unfold Func.isWrapper; first | (rw [if_pos (by decide +kernel)]; kernel_rfl) | (rw [if_neg (by decide +kernel)]; exact ⟨rfl, rfl⟩))
    (fun os started H enc _ => lifted os started H enc)

/-- ████ THE STATEMENT ████ -/
theorem proved : Rows.FnExactSaveTableSaid := over
#print axioms proved
end Go.Proofs.Ytlldmbocaloogaa.fnExactSaveTable
