/- BestVictim answers as its model for every device, table, heads and time, and leaves its arguments as they were: proved.
   Conditions: none beyond the row's own reading of the input. The frame was written by the guide's proof-skeleton; the walk is ours. -/
import Derived.Test.YtjknfofdjkjnpaaAgg
import Derived.Test.YtjknfofdjkjnpaaAggRows
import Derived.Test.YtjknfofdjkjnpaaVicts
import Derived.Test.YtjknfofdjkjnpaaExactHeads
import Derived.Test.YtjknfofdjkjnpaaHand
import Derived.Test.YtjknfofdjkjnpaaRows
import Derived.WalkKit
import Derived.ProofKit
import Derived.OpenShut
import Derived.ShutString
import Derived.ChangeOld
import Derived.Below
namespace Go.Proofs.Ytjknfofdjkjnpaa.fnExactBestVictim
open Go.ChangeShapes Go.WideShapes Go.ChangeAt Go.RowKit
open Go.ChangeMaps (open_string shut_string)
set_option linter.unusedVariables false
set_option linter.unusedSimpArgs false

theorem own : ownKnob Try.prog.godebug = none := by kernel_rfl
theorem laidOut : laidOutB Try.prog = true := by kernel_rfl

/-- WHAT THE WALK IS TOLD OF A SLICE OF INTEGERS THAT CAME IN: it is nil; or it leads to a row of 'cap' cells, the numbers 'zs' (the first 'len' are its elements, the rest its spare room), each fitting its kind. -/
def IsRow (k : IntKind) (w : World) (a : Option Addr) (len cap : Nat) (zs : List Int) : Prop :=
  (a = none ∧ len = 0 ∧ cap = 0 ∧ zs = []) ∨
  ∃ x, a = some x ∧ len ≤ cap ∧ cap ≤ maxLen ∧ zs.length = cap ∧ (∀ i, i < zs.length → w.cell? (x.add i) = some (.int k (zs.getD i 0))) ∧ ∀ n ∈ zs, (Lit.int k n).wf = true

/-! ### STEP 1: THE WALK: the Go text returns true, AND WRITES NOTHING THAT WAS THERE: 'Below w.heap.size w w'' (Derived/Below.lean: '.refl', '.alloc', '.drew', '.setCell' at a new block, '.trans'). Open each 'IsRow' by 'rcases' AHEAD of 'go_enter'; part every test ahead of the walk. -/
set_option maxHeartbeats 4000000 in
set_option maxRecDepth 100000 in
theorem walk (a0 : Option Addr) (n0 c0 : Nat) (b0 : List Bk) (a1f0 : Option Addr) (n1f0 c1f0 : Nat) (p1f0 : List Li) (a2f0 : Int) (a2f1 : Int) (a2f2 : Int) (a3 : Int) (w : World) (w0 : IsBlocks w a0 n0 c0 b0) (w1f0 : IsLists w a1f0 n1f0 c1f0 p1f0) (w2f0 : (Lit.int .i64 a2f0).wf = true) (w2f1 : (Lit.int .i64 a2f1).wf = true) (w2f2 : (Lit.int .i64 a2f2).wf = true) (w3 : (Lit.int .i64 a3).wf = true) :
    Calls Try.prog 8 #[.slice a0 n0 c0, .agg #[.slice a1f0 n1f0 c1f0], .agg #[.int .i64 a2f0, .int .i64 a2f1, .int .i64 a2f2], .int .i64 a3] w fun e w' => e = .returned (.bool true) ∧ Below w.heap.size w w' := by
  obtain ⟨V, hV⟩ : ∃ V, victimV n0 b0 (countsV b0 (ll p1f0)) a2f0 a2f1 a2f2 a3 = V := ⟨_, rfl⟩
  have HV := Lib.hid hV
  have tVV : (V != V) = false := by simp
  clear hV
  have HA := Lib.hid ((VA.arg w1f0).keep (grown_alloc (grown_refl _ none) (.cells #[.int .i64 a2f0, .int .i64 a2f1, .int .i64 a2f2] 49)))
  have HD := Lib.hid ((VD.arg w0).keep (grown_alloc (grown_alloc (grown_refl _ none) (.cells #[.slice a1f0 n1f0 c1f0] 48)) (.cells #[.int .i64 a2f0, .int .i64 a2f1, .int .i64 a2f2] 49)))
  have HQ : RowKit.Hid (Blk (World.alloc (World.alloc w (.cells #[.slice a1f0 n1f0 c1f0] 48)) (.cells #[.int .i64 a2f0, .int .i64 a2f1, .int .i64 a2f2] 49)) (w.heap.size + 1) 49 #[.int .i64 a2f0, .int .i64 a2f1, .int .i64 a2f2]) := Lib.hid (by have h1 := Blk.new (World.alloc w (.cells #[.slice a1f0 n1f0 c1f0] 48)) 49 #[.int .i64 a2f0, .int .i64 a2f1, .int .i64 a2f2]; rw [size_alloc1] at h1; exact h1)
  have HZ := Lib.hid (And.intro (IsBlocks.alloc (IsBlocks.alloc w0 (.cells #[.slice a1f0 n1f0 c1f0] 48)) (.cells #[.int .i64 a2f0, .int .i64 a2f1, .int .i64 a2f2] 49)) ((w1f0.alloc (.cells #[.slice a1f0 n1f0 c1f0] 48)).alloc (.cells #[.int .i64 a2f0, .int .i64 a2f1, .int .i64 a2f2] 49)))
  have HL := Lib.hid w0.1
  have HLHA := Lib.hid w1f0.1
  clear w0 w1f0
  go_enter Try.func8, Try.ntmps8
  go_wp2_with fail
  refine (szBlockS_le _ _ _ _ _ HZ.out.1).mono ?_
  rintro e w1 ⟨v, rfl, hk, hv⟩
  replace HA := Lib.hid (HA.out.keep hk)
  replace HD := Lib.hid (HD.out.keep hk)
  replace HQ := Lib.hid (HQ.out.keep hk)
  replace HZ := Lib.hid (HZ.out.2.keep hk)
  rcases hv with rfl | ⟨hv0, hvL, hnd, htd⟩
  · clear hk
    go_wp2
    go_ret
    exact ⟨rfl, grown_below HA.out.2.2.2⟩
  · have tv : decide (v < 0) = false := decide_eq_false (by omega)
    have HP := Lib.hid (And.intro (small_tot htd) htd)
    clear hk htd
    have bHA := HA.out.cell
    have lHA := HA.out.1.lt
    obtain ⟨p0, p1, p2⟩ := cells3 HQ.out
    go_wp2_with fail
    clear tv
    clear bHA lHA p0 p1 p2
    refine (szTable_any _ _ _ _ _ _ HZ.out hv0 hvL).mono ?_
    rintro e w2 ⟨u, rfl, hk, hv⟩
    replace HA := Lib.hid (HA.out.keep hk)
    replace HD := Lib.hid (HD.out.keep hk)
    replace HQ := Lib.hid (HQ.out.keep hk)
    rcases hv with rfl | ⟨hu0, huL, hn, ht⟩
    · clear hk
      go_wp2
      go_ret
      exact ⟨rfl, grown_below HA.out.2.2.2⟩
    · have tu : decide (u < 0) = false := decide_eq_false (by omega)
      have HPHA := Lib.hid (And.intro (small_ll ht) ht)
      clear hk ht
      have bHA := HA.out.cell
      have lHA := HA.out.1.lt
      obtain ⟨p0, p1, p2⟩ := cells3 HQ.out
      go_wp2_with fail
      refine wp_region_held_drew (S := (fun w' => w'.cell? ⟨w.heap.size, 0, none⟩ = some (.slice a1f0 n1f0 c1f0) ∧ w'.cell? ⟨w.heap.size + 1, 0, none⟩ = some (.int .i64 a2f0) ∧ w'.cell? ⟨w.heap.size + 1, 1, none⟩ = some (.int .i64 a2f1) ∧ w'.cell? ⟨w.heap.size + 1, 2, none⟩ = some (.int .i64 a2f2))) (by kernel_rfl) ?_ (fun hHeld => ?_)
      · exact ⟨bHA, p0, p1, p2⟩
      replace HA := Lib.hid (HA.out.keep (grown_drew (grown_refl _ none)))
      replace HD := Lib.hid (HD.out.keep (grown_drew (grown_refl _ none)))
      replace HQ := Lib.hid (HQ.out.keep (grown_drew (grown_refl _ none)))
      refine heldY 0 24 ?_
      refine heldY 2 26 ?_
      refine heldY 4 28 ?_
      refine heldY 6 30 ?_
      refine wpAnyH_ready (rs := [1]) (by kernel_rfl) (by simp) ?_
      refine AllReadyH.cons rfl (fun K hK => ?_) AllReadyH.nil
      go_simp
      go_at_call 24
      clear bHA lHA p0 p1 p2
      refine (toBlockS_any _ _ _ _ _ HL.out HD.out.row hnd HP.out.1).mono ?_
      rintro e w3 ⟨A2, c2, cs2, rfl, hl, hs, ho, hk⟩
      replace HA := Lib.hid (HA.out.keep hk)
      replace HD := Lib.hid (HD.out.keep hk)
      replace HQ := Lib.hid (HQ.out.keep hk)
      have HR2 := Lib.hid (And.intro hl (And.intro hs ho.row))
      clear hk hl hs ho
      have bHA := HA.out.cell
      have lHA := HA.out.1.lt
      obtain ⟨p0, p1, p2⟩ := cells3 HQ.out
      refine hK.out _ _ ?_ (fun hHeld => ?_)
      · exact ⟨bHA, p0, p1, p2⟩
      clear hK K
      try simp only [Act.put, List.setIfInBounds_toArray, List.set_cons_zero, List.set_cons_succ]
      refine wpAnyH_ready (rs := [3]) (by kernel_rfl) (by simp) ?_
      refine AllReadyH.cons rfl (fun K hK => ?_) AllReadyH.nil
      go_simp
      go_at_call 25
      clear bHA lHA p0 p1 p2
      refine (toTable_any _ _ _ _ _ HLHA.out HA.out.row hn HPHA.out.1).mono ?_
      rintro e w4 ⟨A3, c3, cs3, rfl, hl, hs, ho, hk⟩
      replace HA := Lib.hid (HA.out.keep hk)
      replace HD := Lib.hid (HD.out.keep hk)
      replace HQ := Lib.hid (HQ.out.keep hk)
      have HR3 := Lib.hid (And.intro hl (And.intro hs ho.row))
      replace HR2 := Lib.hid (And.intro HR2.out.1 (And.intro HR2.out.2.1 (HR2.out.2.2.kept hk).here))
      clear hk hl hs ho
      have bHA := HA.out.cell
      have lHA := HA.out.1.lt
      obtain ⟨p0, p1, p2⟩ := cells3 HQ.out
      refine hK.out _ _ ?_ (fun hHeld => ?_)
      · exact ⟨bHA, p0, p1, p2⟩
      clear hK K
      try simp only [Act.put, List.setIfInBounds_toArray, List.set_cons_zero, List.set_cons_succ]
      refine wpAnyH_ready (rs := [5]) (by kernel_rfl) (by simp) ?_
      refine AllReadyH.cons rfl (fun K hK => ?_) AllReadyH.nil
      go_simp
      go_at_call 26
      clear bHA lHA p0 p1 p2
      refine (toHeads_any _ _ _ _).mono ?_
      rintro e w5 ⟨rfl, hk⟩
      replace HA := Lib.hid (HA.out.keep hk)
      replace HD := Lib.hid (HD.out.keep hk)
      replace HQ := Lib.hid (HQ.out.keep hk)
      replace HR2 := Lib.hid (And.intro HR2.out.1 (And.intro HR2.out.2.1 (HR2.out.2.2.kept hk).here))
      replace HR3 := Lib.hid (And.intro HR3.out.1 (And.intro HR3.out.2.1 (HR3.out.2.2.kept hk).here))
      clear hk
      have bHA := HA.out.cell
      have lHA := HA.out.1.lt
      obtain ⟨p0, p1, p2⟩ := cells3 HQ.out
      refine hK.out _ _ ?_ (fun hHeld => ?_)
      · exact ⟨bHA, p0, p1, p2⟩
      clear hK K
      try simp only [Act.put, List.setIfInBounds_toArray, List.set_cons_zero, List.set_cons_succ]
      refine wpAnyH_ready (rs := [7]) (by kernel_rfl) (by simp) ?_
      refine AllReadyH.cons rfl (fun K hK => ?_) AllReadyH.nil
      go_simp
      go_at_call 21
      clear bHA lHA p0 p1 p2
      refine (specBest_val (show victimV n0 cs2 (countsV cs2 (ll cs3)) a2f0 a2f1 a2f2 a3 = V by rw [HR3.out.2.1, countsV_is HR2.out.2.1, victim_is HR2.out.2.1]; exact HV.out) HR2.out.1 HR2.out.2.2 hnd (small_is HR2.out.2.1 HP.out.1) HR3.out.1 HR3.out.2.2 hn (small_cp HR3.out.2.1 HPHA.out.2)).mono ?_
      rintro e w6 ⟨rfl, hk⟩
      replace HA := Lib.hid (HA.out.keep hk)
      replace HD := Lib.hid (HD.out.keep hk)
      replace HQ := Lib.hid (HQ.out.keep hk)
      clear hk
      have bHA := HA.out.cell
      have lHA := HA.out.1.lt
      obtain ⟨p0, p1, p2⟩ := cells3 HQ.out
      refine hK.out _ _ ?_ (fun hHeld => ?_)
      · exact ⟨bHA, p0, p1, p2⟩
      clear hK K
      try simp only [Act.put, List.setIfInBounds_toArray, List.set_cons_zero, List.set_cons_succ]
      refine heldY 8 10 ?_
      refine wpAnyH_done (by kernel_rfl) ?_ _
      go_wp2_with fail
      have hp := HA.out.1.lt
      clear bHA lHA p0 p1 p2
      refine (toBlockS_any _ _ _ _ _ HL.out HD.out.row hnd HP.out.1).mono ?_
      rintro e w7 ⟨A5, c5, cs5, rfl, hl, hs, ho, hk⟩
      obtain ⟨loHY, hiHY, hx, qHY, rHY⟩ : ∃ lo hi, VX w A5 n0 c5 cs5 lo hi w7 ∧ w.heap.size < lo ∧ lo ≤ hi := ⟨_, _, VX.made HA.out.2.2.2 hl ho hk, hp, hk.size⟩
      replace HA := Lib.hid (HA.out.keep hk)
      replace HD := Lib.hid (HD.out.keep hk)
      replace HQ := Lib.hid (HQ.out.keep hk)
      have HY := Lib.hid hx
      have SHY := Lib.hid hs
      clear hk hl hs ho hx hp
      have bHA := HA.out.cell
      have lHA := HA.out.1.lt
      obtain ⟨p0, p1, p2⟩ := cells3 HQ.out
      go_wp2_with fail
      have hp := HY.out.2.2.2.2.1
      clear bHA lHA p0 p1 p2
      refine (toTable_any _ _ _ _ _ HLHA.out HA.out.row hn HPHA.out.1).mono ?_
      rintro e w8 ⟨A6, c6, cs6, rfl, hl, hs, ho, hk⟩
      obtain ⟨loHX, hiHX, hx, qHX, rHX, sHX⟩ : ∃ lo hi, VT w w8.heap.size A6 n1f0 c6 cs6 lo hi (w8.alloc (.cells #[.slice A6 n1f0 c6] 26)) ∧ hiHY ≤ lo ∧ lo ≤ hi ∧ hi ≤ w8.heap.size := ⟨_, _, VT.start HA.out.2.2.2 hl ho hk, hp, hk.size, Nat.le_refl _⟩
      replace HA := Lib.hid (HA.out.keep hk)
      replace HD := Lib.hid (HD.out.keep hk)
      replace HQ := Lib.hid (HQ.out.keep hk)
      replace HY := Lib.hid (HY.out.keep hk)
      have bHA := HA.out.cell
      have lHA := HA.out.1.lt
      obtain ⟨p0, p1, p2⟩ := cells3 HQ.out
      replace HA := Lib.hid (HA.out.keep (grown_alloc (grown_refl w8 none) (.cells #[.slice A6 n1f0 c6] 26)))
      replace HD := Lib.hid (HD.out.keep (grown_alloc (grown_refl w8 none) (.cells #[.slice A6 n1f0 c6] 26)))
      replace HQ := Lib.hid (HQ.out.keep (grown_alloc (grown_refl w8 none) (.cells #[.slice A6 n1f0 c6] 26)))
      replace HY := Lib.hid (HY.out.keep (grown_alloc (grown_refl w8 none) (.cells #[.slice A6 n1f0 c6] 26)))
      have HX := Lib.hid hx
      have SHX := Lib.hid hs
      clear hk hl hs ho hx hp
      clear bHA lHA p0 p1 p2
      have bHA := HA.out.cell
      have lHA := HA.out.1.lt
      have bHX := HX.out.cell
      have lHX := HX.out.1.lt
      obtain ⟨p0, p1, p2⟩ := cells3 HQ.out
      go_wp2_with fail
      refine wp_region_held_drew (S := (fun w' => w'.cell? ⟨w8.heap.size, 0, none⟩ = some (.slice A6 n1f0 c6) ∧ w'.cell? ⟨w.heap.size + 1, 0, none⟩ = some (.int .i64 a2f0) ∧ w'.cell? ⟨w.heap.size + 1, 1, none⟩ = some (.int .i64 a2f1) ∧ w'.cell? ⟨w.heap.size + 1, 2, none⟩ = some (.int .i64 a2f2))) (by kernel_rfl) ?_ (fun hHeld => ?_)
      · exact ⟨bHX, p0, p1, p2⟩
      replace HA := Lib.hid (HA.out.keep (grown_drew (grown_refl _ none)))
      replace HD := Lib.hid (HD.out.keep (grown_drew (grown_refl _ none)))
      replace HQ := Lib.hid (HQ.out.keep (grown_drew (grown_refl _ none)))
      replace HY := Lib.hid (HY.out.keep (grown_drew (grown_refl _ none)))
      replace HX := Lib.hid (HX.out.keep (grown_drew (grown_refl _ none)))
      refine heldY 0 36 ?_
      refine heldY 1 37 ?_
      refine heldY 2 38 ?_
      refine heldY 4 40 ?_
      refine wpAnyH_ready (rs := [3]) (by kernel_rfl) (by simp) ?_
      refine AllReadyH.cons rfl (fun K hK => ?_) AllReadyH.nil
      go_simp
      go_at_call 26
      clear bHA lHA bHX lHX p0 p1 p2
      refine (toHeads_any _ _ _ _).mono ?_
      rintro e w9 ⟨rfl, hk⟩
      replace HA := Lib.hid (HA.out.keep hk)
      replace HD := Lib.hid (HD.out.keep hk)
      replace HQ := Lib.hid (HQ.out.keep hk)
      replace HY := Lib.hid (HY.out.keep hk)
      replace HX := Lib.hid (HX.out.keep hk)
      clear hk
      have bHA := HA.out.cell
      have lHA := HA.out.1.lt
      have bHX := HX.out.cell
      have lHX := HX.out.1.lt
      obtain ⟨p0, p1, p2⟩ := cells3 HQ.out
      refine hK.out _ _ ?_ (fun hHeld => ?_)
      · exact ⟨bHX, p0, p1, p2⟩
      clear hK K
      try simp only [Act.put, List.setIfInBounds_toArray, List.set_cons_zero, List.set_cons_succ]
      refine wpAnyH_ready (rs := [5]) (by kernel_rfl) (by simp) ?_
      refine AllReadyH.cons rfl (fun K hK => ?_) AllReadyH.nil
      go_simp
      go_at_call 20
      clear bHA lHA bHX lHX p0 p1 p2
      refine (best_val (show victimV n0 cs5 (countsV cs5 (ll cs6)) a2f0 a2f1 a2f2 a3 = V by rw [SHX.out, countsV_is SHY.out, victim_is SHY.out]; exact HV.out) HY.out.2.1 HY.out.row hnd (small_is SHY.out HP.out.1) HX.out.2.2.1 HX.out.row hn (small_cp SHX.out HPHA.out.2)).mono ?_
      rintro e w10 ⟨rfl, hk⟩
      replace HA := Lib.hid (HA.out.keep hk)
      replace HD := Lib.hid (HD.out.keep hk)
      replace HQ := Lib.hid (HQ.out.keep hk)
      replace HY := Lib.hid (HY.out.keep hk)
      replace HX := Lib.hid (HX.out.keep hk)
      clear hk
      have bHA := HA.out.cell
      have lHA := HA.out.1.lt
      have bHX := HX.out.cell
      have lHX := HX.out.1.lt
      obtain ⟨p0, p1, p2⟩ := cells3 HQ.out
      refine hK.out _ _ ?_ (fun hHeld => ?_)
      · exact ⟨bHX, p0, p1, p2⟩
      clear hK K
      try simp only [Act.put, List.setIfInBounds_toArray, List.set_cons_zero, List.set_cons_succ]
      refine heldY 6 13 ?_
      refine wpAnyH_done (by kernel_rfl) ?_ _
      go_wp2_with fail
      clear bHA lHA bHX lHX p0 p1 p2
      refine (toBlockS_any _ _ _ _ _ HL.out HD.out.row hnd HP.out.1).mono ?_
      rintro e w11 ⟨A8, c8, cs8, rfl, hl, hs, ho, hk⟩
      replace HA := Lib.hid (HA.out.keep hk)
      replace HD := Lib.hid (HD.out.keep hk)
      replace HQ := Lib.hid (HQ.out.keep hk)
      replace HY := Lib.hid (HY.out.keep hk)
      replace HX := Lib.hid (HX.out.keep hk)
      have HR8 := Lib.hid (And.intro hl (And.intro hs ho.row))
      clear hk hl hs ho
      have bHA := HA.out.cell
      have lHA := HA.out.1.lt
      have bHX := HX.out.cell
      have lHX := HX.out.1.lt
      obtain ⟨p0, p1, p2⟩ := cells3 HQ.out
      go_wp2_with fail
      clear bHA lHA bHX lHX p0 p1 p2
      refine (eqBlockS_same _ _ _ _ _ _ _ _ HY.out.2.1 (SHY.out.trans HR8.out.2.1.symm) HY.out.row HR8.out.2.2 hnd (small_is SHY.out HP.out.1)).mono ?_
      rintro e w12 ⟨rfl, hk⟩
      replace HA := Lib.hid (HA.out.keep hk)
      replace HD := Lib.hid (HD.out.keep hk)
      replace HQ := Lib.hid (HQ.out.keep hk)
      replace HY := Lib.hid (HY.out.keep hk)
      replace HX := Lib.hid (HX.out.keep hk)
      clear hk
      have bHA := HA.out.cell
      have lHA := HA.out.1.lt
      have bHX := HX.out.cell
      have lHX := HX.out.1.lt
      obtain ⟨p0, p1, p2⟩ := cells3 HQ.out
      go_wp2_with fail
      refine wp_region_held_drew (S := (fun w' => w'.cell? ⟨w8.heap.size, 0, none⟩ = some (.slice A6 n1f0 c6) ∧ w'.cell? ⟨w.heap.size, 0, none⟩ = some (.slice a1f0 n1f0 c1f0))) (by kernel_rfl) ?_ (fun hHeld => ?_)
      · exact ⟨bHX, bHA⟩
      replace HA := Lib.hid (HA.out.keep (grown_drew (grown_refl _ none)))
      replace HD := Lib.hid (HD.out.keep (grown_drew (grown_refl _ none)))
      replace HQ := Lib.hid (HQ.out.keep (grown_drew (grown_refl _ none)))
      replace HY := Lib.hid (HY.out.keep (grown_drew (grown_refl _ none)))
      replace HX := Lib.hid (HX.out.keep (grown_drew (grown_refl _ none)))
      refine heldY 0 50 ?_
      refine heldY 1 51 ?_
      refine wpAnyH_ready (rs := [2]) (by kernel_rfl) (by simp) ?_
      refine AllReadyH.cons rfl (fun K hK => ?_) AllReadyH.nil
      go_simp
      go_at_call 25
      clear bHA lHA bHX lHX p0 p1 p2
      refine (toTable_any _ _ _ _ _ HLHA.out HA.out.row hn HPHA.out.1).mono ?_
      rintro e w13 ⟨A9, c9, cs9, rfl, hl, hs, ho, hk⟩
      replace HA := Lib.hid (HA.out.keep hk)
      replace HD := Lib.hid (HD.out.keep hk)
      replace HQ := Lib.hid (HQ.out.keep hk)
      replace HY := Lib.hid (HY.out.keep hk)
      replace HX := Lib.hid (HX.out.keep hk)
      have HR9 := Lib.hid (And.intro hl (And.intro hs ho.row))
      clear hk hl hs ho
      have bHA := HA.out.cell
      have lHA := HA.out.1.lt
      have bHX := HX.out.cell
      have lHX := HX.out.1.lt
      obtain ⟨p0, p1, p2⟩ := cells3 HQ.out
      refine hK.out _ _ ?_ (fun hHeld => ?_)
      · exact ⟨bHX, bHA⟩
      clear hK K
      try simp only [Act.put, List.setIfInBounds_toArray, List.set_cons_zero, List.set_cons_succ]
      refine wpAnyH_ready (rs := [3]) (by kernel_rfl) (by simp) ?_
      refine AllReadyH.cons rfl (fun K hK => ?_) AllReadyH.nil
      go_simp
      go_at_call 28
      clear bHA lHA bHX lHX p0 p1 p2
      refine (eqTable_same _ _ _ _ _ _ _ _ HX.out.2.2.1 (SHX.out.trans HR9.out.2.1.symm) HX.out.row HR9.out.2.2 hn (by rw [SHX.out]; exact HPHA.out.2)).mono ?_
      rintro e w14 ⟨rfl, hk⟩
      replace HA := Lib.hid (HA.out.keep hk)
      replace HD := Lib.hid (HD.out.keep hk)
      replace HQ := Lib.hid (HQ.out.keep hk)
      replace HY := Lib.hid (HY.out.keep hk)
      replace HX := Lib.hid (HX.out.keep hk)
      clear hk
      have bHA := HA.out.cell
      have lHA := HA.out.1.lt
      have bHX := HX.out.cell
      have lHX := HX.out.1.lt
      obtain ⟨p0, p1, p2⟩ := cells3 HQ.out
      refine hK.out _ _ ?_ (fun hHeld => ?_)
      · exact ⟨bHX, bHA⟩
      clear hK K
      try simp only [Act.put, List.setIfInBounds_toArray, List.set_cons_zero, List.set_cons_succ]
      refine heldY 4 54 ?_
      refine wpAnyH_done (by kernel_rfl) ?_ _
      go_wp2
      go_ret
      exact ⟨rfl, grown_below HA.out.2.2.2⟩

/-! ### THE ROW's STEP: WRITTEN OUT: LEAVE IT -/
set_option maxRecDepth 100000 in
theorem lifted (os : Os) (started : os.Started) (H : Type) (enc : TypeId × Value → H) :
    ReturnsInHanded {} Try.checked os 8 .any (Rows.fnExactBestVictimSpec.pre6 enc Try.prog Try.f8 Rows.fnExactBestVictimRow.domain false) (Rows.fnExactBestVictimSpec.post enc Try.prog Try.f8 false true false false) := by
  refine returnsInHanded_of_change (C := Try.checked) own started (by kernel_rfl) Try.func8
    (ChangeSpec.witness6 (enc := enc) (C := Try.checked) false ⟨#[], #[.slice none 0 0, .agg #[.slice none 0 0], .agg #[.int .i64 0, .int .i64 0, .int .i64 0], .int .i64 0], []⟩ 8 (by kernel_rfl) (by kernel_rfl) (by kernel_rfl) (by kernel_rfl)) ?_
  intro W base args ds gs before hval0 hW hcnd _
  have hval : ∀ (j : Nat) t v, Try.f8.params[j]? = some t → args[j]? = some v → Value.okWide Try.prog W .any base t v := hval0
  have hW' := hW
  obtain ⟨p, q, hA0, hV, rfl, hfz, hnd⟩ := hW
  have hA : DataW.TrodAll enc Try.prog W 0 (fun _ => true) true Try.f8.params.toList args.toList ds p := hA0
  rw [Try.params8] at hA hval
  obtain ⟨v0, vs0, d0, ds0, p0, q0, hargs, rfl, rfl, h0, r0⟩ := trodAll_cons hA
  obtain ⟨v1, vs1, d1, ds1, p1, q1, rfl, rfl, rfl, h1, r1⟩ := trodAll_cons r0
  obtain ⟨v2, vs2, d2, ds2, p2, q2, rfl, rfl, rfl, h2, r2⟩ := trodAll_cons r1
  obtain ⟨v3, vs3, d3, ds3, p3, q3, rfl, rfl, rfl, h3, r3⟩ := trodAll_cons r2
  obtain ⟨rfl, rfl, rfl⟩ := trodAll_nil r3
  obtain rfl : args = #[v0, v1, v2, v3] := by cases args; simp_all
  obtain ⟨rfl, rfl⟩ := trodVars_none hV
  have k0 := h0
  have lt0 : ∀ x ∈ p0, x.block < W.heap.size := by obtain ⟨m, hm⟩ := k0; exact DataW.trod_lt m _ _ _ hm
  obtain ⟨a0, n0, c0, rfl⟩ := okWide_slice Try.underlying47 (hval 0 47 v0 rfl rfl)
  obtain ⟨b0, w0⟩ : ∃ bs, IsBlocks W a0 n0 c0 bs := by
    obtain ⟨fuel, hf⟩ := h0
    obtain ⟨A, n, c, bs, e, hw⟩ := open_blocks (v := .slice a0 n0 c0) hf
    injection e with e1 e2 e3
    subst e1; subst e2; subst e3
    exact ⟨bs, hw⟩
  have k1 := h1
  have lt1 : ∀ x ∈ p1, x.block < W.heap.size := by obtain ⟨m, hm⟩ := k1; exact DataW.trod_lt m _ _ _ hm
  obtain ⟨c1, rfl, l1, f1⟩ := open_agg Try.underlying48 (by kernel_rfl) (by kernel_rfl) (hval 1 48 v1 rfl rfl) h1
  obtain ⟨v1f0, rfl⟩ := list1 l1
  obtain ⟨n1f0, y1f0, t1f0⟩ := f1 0 _ _ rfl rfl
  obtain ⟨a1f0, n1f0, c1f0, p1f0, rfl, w1f0⟩ := open_lists t1f0
  have k2 := h2
  have lt2 : ∀ x ∈ p2, x.block < W.heap.size := by obtain ⟨m, hm⟩ := k2; exact DataW.trod_lt m _ _ _ hm
  obtain ⟨c2, rfl, l2, f2⟩ := open_agg Try.underlying49 (by kernel_rfl) (by kernel_rfl) (hval 2 49 v2 rfl rfl) h2
  obtain ⟨v2f0, v2f1, v2f2, rfl⟩ := list3 l2
  obtain ⟨n2f0, y2f0, t2f0⟩ := f2 0 _ _ rfl rfl
  obtain ⟨a2f0, e2f0, _, w2f0⟩ := DataW.trod_int Try.underlying3 t2f0
  obtain ⟨rfl, _⟩ := List.cons.inj e2f0
  obtain ⟨n2f1, y2f1, t2f1⟩ := f2 1 _ _ rfl rfl
  obtain ⟨a2f1, e2f1, _, w2f1⟩ := DataW.trod_int Try.underlying3 t2f1
  obtain ⟨rfl, _⟩ := List.cons.inj e2f1
  obtain ⟨n2f2, y2f2, t2f2⟩ := f2 2 _ _ rfl rfl
  obtain ⟨a2f2, e2f2, _, w2f2⟩ := DataW.trod_int Try.underlying3 t2f2
  obtain ⟨rfl, _⟩ := List.cons.inj e2f2
  obtain ⟨a3, rfl, rfl, rfl, w3⟩ := open_int Try.underlying3 (hval 3 3 v3 rfl rfl) h3
  clear hA0 hval0
  refine (walk a0 n0 c0 b0 a1f0 n1f0 c1f0 p1f0 a2f0 a2f1 a2f2 a3 W w0 w1f0 w2f0 w2f1 w2f2 w3).mono fun e W' ⟨he, bel⟩ => ?_
  subst he
  exact ⟨_, rfl, _, _, _, [], _, [], hW', trodAll_mk1 (shut_bool Try.underlying4 _), (trodAll_cons_mk (Below.trod laidOut (by kernel_rfl) (of_decide_eq_true (by kernel_rfl)) k0 bel lt0) (trodAll_cons_mk (Below.trod laidOut (by kernel_rfl) (of_decide_eq_true (by kernel_rfl)) k1 bel lt1) (trodAll_cons_mk (Below.trod laidOut (by kernel_rfl) (of_decide_eq_true (by kernel_rfl)) k2 bel lt2) (trodAll_cons_mk (shut_int Try.underlying3 w3) trodAll_mk0)))), rfl, bel.frame _, fun h => by cases h⟩

theorem over : Rows.fnExactBestVictimRow.holds Try.pinned (OpenSpec.ofChange Rows.fnExactBestVictimSpec) :=
  OpenClaim.holds_of_wide 8 Try.f8 rfl rfl rfl rfl rfl rfl rfl ⟨rfl, rfl, rfl, rfl, rfl⟩ rfl rfl rfl rfl rfl (by kernel_rfl) Try.func8 (by kernel_rfl)
    (of_decide_eq_true (by kernel_rfl)) (by unfold Func.isWrapper; first | (rw [if_pos (by decide +kernel)]; kernel_rfl) | (rw [if_neg (by decide +kernel)]; exact ⟨rfl, rfl⟩))
    (fun os started H enc _ => lifted os started H enc)

/-- ████ THE STATEMENT ████ -/
theorem proved : Rows.FnExactBestVictimSaid := over
#print axioms proved
end Go.Proofs.Ytjknfofdjkjnpaa.fnExactBestVictim
