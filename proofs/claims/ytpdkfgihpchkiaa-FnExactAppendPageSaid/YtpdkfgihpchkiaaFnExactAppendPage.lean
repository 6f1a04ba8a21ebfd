/- AppendPage answers as its model for every device, heads, kind of heat and page, every field, leaves its arguments as they were, and each answer lies in memory of its own: proved.
   Conditions: none beyond the row's own reading of the input. The frame was written by the guide's proof-skeleton; the walk is ours. -/
import Derived.Test.YtpdkfgihpchkiaaAgg
import Derived.Test.YtpdkfgihpchkiaaAggRows
import Derived.Test.YtpdkfgihpchkiaaHand
import Derived.Test.YtpdkfgihpchkiaaLawHeads
import Derived.Test.YtpdkfgihpchkiaaRows
import Derived.WalkKit
import Derived.ProofKit
import Derived.OpenShut
import Derived.ShutString
import Derived.ChangeOld
import Derived.Below
namespace Go.Proofs.Ytpdkfgihpchkiaa.fnExactAppendPage
open Go.ChangeShapes Go.WideShapes Go.ChangeAt Go.RowKit
open Go.ChangeMaps (open_string shut_string)
set_option linter.unusedVariables false
set_option linter.unusedSimpArgs false

theorem own : ownKnob Try.prog.godebug = none := by kernel_rfl
theorem laidOut : laidOutB Try.prog = true := by kernel_rfl

/-- WHAT THE WALK IS TOLD OF A SLICE OF INTEGERS THAT CAME IN: it is nil; or it leads to a row of 'cap' cells, the numbers 'zs' (the first 'len' are its elements, the rest its spare room), each fitting its kind. -/
def IsRow (k : IntKind) (w : World) (a : Option Addr) (len cap : Nat) (zs : List Int) : Prop :=
  (a = none ∧ len = 0 ∧ cap = 0 ∧ zs = []) ∨
  ∃ x, a = some x ∧ len ≤ cap ∧ cap ≤ maxLen ∧ zs.length = cap ∧ (∀ i, i < zs.length → w.cell? (x.add i) = some (.int k (zs.getD i 0))) ∧ ∀ n ∈ zs, (Lit.int k n).wf = true

/-! ### STEP 1: THE WALK: the Go text returns true, AND WRITES NOTHING THAT WAS THERE: 'Below w.heap.size w w'' (Derived/Below.lean: '.refl', '.alloc', '.drew', '.setCell' at a new block, '.trans'). Open each 'IsRow' by 'rcases' AHEAD of 'go_enter'; part every test ahead of the walk. -/
set_option maxHeartbeats 16000000 in
set_option maxRecDepth 100000 in
theorem walk (a0 : Option Addr) (n0 c0 : Nat) (b0 : List Bk) (a1f0 : Int) (a1f1 : Int) (a1f2 : Int) (a2 : Int) (a3f0 : Bool) (a3f1 : Int) (a3f2 : Int) (a3f3 : Int) (a3f4 : Int) (w : World) (w0 : IsBlocks w a0 n0 c0 b0) (w1f0 : (Lit.int .i64 a1f0).wf = true) (w1f1 : (Lit.int .i64 a1f1).wf = true) (w1f2 : (Lit.int .i64 a1f2).wf = true) (w2 : (Lit.int .i64 a2).wf = true) (w3f1 : (Lit.int .i64 a3f1).wf = true) (w3f2 : (Lit.int .i64 a3f2).wf = true) (w3f3 : (Lit.int .i64 a3f3).wf = true) (w3f4 : (Lit.int .i64 a3f4).wf = true) :
    Calls Try.prog 12 #[.slice a0 n0 c0, .agg #[.int .i64 a1f0, .int .i64 a1f1, .int .i64 a1f2], .int .i64 a2, .agg #[.bool a3f0, .int .i64 a3f1, .int .i64 a3f2, .int .i64 a3f3, .int .i64 a3f4]] w fun e w' => e = .returned (.bool true) ∧ Below w.heap.size w w' := by
  obtain ⟨n1, l1, y1, y2, y3, r, hri, hn1, ht1⟩ := append_is w0.1 a1f0 a1f1 a1f2 a2 a3f0 a3f1 a3f2 a3f3 a3f4
  have HI := Lib.hid hri
  have HT := Lib.hid ht1
  clear hri ht1
  have HA := Lib.hid ((VD.arg w0).keep (grown_alloc (grown_alloc (grown_refl w none) (.cells #[.int .i64 a1f0, .int .i64 a1f1, .int .i64 a1f2] 52)) (.cells #[.bool a3f0, .int .i64 a3f1, .int .i64 a3f2, .int .i64 a3f3, .int .i64 a3f4] 55)))
  have HZ := Lib.hid ((w0.alloc (.cells #[.int .i64 a1f0, .int .i64 a1f1, .int .i64 a1f2] 52)).alloc (.cells #[.bool a3f0, .int .i64 a3f1, .int .i64 a3f2, .int .i64 a3f3, .int .i64 a3f4] 55))
  have HL := Lib.hid w0.1
  clear w0
  have HQ := Lib.hid ((Blk.new w 52 #[.int .i64 a1f0, .int .i64 a1f1, .int .i64 a1f2]).alloc (.cells #[.bool a3f0, .int .i64 a3f1, .int .i64 a3f2, .int .i64 a3f3, .int .i64 a3f4] 55))
  have hp0 := Blk.new (w.alloc (.cells #[.int .i64 a1f0, .int .i64 a1f1, .int .i64 a1f2] 52)) 55 #[.bool a3f0, .int .i64 a3f1, .int .i64 a3f2, .int .i64 a3f3, .int .i64 a3f4]
  simp only [size_alloc1] at hp0
  have HPG := Lib.hid hp0
  clear hp0
  go_enter Try.func12, Try.ntmps12
  go_wp2_with fail
  refine (szBlockS_any _ _ _ _ _ HZ.out).mono ?_
  rintro e w1 ⟨v, rfl, hk, hv⟩
  replace HA := Lib.hid (HA.out.keep hk)
  replace HQ := Lib.hid (HQ.out.keep hk)
  replace HPG := Lib.hid (HPG.out.keep hk)
  rcases hv with rfl | ⟨hv0, hn, ht⟩
  · clear hk
    go_wp2
    go_ret
    exact ⟨rfl, grown_below HA.out.2⟩
  · have tv : decide (v < 0) = false := decide_eq_false (by omega)
    have HP := Lib.hid (And.intro (small_tot ht) ht)
    clear hk ht
    go_upto_region 5 with fail
    go_cut [10, 11, 12] (fun sd sp sr wx5 => ∃ (Vu cu lou hiu zu : Nat) (Au : Option Addr) (csu : List Bk), sd = .slice Au n1 cu ∧ sp = .pointer (some ⟨Vu, 0, none⟩) ∧ sr = .int .i64 r ∧ VX w Au n1 cu csu lou hiu wx5 ∧ csu.map Bk.is = l1 ∧ Blk wx5 Vu 25 #[.int .i64 y1, .int .i64 y2, .int .i64 y3] ∧ (w.heap.size + 2 ≤ lou ∧ w.heap.size + 2 ≤ Vu ∧ lou ≤ hiu ∧ hiu ≤ zu ∧ Vu < zu ∧ (Vu < lou ∨ hiu ≤ Vu) ∧ (zu = hiu ∨ zu = Vu + 1)) ∧ VD w a0 b0 wx5 ∧ Blk wx5 (w.heap.size) 52 #[.int .i64 a1f0, .int .i64 a1f1, .int .i64 a1f2] ∧ Blk wx5 (w.heap.size + 1) 55 #[.bool a3f0, .int .i64 a3f1, .int .i64 a3f2, .int .i64 a3f3, .int .i64 a3f4])
    case first =>
      have hzp : w.heap.size + 2 ≤ w1.heap.size := HPG.out.lt
      obtain ⟨p0, p1, p2⟩ := cells3 HQ.out
      obtain ⟨g0, g1, g2, g3, g4⟩ := cells5 HPG.out
      refine wp_region_held_drew (S := (fun w' => w'.cell? ⟨w.heap.size, 0, none⟩ = some (.int .i64 a1f0) ∧ w'.cell? ⟨w.heap.size, 1, none⟩ = some (.int .i64 a1f1) ∧ w'.cell? ⟨w.heap.size, 2, none⟩ = some (.int .i64 a1f2) ∧ w'.cell? ⟨w.heap.size + 1, 0, none⟩ = some (.bool a3f0) ∧ w'.cell? ⟨w.heap.size + 1, 1, none⟩ = some (.int .i64 a3f1) ∧ w'.cell? ⟨w.heap.size + 1, 2, none⟩ = some (.int .i64 a3f2) ∧ w'.cell? ⟨w.heap.size + 1, 3, none⟩ = some (.int .i64 a3f3) ∧ w'.cell? ⟨w.heap.size + 1, 4, none⟩ = some (.int .i64 a3f4))) (by kernel_rfl) ?_ (fun hHeld => ?_)
      · exact ⟨p0, p1, p2, g0, g1, g2, g3, g4⟩
      replace HA := Lib.hid (HA.out.keep (grown_drew (grown_refl _ none)))
      replace HQ := Lib.hid (HQ.out.keep (grown_drew (grown_refl _ none)))
      replace HPG := Lib.hid (HPG.out.keep (grown_drew (grown_refl _ none)))
      refine heldY 0 29 ?_
      refine heldY 2 31 ?_
      refine heldY 4 33 ?_
      refine heldY 5 34 ?_
      refine wpAnyH_ready (rs := [1, 12]) (by kernel_rfl) (by simp) ?_
      refine AllReadyH.cons rfl (fun K hK => ?_) (AllReadyH.cons rfl (fun K hK => ?_) AllReadyH.nil)
      · go_simp
        go_at_call 38
        refine (toBlockS_any _ _ _ _ _ HL.out HA.out.row hn HP.out.1).mono ?_
        rintro e w2 ⟨Au, cu, csu, rfl, hl, hs, ho, hk⟩
        have hz2 := hk.size
        (try simp only [World.drew, size_alloc1] at hz2)
        replace HA := Lib.hid (HA.out.keep hk)
        replace HQ := Lib.hid (HQ.out.keep hk)
        replace HPG := Lib.hid (HPG.out.keep hk)
        have HRu := Lib.hid (And.intro hl (And.intro hs ho.row))
        clear hk hl hs ho
        clear p0 p1 p2 g0 g1 g2 g3 g4
        obtain ⟨p0, p1, p2⟩ := cells3 HQ.out
        obtain ⟨g0, g1, g2, g3, g4⟩ := cells5 HPG.out
        refine hK.out _ _ ?_ (fun hHeld => ?_)
        · exact ⟨p0, p1, p2, g0, g1, g2, g3, g4⟩
        clear hK K
        try simp only [Act.put, List.setIfInBounds_toArray, List.set_cons_zero, List.set_cons_succ]
        refine wpAnyH_ready (rs := [3, 12]) (by kernel_rfl) (by simp) ?_
        refine AllReadyH.cons rfl (fun K hK => ?_) (AllReadyH.cons rfl (fun K hK => ?_) AllReadyH.nil)
        · go_simp
          go_at_call 40
          refine (toHeads_any _ _ _ _).mono ?_
          rintro e w3 ⟨rfl, hk⟩
          have hz3 := hk.size
          (try simp only [World.drew, size_alloc1] at hz3)
          replace HA := Lib.hid (HA.out.keep hk)
          replace HQ := Lib.hid (HQ.out.keep hk)
          replace HPG := Lib.hid (HPG.out.keep hk)
          replace HRu := Lib.hid (And.intro HRu.out.1 (And.intro HRu.out.2.1 (HRu.out.2.2.kept hk).here))
          clear hk
          clear p0 p1 p2 g0 g1 g2 g3 g4
          obtain ⟨p0, p1, p2⟩ := cells3 HQ.out
          obtain ⟨g0, g1, g2, g3, g4⟩ := cells5 HPG.out
          refine hK.out _ _ ?_ (fun hHeld => ?_)
          · exact ⟨p0, p1, p2, g0, g1, g2, g3, g4⟩
          clear hK K
          try simp only [Act.put, List.setIfInBounds_toArray, List.set_cons_zero, List.set_cons_succ]
          refine wpAnyH_ready (rs := [6, 12]) (by kernel_rfl) (by simp) ?_
          refine AllReadyH.cons rfl (fun K hK => ?_) (AllReadyH.cons rfl (fun K hK => ?_) AllReadyH.nil)
          · go_simp
            go_at_call 41
            refine (toPage_any _ _ _ _ _ _).mono ?_
            rintro e w4 ⟨rfl, hk⟩
            have hz4 := hk.size
            (try simp only [World.drew, size_alloc1] at hz4)
            replace HA := Lib.hid (HA.out.keep hk)
            replace HQ := Lib.hid (HQ.out.keep hk)
            replace HPG := Lib.hid (HPG.out.keep hk)
            replace HRu := Lib.hid (And.intro HRu.out.1 (And.intro HRu.out.2.1 (HRu.out.2.2.kept hk).here))
            clear hk
            clear p0 p1 p2 g0 g1 g2 g3 g4
            obtain ⟨p0, p1, p2⟩ := cells3 HQ.out
            obtain ⟨g0, g1, g2, g3, g4⟩ := cells5 HPG.out
            refine hK.out _ _ ?_ (fun hHeld => ?_)
            · exact ⟨p0, p1, p2, g0, g1, g2, g3, g4⟩
            clear hK K
            try simp only [Act.put, List.setIfInBounds_toArray, List.set_cons_zero, List.set_cons_succ]
            refine wpAnyH_ready (rs := [7, 12]) (by kernel_rfl) (by simp) ?_
            refine AllReadyH.cons rfl (fun K hK => ?_) (AllReadyH.cons rfl (fun K hK => ?_) AllReadyH.nil)
            · go_simp
              go_at_call 23
              refine (specAppend_val (HI.out.of HRu.out.2.1) HRu.out.1 HRu.out.2.2 hn (small_is HRu.out.2.1 HP.out.1)).mono ?_
              rintro e w5 ⟨Au, cu, csu, rfl, hl, hs, ho, hk⟩
              obtain ⟨lou, hiu, hx, qu, ru, eu⟩ : ∃ lo hi, VX w Au n1 cu csu lo hi w5 ∧ w4.heap.size ≤ lo ∧ lo ≤ hi ∧ hi = w5.heap.size := ⟨_, _, VX.made HA.out.2 hl ho hk, by (try simp only [World.drew, size_alloc1]); exact Nat.le_refl _, hk.size, rfl⟩
              have hz5 := hk.size
              (try simp only [World.drew, size_alloc1] at hz5)
              replace HA := Lib.hid (HA.out.keep hk)
              replace HQ := Lib.hid (HQ.out.keep hk)
              replace HPG := Lib.hid (HPG.out.keep hk)
              replace HRu := Lib.hid (And.intro HRu.out.1 (And.intro HRu.out.2.1 (HRu.out.2.2.kept hk).here))
              have HW := Lib.hid hx
              have Eu := Lib.hid eu
              clear hk hl ho hx eu
              clear p0 p1 p2 g0 g1 g2 g3 g4
              obtain ⟨p0, p1, p2⟩ := cells3 HQ.out
              obtain ⟨g0, g1, g2, g3, g4⟩ := cells5 HPG.out
              refine hK.out _ _ ?_ (fun hHeld => ?_)
              · exact ⟨p0, p1, p2, g0, g1, g2, g3, g4⟩
              clear hK K
              try simp only [Act.put, List.setIfInBounds_toArray, List.set_cons_zero, List.set_cons_succ]
              refine heldY 8 28 ?_
              refine heldY 9 37 ?_
              refine heldY 10 38 ?_
              refine heldY 11 39 ?_
              refine wpAnyH_ready (rs := [12]) (by kernel_rfl) (by simp) ?_
              refine AllReadyH.cons rfl (fun K hK => ?_) AllReadyH.nil
              go_simp
              have hd0 : Blk (World.alloc w5 (.cells #[.int .i64 0, .int .i64 0, .int .i64 0] 25)) (w5.heap.size) 25 #[.int .i64 0, .int .i64 0, .int .i64 0] := by have h := Blk.new w5 25 #[.int .i64 0, .int .i64 0, .int .i64 0]; (try simp only [World.drew, size_alloc1] at h); exact h
              have HAx := Lib.hid HA.out
              have HQx := Lib.hid HQ.out
              have HPGx := Lib.hid HPG.out
              have HWx := Lib.hid HW.out
              replace HA := Lib.hid (HA.out.keep (grown_alloc (grown_refl _ none) (.cells #[.int .i64 0, .int .i64 0, .int .i64 0] 25)))
              replace HQ := Lib.hid (HQ.out.keep (grown_alloc (grown_refl _ none) (.cells #[.int .i64 0, .int .i64 0, .int .i64 0] 25)))
              replace HPG := Lib.hid (HPG.out.keep (grown_alloc (grown_refl _ none) (.cells #[.int .i64 0, .int .i64 0, .int .i64 0] 25)))
              replace HW := Lib.hid (HW.out.keep (grown_alloc (grown_refl _ none) (.cells #[.int .i64 0, .int .i64 0, .int .i64 0] 25)))
              replace HRu := Lib.hid (And.intro HRu.out.1 (And.intro HRu.out.2.1 (HRu.out.2.2.alloc (.cells #[.int .i64 0, .int .i64 0, .int .i64 0] 25)).here))
              have HD := Lib.hid hd0
              clear hd0
              clear p0 p1 p2 g0 g1 g2 g3 g4
              obtain ⟨p0, p1, p2⟩ := cells3 HQ.out
              obtain ⟨g0, g1, g2, g3, g4⟩ := cells5 HPG.out
              refine hK.out _ _ ?_ (fun hHeld => ?_)
              · exact ⟨p0, p1, p2, g0, g1, g2, g3, g4⟩
              clear hK K
              try simp only [Act.put, List.setIfInBounds_toArray, List.set_cons_zero, List.set_cons_succ]
              obtain ⟨d0, d1, d2⟩ := cells3 HD.out
              obtain ⟨f0, f1, f2⟩ := frozen3 HD.out
              have dl := HD.out.lt
              have na0 : w.heap.size ≠ w5.heap.size := by omega
              have nb0 : w5.heap.size ≠ w.heap.size := by omega
              have na1 : w.heap.size + 1 ≠ w5.heap.size := by omega
              have nb1 : w5.heap.size ≠ w.heap.size + 1 := by omega
              refine wpAnyH_ready (rs := [13]) (by kernel_rfl) (by simp) ?_
              refine AllReadyH.cons rfl (fun K hK => ?_) AllReadyH.nil
              go_simp
              refine hK.out _ _ ?_ (fun hHeld => ?_)
              · first | assumption | go_keep
              clear hK K
              try simp only [Act.put, List.setIfInBounds_toArray, List.set_cons_zero, List.set_cons_succ]
              refine wpAnyH_ready (rs := [14]) (by kernel_rfl) (by simp) ?_
              refine AllReadyH.cons rfl (fun K hK => ?_) AllReadyH.nil
              go_simp
              refine hK.out _ _ ?_ (fun hHeld => ?_)
              · first | assumption | go_keep
              clear hK K
              try simp only [Act.put, List.setIfInBounds_toArray, List.set_cons_zero, List.set_cons_succ]
              refine wpAnyH_ready (rs := [15]) (by kernel_rfl) (by simp) ?_
              refine AllReadyH.cons rfl (fun K hK => ?_) AllReadyH.nil
              go_simp
              refine hK.out _ _ ?_ (fun hHeld => ?_)
              · first | assumption | go_keep
              clear hK K
              try simp only [Act.put, List.setIfInBounds_toArray, List.set_cons_zero, List.set_cons_succ]
              refine wpAnyH_done (by kernel_rfl) ?_ _
              go_wp2_with fail
              go_meet
              exact ⟨_, _, _, _, w5.heap.size + 1, _, _, rfl, rfl, rfl, HWx.out.keep (grown_alloc (grown_refl _ none) _), hs, Blk.new _ _ _, ⟨(by have := Eu.out; omega), (by have := Eu.out; omega), (by have := Eu.out; omega), (by have := Eu.out; omega), (by have := Eu.out; omega), (by have := Eu.out; omega), (by have := Eu.out; omega)⟩, HAx.out.keep (grown_alloc (grown_refl _ none) _), HQx.out.keep (grown_alloc (grown_refl _ none) _), HPGx.out.keep (grown_alloc (grown_refl _ none) _)⟩
            · go_simp
              have hd0 : Blk (World.alloc w4 (.cells #[.int .i64 0, .int .i64 0, .int .i64 0] 25)) (w4.heap.size) 25 #[.int .i64 0, .int .i64 0, .int .i64 0] := by have h := Blk.new w4 25 #[.int .i64 0, .int .i64 0, .int .i64 0]; (try simp only [World.drew, size_alloc1] at h); exact h
              have HAx := Lib.hid HA.out
              have HQx := Lib.hid HQ.out
              have HPGx := Lib.hid HPG.out
              replace HA := Lib.hid (HA.out.keep (grown_alloc (grown_refl _ none) (.cells #[.int .i64 0, .int .i64 0, .int .i64 0] 25)))
              replace HQ := Lib.hid (HQ.out.keep (grown_alloc (grown_refl _ none) (.cells #[.int .i64 0, .int .i64 0, .int .i64 0] 25)))
              replace HPG := Lib.hid (HPG.out.keep (grown_alloc (grown_refl _ none) (.cells #[.int .i64 0, .int .i64 0, .int .i64 0] 25)))
              replace HRu := Lib.hid (And.intro HRu.out.1 (And.intro HRu.out.2.1 (HRu.out.2.2.alloc (.cells #[.int .i64 0, .int .i64 0, .int .i64 0] 25)).here))
              have HD := Lib.hid hd0
              clear hd0
              clear p0 p1 p2 g0 g1 g2 g3 g4
              obtain ⟨p0, p1, p2⟩ := cells3 HQ.out
              obtain ⟨g0, g1, g2, g3, g4⟩ := cells5 HPG.out
              refine hK.out _ _ ?_ (fun hHeld => ?_)
              · exact ⟨p0, p1, p2, g0, g1, g2, g3, g4⟩
              clear hK K
              try simp only [Act.put, List.setIfInBounds_toArray, List.set_cons_zero, List.set_cons_succ]
              refine wpAnyH_ready (rs := [7]) (by kernel_rfl) (by simp) ?_
              refine AllReadyH.cons rfl (fun K hK => ?_) AllReadyH.nil
              go_simp
              go_at_call 23
              refine (specAppend_val (HI.out.of HRu.out.2.1) HRu.out.1 HRu.out.2.2 hn (small_is HRu.out.2.1 HP.out.1)).mono ?_
              rintro e w5 ⟨Au, cu, csu, rfl, hl, hs, ho, hk⟩
              obtain ⟨lou, hiu, hx, qu, ru, eu⟩ : ∃ lo hi, VX w Au n1 cu csu lo hi w5 ∧ w4.heap.size + 1 ≤ lo ∧ lo ≤ hi ∧ hi = w5.heap.size := ⟨_, _, VX.made HA.out.2 hl ho hk, by (try simp only [World.drew, size_alloc1]); exact Nat.le_refl _, hk.size, rfl⟩
              have hz5 := hk.size
              (try simp only [World.drew, size_alloc1] at hz5)
              replace HA := Lib.hid (HA.out.keep hk)
              replace HQ := Lib.hid (HQ.out.keep hk)
              replace HPG := Lib.hid (HPG.out.keep hk)
              replace HD := Lib.hid (HD.out.keep hk)
              replace HRu := Lib.hid (And.intro HRu.out.1 (And.intro HRu.out.2.1 (HRu.out.2.2.kept hk).here))
              have HW := Lib.hid hx
              have Eu := Lib.hid eu
              clear hk hl ho hx eu
              clear p0 p1 p2 g0 g1 g2 g3 g4
              obtain ⟨p0, p1, p2⟩ := cells3 HQ.out
              obtain ⟨g0, g1, g2, g3, g4⟩ := cells5 HPG.out
              refine hK.out _ _ ?_ (fun hHeld => ?_)
              · exact ⟨p0, p1, p2, g0, g1, g2, g3, g4⟩
              clear hK K
              try simp only [Act.put, List.setIfInBounds_toArray, List.set_cons_zero, List.set_cons_succ]
              refine heldY 8 28 ?_
              refine heldY 9 37 ?_
              refine heldY 10 38 ?_
              refine heldY 11 39 ?_
              obtain ⟨d0, d1, d2⟩ := cells3 HD.out
              obtain ⟨f0, f1, f2⟩ := frozen3 HD.out
              have dl := HD.out.lt
              have na0 : w.heap.size ≠ w4.heap.size := by omega
              have nb0 : w4.heap.size ≠ w.heap.size := by omega
              have na1 : w.heap.size + 1 ≠ w4.heap.size := by omega
              have nb1 : w4.heap.size ≠ w.heap.size + 1 := by omega
              refine wpAnyH_ready (rs := [13]) (by kernel_rfl) (by simp) ?_
              refine AllReadyH.cons rfl (fun K hK => ?_) AllReadyH.nil
              go_simp
              refine hK.out _ _ ?_ (fun hHeld => ?_)
              · first | assumption | go_keep
              clear hK K
              try simp only [Act.put, List.setIfInBounds_toArray, List.set_cons_zero, List.set_cons_succ]
              refine wpAnyH_ready (rs := [14]) (by kernel_rfl) (by simp) ?_
              refine AllReadyH.cons rfl (fun K hK => ?_) AllReadyH.nil
              go_simp
              refine hK.out _ _ ?_ (fun hHeld => ?_)
              · first | assumption | go_keep
              clear hK K
              try simp only [Act.put, List.setIfInBounds_toArray, List.set_cons_zero, List.set_cons_succ]
              refine wpAnyH_ready (rs := [15]) (by kernel_rfl) (by simp) ?_
              refine AllReadyH.cons rfl (fun K hK => ?_) AllReadyH.nil
              go_simp
              refine hK.out _ _ ?_ (fun hHeld => ?_)
              · first | assumption | go_keep
              clear hK K
              try simp only [Act.put, List.setIfInBounds_toArray, List.set_cons_zero, List.set_cons_succ]
              refine wpAnyH_done (by kernel_rfl) ?_ _
              go_wp2_with fail
              go_meet
              exact ⟨_, _, _, _, hiu, _, _, rfl, rfl, rfl, HW.out.heads HD.out (by omega) _ _ _, hs, HD.out.set3 _ _ _, ⟨(by have := Eu.out; omega), (by have := Eu.out; omega), (by have := Eu.out; omega), (by have := Eu.out; omega), (by have := Eu.out; omega), (by have := Eu.out; omega), (by have := Eu.out; omega)⟩, HA.out.heads (by omega) _ _ _, HQ.out.far3 (by omega) _ _ _, HPG.out.far3 (by omega) _ _ _⟩
          · go_simp
            have hd0 : Blk (World.alloc w3 (.cells #[.int .i64 0, .int .i64 0, .int .i64 0] 25)) (w3.heap.size) 25 #[.int .i64 0, .int .i64 0, .int .i64 0] := by have h := Blk.new w3 25 #[.int .i64 0, .int .i64 0, .int .i64 0]; (try simp only [World.drew, size_alloc1] at h); exact h
            have HAx := Lib.hid HA.out
            have HQx := Lib.hid HQ.out
            have HPGx := Lib.hid HPG.out
            replace HA := Lib.hid (HA.out.keep (grown_alloc (grown_refl _ none) (.cells #[.int .i64 0, .int .i64 0, .int .i64 0] 25)))
            replace HQ := Lib.hid (HQ.out.keep (grown_alloc (grown_refl _ none) (.cells #[.int .i64 0, .int .i64 0, .int .i64 0] 25)))
            replace HPG := Lib.hid (HPG.out.keep (grown_alloc (grown_refl _ none) (.cells #[.int .i64 0, .int .i64 0, .int .i64 0] 25)))
            replace HRu := Lib.hid (And.intro HRu.out.1 (And.intro HRu.out.2.1 (HRu.out.2.2.alloc (.cells #[.int .i64 0, .int .i64 0, .int .i64 0] 25)).here))
            have HD := Lib.hid hd0
            clear hd0
            clear p0 p1 p2 g0 g1 g2 g3 g4
            obtain ⟨p0, p1, p2⟩ := cells3 HQ.out
            obtain ⟨g0, g1, g2, g3, g4⟩ := cells5 HPG.out
            refine hK.out _ _ ?_ (fun hHeld => ?_)
            · exact ⟨p0, p1, p2, g0, g1, g2, g3, g4⟩
            clear hK K
            try simp only [Act.put, List.setIfInBounds_toArray, List.set_cons_zero, List.set_cons_succ]
            refine wpAnyH_ready (rs := [6]) (by kernel_rfl) (by simp) ?_
            refine AllReadyH.cons rfl (fun K hK => ?_) AllReadyH.nil
            go_simp
            go_at_call 41
            refine (toPage_any _ _ _ _ _ _).mono ?_
            rintro e w4 ⟨rfl, hk⟩
            have hz4 := hk.size
            (try simp only [World.drew, size_alloc1] at hz4)
            replace HA := Lib.hid (HA.out.keep hk)
            replace HQ := Lib.hid (HQ.out.keep hk)
            replace HPG := Lib.hid (HPG.out.keep hk)
            replace HD := Lib.hid (HD.out.keep hk)
            replace HRu := Lib.hid (And.intro HRu.out.1 (And.intro HRu.out.2.1 (HRu.out.2.2.kept hk).here))
            clear hk
            clear p0 p1 p2 g0 g1 g2 g3 g4
            obtain ⟨p0, p1, p2⟩ := cells3 HQ.out
            obtain ⟨g0, g1, g2, g3, g4⟩ := cells5 HPG.out
            refine hK.out _ _ ?_ (fun hHeld => ?_)
            · exact ⟨p0, p1, p2, g0, g1, g2, g3, g4⟩
            clear hK K
            try simp only [Act.put, List.setIfInBounds_toArray, List.set_cons_zero, List.set_cons_succ]
            refine wpAnyH_ready (rs := [7]) (by kernel_rfl) (by simp) ?_
            refine AllReadyH.cons rfl (fun K hK => ?_) AllReadyH.nil
            go_simp
            go_at_call 23
            refine (specAppend_val (HI.out.of HRu.out.2.1) HRu.out.1 HRu.out.2.2 hn (small_is HRu.out.2.1 HP.out.1)).mono ?_
            rintro e w5 ⟨Au, cu, csu, rfl, hl, hs, ho, hk⟩
            obtain ⟨lou, hiu, hx, qu, ru, eu⟩ : ∃ lo hi, VX w Au n1 cu csu lo hi w5 ∧ w4.heap.size ≤ lo ∧ lo ≤ hi ∧ hi = w5.heap.size := ⟨_, _, VX.made HA.out.2 hl ho hk, by (try simp only [World.drew, size_alloc1]); exact Nat.le_refl _, hk.size, rfl⟩
            have hz5 := hk.size
            (try simp only [World.drew, size_alloc1] at hz5)
            replace HA := Lib.hid (HA.out.keep hk)
            replace HQ := Lib.hid (HQ.out.keep hk)
            replace HPG := Lib.hid (HPG.out.keep hk)
            replace HD := Lib.hid (HD.out.keep hk)
            replace HRu := Lib.hid (And.intro HRu.out.1 (And.intro HRu.out.2.1 (HRu.out.2.2.kept hk).here))
            have HW := Lib.hid hx
            have Eu := Lib.hid eu
            clear hk hl ho hx eu
            clear p0 p1 p2 g0 g1 g2 g3 g4
            obtain ⟨p0, p1, p2⟩ := cells3 HQ.out
            obtain ⟨g0, g1, g2, g3, g4⟩ := cells5 HPG.out
            refine hK.out _ _ ?_ (fun hHeld => ?_)
            · exact ⟨p0, p1, p2, g0, g1, g2, g3, g4⟩
            clear hK K
            try simp only [Act.put, List.setIfInBounds_toArray, List.set_cons_zero, List.set_cons_succ]
            refine heldY 8 28 ?_
            refine heldY 9 37 ?_
            refine heldY 10 38 ?_
            refine heldY 11 39 ?_
            obtain ⟨d0, d1, d2⟩ := cells3 HD.out
            obtain ⟨f0, f1, f2⟩ := frozen3 HD.out
            have dl := HD.out.lt
            have na0 : w.heap.size ≠ w3.heap.size := by omega
            have nb0 : w3.heap.size ≠ w.heap.size := by omega
            have na1 : w.heap.size + 1 ≠ w3.heap.size := by omega
            have nb1 : w3.heap.size ≠ w.heap.size + 1 := by omega
            refine wpAnyH_ready (rs := [13]) (by kernel_rfl) (by simp) ?_
            refine AllReadyH.cons rfl (fun K hK => ?_) AllReadyH.nil
            go_simp
            refine hK.out _ _ ?_ (fun hHeld => ?_)
            · first | assumption | go_keep
            clear hK K
            try simp only [Act.put, List.setIfInBounds_toArray, List.set_cons_zero, List.set_cons_succ]
            refine wpAnyH_ready (rs := [14]) (by kernel_rfl) (by simp) ?_
            refine AllReadyH.cons rfl (fun K hK => ?_) AllReadyH.nil
            go_simp
            refine hK.out _ _ ?_ (fun hHeld => ?_)
            · first | assumption | go_keep
            clear hK K
            try simp only [Act.put, List.setIfInBounds_toArray, List.set_cons_zero, List.set_cons_succ]
            refine wpAnyH_ready (rs := [15]) (by kernel_rfl) (by simp) ?_
            refine AllReadyH.cons rfl (fun K hK => ?_) AllReadyH.nil
            go_simp
            refine hK.out _ _ ?_ (fun hHeld => ?_)
            · first | assumption | go_keep
            clear hK K
            try simp only [Act.put, List.setIfInBounds_toArray, List.set_cons_zero, List.set_cons_succ]
            refine wpAnyH_done (by kernel_rfl) ?_ _
            go_wp2_with fail
            go_meet
            exact ⟨_, _, _, _, hiu, _, _, rfl, rfl, rfl, HW.out.heads HD.out (by omega) _ _ _, hs, HD.out.set3 _ _ _, ⟨(by have := Eu.out; omega), (by have := Eu.out; omega), (by have := Eu.out; omega), (by have := Eu.out; omega), (by have := Eu.out; omega), (by have := Eu.out; omega), (by have := Eu.out; omega)⟩, HA.out.heads (by omega) _ _ _, HQ.out.far3 (by omega) _ _ _, HPG.out.far3 (by omega) _ _ _⟩
        · go_simp
          have hd0 : Blk (World.alloc w2 (.cells #[.int .i64 0, .int .i64 0, .int .i64 0] 25)) (w2.heap.size) 25 #[.int .i64 0, .int .i64 0, .int .i64 0] := by have h := Blk.new w2 25 #[.int .i64 0, .int .i64 0, .int .i64 0]; (try simp only [World.drew, size_alloc1] at h); exact h
          have HAx := Lib.hid HA.out
          have HQx := Lib.hid HQ.out
          have HPGx := Lib.hid HPG.out
          replace HA := Lib.hid (HA.out.keep (grown_alloc (grown_refl _ none) (.cells #[.int .i64 0, .int .i64 0, .int .i64 0] 25)))
          replace HQ := Lib.hid (HQ.out.keep (grown_alloc (grown_refl _ none) (.cells #[.int .i64 0, .int .i64 0, .int .i64 0] 25)))
          replace HPG := Lib.hid (HPG.out.keep (grown_alloc (grown_refl _ none) (.cells #[.int .i64 0, .int .i64 0, .int .i64 0] 25)))
          replace HRu := Lib.hid (And.intro HRu.out.1 (And.intro HRu.out.2.1 (HRu.out.2.2.alloc (.cells #[.int .i64 0, .int .i64 0, .int .i64 0] 25)).here))
          have HD := Lib.hid hd0
          clear hd0
          clear p0 p1 p2 g0 g1 g2 g3 g4
          obtain ⟨p0, p1, p2⟩ := cells3 HQ.out
          obtain ⟨g0, g1, g2, g3, g4⟩ := cells5 HPG.out
          refine hK.out _ _ ?_ (fun hHeld => ?_)
          · exact ⟨p0, p1, p2, g0, g1, g2, g3, g4⟩
          clear hK K
          try simp only [Act.put, List.setIfInBounds_toArray, List.set_cons_zero, List.set_cons_succ]
          refine wpAnyH_ready (rs := [3]) (by kernel_rfl) (by simp) ?_
          refine AllReadyH.cons rfl (fun K hK => ?_) AllReadyH.nil
          go_simp
          go_at_call 40
          refine (toHeads_any _ _ _ _).mono ?_
          rintro e w3 ⟨rfl, hk⟩
          have hz3 := hk.size
          (try simp only [World.drew, size_alloc1] at hz3)
          replace HA := Lib.hid (HA.out.keep hk)
          replace HQ := Lib.hid (HQ.out.keep hk)
          replace HPG := Lib.hid (HPG.out.keep hk)
          replace HD := Lib.hid (HD.out.keep hk)
          replace HRu := Lib.hid (And.intro HRu.out.1 (And.intro HRu.out.2.1 (HRu.out.2.2.kept hk).here))
          clear hk
          clear p0 p1 p2 g0 g1 g2 g3 g4
          obtain ⟨p0, p1, p2⟩ := cells3 HQ.out
          obtain ⟨g0, g1, g2, g3, g4⟩ := cells5 HPG.out
          refine hK.out _ _ ?_ (fun hHeld => ?_)
          · exact ⟨p0, p1, p2, g0, g1, g2, g3, g4⟩
          clear hK K
          try simp only [Act.put, List.setIfInBounds_toArray, List.set_cons_zero, List.set_cons_succ]
          refine wpAnyH_ready (rs := [6]) (by kernel_rfl) (by simp) ?_
          refine AllReadyH.cons rfl (fun K hK => ?_) AllReadyH.nil
          go_simp
          go_at_call 41
          refine (toPage_any _ _ _ _ _ _).mono ?_
          rintro e w4 ⟨rfl, hk⟩
          have hz4 := hk.size
          (try simp only [World.drew, size_alloc1] at hz4)
          replace HA := Lib.hid (HA.out.keep hk)
          replace HQ := Lib.hid (HQ.out.keep hk)
          replace HPG := Lib.hid (HPG.out.keep hk)
          replace HD := Lib.hid (HD.out.keep hk)
          replace HRu := Lib.hid (And.intro HRu.out.1 (And.intro HRu.out.2.1 (HRu.out.2.2.kept hk).here))
          clear hk
          clear p0 p1 p2 g0 g1 g2 g3 g4
          obtain ⟨p0, p1, p2⟩ := cells3 HQ.out
          obtain ⟨g0, g1, g2, g3, g4⟩ := cells5 HPG.out
          refine hK.out _ _ ?_ (fun hHeld => ?_)
          · exact ⟨p0, p1, p2, g0, g1, g2, g3, g4⟩
          clear hK K
          try simp only [Act.put, List.setIfInBounds_toArray, List.set_cons_zero, List.set_cons_succ]
          refine wpAnyH_ready (rs := [7]) (by kernel_rfl) (by simp) ?_
          refine AllReadyH.cons rfl (fun K hK => ?_) AllReadyH.nil
          go_simp
          go_at_call 23
          refine (specAppend_val (HI.out.of HRu.out.2.1) HRu.out.1 HRu.out.2.2 hn (small_is HRu.out.2.1 HP.out.1)).mono ?_
          rintro e w5 ⟨Au, cu, csu, rfl, hl, hs, ho, hk⟩
          obtain ⟨lou, hiu, hx, qu, ru, eu⟩ : ∃ lo hi, VX w Au n1 cu csu lo hi w5 ∧ w4.heap.size ≤ lo ∧ lo ≤ hi ∧ hi = w5.heap.size := ⟨_, _, VX.made HA.out.2 hl ho hk, by (try simp only [World.drew, size_alloc1]); exact Nat.le_refl _, hk.size, rfl⟩
          have hz5 := hk.size
          (try simp only [World.drew, size_alloc1] at hz5)
          replace HA := Lib.hid (HA.out.keep hk)
          replace HQ := Lib.hid (HQ.out.keep hk)
          replace HPG := Lib.hid (HPG.out.keep hk)
          replace HD := Lib.hid (HD.out.keep hk)
          replace HRu := Lib.hid (And.intro HRu.out.1 (And.intro HRu.out.2.1 (HRu.out.2.2.kept hk).here))
          have HW := Lib.hid hx
          have Eu := Lib.hid eu
          clear hk hl ho hx eu
          clear p0 p1 p2 g0 g1 g2 g3 g4
          obtain ⟨p0, p1, p2⟩ := cells3 HQ.out
          obtain ⟨g0, g1, g2, g3, g4⟩ := cells5 HPG.out
          refine hK.out _ _ ?_ (fun hHeld => ?_)
          · exact ⟨p0, p1, p2, g0, g1, g2, g3, g4⟩
          clear hK K
          try simp only [Act.put, List.setIfInBounds_toArray, List.set_cons_zero, List.set_cons_succ]
          refine heldY 8 28 ?_
          refine heldY 9 37 ?_
          refine heldY 10 38 ?_
          refine heldY 11 39 ?_
          obtain ⟨d0, d1, d2⟩ := cells3 HD.out
          obtain ⟨f0, f1, f2⟩ := frozen3 HD.out
          have dl := HD.out.lt
          have na0 : w.heap.size ≠ w2.heap.size := by omega
          have nb0 : w2.heap.size ≠ w.heap.size := by omega
          have na1 : w.heap.size + 1 ≠ w2.heap.size := by omega
          have nb1 : w2.heap.size ≠ w.heap.size + 1 := by omega
          refine wpAnyH_ready (rs := [13]) (by kernel_rfl) (by simp) ?_
          refine AllReadyH.cons rfl (fun K hK => ?_) AllReadyH.nil
          go_simp
          refine hK.out _ _ ?_ (fun hHeld => ?_)
          · first | assumption | go_keep
          clear hK K
          try simp only [Act.put, List.setIfInBounds_toArray, List.set_cons_zero, List.set_cons_succ]
          refine wpAnyH_ready (rs := [14]) (by kernel_rfl) (by simp) ?_
          refine AllReadyH.cons rfl (fun K hK => ?_) AllReadyH.nil
          go_simp
          refine hK.out _ _ ?_ (fun hHeld => ?_)
          · first | assumption | go_keep
          clear hK K
          try simp only [Act.put, List.setIfInBounds_toArray, List.set_cons_zero, List.set_cons_succ]
          refine wpAnyH_ready (rs := [15]) (by kernel_rfl) (by simp) ?_
          refine AllReadyH.cons rfl (fun K hK => ?_) AllReadyH.nil
          go_simp
          refine hK.out _ _ ?_ (fun hHeld => ?_)
          · first | assumption | go_keep
          clear hK K
          try simp only [Act.put, List.setIfInBounds_toArray, List.set_cons_zero, List.set_cons_succ]
          refine wpAnyH_done (by kernel_rfl) ?_ _
          go_wp2_with fail
          go_meet
          exact ⟨_, _, _, _, hiu, _, _, rfl, rfl, rfl, HW.out.heads HD.out (by omega) _ _ _, hs, HD.out.set3 _ _ _, ⟨(by have := Eu.out; omega), (by have := Eu.out; omega), (by have := Eu.out; omega), (by have := Eu.out; omega), (by have := Eu.out; omega), (by have := Eu.out; omega), (by have := Eu.out; omega)⟩, HA.out.heads (by omega) _ _ _, HQ.out.far3 (by omega) _ _ _, HPG.out.far3 (by omega) _ _ _⟩
      · go_simp
        have hd0 : Blk (World.alloc w1.drew (.cells #[.int .i64 0, .int .i64 0, .int .i64 0] 25)) (w1.heap.size) 25 #[.int .i64 0, .int .i64 0, .int .i64 0] := by have h := Blk.new w1.drew 25 #[.int .i64 0, .int .i64 0, .int .i64 0]; (try simp only [World.drew, size_alloc1] at h); exact h
        have HAx := Lib.hid HA.out
        have HQx := Lib.hid HQ.out
        have HPGx := Lib.hid HPG.out
        replace HA := Lib.hid (HA.out.keep (grown_alloc (grown_refl _ none) (.cells #[.int .i64 0, .int .i64 0, .int .i64 0] 25)))
        replace HQ := Lib.hid (HQ.out.keep (grown_alloc (grown_refl _ none) (.cells #[.int .i64 0, .int .i64 0, .int .i64 0] 25)))
        replace HPG := Lib.hid (HPG.out.keep (grown_alloc (grown_refl _ none) (.cells #[.int .i64 0, .int .i64 0, .int .i64 0] 25)))
        have HD := Lib.hid hd0
        clear hd0
        clear p0 p1 p2 g0 g1 g2 g3 g4
        obtain ⟨p0, p1, p2⟩ := cells3 HQ.out
        obtain ⟨g0, g1, g2, g3, g4⟩ := cells5 HPG.out
        refine hK.out _ _ ?_ (fun hHeld => ?_)
        · exact ⟨p0, p1, p2, g0, g1, g2, g3, g4⟩
        clear hK K
        try simp only [Act.put, List.setIfInBounds_toArray, List.set_cons_zero, List.set_cons_succ]
        refine wpAnyH_ready (rs := [1]) (by kernel_rfl) (by simp) ?_
        refine AllReadyH.cons rfl (fun K hK => ?_) AllReadyH.nil
        go_simp
        go_at_call 38
        refine (toBlockS_any _ _ _ _ _ HL.out HA.out.row hn HP.out.1).mono ?_
        rintro e w2 ⟨Au, cu, csu, rfl, hl, hs, ho, hk⟩
        have hz2 := hk.size
        (try simp only [World.drew, size_alloc1] at hz2)
        replace HA := Lib.hid (HA.out.keep hk)
        replace HQ := Lib.hid (HQ.out.keep hk)
        replace HPG := Lib.hid (HPG.out.keep hk)
        replace HD := Lib.hid (HD.out.keep hk)
        have HRu := Lib.hid (And.intro hl (And.intro hs ho.row))
        clear hk hl hs ho
        clear p0 p1 p2 g0 g1 g2 g3 g4
        obtain ⟨p0, p1, p2⟩ := cells3 HQ.out
        obtain ⟨g0, g1, g2, g3, g4⟩ := cells5 HPG.out
        refine hK.out _ _ ?_ (fun hHeld => ?_)
        · exact ⟨p0, p1, p2, g0, g1, g2, g3, g4⟩
        clear hK K
        try simp only [Act.put, List.setIfInBounds_toArray, List.set_cons_zero, List.set_cons_succ]
        refine wpAnyH_ready (rs := [3]) (by kernel_rfl) (by simp) ?_
        refine AllReadyH.cons rfl (fun K hK => ?_) AllReadyH.nil
        go_simp
        go_at_call 40
        refine (toHeads_any _ _ _ _).mono ?_
        rintro e w3 ⟨rfl, hk⟩
        have hz3 := hk.size
        (try simp only [World.drew, size_alloc1] at hz3)
        replace HA := Lib.hid (HA.out.keep hk)
        replace HQ := Lib.hid (HQ.out.keep hk)
        replace HPG := Lib.hid (HPG.out.keep hk)
        replace HD := Lib.hid (HD.out.keep hk)
        replace HRu := Lib.hid (And.intro HRu.out.1 (And.intro HRu.out.2.1 (HRu.out.2.2.kept hk).here))
        clear hk
        clear p0 p1 p2 g0 g1 g2 g3 g4
        obtain ⟨p0, p1, p2⟩ := cells3 HQ.out
        obtain ⟨g0, g1, g2, g3, g4⟩ := cells5 HPG.out
        refine hK.out _ _ ?_ (fun hHeld => ?_)
        · exact ⟨p0, p1, p2, g0, g1, g2, g3, g4⟩
        clear hK K
        try simp only [Act.put, List.setIfInBounds_toArray, List.set_cons_zero, List.set_cons_succ]
        refine wpAnyH_ready (rs := [6]) (by kernel_rfl) (by simp) ?_
        refine AllReadyH.cons rfl (fun K hK => ?_) AllReadyH.nil
        go_simp
        go_at_call 41
        refine (toPage_any _ _ _ _ _ _).mono ?_
        rintro e w4 ⟨rfl, hk⟩
        have hz4 := hk.size
        (try simp only [World.drew, size_alloc1] at hz4)
        replace HA := Lib.hid (HA.out.keep hk)
        replace HQ := Lib.hid (HQ.out.keep hk)
        replace HPG := Lib.hid (HPG.out.keep hk)
        replace HD := Lib.hid (HD.out.keep hk)
        replace HRu := Lib.hid (And.intro HRu.out.1 (And.intro HRu.out.2.1 (HRu.out.2.2.kept hk).here))
        clear hk
        clear p0 p1 p2 g0 g1 g2 g3 g4
        obtain ⟨p0, p1, p2⟩ := cells3 HQ.out
        obtain ⟨g0, g1, g2, g3, g4⟩ := cells5 HPG.out
        refine hK.out _ _ ?_ (fun hHeld => ?_)
        · exact ⟨p0, p1, p2, g0, g1, g2, g3, g4⟩
        clear hK K
        try simp only [Act.put, List.setIfInBounds_toArray, List.set_cons_zero, List.set_cons_succ]
        refine wpAnyH_ready (rs := [7]) (by kernel_rfl) (by simp) ?_
        refine AllReadyH.cons rfl (fun K hK => ?_) AllReadyH.nil
        go_simp
        go_at_call 23
        refine (specAppend_val (HI.out.of HRu.out.2.1) HRu.out.1 HRu.out.2.2 hn (small_is HRu.out.2.1 HP.out.1)).mono ?_
        rintro e w5 ⟨Au, cu, csu, rfl, hl, hs, ho, hk⟩
        obtain ⟨lou, hiu, hx, qu, ru, eu⟩ : ∃ lo hi, VX w Au n1 cu csu lo hi w5 ∧ w4.heap.size ≤ lo ∧ lo ≤ hi ∧ hi = w5.heap.size := ⟨_, _, VX.made HA.out.2 hl ho hk, by (try simp only [World.drew, size_alloc1]); exact Nat.le_refl _, hk.size, rfl⟩
        have hz5 := hk.size
        (try simp only [World.drew, size_alloc1] at hz5)
        replace HA := Lib.hid (HA.out.keep hk)
        replace HQ := Lib.hid (HQ.out.keep hk)
        replace HPG := Lib.hid (HPG.out.keep hk)
        replace HD := Lib.hid (HD.out.keep hk)
        replace HRu := Lib.hid (And.intro HRu.out.1 (And.intro HRu.out.2.1 (HRu.out.2.2.kept hk).here))
        have HW := Lib.hid hx
        have Eu := Lib.hid eu
        clear hk hl ho hx eu
        clear p0 p1 p2 g0 g1 g2 g3 g4
        obtain ⟨p0, p1, p2⟩ := cells3 HQ.out
        obtain ⟨g0, g1, g2, g3, g4⟩ := cells5 HPG.out
        refine hK.out _ _ ?_ (fun hHeld => ?_)
        · exact ⟨p0, p1, p2, g0, g1, g2, g3, g4⟩
        clear hK K
        try simp only [Act.put, List.setIfInBounds_toArray, List.set_cons_zero, List.set_cons_succ]
        refine heldY 8 28 ?_
        refine heldY 9 37 ?_
        refine heldY 10 38 ?_
        refine heldY 11 39 ?_
        obtain ⟨d0, d1, d2⟩ := cells3 HD.out
        obtain ⟨f0, f1, f2⟩ := frozen3 HD.out
        have dl := HD.out.lt
        have na0 : w.heap.size ≠ w1.heap.size := by omega
        have nb0 : w1.heap.size ≠ w.heap.size := by omega
        have na1 : w.heap.size + 1 ≠ w1.heap.size := by omega
        have nb1 : w1.heap.size ≠ w.heap.size + 1 := by omega
        refine wpAnyH_ready (rs := [13]) (by kernel_rfl) (by simp) ?_
        refine AllReadyH.cons rfl (fun K hK => ?_) AllReadyH.nil
        go_simp
        refine hK.out _ _ ?_ (fun hHeld => ?_)
        · first | assumption | go_keep
        clear hK K
        try simp only [Act.put, List.setIfInBounds_toArray, List.set_cons_zero, List.set_cons_succ]
        refine wpAnyH_ready (rs := [14]) (by kernel_rfl) (by simp) ?_
        refine AllReadyH.cons rfl (fun K hK => ?_) AllReadyH.nil
        go_simp
        refine hK.out _ _ ?_ (fun hHeld => ?_)
        · first | assumption | go_keep
        clear hK K
        try simp only [Act.put, List.setIfInBounds_toArray, List.set_cons_zero, List.set_cons_succ]
        refine wpAnyH_ready (rs := [15]) (by kernel_rfl) (by simp) ?_
        refine AllReadyH.cons rfl (fun K hK => ?_) AllReadyH.nil
        go_simp
        refine hK.out _ _ ?_ (fun hHeld => ?_)
        · first | assumption | go_keep
        clear hK K
        try simp only [Act.put, List.setIfInBounds_toArray, List.set_cons_zero, List.set_cons_succ]
        refine wpAnyH_done (by kernel_rfl) ?_ _
        go_wp2_with fail
        go_meet
        exact ⟨_, _, _, _, hiu, _, _, rfl, rfl, rfl, HW.out.heads HD.out (by omega) _ _ _, hs, HD.out.set3 _ _ _, ⟨(by have := Eu.out; omega), (by have := Eu.out; omega), (by have := Eu.out; omega), (by have := Eu.out; omega), (by have := Eu.out; omega), (by have := Eu.out; omega), (by have := Eu.out; omega)⟩, HA.out.heads (by omega) _ _ _, HQ.out.far3 (by omega) _ _ _, HPG.out.far3 (by omega) _ _ _⟩
    case rest =>
      clear HA HQ HPG
      obtain ⟨Vu, cu, lou, hiu, zu, Au, csu, rfl, rfl, rfl, hx0, hs0, hb0, ⟨qau, qbu, qcu, qdu, qeu, qou, qzu⟩, hHA, hHQ, hHPG⟩ := hcut
      have HW := Lib.hid hx0
      have SHW := Lib.hid hs0
      have HWh := Lib.hid hb0
      have HOu := Lib.hid (And.intro qou qzu)
      have HA := Lib.hid hHA
      have HQ := Lib.hid hHQ
      have HPG := Lib.hid hHPG
      clear hx0 hs0 hb0 qou qzu hHA hHQ hHPG
      clear tv
      go_wp2_with fail
      refine (toBlockS_any _ _ _ _ _ HL.out HA.out.row hn HP.out.1).mono ?_
      rintro e w12 ⟨A3, c3, cs3, rfl, hl, hs, ho, hk⟩
      obtain ⟨loHX, hiHX, hx, qHX, rHX⟩ : ∃ lo hi, VX w A3 n0 c3 cs3 lo hi w12 ∧ zu ≤ lo ∧ lo ≤ hi := ⟨_, _, VX.made HA.out.2 hl ho hk, (by have e1 := HW.out.2.2.2.2.1; have e2 := HWh.out.lt; have e3 := HOu.out.2; omega), hk.size⟩
      replace HA := Lib.hid (HA.out.keep hk)
      replace HQ := Lib.hid (HQ.out.keep hk)
      replace HPG := Lib.hid (HPG.out.keep hk)
      replace HW := Lib.hid (HW.out.keep hk)
      replace HWh := Lib.hid (HWh.out.keep hk)
      have HX := Lib.hid hx
      have SHX := Lib.hid hs
      clear hk hl hs ho hx
      have THX := Lib.hid (show tot cs3 ≤ 1048576 by rw [tot_is SHX.out, ← tot_is rfl]; exact HP.out.2)
      go_upto_region 7 with fail
      go_cut [14, 15, 16] (fun sd sp sr wx7 => ∃ (Vg cg log hig zg : Nat) (Ag : Option Addr) (csg : List Bk), sd = .slice Ag n1 cg ∧ sp = .pointer (some ⟨Vg, 0, none⟩) ∧ sr = .int .i64 r ∧ VX w Ag n1 cg csg log hig wx7 ∧ csg.map Bk.is = l1 ∧ Blk wx7 Vg 25 #[.int .i64 y1, .int .i64 y2, .int .i64 y3] ∧ (hiHX ≤ log ∧ hiHX ≤ Vg ∧ log ≤ hig ∧ hig ≤ zg ∧ Vg < zg ∧ (Vg < log ∨ hig ≤ Vg) ∧ (zg = hig ∨ zg = Vg + 1)) ∧ VD w a0 b0 wx7 ∧ Blk wx7 (w.heap.size) 52 #[.int .i64 a1f0, .int .i64 a1f1, .int .i64 a1f2] ∧ Blk wx7 (w.heap.size + 1) 55 #[.bool a3f0, .int .i64 a3f1, .int .i64 a3f2, .int .i64 a3f3, .int .i64 a3f4] ∧ VX w Au n1 cu csu lou hiu wx7 ∧ Blk wx7 (Vu) 25 #[.int .i64 y1, .int .i64 y2, .int .i64 y3] ∧ VX w A3 n0 c3 cs3 loHX hiHX wx7)
      case first =>
        have hzp : hiHX ≤ w12.heap.size := HX.out.2.2.2.2.1
        obtain ⟨p0, p1, p2⟩ := cells3 HQ.out
        obtain ⟨g0, g1, g2, g3, g4⟩ := cells5 HPG.out
        refine wp_region_held_drew (S := (fun w' => w'.cell? ⟨w.heap.size, 0, none⟩ = some (.int .i64 a1f0) ∧ w'.cell? ⟨w.heap.size, 1, none⟩ = some (.int .i64 a1f1) ∧ w'.cell? ⟨w.heap.size, 2, none⟩ = some (.int .i64 a1f2) ∧ w'.cell? ⟨w.heap.size + 1, 0, none⟩ = some (.bool a3f0) ∧ w'.cell? ⟨w.heap.size + 1, 1, none⟩ = some (.int .i64 a3f1) ∧ w'.cell? ⟨w.heap.size + 1, 2, none⟩ = some (.int .i64 a3f2) ∧ w'.cell? ⟨w.heap.size + 1, 3, none⟩ = some (.int .i64 a3f3) ∧ w'.cell? ⟨w.heap.size + 1, 4, none⟩ = some (.int .i64 a3f4))) (by kernel_rfl) ?_ (fun hHeld => ?_)
        · exact ⟨p0, p1, p2, g0, g1, g2, g3, g4⟩
        replace HA := Lib.hid (HA.out.keep (grown_drew (grown_refl _ none)))
        replace HQ := Lib.hid (HQ.out.keep (grown_drew (grown_refl _ none)))
        replace HPG := Lib.hid (HPG.out.keep (grown_drew (grown_refl _ none)))
        replace HW := Lib.hid (HW.out.keep (grown_drew (grown_refl _ none)))
        replace HWh := Lib.hid (HWh.out.keep (grown_drew (grown_refl _ none)))
        replace HX := Lib.hid (HX.out.keep (grown_drew (grown_refl _ none)))
        refine heldY 0 43 ?_
        refine heldY 1 44 ?_
        refine heldY 3 46 ?_
        refine heldY 4 47 ?_
        refine wpAnyH_ready (rs := [2, 11]) (by kernel_rfl) (by simp) ?_
        refine AllReadyH.cons rfl (fun K hK => ?_) (AllReadyH.cons rfl (fun K hK => ?_) AllReadyH.nil)
        · go_simp
          go_at_call 40
          refine (toHeads_any _ _ _ _).mono ?_
          rintro e w13 ⟨rfl, hk⟩
          have hz13 := hk.size
          (try simp only [World.drew, size_alloc1] at hz13)
          replace HA := Lib.hid (HA.out.keep hk)
          replace HQ := Lib.hid (HQ.out.keep hk)
          replace HPG := Lib.hid (HPG.out.keep hk)
          replace HW := Lib.hid (HW.out.keep hk)
          replace HWh := Lib.hid (HWh.out.keep hk)
          replace HX := Lib.hid (HX.out.keep hk)
          clear hk
          clear p0 p1 p2 g0 g1 g2 g3 g4
          obtain ⟨p0, p1, p2⟩ := cells3 HQ.out
          obtain ⟨g0, g1, g2, g3, g4⟩ := cells5 HPG.out
          refine hK.out _ _ ?_ (fun hHeld => ?_)
          · exact ⟨p0, p1, p2, g0, g1, g2, g3, g4⟩
          clear hK K
          try simp only [Act.put, List.setIfInBounds_toArray, List.set_cons_zero, List.set_cons_succ]
          refine wpAnyH_ready (rs := [5, 11]) (by kernel_rfl) (by simp) ?_
          refine AllReadyH.cons rfl (fun K hK => ?_) (AllReadyH.cons rfl (fun K hK => ?_) AllReadyH.nil)
          · go_simp
            go_at_call 41
            refine (toPage_any _ _ _ _ _ _).mono ?_
            rintro e w14 ⟨rfl, hk⟩
            have hz14 := hk.size
            (try simp only [World.drew, size_alloc1] at hz14)
            replace HA := Lib.hid (HA.out.keep hk)
            replace HQ := Lib.hid (HQ.out.keep hk)
            replace HPG := Lib.hid (HPG.out.keep hk)
            replace HW := Lib.hid (HW.out.keep hk)
            replace HWh := Lib.hid (HWh.out.keep hk)
            replace HX := Lib.hid (HX.out.keep hk)
            clear hk
            clear p0 p1 p2 g0 g1 g2 g3 g4
            obtain ⟨p0, p1, p2⟩ := cells3 HQ.out
            obtain ⟨g0, g1, g2, g3, g4⟩ := cells5 HPG.out
            refine hK.out _ _ ?_ (fun hHeld => ?_)
            · exact ⟨p0, p1, p2, g0, g1, g2, g3, g4⟩
            clear hK K
            try simp only [Act.put, List.setIfInBounds_toArray, List.set_cons_zero, List.set_cons_succ]
            refine wpAnyH_ready (rs := [6, 11]) (by kernel_rfl) (by simp) ?_
            refine AllReadyH.cons rfl (fun K hK => ?_) (AllReadyH.cons rfl (fun K hK => ?_) AllReadyH.nil)
            · go_simp
              go_at_call 22
              refine (append_val (HI.out.of SHX.out) HX.out.2.1 HX.out.row hn (small_is SHX.out HP.out.1)).mono ?_
              rintro e w15 ⟨Ag, cg, csg, rfl, hl, hs, ho, hk⟩
              obtain ⟨log, hig, hx, qg, rg, eg⟩ : ∃ lo hi, VX w Ag n1 cg csg lo hi w15 ∧ w14.heap.size ≤ lo ∧ lo ≤ hi ∧ hi = w15.heap.size := ⟨_, _, VX.made HA.out.2 hl ho hk, by (try simp only [World.drew, size_alloc1]); exact Nat.le_refl _, hk.size, rfl⟩
              have hz15 := hk.size
              (try simp only [World.drew, size_alloc1] at hz15)
              replace HA := Lib.hid (HA.out.keep hk)
              replace HQ := Lib.hid (HQ.out.keep hk)
              replace HPG := Lib.hid (HPG.out.keep hk)
              replace HW := Lib.hid (HW.out.keep hk)
              replace HWh := Lib.hid (HWh.out.keep hk)
              replace HX := Lib.hid (HX.out.keep hk)
              have HG := Lib.hid hx
              have Eg := Lib.hid eg
              clear hk hl ho hx eg
              clear p0 p1 p2 g0 g1 g2 g3 g4
              obtain ⟨p0, p1, p2⟩ := cells3 HQ.out
              obtain ⟨g0, g1, g2, g3, g4⟩ := cells5 HPG.out
              refine hK.out _ _ ?_ (fun hHeld => ?_)
              · exact ⟨p0, p1, p2, g0, g1, g2, g3, g4⟩
              clear hK K
              try simp only [Act.put, List.setIfInBounds_toArray, List.set_cons_zero, List.set_cons_succ]
              refine heldY 7 42 ?_
              refine heldY 8 50 ?_
              refine heldY 9 51 ?_
              refine heldY 10 52 ?_
              refine wpAnyH_ready (rs := [11]) (by kernel_rfl) (by simp) ?_
              refine AllReadyH.cons rfl (fun K hK => ?_) AllReadyH.nil
              go_simp
              have hd0 : Blk (World.alloc w15 (.cells #[.int .i64 0, .int .i64 0, .int .i64 0] 25)) (w15.heap.size) 25 #[.int .i64 0, .int .i64 0, .int .i64 0] := by have h := Blk.new w15 25 #[.int .i64 0, .int .i64 0, .int .i64 0]; (try simp only [World.drew, size_alloc1] at h); exact h
              have HAx := Lib.hid HA.out
              have HQx := Lib.hid HQ.out
              have HPGx := Lib.hid HPG.out
              have HWx := Lib.hid HW.out
              have HWhx := Lib.hid HWh.out
              have HXx := Lib.hid HX.out
              have HGx := Lib.hid HG.out
              replace HA := Lib.hid (HA.out.keep (grown_alloc (grown_refl _ none) (.cells #[.int .i64 0, .int .i64 0, .int .i64 0] 25)))
              replace HQ := Lib.hid (HQ.out.keep (grown_alloc (grown_refl _ none) (.cells #[.int .i64 0, .int .i64 0, .int .i64 0] 25)))
              replace HPG := Lib.hid (HPG.out.keep (grown_alloc (grown_refl _ none) (.cells #[.int .i64 0, .int .i64 0, .int .i64 0] 25)))
              replace HW := Lib.hid (HW.out.keep (grown_alloc (grown_refl _ none) (.cells #[.int .i64 0, .int .i64 0, .int .i64 0] 25)))
              replace HWh := Lib.hid (HWh.out.keep (grown_alloc (grown_refl _ none) (.cells #[.int .i64 0, .int .i64 0, .int .i64 0] 25)))
              replace HX := Lib.hid (HX.out.keep (grown_alloc (grown_refl _ none) (.cells #[.int .i64 0, .int .i64 0, .int .i64 0] 25)))
              replace HG := Lib.hid (HG.out.keep (grown_alloc (grown_refl _ none) (.cells #[.int .i64 0, .int .i64 0, .int .i64 0] 25)))
              have HD := Lib.hid hd0
              clear hd0
              clear p0 p1 p2 g0 g1 g2 g3 g4
              obtain ⟨p0, p1, p2⟩ := cells3 HQ.out
              obtain ⟨g0, g1, g2, g3, g4⟩ := cells5 HPG.out
              refine hK.out _ _ ?_ (fun hHeld => ?_)
              · exact ⟨p0, p1, p2, g0, g1, g2, g3, g4⟩
              clear hK K
              try simp only [Act.put, List.setIfInBounds_toArray, List.set_cons_zero, List.set_cons_succ]
              obtain ⟨d0, d1, d2⟩ := cells3 HD.out
              obtain ⟨f0, f1, f2⟩ := frozen3 HD.out
              have dl := HD.out.lt
              have na0 : w.heap.size ≠ w15.heap.size := by omega
              have nb0 : w15.heap.size ≠ w.heap.size := by omega
              have na1 : w.heap.size + 1 ≠ w15.heap.size := by omega
              have nb1 : w15.heap.size ≠ w.heap.size + 1 := by omega
              refine wpAnyH_ready (rs := [12]) (by kernel_rfl) (by simp) ?_
              refine AllReadyH.cons rfl (fun K hK => ?_) AllReadyH.nil
              go_simp
              refine hK.out _ _ ?_ (fun hHeld => ?_)
              · first | assumption | go_keep
              clear hK K
              try simp only [Act.put, List.setIfInBounds_toArray, List.set_cons_zero, List.set_cons_succ]
              refine wpAnyH_ready (rs := [13]) (by kernel_rfl) (by simp) ?_
              refine AllReadyH.cons rfl (fun K hK => ?_) AllReadyH.nil
              go_simp
              refine hK.out _ _ ?_ (fun hHeld => ?_)
              · first | assumption | go_keep
              clear hK K
              try simp only [Act.put, List.setIfInBounds_toArray, List.set_cons_zero, List.set_cons_succ]
              refine wpAnyH_ready (rs := [14]) (by kernel_rfl) (by simp) ?_
              refine AllReadyH.cons rfl (fun K hK => ?_) AllReadyH.nil
              go_simp
              refine hK.out _ _ ?_ (fun hHeld => ?_)
              · first | assumption | go_keep
              clear hK K
              try simp only [Act.put, List.setIfInBounds_toArray, List.set_cons_zero, List.set_cons_succ]
              refine wpAnyH_done (by kernel_rfl) ?_ _
              go_wp2_with fail
              go_meet
              exact ⟨_, _, _, _, w15.heap.size + 1, _, _, rfl, rfl, rfl, HGx.out.keep (grown_alloc (grown_refl _ none) _), hs, Blk.new _ _ _, ⟨(by have := Eg.out; omega), (by have := Eg.out; omega), (by have := Eg.out; omega), (by have := Eg.out; omega), (by have := Eg.out; omega), (by have := Eg.out; omega), (by have := Eg.out; omega)⟩, HAx.out.keep (grown_alloc (grown_refl _ none) _), HQx.out.keep (grown_alloc (grown_refl _ none) _), HPGx.out.keep (grown_alloc (grown_refl _ none) _), HWx.out.keep (grown_alloc (grown_refl _ none) _), HWhx.out.keep (grown_alloc (grown_refl _ none) _), HXx.out.keep (grown_alloc (grown_refl _ none) _)⟩
            · go_simp
              have hd0 : Blk (World.alloc w14 (.cells #[.int .i64 0, .int .i64 0, .int .i64 0] 25)) (w14.heap.size) 25 #[.int .i64 0, .int .i64 0, .int .i64 0] := by have h := Blk.new w14 25 #[.int .i64 0, .int .i64 0, .int .i64 0]; (try simp only [World.drew, size_alloc1] at h); exact h
              have HAx := Lib.hid HA.out
              have HQx := Lib.hid HQ.out
              have HPGx := Lib.hid HPG.out
              have HWx := Lib.hid HW.out
              have HWhx := Lib.hid HWh.out
              have HXx := Lib.hid HX.out
              replace HA := Lib.hid (HA.out.keep (grown_alloc (grown_refl _ none) (.cells #[.int .i64 0, .int .i64 0, .int .i64 0] 25)))
              replace HQ := Lib.hid (HQ.out.keep (grown_alloc (grown_refl _ none) (.cells #[.int .i64 0, .int .i64 0, .int .i64 0] 25)))
              replace HPG := Lib.hid (HPG.out.keep (grown_alloc (grown_refl _ none) (.cells #[.int .i64 0, .int .i64 0, .int .i64 0] 25)))
              replace HW := Lib.hid (HW.out.keep (grown_alloc (grown_refl _ none) (.cells #[.int .i64 0, .int .i64 0, .int .i64 0] 25)))
              replace HWh := Lib.hid (HWh.out.keep (grown_alloc (grown_refl _ none) (.cells #[.int .i64 0, .int .i64 0, .int .i64 0] 25)))
              replace HX := Lib.hid (HX.out.keep (grown_alloc (grown_refl _ none) (.cells #[.int .i64 0, .int .i64 0, .int .i64 0] 25)))
              have HD := Lib.hid hd0
              clear hd0
              clear p0 p1 p2 g0 g1 g2 g3 g4
              obtain ⟨p0, p1, p2⟩ := cells3 HQ.out
              obtain ⟨g0, g1, g2, g3, g4⟩ := cells5 HPG.out
              refine hK.out _ _ ?_ (fun hHeld => ?_)
              · exact ⟨p0, p1, p2, g0, g1, g2, g3, g4⟩
              clear hK K
              try simp only [Act.put, List.setIfInBounds_toArray, List.set_cons_zero, List.set_cons_succ]
              refine wpAnyH_ready (rs := [6]) (by kernel_rfl) (by simp) ?_
              refine AllReadyH.cons rfl (fun K hK => ?_) AllReadyH.nil
              go_simp
              go_at_call 22
              refine (append_val (HI.out.of SHX.out) HX.out.2.1 HX.out.row hn (small_is SHX.out HP.out.1)).mono ?_
              rintro e w15 ⟨Ag, cg, csg, rfl, hl, hs, ho, hk⟩
              obtain ⟨log, hig, hx, qg, rg, eg⟩ : ∃ lo hi, VX w Ag n1 cg csg lo hi w15 ∧ w14.heap.size + 1 ≤ lo ∧ lo ≤ hi ∧ hi = w15.heap.size := ⟨_, _, VX.made HA.out.2 hl ho hk, by (try simp only [World.drew, size_alloc1]); exact Nat.le_refl _, hk.size, rfl⟩
              have hz15 := hk.size
              (try simp only [World.drew, size_alloc1] at hz15)
              replace HA := Lib.hid (HA.out.keep hk)
              replace HQ := Lib.hid (HQ.out.keep hk)
              replace HPG := Lib.hid (HPG.out.keep hk)
              replace HW := Lib.hid (HW.out.keep hk)
              replace HWh := Lib.hid (HWh.out.keep hk)
              replace HX := Lib.hid (HX.out.keep hk)
              replace HD := Lib.hid (HD.out.keep hk)
              have HG := Lib.hid hx
              have Eg := Lib.hid eg
              clear hk hl ho hx eg
              clear p0 p1 p2 g0 g1 g2 g3 g4
              obtain ⟨p0, p1, p2⟩ := cells3 HQ.out
              obtain ⟨g0, g1, g2, g3, g4⟩ := cells5 HPG.out
              refine hK.out _ _ ?_ (fun hHeld => ?_)
              · exact ⟨p0, p1, p2, g0, g1, g2, g3, g4⟩
              clear hK K
              try simp only [Act.put, List.setIfInBounds_toArray, List.set_cons_zero, List.set_cons_succ]
              refine heldY 7 42 ?_
              refine heldY 8 50 ?_
              refine heldY 9 51 ?_
              refine heldY 10 52 ?_
              obtain ⟨d0, d1, d2⟩ := cells3 HD.out
              obtain ⟨f0, f1, f2⟩ := frozen3 HD.out
              have dl := HD.out.lt
              have na0 : w.heap.size ≠ w14.heap.size := by omega
              have nb0 : w14.heap.size ≠ w.heap.size := by omega
              have na1 : w.heap.size + 1 ≠ w14.heap.size := by omega
              have nb1 : w14.heap.size ≠ w.heap.size + 1 := by omega
              refine wpAnyH_ready (rs := [12]) (by kernel_rfl) (by simp) ?_
              refine AllReadyH.cons rfl (fun K hK => ?_) AllReadyH.nil
              go_simp
              refine hK.out _ _ ?_ (fun hHeld => ?_)
              · first | assumption | go_keep
              clear hK K
              try simp only [Act.put, List.setIfInBounds_toArray, List.set_cons_zero, List.set_cons_succ]
              refine wpAnyH_ready (rs := [13]) (by kernel_rfl) (by simp) ?_
              refine AllReadyH.cons rfl (fun K hK => ?_) AllReadyH.nil
              go_simp
              refine hK.out _ _ ?_ (fun hHeld => ?_)
              · first | assumption | go_keep
              clear hK K
              try simp only [Act.put, List.setIfInBounds_toArray, List.set_cons_zero, List.set_cons_succ]
              refine wpAnyH_ready (rs := [14]) (by kernel_rfl) (by simp) ?_
              refine AllReadyH.cons rfl (fun K hK => ?_) AllReadyH.nil
              go_simp
              refine hK.out _ _ ?_ (fun hHeld => ?_)
              · first | assumption | go_keep
              clear hK K
              try simp only [Act.put, List.setIfInBounds_toArray, List.set_cons_zero, List.set_cons_succ]
              refine wpAnyH_done (by kernel_rfl) ?_ _
              go_wp2_with fail
              go_meet
              exact ⟨_, _, _, _, hig, _, _, rfl, rfl, rfl, HG.out.heads HD.out (by omega) _ _ _, hs, HD.out.set3 _ _ _, ⟨(by have := Eg.out; omega), (by have := Eg.out; omega), (by have := Eg.out; omega), (by have := Eg.out; omega), (by have := Eg.out; omega), (by have := Eg.out; omega), (by have := Eg.out; omega)⟩, HA.out.heads (by omega) _ _ _, HQ.out.far3 (by omega) _ _ _, HPG.out.far3 (by omega) _ _ _, HW.out.heads HD.out (by omega) _ _ _, HWh.out.far3 (by omega) _ _ _, HX.out.heads HD.out (by omega) _ _ _⟩
          · go_simp
            have hd0 : Blk (World.alloc w13 (.cells #[.int .i64 0, .int .i64 0, .int .i64 0] 25)) (w13.heap.size) 25 #[.int .i64 0, .int .i64 0, .int .i64 0] := by have h := Blk.new w13 25 #[.int .i64 0, .int .i64 0, .int .i64 0]; (try simp only [World.drew, size_alloc1] at h); exact h
            have HAx := Lib.hid HA.out
            have HQx := Lib.hid HQ.out
            have HPGx := Lib.hid HPG.out
            have HWx := Lib.hid HW.out
            have HWhx := Lib.hid HWh.out
            have HXx := Lib.hid HX.out
            replace HA := Lib.hid (HA.out.keep (grown_alloc (grown_refl _ none) (.cells #[.int .i64 0, .int .i64 0, .int .i64 0] 25)))
            replace HQ := Lib.hid (HQ.out.keep (grown_alloc (grown_refl _ none) (.cells #[.int .i64 0, .int .i64 0, .int .i64 0] 25)))
            replace HPG := Lib.hid (HPG.out.keep (grown_alloc (grown_refl _ none) (.cells #[.int .i64 0, .int .i64 0, .int .i64 0] 25)))
            replace HW := Lib.hid (HW.out.keep (grown_alloc (grown_refl _ none) (.cells #[.int .i64 0, .int .i64 0, .int .i64 0] 25)))
            replace HWh := Lib.hid (HWh.out.keep (grown_alloc (grown_refl _ none) (.cells #[.int .i64 0, .int .i64 0, .int .i64 0] 25)))
            replace HX := Lib.hid (HX.out.keep (grown_alloc (grown_refl _ none) (.cells #[.int .i64 0, .int .i64 0, .int .i64 0] 25)))
            have HD := Lib.hid hd0
            clear hd0
            clear p0 p1 p2 g0 g1 g2 g3 g4
            obtain ⟨p0, p1, p2⟩ := cells3 HQ.out
            obtain ⟨g0, g1, g2, g3, g4⟩ := cells5 HPG.out
            refine hK.out _ _ ?_ (fun hHeld => ?_)
            · exact ⟨p0, p1, p2, g0, g1, g2, g3, g4⟩
            clear hK K
            try simp only [Act.put, List.setIfInBounds_toArray, List.set_cons_zero, List.set_cons_succ]
            refine wpAnyH_ready (rs := [5]) (by kernel_rfl) (by simp) ?_
            refine AllReadyH.cons rfl (fun K hK => ?_) AllReadyH.nil
            go_simp
            go_at_call 41
            refine (toPage_any _ _ _ _ _ _).mono ?_
            rintro e w14 ⟨rfl, hk⟩
            have hz14 := hk.size
            (try simp only [World.drew, size_alloc1] at hz14)
            replace HA := Lib.hid (HA.out.keep hk)
            replace HQ := Lib.hid (HQ.out.keep hk)
            replace HPG := Lib.hid (HPG.out.keep hk)
            replace HW := Lib.hid (HW.out.keep hk)
            replace HWh := Lib.hid (HWh.out.keep hk)
            replace HX := Lib.hid (HX.out.keep hk)
            replace HD := Lib.hid (HD.out.keep hk)
            clear hk
            clear p0 p1 p2 g0 g1 g2 g3 g4
            obtain ⟨p0, p1, p2⟩ := cells3 HQ.out
            obtain ⟨g0, g1, g2, g3, g4⟩ := cells5 HPG.out
            refine hK.out _ _ ?_ (fun hHeld => ?_)
            · exact ⟨p0, p1, p2, g0, g1, g2, g3, g4⟩
            clear hK K
            try simp only [Act.put, List.setIfInBounds_toArray, List.set_cons_zero, List.set_cons_succ]
            refine wpAnyH_ready (rs := [6]) (by kernel_rfl) (by simp) ?_
            refine AllReadyH.cons rfl (fun K hK => ?_) AllReadyH.nil
            go_simp
            go_at_call 22
            refine (append_val (HI.out.of SHX.out) HX.out.2.1 HX.out.row hn (small_is SHX.out HP.out.1)).mono ?_
            rintro e w15 ⟨Ag, cg, csg, rfl, hl, hs, ho, hk⟩
            obtain ⟨log, hig, hx, qg, rg, eg⟩ : ∃ lo hi, VX w Ag n1 cg csg lo hi w15 ∧ w14.heap.size ≤ lo ∧ lo ≤ hi ∧ hi = w15.heap.size := ⟨_, _, VX.made HA.out.2 hl ho hk, by (try simp only [World.drew, size_alloc1]); exact Nat.le_refl _, hk.size, rfl⟩
            have hz15 := hk.size
            (try simp only [World.drew, size_alloc1] at hz15)
            replace HA := Lib.hid (HA.out.keep hk)
            replace HQ := Lib.hid (HQ.out.keep hk)
            replace HPG := Lib.hid (HPG.out.keep hk)
            replace HW := Lib.hid (HW.out.keep hk)
            replace HWh := Lib.hid (HWh.out.keep hk)
            replace HX := Lib.hid (HX.out.keep hk)
            replace HD := Lib.hid (HD.out.keep hk)
            have HG := Lib.hid hx
            have Eg := Lib.hid eg
            clear hk hl ho hx eg
            clear p0 p1 p2 g0 g1 g2 g3 g4
            obtain ⟨p0, p1, p2⟩ := cells3 HQ.out
            obtain ⟨g0, g1, g2, g3, g4⟩ := cells5 HPG.out
            refine hK.out _ _ ?_ (fun hHeld => ?_)
            · exact ⟨p0, p1, p2, g0, g1, g2, g3, g4⟩
            clear hK K
            try simp only [Act.put, List.setIfInBounds_toArray, List.set_cons_zero, List.set_cons_succ]
            refine heldY 7 42 ?_
            refine heldY 8 50 ?_
            refine heldY 9 51 ?_
            refine heldY 10 52 ?_
            obtain ⟨d0, d1, d2⟩ := cells3 HD.out
            obtain ⟨f0, f1, f2⟩ := frozen3 HD.out
            have dl := HD.out.lt
            have na0 : w.heap.size ≠ w13.heap.size := by omega
            have nb0 : w13.heap.size ≠ w.heap.size := by omega
            have na1 : w.heap.size + 1 ≠ w13.heap.size := by omega
            have nb1 : w13.heap.size ≠ w.heap.size + 1 := by omega
            refine wpAnyH_ready (rs := [12]) (by kernel_rfl) (by simp) ?_
            refine AllReadyH.cons rfl (fun K hK => ?_) AllReadyH.nil
            go_simp
            refine hK.out _ _ ?_ (fun hHeld => ?_)
            · first | assumption | go_keep
            clear hK K
            try simp only [Act.put, List.setIfInBounds_toArray, List.set_cons_zero, List.set_cons_succ]
            refine wpAnyH_ready (rs := [13]) (by kernel_rfl) (by simp) ?_
            refine AllReadyH.cons rfl (fun K hK => ?_) AllReadyH.nil
            go_simp
            refine hK.out _ _ ?_ (fun hHeld => ?_)
            · first | assumption | go_keep
            clear hK K
            try simp only [Act.put, List.setIfInBounds_toArray, List.set_cons_zero, List.set_cons_succ]
            refine wpAnyH_ready (rs := [14]) (by kernel_rfl) (by simp) ?_
            refine AllReadyH.cons rfl (fun K hK => ?_) AllReadyH.nil
            go_simp
            refine hK.out _ _ ?_ (fun hHeld => ?_)
            · first | assumption | go_keep
            clear hK K
            try simp only [Act.put, List.setIfInBounds_toArray, List.set_cons_zero, List.set_cons_succ]
            refine wpAnyH_done (by kernel_rfl) ?_ _
            go_wp2_with fail
            go_meet
            exact ⟨_, _, _, _, hig, _, _, rfl, rfl, rfl, HG.out.heads HD.out (by omega) _ _ _, hs, HD.out.set3 _ _ _, ⟨(by have := Eg.out; omega), (by have := Eg.out; omega), (by have := Eg.out; omega), (by have := Eg.out; omega), (by have := Eg.out; omega), (by have := Eg.out; omega), (by have := Eg.out; omega)⟩, HA.out.heads (by omega) _ _ _, HQ.out.far3 (by omega) _ _ _, HPG.out.far3 (by omega) _ _ _, HW.out.heads HD.out (by omega) _ _ _, HWh.out.far3 (by omega) _ _ _, HX.out.heads HD.out (by omega) _ _ _⟩
        · go_simp
          have hd0 : Blk (World.alloc w12.drew (.cells #[.int .i64 0, .int .i64 0, .int .i64 0] 25)) (w12.heap.size) 25 #[.int .i64 0, .int .i64 0, .int .i64 0] := by have h := Blk.new w12.drew 25 #[.int .i64 0, .int .i64 0, .int .i64 0]; (try simp only [World.drew, size_alloc1] at h); exact h
          have HAx := Lib.hid HA.out
          have HQx := Lib.hid HQ.out
          have HPGx := Lib.hid HPG.out
          have HWx := Lib.hid HW.out
          have HWhx := Lib.hid HWh.out
          have HXx := Lib.hid HX.out
          replace HA := Lib.hid (HA.out.keep (grown_alloc (grown_refl _ none) (.cells #[.int .i64 0, .int .i64 0, .int .i64 0] 25)))
          replace HQ := Lib.hid (HQ.out.keep (grown_alloc (grown_refl _ none) (.cells #[.int .i64 0, .int .i64 0, .int .i64 0] 25)))
          replace HPG := Lib.hid (HPG.out.keep (grown_alloc (grown_refl _ none) (.cells #[.int .i64 0, .int .i64 0, .int .i64 0] 25)))
          replace HW := Lib.hid (HW.out.keep (grown_alloc (grown_refl _ none) (.cells #[.int .i64 0, .int .i64 0, .int .i64 0] 25)))
          replace HWh := Lib.hid (HWh.out.keep (grown_alloc (grown_refl _ none) (.cells #[.int .i64 0, .int .i64 0, .int .i64 0] 25)))
          replace HX := Lib.hid (HX.out.keep (grown_alloc (grown_refl _ none) (.cells #[.int .i64 0, .int .i64 0, .int .i64 0] 25)))
          have HD := Lib.hid hd0
          clear hd0
          clear p0 p1 p2 g0 g1 g2 g3 g4
          obtain ⟨p0, p1, p2⟩ := cells3 HQ.out
          obtain ⟨g0, g1, g2, g3, g4⟩ := cells5 HPG.out
          refine hK.out _ _ ?_ (fun hHeld => ?_)
          · exact ⟨p0, p1, p2, g0, g1, g2, g3, g4⟩
          clear hK K
          try simp only [Act.put, List.setIfInBounds_toArray, List.set_cons_zero, List.set_cons_succ]
          refine wpAnyH_ready (rs := [2]) (by kernel_rfl) (by simp) ?_
          refine AllReadyH.cons rfl (fun K hK => ?_) AllReadyH.nil
          go_simp
          go_at_call 40
          refine (toHeads_any _ _ _ _).mono ?_
          rintro e w13 ⟨rfl, hk⟩
          have hz13 := hk.size
          (try simp only [World.drew, size_alloc1] at hz13)
          replace HA := Lib.hid (HA.out.keep hk)
          replace HQ := Lib.hid (HQ.out.keep hk)
          replace HPG := Lib.hid (HPG.out.keep hk)
          replace HW := Lib.hid (HW.out.keep hk)
          replace HWh := Lib.hid (HWh.out.keep hk)
          replace HX := Lib.hid (HX.out.keep hk)
          replace HD := Lib.hid (HD.out.keep hk)
          clear hk
          clear p0 p1 p2 g0 g1 g2 g3 g4
          obtain ⟨p0, p1, p2⟩ := cells3 HQ.out
          obtain ⟨g0, g1, g2, g3, g4⟩ := cells5 HPG.out
          refine hK.out _ _ ?_ (fun hHeld => ?_)
          · exact ⟨p0, p1, p2, g0, g1, g2, g3, g4⟩
          clear hK K
          try simp only [Act.put, List.setIfInBounds_toArray, List.set_cons_zero, List.set_cons_succ]
          refine wpAnyH_ready (rs := [5]) (by kernel_rfl) (by simp) ?_
          refine AllReadyH.cons rfl (fun K hK => ?_) AllReadyH.nil
          go_simp
          go_at_call 41
          refine (toPage_any _ _ _ _ _ _).mono ?_
          rintro e w14 ⟨rfl, hk⟩
          have hz14 := hk.size
          (try simp only [World.drew, size_alloc1] at hz14)
          replace HA := Lib.hid (HA.out.keep hk)
          replace HQ := Lib.hid (HQ.out.keep hk)
          replace HPG := Lib.hid (HPG.out.keep hk)
          replace HW := Lib.hid (HW.out.keep hk)
          replace HWh := Lib.hid (HWh.out.keep hk)
          replace HX := Lib.hid (HX.out.keep hk)
          replace HD := Lib.hid (HD.out.keep hk)
          clear hk
          clear p0 p1 p2 g0 g1 g2 g3 g4
          obtain ⟨p0, p1, p2⟩ := cells3 HQ.out
          obtain ⟨g0, g1, g2, g3, g4⟩ := cells5 HPG.out
          refine hK.out _ _ ?_ (fun hHeld => ?_)
          · exact ⟨p0, p1, p2, g0, g1, g2, g3, g4⟩
          clear hK K
          try simp only [Act.put, List.setIfInBounds_toArray, List.set_cons_zero, List.set_cons_succ]
          refine wpAnyH_ready (rs := [6]) (by kernel_rfl) (by simp) ?_
          refine AllReadyH.cons rfl (fun K hK => ?_) AllReadyH.nil
          go_simp
          go_at_call 22
          refine (append_val (HI.out.of SHX.out) HX.out.2.1 HX.out.row hn (small_is SHX.out HP.out.1)).mono ?_
          rintro e w15 ⟨Ag, cg, csg, rfl, hl, hs, ho, hk⟩
          obtain ⟨log, hig, hx, qg, rg, eg⟩ : ∃ lo hi, VX w Ag n1 cg csg lo hi w15 ∧ w14.heap.size ≤ lo ∧ lo ≤ hi ∧ hi = w15.heap.size := ⟨_, _, VX.made HA.out.2 hl ho hk, by (try simp only [World.drew, size_alloc1]); exact Nat.le_refl _, hk.size, rfl⟩
          have hz15 := hk.size
          (try simp only [World.drew, size_alloc1] at hz15)
          replace HA := Lib.hid (HA.out.keep hk)
          replace HQ := Lib.hid (HQ.out.keep hk)
          replace HPG := Lib.hid (HPG.out.keep hk)
          replace HW := Lib.hid (HW.out.keep hk)
          replace HWh := Lib.hid (HWh.out.keep hk)
          replace HX := Lib.hid (HX.out.keep hk)
          replace HD := Lib.hid (HD.out.keep hk)
          have HG := Lib.hid hx
          have Eg := Lib.hid eg
          clear hk hl ho hx eg
          clear p0 p1 p2 g0 g1 g2 g3 g4
          obtain ⟨p0, p1, p2⟩ := cells3 HQ.out
          obtain ⟨g0, g1, g2, g3, g4⟩ := cells5 HPG.out
          refine hK.out _ _ ?_ (fun hHeld => ?_)
          · exact ⟨p0, p1, p2, g0, g1, g2, g3, g4⟩
          clear hK K
          try simp only [Act.put, List.setIfInBounds_toArray, List.set_cons_zero, List.set_cons_succ]
          refine heldY 7 42 ?_
          refine heldY 8 50 ?_
          refine heldY 9 51 ?_
          refine heldY 10 52 ?_
          obtain ⟨d0, d1, d2⟩ := cells3 HD.out
          obtain ⟨f0, f1, f2⟩ := frozen3 HD.out
          have dl := HD.out.lt
          have na0 : w.heap.size ≠ w12.heap.size := by omega
          have nb0 : w12.heap.size ≠ w.heap.size := by omega
          have na1 : w.heap.size + 1 ≠ w12.heap.size := by omega
          have nb1 : w12.heap.size ≠ w.heap.size + 1 := by omega
          refine wpAnyH_ready (rs := [12]) (by kernel_rfl) (by simp) ?_
          refine AllReadyH.cons rfl (fun K hK => ?_) AllReadyH.nil
          go_simp
          refine hK.out _ _ ?_ (fun hHeld => ?_)
          · first | assumption | go_keep
          clear hK K
          try simp only [Act.put, List.setIfInBounds_toArray, List.set_cons_zero, List.set_cons_succ]
          refine wpAnyH_ready (rs := [13]) (by kernel_rfl) (by simp) ?_
          refine AllReadyH.cons rfl (fun K hK => ?_) AllReadyH.nil
          go_simp
          refine hK.out _ _ ?_ (fun hHeld => ?_)
          · first | assumption | go_keep
          clear hK K
          try simp only [Act.put, List.setIfInBounds_toArray, List.set_cons_zero, List.set_cons_succ]
          refine wpAnyH_ready (rs := [14]) (by kernel_rfl) (by simp) ?_
          refine AllReadyH.cons rfl (fun K hK => ?_) AllReadyH.nil
          go_simp
          refine hK.out _ _ ?_ (fun hHeld => ?_)
          · first | assumption | go_keep
          clear hK K
          try simp only [Act.put, List.setIfInBounds_toArray, List.set_cons_zero, List.set_cons_succ]
          refine wpAnyH_done (by kernel_rfl) ?_ _
          go_wp2_with fail
          go_meet
          exact ⟨_, _, _, _, hig, _, _, rfl, rfl, rfl, HG.out.heads HD.out (by omega) _ _ _, hs, HD.out.set3 _ _ _, ⟨(by have := Eg.out; omega), (by have := Eg.out; omega), (by have := Eg.out; omega), (by have := Eg.out; omega), (by have := Eg.out; omega), (by have := Eg.out; omega), (by have := Eg.out; omega)⟩, HA.out.heads (by omega) _ _ _, HQ.out.far3 (by omega) _ _ _, HPG.out.far3 (by omega) _ _ _, HW.out.heads HD.out (by omega) _ _ _, HWh.out.far3 (by omega) _ _ _, HX.out.heads HD.out (by omega) _ _ _⟩
      case rest =>
        clear HA HQ HPG HW HWh HX
        obtain ⟨Vg, cg, log, hig, zg, Ag, csg, rfl, rfl, rfl, hx0, hs0, hb0, ⟨qag, qbg, qcg, qdg, qeg, qog, qzg⟩, hHA, hHQ, hHPG, hHW, hHWh, hHX⟩ := hcut
        have HG := Lib.hid hx0
        have SHG := Lib.hid hs0
        have HGh := Lib.hid hb0
        have HOg := Lib.hid (And.intro qog qzg)
        have HA := Lib.hid hHA
        have HQ := Lib.hid hHQ
        have HPG := Lib.hid hHPG
        have HW := Lib.hid hHW
        have HWh := Lib.hid hHWh
        have HX := Lib.hid hHX
        clear hx0 hs0 hb0 qog qzg hHA hHQ hHPG hHW hHWh hHX
        have THG := Lib.hid (show tot csg ≤ 1048576 by rw [tot_is SHG.out]; exact HT.out)
        have LHG := Lib.hid HG.out.2.1
        go_wp2_with fail
        refine (eqBlockS_same _ _ _ _ _ _ _ _ HG.out.2.1 (SHG.out.trans SHW.out.symm) HG.out.row HW.out.row (by omega) (small_tot THG.out)).mono ?_
        rintro e w23 ⟨rfl, hk⟩
        replace HA := Lib.hid (HA.out.keep hk)
        replace HQ := Lib.hid (HQ.out.keep hk)
        replace HPG := Lib.hid (HPG.out.keep hk)
        replace HW := Lib.hid (HW.out.keep hk)
        replace HWh := Lib.hid (HWh.out.keep hk)
        replace HX := Lib.hid (HX.out.keep hk)
        replace HG := Lib.hid (HG.out.keep hk)
        replace HGh := Lib.hid (HGh.out.keep hk)
        clear hk
        obtain ⟨x0, x1, x2⟩ := cells3 HGh.out
        obtain ⟨v0, v1, v2⟩ := cells3 HWh.out
        go_wp2_with fail
        clear x0 x1 x2 v0 v1 v2
        refine (eqHeads_same _ _ _ _).mono ?_
        rintro e w24 ⟨rfl, hk⟩
        replace HA := Lib.hid (HA.out.keep hk)
        replace HQ := Lib.hid (HQ.out.keep hk)
        replace HPG := Lib.hid (HPG.out.keep hk)
        replace HW := Lib.hid (HW.out.keep hk)
        replace HWh := Lib.hid (HWh.out.keep hk)
        replace HX := Lib.hid (HX.out.keep hk)
        replace HG := Lib.hid (HG.out.keep hk)
        replace HGh := Lib.hid (HGh.out.keep hk)
        clear hk
        go_wp2_with fail
        refine (toBlockS_any _ _ _ _ _ HL.out HA.out.row hn HP.out.1).mono ?_
        rintro e w25 ⟨A6, c6, cs6, rfl, hl, hs, ho, hk⟩
        replace HA := Lib.hid (HA.out.keep hk)
        replace HQ := Lib.hid (HQ.out.keep hk)
        replace HPG := Lib.hid (HPG.out.keep hk)
        replace HW := Lib.hid (HW.out.keep hk)
        replace HWh := Lib.hid (HWh.out.keep hk)
        replace HX := Lib.hid (HX.out.keep hk)
        replace HG := Lib.hid (HG.out.keep hk)
        replace HGh := Lib.hid (HGh.out.keep hk)
        have HR6 := Lib.hid (And.intro hl (And.intro hs ho.row))
        clear hk hl hs ho
        go_wp2_with fail
        refine (eqBlockS_same _ _ _ _ _ _ _ _ HX.out.2.1 (SHX.out.trans HR6.out.2.1.symm) HX.out.row HR6.out.2.2 hn (small_is SHX.out HP.out.1)).mono ?_
        rintro e w26 ⟨rfl, hk⟩
        replace HA := Lib.hid (HA.out.keep hk)
        replace HQ := Lib.hid (HQ.out.keep hk)
        replace HPG := Lib.hid (HPG.out.keep hk)
        replace HW := Lib.hid (HW.out.keep hk)
        replace HWh := Lib.hid (HWh.out.keep hk)
        replace HX := Lib.hid (HX.out.keep hk)
        replace HG := Lib.hid (HG.out.keep hk)
        replace HGh := Lib.hid (HGh.out.keep hk)
        clear hk
        go_wp2_with fail
        obtain ⟨vX, hvX⟩ : ∃ v : Int, v = ((endK 1 cs3 : Nat) : Int) := ⟨_, rfl⟩
        have tX : decide (vX < 0) = false := decide_eq_false (by omega)
        have HVX := Lib.hid hvX
        clear hvX
        refine (markBlockS_val HVX.out HX.out (by omega) THX.out).mono ?_
        rintro e w27 ⟨rfl, ho, hk⟩
        have hxlo := HX.out.2.2.2.2.2.1
        replace HA := Lib.hid (HA.out.marked hxlo hk)
        replace HQ := Lib.hid (HQ.out.out hk (by have := HOu.out.1; have := HOg.out.1; omega))
        replace HPG := Lib.hid (HPG.out.out hk (by have := HOu.out.1; have := HOg.out.1; omega))
        replace HW := Lib.hid (HW.out.marked (by omega) hxlo hk)
        replace HWh := Lib.hid (HWh.out.out hk (by have := HOu.out.1; have := HOg.out.1; omega))
        replace HG := Lib.hid (HG.out.marked (by omega) hxlo hk)
        replace HGh := Lib.hid (HGh.out.out hk (by have := HOu.out.1; have := HOg.out.1; omega))
        replace HX := Lib.hid (HX.out.self ho hk)
        clear ho hk hxlo
        go_wp2_with fail
        refine (eqBlockS_same _ _ _ _ _ _ _ _ HG.out.2.1 (SHG.out.trans SHW.out.symm) HG.out.row HW.out.row (by omega) (small_tot THG.out)).mono ?_
        rintro e w28 ⟨rfl, hk⟩
        replace HA := Lib.hid (HA.out.keep hk)
        replace HQ := Lib.hid (HQ.out.keep hk)
        replace HPG := Lib.hid (HPG.out.keep hk)
        replace HW := Lib.hid (HW.out.keep hk)
        replace HWh := Lib.hid (HWh.out.keep hk)
        replace HX := Lib.hid (HX.out.keep hk)
        replace HG := Lib.hid (HG.out.keep hk)
        replace HGh := Lib.hid (HGh.out.keep hk)
        clear hk
        obtain ⟨x0, x1, x2⟩ := cells3 HGh.out
        obtain ⟨v0, v1, v2⟩ := cells3 HWh.out
        go_wp2_with fail
        clear x0 x1 x2 v0 v1 v2
        refine (eqHeads_same _ _ _ _).mono ?_
        rintro e w29 ⟨rfl, hk⟩
        replace HA := Lib.hid (HA.out.keep hk)
        replace HQ := Lib.hid (HQ.out.keep hk)
        replace HPG := Lib.hid (HPG.out.keep hk)
        replace HW := Lib.hid (HW.out.keep hk)
        replace HWh := Lib.hid (HWh.out.keep hk)
        replace HX := Lib.hid (HX.out.keep hk)
        replace HG := Lib.hid (HG.out.keep hk)
        replace HGh := Lib.hid (HGh.out.keep hk)
        clear hk
        go_wp2_with fail
        obtain ⟨vG, hvG⟩ : ∃ v : Int, v = ((endK 1 csg : Nat) : Int) := ⟨_, rfl⟩
        have tG : decide (vG < 0) = false := decide_eq_false (by omega)
        have HVG := Lib.hid hvG
        clear hvG
        refine (markBlockS_val HVG.out HG.out (by omega) THG.out).mono ?_
        rintro e w30 ⟨rfl, ho, hk⟩
        have hxlo := HG.out.2.2.2.2.2.1
        replace HA := Lib.hid (HA.out.marked hxlo hk)
        replace HQ := Lib.hid (HQ.out.out hk (by have := HOu.out.1; have := HOg.out.1; omega))
        replace HPG := Lib.hid (HPG.out.out hk (by have := HOu.out.1; have := HOg.out.1; omega))
        replace HW := Lib.hid (HW.out.marked (by omega) hxlo hk)
        replace HWh := Lib.hid (HWh.out.out hk (by have := HOu.out.1; have := HOg.out.1; omega))
        replace HX := Lib.hid (HX.out.marked (by omega) hxlo hk)
        replace HGh := Lib.hid (HGh.out.out hk (by have := HOu.out.1; have := HOg.out.1; omega))
        replace HG := Lib.hid (HG.out.self ho hk)
        clear ho hk hxlo
        go_wp2_with fail
        refine (heldBlockS_val HVG.out LHG.out HG.out (by omega) THG.out).mono ?_
        rintro e w31 ⟨rfl, rfl⟩
        go_upto_region 24 with fail
        go_cut [20, 21, 22] (fun sd sp sr wx24 => ∃ (Vh ch loh hih zh : Nat) (Ah : Option Addr) (csh : List Bk), sd = .slice Ah n1 ch ∧ sp = .pointer (some ⟨Vh, 0, none⟩) ∧ sr = .int .i64 r ∧ VX w Ah n1 ch csh loh hih wx24 ∧ csh.map Bk.is = l1 ∧ Blk wx24 Vh 25 #[.int .i64 y1, .int .i64 y2, .int .i64 y3] ∧ (zg ≤ loh ∧ zg ≤ Vh ∧ loh ≤ hih ∧ hih ≤ zh ∧ Vh < zh ∧ (Vh < loh ∨ hih ≤ Vh) ∧ (zh = hih ∨ zh = Vh + 1)) ∧ VD w a0 b0 wx24 ∧ Blk wx24 (w.heap.size) 52 #[.int .i64 a1f0, .int .i64 a1f1, .int .i64 a1f2] ∧ Blk wx24 (w.heap.size + 1) 55 #[.bool a3f0, .int .i64 a3f1, .int .i64 a3f2, .int .i64 a3f3, .int .i64 a3f4] ∧ VX w Au n1 cu csu lou hiu wx24 ∧ Blk wx24 (Vu) 25 #[.int .i64 y1, .int .i64 y2, .int .i64 y3] ∧ VX w A3 n0 c3 (markL 1 cs3) loHX hiHX wx24 ∧ VX w Ag n1 cg (markL 1 csg) log hig wx24 ∧ Blk wx24 (Vg) 25 #[.int .i64 y1, .int .i64 y2, .int .i64 y3])
        case first =>
          have hzp : zg ≤ w30.heap.size := (by have e1 := HG.out.2.2.2.2.1; have e2 := HGh.out.lt; have e3 := HOg.out.2; omega)
          obtain ⟨p0, p1, p2⟩ := cells3 HQ.out
          obtain ⟨g0, g1, g2, g3, g4⟩ := cells5 HPG.out
          refine wp_region_held_drew (S := (fun w' => w'.cell? ⟨w.heap.size, 0, none⟩ = some (.int .i64 a1f0) ∧ w'.cell? ⟨w.heap.size, 1, none⟩ = some (.int .i64 a1f1) ∧ w'.cell? ⟨w.heap.size, 2, none⟩ = some (.int .i64 a1f2) ∧ w'.cell? ⟨w.heap.size + 1, 0, none⟩ = some (.bool a3f0) ∧ w'.cell? ⟨w.heap.size + 1, 1, none⟩ = some (.int .i64 a3f1) ∧ w'.cell? ⟨w.heap.size + 1, 2, none⟩ = some (.int .i64 a3f2) ∧ w'.cell? ⟨w.heap.size + 1, 3, none⟩ = some (.int .i64 a3f3) ∧ w'.cell? ⟨w.heap.size + 1, 4, none⟩ = some (.int .i64 a3f4))) (by kernel_rfl) ?_ (fun hHeld => ?_)
          · exact ⟨p0, p1, p2, g0, g1, g2, g3, g4⟩
          replace HA := Lib.hid (HA.out.keep (grown_drew (grown_refl _ none)))
          replace HQ := Lib.hid (HQ.out.keep (grown_drew (grown_refl _ none)))
          replace HPG := Lib.hid (HPG.out.keep (grown_drew (grown_refl _ none)))
          replace HW := Lib.hid (HW.out.keep (grown_drew (grown_refl _ none)))
          replace HWh := Lib.hid (HWh.out.keep (grown_drew (grown_refl _ none)))
          replace HX := Lib.hid (HX.out.keep (grown_drew (grown_refl _ none)))
          replace HG := Lib.hid (HG.out.keep (grown_drew (grown_refl _ none)))
          replace HGh := Lib.hid (HGh.out.keep (grown_drew (grown_refl _ none)))
          refine heldY 0 107 ?_
          refine heldY 2 109 ?_
          refine heldY 4 111 ?_
          refine heldY 5 112 ?_
          refine wpAnyH_ready (rs := [1, 12]) (by kernel_rfl) (by simp) ?_
          refine AllReadyH.cons rfl (fun K hK => ?_) (AllReadyH.cons rfl (fun K hK => ?_) AllReadyH.nil)
          · go_simp
            go_at_call 38
            refine (toBlockS_any _ _ _ _ _ HL.out HA.out.row hn HP.out.1).mono ?_
            rintro e w32 ⟨Ah, ch, csh, rfl, hl, hs, ho, hk⟩
            have hz32 := hk.size
            (try simp only [World.drew, size_alloc1] at hz32)
            replace HA := Lib.hid (HA.out.keep hk)
            replace HQ := Lib.hid (HQ.out.keep hk)
            replace HPG := Lib.hid (HPG.out.keep hk)
            replace HW := Lib.hid (HW.out.keep hk)
            replace HWh := Lib.hid (HWh.out.keep hk)
            replace HX := Lib.hid (HX.out.keep hk)
            replace HG := Lib.hid (HG.out.keep hk)
            replace HGh := Lib.hid (HGh.out.keep hk)
            have HRh := Lib.hid (And.intro hl (And.intro hs ho.row))
            clear hk hl hs ho
            clear p0 p1 p2 g0 g1 g2 g3 g4
            obtain ⟨p0, p1, p2⟩ := cells3 HQ.out
            obtain ⟨g0, g1, g2, g3, g4⟩ := cells5 HPG.out
            refine hK.out _ _ ?_ (fun hHeld => ?_)
            · exact ⟨p0, p1, p2, g0, g1, g2, g3, g4⟩
            clear hK K
            try simp only [Act.put, List.setIfInBounds_toArray, List.set_cons_zero, List.set_cons_succ]
            refine wpAnyH_ready (rs := [3, 12]) (by kernel_rfl) (by simp) ?_
            refine AllReadyH.cons rfl (fun K hK => ?_) (AllReadyH.cons rfl (fun K hK => ?_) AllReadyH.nil)
            · go_simp
              go_at_call 40
              refine (toHeads_any _ _ _ _).mono ?_
              rintro e w33 ⟨rfl, hk⟩
              have hz33 := hk.size
              (try simp only [World.drew, size_alloc1] at hz33)
              replace HA := Lib.hid (HA.out.keep hk)
              replace HQ := Lib.hid (HQ.out.keep hk)
              replace HPG := Lib.hid (HPG.out.keep hk)
              replace HW := Lib.hid (HW.out.keep hk)
              replace HWh := Lib.hid (HWh.out.keep hk)
              replace HX := Lib.hid (HX.out.keep hk)
              replace HG := Lib.hid (HG.out.keep hk)
              replace HGh := Lib.hid (HGh.out.keep hk)
              replace HRh := Lib.hid (And.intro HRh.out.1 (And.intro HRh.out.2.1 (HRh.out.2.2.kept hk).here))
              clear hk
              clear p0 p1 p2 g0 g1 g2 g3 g4
              obtain ⟨p0, p1, p2⟩ := cells3 HQ.out
              obtain ⟨g0, g1, g2, g3, g4⟩ := cells5 HPG.out
              refine hK.out _ _ ?_ (fun hHeld => ?_)
              · exact ⟨p0, p1, p2, g0, g1, g2, g3, g4⟩
              clear hK K
              try simp only [Act.put, List.setIfInBounds_toArray, List.set_cons_zero, List.set_cons_succ]
              refine wpAnyH_ready (rs := [6, 12]) (by kernel_rfl) (by simp) ?_
              refine AllReadyH.cons rfl (fun K hK => ?_) (AllReadyH.cons rfl (fun K hK => ?_) AllReadyH.nil)
              · go_simp
                go_at_call 41
                refine (toPage_any _ _ _ _ _ _).mono ?_
                rintro e w34 ⟨rfl, hk⟩
                have hz34 := hk.size
                (try simp only [World.drew, size_alloc1] at hz34)
                replace HA := Lib.hid (HA.out.keep hk)
                replace HQ := Lib.hid (HQ.out.keep hk)
                replace HPG := Lib.hid (HPG.out.keep hk)
                replace HW := Lib.hid (HW.out.keep hk)
                replace HWh := Lib.hid (HWh.out.keep hk)
                replace HX := Lib.hid (HX.out.keep hk)
                replace HG := Lib.hid (HG.out.keep hk)
                replace HGh := Lib.hid (HGh.out.keep hk)
                replace HRh := Lib.hid (And.intro HRh.out.1 (And.intro HRh.out.2.1 (HRh.out.2.2.kept hk).here))
                clear hk
                clear p0 p1 p2 g0 g1 g2 g3 g4
                obtain ⟨p0, p1, p2⟩ := cells3 HQ.out
                obtain ⟨g0, g1, g2, g3, g4⟩ := cells5 HPG.out
                refine hK.out _ _ ?_ (fun hHeld => ?_)
                · exact ⟨p0, p1, p2, g0, g1, g2, g3, g4⟩
                clear hK K
                try simp only [Act.put, List.setIfInBounds_toArray, List.set_cons_zero, List.set_cons_succ]
                refine wpAnyH_ready (rs := [7, 12]) (by kernel_rfl) (by simp) ?_
                refine AllReadyH.cons rfl (fun K hK => ?_) (AllReadyH.cons rfl (fun K hK => ?_) AllReadyH.nil)
                · go_simp
                  go_at_call 22
                  refine (append_val (HI.out.of HRh.out.2.1) HRh.out.1 HRh.out.2.2 hn (small_is HRh.out.2.1 HP.out.1)).mono ?_
                  rintro e w35 ⟨Ah, ch, csh, rfl, hl, hs, ho, hk⟩
                  obtain ⟨loh, hih, hx, qh, rh, eh⟩ : ∃ lo hi, VX w Ah n1 ch csh lo hi w35 ∧ w34.heap.size ≤ lo ∧ lo ≤ hi ∧ hi = w35.heap.size := ⟨_, _, VX.made HA.out.2 hl ho hk, by (try simp only [World.drew, size_alloc1]); exact Nat.le_refl _, hk.size, rfl⟩
                  have hz35 := hk.size
                  (try simp only [World.drew, size_alloc1] at hz35)
                  replace HA := Lib.hid (HA.out.keep hk)
                  replace HQ := Lib.hid (HQ.out.keep hk)
                  replace HPG := Lib.hid (HPG.out.keep hk)
                  replace HW := Lib.hid (HW.out.keep hk)
                  replace HWh := Lib.hid (HWh.out.keep hk)
                  replace HX := Lib.hid (HX.out.keep hk)
                  replace HG := Lib.hid (HG.out.keep hk)
                  replace HGh := Lib.hid (HGh.out.keep hk)
                  replace HRh := Lib.hid (And.intro HRh.out.1 (And.intro HRh.out.2.1 (HRh.out.2.2.kept hk).here))
                  have HH := Lib.hid hx
                  have Eh := Lib.hid eh
                  clear hk hl ho hx eh
                  clear p0 p1 p2 g0 g1 g2 g3 g4
                  obtain ⟨p0, p1, p2⟩ := cells3 HQ.out
                  obtain ⟨g0, g1, g2, g3, g4⟩ := cells5 HPG.out
                  refine hK.out _ _ ?_ (fun hHeld => ?_)
                  · exact ⟨p0, p1, p2, g0, g1, g2, g3, g4⟩
                  clear hK K
                  try simp only [Act.put, List.setIfInBounds_toArray, List.set_cons_zero, List.set_cons_succ]
                  refine heldY 8 106 ?_
                  refine heldY 9 115 ?_
                  refine heldY 10 116 ?_
                  refine heldY 11 117 ?_
                  refine wpAnyH_ready (rs := [12]) (by kernel_rfl) (by simp) ?_
                  refine AllReadyH.cons rfl (fun K hK => ?_) AllReadyH.nil
                  go_simp
                  have hd0 : Blk (World.alloc w35 (.cells #[.int .i64 0, .int .i64 0, .int .i64 0] 25)) (w35.heap.size) 25 #[.int .i64 0, .int .i64 0, .int .i64 0] := by have h := Blk.new w35 25 #[.int .i64 0, .int .i64 0, .int .i64 0]; (try simp only [World.drew, size_alloc1] at h); exact h
                  have HAx := Lib.hid HA.out
                  have HQx := Lib.hid HQ.out
                  have HPGx := Lib.hid HPG.out
                  have HWx := Lib.hid HW.out
                  have HWhx := Lib.hid HWh.out
                  have HXx := Lib.hid HX.out
                  have HGx := Lib.hid HG.out
                  have HGhx := Lib.hid HGh.out
                  have HHx := Lib.hid HH.out
                  replace HA := Lib.hid (HA.out.keep (grown_alloc (grown_refl _ none) (.cells #[.int .i64 0, .int .i64 0, .int .i64 0] 25)))
                  replace HQ := Lib.hid (HQ.out.keep (grown_alloc (grown_refl _ none) (.cells #[.int .i64 0, .int .i64 0, .int .i64 0] 25)))
                  replace HPG := Lib.hid (HPG.out.keep (grown_alloc (grown_refl _ none) (.cells #[.int .i64 0, .int .i64 0, .int .i64 0] 25)))
                  replace HW := Lib.hid (HW.out.keep (grown_alloc (grown_refl _ none) (.cells #[.int .i64 0, .int .i64 0, .int .i64 0] 25)))
                  replace HWh := Lib.hid (HWh.out.keep (grown_alloc (grown_refl _ none) (.cells #[.int .i64 0, .int .i64 0, .int .i64 0] 25)))
                  replace HX := Lib.hid (HX.out.keep (grown_alloc (grown_refl _ none) (.cells #[.int .i64 0, .int .i64 0, .int .i64 0] 25)))
                  replace HG := Lib.hid (HG.out.keep (grown_alloc (grown_refl _ none) (.cells #[.int .i64 0, .int .i64 0, .int .i64 0] 25)))
                  replace HGh := Lib.hid (HGh.out.keep (grown_alloc (grown_refl _ none) (.cells #[.int .i64 0, .int .i64 0, .int .i64 0] 25)))
                  replace HH := Lib.hid (HH.out.keep (grown_alloc (grown_refl _ none) (.cells #[.int .i64 0, .int .i64 0, .int .i64 0] 25)))
                  replace HRh := Lib.hid (And.intro HRh.out.1 (And.intro HRh.out.2.1 (HRh.out.2.2.alloc (.cells #[.int .i64 0, .int .i64 0, .int .i64 0] 25)).here))
                  have HD := Lib.hid hd0
                  clear hd0
                  clear p0 p1 p2 g0 g1 g2 g3 g4
                  obtain ⟨p0, p1, p2⟩ := cells3 HQ.out
                  obtain ⟨g0, g1, g2, g3, g4⟩ := cells5 HPG.out
                  refine hK.out _ _ ?_ (fun hHeld => ?_)
                  · exact ⟨p0, p1, p2, g0, g1, g2, g3, g4⟩
                  clear hK K
                  try simp only [Act.put, List.setIfInBounds_toArray, List.set_cons_zero, List.set_cons_succ]
                  obtain ⟨d0, d1, d2⟩ := cells3 HD.out
                  obtain ⟨f0, f1, f2⟩ := frozen3 HD.out
                  have dl := HD.out.lt
                  have na0 : w.heap.size ≠ w35.heap.size := by omega
                  have nb0 : w35.heap.size ≠ w.heap.size := by omega
                  have na1 : w.heap.size + 1 ≠ w35.heap.size := by omega
                  have nb1 : w35.heap.size ≠ w.heap.size + 1 := by omega
                  refine wpAnyH_ready (rs := [13]) (by kernel_rfl) (by simp) ?_
                  refine AllReadyH.cons rfl (fun K hK => ?_) AllReadyH.nil
                  go_simp
                  refine hK.out _ _ ?_ (fun hHeld => ?_)
                  · first | assumption | go_keep
                  clear hK K
                  try simp only [Act.put, List.setIfInBounds_toArray, List.set_cons_zero, List.set_cons_succ]
                  refine wpAnyH_ready (rs := [14]) (by kernel_rfl) (by simp) ?_
                  refine AllReadyH.cons rfl (fun K hK => ?_) AllReadyH.nil
                  go_simp
                  refine hK.out _ _ ?_ (fun hHeld => ?_)
                  · first | assumption | go_keep
                  clear hK K
                  try simp only [Act.put, List.setIfInBounds_toArray, List.set_cons_zero, List.set_cons_succ]
                  refine wpAnyH_ready (rs := [15]) (by kernel_rfl) (by simp) ?_
                  refine AllReadyH.cons rfl (fun K hK => ?_) AllReadyH.nil
                  go_simp
                  refine hK.out _ _ ?_ (fun hHeld => ?_)
                  · first | assumption | go_keep
                  clear hK K
                  try simp only [Act.put, List.setIfInBounds_toArray, List.set_cons_zero, List.set_cons_succ]
                  refine wpAnyH_done (by kernel_rfl) ?_ _
                  go_wp2_with fail
                  go_meet
                  exact ⟨_, _, _, _, w35.heap.size + 1, _, _, rfl, rfl, rfl, HHx.out.keep (grown_alloc (grown_refl _ none) _), hs, Blk.new _ _ _, ⟨(by have := Eh.out; omega), (by have := Eh.out; omega), (by have := Eh.out; omega), (by have := Eh.out; omega), (by have := Eh.out; omega), (by have := Eh.out; omega), (by have := Eh.out; omega)⟩, HAx.out.keep (grown_alloc (grown_refl _ none) _), HQx.out.keep (grown_alloc (grown_refl _ none) _), HPGx.out.keep (grown_alloc (grown_refl _ none) _), HWx.out.keep (grown_alloc (grown_refl _ none) _), HWhx.out.keep (grown_alloc (grown_refl _ none) _), HXx.out.keep (grown_alloc (grown_refl _ none) _), HGx.out.keep (grown_alloc (grown_refl _ none) _), HGhx.out.keep (grown_alloc (grown_refl _ none) _)⟩
                · go_simp
                  have hd0 : Blk (World.alloc w34 (.cells #[.int .i64 0, .int .i64 0, .int .i64 0] 25)) (w34.heap.size) 25 #[.int .i64 0, .int .i64 0, .int .i64 0] := by have h := Blk.new w34 25 #[.int .i64 0, .int .i64 0, .int .i64 0]; (try simp only [World.drew, size_alloc1] at h); exact h
                  have HAx := Lib.hid HA.out
                  have HQx := Lib.hid HQ.out
                  have HPGx := Lib.hid HPG.out
                  have HWx := Lib.hid HW.out
                  have HWhx := Lib.hid HWh.out
                  have HXx := Lib.hid HX.out
                  have HGx := Lib.hid HG.out
                  have HGhx := Lib.hid HGh.out
                  replace HA := Lib.hid (HA.out.keep (grown_alloc (grown_refl _ none) (.cells #[.int .i64 0, .int .i64 0, .int .i64 0] 25)))
                  replace HQ := Lib.hid (HQ.out.keep (grown_alloc (grown_refl _ none) (.cells #[.int .i64 0, .int .i64 0, .int .i64 0] 25)))
                  replace HPG := Lib.hid (HPG.out.keep (grown_alloc (grown_refl _ none) (.cells #[.int .i64 0, .int .i64 0, .int .i64 0] 25)))
                  replace HW := Lib.hid (HW.out.keep (grown_alloc (grown_refl _ none) (.cells #[.int .i64 0, .int .i64 0, .int .i64 0] 25)))
                  replace HWh := Lib.hid (HWh.out.keep (grown_alloc (grown_refl _ none) (.cells #[.int .i64 0, .int .i64 0, .int .i64 0] 25)))
                  replace HX := Lib.hid (HX.out.keep (grown_alloc (grown_refl _ none) (.cells #[.int .i64 0, .int .i64 0, .int .i64 0] 25)))
                  replace HG := Lib.hid (HG.out.keep (grown_alloc (grown_refl _ none) (.cells #[.int .i64 0, .int .i64 0, .int .i64 0] 25)))
                  replace HGh := Lib.hid (HGh.out.keep (grown_alloc (grown_refl _ none) (.cells #[.int .i64 0, .int .i64 0, .int .i64 0] 25)))
                  replace HRh := Lib.hid (And.intro HRh.out.1 (And.intro HRh.out.2.1 (HRh.out.2.2.alloc (.cells #[.int .i64 0, .int .i64 0, .int .i64 0] 25)).here))
                  have HD := Lib.hid hd0
                  clear hd0
                  clear p0 p1 p2 g0 g1 g2 g3 g4
                  obtain ⟨p0, p1, p2⟩ := cells3 HQ.out
                  obtain ⟨g0, g1, g2, g3, g4⟩ := cells5 HPG.out
                  refine hK.out _ _ ?_ (fun hHeld => ?_)
                  · exact ⟨p0, p1, p2, g0, g1, g2, g3, g4⟩
                  clear hK K
                  try simp only [Act.put, List.setIfInBounds_toArray, List.set_cons_zero, List.set_cons_succ]
                  refine wpAnyH_ready (rs := [7]) (by kernel_rfl) (by simp) ?_
                  refine AllReadyH.cons rfl (fun K hK => ?_) AllReadyH.nil
                  go_simp
                  go_at_call 22
                  refine (append_val (HI.out.of HRh.out.2.1) HRh.out.1 HRh.out.2.2 hn (small_is HRh.out.2.1 HP.out.1)).mono ?_
                  rintro e w35 ⟨Ah, ch, csh, rfl, hl, hs, ho, hk⟩
                  obtain ⟨loh, hih, hx, qh, rh, eh⟩ : ∃ lo hi, VX w Ah n1 ch csh lo hi w35 ∧ w34.heap.size + 1 ≤ lo ∧ lo ≤ hi ∧ hi = w35.heap.size := ⟨_, _, VX.made HA.out.2 hl ho hk, by (try simp only [World.drew, size_alloc1]); exact Nat.le_refl _, hk.size, rfl⟩
                  have hz35 := hk.size
                  (try simp only [World.drew, size_alloc1] at hz35)
                  replace HA := Lib.hid (HA.out.keep hk)
                  replace HQ := Lib.hid (HQ.out.keep hk)
                  replace HPG := Lib.hid (HPG.out.keep hk)
                  replace HW := Lib.hid (HW.out.keep hk)
                  replace HWh := Lib.hid (HWh.out.keep hk)
                  replace HX := Lib.hid (HX.out.keep hk)
                  replace HG := Lib.hid (HG.out.keep hk)
                  replace HGh := Lib.hid (HGh.out.keep hk)
                  replace HD := Lib.hid (HD.out.keep hk)
                  replace HRh := Lib.hid (And.intro HRh.out.1 (And.intro HRh.out.2.1 (HRh.out.2.2.kept hk).here))
                  have HH := Lib.hid hx
                  have Eh := Lib.hid eh
                  clear hk hl ho hx eh
                  clear p0 p1 p2 g0 g1 g2 g3 g4
                  obtain ⟨p0, p1, p2⟩ := cells3 HQ.out
                  obtain ⟨g0, g1, g2, g3, g4⟩ := cells5 HPG.out
                  refine hK.out _ _ ?_ (fun hHeld => ?_)
                  · exact ⟨p0, p1, p2, g0, g1, g2, g3, g4⟩
                  clear hK K
                  try simp only [Act.put, List.setIfInBounds_toArray, List.set_cons_zero, List.set_cons_succ]
                  refine heldY 8 106 ?_
                  refine heldY 9 115 ?_
                  refine heldY 10 116 ?_
                  refine heldY 11 117 ?_
                  obtain ⟨d0, d1, d2⟩ := cells3 HD.out
                  obtain ⟨f0, f1, f2⟩ := frozen3 HD.out
                  have dl := HD.out.lt
                  have na0 : w.heap.size ≠ w34.heap.size := by omega
                  have nb0 : w34.heap.size ≠ w.heap.size := by omega
                  have na1 : w.heap.size + 1 ≠ w34.heap.size := by omega
                  have nb1 : w34.heap.size ≠ w.heap.size + 1 := by omega
                  refine wpAnyH_ready (rs := [13]) (by kernel_rfl) (by simp) ?_
                  refine AllReadyH.cons rfl (fun K hK => ?_) AllReadyH.nil
                  go_simp
                  refine hK.out _ _ ?_ (fun hHeld => ?_)
                  · first | assumption | go_keep
                  clear hK K
                  try simp only [Act.put, List.setIfInBounds_toArray, List.set_cons_zero, List.set_cons_succ]
                  refine wpAnyH_ready (rs := [14]) (by kernel_rfl) (by simp) ?_
                  refine AllReadyH.cons rfl (fun K hK => ?_) AllReadyH.nil
                  go_simp
                  refine hK.out _ _ ?_ (fun hHeld => ?_)
                  · first | assumption | go_keep
                  clear hK K
                  try simp only [Act.put, List.setIfInBounds_toArray, List.set_cons_zero, List.set_cons_succ]
                  refine wpAnyH_ready (rs := [15]) (by kernel_rfl) (by simp) ?_
                  refine AllReadyH.cons rfl (fun K hK => ?_) AllReadyH.nil
                  go_simp
                  refine hK.out _ _ ?_ (fun hHeld => ?_)
                  · first | assumption | go_keep
                  clear hK K
                  try simp only [Act.put, List.setIfInBounds_toArray, List.set_cons_zero, List.set_cons_succ]
                  refine wpAnyH_done (by kernel_rfl) ?_ _
                  go_wp2_with fail
                  go_meet
                  exact ⟨_, _, _, _, hih, _, _, rfl, rfl, rfl, HH.out.heads HD.out (by omega) _ _ _, hs, HD.out.set3 _ _ _, ⟨(by have := Eh.out; omega), (by have := Eh.out; omega), (by have := Eh.out; omega), (by have := Eh.out; omega), (by have := Eh.out; omega), (by have := Eh.out; omega), (by have := Eh.out; omega)⟩, HA.out.heads (by omega) _ _ _, HQ.out.far3 (by omega) _ _ _, HPG.out.far3 (by omega) _ _ _, HW.out.heads HD.out (by omega) _ _ _, HWh.out.far3 (by omega) _ _ _, HX.out.heads HD.out (by omega) _ _ _, HG.out.heads HD.out (by omega) _ _ _, HGh.out.far3 (by omega) _ _ _⟩
              · go_simp
                have hd0 : Blk (World.alloc w33 (.cells #[.int .i64 0, .int .i64 0, .int .i64 0] 25)) (w33.heap.size) 25 #[.int .i64 0, .int .i64 0, .int .i64 0] := by have h := Blk.new w33 25 #[.int .i64 0, .int .i64 0, .int .i64 0]; (try simp only [World.drew, size_alloc1] at h); exact h
                have HAx := Lib.hid HA.out
                have HQx := Lib.hid HQ.out
                have HPGx := Lib.hid HPG.out
                have HWx := Lib.hid HW.out
                have HWhx := Lib.hid HWh.out
                have HXx := Lib.hid HX.out
                have HGx := Lib.hid HG.out
                have HGhx := Lib.hid HGh.out
                replace HA := Lib.hid (HA.out.keep (grown_alloc (grown_refl _ none) (.cells #[.int .i64 0, .int .i64 0, .int .i64 0] 25)))
                replace HQ := Lib.hid (HQ.out.keep (grown_alloc (grown_refl _ none) (.cells #[.int .i64 0, .int .i64 0, .int .i64 0] 25)))
                replace HPG := Lib.hid (HPG.out.keep (grown_alloc (grown_refl _ none) (.cells #[.int .i64 0, .int .i64 0, .int .i64 0] 25)))
                replace HW := Lib.hid (HW.out.keep (grown_alloc (grown_refl _ none) (.cells #[.int .i64 0, .int .i64 0, .int .i64 0] 25)))
                replace HWh := Lib.hid (HWh.out.keep (grown_alloc (grown_refl _ none) (.cells #[.int .i64 0, .int .i64 0, .int .i64 0] 25)))
                replace HX := Lib.hid (HX.out.keep (grown_alloc (grown_refl _ none) (.cells #[.int .i64 0, .int .i64 0, .int .i64 0] 25)))
                replace HG := Lib.hid (HG.out.keep (grown_alloc (grown_refl _ none) (.cells #[.int .i64 0, .int .i64 0, .int .i64 0] 25)))
                replace HGh := Lib.hid (HGh.out.keep (grown_alloc (grown_refl _ none) (.cells #[.int .i64 0, .int .i64 0, .int .i64 0] 25)))
                replace HRh := Lib.hid (And.intro HRh.out.1 (And.intro HRh.out.2.1 (HRh.out.2.2.alloc (.cells #[.int .i64 0, .int .i64 0, .int .i64 0] 25)).here))
                have HD := Lib.hid hd0
                clear hd0
                clear p0 p1 p2 g0 g1 g2 g3 g4
                obtain ⟨p0, p1, p2⟩ := cells3 HQ.out
                obtain ⟨g0, g1, g2, g3, g4⟩ := cells5 HPG.out
                refine hK.out _ _ ?_ (fun hHeld => ?_)
                · exact ⟨p0, p1, p2, g0, g1, g2, g3, g4⟩
                clear hK K
                try simp only [Act.put, List.setIfInBounds_toArray, List.set_cons_zero, List.set_cons_succ]
                refine wpAnyH_ready (rs := [6]) (by kernel_rfl) (by simp) ?_
                refine AllReadyH.cons rfl (fun K hK => ?_) AllReadyH.nil
                go_simp
                go_at_call 41
                refine (toPage_any _ _ _ _ _ _).mono ?_
                rintro e w34 ⟨rfl, hk⟩
                have hz34 := hk.size
                (try simp only [World.drew, size_alloc1] at hz34)
                replace HA := Lib.hid (HA.out.keep hk)
                replace HQ := Lib.hid (HQ.out.keep hk)
                replace HPG := Lib.hid (HPG.out.keep hk)
                replace HW := Lib.hid (HW.out.keep hk)
                replace HWh := Lib.hid (HWh.out.keep hk)
                replace HX := Lib.hid (HX.out.keep hk)
                replace HG := Lib.hid (HG.out.keep hk)
                replace HGh := Lib.hid (HGh.out.keep hk)
                replace HD := Lib.hid (HD.out.keep hk)
                replace HRh := Lib.hid (And.intro HRh.out.1 (And.intro HRh.out.2.1 (HRh.out.2.2.kept hk).here))
                clear hk
                clear p0 p1 p2 g0 g1 g2 g3 g4
                obtain ⟨p0, p1, p2⟩ := cells3 HQ.out
                obtain ⟨g0, g1, g2, g3, g4⟩ := cells5 HPG.out
                refine hK.out _ _ ?_ (fun hHeld => ?_)
                · exact ⟨p0, p1, p2, g0, g1, g2, g3, g4⟩
                clear hK K
                try simp only [Act.put, List.setIfInBounds_toArray, List.set_cons_zero, List.set_cons_succ]
                refine wpAnyH_ready (rs := [7]) (by kernel_rfl) (by simp) ?_
                refine AllReadyH.cons rfl (fun K hK => ?_) AllReadyH.nil
                go_simp
                go_at_call 22
                refine (append_val (HI.out.of HRh.out.2.1) HRh.out.1 HRh.out.2.2 hn (small_is HRh.out.2.1 HP.out.1)).mono ?_
                rintro e w35 ⟨Ah, ch, csh, rfl, hl, hs, ho, hk⟩
                obtain ⟨loh, hih, hx, qh, rh, eh⟩ : ∃ lo hi, VX w Ah n1 ch csh lo hi w35 ∧ w34.heap.size ≤ lo ∧ lo ≤ hi ∧ hi = w35.heap.size := ⟨_, _, VX.made HA.out.2 hl ho hk, by (try simp only [World.drew, size_alloc1]); exact Nat.le_refl _, hk.size, rfl⟩
                have hz35 := hk.size
                (try simp only [World.drew, size_alloc1] at hz35)
                replace HA := Lib.hid (HA.out.keep hk)
                replace HQ := Lib.hid (HQ.out.keep hk)
                replace HPG := Lib.hid (HPG.out.keep hk)
                replace HW := Lib.hid (HW.out.keep hk)
                replace HWh := Lib.hid (HWh.out.keep hk)
                replace HX := Lib.hid (HX.out.keep hk)
                replace HG := Lib.hid (HG.out.keep hk)
                replace HGh := Lib.hid (HGh.out.keep hk)
                replace HD := Lib.hid (HD.out.keep hk)
                replace HRh := Lib.hid (And.intro HRh.out.1 (And.intro HRh.out.2.1 (HRh.out.2.2.kept hk).here))
                have HH := Lib.hid hx
                have Eh := Lib.hid eh
                clear hk hl ho hx eh
                clear p0 p1 p2 g0 g1 g2 g3 g4
                obtain ⟨p0, p1, p2⟩ := cells3 HQ.out
                obtain ⟨g0, g1, g2, g3, g4⟩ := cells5 HPG.out
                refine hK.out _ _ ?_ (fun hHeld => ?_)
                · exact ⟨p0, p1, p2, g0, g1, g2, g3, g4⟩
                clear hK K
                try simp only [Act.put, List.setIfInBounds_toArray, List.set_cons_zero, List.set_cons_succ]
                refine heldY 8 106 ?_
                refine heldY 9 115 ?_
                refine heldY 10 116 ?_
                refine heldY 11 117 ?_
                obtain ⟨d0, d1, d2⟩ := cells3 HD.out
                obtain ⟨f0, f1, f2⟩ := frozen3 HD.out
                have dl := HD.out.lt
                have na0 : w.heap.size ≠ w33.heap.size := by omega
                have nb0 : w33.heap.size ≠ w.heap.size := by omega
                have na1 : w.heap.size + 1 ≠ w33.heap.size := by omega
                have nb1 : w33.heap.size ≠ w.heap.size + 1 := by omega
                refine wpAnyH_ready (rs := [13]) (by kernel_rfl) (by simp) ?_
                refine AllReadyH.cons rfl (fun K hK => ?_) AllReadyH.nil
                go_simp
                refine hK.out _ _ ?_ (fun hHeld => ?_)
                · first | assumption | go_keep
                clear hK K
                try simp only [Act.put, List.setIfInBounds_toArray, List.set_cons_zero, List.set_cons_succ]
                refine wpAnyH_ready (rs := [14]) (by kernel_rfl) (by simp) ?_
                refine AllReadyH.cons rfl (fun K hK => ?_) AllReadyH.nil
                go_simp
                refine hK.out _ _ ?_ (fun hHeld => ?_)
                · first | assumption | go_keep
                clear hK K
                try simp only [Act.put, List.setIfInBounds_toArray, List.set_cons_zero, List.set_cons_succ]
                refine wpAnyH_ready (rs := [15]) (by kernel_rfl) (by simp) ?_
                refine AllReadyH.cons rfl (fun K hK => ?_) AllReadyH.nil
                go_simp
                refine hK.out _ _ ?_ (fun hHeld => ?_)
                · first | assumption | go_keep
                clear hK K
                try simp only [Act.put, List.setIfInBounds_toArray, List.set_cons_zero, List.set_cons_succ]
                refine wpAnyH_done (by kernel_rfl) ?_ _
                go_wp2_with fail
                go_meet
                exact ⟨_, _, _, _, hih, _, _, rfl, rfl, rfl, HH.out.heads HD.out (by omega) _ _ _, hs, HD.out.set3 _ _ _, ⟨(by have := Eh.out; omega), (by have := Eh.out; omega), (by have := Eh.out; omega), (by have := Eh.out; omega), (by have := Eh.out; omega), (by have := Eh.out; omega), (by have := Eh.out; omega)⟩, HA.out.heads (by omega) _ _ _, HQ.out.far3 (by omega) _ _ _, HPG.out.far3 (by omega) _ _ _, HW.out.heads HD.out (by omega) _ _ _, HWh.out.far3 (by omega) _ _ _, HX.out.heads HD.out (by omega) _ _ _, HG.out.heads HD.out (by omega) _ _ _, HGh.out.far3 (by omega) _ _ _⟩
            · go_simp
              have hd0 : Blk (World.alloc w32 (.cells #[.int .i64 0, .int .i64 0, .int .i64 0] 25)) (w32.heap.size) 25 #[.int .i64 0, .int .i64 0, .int .i64 0] := by have h := Blk.new w32 25 #[.int .i64 0, .int .i64 0, .int .i64 0]; (try simp only [World.drew, size_alloc1] at h); exact h
              have HAx := Lib.hid HA.out
              have HQx := Lib.hid HQ.out
              have HPGx := Lib.hid HPG.out
              have HWx := Lib.hid HW.out
              have HWhx := Lib.hid HWh.out
              have HXx := Lib.hid HX.out
              have HGx := Lib.hid HG.out
              have HGhx := Lib.hid HGh.out
              replace HA := Lib.hid (HA.out.keep (grown_alloc (grown_refl _ none) (.cells #[.int .i64 0, .int .i64 0, .int .i64 0] 25)))
              replace HQ := Lib.hid (HQ.out.keep (grown_alloc (grown_refl _ none) (.cells #[.int .i64 0, .int .i64 0, .int .i64 0] 25)))
              replace HPG := Lib.hid (HPG.out.keep (grown_alloc (grown_refl _ none) (.cells #[.int .i64 0, .int .i64 0, .int .i64 0] 25)))
              replace HW := Lib.hid (HW.out.keep (grown_alloc (grown_refl _ none) (.cells #[.int .i64 0, .int .i64 0, .int .i64 0] 25)))
              replace HWh := Lib.hid (HWh.out.keep (grown_alloc (grown_refl _ none) (.cells #[.int .i64 0, .int .i64 0, .int .i64 0] 25)))
              replace HX := Lib.hid (HX.out.keep (grown_alloc (grown_refl _ none) (.cells #[.int .i64 0, .int .i64 0, .int .i64 0] 25)))
              replace HG := Lib.hid (HG.out.keep (grown_alloc (grown_refl _ none) (.cells #[.int .i64 0, .int .i64 0, .int .i64 0] 25)))
              replace HGh := Lib.hid (HGh.out.keep (grown_alloc (grown_refl _ none) (.cells #[.int .i64 0, .int .i64 0, .int .i64 0] 25)))
              replace HRh := Lib.hid (And.intro HRh.out.1 (And.intro HRh.out.2.1 (HRh.out.2.2.alloc (.cells #[.int .i64 0, .int .i64 0, .int .i64 0] 25)).here))
              have HD := Lib.hid hd0
              clear hd0
              clear p0 p1 p2 g0 g1 g2 g3 g4
              obtain ⟨p0, p1, p2⟩ := cells3 HQ.out
              obtain ⟨g0, g1, g2, g3, g4⟩ := cells5 HPG.out
              refine hK.out _ _ ?_ (fun hHeld => ?_)
              · exact ⟨p0, p1, p2, g0, g1, g2, g3, g4⟩
              clear hK K
              try simp only [Act.put, List.setIfInBounds_toArray, List.set_cons_zero, List.set_cons_succ]
              refine wpAnyH_ready (rs := [3]) (by kernel_rfl) (by simp) ?_
              refine AllReadyH.cons rfl (fun K hK => ?_) AllReadyH.nil
              go_simp
              go_at_call 40
              refine (toHeads_any _ _ _ _).mono ?_
              rintro e w33 ⟨rfl, hk⟩
              have hz33 := hk.size
              (try simp only [World.drew, size_alloc1] at hz33)
              replace HA := Lib.hid (HA.out.keep hk)
              replace HQ := Lib.hid (HQ.out.keep hk)
              replace HPG := Lib.hid (HPG.out.keep hk)
              replace HW := Lib.hid (HW.out.keep hk)
              replace HWh := Lib.hid (HWh.out.keep hk)
              replace HX := Lib.hid (HX.out.keep hk)
              replace HG := Lib.hid (HG.out.keep hk)
              replace HGh := Lib.hid (HGh.out.keep hk)
              replace HD := Lib.hid (HD.out.keep hk)
              replace HRh := Lib.hid (And.intro HRh.out.1 (And.intro HRh.out.2.1 (HRh.out.2.2.kept hk).here))
              clear hk
              clear p0 p1 p2 g0 g1 g2 g3 g4
              obtain ⟨p0, p1, p2⟩ := cells3 HQ.out
              obtain ⟨g0, g1, g2, g3, g4⟩ := cells5 HPG.out
              refine hK.out _ _ ?_ (fun hHeld => ?_)
              · exact ⟨p0, p1, p2, g0, g1, g2, g3, g4⟩
              clear hK K
              try simp only [Act.put, List.setIfInBounds_toArray, List.set_cons_zero, List.set_cons_succ]
              refine wpAnyH_ready (rs := [6]) (by kernel_rfl) (by simp) ?_
              refine AllReadyH.cons rfl (fun K hK => ?_) AllReadyH.nil
              go_simp
              go_at_call 41
              refine (toPage_any _ _ _ _ _ _).mono ?_
              rintro e w34 ⟨rfl, hk⟩
              have hz34 := hk.size
              (try simp only [World.drew, size_alloc1] at hz34)
              replace HA := Lib.hid (HA.out.keep hk)
              replace HQ := Lib.hid (HQ.out.keep hk)
              replace HPG := Lib.hid (HPG.out.keep hk)
              replace HW := Lib.hid (HW.out.keep hk)
              replace HWh := Lib.hid (HWh.out.keep hk)
              replace HX := Lib.hid (HX.out.keep hk)
              replace HG := Lib.hid (HG.out.keep hk)
              replace HGh := Lib.hid (HGh.out.keep hk)
              replace HD := Lib.hid (HD.out.keep hk)
              replace HRh := Lib.hid (And.intro HRh.out.1 (And.intro HRh.out.2.1 (HRh.out.2.2.kept hk).here))
              clear hk
              clear p0 p1 p2 g0 g1 g2 g3 g4
              obtain ⟨p0, p1, p2⟩ := cells3 HQ.out
              obtain ⟨g0, g1, g2, g3, g4⟩ := cells5 HPG.out
              refine hK.out _ _ ?_ (fun hHeld => ?_)
              · exact ⟨p0, p1, p2, g0, g1, g2, g3, g4⟩
              clear hK K
              try simp only [Act.put, List.setIfInBounds_toArray, List.set_cons_zero, List.set_cons_succ]
              refine wpAnyH_ready (rs := [7]) (by kernel_rfl) (by simp) ?_
              refine AllReadyH.cons rfl (fun K hK => ?_) AllReadyH.nil
              go_simp
              go_at_call 22
              refine (append_val (HI.out.of HRh.out.2.1) HRh.out.1 HRh.out.2.2 hn (small_is HRh.out.2.1 HP.out.1)).mono ?_
              rintro e w35 ⟨Ah, ch, csh, rfl, hl, hs, ho, hk⟩
              obtain ⟨loh, hih, hx, qh, rh, eh⟩ : ∃ lo hi, VX w Ah n1 ch csh lo hi w35 ∧ w34.heap.size ≤ lo ∧ lo ≤ hi ∧ hi = w35.heap.size := ⟨_, _, VX.made HA.out.2 hl ho hk, by (try simp only [World.drew, size_alloc1]); exact Nat.le_refl _, hk.size, rfl⟩
              have hz35 := hk.size
              (try simp only [World.drew, size_alloc1] at hz35)
              replace HA := Lib.hid (HA.out.keep hk)
              replace HQ := Lib.hid (HQ.out.keep hk)
              replace HPG := Lib.hid (HPG.out.keep hk)
              replace HW := Lib.hid (HW.out.keep hk)
              replace HWh := Lib.hid (HWh.out.keep hk)
              replace HX := Lib.hid (HX.out.keep hk)
              replace HG := Lib.hid (HG.out.keep hk)
              replace HGh := Lib.hid (HGh.out.keep hk)
              replace HD := Lib.hid (HD.out.keep hk)
              replace HRh := Lib.hid (And.intro HRh.out.1 (And.intro HRh.out.2.1 (HRh.out.2.2.kept hk).here))
              have HH := Lib.hid hx
              have Eh := Lib.hid eh
              clear hk hl ho hx eh
              clear p0 p1 p2 g0 g1 g2 g3 g4
              obtain ⟨p0, p1, p2⟩ := cells3 HQ.out
              obtain ⟨g0, g1, g2, g3, g4⟩ := cells5 HPG.out
              refine hK.out _ _ ?_ (fun hHeld => ?_)
              · exact ⟨p0, p1, p2, g0, g1, g2, g3, g4⟩
              clear hK K
              try simp only [Act.put, List.setIfInBounds_toArray, List.set_cons_zero, List.set_cons_succ]
              refine heldY 8 106 ?_
              refine heldY 9 115 ?_
              refine heldY 10 116 ?_
              refine heldY 11 117 ?_
              obtain ⟨d0, d1, d2⟩ := cells3 HD.out
              obtain ⟨f0, f1, f2⟩ := frozen3 HD.out
              have dl := HD.out.lt
              have na0 : w.heap.size ≠ w32.heap.size := by omega
              have nb0 : w32.heap.size ≠ w.heap.size := by omega
              have na1 : w.heap.size + 1 ≠ w32.heap.size := by omega
              have nb1 : w32.heap.size ≠ w.heap.size + 1 := by omega
              refine wpAnyH_ready (rs := [13]) (by kernel_rfl) (by simp) ?_
              refine AllReadyH.cons rfl (fun K hK => ?_) AllReadyH.nil
              go_simp
              refine hK.out _ _ ?_ (fun hHeld => ?_)
              · first | assumption | go_keep
              clear hK K
              try simp only [Act.put, List.setIfInBounds_toArray, List.set_cons_zero, List.set_cons_succ]
              refine wpAnyH_ready (rs := [14]) (by kernel_rfl) (by simp) ?_
              refine AllReadyH.cons rfl (fun K hK => ?_) AllReadyH.nil
              go_simp
              refine hK.out _ _ ?_ (fun hHeld => ?_)
              · first | assumption | go_keep
              clear hK K
              try simp only [Act.put, List.setIfInBounds_toArray, List.set_cons_zero, List.set_cons_succ]
              refine wpAnyH_ready (rs := [15]) (by kernel_rfl) (by simp) ?_
              refine AllReadyH.cons rfl (fun K hK => ?_) AllReadyH.nil
              go_simp
              refine hK.out _ _ ?_ (fun hHeld => ?_)
              · first | assumption | go_keep
              clear hK K
              try simp only [Act.put, List.setIfInBounds_toArray, List.set_cons_zero, List.set_cons_succ]
              refine wpAnyH_done (by kernel_rfl) ?_ _
              go_wp2_with fail
              go_meet
              exact ⟨_, _, _, _, hih, _, _, rfl, rfl, rfl, HH.out.heads HD.out (by omega) _ _ _, hs, HD.out.set3 _ _ _, ⟨(by have := Eh.out; omega), (by have := Eh.out; omega), (by have := Eh.out; omega), (by have := Eh.out; omega), (by have := Eh.out; omega), (by have := Eh.out; omega), (by have := Eh.out; omega)⟩, HA.out.heads (by omega) _ _ _, HQ.out.far3 (by omega) _ _ _, HPG.out.far3 (by omega) _ _ _, HW.out.heads HD.out (by omega) _ _ _, HWh.out.far3 (by omega) _ _ _, HX.out.heads HD.out (by omega) _ _ _, HG.out.heads HD.out (by omega) _ _ _, HGh.out.far3 (by omega) _ _ _⟩
          · go_simp
            have hd0 : Blk (World.alloc w30.drew (.cells #[.int .i64 0, .int .i64 0, .int .i64 0] 25)) (w30.heap.size) 25 #[.int .i64 0, .int .i64 0, .int .i64 0] := by have h := Blk.new w30.drew 25 #[.int .i64 0, .int .i64 0, .int .i64 0]; (try simp only [World.drew, size_alloc1] at h); exact h
            have HAx := Lib.hid HA.out
            have HQx := Lib.hid HQ.out
            have HPGx := Lib.hid HPG.out
            have HWx := Lib.hid HW.out
            have HWhx := Lib.hid HWh.out
            have HXx := Lib.hid HX.out
            have HGx := Lib.hid HG.out
            have HGhx := Lib.hid HGh.out
            replace HA := Lib.hid (HA.out.keep (grown_alloc (grown_refl _ none) (.cells #[.int .i64 0, .int .i64 0, .int .i64 0] 25)))
            replace HQ := Lib.hid (HQ.out.keep (grown_alloc (grown_refl _ none) (.cells #[.int .i64 0, .int .i64 0, .int .i64 0] 25)))
            replace HPG := Lib.hid (HPG.out.keep (grown_alloc (grown_refl _ none) (.cells #[.int .i64 0, .int .i64 0, .int .i64 0] 25)))
            replace HW := Lib.hid (HW.out.keep (grown_alloc (grown_refl _ none) (.cells #[.int .i64 0, .int .i64 0, .int .i64 0] 25)))
            replace HWh := Lib.hid (HWh.out.keep (grown_alloc (grown_refl _ none) (.cells #[.int .i64 0, .int .i64 0, .int .i64 0] 25)))
            replace HX := Lib.hid (HX.out.keep (grown_alloc (grown_refl _ none) (.cells #[.int .i64 0, .int .i64 0, .int .i64 0] 25)))
            replace HG := Lib.hid (HG.out.keep (grown_alloc (grown_refl _ none) (.cells #[.int .i64 0, .int .i64 0, .int .i64 0] 25)))
            replace HGh := Lib.hid (HGh.out.keep (grown_alloc (grown_refl _ none) (.cells #[.int .i64 0, .int .i64 0, .int .i64 0] 25)))
            have HD := Lib.hid hd0
            clear hd0
            clear p0 p1 p2 g0 g1 g2 g3 g4
            obtain ⟨p0, p1, p2⟩ := cells3 HQ.out
            obtain ⟨g0, g1, g2, g3, g4⟩ := cells5 HPG.out
            refine hK.out _ _ ?_ (fun hHeld => ?_)
            · exact ⟨p0, p1, p2, g0, g1, g2, g3, g4⟩
            clear hK K
            try simp only [Act.put, List.setIfInBounds_toArray, List.set_cons_zero, List.set_cons_succ]
            refine wpAnyH_ready (rs := [1]) (by kernel_rfl) (by simp) ?_
            refine AllReadyH.cons rfl (fun K hK => ?_) AllReadyH.nil
            go_simp
            go_at_call 38
            refine (toBlockS_any _ _ _ _ _ HL.out HA.out.row hn HP.out.1).mono ?_
            rintro e w32 ⟨Ah, ch, csh, rfl, hl, hs, ho, hk⟩
            have hz32 := hk.size
            (try simp only [World.drew, size_alloc1] at hz32)
            replace HA := Lib.hid (HA.out.keep hk)
            replace HQ := Lib.hid (HQ.out.keep hk)
            replace HPG := Lib.hid (HPG.out.keep hk)
            replace HW := Lib.hid (HW.out.keep hk)
            replace HWh := Lib.hid (HWh.out.keep hk)
            replace HX := Lib.hid (HX.out.keep hk)
            replace HG := Lib.hid (HG.out.keep hk)
            replace HGh := Lib.hid (HGh.out.keep hk)
            replace HD := Lib.hid (HD.out.keep hk)
            have HRh := Lib.hid (And.intro hl (And.intro hs ho.row))
            clear hk hl hs ho
            clear p0 p1 p2 g0 g1 g2 g3 g4
            obtain ⟨p0, p1, p2⟩ := cells3 HQ.out
            obtain ⟨g0, g1, g2, g3, g4⟩ := cells5 HPG.out
            refine hK.out _ _ ?_ (fun hHeld => ?_)
            · exact ⟨p0, p1, p2, g0, g1, g2, g3, g4⟩
            clear hK K
            try simp only [Act.put, List.setIfInBounds_toArray, List.set_cons_zero, List.set_cons_succ]
            refine wpAnyH_ready (rs := [3]) (by kernel_rfl) (by simp) ?_
            refine AllReadyH.cons rfl (fun K hK => ?_) AllReadyH.nil
            go_simp
            go_at_call 40
            refine (toHeads_any _ _ _ _).mono ?_
            rintro e w33 ⟨rfl, hk⟩
            have hz33 := hk.size
            (try simp only [World.drew, size_alloc1] at hz33)
            replace HA := Lib.hid (HA.out.keep hk)
            replace HQ := Lib.hid (HQ.out.keep hk)
            replace HPG := Lib.hid (HPG.out.keep hk)
            replace HW := Lib.hid (HW.out.keep hk)
            replace HWh := Lib.hid (HWh.out.keep hk)
            replace HX := Lib.hid (HX.out.keep hk)
            replace HG := Lib.hid (HG.out.keep hk)
            replace HGh := Lib.hid (HGh.out.keep hk)
            replace HD := Lib.hid (HD.out.keep hk)
            replace HRh := Lib.hid (And.intro HRh.out.1 (And.intro HRh.out.2.1 (HRh.out.2.2.kept hk).here))
            clear hk
            clear p0 p1 p2 g0 g1 g2 g3 g4
            obtain ⟨p0, p1, p2⟩ := cells3 HQ.out
            obtain ⟨g0, g1, g2, g3, g4⟩ := cells5 HPG.out
            refine hK.out _ _ ?_ (fun hHeld => ?_)
            · exact ⟨p0, p1, p2, g0, g1, g2, g3, g4⟩
            clear hK K
            try simp only [Act.put, List.setIfInBounds_toArray, List.set_cons_zero, List.set_cons_succ]
            refine wpAnyH_ready (rs := [6]) (by kernel_rfl) (by simp) ?_
            refine AllReadyH.cons rfl (fun K hK => ?_) AllReadyH.nil
            go_simp
            go_at_call 41
            refine (toPage_any _ _ _ _ _ _).mono ?_
            rintro e w34 ⟨rfl, hk⟩
            have hz34 := hk.size
            (try simp only [World.drew, size_alloc1] at hz34)
            replace HA := Lib.hid (HA.out.keep hk)
            replace HQ := Lib.hid (HQ.out.keep hk)
            replace HPG := Lib.hid (HPG.out.keep hk)
            replace HW := Lib.hid (HW.out.keep hk)
            replace HWh := Lib.hid (HWh.out.keep hk)
            replace HX := Lib.hid (HX.out.keep hk)
            replace HG := Lib.hid (HG.out.keep hk)
            replace HGh := Lib.hid (HGh.out.keep hk)
            replace HD := Lib.hid (HD.out.keep hk)
            replace HRh := Lib.hid (And.intro HRh.out.1 (And.intro HRh.out.2.1 (HRh.out.2.2.kept hk).here))
            clear hk
            clear p0 p1 p2 g0 g1 g2 g3 g4
            obtain ⟨p0, p1, p2⟩ := cells3 HQ.out
            obtain ⟨g0, g1, g2, g3, g4⟩ := cells5 HPG.out
            refine hK.out _ _ ?_ (fun hHeld => ?_)
            · exact ⟨p0, p1, p2, g0, g1, g2, g3, g4⟩
            clear hK K
            try simp only [Act.put, List.setIfInBounds_toArray, List.set_cons_zero, List.set_cons_succ]
            refine wpAnyH_ready (rs := [7]) (by kernel_rfl) (by simp) ?_
            refine AllReadyH.cons rfl (fun K hK => ?_) AllReadyH.nil
            go_simp
            go_at_call 22
            refine (append_val (HI.out.of HRh.out.2.1) HRh.out.1 HRh.out.2.2 hn (small_is HRh.out.2.1 HP.out.1)).mono ?_
            rintro e w35 ⟨Ah, ch, csh, rfl, hl, hs, ho, hk⟩
            obtain ⟨loh, hih, hx, qh, rh, eh⟩ : ∃ lo hi, VX w Ah n1 ch csh lo hi w35 ∧ w34.heap.size ≤ lo ∧ lo ≤ hi ∧ hi = w35.heap.size := ⟨_, _, VX.made HA.out.2 hl ho hk, by (try simp only [World.drew, size_alloc1]); exact Nat.le_refl _, hk.size, rfl⟩
            have hz35 := hk.size
            (try simp only [World.drew, size_alloc1] at hz35)
            replace HA := Lib.hid (HA.out.keep hk)
            replace HQ := Lib.hid (HQ.out.keep hk)
            replace HPG := Lib.hid (HPG.out.keep hk)
            replace HW := Lib.hid (HW.out.keep hk)
            replace HWh := Lib.hid (HWh.out.keep hk)
            replace HX := Lib.hid (HX.out.keep hk)
            replace HG := Lib.hid (HG.out.keep hk)
            replace HGh := Lib.hid (HGh.out.keep hk)
            replace HD := Lib.hid (HD.out.keep hk)
            replace HRh := Lib.hid (And.intro HRh.out.1 (And.intro HRh.out.2.1 (HRh.out.2.2.kept hk).here))
            have HH := Lib.hid hx
            have Eh := Lib.hid eh
            clear hk hl ho hx eh
            clear p0 p1 p2 g0 g1 g2 g3 g4
            obtain ⟨p0, p1, p2⟩ := cells3 HQ.out
            obtain ⟨g0, g1, g2, g3, g4⟩ := cells5 HPG.out
            refine hK.out _ _ ?_ (fun hHeld => ?_)
            · exact ⟨p0, p1, p2, g0, g1, g2, g3, g4⟩
            clear hK K
            try simp only [Act.put, List.setIfInBounds_toArray, List.set_cons_zero, List.set_cons_succ]
            refine heldY 8 106 ?_
            refine heldY 9 115 ?_
            refine heldY 10 116 ?_
            refine heldY 11 117 ?_
            obtain ⟨d0, d1, d2⟩ := cells3 HD.out
            obtain ⟨f0, f1, f2⟩ := frozen3 HD.out
            have dl := HD.out.lt
            have na0 : w.heap.size ≠ w30.heap.size := by omega
            have nb0 : w30.heap.size ≠ w.heap.size := by omega
            have na1 : w.heap.size + 1 ≠ w30.heap.size := by omega
            have nb1 : w30.heap.size ≠ w.heap.size + 1 := by omega
            refine wpAnyH_ready (rs := [13]) (by kernel_rfl) (by simp) ?_
            refine AllReadyH.cons rfl (fun K hK => ?_) AllReadyH.nil
            go_simp
            refine hK.out _ _ ?_ (fun hHeld => ?_)
            · first | assumption | go_keep
            clear hK K
            try simp only [Act.put, List.setIfInBounds_toArray, List.set_cons_zero, List.set_cons_succ]
            refine wpAnyH_ready (rs := [14]) (by kernel_rfl) (by simp) ?_
            refine AllReadyH.cons rfl (fun K hK => ?_) AllReadyH.nil
            go_simp
            refine hK.out _ _ ?_ (fun hHeld => ?_)
            · first | assumption | go_keep
            clear hK K
            try simp only [Act.put, List.setIfInBounds_toArray, List.set_cons_zero, List.set_cons_succ]
            refine wpAnyH_ready (rs := [15]) (by kernel_rfl) (by simp) ?_
            refine AllReadyH.cons rfl (fun K hK => ?_) AllReadyH.nil
            go_simp
            refine hK.out _ _ ?_ (fun hHeld => ?_)
            · first | assumption | go_keep
            clear hK K
            try simp only [Act.put, List.setIfInBounds_toArray, List.set_cons_zero, List.set_cons_succ]
            refine wpAnyH_done (by kernel_rfl) ?_ _
            go_wp2_with fail
            go_meet
            exact ⟨_, _, _, _, hih, _, _, rfl, rfl, rfl, HH.out.heads HD.out (by omega) _ _ _, hs, HD.out.set3 _ _ _, ⟨(by have := Eh.out; omega), (by have := Eh.out; omega), (by have := Eh.out; omega), (by have := Eh.out; omega), (by have := Eh.out; omega), (by have := Eh.out; omega), (by have := Eh.out; omega)⟩, HA.out.heads (by omega) _ _ _, HQ.out.far3 (by omega) _ _ _, HPG.out.far3 (by omega) _ _ _, HW.out.heads HD.out (by omega) _ _ _, HWh.out.far3 (by omega) _ _ _, HX.out.heads HD.out (by omega) _ _ _, HG.out.heads HD.out (by omega) _ _ _, HGh.out.far3 (by omega) _ _ _⟩
        case rest =>
          clear HA HQ HPG HW HWh HX HG HGh
          obtain ⟨Vh, ch, loh, hih, zh, Ah, csh, rfl, rfl, rfl, hx0, hs0, hb0, ⟨qah, qbh, qch, qdh, qeh, qoh, qzh⟩, hHA, hHQ, hHPG, hHW, hHWh, hHX, hHG, hHGh⟩ := hcut
          have HH := Lib.hid hx0
          have SHH := Lib.hid hs0
          have HHh := Lib.hid hb0
          have HOh := Lib.hid (And.intro qoh qzh)
          have HA := Lib.hid hHA
          have HQ := Lib.hid hHQ
          have HPG := Lib.hid hHPG
          have HW := Lib.hid hHW
          have HWh := Lib.hid hHWh
          have HX := Lib.hid hHX
          have HG := Lib.hid hHG
          have HGh := Lib.hid hHGh
          clear hx0 hs0 hb0 qoh qzh hHA hHQ hHPG hHW hHWh hHX hHG hHGh
          have THH := Lib.hid (show tot csh ≤ 1048576 by rw [tot_is SHH.out]; exact HT.out)
          have LHH := Lib.hid HH.out.2.1
          go_wp2_with fail
          refine (eqBlockS_same _ _ _ _ _ _ _ _ HH.out.2.1 (SHH.out.trans SHW.out.symm) HH.out.row HW.out.row (by omega) (small_tot THH.out)).mono ?_
          rintro e w42 ⟨rfl, hk⟩
          replace HA := Lib.hid (HA.out.keep hk)
          replace HQ := Lib.hid (HQ.out.keep hk)
          replace HPG := Lib.hid (HPG.out.keep hk)
          replace HW := Lib.hid (HW.out.keep hk)
          replace HWh := Lib.hid (HWh.out.keep hk)
          replace HX := Lib.hid (HX.out.keep hk)
          replace HG := Lib.hid (HG.out.keep hk)
          replace HGh := Lib.hid (HGh.out.keep hk)
          replace HH := Lib.hid (HH.out.keep hk)
          replace HHh := Lib.hid (HHh.out.keep hk)
          clear hk
          obtain ⟨x0, x1, x2⟩ := cells3 HHh.out
          obtain ⟨v0, v1, v2⟩ := cells3 HWh.out
          go_wp2_with fail
          clear x0 x1 x2 v0 v1 v2
          refine (eqHeads_same _ _ _ _).mono ?_
          rintro e w43 ⟨rfl, hk⟩
          replace HA := Lib.hid (HA.out.keep hk)
          replace HQ := Lib.hid (HQ.out.keep hk)
          replace HPG := Lib.hid (HPG.out.keep hk)
          replace HW := Lib.hid (HW.out.keep hk)
          replace HWh := Lib.hid (HWh.out.keep hk)
          replace HX := Lib.hid (HX.out.keep hk)
          replace HG := Lib.hid (HG.out.keep hk)
          replace HGh := Lib.hid (HGh.out.keep hk)
          replace HH := Lib.hid (HH.out.keep hk)
          replace HHh := Lib.hid (HHh.out.keep hk)
          clear hk
          go_wp2_with fail
          refine (heldBlockS_val HVG.out LHG.out HG.out (by omega) THG.out).mono ?_
          rintro e w44 ⟨rfl, rfl⟩
          go_wp2
          go_ret
          exact ⟨rfl, grown_below HA.out.2⟩

/-! ### THE ROW's STEP: WRITTEN OUT: LEAVE IT -/
set_option maxRecDepth 100000 in
theorem lifted (os : Os) (started : os.Started) (H : Type) (enc : TypeId × Value → H) :
    ReturnsInHanded {} Try.checked os 12 .any (Rows.fnExactAppendPageSpec.pre6 enc Try.prog Try.f12 Rows.fnExactAppendPageRow.domain false) (Rows.fnExactAppendPageSpec.post enc Try.prog Try.f12 false true false false) := by
  refine returnsInHanded_of_change (C := Try.checked) own started (by kernel_rfl) Try.func12
    (ChangeSpec.witness6 (enc := enc) (C := Try.checked) false ⟨#[], #[.slice none 0 0, .agg #[.int .i64 0, .int .i64 0, .int .i64 0], .int .i64 0, .agg #[.bool false, .int .i64 0, .int .i64 0, .int .i64 0, .int .i64 0]], []⟩ 8 (by kernel_rfl) (by kernel_rfl) (by kernel_rfl) (by kernel_rfl)) ?_
  intro W base args ds gs before hval0 hW hcnd _
  have hval : ∀ (j : Nat) t v, Try.f12.params[j]? = some t → args[j]? = some v → Value.okWide Try.prog W .any base t v := hval0
  have hW' := hW
  obtain ⟨p, q, hA0, hV, rfl, hfz, hnd⟩ := hW
  have hA : DataW.TrodAll enc Try.prog W 0 (fun _ => true) true Try.f12.params.toList args.toList ds p := hA0
  rw [Try.params12] at hA hval
  obtain ⟨v0, vs0, d0, ds0, p0, q0, hargs, rfl, rfl, h0, r0⟩ := trodAll_cons hA
  obtain ⟨v1, vs1, d1, ds1, p1, q1, rfl, rfl, rfl, h1, r1⟩ := trodAll_cons r0
  obtain ⟨v2, vs2, d2, ds2, p2, q2, rfl, rfl, rfl, h2, r2⟩ := trodAll_cons r1
  obtain ⟨v3, vs3, d3, ds3, p3, q3, rfl, rfl, rfl, h3, r3⟩ := trodAll_cons r2
  obtain ⟨rfl, rfl, rfl⟩ := trodAll_nil r3
  obtain rfl : args = #[v0, v1, v2, v3] := by cases args; simp_all
  obtain ⟨rfl, rfl⟩ := trodVars_none hV
  have k0 := h0
  have lt0 : ∀ x ∈ p0, x.block < W.heap.size := by obtain ⟨m, hm⟩ := k0; exact DataW.trod_lt m _ _ _ hm
  obtain ⟨a0, n0, c0, rfl⟩ := okWide_slice Try.underlying48 (hval 0 48 v0 rfl rfl)
  obtain ⟨b0, w0⟩ : ∃ bs, IsBlocks W a0 n0 c0 bs := by
    obtain ⟨fuel, hf⟩ := h0
    obtain ⟨A, n, c, bs, e, hw⟩ := open_blocks (v := .slice a0 n0 c0) hf
    injection e with e1 e2 e3
    subst e1; subst e2; subst e3
    exact ⟨bs, hw⟩
  have k1 := h1
  have lt1 : ∀ x ∈ p1, x.block < W.heap.size := by obtain ⟨m, hm⟩ := k1; exact DataW.trod_lt m _ _ _ hm
  obtain ⟨c1, rfl, l1, f1⟩ := open_agg Try.underlying52 (by kernel_rfl) (by kernel_rfl) (hval 1 52 v1 rfl rfl) h1
  obtain ⟨v1f0, v1f1, v1f2, rfl⟩ := list3 l1
  obtain ⟨n1f0, y1f0, t1f0⟩ := f1 0 _ _ rfl rfl
  obtain ⟨a1f0, e1f0, _, w1f0⟩ := DataW.trod_int Try.underlying3 t1f0
  obtain ⟨rfl, _⟩ := List.cons.inj e1f0
  obtain ⟨n1f1, y1f1, t1f1⟩ := f1 1 _ _ rfl rfl
  obtain ⟨a1f1, e1f1, _, w1f1⟩ := DataW.trod_int Try.underlying3 t1f1
  obtain ⟨rfl, _⟩ := List.cons.inj e1f1
  obtain ⟨n1f2, y1f2, t1f2⟩ := f1 2 _ _ rfl rfl
  obtain ⟨a1f2, e1f2, _, w1f2⟩ := DataW.trod_int Try.underlying3 t1f2
  obtain ⟨rfl, _⟩ := List.cons.inj e1f2
  obtain ⟨a2, rfl, rfl, rfl, w2⟩ := open_int Try.underlying3 (hval 2 3 v2 rfl rfl) h2
  have k3 := h3
  have lt3 : ∀ x ∈ p3, x.block < W.heap.size := by obtain ⟨m, hm⟩ := k3; exact DataW.trod_lt m _ _ _ hm
  obtain ⟨c3, rfl, l3, f3⟩ := open_agg Try.underlying55 (by kernel_rfl) (by kernel_rfl) (hval 3 55 v3 rfl rfl) h3
  obtain ⟨v3f0, v3f1, v3f2, v3f3, v3f4, rfl⟩ := list5 l3
  obtain ⟨n3f0, y3f0, t3f0⟩ := f3 0 _ _ rfl rfl
  obtain ⟨a3f0, e3f0, _⟩ := DataW.trod_bool Try.underlying4 t3f0
  obtain ⟨rfl, _⟩ := List.cons.inj e3f0
  obtain ⟨n3f1, y3f1, t3f1⟩ := f3 1 _ _ rfl rfl
  obtain ⟨a3f1, e3f1, _, w3f1⟩ := DataW.trod_int Try.underlying3 t3f1
  obtain ⟨rfl, _⟩ := List.cons.inj e3f1
  obtain ⟨n3f2, y3f2, t3f2⟩ := f3 2 _ _ rfl rfl
  obtain ⟨a3f2, e3f2, _, w3f2⟩ := DataW.trod_int Try.underlying3 t3f2
  obtain ⟨rfl, _⟩ := List.cons.inj e3f2
  obtain ⟨n3f3, y3f3, t3f3⟩ := f3 3 _ _ rfl rfl
  obtain ⟨a3f3, e3f3, _, w3f3⟩ := DataW.trod_int Try.underlying3 t3f3
  obtain ⟨rfl, _⟩ := List.cons.inj e3f3
  obtain ⟨n3f4, y3f4, t3f4⟩ := f3 4 _ _ rfl rfl
  obtain ⟨a3f4, e3f4, _, w3f4⟩ := DataW.trod_int Try.underlying3 t3f4
  obtain ⟨rfl, _⟩ := List.cons.inj e3f4
  clear hA0 hval0
  refine (walk a0 n0 c0 b0 a1f0 a1f1 a1f2 a2 a3f0 a3f1 a3f2 a3f3 a3f4 W w0 w1f0 w1f1 w1f2 w2 w3f1 w3f2 w3f3 w3f4).mono fun e W' ⟨he, bel⟩ => ?_
  subst he
  exact ⟨_, rfl, _, _, _, [], _, [], hW', trodAll_mk1 (shut_bool Try.underlying4 _), (trodAll_cons_mk (Below.trod laidOut (by kernel_rfl) (of_decide_eq_true (by kernel_rfl)) k0 bel lt0) (trodAll_cons_mk (Below.trod laidOut (by kernel_rfl) (of_decide_eq_true (by kernel_rfl)) k1 bel lt1) (trodAll_cons_mk (shut_int Try.underlying3 w2) (trodAll_cons_mk (Below.trod laidOut (by kernel_rfl) (of_decide_eq_true (by kernel_rfl)) k3 bel lt3) trodAll_mk0)))), rfl, bel.frame _, fun h => by cases h⟩

theorem over : Rows.fnExactAppendPageRow.holds Try.pinned (OpenSpec.ofChange Rows.fnExactAppendPageSpec) :=
  OpenClaim.holds_of_wide 12 Try.f12 rfl rfl rfl rfl rfl rfl rfl ⟨rfl, rfl, rfl, rfl, rfl⟩ rfl rfl rfl rfl rfl (by kernel_rfl) Try.func12 (by kernel_rfl)
    (of_decide_eq_true (by kernel_rfl)) (by unfold Func.isWrapper; first | (rw [if_pos (by decide +kernel)]; kernel_rfl) | (rw [if_neg (by decide +kernel)]; exact ⟨rfl, rfl⟩))
    (fun os started H enc _ => lifted os started H enc)

/-- ████ THE STATEMENT ████ -/
theorem proved : Rows.FnExactAppendPageSaid := over
#print axioms proved
end Go.Proofs.Ytpdkfgihpchkiaa.fnExactAppendPage
