/- WriteBlock answers as its model for every block and page, every field, leaves the block as it was, and shares no memory with it or with another answer: proved.
   Conditions: none beyond the row's own reading of the input. The frame was written by the guide's proof-skeleton; the walk is ours. -/
import Derived.Test.YtcmnnleebjlaeaaAgg
import Derived.Test.YtcmnnleebjlaeaaAggRows
import Derived.Test.YtcmnnleebjlaeaaHand
import Derived.Test.YtcmnnleebjlaeaaLawExact2
import Derived.Test.YtcmnnleebjlaeaaRows
import Derived.WalkKit
import Derived.ProofKit
import Derived.OpenShut
import Derived.ShutString
import Derived.ChangeOld
import Derived.Below
namespace Go.Proofs.Ytcmnnleebjlaeaa.fnExactWriteBlock
open Go.ChangeShapes Go.WideShapes Go.ChangeAt Go.RowKit
open Go.ChangeMaps (open_string shut_string)
set_option linter.unusedVariables false
set_option linter.unusedSimpArgs false

theorem own : ownKnob Try.prog.godebug = none := by kernel_rfl
theorem laidOut : laidOutB Try.prog = true := by kernel_rfl

/-- WHAT THE WALK IS TOLD OF A SLICE OF INTEGERS THAT CAME IN: it is nil; or it leads to a row of 'cap' cells, the numbers 'zs' (the first 'len' are its elements, the rest its spare room), each fitting its kind. -/
def IsRow (k : IntKind) (w : World) (a : Option Addr) (len cap : Nat) (zs : List Int) : Prop :=
  (a = none ∧ len = 0 ∧ cap = 0 ∧ zs = []) ∨
  ∃ x, a = some x ∧ len ≤ cap ∧ cap ≤ maxLen ∧ zs.length = cap ∧ (∀ i, i < zs.length → w.cell? (x.add i) = some (.int k (zs.getD i 0))) ∧ ∀ n ∈ zs, (Lit.int k n).wf = true

/-! ### STEP 1: THE WALK: the Go text returns true, AND WRITES NOTHING THAT WAS THERE: 'Below w.heap.size w w'' (Derived/Below.lean: '.refl', '.alloc', '.drew', '.setCell' at a new block, '.trans'). Open each 'IsRow' by 'rcases' AHEAD of 'go_enter'; part every test ahead of the walk. -/
set_option maxHeartbeats 16000000 in
set_option maxRecDepth 100000 in
theorem walk (a0f0 : Int) (a0f1 : Option Addr) (n0f1 c0f1 : Nat) (p0f1 : List Pg) (a1f0 : Bool) (a1f1 : Int) (a1f2 : Int) (a1f3 : Int) (a1f4 : Int) (w : World) (w0f0 : (Lit.int .i64 a0f0).wf = true) (w0f1 : IsPages w a0f1 n0f1 c0f1 p0f1) (w1f1 : (Lit.int .i64 a1f1).wf = true) (w1f2 : (Lit.int .i64 a1f2).wf = true) (w1f3 : (Lit.int .i64 a1f3).wf = true) (w1f4 : (Lit.int .i64 a1f4).wf = true) :
    Calls Try.prog 11 #[.agg #[.int .i64 a0f0, .slice a0f1 n0f1 c0f1], .agg #[.bool a1f0, .int .i64 a1f1, .int .i64 a1f2, .int .i64 a1f3, .int .i64 a1f4]] w fun e w' => e = .returned (.bool true) ∧ Below w.heap.size w w' := by
  by_cases hbig : 1048576 < n0f1
  · have hm := w0f1.2.1; have hm2 := w0f1.2.2.1
    unfold maxLen at hm2
    go_enter Try.func11, Try.ntmps11
    go_wp2_with fail
    refine (szBlock_big _ _ _ _ _ hbig (by omega)).mono ?_
    rintro e w1 ⟨rfl, hk⟩
    go_wp2
    go_ret
    exact ⟨rfl, grown_below (grown_trans (grown_alloc (grown_alloc (grown_refl w none) (.cells #[.int .i64 a0f0, .slice a0f1 n0f1 c0f1] 45)) (.cells #[.bool a1f0, .int .i64 a1f1, .int .i64 a1f2, .int .i64 a1f3, .int .i64 a1f4] 51)) hk)⟩
  · have HA := Lib.hid ((VB.arg (m := a0f0) w0f1).keep (grown_alloc (grown_refl _ none) (.cells #[.bool a1f0, .int .i64 a1f1, .int .i64 a1f2, .int .i64 a1f3, .int .i64 a1f4] 51)))
    have hp0 := Blk.new (w.alloc (.cells #[.int .i64 a0f0, .slice a0f1 n0f1 c0f1] 45)) 51 #[.bool a1f0, .int .i64 a1f1, .int .i64 a1f2, .int .i64 a1f3, .int .i64 a1f4]
    simp only [size_alloc1] at hp0
    have HP := Lib.hid hp0
    clear hp0
    obtain ⟨m1, n1, ps1, r, hw, hn1⟩ := write_is a0f0 p0f1 a1f0 a1f1 a1f2 a1f3 a1f4
    have HW0 := Lib.hid hw
    clear hw
    have HZ := Lib.hid w0f1
    clear w0f1
    go_enter Try.func11, Try.ntmps11
    go_wp2_with fail
    refine (szBlock_ok _ _ _ _ _ (by omega)).mono ?_
    rintro e w1 ⟨v, rfl, hv0, hk⟩
    have z1 := hk.size
    (try simp only [size_alloc1] at z1)
    replace HA := Lib.hid (HA.out.keep hk)
    replace HP := Lib.hid (HP.out.keep hk)
    clear hk
    obtain ⟨a0, a1, al⟩ := HA.out.cells
    obtain ⟨p0, p1, p2, p3, p4⟩ := cells5 HP.out
    have pl := HP.out.lt
    have tv : decide (v < 0) = false := decide_eq_false (by omega)
    go_upto_region 5 with fail
    go_cut [6, 7] (fun sp sr wx5 => ∃ (Vu cu lou hiu : Nat) (Au : Option Addr), sp = .pointer (some ⟨Vu, 0, none⟩) ∧ sr = .int .i64 r ∧ VO w 25 Vu m1 Au n1 cu ps1 lou hiu wx5 ∧ w.heap.size ≤ lou ∧ hiu ≤ wx5.heap.size ∧ VB w 45 w.heap.size a0f0 a0f1 n0f1 c0f1 p0f1 0 w.heap.size wx5 ∧ Blk wx5 (w.heap.size + 1) 51 #[.bool a1f0, .int .i64 a1f1, .int .i64 a1f2, .int .i64 a1f3, .int .i64 a1f4] ∧ w1.heap.size ≤ wx5.heap.size)
    case first =>
      refine wp_region_held_drew (S := (fun w' => w'.cell? ⟨w.heap.size, 0, none⟩ = some (.int .i64 a0f0) ∧ w'.cell? ⟨w.heap.size, 1, none⟩ = some (.slice a0f1 n0f1 c0f1) ∧ w'.cell? ⟨w.heap.size + 1, 0, none⟩ = some (.bool a1f0) ∧ w'.cell? ⟨w.heap.size + 1, 1, none⟩ = some (.int .i64 a1f1) ∧ w'.cell? ⟨w.heap.size + 1, 2, none⟩ = some (.int .i64 a1f2) ∧ w'.cell? ⟨w.heap.size + 1, 3, none⟩ = some (.int .i64 a1f3) ∧ w'.cell? ⟨w.heap.size + 1, 4, none⟩ = some (.int .i64 a1f4))) (by kernel_rfl) ?_ (fun hHeld => ?_)
      · exact ⟨a0, a1, p0, p1, p2, p3, p4⟩
      replace HA := Lib.hid (HA.out.keep (grown_drew (grown_refl _ none)))
      replace HP := Lib.hid (HP.out.keep (grown_drew (grown_refl _ none)))
      refine held_yes (i := 0) (d := some 22) (v := ?_) rfl rfl (by kernel_rfl) (by kernel_rfl) (by kernel_rfl) (fun _ _ _ h => h) (by rfl) ?_ (by assumption) ?_
      rotate_left
      · (intro w hSw; (try dsimp only at hSw); go_simp; (first | done | with_reducible rfl))
      try simp only [Act.put, List.setIfInBounds_toArray, List.set_cons_zero, List.set_cons_succ]
      refine held_yes (i := 2) (d := some 24) (v := ?_) rfl rfl (by kernel_rfl) (by kernel_rfl) (by kernel_rfl) (fun _ _ _ h => h) (by rfl) ?_ (by assumption) ?_
      rotate_left
      · (intro w hSw; (try dsimp only at hSw); go_simp; (first | done | with_reducible rfl))
      try simp only [Act.put, List.setIfInBounds_toArray, List.set_cons_zero, List.set_cons_succ]
      refine wpAnyH_ready (rs := [1, 8]) (by kernel_rfl) (by simp) ?_
      refine AllReadyH.cons rfl (fun K hK => ?_) (AllReadyH.cons rfl (fun K hK => ?_) AllReadyH.nil)
      · go_simp
        go_at_call 32
        have hlo := HA.out.2.2.2.2.size
        refine (toBlock_any _ _ _ _ _ _ HA.out.2.1 HA.out.2.2.1 (by omega)).mono ?_
        rintro e w2 ⟨At, ct, rfl, hl, ho, hk⟩
        have HR := Lib.hid (And.intro hl ho.row)
        clear hl ho hlo
        have hz := hk.size
        (try simp only [World.drew, size_alloc1] at hz)
        replace HA := Lib.hid (HA.out.keep hk)
        replace HP := Lib.hid (HP.out.keep hk)
        clear hk
        clear a0 a1 al p0 p1 p2 p3 p4 pl
        obtain ⟨a0, a1, al⟩ := HA.out.cells
        obtain ⟨p0, p1, p2, p3, p4⟩ := cells5 HP.out
        have pl := HP.out.lt
        refine hK.out _ _ ?_ (fun hHeld => ?_)
        · exact ⟨a0, a1, p0, p1, p2, p3, p4⟩
        clear hK K
        try simp only [Act.put, List.setIfInBounds_toArray, List.set_cons_zero, List.set_cons_succ]
        refine wpAnyH_ready (rs := [3, 8]) (by kernel_rfl) (by simp) ?_
        refine AllReadyH.cons rfl (fun K hK => ?_) (AllReadyH.cons rfl (fun K hK => ?_) AllReadyH.nil)
        · go_simp
          go_at_call 36
          refine (toPage_any _ _ _ _ _ _).mono ?_
          rintro e w3 ⟨rfl, hk⟩
          try replace HR := Lib.hid (And.intro HR.out.1 (HR.out.2.kept hk).here)
          have hz := hk.size
          (try simp only [World.drew, size_alloc1] at hz)
          replace HA := Lib.hid (HA.out.keep hk)
          replace HP := Lib.hid (HP.out.keep hk)
          clear hk
          clear a0 a1 al p0 p1 p2 p3 p4 pl
          obtain ⟨a0, a1, al⟩ := HA.out.cells
          obtain ⟨p0, p1, p2, p3, p4⟩ := cells5 HP.out
          have pl := HP.out.lt
          refine hK.out _ _ ?_ (fun hHeld => ?_)
          · exact ⟨a0, a1, p0, p1, p2, p3, p4⟩
          clear hK K
          try simp only [Act.put, List.setIfInBounds_toArray, List.set_cons_zero, List.set_cons_succ]
          refine wpAnyH_ready (rs := [4, 8]) (by kernel_rfl) (by simp) ?_
          refine AllReadyH.cons rfl (fun K hK => ?_) (AllReadyH.cons rfl (fun K hK => ?_) AllReadyH.nil)
          · go_simp
            go_at_call 26
            have hlo := HA.out.2.2.2.2.size
            refine (specWrite_val HW0.out _ _ _ _ HR.out.1 HR.out.2 (by omega)).mono ?_
            rintro e w4 ⟨An, cn, rfl, hl, ho, hk⟩
            have HM := Lib.hid (mkM (P := w.heap.size) hl ho hlo (by (try simp only [World.drew, size_alloc1]); omega))
            clear hl ho hlo
            have hz := hk.size
            (try simp only [World.drew, size_alloc1] at hz)
            replace HA := Lib.hid (HA.out.keep hk)
            replace HP := Lib.hid (HP.out.keep hk)
            clear hk
            clear a0 a1 al p0 p1 p2 p3 p4 pl
            obtain ⟨a0, a1, al⟩ := HA.out.cells
            obtain ⟨p0, p1, p2, p3, p4⟩ := cells5 HP.out
            have pl := HP.out.lt
            refine hK.out _ _ ?_ (fun hHeld => ?_)
            · exact ⟨a0, a1, p0, p1, p2, p3, p4⟩
            clear hK K
            try simp only [Act.put, List.setIfInBounds_toArray, List.set_cons_zero, List.set_cons_succ]
            refine held_yes (i := 5) (d := some 21) (v := ?_) rfl rfl (by kernel_rfl) (by kernel_rfl) (by kernel_rfl) (fun _ _ _ h => h) (by rfl) ?_ (by assumption) ?_
            rotate_left
            · (intro w hSw; (try dsimp only at hSw); go_simp; (first | done | with_reducible rfl))
            try simp only [Act.put, List.setIfInBounds_toArray, List.set_cons_zero, List.set_cons_succ]
            refine held_yes (i := 6) (d := some 27) (v := ?_) rfl rfl (by kernel_rfl) (by kernel_rfl) (by kernel_rfl) (fun _ _ _ h => h) (by rfl) ?_ (by assumption) ?_
            rotate_left
            · (intro w hSw; (try dsimp only at hSw); go_simp; (first | done | with_reducible rfl))
            try simp only [Act.put, List.setIfInBounds_toArray, List.set_cons_zero, List.set_cons_succ]
            refine held_yes (i := 7) (d := some 28) (v := ?_) rfl rfl (by kernel_rfl) (by kernel_rfl) (by kernel_rfl) (fun _ _ _ h => h) (by rfl) ?_ (by assumption) ?_
            rotate_left
            · (intro w hSw; (try dsimp only at hSw); go_simp; (first | done | with_reducible rfl))
            try simp only [Act.put, List.setIfInBounds_toArray, List.set_cons_zero, List.set_cons_succ]
            refine wpAnyH_ready (rs := [8]) (by kernel_rfl) (by simp) ?_
            refine AllReadyH.cons rfl (fun K hK => ?_) AllReadyH.nil
            have hd0 : Blk (World.alloc w4 (.cells #[.int .i64 0, .slice none 0 0] 25)) (w4.heap.size) 25 #[.int .i64 0, .slice none 0 0] := by have h := Blk.new w4 25 #[.int .i64 0, .slice none 0 0]; (try simp only [World.drew, size_alloc1] at h); exact h
            have hd1 : w1.heap.size ≤ w4.heap.size := by omega
            (try simp only [World.drew, size_alloc1] at hd1)
            have HD := Lib.hid (And.intro hd0 hd1)
            clear hd0 hd1
            have HHAx := Lib.hid HA.out
            have HHPx := Lib.hid HP.out
            replace HA := Lib.hid (HA.out.keep (grown_alloc (grown_refl _ none) (.cells #[.int .i64 0, .slice none 0 0] 25)))
            replace HP := Lib.hid (HP.out.keep (grown_alloc (grown_refl _ none) (.cells #[.int .i64 0, .slice none 0 0] 25)))
            try replace HR := Lib.hid (And.intro HR.out.1 (HR.out.2.alloc (.cells #[.int .i64 0, .slice none 0 0] 25)).here)
            go_simp
            clear a0 a1 al p0 p1 p2 p3 p4 pl
            obtain ⟨a0, a1, al⟩ := HA.out.cells
            obtain ⟨p0, p1, p2, p3, p4⟩ := cells5 HP.out
            have pl := HP.out.lt
            refine hK.out _ _ ?_ (fun hHeld => ?_)
            · exact ⟨a0, a1, p0, p1, p2, p3, p4⟩
            clear hK K
            try simp only [Act.put, List.setIfInBounds_toArray, List.set_cons_zero, List.set_cons_succ]
            have hD2 := HD.out.2
            obtain ⟨d0, d1, e0, e1⟩ := cells2' HD.out.1
            have na0 : w.heap.size ≠ w4.heap.size := by omega
            have nb0 : w4.heap.size ≠ w.heap.size := by omega
            have na1 : w.heap.size + 1 ≠ w4.heap.size := by omega
            have nb1 : w4.heap.size ≠ w.heap.size + 1 := by omega
            refine wpAnyH_ready (rs := [9]) (by kernel_rfl) (by simp) ?_
            refine AllReadyH.cons rfl (fun K hK => ?_) AllReadyH.nil
            go_simp
            refine hK.out _ _ ?_ (fun hHeld => ?_)
            · first | assumption | go_keep
            clear hK K
            try simp only [Act.put, List.setIfInBounds_toArray, List.set_cons_zero, List.set_cons_succ]
            refine wpAnyH_ready (rs := [10]) (by kernel_rfl) (by simp) ?_
            refine AllReadyH.cons rfl (fun K hK => ?_) AllReadyH.nil
            go_simp
            refine hK.out _ _ ?_ (fun hHeld => ?_)
            · first | assumption | go_keep
            clear hK K
            try simp only [Act.put, List.setIfInBounds_toArray, List.set_cons_zero, List.set_cons_succ]
            refine wpAnyH_done (by kernel_rfl) ?_ _
            go_wp2_with fail
            go_meet
            exact ⟨_, _, _, _, _, rfl, rfl, VO.start HHAx.out.2.2.2.2 HM.out.1 HM.out.2.1 HM.out.2.2.1, HM.out.2.2.2, by simp only [size_alloc1]; omega, HHAx.out.keep (grown_alloc (grown_refl _ none) _), HHPx.out.keep (grown_alloc (grown_refl _ none) _), by simp only [size_alloc1]; omega⟩
          · have hd0 : Blk (World.alloc w3 (.cells #[.int .i64 0, .slice none 0 0] 25)) (w3.heap.size) 25 #[.int .i64 0, .slice none 0 0] := by have h := Blk.new w3 25 #[.int .i64 0, .slice none 0 0]; (try simp only [World.drew, size_alloc1] at h); exact h
            have hd1 : w1.heap.size ≤ w3.heap.size := by omega
            (try simp only [World.drew, size_alloc1] at hd1)
            have HD := Lib.hid (And.intro hd0 hd1)
            clear hd0 hd1
            have HHAx := Lib.hid HA.out
            have HHPx := Lib.hid HP.out
            replace HA := Lib.hid (HA.out.keep (grown_alloc (grown_refl _ none) (.cells #[.int .i64 0, .slice none 0 0] 25)))
            replace HP := Lib.hid (HP.out.keep (grown_alloc (grown_refl _ none) (.cells #[.int .i64 0, .slice none 0 0] 25)))
            try replace HR := Lib.hid (And.intro HR.out.1 (HR.out.2.alloc (.cells #[.int .i64 0, .slice none 0 0] 25)).here)
            go_simp
            clear a0 a1 al p0 p1 p2 p3 p4 pl
            obtain ⟨a0, a1, al⟩ := HA.out.cells
            obtain ⟨p0, p1, p2, p3, p4⟩ := cells5 HP.out
            have pl := HP.out.lt
            refine hK.out _ _ ?_ (fun hHeld => ?_)
            · exact ⟨a0, a1, p0, p1, p2, p3, p4⟩
            clear hK K
            try simp only [Act.put, List.setIfInBounds_toArray, List.set_cons_zero, List.set_cons_succ]
            refine wpAnyH_ready (rs := [4]) (by kernel_rfl) (by simp) ?_
            refine AllReadyH.cons rfl (fun K hK => ?_) AllReadyH.nil
            go_simp
            go_at_call 26
            have hlo := HA.out.2.2.2.2.size
            refine (specWrite_val HW0.out _ _ _ _ HR.out.1 HR.out.2 (by omega)).mono ?_
            rintro e w4 ⟨An, cn, rfl, hl, ho, hk⟩
            have HM := Lib.hid (mkM (P := w.heap.size) hl ho hlo (by (try simp only [World.drew, size_alloc1]); omega))
            clear hl ho hlo
            replace HD := Lib.hid (And.intro (HD.out.1.keep hk) HD.out.2)
            have hz := hk.size
            (try simp only [World.drew, size_alloc1] at hz)
            replace HA := Lib.hid (HA.out.keep hk)
            replace HP := Lib.hid (HP.out.keep hk)
            clear hk
            clear a0 a1 al p0 p1 p2 p3 p4 pl
            obtain ⟨a0, a1, al⟩ := HA.out.cells
            obtain ⟨p0, p1, p2, p3, p4⟩ := cells5 HP.out
            have pl := HP.out.lt
            refine hK.out _ _ ?_ (fun hHeld => ?_)
            · exact ⟨a0, a1, p0, p1, p2, p3, p4⟩
            clear hK K
            try simp only [Act.put, List.setIfInBounds_toArray, List.set_cons_zero, List.set_cons_succ]
            refine held_yes (i := 5) (d := some 21) (v := ?_) rfl rfl (by kernel_rfl) (by kernel_rfl) (by kernel_rfl) (fun _ _ _ h => h) (by rfl) ?_ (by assumption) ?_
            rotate_left
            · (intro w hSw; (try dsimp only at hSw); go_simp; (first | done | with_reducible rfl))
            try simp only [Act.put, List.setIfInBounds_toArray, List.set_cons_zero, List.set_cons_succ]
            refine held_yes (i := 6) (d := some 27) (v := ?_) rfl rfl (by kernel_rfl) (by kernel_rfl) (by kernel_rfl) (fun _ _ _ h => h) (by rfl) ?_ (by assumption) ?_
            rotate_left
            · (intro w hSw; (try dsimp only at hSw); go_simp; (first | done | with_reducible rfl))
            try simp only [Act.put, List.setIfInBounds_toArray, List.set_cons_zero, List.set_cons_succ]
            refine held_yes (i := 7) (d := some 28) (v := ?_) rfl rfl (by kernel_rfl) (by kernel_rfl) (by kernel_rfl) (fun _ _ _ h => h) (by rfl) ?_ (by assumption) ?_
            rotate_left
            · (intro w hSw; (try dsimp only at hSw); go_simp; (first | done | with_reducible rfl))
            try simp only [Act.put, List.setIfInBounds_toArray, List.set_cons_zero, List.set_cons_succ]
            have hD2 := HD.out.2
            obtain ⟨d0, d1, e0, e1⟩ := cells2' HD.out.1
            have na0 : w.heap.size ≠ w3.heap.size := by omega
            have nb0 : w3.heap.size ≠ w.heap.size := by omega
            have na1 : w.heap.size + 1 ≠ w3.heap.size := by omega
            have nb1 : w3.heap.size ≠ w.heap.size + 1 := by omega
            refine wpAnyH_ready (rs := [9]) (by kernel_rfl) (by simp) ?_
            refine AllReadyH.cons rfl (fun K hK => ?_) AllReadyH.nil
            go_simp
            refine hK.out _ _ ?_ (fun hHeld => ?_)
            · first | assumption | go_keep
            clear hK K
            try simp only [Act.put, List.setIfInBounds_toArray, List.set_cons_zero, List.set_cons_succ]
            refine wpAnyH_ready (rs := [10]) (by kernel_rfl) (by simp) ?_
            refine AllReadyH.cons rfl (fun K hK => ?_) AllReadyH.nil
            go_simp
            refine hK.out _ _ ?_ (fun hHeld => ?_)
            · first | assumption | go_keep
            clear hK K
            try simp only [Act.put, List.setIfInBounds_toArray, List.set_cons_zero, List.set_cons_succ]
            refine wpAnyH_done (by kernel_rfl) ?_ _
            go_wp2_with fail
            go_meet
            exact ⟨_, _, _, _, _, rfl, rfl, VO.put HA.out.2.2.2.2 HM.out.1 HM.out.2.1 HM.out.2.2.1 HD.out.1 (by omega), HM.out.2.2.2, by rw [size_set2]; exact Nat.le_refl _, HA.out.store na0 (by omega) (by omega) _ _, HP.out.store na1 _ _, by rw [size_set2]; omega⟩
        · have hd0 : Blk (World.alloc w2 (.cells #[.int .i64 0, .slice none 0 0] 25)) (w2.heap.size) 25 #[.int .i64 0, .slice none 0 0] := by have h := Blk.new w2 25 #[.int .i64 0, .slice none 0 0]; (try simp only [World.drew, size_alloc1] at h); exact h
          have hd1 : w1.heap.size ≤ w2.heap.size := by omega
          (try simp only [World.drew, size_alloc1] at hd1)
          have HD := Lib.hid (And.intro hd0 hd1)
          clear hd0 hd1
          have HHAx := Lib.hid HA.out
          have HHPx := Lib.hid HP.out
          replace HA := Lib.hid (HA.out.keep (grown_alloc (grown_refl _ none) (.cells #[.int .i64 0, .slice none 0 0] 25)))
          replace HP := Lib.hid (HP.out.keep (grown_alloc (grown_refl _ none) (.cells #[.int .i64 0, .slice none 0 0] 25)))
          try replace HR := Lib.hid (And.intro HR.out.1 (HR.out.2.alloc (.cells #[.int .i64 0, .slice none 0 0] 25)).here)
          go_simp
          clear a0 a1 al p0 p1 p2 p3 p4 pl
          obtain ⟨a0, a1, al⟩ := HA.out.cells
          obtain ⟨p0, p1, p2, p3, p4⟩ := cells5 HP.out
          have pl := HP.out.lt
          refine hK.out _ _ ?_ (fun hHeld => ?_)
          · exact ⟨a0, a1, p0, p1, p2, p3, p4⟩
          clear hK K
          try simp only [Act.put, List.setIfInBounds_toArray, List.set_cons_zero, List.set_cons_succ]
          refine wpAnyH_ready (rs := [3]) (by kernel_rfl) (by simp) ?_
          refine AllReadyH.cons rfl (fun K hK => ?_) AllReadyH.nil
          go_simp
          go_at_call 36
          refine (toPage_any _ _ _ _ _ _).mono ?_
          rintro e w3 ⟨rfl, hk⟩
          try replace HR := Lib.hid (And.intro HR.out.1 (HR.out.2.kept hk).here)
          replace HD := Lib.hid (And.intro (HD.out.1.keep hk) HD.out.2)
          have hz := hk.size
          (try simp only [World.drew, size_alloc1] at hz)
          replace HA := Lib.hid (HA.out.keep hk)
          replace HP := Lib.hid (HP.out.keep hk)
          clear hk
          clear a0 a1 al p0 p1 p2 p3 p4 pl
          obtain ⟨a0, a1, al⟩ := HA.out.cells
          obtain ⟨p0, p1, p2, p3, p4⟩ := cells5 HP.out
          have pl := HP.out.lt
          refine hK.out _ _ ?_ (fun hHeld => ?_)
          · exact ⟨a0, a1, p0, p1, p2, p3, p4⟩
          clear hK K
          try simp only [Act.put, List.setIfInBounds_toArray, List.set_cons_zero, List.set_cons_succ]
          refine wpAnyH_ready (rs := [4]) (by kernel_rfl) (by simp) ?_
          refine AllReadyH.cons rfl (fun K hK => ?_) AllReadyH.nil
          go_simp
          go_at_call 26
          have hlo := HA.out.2.2.2.2.size
          refine (specWrite_val HW0.out _ _ _ _ HR.out.1 HR.out.2 (by omega)).mono ?_
          rintro e w4 ⟨An, cn, rfl, hl, ho, hk⟩
          have HM := Lib.hid (mkM (P := w.heap.size) hl ho hlo (by (try simp only [World.drew, size_alloc1]); omega))
          clear hl ho hlo
          replace HD := Lib.hid (And.intro (HD.out.1.keep hk) HD.out.2)
          have hz := hk.size
          (try simp only [World.drew, size_alloc1] at hz)
          replace HA := Lib.hid (HA.out.keep hk)
          replace HP := Lib.hid (HP.out.keep hk)
          clear hk
          clear a0 a1 al p0 p1 p2 p3 p4 pl
          obtain ⟨a0, a1, al⟩ := HA.out.cells
          obtain ⟨p0, p1, p2, p3, p4⟩ := cells5 HP.out
          have pl := HP.out.lt
          refine hK.out _ _ ?_ (fun hHeld => ?_)
          · exact ⟨a0, a1, p0, p1, p2, p3, p4⟩
          clear hK K
          try simp only [Act.put, List.setIfInBounds_toArray, List.set_cons_zero, List.set_cons_succ]
          refine held_yes (i := 5) (d := some 21) (v := ?_) rfl rfl (by kernel_rfl) (by kernel_rfl) (by kernel_rfl) (fun _ _ _ h => h) (by rfl) ?_ (by assumption) ?_
          rotate_left
          · (intro w hSw; (try dsimp only at hSw); go_simp; (first | done | with_reducible rfl))
          try simp only [Act.put, List.setIfInBounds_toArray, List.set_cons_zero, List.set_cons_succ]
          refine held_yes (i := 6) (d := some 27) (v := ?_) rfl rfl (by kernel_rfl) (by kernel_rfl) (by kernel_rfl) (fun _ _ _ h => h) (by rfl) ?_ (by assumption) ?_
          rotate_left
          · (intro w hSw; (try dsimp only at hSw); go_simp; (first | done | with_reducible rfl))
          try simp only [Act.put, List.setIfInBounds_toArray, List.set_cons_zero, List.set_cons_succ]
          refine held_yes (i := 7) (d := some 28) (v := ?_) rfl rfl (by kernel_rfl) (by kernel_rfl) (by kernel_rfl) (fun _ _ _ h => h) (by rfl) ?_ (by assumption) ?_
          rotate_left
          · (intro w hSw; (try dsimp only at hSw); go_simp; (first | done | with_reducible rfl))
          try simp only [Act.put, List.setIfInBounds_toArray, List.set_cons_zero, List.set_cons_succ]
          have hD2 := HD.out.2
          obtain ⟨d0, d1, e0, e1⟩ := cells2' HD.out.1
          have na0 : w.heap.size ≠ w2.heap.size := by omega
          have nb0 : w2.heap.size ≠ w.heap.size := by omega
          have na1 : w.heap.size + 1 ≠ w2.heap.size := by omega
          have nb1 : w2.heap.size ≠ w.heap.size + 1 := by omega
          refine wpAnyH_ready (rs := [9]) (by kernel_rfl) (by simp) ?_
          refine AllReadyH.cons rfl (fun K hK => ?_) AllReadyH.nil
          go_simp
          refine hK.out _ _ ?_ (fun hHeld => ?_)
          · first | assumption | go_keep
          clear hK K
          try simp only [Act.put, List.setIfInBounds_toArray, List.set_cons_zero, List.set_cons_succ]
          refine wpAnyH_ready (rs := [10]) (by kernel_rfl) (by simp) ?_
          refine AllReadyH.cons rfl (fun K hK => ?_) AllReadyH.nil
          go_simp
          refine hK.out _ _ ?_ (fun hHeld => ?_)
          · first | assumption | go_keep
          clear hK K
          try simp only [Act.put, List.setIfInBounds_toArray, List.set_cons_zero, List.set_cons_succ]
          refine wpAnyH_done (by kernel_rfl) ?_ _
          go_wp2_with fail
          go_meet
          exact ⟨_, _, _, _, _, rfl, rfl, VO.put HA.out.2.2.2.2 HM.out.1 HM.out.2.1 HM.out.2.2.1 HD.out.1 (by omega), HM.out.2.2.2, by rw [size_set2]; exact Nat.le_refl _, HA.out.store na0 (by omega) (by omega) _ _, HP.out.store na1 _ _, by rw [size_set2]; omega⟩
      · have hd0 : Blk (World.alloc w1.drew (.cells #[.int .i64 0, .slice none 0 0] 25)) (w1.heap.size) 25 #[.int .i64 0, .slice none 0 0] := by have h := Blk.new w1.drew 25 #[.int .i64 0, .slice none 0 0]; (try simp only [World.drew, size_alloc1] at h); exact h
        have hd1 : w1.heap.size ≤ w1.heap.size := by omega
        (try simp only [World.drew, size_alloc1] at hd1)
        have HD := Lib.hid (And.intro hd0 hd1)
        clear hd0 hd1
        have HHAx := Lib.hid HA.out
        have HHPx := Lib.hid HP.out
        replace HA := Lib.hid (HA.out.keep (grown_alloc (grown_refl _ none) (.cells #[.int .i64 0, .slice none 0 0] 25)))
        replace HP := Lib.hid (HP.out.keep (grown_alloc (grown_refl _ none) (.cells #[.int .i64 0, .slice none 0 0] 25)))
        try replace HR := Lib.hid (And.intro HR.out.1 (HR.out.2.alloc (.cells #[.int .i64 0, .slice none 0 0] 25)).here)
        go_simp
        clear a0 a1 al p0 p1 p2 p3 p4 pl
        obtain ⟨a0, a1, al⟩ := HA.out.cells
        obtain ⟨p0, p1, p2, p3, p4⟩ := cells5 HP.out
        have pl := HP.out.lt
        refine hK.out _ _ ?_ (fun hHeld => ?_)
        · exact ⟨a0, a1, p0, p1, p2, p3, p4⟩
        clear hK K
        try simp only [Act.put, List.setIfInBounds_toArray, List.set_cons_zero, List.set_cons_succ]
        refine wpAnyH_ready (rs := [1]) (by kernel_rfl) (by simp) ?_
        refine AllReadyH.cons rfl (fun K hK => ?_) AllReadyH.nil
        go_simp
        go_at_call 32
        have hlo := HA.out.2.2.2.2.size
        refine (toBlock_any _ _ _ _ _ _ HA.out.2.1 HA.out.2.2.1 (by omega)).mono ?_
        rintro e w2 ⟨At, ct, rfl, hl, ho, hk⟩
        have HR := Lib.hid (And.intro hl ho.row)
        clear hl ho hlo
        replace HD := Lib.hid (And.intro (HD.out.1.keep hk) HD.out.2)
        have hz := hk.size
        (try simp only [World.drew, size_alloc1] at hz)
        replace HA := Lib.hid (HA.out.keep hk)
        replace HP := Lib.hid (HP.out.keep hk)
        clear hk
        clear a0 a1 al p0 p1 p2 p3 p4 pl
        obtain ⟨a0, a1, al⟩ := HA.out.cells
        obtain ⟨p0, p1, p2, p3, p4⟩ := cells5 HP.out
        have pl := HP.out.lt
        refine hK.out _ _ ?_ (fun hHeld => ?_)
        · exact ⟨a0, a1, p0, p1, p2, p3, p4⟩
        clear hK K
        try simp only [Act.put, List.setIfInBounds_toArray, List.set_cons_zero, List.set_cons_succ]
        refine wpAnyH_ready (rs := [3]) (by kernel_rfl) (by simp) ?_
        refine AllReadyH.cons rfl (fun K hK => ?_) AllReadyH.nil
        go_simp
        go_at_call 36
        refine (toPage_any _ _ _ _ _ _).mono ?_
        rintro e w3 ⟨rfl, hk⟩
        try replace HR := Lib.hid (And.intro HR.out.1 (HR.out.2.kept hk).here)
        replace HD := Lib.hid (And.intro (HD.out.1.keep hk) HD.out.2)
        have hz := hk.size
        (try simp only [World.drew, size_alloc1] at hz)
        replace HA := Lib.hid (HA.out.keep hk)
        replace HP := Lib.hid (HP.out.keep hk)
        clear hk
        clear a0 a1 al p0 p1 p2 p3 p4 pl
        obtain ⟨a0, a1, al⟩ := HA.out.cells
        obtain ⟨p0, p1, p2, p3, p4⟩ := cells5 HP.out
        have pl := HP.out.lt
        refine hK.out _ _ ?_ (fun hHeld => ?_)
        · exact ⟨a0, a1, p0, p1, p2, p3, p4⟩
        clear hK K
        try simp only [Act.put, List.setIfInBounds_toArray, List.set_cons_zero, List.set_cons_succ]
        refine wpAnyH_ready (rs := [4]) (by kernel_rfl) (by simp) ?_
        refine AllReadyH.cons rfl (fun K hK => ?_) AllReadyH.nil
        go_simp
        go_at_call 26
        have hlo := HA.out.2.2.2.2.size
        refine (specWrite_val HW0.out _ _ _ _ HR.out.1 HR.out.2 (by omega)).mono ?_
        rintro e w4 ⟨An, cn, rfl, hl, ho, hk⟩
        have HM := Lib.hid (mkM (P := w.heap.size) hl ho hlo (by (try simp only [World.drew, size_alloc1]); omega))
        clear hl ho hlo
        replace HD := Lib.hid (And.intro (HD.out.1.keep hk) HD.out.2)
        have hz := hk.size
        (try simp only [World.drew, size_alloc1] at hz)
        replace HA := Lib.hid (HA.out.keep hk)
        replace HP := Lib.hid (HP.out.keep hk)
        clear hk
        clear a0 a1 al p0 p1 p2 p3 p4 pl
        obtain ⟨a0, a1, al⟩ := HA.out.cells
        obtain ⟨p0, p1, p2, p3, p4⟩ := cells5 HP.out
        have pl := HP.out.lt
        refine hK.out _ _ ?_ (fun hHeld => ?_)
        · exact ⟨a0, a1, p0, p1, p2, p3, p4⟩
        clear hK K
        try simp only [Act.put, List.setIfInBounds_toArray, List.set_cons_zero, List.set_cons_succ]
        refine held_yes (i := 5) (d := some 21) (v := ?_) rfl rfl (by kernel_rfl) (by kernel_rfl) (by kernel_rfl) (fun _ _ _ h => h) (by rfl) ?_ (by assumption) ?_
        rotate_left
        · (intro w hSw; (try dsimp only at hSw); go_simp; (first | done | with_reducible rfl))
        try simp only [Act.put, List.setIfInBounds_toArray, List.set_cons_zero, List.set_cons_succ]
        refine held_yes (i := 6) (d := some 27) (v := ?_) rfl rfl (by kernel_rfl) (by kernel_rfl) (by kernel_rfl) (fun _ _ _ h => h) (by rfl) ?_ (by assumption) ?_
        rotate_left
        · (intro w hSw; (try dsimp only at hSw); go_simp; (first | done | with_reducible rfl))
        try simp only [Act.put, List.setIfInBounds_toArray, List.set_cons_zero, List.set_cons_succ]
        refine held_yes (i := 7) (d := some 28) (v := ?_) rfl rfl (by kernel_rfl) (by kernel_rfl) (by kernel_rfl) (fun _ _ _ h => h) (by rfl) ?_ (by assumption) ?_
        rotate_left
        · (intro w hSw; (try dsimp only at hSw); go_simp; (first | done | with_reducible rfl))
        try simp only [Act.put, List.setIfInBounds_toArray, List.set_cons_zero, List.set_cons_succ]
        have hD2 := HD.out.2
        obtain ⟨d0, d1, e0, e1⟩ := cells2' HD.out.1
        have na0 : w.heap.size ≠ w1.heap.size := by omega
        have nb0 : w1.heap.size ≠ w.heap.size := by omega
        have na1 : w.heap.size + 1 ≠ w1.heap.size := by omega
        have nb1 : w1.heap.size ≠ w.heap.size + 1 := by omega
        refine wpAnyH_ready (rs := [9]) (by kernel_rfl) (by simp) ?_
        refine AllReadyH.cons rfl (fun K hK => ?_) AllReadyH.nil
        go_simp
        refine hK.out _ _ ?_ (fun hHeld => ?_)
        · first | assumption | go_keep
        clear hK K
        try simp only [Act.put, List.setIfInBounds_toArray, List.set_cons_zero, List.set_cons_succ]
        refine wpAnyH_ready (rs := [10]) (by kernel_rfl) (by simp) ?_
        refine AllReadyH.cons rfl (fun K hK => ?_) AllReadyH.nil
        go_simp
        refine hK.out _ _ ?_ (fun hHeld => ?_)
        · first | assumption | go_keep
        clear hK K
        try simp only [Act.put, List.setIfInBounds_toArray, List.set_cons_zero, List.set_cons_succ]
        refine wpAnyH_done (by kernel_rfl) ?_ _
        go_wp2_with fail
        go_meet
        exact ⟨_, _, _, _, _, rfl, rfl, VO.put HA.out.2.2.2.2 HM.out.1 HM.out.2.1 HM.out.2.2.1 HD.out.1 (by omega), HM.out.2.2.2, by rw [size_set2]; exact Nat.le_refl _, HA.out.store na0 (by omega) (by omega) _ _, HP.out.store na1 _ _, by rw [size_set2]; omega⟩
    case rest =>
      clear a0 a1 al p0 p1 p2 p3 p4 pl HA HP
      obtain ⟨Vu, cu, lou, hiu, Au, rfl, rfl, hu, hqu, hru, hHA, hHP, hsu⟩ := hcut
      have HW := Lib.hid hu
      have HA := Lib.hid hHA
      have HP := Lib.hid hHP
      clear hu hHP hHA
      obtain ⟨a0, a1, al⟩ := HA.out.cells
      obtain ⟨u0, u1, ul⟩ := HW.out.cells
      obtain ⟨p0, p1, p2, p3, p4⟩ := cells5 HP.out
      have pl := HP.out.lt
      go_wp2_with fail
      clear a0 a1 al u0 u1 ul p0 p1 p2 p3 p4 pl
      have hlo := HA.out.2.2.2.2.size
      refine (toBlock_any _ _ _ _ _ _ HA.out.2.1 HA.out.2.2.1 (by omega)).mono ?_
      rintro e w6 ⟨A3, c3, rfl, hl, ho, hk⟩
      have z6 := hk.size
      (try simp only [size_alloc1] at z6)
      replace HA := Lib.hid (HA.out.keep hk)
      replace HW := Lib.hid (HW.out.keep hk)
      replace HP := Lib.hid (HP.out.keep hk)
      have hG := HA.out.2.2.2.2
      have hst := VO.start (t := 25) (m := a0f0) (n := n0f1) (c := c3) hG hl ho hlo
      obtain ⟨a0, a1, al⟩ := HA.out.cells
      obtain ⟨u0, u1, ul⟩ := HW.out.cells
      obtain ⟨p0, p1, p2, p3, p4⟩ := cells5 HP.out
      have pl := HP.out.lt
      replace HA := Lib.hid (HA.out.keep (grown_alloc (grown_refl w6 none) (.cells #[.int .i64 a0f0, .slice A3 n0f1 c3] 25)))
      replace HW := Lib.hid (HW.out.keep (grown_alloc (grown_refl w6 none) (.cells #[.int .i64 a0f0, .slice A3 n0f1 c3] 25)))
      replace HP := Lib.hid (HP.out.keep (grown_alloc (grown_refl w6 none) (.cells #[.int .i64 a0f0, .slice A3 n0f1 c3] 25)))
      obtain ⟨lox, hix, hst, hqx, hrx, hsx⟩ : ∃ lo hi, VO w 25 w6.heap.size a0f0 A3 n0f1 c3 p0f1 lo hi (w6.alloc (.cells #[.int .i64 a0f0, .slice A3 n0f1 c3] 25)) ∧ hiu ≤ lo ∧ hi ≤ w6.heap.size ∧ hiu ≤ hi := ⟨_, _, hst, by (try simp only [size_alloc1]); omega, Nat.le_refl _, by omega⟩
      have HX := Lib.hid hst
      clear hk hl ho hG hlo
      clear hst
      clear hst
      clear a0 a1 al u0 u1 ul p0 p1 p2 p3 p4 pl
      obtain ⟨a0, a1, al⟩ := HA.out.cells
      obtain ⟨u0, u1, ul⟩ := HW.out.cells
      obtain ⟨x0, x1, xl⟩ := HX.out.cells
      obtain ⟨p0, p1, p2, p3, p4⟩ := cells5 HP.out
      have pl := HP.out.lt
      have bu7 := ul
      (try simp only [size_alloc1] at bu7)
      have bx7 := xl
      (try simp only [size_alloc1] at bx7)
      go_upto_region 7 with fail
      go_cut [9, 10] (fun sp sr wx7 => ∃ (Vg cg log hig : Nat) (Ag : Option Addr), sp = .pointer (some ⟨Vg, 0, none⟩) ∧ sr = .int .i64 r ∧ VO w 25 Vg m1 Ag n1 cg ps1 log hig wx7 ∧ hix ≤ log ∧ hig ≤ wx7.heap.size ∧ VB w 45 w.heap.size a0f0 a0f1 n0f1 c0f1 p0f1 0 w.heap.size wx7 ∧ VO w 25 Vu m1 Au n1 cu ps1 lou hiu wx7 ∧ VO w 25 w6.heap.size a0f0 A3 n0f1 c3 p0f1 lox hix wx7 ∧ Blk wx7 (w.heap.size + 1) 51 #[.bool a1f0, .int .i64 a1f1, .int .i64 a1f2, .int .i64 a1f3, .int .i64 a1f4] ∧ w6.heap.size + 1 ≤ wx7.heap.size)
      case first =>
        refine wp_region_held_drew (S := (fun w' => w'.cell? ⟨w6.heap.size, 0, none⟩ = some (.int .i64 a0f0) ∧ w'.cell? ⟨w6.heap.size, 1, none⟩ = some (.slice A3 n0f1 c3) ∧ w'.cell? ⟨w.heap.size + 1, 0, none⟩ = some (.bool a1f0) ∧ w'.cell? ⟨w.heap.size + 1, 1, none⟩ = some (.int .i64 a1f1) ∧ w'.cell? ⟨w.heap.size + 1, 2, none⟩ = some (.int .i64 a1f2) ∧ w'.cell? ⟨w.heap.size + 1, 3, none⟩ = some (.int .i64 a1f3) ∧ w'.cell? ⟨w.heap.size + 1, 4, none⟩ = some (.int .i64 a1f4))) (by kernel_rfl) ?_ (fun hHeld => ?_)
        · exact ⟨x0, x1, p0, p1, p2, p3, p4⟩
        replace HA := Lib.hid (HA.out.keep (grown_drew (grown_refl _ none)))
        replace HW := Lib.hid (HW.out.keep (grown_drew (grown_refl _ none)))
        replace HX := Lib.hid (HX.out.keep (grown_drew (grown_refl _ none)))
        replace HP := Lib.hid (HP.out.keep (grown_drew (grown_refl _ none)))
        refine held_yes (i := 0) (d := some 32) (v := ?_) rfl rfl (by kernel_rfl) (by kernel_rfl) (by kernel_rfl) (fun _ _ _ h => h) (by rfl) ?_ (by assumption) ?_
        rotate_left
        · (intro w hSw; (try dsimp only at hSw); go_simp; (first | done | with_reducible rfl))
        try simp only [Act.put, List.setIfInBounds_toArray, List.set_cons_zero, List.set_cons_succ]
        refine held_yes (i := 1) (d := some 33) (v := ?_) rfl rfl (by kernel_rfl) (by kernel_rfl) (by kernel_rfl) (fun _ _ _ h => h) (by rfl) ?_ (by assumption) ?_
        rotate_left
        · (intro w hSw; (try dsimp only at hSw); go_simp; (first | done | with_reducible rfl))
        try simp only [Act.put, List.setIfInBounds_toArray, List.set_cons_zero, List.set_cons_succ]
        refine wpAnyH_ready (rs := [2, 7]) (by kernel_rfl) (by simp) ?_
        refine AllReadyH.cons rfl (fun K hK => ?_) (AllReadyH.cons rfl (fun K hK => ?_) AllReadyH.nil)
        · go_simp
          go_at_call 36
          refine (toPage_any _ _ _ _ _ _).mono ?_
          rintro e w7 ⟨rfl, hk⟩
          try replace HR := Lib.hid (And.intro HR.out.1 (HR.out.2.kept hk).here)
          have hz := hk.size
          (try simp only [World.drew, size_alloc1] at hz)
          replace HA := Lib.hid (HA.out.keep hk)
          replace HW := Lib.hid (HW.out.keep hk)
          replace HX := Lib.hid (HX.out.keep hk)
          replace HP := Lib.hid (HP.out.keep hk)
          clear hk
          clear a0 a1 al u0 u1 ul x0 x1 xl p0 p1 p2 p3 p4 pl
          obtain ⟨a0, a1, al⟩ := HA.out.cells
          obtain ⟨u0, u1, ul⟩ := HW.out.cells
          obtain ⟨x0, x1, xl⟩ := HX.out.cells
          obtain ⟨p0, p1, p2, p3, p4⟩ := cells5 HP.out
          have pl := HP.out.lt
          refine hK.out _ _ ?_ (fun hHeld => ?_)
          · exact ⟨x0, x1, p0, p1, p2, p3, p4⟩
          clear hK K
          try simp only [Act.put, List.setIfInBounds_toArray, List.set_cons_zero, List.set_cons_succ]
          refine wpAnyH_ready (rs := [3, 7]) (by kernel_rfl) (by simp) ?_
          refine AllReadyH.cons rfl (fun K hK => ?_) (AllReadyH.cons rfl (fun K hK => ?_) AllReadyH.nil)
          · go_simp
            go_at_call 25
            have hlo := HA.out.2.2.2.2.size
            refine (write_val HW0.out _ _ _ _ HX.out.1.2.1 HX.out.1.2.2.1 (by omega)).mono ?_
            rintro e w8 ⟨An, cn, rfl, hl, ho, hk⟩
            have HM := Lib.hid (mkM (P := hix) hl ho hlo (by (try simp only [World.drew, size_alloc1]); omega))
            clear hl ho hlo
            have hz := hk.size
            (try simp only [World.drew, size_alloc1] at hz)
            replace HA := Lib.hid (HA.out.keep hk)
            replace HW := Lib.hid (HW.out.keep hk)
            replace HX := Lib.hid (HX.out.keep hk)
            replace HP := Lib.hid (HP.out.keep hk)
            clear hk
            clear a0 a1 al u0 u1 ul x0 x1 xl p0 p1 p2 p3 p4 pl
            obtain ⟨a0, a1, al⟩ := HA.out.cells
            obtain ⟨u0, u1, ul⟩ := HW.out.cells
            obtain ⟨x0, x1, xl⟩ := HX.out.cells
            obtain ⟨p0, p1, p2, p3, p4⟩ := cells5 HP.out
            have pl := HP.out.lt
            refine hK.out _ _ ?_ (fun hHeld => ?_)
            · exact ⟨x0, x1, p0, p1, p2, p3, p4⟩
            clear hK K
            try simp only [Act.put, List.setIfInBounds_toArray, List.set_cons_zero, List.set_cons_succ]
            refine held_yes (i := 4) (d := some 31) (v := ?_) rfl rfl (by kernel_rfl) (by kernel_rfl) (by kernel_rfl) (fun _ _ _ h => h) (by rfl) ?_ (by assumption) ?_
            rotate_left
            · (intro w hSw; (try dsimp only at hSw); go_simp; (first | done | with_reducible rfl))
            try simp only [Act.put, List.setIfInBounds_toArray, List.set_cons_zero, List.set_cons_succ]
            refine held_yes (i := 5) (d := some 36) (v := ?_) rfl rfl (by kernel_rfl) (by kernel_rfl) (by kernel_rfl) (fun _ _ _ h => h) (by rfl) ?_ (by assumption) ?_
            rotate_left
            · (intro w hSw; (try dsimp only at hSw); go_simp; (first | done | with_reducible rfl))
            try simp only [Act.put, List.setIfInBounds_toArray, List.set_cons_zero, List.set_cons_succ]
            refine held_yes (i := 6) (d := some 37) (v := ?_) rfl rfl (by kernel_rfl) (by kernel_rfl) (by kernel_rfl) (fun _ _ _ h => h) (by rfl) ?_ (by assumption) ?_
            rotate_left
            · (intro w hSw; (try dsimp only at hSw); go_simp; (first | done | with_reducible rfl))
            try simp only [Act.put, List.setIfInBounds_toArray, List.set_cons_zero, List.set_cons_succ]
            refine wpAnyH_ready (rs := [7]) (by kernel_rfl) (by simp) ?_
            refine AllReadyH.cons rfl (fun K hK => ?_) AllReadyH.nil
            have hd0 : Blk (World.alloc w8 (.cells #[.int .i64 0, .slice none 0 0] 25)) (w8.heap.size) 25 #[.int .i64 0, .slice none 0 0] := by have h := Blk.new w8 25 #[.int .i64 0, .slice none 0 0]; (try simp only [World.drew, size_alloc1] at h); exact h
            have hd1 : w6.heap.size + 1 ≤ w8.heap.size := by omega
            (try simp only [World.drew, size_alloc1] at hd1)
            have HD := Lib.hid (And.intro hd0 hd1)
            clear hd0 hd1
            have HHAx := Lib.hid HA.out
            have HHWx := Lib.hid HW.out
            have HHXx := Lib.hid HX.out
            have HHPx := Lib.hid HP.out
            replace HA := Lib.hid (HA.out.keep (grown_alloc (grown_refl _ none) (.cells #[.int .i64 0, .slice none 0 0] 25)))
            replace HW := Lib.hid (HW.out.keep (grown_alloc (grown_refl _ none) (.cells #[.int .i64 0, .slice none 0 0] 25)))
            replace HX := Lib.hid (HX.out.keep (grown_alloc (grown_refl _ none) (.cells #[.int .i64 0, .slice none 0 0] 25)))
            replace HP := Lib.hid (HP.out.keep (grown_alloc (grown_refl _ none) (.cells #[.int .i64 0, .slice none 0 0] 25)))
            try replace HR := Lib.hid (And.intro HR.out.1 (HR.out.2.alloc (.cells #[.int .i64 0, .slice none 0 0] 25)).here)
            go_simp
            clear a0 a1 al u0 u1 ul x0 x1 xl p0 p1 p2 p3 p4 pl
            obtain ⟨a0, a1, al⟩ := HA.out.cells
            obtain ⟨u0, u1, ul⟩ := HW.out.cells
            obtain ⟨x0, x1, xl⟩ := HX.out.cells
            obtain ⟨p0, p1, p2, p3, p4⟩ := cells5 HP.out
            have pl := HP.out.lt
            refine hK.out _ _ ?_ (fun hHeld => ?_)
            · exact ⟨x0, x1, p0, p1, p2, p3, p4⟩
            clear hK K
            try simp only [Act.put, List.setIfInBounds_toArray, List.set_cons_zero, List.set_cons_succ]
            have hD2 := HD.out.2
            obtain ⟨d0, d1, e0, e1⟩ := cells2' HD.out.1
            have na0 : w.heap.size ≠ w8.heap.size := by omega
            have nb0 : w8.heap.size ≠ w.heap.size := by omega
            have na1 : Vu ≠ w8.heap.size := by omega
            have nb1 : w8.heap.size ≠ Vu := by omega
            have na2 : w6.heap.size ≠ w8.heap.size := by omega
            have nb2 : w8.heap.size ≠ w6.heap.size := by omega
            have na3 : w.heap.size + 1 ≠ w8.heap.size := by omega
            have nb3 : w8.heap.size ≠ w.heap.size + 1 := by omega
            refine wpAnyH_ready (rs := [8]) (by kernel_rfl) (by simp) ?_
            refine AllReadyH.cons rfl (fun K hK => ?_) AllReadyH.nil
            go_simp
            refine hK.out _ _ ?_ (fun hHeld => ?_)
            · first | assumption | go_keep
            clear hK K
            try simp only [Act.put, List.setIfInBounds_toArray, List.set_cons_zero, List.set_cons_succ]
            refine wpAnyH_ready (rs := [9]) (by kernel_rfl) (by simp) ?_
            refine AllReadyH.cons rfl (fun K hK => ?_) AllReadyH.nil
            go_simp
            refine hK.out _ _ ?_ (fun hHeld => ?_)
            · first | assumption | go_keep
            clear hK K
            try simp only [Act.put, List.setIfInBounds_toArray, List.set_cons_zero, List.set_cons_succ]
            refine wpAnyH_done (by kernel_rfl) ?_ _
            go_wp2_with fail
            go_meet
            exact ⟨_, _, _, _, _, rfl, rfl, VO.start HHAx.out.2.2.2.2 HM.out.1 HM.out.2.1 HM.out.2.2.1, HM.out.2.2.2, by simp only [size_alloc1]; omega, HHAx.out.keep (grown_alloc (grown_refl _ none) _), HHWx.out.keep (grown_alloc (grown_refl _ none) _), HHXx.out.keep (grown_alloc (grown_refl _ none) _), HHPx.out.keep (grown_alloc (grown_refl _ none) _), by simp only [size_alloc1]; omega⟩
          · have hd0 : Blk (World.alloc w7 (.cells #[.int .i64 0, .slice none 0 0] 25)) (w7.heap.size) 25 #[.int .i64 0, .slice none 0 0] := by have h := Blk.new w7 25 #[.int .i64 0, .slice none 0 0]; (try simp only [World.drew, size_alloc1] at h); exact h
            have hd1 : w6.heap.size + 1 ≤ w7.heap.size := by omega
            (try simp only [World.drew, size_alloc1] at hd1)
            have HD := Lib.hid (And.intro hd0 hd1)
            clear hd0 hd1
            have HHAx := Lib.hid HA.out
            have HHWx := Lib.hid HW.out
            have HHXx := Lib.hid HX.out
            have HHPx := Lib.hid HP.out
            replace HA := Lib.hid (HA.out.keep (grown_alloc (grown_refl _ none) (.cells #[.int .i64 0, .slice none 0 0] 25)))
            replace HW := Lib.hid (HW.out.keep (grown_alloc (grown_refl _ none) (.cells #[.int .i64 0, .slice none 0 0] 25)))
            replace HX := Lib.hid (HX.out.keep (grown_alloc (grown_refl _ none) (.cells #[.int .i64 0, .slice none 0 0] 25)))
            replace HP := Lib.hid (HP.out.keep (grown_alloc (grown_refl _ none) (.cells #[.int .i64 0, .slice none 0 0] 25)))
            try replace HR := Lib.hid (And.intro HR.out.1 (HR.out.2.alloc (.cells #[.int .i64 0, .slice none 0 0] 25)).here)
            go_simp
            clear a0 a1 al u0 u1 ul x0 x1 xl p0 p1 p2 p3 p4 pl
            obtain ⟨a0, a1, al⟩ := HA.out.cells
            obtain ⟨u0, u1, ul⟩ := HW.out.cells
            obtain ⟨x0, x1, xl⟩ := HX.out.cells
            obtain ⟨p0, p1, p2, p3, p4⟩ := cells5 HP.out
            have pl := HP.out.lt
            refine hK.out _ _ ?_ (fun hHeld => ?_)
            · exact ⟨x0, x1, p0, p1, p2, p3, p4⟩
            clear hK K
            try simp only [Act.put, List.setIfInBounds_toArray, List.set_cons_zero, List.set_cons_succ]
            refine wpAnyH_ready (rs := [3]) (by kernel_rfl) (by simp) ?_
            refine AllReadyH.cons rfl (fun K hK => ?_) AllReadyH.nil
            go_simp
            go_at_call 25
            have hlo := HA.out.2.2.2.2.size
            refine (write_val HW0.out _ _ _ _ HX.out.1.2.1 HX.out.1.2.2.1 (by omega)).mono ?_
            rintro e w8 ⟨An, cn, rfl, hl, ho, hk⟩
            have HM := Lib.hid (mkM (P := hix) hl ho hlo (by (try simp only [World.drew, size_alloc1]); omega))
            clear hl ho hlo
            replace HD := Lib.hid (And.intro (HD.out.1.keep hk) HD.out.2)
            have hz := hk.size
            (try simp only [World.drew, size_alloc1] at hz)
            replace HA := Lib.hid (HA.out.keep hk)
            replace HW := Lib.hid (HW.out.keep hk)
            replace HX := Lib.hid (HX.out.keep hk)
            replace HP := Lib.hid (HP.out.keep hk)
            clear hk
            clear a0 a1 al u0 u1 ul x0 x1 xl p0 p1 p2 p3 p4 pl
            obtain ⟨a0, a1, al⟩ := HA.out.cells
            obtain ⟨u0, u1, ul⟩ := HW.out.cells
            obtain ⟨x0, x1, xl⟩ := HX.out.cells
            obtain ⟨p0, p1, p2, p3, p4⟩ := cells5 HP.out
            have pl := HP.out.lt
            refine hK.out _ _ ?_ (fun hHeld => ?_)
            · exact ⟨x0, x1, p0, p1, p2, p3, p4⟩
            clear hK K
            try simp only [Act.put, List.setIfInBounds_toArray, List.set_cons_zero, List.set_cons_succ]
            refine held_yes (i := 4) (d := some 31) (v := ?_) rfl rfl (by kernel_rfl) (by kernel_rfl) (by kernel_rfl) (fun _ _ _ h => h) (by rfl) ?_ (by assumption) ?_
            rotate_left
            · (intro w hSw; (try dsimp only at hSw); go_simp; (first | done | with_reducible rfl))
            try simp only [Act.put, List.setIfInBounds_toArray, List.set_cons_zero, List.set_cons_succ]
            refine held_yes (i := 5) (d := some 36) (v := ?_) rfl rfl (by kernel_rfl) (by kernel_rfl) (by kernel_rfl) (fun _ _ _ h => h) (by rfl) ?_ (by assumption) ?_
            rotate_left
            · (intro w hSw; (try dsimp only at hSw); go_simp; (first | done | with_reducible rfl))
            try simp only [Act.put, List.setIfInBounds_toArray, List.set_cons_zero, List.set_cons_succ]
            refine held_yes (i := 6) (d := some 37) (v := ?_) rfl rfl (by kernel_rfl) (by kernel_rfl) (by kernel_rfl) (fun _ _ _ h => h) (by rfl) ?_ (by assumption) ?_
            rotate_left
            · (intro w hSw; (try dsimp only at hSw); go_simp; (first | done | with_reducible rfl))
            try simp only [Act.put, List.setIfInBounds_toArray, List.set_cons_zero, List.set_cons_succ]
            have hD2 := HD.out.2
            obtain ⟨d0, d1, e0, e1⟩ := cells2' HD.out.1
            have na0 : w.heap.size ≠ w7.heap.size := by omega
            have nb0 : w7.heap.size ≠ w.heap.size := by omega
            have na1 : Vu ≠ w7.heap.size := by omega
            have nb1 : w7.heap.size ≠ Vu := by omega
            have na2 : w6.heap.size ≠ w7.heap.size := by omega
            have nb2 : w7.heap.size ≠ w6.heap.size := by omega
            have na3 : w.heap.size + 1 ≠ w7.heap.size := by omega
            have nb3 : w7.heap.size ≠ w.heap.size + 1 := by omega
            refine wpAnyH_ready (rs := [8]) (by kernel_rfl) (by simp) ?_
            refine AllReadyH.cons rfl (fun K hK => ?_) AllReadyH.nil
            go_simp
            refine hK.out _ _ ?_ (fun hHeld => ?_)
            · first | assumption | go_keep
            clear hK K
            try simp only [Act.put, List.setIfInBounds_toArray, List.set_cons_zero, List.set_cons_succ]
            refine wpAnyH_ready (rs := [9]) (by kernel_rfl) (by simp) ?_
            refine AllReadyH.cons rfl (fun K hK => ?_) AllReadyH.nil
            go_simp
            refine hK.out _ _ ?_ (fun hHeld => ?_)
            · first | assumption | go_keep
            clear hK K
            try simp only [Act.put, List.setIfInBounds_toArray, List.set_cons_zero, List.set_cons_succ]
            refine wpAnyH_done (by kernel_rfl) ?_ _
            go_wp2_with fail
            go_meet
            exact ⟨_, _, _, _, _, rfl, rfl, VO.put HA.out.2.2.2.2 HM.out.1 HM.out.2.1 HM.out.2.2.1 HD.out.1 (by omega), HM.out.2.2.2, by rw [size_set2]; exact Nat.le_refl _, HA.out.store na0 (by omega) (by omega) _ _, HW.out.store na1 (by omega) (by omega) _ _, HX.out.store na2 (by omega) (by omega) _ _, HP.out.store na3 _ _, by rw [size_set2]; omega⟩
        · have hd0 : Blk (World.alloc (World.alloc w6 (.cells #[.int .i64 a0f0, .slice A3 n0f1 c3] 25)).drew (.cells #[.int .i64 0, .slice none 0 0] 25)) (w6.heap.size + 1) 25 #[.int .i64 0, .slice none 0 0] := by have h := Blk.new (World.alloc w6 (.cells #[.int .i64 a0f0, .slice A3 n0f1 c3] 25)).drew 25 #[.int .i64 0, .slice none 0 0]; (try simp only [World.drew, size_alloc1] at h); exact h
          have hd1 : w6.heap.size + 1 ≤ w6.heap.size + 1 := by omega
          (try simp only [World.drew, size_alloc1] at hd1)
          have HD := Lib.hid (And.intro hd0 hd1)
          clear hd0 hd1
          have HHAx := Lib.hid HA.out
          have HHWx := Lib.hid HW.out
          have HHXx := Lib.hid HX.out
          have HHPx := Lib.hid HP.out
          replace HA := Lib.hid (HA.out.keep (grown_alloc (grown_refl _ none) (.cells #[.int .i64 0, .slice none 0 0] 25)))
          replace HW := Lib.hid (HW.out.keep (grown_alloc (grown_refl _ none) (.cells #[.int .i64 0, .slice none 0 0] 25)))
          replace HX := Lib.hid (HX.out.keep (grown_alloc (grown_refl _ none) (.cells #[.int .i64 0, .slice none 0 0] 25)))
          replace HP := Lib.hid (HP.out.keep (grown_alloc (grown_refl _ none) (.cells #[.int .i64 0, .slice none 0 0] 25)))
          try replace HR := Lib.hid (And.intro HR.out.1 (HR.out.2.alloc (.cells #[.int .i64 0, .slice none 0 0] 25)).here)
          go_simp
          clear a0 a1 al u0 u1 ul x0 x1 xl p0 p1 p2 p3 p4 pl
          obtain ⟨a0, a1, al⟩ := HA.out.cells
          obtain ⟨u0, u1, ul⟩ := HW.out.cells
          obtain ⟨x0, x1, xl⟩ := HX.out.cells
          obtain ⟨p0, p1, p2, p3, p4⟩ := cells5 HP.out
          have pl := HP.out.lt
          refine hK.out _ _ ?_ (fun hHeld => ?_)
          · exact ⟨x0, x1, p0, p1, p2, p3, p4⟩
          clear hK K
          try simp only [Act.put, List.setIfInBounds_toArray, List.set_cons_zero, List.set_cons_succ]
          refine wpAnyH_ready (rs := [2]) (by kernel_rfl) (by simp) ?_
          refine AllReadyH.cons rfl (fun K hK => ?_) AllReadyH.nil
          go_simp
          go_at_call 36
          refine (toPage_any _ _ _ _ _ _).mono ?_
          rintro e w7 ⟨rfl, hk⟩
          try replace HR := Lib.hid (And.intro HR.out.1 (HR.out.2.kept hk).here)
          replace HD := Lib.hid (And.intro (HD.out.1.keep hk) HD.out.2)
          have hz := hk.size
          (try simp only [World.drew, size_alloc1] at hz)
          replace HA := Lib.hid (HA.out.keep hk)
          replace HW := Lib.hid (HW.out.keep hk)
          replace HX := Lib.hid (HX.out.keep hk)
          replace HP := Lib.hid (HP.out.keep hk)
          clear hk
          clear a0 a1 al u0 u1 ul x0 x1 xl p0 p1 p2 p3 p4 pl
          obtain ⟨a0, a1, al⟩ := HA.out.cells
          obtain ⟨u0, u1, ul⟩ := HW.out.cells
          obtain ⟨x0, x1, xl⟩ := HX.out.cells
          obtain ⟨p0, p1, p2, p3, p4⟩ := cells5 HP.out
          have pl := HP.out.lt
          refine hK.out _ _ ?_ (fun hHeld => ?_)
          · exact ⟨x0, x1, p0, p1, p2, p3, p4⟩
          clear hK K
          try simp only [Act.put, List.setIfInBounds_toArray, List.set_cons_zero, List.set_cons_succ]
          refine wpAnyH_ready (rs := [3]) (by kernel_rfl) (by simp) ?_
          refine AllReadyH.cons rfl (fun K hK => ?_) AllReadyH.nil
          go_simp
          go_at_call 25
          have hlo := HA.out.2.2.2.2.size
          refine (write_val HW0.out _ _ _ _ HX.out.1.2.1 HX.out.1.2.2.1 (by omega)).mono ?_
          rintro e w8 ⟨An, cn, rfl, hl, ho, hk⟩
          have HM := Lib.hid (mkM (P := hix) hl ho hlo (by (try simp only [World.drew, size_alloc1]); omega))
          clear hl ho hlo
          replace HD := Lib.hid (And.intro (HD.out.1.keep hk) HD.out.2)
          have hz := hk.size
          (try simp only [World.drew, size_alloc1] at hz)
          replace HA := Lib.hid (HA.out.keep hk)
          replace HW := Lib.hid (HW.out.keep hk)
          replace HX := Lib.hid (HX.out.keep hk)
          replace HP := Lib.hid (HP.out.keep hk)
          clear hk
          clear a0 a1 al u0 u1 ul x0 x1 xl p0 p1 p2 p3 p4 pl
          obtain ⟨a0, a1, al⟩ := HA.out.cells
          obtain ⟨u0, u1, ul⟩ := HW.out.cells
          obtain ⟨x0, x1, xl⟩ := HX.out.cells
          obtain ⟨p0, p1, p2, p3, p4⟩ := cells5 HP.out
          have pl := HP.out.lt
          refine hK.out _ _ ?_ (fun hHeld => ?_)
          · exact ⟨x0, x1, p0, p1, p2, p3, p4⟩
          clear hK K
          try simp only [Act.put, List.setIfInBounds_toArray, List.set_cons_zero, List.set_cons_succ]
          refine held_yes (i := 4) (d := some 31) (v := ?_) rfl rfl (by kernel_rfl) (by kernel_rfl) (by kernel_rfl) (fun _ _ _ h => h) (by rfl) ?_ (by assumption) ?_
          rotate_left
          · (intro w hSw; (try dsimp only at hSw); go_simp; (first | done | with_reducible rfl))
          try simp only [Act.put, List.setIfInBounds_toArray, List.set_cons_zero, List.set_cons_succ]
          refine held_yes (i := 5) (d := some 36) (v := ?_) rfl rfl (by kernel_rfl) (by kernel_rfl) (by kernel_rfl) (fun _ _ _ h => h) (by rfl) ?_ (by assumption) ?_
          rotate_left
          · (intro w hSw; (try dsimp only at hSw); go_simp; (first | done | with_reducible rfl))
          try simp only [Act.put, List.setIfInBounds_toArray, List.set_cons_zero, List.set_cons_succ]
          refine held_yes (i := 6) (d := some 37) (v := ?_) rfl rfl (by kernel_rfl) (by kernel_rfl) (by kernel_rfl) (fun _ _ _ h => h) (by rfl) ?_ (by assumption) ?_
          rotate_left
          · (intro w hSw; (try dsimp only at hSw); go_simp; (first | done | with_reducible rfl))
          try simp only [Act.put, List.setIfInBounds_toArray, List.set_cons_zero, List.set_cons_succ]
          have hD2 := HD.out.2
          obtain ⟨d0, d1, e0, e1⟩ := cells2' HD.out.1
          have na0 : w.heap.size ≠ w6.heap.size + 1 := by omega
          have nb0 : w6.heap.size + 1 ≠ w.heap.size := by omega
          have na1 : Vu ≠ w6.heap.size + 1 := by omega
          have nb1 : w6.heap.size + 1 ≠ Vu := by omega
          have na2 : w6.heap.size ≠ w6.heap.size + 1 := by omega
          have nb2 : w6.heap.size + 1 ≠ w6.heap.size := by omega
          have na3 : w.heap.size + 1 ≠ w6.heap.size + 1 := by omega
          have nb3 : w6.heap.size + 1 ≠ w.heap.size + 1 := by omega
          have nc0 : w.heap.size ≠ w6.heap.size := by omega
          have nc1 : w6.heap.size ≠ w.heap.size := by omega
          refine wpAnyH_ready (rs := [8]) (by kernel_rfl) (by simp) ?_
          refine AllReadyH.cons rfl (fun K hK => ?_) AllReadyH.nil
          go_simp
          refine hK.out _ _ ?_ (fun hHeld => ?_)
          · first | assumption | go_keep
          clear hK K
          try simp only [Act.put, List.setIfInBounds_toArray, List.set_cons_zero, List.set_cons_succ]
          refine wpAnyH_ready (rs := [9]) (by kernel_rfl) (by simp) ?_
          refine AllReadyH.cons rfl (fun K hK => ?_) AllReadyH.nil
          go_simp
          refine hK.out _ _ ?_ (fun hHeld => ?_)
          · first | assumption | go_keep
          clear hK K
          try simp only [Act.put, List.setIfInBounds_toArray, List.set_cons_zero, List.set_cons_succ]
          refine wpAnyH_done (by kernel_rfl) ?_ _
          go_wp2_with fail
          go_meet
          exact ⟨_, _, _, _, _, rfl, rfl, VO.put HA.out.2.2.2.2 HM.out.1 HM.out.2.1 HM.out.2.2.1 HD.out.1 (by omega), HM.out.2.2.2, by rw [size_set2]; exact Nat.le_refl _, HA.out.store na0 (by omega) (by omega) _ _, HW.out.store na1 (by omega) (by omega) _ _, HX.out.store na2 (by omega) (by omega) _ _, HP.out.store na3 _ _, by rw [size_set2]; omega⟩
      case rest =>
        clear a0 a1 al u0 u1 ul x0 x1 xl p0 p1 p2 p3 p4 pl HA HW HX HP
        obtain ⟨Vg, cg, log, hig, Ag, rfl, rfl, hg, hqg, hrg, hHA, hHW, hHX, hHP, hsg⟩ := hcut
        have HG := Lib.hid hg
        have HA := Lib.hid hHA
        have HW := Lib.hid hHW
        have HX := Lib.hid hHX
        have HP := Lib.hid hHP
        clear hg hHP hHA hHW hHX
        obtain ⟨a0, a1, al⟩ := HA.out.cells
        obtain ⟨u0, u1, ul⟩ := HW.out.cells
        obtain ⟨x0, x1, xl⟩ := HX.out.cells
        obtain ⟨g0, g1, gl⟩ := HG.out.cells
        obtain ⟨p0, p1, p2, p3, p4⟩ := cells5 HP.out
        have pl := HP.out.lt
        go_wp2_with fail
        clear a0 a1 al u0 u1 ul x0 x1 xl g0 g1 gl p0 p1 p2 p3 p4 pl
        refine (eqBlock_same _ _ _ _ _ n1 ps1 _ HG.out.1.2.1 HG.out.1.2.2.1 HW.out.1.2.2.1 (by omega)).mono ?_
        rintro e w10 ⟨rfl, hk⟩
        have z10 := hk.size
        (try simp only [size_alloc1] at z10)
        replace HA := Lib.hid (HA.out.keep hk)
        replace HW := Lib.hid (HW.out.keep hk)
        replace HX := Lib.hid (HX.out.keep hk)
        replace HG := Lib.hid (HG.out.keep hk)
        replace HP := Lib.hid (HP.out.keep hk)
        clear hk
        obtain ⟨a0, a1, al⟩ := HA.out.cells
        obtain ⟨u0, u1, ul⟩ := HW.out.cells
        obtain ⟨x0, x1, xl⟩ := HX.out.cells
        obtain ⟨g0, g1, gl⟩ := HG.out.cells
        obtain ⟨p0, p1, p2, p3, p4⟩ := cells5 HP.out
        have pl := HP.out.lt
        go_wp2_with fail
        refine wp_region_held_drew (S := (fun w' => w'.cell? ⟨w6.heap.size, 0, none⟩ = some (.int .i64 a0f0) ∧ w'.cell? ⟨w6.heap.size, 1, none⟩ = some (.slice A3 n0f1 c3) ∧ w'.cell? ⟨w.heap.size, 0, none⟩ = some (.int .i64 a0f0) ∧ w'.cell? ⟨w.heap.size, 1, none⟩ = some (.slice a0f1 n0f1 c0f1))) (by kernel_rfl) ?_ (fun hHeld => ?_)
        · exact ⟨x0, x1, a0, a1⟩
        replace HA := Lib.hid (HA.out.keep (grown_drew (grown_refl _ none)))
        replace HW := Lib.hid (HW.out.keep (grown_drew (grown_refl _ none)))
        replace HX := Lib.hid (HX.out.keep (grown_drew (grown_refl _ none)))
        replace HG := Lib.hid (HG.out.keep (grown_drew (grown_refl _ none)))
        replace HP := Lib.hid (HP.out.keep (grown_drew (grown_refl _ none)))
        refine held_yes (i := 0) (d := some 47) (v := ?_) rfl rfl (by kernel_rfl) (by kernel_rfl) (by kernel_rfl) (fun _ _ _ h => h) (by rfl) ?_ (by assumption) ?_
        rotate_left
        · (intro w hSw; (try dsimp only at hSw); go_simp; (first | done | with_reducible rfl))
        try simp only [Act.put, List.setIfInBounds_toArray, List.set_cons_zero, List.set_cons_succ]
        refine held_yes (i := 1) (d := some 48) (v := ?_) rfl rfl (by kernel_rfl) (by kernel_rfl) (by kernel_rfl) (fun _ _ _ h => h) (by rfl) ?_ (by assumption) ?_
        rotate_left
        · (intro w hSw; (try dsimp only at hSw); go_simp; (first | done | with_reducible rfl))
        try simp only [Act.put, List.setIfInBounds_toArray, List.set_cons_zero, List.set_cons_succ]
        refine wpAnyH_ready (rs := [2]) (by kernel_rfl) (by simp) ?_
        refine AllReadyH.cons rfl (fun K hK => ?_) AllReadyH.nil
        go_simp
        go_at_call 32
        refine (toBlock_any _ _ _ _ _ _ HA.out.2.1 HA.out.2.2.1 (by omega)).mono ?_
        rintro e w11 ⟨A11, c11, rfl, hl, ho, hk⟩
        replace HA := Lib.hid (HA.out.keep hk)
        replace HW := Lib.hid (HW.out.keep hk)
        replace HX := Lib.hid (HX.out.keep hk)
        replace HG := Lib.hid (HG.out.keep hk)
        replace HP := Lib.hid (HP.out.keep hk)
        have HR11 := Lib.hid (And.intro hl ho.row)
        have z11 := hk.size
        (try simp only [World.drew, size_alloc1] at z11)
        clear hk hl ho
        clear a0 a1 al u0 u1 ul x0 x1 xl g0 g1 gl p0 p1 p2 p3 p4 pl
        obtain ⟨a0, a1, al⟩ := HA.out.cells
        obtain ⟨u0, u1, ul⟩ := HW.out.cells
        obtain ⟨x0, x1, xl⟩ := HX.out.cells
        obtain ⟨g0, g1, gl⟩ := HG.out.cells
        obtain ⟨p0, p1, p2, p3, p4⟩ := cells5 HP.out
        have pl := HP.out.lt
        refine hK.out _ _ ?_ (fun hHeld => ?_)
        · exact ⟨x0, x1, a0, a1⟩
        clear hK K
        try simp only [Act.put, List.setIfInBounds_toArray, List.set_cons_zero, List.set_cons_succ]
        refine wpAnyH_ready (rs := [3]) (by kernel_rfl) (by simp) ?_
        refine AllReadyH.cons rfl (fun K hK => ?_) AllReadyH.nil
        go_simp
        go_at_call 33
        refine (eqBlock_same _ _ _ _ _ _ _ _ HX.out.1.2.1 HX.out.1.2.2.1 HR11.out.2 (by omega)).mono ?_
        rintro e w12 ⟨rfl, hk⟩
        have z12 := hk.size
        (try simp only [size_alloc1] at z12)
        replace HA := Lib.hid (HA.out.keep hk)
        replace HW := Lib.hid (HW.out.keep hk)
        replace HX := Lib.hid (HX.out.keep hk)
        replace HG := Lib.hid (HG.out.keep hk)
        replace HP := Lib.hid (HP.out.keep hk)
        clear hk
        clear a0 a1 al u0 u1 ul x0 x1 xl g0 g1 gl p0 p1 p2 p3 p4 pl
        obtain ⟨a0, a1, al⟩ := HA.out.cells
        obtain ⟨u0, u1, ul⟩ := HW.out.cells
        obtain ⟨x0, x1, xl⟩ := HX.out.cells
        obtain ⟨g0, g1, gl⟩ := HG.out.cells
        obtain ⟨p0, p1, p2, p3, p4⟩ := cells5 HP.out
        have pl := HP.out.lt
        refine hK.out _ _ ?_ (fun hHeld => ?_)
        · exact ⟨x0, x1, a0, a1⟩
        clear hK K
        try simp only [Act.put, List.setIfInBounds_toArray, List.set_cons_zero, List.set_cons_succ]
        refine held_yes (i := 4) (d := some 51) (v := ?_) rfl rfl (by kernel_rfl) (by kernel_rfl) (by kernel_rfl) (fun _ _ _ h => h) (by rfl) ?_ (by assumption) ?_
        rotate_left
        · (intro w hSw; (try dsimp only at hSw); go_simp; (first | done | with_reducible rfl))
        try simp only [Act.put, List.setIfInBounds_toArray, List.set_cons_zero, List.set_cons_succ]
        refine wpAnyH_done (by kernel_rfl) ?_ _
        go_wp2_with fail
        obtain ⟨vX, hvX⟩ : ∃ v : Int, v = ((1 + 5 * n0f1 : Nat) : Int) := ⟨_, rfl⟩
        have tX : decide (vX < 0) = false := decide_eq_false (by omega)
        have HVX := Lib.hid hvX
        clear hvX
        clear a0 a1 al u0 u1 ul x0 x1 xl g0 g1 gl p0 p1 p2 p3 p4 pl
        refine (markBlock_val _ _ _ _ _ _ _ HVX.out HX.out.1.2.1 HX.out.2.1 (by omega)).mono ?_
        rintro e w13 ⟨rfl, ho, hk⟩
        have hxlo := HX.out.2.2.2
        replace HA := Lib.hid (HA.out.marked HX.out (by decide) (by omega) hk)
        replace HW := Lib.hid (HW.out.marked HX.out (by decide) (by omega) hk)
        replace HG := Lib.hid (HG.out.marked HX.out (by decide) (by omega) hk)
        replace HP := Lib.hid (HP.out.marked HX.out (by decide) hk)
        replace HX := Lib.hid (HX.out.self (by decide) hk ho (marks_length _ _))
        have z13 := hk.size
        (try simp only [size_alloc1] at z13)
        clear ho hk hxlo
        obtain ⟨a0, a1, al⟩ := HA.out.cells
        obtain ⟨u0, u1, ul⟩ := HW.out.cells
        obtain ⟨x0, x1, xl⟩ := HX.out.cells
        obtain ⟨g0, g1, gl⟩ := HG.out.cells
        obtain ⟨p0, p1, p2, p3, p4⟩ := cells5 HP.out
        have pl := HP.out.lt
        go_wp2_with fail
        clear a0 a1 al u0 u1 ul x0 x1 xl g0 g1 gl p0 p1 p2 p3 p4 pl
        refine (eqBlock_same _ _ _ _ _ n1 ps1 _ HG.out.1.2.1 HG.out.1.2.2.1 HW.out.1.2.2.1 (by omega)).mono ?_
        rintro e w14 ⟨rfl, hk⟩
        have z14 := hk.size
        (try simp only [size_alloc1] at z14)
        replace HA := Lib.hid (HA.out.keep hk)
        replace HW := Lib.hid (HW.out.keep hk)
        replace HX := Lib.hid (HX.out.keep hk)
        replace HG := Lib.hid (HG.out.keep hk)
        replace HP := Lib.hid (HP.out.keep hk)
        clear hk
        obtain ⟨a0, a1, al⟩ := HA.out.cells
        obtain ⟨u0, u1, ul⟩ := HW.out.cells
        obtain ⟨x0, x1, xl⟩ := HX.out.cells
        obtain ⟨g0, g1, gl⟩ := HG.out.cells
        obtain ⟨p0, p1, p2, p3, p4⟩ := cells5 HP.out
        have pl := HP.out.lt
        go_wp2_with fail
        obtain ⟨vG, hvG⟩ : ∃ v : Int, v = ((1 + 5 * n1 : Nat) : Int) := ⟨_, rfl⟩
        have tG : decide (vG < 0) = false := decide_eq_false (by omega)
        have HVG := Lib.hid hvG
        clear hvG
        clear a0 a1 al u0 u1 ul x0 x1 xl g0 g1 gl p0 p1 p2 p3 p4 pl
        refine (markBlock_val _ _ _ _ _ _ _ HVG.out HG.out.1.2.1 HG.out.2.1 (by omega)).mono ?_
        rintro e w15 ⟨rfl, ho, hk⟩
        have hxlo := HG.out.2.2.2
        replace HA := Lib.hid (HA.out.marked HG.out (by decide) (by omega) hk)
        replace HW := Lib.hid (HW.out.marked HG.out (by decide) (by omega) hk)
        replace HX := Lib.hid (HX.out.marked HG.out (by decide) (by omega) hk)
        replace HP := Lib.hid (HP.out.marked HG.out (by decide) hk)
        replace HG := Lib.hid (HG.out.self (by decide) hk ho (marks_length _ _))
        have z15 := hk.size
        (try simp only [size_alloc1] at z15)
        clear ho hk hxlo
        obtain ⟨a0, a1, al⟩ := HA.out.cells
        obtain ⟨u0, u1, ul⟩ := HW.out.cells
        obtain ⟨x0, x1, xl⟩ := HX.out.cells
        obtain ⟨g0, g1, gl⟩ := HG.out.cells
        obtain ⟨p0, p1, p2, p3, p4⟩ := cells5 HP.out
        have pl := HP.out.lt
        go_wp2_with fail
        clear a0 a1 al u0 u1 ul x0 x1 xl g0 g1 gl p0 p1 p2 p3 p4 pl
        refine (heldBlock_val _ _ _ _ _ HVG.out HG.out.1.2.2.1 (by omega)).mono ?_
        rintro e w16 ⟨rfl, hk⟩
        have z16 := hk.size
        (try simp only [size_alloc1] at z16)
        replace HA := Lib.hid (HA.out.keep hk)
        replace HW := Lib.hid (HW.out.keep hk)
        replace HX := Lib.hid (HX.out.keep hk)
        replace HG := Lib.hid (HG.out.keep hk)
        replace HP := Lib.hid (HP.out.keep hk)
        clear hk
        obtain ⟨a0, a1, al⟩ := HA.out.cells
        obtain ⟨u0, u1, ul⟩ := HW.out.cells
        obtain ⟨x0, x1, xl⟩ := HX.out.cells
        obtain ⟨g0, g1, gl⟩ := HG.out.cells
        obtain ⟨p0, p1, p2, p3, p4⟩ := cells5 HP.out
        have pl := HP.out.lt
        have bu24 := ul
        (try simp only [size_alloc1] at bu24)
        have bx24 := xl
        (try simp only [size_alloc1] at bx24)
        have bg24 := gl
        (try simp only [size_alloc1] at bg24)
        go_upto_region 24 with fail
        go_cut [14, 15] (fun sp sr wx24 => ∃ (Vh ch loh hih : Nat) (Ah : Option Addr), sp = .pointer (some ⟨Vh, 0, none⟩) ∧ sr = .int .i64 r ∧ VO w 25 Vh m1 Ah n1 ch ps1 loh hih wx24 ∧ hig ≤ loh ∧ hih ≤ wx24.heap.size ∧ VB w 45 w.heap.size a0f0 a0f1 n0f1 c0f1 p0f1 0 w.heap.size wx24 ∧ VO w 25 Vu m1 Au n1 cu ps1 lou hiu wx24 ∧ VO w 25 w6.heap.size a0f0 A3 n0f1 c3 (marks 1 n0f1) lox hix wx24 ∧ VO w 25 Vg m1 Ag n1 cg (marks 1 n1) log hig wx24 ∧ Blk wx24 (w.heap.size + 1) 51 #[.bool a1f0, .int .i64 a1f1, .int .i64 a1f2, .int .i64 a1f3, .int .i64 a1f4] ∧ w16.heap.size ≤ wx24.heap.size)
        case first =>
          refine wp_region_held_drew (S := (fun w' => w'.cell? ⟨w.heap.size, 0, none⟩ = some (.int .i64 a0f0) ∧ w'.cell? ⟨w.heap.size, 1, none⟩ = some (.slice a0f1 n0f1 c0f1) ∧ w'.cell? ⟨w.heap.size + 1, 0, none⟩ = some (.bool a1f0) ∧ w'.cell? ⟨w.heap.size + 1, 1, none⟩ = some (.int .i64 a1f1) ∧ w'.cell? ⟨w.heap.size + 1, 2, none⟩ = some (.int .i64 a1f2) ∧ w'.cell? ⟨w.heap.size + 1, 3, none⟩ = some (.int .i64 a1f3) ∧ w'.cell? ⟨w.heap.size + 1, 4, none⟩ = some (.int .i64 a1f4))) (by kernel_rfl) ?_ (fun hHeld => ?_)
          · exact ⟨a0, a1, p0, p1, p2, p3, p4⟩
          replace HA := Lib.hid (HA.out.keep (grown_drew (grown_refl _ none)))
          replace HW := Lib.hid (HW.out.keep (grown_drew (grown_refl _ none)))
          replace HX := Lib.hid (HX.out.keep (grown_drew (grown_refl _ none)))
          replace HG := Lib.hid (HG.out.keep (grown_drew (grown_refl _ none)))
          replace HP := Lib.hid (HP.out.keep (grown_drew (grown_refl _ none)))
          refine held_yes (i := 0) (d := some 80) (v := ?_) rfl rfl (by kernel_rfl) (by kernel_rfl) (by kernel_rfl) (fun _ _ _ h => h) (by rfl) ?_ (by assumption) ?_
          rotate_left
          · (intro w hSw; (try dsimp only at hSw); go_simp; (first | done | with_reducible rfl))
          try simp only [Act.put, List.setIfInBounds_toArray, List.set_cons_zero, List.set_cons_succ]
          refine held_yes (i := 2) (d := some 82) (v := ?_) rfl rfl (by kernel_rfl) (by kernel_rfl) (by kernel_rfl) (fun _ _ _ h => h) (by rfl) ?_ (by assumption) ?_
          rotate_left
          · (intro w hSw; (try dsimp only at hSw); go_simp; (first | done | with_reducible rfl))
          try simp only [Act.put, List.setIfInBounds_toArray, List.set_cons_zero, List.set_cons_succ]
          refine wpAnyH_ready (rs := [1, 8]) (by kernel_rfl) (by simp) ?_
          refine AllReadyH.cons rfl (fun K hK => ?_) (AllReadyH.cons rfl (fun K hK => ?_) AllReadyH.nil)
          · go_simp
            go_at_call 32
            have hlo := HA.out.2.2.2.2.size
            refine (toBlock_any _ _ _ _ _ _ HA.out.2.1 HA.out.2.2.1 (by omega)).mono ?_
            rintro e w17 ⟨At, ct, rfl, hl, ho, hk⟩
            have HR := Lib.hid (And.intro hl ho.row)
            clear hl ho hlo
            have hz := hk.size
            (try simp only [World.drew, size_alloc1] at hz)
            replace HA := Lib.hid (HA.out.keep hk)
            replace HW := Lib.hid (HW.out.keep hk)
            replace HX := Lib.hid (HX.out.keep hk)
            replace HG := Lib.hid (HG.out.keep hk)
            replace HP := Lib.hid (HP.out.keep hk)
            clear hk
            clear a0 a1 al u0 u1 ul x0 x1 xl g0 g1 gl p0 p1 p2 p3 p4 pl
            obtain ⟨a0, a1, al⟩ := HA.out.cells
            obtain ⟨u0, u1, ul⟩ := HW.out.cells
            obtain ⟨x0, x1, xl⟩ := HX.out.cells
            obtain ⟨g0, g1, gl⟩ := HG.out.cells
            obtain ⟨p0, p1, p2, p3, p4⟩ := cells5 HP.out
            have pl := HP.out.lt
            refine hK.out _ _ ?_ (fun hHeld => ?_)
            · exact ⟨a0, a1, p0, p1, p2, p3, p4⟩
            clear hK K
            try simp only [Act.put, List.setIfInBounds_toArray, List.set_cons_zero, List.set_cons_succ]
            refine wpAnyH_ready (rs := [3, 8]) (by kernel_rfl) (by simp) ?_
            refine AllReadyH.cons rfl (fun K hK => ?_) (AllReadyH.cons rfl (fun K hK => ?_) AllReadyH.nil)
            · go_simp
              go_at_call 36
              refine (toPage_any _ _ _ _ _ _).mono ?_
              rintro e w18 ⟨rfl, hk⟩
              try replace HR := Lib.hid (And.intro HR.out.1 (HR.out.2.kept hk).here)
              have hz := hk.size
              (try simp only [World.drew, size_alloc1] at hz)
              replace HA := Lib.hid (HA.out.keep hk)
              replace HW := Lib.hid (HW.out.keep hk)
              replace HX := Lib.hid (HX.out.keep hk)
              replace HG := Lib.hid (HG.out.keep hk)
              replace HP := Lib.hid (HP.out.keep hk)
              clear hk
              clear a0 a1 al u0 u1 ul x0 x1 xl g0 g1 gl p0 p1 p2 p3 p4 pl
              obtain ⟨a0, a1, al⟩ := HA.out.cells
              obtain ⟨u0, u1, ul⟩ := HW.out.cells
              obtain ⟨x0, x1, xl⟩ := HX.out.cells
              obtain ⟨g0, g1, gl⟩ := HG.out.cells
              obtain ⟨p0, p1, p2, p3, p4⟩ := cells5 HP.out
              have pl := HP.out.lt
              refine hK.out _ _ ?_ (fun hHeld => ?_)
              · exact ⟨a0, a1, p0, p1, p2, p3, p4⟩
              clear hK K
              try simp only [Act.put, List.setIfInBounds_toArray, List.set_cons_zero, List.set_cons_succ]
              refine wpAnyH_ready (rs := [4, 8]) (by kernel_rfl) (by simp) ?_
              refine AllReadyH.cons rfl (fun K hK => ?_) (AllReadyH.cons rfl (fun K hK => ?_) AllReadyH.nil)
              · go_simp
                go_at_call 25
                have hlo := HA.out.2.2.2.2.size
                refine (write_val HW0.out _ _ _ _ HR.out.1 HR.out.2 (by omega)).mono ?_
                rintro e w19 ⟨An, cn, rfl, hl, ho, hk⟩
                have HM := Lib.hid (mkM (P := hig) hl ho hlo (by (try simp only [World.drew, size_alloc1]); omega))
                clear hl ho hlo
                have hz := hk.size
                (try simp only [World.drew, size_alloc1] at hz)
                replace HA := Lib.hid (HA.out.keep hk)
                replace HW := Lib.hid (HW.out.keep hk)
                replace HX := Lib.hid (HX.out.keep hk)
                replace HG := Lib.hid (HG.out.keep hk)
                replace HP := Lib.hid (HP.out.keep hk)
                clear hk
                clear a0 a1 al u0 u1 ul x0 x1 xl g0 g1 gl p0 p1 p2 p3 p4 pl
                obtain ⟨a0, a1, al⟩ := HA.out.cells
                obtain ⟨u0, u1, ul⟩ := HW.out.cells
                obtain ⟨x0, x1, xl⟩ := HX.out.cells
                obtain ⟨g0, g1, gl⟩ := HG.out.cells
                obtain ⟨p0, p1, p2, p3, p4⟩ := cells5 HP.out
                have pl := HP.out.lt
                refine hK.out _ _ ?_ (fun hHeld => ?_)
                · exact ⟨a0, a1, p0, p1, p2, p3, p4⟩
                clear hK K
                try simp only [Act.put, List.setIfInBounds_toArray, List.set_cons_zero, List.set_cons_succ]
                refine held_yes (i := 5) (d := some 79) (v := ?_) rfl rfl (by kernel_rfl) (by kernel_rfl) (by kernel_rfl) (fun _ _ _ h => h) (by rfl) ?_ (by assumption) ?_
                rotate_left
                · (intro w hSw; (try dsimp only at hSw); go_simp; (first | done | with_reducible rfl))
                try simp only [Act.put, List.setIfInBounds_toArray, List.set_cons_zero, List.set_cons_succ]
                refine held_yes (i := 6) (d := some 85) (v := ?_) rfl rfl (by kernel_rfl) (by kernel_rfl) (by kernel_rfl) (fun _ _ _ h => h) (by rfl) ?_ (by assumption) ?_
                rotate_left
                · (intro w hSw; (try dsimp only at hSw); go_simp; (first | done | with_reducible rfl))
                try simp only [Act.put, List.setIfInBounds_toArray, List.set_cons_zero, List.set_cons_succ]
                refine held_yes (i := 7) (d := some 86) (v := ?_) rfl rfl (by kernel_rfl) (by kernel_rfl) (by kernel_rfl) (fun _ _ _ h => h) (by rfl) ?_ (by assumption) ?_
                rotate_left
                · (intro w hSw; (try dsimp only at hSw); go_simp; (first | done | with_reducible rfl))
                try simp only [Act.put, List.setIfInBounds_toArray, List.set_cons_zero, List.set_cons_succ]
                refine wpAnyH_ready (rs := [8]) (by kernel_rfl) (by simp) ?_
                refine AllReadyH.cons rfl (fun K hK => ?_) AllReadyH.nil
                have hd0 : Blk (World.alloc w19 (.cells #[.int .i64 0, .slice none 0 0] 25)) (w19.heap.size) 25 #[.int .i64 0, .slice none 0 0] := by have h := Blk.new w19 25 #[.int .i64 0, .slice none 0 0]; (try simp only [World.drew, size_alloc1] at h); exact h
                have hd1 : w16.heap.size ≤ w19.heap.size := by omega
                (try simp only [World.drew, size_alloc1] at hd1)
                have HD := Lib.hid (And.intro hd0 hd1)
                clear hd0 hd1
                have HHAx := Lib.hid HA.out
                have HHWx := Lib.hid HW.out
                have HHXx := Lib.hid HX.out
                have HHGx := Lib.hid HG.out
                have HHPx := Lib.hid HP.out
                replace HA := Lib.hid (HA.out.keep (grown_alloc (grown_refl _ none) (.cells #[.int .i64 0, .slice none 0 0] 25)))
                replace HW := Lib.hid (HW.out.keep (grown_alloc (grown_refl _ none) (.cells #[.int .i64 0, .slice none 0 0] 25)))
                replace HX := Lib.hid (HX.out.keep (grown_alloc (grown_refl _ none) (.cells #[.int .i64 0, .slice none 0 0] 25)))
                replace HG := Lib.hid (HG.out.keep (grown_alloc (grown_refl _ none) (.cells #[.int .i64 0, .slice none 0 0] 25)))
                replace HP := Lib.hid (HP.out.keep (grown_alloc (grown_refl _ none) (.cells #[.int .i64 0, .slice none 0 0] 25)))
                try replace HR := Lib.hid (And.intro HR.out.1 (HR.out.2.alloc (.cells #[.int .i64 0, .slice none 0 0] 25)).here)
                go_simp
                clear a0 a1 al u0 u1 ul x0 x1 xl g0 g1 gl p0 p1 p2 p3 p4 pl
                obtain ⟨a0, a1, al⟩ := HA.out.cells
                obtain ⟨u0, u1, ul⟩ := HW.out.cells
                obtain ⟨x0, x1, xl⟩ := HX.out.cells
                obtain ⟨g0, g1, gl⟩ := HG.out.cells
                obtain ⟨p0, p1, p2, p3, p4⟩ := cells5 HP.out
                have pl := HP.out.lt
                refine hK.out _ _ ?_ (fun hHeld => ?_)
                · exact ⟨a0, a1, p0, p1, p2, p3, p4⟩
                clear hK K
                try simp only [Act.put, List.setIfInBounds_toArray, List.set_cons_zero, List.set_cons_succ]
                have hD2 := HD.out.2
                obtain ⟨d0, d1, e0, e1⟩ := cells2' HD.out.1
                have na0 : w.heap.size ≠ w19.heap.size := by omega
                have nb0 : w19.heap.size ≠ w.heap.size := by omega
                have na1 : Vu ≠ w19.heap.size := by omega
                have nb1 : w19.heap.size ≠ Vu := by omega
                have na2 : w6.heap.size ≠ w19.heap.size := by omega
                have nb2 : w19.heap.size ≠ w6.heap.size := by omega
                have na3 : Vg ≠ w19.heap.size := by omega
                have nb3 : w19.heap.size ≠ Vg := by omega
                have na4 : w.heap.size + 1 ≠ w19.heap.size := by omega
                have nb4 : w19.heap.size ≠ w.heap.size + 1 := by omega
                refine wpAnyH_ready (rs := [9]) (by kernel_rfl) (by simp) ?_
                refine AllReadyH.cons rfl (fun K hK => ?_) AllReadyH.nil
                go_simp
                refine hK.out _ _ ?_ (fun hHeld => ?_)
                · first | assumption | go_keep
                clear hK K
                try simp only [Act.put, List.setIfInBounds_toArray, List.set_cons_zero, List.set_cons_succ]
                refine wpAnyH_ready (rs := [10]) (by kernel_rfl) (by simp) ?_
                refine AllReadyH.cons rfl (fun K hK => ?_) AllReadyH.nil
                go_simp
                refine hK.out _ _ ?_ (fun hHeld => ?_)
                · first | assumption | go_keep
                clear hK K
                try simp only [Act.put, List.setIfInBounds_toArray, List.set_cons_zero, List.set_cons_succ]
                refine wpAnyH_done (by kernel_rfl) ?_ _
                go_wp2_with fail
                go_meet
                exact ⟨_, _, _, _, _, rfl, rfl, VO.start HHAx.out.2.2.2.2 HM.out.1 HM.out.2.1 HM.out.2.2.1, HM.out.2.2.2, by simp only [size_alloc1]; omega, HHAx.out.keep (grown_alloc (grown_refl _ none) _), HHWx.out.keep (grown_alloc (grown_refl _ none) _), HHXx.out.keep (grown_alloc (grown_refl _ none) _), HHGx.out.keep (grown_alloc (grown_refl _ none) _), HHPx.out.keep (grown_alloc (grown_refl _ none) _), by simp only [size_alloc1]; omega⟩
              · have hd0 : Blk (World.alloc w18 (.cells #[.int .i64 0, .slice none 0 0] 25)) (w18.heap.size) 25 #[.int .i64 0, .slice none 0 0] := by have h := Blk.new w18 25 #[.int .i64 0, .slice none 0 0]; (try simp only [World.drew, size_alloc1] at h); exact h
                have hd1 : w16.heap.size ≤ w18.heap.size := by omega
                (try simp only [World.drew, size_alloc1] at hd1)
                have HD := Lib.hid (And.intro hd0 hd1)
                clear hd0 hd1
                have HHAx := Lib.hid HA.out
                have HHWx := Lib.hid HW.out
                have HHXx := Lib.hid HX.out
                have HHGx := Lib.hid HG.out
                have HHPx := Lib.hid HP.out
                replace HA := Lib.hid (HA.out.keep (grown_alloc (grown_refl _ none) (.cells #[.int .i64 0, .slice none 0 0] 25)))
                replace HW := Lib.hid (HW.out.keep (grown_alloc (grown_refl _ none) (.cells #[.int .i64 0, .slice none 0 0] 25)))
                replace HX := Lib.hid (HX.out.keep (grown_alloc (grown_refl _ none) (.cells #[.int .i64 0, .slice none 0 0] 25)))
                replace HG := Lib.hid (HG.out.keep (grown_alloc (grown_refl _ none) (.cells #[.int .i64 0, .slice none 0 0] 25)))
                replace HP := Lib.hid (HP.out.keep (grown_alloc (grown_refl _ none) (.cells #[.int .i64 0, .slice none 0 0] 25)))
                try replace HR := Lib.hid (And.intro HR.out.1 (HR.out.2.alloc (.cells #[.int .i64 0, .slice none 0 0] 25)).here)
                go_simp
                clear a0 a1 al u0 u1 ul x0 x1 xl g0 g1 gl p0 p1 p2 p3 p4 pl
                obtain ⟨a0, a1, al⟩ := HA.out.cells
                obtain ⟨u0, u1, ul⟩ := HW.out.cells
                obtain ⟨x0, x1, xl⟩ := HX.out.cells
                obtain ⟨g0, g1, gl⟩ := HG.out.cells
                obtain ⟨p0, p1, p2, p3, p4⟩ := cells5 HP.out
                have pl := HP.out.lt
                refine hK.out _ _ ?_ (fun hHeld => ?_)
                · exact ⟨a0, a1, p0, p1, p2, p3, p4⟩
                clear hK K
                try simp only [Act.put, List.setIfInBounds_toArray, List.set_cons_zero, List.set_cons_succ]
                refine wpAnyH_ready (rs := [4]) (by kernel_rfl) (by simp) ?_
                refine AllReadyH.cons rfl (fun K hK => ?_) AllReadyH.nil
                go_simp
                go_at_call 25
                have hlo := HA.out.2.2.2.2.size
                refine (write_val HW0.out _ _ _ _ HR.out.1 HR.out.2 (by omega)).mono ?_
                rintro e w19 ⟨An, cn, rfl, hl, ho, hk⟩
                have HM := Lib.hid (mkM (P := hig) hl ho hlo (by (try simp only [World.drew, size_alloc1]); omega))
                clear hl ho hlo
                replace HD := Lib.hid (And.intro (HD.out.1.keep hk) HD.out.2)
                have hz := hk.size
                (try simp only [World.drew, size_alloc1] at hz)
                replace HA := Lib.hid (HA.out.keep hk)
                replace HW := Lib.hid (HW.out.keep hk)
                replace HX := Lib.hid (HX.out.keep hk)
                replace HG := Lib.hid (HG.out.keep hk)
                replace HP := Lib.hid (HP.out.keep hk)
                clear hk
                clear a0 a1 al u0 u1 ul x0 x1 xl g0 g1 gl p0 p1 p2 p3 p4 pl
                obtain ⟨a0, a1, al⟩ := HA.out.cells
                obtain ⟨u0, u1, ul⟩ := HW.out.cells
                obtain ⟨x0, x1, xl⟩ := HX.out.cells
                obtain ⟨g0, g1, gl⟩ := HG.out.cells
                obtain ⟨p0, p1, p2, p3, p4⟩ := cells5 HP.out
                have pl := HP.out.lt
                refine hK.out _ _ ?_ (fun hHeld => ?_)
                · exact ⟨a0, a1, p0, p1, p2, p3, p4⟩
                clear hK K
                try simp only [Act.put, List.setIfInBounds_toArray, List.set_cons_zero, List.set_cons_succ]
                refine held_yes (i := 5) (d := some 79) (v := ?_) rfl rfl (by kernel_rfl) (by kernel_rfl) (by kernel_rfl) (fun _ _ _ h => h) (by rfl) ?_ (by assumption) ?_
                rotate_left
                · (intro w hSw; (try dsimp only at hSw); go_simp; (first | done | with_reducible rfl))
                try simp only [Act.put, List.setIfInBounds_toArray, List.set_cons_zero, List.set_cons_succ]
                refine held_yes (i := 6) (d := some 85) (v := ?_) rfl rfl (by kernel_rfl) (by kernel_rfl) (by kernel_rfl) (fun _ _ _ h => h) (by rfl) ?_ (by assumption) ?_
                rotate_left
                · (intro w hSw; (try dsimp only at hSw); go_simp; (first | done | with_reducible rfl))
                try simp only [Act.put, List.setIfInBounds_toArray, List.set_cons_zero, List.set_cons_succ]
                refine held_yes (i := 7) (d := some 86) (v := ?_) rfl rfl (by kernel_rfl) (by kernel_rfl) (by kernel_rfl) (fun _ _ _ h => h) (by rfl) ?_ (by assumption) ?_
                rotate_left
                · (intro w hSw; (try dsimp only at hSw); go_simp; (first | done | with_reducible rfl))
                try simp only [Act.put, List.setIfInBounds_toArray, List.set_cons_zero, List.set_cons_succ]
                have hD2 := HD.out.2
                obtain ⟨d0, d1, e0, e1⟩ := cells2' HD.out.1
                have na0 : w.heap.size ≠ w18.heap.size := by omega
                have nb0 : w18.heap.size ≠ w.heap.size := by omega
                have na1 : Vu ≠ w18.heap.size := by omega
                have nb1 : w18.heap.size ≠ Vu := by omega
                have na2 : w6.heap.size ≠ w18.heap.size := by omega
                have nb2 : w18.heap.size ≠ w6.heap.size := by omega
                have na3 : Vg ≠ w18.heap.size := by omega
                have nb3 : w18.heap.size ≠ Vg := by omega
                have na4 : w.heap.size + 1 ≠ w18.heap.size := by omega
                have nb4 : w18.heap.size ≠ w.heap.size + 1 := by omega
                refine wpAnyH_ready (rs := [9]) (by kernel_rfl) (by simp) ?_
                refine AllReadyH.cons rfl (fun K hK => ?_) AllReadyH.nil
                go_simp
                refine hK.out _ _ ?_ (fun hHeld => ?_)
                · first | assumption | go_keep
                clear hK K
                try simp only [Act.put, List.setIfInBounds_toArray, List.set_cons_zero, List.set_cons_succ]
                refine wpAnyH_ready (rs := [10]) (by kernel_rfl) (by simp) ?_
                refine AllReadyH.cons rfl (fun K hK => ?_) AllReadyH.nil
                go_simp
                refine hK.out _ _ ?_ (fun hHeld => ?_)
                · first | assumption | go_keep
                clear hK K
                try simp only [Act.put, List.setIfInBounds_toArray, List.set_cons_zero, List.set_cons_succ]
                refine wpAnyH_done (by kernel_rfl) ?_ _
                go_wp2_with fail
                go_meet
                exact ⟨_, _, _, _, _, rfl, rfl, VO.put HA.out.2.2.2.2 HM.out.1 HM.out.2.1 HM.out.2.2.1 HD.out.1 (by omega), HM.out.2.2.2, by rw [size_set2]; exact Nat.le_refl _, HA.out.store na0 (by omega) (by omega) _ _, HW.out.store na1 (by omega) (by omega) _ _, HX.out.store na2 (by omega) (by omega) _ _, HG.out.store na3 (by omega) (by omega) _ _, HP.out.store na4 _ _, by rw [size_set2]; omega⟩
            · have hd0 : Blk (World.alloc w17 (.cells #[.int .i64 0, .slice none 0 0] 25)) (w17.heap.size) 25 #[.int .i64 0, .slice none 0 0] := by have h := Blk.new w17 25 #[.int .i64 0, .slice none 0 0]; (try simp only [World.drew, size_alloc1] at h); exact h
              have hd1 : w16.heap.size ≤ w17.heap.size := by omega
              (try simp only [World.drew, size_alloc1] at hd1)
              have HD := Lib.hid (And.intro hd0 hd1)
              clear hd0 hd1
              have HHAx := Lib.hid HA.out
              have HHWx := Lib.hid HW.out
              have HHXx := Lib.hid HX.out
              have HHGx := Lib.hid HG.out
              have HHPx := Lib.hid HP.out
              replace HA := Lib.hid (HA.out.keep (grown_alloc (grown_refl _ none) (.cells #[.int .i64 0, .slice none 0 0] 25)))
              replace HW := Lib.hid (HW.out.keep (grown_alloc (grown_refl _ none) (.cells #[.int .i64 0, .slice none 0 0] 25)))
              replace HX := Lib.hid (HX.out.keep (grown_alloc (grown_refl _ none) (.cells #[.int .i64 0, .slice none 0 0] 25)))
              replace HG := Lib.hid (HG.out.keep (grown_alloc (grown_refl _ none) (.cells #[.int .i64 0, .slice none 0 0] 25)))
              replace HP := Lib.hid (HP.out.keep (grown_alloc (grown_refl _ none) (.cells #[.int .i64 0, .slice none 0 0] 25)))
              try replace HR := Lib.hid (And.intro HR.out.1 (HR.out.2.alloc (.cells #[.int .i64 0, .slice none 0 0] 25)).here)
              go_simp
              clear a0 a1 al u0 u1 ul x0 x1 xl g0 g1 gl p0 p1 p2 p3 p4 pl
              obtain ⟨a0, a1, al⟩ := HA.out.cells
              obtain ⟨u0, u1, ul⟩ := HW.out.cells
              obtain ⟨x0, x1, xl⟩ := HX.out.cells
              obtain ⟨g0, g1, gl⟩ := HG.out.cells
              obtain ⟨p0, p1, p2, p3, p4⟩ := cells5 HP.out
              have pl := HP.out.lt
              refine hK.out _ _ ?_ (fun hHeld => ?_)
              · exact ⟨a0, a1, p0, p1, p2, p3, p4⟩
              clear hK K
              try simp only [Act.put, List.setIfInBounds_toArray, List.set_cons_zero, List.set_cons_succ]
              refine wpAnyH_ready (rs := [3]) (by kernel_rfl) (by simp) ?_
              refine AllReadyH.cons rfl (fun K hK => ?_) AllReadyH.nil
              go_simp
              go_at_call 36
              refine (toPage_any _ _ _ _ _ _).mono ?_
              rintro e w18 ⟨rfl, hk⟩
              try replace HR := Lib.hid (And.intro HR.out.1 (HR.out.2.kept hk).here)
              replace HD := Lib.hid (And.intro (HD.out.1.keep hk) HD.out.2)
              have hz := hk.size
              (try simp only [World.drew, size_alloc1] at hz)
              replace HA := Lib.hid (HA.out.keep hk)
              replace HW := Lib.hid (HW.out.keep hk)
              replace HX := Lib.hid (HX.out.keep hk)
              replace HG := Lib.hid (HG.out.keep hk)
              replace HP := Lib.hid (HP.out.keep hk)
              clear hk
              clear a0 a1 al u0 u1 ul x0 x1 xl g0 g1 gl p0 p1 p2 p3 p4 pl
              obtain ⟨a0, a1, al⟩ := HA.out.cells
              obtain ⟨u0, u1, ul⟩ := HW.out.cells
              obtain ⟨x0, x1, xl⟩ := HX.out.cells
              obtain ⟨g0, g1, gl⟩ := HG.out.cells
              obtain ⟨p0, p1, p2, p3, p4⟩ := cells5 HP.out
              have pl := HP.out.lt
              refine hK.out _ _ ?_ (fun hHeld => ?_)
              · exact ⟨a0, a1, p0, p1, p2, p3, p4⟩
              clear hK K
              try simp only [Act.put, List.setIfInBounds_toArray, List.set_cons_zero, List.set_cons_succ]
              refine wpAnyH_ready (rs := [4]) (by kernel_rfl) (by simp) ?_
              refine AllReadyH.cons rfl (fun K hK => ?_) AllReadyH.nil
              go_simp
              go_at_call 25
              have hlo := HA.out.2.2.2.2.size
              refine (write_val HW0.out _ _ _ _ HR.out.1 HR.out.2 (by omega)).mono ?_
              rintro e w19 ⟨An, cn, rfl, hl, ho, hk⟩
              have HM := Lib.hid (mkM (P := hig) hl ho hlo (by (try simp only [World.drew, size_alloc1]); omega))
              clear hl ho hlo
              replace HD := Lib.hid (And.intro (HD.out.1.keep hk) HD.out.2)
              have hz := hk.size
              (try simp only [World.drew, size_alloc1] at hz)
              replace HA := Lib.hid (HA.out.keep hk)
              replace HW := Lib.hid (HW.out.keep hk)
              replace HX := Lib.hid (HX.out.keep hk)
              replace HG := Lib.hid (HG.out.keep hk)
              replace HP := Lib.hid (HP.out.keep hk)
              clear hk
              clear a0 a1 al u0 u1 ul x0 x1 xl g0 g1 gl p0 p1 p2 p3 p4 pl
              obtain ⟨a0, a1, al⟩ := HA.out.cells
              obtain ⟨u0, u1, ul⟩ := HW.out.cells
              obtain ⟨x0, x1, xl⟩ := HX.out.cells
              obtain ⟨g0, g1, gl⟩ := HG.out.cells
              obtain ⟨p0, p1, p2, p3, p4⟩ := cells5 HP.out
              have pl := HP.out.lt
              refine hK.out _ _ ?_ (fun hHeld => ?_)
              · exact ⟨a0, a1, p0, p1, p2, p3, p4⟩
              clear hK K
              try simp only [Act.put, List.setIfInBounds_toArray, List.set_cons_zero, List.set_cons_succ]
              refine held_yes (i := 5) (d := some 79) (v := ?_) rfl rfl (by kernel_rfl) (by kernel_rfl) (by kernel_rfl) (fun _ _ _ h => h) (by rfl) ?_ (by assumption) ?_
              rotate_left
              · (intro w hSw; (try dsimp only at hSw); go_simp; (first | done | with_reducible rfl))
              try simp only [Act.put, List.setIfInBounds_toArray, List.set_cons_zero, List.set_cons_succ]
              refine held_yes (i := 6) (d := some 85) (v := ?_) rfl rfl (by kernel_rfl) (by kernel_rfl) (by kernel_rfl) (fun _ _ _ h => h) (by rfl) ?_ (by assumption) ?_
              rotate_left
              · (intro w hSw; (try dsimp only at hSw); go_simp; (first | done | with_reducible rfl))
              try simp only [Act.put, List.setIfInBounds_toArray, List.set_cons_zero, List.set_cons_succ]
              refine held_yes (i := 7) (d := some 86) (v := ?_) rfl rfl (by kernel_rfl) (by kernel_rfl) (by kernel_rfl) (fun _ _ _ h => h) (by rfl) ?_ (by assumption) ?_
              rotate_left
              · (intro w hSw; (try dsimp only at hSw); go_simp; (first | done | with_reducible rfl))
              try simp only [Act.put, List.setIfInBounds_toArray, List.set_cons_zero, List.set_cons_succ]
              have hD2 := HD.out.2
              obtain ⟨d0, d1, e0, e1⟩ := cells2' HD.out.1
              have na0 : w.heap.size ≠ w17.heap.size := by omega
              have nb0 : w17.heap.size ≠ w.heap.size := by omega
              have na1 : Vu ≠ w17.heap.size := by omega
              have nb1 : w17.heap.size ≠ Vu := by omega
              have na2 : w6.heap.size ≠ w17.heap.size := by omega
              have nb2 : w17.heap.size ≠ w6.heap.size := by omega
              have na3 : Vg ≠ w17.heap.size := by omega
              have nb3 : w17.heap.size ≠ Vg := by omega
              have na4 : w.heap.size + 1 ≠ w17.heap.size := by omega
              have nb4 : w17.heap.size ≠ w.heap.size + 1 := by omega
              refine wpAnyH_ready (rs := [9]) (by kernel_rfl) (by simp) ?_
              refine AllReadyH.cons rfl (fun K hK => ?_) AllReadyH.nil
              go_simp
              refine hK.out _ _ ?_ (fun hHeld => ?_)
              · first | assumption | go_keep
              clear hK K
              try simp only [Act.put, List.setIfInBounds_toArray, List.set_cons_zero, List.set_cons_succ]
              refine wpAnyH_ready (rs := [10]) (by kernel_rfl) (by simp) ?_
              refine AllReadyH.cons rfl (fun K hK => ?_) AllReadyH.nil
              go_simp
              refine hK.out _ _ ?_ (fun hHeld => ?_)
              · first | assumption | go_keep
              clear hK K
              try simp only [Act.put, List.setIfInBounds_toArray, List.set_cons_zero, List.set_cons_succ]
              refine wpAnyH_done (by kernel_rfl) ?_ _
              go_wp2_with fail
              go_meet
              exact ⟨_, _, _, _, _, rfl, rfl, VO.put HA.out.2.2.2.2 HM.out.1 HM.out.2.1 HM.out.2.2.1 HD.out.1 (by omega), HM.out.2.2.2, by rw [size_set2]; exact Nat.le_refl _, HA.out.store na0 (by omega) (by omega) _ _, HW.out.store na1 (by omega) (by omega) _ _, HX.out.store na2 (by omega) (by omega) _ _, HG.out.store na3 (by omega) (by omega) _ _, HP.out.store na4 _ _, by rw [size_set2]; omega⟩
          · have hd0 : Blk (World.alloc w16.drew (.cells #[.int .i64 0, .slice none 0 0] 25)) (w16.heap.size) 25 #[.int .i64 0, .slice none 0 0] := by have h := Blk.new w16.drew 25 #[.int .i64 0, .slice none 0 0]; (try simp only [World.drew, size_alloc1] at h); exact h
            have hd1 : w16.heap.size ≤ w16.heap.size := by omega
            (try simp only [World.drew, size_alloc1] at hd1)
            have HD := Lib.hid (And.intro hd0 hd1)
            clear hd0 hd1
            have HHAx := Lib.hid HA.out
            have HHWx := Lib.hid HW.out
            have HHXx := Lib.hid HX.out
            have HHGx := Lib.hid HG.out
            have HHPx := Lib.hid HP.out
            replace HA := Lib.hid (HA.out.keep (grown_alloc (grown_refl _ none) (.cells #[.int .i64 0, .slice none 0 0] 25)))
            replace HW := Lib.hid (HW.out.keep (grown_alloc (grown_refl _ none) (.cells #[.int .i64 0, .slice none 0 0] 25)))
            replace HX := Lib.hid (HX.out.keep (grown_alloc (grown_refl _ none) (.cells #[.int .i64 0, .slice none 0 0] 25)))
            replace HG := Lib.hid (HG.out.keep (grown_alloc (grown_refl _ none) (.cells #[.int .i64 0, .slice none 0 0] 25)))
            replace HP := Lib.hid (HP.out.keep (grown_alloc (grown_refl _ none) (.cells #[.int .i64 0, .slice none 0 0] 25)))
            try replace HR := Lib.hid (And.intro HR.out.1 (HR.out.2.alloc (.cells #[.int .i64 0, .slice none 0 0] 25)).here)
            go_simp
            clear a0 a1 al u0 u1 ul x0 x1 xl g0 g1 gl p0 p1 p2 p3 p4 pl
            obtain ⟨a0, a1, al⟩ := HA.out.cells
            obtain ⟨u0, u1, ul⟩ := HW.out.cells
            obtain ⟨x0, x1, xl⟩ := HX.out.cells
            obtain ⟨g0, g1, gl⟩ := HG.out.cells
            obtain ⟨p0, p1, p2, p3, p4⟩ := cells5 HP.out
            have pl := HP.out.lt
            refine hK.out _ _ ?_ (fun hHeld => ?_)
            · exact ⟨a0, a1, p0, p1, p2, p3, p4⟩
            clear hK K
            try simp only [Act.put, List.setIfInBounds_toArray, List.set_cons_zero, List.set_cons_succ]
            refine wpAnyH_ready (rs := [1]) (by kernel_rfl) (by simp) ?_
            refine AllReadyH.cons rfl (fun K hK => ?_) AllReadyH.nil
            go_simp
            go_at_call 32
            have hlo := HA.out.2.2.2.2.size
            refine (toBlock_any _ _ _ _ _ _ HA.out.2.1 HA.out.2.2.1 (by omega)).mono ?_
            rintro e w17 ⟨At, ct, rfl, hl, ho, hk⟩
            have HR := Lib.hid (And.intro hl ho.row)
            clear hl ho hlo
            replace HD := Lib.hid (And.intro (HD.out.1.keep hk) HD.out.2)
            have hz := hk.size
            (try simp only [World.drew, size_alloc1] at hz)
            replace HA := Lib.hid (HA.out.keep hk)
            replace HW := Lib.hid (HW.out.keep hk)
            replace HX := Lib.hid (HX.out.keep hk)
            replace HG := Lib.hid (HG.out.keep hk)
            replace HP := Lib.hid (HP.out.keep hk)
            clear hk
            clear a0 a1 al u0 u1 ul x0 x1 xl g0 g1 gl p0 p1 p2 p3 p4 pl
            obtain ⟨a0, a1, al⟩ := HA.out.cells
            obtain ⟨u0, u1, ul⟩ := HW.out.cells
            obtain ⟨x0, x1, xl⟩ := HX.out.cells
            obtain ⟨g0, g1, gl⟩ := HG.out.cells
            obtain ⟨p0, p1, p2, p3, p4⟩ := cells5 HP.out
            have pl := HP.out.lt
            refine hK.out _ _ ?_ (fun hHeld => ?_)
            · exact ⟨a0, a1, p0, p1, p2, p3, p4⟩
            clear hK K
            try simp only [Act.put, List.setIfInBounds_toArray, List.set_cons_zero, List.set_cons_succ]
            refine wpAnyH_ready (rs := [3]) (by kernel_rfl) (by simp) ?_
            refine AllReadyH.cons rfl (fun K hK => ?_) AllReadyH.nil
            go_simp
            go_at_call 36
            refine (toPage_any _ _ _ _ _ _).mono ?_
            rintro e w18 ⟨rfl, hk⟩
            try replace HR := Lib.hid (And.intro HR.out.1 (HR.out.2.kept hk).here)
            replace HD := Lib.hid (And.intro (HD.out.1.keep hk) HD.out.2)
            have hz := hk.size
            (try simp only [World.drew, size_alloc1] at hz)
            replace HA := Lib.hid (HA.out.keep hk)
            replace HW := Lib.hid (HW.out.keep hk)
            replace HX := Lib.hid (HX.out.keep hk)
            replace HG := Lib.hid (HG.out.keep hk)
            replace HP := Lib.hid (HP.out.keep hk)
            clear hk
            clear a0 a1 al u0 u1 ul x0 x1 xl g0 g1 gl p0 p1 p2 p3 p4 pl
            obtain ⟨a0, a1, al⟩ := HA.out.cells
            obtain ⟨u0, u1, ul⟩ := HW.out.cells
            obtain ⟨x0, x1, xl⟩ := HX.out.cells
            obtain ⟨g0, g1, gl⟩ := HG.out.cells
            obtain ⟨p0, p1, p2, p3, p4⟩ := cells5 HP.out
            have pl := HP.out.lt
            refine hK.out _ _ ?_ (fun hHeld => ?_)
            · exact ⟨a0, a1, p0, p1, p2, p3, p4⟩
            clear hK K
            try simp only [Act.put, List.setIfInBounds_toArray, List.set_cons_zero, List.set_cons_succ]
            refine wpAnyH_ready (rs := [4]) (by kernel_rfl) (by simp) ?_
            refine AllReadyH.cons rfl (fun K hK => ?_) AllReadyH.nil
            go_simp
            go_at_call 25
            have hlo := HA.out.2.2.2.2.size
            refine (write_val HW0.out _ _ _ _ HR.out.1 HR.out.2 (by omega)).mono ?_
            rintro e w19 ⟨An, cn, rfl, hl, ho, hk⟩
            have HM := Lib.hid (mkM (P := hig) hl ho hlo (by (try simp only [World.drew, size_alloc1]); omega))
            clear hl ho hlo
            replace HD := Lib.hid (And.intro (HD.out.1.keep hk) HD.out.2)
            have hz := hk.size
            (try simp only [World.drew, size_alloc1] at hz)
            replace HA := Lib.hid (HA.out.keep hk)
            replace HW := Lib.hid (HW.out.keep hk)
            replace HX := Lib.hid (HX.out.keep hk)
            replace HG := Lib.hid (HG.out.keep hk)
            replace HP := Lib.hid (HP.out.keep hk)
            clear hk
            clear a0 a1 al u0 u1 ul x0 x1 xl g0 g1 gl p0 p1 p2 p3 p4 pl
            obtain ⟨a0, a1, al⟩ := HA.out.cells
            obtain ⟨u0, u1, ul⟩ := HW.out.cells
            obtain ⟨x0, x1, xl⟩ := HX.out.cells
            obtain ⟨g0, g1, gl⟩ := HG.out.cells
            obtain ⟨p0, p1, p2, p3, p4⟩ := cells5 HP.out
            have pl := HP.out.lt
            refine hK.out _ _ ?_ (fun hHeld => ?_)
            · exact ⟨a0, a1, p0, p1, p2, p3, p4⟩
            clear hK K
            try simp only [Act.put, List.setIfInBounds_toArray, List.set_cons_zero, List.set_cons_succ]
            refine held_yes (i := 5) (d := some 79) (v := ?_) rfl rfl (by kernel_rfl) (by kernel_rfl) (by kernel_rfl) (fun _ _ _ h => h) (by rfl) ?_ (by assumption) ?_
            rotate_left
            · (intro w hSw; (try dsimp only at hSw); go_simp; (first | done | with_reducible rfl))
            try simp only [Act.put, List.setIfInBounds_toArray, List.set_cons_zero, List.set_cons_succ]
            refine held_yes (i := 6) (d := some 85) (v := ?_) rfl rfl (by kernel_rfl) (by kernel_rfl) (by kernel_rfl) (fun _ _ _ h => h) (by rfl) ?_ (by assumption) ?_
            rotate_left
            · (intro w hSw; (try dsimp only at hSw); go_simp; (first | done | with_reducible rfl))
            try simp only [Act.put, List.setIfInBounds_toArray, List.set_cons_zero, List.set_cons_succ]
            refine held_yes (i := 7) (d := some 86) (v := ?_) rfl rfl (by kernel_rfl) (by kernel_rfl) (by kernel_rfl) (fun _ _ _ h => h) (by rfl) ?_ (by assumption) ?_
            rotate_left
            · (intro w hSw; (try dsimp only at hSw); go_simp; (first | done | with_reducible rfl))
            try simp only [Act.put, List.setIfInBounds_toArray, List.set_cons_zero, List.set_cons_succ]
            have hD2 := HD.out.2
            obtain ⟨d0, d1, e0, e1⟩ := cells2' HD.out.1
            have na0 : w.heap.size ≠ w16.heap.size := by omega
            have nb0 : w16.heap.size ≠ w.heap.size := by omega
            have na1 : Vu ≠ w16.heap.size := by omega
            have nb1 : w16.heap.size ≠ Vu := by omega
            have na2 : w6.heap.size ≠ w16.heap.size := by omega
            have nb2 : w16.heap.size ≠ w6.heap.size := by omega
            have na3 : Vg ≠ w16.heap.size := by omega
            have nb3 : w16.heap.size ≠ Vg := by omega
            have na4 : w.heap.size + 1 ≠ w16.heap.size := by omega
            have nb4 : w16.heap.size ≠ w.heap.size + 1 := by omega
            refine wpAnyH_ready (rs := [9]) (by kernel_rfl) (by simp) ?_
            refine AllReadyH.cons rfl (fun K hK => ?_) AllReadyH.nil
            go_simp
            refine hK.out _ _ ?_ (fun hHeld => ?_)
            · first | assumption | go_keep
            clear hK K
            try simp only [Act.put, List.setIfInBounds_toArray, List.set_cons_zero, List.set_cons_succ]
            refine wpAnyH_ready (rs := [10]) (by kernel_rfl) (by simp) ?_
            refine AllReadyH.cons rfl (fun K hK => ?_) AllReadyH.nil
            go_simp
            refine hK.out _ _ ?_ (fun hHeld => ?_)
            · first | assumption | go_keep
            clear hK K
            try simp only [Act.put, List.setIfInBounds_toArray, List.set_cons_zero, List.set_cons_succ]
            refine wpAnyH_done (by kernel_rfl) ?_ _
            go_wp2_with fail
            go_meet
            exact ⟨_, _, _, _, _, rfl, rfl, VO.put HA.out.2.2.2.2 HM.out.1 HM.out.2.1 HM.out.2.2.1 HD.out.1 (by omega), HM.out.2.2.2, by rw [size_set2]; exact Nat.le_refl _, HA.out.store na0 (by omega) (by omega) _ _, HW.out.store na1 (by omega) (by omega) _ _, HX.out.store na2 (by omega) (by omega) _ _, HG.out.store na3 (by omega) (by omega) _ _, HP.out.store na4 _ _, by rw [size_set2]; omega⟩
        case rest =>
          clear a0 a1 al u0 u1 ul x0 x1 xl g0 g1 gl p0 p1 p2 p3 p4 pl HA HW HX HG HP
          obtain ⟨Vh, ch, loh, hih, Ah, rfl, rfl, hh, hqh, hrh, hHA, hHW, hHX, hHG, hHP, hsh⟩ := hcut
          have HH := Lib.hid hh
          have HA := Lib.hid hHA
          have HW := Lib.hid hHW
          have HX := Lib.hid hHX
          have HG := Lib.hid hHG
          have HP := Lib.hid hHP
          clear hh hHP hHA hHW hHX hHG
          obtain ⟨a0, a1, al⟩ := HA.out.cells
          obtain ⟨u0, u1, ul⟩ := HW.out.cells
          obtain ⟨x0, x1, xl⟩ := HX.out.cells
          obtain ⟨g0, g1, gl⟩ := HG.out.cells
          obtain ⟨h0, h1, hl⟩ := HH.out.cells
          obtain ⟨p0, p1, p2, p3, p4⟩ := cells5 HP.out
          have pl := HP.out.lt
          go_wp2_with fail
          clear a0 a1 al u0 u1 ul x0 x1 xl g0 g1 gl h0 h1 hl p0 p1 p2 p3 p4 pl
          refine (eqBlock_same _ _ _ _ _ n1 ps1 _ HH.out.1.2.1 HH.out.1.2.2.1 HW.out.1.2.2.1 (by omega)).mono ?_
          rintro e w21 ⟨rfl, hk⟩
          have z21 := hk.size
          (try simp only [size_alloc1] at z21)
          replace HA := Lib.hid (HA.out.keep hk)
          replace HW := Lib.hid (HW.out.keep hk)
          replace HX := Lib.hid (HX.out.keep hk)
          replace HG := Lib.hid (HG.out.keep hk)
          replace HH := Lib.hid (HH.out.keep hk)
          replace HP := Lib.hid (HP.out.keep hk)
          clear hk
          obtain ⟨a0, a1, al⟩ := HA.out.cells
          obtain ⟨u0, u1, ul⟩ := HW.out.cells
          obtain ⟨x0, x1, xl⟩ := HX.out.cells
          obtain ⟨g0, g1, gl⟩ := HG.out.cells
          obtain ⟨h0, h1, hl⟩ := HH.out.cells
          obtain ⟨p0, p1, p2, p3, p4⟩ := cells5 HP.out
          have pl := HP.out.lt
          go_wp2_with fail
          clear a0 a1 al u0 u1 ul x0 x1 xl g0 g1 gl h0 h1 hl p0 p1 p2 p3 p4 pl
          refine (heldBlock_val _ _ _ _ _ HVG.out HG.out.1.2.2.1 (by omega)).mono ?_
          rintro e w22 ⟨rfl, hk⟩
          have z22 := hk.size
          (try simp only [size_alloc1] at z22)
          replace HA := Lib.hid (HA.out.keep hk)
          replace HW := Lib.hid (HW.out.keep hk)
          replace HX := Lib.hid (HX.out.keep hk)
          replace HG := Lib.hid (HG.out.keep hk)
          replace HH := Lib.hid (HH.out.keep hk)
          replace HP := Lib.hid (HP.out.keep hk)
          clear hk
          obtain ⟨a0, a1, al⟩ := HA.out.cells
          obtain ⟨u0, u1, ul⟩ := HW.out.cells
          obtain ⟨x0, x1, xl⟩ := HX.out.cells
          obtain ⟨g0, g1, gl⟩ := HG.out.cells
          obtain ⟨h0, h1, hl⟩ := HH.out.cells
          obtain ⟨p0, p1, p2, p3, p4⟩ := cells5 HP.out
          have pl := HP.out.lt
          go_wp2
          go_ret
          exact ⟨rfl, grown_below HA.out.2.2.2.2⟩

/-! ### THE ROW's STEP: WRITTEN OUT: LEAVE IT -/
set_option maxRecDepth 100000 in
theorem lifted (os : Os) (started : os.Started) (H : Type) (enc : TypeId × Value → H) :
    ReturnsInHanded {} Try.checked os 11 .any (Rows.fnExactWriteBlockSpec.pre6 enc Try.prog Try.f11 Rows.fnExactWriteBlockRow.domain false) (Rows.fnExactWriteBlockSpec.post enc Try.prog Try.f11 false true false false) := by
  refine returnsInHanded_of_change (C := Try.checked) own started (by kernel_rfl) Try.func11
    (ChangeSpec.witness6 (enc := enc) (C := Try.checked) false ⟨#[], #[.agg #[.int .i64 0, .slice none 0 0], .agg #[.bool false, .int .i64 0, .int .i64 0, .int .i64 0, .int .i64 0]], []⟩ 8 (by kernel_rfl) (by kernel_rfl) (by kernel_rfl) (by kernel_rfl)) ?_
  intro W base args ds gs before hval0 hW hcnd _
  have hval : ∀ (j : Nat) t v, Try.f11.params[j]? = some t → args[j]? = some v → Value.okWide Try.prog W .any base t v := hval0
  have hW' := hW
  obtain ⟨p, q, hA0, hV, rfl, hfz, hnd⟩ := hW
  have hA : DataW.TrodAll enc Try.prog W 0 (fun _ => true) true Try.f11.params.toList args.toList ds p := hA0
  rw [Try.params11] at hA hval
  obtain ⟨v0, vs0, d0, ds0, p0, q0, hargs, rfl, rfl, h0, r0⟩ := trodAll_cons hA
  obtain ⟨v1, vs1, d1, ds1, p1, q1, rfl, rfl, rfl, h1, r1⟩ := trodAll_cons r0
  obtain ⟨rfl, rfl, rfl⟩ := trodAll_nil r1
  obtain rfl : args = #[v0, v1] := by cases args; simp_all
  obtain ⟨rfl, rfl⟩ := trodVars_none hV
  have k0 := h0
  have lt0 : ∀ x ∈ p0, x.block < W.heap.size := by obtain ⟨m, hm⟩ := k0; exact DataW.trod_lt m _ _ _ hm
  obtain ⟨c0, rfl, l0, f0⟩ := open_agg Try.underlying45 (by kernel_rfl) (by kernel_rfl) (hval 0 45 v0 rfl rfl) h0
  obtain ⟨v0f0, v0f1, rfl⟩ := list2 l0
  obtain ⟨n0f0, y0f0, t0f0⟩ := f0 0 _ _ rfl rfl
  obtain ⟨a0f0, e0f0, _, w0f0⟩ := DataW.trod_int Try.underlying3 t0f0
  obtain ⟨rfl, _⟩ := List.cons.inj e0f0
  obtain ⟨n0f1, y0f1, t0f1⟩ := f0 1 _ _ rfl rfl
  obtain ⟨a0f1, n0f1, c0f1, p0f1, rfl, w0f1⟩ := open_pages t0f1
  have k1 := h1
  have lt1 : ∀ x ∈ p1, x.block < W.heap.size := by obtain ⟨m, hm⟩ := k1; exact DataW.trod_lt m _ _ _ hm
  obtain ⟨c1, rfl, l1, f1⟩ := open_agg Try.underlying51 (by kernel_rfl) (by kernel_rfl) (hval 1 51 v1 rfl rfl) h1
  obtain ⟨v1f0, v1f1, v1f2, v1f3, v1f4, rfl⟩ := list5 l1
  obtain ⟨n1f0, y1f0, t1f0⟩ := f1 0 _ _ rfl rfl
  obtain ⟨a1f0, e1f0, _⟩ := DataW.trod_bool Try.underlying4 t1f0
  obtain ⟨rfl, _⟩ := List.cons.inj e1f0
  obtain ⟨n1f1, y1f1, t1f1⟩ := f1 1 _ _ rfl rfl
  obtain ⟨a1f1, e1f1, _, w1f1⟩ := DataW.trod_int Try.underlying3 t1f1
  obtain ⟨rfl, _⟩ := List.cons.inj e1f1
  obtain ⟨n1f2, y1f2, t1f2⟩ := f1 2 _ _ rfl rfl
  obtain ⟨a1f2, e1f2, _, w1f2⟩ := DataW.trod_int Try.underlying3 t1f2
  obtain ⟨rfl, _⟩ := List.cons.inj e1f2
  obtain ⟨n1f3, y1f3, t1f3⟩ := f1 3 _ _ rfl rfl
  obtain ⟨a1f3, e1f3, _, w1f3⟩ := DataW.trod_int Try.underlying3 t1f3
  obtain ⟨rfl, _⟩ := List.cons.inj e1f3
  obtain ⟨n1f4, y1f4, t1f4⟩ := f1 4 _ _ rfl rfl
  obtain ⟨a1f4, e1f4, _, w1f4⟩ := DataW.trod_int Try.underlying3 t1f4
  obtain ⟨rfl, _⟩ := List.cons.inj e1f4
  clear hA0 hval0
  refine (walk a0f0 a0f1 n0f1 c0f1 p0f1 a1f0 a1f1 a1f2 a1f3 a1f4 W w0f0 w0f1 w1f1 w1f2 w1f3 w1f4).mono fun e W' ⟨he, bel⟩ => ?_
  subst he
  exact ⟨_, rfl, _, _, _, [], _, [], hW', trodAll_mk1 (shut_bool Try.underlying4 _), (trodAll_cons_mk (Below.trod laidOut (by kernel_rfl) (of_decide_eq_true (by kernel_rfl)) k0 bel lt0) (trodAll_cons_mk (Below.trod laidOut (by kernel_rfl) (of_decide_eq_true (by kernel_rfl)) k1 bel lt1) trodAll_mk0)), rfl, bel.frame _, fun h => by cases h⟩

theorem over : Rows.fnExactWriteBlockRow.holds Try.pinned (OpenSpec.ofChange Rows.fnExactWriteBlockSpec) :=
  OpenClaim.holds_of_wide 11 Try.f11 rfl rfl rfl rfl rfl rfl rfl ⟨rfl, rfl, rfl, rfl, rfl⟩ rfl rfl rfl rfl rfl (by kernel_rfl) Try.func11 (by kernel_rfl)
    (of_decide_eq_true (by kernel_rfl)) (by unfold Func.isWrapper; first | (rw [if_pos (by decide +kernel)]; kernel_rfl) | (rw [if_neg (by decide +kernel)]; exact ⟨rfl, rfl⟩))
    (fun os started H enc _ => lifted os started H enc)

/-- ████ THE STATEMENT ████ -/
theorem proved : Rows.FnExactWriteBlockSaid := over
#print axioms proved
end Go.Proofs.Ytcmnnleebjlaeaa.fnExactWriteBlock
