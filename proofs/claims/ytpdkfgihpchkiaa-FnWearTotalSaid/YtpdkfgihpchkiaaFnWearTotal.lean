/- For every code, WearTotal answers of the drawn device as its model; it is the wear of the first block and of all others together: proved.
   Conditions: none beyond the row's own reading of the input. The frame was written by the guide's proof-skeleton; the walk is ours. -/
import Derived.Test.YtpdkfgihpchkiaaWearFacts
import Derived.Test.YtpdkfgihpchkiaaDrawWear
import Derived.Test.YtpdkfgihpchkiaaWearSpec
import Derived.Test.YtpdkfgihpchkiaaWears
import Derived.Test.YtpdkfgihpchkiaaHand
import Derived.Test.YtpdkfgihpchkiaaRows
import Derived.WalkKit
import Derived.ProofKit
import Derived.OpenShut
import Derived.ShutString
import Derived.ChangeOld
import Derived.Below
namespace Go.Proofs.Ytpdkfgihpchkiaa.fnWearTotal
open Go.ChangeShapes Go.WideShapes Go.ChangeAt Go.RowKit
open Go.ChangeMaps (open_string shut_string)
set_option linter.unusedVariables false
set_option linter.unusedSimpArgs false

theorem own : ownKnob Try.prog.godebug = none := by kernel_rfl
theorem laidOut : laidOutB Try.prog = true := by kernel_rfl

/-- WHAT THE WALK IS TOLD OF A SLICE OF INTEGERS THAT CAME IN: it is nil; or it leads to a row of 'cap' cells, the numbers 'zs' (the first 'len' are its elements, the rest its spare room), each fitting its kind. -/
def IsRow (k : IntKind) (w : World) (a : Option Addr) (len cap : Nat) (zs : List Int) : Prop :=
  (a = none ∧ len = 0 ∧ cap = 0 ∧ zs = []) ∨
  ∃ x, a = some x ∧ len ≤ cap ∧ cap ≤ maxLen ∧ zs.length = cap ∧ (∀ i, i < zs.length → w.cell? (x.add i) = some (.int k (zs.getD i 0))) ∧ ∀ n ∈ zs, (Lit.int k n).wf = true

/-! ### STEP 1: THE WALK: the Go text returns true, AND WRITES NOTHING THAT WAS THERE: 'Below w.heap.size w w'' (Derived/Below.lean: '.refl', '.alloc', '.drew', '.setCell' at a new block, '.trans'). Open each 'IsRow' by 'rcases' AHEAD of 'go_enter'; part every test ahead of the walk. -/
set_option maxHeartbeats 3000000 in
theorem walk (a0 : Option Addr) (len0 cap0 : Nat) (z0 : List Int) (w : World) (w0 : IsRow .u8 w a0 len0 cap0 z0) :
    Calls Try.prog 6 #[.slice a0 len0 cap0] w fun e w' => e = .returned (.bool true) ∧ Below w.heap.size w w' := by
  obtain ⟨hl, hc, hb⟩ := bytes_of w0
  by_cases hbig : 1048576 < len0
  · go_enter Try.func6, Try.ntmps6
    go_wp2
    go_ret
    exact ⟨rfl, Below.refl _ _⟩
  · go_enter Try.func6, Try.ntmps6
    go_wp2_with fail
    refine (drawWearTotal_any w a0 len0 cap0 hl hc hb).mono ?_
    rintro e wa ⟨A, n, c, bs, rfl, hln, h13, hnc, hcm, hsm, hrow, hbl, ⟨g0, off0, x0⟩, rfl⟩
    have HS : RowKit.Hid (LD w (some ⟨g0, off0, x0⟩) bs wa) := Lib.hid ⟨hrow, hbl⟩
    have HL := Lib.hid (And.intro hln (And.intro (fun (q : Bk) (hq : q ∈ bs) => show q.ps.length ≤ 1048576 by have := hsm q hq; omega) hsm))
    clear hb w0 hrow hbl hln hsm
    cases hd : devB bs
    · have HV := Lib.hid hd
      clear hd
      go_wp2_with fail
      refine (total_val (total_no HV.out) HL.out.1 HS.out.1 (by omega) HL.out.2.1).mono ?_
      rintro e w1 ⟨rfl, hk⟩
      replace HS := Lib.hid (HS.out.keep hk)
      clear hk
      go_wp2_with fail
      refine (specTotal_val (total_no HV.out) HL.out.1 HS.out.1 (by omega) HL.out.2.1).mono ?_
      rintro e w2 ⟨rfl, hk⟩
      replace HS := Lib.hid (HS.out.keep hk)
      clear hk
      go_wp2_with (go_at_call 19; refine (alive_any _).mono ?_; rintro e w' ⟨rfl, rfl⟩)
      go_ret
      exact ⟨rfl, HS.out.2⟩
    · obtain ⟨V, hV⟩ : ∃ V, totalV bs = V := ⟨_, rfl⟩
      obtain ⟨T, ht⟩ : ∃ T, totalV (bs.drop 1) = T := ⟨_, rfl⟩
      have hVb := total_in hd
      have hf := total_first hd
      rw [hV] at hVb hf
      rw [ht] at hf
      have hpart := dev_parts hd
      have hn1 : 1 ≤ n := by have := hpart.1.1; have := HL.out.1; omega
      have hc1 : 1 ≤ c := by omega
      rw [HL.out.1] at hf
      have HV := Lib.hid (And.intro hd (And.intro hV trivial))
      clear hd hV hpart
      rcases hf with ⟨hn0, hw, rfl⟩ | ⟨hn0, ht0, hw⟩
      · subst hn0
        have HT := Lib.hid ht
        have HW := Lib.hid hw
        clear ht hw
        go_wp2_with fail
        refine (total_val HV.out.2.1 HL.out.1 HS.out.1 (by omega) HL.out.2.1).mono ?_
        rintro e w1 ⟨rfl, hk⟩
        replace HS := Lib.hid (HS.out.keep hk)
        clear hk
        go_wp2_with fail
        refine (specTotal_val HV.out.2.1 HL.out.1 HS.out.1 (by omega) HL.out.2.1).mono ?_
        rintro e w2 ⟨rfl, hk⟩
        replace HS := Lib.hid (HS.out.keep hk)
        clear hk
        have tf : decide (V < 0) = false := decide_eq_false (by omega)
        go_wp2_with fail
        clear tf
        obtain ⟨g', off', m0, A0, c0', p0, e0, _, _, hb0, d0, d1, hpr0⟩ := HS.out.1.at_ (show 0 < bs.length by have := HL.out.1; omega)
        injection e0 with e0
        injection e0 with e1 e2 e3
        subst e1; subst e2; subst e3
        have d2 : w2.cell? ⟨g0, off0, none⟩ = some (.int .i64 m0) := by simpa using d0
        have e5 : wearAt bs 0 = m0 := wear_at hb0
        rw [e5] at HW
        have hi2 := wear_in HV.out.1 0
        have e6 : wearAt bs ((0 : Nat) : Int) = m0 := wear_at hb0
        rw [e6] at hi2
        have hWo := HW.out
        have HM := Lib.hid (fun m9 A9 c9 p9 (hb9 : bs[0]? = some ⟨m9, A9, c9, p9⟩) => show (some (Value.int IntKind.i64 m9)) = some (.int .i64 m0) by rw [hb0] at hb9; injection hb9 with hb9; injection hb9 with hb9; rw [hb9])
        clear hb0 d0 d1 hpr0 e5 e6
        have tm : decide ((0 : Int) < -1) = false := by decide
        have iw : IntKind.i64.wrap (m0) = m0 := IntWalk.i64_in _ ⟨by omega, by omega⟩
        have te : (V == m0) = true := by simp only [beq_iff_eq]; omega
        have HIW := Lib.hid iw
        clear hWo
        by_cases hcz : c = 1
        · subst hcz
          go_wp2_with fail
          refine wp_region_held_drew (S := (fun w' => w'.cell? ⟨g0, off0, none⟩ = some (.int .i64 m0))) (by kernel_rfl) ?_ (fun hHeld => ?_)
          · exact d2
          refine heldY 0 23 ?_
          refine heldY 1 24 ?_
          refine heldY 2 25 ?_
          refine heldY 3 26 ?_
          refine heldY 4 27 ?_
          refine heldY 5 28 ?_
          refine heldY 6 29 ?_
          refine wpAnyH_ready (rs := [7]) (by kernel_rfl) (by simp) ?_
          refine AllReadyH.cons rfl (fun K hK => ?_) AllReadyH.nil
          go_simp
          go_at_call 32; (refine (total_val (bs := []) (n := 0) total_nil rfl DRow.nil (by omega) (fun q hq => by simp at hq)).mono ?_); rintro e w5 ⟨rfl, hk⟩; replace HS := Lib.hid (HS.out.keep (grown_trans (grown_drew (grown_refl _ none)) hk)); clear d2; obtain ⟨g', off', m9, A0, c0', p0, e0, _, _, hb0, d0, d1, hpr0⟩ := HS.out.1.at_ (show 0 < bs.length by have := HL.out.1; omega); injection e0 with e0; injection e0 with e1 e2; subst e1; subst e2; have d2 : w5.cell? ⟨g0, off0, none⟩ = some (.int .i64 m0) := by (have d2 : w5.cell? ⟨g0, off0, none⟩ = some (.int .i64 m9) := by simpa using d0); rw [d2]; exact HM.out m9 A0 c0' p0 hb0
          refine hK.out _ _ ?_ (fun hHeld => ?_)
          · exact d2
          clear hK K
          try simp only [Act.put, List.setIfInBounds_toArray, List.set_cons_zero, List.set_cons_succ]
          refine wpAnyH_ready (rs := [8]) (by kernel_rfl) (by simp) ?_
          refine AllReadyH.cons rfl (fun K hK => ?_) AllReadyH.nil
          go_simp
          refine hK.out _ _ ?_ (fun hHeld => ?_)
          · exact d2
          clear hK K
          try simp only [Act.put, List.setIfInBounds_toArray, List.set_cons_zero, List.set_cons_succ]
          refine held_yes (i := 9) (d := some 32) (v := ?_) rfl rfl (by kernel_rfl) (by kernel_rfl) (by kernel_rfl) (fun _ _ _ h => h) (by rfl) ?_ (by assumption) ?_
          rotate_left
          · (intro w hSw; (try dsimp only at hSw); go_simp; (try simp only [iw]); (first | done | with_reducible rfl))
          try simp only [Act.put, List.setIfInBounds_toArray, List.set_cons_zero, List.set_cons_succ]
          refine held_yes (i := 10) (d := some 33) (v := ?_) rfl rfl (by kernel_rfl) (by kernel_rfl) (by kernel_rfl) (fun _ _ _ h => h) (by rfl) ?_ (by assumption) ?_
          rotate_left
          · (intro w hSw; (try dsimp only at hSw); go_simp; (try simp only [te]); (first | done | with_reducible rfl))
          try simp only [Act.put, List.setIfInBounds_toArray, List.set_cons_zero, List.set_cons_succ]
          refine heldY 11 2 ?_
          refine wpAnyH_done (by kernel_rfl) ?_ _
          go_wp2
          go_ret
          first | exact ⟨rfl, HS.out.2⟩ | exact ⟨retB (by rw [HIW.out]; simp), HS.out.2⟩
        · go_wp2_with fail
          refine wp_region_held_drew (S := (fun w' => w'.cell? ⟨g0, off0, none⟩ = some (.int .i64 m0))) (by kernel_rfl) ?_ (fun hHeld => ?_)
          · exact d2
          refine heldY 0 23 ?_
          refine heldY 1 24 ?_
          refine heldY 2 25 ?_
          refine heldY 3 26 ?_
          refine heldY 4 27 ?_
          refine heldY 5 28 ?_
          refine heldY 6 29 ?_
          refine wpAnyH_ready (rs := [7]) (by kernel_rfl) (by simp) ?_
          refine AllReadyH.cons rfl (fun K hK => ?_) AllReadyH.nil
          go_simp
          go_at_call 32; (refine (total_val (bs := bs.drop 1) HT.out (by rw [List.length_drop, HL.out.1]) (by have h := (HS.out.1.kept (grown_drew (grown_refl _ none))).here.tail; simpa [Go.WideShapes.add_plain] using h) (by omega) (fun q hq => HL.out.2.1 q (List.mem_of_mem_drop hq))).mono ?_); rintro e w5 ⟨rfl, hk⟩; replace HS := Lib.hid (HS.out.keep (grown_trans (grown_drew (grown_refl _ none)) hk)); clear d2; obtain ⟨g', off', m9, A0, c0', p0, e0, _, _, hb0, d0, d1, hpr0⟩ := HS.out.1.at_ (show 0 < bs.length by have := HL.out.1; omega); injection e0 with e0; injection e0 with e1 e2; subst e1; subst e2; have d2 : w5.cell? ⟨g0, off0, none⟩ = some (.int .i64 m0) := by (have d2 : w5.cell? ⟨g0, off0, none⟩ = some (.int .i64 m9) := by simpa using d0); rw [d2]; exact HM.out m9 A0 c0' p0 hb0
          refine hK.out _ _ ?_ (fun hHeld => ?_)
          · exact d2
          clear hK K
          try simp only [Act.put, List.setIfInBounds_toArray, List.set_cons_zero, List.set_cons_succ]
          refine wpAnyH_ready (rs := [8]) (by kernel_rfl) (by simp) ?_
          refine AllReadyH.cons rfl (fun K hK => ?_) AllReadyH.nil
          go_simp
          refine hK.out _ _ ?_ (fun hHeld => ?_)
          · exact d2
          clear hK K
          try simp only [Act.put, List.setIfInBounds_toArray, List.set_cons_zero, List.set_cons_succ]
          refine held_yes (i := 9) (d := some 32) (v := ?_) rfl rfl (by kernel_rfl) (by kernel_rfl) (by kernel_rfl) (fun _ _ _ h => h) (by rfl) ?_ (by assumption) ?_
          rotate_left
          · (intro w hSw; (try dsimp only at hSw); go_simp; (try simp only [iw]); (first | done | with_reducible rfl))
          try simp only [Act.put, List.setIfInBounds_toArray, List.set_cons_zero, List.set_cons_succ]
          refine held_yes (i := 10) (d := some 33) (v := ?_) rfl rfl (by kernel_rfl) (by kernel_rfl) (by kernel_rfl) (fun _ _ _ h => h) (by rfl) ?_ (by assumption) ?_
          rotate_left
          · (intro w hSw; (try dsimp only at hSw); go_simp; (try simp only [te]); (first | done | with_reducible rfl))
          try simp only [Act.put, List.setIfInBounds_toArray, List.set_cons_zero, List.set_cons_succ]
          refine heldY 11 2 ?_
          refine wpAnyH_done (by kernel_rfl) ?_ _
          go_wp2
          go_ret
          first | exact ⟨rfl, HS.out.2⟩ | exact ⟨retB (by rw [HIW.out]; simp), HS.out.2⟩
      · by_cases hT : 0 < T
        · have HT := Lib.hid ht
          have HW := Lib.hid hw
          clear ht hw
          go_wp2_with fail
          refine (total_val HV.out.2.1 HL.out.1 HS.out.1 (by omega) HL.out.2.1).mono ?_
          rintro e w1 ⟨rfl, hk⟩
          replace HS := Lib.hid (HS.out.keep hk)
          clear hk
          go_wp2_with fail
          refine (specTotal_val HV.out.2.1 HL.out.1 HS.out.1 (by omega) HL.out.2.1).mono ?_
          rintro e w2 ⟨rfl, hk⟩
          replace HS := Lib.hid (HS.out.keep hk)
          clear hk
          have tf : decide (V < 0) = false := decide_eq_false (by omega)
          go_wp2_with fail
          clear tf
          obtain ⟨g', off', m0, A0, c0', p0, e0, _, _, hb0, d0, d1, hpr0⟩ := HS.out.1.at_ (show 0 < bs.length by have := HL.out.1; omega)
          injection e0 with e0
          injection e0 with e1 e2 e3
          subst e1; subst e2; subst e3
          have d2 : w2.cell? ⟨g0, off0, none⟩ = some (.int .i64 m0) := by simpa using d0
          have e5 : wearAt bs 0 = m0 := wear_at hb0
          rw [e5] at HW
          have hi2 := wear_in HV.out.1 0
          have e6 : wearAt bs ((0 : Nat) : Int) = m0 := wear_at hb0
          rw [e6] at hi2
          have hWo := HW.out
          have z3 : (0 : Int) < n := by omega
          have z4 : 0 < n := by omega
          have z5 : (1 : Int) ≤ n := by omega
          have HM := Lib.hid (fun m9 A9 c9 p9 (hb9 : bs[0]? = some ⟨m9, A9, c9, p9⟩) => show (some (Value.int IntKind.i64 m9)) = some (.int .i64 m0) by rw [hb0] at hb9; injection hb9 with hb9; injection hb9 with hb9; rw [hb9])
          clear hb0 d0 d1 hpr0 e5 e6
          have tm : decide (0 < T) = true := decide_eq_true hT
          have hcz : c ≠ 1 := by omega
          have iw : IntKind.i64.wrap (m0 + T) = m0 + T := IntWalk.i64_in _ ⟨by omega, by omega⟩
          have te : (V == m0 + T) = true := by simp only [beq_iff_eq]; omega
          have HIW := Lib.hid iw
          clear hWo
          go_wp2_with fail
          refine wp_region_held_drew (S := (fun w' => w'.cell? ⟨g0, off0, none⟩ = some (.int .i64 m0))) (by kernel_rfl) ?_ (fun hHeld => ?_)
          · exact d2
          refine heldY 0 23 ?_
          refine heldY 1 24 ?_
          refine heldY 2 25 ?_
          refine heldY 3 26 ?_
          refine heldY 4 27 ?_
          refine heldY 5 28 ?_
          refine heldY 6 29 ?_
          refine wpAnyH_ready (rs := [7]) (by kernel_rfl) (by simp) ?_
          refine AllReadyH.cons rfl (fun K hK => ?_) AllReadyH.nil
          go_simp
          go_at_call 32; (refine (total_val (bs := bs.drop 1) HT.out (by rw [List.length_drop, HL.out.1]) (by have h := (HS.out.1.kept (grown_drew (grown_refl _ none))).here.tail; simpa [Go.WideShapes.add_plain] using h) (by omega) (fun q hq => HL.out.2.1 q (List.mem_of_mem_drop hq))).mono ?_); rintro e w5 ⟨rfl, hk⟩; replace HS := Lib.hid (HS.out.keep (grown_trans (grown_drew (grown_refl _ none)) hk)); clear d2; obtain ⟨g', off', m9, A0, c0', p0, e0, _, _, hb0, d0, d1, hpr0⟩ := HS.out.1.at_ (show 0 < bs.length by have := HL.out.1; omega); injection e0 with e0; injection e0 with e1 e2; subst e1; subst e2; have d2 : w5.cell? ⟨g0, off0, none⟩ = some (.int .i64 m0) := by (have d2 : w5.cell? ⟨g0, off0, none⟩ = some (.int .i64 m9) := by simpa using d0); rw [d2]; exact HM.out m9 A0 c0' p0 hb0
          refine hK.out _ _ ?_ (fun hHeld => ?_)
          · exact d2
          clear hK K
          try simp only [Act.put, List.setIfInBounds_toArray, List.set_cons_zero, List.set_cons_succ]
          refine wpAnyH_ready (rs := [8]) (by kernel_rfl) (by simp) ?_
          refine AllReadyH.cons rfl (fun K hK => ?_) AllReadyH.nil
          go_simp
          refine hK.out _ _ ?_ (fun hHeld => ?_)
          · exact d2
          clear hK K
          try simp only [Act.put, List.setIfInBounds_toArray, List.set_cons_zero, List.set_cons_succ]
          refine held_yes (i := 9) (d := some 32) (v := ?_) rfl rfl (by kernel_rfl) (by kernel_rfl) (by kernel_rfl) (fun _ _ _ h => h) (by rfl) ?_ (by assumption) ?_
          rotate_left
          · (intro w hSw; (try dsimp only at hSw); go_simp; (try simp only [iw]); (first | done | with_reducible rfl))
          try simp only [Act.put, List.setIfInBounds_toArray, List.set_cons_zero, List.set_cons_succ]
          refine held_yes (i := 10) (d := some 33) (v := ?_) rfl rfl (by kernel_rfl) (by kernel_rfl) (by kernel_rfl) (fun _ _ _ h => h) (by rfl) ?_ (by assumption) ?_
          rotate_left
          · (intro w hSw; (try dsimp only at hSw); go_simp; (try simp only [te]); (first | done | with_reducible rfl))
          try simp only [Act.put, List.setIfInBounds_toArray, List.set_cons_zero, List.set_cons_succ]
          refine heldY 11 2 ?_
          refine wpAnyH_done (by kernel_rfl) ?_ _
          go_wp2
          go_ret
          first | exact ⟨rfl, HS.out.2⟩ | exact ⟨retB (by rw [HIW.out]; simp), HS.out.2⟩
        · have HT := Lib.hid ht
          have HW := Lib.hid hw
          clear ht hw
          go_wp2_with fail
          refine (total_val HV.out.2.1 HL.out.1 HS.out.1 (by omega) HL.out.2.1).mono ?_
          rintro e w1 ⟨rfl, hk⟩
          replace HS := Lib.hid (HS.out.keep hk)
          clear hk
          go_wp2_with fail
          refine (specTotal_val HV.out.2.1 HL.out.1 HS.out.1 (by omega) HL.out.2.1).mono ?_
          rintro e w2 ⟨rfl, hk⟩
          replace HS := Lib.hid (HS.out.keep hk)
          clear hk
          have tf : decide (V < 0) = false := decide_eq_false (by omega)
          go_wp2_with fail
          clear tf
          obtain ⟨g', off', m0, A0, c0', p0, e0, _, _, hb0, d0, d1, hpr0⟩ := HS.out.1.at_ (show 0 < bs.length by have := HL.out.1; omega)
          injection e0 with e0
          injection e0 with e1 e2 e3
          subst e1; subst e2; subst e3
          have d2 : w2.cell? ⟨g0, off0, none⟩ = some (.int .i64 m0) := by simpa using d0
          have e5 : wearAt bs 0 = m0 := wear_at hb0
          rw [e5] at HW
          have hi2 := wear_in HV.out.1 0
          have e6 : wearAt bs ((0 : Nat) : Int) = m0 := wear_at hb0
          rw [e6] at hi2
          have hWo := HW.out
          have z3 : (0 : Int) < n := by omega
          have z4 : 0 < n := by omega
          have z5 : (1 : Int) ≤ n := by omega
          have HM := Lib.hid (fun m9 A9 c9 p9 (hb9 : bs[0]? = some ⟨m9, A9, c9, p9⟩) => show (some (Value.int IntKind.i64 m9)) = some (.int .i64 m0) by rw [hb0] at hb9; injection hb9 with hb9; injection hb9 with hb9; rw [hb9])
          clear hb0 d0 d1 hpr0 e5 e6
          have tm : decide (0 < T) = false := decide_eq_false (show ¬ 0 < T by omega)
          have hcz : c ≠ 1 := by omega
          have iw : IntKind.i64.wrap (m0) = m0 := IntWalk.i64_in _ ⟨by omega, by omega⟩
          have te : (V == m0) = true := by simp only [beq_iff_eq]; omega
          have HIW := Lib.hid iw
          clear hWo
          go_wp2_with fail
          refine wp_region_held_drew (S := (fun w' => w'.cell? ⟨g0, off0, none⟩ = some (.int .i64 m0))) (by kernel_rfl) ?_ (fun hHeld => ?_)
          · exact d2
          refine heldY 0 23 ?_
          refine heldY 1 24 ?_
          refine heldY 2 25 ?_
          refine heldY 3 26 ?_
          refine heldY 4 27 ?_
          refine heldY 5 28 ?_
          refine heldY 6 29 ?_
          refine wpAnyH_ready (rs := [7]) (by kernel_rfl) (by simp) ?_
          refine AllReadyH.cons rfl (fun K hK => ?_) AllReadyH.nil
          go_simp
          go_at_call 32; (refine (total_val (bs := bs.drop 1) HT.out (by rw [List.length_drop, HL.out.1]) (by have h := (HS.out.1.kept (grown_drew (grown_refl _ none))).here.tail; simpa [Go.WideShapes.add_plain] using h) (by omega) (fun q hq => HL.out.2.1 q (List.mem_of_mem_drop hq))).mono ?_); rintro e w5 ⟨rfl, hk⟩; replace HS := Lib.hid (HS.out.keep (grown_trans (grown_drew (grown_refl _ none)) hk)); clear d2; obtain ⟨g', off', m9, A0, c0', p0, e0, _, _, hb0, d0, d1, hpr0⟩ := HS.out.1.at_ (show 0 < bs.length by have := HL.out.1; omega); injection e0 with e0; injection e0 with e1 e2; subst e1; subst e2; have d2 : w5.cell? ⟨g0, off0, none⟩ = some (.int .i64 m0) := by (have d2 : w5.cell? ⟨g0, off0, none⟩ = some (.int .i64 m9) := by simpa using d0); rw [d2]; exact HM.out m9 A0 c0' p0 hb0
          refine hK.out _ _ ?_ (fun hHeld => ?_)
          · exact d2
          clear hK K
          try simp only [Act.put, List.setIfInBounds_toArray, List.set_cons_zero, List.set_cons_succ]
          refine wpAnyH_ready (rs := [8]) (by kernel_rfl) (by simp) ?_
          refine AllReadyH.cons rfl (fun K hK => ?_) AllReadyH.nil
          go_simp
          refine hK.out _ _ ?_ (fun hHeld => ?_)
          · exact d2
          clear hK K
          try simp only [Act.put, List.setIfInBounds_toArray, List.set_cons_zero, List.set_cons_succ]
          refine held_yes (i := 9) (d := some 32) (v := ?_) rfl rfl (by kernel_rfl) (by kernel_rfl) (by kernel_rfl) (fun _ _ _ h => h) (by rfl) ?_ (by assumption) ?_
          rotate_left
          · (intro w hSw; (try dsimp only at hSw); go_simp; (try simp only [iw]); (first | done | with_reducible rfl))
          try simp only [Act.put, List.setIfInBounds_toArray, List.set_cons_zero, List.set_cons_succ]
          refine held_yes (i := 10) (d := some 33) (v := ?_) rfl rfl (by kernel_rfl) (by kernel_rfl) (by kernel_rfl) (fun _ _ _ h => h) (by rfl) ?_ (by assumption) ?_
          rotate_left
          · (intro w hSw; (try dsimp only at hSw); go_simp; (try simp only [te]); (first | done | with_reducible rfl))
          try simp only [Act.put, List.setIfInBounds_toArray, List.set_cons_zero, List.set_cons_succ]
          refine heldY 11 2 ?_
          refine wpAnyH_done (by kernel_rfl) ?_ _
          go_wp2
          go_ret
          first | exact ⟨rfl, HS.out.2⟩ | exact ⟨retB (by rw [HIW.out]; simp), HS.out.2⟩

/-! ### THE ROW's STEP: WRITTEN OUT: LEAVE IT -/
set_option maxRecDepth 100000 in
theorem lifted (os : Os) (started : os.Started) (H : Type) (enc : TypeId × Value → H) :
    ReturnsInHanded {} Try.checked os 6 .any (Rows.fnWearTotalSpec.pre6 enc Try.prog Try.f6 Rows.fnWearTotalRow.domain false) (Rows.fnWearTotalSpec.post enc Try.prog Try.f6 false true false false) := by
  refine returnsInHanded_of_change (C := Try.checked) own started (by kernel_rfl) Try.func6
    (ChangeSpec.witness6 (enc := enc) (C := Try.checked) false ⟨#[], #[.slice none 0 0], []⟩ 8 (by kernel_rfl) (by kernel_rfl) (by kernel_rfl) (by kernel_rfl)) ?_
  intro W base args ds gs before hval0 hW hcnd _
  have hval : ∀ (j : Nat) t v, Try.f6.params[j]? = some t → args[j]? = some v → Value.okWide Try.prog W .any base t v := hval0
  have hW' := hW
  obtain ⟨p, q, hA0, hV, rfl, hfz, hnd⟩ := hW
  have hA : DataW.TrodAll enc Try.prog W 0 (fun _ => true) true Try.f6.params.toList args.toList ds p := hA0
  rw [Try.params6] at hA hval
  obtain ⟨v0, vs0, d0, ds0, p0, q0, hargs, rfl, rfl, h0, r0⟩ := trodAll_cons hA
  obtain ⟨rfl, rfl, rfl⟩ := trodAll_nil r0
  obtain rfl : args = #[v0] := by cases args; simp_all
  obtain ⟨rfl, rfl⟩ := trodVars_none hV
  obtain ⟨a0, len0, cap0, rfl⟩ := okWide_slice Try.underlying22 (hval 0 22 v0 rfl rfl)
  have k0 := h0
  have lt0 : ∀ x ∈ p0, x.block < W.heap.size := by obtain ⟨m, hm⟩ := k0; exact DataW.trod_lt m _ _ _ hm
  obtain ⟨z0, w0⟩ : ∃ zs, IsRow .u8 W a0 len0 cap0 zs := by
    obtain ⟨fuel, hf⟩ := h0
    rcases open_ints Try.underlying22 Try.underlying5 (by kernel_rfl) hf with ⟨hcs, _⟩ | ⟨x, l, c, zs, hcs, _, hl, hm, hz, _, hcell, hwz⟩
    · simp [Value.cells] at hcs
      obtain ⟨rfl, rfl, rfl⟩ := hcs
      exact ⟨[], .inl ⟨rfl, rfl, rfl, rfl⟩⟩
    · simp [Value.cells] at hcs
      obtain ⟨rfl, rfl, rfl⟩ := hcs
      exact ⟨zs, .inr ⟨_, rfl, hl, hm, by simpa using hz, hcell, hwz⟩⟩
  clear hA0 hval0
  refine (walk a0 len0 cap0 z0 W w0).mono fun e W' ⟨he, bel⟩ => ?_
  subst he
  exact ⟨_, rfl, _, _, _, [], _, [], hW', trodAll_mk1 (shut_bool Try.underlying4 _), (trodAll_cons_mk (Below.trod laidOut (by kernel_rfl) (of_decide_eq_true (by kernel_rfl)) k0 bel lt0) trodAll_mk0), rfl, bel.frame _, fun h => by cases h⟩

theorem over : Rows.fnWearTotalRow.holds Try.pinned (OpenSpec.ofChange Rows.fnWearTotalSpec) :=
  OpenClaim.holds_of_wide 6 Try.f6 rfl rfl rfl rfl rfl rfl rfl ⟨rfl, rfl, rfl, rfl, rfl⟩ rfl rfl rfl rfl rfl (by kernel_rfl) Try.func6 (by kernel_rfl)
    (of_decide_eq_true (by kernel_rfl)) (by unfold Func.isWrapper; first | (rw [if_pos (by decide +kernel)]; kernel_rfl) | (rw [if_neg (by decide +kernel)]; exact ⟨rfl, rfl⟩))
    (fun os started H enc _ => lifted os started H enc)

/-- ████ THE STATEMENT ████ -/
theorem proved : Rows.FnWearTotalSaid := over
#print axioms proved
end Go.Proofs.Ytpdkfgihpchkiaa.fnWearTotal
