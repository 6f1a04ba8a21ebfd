/- For every code, WearVictim answers of the drawn device and heads as its model; the block has a written page, is no head, no other such block is worn less, and wear differs by more than WearGap: proved.
   Conditions: none beyond the row's own reading of the input. The frame was written by the guide's proof-skeleton; the walk is ours. -/
import Derived.Test.YtpdkfgihpchkiaaWearFacts
import Derived.Test.YtpdkfgihpchkiaaLawHeads2
import Derived.Test.YtpdkfgihpchkiaaDrawWear
import Derived.Test.YtpdkfgihpchkiaaWearSpec
import Derived.Test.YtpdkfgihpchkiaaWears
import Derived.Test.YtpdkfgihpchkiaaHand
import Derived.Test.YtpdkfgihpchkiaaRows
import Derived.WalkKit
import Derived.ProofKit
import Derived.OpenShut
import Derived.ShutString
import Derived.ChangeOld
import Derived.Below
namespace Go.Proofs.Ytpdkfgihpchkiaa.fnWearVictim
open Go.ChangeShapes Go.WideShapes Go.ChangeAt Go.RowKit
open Go.ChangeMaps (open_string shut_string)
set_option linter.unusedVariables false
set_option linter.unusedSimpArgs false

theorem own : ownKnob Try.prog.godebug = none := by kernel_rfl
theorem laidOut : laidOutB Try.prog = true := by kernel_rfl

/-- WHAT THE WALK IS TOLD OF A SLICE OF INTEGERS THAT CAME IN: it is nil; or it leads to a row of 'cap' cells, the numbers 'zs' (the first 'len' are its elements, the rest its spare room), each fitting its kind. -/
def IsRow (k : IntKind) (w : World) (a : Option Addr) (len cap : Nat) (zs : List Int) : Prop :=
  (a = none ∧ len = 0 ∧ cap = 0 ∧ zs = []) ∨
  ∃ x, a = some x ∧ len ≤ cap ∧ cap ≤ maxLen ∧ zs.length = cap ∧ (∀ i, i < zs.length → w.cell? (x.add i) = some (.int k (zs.getD i 0))) ∧ ∀ n ∈ zs, (Lit.int k n).wf = true

/-! ### STEP 1: THE WALK: the Go text returns true, AND WRITES NOTHING THAT WAS THERE: 'Below w.heap.size w w'' (Derived/Below.lean: '.refl', '.alloc', '.drew', '.setCell' at a new block, '.trans'). Open each 'IsRow' by 'rcases' AHEAD of 'go_enter'; part every test ahead of the walk. -/
set_option maxHeartbeats 8000000 in
set_option maxRecDepth 100000 in
theorem walk (a0 : Option Addr) (len0 cap0 : Nat) (z0 : List Int) (w : World) (w0 : IsRow .u8 w a0 len0 cap0 z0) :
    Calls Try.prog 7 #[.slice a0 len0 cap0] w fun e w' => e = .returned (.bool true) ∧ Below w.heap.size w w' := by
  obtain ⟨hl, hc, hb⟩ := bytes_of w0
  by_cases hbig : 1048576 < len0
  · go_enter Try.func7, Try.ntmps7
    go_wp2
    go_ret
    exact ⟨rfl, Below.refl _ _⟩
  · go_enter Try.func7, Try.ntmps7
    go_wp2_with fail
    refine (drawWearVictim_any w a0 len0 cap0 hl hc hb).mono ?_
    rintro e wa ⟨A, n, c, bs, a, b, h, rfl, hln, h13, hsm, hs0⟩
    have HS := Lib.hid (hs0.alloc (.cells #[.int .i64 a, .int .i64 b, .int .i64 h] 25))
    have HQ := Lib.hid (Blk.new wa 25 #[.int .i64 a, .int .i64 b, .int .i64 h])
    have HL := Lib.hid (And.intro hln (fun (q : Bk) (hq : q ∈ bs) => show q.ps.length ≤ 1048576 by have := hsm q hq; omega))
    clear hb w0 hln hsm hs0
    cases hv : (headsB n a b h && devB bs)
    · have HI := Lib.hid (show restV n bs a b h = -1 from rest_no hv)
      obtain ⟨q0, q1, q2⟩ := cells3 HQ.out
      go_wp2_with fail
      refine (rest_val HI.out HL.out.1 HS.out.1 (by omega) HL.out.2).mono ?_
      rintro e w1 ⟨rfl, hk⟩
      replace HS := Lib.hid (HS.out.keep hk)
      replace HQ := Lib.hid (HQ.out.keep hk)
      clear hk
      clear q0 q1 q2
      obtain ⟨q0, q1, q2⟩ := cells3 HQ.out
      go_wp2_with fail
      refine (specRest_val HI.out HL.out.1 HS.out.1 (by omega) HL.out.2).mono ?_
      rintro e w2 ⟨rfl, hk⟩
      replace HS := Lib.hid (HS.out.keep hk)
      replace HQ := Lib.hid (HQ.out.keep hk)
      clear hk
      clear q0 q1 q2
      go_wp2_with (go_at_call 19; refine (alive_any _).mono ?_; rintro e w' ⟨rfl, rfl⟩)
      go_ret
      exact ⟨rfl, HS.out.2⟩
    · by_cases hs : 5 < spreadV bs
      · rcases worn_law (W := true) (bs := bs) (a := a) (b := b) (h := h) HL.out.1 with ⟨hr9, hall⟩ | ⟨i, ⟨mi, Ai, ci, pi⟩, hr9, hi9, hfi, hbi, hall⟩
        · clear hall
          have HI := Lib.hid (show restV n bs a b h = -1 from (rest_of hv hs).trans hr9)
          obtain ⟨q0, q1, q2⟩ := cells3 HQ.out
          go_wp2_with fail
          refine (rest_val HI.out HL.out.1 HS.out.1 (by omega) HL.out.2).mono ?_
          rintro e w1 ⟨rfl, hk⟩
          replace HS := Lib.hid (HS.out.keep hk)
          replace HQ := Lib.hid (HQ.out.keep hk)
          clear hk
          clear q0 q1 q2
          obtain ⟨q0, q1, q2⟩ := cells3 HQ.out
          go_wp2_with fail
          refine (specRest_val HI.out HL.out.1 HS.out.1 (by omega) HL.out.2).mono ?_
          rintro e w2 ⟨rfl, hk⟩
          replace HS := Lib.hid (HS.out.keep hk)
          replace HQ := Lib.hid (HQ.out.keep hk)
          clear hk
          clear q0 q1 q2
          go_wp2_with (go_at_call 19; refine (alive_any _).mono ?_; rintro e w' ⟨rfl, rfl⟩)
          go_ret
          exact ⟨rfl, HS.out.2⟩
        · have HF := Lib.hid (And.intro hi9 (And.intro hfi (And.intro hbi hall)))
          clear hfi hbi hall
          have HI := Lib.hid (show restV n bs a b h = (i : Int) from (rest_of hv hs).trans hr9)
          have HV := Lib.hid (And.intro hv hs)
          clear hv hs hr9
          obtain ⟨q0, q1, q2⟩ := cells3 HQ.out
          go_wp2_with fail
          refine (rest_val HI.out HL.out.1 HS.out.1 (by omega) HL.out.2).mono ?_
          rintro e w1 ⟨rfl, hk⟩
          replace HS := Lib.hid (HS.out.keep hk)
          replace HQ := Lib.hid (HQ.out.keep hk)
          clear hk
          clear q0 q1 q2
          obtain ⟨q0, q1, q2⟩ := cells3 HQ.out
          go_wp2_with fail
          refine (specRest_val HI.out HL.out.1 HS.out.1 (by omega) HL.out.2).mono ?_
          rintro e w2 ⟨rfl, hk⟩
          replace HS := Lib.hid (HS.out.keep hk)
          replace HQ := Lib.hid (HQ.out.keep hk)
          clear hk
          clear q0 q1 q2
          have tn0 : decide ((i : Int) < 0) = false := decide_eq_false (by omega)
          have tn1 : decide ((n : Int) ≤ (i : Int)) = false := decide_eq_false (by omega)
          go_wp2_with fail
          clear tn0 tn1
          go_loopw [6] (fun i wr => ∃ k : Nat, i = .int .i64 k ∧ k ≤ n ∧ LD w A bs wr ∧ Blk wr wa.heap.size 25 #[.int .i64 a, .int .i64 b, .int .i64 h]) (fun i _ => n - (intOf i).toNat)
          case atStart => exact ⟨0, rfl, Nat.zero_le _, HS.out, HQ.out⟩
          case round =>
            obtain ⟨k, rfl, hk, hS, hQ⟩ := hrel
            clear HS HQ
            have HS := Lib.hid hS
            have HQ := Lib.hid hQ
            clear hS hQ
            by_cases hkn : k < n
            · have k3 : (k : Int) < n := by omega
              have i3 : (i : Int) < n := by omega
              obtain ⟨g, off, m, Ab, cb, ps, rfl, _, _, hbk, c0, c1, hpr⟩ := HS.out.1.at_ (show k < bs.length by have := HL.out.1; omega)
              obtain ⟨g', off', m9, A9, c9, p9, e0, _, _, hb9, b0, b1, _⟩ := HS.out.1.at_ (show i < bs.length by have := HL.out.1; omega)
              injection e0 with e0
              injection e0 with e1 e2
              subst e1; subst e2
              rw [HF.out.2.2.1] at hb9
              injection hb9 with hb9
              injection hb9 with e1 e2 e3 e4
              subst e1
              clear e2 e3 e4 b1
              obtain ⟨V, hV⟩ : ∃ V, nextV m ps = V := ⟨_, rfl⟩
              have hfi := fun (hw : wrB true a b h k ⟨m, Ab, cb, ps⟩ = true) => HF.out.2.2.2 k _ hkn hbk hw
              simp only [wrB, hV] at hfi
              have HB := Lib.hid (And.intro hV (And.intro hpr (HL.out.2 _ (List.mem_of_getElem? hbk))))
              have HC := Lib.hid (show D2 wr g (off + k * 2) ⟨m, Ab, cb, ps⟩ from ⟨c0, c1⟩)
              have HE := Lib.hid (show wr.cell? ⟨g, off + i * 2, none⟩ = some (.int .i64 mi) from b0)
              clear hV hpr hbk
              cases t0 : (V != 0)
              · clear hfi
                obtain ⟨q0, q1, q2⟩ := cells3 HQ.out
                go_wp2_with fail
                refine wp_region_held_drew (S := (fun w' => w'.cell? ⟨g, off + k * 2, none⟩ = some (.int .i64 m) ∧ w'.cell? ⟨g, off + k * 2 + 1, none⟩ = some (.slice Ab ps.length cb) ∧ w'.cell? ⟨wa.heap.size, 0, none⟩ = some (.int .i64 a) ∧ w'.cell? ⟨wa.heap.size, 1, none⟩ = some (.int .i64 b) ∧ w'.cell? ⟨wa.heap.size, 2, none⟩ = some (.int .i64 h) ∧ w'.cell? ⟨g, off + i * 2, none⟩ = some (.int .i64 mi))) (by kernel_rfl) ?_ (fun hHeld => ?_)
                · exact ⟨c0, c1, q0, q1, q2, b0⟩
                refine heldY 0 42 ?_
                refine heldY 1 43 ?_
                refine heldY 2 44 ?_
                refine heldY 3 45 ?_
                refine wpAnyH_ready (rs := [4]) (by kernel_rfl) (by simp) ?_
                refine AllReadyH.cons rfl (fun K hK => ?_) AllReadyH.nil
                go_simp
                go_at_call 20; (refine (next_val rfl HB.out.1 _ HB.out.2.1.drew.here HB.out.2.2).mono ?_); rintro e w2 ⟨rfl, hk1⟩; replace hk1 := grown_trans (grown_drew (grown_refl wr none)) hk1; replace HS := Lib.hid (HS.out.keep hk1); replace HQ := Lib.hid (HQ.out.keep hk1); replace HC := Lib.hid (HC.out.kept hk1); clear c0 c1 b0 q0 q1 q2; obtain ⟨q0, q1, q2⟩ := cells3 HQ.out; obtain ⟨c0, c1⟩ := HC.out; have b0 := cell_kept HE.out hk1; clear hk1
                refine hK.out _ _ ?_ (fun hHeld => ?_)
                · exact ⟨c0, c1, q0, q1, q2, b0⟩
                clear hK K
                try simp only [Act.put, List.setIfInBounds_toArray, List.set_cons_zero, List.set_cons_succ]
                refine heldY 5 47 ?_
                refine heldY 6 48 ?_
                refine heldN 7 49 ?_
                refine heldN 8 50 ?_
                refine heldN 9 51 ?_
                refine heldN 10 52 ?_
                refine heldY 11 53 ?_
                refine heldY 12 54 ?_
                refine heldN 13 55 ?_
                refine heldN 14 56 ?_
                refine heldN 15 57 ?_
                refine heldN 16 58 ?_
                refine heldY 17 59 ?_
                refine heldY 18 60 ?_
                refine heldN 19 61 ?_
                refine heldN 20 62 ?_
                refine heldN 21 63 ?_
                refine heldN 22 64 ?_
                refine heldY 23 65 ?_
                refine heldY 24 66 ?_
                refine heldN 25 67 ?_
                refine heldN 26 68 ?_
                refine heldN 27 69 ?_
                refine heldN 28 70 ?_
                refine heldN 29 71 ?_
                refine heldN 30 72 ?_
                refine heldN 31 73 ?_
                refine heldN 32 74 ?_
                refine heldN 33 75 ?_
                refine heldN 34 76 ?_
                refine heldN 35 77 ?_
                refine heldY 36 78 ?_
                refine wpAnyH_done (by kernel_rfl) ?_ _
                go_wp2
                go_roundw
                case rel => exact ⟨k + 1, by go_num, by omega, HS.out, HQ.out⟩
                case measure => (simp [intOf]) <;> omega
              · cases t1 : ((k : Int) == a)
                · have e1 : ((k : Int) != a) = true := by show (!((k : Int) == a)) = _; rw [t1]; rfl
                  cases t2 : ((k : Int) == b)
                  · have e2 : ((k : Int) != b) = true := by show (!((k : Int) == b)) = _; rw [t2]; rfl
                    cases t3 : ((k : Int) == h)
                    · have e3 : ((k : Int) != h) = true := by show (!((k : Int) == h)) = _; rw [t3]; rfl
                      have hmm := hfi (by rw [t1, t2, t3, t0]; rfl)
                      have t5 : decide (m < mi) = false := decide_eq_false (by omega)
                      clear hmm
                      clear hfi
                      obtain ⟨q0, q1, q2⟩ := cells3 HQ.out
                      go_wp2_with fail
                      refine wp_region_held_drew (S := (fun w' => w'.cell? ⟨g, off + k * 2, none⟩ = some (.int .i64 m) ∧ w'.cell? ⟨g, off + k * 2 + 1, none⟩ = some (.slice Ab ps.length cb) ∧ w'.cell? ⟨wa.heap.size, 0, none⟩ = some (.int .i64 a) ∧ w'.cell? ⟨wa.heap.size, 1, none⟩ = some (.int .i64 b) ∧ w'.cell? ⟨wa.heap.size, 2, none⟩ = some (.int .i64 h) ∧ w'.cell? ⟨g, off + i * 2, none⟩ = some (.int .i64 mi))) (by kernel_rfl) ?_ (fun hHeld => ?_)
                      · exact ⟨c0, c1, q0, q1, q2, b0⟩
                      refine heldY 0 42 ?_
                      refine heldY 1 43 ?_
                      refine heldY 2 44 ?_
                      refine heldY 3 45 ?_
                      refine wpAnyH_ready (rs := [4]) (by kernel_rfl) (by simp) ?_
                      refine AllReadyH.cons rfl (fun K hK => ?_) AllReadyH.nil
                      go_simp
                      go_at_call 20; (refine (next_val rfl HB.out.1 _ HB.out.2.1.drew.here HB.out.2.2).mono ?_); rintro e w2 ⟨rfl, hk1⟩; replace hk1 := grown_trans (grown_drew (grown_refl wr none)) hk1; replace HS := Lib.hid (HS.out.keep hk1); replace HQ := Lib.hid (HQ.out.keep hk1); replace HC := Lib.hid (HC.out.kept hk1); clear c0 c1 b0 q0 q1 q2; obtain ⟨q0, q1, q2⟩ := cells3 HQ.out; obtain ⟨c0, c1⟩ := HC.out; have b0 := cell_kept HE.out hk1; clear hk1
                      refine hK.out _ _ ?_ (fun hHeld => ?_)
                      · exact ⟨c0, c1, q0, q1, q2, b0⟩
                      clear hK K
                      try simp only [Act.put, List.setIfInBounds_toArray, List.set_cons_zero, List.set_cons_succ]
                      refine heldY 5 47 ?_
                      refine heldY 6 48 ?_
                      refine heldY 7 49 ?_
                      refine heldY 8 50 ?_
                      refine heldY 9 51 ?_
                      refine heldY 10 52 ?_
                      refine heldY 11 53 ?_
                      refine heldY 12 54 ?_
                      refine heldY 13 55 ?_
                      refine heldY 14 56 ?_
                      refine heldY 15 57 ?_
                      refine heldY 16 58 ?_
                      refine heldY 17 59 ?_
                      refine heldY 18 60 ?_
                      refine heldY 19 61 ?_
                      refine heldY 20 62 ?_
                      refine heldY 21 63 ?_
                      refine heldY 22 64 ?_
                      refine heldY 23 65 ?_
                      refine heldY 24 66 ?_
                      refine heldY 25 67 ?_
                      refine heldY 26 68 ?_
                      refine heldY 27 69 ?_
                      refine heldY 28 70 ?_
                      refine heldY 29 71 ?_
                      refine heldY 30 72 ?_
                      refine heldY 31 73 ?_
                      refine heldY 32 74 ?_
                      refine heldY 33 75 ?_
                      refine heldY 34 76 ?_
                      refine held_yes (i := 35) (d := some 77) (v := ?_) rfl rfl (by kernel_rfl) (by kernel_rfl) (by kernel_rfl) (fun _ _ _ h => h) (by rfl) ?_ (by assumption) ?_
                      rotate_left
                      · (intro w hSw; (try dsimp only at hSw); go_simp; (try simp only [t5]); (first | done | with_reducible rfl))
                      try simp only [Act.put, List.setIfInBounds_toArray, List.set_cons_zero, List.set_cons_succ]
                      refine heldY 36 78 ?_
                      refine wpAnyH_done (by kernel_rfl) ?_ _
                      go_wp2
                      go_roundw
                      case rel => exact ⟨k + 1, by go_num, by omega, HS.out, HQ.out⟩
                      case measure => (simp [intOf]) <;> omega
                    · have e3 : ((k : Int) != h) = false := by show (!((k : Int) == h)) = _; rw [t3]; rfl
                      clear hfi
                      obtain ⟨q0, q1, q2⟩ := cells3 HQ.out
                      go_wp2_with fail
                      refine wp_region_held_drew (S := (fun w' => w'.cell? ⟨g, off + k * 2, none⟩ = some (.int .i64 m) ∧ w'.cell? ⟨g, off + k * 2 + 1, none⟩ = some (.slice Ab ps.length cb) ∧ w'.cell? ⟨wa.heap.size, 0, none⟩ = some (.int .i64 a) ∧ w'.cell? ⟨wa.heap.size, 1, none⟩ = some (.int .i64 b) ∧ w'.cell? ⟨wa.heap.size, 2, none⟩ = some (.int .i64 h) ∧ w'.cell? ⟨g, off + i * 2, none⟩ = some (.int .i64 mi))) (by kernel_rfl) ?_ (fun hHeld => ?_)
                      · exact ⟨c0, c1, q0, q1, q2, b0⟩
                      refine heldY 0 42 ?_
                      refine heldY 1 43 ?_
                      refine heldY 2 44 ?_
                      refine heldY 3 45 ?_
                      refine wpAnyH_ready (rs := [4]) (by kernel_rfl) (by simp) ?_
                      refine AllReadyH.cons rfl (fun K hK => ?_) AllReadyH.nil
                      go_simp
                      go_at_call 20; (refine (next_val rfl HB.out.1 _ HB.out.2.1.drew.here HB.out.2.2).mono ?_); rintro e w2 ⟨rfl, hk1⟩; replace hk1 := grown_trans (grown_drew (grown_refl wr none)) hk1; replace HS := Lib.hid (HS.out.keep hk1); replace HQ := Lib.hid (HQ.out.keep hk1); replace HC := Lib.hid (HC.out.kept hk1); clear c0 c1 b0 q0 q1 q2; obtain ⟨q0, q1, q2⟩ := cells3 HQ.out; obtain ⟨c0, c1⟩ := HC.out; have b0 := cell_kept HE.out hk1; clear hk1
                      refine hK.out _ _ ?_ (fun hHeld => ?_)
                      · exact ⟨c0, c1, q0, q1, q2, b0⟩
                      clear hK K
                      try simp only [Act.put, List.setIfInBounds_toArray, List.set_cons_zero, List.set_cons_succ]
                      refine heldY 5 47 ?_
                      refine heldY 6 48 ?_
                      refine heldY 7 49 ?_
                      refine heldY 8 50 ?_
                      refine heldY 9 51 ?_
                      refine heldY 10 52 ?_
                      refine heldY 11 53 ?_
                      refine heldY 12 54 ?_
                      refine heldY 13 55 ?_
                      refine heldY 14 56 ?_
                      refine heldY 15 57 ?_
                      refine heldY 16 58 ?_
                      refine heldY 17 59 ?_
                      refine heldY 18 60 ?_
                      refine heldY 19 61 ?_
                      refine heldY 20 62 ?_
                      refine heldY 21 63 ?_
                      refine heldY 22 64 ?_
                      refine heldY 23 65 ?_
                      refine heldY 24 66 ?_
                      refine heldN 25 67 ?_
                      refine heldN 26 68 ?_
                      refine heldN 27 69 ?_
                      refine heldN 28 70 ?_
                      refine heldN 29 71 ?_
                      refine heldN 30 72 ?_
                      refine heldN 31 73 ?_
                      refine heldN 32 74 ?_
                      refine heldN 33 75 ?_
                      refine heldN 34 76 ?_
                      refine heldN 35 77 ?_
                      refine heldY 36 78 ?_
                      refine wpAnyH_done (by kernel_rfl) ?_ _
                      go_wp2
                      go_roundw
                      case rel => exact ⟨k + 1, by go_num, by omega, HS.out, HQ.out⟩
                      case measure => (simp [intOf]) <;> omega
                  · have e2 : ((k : Int) != b) = false := by show (!((k : Int) == b)) = _; rw [t2]; rfl
                    clear hfi
                    obtain ⟨q0, q1, q2⟩ := cells3 HQ.out
                    go_wp2_with fail
                    refine wp_region_held_drew (S := (fun w' => w'.cell? ⟨g, off + k * 2, none⟩ = some (.int .i64 m) ∧ w'.cell? ⟨g, off + k * 2 + 1, none⟩ = some (.slice Ab ps.length cb) ∧ w'.cell? ⟨wa.heap.size, 0, none⟩ = some (.int .i64 a) ∧ w'.cell? ⟨wa.heap.size, 1, none⟩ = some (.int .i64 b) ∧ w'.cell? ⟨wa.heap.size, 2, none⟩ = some (.int .i64 h) ∧ w'.cell? ⟨g, off + i * 2, none⟩ = some (.int .i64 mi))) (by kernel_rfl) ?_ (fun hHeld => ?_)
                    · exact ⟨c0, c1, q0, q1, q2, b0⟩
                    refine heldY 0 42 ?_
                    refine heldY 1 43 ?_
                    refine heldY 2 44 ?_
                    refine heldY 3 45 ?_
                    refine wpAnyH_ready (rs := [4]) (by kernel_rfl) (by simp) ?_
                    refine AllReadyH.cons rfl (fun K hK => ?_) AllReadyH.nil
                    go_simp
                    go_at_call 20; (refine (next_val rfl HB.out.1 _ HB.out.2.1.drew.here HB.out.2.2).mono ?_); rintro e w2 ⟨rfl, hk1⟩; replace hk1 := grown_trans (grown_drew (grown_refl wr none)) hk1; replace HS := Lib.hid (HS.out.keep hk1); replace HQ := Lib.hid (HQ.out.keep hk1); replace HC := Lib.hid (HC.out.kept hk1); clear c0 c1 b0 q0 q1 q2; obtain ⟨q0, q1, q2⟩ := cells3 HQ.out; obtain ⟨c0, c1⟩ := HC.out; have b0 := cell_kept HE.out hk1; clear hk1
                    refine hK.out _ _ ?_ (fun hHeld => ?_)
                    · exact ⟨c0, c1, q0, q1, q2, b0⟩
                    clear hK K
                    try simp only [Act.put, List.setIfInBounds_toArray, List.set_cons_zero, List.set_cons_succ]
                    refine heldY 5 47 ?_
                    refine heldY 6 48 ?_
                    refine heldY 7 49 ?_
                    refine heldY 8 50 ?_
                    refine heldY 9 51 ?_
                    refine heldY 10 52 ?_
                    refine heldY 11 53 ?_
                    refine heldY 12 54 ?_
                    refine heldY 13 55 ?_
                    refine heldY 14 56 ?_
                    refine heldY 15 57 ?_
                    refine heldY 16 58 ?_
                    refine heldY 17 59 ?_
                    refine heldY 18 60 ?_
                    refine heldN 19 61 ?_
                    refine heldN 20 62 ?_
                    refine heldN 21 63 ?_
                    refine heldN 22 64 ?_
                    refine heldY 23 65 ?_
                    refine heldY 24 66 ?_
                    refine heldN 25 67 ?_
                    refine heldN 26 68 ?_
                    refine heldN 27 69 ?_
                    refine heldN 28 70 ?_
                    refine heldN 29 71 ?_
                    refine heldN 30 72 ?_
                    refine heldN 31 73 ?_
                    refine heldN 32 74 ?_
                    refine heldN 33 75 ?_
                    refine heldN 34 76 ?_
                    refine heldN 35 77 ?_
                    refine heldY 36 78 ?_
                    refine wpAnyH_done (by kernel_rfl) ?_ _
                    go_wp2
                    go_roundw
                    case rel => exact ⟨k + 1, by go_num, by omega, HS.out, HQ.out⟩
                    case measure => (simp [intOf]) <;> omega
                · have e1 : ((k : Int) != a) = false := by show (!((k : Int) == a)) = _; rw [t1]; rfl
                  clear hfi
                  obtain ⟨q0, q1, q2⟩ := cells3 HQ.out
                  go_wp2_with fail
                  refine wp_region_held_drew (S := (fun w' => w'.cell? ⟨g, off + k * 2, none⟩ = some (.int .i64 m) ∧ w'.cell? ⟨g, off + k * 2 + 1, none⟩ = some (.slice Ab ps.length cb) ∧ w'.cell? ⟨wa.heap.size, 0, none⟩ = some (.int .i64 a) ∧ w'.cell? ⟨wa.heap.size, 1, none⟩ = some (.int .i64 b) ∧ w'.cell? ⟨wa.heap.size, 2, none⟩ = some (.int .i64 h) ∧ w'.cell? ⟨g, off + i * 2, none⟩ = some (.int .i64 mi))) (by kernel_rfl) ?_ (fun hHeld => ?_)
                  · exact ⟨c0, c1, q0, q1, q2, b0⟩
                  refine heldY 0 42 ?_
                  refine heldY 1 43 ?_
                  refine heldY 2 44 ?_
                  refine heldY 3 45 ?_
                  refine wpAnyH_ready (rs := [4]) (by kernel_rfl) (by simp) ?_
                  refine AllReadyH.cons rfl (fun K hK => ?_) AllReadyH.nil
                  go_simp
                  go_at_call 20; (refine (next_val rfl HB.out.1 _ HB.out.2.1.drew.here HB.out.2.2).mono ?_); rintro e w2 ⟨rfl, hk1⟩; replace hk1 := grown_trans (grown_drew (grown_refl wr none)) hk1; replace HS := Lib.hid (HS.out.keep hk1); replace HQ := Lib.hid (HQ.out.keep hk1); replace HC := Lib.hid (HC.out.kept hk1); clear c0 c1 b0 q0 q1 q2; obtain ⟨q0, q1, q2⟩ := cells3 HQ.out; obtain ⟨c0, c1⟩ := HC.out; have b0 := cell_kept HE.out hk1; clear hk1
                  refine hK.out _ _ ?_ (fun hHeld => ?_)
                  · exact ⟨c0, c1, q0, q1, q2, b0⟩
                  clear hK K
                  try simp only [Act.put, List.setIfInBounds_toArray, List.set_cons_zero, List.set_cons_succ]
                  refine heldY 5 47 ?_
                  refine heldY 6 48 ?_
                  refine heldY 7 49 ?_
                  refine heldY 8 50 ?_
                  refine heldY 9 51 ?_
                  refine heldY 10 52 ?_
                  refine heldY 11 53 ?_
                  refine heldY 12 54 ?_
                  refine heldN 13 55 ?_
                  refine heldN 14 56 ?_
                  refine heldN 15 57 ?_
                  refine heldN 16 58 ?_
                  refine heldY 17 59 ?_
                  refine heldY 18 60 ?_
                  refine heldN 19 61 ?_
                  refine heldN 20 62 ?_
                  refine heldN 21 63 ?_
                  refine heldN 22 64 ?_
                  refine heldY 23 65 ?_
                  refine heldY 24 66 ?_
                  refine heldN 25 67 ?_
                  refine heldN 26 68 ?_
                  refine heldN 27 69 ?_
                  refine heldN 28 70 ?_
                  refine heldN 29 71 ?_
                  refine heldN 30 72 ?_
                  refine heldN 31 73 ?_
                  refine heldN 32 74 ?_
                  refine heldN 33 75 ?_
                  refine heldN 34 76 ?_
                  refine heldN 35 77 ?_
                  refine heldY 36 78 ?_
                  refine wpAnyH_done (by kernel_rfl) ?_ _
                  go_wp2
                  go_roundw
                  case rel => exact ⟨k + 1, by go_num, by omega, HS.out, HQ.out⟩
                  case measure => (simp [intOf]) <;> omega
            · obtain rfl : k = n := by omega
              obtain ⟨g, off, m9, A9, c9, p9, rfl, _, _, hb9, b0, b1, hpr⟩ := HS.out.1.at_ (show i < bs.length by have := HL.out.1; omega)
              have hsm := HL.out.2 _ (List.mem_of_getElem? hb9)
              rw [HF.out.2.2.1] at hb9
              injection hb9 with hb9
              injection hb9 with e1 e2 e3 e4
              subst e1; subst e2; subst e3; subst e4
              obtain ⟨V, hV⟩ : ∃ V, nextV mi pi = V := ⟨_, rfl⟩
              have hw := HF.out.2.1
              simp only [wrB, hV, Bool.and_eq_true, Bool.not_eq_true', beq_iff_eq] at hw
              obtain ⟨⟨⟨t0, t1⟩, t2⟩, t3⟩ := hw
              have i3 : (i : Int) < k := by omega
              have HB := Lib.hid (And.intro hV (And.intro hpr hsm))
              have e1 : ((i : Int) != a) = true := by show (!((i : Int) == a)) = _; rw [t1]; rfl
              have e2 : ((i : Int) != b) = true := by show (!((i : Int) == b)) = _; rw [t2]; rfl
              have e3 : ((i : Int) != h) = true := by show (!((i : Int) == h)) = _; rw [t3]; rfl
              obtain ⟨P, hP⟩ : ∃ P, spreadV bs = P := ⟨_, rfl⟩
              have t5 : decide (5 < P) = true := decide_eq_true (by have := HV.out.2; rw [hP] at this; exact this)
              have HP := Lib.hid hP
              clear hV hpr hsm hP
              go_wp2_with fail
              refine (next_val rfl HB.out.1 _ HB.out.2.1.here HB.out.2.2).mono ?_
              rintro e w31 ⟨rfl, hk⟩
              replace HS := Lib.hid (HS.out.keep hk)
              replace HQ := Lib.hid (HQ.out.keep hk)
              clear hk
              clear b0 b1
              obtain ⟨q0, q1, q2⟩ := cells3 HQ.out
              go_wp2_with fail
              refine (spread_val HP.out HL.out.1 HS.out.1 (by omega) HL.out.2).mono ?_
              rintro e w32 ⟨rfl, hk⟩
              replace HS := Lib.hid (HS.out.keep hk)
              replace HQ := Lib.hid (HQ.out.keep hk)
              clear hk
              go_wp2
              go_ret
              exact ⟨rfl, HS.out.2⟩
      · have HI := Lib.hid (show restV n bs a b h = -1 from rest_low hs)
        obtain ⟨q0, q1, q2⟩ := cells3 HQ.out
        go_wp2_with fail
        refine (rest_val HI.out HL.out.1 HS.out.1 (by omega) HL.out.2).mono ?_
        rintro e w1 ⟨rfl, hk⟩
        replace HS := Lib.hid (HS.out.keep hk)
        replace HQ := Lib.hid (HQ.out.keep hk)
        clear hk
        clear q0 q1 q2
        obtain ⟨q0, q1, q2⟩ := cells3 HQ.out
        go_wp2_with fail
        refine (specRest_val HI.out HL.out.1 HS.out.1 (by omega) HL.out.2).mono ?_
        rintro e w2 ⟨rfl, hk⟩
        replace HS := Lib.hid (HS.out.keep hk)
        replace HQ := Lib.hid (HQ.out.keep hk)
        clear hk
        clear q0 q1 q2
        go_wp2_with (go_at_call 19; refine (alive_any _).mono ?_; rintro e w' ⟨rfl, rfl⟩)
        go_ret
        exact ⟨rfl, HS.out.2⟩

/-! ### THE ROW's STEP: WRITTEN OUT: LEAVE IT -/
set_option maxRecDepth 100000 in
theorem lifted (os : Os) (started : os.Started) (H : Type) (enc : TypeId × Value → H) :
    ReturnsInHanded {} Try.checked os 7 .any (Rows.fnWearVictimSpec.pre6 enc Try.prog Try.f7 Rows.fnWearVictimRow.domain false) (Rows.fnWearVictimSpec.post enc Try.prog Try.f7 false true false false) := by
  refine returnsInHanded_of_change (C := Try.checked) own started (by kernel_rfl) Try.func7
    (ChangeSpec.witness6 (enc := enc) (C := Try.checked) false ⟨#[], #[.slice none 0 0], []⟩ 8 (by kernel_rfl) (by kernel_rfl) (by kernel_rfl) (by kernel_rfl)) ?_
  intro W base args ds gs before hval0 hW hcnd _
  have hval : ∀ (j : Nat) t v, Try.f7.params[j]? = some t → args[j]? = some v → Value.okWide Try.prog W .any base t v := hval0
  have hW' := hW
  obtain ⟨p, q, hA0, hV, rfl, hfz, hnd⟩ := hW
  have hA : DataW.TrodAll enc Try.prog W 0 (fun _ => true) true Try.f7.params.toList args.toList ds p := hA0
  rw [Try.params7] at hA hval
  obtain ⟨v0, vs0, d0, ds0, p0, q0, hargs, rfl, rfl, h0, r0⟩ := trodAll_cons hA
  obtain ⟨rfl, rfl, rfl⟩ := trodAll_nil r0
  obtain rfl : args = #[v0] := by cases args; simp_all
  obtain ⟨rfl, rfl⟩ := trodVars_none hV
  obtain ⟨a0, len0, cap0, rfl⟩ := okWide_slice Try.underlying22 (hval 0 22 v0 rfl rfl)
  have k0 := h0
  have lt0 : ∀ x ∈ p0, x.block < W.heap.size := by obtain ⟨m, hm⟩ := k0; exact DataW.trod_lt m _ _ _ hm
  obtain ⟨z0, w0⟩ : ∃ zs, IsRow .u8 W a0 len0 cap0 zs := by
    obtain ⟨fuel, hf⟩ := h0
    rcases open_ints Try.underlying22 Try.underlying5 (by kernel_rfl) hf with ⟨hcs, _⟩ | ⟨x, l, c, zs, hcs, _, hl, hm, hz, _, hcell, hwz⟩
    · simp [Value.cells] at hcs
      obtain ⟨rfl, rfl, rfl⟩ := hcs
      exact ⟨[], .inl ⟨rfl, rfl, rfl, rfl⟩⟩
    · simp [Value.cells] at hcs
      obtain ⟨rfl, rfl, rfl⟩ := hcs
      exact ⟨zs, .inr ⟨_, rfl, hl, hm, by simpa using hz, hcell, hwz⟩⟩
  clear hA0 hval0
  refine (walk a0 len0 cap0 z0 W w0).mono fun e W' ⟨he, bel⟩ => ?_
  subst he
  exact ⟨_, rfl, _, _, _, [], _, [], hW', trodAll_mk1 (shut_bool Try.underlying4 _), (trodAll_cons_mk (Below.trod laidOut (by kernel_rfl) (of_decide_eq_true (by kernel_rfl)) k0 bel lt0) trodAll_mk0), rfl, bel.frame _, fun h => by cases h⟩

theorem over : Rows.fnWearVictimRow.holds Try.pinned (OpenSpec.ofChange Rows.fnWearVictimSpec) :=
  OpenClaim.holds_of_wide 7 Try.f7 rfl rfl rfl rfl rfl rfl rfl ⟨rfl, rfl, rfl, rfl, rfl⟩ rfl rfl rfl rfl rfl (by kernel_rfl) Try.func7 (by kernel_rfl)
    (of_decide_eq_true (by kernel_rfl)) (by unfold Func.isWrapper; first | (rw [if_pos (by decide +kernel)]; kernel_rfl) | (rw [if_neg (by decide +kernel)]; exact ⟨rfl, rfl⟩))
    (fun os started H enc _ => lifted os started H enc)

/-- ████ THE STATEMENT ████ -/
theorem proved : Rows.FnWearVictimSaid := over
#print axioms proved
end Go.Proofs.Ytpdkfgihpchkiaa.fnWearVictim
