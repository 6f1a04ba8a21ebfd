/- For every code, FreshBlock answers of the drawn device and heads as its model, and what the statement asks of that block and of the others holds: proved.
   Conditions: none beyond the row's own reading of the input. The frame was written by the guide's proof-skeleton; the walk is ours. -/
import Derived.Test.YtpdkfgihpchkiaaLawHeads2
import Derived.Test.YtpdkfgihpchkiaaHand
import Derived.Test.YtpdkfgihpchkiaaRows
import Derived.WalkKit
import Derived.ProofKit
import Derived.OpenShut
import Derived.ShutString
import Derived.ChangeOld
import Derived.Below
namespace Go.Proofs.Ytpdkfgihpchkiaa.fnFreshBlock
open Go.ChangeShapes Go.WideShapes Go.ChangeAt Go.RowKit
open Go.ChangeMaps (open_string shut_string)
set_option linter.unusedVariables false
set_option linter.unusedSimpArgs false

theorem own : ownKnob Try.prog.godebug = none := by kernel_rfl
theorem laidOut : laidOutB Try.prog = true := by kernel_rfl

/-- WHAT THE WALK IS TOLD OF A SLICE OF INTEGERS THAT CAME IN: it is nil; or it leads to a row of 'cap' cells, the numbers 'zs' (the first 'len' are its elements, the rest its spare room), each fitting its kind. -/
def IsRow (k : IntKind) (w : World) (a : Option Addr) (len cap : Nat) (zs : List Int) : Prop :=
  (a = none ∧ len = 0 ∧ cap = 0 ∧ zs = []) ∨
  ∃ x, a = some x ∧ len ≤ cap ∧ cap ≤ maxLen ∧ zs.length = cap ∧ (∀ i, i < zs.length → w.cell? (x.add i) = some (.int k (zs.getD i 0))) ∧ ∀ n ∈ zs, (Lit.int k n).wf = true

/-! ### STEP 1: THE WALK: the Go text returns true, AND WRITES NOTHING THAT WAS THERE: 'Below w.heap.size w w'' (Derived/Below.lean: '.refl', '.alloc', '.drew', '.setCell' at a new block, '.trans'). Open each 'IsRow' by 'rcases' AHEAD of 'go_enter'; part every test ahead of the walk. -/
set_option maxHeartbeats 8000000 in
set_option maxRecDepth 100000 in
theorem walk (a0 : Option Addr) (len0 cap0 : Nat) (z0 : List Int) (w : World) (w0 : IsRow .u8 w a0 len0 cap0 z0) :
    Calls Try.prog 3 #[.slice a0 len0 cap0] w fun e w' => e = .returned (.bool true) ∧ Below w.heap.size w w' := by
  obtain ⟨hl, hc, hb⟩ := bytes_of w0
  by_cases hbig : 1048576 < len0
  · go_enter Try.func3, Try.ntmps3
    go_wp2
    go_ret
    exact ⟨rfl, Below.refl _ _⟩
  · go_enter Try.func3, Try.ntmps3
    go_wp2_with fail
    refine (drawFreshBlock_any w a0 len0 cap0 hl hc hb).mono ?_
    rintro e wa ⟨A, n, c, bs, a, b, h, rfl, hln, h13, hsm, hs0⟩
    have HS := Lib.hid (hs0.alloc (.cells #[.int .i64 a, .int .i64 b, .int .i64 h] 25))
    have HQ := Lib.hid (Blk.new wa 25 #[.int .i64 a, .int .i64 b, .int .i64 h])
    have HL := Lib.hid (And.intro hln (fun (q : Bk) (hq : q ∈ bs) => show q.ps.length ≤ 1048576 by have := hsm q hq; omega))
    clear hb w0 hln hsm hs0
    cases hv : (headsB n a b h && devB bs)
    · have HI := Lib.hid (show FreshIs n bs a b h (-1) from .inl ⟨hv, rfl⟩)
      have HV := Lib.hid hv
      clear hv
      obtain ⟨q0, q1, q2⟩ := cells3 HQ.out
      go_wp2_with fail
      refine (fresh_val HI.out HL.out.1 HS.out.1 (by omega) HL.out.2).mono ?_
      rintro e w1 ⟨rfl, hk⟩
      replace HS := Lib.hid (HS.out.keep hk)
      replace HQ := Lib.hid (HQ.out.keep hk)
      clear hk
      clear q0 q1 q2
      obtain ⟨q0, q1, q2⟩ := cells3 HQ.out
      go_wp2_with fail
      refine (specFresh_val HI.out HL.out.1 HS.out.1 (by omega) HL.out.2).mono ?_
      rintro e w2 ⟨rfl, hk⟩
      replace HS := Lib.hid (HS.out.keep hk)
      replace HQ := Lib.hid (HQ.out.keep hk)
      clear hk
      clear q0 q1 q2
      obtain ⟨q0, q1, q2⟩ := cells3 HQ.out
      go_wp2_with fail
      refine (headsValid_val HV.out HL.out.1 HS.out.1 (by omega) HL.out.2).mono ?_
      rintro e w3 ⟨rfl, hk⟩
      replace HS := Lib.hid (HS.out.keep hk)
      replace HQ := Lib.hid (HQ.out.keep hk)
      clear hk
      clear q0 q1 q2
      go_wp2_with (go_at_call 19; refine (alive_any _).mono ?_; rintro e w' ⟨rfl, rfl⟩)
      go_ret
      exact ⟨rfl, HS.out.2⟩
    · rcases fresh_law (bs := bs) (a := a) (b := b) (h := h) HL.out.1 with ⟨hr9, hall⟩ | ⟨i, ⟨mi, Ai, ci, pi⟩, hr9, hi9, hfi, hbi, hall⟩
      · have HF := Lib.hid (And.intro trivial hall)
        clear hall
        have HI := Lib.hid (show FreshIs n bs a b h (-1) from .inr ⟨hv, hr9.symm⟩)
        have HV := Lib.hid hv
        clear hv
        clear hr9
        obtain ⟨q0, q1, q2⟩ := cells3 HQ.out
        go_wp2_with fail
        refine (fresh_val HI.out HL.out.1 HS.out.1 (by omega) HL.out.2).mono ?_
        rintro e w1 ⟨rfl, hk⟩
        replace HS := Lib.hid (HS.out.keep hk)
        replace HQ := Lib.hid (HQ.out.keep hk)
        clear hk
        clear q0 q1 q2
        obtain ⟨q0, q1, q2⟩ := cells3 HQ.out
        go_wp2_with fail
        refine (specFresh_val HI.out HL.out.1 HS.out.1 (by omega) HL.out.2).mono ?_
        rintro e w2 ⟨rfl, hk⟩
        replace HS := Lib.hid (HS.out.keep hk)
        replace HQ := Lib.hid (HQ.out.keep hk)
        clear hk
        clear q0 q1 q2
        obtain ⟨q0, q1, q2⟩ := cells3 HQ.out
        go_wp2_with fail
        refine (headsValid_val HV.out HL.out.1 HS.out.1 (by omega) HL.out.2).mono ?_
        rintro e w3 ⟨rfl, hk⟩
        replace HS := Lib.hid (HS.out.keep hk)
        replace HQ := Lib.hid (HQ.out.keep hk)
        clear hk
        clear q0 q1 q2
        go_wp2_with fail
        go_loopw [6] (fun i wr => ∃ k : Nat, i = .int .i64 k ∧ k ≤ n ∧ LD w A bs wr ∧ Blk wr wa.heap.size 25 #[.int .i64 a, .int .i64 b, .int .i64 h]) (fun i _ => n - (intOf i).toNat)
        case atStart => exact ⟨0, rfl, Nat.zero_le _, HS.out, HQ.out⟩
        case round =>
          obtain ⟨k, rfl, hk, hS, hQ⟩ := hrel
          clear HS HQ
          have HS := Lib.hid hS
          have HQ := Lib.hid hQ
          clear hS hQ
          by_cases hkn : k < n
          · have hi0 : (k : Int) < n := by omega
            obtain ⟨g, off, m, Ab, cb, ps, rfl, _, _, hbk, c0, c1, hpr⟩ := HS.out.1.at_ (show k < bs.length by have := HL.out.1; omega)
            obtain ⟨V, hV⟩ : ∃ V, nextV m ps = V := ⟨_, rfl⟩
            have HB := Lib.hid (And.intro hbk (And.intro hV (And.intro hpr (HL.out.2 _ (List.mem_of_getElem? hbk)))))
            clear hbk hV hpr
            go_upto_region 12 with fail
            go_cut [7] (fun sf wx => sf = .bool (frB a b h k ⟨m, Ab, cb, ps⟩) ∧ LD w (some ⟨g, off, none⟩) bs wx ∧ Blk wx wa.heap.size 25 #[.int .i64 a, .int .i64 b, .int .i64 h])
            case first =>
              go_wp2_with fail
              refine (next_val rfl HB.out.2.1 _ HB.out.2.2.1 HB.out.2.2.2).mono ?_
              rintro e w21 ⟨rfl, hk⟩
              replace HS := Lib.hid (HS.out.keep hk)
              replace HQ := Lib.hid (HQ.out.keep hk)
              clear hk
              obtain ⟨q0, q1, q2⟩ := cells3 HQ.out
              by_cases h0 : V = 0
              · subst h0
                by_cases ha : (k : Int) = a
                · have e1 : ((k : Int) != a) = false := by simp [ha]
                  have ef : frB a b h k ⟨m, Ab, cb, ps⟩ = false := by simp [frB, HB.out.2.1, ha]
                  clear ha
                  have HE := Lib.hid ef
                  clear ef
                  go_wp2_with fail
                  go_meet
                  exact ⟨by rw [HE.out], HS.out, HQ.out⟩
                · have e1 : ((k : Int) != a) = true := by simp [ha]
                  by_cases hb9 : (k : Int) = b
                  · have e2 : ((k : Int) != b) = false := by simp [hb9]
                    have ef : frB a b h k ⟨m, Ab, cb, ps⟩ = false := by simp [frB, HB.out.2.1, hb9]
                    clear hb9
                    have HE := Lib.hid ef
                    clear ef
                    go_wp2_with fail
                    go_meet
                    exact ⟨by rw [HE.out], HS.out, HQ.out⟩
                  · have e2 : ((k : Int) != b) = true := by simp [hb9]
                    by_cases hh9 : (k : Int) = h
                    · have e3 : ((k : Int) != h) = false := by simp [hh9]
                      have ef : frB a b h k ⟨m, Ab, cb, ps⟩ = false := by simp [frB, HB.out.2.1, hh9]
                      clear hh9
                      have HE := Lib.hid ef
                      clear ef
                      go_wp2_with fail
                      go_meet
                      exact ⟨by rw [HE.out], HS.out, HQ.out⟩
                    · have e3 : ((k : Int) != h) = true := by simp [hh9]
                      have ef : frB a b h k ⟨m, Ab, cb, ps⟩ = true := by simp [frB, HB.out.2.1, ha, hb9, hh9]
                      have HE := Lib.hid ef
                      clear ef
                      go_wp2_with fail
                      go_meet
                      exact ⟨by rw [HE.out], HS.out, HQ.out⟩
              · have e0 : (V == 0) = false := by simp [h0]
                have ef : frB a b h k ⟨m, Ab, cb, ps⟩ = false := by simp [frB, HB.out.2.1, h0]
                have HE := Lib.hid ef
                clear ef
                go_wp2_with fail
                go_meet
                exact ⟨by rw [HE.out], HS.out, HQ.out⟩
            case rest =>
              obtain ⟨rfl, hS, hQ⟩ := hcut
              clear HS HQ c0 c1
              have HS := Lib.hid hS
              have HQ := Lib.hid hQ
              clear hS hQ
              have hD2 := HS.out.1.1 (by have := (List.getElem?_eq_some_iff.1 HB.out.1).1; omega)
              obtain ⟨g', off', eA, _, _, hce⟩ := hD2
              injection eA with eA
              injection eA with e1 e2
              subst e1; subst e2
              obtain ⟨c0, c1⟩ := hce _ _ HB.out.1
              clear c1
              clear hce
              have hf := HF.out.2 k _ hkn HB.out.1
              rw [hf]
              clear hf
              have hkr : ((k : Int) == (-1)) = false := by rw [beq_eq_false_iff_ne]; omega
              go_wp2_with fail
              refine wp_region_held_drew (S := (fun w' => w'.cell? ⟨g, off + k * 2, none⟩ = some (.int .i64 m))) (by kernel_rfl) ?_ (fun hHeld => ?_)
              · exact c0
              refine heldY 0 63 ?_
              refine heldY 1 64 ?_
              refine heldN 2 65 ?_
              refine heldN 3 66 ?_
              refine heldN 4 67 ?_
              refine heldN 5 68 ?_
              refine heldN 6 69 ?_
              refine heldN 7 70 ?_
              refine heldN 8 71 ?_
              refine heldN 9 72 ?_
              refine heldN 10 73 ?_
              refine heldN 11 74 ?_
              refine heldN 12 75 ?_
              refine heldN 13 76 ?_
              refine heldN 14 77 ?_
              refine heldN 15 78 ?_
              refine heldN 16 79 ?_
              refine heldN 17 80 ?_
              refine heldN 18 81 ?_
              refine heldN 19 82 ?_
              refine heldN 20 83 ?_
              refine heldN 21 84 ?_
              refine heldN 22 85 ?_
              refine heldY 23 86 ?_
              refine heldY 24 87 ?_
              refine heldY 25 88 ?_
              refine heldY 26 89 ?_
              refine held_yes (i := 27) (d := some 90) (v := ?_) rfl rfl (by kernel_rfl) (by kernel_rfl) (by kernel_rfl) (fun _ _ _ h => h) (by rfl) ?_ (by assumption) ?_
              rotate_left
              · (intro w hSw; (try dsimp only at hSw); go_simp; (try simp only [hkr]); (first | done | with_reducible rfl))
              try simp only [Act.put, List.setIfInBounds_toArray, List.set_cons_zero, List.set_cons_succ]
              refine heldY 28 91 ?_
              refine heldN 29 92 ?_
              refine heldN 30 93 ?_
              refine heldY 31 94 ?_
              refine heldY 32 95 ?_
              refine wpAnyH_done (by kernel_rfl) ?_ _
              go_wp2
              go_roundw
              case rel => exact ⟨k + 1, by go_num, by omega, HS.out.keep (grown_drew (grown_refl _ none)), HQ.out.keep (grown_drew (grown_refl _ none))⟩
              case measure => (simp [intOf]) <;> omega
          · obtain rfl : k = n := by omega
            have hin : decide ((-1 : Int) < (k : Int)) = true := by simp; omega
            go_wp2
            go_ret
            exact ⟨rfl, HS.out.2⟩
      · have HF := Lib.hid (And.intro hi9 (And.intro trivial (And.intro hfi (And.intro hbi hall))))
        clear hfi hbi hall
        have HI := Lib.hid (show FreshIs n bs a b h (i : Int) from .inr ⟨hv, hr9.symm⟩)
        have HV := Lib.hid hv
        clear hv
        clear hr9
        obtain ⟨q0, q1, q2⟩ := cells3 HQ.out
        go_wp2_with fail
        refine (fresh_val HI.out HL.out.1 HS.out.1 (by omega) HL.out.2).mono ?_
        rintro e w1 ⟨rfl, hk⟩
        replace HS := Lib.hid (HS.out.keep hk)
        replace HQ := Lib.hid (HQ.out.keep hk)
        clear hk
        clear q0 q1 q2
        obtain ⟨q0, q1, q2⟩ := cells3 HQ.out
        go_wp2_with fail
        refine (specFresh_val HI.out HL.out.1 HS.out.1 (by omega) HL.out.2).mono ?_
        rintro e w2 ⟨rfl, hk⟩
        replace HS := Lib.hid (HS.out.keep hk)
        replace HQ := Lib.hid (HQ.out.keep hk)
        clear hk
        clear q0 q1 q2
        obtain ⟨q0, q1, q2⟩ := cells3 HQ.out
        go_wp2_with fail
        refine (headsValid_val HV.out HL.out.1 HS.out.1 (by omega) HL.out.2).mono ?_
        rintro e w3 ⟨rfl, hk⟩
        replace HS := Lib.hid (HS.out.keep hk)
        replace HQ := Lib.hid (HQ.out.keep hk)
        clear hk
        clear q0 q1 q2
        go_wp2_with fail
        go_loopw [6] (fun i wr => ∃ k : Nat, i = .int .i64 k ∧ k ≤ n ∧ LD w A bs wr ∧ Blk wr wa.heap.size 25 #[.int .i64 a, .int .i64 b, .int .i64 h]) (fun i _ => n - (intOf i).toNat)
        case atStart => exact ⟨0, rfl, Nat.zero_le _, HS.out, HQ.out⟩
        case round =>
          obtain ⟨k, rfl, hk, hS, hQ⟩ := hrel
          clear HS HQ
          have HS := Lib.hid hS
          have HQ := Lib.hid hQ
          clear hS hQ
          by_cases hkn : k < n
          · have hi0 : (k : Int) < n := by omega
            obtain ⟨g, off, m, Ab, cb, ps, rfl, _, _, hbk, c0, c1, hpr⟩ := HS.out.1.at_ (show k < bs.length by have := HL.out.1; omega)
            obtain ⟨V, hV⟩ : ∃ V, nextV m ps = V := ⟨_, rfl⟩
            have HB := Lib.hid (And.intro hbk (And.intro hV (And.intro hpr (HL.out.2 _ (List.mem_of_getElem? hbk)))))
            clear hbk hV hpr
            go_upto_region 12 with fail
            go_cut [7] (fun sf wx => sf = .bool (frB a b h k ⟨m, Ab, cb, ps⟩) ∧ LD w (some ⟨g, off, none⟩) bs wx ∧ Blk wx wa.heap.size 25 #[.int .i64 a, .int .i64 b, .int .i64 h])
            case first =>
              go_wp2_with fail
              refine (next_val rfl HB.out.2.1 _ HB.out.2.2.1 HB.out.2.2.2).mono ?_
              rintro e w21 ⟨rfl, hk⟩
              replace HS := Lib.hid (HS.out.keep hk)
              replace HQ := Lib.hid (HQ.out.keep hk)
              clear hk
              obtain ⟨q0, q1, q2⟩ := cells3 HQ.out
              by_cases h0 : V = 0
              · subst h0
                by_cases ha : (k : Int) = a
                · have e1 : ((k : Int) != a) = false := by simp [ha]
                  have ef : frB a b h k ⟨m, Ab, cb, ps⟩ = false := by simp [frB, HB.out.2.1, ha]
                  clear ha
                  have HE := Lib.hid ef
                  clear ef
                  go_wp2_with fail
                  go_meet
                  exact ⟨by rw [HE.out], HS.out, HQ.out⟩
                · have e1 : ((k : Int) != a) = true := by simp [ha]
                  by_cases hb9 : (k : Int) = b
                  · have e2 : ((k : Int) != b) = false := by simp [hb9]
                    have ef : frB a b h k ⟨m, Ab, cb, ps⟩ = false := by simp [frB, HB.out.2.1, hb9]
                    clear hb9
                    have HE := Lib.hid ef
                    clear ef
                    go_wp2_with fail
                    go_meet
                    exact ⟨by rw [HE.out], HS.out, HQ.out⟩
                  · have e2 : ((k : Int) != b) = true := by simp [hb9]
                    by_cases hh9 : (k : Int) = h
                    · have e3 : ((k : Int) != h) = false := by simp [hh9]
                      have ef : frB a b h k ⟨m, Ab, cb, ps⟩ = false := by simp [frB, HB.out.2.1, hh9]
                      clear hh9
                      have HE := Lib.hid ef
                      clear ef
                      go_wp2_with fail
                      go_meet
                      exact ⟨by rw [HE.out], HS.out, HQ.out⟩
                    · have e3 : ((k : Int) != h) = true := by simp [hh9]
                      have ef : frB a b h k ⟨m, Ab, cb, ps⟩ = true := by simp [frB, HB.out.2.1, ha, hb9, hh9]
                      have HE := Lib.hid ef
                      clear ef
                      go_wp2_with fail
                      go_meet
                      exact ⟨by rw [HE.out], HS.out, HQ.out⟩
              · have e0 : (V == 0) = false := by simp [h0]
                have ef : frB a b h k ⟨m, Ab, cb, ps⟩ = false := by simp [frB, HB.out.2.1, h0]
                have HE := Lib.hid ef
                clear ef
                go_wp2_with fail
                go_meet
                exact ⟨by rw [HE.out], HS.out, HQ.out⟩
            case rest =>
              obtain ⟨rfl, hS, hQ⟩ := hcut
              clear HS HQ c0 c1
              have HS := Lib.hid hS
              have HQ := Lib.hid hQ
              clear hS hQ
              have hD2 := HS.out.1.1 (by have := (List.getElem?_eq_some_iff.1 HB.out.1).1; omega)
              obtain ⟨g', off', eA, _, _, hce⟩ := hD2
              injection eA with eA
              injection eA with e1 e2
              subst e1; subst e2
              obtain ⟨c0, c1⟩ := hce _ _ HB.out.1
              clear c1
              obtain ⟨d0, d1⟩ := hce _ _ HF.out.2.2.2.1
              clear d1 hce
              have hr0 : decide ((i : Int) < 0) = false := by simp
              have hrn : decide ((n : Int) ≤ (i : Int)) = false := by simp; omega
              have hrn2 : decide (n ≤ i) = false := by simp; omega
              have hin : (i : Int) < n := by omega
              cases hfr : frB a b h k ⟨m, Ab, cb, ps⟩
              · have hkr : ((k : Int) == (i : Int)) = false := by
                  simp only [beq_eq_false_iff_ne, ne_eq]
                  intro e
                  obtain rfl : k = i := by omega
                  have e1 := HB.out.1.symm.trans HF.out.2.2.2.1
                  injection e1 with e1
                  rw [e1] at hfr
                  rw [HF.out.2.2.1] at hfr
                  cases hfr
                clear hfr d0
                go_wp2_with fail
                refine wp_region_held_drew (S := (fun w' => w'.cell? ⟨g, off + k * 2, none⟩ = some (.int .i64 m))) (by kernel_rfl) ?_ (fun hHeld => ?_)
                · exact c0
                refine heldY 0 63 ?_
                refine heldY 1 64 ?_
                refine heldN 2 65 ?_
                refine heldN 3 66 ?_
                refine heldN 4 67 ?_
                refine heldN 5 68 ?_
                refine heldN 6 69 ?_
                refine heldN 7 70 ?_
                refine heldN 8 71 ?_
                refine heldN 9 72 ?_
                refine heldN 10 73 ?_
                refine heldN 11 74 ?_
                refine heldN 12 75 ?_
                refine heldN 13 76 ?_
                refine heldN 14 77 ?_
                refine heldN 15 78 ?_
                refine heldN 16 79 ?_
                refine heldN 17 80 ?_
                refine heldN 18 81 ?_
                refine heldN 19 82 ?_
                refine heldN 20 83 ?_
                refine heldN 21 84 ?_
                refine heldN 22 85 ?_
                refine heldY 23 86 ?_
                refine heldY 24 87 ?_
                refine heldY 25 88 ?_
                refine heldY 26 89 ?_
                refine held_yes (i := 27) (d := some 90) (v := ?_) rfl rfl (by kernel_rfl) (by kernel_rfl) (by kernel_rfl) (fun _ _ _ h => h) (by rfl) ?_ (by assumption) ?_
                rotate_left
                · (intro w hSw; (try dsimp only at hSw); go_simp; (try simp only [hkr]); (first | done | with_reducible rfl))
                try simp only [Act.put, List.setIfInBounds_toArray, List.set_cons_zero, List.set_cons_succ]
                refine heldY 28 91 ?_
                refine heldN 29 92 ?_
                refine heldN 30 93 ?_
                refine heldY 31 94 ?_
                refine heldY 32 95 ?_
                refine wpAnyH_done (by kernel_rfl) ?_ _
                go_wp2
                go_roundw
                case rel => exact ⟨k + 1, by go_num, by omega, HS.out.keep (grown_drew (grown_refl _ none)), HQ.out.keep (grown_drew (grown_refl _ none))⟩
                case measure => (simp [intOf]) <;> omega
              · by_cases hki : k = i
                · subst hki
                  have hkr : ((k : Int) == (k : Int)) = true := by simp
                  have hww : decide (m < m) = false := by simp
                  clear hfr d0
                  go_wp2_with fail
                  refine wp_region_held_drew (S := (fun w' => w'.cell? ⟨g, off + k * 2, none⟩ = some (.int .i64 m))) (by kernel_rfl) ?_ (fun hHeld => ?_)
                  · exact c0
                  refine heldY 0 63 ?_
                  refine heldY 1 64 ?_
                  refine heldY 2 65 ?_
                  refine held_yes (i := 3) (d := some 66) (v := ?_) rfl rfl (by kernel_rfl) (by kernel_rfl) (by kernel_rfl) (fun _ _ _ h => h) (by rfl) ?_ (by assumption) ?_
                  rotate_left
                  · (intro w hSw; (try dsimp only at hSw); go_simp; (try simp only [hr0]); (first | done | with_reducible rfl))
                  try simp only [Act.put, List.setIfInBounds_toArray, List.set_cons_zero, List.set_cons_succ]
                  refine heldY 4 67 ?_
                  refine heldY 5 68 ?_
                  refine heldY 6 69 ?_
                  refine heldY 7 70 ?_
                  refine held_yes (i := 8) (d := some 71) (v := ?_) rfl rfl (by kernel_rfl) (by kernel_rfl) (by kernel_rfl) (fun _ _ _ h => h) (by rfl) ?_ (by assumption) ?_
                  rotate_left
                  · (intro w hSw; (try dsimp only at hSw); go_simp; (try simp only [hrn, hrn2]); (first | done | with_reducible rfl))
                  try simp only [Act.put, List.setIfInBounds_toArray, List.set_cons_zero, List.set_cons_succ]
                  refine heldY 9 72 ?_
                  refine heldY 10 73 ?_
                  refine heldY 11 74 ?_
                  refine heldY 12 75 ?_
                  refine heldY 13 76 ?_
                  refine heldY 14 77 ?_
                  refine heldY 15 78 ?_
                  refine heldY 16 79 ?_
                  refine heldY 17 80 ?_
                  refine heldY 18 81 ?_
                  refine heldY 19 82 ?_
                  refine heldY 20 83 ?_
                  refine held_yes (i := 21) (d := some 84) (v := ?_) rfl rfl (by kernel_rfl) (by kernel_rfl) (by kernel_rfl) (fun _ _ _ h => h) (by rfl) ?_ (by assumption) ?_
                  rotate_left
                  · (intro w hSw; (try dsimp only at hSw); go_simp; (try simp only [hww]); (first | done | with_reducible rfl))
                  try simp only [Act.put, List.setIfInBounds_toArray, List.set_cons_zero, List.set_cons_succ]
                  refine heldY 22 85 ?_
                  refine heldY 23 86 ?_
                  refine heldY 24 87 ?_
                  refine heldY 25 88 ?_
                  refine heldY 26 89 ?_
                  refine held_yes (i := 27) (d := some 90) (v := ?_) rfl rfl (by kernel_rfl) (by kernel_rfl) (by kernel_rfl) (fun _ _ _ h => h) (by rfl) ?_ (by assumption) ?_
                  rotate_left
                  · (intro w hSw; (try dsimp only at hSw); go_simp; (try simp only [hkr]); (first | done | with_reducible rfl))
                  try simp only [Act.put, List.setIfInBounds_toArray, List.set_cons_zero, List.set_cons_succ]
                  refine heldY 28 91 ?_
                  refine heldY 29 92 ?_
                  refine heldY 30 93 ?_
                  refine heldY 31 94 ?_
                  refine heldY 32 95 ?_
                  refine wpAnyH_done (by kernel_rfl) ?_ _
                  go_wp2
                  go_roundw
                  case rel => exact ⟨k + 1, by go_num, by omega, HS.out.keep (grown_drew (grown_refl _ none)), HQ.out.keep (grown_drew (grown_refl _ none))⟩
                  case measure => (simp [intOf]) <;> omega
                · have hkr : ((k : Int) == (i : Int)) = false := by simp; omega
                  have hww : decide (m < mi) = false := by have : mi ≤ m := HF.out.2.2.2.2 k _ hkn HB.out.1 hfr; simp only [decide_eq_false_iff_not]; omega
                  clear hfr
                  go_wp2_with fail
                  refine wp_region_held_drew (S := (fun w' => w'.cell? ⟨g, off + k * 2, none⟩ = some (.int .i64 m) ∧ w'.cell? ⟨g, off + i * 2, none⟩ = some (.int .i64 mi))) (by kernel_rfl) ?_ (fun hHeld => ?_)
                  · exact ⟨c0, d0⟩
                  refine heldY 0 63 ?_
                  refine heldY 1 64 ?_
                  refine heldY 2 65 ?_
                  refine held_yes (i := 3) (d := some 66) (v := ?_) rfl rfl (by kernel_rfl) (by kernel_rfl) (by kernel_rfl) (fun _ _ _ h => h) (by rfl) ?_ (by assumption) ?_
                  rotate_left
                  · (intro w hSw; (try dsimp only at hSw); go_simp; (try simp only [hr0]); (first | done | with_reducible rfl))
                  try simp only [Act.put, List.setIfInBounds_toArray, List.set_cons_zero, List.set_cons_succ]
                  refine heldY 4 67 ?_
                  refine heldY 5 68 ?_
                  refine heldY 6 69 ?_
                  refine heldY 7 70 ?_
                  refine held_yes (i := 8) (d := some 71) (v := ?_) rfl rfl (by kernel_rfl) (by kernel_rfl) (by kernel_rfl) (fun _ _ _ h => h) (by rfl) ?_ (by assumption) ?_
                  rotate_left
                  · (intro w hSw; (try dsimp only at hSw); go_simp; (try simp only [hrn, hrn2]); (first | done | with_reducible rfl))
                  try simp only [Act.put, List.setIfInBounds_toArray, List.set_cons_zero, List.set_cons_succ]
                  refine heldY 9 72 ?_
                  refine heldY 10 73 ?_
                  refine heldY 11 74 ?_
                  refine heldY 12 75 ?_
                  refine heldY 13 76 ?_
                  refine heldY 14 77 ?_
                  refine heldY 15 78 ?_
                  refine heldY 16 79 ?_
                  refine heldY 17 80 ?_
                  refine heldY 18 81 ?_
                  refine heldY 19 82 ?_
                  refine heldY 20 83 ?_
                  refine held_yes (i := 21) (d := some 84) (v := ?_) rfl rfl (by kernel_rfl) (by kernel_rfl) (by kernel_rfl) (fun _ _ _ h => h) (by rfl) ?_ (by assumption) ?_
                  rotate_left
                  · (intro w hSw; (try dsimp only at hSw); go_simp; (try simp only [hww]); (first | done | with_reducible rfl))
                  try simp only [Act.put, List.setIfInBounds_toArray, List.set_cons_zero, List.set_cons_succ]
                  refine heldY 22 85 ?_
                  refine heldY 23 86 ?_
                  refine heldY 24 87 ?_
                  refine heldY 25 88 ?_
                  refine heldY 26 89 ?_
                  refine held_yes (i := 27) (d := some 90) (v := ?_) rfl rfl (by kernel_rfl) (by kernel_rfl) (by kernel_rfl) (fun _ _ _ h => h) (by rfl) ?_ (by assumption) ?_
                  rotate_left
                  · (intro w hSw; (try dsimp only at hSw); go_simp; (try simp only [hkr]); (first | done | with_reducible rfl))
                  try simp only [Act.put, List.setIfInBounds_toArray, List.set_cons_zero, List.set_cons_succ]
                  refine heldY 28 91 ?_
                  refine heldN 29 92 ?_
                  refine heldN 30 93 ?_
                  refine heldY 31 94 ?_
                  refine heldY 32 95 ?_
                  refine wpAnyH_done (by kernel_rfl) ?_ _
                  go_wp2
                  go_roundw
                  case rel => exact ⟨k + 1, by go_num, by omega, HS.out.keep (grown_drew (grown_refl _ none)), HQ.out.keep (grown_drew (grown_refl _ none))⟩
                  case measure => (simp [intOf]) <;> omega
          · obtain rfl : k = n := by omega
            have hin : decide ((i : Int) < (k : Int)) = true := by simp; omega
            go_wp2
            go_ret
            exact ⟨rfl, HS.out.2⟩

/-! ### THE ROW's STEP: WRITTEN OUT: LEAVE IT -/
set_option maxRecDepth 100000 in
theorem lifted (os : Os) (started : os.Started) (H : Type) (enc : TypeId × Value → H) :
    ReturnsInHanded {} Try.checked os 3 .any (Rows.fnFreshBlockSpec.pre6 enc Try.prog Try.f3 Rows.fnFreshBlockRow.domain false) (Rows.fnFreshBlockSpec.post enc Try.prog Try.f3 false true false false) := by
  refine returnsInHanded_of_change (C := Try.checked) own started (by kernel_rfl) Try.func3
    (ChangeSpec.witness6 (enc := enc) (C := Try.checked) false ⟨#[], #[.slice none 0 0], []⟩ 8 (by kernel_rfl) (by kernel_rfl) (by kernel_rfl) (by kernel_rfl)) ?_
  intro W base args ds gs before hval0 hW hcnd _
  have hval : ∀ (j : Nat) t v, Try.f3.params[j]? = some t → args[j]? = some v → Value.okWide Try.prog W .any base t v := hval0
  have hW' := hW
  obtain ⟨p, q, hA0, hV, rfl, hfz, hnd⟩ := hW
  have hA : DataW.TrodAll enc Try.prog W 0 (fun _ => true) true Try.f3.params.toList args.toList ds p := hA0
  rw [Try.params3] at hA hval
  obtain ⟨v0, vs0, d0, ds0, p0, q0, hargs, rfl, rfl, h0, r0⟩ := trodAll_cons hA
  obtain ⟨rfl, rfl, rfl⟩ := trodAll_nil r0
  obtain rfl : args = #[v0] := by cases args; simp_all
  obtain ⟨rfl, rfl⟩ := trodVars_none hV
  obtain ⟨a0, len0, cap0, rfl⟩ := okWide_slice Try.underlying22 (hval 0 22 v0 rfl rfl)
  have k0 := h0
  have lt0 : ∀ x ∈ p0, x.block < W.heap.size := by obtain ⟨m, hm⟩ := k0; exact DataW.trod_lt m _ _ _ hm
  obtain ⟨z0, w0⟩ : ∃ zs, IsRow .u8 W a0 len0 cap0 zs := by
    obtain ⟨fuel, hf⟩ := h0
    rcases open_ints Try.underlying22 Try.underlying5 (by kernel_rfl) hf with ⟨hcs, _⟩ | ⟨x, l, c, zs, hcs, _, hl, hm, hz, _, hcell, hwz⟩
    · simp [Value.cells] at hcs
      obtain ⟨rfl, rfl, rfl⟩ := hcs
      exact ⟨[], .inl ⟨rfl, rfl, rfl, rfl⟩⟩
    · simp [Value.cells] at hcs
      obtain ⟨rfl, rfl, rfl⟩ := hcs
      exact ⟨zs, .inr ⟨_, rfl, hl, hm, by simpa using hz, hcell, hwz⟩⟩
  clear hA0 hval0
  refine (walk a0 len0 cap0 z0 W w0).mono fun e W' ⟨he, bel⟩ => ?_
  subst he
  exact ⟨_, rfl, _, _, _, [], _, [], hW', trodAll_mk1 (shut_bool Try.underlying4 _), (trodAll_cons_mk (Below.trod laidOut (by kernel_rfl) (of_decide_eq_true (by kernel_rfl)) k0 bel lt0) trodAll_mk0), rfl, bel.frame _, fun h => by cases h⟩

theorem over : Rows.fnFreshBlockRow.holds Try.pinned (OpenSpec.ofChange Rows.fnFreshBlockSpec) :=
  OpenClaim.holds_of_wide 3 Try.f3 rfl rfl rfl rfl rfl rfl rfl ⟨rfl, rfl, rfl, rfl, rfl⟩ rfl rfl rfl rfl rfl (by kernel_rfl) Try.func3 (by kernel_rfl)
    (of_decide_eq_true (by kernel_rfl)) (by unfold Func.isWrapper; first | (rw [if_pos (by decide +kernel)]; kernel_rfl) | (rw [if_neg (by decide +kernel)]; exact ⟨rfl, rfl⟩))
    (fun os started H enc _ => lifted os started H enc)

/-- ████ THE STATEMENT ████ -/
theorem proved : Rows.FnFreshBlockSaid := over
#print axioms proved
end Go.Proofs.Ytpdkfgihpchkiaa.fnFreshBlock
