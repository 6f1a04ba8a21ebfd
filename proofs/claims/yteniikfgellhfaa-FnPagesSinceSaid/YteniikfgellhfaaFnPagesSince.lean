/- For every code, PagesSince answers of the drawn device and stamp as its model; the stamps do not descend, each is greater than the stamp, no page comes twice, and with -1 these are all written pages: proved.
   Conditions: none beyond the row's own reading of the input. The frame was written by the guide's proof-skeleton; the walk is ours. -/
import Derived.Test.YteniikfgellhfaaRollFacts2
import Derived.Test.YteniikfgellhfaaFiles5
import Derived.Test.YteniikfgellhfaaDrawRoll
import Derived.Test.YteniikfgellhfaaHand
import Derived.Test.YteniikfgellhfaaRows
import Derived.WalkKit
import Derived.ProofKit
import Derived.OpenShut
import Derived.ShutString
import Derived.ChangeOld
import Derived.Below
namespace Go.Proofs.Yteniikfgellhfaa.fnPagesSince
open Go.ChangeShapes Go.WideShapes Go.ChangeAt Go.RowKit
open Go.ChangeMaps (open_string shut_string)
set_option linter.unusedVariables false

theorem own : ownKnob Try.prog.godebug = none := by kernel_rfl
theorem laidOut : laidOutB Try.prog = true := by kernel_rfl

/-- WHAT THE WALK IS TOLD OF A SLICE OF INTEGERS THAT CAME IN: it is nil; or it leads to a row of 'cap' cells, the numbers 'zs' (the first 'len' are its elements, the rest its spare room), each fitting its kind. -/
def IsRow (k : IntKind) (w : World) (a : Option Addr) (len cap : Nat) (zs : List Int) : Prop :=
  (a = none ∧ len = 0 ∧ cap = 0 ∧ zs = []) ∨
  ∃ x, a = some x ∧ len ≤ cap ∧ cap ≤ maxLen ∧ zs.length = cap ∧ (∀ i, i < zs.length → w.cell? (x.add i) = some (.int k (zs.getD i 0))) ∧ ∀ n ∈ zs, (Lit.int k n).wf = true

/-! ### STEP 1: THE WALK: the Go text returns true, AND WRITES NOTHING THAT WAS THERE: 'Below w.heap.size w w'' (Derived/Below.lean: '.refl', '.alloc', '.drew', '.setCell' at a new block, '.trans'). Open each 'IsRow' by 'rcases' AHEAD of 'go_enter'; part every test ahead of the walk. -/
set_option maxHeartbeats 4000000 in
set_option maxRecDepth 100000 in
theorem walk (a0 : Option Addr) (len0 cap0 : Nat) (z0 : List Int) (w : World) (w0 : IsRow .u8 w a0 len0 cap0 z0) :
    Calls Try.prog 3 #[.slice a0 len0 cap0] w fun e w' => e = .returned (.bool true) ∧ Below w.heap.size w w' := by
  obtain ⟨hl, hc, hb⟩ := bytes_of w0
  by_cases hbig : 1048576 < len0
  · go_enter Try.func3, Try.ntmps3
    go_wp2
    go_ret
    exact ⟨rfl, Below.refl _ _⟩
  · go_enter Try.func3, Try.ntmps3
    go_wp2_with fail
    refine (drawPagesSince_any w a0 len0 cap0 hl hc hb).mono ?_
    rintro e wa ⟨A, n, c, bs, s, rfl, hln, h13, hsm, hrow, hbl⟩
    have HS : RowKit.Hid (LD w A bs wa) := Lib.hid ⟨hrow, hbl⟩
    have HL := Lib.hid (And.intro hln (fun (q : Bk) (hq : q ∈ bs) => show q.ps.length ≤ 1048576 by have := hsm q hq; omega))
    have hn : n ≤ 1048576 := by omega
    obtain ⟨X, hX⟩ : ∃ X, sinV bs s = X := ⟨_, rfl⟩
    obtain ⟨n1, hn1'⟩ : ∃ n1, X.length = n1 := ⟨_, rfl⟩
    have hn48 : n1 ≤ 48 := by rw [← hn1', ← hX]; exact sinV_small _ _
    have hn1 : n1 ≤ 1048576 := by omega
    have HV := Lib.hid (And.intro hX hn1')
    clear hb w0 hrow hbl hln hsm hX hn1'
    go_wp2_with fail
    refine (since_val HV.out.1 HV.out.2 HL.out.1 HS.out.1 hn HL.out.2).mono ?_
    rintro e w1 ⟨AP, cP, rfl, hlP, ho, hk⟩
    have hcap := VOwn.capn ho (by rw [iv_length]; exact hlP)
    have HP := Lib.hid (And.intro hlP (VOwn.row ho))
    replace HS := Lib.hid (HS.out.keep hk)
    have hc1 : n1 ≤ cP := hcap.1
    have hc2 : cP ≤ 9223372036854775807 := hcap.2
    clear hk ho hlP hcap
    go_wp2_with fail
    refine (specSince_val HV.out.1 HV.out.2 HL.out.1 HS.out.1 hn HL.out.2).mono ?_
    rintro e w2 ⟨AQ, cQ, rfl, hlQ, ho, hk⟩
    have HQ := Lib.hid (And.intro hlQ (VOwn.row ho))
    replace HS := Lib.hid (HS.out.keep hk)
    replace HP := Lib.hid (And.intro HP.out.1 (IRow.keepN HP.out.2 hk))
    clear hk ho hlQ
    go_wp2_with fail
    refine (sameInts_val (V := true) (decide_eq_true rfl) HP.out.1 HQ.out.1 HP.out.2 HQ.out.2 hn1 hn1).mono ?_
    rintro e w3 ⟨rfl, hk⟩
    replace HS := Lib.hid (HS.out.keep hk)
    replace HP := Lib.hid (And.intro HP.out.1 (IRow.keepN HP.out.2 hk))
    clear hk HQ
    go_wp2
    go_loopw [6, 7] (fun l i wr => ∃ k : Nat, i = .int .i64 k ∧ k ≤ n1 ∧ l = .int .i64 (lstV bs X s k) ∧ LD w A bs wr ∧ IRow wr wr.heap.size AP X) (fun _ i _ => n1 - (intOf i).toNat)
    case atStart => exact ⟨0, rfl, Nat.zero_le _, rfl, HS.out, HP.out.2⟩
    case round =>
      rename World => wq
      obtain ⟨k, rfl, hk, rfl, hS, hP⟩ := hrel
      replace HS := Lib.hid hS
      replace HP := Lib.hid (And.intro HP.out.1 hP)
      clear hS hP
      by_cases hlt : k < n1
      · have k1 : (k : Int) < (n1 : Int) := by omega
        have k0 : decide ((0 : Int) ≤ (k : Int)) = true := decide_eq_true (by omega)
        obtain ⟨gP, oP, rfl⟩ := HP.out.2.pos (by have := HP.out.1; omega)
        obtain ⟨x, hx⟩ : ∃ x, X[k]? = some x := ⟨_, List.getElem?_eq_getElem (by have := HP.out.1; omega)⟩
        have c0 := HP.out.2.cellf hx
        have hx' : (sinV bs s)[k]? = some x := by rw [HV.out.1]; exact hx
        obtain ⟨a, f, j, pv, d, rfl, ha, hp, hrv, _, _, hsd⟩ := sinV_page (List.mem_of_getElem? hx')
        have hat := since_at hx'
        have hst : stV bs (a : Int) = d := by unfold stV; rw [hrv]
        rw [HV.out.1, hst] at hat
        obtain ⟨l, hle⟩ : ∃ l, lstV bs X s k = l := ⟨_, rfl⟩
        rw [hle] at hat ⊢
        have t1 : decide (d ≤ s) = false := decide_eq_false (by omega)
        have t2 : decide (d < l) = false := decide_eq_false (by omega)
        have HX := Lib.hid (And.intro hrv (And.intro (show (X.take k).contains (a : Int) = false by simpa using hat.2) (And.intro (show lstV bs X s (k + 1) = d by rw [lst_succ hx, hst]) hx)))
        clear hx hx' hp hrv hat hst hle
        go_wp2_with fail
        refine (read_v HX.out.1 HL.out.1 HS.out.1 hn HL.out.2).mono ?_
        rintro e w4 ⟨rfl, hk4⟩
        have K4 := grown_alloc hk4 (.cells #[.bool true, .int .i64 (f : Int), .int .i64 (j : Int), .int .i64 pv, .int .i64 d] 30)
        replace HS := Lib.hid (HS.out.keep K4)
        replace HP := Lib.hid (And.intro HP.out.1 (IRow.keepN HP.out.2 K4))
        have HB := Lib.hid (Blk.new w4 30 #[.bool true, .int .i64 (f : Int), .int .i64 (j : Int), .int .i64 pv, .int .i64 d])
        have p4 := HB.out.cell 4
        replace c0 := HP.out.2.cellf HX.out.2.2.2
        have q0 : (0 : Int) ≤ (k : Int) := by omega
        have q1 : (k : Int) ≤ (n1 : Int) := by omega
        have q2 : (k : Int) ≤ (cP : Int) := by omega
        have q3 : (n1 : Int) ≤ (cP : Int) := by omega
        have HRW := Lib.hid (And.intro (show (X.take k).length = k by rw [List.length_take]; have := HP.out.1; omega) (fun q => irow_still (ints_upto HP.out.2 k) q))
        have hk48 : k ≤ 1048576 := by omega
        clear hk4 K4
        go_wp2_with fail
        go_quiet ((go_at_call 16; with_reducible exact Calls.quiet_of_same (hasInt_quiet HX.out.2.1 HRW.out.1 (HRW.out.2 _) hk48)))
        generalize hwz : World.drewN (w4.alloc (.cells #[.bool true, .int .i64 (f : Int), .int .i64 (j : Int), .int .i64 pv, .int .i64 d] 30)) nq = wz
        have hkz : World.grownBy (w4.alloc (.cells #[.bool true, .int .i64 (f : Int), .int .i64 (j : Int), .int .i64 pv, .int .i64 d] 30)) wz none := by rw [← hwz]; exact grown_drewN (grown_refl _ _) _
        replace HS := Lib.hid (HS.out.keep hkz)
        replace HP := Lib.hid (And.intro HP.out.1 (IRow.keepN HP.out.2 hkz))
        have p5 := (HB.out.keep hkz).cell 4
        clear hwz hkz p4 c0
        go_wp2
        go_roundw
        case rel => exact ⟨k + 1, by go_num, by omega, by rw [HX.out.2.2.1], HS.out, HP.out.2⟩
        case measure => simp [intOf]; omega
      · obtain rfl : k = n1 := by omega
        clear hlt
        cases hd : devB bs
        · have HD := Lib.hid hd
          clear hd
          go_wp2_with fail
          refine (deviceValid_val HL.out.1 HD.out _ HS.out.1 hn HL.out.2).mono ?_
          rintro e w5 ⟨rfl, hk5⟩
          replace HS := Lib.hid (HS.out.keep hk5)
          clear hk5
          go_wp2_with (go_at_call 19; refine (alive_any _).mono ?_; rintro e w' ⟨rfl, rfl⟩)
          go_ret
          exact ⟨rfl, HS.out.2⟩
        · obtain ⟨n2, hn2⟩ : ∃ n2, (sinV bs (-1)).length = n2 := ⟨_, rfl⟩
          have hn248 := sinV_small bs (-1)
          have hfr := since_free hd
          obtain ⟨Fv, hF⟩ : ∃ Fv, freeV bs = Fv := ⟨_, rfl⟩
          rw [hn2] at hn248 hfr
          rw [hF, HL.out.1] at hfr
          have hn12 : n ≤ 12 := by have := (dev_parts hd).1; have := HL.out.1; omega
          have hF48 : Fv ≤ 48 := by omega
          have e1 : ((n2 : Int) == 4 * (n : Int) - (Fv : Int)) = true := by rw [beq_iff_eq]; exact hfr
          have HD := Lib.hid (And.intro hd (And.intro hn2 hF))
          clear hd hn2 hF hfr
          go_wp2_with fail
          refine (deviceValid_val HL.out.1 HD.out.1 _ HS.out.1 hn HL.out.2).mono ?_
          rintro e w5 ⟨rfl, hk5⟩
          replace HS := Lib.hid (HS.out.keep hk5)
          clear hk5
          go_wp2_with fail
          refine (since_val rfl HD.out.2.1 HL.out.1 HS.out.1 hn HL.out.2).mono ?_
          rintro e w6 ⟨AR, cR, rfl, _, _, hk6⟩
          replace HS := Lib.hid (HS.out.keep hk6)
          clear hk6
          go_wp2_with fail
          refine (free_val HL.out.1 HS.out.1 HD.out.1 HD.out.2.2).mono ?_
          rintro e w7 ⟨rfl, hk7⟩
          replace HS := Lib.hid (HS.out.keep hk7)
          clear hk7
          go_wp2_with (go_at_call 19; refine (alive_any _).mono ?_; rintro e w' ⟨rfl, rfl⟩)
          go_ret
          exact ⟨rfl, HS.out.2⟩

/-! ### THE ROW's STEP: WRITTEN OUT: LEAVE IT -/
set_option maxRecDepth 100000 in
theorem lifted (os : Os) (started : os.Started) (H : Type) (enc : TypeId × Value → H) :
    ReturnsInHanded {} Try.checked os 3 .any (Rows.fnPagesSinceSpec.pre6 enc Try.prog Try.f3 Rows.fnPagesSinceRow.domain false) (Rows.fnPagesSinceSpec.post enc Try.prog Try.f3 false true false false) := by
  refine returnsInHanded_of_change (C := Try.checked) own started (by kernel_rfl) Try.func3
    (ChangeSpec.witness6 (enc := enc) (C := Try.checked) false ⟨#[], #[.slice none 0 0], []⟩ 8 (by kernel_rfl) (by kernel_rfl) (by kernel_rfl) (by kernel_rfl)) ?_
  intro W base args ds gs before hval0 hW hcnd _
  have hval : ∀ (j : Nat) t v, Try.f3.params[j]? = some t → args[j]? = some v → Value.okWide Try.prog W .any base t v := hval0
  have hW' := hW
  obtain ⟨p, q, hA0, hV, rfl, hfz, hnd⟩ := hW
  have hA : DataW.TrodAll enc Try.prog W 0 (fun _ => true) true Try.f3.params.toList args.toList ds p := hA0
  rw [Try.params3] at hA hval
  obtain ⟨v0, vs0, d0, ds0, p0, q0, hargs, rfl, rfl, h0, r0⟩ := trodAll_cons hA
  obtain ⟨rfl, rfl, rfl⟩ := trodAll_nil r0
  obtain rfl : args = #[v0] := by cases args; simp_all
  obtain ⟨rfl, rfl⟩ := trodVars_none hV
  obtain ⟨a0, len0, cap0, rfl⟩ := okWide_slice Try.underlying22 (hval 0 22 v0 rfl rfl)
  have k0 := h0
  have lt0 : ∀ x ∈ p0, x.block < W.heap.size := by obtain ⟨m, hm⟩ := k0; exact DataW.trod_lt m _ _ _ hm
  obtain ⟨z0, w0⟩ : ∃ zs, IsRow .u8 W a0 len0 cap0 zs := by
    obtain ⟨fuel, hf⟩ := h0
    rcases open_ints Try.underlying22 Try.underlying5 (by kernel_rfl) hf with ⟨hcs, _⟩ | ⟨x, l, c, zs, hcs, _, hl, hm, hz, _, hcell, hwz⟩
    · simp [Value.cells] at hcs
      obtain ⟨rfl, rfl, rfl⟩ := hcs
      exact ⟨[], .inl ⟨rfl, rfl, rfl, rfl⟩⟩
    · simp [Value.cells] at hcs
      obtain ⟨rfl, rfl, rfl⟩ := hcs
      exact ⟨zs, .inr ⟨_, rfl, hl, hm, by simpa using hz, hcell, hwz⟩⟩
  clear hA0 hval0
  refine (walk a0 len0 cap0 z0 W w0).mono fun e W' ⟨he, bel⟩ => ?_
  subst he
  exact ⟨_, rfl, _, _, _, [], _, [], hW', trodAll_mk1 (shut_bool Try.underlying4 _), (trodAll_cons_mk (Below.trod laidOut (by kernel_rfl) (of_decide_eq_true (by kernel_rfl)) k0 bel lt0) trodAll_mk0), rfl, bel.frame _, fun h => by cases h⟩

theorem over : Rows.fnPagesSinceRow.holds Try.pinned (OpenSpec.ofChange Rows.fnPagesSinceSpec) :=
  OpenClaim.holds_of_wide 3 Try.f3 rfl rfl rfl rfl rfl rfl rfl ⟨rfl, rfl, rfl, rfl, rfl⟩ rfl rfl rfl rfl rfl (by kernel_rfl) Try.func3 (by kernel_rfl)
    (of_decide_eq_true (by kernel_rfl)) (by unfold Func.isWrapper; first | (rw [if_pos (by decide +kernel)]; kernel_rfl) | (rw [if_neg (by decide +kernel)]; exact ⟨rfl, rfl⟩))
    (fun os started H enc _ => lifted os started H enc)

/-- ████ THE STATEMENT ████ -/
theorem proved : Rows.FnPagesSinceSaid := over
#print axioms proved
end Go.Proofs.Yteniikfgellhfaa.fnPagesSince
