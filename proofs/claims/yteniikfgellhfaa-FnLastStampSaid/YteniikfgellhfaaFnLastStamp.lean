/- For every code, LastStamp answers of the drawn device as its model; no page was written since, and since one less one was, if it is greater than 0: proved.
   Conditions: none beyond the row's own reading of the input. The frame was written by the guide's proof-skeleton; the walk is ours. -/
import Derived.Test.YteniikfgellhfaaRollFacts
import Derived.Test.YteniikfgellhfaaRolls
import Derived.Test.YteniikfgellhfaaRollLast
import Derived.Test.YteniikfgellhfaaDrawRoll
import Derived.Test.YteniikfgellhfaaHand
import Derived.Test.YteniikfgellhfaaRows
import Derived.WalkKit
import Derived.ProofKit
import Derived.OpenShut
import Derived.ShutString
import Derived.ChangeOld
import Derived.Below
namespace Go.Proofs.Yteniikfgellhfaa.fnLastStamp
open Go.ChangeShapes Go.WideShapes Go.ChangeAt Go.RowKit
open Go.ChangeMaps (open_string shut_string)
set_option linter.unusedVariables false

theorem own : ownKnob Try.prog.godebug = none := by kernel_rfl
theorem laidOut : laidOutB Try.prog = true := by kernel_rfl

/-- WHAT THE WALK IS TOLD OF A SLICE OF INTEGERS THAT CAME IN: it is nil; or it leads to a row of 'cap' cells, the numbers 'zs' (the first 'len' are its elements, the rest its spare room), each fitting its kind. -/
def IsRow (k : IntKind) (w : World) (a : Option Addr) (len cap : Nat) (zs : List Int) : Prop :=
  (a = none ∧ len = 0 ∧ cap = 0 ∧ zs = []) ∨
  ∃ x, a = some x ∧ len ≤ cap ∧ cap ≤ maxLen ∧ zs.length = cap ∧ (∀ i, i < zs.length → w.cell? (x.add i) = some (.int k (zs.getD i 0))) ∧ ∀ n ∈ zs, (Lit.int k n).wf = true

/-! ### STEP 1: THE WALK: the Go text returns true, AND WRITES NOTHING THAT WAS THERE: 'Below w.heap.size w w'' (Derived/Below.lean: '.refl', '.alloc', '.drew', '.setCell' at a new block, '.trans'). Open each 'IsRow' by 'rcases' AHEAD of 'go_enter'; part every test ahead of the walk. -/
set_option maxHeartbeats 3000000 in
theorem walk (a0 : Option Addr) (len0 cap0 : Nat) (z0 : List Int) (w : World) (w0 : IsRow .u8 w a0 len0 cap0 z0) :
    Calls Try.prog 5 #[.slice a0 len0 cap0] w fun e w' => e = .returned (.bool true) ∧ Below w.heap.size w w' := by
  obtain ⟨hl, hc, hb⟩ := bytes_of w0
  by_cases hbig : 1048576 < len0
  · go_enter Try.func5, Try.ntmps5
    go_wp2
    go_ret
    exact ⟨rfl, Below.refl _ _⟩
  · go_enter Try.func5, Try.ntmps5
    go_wp2_with fail
    refine (drawLastStamp_any w a0 len0 cap0 hl hc hb).mono ?_
    rintro e wa ⟨A, n, c, bs, rfl, hln, h13, hsm, hrow, hbl⟩
    have HS : RowKit.Hid (LD w A bs wa) := Lib.hid ⟨hrow, hbl⟩
    have HL := Lib.hid (And.intro hln (fun (q : Bk) (hq : q ∈ bs) => show q.ps.length ≤ 1048576 by have := hsm q hq; omega))
    have hn : n ≤ 1048576 := by omega
    obtain ⟨V, hV⟩ : ∃ V, lastD bs = V := ⟨_, rfl⟩
    have hVb := lastD_in (bs := bs)
    rw [hV] at hVb
    have tVV : (V != V) = false := by simp
    clear hb w0 hrow hbl hln hsm
    cases hd : devB bs
    · obtain rfl : V = -1 := by rw [← hV, lastD_no hd]
      have HV := Lib.hid hV
      have e1 : ((-1 : Int) == -1) = true := rfl
      clear hd hV
      go_wp2_with fail
      refine (last_val HV.out HL.out.1 HS.out.1 hn HL.out.2).mono ?_
      rintro e w1 ⟨rfl, hk⟩
      replace HS := Lib.hid (HS.out.keep hk)
      clear hk
      go_wp2_with fail
      refine (specLast_val HV.out HL.out.1 HS.out.1 hn HL.out.2).mono ?_
      rintro e w2 ⟨rfl, hk⟩
      replace HS := Lib.hid (HS.out.keep hk)
      clear hk
      go_wp2_with (go_at_call 19; refine (alive_any _).mono ?_; rintro e w' ⟨rfl, rfl⟩)
      go_ret
      exact ⟨rfl, HS.out.2⟩
    · have hV0 : 0 ≤ V := by rw [← hV, lastD_yes hd]; exact lastV_pos _
      have t0 : decide (V < 0) = false := decide_eq_false (by omega)
      have hX := lastD_none hd
      rw [hV] at hX
      have HV := Lib.hid (And.intro hV hX)
      rcases Int.lt_or_le 0 V with hpos | hz
      · obtain ⟨n1, hn1⟩ : ∃ n1, (sinV bs (V - 1)).length = n1 := ⟨_, rfl⟩
        have hp := lastD_some hd (by rw [hV]; omega)
        rw [hV, hn1] at hp
        have hn48 := sinV_small bs (V - 1)
        rw [hn1] at hn48
        have HN := Lib.hid hn1
        have e0 : (V == 0) = false := by rw [beq_eq_false_iff_ne]; omega
        have p0 : decide ((0 : Int) < (n1 : Int)) = true := decide_eq_true (by omega)
        have p1 : decide (0 < n1) = true := decide_eq_true hp
        clear hd hV hX hn1
        go_wp2_with fail
        refine (last_val HV.out.1 HL.out.1 HS.out.1 hn HL.out.2).mono ?_
        rintro e w1 ⟨rfl, hk⟩
        replace HS := Lib.hid (HS.out.keep hk)
        clear hk
        go_wp2_with fail
        refine (specLast_val HV.out.1 HL.out.1 HS.out.1 hn HL.out.2).mono ?_
        rintro e w2 ⟨rfl, hk⟩
        replace HS := Lib.hid (HS.out.keep hk)
        clear hk
        go_wp2_with fail
        refine (since_val (n1 := 0) HV.out.2 rfl HL.out.1 HS.out.1 hn HL.out.2).mono ?_
        rintro e w3 ⟨AP, cP, rfl, _, _, hk⟩
        replace HS := Lib.hid (HS.out.keep hk)
        clear hk
        go_wp2_with fail
        refine (since_val rfl HN.out HL.out.1 HS.out.1 hn HL.out.2).mono ?_
        rintro e w4 ⟨AQ, cQ, rfl, _, _, hk⟩
        replace HS := Lib.hid (HS.out.keep hk)
        clear hk
        go_wp2
        go_ret
        exact ⟨rfl, HS.out.2⟩
      · obtain rfl : V = 0 := by omega
        clear hd hV hX
        go_wp2_with fail
        refine (last_val HV.out.1 HL.out.1 HS.out.1 hn HL.out.2).mono ?_
        rintro e w1 ⟨rfl, hk⟩
        replace HS := Lib.hid (HS.out.keep hk)
        clear hk
        go_wp2_with fail
        refine (specLast_val HV.out.1 HL.out.1 HS.out.1 hn HL.out.2).mono ?_
        rintro e w2 ⟨rfl, hk⟩
        replace HS := Lib.hid (HS.out.keep hk)
        clear hk
        go_wp2_with fail
        refine (since_val (n1 := 0) HV.out.2 rfl HL.out.1 HS.out.1 hn HL.out.2).mono ?_
        rintro e w3 ⟨AP, cP, rfl, _, _, hk⟩
        replace HS := Lib.hid (HS.out.keep hk)
        clear hk
        go_wp2
        go_ret
        exact ⟨rfl, HS.out.2⟩

/-! ### THE ROW's STEP: WRITTEN OUT: LEAVE IT -/
set_option maxRecDepth 100000 in
theorem lifted (os : Os) (started : os.Started) (H : Type) (enc : TypeId × Value → H) :
    ReturnsInHanded {} Try.checked os 5 .any (Rows.fnLastStampSpec.pre6 enc Try.prog Try.f5 Rows.fnLastStampRow.domain false) (Rows.fnLastStampSpec.post enc Try.prog Try.f5 false true false false) := by
  refine returnsInHanded_of_change (C := Try.checked) own started (by kernel_rfl) Try.func5
    (ChangeSpec.witness6 (enc := enc) (C := Try.checked) false ⟨#[], #[.slice none 0 0], []⟩ 8 (by kernel_rfl) (by kernel_rfl) (by kernel_rfl) (by kernel_rfl)) ?_
  intro W base args ds gs before hval0 hW hcnd _
  have hval : ∀ (j : Nat) t v, Try.f5.params[j]? = some t → args[j]? = some v → Value.okWide Try.prog W .any base t v := hval0
  have hW' := hW
  obtain ⟨p, q, hA0, hV, rfl, hfz, hnd⟩ := hW
  have hA : DataW.TrodAll enc Try.prog W 0 (fun _ => true) true Try.f5.params.toList args.toList ds p := hA0
  rw [Try.params5] at hA hval
  obtain ⟨v0, vs0, d0, ds0, p0, q0, hargs, rfl, rfl, h0, r0⟩ := trodAll_cons hA
  obtain ⟨rfl, rfl, rfl⟩ := trodAll_nil r0
  obtain rfl : args = #[v0] := by cases args; simp_all
  obtain ⟨rfl, rfl⟩ := trodVars_none hV
  obtain ⟨a0, len0, cap0, rfl⟩ := okWide_slice Try.underlying22 (hval 0 22 v0 rfl rfl)
  have k0 := h0
  have lt0 : ∀ x ∈ p0, x.block < W.heap.size := by obtain ⟨m, hm⟩ := k0; exact DataW.trod_lt m _ _ _ hm
  obtain ⟨z0, w0⟩ : ∃ zs, IsRow .u8 W a0 len0 cap0 zs := by
    obtain ⟨fuel, hf⟩ := h0
    rcases open_ints Try.underlying22 Try.underlying5 (by kernel_rfl) hf with ⟨hcs, _⟩ | ⟨x, l, c, zs, hcs, _, hl, hm, hz, _, hcell, hwz⟩
    · simp [Value.cells] at hcs
      obtain ⟨rfl, rfl, rfl⟩ := hcs
      exact ⟨[], .inl ⟨rfl, rfl, rfl, rfl⟩⟩
    · simp [Value.cells] at hcs
      obtain ⟨rfl, rfl, rfl⟩ := hcs
      exact ⟨zs, .inr ⟨_, rfl, hl, hm, by simpa using hz, hcell, hwz⟩⟩
  clear hA0 hval0
  refine (walk a0 len0 cap0 z0 W w0).mono fun e W' ⟨he, bel⟩ => ?_
  subst he
  exact ⟨_, rfl, _, _, _, [], _, [], hW', trodAll_mk1 (shut_bool Try.underlying4 _), (trodAll_cons_mk (Below.trod laidOut (by kernel_rfl) (of_decide_eq_true (by kernel_rfl)) k0 bel lt0) trodAll_mk0), rfl, bel.frame _, fun h => by cases h⟩

theorem over : Rows.fnLastStampRow.holds Try.pinned (OpenSpec.ofChange Rows.fnLastStampSpec) :=
  OpenClaim.holds_of_wide 5 Try.f5 rfl rfl rfl rfl rfl rfl rfl ⟨rfl, rfl, rfl, rfl, rfl⟩ rfl rfl rfl rfl rfl (by kernel_rfl) Try.func5 (by kernel_rfl)
    (of_decide_eq_true (by kernel_rfl)) (by unfold Func.isWrapper; first | (rw [if_pos (by decide +kernel)]; kernel_rfl) | (rw [if_neg (by decide +kernel)]; exact ⟨rfl, rfl⟩))
    (fun os started H enc _ => lifted os started H enc)

/-- ████ THE STATEMENT ████ -/
theorem proved : Rows.FnLastStampSaid := over
#print axioms proved
end Go.Proofs.Yteniikfgellhfaa.fnLastStamp
