/- For every code, TableChanges answers of the two drawn tables as its model, the same in both directions, and 0 exactly for equal tables: proved.
   Conditions: none beyond the row's own reading of the input. The frame was written by the guide's proof-skeleton; the walk is ours. -/
import Derived.Test.YtpjajmiegopmlaaSameTabs
import Derived.Test.YtpjajmiegopmlaaDrawTabs3
import Derived.Test.YtpjajmiegopmlaaRows
import Derived.WalkKit
import Derived.ProofKit
import Derived.OpenShut
import Derived.ShutString
import Derived.ChangeOld
import Derived.Below
namespace Go.Proofs.Ytpjajmiegopmlaa.fnTableChanges
open Go.ChangeShapes Go.WideShapes Go.ChangeAt Go.RowKit
open Go.ChangeMaps (open_string shut_string)
set_option linter.unusedVariables false

theorem own : ownKnob Try.prog.godebug = none := by kernel_rfl
theorem laidOut : laidOutB Try.prog = true := by kernel_rfl

/-- WHAT THE WALK IS TOLD OF A SLICE OF INTEGERS THAT CAME IN: it is nil; or it leads to a row of 'cap' cells, the numbers 'zs' (the first 'len' are its elements, the rest its spare room), each fitting its kind. -/
def IsRow (k : IntKind) (w : World) (a : Option Addr) (len cap : Nat) (zs : List Int) : Prop :=
  (a = none ∧ len = 0 ∧ cap = 0 ∧ zs = []) ∨
  ∃ x, a = some x ∧ len ≤ cap ∧ cap ≤ maxLen ∧ zs.length = cap ∧ (∀ i, i < zs.length → w.cell? (x.add i) = some (.int k (zs.getD i 0))) ∧ ∀ n ∈ zs, (Lit.int k n).wf = true

/-! ### STEP 1: THE WALK: the Go text returns true, AND WRITES NOTHING THAT WAS THERE: 'Below w.heap.size w w'' (Derived/Below.lean: '.refl', '.alloc', '.drew', '.setCell' at a new block, '.trans'). Open each 'IsRow' by 'rcases' AHEAD of 'go_enter'; part every test ahead of the walk. -/
set_option maxHeartbeats 2000000 in
set_option maxRecDepth 100000 in
theorem walk (a0 : Option Addr) (len0 cap0 : Nat) (z0 : List Int) (w : World) (w0 : IsRow .u8 w a0 len0 cap0 z0) :
    Calls Try.prog 8 #[.slice a0 len0 cap0] w fun e w' => e = .returned (.bool true) ∧ Below w.heap.size w w' := by
  obtain ⟨hl, hc, hb⟩ := bytes_of w0
  by_cases hbig : 1048576 < len0
  · go_enter Try.func8, Try.ntmps8
    go_wp2
    go_ret
    exact ⟨rfl, Below.refl _ _⟩
  · go_enter Try.func8, Try.ntmps8
    go_wp2_with fail
    refine (drawTableChanges_any w a0 len0 cap0 hl hc hb).mono ?_
    rintro e wa ⟨A, n, c, ls, A', n', c', ms, rfl, hln, h8, h6, hlm, h8', h6', hlt, hmt⟩
    have hs := (LV.start hlt n c).keep (grown_alloc (grown_refl _ none) (.cells #[.slice A' n' c'] 51))
    have hm := LV.start (hmt.alloc (.cells #[.slice A n c] 51)) n' c'
    (try simp only [size_alloc1] at hm)
    have HS := Lib.hid hs
    have HM := Lib.hid hm
    have HL := Lib.hid (And.intro hln (fun (l : Li) (hq : l ∈ ls) => show l.xs.length ≤ 1048576 by have := h6 l hq; omega))
    have HL' := Lib.hid (And.intro hlm (fun (l : Li) (hq : l ∈ ms) => show l.xs.length ≤ 1048576 by have := h6' l hq; omega))
    have hn : n ≤ 1048576 := by omega
    have hn' : n' ≤ 1048576 := by omega
    clear hb w0 hlt hmt hln hlm h6 h6' hs hm
    obtain ⟨v, hv⟩ : ∃ v, chgV (ll ls) (ll ms) = v := ⟨_, rfl⟩
    have hv2 : chgV (ll ms) (ll ls) = v := by rw [← hv]; exact chgV_comm _ _
    have HV := Lib.hid (And.intro hv hv2)
    have tvv : (v != v) = false := by simp
    clear hv2
    have b1 := HS.out.cell
    have b2 := HM.out.cell
    go_wp2_with fail
    refine (chg_v HV.out.1 HL.out.1 HS.out.2.1 hn HL.out.2 HL'.out.1 HM.out.2.1 hn' HL'.out.2).mono ?_
    rintro e w1 ⟨rfl, hk⟩
    replace HS := Lib.hid (HS.out.keep hk)
    replace HM := Lib.hid (HM.out.keep hk)
    clear hk b1 b2
    have b1 := HS.out.cell
    have b2 := HM.out.cell
    go_wp2_with fail
    refine (specChg_v HV.out.1 HL.out.1 HS.out.2.1 hn HL.out.2 HL'.out.1 HM.out.2.1 hn' HL'.out.2).mono ?_
    rintro e w2 ⟨rfl, hk⟩
    replace HS := Lib.hid (HS.out.keep hk)
    replace HM := Lib.hid (HM.out.keep hk)
    clear hk b1 b2
    have b1 := HS.out.cell
    have b2 := HM.out.cell
    go_wp2_with fail
    refine (chg_v HV.out.2 HL'.out.1 HM.out.2.1 hn' HL'.out.2 HL.out.1 HS.out.2.1 hn HL.out.2).mono ?_
    rintro e w3 ⟨rfl, hk⟩
    replace HS := Lib.hid (HS.out.keep hk)
    replace HM := Lib.hid (HM.out.keep hk)
    clear hk b1 b2
    have b1 := HS.out.cell
    have b2 := HM.out.cell
    cases ht : tabB (ll ls)
    · have em : v = -1 := hv.symm.trans (chg_no1 ht)
      subst em
      have e1 : ((-1 : Int) == -1) = true := rfl
      clear hv
      go_wp2_with (go_at_call 19; refine (alive_any _).mono ?_; rintro e w' ⟨rfl, rfl⟩)
      go_ret
      exact ⟨rfl, HS.out.2.2⟩
    · cases ht' : tabB (ll ms)
      · have em : v = -1 := hv.symm.trans (chg_no2 ht')
        subst em
        have e1 : ((-1 : Int) == -1) = true := rfl
        clear hv
        go_wp2_with (go_at_call 19; refine (alive_any _).mono ?_; rintro e w' ⟨rfl, rfl⟩)
        go_ret
        exact ⟨rfl, HS.out.2.2⟩
      · obtain ⟨m, hm⟩ : ∃ m, m = chgTo (ll ls) (ll ms) 48 := ⟨_, rfl⟩
        have em : v = (m : Int) := by rw [← hv, chg_yes ht ht', hm]
        subst em
        have hle := chgTo_le (ll ls) (ll ms) 48
        rw [← hm] at hle
        have tm : decide ((m : Int) < 0) = false := decide_eq_false (by omega)
        obtain ⟨q, hq⟩ : ∃ q, decide (ll ls = ll ms) = q := ⟨_, rfl⟩
        have eq1 : ((m : Int) == 0) = q := by rw [← hq, Bool.eq_iff_iff, decide_eq_true_eq, ← chg_zero ht ht', ← hm]; simp
        have eqq : (q == q) = true := by simp
        have HQ := Lib.hid (And.intro hq (show chgV (ll ls) (ll ls) = 0 by rw [chg_yes ht ht, chgTo_self]; rfl))
        have e00 : ((0 : Int) == 0) = true := rfl
        clear ht ht' hv hm hq hle
        go_wp2_with fail
        refine (sameTable_val HQ.out.1 HL.out.1 HL'.out.1 HS.out.2.1 HM.out.2.1 hn hn' HL.out.2 HL'.out.2).mono ?_
        rintro e w4 ⟨rfl, hk⟩
        replace HS := Lib.hid (HS.out.keep hk)
        replace HM := Lib.hid (HM.out.keep hk)
        clear hk b1 b2
        have b1 := HS.out.cell
        have b2 := HM.out.cell
        go_wp2_with fail
        refine (chg_v HQ.out.2 HL.out.1 HS.out.2.1 hn HL.out.2 HL.out.1 HS.out.2.1 hn HL.out.2).mono ?_
        rintro e w5 ⟨rfl, hk⟩
        replace HS := Lib.hid (HS.out.keep hk)
        replace HM := Lib.hid (HM.out.keep hk)
        clear hk b1 b2
        have b1 := HS.out.cell
        have b2 := HM.out.cell
        go_wp2
        go_ret
        exact ⟨rfl, HS.out.2.2⟩

/-! ### THE ROW's STEP: WRITTEN OUT: LEAVE IT -/
set_option maxRecDepth 100000 in
theorem lifted (os : Os) (started : os.Started) (H : Type) (enc : TypeId × Value → H) :
    ReturnsInHanded {} Try.checked os 8 .any (Rows.fnTableChangesSpec.pre6 enc Try.prog Try.f8 Rows.fnTableChangesRow.domain false) (Rows.fnTableChangesSpec.post enc Try.prog Try.f8 false true false false) := by
  refine returnsInHanded_of_change (C := Try.checked) own started (by kernel_rfl) Try.func8
    (ChangeSpec.witness6 (enc := enc) (C := Try.checked) false ⟨#[], #[.slice none 0 0], []⟩ 8 (by kernel_rfl) (by kernel_rfl) (by kernel_rfl) (by kernel_rfl)) ?_
  intro W base args ds gs before hval0 hW hcnd _
  have hval : ∀ (j : Nat) t v, Try.f8.params[j]? = some t → args[j]? = some v → Value.okWide Try.prog W .any base t v := hval0
  have hW' := hW
  obtain ⟨p, q, hA0, hV, rfl, hfz, hnd⟩ := hW
  have hA : DataW.TrodAll enc Try.prog W 0 (fun _ => true) true Try.f8.params.toList args.toList ds p := hA0
  rw [Try.params8] at hA hval
  obtain ⟨v0, vs0, d0, ds0, p0, q0, hargs, rfl, rfl, h0, r0⟩ := trodAll_cons hA
  obtain ⟨rfl, rfl, rfl⟩ := trodAll_nil r0
  obtain rfl : args = #[v0] := by cases args; simp_all
  obtain ⟨rfl, rfl⟩ := trodVars_none hV
  obtain ⟨a0, len0, cap0, rfl⟩ := okWide_slice Try.underlying22 (hval 0 22 v0 rfl rfl)
  have k0 := h0
  have lt0 : ∀ x ∈ p0, x.block < W.heap.size := by obtain ⟨m, hm⟩ := k0; exact DataW.trod_lt m _ _ _ hm
  obtain ⟨z0, w0⟩ : ∃ zs, IsRow .u8 W a0 len0 cap0 zs := by
    obtain ⟨fuel, hf⟩ := h0
    rcases open_ints Try.underlying22 Try.underlying5 (by kernel_rfl) hf with ⟨hcs, _⟩ | ⟨x, l, c, zs, hcs, _, hl, hm, hz, _, hcell, hwz⟩
    · simp [Value.cells] at hcs
      obtain ⟨rfl, rfl, rfl⟩ := hcs
      exact ⟨[], .inl ⟨rfl, rfl, rfl, rfl⟩⟩
    · simp [Value.cells] at hcs
      obtain ⟨rfl, rfl, rfl⟩ := hcs
      exact ⟨zs, .inr ⟨_, rfl, hl, hm, by simpa using hz, hcell, hwz⟩⟩
  clear hA0 hval0
  refine (walk a0 len0 cap0 z0 W w0).mono fun e W' ⟨he, bel⟩ => ?_
  subst he
  exact ⟨_, rfl, _, _, _, [], _, [], hW', trodAll_mk1 (shut_bool Try.underlying4 _), (trodAll_cons_mk (Below.trod laidOut (by kernel_rfl) (of_decide_eq_true (by kernel_rfl)) k0 bel lt0) trodAll_mk0), rfl, bel.frame _, fun h => by cases h⟩

theorem over : Rows.fnTableChangesRow.holds Try.pinned (OpenSpec.ofChange Rows.fnTableChangesSpec) :=
  OpenClaim.holds_of_wide 8 Try.f8 rfl rfl rfl rfl rfl rfl rfl ⟨rfl, rfl, rfl, rfl, rfl⟩ rfl rfl rfl rfl rfl (by kernel_rfl) Try.func8 (by kernel_rfl)
    (of_decide_eq_true (by kernel_rfl)) (by unfold Func.isWrapper; first | (rw [if_pos (by decide +kernel)]; kernel_rfl) | (rw [if_neg (by decide +kernel)]; exact ⟨rfl, rfl⟩))
    (fun os started H enc _ => lifted os started H enc)

/-- ████ THE STATEMENT ████ -/
theorem proved : Rows.FnTableChangesSaid := over
#print axioms proved
end Go.Proofs.Ytpjajmiegopmlaa.fnTableChanges
