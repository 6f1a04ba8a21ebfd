/- For every code, NewDevice answers of the drawn number as its model; the device is valid, has as many blocks, all pages free, and no wear: proved.
   Conditions: none beyond the row's own reading of the input. The frame was written by the guide's proof-skeleton; the walk is ours. -/
import Derived.Test.YtpdkfgihpchkiaaWearFacts
import Derived.Test.YtpdkfgihpchkiaaDrawWear
import Derived.Test.YtpdkfgihpchkiaaWearSpec
import Derived.Test.YtpdkfgihpchkiaaWears
import Derived.Test.YtpdkfgihpchkiaaExactDev3
import Derived.Test.YtpdkfgihpchkiaaRows
import Derived.WalkKit
import Derived.ProofKit
import Derived.OpenShut
import Derived.ShutString
import Derived.ChangeOld
import Derived.Below
namespace Go.Proofs.Ytpdkfgihpchkiaa.fnNewDevice
open Go.ChangeShapes Go.WideShapes Go.ChangeAt Go.RowKit
open Go.ChangeMaps (open_string shut_string)
set_option linter.unusedVariables false

theorem own : ownKnob Try.prog.godebug = none := by kernel_rfl
theorem laidOut : laidOutB Try.prog = true := by kernel_rfl

/-- WHAT THE WALK IS TOLD OF A SLICE OF INTEGERS THAT CAME IN: it is nil; or it leads to a row of 'cap' cells, the numbers 'zs' (the first 'len' are its elements, the rest its spare room), each fitting its kind. -/
def IsRow (k : IntKind) (w : World) (a : Option Addr) (len cap : Nat) (zs : List Int) : Prop :=
  (a = none ∧ len = 0 ∧ cap = 0 ∧ zs = []) ∨
  ∃ x, a = some x ∧ len ≤ cap ∧ cap ≤ maxLen ∧ zs.length = cap ∧ (∀ i, i < zs.length → w.cell? (x.add i) = some (.int k (zs.getD i 0))) ∧ ∀ n ∈ zs, (Lit.int k n).wf = true

/-! ### STEP 1: THE WALK: the Go text returns true, AND WRITES NOTHING THAT WAS THERE: 'Below w.heap.size w w'' (Derived/Below.lean: '.refl', '.alloc', '.drew', '.setCell' at a new block, '.trans'). Open each 'IsRow' by 'rcases' AHEAD of 'go_enter'; part every test ahead of the walk. -/
set_option maxHeartbeats 3000000 in
theorem walk (a0 : Option Addr) (len0 cap0 : Nat) (z0 : List Int) (w : World) (w0 : IsRow .u8 w a0 len0 cap0 z0) :
    Calls Try.prog 13 #[.slice a0 len0 cap0] w fun e w' => e = .returned (.bool true) ∧ Below w.heap.size w w' := by
  obtain ⟨hl, hc, hb⟩ := bytes_of w0
  by_cases hbig : 1048576 < len0
  · go_enter Try.func13, Try.ntmps13
    go_wp2
    go_ret
    exact ⟨rfl, Below.refl _ _⟩
  · go_enter Try.func13, Try.ntmps13
    go_wp2_with fail
    refine (drawNewDevice_any w a0 len0 cap0 hl hc hb).mono ?_
    rintro e wa ⟨x, rfl, hbl⟩
    have HS : RowKit.Hid (LD w none [] wa) := Lib.hid ⟨DRow.nil, hbl⟩
    clear hb w0 hbl
    cases hv : inB x 1 12
    · have HV := Lib.hid hv
      have ho : x < 1 ∨ (¬ x < 1 ∧ 12 < x) := by
        have h2 : ¬ (1 ≤ x ∧ x ≤ 12) := fun h => by rw [inB_iff.2 h] at hv; cases hv
        omega
      have HO := Lib.hid ho
      clear hv ho
      go_wp2_with fail
      refine (newDevice_no _ _ HV.out).mono ?_
      rintro e w1 ⟨A1, c1, cs1, rfl, hl, hs, ho, hk⟩
      replace HS := Lib.hid (HS.out.keep hk)
      have HX := Lib.hid (show LD w A1 cs1 w1 from ⟨ho.row, HS.out.2⟩)
      have SHX := Lib.hid (And.intro hl hs)
      clear hl hs ho hk
      go_wp2_with fail
      refine (specNewDevice_no _ _ HV.out).mono ?_
      rintro e w2 ⟨A2, c2, cs2, rfl, hl, hs, ho, hk⟩
      replace HS := Lib.hid (HS.out.keep hk)
      replace HX := Lib.hid (HX.out.keep hk)
      have HZ := Lib.hid (show LD w A2 cs2 w2 from ⟨ho.row, HS.out.2⟩)
      have SHZ := Lib.hid (And.intro hl hs)
      clear hl hs ho hk
      go_wp2_with fail
      refine (sameDevice_same _ _ _ _ _ _ _ _ SHX.out.1 (SHX.out.2.trans SHZ.out.2.symm) HX.out.1 HZ.out.1 (by omega) (small_nil SHX.out.1)).mono ?_
      rintro e w3 ⟨rfl, hk⟩
      replace HS := Lib.hid (HS.out.keep hk)
      replace HX := Lib.hid (HX.out.keep hk)
      replace HZ := Lib.hid (HZ.out.keep hk)
      clear hk
      rcases HO.out with t1 | ⟨t1, t2⟩
      · have t1 := decide_eq_true t1
        go_wp2_with (go_at_call 19; refine (alive_any _).mono ?_; rintro e w' ⟨rfl, rfl⟩)
        go_ret
        exact ⟨rfl, HS.out.2⟩
      · have t1 := decide_eq_false (show ¬ x < 1 by omega)
        have t2 := decide_eq_true t2
        go_wp2_with (go_at_call 19; refine (alive_any _).mono ?_; rintro e w' ⟨rfl, rfl⟩)
        go_ret
        exact ⟨rfl, HS.out.2⟩
    · obtain ⟨h1, h2⟩ := inB_iff.1 hv
      obtain ⟨n, rfl⟩ := Int.eq_ofNat_of_zero_le (show 0 ≤ x by omega)
      have HV := Lib.hid hv
      clear hv
      go_wp2_with fail
      refine (newDevice_yes n _ HV.out).mono ?_
      rintro e w1 ⟨A1, c1, cs1, rfl, hl, hs, ho, hk⟩
      replace HS := Lib.hid (HS.out.keep hk)
      have HX := Lib.hid (show LD w A1 cs1 w1 from ⟨ho.row, HS.out.2⟩)
      have SHX := Lib.hid (And.intro hl hs)
      clear hl hs ho hk
      go_wp2_with fail
      refine (specNewDevice_yes n _ HV.out).mono ?_
      rintro e w2 ⟨A2, c2, cs2, rfl, hl, hs, ho, hk⟩
      replace HS := Lib.hid (HS.out.keep hk)
      replace HX := Lib.hid (HX.out.keep hk)
      have HZ := Lib.hid (show LD w A2 cs2 w2 from ⟨ho.row, HS.out.2⟩)
      have SHZ := Lib.hid (And.intro hl hs)
      clear hl hs ho hk
      have HD := Lib.hid ((devB_is SHX.out.2).trans (zs_valid HV.out))
      go_wp2_with fail
      refine (sameDevice_same _ _ _ _ _ _ _ _ SHX.out.1 (SHX.out.2.trans SHZ.out.2.symm) HX.out.1 HZ.out.1 (by omega) (small_is SHX.out.2 (zs_small _))).mono ?_
      rintro e w3 ⟨rfl, hk⟩
      replace HS := Lib.hid (HS.out.keep hk)
      replace HX := Lib.hid (HX.out.keep hk)
      replace HZ := Lib.hid (HZ.out.keep hk)
      clear hk
      have tn : ((n : Int) == 0) = false := by simp; omega
      obtain ⟨F, hF⟩ : ∃ F : Nat, F = 4 * n := ⟨_, rfl⟩
      have HF := Lib.hid ((free_is SHX.out.2).trans ((zs_free n).trans hF.symm))
      have tF : ((F : Int) == 4 * (n : Int)) = true := by simp only [beq_iff_eq]; omega
      clear hF
      go_wp2_with fail
      refine (deviceValid_val SHX.out.1 HD.out _ HX.out.1 (by omega) (small_is SHX.out.2 (zs_small _))).mono ?_
      rintro e w4 ⟨rfl, hk⟩
      replace HS := Lib.hid (HS.out.keep hk)
      replace HX := Lib.hid (HX.out.keep hk)
      replace HZ := Lib.hid (HZ.out.keep hk)
      clear hk
      go_wp2_with fail
      refine (free_val SHX.out.1 HX.out.1 HD.out HF.out).mono ?_
      rintro e w5 ⟨rfl, hk⟩
      replace HS := Lib.hid (HS.out.keep hk)
      replace HX := Lib.hid (HX.out.keep hk)
      replace HZ := Lib.hid (HZ.out.keep hk)
      clear hk
      go_wp2_with fail
      refine (total_val ((total_same SHX.out.2).trans (zs_total (by omega) (by omega))) SHX.out.1 HX.out.1 (by omega) (small_is SHX.out.2 (zs_small _))).mono ?_
      rintro e w6 ⟨rfl, hk⟩
      replace HS := Lib.hid (HS.out.keep hk)
      replace HX := Lib.hid (HX.out.keep hk)
      replace HZ := Lib.hid (HZ.out.keep hk)
      clear hk
      go_wp2
      go_ret
      exact ⟨rfl, HS.out.2⟩

/-! ### THE ROW's STEP: WRITTEN OUT: LEAVE IT -/
set_option maxRecDepth 100000 in
theorem lifted (os : Os) (started : os.Started) (H : Type) (enc : TypeId × Value → H) :
    ReturnsInHanded {} Try.checked os 13 .any (Rows.fnNewDeviceSpec.pre6 enc Try.prog Try.f13 Rows.fnNewDeviceRow.domain false) (Rows.fnNewDeviceSpec.post enc Try.prog Try.f13 false true false false) := by
  refine returnsInHanded_of_change (C := Try.checked) own started (by kernel_rfl) Try.func13
    (ChangeSpec.witness6 (enc := enc) (C := Try.checked) false ⟨#[], #[.slice none 0 0], []⟩ 8 (by kernel_rfl) (by kernel_rfl) (by kernel_rfl) (by kernel_rfl)) ?_
  intro W base args ds gs before hval0 hW hcnd _
  have hval : ∀ (j : Nat) t v, Try.f13.params[j]? = some t → args[j]? = some v → Value.okWide Try.prog W .any base t v := hval0
  have hW' := hW
  obtain ⟨p, q, hA0, hV, rfl, hfz, hnd⟩ := hW
  have hA : DataW.TrodAll enc Try.prog W 0 (fun _ => true) true Try.f13.params.toList args.toList ds p := hA0
  rw [Try.params13] at hA hval
  obtain ⟨v0, vs0, d0, ds0, p0, q0, hargs, rfl, rfl, h0, r0⟩ := trodAll_cons hA
  obtain ⟨rfl, rfl, rfl⟩ := trodAll_nil r0
  obtain rfl : args = #[v0] := by cases args; simp_all
  obtain ⟨rfl, rfl⟩ := trodVars_none hV
  obtain ⟨a0, len0, cap0, rfl⟩ := okWide_slice Try.underlying22 (hval 0 22 v0 rfl rfl)
  have k0 := h0
  have lt0 : ∀ x ∈ p0, x.block < W.heap.size := by obtain ⟨m, hm⟩ := k0; exact DataW.trod_lt m _ _ _ hm
  obtain ⟨z0, w0⟩ : ∃ zs, IsRow .u8 W a0 len0 cap0 zs := by
    obtain ⟨fuel, hf⟩ := h0
    rcases open_ints Try.underlying22 Try.underlying5 (by kernel_rfl) hf with ⟨hcs, _⟩ | ⟨x, l, c, zs, hcs, _, hl, hm, hz, _, hcell, hwz⟩
    · simp [Value.cells] at hcs
      obtain ⟨rfl, rfl, rfl⟩ := hcs
      exact ⟨[], .inl ⟨rfl, rfl, rfl, rfl⟩⟩
    · simp [Value.cells] at hcs
      obtain ⟨rfl, rfl, rfl⟩ := hcs
      exact ⟨zs, .inr ⟨_, rfl, hl, hm, by simpa using hz, hcell, hwz⟩⟩
  clear hA0 hval0
  refine (walk a0 len0 cap0 z0 W w0).mono fun e W' ⟨he, bel⟩ => ?_
  subst he
  exact ⟨_, rfl, _, _, _, [], _, [], hW', trodAll_mk1 (shut_bool Try.underlying4 _), (trodAll_cons_mk (Below.trod laidOut (by kernel_rfl) (of_decide_eq_true (by kernel_rfl)) k0 bel lt0) trodAll_mk0), rfl, bel.frame _, fun h => by cases h⟩

theorem over : Rows.fnNewDeviceRow.holds Try.pinned (OpenSpec.ofChange Rows.fnNewDeviceSpec) :=
  OpenClaim.holds_of_wide 13 Try.f13 rfl rfl rfl rfl rfl rfl rfl ⟨rfl, rfl, rfl, rfl, rfl⟩ rfl rfl rfl rfl rfl (by kernel_rfl) Try.func13 (by kernel_rfl)
    (of_decide_eq_true (by kernel_rfl)) (by unfold Func.isWrapper; first | (rw [if_pos (by decide +kernel)]; kernel_rfl) | (rw [if_neg (by decide +kernel)]; exact ⟨rfl, rfl⟩))
    (fun os started H enc _ => lifted os started H enc)

/-- ████ THE STATEMENT ████ -/
theorem proved : Rows.FnNewDeviceSaid := over
#print axioms proved
end Go.Proofs.Ytpdkfgihpchkiaa.fnNewDevice
