/- For every code, DeviceValid answers of the drawn device as its model; behind an empty block it is not valid, and of its first block alone a valid one is valid: proved.
   Conditions: none beyond the row's own reading of the input. The frame was written by the guide's proof-skeleton; the walk is ours. -/
import Derived.Test.YtbhbbfpafonaiaaDrawDev6
import Derived.Test.YtbhbbfpafonaiaaRows
import Derived.WalkKit
import Derived.ProofKit
import Derived.OpenShut
import Derived.ShutString
import Derived.ChangeOld
import Derived.Below
namespace Go.Proofs.Ytbhbbfpafonaiaa.fnDeviceValid
open Go.ChangeShapes Go.WideShapes Go.ChangeAt Go.RowKit
open Go.ChangeMaps (open_string shut_string)
set_option linter.unusedVariables false

theorem own : ownKnob Try.prog.godebug = none := by kernel_rfl
theorem laidOut : laidOutB Try.prog = true := by kernel_rfl

/-- WHAT THE WALK IS TOLD OF A SLICE OF INTEGERS THAT CAME IN: it is nil; or it leads to a row of 'cap' cells, the numbers 'zs' (the first 'len' are its elements, the rest its spare room), each fitting its kind. -/
def IsRow (k : IntKind) (w : World) (a : Option Addr) (len cap : Nat) (zs : List Int) : Prop :=
  (a = none ∧ len = 0 ∧ cap = 0 ∧ zs = []) ∨
  ∃ x, a = some x ∧ len ≤ cap ∧ cap ≤ maxLen ∧ zs.length = cap ∧ (∀ i, i < zs.length → w.cell? (x.add i) = some (.int k (zs.getD i 0))) ∧ ∀ n ∈ zs, (Lit.int k n).wf = true

/-! ### STEP 1: THE WALK: the Go text returns true, AND WRITES NOTHING THAT WAS THERE: 'Below w.heap.size w w'' (Derived/Below.lean: '.refl', '.alloc', '.drew', '.setCell' at a new block, '.trans'). Open each 'IsRow' by 'rcases' AHEAD of 'go_enter'; part every test ahead of the walk. -/
set_option maxHeartbeats 2000000 in
theorem walk (a0 : Option Addr) (len0 cap0 : Nat) (z0 : List Int) (w : World) (w0 : IsRow .u8 w a0 len0 cap0 z0) :
    Calls Try.prog 3 #[.slice a0 len0 cap0] w fun e w' => e = .returned (.bool true) ∧ Below w.heap.size w w' := by
  obtain ⟨hl, hc, hb⟩ := bytes_of w0
  by_cases hbig : 1048576 < len0
  · go_enter Try.func3, Try.ntmps3
    go_wp2
    go_ret
    exact ⟨rfl, Below.refl _ _⟩
  · go_enter Try.func3, Try.ntmps3
    go_wp2_with fail
    refine (drawDeviceValid_any w a0 len0 cap0 hl hc hb).mono ?_
    rintro e wa ⟨A, n, c, bs, rfl, hln, h13, hnc, hcm, hsm, hrow, hbl, ad, rfl⟩
    have HS : RowKit.Hid (LD w (some ad) bs wa) := Lib.hid ⟨hrow, hbl⟩
    have HL := Lib.hid (And.intro hln (And.intro (fun (q : Bk) (hq : q ∈ bs) => show q.ps.length ≤ 1048576 by have := hsm q hq; omega) hsm))
    clear hb w0 hrow hbl hln hsm
    cases hd : devB bs
    all_goals
      have HV := Lib.hid hd
      clear hd
      go_wp2_with fail
      refine (deviceValid_val HL.out.1 HV.out _ HS.out.1 (by omega) HL.out.2.1).mono ?_
      rintro e w1 ⟨rfl, hk⟩
      replace HS := Lib.hid (HS.out.keep hk)
      clear hk
      go_wp2_with fail
      refine (specDeviceValid_val HL.out.1 HV.out _ HS.out.1 (by omega) HL.out.2.1).mono ?_
      rintro e w2 ⟨rfl, hk⟩
      replace HS := Lib.hid (HS.out.keep hk)
      clear hk
      obtain ⟨v3, w3, hrun, hA3⟩ := behind_zero (bs := bs) (ad := ad) (c := c) (n := n) HL.out.1 (by omega) HS.out
      obtain ⟨A3, c3, rfl, hr3, hs3⟩ := hA3
      have HRUN := Lib.hid hrun
      replace HS := Lib.hid hs3
      have HR3 := Lib.hid hr3
      clear hrun hr3 hs3
      go_wp2_with (first | (at_builtin; refine wpList_append_run _ rfl (.tmp 17) (.tmp 18) _ _ rfl _ _ rfl rfl HRUN.out ?_) | fail)
      refine (deviceValid_val (V := false) (bs := ⟨0, none, 0, []⟩ :: bs) (n := 1 + n) (by have := HL.out.1; simp; omega) (dev_no (k := 0) rfl (by simp [blockB])) _ HR3.out (by omega) (fun q hq => (List.mem_cons.1 hq).elim (fun e => by rw [e]; simp) (HL.out.2.1 q))).mono ?_
      rintro e w4 ⟨rfl, hk⟩
      replace HS := Lib.hid (HS.out.keep hk)
      clear hk
    · go_wp2_with (go_at_call 9; refine (alive_any _).mono ?_; rintro e w' ⟨rfl, rfl⟩)
      go_ret
      exact ⟨rfl, HS.out.2⟩
    · have hpart := dev_parts HV.out
      have hn1 : 1 ≤ n := by have := hpart.1.1; have := HL.out.1; omega
      have hc1 : 1 ≤ c := by omega
      have HT := Lib.hid (dev_one HV.out)
      clear hpart
      go_wp2_with fail
      refine (deviceValid_val (V := true) (bs := bs.take 1) (n := 1) (by rw [List.length_take]; have := HL.out.1; omega) HT.out _ (HS.out.1.take 1) (by omega) (fun q hq => HL.out.2.1 q (List.mem_of_mem_take hq))).mono ?_
      rintro e w5 ⟨rfl, hk⟩
      replace HS := Lib.hid (HS.out.keep hk)
      clear hk
      go_wp2_with (go_at_call 9; refine (alive_any _).mono ?_; rintro e w' ⟨rfl, rfl⟩)
      go_ret
      exact ⟨rfl, HS.out.2⟩

/-! ### THE ROW's STEP: WRITTEN OUT: LEAVE IT -/
set_option maxRecDepth 100000 in
theorem lifted (os : Os) (started : os.Started) (H : Type) (enc : TypeId × Value → H) :
    ReturnsInHanded {} Try.checked os 3 .any (Rows.fnDeviceValidSpec.pre6 enc Try.prog Try.f3 Rows.fnDeviceValidRow.domain false) (Rows.fnDeviceValidSpec.post enc Try.prog Try.f3 false true false false) := by
  refine returnsInHanded_of_change (C := Try.checked) own started (by kernel_rfl) Try.func3
    (ChangeSpec.witness6 (enc := enc) (C := Try.checked) false ⟨#[], #[.slice none 0 0], []⟩ 8 (by kernel_rfl) (by kernel_rfl) (by kernel_rfl) (by kernel_rfl)) ?_
  intro W base args ds gs before hval0 hW hcnd _
  have hval : ∀ (j : Nat) t v, Try.f3.params[j]? = some t → args[j]? = some v → Value.okWide Try.prog W .any base t v := hval0
  have hW' := hW
  obtain ⟨p, q, hA0, hV, rfl, hfz, hnd⟩ := hW
  have hA : DataW.TrodAll enc Try.prog W 0 (fun _ => true) true Try.f3.params.toList args.toList ds p := hA0
  rw [Try.params3] at hA hval
  obtain ⟨v0, vs0, d0, ds0, p0, q0, hargs, rfl, rfl, h0, r0⟩ := trodAll_cons hA
  obtain ⟨rfl, rfl, rfl⟩ := trodAll_nil r0
  obtain rfl : args = #[v0] := by cases args; simp_all
  obtain ⟨rfl, rfl⟩ := trodVars_none hV
  obtain ⟨a0, len0, cap0, rfl⟩ := okWide_slice Try.underlying22 (hval 0 22 v0 rfl rfl)
  have k0 := h0
  have lt0 : ∀ x ∈ p0, x.block < W.heap.size := by obtain ⟨m, hm⟩ := k0; exact DataW.trod_lt m _ _ _ hm
  obtain ⟨z0, w0⟩ : ∃ zs, IsRow .u8 W a0 len0 cap0 zs := by
    obtain ⟨fuel, hf⟩ := h0
    rcases open_ints Try.underlying22 Try.underlying5 (by kernel_rfl) hf with ⟨hcs, _⟩ | ⟨x, l, c, zs, hcs, _, hl, hm, hz, _, hcell, hwz⟩
    · simp [Value.cells] at hcs
      obtain ⟨rfl, rfl, rfl⟩ := hcs
      exact ⟨[], .inl ⟨rfl, rfl, rfl, rfl⟩⟩
    · simp [Value.cells] at hcs
      obtain ⟨rfl, rfl, rfl⟩ := hcs
      exact ⟨zs, .inr ⟨_, rfl, hl, hm, by simpa using hz, hcell, hwz⟩⟩
  clear hA0 hval0
  refine (walk a0 len0 cap0 z0 W w0).mono fun e W' ⟨he, bel⟩ => ?_
  subst he
  exact ⟨_, rfl, _, _, _, [], _, [], hW', trodAll_mk1 (shut_bool Try.underlying4 _), (trodAll_cons_mk (Below.trod laidOut (by kernel_rfl) (of_decide_eq_true (by kernel_rfl)) k0 bel lt0) trodAll_mk0), rfl, bel.frame _, fun h => by cases h⟩

theorem over : Rows.fnDeviceValidRow.holds Try.pinned (OpenSpec.ofChange Rows.fnDeviceValidSpec) :=
  OpenClaim.holds_of_wide 3 Try.f3 rfl rfl rfl rfl rfl rfl rfl ⟨rfl, rfl, rfl, rfl, rfl⟩ rfl rfl rfl rfl rfl (by kernel_rfl) Try.func3 (by kernel_rfl)
    (of_decide_eq_true (by kernel_rfl)) (by unfold Func.isWrapper; first | (rw [if_pos (by decide +kernel)]; kernel_rfl) | (rw [if_neg (by decide +kernel)]; exact ⟨rfl, rfl⟩))
    (fun os started H enc _ => lifted os started H enc)

/-- ████ THE STATEMENT ████ -/
theorem proved : Rows.FnDeviceValidSaid := over
#print axioms proved
end Go.Proofs.Ytbhbbfpafonaiaa.fnDeviceValid
