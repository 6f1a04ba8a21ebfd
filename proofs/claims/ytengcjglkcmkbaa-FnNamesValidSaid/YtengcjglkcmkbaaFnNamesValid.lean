/- For every code, NamesValid answers of the drawn names as the model does, valid names are valid without the first one, and not valid with the first one twice.
   Conditions: none beyond the row's own reading of the input. The frame was written by the guide's proof-skeleton; the walk is ours. -/
import Derived.Test.YtengcjglkcmkbaaNameFacts
import Derived.Test.YtengcjglkcmkbaaRows
import Derived.WalkKit
import Derived.ProofKit
import Derived.OpenShut
import Derived.ShutString
import Derived.ChangeOld
import Derived.Below
namespace Go.Proofs.Ytengcjglkcmkbaa.fnNamesValid
open Go.ChangeShapes Go.WideShapes Go.ChangeAt Go.RowKit
open Go.ChangeMaps (open_string shut_string)
set_option linter.unusedVariables false

theorem own : ownKnob Try.prog.godebug = none := by kernel_rfl
theorem laidOut : laidOutB Try.prog = true := by kernel_rfl

/-- WHAT THE WALK IS TOLD OF A SLICE OF INTEGERS THAT CAME IN: it is nil; or it leads to a row of 'cap' cells, the numbers 'zs' (the first 'len' are its elements, the rest its spare room), each fitting its kind. -/
def IsRow (k : IntKind) (w : World) (a : Option Addr) (len cap : Nat) (zs : List Int) : Prop :=
  (a = none ∧ len = 0 ∧ cap = 0 ∧ zs = []) ∨
  ∃ x, a = some x ∧ len ≤ cap ∧ cap ≤ maxLen ∧ zs.length = cap ∧ (∀ i, i < zs.length → w.cell? (x.add i) = some (.int k (zs.getD i 0))) ∧ ∀ n ∈ zs, (Lit.int k n).wf = true

/-! ### STEP 1: THE WALK: the Go text returns true, AND WRITES NOTHING THAT WAS THERE: 'Below w.heap.size w w'' (Derived/Below.lean: '.refl', '.alloc', '.drew', '.setCell' at a new block, '.trans'). Open each 'IsRow' by 'rcases' AHEAD of 'go_enter'; part every test ahead of the walk. -/
set_option maxHeartbeats 2000000 in
set_option maxRecDepth 100000 in
theorem walk (a0 : Option Addr) (len0 cap0 : Nat) (z0 : List Int) (w : World) (w0 : IsRow .u8 w a0 len0 cap0 z0) :
    Calls Try.prog 5 #[.slice a0 len0 cap0] w fun e w' => e = .returned (.bool true) ∧ Below w.heap.size w w' := by
  obtain ⟨hl, hc, hb⟩ := bytes_of w0
  by_cases hbig : 1048576 < len0
  · go_enter Try.func5, Try.ntmps5
    go_wp2
    go_ret
    exact ⟨rfl, Below.refl _ _⟩
  · go_enter Try.func5, Try.ntmps5
    go_wp2_with fail
    refine (drawNames_any w a0 len0 cap0 hl hc hb).mono ?_
    rintro e wa ⟨A, n, c, ps, rfl, hpl, h9, hnc, hcm, hsh, hle⟩
    have HS := Lib.hid hle
    have HL := Lib.hid hpl
    have HH := Lib.hid hsh
    have hn : n ≤ 1048576 := by omega
    simp only [maxLen] at hcm
    clear hle hpl hsh
    clear hb w0
    cases hv : nmB ps
    · have HV := Lib.hid hv
      clear hv
      go_wp2_with fail
      refine (namesValid_val HV.out HL.out HS.out.1 (by omega) HH.out.big).mono ?_
      rintro e w1 ⟨rfl, hk⟩
      replace HS := Lib.hid (HS.out.keep hk)
      clear hk
      go_wp2_with fail
      refine (specNames_val HV.out HL.out HS.out.1 hn HH.out.big).mono ?_
      rintro e w2 ⟨rfl, hk⟩
      replace HS := Lib.hid (HS.out.keep hk)
      clear hk
      go_wp2_with (go_at_call 18; refine (alive_any _).mono ?_; rintro e w' ⟨rfl, rfl⟩)
      go_ret
      exact ⟨rfl, HS.out.2⟩
    · have HV := Lib.hid hv
      clear hv
      go_wp2_with fail
      refine (namesValid_val HV.out HL.out HS.out.1 (by omega) HH.out.big).mono ?_
      rintro e w1 ⟨rfl, hk⟩
      replace HS := Lib.hid (HS.out.keep hk)
      clear hk
      go_wp2_with fail
      refine (specNames_val HV.out HL.out HS.out.1 hn HH.out.big).mono ?_
      rintro e w2 ⟨rfl, hk⟩
      replace HS := Lib.hid (HS.out.keep hk)
      clear hk
      rcases Nat.eq_zero_or_pos n with hz | hz
      · subst hz
        go_wp2_with (go_at_call 18; refine (alive_any _).mono ?_; rintro e w' ⟨rfl, rfl⟩)
        go_ret
        exact ⟨rfl, HS.out.2⟩
      · have h0 : ((n : Int) == 0) = false := by rw [beq_eq_false_iff_ne]; omega
        have p0 : decide ((0 : Int) < n) = true := decide_eq_true (by omega)
        have p1 : (0 : Int) < n := by omega
        have p2 : (1 : Int) ≤ n := by omega
        have p3 : (1 : Int) ≤ c := by omega
        have p4 : (n : Int) ≤ c := by omega
        obtain ⟨g, off, eA, _⟩ := NRow.pos HS.out.1 (by have := HL.out; omega)
        subst eA
        obtain ⟨⟨a, b⟩, r, hps⟩ : ∃ p r, ps = p :: r := by cases ps with | nil => exact absurd HL.out (by simp; omega) | cons p r => exact ⟨p, r, rfl⟩
        subst hps
        have HT := Lib.hid (And.intro (nm_tail HV.out) (nm_twice ⟨a, b⟩ r))
        have HRL := Lib.hid (show r.length = n - 1 by have h := HL.out; simp at h; omega)
        by_cases hc1 : c = 1
        · have hn1 : n = 1 := by omega
          subst hc1
          subst hn1
          have hr0 := List.eq_nil_of_length_eq_zero HRL.out
          subst hr0
          go_wp2_with fail
          refine (namesValid_val (ps := []) (B := true) (n := 0) rfl rfl NRow.nil (by omega) (fun k p hp => by simp at hp)).mono ?_
          rintro e w3 ⟨rfl, hk⟩
          replace HS := Lib.hid (HS.out.keep hk)
          clear hk
          obtain ⟨c0, c1⟩ := NRow.cellf (i := 0) HS.out.1 rfl
          simp only [Nat.zero_mul, Nat.add_zero] at c0 c1
          obtain ⟨A', c', wb, hrun, hrow, hgb⟩ := append_firstN a b HL.out HS.out.1 (by omega)
          have HRUN := Lib.hid hrun
          have HB := Lib.hid hrow
          replace HS := Lib.hid (HS.out.keep hgb)
          clear hrun hrow hgb
          go_wp2_with (first | (at_builtin; refine wpList_append_runG _ (by rfl) (.tmp 31) (.tmp 32) _ _ rfl _ _ rfl rfl HRUN.out ?_) | fail)
          refine (namesValid_val HT.out.2 (by rw [List.length_cons, HL.out]) HB.out (by omega) HH.out.twice.big).mono ?_
          rintro e wc ⟨rfl, hk⟩
          replace HS := Lib.hid (HS.out.keep hk)
          clear hk
          go_wp2
          go_ret
          exact ⟨rfl, HS.out.2⟩
        · have hfr := NRow.from HS.out.1 1
          simp only [Option.map_some, Go.WideShapes.add_plain, Nat.one_mul, List.drop_succ_cons, List.drop_zero] at hfr
          have HF := Lib.hid hfr
          clear hfr
          go_wp2_with fail
          refine (namesValid_val HT.out.1 HRL.out HF.out (by omega) HH.out.tail.big).mono ?_
          rintro e w3 ⟨rfl, hk⟩
          replace HS := Lib.hid (HS.out.keep hk)
          clear hk
          obtain ⟨c0, c1⟩ := NRow.cellf (i := 0) HS.out.1 rfl
          simp only [Nat.zero_mul, Nat.add_zero] at c0 c1
          obtain ⟨A', c', wb, hrun, hrow, hgb⟩ := append_firstN a b HL.out HS.out.1 (by omega)
          have HRUN := Lib.hid hrun
          have HB := Lib.hid hrow
          replace HS := Lib.hid (HS.out.keep hgb)
          clear hrun hrow hgb
          go_wp2_with (first | (at_builtin; refine wpList_append_runG _ (by rfl) (.tmp 31) (.tmp 32) _ _ rfl _ _ rfl rfl HRUN.out ?_) | fail)
          refine (namesValid_val HT.out.2 (by rw [List.length_cons, HL.out]) HB.out (by omega) HH.out.twice.big).mono ?_
          rintro e wc ⟨rfl, hk⟩
          replace HS := Lib.hid (HS.out.keep hk)
          clear hk
          go_wp2
          go_ret
          exact ⟨rfl, HS.out.2⟩

/-! ### THE ROW's STEP: WRITTEN OUT: LEAVE IT -/
set_option maxRecDepth 100000 in
theorem lifted (os : Os) (started : os.Started) (H : Type) (enc : TypeId × Value → H) :
    ReturnsInHanded {} Try.checked os 5 .any (Rows.fnNamesValidSpec.pre6 enc Try.prog Try.f5 Rows.fnNamesValidRow.domain false) (Rows.fnNamesValidSpec.post enc Try.prog Try.f5 false true false false) := by
  refine returnsInHanded_of_change (C := Try.checked) own started (by kernel_rfl) Try.func5
    (ChangeSpec.witness6 (enc := enc) (C := Try.checked) false ⟨#[], #[.slice none 0 0], []⟩ 8 (by kernel_rfl) (by kernel_rfl) (by kernel_rfl) (by kernel_rfl)) ?_
  intro W base args ds gs before hval0 hW hcnd _
  have hval : ∀ (j : Nat) t v, Try.f5.params[j]? = some t → args[j]? = some v → Value.okWide Try.prog W .any base t v := hval0
  have hW' := hW
  obtain ⟨p, q, hA0, hV, rfl, hfz, hnd⟩ := hW
  have hA : DataW.TrodAll enc Try.prog W 0 (fun _ => true) true Try.f5.params.toList args.toList ds p := hA0
  rw [Try.params5] at hA hval
  obtain ⟨v0, vs0, d0, ds0, p0, q0, hargs, rfl, rfl, h0, r0⟩ := trodAll_cons hA
  obtain ⟨rfl, rfl, rfl⟩ := trodAll_nil r0
  obtain rfl : args = #[v0] := by cases args; simp_all
  obtain ⟨rfl, rfl⟩ := trodVars_none hV
  obtain ⟨a0, len0, cap0, rfl⟩ := okWide_slice Try.underlying22 (hval 0 22 v0 rfl rfl)
  have k0 := h0
  have lt0 : ∀ x ∈ p0, x.block < W.heap.size := by obtain ⟨m, hm⟩ := k0; exact DataW.trod_lt m _ _ _ hm
  obtain ⟨z0, w0⟩ : ∃ zs, IsRow .u8 W a0 len0 cap0 zs := by
    obtain ⟨fuel, hf⟩ := h0
    rcases open_ints Try.underlying22 Try.underlying5 (by kernel_rfl) hf with ⟨hcs, _⟩ | ⟨x, l, c, zs, hcs, _, hl, hm, hz, _, hcell, hwz⟩
    · simp [Value.cells] at hcs
      obtain ⟨rfl, rfl, rfl⟩ := hcs
      exact ⟨[], .inl ⟨rfl, rfl, rfl, rfl⟩⟩
    · simp [Value.cells] at hcs
      obtain ⟨rfl, rfl, rfl⟩ := hcs
      exact ⟨zs, .inr ⟨_, rfl, hl, hm, by simpa using hz, hcell, hwz⟩⟩
  clear hA0 hval0
  refine (walk a0 len0 cap0 z0 W w0).mono fun e W' ⟨he, bel⟩ => ?_
  subst he
  exact ⟨_, rfl, _, _, _, [], _, [], hW', trodAll_mk1 (shut_bool Try.underlying4 _), (trodAll_cons_mk (Below.trod laidOut (by kernel_rfl) (of_decide_eq_true (by kernel_rfl)) k0 bel lt0) trodAll_mk0), rfl, bel.frame _, fun h => by cases h⟩

theorem over : Rows.fnNamesValidRow.holds Try.pinned (OpenSpec.ofChange Rows.fnNamesValidSpec) :=
  OpenClaim.holds_of_wide 5 Try.f5 rfl rfl rfl rfl rfl rfl rfl ⟨rfl, rfl, rfl, rfl, rfl⟩ rfl rfl rfl rfl rfl (by kernel_rfl) Try.func5 (by kernel_rfl)
    (of_decide_eq_true (by kernel_rfl)) (by unfold Func.isWrapper; first | (rw [if_pos (by decide +kernel)]; kernel_rfl) | (rw [if_neg (by decide +kernel)]; exact ⟨rfl, rfl⟩))
    (fun os started H enc _ => lifted os started H enc)

/-- ████ THE STATEMENT ████ -/
theorem proved : Rows.FnNamesValidSaid := over
#print axioms proved
end Go.Proofs.Ytengcjglkcmkbaa.fnNamesValid
