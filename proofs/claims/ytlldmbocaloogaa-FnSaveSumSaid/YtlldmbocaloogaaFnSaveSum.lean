/- For every code, SaveSum answers of the drawn number and pages as its model; with another last page it is another sum: proved.
   Conditions: none beyond the row's own reading of the input. The frame was written by the guide's proof-skeleton; the walk is ours. -/
import Derived.Test.YtlldmbocaloogaaSaveFacts
import Derived.Test.YtlldmbocaloogaaRows
import Derived.WalkKit
import Derived.ProofKit
import Derived.OpenShut
import Derived.ShutString
import Derived.ChangeOld
import Derived.Below
namespace Go.Proofs.Ytlldmbocaloogaa.fnSaveSum
open Go.ChangeShapes Go.WideShapes Go.ChangeAt Go.RowKit
open Go.ChangeMaps (open_string shut_string)
set_option linter.unusedVariables false

theorem own : ownKnob Try.prog.godebug = none := by kernel_rfl
theorem laidOut : laidOutB Try.prog = true := by kernel_rfl

/-- WHAT THE WALK IS TOLD OF A SLICE OF INTEGERS THAT CAME IN: it is nil; or it leads to a row of 'cap' cells, the numbers 'zs' (the first 'len' are its elements, the rest its spare room), each fitting its kind. -/
def IsRow (k : IntKind) (w : World) (a : Option Addr) (len cap : Nat) (zs : List Int) : Prop :=
  (a = none ∧ len = 0 ∧ cap = 0 ∧ zs = []) ∨
  ∃ x, a = some x ∧ len ≤ cap ∧ cap ≤ maxLen ∧ zs.length = cap ∧ (∀ i, i < zs.length → w.cell? (x.add i) = some (.int k (zs.getD i 0))) ∧ ∀ n ∈ zs, (Lit.int k n).wf = true

/-! ### STEP 1: THE WALK: the Go text returns true, AND WRITES NOTHING THAT WAS THERE: 'Below w.heap.size w w'' (Derived/Below.lean: '.refl', '.alloc', '.drew', '.setCell' at a new block, '.trans'). Open each 'IsRow' by 'rcases' AHEAD of 'go_enter'; part every test ahead of the walk. -/
set_option maxHeartbeats 2000000 in
set_option maxRecDepth 100000 in
theorem walk (a0 : Option Addr) (len0 cap0 : Nat) (z0 : List Int) (w : World) (w0 : IsRow .u8 w a0 len0 cap0 z0) :
    Calls Try.prog 3 #[.slice a0 len0 cap0] w fun e w' => e = .returned (.bool true) ∧ Below w.heap.size w w' := by
  obtain ⟨hl, hc, hb⟩ := bytes_of w0
  by_cases hbig : 1048576 < len0
  · go_enter Try.func3, Try.ntmps3
    go_wp2
    go_ret
    exact ⟨rfl, Below.refl _ _⟩
  · go_enter Try.func3, Try.ntmps3
    go_wp2_with fail
    refine (drawSaveSum_any w a0 len0 cap0 hl hc hb).mono ?_
    rintro e wa ⟨N, A, n, c, X, rfl, hln, h49, hr, hbw⟩
    have HR := Lib.hid (And.intro hln (And.intro hr hbw))
    have hn : n ≤ 1048576 := by omega
    obtain ⟨V, hV⟩ : ∃ V, ssumV N X = V := ⟨_, rfl⟩
    have HV := Lib.hid hV
    have tVV : (V != V) = false := by simp
    clear hb w0 hln hr hbw
    by_cases h0 : V < 0
    · have em : V = -1 := sum_neg hV h0
      subst em
      clear h0 hV
      go_wp2_with (first | (go_at_call 12; refine (saveSum_val HV.out HR.out.1 HR.out.2.1 hn).mono ?_; rintro e w' ⟨rfl, rfl⟩) | (go_at_call 13; refine (specSum_val HV.out HR.out.1 HR.out.2.1 hn).mono ?_; rintro e w' ⟨rfl, rfl⟩) | (go_at_call 14; refine (alive_any _).mono ?_; rintro e w' ⟨rfl, rfl⟩))
      go_ret
      exact ⟨rfl, HR.out.2.2⟩
    · have t0 : decide (V < 0) = false := decide_eq_false h0
      have t1 : decide (-1 ≤ V) = true := decide_eq_true (by omega)
      by_cases h48 : n = 48
      · have t2 : ((n : Int) == 48) = true := by subst h48; rfl
        clear h0 hV h48
        go_wp2_with (first | (go_at_call 12; refine (saveSum_val HV.out HR.out.1 HR.out.2.1 hn).mono ?_; rintro e w' ⟨rfl, rfl⟩) | (go_at_call 13; refine (specSum_val HV.out HR.out.1 HR.out.2.1 hn).mono ?_; rintro e w' ⟨rfl, rfl⟩) | (go_at_call 14; refine (alive_any _).mono ?_; rintro e w' ⟨rfl, rfl⟩))
        go_ret
        exact ⟨rfl, HR.out.2.2⟩
      · have t2 : ((n : Int) == 48) = false := by rw [beq_eq_false_iff_ne]; omega
        obtain ⟨hlt, hne⟩ := sum_more hV h0 HR.out.1 h48
        obtain ⟨V5, hV5⟩ : ∃ V, ssumV N (X ++ [5]) = V := ⟨_, rfl⟩
        obtain ⟨V6, hV6⟩ : ∃ V, ssumV N (X ++ [6]) = V := ⟨_, rfl⟩
        rw [hV5, hV6] at hne
        have t3 : decide (V < 99991) = true := decide_eq_true hlt
        have t4 : (V5 != V6) = true := by simp [hne]
        obtain ⟨A1, c1, w1, A2, c2, w2, hr1, hr2, hrow, hk⟩ := clone_push (c := c) 5 HR.out.2.1 HR.out.1 (by omega)
        obtain ⟨A3, c3, w3, A4, c4, w4, hr3, hr4, hrow2, hk2⟩ := clone_push (c := c) 6 (VRow.kept HR.out.2.1 hk) HR.out.1 (by omega)
        have H1 := Lib.hid hr1
        have H2 := Lib.hid hr2
        have H3 := Lib.hid hr3
        have H4 := Lib.hid hr4
        have HA := Lib.hid (And.intro hrow (And.intro hrow2 (And.intro hV5 (And.intro hV6 (And.intro (show (X ++ [5]).length = n + 1 by rw [List.length_append, HR.out.1]; rfl) (show (X ++ [6]).length = n + 1 by rw [List.length_append, HR.out.1]; rfl))))))
        have HB := Lib.hid (Below.and_kept (Below.and_kept HR.out.2.2 hk) hk2)
        clear h0 hV h48 hlt hne hV5 hV6 hr1 hr2 hr3 hr4 hrow hrow2 hk hk2
        go_wp2_with fail
        refine (saveSum_val HV.out HR.out.1 HR.out.2.1 hn).mono ?_
        rintro e w' ⟨rfl, rfl⟩
        go_wp2_with fail
        refine (specSum_val HV.out HR.out.1 HR.out.2.1 hn).mono ?_
        rintro e w' ⟨rfl, rfl⟩
        go_wp2_with (first | (at_builtin; refine wpList_append_run _ rfl (.tmp 37) (.tmp 38) _ _ rfl _ _ rfl rfl H1.out ?_) | (at_builtin; refine wpList_append_run _ rfl (.tmp 39) (.tmp 40) _ _ rfl _ _ rfl rfl H2.out ?_) | fail)
        refine (saveSum_val HA.out.2.2.1 HA.out.2.2.2.2.1 HA.out.1 (by omega)).mono ?_
        rintro e w' ⟨rfl, rfl⟩
        go_wp2_with (first | (at_builtin; refine wpList_append_run _ rfl (.tmp 44) (.tmp 45) _ _ rfl _ _ rfl rfl H3.out ?_) | (at_builtin; refine wpList_append_run _ rfl (.tmp 46) (.tmp 47) _ _ rfl _ _ rfl rfl H4.out ?_) | fail)
        refine (saveSum_val HA.out.2.2.2.1 HA.out.2.2.2.2.2 HA.out.2.1 (by omega)).mono ?_
        rintro e w' ⟨rfl, rfl⟩
        go_wp2
        go_ret
        exact ⟨rfl, HB.out⟩

/-! ### THE ROW's STEP: WRITTEN OUT: LEAVE IT -/
set_option maxRecDepth 100000 in
theorem lifted (os : Os) (started : os.Started) (H : Type) (enc : TypeId × Value → H) :
    ReturnsInHanded {} Try.checked os 3 .any (Rows.fnSaveSumSpec.pre6 enc Try.prog Try.f3 Rows.fnSaveSumRow.domain false) (Rows.fnSaveSumSpec.post enc Try.prog Try.f3 false true false false) := by
  refine returnsInHanded_of_change (C := Try.checked) own started (by kernel_rfl) Try.func3
    (ChangeSpec.witness6 (enc := enc) (C := Try.checked) false ⟨#[], #[.slice none 0 0], []⟩ 8 (by kernel_rfl) (by kernel_rfl) (by kernel_rfl) (by kernel_rfl)) ?_
  intro W base args ds gs before hval0 hW hcnd _
  have hval : ∀ (j : Nat) t v, Try.f3.params[j]? = some t → args[j]? = some v → Value.okWide Try.prog W .any base t v := hval0
  have hW' := hW
  obtain ⟨p, q, hA0, hV, rfl, hfz, hnd⟩ := hW
  have hA : DataW.TrodAll enc Try.prog W 0 (fun _ => true) true Try.f3.params.toList args.toList ds p := hA0
  rw [Try.params3] at hA hval
  obtain ⟨v0, vs0, d0, ds0, p0, q0, hargs, rfl, rfl, h0, r0⟩ := trodAll_cons hA
  obtain ⟨rfl, rfl, rfl⟩ := trodAll_nil r0
  obtain rfl : args = #[v0] := by cases args; simp_all
  obtain ⟨rfl, rfl⟩ := trodVars_none hV
  obtain ⟨a0, len0, cap0, rfl⟩ := okWide_slice Try.underlying22 (hval 0 22 v0 rfl rfl)
  have k0 := h0
  have lt0 : ∀ x ∈ p0, x.block < W.heap.size := by obtain ⟨m, hm⟩ := k0; exact DataW.trod_lt m _ _ _ hm
  obtain ⟨z0, w0⟩ : ∃ zs, IsRow .u8 W a0 len0 cap0 zs := by
    obtain ⟨fuel, hf⟩ := h0
    rcases open_ints Try.underlying22 Try.underlying5 (by kernel_rfl) hf with ⟨hcs, _⟩ | ⟨x, l, c, zs, hcs, _, hl, hm, hz, _, hcell, hwz⟩
    · simp [Value.cells] at hcs
      obtain ⟨rfl, rfl, rfl⟩ := hcs
      exact ⟨[], .inl ⟨rfl, rfl, rfl, rfl⟩⟩
    · simp [Value.cells] at hcs
      obtain ⟨rfl, rfl, rfl⟩ := hcs
      exact ⟨zs, .inr ⟨_, rfl, hl, hm, by simpa using hz, hcell, hwz⟩⟩
  clear hA0 hval0
  refine (walk a0 len0 cap0 z0 W w0).mono fun e W' ⟨he, bel⟩ => ?_
  subst he
  exact ⟨_, rfl, _, _, _, [], _, [], hW', trodAll_mk1 (shut_bool Try.underlying4 _), (trodAll_cons_mk (Below.trod laidOut (by kernel_rfl) (of_decide_eq_true (by kernel_rfl)) k0 bel lt0) trodAll_mk0), rfl, bel.frame _, fun h => by cases h⟩

theorem over : Rows.fnSaveSumRow.holds Try.pinned (OpenSpec.ofChange Rows.fnSaveSumSpec) :=
  OpenClaim.holds_of_wide 3 Try.f3 rfl rfl rfl rfl rfl rfl rfl ⟨rfl, rfl, rfl, rfl, rfl⟩ rfl rfl rfl rfl rfl (by kernel_rfl) Try.func3 (by kernel_rfl)
    (of_decide_eq_true (by kernel_rfl)) (by unfold Func.isWrapper; first | (rw [if_pos (by decide +kernel)]; kernel_rfl) | (rw [if_neg (by decide +kernel)]; exact ⟨rfl, rfl⟩))
    (fun os started H enc _ => lifted os started H enc)

/-- ████ THE STATEMENT ████ -/
theorem proved : Rows.FnSaveSumSaid := over
#print axioms proved
end Go.Proofs.Ytlldmbocaloogaa.fnSaveSum
