/- For every code, TableGet answers of the drawn table, file and place as its model, and what the statement asks of it holds: proved.
   Conditions: none beyond the row's own reading of the input. The frame was written by the guide's proof-skeleton; the walk is ours. -/
import Derived.Test.YtpjajmiegopmlaaSameTabs
import Derived.Test.YtpjajmiegopmlaaRows
import Derived.WalkKit
import Derived.ProofKit
import Derived.OpenShut
import Derived.ShutString
import Derived.ChangeOld
import Derived.Below
namespace Go.Proofs.Ytpjajmiegopmlaa.fnTableGet
open Go.ChangeShapes Go.WideShapes Go.ChangeAt Go.RowKit
open Go.ChangeMaps (open_string shut_string)
set_option linter.unusedVariables false

theorem own : ownKnob Try.prog.godebug = none := by kernel_rfl
theorem laidOut : laidOutB Try.prog = true := by kernel_rfl

/-- WHAT THE WALK IS TOLD OF A SLICE OF INTEGERS THAT CAME IN: it is nil; or it leads to a row of 'cap' cells, the numbers 'zs' (the first 'len' are its elements, the rest its spare room), each fitting its kind. -/
def IsRow (k : IntKind) (w : World) (a : Option Addr) (len cap : Nat) (zs : List Int) : Prop :=
  (a = none ∧ len = 0 ∧ cap = 0 ∧ zs = []) ∨
  ∃ x, a = some x ∧ len ≤ cap ∧ cap ≤ maxLen ∧ zs.length = cap ∧ (∀ i, i < zs.length → w.cell? (x.add i) = some (.int k (zs.getD i 0))) ∧ ∀ n ∈ zs, (Lit.int k n).wf = true

/-! ### STEP 1: THE WALK: the Go text returns true, AND WRITES NOTHING THAT WAS THERE: 'Below w.heap.size w w'' (Derived/Below.lean: '.refl', '.alloc', '.drew', '.setCell' at a new block, '.trans'). Open each 'IsRow' by 'rcases' AHEAD of 'go_enter'; part every test ahead of the walk. -/
set_option maxHeartbeats 2000000 in
set_option maxRecDepth 100000 in
theorem walk (a0 : Option Addr) (len0 cap0 : Nat) (z0 : List Int) (w : World) (w0 : IsRow .u8 w a0 len0 cap0 z0) :
    Calls Try.prog 6 #[.slice a0 len0 cap0] w fun e w' => e = .returned (.bool true) ∧ Below w.heap.size w w' := by
  obtain ⟨hl, hc, hb⟩ := bytes_of w0
  by_cases hbig : 1048576 < len0
  · go_enter Try.func6, Try.ntmps6
    go_wp2
    go_ret
    exact ⟨rfl, Below.refl _ _⟩
  · go_enter Try.func6, Try.ntmps6
    go_wp2_with fail
    refine (drawTableGet_any w a0 len0 cap0 hl hc hb).mono ?_
    rintro e wa ⟨A, n, c, ls, f, k, rfl, hln, h8, h6, _, hlt⟩
    have HS := Lib.hid (LV.start hlt n c)
    have HL := Lib.hid (And.intro hln (fun (l : Li) (hq : l ∈ ls) => show l.xs.length ≤ 1048576 by have := h6 l hq; omega))
    have hn : n ≤ 1048576 := by omega
    clear hb w0 hlt hln h6
    obtain ⟨v, hv⟩ : ∃ v, tgetV (ll ls) f k = v := ⟨_, rfl⟩
    have HV := Lib.hid hv
    have tvv : (v != v) = false := by simp
    go_wp2_with fail
    refine (get_v HV.out HL.out.1 HS.out.2.1 hn HL.out.2).mono ?_
    rintro e w1 ⟨rfl, hk⟩
    replace HS := Lib.hid (HS.out.keep hk)
    clear hk
    have b := HS.out.cell
    go_wp2_with fail
    refine (specGet_v HV.out HL.out.1 HS.out.2.1 hn HL.out.2).mono ?_
    rintro e w2 ⟨rfl, hk⟩
    replace HS := Lib.hid (HS.out.keep hk)
    clear hk b
    have b := HS.out.cell
    go_wp2_with fail
    cases ht : tabB (ll ls)
    · have HT := Lib.hid ht
      refine (tabValid_val HT.out HL.out.1 HS.out.2.1 hn HL.out.2).mono ?_
      rintro e w3 ⟨rfl, hk⟩
      replace HS := Lib.hid (HS.out.keep hk)
      clear hk b
      have b := HS.out.cell
      have em : v = -1 := hv.symm.trans (tget_no (arg1 ht))
      subst em
      have e1 : ((-1 : Int) == -1) = true := rfl
      clear ht hv
      go_wp2_with (go_at_call 19; refine (alive_any _).mono ?_; rintro e w' ⟨rfl, rfl⟩)
      go_ret
      exact ⟨rfl, HS.out.2.2⟩
    · have HT := Lib.hid ht
      refine (tabValid_val HT.out HL.out.1 HS.out.2.1 hn HL.out.2).mono ?_
      rintro e w3 ⟨rfl, hk⟩
      replace HS := Lib.hid (HS.out.keep hk)
      clear hk b
      have b := HS.out.cell
      by_cases h1 : f < 0
      · have em : v = -1 := hv.symm.trans (tget_no (arg2 (by cases h : inB f 0 7; rfl; have := inB_iff.1 h; omega)))
        subst em
        have e1 : ((-1 : Int) == -1) = true := rfl
        have t1 : decide (f < 0) = true := decide_eq_true h1
        clear ht hv
        go_wp2_with (go_at_call 19; refine (alive_any _).mono ?_; rintro e w' ⟨rfl, rfl⟩)
        go_ret
        exact ⟨rfl, HS.out.2.2⟩
      have t1 : decide (f < 0) = false := decide_eq_false h1
      by_cases h2 : 8 ≤ f
      · have em : v = -1 := hv.symm.trans (tget_no (arg2 (by cases h : inB f 0 7; rfl; have := inB_iff.1 h; omega)))
        subst em
        have e1 : ((-1 : Int) == -1) = true := rfl
        have t2 : decide (8 ≤ f) = true := decide_eq_true h2
        clear ht hv
        go_wp2_with (go_at_call 19; refine (alive_any _).mono ?_; rintro e w' ⟨rfl, rfl⟩)
        go_ret
        exact ⟨rfl, HS.out.2.2⟩
      have t2 : decide (8 ≤ f) = false := decide_eq_false h2
      by_cases h3 : k < 0
      · have em : v = -1 := hv.symm.trans (tget_no (arg3 (by cases h : inB k 0 5; rfl; have := inB_iff.1 h; omega)))
        subst em
        have e1 : ((-1 : Int) == -1) = true := rfl
        have t3 : decide (k < 0) = true := decide_eq_true h3
        clear ht hv
        go_wp2_with (go_at_call 19; refine (alive_any _).mono ?_; rintro e w' ⟨rfl, rfl⟩)
        go_ret
        exact ⟨rfl, HS.out.2.2⟩
      have t3 : decide (k < 0) = false := decide_eq_false h3
      by_cases h4 : 5 < k
      · have em : v = -1 := hv.symm.trans (tget_no (arg3 (by cases h : inB k 0 5; rfl; have := inB_iff.1 h; omega)))
        subst em
        have e1 : ((-1 : Int) == -1) = true := rfl
        have t4 : decide (5 < k) = true := decide_eq_true h4
        clear ht hv
        go_wp2_with (go_at_call 19; refine (alive_any _).mono ?_; rintro e w' ⟨rfl, rfl⟩)
        go_ret
        exact ⟨rfl, HS.out.2.2⟩
      have t4 : decide (5 < k) = false := decide_eq_false h4
      obtain ⟨fn, rfl⟩ := Int.eq_ofNat_of_zero_le (show 0 ≤ f by omega)
      obtain ⟨kn, rfl⟩ := Int.eq_ofNat_of_zero_le (show 0 ≤ k by omega)
      obtain ⟨e8, g, off, gx, ox, cl, xs, x, rfl, hll, h6, hx, hcx⟩ := HS.out.2.1.open_ HT.out (show fn < 8 by omega) (show kn < 6 by omega)
      have en : n = 8 := by have := HL.out.1; omega
      subst en
      have ev : v = x := hv.symm.trans (tget_at (arg_yes ht (inB_iff.2 ⟨by omega, by omega⟩) (inB_iff.2 ⟨by omega, by omega⟩)) hcx)
      subst ev
      have c0 := HS.out.2.1.cellf hll h6
      have c1 := (HS.out.2.1.inner hll).cellf hx
      have f0 : decide ((0 : Int) ≤ fn) = true := decide_eq_true (by omega)
      have f1 : (fn : Int) < 8 := by omega
      have k0 : decide ((0 : Int) ≤ kn) = true := decide_eq_true (by omega)
      have k1 : (kn : Int) < 6 := by omega
      have evv : (v == v) = true := by simp
      clear ht hv h1 h2 h3 h4 hll hx hcx h6
      go_wp2
      go_ret
      exact ⟨rfl, HS.out.2.2⟩

/-! ### THE ROW's STEP: WRITTEN OUT: LEAVE IT -/
set_option maxRecDepth 100000 in
theorem lifted (os : Os) (started : os.Started) (H : Type) (enc : TypeId × Value → H) :
    ReturnsInHanded {} Try.checked os 6 .any (Rows.fnTableGetSpec.pre6 enc Try.prog Try.f6 Rows.fnTableGetRow.domain false) (Rows.fnTableGetSpec.post enc Try.prog Try.f6 false true false false) := by
  refine returnsInHanded_of_change (C := Try.checked) own started (by kernel_rfl) Try.func6
    (ChangeSpec.witness6 (enc := enc) (C := Try.checked) false ⟨#[], #[.slice none 0 0], []⟩ 8 (by kernel_rfl) (by kernel_rfl) (by kernel_rfl) (by kernel_rfl)) ?_
  intro W base args ds gs before hval0 hW hcnd _
  have hval : ∀ (j : Nat) t v, Try.f6.params[j]? = some t → args[j]? = some v → Value.okWide Try.prog W .any base t v := hval0
  have hW' := hW
  obtain ⟨p, q, hA0, hV, rfl, hfz, hnd⟩ := hW
  have hA : DataW.TrodAll enc Try.prog W 0 (fun _ => true) true Try.f6.params.toList args.toList ds p := hA0
  rw [Try.params6] at hA hval
  obtain ⟨v0, vs0, d0, ds0, p0, q0, hargs, rfl, rfl, h0, r0⟩ := trodAll_cons hA
  obtain ⟨rfl, rfl, rfl⟩ := trodAll_nil r0
  obtain rfl : args = #[v0] := by cases args; simp_all
  obtain ⟨rfl, rfl⟩ := trodVars_none hV
  obtain ⟨a0, len0, cap0, rfl⟩ := okWide_slice Try.underlying22 (hval 0 22 v0 rfl rfl)
  have k0 := h0
  have lt0 : ∀ x ∈ p0, x.block < W.heap.size := by obtain ⟨m, hm⟩ := k0; exact DataW.trod_lt m _ _ _ hm
  obtain ⟨z0, w0⟩ : ∃ zs, IsRow .u8 W a0 len0 cap0 zs := by
    obtain ⟨fuel, hf⟩ := h0
    rcases open_ints Try.underlying22 Try.underlying5 (by kernel_rfl) hf with ⟨hcs, _⟩ | ⟨x, l, c, zs, hcs, _, hl, hm, hz, _, hcell, hwz⟩
    · simp [Value.cells] at hcs
      obtain ⟨rfl, rfl, rfl⟩ := hcs
      exact ⟨[], .inl ⟨rfl, rfl, rfl, rfl⟩⟩
    · simp [Value.cells] at hcs
      obtain ⟨rfl, rfl, rfl⟩ := hcs
      exact ⟨zs, .inr ⟨_, rfl, hl, hm, by simpa using hz, hcell, hwz⟩⟩
  clear hA0 hval0
  refine (walk a0 len0 cap0 z0 W w0).mono fun e W' ⟨he, bel⟩ => ?_
  subst he
  exact ⟨_, rfl, _, _, _, [], _, [], hW', trodAll_mk1 (shut_bool Try.underlying4 _), (trodAll_cons_mk (Below.trod laidOut (by kernel_rfl) (of_decide_eq_true (by kernel_rfl)) k0 bel lt0) trodAll_mk0), rfl, bel.frame _, fun h => by cases h⟩

theorem over : Rows.fnTableGetRow.holds Try.pinned (OpenSpec.ofChange Rows.fnTableGetSpec) :=
  OpenClaim.holds_of_wide 6 Try.f6 rfl rfl rfl rfl rfl rfl rfl ⟨rfl, rfl, rfl, rfl, rfl⟩ rfl rfl rfl rfl rfl (by kernel_rfl) Try.func6 (by kernel_rfl)
    (of_decide_eq_true (by kernel_rfl)) (by unfold Func.isWrapper; first | (rw [if_pos (by decide +kernel)]; kernel_rfl) | (rw [if_neg (by decide +kernel)]; exact ⟨rfl, rfl⟩))
    (fun os started H enc _ => lifted os started H enc)

/-- ████ THE STATEMENT ████ -/
theorem proved : Rows.FnTableGetSaid := over
#print axioms proved
end Go.Proofs.Ytpjajmiegopmlaa.fnTableGet
