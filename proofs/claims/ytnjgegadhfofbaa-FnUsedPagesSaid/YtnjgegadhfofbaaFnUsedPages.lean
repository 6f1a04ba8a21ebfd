/- For every code, UsedPages answers of the drawn table as its model: the pages ascend, each page that TableGet tells is among them, and there are as many as files and places with a page: proved.
   Conditions: none beyond the row's own reading of the input. The frame was written by the guide's proof-skeleton; the walk is ours. -/
import Derived.Test.YtnjgegadhfofbaaCountFacts
import Derived.Test.YtnjgegadhfofbaaRows
import Derived.WalkKit
import Derived.ProofKit
import Derived.OpenShut
import Derived.ShutString
import Derived.ChangeOld
import Derived.Below
namespace Go.Proofs.Ytnjgegadhfofbaa.fnUsedPages
open Go.ChangeShapes Go.WideShapes Go.ChangeAt Go.RowKit
open Go.ChangeMaps (open_string shut_string)
set_option linter.unusedVariables false

theorem own : ownKnob Try.prog.godebug = none := by kernel_rfl
theorem laidOut : laidOutB Try.prog = true := by kernel_rfl

/-- WHAT THE WALK IS TOLD OF A SLICE OF INTEGERS THAT CAME IN: it is nil; or it leads to a row of 'cap' cells, the numbers 'zs' (the first 'len' are its elements, the rest its spare room), each fitting its kind. -/
def IsRow (k : IntKind) (w : World) (a : Option Addr) (len cap : Nat) (zs : List Int) : Prop :=
  (a = none ∧ len = 0 ∧ cap = 0 ∧ zs = []) ∨
  ∃ x, a = some x ∧ len ≤ cap ∧ cap ≤ maxLen ∧ zs.length = cap ∧ (∀ i, i < zs.length → w.cell? (x.add i) = some (.int k (zs.getD i 0))) ∧ ∀ n ∈ zs, (Lit.int k n).wf = true

/-! ### STEP 1: THE WALK: the Go text returns true, AND WRITES NOTHING THAT WAS THERE: 'Below w.heap.size w w'' (Derived/Below.lean: '.refl', '.alloc', '.drew', '.setCell' at a new block, '.trans'). Open each 'IsRow' by 'rcases' AHEAD of 'go_enter'; part every test ahead of the walk. -/
set_option maxHeartbeats 2000000 in
set_option maxRecDepth 100000 in
theorem walk (a0 : Option Addr) (len0 cap0 : Nat) (z0 : List Int) (w : World) (w0 : IsRow .u8 w a0 len0 cap0 z0) :
    Calls Try.prog 3 #[.slice a0 len0 cap0] w fun e w' => e = .returned (.bool true) ∧ Below w.heap.size w w' := by
  obtain ⟨hl, hc, hb⟩ := bytes_of w0
  by_cases hbig : 1048576 < len0
  · go_enter Try.func3, Try.ntmps3
    go_wp2
    go_ret
    exact ⟨rfl, Below.refl _ _⟩
  · go_enter Try.func3, Try.ntmps3
    go_wp2_with fail
    refine (drawUsed_any w a0 len0 cap0 hl hc hb).mono ?_
    rintro e wa ⟨A, n, c, ls, rfl, hln, h8, h6, hlt⟩
    have HS := Lib.hid (LV.start hlt n c)
    have HL := Lib.hid (And.intro hln (fun (l : Li) (hq : l ∈ ls) => show l.xs.length ≤ 1048576 by have := h6 l hq; omega))
    have hn : n ≤ 1048576 := by omega
    clear hb w0 hlt hln h6
    obtain ⟨X, hX⟩ : ∃ X, usedV (ll ls) = X := ⟨_, rfl⟩
    obtain ⟨n1, hn1'⟩ : ∃ n1, X.length = n1 := ⟨_, rfl⟩
    have hn48 : n1 ≤ 48 := by rw [← hn1', ← hX]; exact used_small _
    have hn1 : n1 ≤ 1048576 := by omega
    obtain ⟨M, hM0, hM48, hMle, hM⟩ := used_facts hX
    rw [hn1'] at hM48
    have HV := Lib.hid (And.intro hX hn1')
    have HM := Lib.hid (And.intro hM0 (And.intro hM48 (And.intro hMle hM)))
    clear hX hn1' hM0 hM48 hMle hM
    have bHS := HS.out.cell
    go_wp2_with fail
    refine (usedPages_val HV.out.1 HV.out.2 HL.out.1 HS.out.2.1 hn HL.out.2).mono ?_
    rintro e w1 ⟨AP, cP, rfl, hlP, ho, hk⟩
    have HP := Lib.hid (And.intro hlP (VOwn.row ho))
    replace HS := Lib.hid (HS.out.keep hk)
    clear hk ho hlP bHS
    have bHS := HS.out.cell
    go_wp2_with fail
    refine (specUsed_val HV.out.1 HV.out.2 HL.out.1 HS.out.2.1 hn HL.out.2).mono ?_
    rintro e w2 ⟨AQ, cQ, rfl, hlQ, ho, hk⟩
    have HQ := Lib.hid (And.intro hlQ (VOwn.row ho))
    replace HS := Lib.hid (HS.out.keep hk)
    replace HP := Lib.hid (And.intro HP.out.1 (IRow.keepN HP.out.2 hk))
    clear hk ho hlQ bHS
    have bHS := HS.out.cell
    go_wp2_with fail
    refine (sameInts_val (V := true) (decide_eq_true rfl) HP.out.1 HQ.out.1 HP.out.2 HQ.out.2 hn1 hn1).mono ?_
    rintro e w3 ⟨rfl, hk⟩
    replace HS := Lib.hid (HS.out.keep hk)
    replace HP := Lib.hid (And.intro HP.out.1 (IRow.keepN HP.out.2 hk))
    clear hk bHS
    have bHS := HS.out.cell
    clear HQ
    go_wp2
    go_loopw [5, 6] (fun s i wr => ∃ f : Nat, i = .int .i64 f ∧ f ≤ 8 ∧ s = .int .i64 (M (6 * f) : Nat) ∧ LV w wa.heap.size A n c ls wr ∧ IRow wr wr.heap.size AP X) (fun _ i _ => 8 - (intOf i).toNat)
    case atStart => exact ⟨0, rfl, Nat.zero_le _, by rw [HM.out.1]; rfl, HS.out, HP.out.2⟩
    case round =>
      rename World => wq
      obtain ⟨f, rfl, hf8, rfl, hS, hP⟩ := hrel
      clear bHS
      replace HS := Lib.hid hS
      replace HP := Lib.hid (And.intro HP.out.1 hP)
      clear hS hP
      have bHS := HS.out.cell
      by_cases hf : f < 8
      · have f7 : (f : Int) < 8 := by omega
        go_wp2
        go_loopw [5, 7] (fun s i wr => ∃ k : Nat, i = .int .i64 k ∧ k ≤ 6 ∧ s = .int .i64 (M (6 * f + k) : Nat) ∧ LV w wa.heap.size A n c ls wr ∧ IRow wr wr.heap.size AP X) (fun _ i _ => 6 - (intOf i).toNat)
        case atStart => exact ⟨0, rfl, Nat.zero_le _, rfl, HS.out, HP.out.2⟩
        case round =>
          rename World => wz
          obtain ⟨k, rfl, hk6, rfl, hS, hP⟩ := hrel
          clear bHS
          replace HS := Lib.hid hS
          replace HP := Lib.hid (And.intro HP.out.1 hP)
          clear hS hP
          have bHS := HS.out.cell
          have hm := HM.out.2.2.1 (6 * f + k)
          by_cases hk : k < 6
          · have k5 : (k : Int) ≤ 5 := by omega
            obtain ⟨y, hy⟩ : ∃ y, tgetV (ll ls) (f : Int) (k : Int) = y := ⟨_, rfl⟩
            have hc := HM.out.2.2.2 f k hf hk
            rw [hy] at hc
            have HY := Lib.hid hy
            clear hy
            go_wp2_with fail
            refine (get_v HY.out HL.out.1 HS.out.2.1 hn HL.out.2).mono ?_
            rintro e w5 ⟨rfl, hk⟩
            replace HS := Lib.hid (HS.out.keep hk)
            replace HP := Lib.hid (And.intro HP.out.1 (IRow.keepN HP.out.2 hk))
            clear hk bHS
            have bHS := HS.out.cell
            rcases hc with ⟨hy0, hme⟩ | ⟨hy0, hme, hin⟩
            · have y0 : decide (0 ≤ y) = false := decide_eq_false (by omega)
              have HE := Lib.hid hme
              clear hme
              generalize M (6 * f + k) = m at hm HE
              go_wp2
              go_roundw
              case rel => exact ⟨k + 1, by go_num, by omega, by rw [HE.out], HS.out, HP.out.2⟩
              case measure => simp [intOf]; omega
            · have y0 : decide (0 ≤ y) = true := decide_eq_true hy0
              have HE := Lib.hid (And.intro hme hin)
              clear hme hin
              generalize M (6 * f + k) = m at hm HE
              go_wp2_with fail
              refine (hasInt_val HE.out.2 HP.out.1 HP.out.2 hn1).mono ?_
              rintro e w6 ⟨rfl, hk⟩
              replace HS := Lib.hid (HS.out.keep hk)
              replace HP := Lib.hid (And.intro HP.out.1 (IRow.keepN HP.out.2 hk))
              clear hk bHS
              go_wp2
              go_roundw
              case rel => exact ⟨k + 1, by go_num, by omega, by rw [HE.out.1]; go_num, HS.out, HP.out.2⟩
              case measure => simp [intOf]; omega
          · obtain rfl : k = 6 := by omega
            go_wp2
            go_roundw
            case rel => exact ⟨f + 1, by go_num, by omega, rfl, HS.out, HP.out.2⟩
            case measure => simp [intOf]; omega
      · obtain rfl : f = 8 := by omega
        rw [show M (6 * 8) = n1 from HM.out.2.1]
        go_wp2
        go_loopw [9] (fun i wr => ∃ j : Nat, i = .int .i64 ((j : Int) + 1) ∧ j ≤ n1 - 1 ∧ LV w wa.heap.size A n c ls wr ∧ IRow wr wr.heap.size AP X) (fun i _ => n1 - (intOf i).toNat)
        case atStart => exact ⟨0, rfl, Nat.zero_le _, HS.out, HP.out.2⟩
        case round =>
          rename World => wv
          obtain ⟨j, rfl, hj, hS, hP⟩ := hrel
          clear bHS
          replace HS := Lib.hid hS
          replace HP := Lib.hid (And.intro HP.out.1 hP)
          clear hS hP
          have bHS := HS.out.cell
          by_cases hjn : j + 1 < n1
          · have j1 : (j : Int) + 1 < (n1 : Int) := by omega
            have j2 : (j : Int) < (n1 : Int) := by omega
            have j0 : (0 : Int) ≤ (j : Int) := by omega
            have j3 : (0 : Int) ≤ (j : Int) + 1 := by omega
            have j5 : IntKind.i64.wrap (j : Int) = (j : Int) := IntWalk.i64_in _ ⟨by omega, by omega⟩
            obtain ⟨gx, ox, rfl⟩ := HP.out.2.pos (by have := HP.out.1; omega)
            obtain ⟨x, hx⟩ : ∃ x, X[j]? = some x := ⟨_, List.getElem?_eq_getElem (by have := HP.out.1; omega)⟩
            obtain ⟨y, hy⟩ : ∃ y, X[j + 1]? = some y := ⟨_, List.getElem?_eq_getElem (by have := HP.out.1; omega)⟩
            have c0 := HP.out.2.cellf hx
            have c1 := HP.out.2.cellf hy
            have hxy := used_asc HV.out.1 hx hy
            have e1 : decide (y ≤ x) = false := decide_eq_false (by omega)
            clear hx hy hxy
            go_wp2_with fail
            go_quiet (fail)
            replace HS := Lib.hid (HS.out.keep (grown_drewN (grown_refl _ none) nq))
            replace HP := Lib.hid (And.intro HP.out.1 (IRow.keepN HP.out.2 (grown_drewN (grown_refl _ none) nq)))
            clear c0 c1 bHS
            generalize wv.drewN nq = wu at HS HP
            go_wp2
            go_roundw
            case rel => exact ⟨j + 1, by go_num, by omega, HS.out, HP.out.2⟩
            case measure => simp [intOf]; omega
          · have j1 : decide ((j : Int) + 1 < (n1 : Int)) = false := decide_eq_false (by omega)
            have e1 : ((n1 : Int) == (n1 : Int)) = true := by simp
            go_wp2_with (go_at_call 15; refine (alive_any _).mono ?_; rintro e w' ⟨rfl, rfl⟩)
            go_ret
            exact ⟨rfl, HS.out.2.2⟩

/-! ### THE ROW's STEP: WRITTEN OUT: LEAVE IT -/
set_option maxRecDepth 100000 in
theorem lifted (os : Os) (started : os.Started) (H : Type) (enc : TypeId × Value → H) :
    ReturnsInHanded {} Try.checked os 3 .any (Rows.fnUsedPagesSpec.pre6 enc Try.prog Try.f3 Rows.fnUsedPagesRow.domain false) (Rows.fnUsedPagesSpec.post enc Try.prog Try.f3 false true false false) := by
  refine returnsInHanded_of_change (C := Try.checked) own started (by kernel_rfl) Try.func3
    (ChangeSpec.witness6 (enc := enc) (C := Try.checked) false ⟨#[], #[.slice none 0 0], []⟩ 8 (by kernel_rfl) (by kernel_rfl) (by kernel_rfl) (by kernel_rfl)) ?_
  intro W base args ds gs before hval0 hW hcnd _
  have hval : ∀ (j : Nat) t v, Try.f3.params[j]? = some t → args[j]? = some v → Value.okWide Try.prog W .any base t v := hval0
  have hW' := hW
  obtain ⟨p, q, hA0, hV, rfl, hfz, hnd⟩ := hW
  have hA : DataW.TrodAll enc Try.prog W 0 (fun _ => true) true Try.f3.params.toList args.toList ds p := hA0
  rw [Try.params3] at hA hval
  obtain ⟨v0, vs0, d0, ds0, p0, q0, hargs, rfl, rfl, h0, r0⟩ := trodAll_cons hA
  obtain ⟨rfl, rfl, rfl⟩ := trodAll_nil r0
  obtain rfl : args = #[v0] := by cases args; simp_all
  obtain ⟨rfl, rfl⟩ := trodVars_none hV
  obtain ⟨a0, len0, cap0, rfl⟩ := okWide_slice Try.underlying22 (hval 0 22 v0 rfl rfl)
  have k0 := h0
  have lt0 : ∀ x ∈ p0, x.block < W.heap.size := by obtain ⟨m, hm⟩ := k0; exact DataW.trod_lt m _ _ _ hm
  obtain ⟨z0, w0⟩ : ∃ zs, IsRow .u8 W a0 len0 cap0 zs := by
    obtain ⟨fuel, hf⟩ := h0
    rcases open_ints Try.underlying22 Try.underlying5 (by kernel_rfl) hf with ⟨hcs, _⟩ | ⟨x, l, c, zs, hcs, _, hl, hm, hz, _, hcell, hwz⟩
    · simp [Value.cells] at hcs
      obtain ⟨rfl, rfl, rfl⟩ := hcs
      exact ⟨[], .inl ⟨rfl, rfl, rfl, rfl⟩⟩
    · simp [Value.cells] at hcs
      obtain ⟨rfl, rfl, rfl⟩ := hcs
      exact ⟨zs, .inr ⟨_, rfl, hl, hm, by simpa using hz, hcell, hwz⟩⟩
  clear hA0 hval0
  refine (walk a0 len0 cap0 z0 W w0).mono fun e W' ⟨he, bel⟩ => ?_
  subst he
  exact ⟨_, rfl, _, _, _, [], _, [], hW', trodAll_mk1 (shut_bool Try.underlying4 _), (trodAll_cons_mk (Below.trod laidOut (by kernel_rfl) (of_decide_eq_true (by kernel_rfl)) k0 bel lt0) trodAll_mk0), rfl, bel.frame _, fun h => by cases h⟩

theorem over : Rows.fnUsedPagesRow.holds Try.pinned (OpenSpec.ofChange Rows.fnUsedPagesSpec) :=
  OpenClaim.holds_of_wide 3 Try.f3 rfl rfl rfl rfl rfl rfl rfl ⟨rfl, rfl, rfl, rfl, rfl⟩ rfl rfl rfl rfl rfl (by kernel_rfl) Try.func3 (by kernel_rfl)
    (of_decide_eq_true (by kernel_rfl)) (by unfold Func.isWrapper; first | (rw [if_pos (by decide +kernel)]; kernel_rfl) | (rw [if_neg (by decide +kernel)]; exact ⟨rfl, rfl⟩))
    (fun os started H enc _ => lifted os started H enc)

/-- ████ THE STATEMENT ████ -/
theorem proved : Rows.FnUsedPagesSaid := over
#print axioms proved
end Go.Proofs.Ytnjgegadhfofbaa.fnUsedPages
