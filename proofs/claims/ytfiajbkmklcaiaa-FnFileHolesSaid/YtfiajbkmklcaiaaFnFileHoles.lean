/- For every code, FileHoles answers of the drawn table and file as its model, and tells exactly the places below the size without a page: proved.
   Conditions: none beyond the row's own reading of the input. The frame was written by the guide's proof-skeleton; the walk is ours. -/
import Derived.Test.YtfiajbkmklcaiaaFileFacts
import Derived.Test.YtfiajbkmklcaiaaRows
import Derived.WalkKit
import Derived.ProofKit
import Derived.OpenShut
import Derived.ShutString
import Derived.ChangeOld
import Derived.Below
namespace Go.Proofs.Ytfiajbkmklcaiaa.fnFileHoles
open Go.ChangeShapes Go.WideShapes Go.ChangeAt Go.RowKit
open Go.ChangeMaps (open_string shut_string)
set_option linter.unusedVariables false

theorem own : ownKnob Try.prog.godebug = none := by kernel_rfl
theorem laidOut : laidOutB Try.prog = true := by kernel_rfl

/-- WHAT THE WALK IS TOLD OF A SLICE OF INTEGERS THAT CAME IN: it is nil; or it leads to a row of 'cap' cells, the numbers 'zs' (the first 'len' are its elements, the rest its spare room), each fitting its kind. -/
def IsRow (k : IntKind) (w : World) (a : Option Addr) (len cap : Nat) (zs : List Int) : Prop :=
  (a = none ∧ len = 0 ∧ cap = 0 ∧ zs = []) ∨
  ∃ x, a = some x ∧ len ≤ cap ∧ cap ≤ maxLen ∧ zs.length = cap ∧ (∀ i, i < zs.length → w.cell? (x.add i) = some (.int k (zs.getD i 0))) ∧ ∀ n ∈ zs, (Lit.int k n).wf = true

/-! ### STEP 1: THE WALK: the Go text returns true, AND WRITES NOTHING THAT WAS THERE: 'Below w.heap.size w w'' (Derived/Below.lean: '.refl', '.alloc', '.drew', '.setCell' at a new block, '.trans'). Open each 'IsRow' by 'rcases' AHEAD of 'go_enter'; part every test ahead of the walk. -/
set_option maxHeartbeats 2000000 in
set_option maxRecDepth 100000 in
theorem walk (a0 : Option Addr) (len0 cap0 : Nat) (z0 : List Int) (w : World) (w0 : IsRow .u8 w a0 len0 cap0 z0) :
    Calls Try.prog 6 #[.slice a0 len0 cap0] w fun e w' => e = .returned (.bool true) ∧ Below w.heap.size w w' := by
  obtain ⟨hl, hc, hb⟩ := bytes_of w0
  by_cases hbig : 1048576 < len0
  · go_enter Try.func6, Try.ntmps6
    go_wp2
    go_ret
    exact ⟨rfl, Below.refl _ _⟩
  · go_enter Try.func6, Try.ntmps6
    go_wp2_with fail
    refine (drawFileHoles_any w a0 len0 cap0 hl hc hb).mono ?_
    rintro e wa ⟨A, n, c, ls, f, rfl, hln, h8, h6, _, hlt⟩
    have HS := Lib.hid (LV.start hlt n c)
    have HL := Lib.hid (And.intro hln (fun (l : Li) (hq : l ∈ ls) => show l.xs.length ≤ 1048576 by have := h6 l hq; omega))
    have hn : n ≤ 1048576 := by omega
    clear hb w0 hlt hln h6
    obtain ⟨X, hX⟩ : ∃ X, holesV (ll ls) f = X := ⟨_, rfl⟩
    obtain ⟨V, hV⟩ : ∃ V, fsizeV (ll ls) f = V := ⟨_, rfl⟩
    have HV := Lib.hid (And.intro hX hV)
    have hcase := holes_cases hV hX
    have hX6 : X.length ≤ 1048576 := by rcases hcase with ⟨_, rfl⟩ | ⟨z, _, hz, hl, _⟩; simp; omega
    go_wp2_with fail
    refine (holes_v HV.out.1 HL.out.1 HS.out.2.1 hn HL.out.2).mono ?_
    rintro e w1 ⟨AP, nP, cP, rfl, hlP, ho, hk⟩
    have HP := Lib.hid (And.intro hlP (VOwn.row ho))
    replace HS := Lib.hid (HS.out.keep hk)
    clear hk ho hlP
    have bHS := HS.out.cell
    go_wp2_with fail
    refine (specHoles_v HV.out.1 HL.out.1 HS.out.2.1 hn HL.out.2).mono ?_
    rintro e w2 ⟨AQ, nQ, cQ, rfl, hlQ, ho, hk⟩
    have HQ := Lib.hid (And.intro hlQ (VOwn.row ho))
    replace HS := Lib.hid (HS.out.keep hk)
    replace HP := Lib.hid (And.intro HP.out.1 (IRow.keepN HP.out.2 hk))
    clear hk ho hlQ bHS
    have bHS := HS.out.cell
    have nP6 : nP ≤ 1048576 := by have := HP.out.1; omega
    have nQ6 : nQ ≤ 1048576 := by have := HQ.out.1; omega
    go_wp2_with fail
    refine (sameInts_val (V := true) (decide_eq_true rfl) HP.out.1 HQ.out.1 HP.out.2 HQ.out.2 nP6 nQ6).mono ?_
    rintro e w3 ⟨rfl, hk⟩
    replace HS := Lib.hid (HS.out.keep hk)
    replace HP := Lib.hid (And.intro HP.out.1 (IRow.keepN HP.out.2 hk))
    clear hk bHS
    have bHS := HS.out.cell
    rcases hcase with ⟨rfl, rfl⟩ | ⟨z, rfl, hz6, hlen, hmem⟩
    · clear hV hX
      go_wp2
      go_loopw [6] (fun i wr => ∃ k : Nat, i = .int .i64 k ∧ k ≤ 0 ∧ LV w wa.heap.size A n c ls wr ∧ IRow wr wr.heap.size AP []) (fun i _ => 0 - (intOf i).toNat)
      case atStart => exact ⟨0, rfl, Nat.zero_le _, HS.out, HP.out.2⟩
      case round =>
        rename World => wq
        obtain ⟨k, rfl, hkz, hS, hP⟩ := hrel
        clear bHS
        replace HS := Lib.hid hS
        replace HP := Lib.hid (And.intro HP.out.1 hP)
        clear hS hP
        have bHS := HS.out.cell
        obtain rfl : k = 0 := by omega
        have nP0 : nP = 0 := HP.out.1.symm
        subst nP0
        go_wp2_with fail
        refine (fileSize_val HV.out.2 HL.out.1 HS.out.2.1 hn HL.out.2).mono ?_
        rintro e w4 ⟨rfl, hk⟩
        replace HS := Lib.hid (HS.out.keep hk)
        clear hk bHS
        have bHS := HS.out.cell
        go_wp2_with fail
        refine (fileSize_val HV.out.2 HL.out.1 HS.out.2.1 hn HL.out.2).mono ?_
        rintro e w5 ⟨rfl, hk⟩
        replace HS := Lib.hid (HS.out.keep hk)
        clear hk bHS
        have bHS := HS.out.cell
        go_wp2_with (go_at_call 17; refine (alive_any _).mono ?_; rintro e w' ⟨rfl, rfl⟩)
        go_ret
        exact ⟨rfl, HS.out.2.2⟩
    · have HM := Lib.hid hmem
      clear hV hX hmem
      go_wp2
      go_loopw [6] (fun i wr => ∃ k : Nat, i = .int .i64 k ∧ k ≤ z ∧ LV w wa.heap.size A n c ls wr ∧ IRow wr wr.heap.size AP X) (fun i _ => z - (intOf i).toNat)
      case atStart => exact ⟨0, rfl, Nat.zero_le _, HS.out, HP.out.2⟩
      case round =>
        rename World => wq
        obtain ⟨k, rfl, hkz, hS, hP⟩ := hrel
        clear bHS
        replace HS := Lib.hid hS
        replace HP := Lib.hid (And.intro HP.out.1 hP)
        clear hS hP
        have bHS := HS.out.cell
        by_cases hk : k < z
        · have k1 : (k : Int) < (z : Int) := by omega
          go_wp2_with fail
          refine (fileSize_val HV.out.2 HL.out.1 HS.out.2.1 hn HL.out.2).mono ?_
          rintro e w4 ⟨rfl, hq⟩
          replace HS := Lib.hid (HS.out.keep hq)
          replace HP := Lib.hid (And.intro HP.out.1 (IRow.keepN HP.out.2 hq))
          clear hq bHS
          have bHS := HS.out.cell
          obtain ⟨y, hy⟩ : ∃ y, tgetV (ll ls) f k = y := ⟨_, rfl⟩
          obtain ⟨q, hq⟩ : ∃ q, X.contains (k : Int) = q := ⟨_, rfl⟩
          have yq : decide (y < 0) = q := by rw [← hy, ← hq]; exact HM.out k hk
          have qq : (q != q) = false := by simp
          have HY := Lib.hid (And.intro hy hq)
          clear hy hq
          go_wp2_with fail
          refine (get_v HY.out.1 HL.out.1 HS.out.2.1 hn HL.out.2).mono ?_
          rintro e w5 ⟨rfl, hq⟩
          replace HS := Lib.hid (HS.out.keep hq)
          replace HP := Lib.hid (And.intro HP.out.1 (IRow.keepN HP.out.2 hq))
          clear hq bHS
          have bHS := HS.out.cell
          go_wp2_with fail
          refine (hasInt_val HY.out.2 HP.out.1 HP.out.2 nP6).mono ?_
          rintro e w6 ⟨rfl, hq⟩
          replace HS := Lib.hid (HS.out.keep hq)
          replace HP := Lib.hid (And.intro HP.out.1 (IRow.keepN HP.out.2 hq))
          clear hq bHS
          go_wp2
          go_roundw
          case rel => exact ⟨k + 1, by go_num, by omega, HS.out, HP.out.2⟩
          case measure => simp [intOf]; omega
        · obtain rfl : k = z := by omega
          have nPk : nP ≤ k - 1 := by have := HP.out.1; omega
          go_wp2_with fail
          refine (fileSize_val HV.out.2 HL.out.1 HS.out.2.1 hn HL.out.2).mono ?_
          rintro e w4 ⟨rfl, hq⟩
          replace HS := Lib.hid (HS.out.keep hq)
          clear hq bHS
          have bHS := HS.out.cell
          go_wp2_with fail
          refine (fileSize_val HV.out.2 HL.out.1 HS.out.2.1 hn HL.out.2).mono ?_
          rintro e w5 ⟨rfl, hq⟩
          replace HS := Lib.hid (HS.out.keep hq)
          clear hq bHS
          have bHS := HS.out.cell
          go_wp2_with (go_at_call 17; refine (alive_any _).mono ?_; rintro e w' ⟨rfl, rfl⟩)
          all_goals (go_ret; exact ⟨rfl, HS.out.2.2⟩)

/-! ### THE ROW's STEP: WRITTEN OUT: LEAVE IT -/
set_option maxRecDepth 100000 in
theorem lifted (os : Os) (started : os.Started) (H : Type) (enc : TypeId × Value → H) :
    ReturnsInHanded {} Try.checked os 6 .any (Rows.fnFileHolesSpec.pre6 enc Try.prog Try.f6 Rows.fnFileHolesRow.domain false) (Rows.fnFileHolesSpec.post enc Try.prog Try.f6 false true false false) := by
  refine returnsInHanded_of_change (C := Try.checked) own started (by kernel_rfl) Try.func6
    (ChangeSpec.witness6 (enc := enc) (C := Try.checked) false ⟨#[], #[.slice none 0 0], []⟩ 8 (by kernel_rfl) (by kernel_rfl) (by kernel_rfl) (by kernel_rfl)) ?_
  intro W base args ds gs before hval0 hW hcnd _
  have hval : ∀ (j : Nat) t v, Try.f6.params[j]? = some t → args[j]? = some v → Value.okWide Try.prog W .any base t v := hval0
  have hW' := hW
  obtain ⟨p, q, hA0, hV, rfl, hfz, hnd⟩ := hW
  have hA : DataW.TrodAll enc Try.prog W 0 (fun _ => true) true Try.f6.params.toList args.toList ds p := hA0
  rw [Try.params6] at hA hval
  obtain ⟨v0, vs0, d0, ds0, p0, q0, hargs, rfl, rfl, h0, r0⟩ := trodAll_cons hA
  obtain ⟨rfl, rfl, rfl⟩ := trodAll_nil r0
  obtain rfl : args = #[v0] := by cases args; simp_all
  obtain ⟨rfl, rfl⟩ := trodVars_none hV
  obtain ⟨a0, len0, cap0, rfl⟩ := okWide_slice Try.underlying22 (hval 0 22 v0 rfl rfl)
  have k0 := h0
  have lt0 : ∀ x ∈ p0, x.block < W.heap.size := by obtain ⟨m, hm⟩ := k0; exact DataW.trod_lt m _ _ _ hm
  obtain ⟨z0, w0⟩ : ∃ zs, IsRow .u8 W a0 len0 cap0 zs := by
    obtain ⟨fuel, hf⟩ := h0
    rcases open_ints Try.underlying22 Try.underlying5 (by kernel_rfl) hf with ⟨hcs, _⟩ | ⟨x, l, c, zs, hcs, _, hl, hm, hz, _, hcell, hwz⟩
    · simp [Value.cells] at hcs
      obtain ⟨rfl, rfl, rfl⟩ := hcs
      exact ⟨[], .inl ⟨rfl, rfl, rfl, rfl⟩⟩
    · simp [Value.cells] at hcs
      obtain ⟨rfl, rfl, rfl⟩ := hcs
      exact ⟨zs, .inr ⟨_, rfl, hl, hm, by simpa using hz, hcell, hwz⟩⟩
  clear hA0 hval0
  refine (walk a0 len0 cap0 z0 W w0).mono fun e W' ⟨he, bel⟩ => ?_
  subst he
  exact ⟨_, rfl, _, _, _, [], _, [], hW', trodAll_mk1 (shut_bool Try.underlying4 _), (trodAll_cons_mk (Below.trod laidOut (by kernel_rfl) (of_decide_eq_true (by kernel_rfl)) k0 bel lt0) trodAll_mk0), rfl, bel.frame _, fun h => by cases h⟩

theorem over : Rows.fnFileHolesRow.holds Try.pinned (OpenSpec.ofChange Rows.fnFileHolesSpec) :=
  OpenClaim.holds_of_wide 6 Try.f6 rfl rfl rfl rfl rfl rfl rfl ⟨rfl, rfl, rfl, rfl, rfl⟩ rfl rfl rfl rfl rfl (by kernel_rfl) Try.func6 (by kernel_rfl)
    (of_decide_eq_true (by kernel_rfl)) (by unfold Func.isWrapper; first | (rw [if_pos (by decide +kernel)]; kernel_rfl) | (rw [if_neg (by decide +kernel)]; exact ⟨rfl, rfl⟩))
    (fun os started H enc _ => lifted os started H enc)

/-- ████ THE STATEMENT ████ -/
theorem proved : Rows.FnFileHolesSaid := over
#print axioms proved
end Go.Proofs.Ytfiajbkmklcaiaa.fnFileHoles
