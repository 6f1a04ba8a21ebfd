/- For every code, EraseBlock answers of the drawn block as its model: not erased, or valid with no page written and Wear greater by one: proved.
   Conditions: none beyond the row's own reading of the input. The frame was written by the guide's proof-skeleton; the walk is ours. -/
import Derived.Test.YtcmnnleebjlaeaaLawBlocks
import Derived.Test.YtcmnnleebjlaeaaRows
import Derived.WalkKit
import Derived.ProofKit
import Derived.OpenShut
import Derived.ShutString
import Derived.ChangeOld
import Derived.Below
namespace Go.Proofs.Ytcmnnleebjlaeaa.fnEraseBlock
open Go.ChangeShapes Go.WideShapes Go.ChangeAt Go.RowKit
open Go.ChangeMaps (open_string shut_string)
set_option linter.unusedVariables false

theorem own : ownKnob Try.prog.godebug = none := by kernel_rfl
theorem laidOut : laidOutB Try.prog = true := by kernel_rfl

/-- WHAT THE WALK IS TOLD OF A SLICE OF INTEGERS THAT CAME IN: it is nil; or it leads to a row of 'cap' cells, the numbers 'zs' (the first 'len' are its elements, the rest its spare room), each fitting its kind. -/
def IsRow (k : IntKind) (w : World) (a : Option Addr) (len cap : Nat) (zs : List Int) : Prop :=
  (a = none ∧ len = 0 ∧ cap = 0 ∧ zs = []) ∨
  ∃ x, a = some x ∧ len ≤ cap ∧ cap ≤ maxLen ∧ zs.length = cap ∧ (∀ i, i < zs.length → w.cell? (x.add i) = some (.int k (zs.getD i 0))) ∧ ∀ n ∈ zs, (Lit.int k n).wf = true

/-! ### STEP 1: THE WALK: the Go text returns true, AND WRITES NOTHING THAT WAS THERE: 'Below w.heap.size w w'' (Derived/Below.lean: '.refl', '.alloc', '.drew', '.setCell' at a new block, '.trans'). Open each 'IsRow' by 'rcases' AHEAD of 'go_enter'; part every test ahead of the walk. -/
set_option maxHeartbeats 1000000 in
theorem walk (a0 : Option Addr) (len0 cap0 : Nat) (z0 : List Int) (w : World) (w0 : IsRow .u8 w a0 len0 cap0 z0) :
    Calls Try.prog 7 #[.slice a0 len0 cap0] w fun e w' => e = .returned (.bool true) ∧ Below w.heap.size w w' := by
  obtain ⟨hl, hc, hb⟩ := bytes_of w0
  by_cases hbig : 1048576 < len0
  · go_enter Try.func7, Try.ntmps7
    go_wp2
    go_ret
    exact ⟨rfl, Below.refl _ _⟩
  · go_enter Try.func7, Try.ntmps7
    go_wp2_with fail
    refine (drawEraseBlock_any w a0 len0 cap0 hl hc hb).mono ?_
    rintro e wa ⟨m, A, n, c, ps, rfl, hln, h4, hnc, hcm, hrow, hbl⟩
    have HS := Lib.hid (LB.start (m := m) (n := n) (c := c) hrow hbl)
    have HL := Lib.hid hln
    clear hb w0 hrow hbl hln
    cases hv : blockB m ps
    · have HV := Lib.hid hv
      clear hv
      go_wp2_with fail
      refine (erase_bad _ _ _ _ _ _ HL.out HS.out.2.1 (by omega) HV.out).mono ?_
      rintro e w1 ⟨A1, c1, rfl, hl1, ho1, hk⟩
      replace HS := Lib.hid (HS.out.keep hk)
      obtain ⟨hs0, hs1, hsl⟩ := HS.out.cells
      have HX := Lib.hid (LB.start (m := 0) (n := 0) (c := c1) ho1.row HS.out.2.2.1)
      have HL1 := Lib.hid hl1
      replace HS := Lib.hid (HS.out.keep (grown_alloc (grown_refl w1 none) (.cells #[.int .i64 0, .slice A1 0 c1] 25)))
      clear hk ho1 hl1
      go_wp2_with fail
      clear hs0 hs1 hsl
      refine (specErase_bad _ _ _ _ _ _ HL.out HS.out.2.1 (by omega) HV.out).mono ?_
      rintro e w2 ⟨A2, c2, rfl, hl2, ho2, hk⟩
      replace HS := Lib.hid (HS.out.keep hk)
      replace HX := Lib.hid (HX.out.keep hk)
      obtain ⟨hs0, hs1, hsl⟩ := HS.out.cells
      obtain ⟨hx0, hx1, hxl⟩ := HX.out.cells
      have HY := Lib.hid (LB.start (m := 0) (n := 0) (c := c2) ho2.row HS.out.2.2.1)
      have HL2 := Lib.hid hl2
      replace HS := Lib.hid (HS.out.keep (grown_alloc (grown_refl w2 none) (.cells #[.int .i64 0, .slice A2 0 c2] 25)))
      replace HX := Lib.hid (HX.out.keep (grown_alloc (grown_refl w2 none) (.cells #[.int .i64 0, .slice A2 0 c2] 25)))
      clear hk ho2 hl2
      go_wp2_with fail
      clear hs0 hs1 hsl hx0 hx1 hxl
      refine (sameBlock_same _ _ _ _ _ 0 [] _ rfl HX.out.2.1 HY.out.2.1 (Nat.zero_le _)).mono ?_
      rintro e w3 ⟨rfl, hk⟩
      replace HS := Lib.hid (HS.out.keep hk)
      replace HX := Lib.hid (HX.out.keep hk)
      replace HY := Lib.hid (HY.out.keep hk)
      clear hk
      obtain ⟨hs0, hs1, hsl⟩ := HS.out.cells
      obtain ⟨hx0, hx1, hxl⟩ := HX.out.cells
      obtain ⟨hy0, hy1, hyl⟩ := HY.out.cells
      go_wp2_with fail
      clear hs0 hs1 hsl hx0 hx1 hxl hy0 hy1 hyl
      refine (sameBlock_nil _ _ _ _ _ _ _ _).mono ?_
      rintro e w4 ⟨v, rfl, hk⟩
      replace HS := Lib.hid (HS.out.keep hk)
      replace HX := Lib.hid (HX.out.keep hk)
      replace HY := Lib.hid (HY.out.keep hk)
      clear hk
      obtain ⟨hs0, hs1, hsl⟩ := HS.out.cells
      obtain ⟨hx0, hx1, hxl⟩ := HX.out.cells
      obtain ⟨hy0, hy1, hyl⟩ := HY.out.cells
      cases v
      · go_wp2_with fail
        clear hs0 hs1 hsl hx0 hx1 hxl hy0 hy1 hyl
        refine (sameBlock_same _ _ none _ 0 0 [] _ rfl HX.out.2.1 Row.nil (Nat.zero_le _)).mono ?_
        rintro e w5 ⟨rfl, hk⟩
        replace HS := Lib.hid (HS.out.keep hk)
        replace HX := Lib.hid (HX.out.keep hk)
        replace HY := Lib.hid (HY.out.keep hk)
        clear hk
        go_wp2_with (go_at_call 16; refine (alive_any _).mono ?_; rintro e w' ⟨rfl, rfl⟩)
        go_ret
        exact ⟨rfl, HS.out.2.2.1⟩
      · go_wp2_with (go_at_call 16; refine (alive_any _).mono ?_; rintro e w' ⟨rfl, rfl⟩)
        go_ret
        exact ⟨rfl, HS.out.2.2.1⟩
    · have hn4 := (block_parts hv).2.1.symm.trans HL.out
      subst hn4
      have HV := Lib.hid hv
      by_cases hm : m = 100
      · have HM := Lib.hid hm
        clear hm hv
        go_wp2_with fail
        refine (erase_max _ _ _ _ _ HS.out.2.1 HV.out HM.out).mono ?_
        rintro e w1 ⟨A1, c1, rfl, hl1, ho1, hk⟩
        replace HS := Lib.hid (HS.out.keep hk)
        obtain ⟨hs0, hs1, hsl⟩ := HS.out.cells
        have HX := Lib.hid (LB.start (m := m) (n := 4) (c := c1) ho1.row HS.out.2.2.1)
        have HL1 := Lib.hid hl1
        replace HS := Lib.hid (HS.out.keep (grown_alloc (grown_refl w1 none) (.cells #[.int .i64 m, .slice A1 4 c1] 25)))
        clear hk ho1 hl1
        go_wp2_with fail
        clear hs0 hs1 hsl
        refine (specErase_max _ _ _ _ _ HS.out.2.1 HV.out HM.out).mono ?_
        rintro e w2 ⟨A2, c2, rfl, hl2, ho2, hk⟩
        replace HS := Lib.hid (HS.out.keep hk)
        replace HX := Lib.hid (HX.out.keep hk)
        obtain ⟨hs0, hs1, hsl⟩ := HS.out.cells
        obtain ⟨hx0, hx1, hxl⟩ := HX.out.cells
        have HY := Lib.hid (LB.start (m := m) (n := 4) (c := c2) ho2.row HS.out.2.2.1)
        have HL2 := Lib.hid hl2
        replace HS := Lib.hid (HS.out.keep (grown_alloc (grown_refl w2 none) (.cells #[.int .i64 m, .slice A2 4 c2] 25)))
        replace HX := Lib.hid (HX.out.keep (grown_alloc (grown_refl w2 none) (.cells #[.int .i64 m, .slice A2 4 c2] 25)))
        clear hk ho2 hl2
        go_wp2_with fail
        clear hs0 hs1 hsl hx0 hx1 hxl
        refine (sameBlock_same _ _ _ _ _ _ _ _ HL1.out HX.out.2.1 HY.out.2.1 (by omega)).mono ?_
        rintro e w3 ⟨rfl, hk⟩
        replace HS := Lib.hid (HS.out.keep hk)
        replace HX := Lib.hid (HX.out.keep hk)
        replace HY := Lib.hid (HY.out.keep hk)
        clear hk
        obtain ⟨hs0, hs1, hsl⟩ := HS.out.cells
        obtain ⟨hx0, hx1, hxl⟩ := HX.out.cells
        obtain ⟨hy0, hy1, hyl⟩ := HY.out.cells
        go_wp2_with fail
        clear hs0 hs1 hsl hx0 hx1 hxl hy0 hy1 hyl
        refine (sameBlock_same _ _ _ _ _ _ _ _ HL1.out HX.out.2.1 HS.out.2.1 (by omega)).mono ?_
        rintro e w4 ⟨rfl, hk⟩
        replace HS := Lib.hid (HS.out.keep hk)
        replace HX := Lib.hid (HX.out.keep hk)
        replace HY := Lib.hid (HY.out.keep hk)
        clear hk
        go_wp2_with (go_at_call 16; refine (alive_any _).mono ?_; rintro e w' ⟨rfl, rfl⟩)
        go_ret
        exact ⟨rfl, HS.out.2.2.1⟩
      · obtain ⟨hm0, hm1⟩ := inB_iff.1 (block_parts hv).1
        have HB := Lib.hid (show inB (m + 1) 0 100 = true from inB_iff.2 ⟨by omega, by omega⟩)
        have HM := Lib.hid hm
        clear hm hv
        go_wp2_with fail
        refine (erase_ok _ _ _ _ _ HS.out.2.1 HV.out HM.out).mono ?_
        rintro e w1 ⟨A1, c1, rfl, hl1, ho1, hk⟩
        replace HS := Lib.hid (HS.out.keep hk)
        obtain ⟨hs0, hs1, hsl⟩ := HS.out.cells
        have HX := Lib.hid (LB.start (m := (m + 1)) (n := 4) (c := c1) ho1.row HS.out.2.2.1)
        have HL1 := Lib.hid hl1
        replace HS := Lib.hid (HS.out.keep (grown_alloc (grown_refl w1 none) (.cells #[.int .i64 (m + 1), .slice A1 4 c1] 25)))
        clear hk ho1 hl1
        go_wp2_with fail
        clear hs0 hs1 hsl
        refine (specErase_ok _ _ _ _ _ HS.out.2.1 HV.out HM.out).mono ?_
        rintro e w2 ⟨A2, c2, rfl, hl2, ho2, hk⟩
        replace HS := Lib.hid (HS.out.keep hk)
        replace HX := Lib.hid (HX.out.keep hk)
        obtain ⟨hs0, hs1, hsl⟩ := HS.out.cells
        obtain ⟨hx0, hx1, hxl⟩ := HX.out.cells
        have HY := Lib.hid (LB.start (m := (m + 1)) (n := 4) (c := c2) ho2.row HS.out.2.2.1)
        have HL2 := Lib.hid hl2
        replace HS := Lib.hid (HS.out.keep (grown_alloc (grown_refl w2 none) (.cells #[.int .i64 (m + 1), .slice A2 4 c2] 25)))
        replace HX := Lib.hid (HX.out.keep (grown_alloc (grown_refl w2 none) (.cells #[.int .i64 (m + 1), .slice A2 4 c2] 25)))
        clear hk ho2 hl2
        go_wp2_with fail
        clear hs0 hs1 hsl hx0 hx1 hxl
        refine (sameBlock_same _ _ _ _ _ _ _ _ HL1.out HX.out.2.1 HY.out.2.1 (by omega)).mono ?_
        rintro e w3 ⟨rfl, hk⟩
        replace HS := Lib.hid (HS.out.keep hk)
        replace HX := Lib.hid (HX.out.keep hk)
        replace HY := Lib.hid (HY.out.keep hk)
        clear hk
        obtain ⟨hs0, hs1, hsl⟩ := HS.out.cells
        obtain ⟨hx0, hx1, hxl⟩ := HX.out.cells
        obtain ⟨hy0, hy1, hyl⟩ := HY.out.cells
        go_wp2_with fail
        clear hs0 hs1 hsl hx0 hx1 hxl hy0 hy1 hyl
        refine (blockValid_val HL1.out (new_valid HB.out) _ HX.out.2.1 (by omega)).mono ?_
        rintro e w4 ⟨rfl, hk⟩
        replace HS := Lib.hid (HS.out.keep hk)
        replace HX := Lib.hid (HX.out.keep hk)
        replace HY := Lib.hid (HY.out.keep hk)
        clear hk
        obtain ⟨hs0, hs1, hsl⟩ := HS.out.cells
        obtain ⟨hx0, hx1, hxl⟩ := HX.out.cells
        obtain ⟨hy0, hy1, hyl⟩ := HY.out.cells
        go_wp2_with fail
        clear hs0 hs1 hsl hx0 hx1 hxl hy0 hy1 hyl
        refine (next_val HL1.out (next_new HB.out) _ HX.out.2.1 (by omega)).mono ?_
        rintro e w5 ⟨rfl, hk⟩
        replace HS := Lib.hid (HS.out.keep hk)
        replace HX := Lib.hid (HX.out.keep hk)
        replace HY := Lib.hid (HY.out.keep hk)
        clear hk
        obtain ⟨hs0, hs1, hsl⟩ := HS.out.cells
        obtain ⟨hx0, hx1, hxl⟩ := HX.out.cells
        obtain ⟨hy0, hy1, hyl⟩ := HY.out.cells
        go_wp2
        go_ret
        exact ⟨rfl, HS.out.2.2.1⟩

/-! ### THE ROW's STEP: WRITTEN OUT: LEAVE IT -/
set_option maxRecDepth 100000 in
theorem lifted (os : Os) (started : os.Started) (H : Type) (enc : TypeId × Value → H) :
    ReturnsInHanded {} Try.checked os 7 .any (Rows.fnEraseBlockSpec.pre6 enc Try.prog Try.f7 Rows.fnEraseBlockRow.domain false) (Rows.fnEraseBlockSpec.post enc Try.prog Try.f7 false true false false) := by
  refine returnsInHanded_of_change (C := Try.checked) own started (by kernel_rfl) Try.func7
    (ChangeSpec.witness6 (enc := enc) (C := Try.checked) false ⟨#[], #[.slice none 0 0], []⟩ 8 (by kernel_rfl) (by kernel_rfl) (by kernel_rfl) (by kernel_rfl)) ?_
  intro W base args ds gs before hval0 hW hcnd _
  have hval : ∀ (j : Nat) t v, Try.f7.params[j]? = some t → args[j]? = some v → Value.okWide Try.prog W .any base t v := hval0
  have hW' := hW
  obtain ⟨p, q, hA0, hV, rfl, hfz, hnd⟩ := hW
  have hA : DataW.TrodAll enc Try.prog W 0 (fun _ => true) true Try.f7.params.toList args.toList ds p := hA0
  rw [Try.params7] at hA hval
  obtain ⟨v0, vs0, d0, ds0, p0, q0, hargs, rfl, rfl, h0, r0⟩ := trodAll_cons hA
  obtain ⟨rfl, rfl, rfl⟩ := trodAll_nil r0
  obtain rfl : args = #[v0] := by cases args; simp_all
  obtain ⟨rfl, rfl⟩ := trodVars_none hV
  obtain ⟨a0, len0, cap0, rfl⟩ := okWide_slice Try.underlying22 (hval 0 22 v0 rfl rfl)
  have k0 := h0
  have lt0 : ∀ x ∈ p0, x.block < W.heap.size := by obtain ⟨m, hm⟩ := k0; exact DataW.trod_lt m _ _ _ hm
  obtain ⟨z0, w0⟩ : ∃ zs, IsRow .u8 W a0 len0 cap0 zs := by
    obtain ⟨fuel, hf⟩ := h0
    rcases open_ints Try.underlying22 Try.underlying5 (by kernel_rfl) hf with ⟨hcs, _⟩ | ⟨x, l, c, zs, hcs, _, hl, hm, hz, _, hcell, hwz⟩
    · simp [Value.cells] at hcs
      obtain ⟨rfl, rfl, rfl⟩ := hcs
      exact ⟨[], .inl ⟨rfl, rfl, rfl, rfl⟩⟩
    · simp [Value.cells] at hcs
      obtain ⟨rfl, rfl, rfl⟩ := hcs
      exact ⟨zs, .inr ⟨_, rfl, hl, hm, by simpa using hz, hcell, hwz⟩⟩
  clear hA0 hval0
  refine (walk a0 len0 cap0 z0 W w0).mono fun e W' ⟨he, bel⟩ => ?_
  subst he
  exact ⟨_, rfl, _, _, _, [], _, [], hW', trodAll_mk1 (shut_bool Try.underlying4 _), (trodAll_cons_mk (Below.trod laidOut (by kernel_rfl) (of_decide_eq_true (by kernel_rfl)) k0 bel lt0) trodAll_mk0), rfl, bel.frame _, fun h => by cases h⟩

theorem over : Rows.fnEraseBlockRow.holds Try.pinned (OpenSpec.ofChange Rows.fnEraseBlockSpec) :=
  OpenClaim.holds_of_wide 7 Try.f7 rfl rfl rfl rfl rfl rfl rfl ⟨rfl, rfl, rfl, rfl, rfl⟩ rfl rfl rfl rfl rfl (by kernel_rfl) Try.func7 (by kernel_rfl)
    (of_decide_eq_true (by kernel_rfl)) (by unfold Func.isWrapper; first | (rw [if_pos (by decide +kernel)]; kernel_rfl) | (rw [if_neg (by decide +kernel)]; exact ⟨rfl, rfl⟩))
    (fun os started H enc _ => lifted os started H enc)

/-- ████ THE STATEMENT ████ -/
theorem proved : Rows.FnEraseBlockSaid := over
#print axioms proved
end Go.Proofs.Ytcmnnleebjlaeaa.fnEraseBlock
