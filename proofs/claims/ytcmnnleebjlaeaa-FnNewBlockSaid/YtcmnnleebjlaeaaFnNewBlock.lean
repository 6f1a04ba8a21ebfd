/- For every code, NewBlock answers of the drawn number as its model: the zero value out of bounds; else a valid block with that Wear whose next page is the first: proved.
   Conditions: none beyond the row's own reading of the input. The frame was written by the guide's proof-skeleton; the walk is ours. -/
import Derived.Test.YtcmnnleebjlaeaaLawBlocks
import Derived.Test.YtcmnnleebjlaeaaHand
import Derived.Test.YtcmnnleebjlaeaaRows
import Derived.WalkKit
import Derived.ProofKit
import Derived.OpenShut
import Derived.ShutString
import Derived.ChangeOld
import Derived.Below
namespace Go.Proofs.Ytcmnnleebjlaeaa.fnNewBlock
open Go.ChangeShapes Go.WideShapes Go.ChangeAt Go.RowKit
open Go.ChangeMaps (open_string shut_string)
set_option linter.unusedVariables false
set_option linter.unusedSimpArgs false

theorem own : ownKnob Try.prog.godebug = none := by kernel_rfl
theorem laidOut : laidOutB Try.prog = true := by kernel_rfl

/-- WHAT THE WALK IS TOLD OF A SLICE OF INTEGERS THAT CAME IN: it is nil; or it leads to a row of 'cap' cells, the numbers 'zs' (the first 'len' are its elements, the rest its spare room), each fitting its kind. -/
def IsRow (k : IntKind) (w : World) (a : Option Addr) (len cap : Nat) (zs : List Int) : Prop :=
  (a = none ∧ len = 0 ∧ cap = 0 ∧ zs = []) ∨
  ∃ x, a = some x ∧ len ≤ cap ∧ cap ≤ maxLen ∧ zs.length = cap ∧ (∀ i, i < zs.length → w.cell? (x.add i) = some (.int k (zs.getD i 0))) ∧ ∀ n ∈ zs, (Lit.int k n).wf = true

/-! ### STEP 1: THE WALK: the Go text returns true, AND WRITES NOTHING THAT WAS THERE: 'Below w.heap.size w w'' (Derived/Below.lean: '.refl', '.alloc', '.drew', '.setCell' at a new block, '.trans'). Open each 'IsRow' by 'rcases' AHEAD of 'go_enter'; part every test ahead of the walk. -/
set_option maxHeartbeats 1000000 in
theorem walk (a0 : Option Addr) (len0 cap0 : Nat) (z0 : List Int) (w : World) (w0 : IsRow .u8 w a0 len0 cap0 z0) :
    Calls Try.prog 4 #[.slice a0 len0 cap0] w fun e w' => e = .returned (.bool true) ∧ Below w.heap.size w w' := by
  obtain ⟨hl, hc, hb⟩ := bytes_of w0
  by_cases hbig : 1048576 < len0
  · go_enter Try.func4, Try.ntmps4
    go_wp2
    go_ret
    exact ⟨rfl, Below.refl _ _⟩
  · go_enter Try.func4, Try.ntmps4
    go_wp2_with fail
    refine (drawNewBlock_any w a0 len0 cap0 hl hc hb).mono ?_
    rintro e wa ⟨m, rfl, hbl⟩
    clear hb w0
    cases hv : inB m 0 100
    · have HV := Lib.hid hv
      clear hv
      go_wp2_with fail
      refine (newBlock_no _ _ HV.out).mono ?_
      rintro e w1 ⟨A1, c1, rfl, hl1, ho1, hk⟩
      have HS := Lib.hid (LB.start (m := 0) (n := 0) (c := c1) ho1.row (hbl.trans (Below.of_kept hk hbl.size)))
      have HL1 := Lib.hid hl1
      clear hk ho1 hl1
      clear hbl
      obtain ⟨b0, b1, bl⟩ := HS.out.cells
      go_wp2_with fail
      refine wp_region_held_drew (S := (fun w' => w'.cell? ⟨w1.heap.size, 0, none⟩ = some (.int .i64 0) ∧ w'.cell? ⟨w1.heap.size, 1, none⟩ = some (.slice A1 0 c1))) (by kernel_rfl) ?_ (fun hHeld => ?_)
      · exact ⟨b0, b1⟩
      replace HS := Lib.hid (HS.out.keep (grown_drew (grown_refl _ none)))
      refine held_yes (i := 0) (d := some 12) (v := ?_) rfl rfl (by kernel_rfl) (by kernel_rfl) (by kernel_rfl) (fun _ _ _ h => h) (by rfl) ?_ (by assumption) ?_
      rotate_left
      · (intro w hSw; (try dsimp only at hSw); go_simp; (first | done | with_reducible rfl))
      try simp only [Act.put, List.setIfInBounds_toArray, List.set_cons_zero, List.set_cons_succ]
      refine held_yes (i := 1) (d := some 13) (v := ?_) rfl rfl (by kernel_rfl) (by kernel_rfl) (by kernel_rfl) (fun _ _ _ h => h) (by rfl) ?_ (by assumption) ?_
      rotate_left
      · (intro w hSw; (try dsimp only at hSw); go_simp; (first | done | with_reducible rfl))
      try simp only [Act.put, List.setIfInBounds_toArray, List.set_cons_zero, List.set_cons_succ]
      refine wpAnyH_ready (rs := [2]) (by kernel_rfl) (by simp) ?_
      refine AllReadyH.cons rfl (fun K hK => ?_) AllReadyH.nil
      go_simp
      go_at_call 20
      refine (specNewBlock_no _ _ HV.out).mono ?_
      rintro e w2 ⟨A2, c2, rfl, hl2, ho2, hk⟩
      replace HS := Lib.hid (HS.out.keep hk)
      have HO := Lib.hid ho2.row
      have HL2 := Lib.hid hl2
      clear hk ho2 hl2 b0 b1 bl
      obtain ⟨b0, b1, bl⟩ := HS.out.cells
      refine hK.out _ _ ?_ (fun hHeld => ?_)
      · exact ⟨b0, b1⟩
      clear hK K
      try simp only [Act.put, List.setIfInBounds_toArray, List.set_cons_zero, List.set_cons_succ]
      refine wpAnyH_ready (rs := [3]) (by kernel_rfl) (by simp) ?_
      refine AllReadyH.cons rfl (fun K hK => ?_) AllReadyH.nil
      go_simp
      go_at_call 19
      refine (sameBlock_same 0 _ _ _ _ 0 [] _ rfl HS.out.2.1 HO.out (by omega)).mono ?_
      rintro e w3 ⟨rfl, hk⟩
      replace HS := Lib.hid (HS.out.keep hk)
      clear hk b0 b1 bl
      obtain ⟨b0, b1, bl⟩ := HS.out.cells
      refine hK.out _ _ ?_ (fun hHeld => ?_)
      · exact ⟨b0, b1⟩
      clear hK K
      try simp only [Act.put, List.setIfInBounds_toArray, List.set_cons_zero, List.set_cons_succ]
      refine held_yes (i := 4) (d := some 16) (v := ?_) rfl rfl (by kernel_rfl) (by kernel_rfl) (by kernel_rfl) (fun _ _ _ h => h) (by rfl) ?_ (by assumption) ?_
      rotate_left
      · (intro w hSw; (try dsimp only at hSw); go_simp; (first | done | with_reducible rfl))
      try simp only [Act.put, List.setIfInBounds_toArray, List.set_cons_zero, List.set_cons_succ]
      refine wpAnyH_done (by kernel_rfl) ?_ _
      have hb := inB_no HV.out
      by_cases hm : m < 0
      · have t1 : decide (m < 0) = true := decide_eq_true hm
        clear hb hm
        go_wp2_with fail
        clear b0 b1 bl
        refine (sameBlock_same _ _ none _ 0 0 [] _ rfl HS.out.2.1 Row.nil (Nat.zero_le _)).mono ?_
        rintro e w4 ⟨rfl, hk⟩
        replace HS := Lib.hid (HS.out.keep hk)
        clear hk
        go_wp2_with (go_at_call 16; refine (alive_any _).mono ?_; rintro e w' ⟨rfl, rfl⟩)
        go_ret
        exact ⟨rfl, HS.out.2.2.1⟩
      · have t1 : decide (m < 0) = false := decide_eq_false hm
        have t2 : decide (100 < m) = true := decide_eq_true (by omega)
        clear hb hm
        go_wp2_with fail
        clear b0 b1 bl
        refine (sameBlock_same _ _ none _ 0 0 [] _ rfl HS.out.2.1 Row.nil (Nat.zero_le _)).mono ?_
        rintro e w4 ⟨rfl, hk⟩
        replace HS := Lib.hid (HS.out.keep hk)
        clear hk
        go_wp2_with (go_at_call 16; refine (alive_any _).mono ?_; rintro e w' ⟨rfl, rfl⟩)
        go_ret
        exact ⟨rfl, HS.out.2.2.1⟩
    · have HV := Lib.hid hv
      clear hv
      go_wp2_with fail
      refine (newBlock_any _ _ HV.out).mono ?_
      rintro e w1 ⟨A1, c1, rfl, hl1, ho1, hk⟩
      have HS := Lib.hid (LB.start (m := m) (n := 4) (c := c1) ho1.row (hbl.trans (Below.of_kept hk hbl.size)))
      have HL1 := Lib.hid hl1
      clear hk ho1 hl1
      clear hbl
      obtain ⟨b0, b1, bl⟩ := HS.out.cells
      go_wp2_with fail
      refine wp_region_held_drew (S := (fun w' => w'.cell? ⟨w1.heap.size, 0, none⟩ = some (.int .i64 m) ∧ w'.cell? ⟨w1.heap.size, 1, none⟩ = some (.slice A1 4 c1))) (by kernel_rfl) ?_ (fun hHeld => ?_)
      · exact ⟨b0, b1⟩
      replace HS := Lib.hid (HS.out.keep (grown_drew (grown_refl _ none)))
      refine held_yes (i := 0) (d := some 12) (v := ?_) rfl rfl (by kernel_rfl) (by kernel_rfl) (by kernel_rfl) (fun _ _ _ h => h) (by rfl) ?_ (by assumption) ?_
      rotate_left
      · (intro w hSw; (try dsimp only at hSw); go_simp; (first | done | with_reducible rfl))
      try simp only [Act.put, List.setIfInBounds_toArray, List.set_cons_zero, List.set_cons_succ]
      refine held_yes (i := 1) (d := some 13) (v := ?_) rfl rfl (by kernel_rfl) (by kernel_rfl) (by kernel_rfl) (fun _ _ _ h => h) (by rfl) ?_ (by assumption) ?_
      rotate_left
      · (intro w hSw; (try dsimp only at hSw); go_simp; (first | done | with_reducible rfl))
      try simp only [Act.put, List.setIfInBounds_toArray, List.set_cons_zero, List.set_cons_succ]
      refine wpAnyH_ready (rs := [2]) (by kernel_rfl) (by simp) ?_
      refine AllReadyH.cons rfl (fun K hK => ?_) AllReadyH.nil
      go_simp
      go_at_call 20
      refine (specNewBlock_any _ _ HV.out).mono ?_
      rintro e w2 ⟨A2, c2, rfl, hl2, ho2, hk⟩
      replace HS := Lib.hid (HS.out.keep hk)
      have HO := Lib.hid ho2.row
      have HL2 := Lib.hid hl2
      clear hk ho2 hl2 b0 b1 bl
      obtain ⟨b0, b1, bl⟩ := HS.out.cells
      refine hK.out _ _ ?_ (fun hHeld => ?_)
      · exact ⟨b0, b1⟩
      clear hK K
      try simp only [Act.put, List.setIfInBounds_toArray, List.set_cons_zero, List.set_cons_succ]
      refine wpAnyH_ready (rs := [3]) (by kernel_rfl) (by simp) ?_
      refine AllReadyH.cons rfl (fun K hK => ?_) AllReadyH.nil
      go_simp
      go_at_call 19
      refine (sameBlock_same m _ _ _ _ 4 [pz, pz, pz, pz] _ rfl HS.out.2.1 HO.out (by omega)).mono ?_
      rintro e w3 ⟨rfl, hk⟩
      replace HS := Lib.hid (HS.out.keep hk)
      clear hk b0 b1 bl
      obtain ⟨b0, b1, bl⟩ := HS.out.cells
      refine hK.out _ _ ?_ (fun hHeld => ?_)
      · exact ⟨b0, b1⟩
      clear hK K
      try simp only [Act.put, List.setIfInBounds_toArray, List.set_cons_zero, List.set_cons_succ]
      refine held_yes (i := 4) (d := some 16) (v := ?_) rfl rfl (by kernel_rfl) (by kernel_rfl) (by kernel_rfl) (fun _ _ _ h => h) (by rfl) ?_ (by assumption) ?_
      rotate_left
      · (intro w hSw; (try dsimp only at hSw); go_simp; (first | done | with_reducible rfl))
      try simp only [Act.put, List.setIfInBounds_toArray, List.set_cons_zero, List.set_cons_succ]
      refine wpAnyH_done (by kernel_rfl) ?_ _
      have t0 := inB_iff.1 HV.out
      have t1 : decide (m < 0) = false := decide_eq_false (by omega)
      have t2 : decide (100 < m) = false := decide_eq_false (by omega)
      clear t0
      go_wp2_with fail
      clear b0 b1 bl
      refine (blockValid_val (n := 4) rfl (new_valid HV.out) _ HS.out.2.1 (by omega)).mono ?_
      rintro e w4 ⟨rfl, hk⟩
      replace HS := Lib.hid (HS.out.keep hk)
      clear hk
      obtain ⟨hs0, hs1, hsl⟩ := HS.out.cells
      go_wp2_with fail
      clear hs0 hs1 hsl
      refine (next_val (n := 4) rfl (next_new HV.out) _ HS.out.2.1 (by omega)).mono ?_
      rintro e w5 ⟨rfl, hk⟩
      replace HS := Lib.hid (HS.out.keep hk)
      clear hk
      go_wp2
      go_ret
      exact ⟨rfl, HS.out.2.2.1⟩

/-! ### THE ROW's STEP: WRITTEN OUT: LEAVE IT -/
set_option maxRecDepth 100000 in
theorem lifted (os : Os) (started : os.Started) (H : Type) (enc : TypeId × Value → H) :
    ReturnsInHanded {} Try.checked os 4 .any (Rows.fnNewBlockSpec.pre6 enc Try.prog Try.f4 Rows.fnNewBlockRow.domain false) (Rows.fnNewBlockSpec.post enc Try.prog Try.f4 false true false false) := by
  refine returnsInHanded_of_change (C := Try.checked) own started (by kernel_rfl) Try.func4
    (ChangeSpec.witness6 (enc := enc) (C := Try.checked) false ⟨#[], #[.slice none 0 0], []⟩ 8 (by kernel_rfl) (by kernel_rfl) (by kernel_rfl) (by kernel_rfl)) ?_
  intro W base args ds gs before hval0 hW hcnd _
  have hval : ∀ (j : Nat) t v, Try.f4.params[j]? = some t → args[j]? = some v → Value.okWide Try.prog W .any base t v := hval0
  have hW' := hW
  obtain ⟨p, q, hA0, hV, rfl, hfz, hnd⟩ := hW
  have hA : DataW.TrodAll enc Try.prog W 0 (fun _ => true) true Try.f4.params.toList args.toList ds p := hA0
  rw [Try.params4] at hA hval
  obtain ⟨v0, vs0, d0, ds0, p0, q0, hargs, rfl, rfl, h0, r0⟩ := trodAll_cons hA
  obtain ⟨rfl, rfl, rfl⟩ := trodAll_nil r0
  obtain rfl : args = #[v0] := by cases args; simp_all
  obtain ⟨rfl, rfl⟩ := trodVars_none hV
  obtain ⟨a0, len0, cap0, rfl⟩ := okWide_slice Try.underlying22 (hval 0 22 v0 rfl rfl)
  have k0 := h0
  have lt0 : ∀ x ∈ p0, x.block < W.heap.size := by obtain ⟨m, hm⟩ := k0; exact DataW.trod_lt m _ _ _ hm
  obtain ⟨z0, w0⟩ : ∃ zs, IsRow .u8 W a0 len0 cap0 zs := by
    obtain ⟨fuel, hf⟩ := h0
    rcases open_ints Try.underlying22 Try.underlying5 (by kernel_rfl) hf with ⟨hcs, _⟩ | ⟨x, l, c, zs, hcs, _, hl, hm, hz, _, hcell, hwz⟩
    · simp [Value.cells] at hcs
      obtain ⟨rfl, rfl, rfl⟩ := hcs
      exact ⟨[], .inl ⟨rfl, rfl, rfl, rfl⟩⟩
    · simp [Value.cells] at hcs
      obtain ⟨rfl, rfl, rfl⟩ := hcs
      exact ⟨zs, .inr ⟨_, rfl, hl, hm, by simpa using hz, hcell, hwz⟩⟩
  clear hA0 hval0
  refine (walk a0 len0 cap0 z0 W w0).mono fun e W' ⟨he, bel⟩ => ?_
  subst he
  exact ⟨_, rfl, _, _, _, [], _, [], hW', trodAll_mk1 (shut_bool Try.underlying4 _), (trodAll_cons_mk (Below.trod laidOut (by kernel_rfl) (of_decide_eq_true (by kernel_rfl)) k0 bel lt0) trodAll_mk0), rfl, bel.frame _, fun h => by cases h⟩

theorem over : Rows.fnNewBlockRow.holds Try.pinned (OpenSpec.ofChange Rows.fnNewBlockSpec) :=
  OpenClaim.holds_of_wide 4 Try.f4 rfl rfl rfl rfl rfl rfl rfl ⟨rfl, rfl, rfl, rfl, rfl⟩ rfl rfl rfl rfl rfl (by kernel_rfl) Try.func4 (by kernel_rfl)
    (of_decide_eq_true (by kernel_rfl)) (by unfold Func.isWrapper; first | (rw [if_pos (by decide +kernel)]; kernel_rfl) | (rw [if_neg (by decide +kernel)]; exact ⟨rfl, rfl⟩))
    (fun os started H enc _ => lifted os started H enc)

/-- ████ THE STATEMENT ████ -/
theorem proved : Rows.FnNewBlockSaid := over
#print axioms proved
end Go.Proofs.Ytcmnnleebjlaeaa.fnNewBlock
