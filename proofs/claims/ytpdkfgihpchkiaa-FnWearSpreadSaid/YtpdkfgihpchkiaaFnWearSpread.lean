/- For every code, WearSpread answers of the drawn device as its model; it is not negative, no block's wear differs by more from that of the first one, and of the first block alone it is 0: proved.
   Conditions: none beyond the row's own reading of the input. The frame was written by the guide's proof-skeleton; the walk is ours. -/
import Derived.Test.YtpdkfgihpchkiaaWearFacts
import Derived.Test.YtpdkfgihpchkiaaDrawWear
import Derived.Test.YtpdkfgihpchkiaaWearSpec
import Derived.Test.YtpdkfgihpchkiaaWears
import Derived.Test.YtpdkfgihpchkiaaHand
import Derived.Test.YtpdkfgihpchkiaaRows
import Derived.WalkKit
import Derived.ProofKit
import Derived.OpenShut
import Derived.ShutString
import Derived.ChangeOld
import Derived.Below
namespace Go.Proofs.Ytpdkfgihpchkiaa.fnWearSpread
open Go.ChangeShapes Go.WideShapes Go.ChangeAt Go.RowKit
open Go.ChangeMaps (open_string shut_string)
set_option linter.unusedVariables false
set_option linter.unusedSimpArgs false

theorem own : ownKnob Try.prog.godebug = none := by kernel_rfl
theorem laidOut : laidOutB Try.prog = true := by kernel_rfl

/-- WHAT THE WALK IS TOLD OF A SLICE OF INTEGERS THAT CAME IN: it is nil; or it leads to a row of 'cap' cells, the numbers 'zs' (the first 'len' are its elements, the rest its spare room), each fitting its kind. -/
def IsRow (k : IntKind) (w : World) (a : Option Addr) (len cap : Nat) (zs : List Int) : Prop :=
  (a = none ∧ len = 0 ∧ cap = 0 ∧ zs = []) ∨
  ∃ x, a = some x ∧ len ≤ cap ∧ cap ≤ maxLen ∧ zs.length = cap ∧ (∀ i, i < zs.length → w.cell? (x.add i) = some (.int k (zs.getD i 0))) ∧ ∀ n ∈ zs, (Lit.int k n).wf = true

/-! ### STEP 1: THE WALK: the Go text returns true, AND WRITES NOTHING THAT WAS THERE: 'Below w.heap.size w w'' (Derived/Below.lean: '.refl', '.alloc', '.drew', '.setCell' at a new block, '.trans'). Open each 'IsRow' by 'rcases' AHEAD of 'go_enter'; part every test ahead of the walk. -/
set_option maxHeartbeats 3000000 in
theorem walk (a0 : Option Addr) (len0 cap0 : Nat) (z0 : List Int) (w : World) (w0 : IsRow .u8 w a0 len0 cap0 z0) :
    Calls Try.prog 5 #[.slice a0 len0 cap0] w fun e w' => e = .returned (.bool true) ∧ Below w.heap.size w w' := by
  obtain ⟨hl, hc, hb⟩ := bytes_of w0
  by_cases hbig : 1048576 < len0
  · go_enter Try.func5, Try.ntmps5
    go_wp2
    go_ret
    exact ⟨rfl, Below.refl _ _⟩
  · go_enter Try.func5, Try.ntmps5
    go_wp2_with fail
    refine (drawWearSpread_any w a0 len0 cap0 hl hc hb).mono ?_
    rintro e wa ⟨A, n, c, bs, rfl, hln, h13, hnc, hcm, hsm, hrow, hbl, ⟨g0, off0, x0⟩, rfl⟩
    have HS : RowKit.Hid (LD w (some ⟨g0, off0, x0⟩) bs wa) := Lib.hid ⟨hrow, hbl⟩
    have HL := Lib.hid (And.intro hln (And.intro (fun (q : Bk) (hq : q ∈ bs) => show q.ps.length ≤ 1048576 by have := hsm q hq; omega) hsm))
    clear hb w0 hrow hbl hln hsm
    cases hd : devB bs
    · have HV := Lib.hid hd
      clear hd
      go_wp2_with fail
      refine (spread_val (spread_no HV.out) HL.out.1 HS.out.1 (by omega) HL.out.2.1).mono ?_
      rintro e w1 ⟨rfl, hk⟩
      replace HS := Lib.hid (HS.out.keep hk)
      clear hk
      go_wp2_with fail
      refine (specSpread_val (spread_no HV.out) HL.out.1 HS.out.1 (by omega) HL.out.2.1).mono ?_
      rintro e w2 ⟨rfl, hk⟩
      replace HS := Lib.hid (HS.out.keep hk)
      clear hk
      go_wp2_with (go_at_call 19; refine (alive_any _).mono ?_; rintro e w' ⟨rfl, rfl⟩)
      go_ret
      exact ⟨rfl, HS.out.2⟩
    · obtain ⟨V, hV⟩ : ∃ V, spreadV bs = V := ⟨_, rfl⟩
      have hVb := spread_in hd
      have hnear := fun k (hk : k < n) => spread_near hd (k := k) (by have := HL.out.1; omega)
      rw [hV] at hVb
      simp only [hV] at hnear
      have hpart := dev_parts hd
      have hn1 : 1 ≤ n := by have := hpart.1.1; have := HL.out.1; omega
      have hc1 : 1 ≤ c := by omega
      have HV := Lib.hid (And.intro hd (And.intro hV hnear))
      clear hd hV hnear hpart
      go_wp2_with fail
      refine (spread_val HV.out.2.1 HL.out.1 HS.out.1 (by omega) HL.out.2.1).mono ?_
      rintro e w1 ⟨rfl, hk⟩
      replace HS := Lib.hid (HS.out.keep hk)
      clear hk
      go_wp2_with fail
      refine (specSpread_val HV.out.2.1 HL.out.1 HS.out.1 (by omega) HL.out.2.1).mono ?_
      rintro e w2 ⟨rfl, hk⟩
      replace HS := Lib.hid (HS.out.keep hk)
      clear hk
      have tf : decide (V < 0) = false := decide_eq_false (by omega)
      go_wp2_with fail
      clear tf
      go_loopw [5] (fun i wr => ∃ k : Nat, i = .int .i64 k ∧ k ≤ n ∧ LD w (some ⟨g0, off0, x0⟩) bs wr) (fun i _ => n - (intOf i).toNat)
      case atStart => exact ⟨0, rfl, Nat.zero_le _, HS.out⟩
      case round =>
        obtain ⟨k, rfl, hk, hS⟩ := hrel
        clear HS
        have HS := Lib.hid hS
        clear hS
        by_cases hlt : k < n
        · obtain ⟨g, off, m, Ab, cb, ps, e0, _, _, hbk, c0, c1, hpr⟩ := HS.out.1.at_ (show k < bs.length by have := HL.out.1; omega)
          injection e0 with e0
          injection e0 with e1 e2 e3
          subst e1; subst e2; subst e3
          obtain ⟨g', off', m0, A0, c0', p0, e0, _, _, hb0, d0, d1, hpr0⟩ := HS.out.1.at_ (show 0 < bs.length by have := HL.out.1; omega)
          injection e0 with e0
          injection e0 with e1 e2
          subst e1; subst e2
          have d2 : wr.cell? ⟨g0, off0, none⟩ = some (.int .i64 m0) := by simpa using d0
          have hw := HV.out.2.2 k hlt
          have hi1 := wear_in HV.out.1 k
          have hi2 := wear_in HV.out.1 0
          have e4 : wearAt bs 0 = m0 := wear_at hb0
          rw [wear_at hbk, e4] at hw
          rw [wear_at hbk] at hi1
          have e5 : wearAt bs ((0 : Nat) : Int) = m0 := wear_at hb0
          rw [e5] at hi2
          dsimp only at hw hi1
          have iw1 : IntKind.i64.wrap (m - m0) = m - m0 := IntWalk.i64_in _ ⟨by omega, by omega⟩
          have iw2 : IntKind.i64.wrap (m0 - m) = m0 - m := IntWalk.i64_in _ ⟨by omega, by omega⟩
          have t1 : decide (V < m - m0) = false := decide_eq_false (by omega)
          have t2 : decide (V < m0 - m) = false := decide_eq_false (by omega)
          have k3 : (k : Int) < n := by omega
          have z3 : (0 : Int) < n := by omega
          have z4 : 0 < n := by omega
          have z5 : (1 : Int) ≤ n := by omega
          clear hbk hb0 hpr hpr0 c1 d0 d1 hw hi1 hi2 e4 e5
          go_wp2_with fail
          refine wp_region_held_drew (S := (fun w' => w'.cell? ⟨g0, off0 + k * 2, none⟩ = some (.int .i64 m) ∧ w'.cell? ⟨g0, off0, none⟩ = some (.int .i64 m0))) (by kernel_rfl) ?_ (fun hHeld => ?_)
          · exact ⟨c0, d2⟩
          refine heldY 0 30 ?_
          refine heldY 1 31 ?_
          refine heldY 2 32 ?_
          refine heldY 3 33 ?_
          refine heldY 4 34 ?_
          refine heldY 5 35 ?_
          refine heldY 6 36 ?_
          refine heldY 7 37 ?_
          refine heldY 8 38 ?_
          refine held_yes (i := 9) (d := some 39) (v := ?_) rfl rfl (by kernel_rfl) (by kernel_rfl) (by kernel_rfl) (fun _ _ _ h => h) (by rfl) ?_ (by assumption) ?_
          rotate_left
          · (intro w hSw; (try dsimp only at hSw); go_simp; (try simp only [iw1]); (first | done | with_reducible rfl))
          try simp only [Act.put, List.setIfInBounds_toArray, List.set_cons_zero, List.set_cons_succ]
          refine heldY 10 40 ?_
          refine held_yes (i := 11) (d := some 41) (v := ?_) rfl rfl (by kernel_rfl) (by kernel_rfl) (by kernel_rfl) (fun _ _ _ h => h) (by rfl) ?_ (by assumption) ?_
          rotate_left
          · (intro w hSw; (try dsimp only at hSw); go_simp; (try simp only [t1]); (first | done | with_reducible rfl))
          try simp only [Act.put, List.setIfInBounds_toArray, List.set_cons_zero, List.set_cons_succ]
          refine heldY 12 42 ?_
          refine heldY 13 43 ?_
          refine heldY 14 44 ?_
          refine heldY 15 45 ?_
          refine heldY 16 46 ?_
          refine heldY 17 47 ?_
          refine heldY 18 48 ?_
          refine heldY 19 49 ?_
          refine heldY 20 50 ?_
          refine heldY 21 51 ?_
          refine held_yes (i := 22) (d := some 52) (v := ?_) rfl rfl (by kernel_rfl) (by kernel_rfl) (by kernel_rfl) (fun _ _ _ h => h) (by rfl) ?_ (by assumption) ?_
          rotate_left
          · (intro w hSw; (try dsimp only at hSw); go_simp; (try simp only [iw2]); (first | done | with_reducible rfl))
          try simp only [Act.put, List.setIfInBounds_toArray, List.set_cons_zero, List.set_cons_succ]
          refine heldY 23 53 ?_
          refine held_yes (i := 24) (d := some 54) (v := ?_) rfl rfl (by kernel_rfl) (by kernel_rfl) (by kernel_rfl) (fun _ _ _ h => h) (by rfl) ?_ (by assumption) ?_
          rotate_left
          · (intro w hSw; (try dsimp only at hSw); go_simp; (try simp only [t2]); (first | done | with_reducible rfl))
          try simp only [Act.put, List.setIfInBounds_toArray, List.set_cons_zero, List.set_cons_succ]
          refine heldY 25 55 ?_
          refine wpAnyH_done (by kernel_rfl) ?_ _
          go_wp2
          go_roundw
          case rel => exact ⟨k + 1, by go_num, by omega, HS.out.keep (grown_drew (grown_refl _ none))⟩
          case measure => (simp [intOf]) <;> omega
        · obtain rfl : k = n := by omega
          go_wp2_with fail
          refine (spread_val (bs := bs.take 1) (n := 1) (spread_one HV.out.1) (by rw [List.length_take]; have := HL.out.1; omega) (HS.out.1.take 1) (by omega) (fun q hq => HL.out.2.1 q (List.mem_of_mem_take hq))).mono ?_
          rintro e w31 ⟨rfl, hk⟩
          replace HS := Lib.hid (HS.out.keep hk)
          clear hk
          go_wp2
          go_ret
          exact ⟨rfl, HS.out.2⟩

/-! ### THE ROW's STEP: WRITTEN OUT: LEAVE IT -/
set_option maxRecDepth 100000 in
theorem lifted (os : Os) (started : os.Started) (H : Type) (enc : TypeId × Value → H) :
    ReturnsInHanded {} Try.checked os 5 .any (Rows.fnWearSpreadSpec.pre6 enc Try.prog Try.f5 Rows.fnWearSpreadRow.domain false) (Rows.fnWearSpreadSpec.post enc Try.prog Try.f5 false true false false) := by
  refine returnsInHanded_of_change (C := Try.checked) own started (by kernel_rfl) Try.func5
    (ChangeSpec.witness6 (enc := enc) (C := Try.checked) false ⟨#[], #[.slice none 0 0], []⟩ 8 (by kernel_rfl) (by kernel_rfl) (by kernel_rfl) (by kernel_rfl)) ?_
  intro W base args ds gs before hval0 hW hcnd _
  have hval : ∀ (j : Nat) t v, Try.f5.params[j]? = some t → args[j]? = some v → Value.okWide Try.prog W .any base t v := hval0
  have hW' := hW
  obtain ⟨p, q, hA0, hV, rfl, hfz, hnd⟩ := hW
  have hA : DataW.TrodAll enc Try.prog W 0 (fun _ => true) true Try.f5.params.toList args.toList ds p := hA0
  rw [Try.params5] at hA hval
  obtain ⟨v0, vs0, d0, ds0, p0, q0, hargs, rfl, rfl, h0, r0⟩ := trodAll_cons hA
  obtain ⟨rfl, rfl, rfl⟩ := trodAll_nil r0
  obtain rfl : args = #[v0] := by cases args; simp_all
  obtain ⟨rfl, rfl⟩ := trodVars_none hV
  obtain ⟨a0, len0, cap0, rfl⟩ := okWide_slice Try.underlying22 (hval 0 22 v0 rfl rfl)
  have k0 := h0
  have lt0 : ∀ x ∈ p0, x.block < W.heap.size := by obtain ⟨m, hm⟩ := k0; exact DataW.trod_lt m _ _ _ hm
  obtain ⟨z0, w0⟩ : ∃ zs, IsRow .u8 W a0 len0 cap0 zs := by
    obtain ⟨fuel, hf⟩ := h0
    rcases open_ints Try.underlying22 Try.underlying5 (by kernel_rfl) hf with ⟨hcs, _⟩ | ⟨x, l, c, zs, hcs, _, hl, hm, hz, _, hcell, hwz⟩
    · simp [Value.cells] at hcs
      obtain ⟨rfl, rfl, rfl⟩ := hcs
      exact ⟨[], .inl ⟨rfl, rfl, rfl, rfl⟩⟩
    · simp [Value.cells] at hcs
      obtain ⟨rfl, rfl, rfl⟩ := hcs
      exact ⟨zs, .inr ⟨_, rfl, hl, hm, by simpa using hz, hcell, hwz⟩⟩
  clear hA0 hval0
  refine (walk a0 len0 cap0 z0 W w0).mono fun e W' ⟨he, bel⟩ => ?_
  subst he
  exact ⟨_, rfl, _, _, _, [], _, [], hW', trodAll_mk1 (shut_bool Try.underlying4 _), (trodAll_cons_mk (Below.trod laidOut (by kernel_rfl) (of_decide_eq_true (by kernel_rfl)) k0 bel lt0) trodAll_mk0), rfl, bel.frame _, fun h => by cases h⟩

theorem over : Rows.fnWearSpreadRow.holds Try.pinned (OpenSpec.ofChange Rows.fnWearSpreadSpec) :=
  OpenClaim.holds_of_wide 5 Try.f5 rfl rfl rfl rfl rfl rfl rfl ⟨rfl, rfl, rfl, rfl, rfl⟩ rfl rfl rfl rfl rfl (by kernel_rfl) Try.func5 (by kernel_rfl)
    (of_decide_eq_true (by kernel_rfl)) (by unfold Func.isWrapper; first | (rw [if_pos (by decide +kernel)]; kernel_rfl) | (rw [if_neg (by decide +kernel)]; exact ⟨rfl, rfl⟩))
    (fun os started H enc _ => lifted os started H enc)

/-- ████ THE STATEMENT ████ -/
theorem proved : Rows.FnWearSpreadSaid := over
#print axioms proved
end Go.Proofs.Ytpdkfgihpchkiaa.fnWearSpread
