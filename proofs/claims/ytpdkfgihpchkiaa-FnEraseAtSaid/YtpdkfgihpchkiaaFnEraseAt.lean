/- For every code, EraseAt answers of the drawn device and number as its model; other blocks are as before, the device is valid, wear is one more, and free pages are not fewer: proved.
   Conditions: none beyond the row's own reading of the input. The frame was written by the guide's proof-skeleton; the walk is ours. -/
import Derived.Test.YtpdkfgihpchkiaaWearFacts
import Derived.Test.YtpdkfgihpchkiaaDrawWear
import Derived.Test.YtpdkfgihpchkiaaWearSpec
import Derived.Test.YtpdkfgihpchkiaaWears
import Derived.Test.YtpdkfgihpchkiaaExactDev3
import Derived.Test.YtpdkfgihpchkiaaHand
import Derived.Test.YtpdkfgihpchkiaaRows
import Derived.WalkKit
import Derived.ProofKit
import Derived.OpenShut
import Derived.ShutString
import Derived.ChangeOld
import Derived.Below
namespace Go.Proofs.Ytpdkfgihpchkiaa.fnEraseAt
open Go.ChangeShapes Go.WideShapes Go.ChangeAt Go.RowKit
open Go.ChangeMaps (open_string shut_string)
set_option linter.unusedVariables false
set_option linter.unusedSimpArgs false

theorem own : ownKnob Try.prog.godebug = none := by kernel_rfl
theorem laidOut : laidOutB Try.prog = true := by kernel_rfl

/-- WHAT THE WALK IS TOLD OF A SLICE OF INTEGERS THAT CAME IN: it is nil; or it leads to a row of 'cap' cells, the numbers 'zs' (the first 'len' are its elements, the rest its spare room), each fitting its kind. -/
def IsRow (k : IntKind) (w : World) (a : Option Addr) (len cap : Nat) (zs : List Int) : Prop :=
  (a = none ∧ len = 0 ∧ cap = 0 ∧ zs = []) ∨
  ∃ x, a = some x ∧ len ≤ cap ∧ cap ≤ maxLen ∧ zs.length = cap ∧ (∀ i, i < zs.length → w.cell? (x.add i) = some (.int k (zs.getD i 0))) ∧ ∀ n ∈ zs, (Lit.int k n).wf = true

/-! ### STEP 1: THE WALK: the Go text returns true, AND WRITES NOTHING THAT WAS THERE: 'Below w.heap.size w w'' (Derived/Below.lean: '.refl', '.alloc', '.drew', '.setCell' at a new block, '.trans'). Open each 'IsRow' by 'rcases' AHEAD of 'go_enter'; part every test ahead of the walk. -/
set_option maxHeartbeats 4000000 in
set_option maxRecDepth 100000 in
theorem walk (a0 : Option Addr) (len0 cap0 : Nat) (z0 : List Int) (w : World) (w0 : IsRow .u8 w a0 len0 cap0 z0) :
    Calls Try.prog 14 #[.slice a0 len0 cap0] w fun e w' => e = .returned (.bool true) ∧ Below w.heap.size w w' := by
  obtain ⟨hl, hc, hb⟩ := bytes_of w0
  by_cases hbig : 1048576 < len0
  · go_enter Try.func14, Try.ntmps14
    go_wp2
    go_ret
    exact ⟨rfl, Below.refl _ _⟩
  · go_enter Try.func14, Try.ntmps14
    go_wp2_with fail
    refine (drawEraseAt_any w a0 len0 cap0 hl hc hb).mono ?_
    rintro e wa ⟨A, n, c, bs, a, rfl, hln, h13, hsm, hrow, hbl⟩
    have HS : RowKit.Hid (LD w A bs wa) := Lib.hid ⟨hrow, hbl⟩
    have HL := Lib.hid (And.intro hln (fun (q : Bk) (hq : q ∈ bs) => show q.ps.length ≤ 1048576 by have := hsm q hq; omega))
    clear hb w0 hrow hbl hln hsm
    obtain ⟨n1, l1, r, hri, hn1, ht1⟩ := eraseAt_is HL.out.1 a
    have HI := Lib.hid hri
    have hcase : (n1 = 0 ∧ r = false) ∨ ∃ (k : Nat) (m : Int) (Ab : Option Addr) (cb : Nat) (ps : List Pg), a = (k : Int) ∧ k < n ∧ devB bs = true ∧ bs[k]? = some ⟨m, Ab, cb, ps⟩ ∧ n1 = n ∧ ((m = 100 ∧ r = false ∧ l1 = bs.map Bk.is) ∨ (m ≠ 100 ∧ r = true ∧ l1 = (bs.map Bk.is).set k (m + 1, [pz, pz, pz, pz]))) := erase_cases HL.out.1 hri
    clear hri ht1
    rcases hcase with ⟨hn0, hr0⟩ | ⟨k, m, Ab, cb, ps, rfl, hkn, hd, hbk, rfl, ⟨hm, hr0, hl1⟩ | ⟨hm, hr0, hl1⟩⟩
    · subst hn0; subst hr0
      go_wp2_with fail
      refine (eraseAt_val HI.out HL.out.1 HS.out.1 (by omega) HL.out.2).mono ?_
      rintro e w1 ⟨A1, c1, cs1, rfl, hl, hs, ho, hk⟩
      replace HS := Lib.hid (HS.out.keep hk)
      have HX := Lib.hid (show LD w A1 cs1 w1 from ⟨ho.row, HS.out.2⟩)
      have SHX := Lib.hid (And.intro hl hs)
      clear hl hs ho hk
      go_wp2_with fail
      refine (specEraseAt_val HI.out HL.out.1 HS.out.1 (by omega) HL.out.2).mono ?_
      rintro e w2 ⟨A2, c2, cs2, rfl, hl, hs, ho, hk⟩
      replace HS := Lib.hid (HS.out.keep hk)
      replace HX := Lib.hid (HX.out.keep hk)
      have HZ := Lib.hid (show LD w A2 cs2 w2 from ⟨ho.row, HS.out.2⟩)
      have SHZ := Lib.hid (And.intro hl hs)
      clear hl hs ho hk
      go_wp2_with fail
      refine (sameDevice_same _ _ _ _ _ _ _ _ SHX.out.1 (SHX.out.2.trans SHZ.out.2.symm) HX.out.1 HZ.out.1 (by omega) (small_nil SHX.out.1)).mono ?_
      rintro e w3 ⟨rfl, hk⟩
      replace HS := Lib.hid (HS.out.keep hk)
      replace HX := Lib.hid (HX.out.keep hk)
      replace HZ := Lib.hid (HZ.out.keep hk)
      clear hk
      by_cases hz : n = 0
      · subst hz
        go_wp2_with fail
        refine (sameDevice_same _ _ _ _ _ _ _ _ SHX.out.1 (by rw [List.eq_nil_of_length_eq_zero SHX.out.1, List.eq_nil_of_length_eq_zero HL.out.1]) HX.out.1 HS.out.1 (by omega) (small_nil SHX.out.1)).mono ?_
        rintro e w4 ⟨rfl, hk⟩
        replace HS := Lib.hid (HS.out.keep hk)
        replace HX := Lib.hid (HX.out.keep hk)
        replace HZ := Lib.hid (HZ.out.keep hk)
        clear hk
        go_wp2_with (go_at_call 19; refine (alive_any _).mono ?_; rintro e w' ⟨rfl, rfl⟩)
        go_ret
        exact ⟨rfl, HS.out.2⟩
      · go_wp2_with fail
        refine (sameDevice_len _ _ _ _ _ _ _ (fun e => hz e.symm)).mono ?_
        rintro e w4 ⟨rfl, hk⟩
        replace HS := Lib.hid (HS.out.keep hk)
        replace HX := Lib.hid (HX.out.keep hk)
        replace HZ := Lib.hid (HZ.out.keep hk)
        clear hk
        go_wp2_with (go_at_call 19; refine (alive_any _).mono ?_; rintro e w' ⟨rfl, rfl⟩)
        go_ret
        exact ⟨rfl, HS.out.2⟩
    · subst hr0
      have HJ := Lib.hid hl1
      clear hl1
      go_wp2_with fail
      refine (eraseAt_val HI.out HL.out.1 HS.out.1 (by omega) HL.out.2).mono ?_
      rintro e w1 ⟨A1, c1, cs1, rfl, hl, hs, ho, hk⟩
      replace HS := Lib.hid (HS.out.keep hk)
      have HX := Lib.hid (show LD w A1 cs1 w1 from ⟨ho.row, HS.out.2⟩)
      have SHX := Lib.hid (And.intro hl hs)
      clear hl hs ho hk
      go_wp2_with fail
      refine (specEraseAt_val HI.out HL.out.1 HS.out.1 (by omega) HL.out.2).mono ?_
      rintro e w2 ⟨A2, c2, cs2, rfl, hl, hs, ho, hk⟩
      replace HS := Lib.hid (HS.out.keep hk)
      replace HX := Lib.hid (HX.out.keep hk)
      have HZ := Lib.hid (show LD w A2 cs2 w2 from ⟨ho.row, HS.out.2⟩)
      have SHZ := Lib.hid (And.intro hl hs)
      clear hl hs ho hk
      go_wp2_with fail
      refine (sameDevice_same _ _ _ _ _ _ _ _ SHX.out.1 (SHX.out.2.trans SHZ.out.2.symm) HX.out.1 HZ.out.1 (by omega) (small_eq (SHX.out.2.trans HJ.out) HL.out.2)).mono ?_
      rintro e w3 ⟨rfl, hk⟩
      replace HS := Lib.hid (HS.out.keep hk)
      replace HX := Lib.hid (HX.out.keep hk)
      replace HZ := Lib.hid (HZ.out.keep hk)
      clear hk
      go_wp2_with fail
      refine (sameDevice_same _ _ _ _ _ _ _ _ SHX.out.1 (SHX.out.2.trans HJ.out) HX.out.1 HS.out.1 (by omega) (small_eq (SHX.out.2.trans HJ.out) HL.out.2)).mono ?_
      rintro e w4 ⟨rfl, hk⟩
      replace HS := Lib.hid (HS.out.keep hk)
      replace HX := Lib.hid (HX.out.keep hk)
      replace HZ := Lib.hid (HZ.out.keep hk)
      clear hk
      go_wp2_with (go_at_call 19; refine (alive_any _).mono ?_; rintro e w' ⟨rfl, rfl⟩)
      go_ret
      exact ⟨rfl, HS.out.2⟩
    · subst hr0
      have HK := Lib.hid (And.intro hd (And.intro hbk (And.intro hm hl1)))
      clear hd hbk hm hl1
      go_wp2_with fail
      refine (eraseAt_val HI.out HL.out.1 HS.out.1 (by omega) HL.out.2).mono ?_
      rintro e w1 ⟨A1, c1, cs1, rfl, hl, hs, ho, hk⟩
      replace HS := Lib.hid (HS.out.keep hk)
      have HX := Lib.hid (show LD w A1 cs1 w1 from ⟨ho.row, HS.out.2⟩)
      have SHX := Lib.hid (And.intro hl hs)
      clear hl hs ho hk
      go_wp2_with fail
      refine (specEraseAt_val HI.out HL.out.1 HS.out.1 (by omega) HL.out.2).mono ?_
      rintro e w2 ⟨A2, c2, cs2, rfl, hl, hs, ho, hk⟩
      replace HS := Lib.hid (HS.out.keep hk)
      replace HX := Lib.hid (HX.out.keep hk)
      have HZ := Lib.hid (show LD w A2 cs2 w2 from ⟨ho.row, HS.out.2⟩)
      have SHZ := Lib.hid (And.intro hl hs)
      clear hl hs ho hk
      have HE := Lib.hid (erase_facts HK.out.1 HK.out.2.1 HK.out.2.2.1 (SHX.out.2.trans HK.out.2.2.2))
      have hsx := Lib.hid (fun (b : Bk) (hb : b ∈ cs1) => show b.ps.length ≤ 1048576 by have := (block_parts ((dev_parts HE.out.1).2 b hb)).2.1; omega)
      go_wp2_with fail
      refine (sameDevice_same _ _ _ _ _ _ _ _ SHX.out.1 (SHX.out.2.trans SHZ.out.2.symm) HX.out.1 HZ.out.1 (by omega) hsx.out).mono ?_
      rintro e w3 ⟨rfl, hk⟩
      replace HS := Lib.hid (HS.out.keep hk)
      replace HX := Lib.hid (HX.out.keep hk)
      replace HZ := Lib.hid (HZ.out.keep hk)
      clear hk
      go_wp2_with fail
      go_loopw [9] (fun i wr => ∃ q : Nat, i = .int .i64 q ∧ q ≤ n1 ∧ LD w A bs wr ∧ LD w A1 cs1 wr) (fun i _ => n1 - (intOf i).toNat)
      case atStart => exact ⟨0, rfl, Nat.zero_le _, HS.out, HX.out⟩
      case round =>
        obtain ⟨q, rfl, hq, hS, hX⟩ := hrel
        clear HS HX HZ
        have HS := Lib.hid hS
        have HX := Lib.hid hX
        clear hS hX
        by_cases hlt : q < n1
        · by_cases hqk : q = k
          · subst hqk
            have tq : ((q : Int) != (q : Int)) = false := by simp
            go_wp2_with fail
            refine wp_region_held_drew (S := (fun _ => True)) (by kernel_rfl) ?_ (fun hHeld => ?_)
            · trivial
            refine heldY 0 58 ?_
            refine heldY 1 59 ?_
            refine heldY 2 60 ?_
            refine heldY 3 61 ?_
            refine heldN 4 62 ?_
            refine heldN 5 63 ?_
            refine heldN 6 64 ?_
            refine heldN 7 65 ?_
            refine heldN 8 66 ?_
            refine heldN 9 67 ?_
            refine heldN 10 68 ?_
            refine heldN 11 69 ?_
            refine heldN 12 70 ?_
            refine heldN 13 71 ?_
            refine heldY 14 72 ?_
            refine wpAnyH_done (by kernel_rfl) ?_ _
            go_wp2
            go_roundw
            case rel => exact ⟨q + 1, by go_num, by omega, HS.out.keep (grown_drew (grown_refl _ none)), HX.out.keep (grown_drew (grown_refl _ none))⟩
            case measure => (simp [intOf]) <;> omega
          · have tq : ((q : Int) != (k : Int)) = true := by simp; omega
            have q3 : (q : Int) < n1 := by omega
            obtain ⟨g, off, m1, Ab1, cb1, ps1, rfl, _, _, hb1, c0, c1, hpr⟩ := HX.out.1.at_ (show q < cs1.length by have := SHX.out.1; omega)
            obtain ⟨g', off', m2, Ab2, cb2, ps2, rfl, _, _, hb2, d0, d1, hpr2⟩ := HS.out.1.at_ (show q < bs.length by have := HL.out.1; omega)
            have he := HE.out.2.2.2 q hqk
            rw [hb1, hb2] at he
            simp only [Option.map_some, Bk.is, Option.some.injEq, Prod.mk.injEq] at he
            obtain ⟨e1, e2⟩ := he
            subst e1; subst e2
            have HB := Lib.hid (And.intro hpr (And.intro hpr2 (hsx.out _ (List.mem_of_getElem? hb1))))
            have HC := Lib.hid (show D2 wr g (off + q * 2) ⟨m1, Ab1, cb1, ps1⟩ from ⟨c0, c1⟩)
            have HD := Lib.hid (show D2 wr g' (off' + q * 2) ⟨m1, Ab2, cb2, ps1⟩ from ⟨d0, d1⟩)
            clear hb1 hb2 hpr hpr2
            go_wp2_with fail
            refine wp_region_held_drew (S := (fun w' => w'.cell? ⟨g, off + q * 2, none⟩ = some (.int .i64 m1) ∧ w'.cell? ⟨g, off + q * 2 + 1, none⟩ = some (.slice Ab1 ps1.length cb1) ∧ w'.cell? ⟨g', off' + q * 2, none⟩ = some (.int .i64 m1) ∧ w'.cell? ⟨g', off' + q * 2 + 1, none⟩ = some (.slice Ab2 ps1.length cb2))) (by kernel_rfl) ?_ (fun hHeld => ?_)
            · exact ⟨c0, c1, d0, d1⟩
            refine heldY 0 58 ?_
            refine heldY 1 59 ?_
            refine heldY 2 60 ?_
            refine heldY 3 61 ?_
            refine heldY 4 62 ?_
            refine heldY 5 63 ?_
            refine heldY 6 64 ?_
            refine heldY 7 65 ?_
            refine heldY 8 66 ?_
            refine heldY 9 67 ?_
            refine heldY 10 68 ?_
            refine heldY 11 69 ?_
            refine wpAnyH_ready (rs := [12]) (by kernel_rfl) (by simp) ?_
            refine AllReadyH.cons rfl (fun K hK => ?_) AllReadyH.nil
            go_simp
            go_at_call 52; (refine (sameBlock_same _ _ _ _ _ _ _ _ rfl HB.out.1.drew.here HB.out.2.1.drew.here HB.out.2.2).mono ?_); rintro e w9 ⟨rfl, hk1⟩; replace hk1 := grown_trans (grown_drew (grown_refl wr none)) hk1; replace HS := Lib.hid (HS.out.keep hk1); replace HX := Lib.hid (HX.out.keep hk1); replace HC := Lib.hid (HC.out.kept hk1); replace HD := Lib.hid (HD.out.kept hk1); clear c0 c1 d0 d1 hk1; obtain ⟨c0, c1⟩ := HC.out; obtain ⟨d0, d1⟩ := HD.out
            refine hK.out _ _ ?_ (fun hHeld => ?_)
            · exact ⟨c0, c1, d0, d1⟩
            clear hK K
            try simp only [Act.put, List.setIfInBounds_toArray, List.set_cons_zero, List.set_cons_succ]
            refine heldY 13 71 ?_
            refine heldY 14 72 ?_
            refine wpAnyH_done (by kernel_rfl) ?_ _
            go_wp2
            go_roundw
            case rel => exact ⟨q + 1, by go_num, by omega, HS.out, HX.out⟩
            case measure => (simp [intOf]) <;> omega
        · obtain rfl : q = n1 := by omega
          obtain ⟨T, hT⟩ : ∃ T, totalV bs = T := ⟨_, rfl⟩
          obtain ⟨F1, hF1⟩ : ∃ F, freeV cs1 = F := ⟨_, rfl⟩
          obtain ⟨F0, hF0⟩ : ∃ F, freeV bs = F := ⟨_, rfl⟩
          have hTb := total_in HK.out.1
          have hee := HE.out
          rw [hT] at hTb hee
          rw [hF1, hF0] at hee
          have HT := Lib.hid (And.intro hT (And.intro hee.2.1 (And.intro hF1 hF0)))
          have tT : ((T + 1) == (T + 1)) = true := by simp
          have tF : decide ((F0 : Int) ≤ (F1 : Int)) = true := decide_eq_true (by have := hee.2.2.1; omega)
          have tF2 : decide (F0 ≤ F1) = true := decide_eq_true hee.2.2.1
          have HTF := Lib.hid hee.2.2.1
          clear hT hF1 hF0 hee
          go_wp2_with fail
          refine (deviceValid_val SHX.out.1 HE.out.1 _ HX.out.1 (by omega) hsx.out).mono ?_
          rintro e w31 ⟨rfl, hk⟩
          replace HS := Lib.hid (HS.out.keep hk)
          replace HX := Lib.hid (HX.out.keep hk)
          clear hk
          go_wp2_with fail
          refine (total_val HT.out.2.1 SHX.out.1 HX.out.1 (by omega) hsx.out).mono ?_
          rintro e w32 ⟨rfl, hk⟩
          replace HS := Lib.hid (HS.out.keep hk)
          replace HX := Lib.hid (HX.out.keep hk)
          clear hk
          go_wp2_with fail
          refine (total_val HT.out.1 HL.out.1 HS.out.1 (by omega) HL.out.2).mono ?_
          rintro e w33 ⟨rfl, hk⟩
          replace HS := Lib.hid (HS.out.keep hk)
          replace HX := Lib.hid (HX.out.keep hk)
          clear hk
          go_wp2_with fail
          refine (free_val SHX.out.1 HX.out.1 HE.out.1 HT.out.2.2.1).mono ?_
          rintro e w34 ⟨rfl, hk⟩
          replace HS := Lib.hid (HS.out.keep hk)
          replace HX := Lib.hid (HX.out.keep hk)
          clear hk
          go_wp2_with fail
          refine (free_val HL.out.1 HS.out.1 HK.out.1 HT.out.2.2.2).mono ?_
          rintro e w35 ⟨rfl, hk⟩
          replace HS := Lib.hid (HS.out.keep hk)
          replace HX := Lib.hid (HX.out.keep hk)
          clear hk
          go_wp2
          go_ret
          exact ⟨retB (by have := HTF.out; simp; try omega), HS.out.2⟩

/-! ### THE ROW's STEP: WRITTEN OUT: LEAVE IT -/
set_option maxRecDepth 100000 in
theorem lifted (os : Os) (started : os.Started) (H : Type) (enc : TypeId × Value → H) :
    ReturnsInHanded {} Try.checked os 14 .any (Rows.fnEraseAtSpec.pre6 enc Try.prog Try.f14 Rows.fnEraseAtRow.domain false) (Rows.fnEraseAtSpec.post enc Try.prog Try.f14 false true false false) := by
  refine returnsInHanded_of_change (C := Try.checked) own started (by kernel_rfl) Try.func14
    (ChangeSpec.witness6 (enc := enc) (C := Try.checked) false ⟨#[], #[.slice none 0 0], []⟩ 8 (by kernel_rfl) (by kernel_rfl) (by kernel_rfl) (by kernel_rfl)) ?_
  intro W base args ds gs before hval0 hW hcnd _
  have hval : ∀ (j : Nat) t v, Try.f14.params[j]? = some t → args[j]? = some v → Value.okWide Try.prog W .any base t v := hval0
  have hW' := hW
  obtain ⟨p, q, hA0, hV, rfl, hfz, hnd⟩ := hW
  have hA : DataW.TrodAll enc Try.prog W 0 (fun _ => true) true Try.f14.params.toList args.toList ds p := hA0
  rw [Try.params14] at hA hval
  obtain ⟨v0, vs0, d0, ds0, p0, q0, hargs, rfl, rfl, h0, r0⟩ := trodAll_cons hA
  obtain ⟨rfl, rfl, rfl⟩ := trodAll_nil r0
  obtain rfl : args = #[v0] := by cases args; simp_all
  obtain ⟨rfl, rfl⟩ := trodVars_none hV
  obtain ⟨a0, len0, cap0, rfl⟩ := okWide_slice Try.underlying22 (hval 0 22 v0 rfl rfl)
  have k0 := h0
  have lt0 : ∀ x ∈ p0, x.block < W.heap.size := by obtain ⟨m, hm⟩ := k0; exact DataW.trod_lt m _ _ _ hm
  obtain ⟨z0, w0⟩ : ∃ zs, IsRow .u8 W a0 len0 cap0 zs := by
    obtain ⟨fuel, hf⟩ := h0
    rcases open_ints Try.underlying22 Try.underlying5 (by kernel_rfl) hf with ⟨hcs, _⟩ | ⟨x, l, c, zs, hcs, _, hl, hm, hz, _, hcell, hwz⟩
    · simp [Value.cells] at hcs
      obtain ⟨rfl, rfl, rfl⟩ := hcs
      exact ⟨[], .inl ⟨rfl, rfl, rfl, rfl⟩⟩
    · simp [Value.cells] at hcs
      obtain ⟨rfl, rfl, rfl⟩ := hcs
      exact ⟨zs, .inr ⟨_, rfl, hl, hm, by simpa using hz, hcell, hwz⟩⟩
  clear hA0 hval0
  refine (walk a0 len0 cap0 z0 W w0).mono fun e W' ⟨he, bel⟩ => ?_
  subst he
  exact ⟨_, rfl, _, _, _, [], _, [], hW', trodAll_mk1 (shut_bool Try.underlying4 _), (trodAll_cons_mk (Below.trod laidOut (by kernel_rfl) (of_decide_eq_true (by kernel_rfl)) k0 bel lt0) trodAll_mk0), rfl, bel.frame _, fun h => by cases h⟩

theorem over : Rows.fnEraseAtRow.holds Try.pinned (OpenSpec.ofChange Rows.fnEraseAtSpec) :=
  OpenClaim.holds_of_wide 14 Try.f14 rfl rfl rfl rfl rfl rfl rfl ⟨rfl, rfl, rfl, rfl, rfl⟩ rfl rfl rfl rfl rfl (by kernel_rfl) Try.func14 (by kernel_rfl)
    (of_decide_eq_true (by kernel_rfl)) (by unfold Func.isWrapper; first | (rw [if_pos (by decide +kernel)]; kernel_rfl) | (rw [if_neg (by decide +kernel)]; exact ⟨rfl, rfl⟩))
    (fun os started H enc _ => lifted os started H enc)

/-- ████ THE STATEMENT ████ -/
theorem proved : Rows.FnEraseAtSaid := over
#print axioms proved
end Go.Proofs.Ytpdkfgihpchkiaa.fnEraseAt
