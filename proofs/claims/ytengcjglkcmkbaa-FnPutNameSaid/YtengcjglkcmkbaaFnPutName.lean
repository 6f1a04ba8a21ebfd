/- For every code, PutName answers of the drawn names and the further one as the model does; put in, the name has its file, and without it the names are as before.
   Conditions: none beyond the row's own reading of the input. The frame was written by the guide's proof-skeleton; the walk is ours. -/
import Derived.Test.YtengcjglkcmkbaaNameFacts
import Derived.Test.YtengcjglkcmkbaaRows
import Derived.WalkKit
import Derived.ProofKit
import Derived.OpenShut
import Derived.ShutString
import Derived.ChangeOld
import Derived.Below
namespace Go.Proofs.Ytengcjglkcmkbaa.fnPutName
open Go.ChangeShapes Go.WideShapes Go.ChangeAt Go.RowKit
open Go.ChangeMaps (open_string shut_string)
set_option linter.unusedVariables false
set_option linter.unusedSimpArgs false

theorem own : ownKnob Try.prog.godebug = none := by kernel_rfl
theorem laidOut : laidOutB Try.prog = true := by kernel_rfl

/-- WHAT THE WALK IS TOLD OF A SLICE OF INTEGERS THAT CAME IN: it is nil; or it leads to a row of 'cap' cells, the numbers 'zs' (the first 'len' are its elements, the rest its spare room), each fitting its kind. -/
def IsRow (k : IntKind) (w : World) (a : Option Addr) (len cap : Nat) (zs : List Int) : Prop :=
  (a = none ∧ len = 0 ∧ cap = 0 ∧ zs = []) ∨
  ∃ x, a = some x ∧ len ≤ cap ∧ cap ≤ maxLen ∧ zs.length = cap ∧ (∀ i, i < zs.length → w.cell? (x.add i) = some (.int k (zs.getD i 0))) ∧ ∀ n ∈ zs, (Lit.int k n).wf = true

/-! ### STEP 1: THE WALK: the Go text returns true, AND WRITES NOTHING THAT WAS THERE: 'Below w.heap.size w w'' (Derived/Below.lean: '.refl', '.alloc', '.drew', '.setCell' at a new block, '.trans'). Open each 'IsRow' by 'rcases' AHEAD of 'go_enter'; part every test ahead of the walk. -/
set_option maxHeartbeats 2000000 in
set_option maxRecDepth 100000 in
theorem walk (a0 : Option Addr) (len0 cap0 : Nat) (z0 : List Int) (w : World) (w0 : IsRow .u8 w a0 len0 cap0 z0) :
    Calls Try.prog 7 #[.slice a0 len0 cap0] w fun e w' => e = .returned (.bool true) ∧ Below w.heap.size w w' := by
  obtain ⟨hl, hc, hb⟩ := bytes_of w0
  by_cases hbig : 1048576 < len0
  · go_enter Try.func7, Try.ntmps7
    go_wp2
    go_ret
    exact ⟨rfl, Below.refl _ _⟩
  · go_enter Try.func7, Try.ntmps7
    go_wp2_with fail
    refine (drawPutName_any w a0 len0 cap0 hl hc hb).mono ?_
    rintro e wa ⟨A, n, c, ps, s, x, rfl, hpl, h9, hnc, hcm, hs9, hsh, hle⟩
    have hz1 : s.size ≤ 9223372036854775807 := by omega
    have HV := Lib.hid (Blk.new wa 32 #[.string s, .int .i64 x])
    have HS := Lib.hid (hle.keep (grown_alloc (grown_refl wa none) (.cells #[.string s, .int .i64 x] 32)))
    have HL := Lib.hid hpl
    have HH := Lib.hid hsh
    have hn : n ≤ 1048576 := by omega
    clear hle hpl hsh
    clear hb w0
    obtain ⟨X, hX⟩ : ∃ X, putNms ps ⟨s, x⟩ = X := ⟨_, rfl⟩
    obtain ⟨r, hr⟩ : ∃ r, putNok ps ⟨s, x⟩ = r := ⟨_, rfl⟩
    obtain ⟨m, hm⟩ : ∃ m, X.length = m := ⟨_, rfl⟩
    have hm9 : m ≤ 9 := by rw [← hm, ← hX]; exact putNm_le ps ⟨s, x⟩
    have hm1 : m ≤ 1048576 := by omega
    have HI := Lib.hid (And.intro hX (And.intro hr hm))
    have trr : (r != r) = false := by simp
    clear hX hr hm
    go_wp2_with fail
    refine (putName_val HI.out.1 HI.out.2.1 HI.out.2.2 HL.out HS.out.1 hn HH.out.big hz1).mono ?_
    rintro e w1 ⟨A1, c1, rfl, hl', ho, hk⟩
    have HPx := Lib.hid (And.intro hl' ho.row)
    replace HS := Lib.hid (HS.out.keep hk)
    replace HV := Lib.hid (HV.out.keep hk)
    clear hk hl' ho
    have v0 : w1.cell? ⟨wa.heap.size, 0, none⟩ = some (.string s) := HV.out.cell 0
    have v1 : w1.cell? ⟨wa.heap.size, 1, none⟩ = some (.int .i64 x) := HV.out.cell 1
    go_wp2_with fail
    refine (specPut_val HI.out.1 HI.out.2.1 HI.out.2.2 HL.out HS.out.1 hn HH.out.big hz1 ⟨hnc, hcm⟩).mono ?_
    rintro e w2 ⟨A2, c2, rfl, hl', ho, hk⟩
    have HPy := Lib.hid (And.intro hl' ho.row)
    replace HS := Lib.hid (HS.out.keep hk)
    replace HV := Lib.hid (HV.out.keep hk)
    replace HPx := Lib.hid (And.intro HPx.out.1 (NRow.keepN HPx.out.2 hk))
    clear hk hl' ho
    clear v0 v1
    go_wp2_with fail
    refine (sameNames_same _ _ _ _ _ _ _ HPx.out.1 HPx.out.2 HPy.out.2 hm1).mono ?_
    rintro e w3 ⟨rfl, hk⟩
    replace HS := Lib.hid (HS.out.keep hk)
    replace HV := Lib.hid (HV.out.keep hk)
    replace HPx := Lib.hid (And.intro HPx.out.1 (NRow.keepN HPx.out.2 hk))
    replace HPy := Lib.hid (And.intro HPy.out.1 (NRow.keepN HPy.out.2 hk))
    clear hk
    cases r
    · have HO := Lib.hid (show X = ps ∨ X = [] by rw [← HI.out.1]; exact putN_not HI.out.2.1)
      go_wp2_with fail
      refine (sameNames_or _ _ _ _ _ _ _ _ _ HL.out HPx.out.1 HO.out HPx.out.2 HS.out.1 hn).mono ?_
      rintro e w4 ⟨q, rfl, hq, hk⟩
      replace HS := Lib.hid (HS.out.keep hk)
      replace HV := Lib.hid (HV.out.keep hk)
      replace HPx := Lib.hid (And.intro HPx.out.1 (NRow.keepN HPx.out.2 hk))
      replace HPy := Lib.hid (And.intro HPy.out.1 (NRow.keepN HPy.out.2 hk))
      clear hk
      rcases hq with rfl | rfl
      · go_wp2_with (go_at_call 18; refine (alive_any _).mono ?_; rintro e w' ⟨rfl, rfl⟩)
        go_ret
        exact ⟨rfl, HS.out.2⟩
      · have h00 : (((0 : Nat) : Int) == 0) = true := rfl
        cases q
        · go_wp2_with (go_at_call 18; refine (alive_any _).mono ?_; rintro e w' ⟨rfl, rfl⟩)
          go_ret
          exact ⟨rfl, HS.out.2⟩
        · go_wp2_with (go_at_call 18; refine (alive_any _).mono ?_; rintro e w' ⟨rfl, rfl⟩)
          go_ret
          exact ⟨rfl, HS.out.2⟩
    · obtain ⟨x1, x2, x3, x4, x5⟩ := putN_back HI.out.2.1
      rw [← x1, HI.out.1] at x2 x3 x4 x5
      have HG := Lib.hid (And.intro x2 (And.intro x3 (And.intro x4 x5)))
      have HXS := Lib.hid (show Shorts X by rw [← HI.out.1]; exact HH.out.put hs9)
      have e2 : (x == x) = true := by simp
      clear x1 x2 x3 x4 x5
      have v0 : w3.cell? ⟨wa.heap.size, 0, none⟩ = some (.string s) := HV.out.cell 0
      have v1 : w3.cell? ⟨wa.heap.size, 1, none⟩ = some (.int .i64 x) := HV.out.cell 1
      go_wp2_with fail
      refine (dropName_val HG.out.2.1 HG.out.2.2.1 HL.out HPx.out.1 HPx.out.2 hm1 HXS.out.big).mono ?_
      rintro e w4 ⟨A4, c4, rfl, hl', ho, hk⟩
      have HPb := Lib.hid (And.intro hl' ho.row)
      replace HS := Lib.hid (HS.out.keep hk)
      replace HV := Lib.hid (HV.out.keep hk)
      replace HPx := Lib.hid (And.intro HPx.out.1 (NRow.keepN HPx.out.2 hk))
      replace HPy := Lib.hid (And.intro HPy.out.1 (NRow.keepN HPy.out.2 hk))
      clear hk hl' ho
      clear v0 v1
      go_wp2_with fail
      replace HS := Lib.hid (HS.out.keep (grown_drew (grown_refl _ _)))
      replace HV := Lib.hid (HV.out.keep (grown_drew (grown_refl _ _)))
      replace HPx := Lib.hid (And.intro HPx.out.1 (NRow.keepN HPx.out.2 (grown_drew (grown_refl _ _))))
      replace HPy := Lib.hid (And.intro HPy.out.1 (NRow.keepN HPy.out.2 (grown_drew (grown_refl _ _))))
      replace HPb := Lib.hid (And.intro HPb.out.1 (NRow.keepN HPb.out.2 (grown_drew (grown_refl _ _))))
      refine wp_region_held_drew (S := (fun w' => w'.cell? ⟨wa.heap.size, 0, none⟩ = some (.string s) ∧ w'.cell? ⟨wa.heap.size, 1, none⟩ = some (.int .i64 x))) (by kernel_rfl) ?_ (fun hHeld => ?_)
      · exact ⟨HV.out.cell 0, HV.out.cell 1⟩
      refine heldY 0 60 ?_
      refine wpAnyH_ready (rs := [1]) (by kernel_rfl) (by simp) ?_
      refine AllReadyH.cons rfl (fun K hK => ?_) AllReadyH.nil
      go_simp
      go_at_call 23
      refine (namesValid_val HG.out.1 HPx.out.1 HPx.out.2 (by omega) HXS.out.big).mono ?_
      rintro e w5 ⟨rfl, hk⟩
      replace HS := Lib.hid (HS.out.keep hk)
      replace HV := Lib.hid (HV.out.keep hk)
      replace HPx := Lib.hid (And.intro HPx.out.1 (NRow.keepN HPx.out.2 hk))
      replace HPy := Lib.hid (And.intro HPy.out.1 (NRow.keepN HPy.out.2 hk))
      replace HPb := Lib.hid (And.intro HPb.out.1 (NRow.keepN HPb.out.2 hk))
      clear hk
      refine hK.out _ _ ?_ (fun hHeld => ?_)
      · exact ⟨HV.out.cell 0, HV.out.cell 1⟩
      clear hK K
      try simp only [Act.put, List.setIfInBounds_toArray, List.set_cons_zero, List.set_cons_succ]
      refine heldY 2 62 ?_
      refine heldY 3 63 ?_
      refine heldY 4 64 ?_
      refine heldY 5 65 ?_
      refine heldY 7 67 ?_
      refine heldY 8 68 ?_
      refine wpAnyH_ready (rs := [6]) (by kernel_rfl) (by simp) ?_
      refine AllReadyH.cons rfl (fun K hK => ?_) AllReadyH.nil
      go_simp
      go_at_call 26
      refine (findName_val HG.out.2.2.2 HPx.out.1 HPx.out.2 hm1 HXS.out.big).mono ?_
      rintro e w6 ⟨rfl, hk⟩
      replace HS := Lib.hid (HS.out.keep hk)
      replace HV := Lib.hid (HV.out.keep hk)
      replace HPx := Lib.hid (And.intro HPx.out.1 (NRow.keepN HPx.out.2 hk))
      replace HPy := Lib.hid (And.intro HPy.out.1 (NRow.keepN HPy.out.2 hk))
      replace HPb := Lib.hid (And.intro HPb.out.1 (NRow.keepN HPb.out.2 hk))
      clear hk
      refine hK.out _ _ ?_ (fun hHeld => ?_)
      · exact ⟨HV.out.cell 0, HV.out.cell 1⟩
      clear hK K
      try simp only [Act.put, List.setIfInBounds_toArray, List.set_cons_zero, List.set_cons_succ]
      refine heldY 9 69 ?_
      refine heldY 10 70 ?_
      refine heldY 11 71 ?_
      refine heldY 12 72 ?_
      refine heldY 13 73 ?_
      refine heldY 14 74 ?_
      refine heldY 15 75 ?_
      refine heldY 16 76 ?_
      refine wpAnyH_ready (rs := [17]) (by kernel_rfl) (by simp) ?_
      refine AllReadyH.cons rfl (fun K hK => ?_) AllReadyH.nil
      go_simp
      go_at_call 31
      refine (sameNames_same _ _ _ _ _ _ _ HPb.out.1 HPb.out.2 HS.out.1 hn).mono ?_
      rintro e w7 ⟨rfl, hk⟩
      replace HS := Lib.hid (HS.out.keep hk)
      replace HV := Lib.hid (HV.out.keep hk)
      replace HPx := Lib.hid (And.intro HPx.out.1 (NRow.keepN HPx.out.2 hk))
      replace HPy := Lib.hid (And.intro HPy.out.1 (NRow.keepN HPy.out.2 hk))
      replace HPb := Lib.hid (And.intro HPb.out.1 (NRow.keepN HPb.out.2 hk))
      clear hk
      refine hK.out _ _ ?_ (fun hHeld => ?_)
      · exact ⟨HV.out.cell 0, HV.out.cell 1⟩
      clear hK K
      try simp only [Act.put, List.setIfInBounds_toArray, List.set_cons_zero, List.set_cons_succ]
      refine heldY 18 78 ?_
      refine heldY 19 2 ?_
      refine wpAnyH_done (by kernel_rfl) ?_ _
      go_wp2
      go_ret
      exact ⟨rfl, HS.out.2⟩

/-! ### THE ROW's STEP: WRITTEN OUT: LEAVE IT -/
set_option maxRecDepth 100000 in
theorem lifted (os : Os) (started : os.Started) (H : Type) (enc : TypeId × Value → H) :
    ReturnsInHanded {} Try.checked os 7 .any (Rows.fnPutNameSpec.pre6 enc Try.prog Try.f7 Rows.fnPutNameRow.domain false) (Rows.fnPutNameSpec.post enc Try.prog Try.f7 false true false false) := by
  refine returnsInHanded_of_change (C := Try.checked) own started (by kernel_rfl) Try.func7
    (ChangeSpec.witness6 (enc := enc) (C := Try.checked) false ⟨#[], #[.slice none 0 0], []⟩ 8 (by kernel_rfl) (by kernel_rfl) (by kernel_rfl) (by kernel_rfl)) ?_
  intro W base args ds gs before hval0 hW hcnd _
  have hval : ∀ (j : Nat) t v, Try.f7.params[j]? = some t → args[j]? = some v → Value.okWide Try.prog W .any base t v := hval0
  have hW' := hW
  obtain ⟨p, q, hA0, hV, rfl, hfz, hnd⟩ := hW
  have hA : DataW.TrodAll enc Try.prog W 0 (fun _ => true) true Try.f7.params.toList args.toList ds p := hA0
  rw [Try.params7] at hA hval
  obtain ⟨v0, vs0, d0, ds0, p0, q0, hargs, rfl, rfl, h0, r0⟩ := trodAll_cons hA
  obtain ⟨rfl, rfl, rfl⟩ := trodAll_nil r0
  obtain rfl : args = #[v0] := by cases args; simp_all
  obtain ⟨rfl, rfl⟩ := trodVars_none hV
  obtain ⟨a0, len0, cap0, rfl⟩ := okWide_slice Try.underlying22 (hval 0 22 v0 rfl rfl)
  have k0 := h0
  have lt0 : ∀ x ∈ p0, x.block < W.heap.size := by obtain ⟨m, hm⟩ := k0; exact DataW.trod_lt m _ _ _ hm
  obtain ⟨z0, w0⟩ : ∃ zs, IsRow .u8 W a0 len0 cap0 zs := by
    obtain ⟨fuel, hf⟩ := h0
    rcases open_ints Try.underlying22 Try.underlying5 (by kernel_rfl) hf with ⟨hcs, _⟩ | ⟨x, l, c, zs, hcs, _, hl, hm, hz, _, hcell, hwz⟩
    · simp [Value.cells] at hcs
      obtain ⟨rfl, rfl, rfl⟩ := hcs
      exact ⟨[], .inl ⟨rfl, rfl, rfl, rfl⟩⟩
    · simp [Value.cells] at hcs
      obtain ⟨rfl, rfl, rfl⟩ := hcs
      exact ⟨zs, .inr ⟨_, rfl, hl, hm, by simpa using hz, hcell, hwz⟩⟩
  clear hA0 hval0
  refine (walk a0 len0 cap0 z0 W w0).mono fun e W' ⟨he, bel⟩ => ?_
  subst he
  exact ⟨_, rfl, _, _, _, [], _, [], hW', trodAll_mk1 (shut_bool Try.underlying4 _), (trodAll_cons_mk (Below.trod laidOut (by kernel_rfl) (of_decide_eq_true (by kernel_rfl)) k0 bel lt0) trodAll_mk0), rfl, bel.frame _, fun h => by cases h⟩

theorem over : Rows.fnPutNameRow.holds Try.pinned (OpenSpec.ofChange Rows.fnPutNameSpec) :=
  OpenClaim.holds_of_wide 7 Try.f7 rfl rfl rfl rfl rfl rfl rfl ⟨rfl, rfl, rfl, rfl, rfl⟩ rfl rfl rfl rfl rfl (by kernel_rfl) Try.func7 (by kernel_rfl)
    (of_decide_eq_true (by kernel_rfl)) (by unfold Func.isWrapper; first | (rw [if_pos (by decide +kernel)]; kernel_rfl) | (rw [if_neg (by decide +kernel)]; exact ⟨rfl, rfl⟩))
    (fun os started H enc _ => lifted os started H enc)

/-- ████ THE STATEMENT ████ -/
theorem proved : Rows.FnPutNameSaid := over
#print axioms proved
end Go.Proofs.Ytengcjglkcmkbaa.fnPutName
