/- FileSize answers as its model for every table and file, and leaves its arguments as they were: proved.
   Conditions: none beyond the row's own reading of the input. The frame was written by the guide's proof-skeleton; the walk is ours. -/
import Derived.Test.YtfiajbkmklcaiaaAgg
import Derived.Test.YtfiajbkmklcaiaaLawFiles
import Derived.Test.YtfiajbkmklcaiaaHand
import Derived.Test.YtfiajbkmklcaiaaRows
import Derived.WalkKit
import Derived.ProofKit
import Derived.OpenShut
import Derived.ShutString
import Derived.ChangeOld
import Derived.Below
namespace Go.Proofs.Ytfiajbkmklcaiaa.fnExactFileSize
open Go.ChangeShapes Go.WideShapes Go.ChangeAt Go.RowKit
open Go.ChangeMaps (open_string shut_string)
set_option linter.unusedVariables false
set_option linter.unusedSimpArgs false

theorem own : ownKnob Try.prog.godebug = none := by kernel_rfl
theorem laidOut : laidOutB Try.prog = true := by kernel_rfl

/-- WHAT THE WALK IS TOLD OF A SLICE OF INTEGERS THAT CAME IN: it is nil; or it leads to a row of 'cap' cells, the numbers 'zs' (the first 'len' are its elements, the rest its spare room), each fitting its kind. -/
def IsRow (k : IntKind) (w : World) (a : Option Addr) (len cap : Nat) (zs : List Int) : Prop :=
  (a = none ∧ len = 0 ∧ cap = 0 ∧ zs = []) ∨
  ∃ x, a = some x ∧ len ≤ cap ∧ cap ≤ maxLen ∧ zs.length = cap ∧ (∀ i, i < zs.length → w.cell? (x.add i) = some (.int k (zs.getD i 0))) ∧ ∀ n ∈ zs, (Lit.int k n).wf = true

/-! ### STEP 1: THE WALK: the Go text returns true, AND WRITES NOTHING THAT WAS THERE: 'Below w.heap.size w w'' (Derived/Below.lean: '.refl', '.alloc', '.drew', '.setCell' at a new block, '.trans'). Open each 'IsRow' by 'rcases' AHEAD of 'go_enter'; part every test ahead of the walk. -/
set_option maxHeartbeats 1000000 in
set_option maxRecDepth 100000 in
theorem walk (a0f0 : Option Addr) (n0f0 c0f0 : Nat) (p0f0 : List Li) (a1 : Int) (w : World) (w0f0 : IsLists w a0f0 n0f0 c0f0 p0f0) (w1 : (Lit.int .i64 a1).wf = true) :
    Calls Try.prog 9 #[.agg #[.slice a0f0 n0f0 c0f0], .int .i64 a1] w fun e w' => e = .returned (.bool true) ∧ Below w.heap.size w w' := by
  obtain ⟨V, hV⟩ : ∃ V, fsizeV (ll p0f0) a1 = V := ⟨_, rfl⟩
  have HV := Lib.hid hV
  clear hV
  have tvv : (V != V) = false := by simp
  have HA := Lib.hid (VA.arg w0f0)
  have HZ := Lib.hid (w0f0.alloc (.cells #[.slice a0f0 n0f0 c0f0] 55))
  have HLHA := Lib.hid w0f0.1
  clear w0f0
  go_enter Try.func9, Try.ntmps9
  go_wp2_with fail
  refine (szTable_any _ _ _ _ _ _ HZ.out (by omega) (by omega)).mono ?_
  rintro e w1 ⟨v, rfl, hk, hv⟩
  replace HA := Lib.hid (HA.out.keep hk)
  rcases hv with rfl | ⟨hv0, hvL, hn, ht⟩
  · clear hk
    go_wp2
    go_ret
    exact ⟨rfl, grown_below HA.out.2.2.2⟩
  · have tv : decide (v < 0) = false := decide_eq_false (by omega)
    have HPHA := Lib.hid (And.intro (small_ll ht) ht)
    clear hk ht
    have bHA := HA.out.cell
    have lHA := HA.out.1.lt
    go_wp2_with fail
    clear tv
    clear bHA lHA
    refine (toTable_any _ _ _ _ _ HLHA.out HA.out.row hn HPHA.out.1).mono ?_
    rintro e w2 ⟨A2, c2, cs2, rfl, hl, hs, ho, hk⟩
    replace HA := Lib.hid (HA.out.keep hk)
    have HR2 := Lib.hid (And.intro hl (And.intro hs ho.row))
    clear hk hl hs ho
    have bHA := HA.out.cell
    have lHA := HA.out.1.lt
    go_wp2_with fail
    clear bHA lHA
    refine (specFileSize_val (show fsizeV (ll cs2) a1 = V by rw [HR2.out.2.1]; exact HV.out) HR2.out.1 HR2.out.2.2 hn (small_cp HR2.out.2.1 HPHA.out.2)).mono ?_
    rintro e w3 ⟨rfl, hk⟩
    replace HA := Lib.hid (HA.out.keep hk)
    clear hk
    have bHA := HA.out.cell
    have lHA := HA.out.1.lt
    go_wp2_with fail
    have hp := HA.out.1.lt
    clear bHA lHA
    refine (toTable_any _ _ _ _ _ HLHA.out HA.out.row hn HPHA.out.1).mono ?_
    rintro e w4 ⟨A3, c3, cs3, rfl, hl, hs, ho, hk⟩
    obtain ⟨loHX, hiHX, hx, qHX, rHX, sHX⟩ : ∃ lo hi, VT w w4.heap.size A3 n0f0 c3 cs3 lo hi (w4.alloc (.cells #[.slice A3 n0f0 c3] 25)) ∧ w.heap.size < lo ∧ lo ≤ hi ∧ hi ≤ w4.heap.size := ⟨_, _, VT.start HA.out.2.2.2 hl ho hk, hp, hk.size, Nat.le_refl _⟩
    replace HA := Lib.hid (HA.out.keep hk)
    have bHA := HA.out.cell
    have lHA := HA.out.1.lt
    replace HA := Lib.hid (HA.out.keep (grown_alloc (grown_refl w4 none) (.cells #[.slice A3 n0f0 c3] 25)))
    have HX := Lib.hid hx
    have SHX := Lib.hid hs
    clear hk hl hs ho hx hp
    go_wp2_with fail
    clear bHA lHA
    refine (fileSize_val (show fsizeV (ll cs3) a1 = V by rw [SHX.out]; exact HV.out) HX.out.2.2.1 HX.out.row hn (small_cp SHX.out HPHA.out.2)).mono ?_
    rintro e w5 ⟨rfl, hk⟩
    replace HA := Lib.hid (HA.out.keep hk)
    replace HX := Lib.hid (HX.out.keep hk)
    clear hk
    have bHA := HA.out.cell
    have lHA := HA.out.1.lt
    have bHX := HX.out.cell
    have lHX := HX.out.1.lt
    go_wp2_with fail
    refine wp_region_held_drew (S := (fun w' => w'.cell? ⟨w4.heap.size, 0, none⟩ = some (.slice A3 n0f0 c3) ∧ w'.cell? ⟨w.heap.size, 0, none⟩ = some (.slice a0f0 n0f0 c0f0))) (by kernel_rfl) ?_ (fun hHeld => ?_)
    · exact ⟨bHX, bHA⟩
    replace HA := Lib.hid (HA.out.keep (grown_drew (grown_refl _ none)))
    replace HX := Lib.hid (HX.out.keep (grown_drew (grown_refl _ none)))
    refine held_yes (i := 0) (d := some 26) (v := ?_) rfl rfl (by kernel_rfl) (by kernel_rfl) (by kernel_rfl) (fun _ _ _ h => h) (by rfl) ?_ (by assumption) ?_
    rotate_left
    · (intro w hSw; (try dsimp only at hSw); go_simp; (first | done | with_reducible rfl))
    try simp only [Act.put, List.setIfInBounds_toArray, List.set_cons_zero, List.set_cons_succ]
    refine held_yes (i := 1) (d := some 27) (v := ?_) rfl rfl (by kernel_rfl) (by kernel_rfl) (by kernel_rfl) (fun _ _ _ h => h) (by rfl) ?_ (by assumption) ?_
    rotate_left
    · (intro w hSw; (try dsimp only at hSw); go_simp; (first | done | with_reducible rfl))
    try simp only [Act.put, List.setIfInBounds_toArray, List.set_cons_zero, List.set_cons_succ]
    refine wpAnyH_ready (rs := [2]) (by kernel_rfl) (by simp) ?_
    refine AllReadyH.cons rfl (fun K hK => ?_) AllReadyH.nil
    go_simp
    go_at_call 40
    clear bHA lHA bHX lHX
    refine (toTable_any _ _ _ _ _ HLHA.out HA.out.row hn HPHA.out.1).mono ?_
    rintro e w6 ⟨A4, c4, cs4, rfl, hl, hs, ho, hk⟩
    replace HA := Lib.hid (HA.out.keep hk)
    replace HX := Lib.hid (HX.out.keep hk)
    have HR4 := Lib.hid (And.intro hl (And.intro hs ho.row))
    clear hk hl hs ho
    have bHA := HA.out.cell
    have lHA := HA.out.1.lt
    have bHX := HX.out.cell
    have lHX := HX.out.1.lt
    refine hK.out _ _ ?_ (fun hHeld => ?_)
    · exact ⟨bHX, bHA⟩
    clear hK K
    try simp only [Act.put, List.setIfInBounds_toArray, List.set_cons_zero, List.set_cons_succ]
    refine wpAnyH_ready (rs := [3]) (by kernel_rfl) (by simp) ?_
    refine AllReadyH.cons rfl (fun K hK => ?_) AllReadyH.nil
    go_simp
    go_at_call 41
    clear bHA lHA bHX lHX
    refine (eqTable_same _ _ _ _ _ _ _ _ HX.out.2.2.1 (SHX.out.trans HR4.out.2.1.symm) HX.out.row HR4.out.2.2 hn (by rw [SHX.out]; exact HPHA.out.2)).mono ?_
    rintro e w7 ⟨rfl, hk⟩
    replace HA := Lib.hid (HA.out.keep hk)
    replace HX := Lib.hid (HX.out.keep hk)
    clear hk
    have bHA := HA.out.cell
    have lHA := HA.out.1.lt
    have bHX := HX.out.cell
    have lHX := HX.out.1.lt
    refine hK.out _ _ ?_ (fun hHeld => ?_)
    · exact ⟨bHX, bHA⟩
    clear hK K
    try simp only [Act.put, List.setIfInBounds_toArray, List.set_cons_zero, List.set_cons_succ]
    refine held_yes (i := 4) (d := some 30) (v := ?_) rfl rfl (by kernel_rfl) (by kernel_rfl) (by kernel_rfl) (fun _ _ _ h => h) (by rfl) ?_ (by assumption) ?_
    rotate_left
    · (intro w hSw; (try dsimp only at hSw); go_simp; (first | done | with_reducible rfl))
    try simp only [Act.put, List.setIfInBounds_toArray, List.set_cons_zero, List.set_cons_succ]
    refine wpAnyH_done (by kernel_rfl) ?_ _
    go_wp2
    go_ret
    exact ⟨rfl, grown_below HA.out.2.2.2⟩

/-! ### THE ROW's STEP: WRITTEN OUT: LEAVE IT -/
set_option maxRecDepth 100000 in
theorem lifted (os : Os) (started : os.Started) (H : Type) (enc : TypeId × Value → H) :
    ReturnsInHanded {} Try.checked os 9 .any (Rows.fnExactFileSizeSpec.pre6 enc Try.prog Try.f9 Rows.fnExactFileSizeRow.domain false) (Rows.fnExactFileSizeSpec.post enc Try.prog Try.f9 false true false false) := by
  refine returnsInHanded_of_change (C := Try.checked) own started (by kernel_rfl) Try.func9
    (ChangeSpec.witness6 (enc := enc) (C := Try.checked) false ⟨#[], #[.agg #[.slice none 0 0], .int .i64 0], []⟩ 8 (by kernel_rfl) (by kernel_rfl) (by kernel_rfl) (by kernel_rfl)) ?_
  intro W base args ds gs before hval0 hW hcnd _
  have hval : ∀ (j : Nat) t v, Try.f9.params[j]? = some t → args[j]? = some v → Value.okWide Try.prog W .any base t v := hval0
  have hW' := hW
  obtain ⟨p, q, hA0, hV, rfl, hfz, hnd⟩ := hW
  have hA : DataW.TrodAll enc Try.prog W 0 (fun _ => true) true Try.f9.params.toList args.toList ds p := hA0
  rw [Try.params9] at hA hval
  obtain ⟨v0, vs0, d0, ds0, p0, q0, hargs, rfl, rfl, h0, r0⟩ := trodAll_cons hA
  obtain ⟨v1, vs1, d1, ds1, p1, q1, rfl, rfl, rfl, h1, r1⟩ := trodAll_cons r0
  obtain ⟨rfl, rfl, rfl⟩ := trodAll_nil r1
  obtain rfl : args = #[v0, v1] := by cases args; simp_all
  obtain ⟨rfl, rfl⟩ := trodVars_none hV
  have k0 := h0
  have lt0 : ∀ x ∈ p0, x.block < W.heap.size := by obtain ⟨m, hm⟩ := k0; exact DataW.trod_lt m _ _ _ hm
  obtain ⟨c0, rfl, l0, f0⟩ := open_agg Try.underlying55 (by kernel_rfl) (by kernel_rfl) (hval 0 55 v0 rfl rfl) h0
  obtain ⟨v0f0, rfl⟩ := list1 l0
  obtain ⟨n0f0, y0f0, t0f0⟩ := f0 0 _ _ rfl rfl
  obtain ⟨a0f0, n0f0, c0f0, p0f0, rfl, w0f0⟩ := open_lists t0f0
  obtain ⟨a1, rfl, rfl, rfl, w1⟩ := open_int Try.underlying3 (hval 1 3 v1 rfl rfl) h1
  clear hA0 hval0
  refine (walk a0f0 n0f0 c0f0 p0f0 a1 W w0f0 w1).mono fun e W' ⟨he, bel⟩ => ?_
  subst he
  exact ⟨_, rfl, _, _, _, [], _, [], hW', trodAll_mk1 (shut_bool Try.underlying4 _), (trodAll_cons_mk (Below.trod laidOut (by kernel_rfl) (of_decide_eq_true (by kernel_rfl)) k0 bel lt0) (trodAll_cons_mk (shut_int Try.underlying3 w1) trodAll_mk0)), rfl, bel.frame _, fun h => by cases h⟩

theorem over : Rows.fnExactFileSizeRow.holds Try.pinned (OpenSpec.ofChange Rows.fnExactFileSizeSpec) :=
  OpenClaim.holds_of_wide 9 Try.f9 rfl rfl rfl rfl rfl rfl rfl ⟨rfl, rfl, rfl, rfl, rfl⟩ rfl rfl rfl rfl rfl (by kernel_rfl) Try.func9 (by kernel_rfl)
    (of_decide_eq_true (by kernel_rfl)) (by unfold Func.isWrapper; first | (rw [if_pos (by decide +kernel)]; kernel_rfl) | (rw [if_neg (by decide +kernel)]; exact ⟨rfl, rfl⟩))
    (fun os started H enc _ => lifted os started H enc)

/-- ████ THE STATEMENT ████ -/
theorem proved : Rows.FnExactFileSizeSaid := over
#print axioms proved
end Go.Proofs.Ytfiajbkmklcaiaa.fnExactFileSize
