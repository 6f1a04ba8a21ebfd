/- For every code, CutFile answers of the drawn table, file and place as its model, takes away the pages of the file from the place on and no others: proved.
   Conditions: none beyond the row's own reading of the input. The frame was written by the guide's proof-skeleton; the walk is ours. -/
import Derived.Test.YtfiajbkmklcaiaaFileFacts
import Derived.Test.YtfiajbkmklcaiaaHand
import Derived.Test.YtfiajbkmklcaiaaRows
import Derived.WalkKit
import Derived.ProofKit
import Derived.OpenShut
import Derived.ShutString
import Derived.ChangeOld
import Derived.Below
namespace Go.Proofs.Ytfiajbkmklcaiaa.fnCutFile
open Go.ChangeShapes Go.WideShapes Go.ChangeAt Go.RowKit
open Go.ChangeMaps (open_string shut_string)
set_option linter.unusedVariables false
set_option linter.unusedSimpArgs false

theorem own : ownKnob Try.prog.godebug = none := by kernel_rfl
theorem laidOut : laidOutB Try.prog = true := by kernel_rfl

/-- WHAT THE WALK IS TOLD OF A SLICE OF INTEGERS THAT CAME IN: it is nil; or it leads to a row of 'cap' cells, the numbers 'zs' (the first 'len' are its elements, the rest its spare room), each fitting its kind. -/
def IsRow (k : IntKind) (w : World) (a : Option Addr) (len cap : Nat) (zs : List Int) : Prop :=
  (a = none ∧ len = 0 ∧ cap = 0 ∧ zs = []) ∨
  ∃ x, a = some x ∧ len ≤ cap ∧ cap ≤ maxLen ∧ zs.length = cap ∧ (∀ i, i < zs.length → w.cell? (x.add i) = some (.int k (zs.getD i 0))) ∧ ∀ n ∈ zs, (Lit.int k n).wf = true

/-! ### STEP 1: THE WALK: the Go text returns true, AND WRITES NOTHING THAT WAS THERE: 'Below w.heap.size w w'' (Derived/Below.lean: '.refl', '.alloc', '.drew', '.setCell' at a new block, '.trans'). Open each 'IsRow' by 'rcases' AHEAD of 'go_enter'; part every test ahead of the walk. -/
set_option maxHeartbeats 4000000 in
set_option maxRecDepth 100000 in
theorem walk (a0 : Option Addr) (len0 cap0 : Nat) (z0 : List Int) (w : World) (w0 : IsRow .u8 w a0 len0 cap0 z0) :
    Calls Try.prog 7 #[.slice a0 len0 cap0] w fun e w' => e = .returned (.bool true) ∧ Below w.heap.size w w' := by
  obtain ⟨hl, hc, hb⟩ := bytes_of w0
  by_cases hbig : 1048576 < len0
  · go_enter Try.func7, Try.ntmps7
    go_wp2
    go_ret
    exact ⟨rfl, Below.refl _ _⟩
  · go_enter Try.func7, Try.ntmps7
    go_wp2_with fail
    refine (drawCutFile_any w a0 len0 cap0 hl hc hb).mono ?_
    rintro e wa ⟨A, n, c, ls, f, p, rfl, hln, h8, h6, _, hlt⟩
    have HS := Lib.hid (LV.start hlt n c)
    have HL := Lib.hid (And.intro hln (fun (l : Li) (hq : l ∈ ls) => show l.xs.length ≤ 1048576 by have := h6 l hq; omega))
    have hn : n ≤ 1048576 := by omega
    clear hb w0 hlt hln h6
    obtain ⟨X, hX⟩ : ∃ X, cutV (ll ls) f p = X := ⟨_, rfl⟩
    have HV := Lib.hid hX
    have hcase := cut_cases hX
    have hsm := cut_small hX
    clear hX
    go_wp2_with fail
    have hbl := HS.out.2.2
    refine (cut_v HV.out HL.out.1 HS.out.2.1 hn HL.out.2).mono ?_
    rintro e w1 ⟨n1, A1, c1, cs1, rfl, hl1, hs1, ho, hk⟩
    have hx := LV.made hbl ho hk
    replace HS := Lib.hid ((HS.out.keep hk).keep (grown_alloc (grown_refl w1 none) (.cells #[.slice A1 n1 c1] 25)))
    have HX := Lib.hid hx
    have hsm1 := hsm
    rw [← hs1] at hsm1
    have hn1 : n1 ≤ 1048576 := by have h1 := hsm1.1; rw [ll_length] at h1; omega
    have IX := Lib.hid (And.intro hl1 (And.intro hs1 (fun (l : Li) (hq : l ∈ cs1) => show l.xs.length ≤ 1048576 by have := hsm1.2 l.xs (List.mem_map_of_mem hq); omega)))
    clear hbl ho hk hx hl1 hs1 hsm1
    have bHS := HS.out.cell
    have bHX := HX.out.cell
    go_wp2_with fail
    clear bHS bHX
    refine wp_region_held_drew (S := (fun w' => w'.cell? ⟨w1.heap.size, 0, none⟩ = some (.slice A1 n1 c1) ∧ w'.cell? ⟨wa.heap.size, 0, none⟩ = some (.slice A n c))) (by kernel_rfl) ?_ (fun hHeld => ?_)
    · exact ⟨HX.out.cell, HS.out.cell⟩
    refine held_yes (i := 0) (d := some 23) (v := ?_) rfl rfl (by kernel_rfl) (by kernel_rfl) (by kernel_rfl) (fun _ _ _ h => h) (by rfl) ?_ (by assumption) ?_
    rotate_left
    · (intro w hSw; (try dsimp only at hSw); go_simp; (first | done | with_reducible rfl))
    try simp only [Act.put, List.setIfInBounds_toArray, List.set_cons_zero, List.set_cons_succ]
    refine held_yes (i := 1) (d := some 24) (v := ?_) rfl rfl (by kernel_rfl) (by kernel_rfl) (by kernel_rfl) (fun _ _ _ h => h) (by rfl) ?_ (by assumption) ?_
    rotate_left
    · (intro w hSw; (try dsimp only at hSw); go_simp; (first | done | with_reducible rfl))
    try simp only [Act.put, List.setIfInBounds_toArray, List.set_cons_zero, List.set_cons_succ]
    refine held_yes (i := 2) (d := some 25) (v := ?_) rfl rfl (by kernel_rfl) (by kernel_rfl) (by kernel_rfl) (fun _ _ _ h => h) (by rfl) ?_ (by assumption) ?_
    rotate_left
    · (intro w hSw; (try dsimp only at hSw); go_simp; (first | done | with_reducible rfl))
    try simp only [Act.put, List.setIfInBounds_toArray, List.set_cons_zero, List.set_cons_succ]
    refine held_yes (i := 3) (d := some 26) (v := ?_) rfl rfl (by kernel_rfl) (by kernel_rfl) (by kernel_rfl) (fun _ _ _ h => h) (by rfl) ?_ (by assumption) ?_
    rotate_left
    · (intro w hSw; (try dsimp only at hSw); go_simp; (first | done | with_reducible rfl))
    try simp only [Act.put, List.setIfInBounds_toArray, List.set_cons_zero, List.set_cons_succ]
    refine wpAnyH_ready (rs := [4]) (by kernel_rfl) (by simp) ?_
    refine AllReadyH.cons rfl (fun K hK => ?_) AllReadyH.nil
    go_simp
    go_at_call 36; refine (specCut_v HV.out HL.out.1 (HS.out.keep (grown_drew (grown_refl _ none))).2.1 hn HL.out.2).mono ?_; rintro e w2 ⟨n2, A2, c2, cs2, rfl, hl2, hs2, ho, hk⟩; replace HS := Lib.hid ((HS.out.keep (grown_drew (grown_refl _ none))).keep hk); replace HX := Lib.hid ((HX.out.keep (grown_drew (grown_refl _ none))).keep hk); have hsm2 := hsm; rw [← hs2] at hsm2; have hn2 : n2 ≤ 1048576 := (by have h1 := hsm2.1; rw [ll_length] at h1; omega); have IY := Lib.hid (And.intro hl2 (And.intro hs2 (And.intro (fun (l : Li) (hq : l ∈ cs2) => show l.xs.length ≤ 1048576 by have := hsm2.2 l.xs (List.mem_map_of_mem hq); omega) ho.row))); clear hk ho hl2 hs2 hsm2
    refine hK.out _ _ ?_ (fun hHeld => ?_)
    · exact ⟨HX.out.cell, HS.out.cell⟩
    clear hK K
    try simp only [Act.put, List.setIfInBounds_toArray, List.set_cons_zero, List.set_cons_succ]
    refine wpAnyH_ready (rs := [5]) (by kernel_rfl) (by simp) ?_
    refine AllReadyH.cons rfl (fun K hK => ?_) AllReadyH.nil
    go_simp
    go_at_call 20; refine (sameTable_val (show decide (ll cs1 = ll cs2) = true by rw [IX.out.2.1, IY.out.2.1]; simp) IX.out.1 IY.out.1 HX.out.2.1 IY.out.2.2.2 hn1 hn2 IX.out.2.2 IY.out.2.2.1).mono ?_; rintro e w3 ⟨rfl, hk⟩; replace HS := Lib.hid (HS.out.keep hk); replace HX := Lib.hid (HX.out.keep hk); clear hk IY
    refine hK.out _ _ ?_ (fun hHeld => ?_)
    · exact ⟨HX.out.cell, HS.out.cell⟩
    clear hK K
    try simp only [Act.put, List.setIfInBounds_toArray, List.set_cons_zero, List.set_cons_succ]
    refine held_yes (i := 6) (d := some 29) (v := ?_) rfl rfl (by kernel_rfl) (by kernel_rfl) (by kernel_rfl) (fun _ _ _ h => h) (by rfl) ?_ (by assumption) ?_
    rotate_left
    · (intro w hSw; (try dsimp only at hSw); go_simp; (first | done | with_reducible rfl))
    try simp only [Act.put, List.setIfInBounds_toArray, List.set_cons_zero, List.set_cons_succ]
    refine wpAnyH_done (by kernel_rfl) ?_ _
    have bHS := HS.out.cell
    have bHX := HX.out.cell
    rcases hcase with rfl | ⟨fn, pn, xs, rfl, rfl, hf8, hp6, hv, hvX, hsz, hcell⟩
    · have hcs : ll cs1 = [] := IX.out.2.1
      have HC := Lib.hid hcs
      clear hcs
      go_wp2_with fail
      refine (tabValid_val (V := false) (show tabB (ll cs1) = false by rw [HC.out]; rfl) IX.out.1 HX.out.2.1 hn1 IX.out.2.2).mono ?_
      rintro e w4 ⟨rfl, hk⟩
      replace HS := Lib.hid (HS.out.keep hk)
      replace HX := Lib.hid (HX.out.keep hk)
      clear hk bHS bHX
      have bHS := HS.out.cell
      have bHX := HX.out.cell
      go_wp2_with fail
      refine (sameTable_val (ms := []) (A' := none) (n' := 0) (c' := 0) (show decide (ll cs1 = ll []) = true by rw [HC.out]; rfl) IX.out.1 rfl HX.out.2.1 TRow.nil hn1 (Nat.zero_le _) IX.out.2.2 (fun l hl => by simp at hl)).mono ?_
      rintro e w5 ⟨rfl, hk⟩
      replace HS := Lib.hid (HS.out.keep hk)
      replace HX := Lib.hid (HX.out.keep hk)
      clear hk bHS bHX
      have bHS := HS.out.cell
      have bHX := HX.out.cell
      go_wp2_with (go_at_call 17; refine (alive_any _).mono ?_; rintro e w' ⟨rfl, rfl⟩)
      go_ret
      exact ⟨rfl, HS.out.2.2⟩
    · have HC := Lib.hid (And.intro (show tabB (ll cs1) = true by rw [IX.out.2.1]; exact hvX) (And.intro (show ∀ f' k' : Nat, f' < 8 → k' < 6 → tgetV (ll cs1) f' k' = if f' = fn ∧ pn ≤ k' then -1 else tgetV (ll ls) f' k' by rw [IX.out.2.1]; exact hcell) (show fsizeV (ll cs1) (fn : Int) ≤ pn by rw [IX.out.2.1]; exact hsz)))
      clear hv hvX hsz hcell hsm
      go_wp2_with fail
      refine (tabValid_val HC.out.1 IX.out.1 HX.out.2.1 hn1 IX.out.2.2).mono ?_
      rintro e w4 ⟨rfl, hk⟩
      replace HS := Lib.hid (HS.out.keep hk)
      replace HX := Lib.hid (HX.out.keep hk)
      clear hk bHS bHX
      have bHS := HS.out.cell
      have bHX := HX.out.cell
      go_wp2
      go_loopw [7] (fun i wr => ∃ g : Nat, i = .int .i64 g ∧ g ≤ 8 ∧ LV w wa.heap.size A n c ls wr ∧ LV w w1.heap.size A1 n1 c1 cs1 wr) (fun i _ => 8 - (intOf i).toNat)
      case atStart => exact ⟨0, rfl, Nat.zero_le _, HS.out, HX.out⟩
      case round =>
        rename World => wq
        obtain ⟨g, rfl, hg8, hS, hX⟩ := hrel
        clear bHS bHX
        replace HS := Lib.hid hS
        replace HX := Lib.hid hX
        clear hS hX
        have bHS := HS.out.cell
        have bHX := HX.out.cell
        by_cases hg : g < 8
        · have g7 : (g : Int) < 8 := by omega
          have g7' : g < 8 := hg
          go_wp2
          go_loopw [8] (fun i wr => ∃ k : Nat, i = .int .i64 k ∧ k ≤ 6 ∧ LV w wa.heap.size A n c ls wr ∧ LV w w1.heap.size A1 n1 c1 cs1 wr) (fun i _ => 6 - (intOf i).toNat)
          case atStart => exact ⟨0, rfl, Nat.zero_le _, HS.out, HX.out⟩
          case round =>
            rename World => wz
            obtain ⟨k, rfl, hk6, hS, hX⟩ := hrel
            clear bHS bHX
            replace HS := Lib.hid hS
            replace HX := Lib.hid hX
            clear hS hX
            have bHS := HS.out.cell
            have bHX := HX.out.cell
            by_cases hk : k < 6
            · have k5 : (k : Int) ≤ 5 := by omega
              have hc2 := HC.out.2.1 g k hg hk
              obtain ⟨y, hy⟩ : ∃ y, tgetV (ll ls) (g : Int) (k : Int) = y := ⟨_, rfl⟩
              rw [hy] at hc2
              have HY := Lib.hid hy
              clear hy
              go_wp2_with fail
              refine (get_v HY.out HL.out.1 HS.out.2.1 hn HL.out.2).mono ?_
              rintro e w5 ⟨rfl, hk⟩
              replace HS := Lib.hid (HS.out.keep hk)
              replace HX := Lib.hid (HX.out.keep hk)
              clear hk bHS bHX
              have bHS := HS.out.cell
              have bHX := HX.out.cell
              by_cases e1 : g = fn
              · subst e1
                have t1 : ((g : Int) == (g : Int)) = true := by simp
                by_cases e2 : pn ≤ k
                · have t2 : decide ((pn : Int) ≤ (k : Int)) = true := decide_eq_true (by omega)
                  have t3 : decide (pn ≤ k) = true := decide_eq_true e2
                  rw [if_pos ⟨rfl, e2⟩] at hc2
                  have HC2 := Lib.hid hc2
                  clear hc2
                  go_wp2_with fail
                  refine (get_v HC2.out IX.out.1 HX.out.2.1 hn1 IX.out.2.2).mono ?_
                  rintro e w6 ⟨rfl, hk⟩
                  replace HS := Lib.hid (HS.out.keep hk)
                  replace HX := Lib.hid (HX.out.keep hk)
                  clear hk bHS bHX
                  go_wp2
                  go_roundw
                  case rel => exact ⟨k + 1, by go_num, by omega, HS.out, HX.out⟩
                  case measure => simp [intOf]; omega
                · have t2 : decide ((pn : Int) ≤ (k : Int)) = false := decide_eq_false (by omega)
                  have t3 : decide (pn ≤ k) = false := decide_eq_false e2
                  rw [if_neg (fun h => e2 h.2)] at hc2
                  have HC2 := Lib.hid hc2
                  have yy : (y != y) = false := by simp
                  clear hc2
                  go_wp2_with fail
                  refine (get_v HC2.out IX.out.1 HX.out.2.1 hn1 IX.out.2.2).mono ?_
                  rintro e w6 ⟨rfl, hk⟩
                  replace HS := Lib.hid (HS.out.keep hk)
                  replace HX := Lib.hid (HX.out.keep hk)
                  clear hk bHS bHX
                  go_wp2
                  go_roundw
                  case rel => exact ⟨k + 1, by go_num, by omega, HS.out, HX.out⟩
                  case measure => simp [intOf]; omega
              · have t1 : ((g : Int) == (fn : Int)) = false := by rw [beq_eq_false_iff_ne]; omega
                have t3 : (g == fn) = false := by rw [beq_eq_false_iff_ne]; exact e1
                rw [if_neg (fun h => e1 h.1)] at hc2
                have HC2 := Lib.hid hc2
                have yy : (y != y) = false := by simp
                clear hc2
                go_wp2_with fail
                refine (get_v HC2.out IX.out.1 HX.out.2.1 hn1 IX.out.2.2).mono ?_
                rintro e w6 ⟨rfl, hk⟩
                replace HS := Lib.hid (HS.out.keep hk)
                replace HX := Lib.hid (HX.out.keep hk)
                clear hk bHS bHX
                go_wp2
                go_roundw
                case rel => exact ⟨k + 1, by go_num, by omega, HS.out, HX.out⟩
                case measure => simp [intOf]; omega
            · obtain rfl : k = 6 := by omega
              go_wp2
              go_roundw
              case rel => exact ⟨g + 1, by go_num, by omega, HS.out, HX.out⟩
              case measure => simp [intOf]; omega
        · obtain rfl : g = 8 := by omega
          obtain ⟨V, hV⟩ : ∃ V, fsizeV (ll cs1) (fn : Int) = V := ⟨_, rfl⟩
          have v1 : decide (V ≤ (pn : Int)) = true := decide_eq_true (by rw [← hV]; exact HC.out.2.2)
          have HW := Lib.hid hV
          clear hV
          go_wp2_with fail
          refine (fileSize_val HW.out IX.out.1 HX.out.2.1 hn1 IX.out.2.2).mono ?_
          rintro e w5 ⟨rfl, hk⟩
          replace HS := Lib.hid (HS.out.keep hk)
          replace HX := Lib.hid (HX.out.keep hk)
          clear hk bHS bHX
          go_wp2
          go_ret
          exact ⟨rfl, HS.out.2.2⟩

/-! ### THE ROW's STEP: WRITTEN OUT: LEAVE IT -/
set_option maxRecDepth 100000 in
theorem lifted (os : Os) (started : os.Started) (H : Type) (enc : TypeId × Value → H) :
    ReturnsInHanded {} Try.checked os 7 .any (Rows.fnCutFileSpec.pre6 enc Try.prog Try.f7 Rows.fnCutFileRow.domain false) (Rows.fnCutFileSpec.post enc Try.prog Try.f7 false true false false) := by
  refine returnsInHanded_of_change (C := Try.checked) own started (by kernel_rfl) Try.func7
    (ChangeSpec.witness6 (enc := enc) (C := Try.checked) false ⟨#[], #[.slice none 0 0], []⟩ 8 (by kernel_rfl) (by kernel_rfl) (by kernel_rfl) (by kernel_rfl)) ?_
  intro W base args ds gs before hval0 hW hcnd _
  have hval : ∀ (j : Nat) t v, Try.f7.params[j]? = some t → args[j]? = some v → Value.okWide Try.prog W .any base t v := hval0
  have hW' := hW
  obtain ⟨p, q, hA0, hV, rfl, hfz, hnd⟩ := hW
  have hA : DataW.TrodAll enc Try.prog W 0 (fun _ => true) true Try.f7.params.toList args.toList ds p := hA0
  rw [Try.params7] at hA hval
  obtain ⟨v0, vs0, d0, ds0, p0, q0, hargs, rfl, rfl, h0, r0⟩ := trodAll_cons hA
  obtain ⟨rfl, rfl, rfl⟩ := trodAll_nil r0
  obtain rfl : args = #[v0] := by cases args; simp_all
  obtain ⟨rfl, rfl⟩ := trodVars_none hV
  obtain ⟨a0, len0, cap0, rfl⟩ := okWide_slice Try.underlying22 (hval 0 22 v0 rfl rfl)
  have k0 := h0
  have lt0 : ∀ x ∈ p0, x.block < W.heap.size := by obtain ⟨m, hm⟩ := k0; exact DataW.trod_lt m _ _ _ hm
  obtain ⟨z0, w0⟩ : ∃ zs, IsRow .u8 W a0 len0 cap0 zs := by
    obtain ⟨fuel, hf⟩ := h0
    rcases open_ints Try.underlying22 Try.underlying5 (by kernel_rfl) hf with ⟨hcs, _⟩ | ⟨x, l, c, zs, hcs, _, hl, hm, hz, _, hcell, hwz⟩
    · simp [Value.cells] at hcs
      obtain ⟨rfl, rfl, rfl⟩ := hcs
      exact ⟨[], .inl ⟨rfl, rfl, rfl, rfl⟩⟩
    · simp [Value.cells] at hcs
      obtain ⟨rfl, rfl, rfl⟩ := hcs
      exact ⟨zs, .inr ⟨_, rfl, hl, hm, by simpa using hz, hcell, hwz⟩⟩
  clear hA0 hval0
  refine (walk a0 len0 cap0 z0 W w0).mono fun e W' ⟨he, bel⟩ => ?_
  subst he
  exact ⟨_, rfl, _, _, _, [], _, [], hW', trodAll_mk1 (shut_bool Try.underlying4 _), (trodAll_cons_mk (Below.trod laidOut (by kernel_rfl) (of_decide_eq_true (by kernel_rfl)) k0 bel lt0) trodAll_mk0), rfl, bel.frame _, fun h => by cases h⟩

theorem over : Rows.fnCutFileRow.holds Try.pinned (OpenSpec.ofChange Rows.fnCutFileSpec) :=
  OpenClaim.holds_of_wide 7 Try.f7 rfl rfl rfl rfl rfl rfl rfl ⟨rfl, rfl, rfl, rfl, rfl⟩ rfl rfl rfl rfl rfl (by kernel_rfl) Try.func7 (by kernel_rfl)
    (of_decide_eq_true (by kernel_rfl)) (by unfold Func.isWrapper; first | (rw [if_pos (by decide +kernel)]; kernel_rfl) | (rw [if_neg (by decide +kernel)]; exact ⟨rfl, rfl⟩))
    (fun os started H enc _ => lifted os started H enc)

/-- ████ THE STATEMENT ████ -/
theorem proved : Rows.FnCutFileSaid := over
#print axioms proved
end Go.Proofs.Ytfiajbkmklcaiaa.fnCutFile
