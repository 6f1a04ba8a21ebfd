/- For every code, TableOf answers of the drawn device as its model, names for every written page's file and place a page of no lesser stamp, and only written pages, each of its file and place: proved.
   Conditions: none beyond the row's own reading of the input. The frame was written by the guide's proof-skeleton; the walk is ours. -/
import Derived.Test.YtfiajbkmklcaiaaTabFacts
import Derived.Test.YtfiajbkmklcaiaaHand
import Derived.Test.YtfiajbkmklcaiaaRows
import Derived.WalkKit
import Derived.ProofKit
import Derived.OpenShut
import Derived.ShutString
import Derived.ChangeOld
import Derived.Below
namespace Go.Proofs.Ytfiajbkmklcaiaa.fnTableOf
open Go.ChangeShapes Go.WideShapes Go.ChangeAt Go.RowKit
open Go.ChangeMaps (open_string shut_string)
set_option linter.unusedVariables false
set_option linter.unusedSimpArgs false

theorem own : ownKnob Try.prog.godebug = none := by kernel_rfl
theorem laidOut : laidOutB Try.prog = true := by kernel_rfl

/-- WHAT THE WALK IS TOLD OF A SLICE OF INTEGERS THAT CAME IN: it is nil; or it leads to a row of 'cap' cells, the numbers 'zs' (the first 'len' are its elements, the rest its spare room), each fitting its kind. -/
def IsRow (k : IntKind) (w : World) (a : Option Addr) (len cap : Nat) (zs : List Int) : Prop :=
  (a = none ∧ len = 0 ∧ cap = 0 ∧ zs = []) ∨
  ∃ x, a = some x ∧ len ≤ cap ∧ cap ≤ maxLen ∧ zs.length = cap ∧ (∀ i, i < zs.length → w.cell? (x.add i) = some (.int k (zs.getD i 0))) ∧ ∀ n ∈ zs, (Lit.int k n).wf = true

/-! ### STEP 1: THE WALK: the Go text returns true, AND WRITES NOTHING THAT WAS THERE: 'Below w.heap.size w w'' (Derived/Below.lean: '.refl', '.alloc', '.drew', '.setCell' at a new block, '.trans'). Open each 'IsRow' by 'rcases' AHEAD of 'go_enter'; part every test ahead of the walk. -/
set_option maxHeartbeats 8000000 in
set_option maxRecDepth 100000 in
theorem walk (a0 : Option Addr) (len0 cap0 : Nat) (z0 : List Int) (w : World) (w0 : IsRow .u8 w a0 len0 cap0 z0) :
    Calls Try.prog 4 #[.slice a0 len0 cap0] w fun e w' => e = .returned (.bool true) ∧ Below w.heap.size w w' := by
  obtain ⟨hl, hc, hb⟩ := bytes_of w0
  by_cases hbig : 1048576 < len0
  · go_enter Try.func4, Try.ntmps4
    go_wp2
    go_ret
    exact ⟨rfl, Below.refl _ _⟩
  · go_enter Try.func4, Try.ntmps4
    go_wp2_with fail
    refine (drawTableOf_any w a0 len0 cap0 hl hc hb).mono ?_
    rintro e wa ⟨D, nd, cd, bs, rfl, hb1, hb13, hb4, hrow, hbel⟩
    have hbl := And.intro hb1 (And.intro hb13 hb4)
    have hld : LD w D bs wa := ⟨hrow, hbel⟩
    clear hb1 hb13 hb4 hrow hbel
    have HD := Lib.hid (And.intro (And.intro hbl.1 (fun (q : Bk) (hq : q ∈ bs) => show q.ps.length ≤ 1048576 by have := hbl.2.2 q hq; omega)) hld)
    have hnd : nd ≤ 1048576 := by have := hbl.2.1; omega
    have hnd13 : nd ≤ 13 := hbl.2.1
    obtain ⟨X, m, hof, hm8, hX6⟩ := tof_is hbl.1
    have HO := Lib.hid hof
    have hcase : (devB bs = false ∧ X = []) ∨ devB bs = true := by cases hd : devB bs; exact .inl ⟨rfl, by rw [← hof.1, of_no hd]⟩; exact .inr rfl
    have hfacts : devB bs = true → _ := fun hd => tof_facts hd hof hbl.1
    clear hb w0 hbl hld hof
    go_wp2_with fail
    refine (tableOf_val HO.out HD.out.1.1 HD.out.2.1 hnd HD.out.1.2).mono ?_
    rintro e w1 ⟨A1, c1, cs1, rfl, hl1, hs1, ho, hk⟩
    have HX := Lib.hid (LV.made HD.out.2.2 ho hk)
    replace HD := Lib.hid (And.intro HD.out.1 (HD.out.2.keep (grown_alloc hk (.cells #[.slice A1 m c1] 25))))
    have hn1 : m ≤ 1048576 := by omega
    have IX := Lib.hid (And.intro hl1 (And.intro hs1 (fun (l : Li) (hq : l ∈ cs1) => show l.xs.length ≤ 1048576 by have h1 := List.mem_map_of_mem (f := Li.xs) hq; have h2 : l.xs ∈ X := (by rw [← hs1]; exact h1); rw [hX6 l.xs h2]; omega)))
    clear ho hk hl1 hs1
    go_wp2_with fail
    refine wp_region_held_drew (S := (fun w' => w'.cell? ⟨w1.heap.size, 0, none⟩ = some (.slice A1 m c1))) (by kernel_rfl) ?_ (fun hHeld => ?_)
    · exact HX.out.cell
    refine held_yes (i := 0) (d := some 20) (v := ?_) rfl rfl (by kernel_rfl) (by kernel_rfl) (by kernel_rfl) (fun _ _ _ h => h) (by rfl) ?_ (by assumption) ?_
    rotate_left
    · (intro w hSw; (try dsimp only at hSw); go_simp; (first | done | with_reducible rfl))
    try simp only [Act.put, List.setIfInBounds_toArray, List.set_cons_zero, List.set_cons_succ]
    refine held_yes (i := 1) (d := some 21) (v := ?_) rfl rfl (by kernel_rfl) (by kernel_rfl) (by kernel_rfl) (fun _ _ _ h => h) (by rfl) ?_ (by assumption) ?_
    rotate_left
    · (intro w hSw; (try dsimp only at hSw); go_simp; (first | done | with_reducible rfl))
    try simp only [Act.put, List.setIfInBounds_toArray, List.set_cons_zero, List.set_cons_succ]
    refine wpAnyH_ready (rs := [2]) (by kernel_rfl) (by simp) ?_
    refine AllReadyH.cons rfl (fun K hK => ?_) AllReadyH.nil
    go_simp
    go_at_call 21; refine (specTableOf_val HO.out HD.out.1.1 (HD.out.2.keep (grown_drew (grown_refl _ none))).1 hnd HD.out.1.2).mono ?_; rintro e w2 ⟨A2, c2, cs2, rfl, hl2, hs2, ho, hk⟩; replace HD := Lib.hid (And.intro HD.out.1 ((HD.out.2.keep (grown_drew (grown_refl _ none))).keep hk)); replace HX := Lib.hid ((HX.out.keep (grown_drew (grown_refl _ none))).keep hk); have IY := Lib.hid (And.intro hl2 (And.intro hs2 (And.intro (fun (l : Li) (hq : l ∈ cs2) => show l.xs.length ≤ 1048576 by (have h1 := List.mem_map_of_mem (f := Li.xs) hq; have h2 : l.xs ∈ X := (by rw [← hs2]; exact h1); rw [hX6 l.xs h2]; omega)) ho.row))); clear hk ho hl2 hs2
    refine hK.out _ _ ?_ (fun hHeld => ?_)
    · exact HX.out.cell
    clear hK K
    try simp only [Act.put, List.setIfInBounds_toArray, List.set_cons_zero, List.set_cons_succ]
    refine wpAnyH_ready (rs := [3]) (by kernel_rfl) (by simp) ?_
    refine AllReadyH.cons rfl (fun K hK => ?_) AllReadyH.nil
    go_simp
    go_at_call 20; refine (sameTable_val (show decide (ll cs1 = ll cs2) = true by rw [IX.out.2.1, IY.out.2.1]; simp) IX.out.1 IY.out.1 HX.out.2.1 IY.out.2.2.2 hn1 hn1 IX.out.2.2 IY.out.2.2.1).mono ?_; rintro e w3 ⟨rfl, hk⟩; replace HD := Lib.hid (And.intro HD.out.1 (HD.out.2.keep hk)); replace HX := Lib.hid (HX.out.keep hk); clear hk IY
    refine hK.out _ _ ?_ (fun hHeld => ?_)
    · exact HX.out.cell
    clear hK K
    try simp only [Act.put, List.setIfInBounds_toArray, List.set_cons_zero, List.set_cons_succ]
    refine held_yes (i := 4) (d := some 24) (v := ?_) rfl rfl (by kernel_rfl) (by kernel_rfl) (by kernel_rfl) (fun _ _ _ h => h) (by rfl) ?_ (by assumption) ?_
    rotate_left
    · (intro w hSw; (try dsimp only at hSw); go_simp; (first | done | with_reducible rfl))
    try simp only [Act.put, List.setIfInBounds_toArray, List.set_cons_zero, List.set_cons_succ]
    refine wpAnyH_done (by kernel_rfl) ?_ _
    have bHX := HX.out.cell
    rcases hcase with ⟨hd, rfl⟩ | hd
    · have hcs : ll cs1 = [] := IX.out.2.1
      have HC := Lib.hid (And.intro hcs hd)
      clear hcs hd hfacts
      go_wp2_with fail
      refine (deviceValid_val HD.out.1.1 HC.out.2 _ HD.out.2.1 hnd HD.out.1.2).mono ?_
      rintro e w4 ⟨rfl, hk⟩
      replace HD := Lib.hid (And.intro HD.out.1 (HD.out.2.keep hk))
      replace HX := Lib.hid (HX.out.keep hk)
      clear hk bHX
      have bHX := HX.out.cell
      go_wp2_with fail
      refine (sameTable_val (ms := []) (A' := none) (n' := 0) (c' := 0) (show decide (ll cs1 = ll []) = true by rw [HC.out.1]; rfl) IX.out.1 rfl HX.out.2.1 TRow.nil hn1 (Nat.zero_le _) IX.out.2.2 (fun l hl => by simp at hl)).mono ?_
      rintro e w5 ⟨rfl, hk⟩
      replace HX := Lib.hid (HX.out.keep hk)
      clear hk bHX
      go_wp2_with (go_at_call 17; refine (alive_any _).mono ?_; rintro e w' ⟨rfl, rfl⟩)
      go_ret
      exact ⟨rfl, HX.out.2.2⟩
    · have hf := hfacts hd
      have HF := Lib.hid (And.intro hd (show tabB (ll cs1) = true ∧ (∀ (k : Nat) (p : Pg), k < 4 * nd → readV bs (k : Int) = p → p.f = true → ∃ (y : Int) (q : Pg), tgetV (ll cs1) p.a p.b = y ∧ readV bs y = q ∧ q.f = true ∧ p.d ≤ q.d ∧ sameB p.f p.a p.b p.c p.d q.f q.a q.b q.c q.d = true) ∧ ∀ f : Nat, f < 8 → (fvalV bs (ll cs1) f).2 = true by rw [IX.out.2.1]; exact hf))
      clear hf hfacts hd
      go_wp2_with fail
      refine (deviceValid_val HD.out.1.1 HF.out.1 _ HD.out.2.1 hnd HD.out.1.2).mono ?_
      rintro e w4 ⟨rfl, hk⟩
      replace HD := Lib.hid (And.intro HD.out.1 (HD.out.2.keep hk))
      replace HX := Lib.hid (HX.out.keep hk)
      clear hk bHX
      have bHX := HX.out.cell
      obtain ⟨M, hM⟩ : ∃ M, M = 4 * nd := ⟨_, rfl⟩
      have HM := Lib.hid hM
      clear hM
      go_wp2
      go_loopw [5] (fun i wr => ∃ k : Nat, i = .int .i64 k ∧ k ≤ M ∧ LV w w1.heap.size A1 m c1 cs1 wr ∧ LD w D bs wr) (fun i _ => M - (intOf i).toNat)
      case atStart => exact ⟨0, rfl, Nat.zero_le _, HX.out, HD.out.2⟩
      case round =>
        rename World => wq
        obtain ⟨k, rfl, hkz, hX, hD⟩ := hrel
        clear bHX
        replace HX := Lib.hid hX
        replace HD := Lib.hid (And.intro HD.out.1 hD)
        clear hX hD
        have bHX := HX.out.cell
        by_cases hk : k < M
        · have k1 : (k : Int) < 4 * (nd : Int) := by have := HM.out; omega
          obtain ⟨⟨pf, pa, pb, pc, pd⟩, hp⟩ : ∃ p, readV bs (k : Int) = p := ⟨_, rfl⟩
          have HP := Lib.hid hp
          clear hp
          cases pf
          · go_wp2_with fail
            refine (read_v HP.out HD.out.1.1 HD.out.2.1 hnd HD.out.1.2).mono ?_
            rintro e w5 ⟨rfl, hk⟩
            replace hk := grown_alloc hk (.cells #[.bool false, .int .i64 pa, .int .i64 pb, .int .i64 pc, .int .i64 pd] 37)
            replace HD := Lib.hid (And.intro HD.out.1 (HD.out.2.keep hk))
            replace HX := Lib.hid (HX.out.keep hk)
            clear hk bHX
            have bHX := HX.out.cell
            go_wp2
            go_roundw
            case rel => exact ⟨k + 1, by go_num, by omega, HX.out, HD.out.2⟩
            case measure => simp [intOf]; omega
          · obtain ⟨y, ⟨qf, qa, qb, qc, qd⟩, hy, hq, hqf, hle, hsame⟩ := HF.out.2.2.1 k _ (by have := HM.out; omega) HP.out rfl
            dsimp only at hy hqf hle hsame
            subst hqf
            have HY := Lib.hid (And.intro hy (And.intro hq hsame))
            have t1 : decide (qd < pd) = false := decide_eq_false (by omega)
            clear hy hq hsame hle
            go_wp2_with fail
            refine (read_v HP.out HD.out.1.1 HD.out.2.1 hnd HD.out.1.2).mono ?_
            rintro e w5 ⟨rfl, hk⟩
            replace hk := grown_alloc hk (.cells #[.bool true, .int .i64 pa, .int .i64 pb, .int .i64 pc, .int .i64 pd] 37)
            replace HD := Lib.hid (And.intro HD.out.1 (HD.out.2.keep hk))
            replace HX := Lib.hid (HX.out.keep hk)
            clear hk bHX
            have bHX := HX.out.cell
            have HB := Lib.hid (Blk.new w5 37 #[.bool true, .int .i64 pa, .int .i64 pb, .int .i64 pc, .int .i64 pd])
            obtain ⟨p0, p1, p2, p3, p4⟩ := cells5 HB.out
            go_wp2_with fail
            refine (get_v HY.out.1 IX.out.1 HX.out.2.1 hn1 IX.out.2.2).mono ?_
            rintro e w6 ⟨rfl, hk⟩
            replace HD := Lib.hid (And.intro HD.out.1 (HD.out.2.keep hk))
            replace HX := Lib.hid (HX.out.keep hk)
            replace HB := Lib.hid (HB.out.keep hk)
            clear hk bHX
            have bHX := HX.out.cell
            clear p0 p1 p2 p3 p4
            obtain ⟨p0, p1, p2, p3, p4⟩ := cells5 HB.out
            go_wp2_with fail
            refine (read_v HY.out.2.1 HD.out.1.1 HD.out.2.1 hnd HD.out.1.2).mono ?_
            rintro e w7 ⟨rfl, hk⟩
            replace hk := grown_alloc hk (.cells #[.bool true, .int .i64 qa, .int .i64 qb, .int .i64 qc, .int .i64 qd] 37)
            replace HD := Lib.hid (And.intro HD.out.1 (HD.out.2.keep hk))
            replace HX := Lib.hid (HX.out.keep hk)
            replace HB := Lib.hid (HB.out.keep hk)
            clear hk bHX
            have bHX := HX.out.cell
            clear p0 p1 p2 p3 p4
            obtain ⟨p0, p1, p2, p3, p4⟩ := cells5 HB.out
            have HQ := Lib.hid (Blk.new w7 37 #[.bool true, .int .i64 qa, .int .i64 qb, .int .i64 qc, .int .i64 qd])
            obtain ⟨q0, q1, q2, q3, q4⟩ := cells5 HQ.out
            go_wp2_with fail
            refine (same_val HY.out.2.2 _).mono ?_
            rintro e w8 ⟨rfl, hk'⟩
            replace HD := Lib.hid (And.intro HD.out.1 (HD.out.2.keep hk'))
            replace HX := Lib.hid (HX.out.keep hk')
            clear hk' bHX
            go_wp2
            go_roundw
            case rel => exact ⟨k + 1, by go_num, by omega, HX.out, HD.out.2⟩
            case measure => simp [intOf]; omega
        · obtain rfl : k = M := by omega
          have e8 : decide ((k : Int) < 4 * (nd : Int)) = false := decide_eq_false (by have := HM.out; omega)
          go_wp2
          go_loopw [10] (fun i wr => ∃ f : Nat, i = .int .i64 f ∧ f ≤ 8 ∧ LV w w1.heap.size A1 m c1 cs1 wr ∧ LD w D bs wr) (fun i _ => 8 - (intOf i).toNat)
          case atStart => exact ⟨0, rfl, Nat.zero_le _, HX.out, HD.out.2⟩
          case round =>
            rename World => wz
            obtain ⟨f, rfl, hf8, hX, hD⟩ := hrel
            clear bHX
            replace HX := Lib.hid hX
            replace HD := Lib.hid (And.intro HD.out.1 hD)
            clear hX hD
            have bHX := HX.out.cell
            by_cases hf : f < 8
            · have f7 : (f : Int) < 8 := by omega
              obtain ⟨Y, r, hY⟩ : ∃ Y r, fvalV bs (ll cs1) f = (Y, r) := ⟨_, _, rfl⟩
              have hr := HF.out.2.2.2 f hf
              rw [hY] at hr
              dsimp only at hr
              subst hr
              have HY := Lib.hid hY
              clear hY
              go_wp2_with fail
              refine (vals_v HY.out HD.out.1.1 HD.out.2.1 hnd HD.out.1.2 IX.out.1 HX.out.2.1 hn1 IX.out.2.2).mono ?_
              rintro e w9 ⟨AP, nP, cP, rfl, hlP, ho, hk'⟩
              replace HD := Lib.hid (And.intro HD.out.1 (HD.out.2.keep hk'))
              replace HX := Lib.hid (HX.out.keep hk')
              clear hk' ho hlP bHX
              go_wp2
              go_roundw
              case rel => exact ⟨f + 1, by go_num, by omega, HX.out, HD.out.2⟩
              case measure => simp [intOf]; omega
            · obtain rfl : f = 8 := by omega
              go_wp2_with fail
              refine (tabValid_val HF.out.2.1 IX.out.1 HX.out.2.1 hn1 IX.out.2.2).mono ?_
              rintro e w9 ⟨rfl, hk'⟩
              replace HX := Lib.hid (HX.out.keep hk')
              clear hk' bHX
              go_wp2
              go_ret
              exact ⟨rfl, HX.out.2.2⟩

/-! ### THE ROW's STEP: WRITTEN OUT: LEAVE IT -/
set_option maxRecDepth 100000 in
theorem lifted (os : Os) (started : os.Started) (H : Type) (enc : TypeId × Value → H) :
    ReturnsInHanded {} Try.checked os 4 .any (Rows.fnTableOfSpec.pre6 enc Try.prog Try.f4 Rows.fnTableOfRow.domain false) (Rows.fnTableOfSpec.post enc Try.prog Try.f4 false true false false) := by
  refine returnsInHanded_of_change (C := Try.checked) own started (by kernel_rfl) Try.func4
    (ChangeSpec.witness6 (enc := enc) (C := Try.checked) false ⟨#[], #[.slice none 0 0], []⟩ 8 (by kernel_rfl) (by kernel_rfl) (by kernel_rfl) (by kernel_rfl)) ?_
  intro W base args ds gs before hval0 hW hcnd _
  have hval : ∀ (j : Nat) t v, Try.f4.params[j]? = some t → args[j]? = some v → Value.okWide Try.prog W .any base t v := hval0
  have hW' := hW
  obtain ⟨p, q, hA0, hV, rfl, hfz, hnd⟩ := hW
  have hA : DataW.TrodAll enc Try.prog W 0 (fun _ => true) true Try.f4.params.toList args.toList ds p := hA0
  rw [Try.params4] at hA hval
  obtain ⟨v0, vs0, d0, ds0, p0, q0, hargs, rfl, rfl, h0, r0⟩ := trodAll_cons hA
  obtain ⟨rfl, rfl, rfl⟩ := trodAll_nil r0
  obtain rfl : args = #[v0] := by cases args; simp_all
  obtain ⟨rfl, rfl⟩ := trodVars_none hV
  obtain ⟨a0, len0, cap0, rfl⟩ := okWide_slice Try.underlying22 (hval 0 22 v0 rfl rfl)
  have k0 := h0
  have lt0 : ∀ x ∈ p0, x.block < W.heap.size := by obtain ⟨m, hm⟩ := k0; exact DataW.trod_lt m _ _ _ hm
  obtain ⟨z0, w0⟩ : ∃ zs, IsRow .u8 W a0 len0 cap0 zs := by
    obtain ⟨fuel, hf⟩ := h0
    rcases open_ints Try.underlying22 Try.underlying5 (by kernel_rfl) hf with ⟨hcs, _⟩ | ⟨x, l, c, zs, hcs, _, hl, hm, hz, _, hcell, hwz⟩
    · simp [Value.cells] at hcs
      obtain ⟨rfl, rfl, rfl⟩ := hcs
      exact ⟨[], .inl ⟨rfl, rfl, rfl, rfl⟩⟩
    · simp [Value.cells] at hcs
      obtain ⟨rfl, rfl, rfl⟩ := hcs
      exact ⟨zs, .inr ⟨_, rfl, hl, hm, by simpa using hz, hcell, hwz⟩⟩
  clear hA0 hval0
  refine (walk a0 len0 cap0 z0 W w0).mono fun e W' ⟨he, bel⟩ => ?_
  subst he
  exact ⟨_, rfl, _, _, _, [], _, [], hW', trodAll_mk1 (shut_bool Try.underlying4 _), (trodAll_cons_mk (Below.trod laidOut (by kernel_rfl) (of_decide_eq_true (by kernel_rfl)) k0 bel lt0) trodAll_mk0), rfl, bel.frame _, fun h => by cases h⟩

theorem over : Rows.fnTableOfRow.holds Try.pinned (OpenSpec.ofChange Rows.fnTableOfSpec) :=
  OpenClaim.holds_of_wide 4 Try.f4 rfl rfl rfl rfl rfl rfl rfl ⟨rfl, rfl, rfl, rfl, rfl⟩ rfl rfl rfl rfl rfl (by kernel_rfl) Try.func4 (by kernel_rfl)
    (of_decide_eq_true (by kernel_rfl)) (by unfold Func.isWrapper; first | (rw [if_pos (by decide +kernel)]; kernel_rfl) | (rw [if_neg (by decide +kernel)]; exact ⟨rfl, rfl⟩))
    (fun os started H enc _ => lifted os started H enc)

/-- ████ THE STATEMENT ████ -/
theorem proved : Rows.FnTableOfSaid := over
#print axioms proved
end Go.Proofs.Ytfiajbkmklcaiaa.fnTableOf
