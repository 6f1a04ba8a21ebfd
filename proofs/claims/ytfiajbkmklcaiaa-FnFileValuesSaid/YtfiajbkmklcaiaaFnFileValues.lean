/- For every code, FileValues answers of the drawn device, table and file as its model, with the value of the page at each place and as many as the size: proved.
   Conditions: none beyond the row's own reading of the input. The frame was written by the guide's proof-skeleton; the walk is ours. -/
import Derived.Test.YtfiajbkmklcaiaaTabFacts
import Derived.Test.YtfiajbkmklcaiaaHand
import Derived.Test.YtfiajbkmklcaiaaRows
import Derived.WalkKit
import Derived.ProofKit
import Derived.OpenShut
import Derived.ShutString
import Derived.ChangeOld
import Derived.Below
namespace Go.Proofs.Ytfiajbkmklcaiaa.fnFileValues
open Go.ChangeShapes Go.WideShapes Go.ChangeAt Go.RowKit
open Go.ChangeMaps (open_string shut_string)
set_option linter.unusedVariables false
set_option linter.unusedSimpArgs false

theorem own : ownKnob Try.prog.godebug = none := by kernel_rfl
theorem laidOut : laidOutB Try.prog = true := by kernel_rfl

/-- WHAT THE WALK IS TOLD OF A SLICE OF INTEGERS THAT CAME IN: it is nil; or it leads to a row of 'cap' cells, the numbers 'zs' (the first 'len' are its elements, the rest its spare room), each fitting its kind. -/
def IsRow (k : IntKind) (w : World) (a : Option Addr) (len cap : Nat) (zs : List Int) : Prop :=
  (a = none ∧ len = 0 ∧ cap = 0 ∧ zs = []) ∨
  ∃ x, a = some x ∧ len ≤ cap ∧ cap ≤ maxLen ∧ zs.length = cap ∧ (∀ i, i < zs.length → w.cell? (x.add i) = some (.int k (zs.getD i 0))) ∧ ∀ n ∈ zs, (Lit.int k n).wf = true

/-! ### STEP 1: THE WALK: the Go text returns true, AND WRITES NOTHING THAT WAS THERE: 'Below w.heap.size w w'' (Derived/Below.lean: '.refl', '.alloc', '.drew', '.setCell' at a new block, '.trans'). Open each 'IsRow' by 'rcases' AHEAD of 'go_enter'; part every test ahead of the walk. -/
set_option maxHeartbeats 4000000 in
set_option maxRecDepth 100000 in
theorem walk (a0 : Option Addr) (len0 cap0 : Nat) (z0 : List Int) (w : World) (w0 : IsRow .u8 w a0 len0 cap0 z0) :
    Calls Try.prog 8 #[.slice a0 len0 cap0] w fun e w' => e = .returned (.bool true) ∧ Below w.heap.size w w' := by
  obtain ⟨hl, hc, hb⟩ := bytes_of w0
  by_cases hbig : 1048576 < len0
  · go_enter Try.func8, Try.ntmps8
    go_wp2
    go_ret
    exact ⟨rfl, Below.refl _ _⟩
  · go_enter Try.func8, Try.ntmps8
    go_wp2_with fail
    refine (drawFileValues_any w a0 len0 cap0 hl hc hb).mono ?_
    rintro e wa ⟨D, nd, cd, bs, A, n, c, ls, f, rfl, hbl, hls, hld, hlt⟩
    have HD := Lib.hid (And.intro (And.intro hbl.1 (fun (q : Bk) (hq : q ∈ bs) => show q.ps.length ≤ 1048576 by have := hbl.2.2 q hq; omega)) (LD.alloc hld (.cells #[.slice A n c] 25)))
    have hnd : nd ≤ 1048576 := by have := hbl.2.1; omega
    have HS := Lib.hid (LV.start hlt n c)
    have HL := Lib.hid (And.intro hls.1 (fun (l : Li) (hq : l ∈ ls) => show l.xs.length ≤ 1048576 by have := hls.2.2 l hq; omega))
    have hn : n ≤ 1048576 := by have := hls.2.1; omega
    clear hb w0 hbl hls hld hlt
    obtain ⟨X, r, hX⟩ : ∃ X r, fvalV bs (ll ls) f = (X, r) := ⟨_, _, rfl⟩
    have HV := Lib.hid hX
    have hcase := fval_cases hX
    have trr : (r != r) = false := by simp
    have hX6 : X.length ≤ 6 := by rcases hcase with ⟨_, rfl⟩ | ⟨_, h, _⟩; simp; exact h
    clear hX
    have bHS := HS.out.cell
    go_wp2_with fail
    refine (vals_v HV.out HD.out.1.1 HD.out.2.1 hnd HD.out.1.2 HL.out.1 HS.out.2.1 hn HL.out.2).mono ?_
    rintro e w1 ⟨AP, nP, cP, rfl, hlP, ho, hk⟩
    have HP := Lib.hid (And.intro hlP (VOwn.row ho))
    replace HS := Lib.hid (HS.out.keep hk)
    replace HD := Lib.hid (And.intro HD.out.1 (HD.out.2.keep hk))
    clear hk ho hlP bHS
    have bHS := HS.out.cell
    go_wp2_with fail
    refine (specVals_v HV.out HD.out.1.1 HD.out.2.1 hnd HD.out.1.2 HL.out.1 HS.out.2.1 hn HL.out.2).mono ?_
    rintro e w2 ⟨AQ, nQ, cQ, rfl, hlQ, ho, hk⟩
    have HQ := Lib.hid (And.intro hlQ (VOwn.row ho))
    replace HS := Lib.hid (HS.out.keep hk)
    replace HD := Lib.hid (And.intro HD.out.1 (HD.out.2.keep hk))
    replace HP := Lib.hid (And.intro HP.out.1 (IRow.keepN HP.out.2 hk))
    clear hk ho hlQ bHS
    have bHS := HS.out.cell
    have nP6 : nP ≤ 1048576 := by have := HP.out.1; omega
    have nQ6 : nQ ≤ 1048576 := by have := HQ.out.1; omega
    go_wp2_with fail
    refine (sameInts_val (V := true) (decide_eq_true rfl) HP.out.1 HQ.out.1 HP.out.2 HQ.out.2 nP6 nQ6).mono ?_
    rintro e w3 ⟨rfl, hk⟩
    replace HS := Lib.hid (HS.out.keep hk)
    replace HD := Lib.hid (And.intro HD.out.1 (HD.out.2.keep hk))
    replace HP := Lib.hid (And.intro HP.out.1 (IRow.keepN HP.out.2 hk))
    clear hk bHS
    have bHS := HS.out.cell
    rcases hcase with ⟨rfl, rfl⟩ | ⟨rfl, h6, hsz, hget⟩
    · have nP0 : nP = 0 := HP.out.1.symm
      subst nP0
      go_wp2_with (go_at_call 17; refine (alive_any _).mono ?_; rintro e w' ⟨rfl, rfl⟩)
      go_ret
      exact ⟨rfl, HS.out.2.2⟩
    · have HG := Lib.hid (And.intro hsz hget)
      clear hsz hget trr HQ
      go_wp2
      go_loopw [10] (fun i wr => ∃ k : Nat, i = .int .i64 k ∧ k ≤ nP ∧ LV w wa.heap.size A n c ls wr ∧ LD w D bs wr ∧ IRow wr wr.heap.size AP X) (fun i _ => nP - (intOf i).toNat)
      case atStart => exact ⟨0, rfl, Nat.zero_le _, HS.out, HD.out.2, HP.out.2⟩
      case round =>
        rename World => wq
        obtain ⟨k, rfl, hkz, hS, hD, hP⟩ := hrel
        clear bHS
        replace HS := Lib.hid hS
        replace HD := Lib.hid (And.intro HD.out.1 hD)
        replace HP := Lib.hid (And.intro HP.out.1 hP)
        clear hS hD hP
        have bHS := HS.out.cell
        by_cases hk : k < nP
        · have k1 : (k : Int) < (nP : Int) := by omega
          have k0 : decide ((0 : Int) ≤ k) = true := decide_eq_true (by omega)
          obtain ⟨y, hy⟩ : ∃ y, tgetV (ll ls) f k = y := ⟨_, rfl⟩
          obtain ⟨p, hp⟩ : ∃ p, readV bs y = p := ⟨_, rfl⟩
          have hg := HG.out.2 k (by rw [HP.out.1]; exact hk)
          rw [hy, hp] at hg
          have HY := Lib.hid (And.intro hy (And.intro hp hg))
          clear hy hp hg
          go_wp2_with fail
          refine (get_v HY.out.1 HL.out.1 HS.out.2.1 hn HL.out.2).mono ?_
          rintro e w4 ⟨rfl, hq⟩
          replace HS := Lib.hid (HS.out.keep hq)
          replace HD := Lib.hid (And.intro HD.out.1 (HD.out.2.keep hq))
          replace HP := Lib.hid (And.intro HP.out.1 (IRow.keepN HP.out.2 hq))
          clear hq bHS
          have bHS := HS.out.cell
          go_wp2_with fail
          refine (read_v HY.out.2.1 HD.out.1.1 HD.out.2.1 hnd HD.out.1.2).mono ?_
          rintro e w5 ⟨rfl, hq⟩
          replace hq := grown_alloc hq (.cells #[.bool p.f, .int .i64 p.a, .int .i64 p.b, .int .i64 p.c, .int .i64 p.d] 37)
          replace HS := Lib.hid (HS.out.keep hq)
          replace HD := Lib.hid (And.intro HD.out.1 (HD.out.2.keep hq))
          replace HP := Lib.hid (And.intro HP.out.1 (IRow.keepN HP.out.2 hq))
          clear hq bHS
          have hB := Blk.new w5 37 #[.bool p.f, .int .i64 p.a, .int .i64 p.b, .int .i64 p.c, .int .i64 p.d]
          obtain ⟨gP, oP, rfl⟩ := HP.out.2.pos (by have := HP.out.1; omega)
          have c0 := HP.out.2.cellf HY.out.2.2
          have c1 := hB.cell 3
          have HB := Lib.hid hB
          have ee : (p.c != p.c) = false := by simp
          clear hB
          go_wp2_with fail
          refine wp_region_held_drew (S := (fun w' => w'.cell? ⟨gP, oP + k, none⟩ = some (.int .i64 p.c) ∧ w'.cell? ⟨w5.heap.size, 3, none⟩ = some (.int .i64 p.c))) (by kernel_rfl) ?_ (fun hHeld => ?_)
          · exact ⟨c0, c1⟩
          refine held_yes (i := 0) (d := some 68) (v := ?_) rfl rfl (by kernel_rfl) (by kernel_rfl) (by kernel_rfl) (fun _ _ _ h => h) (by rfl) ?_ (by assumption) ?_
          rotate_left
          · (intro w hSw; (try dsimp only at hSw); go_simp; (first | done | with_reducible rfl))
          try simp only [Act.put, List.setIfInBounds_toArray, List.set_cons_zero, List.set_cons_succ]
          refine held_yes (i := 1) (d := some 69) (v := ?_) rfl rfl (by kernel_rfl) (by kernel_rfl) (by kernel_rfl) (fun _ _ _ h => h) (by rfl) ?_ (by assumption) ?_
          rotate_left
          · (intro w hSw; (try dsimp only at hSw); go_simp; (first | done | with_reducible rfl))
          try simp only [Act.put, List.setIfInBounds_toArray, List.set_cons_zero, List.set_cons_succ]
          refine held_yes (i := 2) (d := some 70) (v := ?_) rfl rfl (by kernel_rfl) (by kernel_rfl) (by kernel_rfl) (fun _ _ _ h => h) (by rfl) ?_ (by assumption) ?_
          rotate_left
          · (intro w hSw; (try dsimp only at hSw); go_simp; (first | done | with_reducible rfl))
          try simp only [Act.put, List.setIfInBounds_toArray, List.set_cons_zero, List.set_cons_succ]
          refine held_yes (i := 3) (d := some 71) (v := ?_) rfl rfl (by kernel_rfl) (by kernel_rfl) (by kernel_rfl) (fun _ _ _ h => h) (by rfl) ?_ (by assumption) ?_
          rotate_left
          · (intro w hSw; (try dsimp only at hSw); go_simp; (first | done | with_reducible rfl))
          try simp only [Act.put, List.setIfInBounds_toArray, List.set_cons_zero, List.set_cons_succ]
          refine held_yes (i := 4) (d := some 72) (v := ?_) rfl rfl (by kernel_rfl) (by kernel_rfl) (by kernel_rfl) (fun _ _ _ h => h) (by rfl) ?_ (by assumption) ?_
          rotate_left
          · (intro w hSw; (try dsimp only at hSw); go_simp; (first | done | with_reducible rfl))
          try simp only [Act.put, List.setIfInBounds_toArray, List.set_cons_zero, List.set_cons_succ]
          refine held_yes (i := 5) (d := some 73) (v := ?_) rfl rfl (by kernel_rfl) (by kernel_rfl) (by kernel_rfl) (fun _ _ _ h => h) (by rfl) ?_ (by assumption) ?_
          rotate_left
          · (intro w hSw; (try dsimp only at hSw); go_simp; (first | done | with_reducible rfl))
          try simp only [Act.put, List.setIfInBounds_toArray, List.set_cons_zero, List.set_cons_succ]
          refine held_yes (i := 6) (d := some 74) (v := ?_) rfl rfl (by kernel_rfl) (by kernel_rfl) (by kernel_rfl) (fun _ _ _ h => h) (by rfl) ?_ (by assumption) ?_
          rotate_left
          · (intro w hSw; (try dsimp only at hSw); go_simp; (first | done | with_reducible rfl))
          try simp only [Act.put, List.setIfInBounds_toArray, List.set_cons_zero, List.set_cons_succ]
          refine wpAnyH_done (by kernel_rfl) ?_ _
          replace HS := Lib.hid (HS.out.keep (grown_drew (grown_refl _ none)))
          replace HD := Lib.hid (And.intro HD.out.1 (HD.out.2.keep (grown_drew (grown_refl _ none))))
          replace HP := Lib.hid (And.intro HP.out.1 (IRow.keepN HP.out.2 (grown_drew (grown_refl _ none))))
          clear c0 c1
          go_wp2
          go_roundw
          case rel => exact ⟨k + 1, by go_num, by omega, HS.out, HD.out.2, HP.out.2⟩
          case measure => simp [intOf]; omega
        · obtain rfl : k = nP := by omega
          have hf : fsizeV (ll ls) f = (k : Int) := by rw [HG.out.1, HP.out.1]
          have HF := Lib.hid hf
          have ee : ((k : Int) == (k : Int)) = true := by simp
          clear hf
          go_wp2_with fail
          refine (fileSize_val HF.out HL.out.1 HS.out.2.1 hn HL.out.2).mono ?_
          rintro e w4 ⟨rfl, hq⟩
          replace HS := Lib.hid (HS.out.keep hq)
          clear hq bHS
          go_wp2
          go_ret
          exact ⟨rfl, HS.out.2.2⟩

/-! ### THE ROW's STEP: WRITTEN OUT: LEAVE IT -/
set_option maxRecDepth 100000 in
theorem lifted (os : Os) (started : os.Started) (H : Type) (enc : TypeId × Value → H) :
    ReturnsInHanded {} Try.checked os 8 .any (Rows.fnFileValuesSpec.pre6 enc Try.prog Try.f8 Rows.fnFileValuesRow.domain false) (Rows.fnFileValuesSpec.post enc Try.prog Try.f8 false true false false) := by
  refine returnsInHanded_of_change (C := Try.checked) own started (by kernel_rfl) Try.func8
    (ChangeSpec.witness6 (enc := enc) (C := Try.checked) false ⟨#[], #[.slice none 0 0], []⟩ 8 (by kernel_rfl) (by kernel_rfl) (by kernel_rfl) (by kernel_rfl)) ?_
  intro W base args ds gs before hval0 hW hcnd _
  have hval : ∀ (j : Nat) t v, Try.f8.params[j]? = some t → args[j]? = some v → Value.okWide Try.prog W .any base t v := hval0
  have hW' := hW
  obtain ⟨p, q, hA0, hV, rfl, hfz, hnd⟩ := hW
  have hA : DataW.TrodAll enc Try.prog W 0 (fun _ => true) true Try.f8.params.toList args.toList ds p := hA0
  rw [Try.params8] at hA hval
  obtain ⟨v0, vs0, d0, ds0, p0, q0, hargs, rfl, rfl, h0, r0⟩ := trodAll_cons hA
  obtain ⟨rfl, rfl, rfl⟩ := trodAll_nil r0
  obtain rfl : args = #[v0] := by cases args; simp_all
  obtain ⟨rfl, rfl⟩ := trodVars_none hV
  obtain ⟨a0, len0, cap0, rfl⟩ := okWide_slice Try.underlying22 (hval 0 22 v0 rfl rfl)
  have k0 := h0
  have lt0 : ∀ x ∈ p0, x.block < W.heap.size := by obtain ⟨m, hm⟩ := k0; exact DataW.trod_lt m _ _ _ hm
  obtain ⟨z0, w0⟩ : ∃ zs, IsRow .u8 W a0 len0 cap0 zs := by
    obtain ⟨fuel, hf⟩ := h0
    rcases open_ints Try.underlying22 Try.underlying5 (by kernel_rfl) hf with ⟨hcs, _⟩ | ⟨x, l, c, zs, hcs, _, hl, hm, hz, _, hcell, hwz⟩
    · simp [Value.cells] at hcs
      obtain ⟨rfl, rfl, rfl⟩ := hcs
      exact ⟨[], .inl ⟨rfl, rfl, rfl, rfl⟩⟩
    · simp [Value.cells] at hcs
      obtain ⟨rfl, rfl, rfl⟩ := hcs
      exact ⟨zs, .inr ⟨_, rfl, hl, hm, by simpa using hz, hcell, hwz⟩⟩
  clear hA0 hval0
  refine (walk a0 len0 cap0 z0 W w0).mono fun e W' ⟨he, bel⟩ => ?_
  subst he
  exact ⟨_, rfl, _, _, _, [], _, [], hW', trodAll_mk1 (shut_bool Try.underlying4 _), (trodAll_cons_mk (Below.trod laidOut (by kernel_rfl) (of_decide_eq_true (by kernel_rfl)) k0 bel lt0) trodAll_mk0), rfl, bel.frame _, fun h => by cases h⟩

theorem over : Rows.fnFileValuesRow.holds Try.pinned (OpenSpec.ofChange Rows.fnFileValuesSpec) :=
  OpenClaim.holds_of_wide 8 Try.f8 rfl rfl rfl rfl rfl rfl rfl ⟨rfl, rfl, rfl, rfl, rfl⟩ rfl rfl rfl rfl rfl (by kernel_rfl) Try.func8 (by kernel_rfl)
    (of_decide_eq_true (by kernel_rfl)) (by unfold Func.isWrapper; first | (rw [if_pos (by decide +kernel)]; kernel_rfl) | (rw [if_neg (by decide +kernel)]; exact ⟨rfl, rfl⟩))
    (fun os started H enc _ => lifted os started H enc)

/-- ████ THE STATEMENT ████ -/
theorem proved : Rows.FnFileValuesSaid := over
#print axioms proved
end Go.Proofs.Ytfiajbkmklcaiaa.fnFileValues
