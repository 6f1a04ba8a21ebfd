/- For every code, BlockCounts answers of the drawn device and table as its model: no block has more than BlockPages, and all together are at most as many as UsedPages: proved.
   Conditions: none beyond the row's own reading of the input. The frame was written by the guide's proof-skeleton; the walk is ours. -/
import Derived.Test.YtnjgegadhfofbaaCountFacts
import Derived.Test.YtnjgegadhfofbaaRows
import Derived.WalkKit
import Derived.ProofKit
import Derived.OpenShut
import Derived.ShutString
import Derived.ChangeOld
import Derived.Below
namespace Go.Proofs.Ytnjgegadhfofbaa.fnBlockCounts
open Go.ChangeShapes Go.WideShapes Go.ChangeAt Go.RowKit
open Go.ChangeMaps (open_string shut_string)
set_option linter.unusedVariables false

theorem own : ownKnob Try.prog.godebug = none := by kernel_rfl
theorem laidOut : laidOutB Try.prog = true := by kernel_rfl

/-- WHAT THE WALK IS TOLD OF A SLICE OF INTEGERS THAT CAME IN: it is nil; or it leads to a row of 'cap' cells, the numbers 'zs' (the first 'len' are its elements, the rest its spare room), each fitting its kind. -/
def IsRow (k : IntKind) (w : World) (a : Option Addr) (len cap : Nat) (zs : List Int) : Prop :=
  (a = none ∧ len = 0 ∧ cap = 0 ∧ zs = []) ∨
  ∃ x, a = some x ∧ len ≤ cap ∧ cap ≤ maxLen ∧ zs.length = cap ∧ (∀ i, i < zs.length → w.cell? (x.add i) = some (.int k (zs.getD i 0))) ∧ ∀ n ∈ zs, (Lit.int k n).wf = true

/-! ### STEP 1: THE WALK: the Go text returns true, AND WRITES NOTHING THAT WAS THERE: 'Below w.heap.size w w'' (Derived/Below.lean: '.refl', '.alloc', '.drew', '.setCell' at a new block, '.trans'). Open each 'IsRow' by 'rcases' AHEAD of 'go_enter'; part every test ahead of the walk. -/
set_option maxHeartbeats 2000000 in
set_option maxRecDepth 100000 in
theorem walk (a0 : Option Addr) (len0 cap0 : Nat) (z0 : List Int) (w : World) (w0 : IsRow .u8 w a0 len0 cap0 z0) :
    Calls Try.prog 4 #[.slice a0 len0 cap0] w fun e w' => e = .returned (.bool true) ∧ Below w.heap.size w w' := by
  obtain ⟨hl, hc, hb⟩ := bytes_of w0
  by_cases hbig : 1048576 < len0
  · go_enter Try.func4, Try.ntmps4
    go_wp2
    go_ret
    exact ⟨rfl, Below.refl _ _⟩
  · go_enter Try.func4, Try.ntmps4
    go_wp2_with fail
    refine (drawBlockCounts_any w a0 len0 cap0 hl hc hb).mono ?_
    rintro e wa ⟨D, nd, cd, bs, A, n, c, ls, rfl, hP⟩
    have hbl := hP.1
    have hls := hP.2.1
    have hld := hP.rows.1
    have hlt := hP.rows.2
    clear hP
    have HD := Lib.hid (And.intro (And.intro hbl.1 (fun (q : Bk) (hq : q ∈ bs) => show q.ps.length ≤ 1048576 by have := hbl.2.2 q hq; omega)) (LD.alloc hld (.cells #[.slice A n c] 25)))
    have hnd : nd ≤ 1048576 := by have := hbl.2.1; omega
    have hnd13 : nd ≤ 13 := hbl.2.1
    have HS := Lib.hid (LV.start hlt n c)
    have HL := Lib.hid (And.intro hls.1 (fun (l : Li) (hq : l ∈ ls) => show l.xs.length ≤ 1048576 by have := hls.2.2 l hq; omega))
    have hn : n ≤ 1048576 := by have := hls.2.1; omega
    clear hb w0 hbl hls hld hlt
    have bHS := HS.out.cell
    obtain ⟨X, hX⟩ : ∃ X, countsV bs (ll ls) = X := ⟨_, rfl⟩
    obtain ⟨n1, hn1'⟩ : ∃ n1, X.length = n1 := ⟨_, rfl⟩
    have hn12 : n1 ≤ 12 := by rw [← hn1', ← hX]; exact counts_small _ _
    have hn1 : n1 ≤ 1048576 := by omega
    obtain ⟨S, hS, hle, hlen⟩ := counts_facts hX
    obtain ⟨U, hU⟩ : ∃ U, usedV (ll ls) = U := ⟨_, rfl⟩
    obtain ⟨n2, hn2'⟩ : ∃ n2, U.length = n2 := ⟨_, rfl⟩
    have hn2 : n2 ≤ 48 := by rw [← hn2', ← hU]; exact used_small _
    rw [hU, hn1', hn2'] at hle
    rw [hn1', HD.out.1.1] at hlen
    have HV := Lib.hid (And.intro hX (And.intro hn1' (And.intro hU hn2')))
    have HM := Lib.hid (And.intro hS hle)
    clear hX hn1' hU hn2' hS hle
    go_wp2_with fail
    refine (counts_val HV.out.1 HV.out.2.1 HD.out.1.1 HD.out.2.1 hnd HD.out.1.2 HL.out.1 HS.out.2.1 hn HL.out.2).mono ?_
    rintro e w1 ⟨AP, cP, rfl, hlP, ho, hk⟩
    have HP := Lib.hid (And.intro hlP (VOwn.row ho))
    replace HS := Lib.hid (HS.out.keep hk)
    replace HD := Lib.hid (And.intro HD.out.1 (HD.out.2.keep hk))
    clear hk ho hlP bHS
    have bHS := HS.out.cell
    go_wp2_with fail
    refine (specCounts_val HV.out.1 HV.out.2.1 HD.out.1.1 HD.out.2.1 hnd HD.out.1.2 HL.out.1 HS.out.2.1 hn HL.out.2).mono ?_
    rintro e w2 ⟨AQ, cQ, rfl, hlQ, ho, hk⟩
    have HQ := Lib.hid (And.intro hlQ (VOwn.row ho))
    replace HS := Lib.hid (HS.out.keep hk)
    replace HD := Lib.hid (And.intro HD.out.1 (HD.out.2.keep hk))
    replace HP := Lib.hid (And.intro HP.out.1 (IRow.keepN HP.out.2 hk))
    clear hk ho hlQ bHS
    have bHS := HS.out.cell
    go_wp2_with fail
    refine (sameInts_val (V := true) (decide_eq_true rfl) HP.out.1 HQ.out.1 HP.out.2 HQ.out.2 hn1 hn1).mono ?_
    rintro e w3 ⟨rfl, hk⟩
    replace HS := Lib.hid (HS.out.keep hk)
    replace HD := Lib.hid (And.intro HD.out.1 (HD.out.2.keep hk))
    replace HP := Lib.hid (And.intro HP.out.1 (IRow.keepN HP.out.2 hk))
    clear hk bHS
    have bHS := HS.out.cell
    clear HQ
    go_wp2
    go_loopw [6, 7] (fun s i wr => ∃ k : Nat, i = .int .i64 k ∧ k ≤ n1 ∧ s = .int .i64 (S k : Nat) ∧ LV w wa.heap.size A n c ls wr ∧ LD w D bs wr ∧ IRow wr wr.heap.size AP X) (fun _ i _ => n1 - (intOf i).toNat)
    case atStart => exact ⟨0, rfl, Nat.zero_le _, by rw [HM.out.1.1]; rfl, HS.out, HD.out.2, HP.out.2⟩
    case round =>
      rename World => wq
      obtain ⟨k, rfl, hk, rfl, hS, hD, hP⟩ := hrel
      clear bHS
      replace HS := Lib.hid hS
      replace HD := Lib.hid (And.intro HD.out.1 hD)
      replace HP := Lib.hid (And.intro HP.out.1 hP)
      clear hS hD hP
      have bHS := HS.out.cell
      have h48 := HM.out.1.2.2 k (by have := HP.out.1; omega)
      by_cases hkn : k < n1
      · have k1 : (k : Int) < (n1 : Int) := by omega
        have k0 : decide ((0 : Int) ≤ k) = true := decide_eq_true (by omega)
        obtain ⟨gP, oP, rfl⟩ := HP.out.2.pos (by have := HP.out.1; omega)
        obtain ⟨x, hx⟩ : ∃ x, X[k]? = some x := ⟨_, List.getElem?_eq_getElem (by have := HP.out.1; omega)⟩
        have c0 := HP.out.2.cellf hx
        have hx4 := HM.out.1.2.1 k x hx
        have e1 : decide (x < 0) = false := decide_eq_false (by omega)
        have e2 : decide (4 < x) = false := decide_eq_false (by omega)
        have HE := Lib.hid hx4.2.2
        have x0 := hx4.1
        have x4 := hx4.2.1
        clear hx4 hx
        generalize S k = s at h48 HE
        go_wp2
        go_roundw
        case rel => exact ⟨k + 1, by go_num, by omega, by rw [HE.out], HS.out, HD.out.2, HP.out.2⟩
        case measure => simp [intOf]; omega
      · obtain rfl : k = n1 := by omega
        go_wp2_with fail
        refine (usedPages_val HV.out.2.2.1 HV.out.2.2.2 HL.out.1 HS.out.2.1 hn HL.out.2).mono ?_
        rintro e w4 ⟨AU, cU, rfl, hlU, ho, hk⟩
        have HU := Lib.hid (And.intro hlU (VOwn.row ho))
        replace HS := Lib.hid (HS.out.keep hk)
        replace HD := Lib.hid (And.intro HD.out.1 (HD.out.2.keep hk))
        replace HP := Lib.hid (And.intro HP.out.1 (IRow.keepN HP.out.2 hk))
        clear hk ho hlU bHS
        have bHS := HS.out.cell
        have e1 : decide (((S k : Nat) : Int) ≤ (n2 : Int)) = true := decide_eq_true (by have := HM.out.2; omega)
        have e3 : decide (S k ≤ n2) = true := decide_eq_true HM.out.2
        rcases hlen with rfl | rfl
        · go_wp2_with (go_at_call 15; refine (alive_any _).mono ?_; rintro e w' ⟨rfl, rfl⟩)
          go_ret
          exact ⟨rfl, HS.out.2.2⟩
        · have e2 : ((k : Int) == (k : Int)) = true := by simp
          by_cases k0 : k = 0
          · subst k0
            go_wp2_with (go_at_call 15; refine (alive_any _).mono ?_; rintro e w' ⟨rfl, rfl⟩)
            go_ret
            exact ⟨rfl, HS.out.2.2⟩
          · have e4 : ((k : Int) == 0) = false := by rw [beq_eq_false_iff_ne]; omega
            have e5 : (k == 0) = false := by rw [beq_eq_false_iff_ne]; exact k0
            go_wp2_with (go_at_call 15; refine (alive_any _).mono ?_; rintro e w' ⟨rfl, rfl⟩)
            go_ret
            exact ⟨rfl, HS.out.2.2⟩

/-! ### THE ROW's STEP: WRITTEN OUT: LEAVE IT -/
set_option maxRecDepth 100000 in
theorem lifted (os : Os) (started : os.Started) (H : Type) (enc : TypeId × Value → H) :
    ReturnsInHanded {} Try.checked os 4 .any (Rows.fnBlockCountsSpec.pre6 enc Try.prog Try.f4 Rows.fnBlockCountsRow.domain false) (Rows.fnBlockCountsSpec.post enc Try.prog Try.f4 false true false false) := by
  refine returnsInHanded_of_change (C := Try.checked) own started (by kernel_rfl) Try.func4
    (ChangeSpec.witness6 (enc := enc) (C := Try.checked) false ⟨#[], #[.slice none 0 0], []⟩ 8 (by kernel_rfl) (by kernel_rfl) (by kernel_rfl) (by kernel_rfl)) ?_
  intro W base args ds gs before hval0 hW hcnd _
  have hval : ∀ (j : Nat) t v, Try.f4.params[j]? = some t → args[j]? = some v → Value.okWide Try.prog W .any base t v := hval0
  have hW' := hW
  obtain ⟨p, q, hA0, hV, rfl, hfz, hnd⟩ := hW
  have hA : DataW.TrodAll enc Try.prog W 0 (fun _ => true) true Try.f4.params.toList args.toList ds p := hA0
  rw [Try.params4] at hA hval
  obtain ⟨v0, vs0, d0, ds0, p0, q0, hargs, rfl, rfl, h0, r0⟩ := trodAll_cons hA
  obtain ⟨rfl, rfl, rfl⟩ := trodAll_nil r0
  obtain rfl : args = #[v0] := by cases args; simp_all
  obtain ⟨rfl, rfl⟩ := trodVars_none hV
  obtain ⟨a0, len0, cap0, rfl⟩ := okWide_slice Try.underlying22 (hval 0 22 v0 rfl rfl)
  have k0 := h0
  have lt0 : ∀ x ∈ p0, x.block < W.heap.size := by obtain ⟨m, hm⟩ := k0; exact DataW.trod_lt m _ _ _ hm
  obtain ⟨z0, w0⟩ : ∃ zs, IsRow .u8 W a0 len0 cap0 zs := by
    obtain ⟨fuel, hf⟩ := h0
    rcases open_ints Try.underlying22 Try.underlying5 (by kernel_rfl) hf with ⟨hcs, _⟩ | ⟨x, l, c, zs, hcs, _, hl, hm, hz, _, hcell, hwz⟩
    · simp [Value.cells] at hcs
      obtain ⟨rfl, rfl, rfl⟩ := hcs
      exact ⟨[], .inl ⟨rfl, rfl, rfl, rfl⟩⟩
    · simp [Value.cells] at hcs
      obtain ⟨rfl, rfl, rfl⟩ := hcs
      exact ⟨zs, .inr ⟨_, rfl, hl, hm, by simpa using hz, hcell, hwz⟩⟩
  clear hA0 hval0
  refine (walk a0 len0 cap0 z0 W w0).mono fun e W' ⟨he, bel⟩ => ?_
  subst he
  exact ⟨_, rfl, _, _, _, [], _, [], hW', trodAll_mk1 (shut_bool Try.underlying4 _), (trodAll_cons_mk (Below.trod laidOut (by kernel_rfl) (of_decide_eq_true (by kernel_rfl)) k0 bel lt0) trodAll_mk0), rfl, bel.frame _, fun h => by cases h⟩

theorem over : Rows.fnBlockCountsRow.holds Try.pinned (OpenSpec.ofChange Rows.fnBlockCountsSpec) :=
  OpenClaim.holds_of_wide 4 Try.f4 rfl rfl rfl rfl rfl rfl rfl ⟨rfl, rfl, rfl, rfl, rfl⟩ rfl rfl rfl rfl rfl (by kernel_rfl) Try.func4 (by kernel_rfl)
    (of_decide_eq_true (by kernel_rfl)) (by unfold Func.isWrapper; first | (rw [if_pos (by decide +kernel)]; kernel_rfl) | (rw [if_neg (by decide +kernel)]; exact ⟨rfl, rfl⟩))
    (fun os started H enc _ => lifted os started H enc)

/-- ████ THE STATEMENT ████ -/
theorem proved : Rows.FnBlockCountsSaid := over
#print axioms proved
end Go.Proofs.Ytnjgegadhfofbaa.fnBlockCounts
