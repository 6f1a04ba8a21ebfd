/- For every code, BestVictim answers of the drawn device, table, heads and time as its model; there is one exactly if there is a GreedyVictim, and all its pages are written: proved.
   Conditions: none beyond the row's own reading of the input. The frame was written by the guide's proof-skeleton; the walk is ours. -/
import Derived.Test.YtjknfofdjkjnpaaDrawVict
import Derived.Test.YtjknfofdjkjnpaaRows
import Derived.WalkKit
import Derived.ProofKit
import Derived.OpenShut
import Derived.ShutString
import Derived.ChangeOld
import Derived.Below
namespace Go.Proofs.Ytjknfofdjkjnpaa.fnBestVictim
open Go.ChangeShapes Go.WideShapes Go.ChangeAt Go.RowKit
open Go.ChangeMaps (open_string shut_string)
set_option linter.unusedVariables false

theorem own : ownKnob Try.prog.godebug = none := by kernel_rfl
theorem laidOut : laidOutB Try.prog = true := by kernel_rfl

/-- WHAT THE WALK IS TOLD OF A SLICE OF INTEGERS THAT CAME IN: it is nil; or it leads to a row of 'cap' cells, the numbers 'zs' (the first 'len' are its elements, the rest its spare room), each fitting its kind. -/
def IsRow (k : IntKind) (w : World) (a : Option Addr) (len cap : Nat) (zs : List Int) : Prop :=
  (a = none ∧ len = 0 ∧ cap = 0 ∧ zs = []) ∨
  ∃ x, a = some x ∧ len ≤ cap ∧ cap ≤ maxLen ∧ zs.length = cap ∧ (∀ i, i < zs.length → w.cell? (x.add i) = some (.int k (zs.getD i 0))) ∧ ∀ n ∈ zs, (Lit.int k n).wf = true

/-! ### STEP 1: THE WALK: the Go text returns true, AND WRITES NOTHING THAT WAS THERE: 'Below w.heap.size w w'' (Derived/Below.lean: '.refl', '.alloc', '.drew', '.setCell' at a new block, '.trans'). Open each 'IsRow' by 'rcases' AHEAD of 'go_enter'; part every test ahead of the walk. -/
set_option maxHeartbeats 4000000 in
set_option maxRecDepth 100000 in
theorem walk (a0 : Option Addr) (len0 cap0 : Nat) (z0 : List Int) (w : World) (w0 : IsRow .u8 w a0 len0 cap0 z0) :
    Calls Try.prog 5 #[.slice a0 len0 cap0] w fun e w' => e = .returned (.bool true) ∧ Below w.heap.size w w' := by
  obtain ⟨hl, hc, hb⟩ := bytes_of w0
  by_cases hbig : 1048576 < len0
  · go_enter Try.func5, Try.ntmps5
    go_wp2
    go_ret
    exact ⟨rfl, Below.refl _ _⟩
  · go_enter Try.func5, Try.ntmps5
    go_wp2_with fail
    refine (drawBest_any w a0 len0 cap0 hl hc hb).mono ?_
    rintro e wa ⟨D, nd, cd, bs, A, n, c, ls, a, b, h, now, rfl, hP⟩
    have hbl := hP.1
    have hls := hP.2.1
    have hld := hP.rows.1
    have hlt := hP.rows.2
    clear hP
    have HD := Lib.hid (And.intro (And.intro hbl.1 (fun (q : Bk) (hq : q ∈ bs) => show q.ps.length ≤ 1048576 by have := hbl.2.2 q hq; omega)) ((LD.alloc hld (.cells #[.slice A n c] 26)).alloc (.cells #[.int .i64 a, .int .i64 b, .int .i64 h] 28)))
    have hnd : nd ≤ 1048576 := by have := hbl.2.1; omega
    have hnd13 : nd ≤ 13 := hbl.2.1
    have HS := Lib.hid ((LV.start hlt n c).keep (grown_alloc (grown_refl _ none) (.cells #[.int .i64 a, .int .i64 b, .int .i64 h] 28)))
    have HQ : RowKit.Hid (Blk (World.alloc (World.alloc wa (.cells #[.slice A n c] 26)) (.cells #[.int .i64 a, .int .i64 b, .int .i64 h] 28)) (wa.heap.size + 1) 28 #[.int .i64 a, .int .i64 b, .int .i64 h]) := Lib.hid (by have h1 := Blk.new (World.alloc wa (.cells #[.slice A n c] 26)) 28 #[.int .i64 a, .int .i64 b, .int .i64 h]; rw [size_alloc1] at h1; exact h1)
    have HL := Lib.hid (And.intro hls.1 (fun (l : Li) (hq : l ∈ ls) => show l.xs.length ≤ 1048576 by have := hls.2.2 l hq; omega))
    have hn : n ≤ 1048576 := by have := hls.2.1; omega
    clear hb w0 hbl hls hld hlt
    obtain ⟨X, hX⟩ : ∃ X, countsV bs (ll ls) = X := ⟨_, rfl⟩
    obtain ⟨n1, hn1'⟩ : ∃ n1, X.length = n1 := ⟨_, rfl⟩
    have hn12 : n1 ≤ 12 := by rw [← hn1', ← hX]; exact counts_small _ _
    obtain ⟨V, hV⟩ : ∃ V, victimV nd bs X a b h now = V := ⟨_, rfl⟩
    have HV := Lib.hid (And.intro hX (And.intro hn1' (show victimV nd bs (countsV bs (ll ls)) a b h now = V by rw [hX]; exact hV)))
    have tVV : (V != V) = false := by simp
    have bHS := HS.out.cell
    obtain ⟨q0, q1, q2⟩ := cells3 HQ.out
    go_wp2_with fail
    refine (best_val HV.out.2.2 HD.out.1.1 HD.out.2.1 hnd HD.out.1.2 HL.out.1 HS.out.2.1 hn HL.out.2).mono ?_
    rintro e w1 ⟨rfl, hk⟩
    replace HS := Lib.hid (HS.out.keep hk)
    replace HD := Lib.hid (And.intro HD.out.1 (HD.out.2.keep hk))
    replace HQ := Lib.hid (HQ.out.keep hk)
    clear hk
    clear bHS q0 q1 q2
    have bHS := HS.out.cell
    obtain ⟨q0, q1, q2⟩ := cells3 HQ.out
    go_wp2_with fail
    refine (specBest_val HV.out.2.2 HD.out.1.1 HD.out.2.1 hnd HD.out.1.2 HL.out.1 HS.out.2.1 hn HL.out.2).mono ?_
    rintro e w2 ⟨rfl, hk⟩
    replace HS := Lib.hid (HS.out.keep hk)
    replace HD := Lib.hid (And.intro HD.out.1 (HD.out.2.keep hk))
    replace HQ := Lib.hid (HQ.out.keep hk)
    clear hk
    clear bHS q0 q1 q2
    have bHS := HS.out.cell
    obtain ⟨q0, q1, q2⟩ := cells3 HQ.out
    cases hw : inB now 0 1000000
    · rw [victimV, hw] at hV
      obtain rfl : V = -1 := hV.symm
      have e1 : ((-1 : Int) == -1) = true := rfl
      clear hX hn1'
      rcases out_cases hw with h1 | ⟨h1, h2⟩
      · have t0 := decide_eq_true h1
        clear h1 hw
        go_wp2_with (go_at_call 14; refine (alive_any _).mono ?_; rintro e w' ⟨rfl, rfl⟩)
        go_ret
        exact ⟨rfl, HS.out.2.2⟩
      · have t0 := decide_eq_false h1
        have t1 := decide_eq_true h2
        clear h1 h2 hw
        go_wp2_with (go_at_call 14; refine (alive_any _).mono ?_; rintro e w' ⟨rfl, rfl⟩)
        go_ret
        exact ⟨rfl, HS.out.2.2⟩
    · obtain ⟨G, hG⟩ : ∃ G, greedyV nd bs X a b h = G := ⟨_, rfl⟩
      have hcase := best_law HD.out.1.1 hX hw hV hG
      have HG := Lib.hid (show greedyV nd bs (countsV bs (ll ls)) a b h = G by rw [hX]; exact hG)
      obtain ⟨w1', w2'⟩ := inB_iff.1 hw
      have t0 : decide (now < 0) = false := decide_eq_false (by omega)
      have t1 : decide (1000000 < now) = false := decide_eq_false (by omega)
      clear hX hn1' hV hG hw tVV w1' w2'
      rcases hcase with ⟨rfl, rfl⟩ | ⟨hG0, hd, j, rfl, hj, hm⟩
      · go_wp2_with fail
        refine (greedy_val HG.out HD.out.1.1 HD.out.2.1 hnd HD.out.1.2 HL.out.1 HS.out.2.1 hn HL.out.2).mono ?_
        rintro e w3 ⟨rfl, hk⟩
        replace HS := Lib.hid (HS.out.keep hk)
        replace HD := Lib.hid (And.intro HD.out.1 (HD.out.2.keep hk))
        replace HQ := Lib.hid (HQ.out.keep hk)
        clear hk
        clear bHS q0 q1 q2
        go_wp2_with (go_at_call 14; refine (alive_any _).mono ?_; rintro e w' ⟨rfl, rfl⟩)
        go_ret
        exact ⟨rfl, HS.out.2.2⟩
      · have t2 : decide ((j : Int) < 0) = false := decide_eq_false (by omega)
        have t3 : decide ((nd : Int) ≤ (j : Int)) = false := decide_eq_false (by omega)
        have t3' : decide (nd ≤ j) = false := decide_eq_false (by omega)
        have t4 : decide ((0 : Int) ≤ G) = true := decide_eq_true hG0
        have HE := Lib.hid (And.intro hd hm)
        clear hG0 hd hm
        go_wp2_with fail
        refine (greedy_val HG.out HD.out.1.1 HD.out.2.1 hnd HD.out.1.2 HL.out.1 HS.out.2.1 hn HL.out.2).mono ?_
        rintro e w3 ⟨rfl, hk⟩
        replace HS := Lib.hid (HS.out.keep hk)
        replace HD := Lib.hid (And.intro HD.out.1 (HD.out.2.keep hk))
        replace HQ := Lib.hid (HQ.out.keep hk)
        clear hk
        clear bHS q0 q1 q2
        have j0 : decide ((0 : Int) ≤ j) = true := decide_eq_true (by omega)
        have j2 : (j : Int) < nd := by omega
        obtain ⟨g, off, m, Ab, cb, ps, rfl, _, _, hbk, d0, d1, hrow⟩ := HD.out.2.1.at_ (i := j) (by have := HD.out.1.1; omega)
        obtain ⟨_, hall⟩ := dev_parts HE.out.1
        have hp4 : ps.length = 4 := (block_parts (hall _ (List.mem_of_getElem? hbk))).2.1
        obtain ⟨hr, f1, f2, f3⟩ := may_facts HE.out.1 hbk HE.out.2
        have HR := Lib.hid (And.intro hr (And.intro hrow hp4))
        clear hr hrow hp4 hall hbk
        go_wp2_with fail
        refine (next_val rfl HR.out.1 _ HR.out.2.1.here (by have := HR.out.2.2; omega)).mono ?_
        rintro e w5 ⟨rfl, hk1⟩
        replace HS := Lib.hid (HS.out.keep hk1)
        replace HD := Lib.hid (And.intro HD.out.1 (HD.out.2.keep hk1))
        replace HQ := Lib.hid (HQ.out.keep hk1)
        clear hk1 d0 d1
        obtain ⟨q0, q1, q2⟩ := cells3 HQ.out
        go_wp2
        go_ret
        exact ⟨rfl, HS.out.2.2⟩

/-! ### THE ROW's STEP: WRITTEN OUT: LEAVE IT -/
set_option maxRecDepth 100000 in
theorem lifted (os : Os) (started : os.Started) (H : Type) (enc : TypeId × Value → H) :
    ReturnsInHanded {} Try.checked os 5 .any (Rows.fnBestVictimSpec.pre6 enc Try.prog Try.f5 Rows.fnBestVictimRow.domain false) (Rows.fnBestVictimSpec.post enc Try.prog Try.f5 false true false false) := by
  refine returnsInHanded_of_change (C := Try.checked) own started (by kernel_rfl) Try.func5
    (ChangeSpec.witness6 (enc := enc) (C := Try.checked) false ⟨#[], #[.slice none 0 0], []⟩ 8 (by kernel_rfl) (by kernel_rfl) (by kernel_rfl) (by kernel_rfl)) ?_
  intro W base args ds gs before hval0 hW hcnd _
  have hval : ∀ (j : Nat) t v, Try.f5.params[j]? = some t → args[j]? = some v → Value.okWide Try.prog W .any base t v := hval0
  have hW' := hW
  obtain ⟨p, q, hA0, hV, rfl, hfz, hnd⟩ := hW
  have hA : DataW.TrodAll enc Try.prog W 0 (fun _ => true) true Try.f5.params.toList args.toList ds p := hA0
  rw [Try.params5] at hA hval
  obtain ⟨v0, vs0, d0, ds0, p0, q0, hargs, rfl, rfl, h0, r0⟩ := trodAll_cons hA
  obtain ⟨rfl, rfl, rfl⟩ := trodAll_nil r0
  obtain rfl : args = #[v0] := by cases args; simp_all
  obtain ⟨rfl, rfl⟩ := trodVars_none hV
  obtain ⟨a0, len0, cap0, rfl⟩ := okWide_slice Try.underlying22 (hval 0 22 v0 rfl rfl)
  have k0 := h0
  have lt0 : ∀ x ∈ p0, x.block < W.heap.size := by obtain ⟨m, hm⟩ := k0; exact DataW.trod_lt m _ _ _ hm
  obtain ⟨z0, w0⟩ : ∃ zs, IsRow .u8 W a0 len0 cap0 zs := by
    obtain ⟨fuel, hf⟩ := h0
    rcases open_ints Try.underlying22 Try.underlying5 (by kernel_rfl) hf with ⟨hcs, _⟩ | ⟨x, l, c, zs, hcs, _, hl, hm, hz, _, hcell, hwz⟩
    · simp [Value.cells] at hcs
      obtain ⟨rfl, rfl, rfl⟩ := hcs
      exact ⟨[], .inl ⟨rfl, rfl, rfl, rfl⟩⟩
    · simp [Value.cells] at hcs
      obtain ⟨rfl, rfl, rfl⟩ := hcs
      exact ⟨zs, .inr ⟨_, rfl, hl, hm, by simpa using hz, hcell, hwz⟩⟩
  clear hA0 hval0
  refine (walk a0 len0 cap0 z0 W w0).mono fun e W' ⟨he, bel⟩ => ?_
  subst he
  exact ⟨_, rfl, _, _, _, [], _, [], hW', trodAll_mk1 (shut_bool Try.underlying4 _), (trodAll_cons_mk (Below.trod laidOut (by kernel_rfl) (of_decide_eq_true (by kernel_rfl)) k0 bel lt0) trodAll_mk0), rfl, bel.frame _, fun h => by cases h⟩

theorem over : Rows.fnBestVictimRow.holds Try.pinned (OpenSpec.ofChange Rows.fnBestVictimSpec) :=
  OpenClaim.holds_of_wide 5 Try.f5 rfl rfl rfl rfl rfl rfl rfl ⟨rfl, rfl, rfl, rfl, rfl⟩ rfl rfl rfl rfl rfl (by kernel_rfl) Try.func5 (by kernel_rfl)
    (of_decide_eq_true (by kernel_rfl)) (by unfold Func.isWrapper; first | (rw [if_pos (by decide +kernel)]; kernel_rfl) | (rw [if_neg (by decide +kernel)]; exact ⟨rfl, rfl⟩))
    (fun os started H enc _ => lifted os started H enc)

/-- ████ THE STATEMENT ████ -/
theorem proved : Rows.FnBestVictimSaid := over
#print axioms proved
end Go.Proofs.Ytjknfofdjkjnpaa.fnBestVictim
