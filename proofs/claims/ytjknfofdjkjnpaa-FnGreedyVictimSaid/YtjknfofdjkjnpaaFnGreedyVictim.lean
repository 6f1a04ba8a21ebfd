/- For every code, GreedyVictim answers of the drawn device, table and heads as its model: all pages of the block are written, not all are used, it is no head, and no other such block has fewer used pages; -1 if there is none: proved.
   Conditions: none beyond the row's own reading of the input. The frame was written by the guide's proof-skeleton; the walk is ours. -/
import Derived.Test.YtjknfofdjkjnpaaDrawVict
import Derived.Test.YtjknfofdjkjnpaaRows
import Derived.WalkKit
import Derived.ProofKit
import Derived.OpenShut
import Derived.ShutString
import Derived.ChangeOld
import Derived.Below
namespace Go.Proofs.Ytjknfofdjkjnpaa.fnGreedyVictim
open Go.ChangeShapes Go.WideShapes Go.ChangeAt Go.RowKit
open Go.ChangeMaps (open_string shut_string)
set_option linter.unusedVariables false

theorem own : ownKnob Try.prog.godebug = none := by kernel_rfl
theorem laidOut : laidOutB Try.prog = true := by kernel_rfl

/-- WHAT THE WALK IS TOLD OF A SLICE OF INTEGERS THAT CAME IN: it is nil; or it leads to a row of 'cap' cells, the numbers 'zs' (the first 'len' are its elements, the rest its spare room), each fitting its kind. -/
def IsRow (k : IntKind) (w : World) (a : Option Addr) (len cap : Nat) (zs : List Int) : Prop :=
  (a = none ∧ len = 0 ∧ cap = 0 ∧ zs = []) ∨
  ∃ x, a = some x ∧ len ≤ cap ∧ cap ≤ maxLen ∧ zs.length = cap ∧ (∀ i, i < zs.length → w.cell? (x.add i) = some (.int k (zs.getD i 0))) ∧ ∀ n ∈ zs, (Lit.int k n).wf = true

/-! ### STEP 1: THE WALK: the Go text returns true, AND WRITES NOTHING THAT WAS THERE: 'Below w.heap.size w w'' (Derived/Below.lean: '.refl', '.alloc', '.drew', '.setCell' at a new block, '.trans'). Open each 'IsRow' by 'rcases' AHEAD of 'go_enter'; part every test ahead of the walk. -/
set_option maxHeartbeats 4000000 in
set_option maxRecDepth 100000 in
theorem walk (a0 : Option Addr) (len0 cap0 : Nat) (z0 : List Int) (w : World) (w0 : IsRow .u8 w a0 len0 cap0 z0) :
    Calls Try.prog 3 #[.slice a0 len0 cap0] w fun e w' => e = .returned (.bool true) ∧ Below w.heap.size w w' := by
  obtain ⟨hl, hc, hb⟩ := bytes_of w0
  by_cases hbig : 1048576 < len0
  · go_enter Try.func3, Try.ntmps3
    go_wp2
    go_ret
    exact ⟨rfl, Below.refl _ _⟩
  · go_enter Try.func3, Try.ntmps3
    go_wp2_with fail
    refine (drawGreedy_any w a0 len0 cap0 hl hc hb).mono ?_
    rintro e wa ⟨D, nd, cd, bs, A, n, c, ls, a, b, h, rfl, hP⟩
    have hbl := hP.1
    have hls := hP.2.1
    have hld := hP.rows.1
    have hlt := hP.rows.2
    clear hP
    have HD := Lib.hid (And.intro (And.intro hbl.1 (fun (q : Bk) (hq : q ∈ bs) => show q.ps.length ≤ 1048576 by have := hbl.2.2 q hq; omega)) ((LD.alloc hld (.cells #[.slice A n c] 26)).alloc (.cells #[.int .i64 a, .int .i64 b, .int .i64 h] 28)))
    have hnd : nd ≤ 1048576 := by have := hbl.2.1; omega
    have hnd13 : nd ≤ 13 := hbl.2.1
    have HS := Lib.hid ((LV.start hlt n c).keep (grown_alloc (grown_refl _ none) (.cells #[.int .i64 a, .int .i64 b, .int .i64 h] 28)))
    have HQ : RowKit.Hid (Blk (World.alloc (World.alloc wa (.cells #[.slice A n c] 26)) (.cells #[.int .i64 a, .int .i64 b, .int .i64 h] 28)) (wa.heap.size + 1) 28 #[.int .i64 a, .int .i64 b, .int .i64 h]) := Lib.hid (by have h1 := Blk.new (World.alloc wa (.cells #[.slice A n c] 26)) 28 #[.int .i64 a, .int .i64 b, .int .i64 h]; rw [size_alloc1] at h1; exact h1)
    have HL := Lib.hid (And.intro hls.1 (fun (l : Li) (hq : l ∈ ls) => show l.xs.length ≤ 1048576 by have := hls.2.2 l hq; omega))
    have hn : n ≤ 1048576 := by have := hls.2.1; omega
    clear hb w0 hbl hls hld hlt
    obtain ⟨X, hX⟩ : ∃ X, countsV bs (ll ls) = X := ⟨_, rfl⟩
    obtain ⟨n1, hn1'⟩ : ∃ n1, X.length = n1 := ⟨_, rfl⟩
    have hn12 : n1 ≤ 12 := by rw [← hn1', ← hX]; exact counts_small _ _
    have hnn : n1 ≤ nd := by rw [← hn1', ← hX, ← HD.out.1.1]; exact counts_len _ _
    obtain ⟨V, hV⟩ : ∃ V, greedyV nd bs X a b h = V := ⟨_, rfl⟩
    have hcase := greedy_law HD.out.1.1 hn1' hV
    have HV := Lib.hid (And.intro hX (And.intro hn1' (show greedyV nd bs (countsV bs (ll ls)) a b h = V by rw [hX]; exact hV)))
    have tVV : (V != V) = false := by simp
    clear hX hn1' hV
    have bHS := HS.out.cell
    obtain ⟨q0, q1, q2⟩ := cells3 HQ.out
    go_wp2_with fail
    refine (greedy_val HV.out.2.2 HD.out.1.1 HD.out.2.1 hnd HD.out.1.2 HL.out.1 HS.out.2.1 hn HL.out.2).mono ?_
    rintro e w1 ⟨rfl, hk⟩
    replace HS := Lib.hid (HS.out.keep hk)
    replace HD := Lib.hid (And.intro HD.out.1 (HD.out.2.keep hk))
    replace HQ := Lib.hid (HQ.out.keep hk)
    clear hk
    clear bHS q0 q1 q2
    have bHS := HS.out.cell
    obtain ⟨q0, q1, q2⟩ := cells3 HQ.out
    go_wp2_with fail
    refine (specGreedy_val HV.out.2.2 HD.out.1.1 HD.out.2.1 hnd HD.out.1.2 HL.out.1 HS.out.2.1 hn HL.out.2).mono ?_
    rintro e w2 ⟨rfl, hk⟩
    replace HS := Lib.hid (HS.out.keep hk)
    replace HD := Lib.hid (And.intro HD.out.1 (HD.out.2.keep hk))
    replace HQ := Lib.hid (HQ.out.keep hk)
    clear hk
    clear bHS q0 q1 q2
    have bHS := HS.out.cell
    obtain ⟨q0, q1, q2⟩ := cells3 HQ.out
    go_wp2_with fail
    refine (counts_val HV.out.1 HV.out.2.1 HD.out.1.1 HD.out.2.1 hnd HD.out.1.2 HL.out.1 HS.out.2.1 hn HL.out.2).mono ?_
    rintro e w3 ⟨AP, cP, rfl, hlP, ho, hk⟩
    have HP := Lib.hid (And.intro hlP (VOwn.row ho))
    replace HS := Lib.hid (HS.out.keep hk)
    replace HD := Lib.hid (And.intro HD.out.1 (HD.out.2.keep hk))
    replace HQ := Lib.hid (HQ.out.keep hk)
    clear hk ho hlP
    clear bHS q0 q1 q2
    have bHS := HS.out.cell
    obtain ⟨q0, q1, q2⟩ := cells3 HQ.out
    rcases hcase with ⟨hz, rfl⟩ | ⟨hz, hv, hV1, hVn, hall⟩
    · by_cases h0 : n1 = 0
      · subst h0
        go_wp2_with (go_at_call 14; refine (alive_any _).mono ?_; rintro e w' ⟨rfl, rfl⟩)
        go_ret
        exact ⟨rfl, HS.out.2.2⟩
      · have e0 : ((n1 : Int) == 0) = false := by rw [beq_eq_false_iff_ne]; omega
        have e0' : (n1 == 0) = false := by rw [beq_eq_false_iff_ne]; exact h0
        have HW := Lib.hid (show (headsB nd a b h && devB bs) = false by rcases hz with h1 | h1; exact absurd h1 h0; exact h1)
        go_wp2_with fail
        refine (headsValid_val HW.out HD.out.1.1 HD.out.2.1 hnd HD.out.1.2).mono ?_
        rintro e w4 ⟨rfl, hk⟩
        replace HS := Lib.hid (HS.out.keep hk)
        replace HD := Lib.hid (And.intro HD.out.1 (HD.out.2.keep hk))
        replace HQ := Lib.hid (HQ.out.keep hk)
        clear hk
        clear bHS q0 q1 q2
        go_wp2_with (go_at_call 14; refine (alive_any _).mono ?_; rintro e w' ⟨rfl, rfl⟩)
        go_ret
        exact ⟨rfl, HS.out.2.2⟩
    · have e0 : ((n1 : Int) == 0) = false := by rw [beq_eq_false_iff_ne]; omega
      have e0' : (n1 == 0) = false := by rw [beq_eq_false_iff_ne]; exact hz
      have HW := Lib.hid (And.intro hv hall)
      have hd : devB bs = true := by rw [Bool.and_eq_true] at hv; exact hv.2
      have HE := Lib.hid hd
      have t0 : decide ((n1 : Int) ≤ V) = false := decide_eq_false (by omega)
      clear hv hall hd tVV
      go_wp2_with fail
      refine (headsValid_val HW.out.1 HD.out.1.1 HD.out.2.1 hnd HD.out.1.2).mono ?_
      rintro e w4 ⟨rfl, hk⟩
      replace HS := Lib.hid (HS.out.keep hk)
      replace HD := Lib.hid (And.intro HD.out.1 (HD.out.2.keep hk))
      replace HQ := Lib.hid (HQ.out.keep hk)
      replace HP := Lib.hid (And.intro HP.out.1 (IRow.keepN HP.out.2 hk))
      clear hk
      clear bHS q0 q1 q2
      go_wp2
      go_loopw [8] (fun i wr => ∃ k : Nat, i = .int .i64 k ∧ k ≤ n1 ∧ LV w wa.heap.size A n c ls wr ∧ LD w D bs wr ∧ Blk wr (wa.heap.size + 1) 28 #[.int .i64 a, .int .i64 b, .int .i64 h] ∧ IRow wr wr.heap.size AP X) (fun i _ => n1 - (intOf i).toNat)
      case atStart => exact ⟨0, rfl, Nat.zero_le _, HS.out, HD.out.2, HQ.out, HP.out.2⟩
      case round =>
        rename World => wq
        obtain ⟨k, rfl, hk, hS, hD, hQ, hP⟩ := hrel
        replace HS := Lib.hid hS
        replace HD := Lib.hid (And.intro HD.out.1 hD)
        replace HQ := Lib.hid hQ
        replace HP := Lib.hid (And.intro HP.out.1 hP)
        clear hS hD hQ hP
        by_cases hlt : k < n1
        · have k0 : decide ((0 : Int) ≤ k) = true := decide_eq_true (by omega)
          have k1 : (k : Int) < n1 := by omega
          have k2 : (k : Int) < nd := by omega
          obtain ⟨gP, oP, rfl⟩ := HP.out.2.pos (by have := HP.out.1; omega)
          obtain ⟨x, hx⟩ : ∃ x, X[k]? = some x := ⟨_, List.getElem?_eq_getElem (by have := HP.out.1; omega)⟩
          obtain ⟨g, off, m, Ab, cb, ps, rfl, _, _, hbk, d0, d1, hrow⟩ := HD.out.2.1.at_ (i := k) (by have := HD.out.1.1; omega)
          obtain ⟨_, hall⟩ := dev_parts HE.out
          have hp4 : ps.length = 4 := (block_parts (hall _ (List.mem_of_getElem? hbk))).2.1
          obtain ⟨r, hr⟩ : ∃ r, nextV m ps = r := ⟨_, rfl⟩
          have hm := may_cases (a := a) (b := b) (h := h) HE.out hbk hx
          rw [hr] at hm
          have HR := Lib.hid (And.intro hr (And.intro hrow (And.intro hp4 (And.intro hx (HW.out.2 k hlt)))))
          clear hr hrow hp4 hall hbk hx
          go_wp2_with fail
          refine (next_val rfl HR.out.1 _ HR.out.2.1.here (by have := HR.out.2.2.1; omega)).mono ?_
          rintro e w5 ⟨rfl, hk1⟩
          replace HS := Lib.hid (HS.out.keep hk1)
          replace HD := Lib.hid (And.intro HD.out.1 (HD.out.2.keep hk1))
          replace HQ := Lib.hid (HQ.out.keep hk1)
          replace HP := Lib.hid (And.intro HP.out.1 (IRow.keepN HP.out.2 hk1))
          clear hk1 d0 d1
          obtain ⟨q0, q1, q2⟩ := cells3 HQ.out
          have c0 := HP.out.2.cellf HR.out.2.2.2.1
          cases t1 : (r == -1)
          · have hM : mayB bs X a b h k = false := by rw [hm, t1]; rfl
            have hkV : ((k : Int) == V) = false := by
              rcases HR.out.2.2.2.2 with ⟨_, h2⟩ | ⟨h1, _⟩
              · rw [beq_eq_false_iff_ne]; exact h2
              · rw [hM] at h1; cases h1
            clear hM hm
            go_wp2_with fail
            go_quiet (fail)
            replace HS := Lib.hid (HS.out.keep (grown_drewN (grown_refl _ none) nq))
            replace HD := Lib.hid (And.intro HD.out.1 (HD.out.2.keep (grown_drewN (grown_refl _ none) nq)))
            replace HQ := Lib.hid (HQ.out.keep (grown_drewN (grown_refl _ none) nq))
            replace HP := Lib.hid (And.intro HP.out.1 (IRow.keepN HP.out.2 (grown_drewN (grown_refl _ none) nq)))
            clear c0 q0 q1 q2
            generalize w5.drewN nq = wu at HS HD HQ HP
            go_wp2
            go_roundw
            case rel => exact ⟨k + 1, by go_num, by omega, HS.out, HD.out.2, HQ.out, HP.out.2⟩
            case measure => simp [intOf]; omega
          · cases t2 : decide (x < 4)
            · have hM : mayB bs X a b h k = false := by rw [hm, t1, t2]; rfl
              have hkV : ((k : Int) == V) = false := by
                rcases HR.out.2.2.2.2 with ⟨_, h2⟩ | ⟨h1, _⟩
                · rw [beq_eq_false_iff_ne]; exact h2
                · rw [hM] at h1; cases h1
              clear hM hm
              go_wp2_with fail
              go_quiet (fail)
              replace HS := Lib.hid (HS.out.keep (grown_drewN (grown_refl _ none) nq))
              replace HD := Lib.hid (And.intro HD.out.1 (HD.out.2.keep (grown_drewN (grown_refl _ none) nq)))
              replace HQ := Lib.hid (HQ.out.keep (grown_drewN (grown_refl _ none) nq))
              replace HP := Lib.hid (And.intro HP.out.1 (IRow.keepN HP.out.2 (grown_drewN (grown_refl _ none) nq)))
              clear c0 q0 q1 q2
              generalize w5.drewN nq = wu at HS HD HQ HP
              go_wp2
              go_roundw
              case rel => exact ⟨k + 1, by go_num, by omega, HS.out, HD.out.2, HQ.out, HP.out.2⟩
              case measure => simp [intOf]; omega
            · cases t3 : ((k : Int) != a)
              · have hM : mayB bs X a b h k = false := by rw [hm, t1, t2, t3]; rfl
                have hkV : ((k : Int) == V) = false := by
                  rcases HR.out.2.2.2.2 with ⟨_, h2⟩ | ⟨h1, _⟩
                  · rw [beq_eq_false_iff_ne]; exact h2
                  · rw [hM] at h1; cases h1
                clear hM hm
                go_wp2_with fail
                go_quiet (fail)
                replace HS := Lib.hid (HS.out.keep (grown_drewN (grown_refl _ none) nq))
                replace HD := Lib.hid (And.intro HD.out.1 (HD.out.2.keep (grown_drewN (grown_refl _ none) nq)))
                replace HQ := Lib.hid (HQ.out.keep (grown_drewN (grown_refl _ none) nq))
                replace HP := Lib.hid (And.intro HP.out.1 (IRow.keepN HP.out.2 (grown_drewN (grown_refl _ none) nq)))
                clear c0 q0 q1 q2
                generalize w5.drewN nq = wu at HS HD HQ HP
                go_wp2
                go_roundw
                case rel => exact ⟨k + 1, by go_num, by omega, HS.out, HD.out.2, HQ.out, HP.out.2⟩
                case measure => simp [intOf]; omega
              · cases t4 : ((k : Int) != b)
                · have hM : mayB bs X a b h k = false := by rw [hm, t1, t2, t3, t4]; rfl
                  have hkV : ((k : Int) == V) = false := by
                    rcases HR.out.2.2.2.2 with ⟨_, h2⟩ | ⟨h1, _⟩
                    · rw [beq_eq_false_iff_ne]; exact h2
                    · rw [hM] at h1; cases h1
                  clear hM hm
                  go_wp2_with fail
                  go_quiet (fail)
                  replace HS := Lib.hid (HS.out.keep (grown_drewN (grown_refl _ none) nq))
                  replace HD := Lib.hid (And.intro HD.out.1 (HD.out.2.keep (grown_drewN (grown_refl _ none) nq)))
                  replace HQ := Lib.hid (HQ.out.keep (grown_drewN (grown_refl _ none) nq))
                  replace HP := Lib.hid (And.intro HP.out.1 (IRow.keepN HP.out.2 (grown_drewN (grown_refl _ none) nq)))
                  clear c0 q0 q1 q2
                  generalize w5.drewN nq = wu at HS HD HQ HP
                  go_wp2
                  go_roundw
                  case rel => exact ⟨k + 1, by go_num, by omega, HS.out, HD.out.2, HQ.out, HP.out.2⟩
                  case measure => simp [intOf]; omega
                · cases t5 : ((k : Int) != h)
                  · have hM : mayB bs X a b h k = false := by rw [hm, t1, t2, t3, t4, t5]; rfl
                    have hkV : ((k : Int) == V) = false := by
                      rcases HR.out.2.2.2.2 with ⟨_, h2⟩ | ⟨h1, _⟩
                      · rw [beq_eq_false_iff_ne]; exact h2
                      · rw [hM] at h1; cases h1
                    clear hM hm
                    go_wp2_with fail
                    go_quiet (fail)
                    replace HS := Lib.hid (HS.out.keep (grown_drewN (grown_refl _ none) nq))
                    replace HD := Lib.hid (And.intro HD.out.1 (HD.out.2.keep (grown_drewN (grown_refl _ none) nq)))
                    replace HQ := Lib.hid (HQ.out.keep (grown_drewN (grown_refl _ none) nq))
                    replace HP := Lib.hid (And.intro HP.out.1 (IRow.keepN HP.out.2 (grown_drewN (grown_refl _ none) nq)))
                    clear c0 q0 q1 q2
                    generalize w5.drewN nq = wu at HS HD HQ HP
                    go_wp2
                    go_roundw
                    case rel => exact ⟨k + 1, by go_num, by omega, HS.out, HD.out.2, HQ.out, HP.out.2⟩
                    case measure => simp [intOf]; omega
                  · have hM : mayB bs X a b h k = true := by rw [hm, t1, t2, t3, t4, t5]; rfl
                    obtain ⟨q, hVq, hqn, hle⟩ : ∃ q : Nat, V = (q : Int) ∧ q < n1 ∧ cAt X (q : Int) ≤ cAt X (k : Int) := by
                      rcases HR.out.2.2.2.2 with ⟨h1, _⟩ | ⟨_, h2⟩
                      · rw [hM] at h1; cases h1
                      · exact h2
                    subst hVq
                    obtain ⟨y, hy⟩ : ∃ y, X[q]? = some y := ⟨_, List.getElem?_eq_getElem (by have := HP.out.1; omega)⟩
                    have c1 := HP.out.2.cellf hy
                    rw [cAt_of hy, cAt_of HR.out.2.2.2.1] at hle
                    have e5 : decide (x < y) = false := decide_eq_false (by omega)
                    have e6 : decide ((q : Int) < 0) = false := decide_eq_false (by omega)
                    have q3 : decide ((0 : Int) ≤ q) = true := decide_eq_true (by omega)
                    have q4 : (q : Int) < n1 := by omega
                    clear hM hm hy hle
                    by_cases e7 : k = q
                    · subst e7
                      have e8 : ((k : Int) == (k : Int)) = true := by simp
                      go_wp2_with fail
                      go_quiet (fail)
                      replace HS := Lib.hid (HS.out.keep (grown_drewN (grown_refl _ none) nq))
                      replace HD := Lib.hid (And.intro HD.out.1 (HD.out.2.keep (grown_drewN (grown_refl _ none) nq)))
                      replace HQ := Lib.hid (HQ.out.keep (grown_drewN (grown_refl _ none) nq))
                      replace HP := Lib.hid (And.intro HP.out.1 (IRow.keepN HP.out.2 (grown_drewN (grown_refl _ none) nq)))
                      clear c0 c1 q0 q1 q2
                      generalize w5.drewN nq = wu at HS HD HQ HP
                      go_wp2
                      go_roundw
                      case rel => exact ⟨k + 1, by go_num, by omega, HS.out, HD.out.2, HQ.out, HP.out.2⟩
                      case measure => simp [intOf]; omega
                    · have e8 : ((k : Int) == (q : Int)) = false := by rw [beq_eq_false_iff_ne]; omega
                      have e9 : (k == q) = false := by rw [beq_eq_false_iff_ne]; exact e7
                      go_wp2_with fail
                      go_quiet (fail)
                      replace HS := Lib.hid (HS.out.keep (grown_drewN (grown_refl _ none) nq))
                      replace HD := Lib.hid (And.intro HD.out.1 (HD.out.2.keep (grown_drewN (grown_refl _ none) nq)))
                      replace HQ := Lib.hid (HQ.out.keep (grown_drewN (grown_refl _ none) nq))
                      replace HP := Lib.hid (And.intro HP.out.1 (IRow.keepN HP.out.2 (grown_drewN (grown_refl _ none) nq)))
                      clear c0 c1 q0 q1 q2
                      generalize w5.drewN nq = wu at HS HD HQ HP
                      go_wp2
                      go_roundw
                      case rel => exact ⟨k + 1, by go_num, by omega, HS.out, HD.out.2, HQ.out, HP.out.2⟩
                      case measure => simp [intOf]; omega
        · obtain rfl : k = n1 := by omega
          have t1 : decide ((-1 : Int) ≤ V) = true := decide_eq_true hV1
          go_wp2
          go_ret
          exact ⟨rfl, HS.out.2.2⟩

/-! ### THE ROW's STEP: WRITTEN OUT: LEAVE IT -/
set_option maxRecDepth 100000 in
theorem lifted (os : Os) (started : os.Started) (H : Type) (enc : TypeId × Value → H) :
    ReturnsInHanded {} Try.checked os 3 .any (Rows.fnGreedyVictimSpec.pre6 enc Try.prog Try.f3 Rows.fnGreedyVictimRow.domain false) (Rows.fnGreedyVictimSpec.post enc Try.prog Try.f3 false true false false) := by
  refine returnsInHanded_of_change (C := Try.checked) own started (by kernel_rfl) Try.func3
    (ChangeSpec.witness6 (enc := enc) (C := Try.checked) false ⟨#[], #[.slice none 0 0], []⟩ 8 (by kernel_rfl) (by kernel_rfl) (by kernel_rfl) (by kernel_rfl)) ?_
  intro W base args ds gs before hval0 hW hcnd _
  have hval : ∀ (j : Nat) t v, Try.f3.params[j]? = some t → args[j]? = some v → Value.okWide Try.prog W .any base t v := hval0
  have hW' := hW
  obtain ⟨p, q, hA0, hV, rfl, hfz, hnd⟩ := hW
  have hA : DataW.TrodAll enc Try.prog W 0 (fun _ => true) true Try.f3.params.toList args.toList ds p := hA0
  rw [Try.params3] at hA hval
  obtain ⟨v0, vs0, d0, ds0, p0, q0, hargs, rfl, rfl, h0, r0⟩ := trodAll_cons hA
  obtain ⟨rfl, rfl, rfl⟩ := trodAll_nil r0
  obtain rfl : args = #[v0] := by cases args; simp_all
  obtain ⟨rfl, rfl⟩ := trodVars_none hV
  obtain ⟨a0, len0, cap0, rfl⟩ := okWide_slice Try.underlying22 (hval 0 22 v0 rfl rfl)
  have k0 := h0
  have lt0 : ∀ x ∈ p0, x.block < W.heap.size := by obtain ⟨m, hm⟩ := k0; exact DataW.trod_lt m _ _ _ hm
  obtain ⟨z0, w0⟩ : ∃ zs, IsRow .u8 W a0 len0 cap0 zs := by
    obtain ⟨fuel, hf⟩ := h0
    rcases open_ints Try.underlying22 Try.underlying5 (by kernel_rfl) hf with ⟨hcs, _⟩ | ⟨x, l, c, zs, hcs, _, hl, hm, hz, _, hcell, hwz⟩
    · simp [Value.cells] at hcs
      obtain ⟨rfl, rfl, rfl⟩ := hcs
      exact ⟨[], .inl ⟨rfl, rfl, rfl, rfl⟩⟩
    · simp [Value.cells] at hcs
      obtain ⟨rfl, rfl, rfl⟩ := hcs
      exact ⟨zs, .inr ⟨_, rfl, hl, hm, by simpa using hz, hcell, hwz⟩⟩
  clear hA0 hval0
  refine (walk a0 len0 cap0 z0 W w0).mono fun e W' ⟨he, bel⟩ => ?_
  subst he
  exact ⟨_, rfl, _, _, _, [], _, [], hW', trodAll_mk1 (shut_bool Try.underlying4 _), (trodAll_cons_mk (Below.trod laidOut (by kernel_rfl) (of_decide_eq_true (by kernel_rfl)) k0 bel lt0) trodAll_mk0), rfl, bel.frame _, fun h => by cases h⟩

theorem over : Rows.fnGreedyVictimRow.holds Try.pinned (OpenSpec.ofChange Rows.fnGreedyVictimSpec) :=
  OpenClaim.holds_of_wide 3 Try.f3 rfl rfl rfl rfl rfl rfl rfl ⟨rfl, rfl, rfl, rfl, rfl⟩ rfl rfl rfl rfl rfl (by kernel_rfl) Try.func3 (by kernel_rfl)
    (of_decide_eq_true (by kernel_rfl)) (by unfold Func.isWrapper; first | (rw [if_pos (by decide +kernel)]; kernel_rfl) | (rw [if_neg (by decide +kernel)]; exact ⟨rfl, rfl⟩))
    (fun os started H enc _ => lifted os started H enc)

/-- ████ THE STATEMENT ████ -/
theorem proved : Rows.FnGreedyVictimSaid := over
#print axioms proved
end Go.Proofs.Ytjknfofdjkjnpaa.fnGreedyVictim
