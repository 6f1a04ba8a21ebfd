/- For every code, AppendPage answers of the drawn device, heads, kind of heat and page as its model, and what the statement asks of the page, of the heads and of the other pages holds: proved.
   Conditions: none beyond the row's own reading of the input. The frame was written by the guide's proof-skeleton; the walk is ours. -/
import Derived.Test.YtpdkfgihpchkiaaLawHeads2
import Derived.Test.YtpdkfgihpchkiaaHand
import Derived.Test.YtpdkfgihpchkiaaRows
import Derived.WalkKit
import Derived.ProofKit
import Derived.OpenShut
import Derived.ShutString
import Derived.ChangeOld
import Derived.Below
namespace Go.Proofs.Ytpdkfgihpchkiaa.fnAppendPage
open Go.ChangeShapes Go.WideShapes Go.ChangeAt Go.RowKit
open Go.ChangeMaps (open_string shut_string)
set_option linter.unusedVariables false
set_option linter.unusedSimpArgs false

theorem own : ownKnob Try.prog.godebug = none := by kernel_rfl
theorem laidOut : laidOutB Try.prog = true := by kernel_rfl

/-- WHAT THE WALK IS TOLD OF A SLICE OF INTEGERS THAT CAME IN: it is nil; or it leads to a row of 'cap' cells, the numbers 'zs' (the first 'len' are its elements, the rest its spare room), each fitting its kind. -/
def IsRow (k : IntKind) (w : World) (a : Option Addr) (len cap : Nat) (zs : List Int) : Prop :=
  (a = none ∧ len = 0 ∧ cap = 0 ∧ zs = []) ∨
  ∃ x, a = some x ∧ len ≤ cap ∧ cap ≤ maxLen ∧ zs.length = cap ∧ (∀ i, i < zs.length → w.cell? (x.add i) = some (.int k (zs.getD i 0))) ∧ ∀ n ∈ zs, (Lit.int k n).wf = true

/-! ### STEP 1: THE WALK: the Go text returns true, AND WRITES NOTHING THAT WAS THERE: 'Below w.heap.size w w'' (Derived/Below.lean: '.refl', '.alloc', '.drew', '.setCell' at a new block, '.trans'). Open each 'IsRow' by 'rcases' AHEAD of 'go_enter'; part every test ahead of the walk. -/
set_option maxHeartbeats 16000000 in
set_option maxRecDepth 100000 in
theorem walk (a0 : Option Addr) (len0 cap0 : Nat) (z0 : List Int) (w : World) (w0 : IsRow .u8 w a0 len0 cap0 z0) :
    Calls Try.prog 4 #[.slice a0 len0 cap0] w fun e w' => e = .returned (.bool true) ∧ Below w.heap.size w w' := by
  obtain ⟨hl, hc, hb⟩ := bytes_of w0
  by_cases hbig : 1048576 < len0
  · go_enter Try.func4, Try.ntmps4
    go_wp2
    go_ret
    exact ⟨rfl, Below.refl _ _⟩
  · go_enter Try.func4, Try.ntmps4
    go_wp2_with fail
    refine (drawAppendPage_any w a0 len0 cap0 hl hc hb).mono ?_
    rintro e wa ⟨A, n, c, bs, a, b, h, j, f, x1, x2, x3, x4, rfl, hln, h13, hsm, hs0⟩
    have HS := Lib.hid ((hs0.alloc (.cells #[.int .i64 a, .int .i64 b, .int .i64 h] 25)).alloc (.cells #[.bool f, .int .i64 x1, .int .i64 x2, .int .i64 x3, .int .i64 x4] 37))
    have HQ := Lib.hid ((Blk.new wa 25 #[.int .i64 a, .int .i64 b, .int .i64 h]).alloc (.cells #[.bool f, .int .i64 x1, .int .i64 x2, .int .i64 x3, .int .i64 x4] 37))
    have hp0 := Blk.new (wa.alloc (.cells #[.int .i64 a, .int .i64 b, .int .i64 h] 25)) 37 #[.bool f, .int .i64 x1, .int .i64 x2, .int .i64 x3, .int .i64 x4]
    simp only [size_alloc1] at hp0
    have HP := Lib.hid hp0
    have HL := Lib.hid (And.intro hln (fun (q : Bk) (hq : q ∈ bs) => show q.ps.length ≤ 1048576 by have := hsm q hq; omega))
    clear hb w0 hln hsm hs0 hp0
    obtain ⟨n1, l1, y1, y2, y3, r, hri, hn1, ht1⟩ := append_is HL.out.1 a b h j f x1 x2 x3 x4
    have hcase := app_cases HL.out.1 hri
    have HI := Lib.hid hri
    clear hri ht1
    rcases hcase with ⟨rfl, rfl, rfl, rfl, rfl, rfl⟩ | ⟨rfl, rfl, rfl, rfl, rfl, rfl⟩ | ⟨j0, k, i, v, rfl, hj3, rfl, rfl, hv9, rfl, hi4, hkn, hd0, hh, hh1, hdk, ho9, hc9⟩
    · obtain ⟨q0, q1, q2⟩ := cells3 HQ.out
      obtain ⟨p0, p1, p2, p3, p4⟩ := cells5 HP.out
      go_wp2_with fail
      refine (append_val HI.out HL.out.1 HS.out.1 (by omega) HL.out.2).mono ?_
      rintro e w1 ⟨A1, c1, cs1, rfl, hl, hs, ho, hk⟩
      replace HS := Lib.hid (HS.out.keep hk)
      replace HQ := Lib.hid (HQ.out.keep hk)
      replace HP := Lib.hid (HP.out.keep hk)
      have HX := Lib.hid (show LD w A1 cs1 w1 from ⟨ho.row, HS.out.2⟩)
      have SHX := Lib.hid (And.intro hl hs)
      clear hl hs ho hk
      have hn := Blk.new w1 25 #[.int .i64 0, .int .i64 0, .int .i64 0]
      replace HS := Lib.hid (HS.out.keep (grown_alloc (grown_refl _ none) (.cells #[.int .i64 0, .int .i64 0, .int .i64 0] 25)))
      replace HQ := Lib.hid (HQ.out.keep (grown_alloc (grown_refl _ none) (.cells #[.int .i64 0, .int .i64 0, .int .i64 0] 25)))
      replace HP := Lib.hid (HP.out.keep (grown_alloc (grown_refl _ none) (.cells #[.int .i64 0, .int .i64 0, .int .i64 0] 25)))
      replace HX := Lib.hid (HX.out.keep (grown_alloc (grown_refl _ none) (.cells #[.int .i64 0, .int .i64 0, .int .i64 0] 25)))
      have HY1 := Lib.hid hn
      clear hn
      clear q0 q1 q2
      clear p0 p1 p2 p3 p4
      obtain ⟨q0, q1, q2⟩ := cells3 HQ.out
      obtain ⟨p0, p1, p2, p3, p4⟩ := cells5 HP.out
      go_wp2_with fail
      refine (specAppend_val HI.out HL.out.1 HS.out.1 (by omega) HL.out.2).mono ?_
      rintro e w2 ⟨A2, c2, cs2, rfl, hl, hs, ho, hk⟩
      replace HS := Lib.hid (HS.out.keep hk)
      replace HQ := Lib.hid (HQ.out.keep hk)
      replace HP := Lib.hid (HP.out.keep hk)
      replace HX := Lib.hid (HX.out.keep hk)
      replace HY1 := Lib.hid (HY1.out.keep hk)
      have HZ := Lib.hid (show LD w A2 cs2 w2 from ⟨ho.row, HS.out.2⟩)
      have SHZ := Lib.hid (And.intro hl hs)
      clear hl hs ho hk
      have hn := Blk.new w2 25 #[.int .i64 0, .int .i64 0, .int .i64 0]
      replace HS := Lib.hid (HS.out.keep (grown_alloc (grown_refl _ none) (.cells #[.int .i64 0, .int .i64 0, .int .i64 0] 25)))
      replace HQ := Lib.hid (HQ.out.keep (grown_alloc (grown_refl _ none) (.cells #[.int .i64 0, .int .i64 0, .int .i64 0] 25)))
      replace HP := Lib.hid (HP.out.keep (grown_alloc (grown_refl _ none) (.cells #[.int .i64 0, .int .i64 0, .int .i64 0] 25)))
      replace HX := Lib.hid (HX.out.keep (grown_alloc (grown_refl _ none) (.cells #[.int .i64 0, .int .i64 0, .int .i64 0] 25)))
      replace HY1 := Lib.hid (HY1.out.keep (grown_alloc (grown_refl _ none) (.cells #[.int .i64 0, .int .i64 0, .int .i64 0] 25)))
      replace HZ := Lib.hid (HZ.out.keep (grown_alloc (grown_refl _ none) (.cells #[.int .i64 0, .int .i64 0, .int .i64 0] 25)))
      have HY2 := Lib.hid hn
      clear hn
      clear q0 q1 q2
      clear p0 p1 p2 p3 p4
      go_wp2_with fail
      refine (sameDevice_same _ _ _ _ _ _ _ _ SHX.out.1 (SHX.out.2.trans SHZ.out.2.symm) HX.out.1 HZ.out.1 (by omega) (small_nil SHX.out.1)).mono ?_
      rintro e w3 ⟨rfl, hk⟩
      replace HS := Lib.hid (HS.out.keep hk)
      replace HQ := Lib.hid (HQ.out.keep hk)
      replace HP := Lib.hid (HP.out.keep hk)
      replace HX := Lib.hid (HX.out.keep hk)
      replace HY1 := Lib.hid (HY1.out.keep hk)
      replace HZ := Lib.hid (HZ.out.keep hk)
      replace HY2 := Lib.hid (HY2.out.keep hk)
      clear hk
      obtain ⟨u0, u1, u2⟩ := cells3 HY1.out
      obtain ⟨v0, v1, v2⟩ := cells3 HY2.out
      go_wp2_with fail
      by_cases hn0 : n = 0
      · subst hn0
        refine (sameDevice_same _ _ _ _ _ _ _ _ SHX.out.1 (by rw [List.eq_nil_of_length_eq_zero SHX.out.1, List.eq_nil_of_length_eq_zero HL.out.1]) HX.out.1 HS.out.1 (by omega) (small_nil SHX.out.1)).mono ?_
        rintro e w4 ⟨rfl, hk⟩
        replace HS := Lib.hid (HS.out.keep hk)
        replace HQ := Lib.hid (HQ.out.keep hk)
        replace HP := Lib.hid (HP.out.keep hk)
        replace HX := Lib.hid (HX.out.keep hk)
        replace HY1 := Lib.hid (HY1.out.keep hk)
        replace HZ := Lib.hid (HZ.out.keep hk)
        replace HY2 := Lib.hid (HY2.out.keep hk)
        clear hk
        clear u0 u1 u2
        clear v0 v1 v2
        obtain ⟨u0, u1, u2⟩ := cells3 HY1.out
        obtain ⟨q0, q1, q2⟩ := cells3 HQ.out
        go_wp2_with (go_at_call 19; refine (alive_any _).mono ?_; rintro e w' ⟨rfl, rfl⟩)
        all_goals
          go_ret
          exact ⟨rfl, HS.out.2⟩
      · refine (sameDevice_len _ _ _ _ _ _ _ (fun e => hn0 e.symm)).mono ?_
        rintro e w4 ⟨rfl, hk⟩
        replace HS := Lib.hid (HS.out.keep hk)
        replace HQ := Lib.hid (HQ.out.keep hk)
        replace HP := Lib.hid (HP.out.keep hk)
        replace HX := Lib.hid (HX.out.keep hk)
        replace HY1 := Lib.hid (HY1.out.keep hk)
        replace HZ := Lib.hid (HZ.out.keep hk)
        replace HY2 := Lib.hid (HY2.out.keep hk)
        clear hk
        clear u0 u1 u2
        clear v0 v1 v2
        obtain ⟨u0, u1, u2⟩ := cells3 HY1.out
        go_wp2_with (go_at_call 19; refine (alive_any _).mono ?_; rintro e w' ⟨rfl, rfl⟩)
        go_ret
        exact ⟨rfl, HS.out.2⟩
    · obtain ⟨q0, q1, q2⟩ := cells3 HQ.out
      obtain ⟨p0, p1, p2, p3, p4⟩ := cells5 HP.out
      go_wp2_with fail
      refine (append_val HI.out HL.out.1 HS.out.1 (by omega) HL.out.2).mono ?_
      rintro e w1 ⟨A1, c1, cs1, rfl, hl, hs, ho, hk⟩
      replace HS := Lib.hid (HS.out.keep hk)
      replace HQ := Lib.hid (HQ.out.keep hk)
      replace HP := Lib.hid (HP.out.keep hk)
      have HX := Lib.hid (show LD w A1 cs1 w1 from ⟨ho.row, HS.out.2⟩)
      have SHX := Lib.hid (And.intro hl hs)
      clear hl hs ho hk
      have hn := Blk.new w1 25 #[.int .i64 a, .int .i64 b, .int .i64 h]
      replace HS := Lib.hid (HS.out.keep (grown_alloc (grown_refl _ none) (.cells #[.int .i64 a, .int .i64 b, .int .i64 h] 25)))
      replace HQ := Lib.hid (HQ.out.keep (grown_alloc (grown_refl _ none) (.cells #[.int .i64 a, .int .i64 b, .int .i64 h] 25)))
      replace HP := Lib.hid (HP.out.keep (grown_alloc (grown_refl _ none) (.cells #[.int .i64 a, .int .i64 b, .int .i64 h] 25)))
      replace HX := Lib.hid (HX.out.keep (grown_alloc (grown_refl _ none) (.cells #[.int .i64 a, .int .i64 b, .int .i64 h] 25)))
      have HY1 := Lib.hid hn
      clear hn
      clear q0 q1 q2
      clear p0 p1 p2 p3 p4
      obtain ⟨q0, q1, q2⟩ := cells3 HQ.out
      obtain ⟨p0, p1, p2, p3, p4⟩ := cells5 HP.out
      go_wp2_with fail
      refine (specAppend_val HI.out HL.out.1 HS.out.1 (by omega) HL.out.2).mono ?_
      rintro e w2 ⟨A2, c2, cs2, rfl, hl, hs, ho, hk⟩
      replace HS := Lib.hid (HS.out.keep hk)
      replace HQ := Lib.hid (HQ.out.keep hk)
      replace HP := Lib.hid (HP.out.keep hk)
      replace HX := Lib.hid (HX.out.keep hk)
      replace HY1 := Lib.hid (HY1.out.keep hk)
      have HZ := Lib.hid (show LD w A2 cs2 w2 from ⟨ho.row, HS.out.2⟩)
      have SHZ := Lib.hid (And.intro hl hs)
      clear hl hs ho hk
      have hn := Blk.new w2 25 #[.int .i64 a, .int .i64 b, .int .i64 h]
      replace HS := Lib.hid (HS.out.keep (grown_alloc (grown_refl _ none) (.cells #[.int .i64 a, .int .i64 b, .int .i64 h] 25)))
      replace HQ := Lib.hid (HQ.out.keep (grown_alloc (grown_refl _ none) (.cells #[.int .i64 a, .int .i64 b, .int .i64 h] 25)))
      replace HP := Lib.hid (HP.out.keep (grown_alloc (grown_refl _ none) (.cells #[.int .i64 a, .int .i64 b, .int .i64 h] 25)))
      replace HX := Lib.hid (HX.out.keep (grown_alloc (grown_refl _ none) (.cells #[.int .i64 a, .int .i64 b, .int .i64 h] 25)))
      replace HY1 := Lib.hid (HY1.out.keep (grown_alloc (grown_refl _ none) (.cells #[.int .i64 a, .int .i64 b, .int .i64 h] 25)))
      replace HZ := Lib.hid (HZ.out.keep (grown_alloc (grown_refl _ none) (.cells #[.int .i64 a, .int .i64 b, .int .i64 h] 25)))
      have HY2 := Lib.hid hn
      clear hn
      clear q0 q1 q2
      clear p0 p1 p2 p3 p4
      go_wp2_with fail
      refine (sameDevice_same _ _ _ _ _ _ _ _ SHX.out.1 (SHX.out.2.trans SHZ.out.2.symm) HX.out.1 HZ.out.1 (by omega) (small_eq SHX.out.2 HL.out.2)).mono ?_
      rintro e w3 ⟨rfl, hk⟩
      replace HS := Lib.hid (HS.out.keep hk)
      replace HQ := Lib.hid (HQ.out.keep hk)
      replace HP := Lib.hid (HP.out.keep hk)
      replace HX := Lib.hid (HX.out.keep hk)
      replace HY1 := Lib.hid (HY1.out.keep hk)
      replace HZ := Lib.hid (HZ.out.keep hk)
      replace HY2 := Lib.hid (HY2.out.keep hk)
      clear hk
      obtain ⟨u0, u1, u2⟩ := cells3 HY1.out
      obtain ⟨v0, v1, v2⟩ := cells3 HY2.out
      go_wp2_with fail
      refine (sameDevice_same _ _ _ _ _ _ _ _ SHX.out.1 SHX.out.2 HX.out.1 HS.out.1 (by omega) (small_eq SHX.out.2 HL.out.2)).mono ?_
      rintro e w4 ⟨rfl, hk⟩
      replace HS := Lib.hid (HS.out.keep hk)
      replace HQ := Lib.hid (HQ.out.keep hk)
      replace HP := Lib.hid (HP.out.keep hk)
      replace HX := Lib.hid (HX.out.keep hk)
      replace HY1 := Lib.hid (HY1.out.keep hk)
      replace HZ := Lib.hid (HZ.out.keep hk)
      replace HY2 := Lib.hid (HY2.out.keep hk)
      clear hk
      clear u0 u1 u2
      clear v0 v1 v2
      obtain ⟨u0, u1, u2⟩ := cells3 HY1.out
      obtain ⟨q0, q1, q2⟩ := cells3 HQ.out
      go_wp2_with (go_at_call 19; refine (alive_any _).mono ?_; rintro e w' ⟨rfl, rfl⟩)
      go_ret
      exact ⟨rfl, HS.out.2⟩
    · have HK := Lib.hid (And.intro hd0 (And.intro hh (And.intro hh1 (And.intro hdk ho9))))
      have HC := Lib.hid hc9
      have HN := Lib.hid hv9
      have hvk : v < 4 * n := by omega
      have e4 : (v : Int) / 4 = (k : Int) := by omega
      have HE := Lib.hid e4
      clear hd0 hh hh1 hdk ho9 hc9 hv9 e4
      obtain ⟨q0, q1, q2⟩ := cells3 HQ.out
      obtain ⟨p0, p1, p2, p3, p4⟩ := cells5 HP.out
      go_wp2_with fail
      refine (append_val HI.out HL.out.1 HS.out.1 (by omega) HL.out.2).mono ?_
      rintro e w1 ⟨A1, c1, cs1, rfl, hl, hs, ho, hk⟩
      replace HS := Lib.hid (HS.out.keep hk)
      replace HQ := Lib.hid (HQ.out.keep hk)
      replace HP := Lib.hid (HP.out.keep hk)
      have HX := Lib.hid (show LD w A1 cs1 w1 from ⟨ho.row, HS.out.2⟩)
      have SHX := Lib.hid (And.intro hl hs)
      clear hl hs ho hk
      have hn := Blk.new w1 25 #[.int .i64 y1, .int .i64 y2, .int .i64 y3]
      replace HS := Lib.hid (HS.out.keep (grown_alloc (grown_refl _ none) (.cells #[.int .i64 y1, .int .i64 y2, .int .i64 y3] 25)))
      replace HQ := Lib.hid (HQ.out.keep (grown_alloc (grown_refl _ none) (.cells #[.int .i64 y1, .int .i64 y2, .int .i64 y3] 25)))
      replace HP := Lib.hid (HP.out.keep (grown_alloc (grown_refl _ none) (.cells #[.int .i64 y1, .int .i64 y2, .int .i64 y3] 25)))
      replace HX := Lib.hid (HX.out.keep (grown_alloc (grown_refl _ none) (.cells #[.int .i64 y1, .int .i64 y2, .int .i64 y3] 25)))
      have HY1 := Lib.hid hn
      clear hn
      clear q0 q1 q2
      clear p0 p1 p2 p3 p4
      obtain ⟨q0, q1, q2⟩ := cells3 HQ.out
      obtain ⟨p0, p1, p2, p3, p4⟩ := cells5 HP.out
      go_wp2_with fail
      refine (specAppend_val HI.out HL.out.1 HS.out.1 (by omega) HL.out.2).mono ?_
      rintro e w2 ⟨A2, c2, cs2, rfl, hl, hs, ho, hk⟩
      replace HS := Lib.hid (HS.out.keep hk)
      replace HQ := Lib.hid (HQ.out.keep hk)
      replace HP := Lib.hid (HP.out.keep hk)
      replace HX := Lib.hid (HX.out.keep hk)
      replace HY1 := Lib.hid (HY1.out.keep hk)
      have HZ := Lib.hid (show LD w A2 cs2 w2 from ⟨ho.row, HS.out.2⟩)
      have SHZ := Lib.hid (And.intro hl hs)
      clear hl hs ho hk
      have hn := Blk.new w2 25 #[.int .i64 y1, .int .i64 y2, .int .i64 y3]
      replace HS := Lib.hid (HS.out.keep (grown_alloc (grown_refl _ none) (.cells #[.int .i64 y1, .int .i64 y2, .int .i64 y3] 25)))
      replace HQ := Lib.hid (HQ.out.keep (grown_alloc (grown_refl _ none) (.cells #[.int .i64 y1, .int .i64 y2, .int .i64 y3] 25)))
      replace HP := Lib.hid (HP.out.keep (grown_alloc (grown_refl _ none) (.cells #[.int .i64 y1, .int .i64 y2, .int .i64 y3] 25)))
      replace HX := Lib.hid (HX.out.keep (grown_alloc (grown_refl _ none) (.cells #[.int .i64 y1, .int .i64 y2, .int .i64 y3] 25)))
      replace HY1 := Lib.hid (HY1.out.keep (grown_alloc (grown_refl _ none) (.cells #[.int .i64 y1, .int .i64 y2, .int .i64 y3] 25)))
      replace HZ := Lib.hid (HZ.out.keep (grown_alloc (grown_refl _ none) (.cells #[.int .i64 y1, .int .i64 y2, .int .i64 y3] 25)))
      have HY2 := Lib.hid hn
      clear hn
      clear q0 q1 q2
      clear p0 p1 p2 p3 p4
      have HF := Lib.hid (HC.out cs1 SHX.out.2)
      have hsx := Lib.hid (fun (b : Bk) (hb : b ∈ cs1) => show b.ps.length ≤ 1048576 by have := (block_parts ((dev_parts HF.out.1).2 b hb)).2.1; omega)
      go_wp2_with fail
      refine (sameDevice_same _ _ _ _ _ _ _ _ SHX.out.1 (SHX.out.2.trans SHZ.out.2.symm) HX.out.1 HZ.out.1 (by omega) hsx.out).mono ?_
      rintro e w3 ⟨rfl, hk⟩
      replace HS := Lib.hid (HS.out.keep hk)
      replace HQ := Lib.hid (HQ.out.keep hk)
      replace HP := Lib.hid (HP.out.keep hk)
      replace HX := Lib.hid (HX.out.keep hk)
      replace HY1 := Lib.hid (HY1.out.keep hk)
      replace HZ := Lib.hid (HZ.out.keep hk)
      replace HY2 := Lib.hid (HY2.out.keep hk)
      clear hk
      obtain ⟨u0, u1, u2⟩ := cells3 HY1.out
      obtain ⟨v0, v1, v2⟩ := cells3 HY2.out
      go_wp2_with fail
      clear u0 u1 u2
      clear v0 v1 v2
      refine (readPage_at _ _ _ _ _ _ _ SHX.out.1 HX.out.1 HF.out.1 HF.out.2.1).mono ?_
      rintro e w4 ⟨he, hk⟩
      dsimp only [pz] at he
      subst he
      replace HS := Lib.hid (HS.out.keep hk)
      replace HQ := Lib.hid (HQ.out.keep hk)
      replace HP := Lib.hid (HP.out.keep hk)
      replace HX := Lib.hid (HX.out.keep hk)
      replace HY1 := Lib.hid (HY1.out.keep hk)
      replace HZ := Lib.hid (HZ.out.keep hk)
      replace HY2 := Lib.hid (HY2.out.keep hk)
      clear hk
      have hn := Blk.new w4 37 #[.bool true, .int .i64 x1, .int .i64 x2, .int .i64 x3, .int .i64 x4]
      replace HS := Lib.hid (HS.out.keep (grown_alloc (grown_refl _ none) (.cells #[.bool true, .int .i64 x1, .int .i64 x2, .int .i64 x3, .int .i64 x4] 37)))
      replace HQ := Lib.hid (HQ.out.keep (grown_alloc (grown_refl _ none) (.cells #[.bool true, .int .i64 x1, .int .i64 x2, .int .i64 x3, .int .i64 x4] 37)))
      replace HP := Lib.hid (HP.out.keep (grown_alloc (grown_refl _ none) (.cells #[.bool true, .int .i64 x1, .int .i64 x2, .int .i64 x3, .int .i64 x4] 37)))
      replace HX := Lib.hid (HX.out.keep (grown_alloc (grown_refl _ none) (.cells #[.bool true, .int .i64 x1, .int .i64 x2, .int .i64 x3, .int .i64 x4] 37)))
      replace HY1 := Lib.hid (HY1.out.keep (grown_alloc (grown_refl _ none) (.cells #[.bool true, .int .i64 x1, .int .i64 x2, .int .i64 x3, .int .i64 x4] 37)))
      replace HZ := Lib.hid (HZ.out.keep (grown_alloc (grown_refl _ none) (.cells #[.bool true, .int .i64 x1, .int .i64 x2, .int .i64 x3, .int .i64 x4] 37)))
      replace HY2 := Lib.hid (HY2.out.keep (grown_alloc (grown_refl _ none) (.cells #[.bool true, .int .i64 x1, .int .i64 x2, .int .i64 x3, .int .i64 x4] 37)))
      have HR := Lib.hid hn
      clear hn
      go_wp2_with fail
      go_loopw [15] (fun i wr => ∃ q : Nat, i = .int .i64 q ∧ q ≤ 3 ∧ LD w A bs wr ∧ LD w A1 cs1 wr ∧ Blk wr wa.heap.size 25 #[.int .i64 a, .int .i64 b, .int .i64 h] ∧ Blk wr (wa.heap.size + 1) 37 #[.bool true, .int .i64 x1, .int .i64 x2, .int .i64 x3, .int .i64 x4] ∧ Blk wr w1.heap.size 25 #[.int .i64 y1, .int .i64 y2, .int .i64 y3] ∧ Blk wr w4.heap.size 37 #[.bool true, .int .i64 x1, .int .i64 x2, .int .i64 x3, .int .i64 x4]) (fun i _ => 3 - (intOf i).toNat)
      case atStart => exact ⟨0, rfl, Nat.zero_le _, HS.out, HX.out, HQ.out, HP.out, HY1.out, HR.out⟩
      case round =>
        obtain ⟨q, rfl, hq3, hS, hX, hQ, hP, hY1, hR⟩ := hrel
        clear HS HX HZ HQ HP HY1 HY2 HR
        have HS := Lib.hid hS
        have HX := Lib.hid hX
        have HQ := Lib.hid hQ
        have HP := Lib.hid hP
        have HY1 := Lib.hid hY1
        have HR := Lib.hid hR
        clear hS hX hQ hP hY1 hR
        by_cases hlt : q < 3
        · have hi0 : (q : Int) < 3 := by omega
          by_cases hqj : q = j0
          · subst hqj
            have hqe : ((q : Int) != (q : Int)) = false := by simp
            obtain ⟨u0, u1, u2⟩ := cells3 HY1.out
            obtain ⟨q0, q1, q2⟩ := cells3 HQ.out
            go_wp2_with fail
            refine wp_region_held_drew (S := (fun w' => w'.cell? ⟨w1.heap.size, 0, none⟩ = some (.int .i64 y1) ∧ w'.cell? ⟨w1.heap.size, 1, none⟩ = some (.int .i64 y2) ∧ w'.cell? ⟨w1.heap.size, 2, none⟩ = some (.int .i64 y3) ∧ w'.cell? ⟨wa.heap.size, 0, none⟩ = some (.int .i64 a) ∧ w'.cell? ⟨wa.heap.size, 1, none⟩ = some (.int .i64 b) ∧ w'.cell? ⟨wa.heap.size, 2, none⟩ = some (.int .i64 h))) (by kernel_rfl) ?_ (fun hHeld => ?_)
            · exact ⟨u0, u1, u2, q0, q1, q2⟩
            refine heldY 0 95 ?_
            refine heldY 1 96 ?_
            refine heldY 2 97 ?_
            refine heldY 3 98 ?_
            refine heldN 4 99 ?_
            refine heldN 5 100 ?_
            refine heldN 6 101 ?_
            refine heldN 7 102 ?_
            refine heldN 8 103 ?_
            refine heldN 9 104 ?_
            refine heldN 10 105 ?_
            refine heldN 11 106 ?_
            refine heldN 12 107 ?_
            refine heldY 13 108 ?_
            refine wpAnyH_done (by kernel_rfl) ?_ _
            replace HS := Lib.hid (HS.out.keep (grown_drew (grown_refl _ none)))
            replace HX := Lib.hid (HX.out.keep (grown_drew (grown_refl _ none)))
            replace HQ := Lib.hid (HQ.out.keep (grown_drew (grown_refl _ none)))
            replace HP := Lib.hid (HP.out.keep (grown_drew (grown_refl _ none)))
            replace HY1 := Lib.hid (HY1.out.keep (grown_drew (grown_refl _ none)))
            replace HR := Lib.hid (HR.out.keep (grown_drew (grown_refl _ none)))
            go_wp2
            go_roundw
            case rel => exact ⟨q + 1, by go_num, by omega, HS.out, HX.out, HQ.out, HP.out, HY1.out, HR.out⟩
            case measure => (simp [intOf]) <;> omega
          · have hqe : ((q : Int) != (j0 : Int)) = true := by simp; omega
            obtain ⟨o9, ho9⟩ : ∃ o9, hd a b h q = o9 := ⟨_, rfl⟩
            have HO2 := Lib.hid ho9
            have HO := Lib.hid ((HK.out.2.2.2.2 q hlt hqj).trans ho9)
            clear ho9
            obtain ⟨u0, u1, u2⟩ := cells3 HY1.out
            obtain ⟨q0, q1, q2⟩ := cells3 HQ.out
            go_wp2_with fail
            refine wp_region_held_drew (S := (fun w' => w'.cell? ⟨w1.heap.size, 0, none⟩ = some (.int .i64 y1) ∧ w'.cell? ⟨w1.heap.size, 1, none⟩ = some (.int .i64 y2) ∧ w'.cell? ⟨w1.heap.size, 2, none⟩ = some (.int .i64 y3) ∧ w'.cell? ⟨wa.heap.size, 0, none⟩ = some (.int .i64 a) ∧ w'.cell? ⟨wa.heap.size, 1, none⟩ = some (.int .i64 b) ∧ w'.cell? ⟨wa.heap.size, 2, none⟩ = some (.int .i64 h))) (by kernel_rfl) ?_ (fun hHeld => ?_)
            · exact ⟨u0, u1, u2, q0, q1, q2⟩
            replace HS := Lib.hid (HS.out.keep (grown_drew (grown_refl _ none)))
            replace HX := Lib.hid (HX.out.keep (grown_drew (grown_refl _ none)))
            replace HQ := Lib.hid (HQ.out.keep (grown_drew (grown_refl _ none)))
            replace HP := Lib.hid (HP.out.keep (grown_drew (grown_refl _ none)))
            replace HY1 := Lib.hid (HY1.out.keep (grown_drew (grown_refl _ none)))
            replace HR := Lib.hid (HR.out.keep (grown_drew (grown_refl _ none)))
            refine heldY 0 95 ?_
            refine heldY 1 96 ?_
            refine heldY 2 97 ?_
            refine heldY 3 98 ?_
            refine heldY 4 99 ?_
            refine heldY 5 100 ?_
            refine heldY 6 101 ?_
            refine heldY 8 103 ?_
            refine heldY 9 104 ?_
            refine heldY 10 105 ?_
            refine wpAnyH_ready (rs := [7]) (by kernel_rfl) (by simp) ?_
            refine AllReadyH.cons rfl (fun K hK => ?_) AllReadyH.nil
            go_simp
            go_at_call 26
            refine (headOf_val (HeadIs.ok HK.out.2.2.1 HF.out.1 hlt HO.out) SHX.out.1 HX.out.1 (by omega) hsx.out).mono ?_
            rintro e w21 ⟨rfl, hk⟩
            replace HS := Lib.hid (HS.out.keep hk)
            replace HX := Lib.hid (HX.out.keep hk)
            replace HQ := Lib.hid (HQ.out.keep hk)
            replace HP := Lib.hid (HP.out.keep hk)
            replace HY1 := Lib.hid (HY1.out.keep hk)
            replace HR := Lib.hid (HR.out.keep hk)
            clear hk
            clear u0 u1 u2
            clear q0 q1 q2
            obtain ⟨u0, u1, u2⟩ := cells3 HY1.out
            obtain ⟨q0, q1, q2⟩ := cells3 HQ.out
            refine hK.out _ _ ?_ (fun hHeld => ?_)
            · exact ⟨u0, u1, u2, q0, q1, q2⟩
            clear hK K
            try simp only [Act.put, List.setIfInBounds_toArray, List.set_cons_zero, List.set_cons_succ]
            refine wpAnyH_ready (rs := [11]) (by kernel_rfl) (by simp) ?_
            refine AllReadyH.cons rfl (fun K hK => ?_) AllReadyH.nil
            go_simp
            go_at_call 26
            refine (headOf_val (HeadIs.ok HK.out.2.1 HK.out.1 hlt HO2.out) HL.out.1 HS.out.1 (by omega) HL.out.2).mono ?_
            rintro e w22 ⟨rfl, hk⟩
            replace HS := Lib.hid (HS.out.keep hk)
            replace HX := Lib.hid (HX.out.keep hk)
            replace HQ := Lib.hid (HQ.out.keep hk)
            replace HP := Lib.hid (HP.out.keep hk)
            replace HY1 := Lib.hid (HY1.out.keep hk)
            replace HR := Lib.hid (HR.out.keep hk)
            clear hk
            clear u0 u1 u2
            clear q0 q1 q2
            obtain ⟨u0, u1, u2⟩ := cells3 HY1.out
            obtain ⟨q0, q1, q2⟩ := cells3 HQ.out
            refine hK.out _ _ ?_ (fun hHeld => ?_)
            · exact ⟨u0, u1, u2, q0, q1, q2⟩
            clear hK K
            try simp only [Act.put, List.setIfInBounds_toArray, List.set_cons_zero, List.set_cons_succ]
            refine heldY 12 107 ?_
            refine heldY 13 108 ?_
            refine wpAnyH_done (by kernel_rfl) ?_ _
            go_wp2
            go_roundw
            case rel => exact ⟨q + 1, by go_num, by omega, HS.out, HX.out, HQ.out, HP.out, HY1.out, HR.out⟩
            case measure => (simp [intOf]) <;> omega
        · obtain rfl : q = 3 := by omega
          obtain ⟨u0, u1, u2⟩ := cells3 HY1.out
          go_wp2_with fail
          refine (headsValid_val (and_true' HK.out.2.2.1 HF.out.1) SHX.out.1 HX.out.1 (by omega) hsx.out).mono ?_
          rintro e w31 ⟨rfl, hk⟩
          replace HS := Lib.hid (HS.out.keep hk)
          replace HX := Lib.hid (HX.out.keep hk)
          replace HQ := Lib.hid (HQ.out.keep hk)
          replace HP := Lib.hid (HP.out.keep hk)
          replace HY1 := Lib.hid (HY1.out.keep hk)
          replace HR := Lib.hid (HR.out.keep hk)
          clear hk
          clear u0 u1 u2
          obtain ⟨u0, u1, u2⟩ := cells3 HY1.out
          obtain ⟨p0, p1, p2, p3, p4⟩ := cells5 HP.out
          obtain ⟨r0, r1, r2, r3, r4⟩ := cells5 HR.out
          obtain ⟨F1, hF1⟩ : ∃ F, freeV cs1 = F := ⟨_, rfl⟩
          obtain ⟨F0, hF0⟩ : ∃ F, freeV bs = F := ⟨_, rfl⟩
          have tF : ((F1 : Int) == (F0 : Int) - 1) = true := by have := HF.out.2.2; simp only [beq_iff_eq]; omega
          have hF0b : F0 ≤ 52 := by have := free_le bs; have := HL.out.1; omega
          have HFV := Lib.hid (And.intro hF1 hF0)
          have e4 := HE.out
          clear hF1 hF0
          go_wp2_with fail
          refine (headOf_val (HeadIs.ok HK.out.2.2.1 HF.out.1 hj3 HK.out.2.2.2.1) SHX.out.1 HX.out.1 (by omega) hsx.out).mono ?_
          rintro e w32 ⟨rfl, hk⟩
          replace HS := Lib.hid (HS.out.keep hk)
          replace HX := Lib.hid (HX.out.keep hk)
          replace HQ := Lib.hid (HQ.out.keep hk)
          replace HP := Lib.hid (HP.out.keep hk)
          replace HY1 := Lib.hid (HY1.out.keep hk)
          replace HR := Lib.hid (HR.out.keep hk)
          clear hk
          clear u0 u1 u2
          clear p0 p1 p2 p3 p4
          clear r0 r1 r2 r3 r4
          go_wp2_with fail
          refine (free_val SHX.out.1 HX.out.1 HF.out.1 HFV.out.1).mono ?_
          rintro e w33 ⟨rfl, hk⟩
          replace HS := Lib.hid (HS.out.keep hk)
          replace HX := Lib.hid (HX.out.keep hk)
          replace HQ := Lib.hid (HQ.out.keep hk)
          replace HP := Lib.hid (HP.out.keep hk)
          replace HY1 := Lib.hid (HY1.out.keep hk)
          replace HR := Lib.hid (HR.out.keep hk)
          clear hk
          go_wp2_with fail
          refine (free_val HL.out.1 HS.out.1 HK.out.1 HFV.out.2).mono ?_
          rintro e w34 ⟨rfl, hk⟩
          replace HS := Lib.hid (HS.out.keep hk)
          replace HX := Lib.hid (HX.out.keep hk)
          replace HQ := Lib.hid (HQ.out.keep hk)
          replace HP := Lib.hid (HP.out.keep hk)
          replace HY1 := Lib.hid (HY1.out.keep hk)
          replace HR := Lib.hid (HR.out.keep hk)
          clear hk
          go_wp2
          go_ret
          exact ⟨rfl, HS.out.2⟩

/-! ### THE ROW's STEP: WRITTEN OUT: LEAVE IT -/
set_option maxRecDepth 100000 in
theorem lifted (os : Os) (started : os.Started) (H : Type) (enc : TypeId × Value → H) :
    ReturnsInHanded {} Try.checked os 4 .any (Rows.fnAppendPageSpec.pre6 enc Try.prog Try.f4 Rows.fnAppendPageRow.domain false) (Rows.fnAppendPageSpec.post enc Try.prog Try.f4 false true false false) := by
  refine returnsInHanded_of_change (C := Try.checked) own started (by kernel_rfl) Try.func4
    (ChangeSpec.witness6 (enc := enc) (C := Try.checked) false ⟨#[], #[.slice none 0 0], []⟩ 8 (by kernel_rfl) (by kernel_rfl) (by kernel_rfl) (by kernel_rfl)) ?_
  intro W base args ds gs before hval0 hW hcnd _
  have hval : ∀ (j : Nat) t v, Try.f4.params[j]? = some t → args[j]? = some v → Value.okWide Try.prog W .any base t v := hval0
  have hW' := hW
  obtain ⟨p, q, hA0, hV, rfl, hfz, hnd⟩ := hW
  have hA : DataW.TrodAll enc Try.prog W 0 (fun _ => true) true Try.f4.params.toList args.toList ds p := hA0
  rw [Try.params4] at hA hval
  obtain ⟨v0, vs0, d0, ds0, p0, q0, hargs, rfl, rfl, h0, r0⟩ := trodAll_cons hA
  obtain ⟨rfl, rfl, rfl⟩ := trodAll_nil r0
  obtain rfl : args = #[v0] := by cases args; simp_all
  obtain ⟨rfl, rfl⟩ := trodVars_none hV
  obtain ⟨a0, len0, cap0, rfl⟩ := okWide_slice Try.underlying22 (hval 0 22 v0 rfl rfl)
  have k0 := h0
  have lt0 : ∀ x ∈ p0, x.block < W.heap.size := by obtain ⟨m, hm⟩ := k0; exact DataW.trod_lt m _ _ _ hm
  obtain ⟨z0, w0⟩ : ∃ zs, IsRow .u8 W a0 len0 cap0 zs := by
    obtain ⟨fuel, hf⟩ := h0
    rcases open_ints Try.underlying22 Try.underlying5 (by kernel_rfl) hf with ⟨hcs, _⟩ | ⟨x, l, c, zs, hcs, _, hl, hm, hz, _, hcell, hwz⟩
    · simp [Value.cells] at hcs
      obtain ⟨rfl, rfl, rfl⟩ := hcs
      exact ⟨[], .inl ⟨rfl, rfl, rfl, rfl⟩⟩
    · simp [Value.cells] at hcs
      obtain ⟨rfl, rfl, rfl⟩ := hcs
      exact ⟨zs, .inr ⟨_, rfl, hl, hm, by simpa using hz, hcell, hwz⟩⟩
  clear hA0 hval0
  refine (walk a0 len0 cap0 z0 W w0).mono fun e W' ⟨he, bel⟩ => ?_
  subst he
  exact ⟨_, rfl, _, _, _, [], _, [], hW', trodAll_mk1 (shut_bool Try.underlying4 _), (trodAll_cons_mk (Below.trod laidOut (by kernel_rfl) (of_decide_eq_true (by kernel_rfl)) k0 bel lt0) trodAll_mk0), rfl, bel.frame _, fun h => by cases h⟩

theorem over : Rows.fnAppendPageRow.holds Try.pinned (OpenSpec.ofChange Rows.fnAppendPageSpec) :=
  OpenClaim.holds_of_wide 4 Try.f4 rfl rfl rfl rfl rfl rfl rfl ⟨rfl, rfl, rfl, rfl, rfl⟩ rfl rfl rfl rfl rfl (by kernel_rfl) Try.func4 (by kernel_rfl)
    (of_decide_eq_true (by kernel_rfl)) (by unfold Func.isWrapper; first | (rw [if_pos (by decide +kernel)]; kernel_rfl) | (rw [if_neg (by decide +kernel)]; exact ⟨rfl, rfl⟩))
    (fun os started H enc _ => lifted os started H enc)

/-- ████ THE STATEMENT ████ -/
theorem proved : Rows.FnAppendPageSaid := over
#print axioms proved
end Go.Proofs.Ytpdkfgihpchkiaa.fnAppendPage
