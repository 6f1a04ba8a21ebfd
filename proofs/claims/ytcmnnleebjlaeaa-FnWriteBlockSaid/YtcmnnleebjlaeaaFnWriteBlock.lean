/- For every code, WriteBlock answers of the drawn block and page as its model: nothing written, or the page as the next one and all else as it was: proved.
   Conditions: none beyond the row's own reading of the input. The frame was written by the guide's proof-skeleton; the walk is ours. -/
import Derived.Test.YtcmnnleebjlaeaaLawBlocks
import Derived.Test.YtcmnnleebjlaeaaHand
import Derived.Test.YtcmnnleebjlaeaaRows
import Derived.WalkKit
import Derived.ProofKit
import Derived.OpenShut
import Derived.ShutString
import Derived.ChangeOld
import Derived.Below
namespace Go.Proofs.Ytcmnnleebjlaeaa.fnWriteBlock
open Go.ChangeShapes Go.WideShapes Go.ChangeAt Go.RowKit
open Go.ChangeMaps (open_string shut_string)
set_option linter.unusedVariables false
set_option linter.unusedSimpArgs false

theorem own : ownKnob Try.prog.godebug = none := by kernel_rfl
theorem laidOut : laidOutB Try.prog = true := by kernel_rfl

/-- WHAT THE WALK IS TOLD OF A SLICE OF INTEGERS THAT CAME IN: it is nil; or it leads to a row of 'cap' cells, the numbers 'zs' (the first 'len' are its elements, the rest its spare room), each fitting its kind. -/
def IsRow (k : IntKind) (w : World) (a : Option Addr) (len cap : Nat) (zs : List Int) : Prop :=
  (a = none ∧ len = 0 ∧ cap = 0 ∧ zs = []) ∨
  ∃ x, a = some x ∧ len ≤ cap ∧ cap ≤ maxLen ∧ zs.length = cap ∧ (∀ i, i < zs.length → w.cell? (x.add i) = some (.int k (zs.getD i 0))) ∧ ∀ n ∈ zs, (Lit.int k n).wf = true

/-! ### STEP 1: THE WALK: the Go text returns true, AND WRITES NOTHING THAT WAS THERE: 'Below w.heap.size w w'' (Derived/Below.lean: '.refl', '.alloc', '.drew', '.setCell' at a new block, '.trans'). Open each 'IsRow' by 'rcases' AHEAD of 'go_enter'; part every test ahead of the walk. -/
set_option maxHeartbeats 4000000 in
theorem walk (a0 : Option Addr) (len0 cap0 : Nat) (z0 : List Int) (w : World) (w0 : IsRow .u8 w a0 len0 cap0 z0) :
    Calls Try.prog 6 #[.slice a0 len0 cap0] w fun e w' => e = .returned (.bool true) ∧ Below w.heap.size w w' := by
  obtain ⟨hl, hc, hb⟩ := bytes_of w0
  by_cases hbig : 1048576 < len0
  · go_enter Try.func6, Try.ntmps6
    go_wp2
    go_ret
    exact ⟨rfl, Below.refl _ _⟩
  · go_enter Try.func6, Try.ntmps6
    go_wp2_with fail
    refine (drawWriteBlock_any w a0 len0 cap0 hl hc hb).mono ?_
    rintro e wa ⟨m, A, n, c, ps, ⟨f, x1, x2, x3, x4⟩, rfl, hln, h4, hnc, hcm, hrow, hbl⟩
    have hp0 := (Blk.new (wa.alloc (.cells #[.int .i64 m, .slice A n c] 25)) 35 #[.bool f, .int .i64 x1, .int .i64 x2, .int .i64 x3, .int .i64 x4])
    simp only [size_alloc1] at hp0
    have HP := Lib.hid hp0
    have HS := Lib.hid ((LB.start (m := m) (n := n) (c := c) hrow hbl).keep (grown_alloc (grown_refl _ none) (.cells #[.bool f, .int .i64 x1, .int .i64 x2, .int .i64 x3, .int .i64 x4] 35)))
    have HL := Lib.hid hln
    clear hb w0 hrow hbl hln hp0
    cases hv : blockB m ps
    · have HV := Lib.hid hv
      clear hv
      go_wp2_with fail
      refine (write_bad _ _ _ _ _ _ _ _ _ _ _ HL.out HS.out.2.1 (by omega) HV.out).mono ?_
      rintro e w1 ⟨A1, c1, rfl, hl1, ho1, hk⟩
      replace HS := Lib.hid (HS.out.keep hk)
      replace HP := Lib.hid (HP.out.keep hk)
      obtain ⟨hs0, hs1, hsl⟩ := HS.out.cells
      obtain ⟨p0, p1, p2, p3, p4⟩ := cells5 HP.out
      have pl := HP.out.lt
      have HX := Lib.hid (LB.start (m := 0) (n := 0) (c := c1) ho1.row HS.out.2.2.1)
      have HL1 := Lib.hid hl1
      replace HS := Lib.hid (HS.out.keep (grown_alloc (grown_refl w1 none) (.cells #[.int .i64 0, .slice A1 0 c1] 25)))
      replace HP := Lib.hid (HP.out.keep (grown_alloc (grown_refl w1 none) (.cells #[.int .i64 0, .slice A1 0 c1] 25)))
      clear hk ho1 hl1
      go_wp2_with fail
      clear hs0 hs1 hsl p0 p1 p2 p3 p4 pl
      refine (specWrite_bad _ _ _ _ _ _ _ _ _ _ _ HL.out HS.out.2.1 (by omega) HV.out).mono ?_
      rintro e w2 ⟨A2, c2, rfl, hl2, ho2, hk⟩
      replace HS := Lib.hid (HS.out.keep hk)
      replace HP := Lib.hid (HP.out.keep hk)
      replace HX := Lib.hid (HX.out.keep hk)
      obtain ⟨hs0, hs1, hsl⟩ := HS.out.cells
      obtain ⟨p0, p1, p2, p3, p4⟩ := cells5 HP.out
      have pl := HP.out.lt
      obtain ⟨hx0, hx1, hxl⟩ := HX.out.cells
      have HY := Lib.hid (LB.start (m := 0) (n := 0) (c := c2) ho2.row HS.out.2.2.1)
      have HL2 := Lib.hid hl2
      replace HS := Lib.hid (HS.out.keep (grown_alloc (grown_refl w2 none) (.cells #[.int .i64 0, .slice A2 0 c2] 25)))
      replace HP := Lib.hid (HP.out.keep (grown_alloc (grown_refl w2 none) (.cells #[.int .i64 0, .slice A2 0 c2] 25)))
      replace HX := Lib.hid (HX.out.keep (grown_alloc (grown_refl w2 none) (.cells #[.int .i64 0, .slice A2 0 c2] 25)))
      clear hk ho2 hl2
      go_wp2_with fail
      clear hs0 hs1 hsl p0 p1 p2 p3 p4 pl hx0 hx1 hxl
      refine (sameBlock_same _ _ _ _ _ 0 [] _ rfl HX.out.2.1 HY.out.2.1 (by omega)).mono ?_
      rintro e w3 ⟨rfl, hk⟩
      replace HS := Lib.hid (HS.out.keep hk)
      replace HP := Lib.hid (HP.out.keep hk)
      replace HX := Lib.hid (HX.out.keep hk)
      replace HY := Lib.hid (HY.out.keep hk)
      clear hk
      obtain ⟨hs0, hs1, hsl⟩ := HS.out.cells
      obtain ⟨p0, p1, p2, p3, p4⟩ := cells5 HP.out
      have pl := HP.out.lt
      obtain ⟨hx0, hx1, hxl⟩ := HX.out.cells
      obtain ⟨hy0, hy1, hyl⟩ := HY.out.cells
      go_wp2_with fail
      clear hs0 hs1 hsl p0 p1 p2 p3 p4 pl hx0 hx1 hxl hy0 hy1 hyl
      refine (sameBlock_nil _ _ _ _ _ _ _ _).mono ?_
      rintro e w4 ⟨v, rfl, hk⟩
      replace HS := Lib.hid (HS.out.keep hk)
      replace HP := Lib.hid (HP.out.keep hk)
      replace HX := Lib.hid (HX.out.keep hk)
      replace HY := Lib.hid (HY.out.keep hk)
      clear hk
      obtain ⟨hs0, hs1, hsl⟩ := HS.out.cells
      obtain ⟨p0, p1, p2, p3, p4⟩ := cells5 HP.out
      have pl := HP.out.lt
      obtain ⟨hx0, hx1, hxl⟩ := HX.out.cells
      obtain ⟨hy0, hy1, hyl⟩ := HY.out.cells
      cases v
      · go_wp2_with fail
        clear hs0 hs1 hsl p0 p1 p2 p3 p4 pl hx0 hx1 hxl hy0 hy1 hyl
        refine (sameBlock_same _ _ none _ 0 0 [] _ rfl HX.out.2.1 Row.nil (Nat.zero_le _)).mono ?_
        rintro e w5 ⟨rfl, hk⟩
        replace HS := Lib.hid (HS.out.keep hk)
        replace HP := Lib.hid (HP.out.keep hk)
        replace HX := Lib.hid (HX.out.keep hk)
        replace HY := Lib.hid (HY.out.keep hk)
        clear hk
        go_wp2_with (go_at_call 16; refine (alive_any _).mono ?_; rintro e w' ⟨rfl, rfl⟩)
        go_ret
        exact ⟨rfl, HS.out.2.2.1⟩
      · go_wp2_with (go_at_call 16; refine (alive_any _).mono ?_; rintro e w' ⟨rfl, rfl⟩)
        go_ret
        exact ⟨rfl, HS.out.2.2.1⟩
    · have HV := Lib.hid hv
      cases hp : (f && pageB f x1 x2 x3 x4)
      · have HQ := Lib.hid hp
        clear hv hp
        go_wp2_with fail
        refine (write_page _ _ _ _ _ _ _ _ _ _ _ HL.out HS.out.2.1 (by omega) HV.out HQ.out).mono ?_
        rintro e w1 ⟨A1, c1, rfl, hl1, ho1, hk⟩
        replace HS := Lib.hid (HS.out.keep hk)
        replace HP := Lib.hid (HP.out.keep hk)
        obtain ⟨hs0, hs1, hsl⟩ := HS.out.cells
        obtain ⟨p0, p1, p2, p3, p4⟩ := cells5 HP.out
        have pl := HP.out.lt
        have HX := Lib.hid (LB.start (m := 0) (n := 0) (c := c1) ho1.row HS.out.2.2.1)
        have HL1 := Lib.hid hl1
        replace HS := Lib.hid (HS.out.keep (grown_alloc (grown_refl w1 none) (.cells #[.int .i64 0, .slice A1 0 c1] 25)))
        replace HP := Lib.hid (HP.out.keep (grown_alloc (grown_refl w1 none) (.cells #[.int .i64 0, .slice A1 0 c1] 25)))
        clear hk ho1 hl1
        go_wp2_with fail
        clear hs0 hs1 hsl p0 p1 p2 p3 p4 pl
        refine (specWrite_page _ _ _ _ _ _ _ _ _ _ _ HL.out HS.out.2.1 (by omega) HV.out HQ.out).mono ?_
        rintro e w2 ⟨A2, c2, rfl, hl2, ho2, hk⟩
        replace HS := Lib.hid (HS.out.keep hk)
        replace HP := Lib.hid (HP.out.keep hk)
        replace HX := Lib.hid (HX.out.keep hk)
        obtain ⟨hs0, hs1, hsl⟩ := HS.out.cells
        obtain ⟨p0, p1, p2, p3, p4⟩ := cells5 HP.out
        have pl := HP.out.lt
        obtain ⟨hx0, hx1, hxl⟩ := HX.out.cells
        have HY := Lib.hid (LB.start (m := 0) (n := 0) (c := c2) ho2.row HS.out.2.2.1)
        have HL2 := Lib.hid hl2
        replace HS := Lib.hid (HS.out.keep (grown_alloc (grown_refl w2 none) (.cells #[.int .i64 0, .slice A2 0 c2] 25)))
        replace HP := Lib.hid (HP.out.keep (grown_alloc (grown_refl w2 none) (.cells #[.int .i64 0, .slice A2 0 c2] 25)))
        replace HX := Lib.hid (HX.out.keep (grown_alloc (grown_refl w2 none) (.cells #[.int .i64 0, .slice A2 0 c2] 25)))
        clear hk ho2 hl2
        go_wp2_with fail
        clear hs0 hs1 hsl p0 p1 p2 p3 p4 pl hx0 hx1 hxl
        refine (sameBlock_same _ _ _ _ _ 0 [] _ rfl HX.out.2.1 HY.out.2.1 (by omega)).mono ?_
        rintro e w3 ⟨rfl, hk⟩
        replace HS := Lib.hid (HS.out.keep hk)
        replace HP := Lib.hid (HP.out.keep hk)
        replace HX := Lib.hid (HX.out.keep hk)
        replace HY := Lib.hid (HY.out.keep hk)
        clear hk
        obtain ⟨hs0, hs1, hsl⟩ := HS.out.cells
        obtain ⟨p0, p1, p2, p3, p4⟩ := cells5 HP.out
        have pl := HP.out.lt
        obtain ⟨hx0, hx1, hxl⟩ := HX.out.cells
        obtain ⟨hy0, hy1, hyl⟩ := HY.out.cells
        go_wp2_with fail
        clear hs0 hs1 hsl p0 p1 p2 p3 p4 pl hx0 hx1 hxl hy0 hy1 hyl
        refine (sameBlock_nil _ _ _ _ _ _ _ _).mono ?_
        rintro e w4 ⟨v, rfl, hk⟩
        replace HS := Lib.hid (HS.out.keep hk)
        replace HP := Lib.hid (HP.out.keep hk)
        replace HX := Lib.hid (HX.out.keep hk)
        replace HY := Lib.hid (HY.out.keep hk)
        clear hk
        obtain ⟨hs0, hs1, hsl⟩ := HS.out.cells
        obtain ⟨p0, p1, p2, p3, p4⟩ := cells5 HP.out
        have pl := HP.out.lt
        obtain ⟨hx0, hx1, hxl⟩ := HX.out.cells
        obtain ⟨hy0, hy1, hyl⟩ := HY.out.cells
        cases v
        · go_wp2_with fail
          clear hs0 hs1 hsl p0 p1 p2 p3 p4 pl hx0 hx1 hxl hy0 hy1 hyl
          refine (sameBlock_same _ _ none _ 0 0 [] _ rfl HX.out.2.1 Row.nil (Nat.zero_le _)).mono ?_
          rintro e w5 ⟨rfl, hk⟩
          replace HS := Lib.hid (HS.out.keep hk)
          replace HP := Lib.hid (HP.out.keep hk)
          replace HX := Lib.hid (HX.out.keep hk)
          replace HY := Lib.hid (HY.out.keep hk)
          clear hk
          go_wp2_with (go_at_call 16; refine (alive_any _).mono ?_; rintro e w' ⟨rfl, rfl⟩)
          go_ret
          exact ⟨rfl, HS.out.2.2.1⟩
        · go_wp2_with (go_at_call 16; refine (alive_any _).mono ?_; rintro e w' ⟨rfl, rfl⟩)
          go_ret
          exact ⟨rfl, HS.out.2.2.1⟩
      · obtain ⟨rfl, hp2⟩ : f = true ∧ pageB f x1 x2 x3 x4 = true := by simpa using hp
        have hn4 := (block_parts hv).2.1.symm.trans HL.out
        subst hn4
        have HQ := Lib.hid hp2
        have hnx := next_cases m ps
        clear hv hp hp2
        rcases hnx with hx | ⟨k, hx, hk4, _⟩
        · have HN := Lib.hid hx
          clear hx
          go_wp2_with fail
          refine (write_full _ _ _ _ _ _ _ _ _ HS.out.2.1 HV.out HQ.out HN.out).mono ?_
          rintro e w1 ⟨A1, c1, rfl, hl1, ho1, hk⟩
          replace HS := Lib.hid (HS.out.keep hk)
          replace HP := Lib.hid (HP.out.keep hk)
          obtain ⟨hs0, hs1, hsl⟩ := HS.out.cells
          obtain ⟨p0, p1, p2, p3, p4⟩ := cells5 HP.out
          have pl := HP.out.lt
          have HX := Lib.hid (LB.start (m := m) (n := 4) (c := c1) ho1.row HS.out.2.2.1)
          have HL1 := Lib.hid hl1
          replace HS := Lib.hid (HS.out.keep (grown_alloc (grown_refl w1 none) (.cells #[.int .i64 m, .slice A1 4 c1] 25)))
          replace HP := Lib.hid (HP.out.keep (grown_alloc (grown_refl w1 none) (.cells #[.int .i64 m, .slice A1 4 c1] 25)))
          clear hk ho1 hl1
          go_wp2_with fail
          clear hs0 hs1 hsl p0 p1 p2 p3 p4 pl
          refine (specWrite_full _ _ _ _ _ _ _ _ _ HS.out.2.1 HV.out HQ.out HN.out).mono ?_
          rintro e w2 ⟨A2, c2, rfl, hl2, ho2, hk⟩
          replace HS := Lib.hid (HS.out.keep hk)
          replace HP := Lib.hid (HP.out.keep hk)
          replace HX := Lib.hid (HX.out.keep hk)
          obtain ⟨hs0, hs1, hsl⟩ := HS.out.cells
          obtain ⟨p0, p1, p2, p3, p4⟩ := cells5 HP.out
          have pl := HP.out.lt
          obtain ⟨hx0, hx1, hxl⟩ := HX.out.cells
          have HY := Lib.hid (LB.start (m := m) (n := 4) (c := c2) ho2.row HS.out.2.2.1)
          have HL2 := Lib.hid hl2
          replace HS := Lib.hid (HS.out.keep (grown_alloc (grown_refl w2 none) (.cells #[.int .i64 m, .slice A2 4 c2] 25)))
          replace HP := Lib.hid (HP.out.keep (grown_alloc (grown_refl w2 none) (.cells #[.int .i64 m, .slice A2 4 c2] 25)))
          replace HX := Lib.hid (HX.out.keep (grown_alloc (grown_refl w2 none) (.cells #[.int .i64 m, .slice A2 4 c2] 25)))
          clear hk ho2 hl2
          go_wp2_with fail
          clear hs0 hs1 hsl p0 p1 p2 p3 p4 pl hx0 hx1 hxl
          refine (sameBlock_same _ _ _ _ _ 4 ps _ HL1.out HX.out.2.1 HY.out.2.1 (by omega)).mono ?_
          rintro e w3 ⟨rfl, hk⟩
          replace HS := Lib.hid (HS.out.keep hk)
          replace HP := Lib.hid (HP.out.keep hk)
          replace HX := Lib.hid (HX.out.keep hk)
          replace HY := Lib.hid (HY.out.keep hk)
          clear hk
          obtain ⟨hs0, hs1, hsl⟩ := HS.out.cells
          obtain ⟨p0, p1, p2, p3, p4⟩ := cells5 HP.out
          have pl := HP.out.lt
          obtain ⟨hx0, hx1, hxl⟩ := HX.out.cells
          obtain ⟨hy0, hy1, hyl⟩ := HY.out.cells
          go_wp2_with fail
          clear hs0 hs1 hsl p0 p1 p2 p3 p4 pl hx0 hx1 hxl hy0 hy1 hyl
          refine (sameBlock_same _ _ _ _ _ 4 ps _ HL1.out HX.out.2.1 HS.out.2.1 (by omega)).mono ?_
          rintro e w4 ⟨rfl, hk⟩
          replace HS := Lib.hid (HS.out.keep hk)
          replace HP := Lib.hid (HP.out.keep hk)
          replace HX := Lib.hid (HX.out.keep hk)
          replace HY := Lib.hid (HY.out.keep hk)
          clear hk
          go_wp2_with (go_at_call 16; refine (alive_any _).mono ?_; rintro e w' ⟨rfl, rfl⟩)
          go_ret
          exact ⟨rfl, HS.out.2.2.1⟩
        · have HK := Lib.hid hk4
          have HN := Lib.hid hx
          have HW := Lib.hid (write_valid (p := ⟨true, x1, x2, x3, x4⟩) HV.out hx hk4 HQ.out)
          have HA := Lib.hid (next_after (p := ⟨true, x1, x2, x3, x4⟩) HV.out hx hk4 HQ.out rfl)
          clear hx
          go_wp2_with fail
          refine (write_at _ _ _ _ _ _ _ _ _ HS.out.2.1 HV.out HQ.out HN.out HK.out).mono ?_
          rintro e w1 ⟨A1, c1, rfl, hl1, ho1, hk⟩
          replace HS := Lib.hid (HS.out.keep hk)
          replace HP := Lib.hid (HP.out.keep hk)
          obtain ⟨hs0, hs1, hsl⟩ := HS.out.cells
          obtain ⟨p0, p1, p2, p3, p4⟩ := cells5 HP.out
          have pl := HP.out.lt
          have HX := Lib.hid (LB.start (m := m) (n := 4) (c := c1) ho1.row HS.out.2.2.1)
          have HL1 := Lib.hid hl1; have HC1 := Lib.hid (ho1.capn hl1)
          replace HS := Lib.hid (HS.out.keep (grown_alloc (grown_refl w1 none) (.cells #[.int .i64 m, .slice A1 4 c1] 25)))
          replace HP := Lib.hid (HP.out.keep (grown_alloc (grown_refl w1 none) (.cells #[.int .i64 m, .slice A1 4 c1] 25)))
          clear hk ho1 hl1
          go_wp2_with fail
          clear hs0 hs1 hsl p0 p1 p2 p3 p4 pl
          refine (specWrite_at _ _ _ _ _ _ _ _ _ HS.out.2.1 HV.out HQ.out HN.out HK.out).mono ?_
          rintro e w2 ⟨A2, c2, rfl, hl2, ho2, hk⟩
          replace HS := Lib.hid (HS.out.keep hk)
          replace HP := Lib.hid (HP.out.keep hk)
          replace HX := Lib.hid (HX.out.keep hk)
          obtain ⟨hs0, hs1, hsl⟩ := HS.out.cells
          obtain ⟨p0, p1, p2, p3, p4⟩ := cells5 HP.out
          have pl := HP.out.lt
          obtain ⟨hx0, hx1, hxl⟩ := HX.out.cells
          have HY := Lib.hid (LB.start (m := m) (n := 4) (c := c2) ho2.row HS.out.2.2.1)
          have HL2 := Lib.hid hl2
          replace HS := Lib.hid (HS.out.keep (grown_alloc (grown_refl w2 none) (.cells #[.int .i64 m, .slice A2 4 c2] 25)))
          replace HP := Lib.hid (HP.out.keep (grown_alloc (grown_refl w2 none) (.cells #[.int .i64 m, .slice A2 4 c2] 25)))
          replace HX := Lib.hid (HX.out.keep (grown_alloc (grown_refl w2 none) (.cells #[.int .i64 m, .slice A2 4 c2] 25)))
          clear hk ho2 hl2
          go_wp2_with fail
          clear hs0 hs1 hsl p0 p1 p2 p3 p4 pl hx0 hx1 hxl
          refine (sameBlock_same _ _ _ _ _ 4 (ps.set k ⟨true, x1, x2, x3, x4⟩) _ HL1.out HX.out.2.1 HY.out.2.1 (by omega)).mono ?_
          rintro e w3 ⟨rfl, hk⟩
          replace HS := Lib.hid (HS.out.keep hk)
          replace HP := Lib.hid (HP.out.keep hk)
          replace HX := Lib.hid (HX.out.keep hk)
          replace HY := Lib.hid (HY.out.keep hk)
          clear hk
          obtain ⟨hs0, hs1, hsl⟩ := HS.out.cells
          obtain ⟨p0, p1, p2, p3, p4⟩ := cells5 HP.out
          have pl := HP.out.lt
          obtain ⟨hx0, hx1, hxl⟩ := HX.out.cells
          obtain ⟨hy0, hy1, hyl⟩ := HY.out.cells
          have t1 : decide ((k : Int) < 0) = false := decide_eq_false (by omega)
          have t2 : decide ((4 : Int) ≤ k) = false := decide_eq_false (by omega)
          have t3 : decide (4 ≤ k) = false := decide_eq_false (by omega)
          go_wp2_with fail
          clear t1 t2 t3
          by_cases h3 : k = 3
          · have HA2 := Lib.hid (show nextV m (ps.set k ⟨true, x1, x2, x3, x4⟩) = (-1) by rw [HA.out]; rw [if_pos h3])
            have HZ := Lib.hid h3
            clear h3
            clear hs0 hs1 hsl p0 p1 p2 p3 p4 pl hx0 hx1 hxl hy0 hy1 hyl
            refine (next_val HL1.out HA2.out _ HX.out.2.1 (by omega)).mono ?_
            rintro e w4 ⟨rfl, hk⟩
            replace HS := Lib.hid (HS.out.keep hk)
            replace HP := Lib.hid (HP.out.keep hk)
            replace HX := Lib.hid (HX.out.keep hk)
            replace HY := Lib.hid (HY.out.keep hk)
            clear hk
            obtain ⟨g1, off1, e1, _, _, hp5⟩ := HX.out.2.1 (by have := HL1.out; omega)
            subst e1
            obtain ⟨g0, off0, e0, _, _, _⟩ := HS.out.2.1 (by have := HL.out; omega)
            subst e0
            have HD := Lib.hid (hp5 k ⟨true, x1, x2, x3, x4⟩ (by have h9 := HL.out; have h8 := HK.out; rw [List.getElem?_set_self (by omega)]))
            clear hp5
            obtain ⟨hs0, hs1, hsl⟩ := HS.out.cells
            obtain ⟨p0, p1, p2, p3, p4⟩ := cells5 HP.out
            have pl := HP.out.lt
            obtain ⟨hx0, hx1, hxl⟩ := HX.out.cells
            obtain ⟨hy0, hy1, hyl⟩ := HY.out.cells
            obtain ⟨d0, d1, d2, d3, d4⟩ := HD.out
            have u1 : IntKind.i64.wrap ((k : Int) + 1) = (k : Int) + 1 := IntWalk.i64_in _ ⟨by omega, by omega⟩
            have u9 := HC1.out.1
            have u8 : decide ((0 : Int) ≤ k) = true := decide_eq_true (by omega)
            have v1 : (k : Int) < 4 := by omega
            have v2 : k ≤ c := by omega
            have v3 : k ≤ c1 := by omega
            have u2 : ((k : Int) + 1 == 4) = true := by have := HZ.out; subst this; rfl
            have u3 : ((-1 : Int) == (k : Int) + 1) = false := by simp; omega
            go_wp2_with fail
            refine wp_region_held_drew (S := (fun w' => w'.cell? ⟨wa.heap.size, 0, none⟩ = some (.int .i64 m) ∧ w'.cell? ⟨wa.heap.size, 1, none⟩ = some (.slice (some ⟨g0, off0, none⟩) 4 c) ∧ w'.cell? ⟨w1.heap.size, 0, none⟩ = some (.int .i64 m) ∧ w'.cell? ⟨w1.heap.size, 1, none⟩ = some (.slice (some ⟨g1, off1, none⟩) 4 c1) ∧ w'.cell? ⟨wa.heap.size + 1, 0, none⟩ = some (.bool true) ∧ w'.cell? ⟨wa.heap.size + 1, 1, none⟩ = some (.int .i64 x1) ∧ w'.cell? ⟨wa.heap.size + 1, 2, none⟩ = some (.int .i64 x2) ∧ w'.cell? ⟨wa.heap.size + 1, 3, none⟩ = some (.int .i64 x3) ∧ w'.cell? ⟨wa.heap.size + 1, 4, none⟩ = some (.int .i64 x4) ∧ w'.cell? ⟨g1, off1 + k * 5, none⟩ = some (.bool true) ∧ w'.cell? ⟨g1, off1 + k * 5 + 1, none⟩ = some (.int .i64 x1) ∧ w'.cell? ⟨g1, off1 + k * 5 + 2, none⟩ = some (.int .i64 x2) ∧ w'.cell? ⟨g1, off1 + k * 5 + 3, none⟩ = some (.int .i64 x3) ∧ w'.cell? ⟨g1, off1 + k * 5 + 4, none⟩ = some (.int .i64 x4))) (by kernel_rfl) ?_ (fun hHeld => ?_)
            · exact ⟨hs0, hs1, hx0, hx1, p0, p1, p2, p3, p4, d0, d1, d2, d3, d4⟩
            replace HS := Lib.hid (HS.out.keep (grown_drew (grown_refl _ none)))
            replace HP := Lib.hid (HP.out.keep (grown_drew (grown_refl _ none)))
            replace HX := Lib.hid (HX.out.keep (grown_drew (grown_refl _ none)))
            replace HY := Lib.hid (HY.out.keep (grown_drew (grown_refl _ none)))
            replace HD := Lib.hid (HD.out.kept (grown_drew (grown_refl _ none)))
            refine held_yes (i := 0) (d := some 72) (v := ?_) rfl rfl (by kernel_rfl) (by kernel_rfl) (by kernel_rfl) (fun _ _ _ h => h) (by rfl) ?_ (by assumption) ?_
            rotate_left
            · (intro w hSw; (try dsimp only at hSw); go_simp; (first | done | with_reducible rfl))
            try simp only [Act.put, List.setIfInBounds_toArray, List.set_cons_zero, List.set_cons_succ]
            refine wpAnyH_ready (rs := [1]) (by kernel_rfl) (by simp) ?_
            refine AllReadyH.cons rfl (fun K hK => ?_) AllReadyH.nil
            go_simp
            go_at_call 14
            refine (blockValid_val HL1.out HW.out _ HX.out.2.1 (by omega)).mono ?_
            rintro e w5 ⟨rfl, hk⟩
            replace HS := Lib.hid (HS.out.keep hk)
            replace HP := Lib.hid (HP.out.keep hk)
            replace HX := Lib.hid (HX.out.keep hk)
            replace HY := Lib.hid (HY.out.keep hk)
            replace HD := Lib.hid (HD.out.kept hk)
            clear hk hs0 hs1 hsl p0 p1 p2 p3 p4 pl hx0 hx1 hxl hy0 hy1 hyl d0 d1 d2 d3 d4
            obtain ⟨hs0, hs1, hsl⟩ := HS.out.cells
            obtain ⟨p0, p1, p2, p3, p4⟩ := cells5 HP.out
            have pl := HP.out.lt
            obtain ⟨hx0, hx1, hxl⟩ := HX.out.cells
            obtain ⟨hy0, hy1, hyl⟩ := HY.out.cells
            obtain ⟨d0, d1, d2, d3, d4⟩ := HD.out
            refine hK.out _ _ ?_ (fun hHeld => ?_)
            · exact ⟨hs0, hs1, hx0, hx1, p0, p1, p2, p3, p4, d0, d1, d2, d3, d4⟩
            clear hK K
            try simp only [Act.put, List.setIfInBounds_toArray, List.set_cons_zero, List.set_cons_succ]
            refine held_yes (i := 2) (d := some 74) (v := ?_) rfl rfl (by kernel_rfl) (by kernel_rfl) (by kernel_rfl) (fun _ _ _ h => h) (by rfl) ?_ (by assumption) ?_
            rotate_left
            · (intro w hSw; (try dsimp only at hSw); go_simp; (first | done | with_reducible rfl))
            try simp only [Act.put, List.setIfInBounds_toArray, List.set_cons_zero, List.set_cons_succ]
            refine held_yes (i := 3) (d := some 75) (v := ?_) rfl rfl (by kernel_rfl) (by kernel_rfl) (by kernel_rfl) (fun _ _ _ h => h) (by rfl) ?_ (by assumption) ?_
            rotate_left
            · (intro w hSw; (try dsimp only at hSw); go_simp; (first | done | with_reducible rfl))
            try simp only [Act.put, List.setIfInBounds_toArray, List.set_cons_zero, List.set_cons_succ]
            refine held_yes (i := 4) (d := some 76) (v := ?_) rfl rfl (by kernel_rfl) (by kernel_rfl) (by kernel_rfl) (fun _ _ _ h => h) (by rfl) ?_ (by assumption) ?_
            rotate_left
            · (intro w hSw; (try dsimp only at hSw); go_simp; (first | done | with_reducible rfl))
            try simp only [Act.put, List.setIfInBounds_toArray, List.set_cons_zero, List.set_cons_succ]
            refine wpAnyH_ready (rs := [5]) (by kernel_rfl) (by simp) ?_
            refine AllReadyH.cons rfl (fun K hK => ?_) AllReadyH.nil
            go_simp
            go_at_call 21
            refine (next_val HL.out HN.out _ HS.out.2.1 (by omega)).mono ?_
            rintro e w6 ⟨rfl, hk⟩
            replace HS := Lib.hid (HS.out.keep hk)
            replace HP := Lib.hid (HP.out.keep hk)
            replace HX := Lib.hid (HX.out.keep hk)
            replace HY := Lib.hid (HY.out.keep hk)
            replace HD := Lib.hid (HD.out.kept hk)
            clear hk hs0 hs1 hsl p0 p1 p2 p3 p4 pl hx0 hx1 hxl hy0 hy1 hyl d0 d1 d2 d3 d4
            obtain ⟨hs0, hs1, hsl⟩ := HS.out.cells
            obtain ⟨p0, p1, p2, p3, p4⟩ := cells5 HP.out
            have pl := HP.out.lt
            obtain ⟨hx0, hx1, hxl⟩ := HX.out.cells
            obtain ⟨hy0, hy1, hyl⟩ := HY.out.cells
            obtain ⟨d0, d1, d2, d3, d4⟩ := HD.out
            refine hK.out _ _ ?_ (fun hHeld => ?_)
            · exact ⟨hs0, hs1, hx0, hx1, p0, p1, p2, p3, p4, d0, d1, d2, d3, d4⟩
            clear hK K
            try simp only [Act.put, List.setIfInBounds_toArray, List.set_cons_zero, List.set_cons_succ]
            refine held_yes (i := 6) (d := some 78) (v := ?_) rfl rfl (by kernel_rfl) (by kernel_rfl) (by kernel_rfl) (fun _ _ _ h => h) (by rfl) ?_ (by assumption) ?_
            rotate_left
            · (intro w hSw; (try dsimp only at hSw); go_simp; (first | done | with_reducible rfl))
            try simp only [Act.put, List.setIfInBounds_toArray, List.set_cons_zero, List.set_cons_succ]
            refine held_yes (i := 7) (d := some 79) (v := ?_) rfl rfl (by kernel_rfl) (by kernel_rfl) (by kernel_rfl) (fun _ _ _ h => h) (by rfl) ?_ (by assumption) ?_
            rotate_left
            · (intro w hSw; (try dsimp only at hSw); go_simp; (first | done | with_reducible rfl))
            try simp only [Act.put, List.setIfInBounds_toArray, List.set_cons_zero, List.set_cons_succ]
            refine held_yes (i := 8) (d := some 80) (v := ?_) rfl rfl (by kernel_rfl) (by kernel_rfl) (by kernel_rfl) (fun _ _ _ h => h) (by rfl) ?_ (by assumption) ?_
            rotate_left
            · (intro w hSw; (try dsimp only at hSw); go_simp; (first | done | with_reducible rfl))
            try simp only [Act.put, List.setIfInBounds_toArray, List.set_cons_zero, List.set_cons_succ]
            refine held_yes (i := 9) (d := some 81) (v := ?_) rfl rfl (by kernel_rfl) (by kernel_rfl) (by kernel_rfl) (fun _ _ _ h => h) (by rfl) ?_ (by assumption) ?_
            rotate_left
            · (intro w hSw; (try dsimp only at hSw); go_simp; (first | done | with_reducible rfl))
            try simp only [Act.put, List.setIfInBounds_toArray, List.set_cons_zero, List.set_cons_succ]
            refine held_yes (i := 10) (d := some 82) (v := ?_) rfl rfl (by kernel_rfl) (by kernel_rfl) (by kernel_rfl) (fun _ _ _ h => h) (by rfl) ?_ (by assumption) ?_
            rotate_left
            · (intro w hSw; (try dsimp only at hSw); go_simp; (first | done | with_reducible rfl))
            try simp only [Act.put, List.setIfInBounds_toArray, List.set_cons_zero, List.set_cons_succ]
            refine held_yes (i := 11) (d := some 83) (v := ?_) rfl rfl (by kernel_rfl) (by kernel_rfl) (by kernel_rfl) (fun _ _ _ h => h) (by rfl) ?_ (by assumption) ?_
            rotate_left
            · (intro w hSw; (try dsimp only at hSw); go_simp; (first | done | with_reducible rfl))
            try simp only [Act.put, List.setIfInBounds_toArray, List.set_cons_zero, List.set_cons_succ]
            refine held_yes (i := 12) (d := some 84) (v := ?_) rfl rfl (by kernel_rfl) (by kernel_rfl) (by kernel_rfl) (fun _ _ _ h => h) (by rfl) ?_ (by assumption) ?_
            rotate_left
            · (intro w hSw; (try dsimp only at hSw); go_simp; (first | done | with_reducible rfl))
            try simp only [Act.put, List.setIfInBounds_toArray, List.set_cons_zero, List.set_cons_succ]
            refine held_yes (i := 13) (d := some 85) (v := ?_) rfl rfl (by kernel_rfl) (by kernel_rfl) (by kernel_rfl) (fun _ _ _ h => h) (by rfl) ?_ (by assumption) ?_
            rotate_left
            · (intro w hSw; (try dsimp only at hSw); go_simp; (first | done | with_reducible rfl))
            try simp only [Act.put, List.setIfInBounds_toArray, List.set_cons_zero, List.set_cons_succ]
            refine held_yes (i := 14) (d := some 86) (v := ?_) rfl rfl (by kernel_rfl) (by kernel_rfl) (by kernel_rfl) (fun _ _ _ h => h) (by rfl) ?_ (by assumption) ?_
            rotate_left
            · (intro w hSw; (try dsimp only at hSw); go_simp; (first | done | with_reducible rfl))
            try simp only [Act.put, List.setIfInBounds_toArray, List.set_cons_zero, List.set_cons_succ]
            refine held_yes (i := 15) (d := some 87) (v := ?_) rfl rfl (by kernel_rfl) (by kernel_rfl) (by kernel_rfl) (fun _ _ _ h => h) (by rfl) ?_ (by assumption) ?_
            rotate_left
            · (intro w hSw; (try dsimp only at hSw); go_simp; (first | done | with_reducible rfl))
            try simp only [Act.put, List.setIfInBounds_toArray, List.set_cons_zero, List.set_cons_succ]
            refine held_yes (i := 16) (d := some 88) (v := ?_) rfl rfl (by kernel_rfl) (by kernel_rfl) (by kernel_rfl) (fun _ _ _ h => h) (by rfl) ?_ (by assumption) ?_
            rotate_left
            · (intro w hSw; (try dsimp only at hSw); go_simp; (first | done | with_reducible rfl))
            try simp only [Act.put, List.setIfInBounds_toArray, List.set_cons_zero, List.set_cons_succ]
            refine held_yes (i := 17) (d := some 89) (v := ?_) rfl rfl (by kernel_rfl) (by kernel_rfl) (by kernel_rfl) (fun _ _ _ h => h) (by rfl) ?_ (by assumption) ?_
            rotate_left
            · (intro w hSw; (try dsimp only at hSw); go_simp; (first | done | with_reducible rfl))
            try simp only [Act.put, List.setIfInBounds_toArray, List.set_cons_zero, List.set_cons_succ]
            refine held_yes (i := 18) (d := some 90) (v := ?_) rfl rfl (by kernel_rfl) (by kernel_rfl) (by kernel_rfl) (fun _ _ _ h => h) (by rfl) ?_ (by assumption) ?_
            rotate_left
            · (intro w hSw; (try dsimp only at hSw); go_simp; (first | done | with_reducible rfl))
            try simp only [Act.put, List.setIfInBounds_toArray, List.set_cons_zero, List.set_cons_succ]
            refine held_yes (i := 19) (d := some 91) (v := ?_) rfl rfl (by kernel_rfl) (by kernel_rfl) (by kernel_rfl) (fun _ _ _ h => h) (by rfl) ?_ (by assumption) ?_
            rotate_left
            · (intro w hSw; (try dsimp only at hSw); go_simp; (first | done | with_reducible rfl))
            try simp only [Act.put, List.setIfInBounds_toArray, List.set_cons_zero, List.set_cons_succ]
            refine held_yes (i := 20) (d := some 92) (v := ?_) rfl rfl (by kernel_rfl) (by kernel_rfl) (by kernel_rfl) (fun _ _ _ h => h) (by rfl) ?_ (by assumption) ?_
            rotate_left
            · (intro w hSw; (try dsimp only at hSw); go_simp; (first | done | with_reducible rfl))
            try simp only [Act.put, List.setIfInBounds_toArray, List.set_cons_zero, List.set_cons_succ]
            refine held_yes (i := 21) (d := some 93) (v := ?_) rfl rfl (by kernel_rfl) (by kernel_rfl) (by kernel_rfl) (fun _ _ _ h => h) (by rfl) ?_ (by assumption) ?_
            rotate_left
            · (intro w hSw; (try dsimp only at hSw); go_simp; (first | done | with_reducible rfl))
            try simp only [Act.put, List.setIfInBounds_toArray, List.set_cons_zero, List.set_cons_succ]
            refine held_yes (i := 22) (d := some 94) (v := ?_) rfl rfl (by kernel_rfl) (by kernel_rfl) (by kernel_rfl) (fun _ _ _ h => h) (by rfl) ?_ (by assumption) ?_
            rotate_left
            · (intro w hSw; (try dsimp only at hSw); go_simp; (first | done | with_reducible rfl))
            try simp only [Act.put, List.setIfInBounds_toArray, List.set_cons_zero, List.set_cons_succ]
            refine held_yes (i := 23) (d := some 95) (v := ?_) rfl rfl (by kernel_rfl) (by kernel_rfl) (by kernel_rfl) (fun _ _ _ h => h) (by rfl) ?_ (by assumption) ?_
            rotate_left
            · (intro w hSw; (try dsimp only at hSw); go_simp; (first | done | with_reducible rfl))
            try simp only [Act.put, List.setIfInBounds_toArray, List.set_cons_zero, List.set_cons_succ]
            refine held_yes (i := 24) (d := some 96) (v := ?_) rfl rfl (by kernel_rfl) (by kernel_rfl) (by kernel_rfl) (fun _ _ _ h => h) (by rfl) ?_ (by assumption) ?_
            rotate_left
            · (intro w hSw; (try dsimp only at hSw); go_simp; (first | done | with_reducible rfl))
            try simp only [Act.put, List.setIfInBounds_toArray, List.set_cons_zero, List.set_cons_succ]
            refine held_yes (i := 25) (d := some 97) (v := ?_) rfl rfl (by kernel_rfl) (by kernel_rfl) (by kernel_rfl) (fun _ _ _ h => h) (by rfl) ?_ (by assumption) ?_
            rotate_left
            · (intro w hSw; (try dsimp only at hSw); go_simp; (first | done | with_reducible rfl))
            try simp only [Act.put, List.setIfInBounds_toArray, List.set_cons_zero, List.set_cons_succ]
            refine wpAnyH_ready (rs := [26]) (by kernel_rfl) (by simp) ?_
            refine AllReadyH.cons rfl (fun K hK => ?_) AllReadyH.nil
            go_simp
            go_at_call 27
            refine (samePages_same _ _ _ _ k (ps.take k) _ (by have h9 := HL.out; have h8 := HK.out; rw [List.length_take]; omega) (by have h9 := HX.out.2.1.take k; rw [set_take] at h9; exact h9) (HS.out.2.1.take k) (by have h8 := HK.out; omega)).mono ?_
            rintro e w7 ⟨rfl, hk⟩
            replace HS := Lib.hid (HS.out.keep hk)
            replace HP := Lib.hid (HP.out.keep hk)
            replace HX := Lib.hid (HX.out.keep hk)
            replace HY := Lib.hid (HY.out.keep hk)
            replace HD := Lib.hid (HD.out.kept hk)
            clear hk hs0 hs1 hsl p0 p1 p2 p3 p4 pl hx0 hx1 hxl hy0 hy1 hyl d0 d1 d2 d3 d4
            obtain ⟨hs0, hs1, hsl⟩ := HS.out.cells
            obtain ⟨p0, p1, p2, p3, p4⟩ := cells5 HP.out
            have pl := HP.out.lt
            obtain ⟨hx0, hx1, hxl⟩ := HX.out.cells
            obtain ⟨hy0, hy1, hyl⟩ := HY.out.cells
            obtain ⟨d0, d1, d2, d3, d4⟩ := HD.out
            refine hK.out _ _ ?_ (fun hHeld => ?_)
            · exact ⟨hs0, hs1, hx0, hx1, p0, p1, p2, p3, p4, d0, d1, d2, d3, d4⟩
            clear hK K
            try simp only [Act.put, List.setIfInBounds_toArray, List.set_cons_zero, List.set_cons_succ]
            refine held_yes (i := 27) (d := some 99) (v := ?_) rfl rfl (by kernel_rfl) (by kernel_rfl) (by kernel_rfl) (fun _ _ _ h => h) (by rfl) ?_ (by assumption) ?_
            rotate_left
            · (intro w hSw; (try dsimp only at hSw); go_simp; (first | done | with_reducible rfl))
            try simp only [Act.put, List.setIfInBounds_toArray, List.set_cons_zero, List.set_cons_succ]
            refine held_yes (i := 28) (d := some 100) (v := ?_) rfl rfl (by kernel_rfl) (by kernel_rfl) (by kernel_rfl) (fun _ _ _ h => h) (by rfl) ?_ (by assumption) ?_
            rotate_left
            · (intro w hSw; (try dsimp only at hSw); go_simp; (first | done | with_reducible rfl))
            try simp only [Act.put, List.setIfInBounds_toArray, List.set_cons_zero, List.set_cons_succ]
            refine held_yes (i := 29) (d := some 101) (v := ?_) rfl rfl (by kernel_rfl) (by kernel_rfl) (by kernel_rfl) (fun _ _ _ h => h) (by rfl) ?_ (by assumption) ?_
            rotate_left
            · (intro w hSw; (try dsimp only at hSw); go_simp; (first | done | with_reducible rfl))
            try simp only [Act.put, List.setIfInBounds_toArray, List.set_cons_zero, List.set_cons_succ]
            refine held_yes (i := 30) (d := some 102) (v := ?_) rfl rfl (by kernel_rfl) (by kernel_rfl) (by kernel_rfl) (fun _ _ _ h => h) (by rfl) ?_ (by assumption) ?_
            rotate_left
            · (intro w hSw; (try dsimp only at hSw); go_simp; (first | done | with_reducible rfl))
            try simp only [Act.put, List.setIfInBounds_toArray, List.set_cons_zero, List.set_cons_succ]
            refine held_yes (i := 31) (d := some 103) (v := ?_) rfl rfl (by kernel_rfl) (by kernel_rfl) (by kernel_rfl) (fun _ _ _ h => h) (by rfl) ?_ (by assumption) ?_
            rotate_left
            · (intro w hSw; (try dsimp only at hSw); go_simp; (first | done | with_reducible rfl))
            try simp only [Act.put, List.setIfInBounds_toArray, List.set_cons_zero, List.set_cons_succ]
            refine held_yes (i := 32) (d := some 104) (v := ?_) rfl rfl (by kernel_rfl) (by kernel_rfl) (by kernel_rfl) (fun _ _ _ h => h) (by rfl) ?_ (by assumption) ?_
            rotate_left
            · (intro w hSw; (try dsimp only at hSw); go_simp; (first | done | with_reducible rfl))
            try simp only [Act.put, List.setIfInBounds_toArray, List.set_cons_zero, List.set_cons_succ]
            refine held_yes (i := 33) (d := some 105) (v := ?_) rfl rfl (by kernel_rfl) (by kernel_rfl) (by kernel_rfl) (fun _ _ _ h => h) (by rfl) ?_ (by assumption) ?_
            rotate_left
            · (intro w hSw; (try dsimp only at hSw); go_simp; (first | done | with_reducible rfl))
            try simp only [Act.put, List.setIfInBounds_toArray, List.set_cons_zero, List.set_cons_succ]
            refine held_yes (i := 34) (d := some 106) (v := ?_) rfl rfl (by kernel_rfl) (by kernel_rfl) (by kernel_rfl) (fun _ _ _ h => h) (by rfl) ?_ (by assumption) ?_
            rotate_left
            · (intro w hSw; (try dsimp only at hSw); go_simp; (first | done | with_reducible rfl))
            try simp only [Act.put, List.setIfInBounds_toArray, List.set_cons_zero, List.set_cons_succ]
            refine held_yes (i := 35) (d := some 107) (v := ?_) rfl rfl (by kernel_rfl) (by kernel_rfl) (by kernel_rfl) (fun _ _ _ h => h) (by rfl) ?_ (by assumption) ?_
            rotate_left
            · (intro w hSw; (try dsimp only at hSw); go_simp; (first | done | with_reducible rfl))
            try simp only [Act.put, List.setIfInBounds_toArray, List.set_cons_zero, List.set_cons_succ]
            refine held_yes (i := 36) (d := some 108) (v := ?_) rfl rfl (by kernel_rfl) (by kernel_rfl) (by kernel_rfl) (fun _ _ _ h => h) (by rfl) ?_ (by assumption) ?_
            rotate_left
            · (intro w hSw; (try dsimp only at hSw); go_simp; (first | done | with_reducible rfl))
            try simp only [Act.put, List.setIfInBounds_toArray, List.set_cons_zero, List.set_cons_succ]
            refine held_yes (i := 37) (d := some 109) (v := ?_) rfl rfl (by kernel_rfl) (by kernel_rfl) (by kernel_rfl) (fun _ _ _ h => h) (by rfl) ?_ (by assumption) ?_
            rotate_left
            · (intro w hSw; (try dsimp only at hSw); go_simp; (first | done | with_reducible rfl))
            try simp only [Act.put, List.setIfInBounds_toArray, List.set_cons_zero, List.set_cons_succ]
            refine held_yes (i := 38) (d := some 110) (v := ?_) rfl rfl (by kernel_rfl) (by kernel_rfl) (by kernel_rfl) (fun _ _ _ h => h) (by rfl) ?_ (by assumption) ?_
            rotate_left
            · (intro w hSw; (try dsimp only at hSw); go_simp; (first | done | with_reducible rfl))
            try simp only [Act.put, List.setIfInBounds_toArray, List.set_cons_zero, List.set_cons_succ]
            refine held_yes (i := 39) (d := some 111) (v := ?_) rfl rfl (by kernel_rfl) (by kernel_rfl) (by kernel_rfl) (fun _ _ _ h => h) (by rfl) ?_ (by assumption) ?_
            rotate_left
            · (intro w hSw; (try dsimp only at hSw); go_simp; (first | done | with_reducible rfl))
            try simp only [Act.put, List.setIfInBounds_toArray, List.set_cons_zero, List.set_cons_succ]
            refine held_yes (i := 40) (d := some 112) (v := ?_) rfl rfl (by kernel_rfl) (by kernel_rfl) (by kernel_rfl) (fun _ _ _ h => h) (by rfl) ?_ (by assumption) ?_
            rotate_left
            · (intro w hSw; (try dsimp only at hSw); go_simp; (first | done | with_reducible rfl))
            try simp only [Act.put, List.setIfInBounds_toArray, List.set_cons_zero, List.set_cons_succ]
            refine held_yes (i := 41) (d := some 113) (v := ?_) rfl rfl (by kernel_rfl) (by kernel_rfl) (by kernel_rfl) (fun _ _ _ h => h) (by rfl) ?_ (by assumption) ?_
            rotate_left
            · (intro w hSw; (try dsimp only at hSw); go_simp; (first | done | with_reducible rfl))
            try simp only [Act.put, List.setIfInBounds_toArray, List.set_cons_zero, List.set_cons_succ]
            refine held_yes (i := 42) (d := some 114) (v := ?_) rfl rfl (by kernel_rfl) (by kernel_rfl) (by kernel_rfl) (fun _ _ _ h => h) (by rfl) ?_ (by assumption) ?_
            rotate_left
            · (intro w hSw; (try dsimp only at hSw); go_simp; (first | done | with_reducible rfl))
            try simp only [Act.put, List.setIfInBounds_toArray, List.set_cons_zero, List.set_cons_succ]
            refine held_yes (i := 43) (d := some 115) (v := ?_) rfl rfl (by kernel_rfl) (by kernel_rfl) (by kernel_rfl) (fun _ _ _ h => h) (by rfl) ?_ (by assumption) ?_
            rotate_left
            · (intro w hSw; (try dsimp only at hSw); go_simp; (first | done | with_reducible rfl))
            try simp only [Act.put, List.setIfInBounds_toArray, List.set_cons_zero, List.set_cons_succ]
            refine held_yes (i := 44) (d := some 116) (v := ?_) rfl rfl (by kernel_rfl) (by kernel_rfl) (by kernel_rfl) (fun _ _ _ h => h) (by rfl) ?_ (by assumption) ?_
            rotate_left
            · (intro w hSw; (try dsimp only at hSw); go_simp; (first | done | with_reducible rfl))
            try simp only [Act.put, List.setIfInBounds_toArray, List.set_cons_zero, List.set_cons_succ]
            refine held_yes (i := 45) (d := some 117) (v := ?_) rfl rfl (by kernel_rfl) (by kernel_rfl) (by kernel_rfl) (fun _ _ _ h => h) (by rfl) ?_ (by assumption) ?_
            rotate_left
            · (intro w hSw; (try dsimp only at hSw); go_simp; (first | done | with_reducible rfl))
            try simp only [Act.put, List.setIfInBounds_toArray, List.set_cons_zero, List.set_cons_succ]
            refine held_yes (i := 46) (d := some 118) (v := ?_) rfl rfl (by kernel_rfl) (by kernel_rfl) (by kernel_rfl) (fun _ _ _ h => h) (by rfl) ?_ (by assumption) ?_
            rotate_left
            · (intro w hSw; (try dsimp only at hSw); go_simp; (first | done | with_reducible rfl))
            try simp only [Act.put, List.setIfInBounds_toArray, List.set_cons_zero, List.set_cons_succ]
            refine held_yes (i := 47) (d := some 119) (v := ?_) rfl rfl (by kernel_rfl) (by kernel_rfl) (by kernel_rfl) (fun _ _ _ h => h) (by rfl) ?_ (by assumption) ?_
            rotate_left
            · (intro w hSw; (try dsimp only at hSw); go_simp; (first | done | with_reducible rfl))
            try simp only [Act.put, List.setIfInBounds_toArray, List.set_cons_zero, List.set_cons_succ]
            refine held_yes (i := 48) (d := some 120) (v := ?_) rfl rfl (by kernel_rfl) (by kernel_rfl) (by kernel_rfl) (fun _ _ _ h => h) (by rfl) ?_ (by assumption) ?_
            rotate_left
            · (intro w hSw; (try dsimp only at hSw); go_simp; (first | done | with_reducible rfl))
            try simp only [Act.put, List.setIfInBounds_toArray, List.set_cons_zero, List.set_cons_succ]
            refine held_yes (i := 49) (d := some 121) (v := ?_) rfl rfl (by kernel_rfl) (by kernel_rfl) (by kernel_rfl) (fun _ _ _ h => h) (by rfl) ?_ (by assumption) ?_
            rotate_left
            · (intro w hSw; (try dsimp only at hSw); go_simp; (first | done | with_reducible rfl))
            try simp only [Act.put, List.setIfInBounds_toArray, List.set_cons_zero, List.set_cons_succ]
            refine wpAnyH_ready (rs := [50]) (by kernel_rfl) (by simp) ?_
            refine AllReadyH.cons rfl (fun K hK => ?_) AllReadyH.nil
            go_simp
            refine hK.out _ _ ?_ (fun hHeld => ?_)
            · exact ⟨hs0, hs1, hx0, hx1, p0, p1, p2, p3, p4, d0, d1, d2, d3, d4⟩
            clear hK K
            try simp only [Act.put, List.setIfInBounds_toArray, List.set_cons_zero, List.set_cons_succ]
            refine wpAnyH_done (by kernel_rfl) ?_ _
            go_wp2
            go_ret
            exact ⟨rfl, HS.out.2.2.1⟩
          · have HA2 := Lib.hid (show nextV m (ps.set k ⟨true, x1, x2, x3, x4⟩) = ((k : Int) + 1) by rw [HA.out]; rw [if_neg h3])
            have HZ := Lib.hid h3
            clear h3
            clear hs0 hs1 hsl p0 p1 p2 p3 p4 pl hx0 hx1 hxl hy0 hy1 hyl
            refine (next_val HL1.out HA2.out _ HX.out.2.1 (by omega)).mono ?_
            rintro e w4 ⟨rfl, hk⟩
            replace HS := Lib.hid (HS.out.keep hk)
            replace HP := Lib.hid (HP.out.keep hk)
            replace HX := Lib.hid (HX.out.keep hk)
            replace HY := Lib.hid (HY.out.keep hk)
            clear hk
            obtain ⟨g1, off1, e1, _, _, hp5⟩ := HX.out.2.1 (by have := HL1.out; omega)
            subst e1
            obtain ⟨g0, off0, e0, _, _, _⟩ := HS.out.2.1 (by have := HL.out; omega)
            subst e0
            have HD := Lib.hid (hp5 k ⟨true, x1, x2, x3, x4⟩ (by have h9 := HL.out; have h8 := HK.out; rw [List.getElem?_set_self (by omega)]))
            clear hp5
            obtain ⟨hs0, hs1, hsl⟩ := HS.out.cells
            obtain ⟨p0, p1, p2, p3, p4⟩ := cells5 HP.out
            have pl := HP.out.lt
            obtain ⟨hx0, hx1, hxl⟩ := HX.out.cells
            obtain ⟨hy0, hy1, hyl⟩ := HY.out.cells
            obtain ⟨d0, d1, d2, d3, d4⟩ := HD.out
            have u1 : IntKind.i64.wrap ((k : Int) + 1) = (k : Int) + 1 := IntWalk.i64_in _ ⟨by omega, by omega⟩
            have u9 := HC1.out.1
            have u8 : decide ((0 : Int) ≤ k) = true := decide_eq_true (by omega)
            have v1 : (k : Int) < 4 := by omega
            have v2 : k ≤ c := by omega
            have v3 : k ≤ c1 := by omega
            go_wp2_with fail
            refine wp_region_held_drew (S := (fun w' => w'.cell? ⟨wa.heap.size, 0, none⟩ = some (.int .i64 m) ∧ w'.cell? ⟨wa.heap.size, 1, none⟩ = some (.slice (some ⟨g0, off0, none⟩) 4 c) ∧ w'.cell? ⟨w1.heap.size, 0, none⟩ = some (.int .i64 m) ∧ w'.cell? ⟨w1.heap.size, 1, none⟩ = some (.slice (some ⟨g1, off1, none⟩) 4 c1) ∧ w'.cell? ⟨wa.heap.size + 1, 0, none⟩ = some (.bool true) ∧ w'.cell? ⟨wa.heap.size + 1, 1, none⟩ = some (.int .i64 x1) ∧ w'.cell? ⟨wa.heap.size + 1, 2, none⟩ = some (.int .i64 x2) ∧ w'.cell? ⟨wa.heap.size + 1, 3, none⟩ = some (.int .i64 x3) ∧ w'.cell? ⟨wa.heap.size + 1, 4, none⟩ = some (.int .i64 x4) ∧ w'.cell? ⟨g1, off1 + k * 5, none⟩ = some (.bool true) ∧ w'.cell? ⟨g1, off1 + k * 5 + 1, none⟩ = some (.int .i64 x1) ∧ w'.cell? ⟨g1, off1 + k * 5 + 2, none⟩ = some (.int .i64 x2) ∧ w'.cell? ⟨g1, off1 + k * 5 + 3, none⟩ = some (.int .i64 x3) ∧ w'.cell? ⟨g1, off1 + k * 5 + 4, none⟩ = some (.int .i64 x4))) (by kernel_rfl) ?_ (fun hHeld => ?_)
            · exact ⟨hs0, hs1, hx0, hx1, p0, p1, p2, p3, p4, d0, d1, d2, d3, d4⟩
            replace HS := Lib.hid (HS.out.keep (grown_drew (grown_refl _ none)))
            replace HP := Lib.hid (HP.out.keep (grown_drew (grown_refl _ none)))
            replace HX := Lib.hid (HX.out.keep (grown_drew (grown_refl _ none)))
            replace HY := Lib.hid (HY.out.keep (grown_drew (grown_refl _ none)))
            replace HD := Lib.hid (HD.out.kept (grown_drew (grown_refl _ none)))
            refine held_yes (i := 0) (d := some 72) (v := ?_) rfl rfl (by kernel_rfl) (by kernel_rfl) (by kernel_rfl) (fun _ _ _ h => h) (by rfl) ?_ (by assumption) ?_
            rotate_left
            · (intro w hSw; (try dsimp only at hSw); go_simp; (first | done | with_reducible rfl))
            try simp only [Act.put, List.setIfInBounds_toArray, List.set_cons_zero, List.set_cons_succ]
            refine wpAnyH_ready (rs := [1]) (by kernel_rfl) (by simp) ?_
            refine AllReadyH.cons rfl (fun K hK => ?_) AllReadyH.nil
            go_simp
            go_at_call 14
            refine (blockValid_val HL1.out HW.out _ HX.out.2.1 (by omega)).mono ?_
            rintro e w5 ⟨rfl, hk⟩
            replace HS := Lib.hid (HS.out.keep hk)
            replace HP := Lib.hid (HP.out.keep hk)
            replace HX := Lib.hid (HX.out.keep hk)
            replace HY := Lib.hid (HY.out.keep hk)
            replace HD := Lib.hid (HD.out.kept hk)
            clear hk hs0 hs1 hsl p0 p1 p2 p3 p4 pl hx0 hx1 hxl hy0 hy1 hyl d0 d1 d2 d3 d4
            obtain ⟨hs0, hs1, hsl⟩ := HS.out.cells
            obtain ⟨p0, p1, p2, p3, p4⟩ := cells5 HP.out
            have pl := HP.out.lt
            obtain ⟨hx0, hx1, hxl⟩ := HX.out.cells
            obtain ⟨hy0, hy1, hyl⟩ := HY.out.cells
            obtain ⟨d0, d1, d2, d3, d4⟩ := HD.out
            refine hK.out _ _ ?_ (fun hHeld => ?_)
            · exact ⟨hs0, hs1, hx0, hx1, p0, p1, p2, p3, p4, d0, d1, d2, d3, d4⟩
            clear hK K
            try simp only [Act.put, List.setIfInBounds_toArray, List.set_cons_zero, List.set_cons_succ]
            refine held_yes (i := 2) (d := some 74) (v := ?_) rfl rfl (by kernel_rfl) (by kernel_rfl) (by kernel_rfl) (fun _ _ _ h => h) (by rfl) ?_ (by assumption) ?_
            rotate_left
            · (intro w hSw; (try dsimp only at hSw); go_simp; (first | done | with_reducible rfl))
            try simp only [Act.put, List.setIfInBounds_toArray, List.set_cons_zero, List.set_cons_succ]
            refine held_yes (i := 3) (d := some 75) (v := ?_) rfl rfl (by kernel_rfl) (by kernel_rfl) (by kernel_rfl) (fun _ _ _ h => h) (by rfl) ?_ (by assumption) ?_
            rotate_left
            · (intro w hSw; (try dsimp only at hSw); go_simp; (first | done | with_reducible rfl))
            try simp only [Act.put, List.setIfInBounds_toArray, List.set_cons_zero, List.set_cons_succ]
            refine held_yes (i := 4) (d := some 76) (v := ?_) rfl rfl (by kernel_rfl) (by kernel_rfl) (by kernel_rfl) (fun _ _ _ h => h) (by rfl) ?_ (by assumption) ?_
            rotate_left
            · (intro w hSw; (try dsimp only at hSw); go_simp; (first | done | with_reducible rfl))
            try simp only [Act.put, List.setIfInBounds_toArray, List.set_cons_zero, List.set_cons_succ]
            refine wpAnyH_ready (rs := [5]) (by kernel_rfl) (by simp) ?_
            refine AllReadyH.cons rfl (fun K hK => ?_) AllReadyH.nil
            go_simp
            go_at_call 21
            refine (next_val HL.out HN.out _ HS.out.2.1 (by omega)).mono ?_
            rintro e w6 ⟨rfl, hk⟩
            replace HS := Lib.hid (HS.out.keep hk)
            replace HP := Lib.hid (HP.out.keep hk)
            replace HX := Lib.hid (HX.out.keep hk)
            replace HY := Lib.hid (HY.out.keep hk)
            replace HD := Lib.hid (HD.out.kept hk)
            clear hk hs0 hs1 hsl p0 p1 p2 p3 p4 pl hx0 hx1 hxl hy0 hy1 hyl d0 d1 d2 d3 d4
            obtain ⟨hs0, hs1, hsl⟩ := HS.out.cells
            obtain ⟨p0, p1, p2, p3, p4⟩ := cells5 HP.out
            have pl := HP.out.lt
            obtain ⟨hx0, hx1, hxl⟩ := HX.out.cells
            obtain ⟨hy0, hy1, hyl⟩ := HY.out.cells
            obtain ⟨d0, d1, d2, d3, d4⟩ := HD.out
            refine hK.out _ _ ?_ (fun hHeld => ?_)
            · exact ⟨hs0, hs1, hx0, hx1, p0, p1, p2, p3, p4, d0, d1, d2, d3, d4⟩
            clear hK K
            try simp only [Act.put, List.setIfInBounds_toArray, List.set_cons_zero, List.set_cons_succ]
            refine held_yes (i := 6) (d := some 78) (v := ?_) rfl rfl (by kernel_rfl) (by kernel_rfl) (by kernel_rfl) (fun _ _ _ h => h) (by rfl) ?_ (by assumption) ?_
            rotate_left
            · (intro w hSw; (try dsimp only at hSw); go_simp; (first | done | with_reducible rfl))
            try simp only [Act.put, List.setIfInBounds_toArray, List.set_cons_zero, List.set_cons_succ]
            refine held_yes (i := 7) (d := some 79) (v := ?_) rfl rfl (by kernel_rfl) (by kernel_rfl) (by kernel_rfl) (fun _ _ _ h => h) (by rfl) ?_ (by assumption) ?_
            rotate_left
            · (intro w hSw; (try dsimp only at hSw); go_simp; (first | done | with_reducible rfl))
            try simp only [Act.put, List.setIfInBounds_toArray, List.set_cons_zero, List.set_cons_succ]
            refine held_yes (i := 8) (d := some 80) (v := ?_) rfl rfl (by kernel_rfl) (by kernel_rfl) (by kernel_rfl) (fun _ _ _ h => h) (by rfl) ?_ (by assumption) ?_
            rotate_left
            · (intro w hSw; (try dsimp only at hSw); go_simp; (first | done | with_reducible rfl))
            try simp only [Act.put, List.setIfInBounds_toArray, List.set_cons_zero, List.set_cons_succ]
            refine held_yes (i := 9) (d := some 81) (v := ?_) rfl rfl (by kernel_rfl) (by kernel_rfl) (by kernel_rfl) (fun _ _ _ h => h) (by rfl) ?_ (by assumption) ?_
            rotate_left
            · (intro w hSw; (try dsimp only at hSw); go_simp; (first | done | with_reducible rfl))
            try simp only [Act.put, List.setIfInBounds_toArray, List.set_cons_zero, List.set_cons_succ]
            refine held_yes (i := 10) (d := some 82) (v := ?_) rfl rfl (by kernel_rfl) (by kernel_rfl) (by kernel_rfl) (fun _ _ _ h => h) (by rfl) ?_ (by assumption) ?_
            rotate_left
            · (intro w hSw; (try dsimp only at hSw); go_simp; (first | done | with_reducible rfl))
            try simp only [Act.put, List.setIfInBounds_toArray, List.set_cons_zero, List.set_cons_succ]
            refine held_yes (i := 11) (d := some 83) (v := ?_) rfl rfl (by kernel_rfl) (by kernel_rfl) (by kernel_rfl) (fun _ _ _ h => h) (by rfl) ?_ (by assumption) ?_
            rotate_left
            · (intro w hSw; (try dsimp only at hSw); go_simp; (first | done | with_reducible rfl))
            try simp only [Act.put, List.setIfInBounds_toArray, List.set_cons_zero, List.set_cons_succ]
            refine held_yes (i := 12) (d := some 84) (v := ?_) rfl rfl (by kernel_rfl) (by kernel_rfl) (by kernel_rfl) (fun _ _ _ h => h) (by rfl) ?_ (by assumption) ?_
            rotate_left
            · (intro w hSw; (try dsimp only at hSw); go_simp; (first | done | with_reducible rfl))
            try simp only [Act.put, List.setIfInBounds_toArray, List.set_cons_zero, List.set_cons_succ]
            refine held_yes (i := 13) (d := some 85) (v := ?_) rfl rfl (by kernel_rfl) (by kernel_rfl) (by kernel_rfl) (fun _ _ _ h => h) (by rfl) ?_ (by assumption) ?_
            rotate_left
            · (intro w hSw; (try dsimp only at hSw); go_simp; (first | done | with_reducible rfl))
            try simp only [Act.put, List.setIfInBounds_toArray, List.set_cons_zero, List.set_cons_succ]
            refine held_yes (i := 14) (d := some 86) (v := ?_) rfl rfl (by kernel_rfl) (by kernel_rfl) (by kernel_rfl) (fun _ _ _ h => h) (by rfl) ?_ (by assumption) ?_
            rotate_left
            · (intro w hSw; (try dsimp only at hSw); go_simp; (first | done | with_reducible rfl))
            try simp only [Act.put, List.setIfInBounds_toArray, List.set_cons_zero, List.set_cons_succ]
            refine held_yes (i := 15) (d := some 87) (v := ?_) rfl rfl (by kernel_rfl) (by kernel_rfl) (by kernel_rfl) (fun _ _ _ h => h) (by rfl) ?_ (by assumption) ?_
            rotate_left
            · (intro w hSw; (try dsimp only at hSw); go_simp; (first | done | with_reducible rfl))
            try simp only [Act.put, List.setIfInBounds_toArray, List.set_cons_zero, List.set_cons_succ]
            refine held_yes (i := 16) (d := some 88) (v := ?_) rfl rfl (by kernel_rfl) (by kernel_rfl) (by kernel_rfl) (fun _ _ _ h => h) (by rfl) ?_ (by assumption) ?_
            rotate_left
            · (intro w hSw; (try dsimp only at hSw); go_simp; (first | done | with_reducible rfl))
            try simp only [Act.put, List.setIfInBounds_toArray, List.set_cons_zero, List.set_cons_succ]
            refine held_yes (i := 17) (d := some 89) (v := ?_) rfl rfl (by kernel_rfl) (by kernel_rfl) (by kernel_rfl) (fun _ _ _ h => h) (by rfl) ?_ (by assumption) ?_
            rotate_left
            · (intro w hSw; (try dsimp only at hSw); go_simp; (first | done | with_reducible rfl))
            try simp only [Act.put, List.setIfInBounds_toArray, List.set_cons_zero, List.set_cons_succ]
            refine held_yes (i := 18) (d := some 90) (v := ?_) rfl rfl (by kernel_rfl) (by kernel_rfl) (by kernel_rfl) (fun _ _ _ h => h) (by rfl) ?_ (by assumption) ?_
            rotate_left
            · (intro w hSw; (try dsimp only at hSw); go_simp; (first | done | with_reducible rfl))
            try simp only [Act.put, List.setIfInBounds_toArray, List.set_cons_zero, List.set_cons_succ]
            refine held_yes (i := 19) (d := some 91) (v := ?_) rfl rfl (by kernel_rfl) (by kernel_rfl) (by kernel_rfl) (fun _ _ _ h => h) (by rfl) ?_ (by assumption) ?_
            rotate_left
            · (intro w hSw; (try dsimp only at hSw); go_simp; (first | done | with_reducible rfl))
            try simp only [Act.put, List.setIfInBounds_toArray, List.set_cons_zero, List.set_cons_succ]
            refine held_yes (i := 20) (d := some 92) (v := ?_) rfl rfl (by kernel_rfl) (by kernel_rfl) (by kernel_rfl) (fun _ _ _ h => h) (by rfl) ?_ (by assumption) ?_
            rotate_left
            · (intro w hSw; (try dsimp only at hSw); go_simp; (first | done | with_reducible rfl))
            try simp only [Act.put, List.setIfInBounds_toArray, List.set_cons_zero, List.set_cons_succ]
            refine held_yes (i := 21) (d := some 93) (v := ?_) rfl rfl (by kernel_rfl) (by kernel_rfl) (by kernel_rfl) (fun _ _ _ h => h) (by rfl) ?_ (by assumption) ?_
            rotate_left
            · (intro w hSw; (try dsimp only at hSw); go_simp; (first | done | with_reducible rfl))
            try simp only [Act.put, List.setIfInBounds_toArray, List.set_cons_zero, List.set_cons_succ]
            refine held_yes (i := 22) (d := some 94) (v := ?_) rfl rfl (by kernel_rfl) (by kernel_rfl) (by kernel_rfl) (fun _ _ _ h => h) (by rfl) ?_ (by assumption) ?_
            rotate_left
            · (intro w hSw; (try dsimp only at hSw); go_simp; (first | done | with_reducible rfl))
            try simp only [Act.put, List.setIfInBounds_toArray, List.set_cons_zero, List.set_cons_succ]
            refine held_yes (i := 23) (d := some 95) (v := ?_) rfl rfl (by kernel_rfl) (by kernel_rfl) (by kernel_rfl) (fun _ _ _ h => h) (by rfl) ?_ (by assumption) ?_
            rotate_left
            · (intro w hSw; (try dsimp only at hSw); go_simp; (first | done | with_reducible rfl))
            try simp only [Act.put, List.setIfInBounds_toArray, List.set_cons_zero, List.set_cons_succ]
            refine held_yes (i := 24) (d := some 96) (v := ?_) rfl rfl (by kernel_rfl) (by kernel_rfl) (by kernel_rfl) (fun _ _ _ h => h) (by rfl) ?_ (by assumption) ?_
            rotate_left
            · (intro w hSw; (try dsimp only at hSw); go_simp; (first | done | with_reducible rfl))
            try simp only [Act.put, List.setIfInBounds_toArray, List.set_cons_zero, List.set_cons_succ]
            refine held_yes (i := 25) (d := some 97) (v := ?_) rfl rfl (by kernel_rfl) (by kernel_rfl) (by kernel_rfl) (fun _ _ _ h => h) (by rfl) ?_ (by assumption) ?_
            rotate_left
            · (intro w hSw; (try dsimp only at hSw); go_simp; (first | done | with_reducible rfl))
            try simp only [Act.put, List.setIfInBounds_toArray, List.set_cons_zero, List.set_cons_succ]
            refine wpAnyH_ready (rs := [26]) (by kernel_rfl) (by simp) ?_
            refine AllReadyH.cons rfl (fun K hK => ?_) AllReadyH.nil
            go_simp
            go_at_call 27
            refine (samePages_same _ _ _ _ k (ps.take k) _ (by have h9 := HL.out; have h8 := HK.out; rw [List.length_take]; omega) (by have h9 := HX.out.2.1.take k; rw [set_take] at h9; exact h9) (HS.out.2.1.take k) (by have h8 := HK.out; omega)).mono ?_
            rintro e w7 ⟨rfl, hk⟩
            replace HS := Lib.hid (HS.out.keep hk)
            replace HP := Lib.hid (HP.out.keep hk)
            replace HX := Lib.hid (HX.out.keep hk)
            replace HY := Lib.hid (HY.out.keep hk)
            replace HD := Lib.hid (HD.out.kept hk)
            clear hk hs0 hs1 hsl p0 p1 p2 p3 p4 pl hx0 hx1 hxl hy0 hy1 hyl d0 d1 d2 d3 d4
            obtain ⟨hs0, hs1, hsl⟩ := HS.out.cells
            obtain ⟨p0, p1, p2, p3, p4⟩ := cells5 HP.out
            have pl := HP.out.lt
            obtain ⟨hx0, hx1, hxl⟩ := HX.out.cells
            obtain ⟨hy0, hy1, hyl⟩ := HY.out.cells
            obtain ⟨d0, d1, d2, d3, d4⟩ := HD.out
            refine hK.out _ _ ?_ (fun hHeld => ?_)
            · exact ⟨hs0, hs1, hx0, hx1, p0, p1, p2, p3, p4, d0, d1, d2, d3, d4⟩
            clear hK K
            try simp only [Act.put, List.setIfInBounds_toArray, List.set_cons_zero, List.set_cons_succ]
            refine held_yes (i := 27) (d := some 99) (v := ?_) rfl rfl (by kernel_rfl) (by kernel_rfl) (by kernel_rfl) (fun _ _ _ h => h) (by rfl) ?_ (by assumption) ?_
            rotate_left
            · (intro w hSw; (try dsimp only at hSw); go_simp; (first | done | with_reducible rfl))
            try simp only [Act.put, List.setIfInBounds_toArray, List.set_cons_zero, List.set_cons_succ]
            refine held_yes (i := 28) (d := some 100) (v := ?_) rfl rfl (by kernel_rfl) (by kernel_rfl) (by kernel_rfl) (fun _ _ _ h => h) (by rfl) ?_ (by assumption) ?_
            rotate_left
            · (intro w hSw; (try dsimp only at hSw); go_simp; (first | done | with_reducible rfl))
            try simp only [Act.put, List.setIfInBounds_toArray, List.set_cons_zero, List.set_cons_succ]
            refine held_yes (i := 29) (d := some 101) (v := ?_) rfl rfl (by kernel_rfl) (by kernel_rfl) (by kernel_rfl) (fun _ _ _ h => h) (by rfl) ?_ (by assumption) ?_
            rotate_left
            · (intro w hSw; (try dsimp only at hSw); go_simp; (first | done | with_reducible rfl))
            try simp only [Act.put, List.setIfInBounds_toArray, List.set_cons_zero, List.set_cons_succ]
            refine held_yes (i := 30) (d := some 102) (v := ?_) rfl rfl (by kernel_rfl) (by kernel_rfl) (by kernel_rfl) (fun _ _ _ h => h) (by rfl) ?_ (by assumption) ?_
            rotate_left
            · (intro w hSw; (try dsimp only at hSw); go_simp; (first | done | with_reducible rfl))
            try simp only [Act.put, List.setIfInBounds_toArray, List.set_cons_zero, List.set_cons_succ]
            refine held_yes (i := 31) (d := some 103) (v := ?_) rfl rfl (by kernel_rfl) (by kernel_rfl) (by kernel_rfl) (fun _ _ _ h => h) (by rfl) ?_ (by assumption) ?_
            rotate_left
            · (intro w hSw; (try dsimp only at hSw); go_simp; (first | done | with_reducible rfl))
            try simp only [Act.put, List.setIfInBounds_toArray, List.set_cons_zero, List.set_cons_succ]
            refine held_yes (i := 32) (d := some 104) (v := ?_) rfl rfl (by kernel_rfl) (by kernel_rfl) (by kernel_rfl) (fun _ _ _ h => h) (by rfl) ?_ (by assumption) ?_
            rotate_left
            · (intro w hSw; (try dsimp only at hSw); go_simp; (first | done | with_reducible rfl))
            try simp only [Act.put, List.setIfInBounds_toArray, List.set_cons_zero, List.set_cons_succ]
            refine held_yes (i := 33) (d := some 105) (v := ?_) rfl rfl (by kernel_rfl) (by kernel_rfl) (by kernel_rfl) (fun _ _ _ h => h) (by rfl) ?_ (by assumption) ?_
            rotate_left
            · (intro w hSw; (try dsimp only at hSw); go_simp; (first | done | with_reducible rfl))
            try simp only [Act.put, List.setIfInBounds_toArray, List.set_cons_zero, List.set_cons_succ]
            refine held_no (i := 34) (d := some 106) rfl rfl (by kernel_rfl) (by kernel_rfl) (by kernel_rfl) (fun _ _ _ h => h) (by rfl) (by assumption) ?_
            try simp only [Act.put, List.setIfInBounds_toArray, List.set_cons_zero, List.set_cons_succ]
            refine held_no (i := 35) (d := some 107) rfl rfl (by kernel_rfl) (by kernel_rfl) (by kernel_rfl) (fun _ _ _ h => h) (by rfl) (by assumption) ?_
            try simp only [Act.put, List.setIfInBounds_toArray, List.set_cons_zero, List.set_cons_succ]
            refine held_no (i := 36) (d := some 108) rfl rfl (by kernel_rfl) (by kernel_rfl) (by kernel_rfl) (fun _ _ _ h => h) (by rfl) (by assumption) ?_
            try simp only [Act.put, List.setIfInBounds_toArray, List.set_cons_zero, List.set_cons_succ]
            refine held_no (i := 37) (d := some 109) rfl rfl (by kernel_rfl) (by kernel_rfl) (by kernel_rfl) (fun _ _ _ h => h) (by rfl) (by assumption) ?_
            try simp only [Act.put, List.setIfInBounds_toArray, List.set_cons_zero, List.set_cons_succ]
            refine held_no (i := 38) (d := some 110) rfl rfl (by kernel_rfl) (by kernel_rfl) (by kernel_rfl) (fun _ _ _ h => h) (by rfl) (by assumption) ?_
            try simp only [Act.put, List.setIfInBounds_toArray, List.set_cons_zero, List.set_cons_succ]
            refine held_no (i := 39) (d := some 111) rfl rfl (by kernel_rfl) (by kernel_rfl) (by kernel_rfl) (fun _ _ _ h => h) (by rfl) (by assumption) ?_
            try simp only [Act.put, List.setIfInBounds_toArray, List.set_cons_zero, List.set_cons_succ]
            refine held_no (i := 40) (d := some 112) rfl rfl (by kernel_rfl) (by kernel_rfl) (by kernel_rfl) (fun _ _ _ h => h) (by rfl) (by assumption) ?_
            try simp only [Act.put, List.setIfInBounds_toArray, List.set_cons_zero, List.set_cons_succ]
            refine held_yes (i := 41) (d := some 113) (v := ?_) rfl rfl (by kernel_rfl) (by kernel_rfl) (by kernel_rfl) (fun _ _ _ h => h) (by rfl) ?_ (by assumption) ?_
            rotate_left
            · (intro w hSw; (try dsimp only at hSw); go_simp; (first | done | with_reducible rfl))
            try simp only [Act.put, List.setIfInBounds_toArray, List.set_cons_zero, List.set_cons_succ]
            refine held_yes (i := 42) (d := some 114) (v := ?_) rfl rfl (by kernel_rfl) (by kernel_rfl) (by kernel_rfl) (fun _ _ _ h => h) (by rfl) ?_ (by assumption) ?_
            rotate_left
            · (intro w hSw; (try dsimp only at hSw); go_simp; (first | done | with_reducible rfl))
            try simp only [Act.put, List.setIfInBounds_toArray, List.set_cons_zero, List.set_cons_succ]
            refine held_yes (i := 43) (d := some 115) (v := ?_) rfl rfl (by kernel_rfl) (by kernel_rfl) (by kernel_rfl) (fun _ _ _ h => h) (by rfl) ?_ (by assumption) ?_
            rotate_left
            · (intro w hSw; (try dsimp only at hSw); go_simp; (first | done | with_reducible rfl))
            try simp only [Act.put, List.setIfInBounds_toArray, List.set_cons_zero, List.set_cons_succ]
            refine held_yes (i := 44) (d := some 116) (v := ?_) rfl rfl (by kernel_rfl) (by kernel_rfl) (by kernel_rfl) (fun _ _ _ h => h) (by rfl) ?_ (by assumption) ?_
            rotate_left
            · (intro w hSw; (try dsimp only at hSw); go_simp; (first | done | with_reducible rfl))
            try simp only [Act.put, List.setIfInBounds_toArray, List.set_cons_zero, List.set_cons_succ]
            refine held_yes (i := 45) (d := some 117) (v := ?_) rfl rfl (by kernel_rfl) (by kernel_rfl) (by kernel_rfl) (fun _ _ _ h => h) (by rfl) ?_ (by assumption) ?_
            rotate_left
            · (intro w hSw; (try dsimp only at hSw); go_simp; (first | done | with_reducible rfl))
            try simp only [Act.put, List.setIfInBounds_toArray, List.set_cons_zero, List.set_cons_succ]
            refine held_yes (i := 46) (d := some 118) (v := ?_) rfl rfl (by kernel_rfl) (by kernel_rfl) (by kernel_rfl) (fun _ _ _ h => h) (by rfl) ?_ (by assumption) ?_
            rotate_left
            · (intro w hSw; (try dsimp only at hSw); go_simp; (first | done | with_reducible rfl))
            try simp only [Act.put, List.setIfInBounds_toArray, List.set_cons_zero, List.set_cons_succ]
            refine held_yes (i := 47) (d := some 119) (v := ?_) rfl rfl (by kernel_rfl) (by kernel_rfl) (by kernel_rfl) (fun _ _ _ h => h) (by rfl) ?_ (by assumption) ?_
            rotate_left
            · (intro w hSw; (try dsimp only at hSw); go_simp; (first | done | with_reducible rfl))
            try simp only [Act.put, List.setIfInBounds_toArray, List.set_cons_zero, List.set_cons_succ]
            refine held_yes (i := 48) (d := some 120) (v := ?_) rfl rfl (by kernel_rfl) (by kernel_rfl) (by kernel_rfl) (fun _ _ _ h => h) (by rfl) ?_ (by assumption) ?_
            rotate_left
            · (intro w hSw; (try dsimp only at hSw); go_simp; (first | done | with_reducible rfl))
            try simp only [Act.put, List.setIfInBounds_toArray, List.set_cons_zero, List.set_cons_succ]
            refine held_yes (i := 49) (d := some 121) (v := ?_) rfl rfl (by kernel_rfl) (by kernel_rfl) (by kernel_rfl) (fun _ _ _ h => h) (by rfl) ?_ (by assumption) ?_
            rotate_left
            · (intro w hSw; (try dsimp only at hSw); go_simp; (first | done | with_reducible rfl))
            try simp only [Act.put, List.setIfInBounds_toArray, List.set_cons_zero, List.set_cons_succ]
            refine wpAnyH_ready (rs := [50]) (by kernel_rfl) (by simp) ?_
            refine AllReadyH.cons rfl (fun K hK => ?_) AllReadyH.nil
            go_simp
            refine hK.out _ _ ?_ (fun hHeld => ?_)
            · exact ⟨hs0, hs1, hx0, hx1, p0, p1, p2, p3, p4, d0, d1, d2, d3, d4⟩
            clear hK K
            try simp only [Act.put, List.setIfInBounds_toArray, List.set_cons_zero, List.set_cons_succ]
            refine wpAnyH_done (by kernel_rfl) ?_ _
            go_wp2
            go_ret
            exact ⟨rfl, HS.out.2.2.1⟩

/-! ### THE ROW's STEP: WRITTEN OUT: LEAVE IT -/
set_option maxRecDepth 100000 in
theorem lifted (os : Os) (started : os.Started) (H : Type) (enc : TypeId × Value → H) :
    ReturnsInHanded {} Try.checked os 6 .any (Rows.fnWriteBlockSpec.pre6 enc Try.prog Try.f6 Rows.fnWriteBlockRow.domain false) (Rows.fnWriteBlockSpec.post enc Try.prog Try.f6 false true false false) := by
  refine returnsInHanded_of_change (C := Try.checked) own started (by kernel_rfl) Try.func6
    (ChangeSpec.witness6 (enc := enc) (C := Try.checked) false ⟨#[], #[.slice none 0 0], []⟩ 8 (by kernel_rfl) (by kernel_rfl) (by kernel_rfl) (by kernel_rfl)) ?_
  intro W base args ds gs before hval0 hW hcnd _
  have hval : ∀ (j : Nat) t v, Try.f6.params[j]? = some t → args[j]? = some v → Value.okWide Try.prog W .any base t v := hval0
  have hW' := hW
  obtain ⟨p, q, hA0, hV, rfl, hfz, hnd⟩ := hW
  have hA : DataW.TrodAll enc Try.prog W 0 (fun _ => true) true Try.f6.params.toList args.toList ds p := hA0
  rw [Try.params6] at hA hval
  obtain ⟨v0, vs0, d0, ds0, p0, q0, hargs, rfl, rfl, h0, r0⟩ := trodAll_cons hA
  obtain ⟨rfl, rfl, rfl⟩ := trodAll_nil r0
  obtain rfl : args = #[v0] := by cases args; simp_all
  obtain ⟨rfl, rfl⟩ := trodVars_none hV
  obtain ⟨a0, len0, cap0, rfl⟩ := okWide_slice Try.underlying22 (hval 0 22 v0 rfl rfl)
  have k0 := h0
  have lt0 : ∀ x ∈ p0, x.block < W.heap.size := by obtain ⟨m, hm⟩ := k0; exact DataW.trod_lt m _ _ _ hm
  obtain ⟨z0, w0⟩ : ∃ zs, IsRow .u8 W a0 len0 cap0 zs := by
    obtain ⟨fuel, hf⟩ := h0
    rcases open_ints Try.underlying22 Try.underlying5 (by kernel_rfl) hf with ⟨hcs, _⟩ | ⟨x, l, c, zs, hcs, _, hl, hm, hz, _, hcell, hwz⟩
    · simp [Value.cells] at hcs
      obtain ⟨rfl, rfl, rfl⟩ := hcs
      exact ⟨[], .inl ⟨rfl, rfl, rfl, rfl⟩⟩
    · simp [Value.cells] at hcs
      obtain ⟨rfl, rfl, rfl⟩ := hcs
      exact ⟨zs, .inr ⟨_, rfl, hl, hm, by simpa using hz, hcell, hwz⟩⟩
  clear hA0 hval0
  refine (walk a0 len0 cap0 z0 W w0).mono fun e W' ⟨he, bel⟩ => ?_
  subst he
  exact ⟨_, rfl, _, _, _, [], _, [], hW', trodAll_mk1 (shut_bool Try.underlying4 _), (trodAll_cons_mk (Below.trod laidOut (by kernel_rfl) (of_decide_eq_true (by kernel_rfl)) k0 bel lt0) trodAll_mk0), rfl, bel.frame _, fun h => by cases h⟩

theorem over : Rows.fnWriteBlockRow.holds Try.pinned (OpenSpec.ofChange Rows.fnWriteBlockSpec) :=
  OpenClaim.holds_of_wide 6 Try.f6 rfl rfl rfl rfl rfl rfl rfl ⟨rfl, rfl, rfl, rfl, rfl⟩ rfl rfl rfl rfl rfl (by kernel_rfl) Try.func6 (by kernel_rfl)
    (of_decide_eq_true (by kernel_rfl)) (by unfold Func.isWrapper; first | (rw [if_pos (by decide +kernel)]; kernel_rfl) | (rw [if_neg (by decide +kernel)]; exact ⟨rfl, rfl⟩))
    (fun os started H enc _ => lifted os started H enc)

/-- ████ THE STATEMENT ████ -/
theorem proved : Rows.FnWriteBlockSaid := over
#print axioms proved
end Go.Proofs.Ytcmnnleebjlaeaa.fnWriteBlock
