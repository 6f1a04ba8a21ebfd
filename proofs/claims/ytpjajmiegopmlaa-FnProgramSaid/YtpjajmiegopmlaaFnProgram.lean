/- For every code, Program answers of the drawn device, block and page as its model; the page is read at its number, it was free, every other page is as before, the device is valid and one page less is free: proved.
   Conditions: none beyond the row's own reading of the input. The frame was written by the guide's proof-skeleton; the walk is ours. -/
import Derived.Test.YtpjajmiegopmlaaDrawDev4
import Derived.Test.YtpjajmiegopmlaaRows
import Derived.WalkKit
import Derived.ProofKit
import Derived.OpenShut
import Derived.ShutString
import Derived.ChangeOld
import Derived.Below
namespace Go.Proofs.Ytpjajmiegopmlaa.fnProgram
open Go.ChangeShapes Go.WideShapes Go.ChangeAt Go.RowKit
open Go.ChangeMaps (open_string shut_string)
set_option linter.unusedVariables false

theorem own : ownKnob Try.prog.godebug = none := by kernel_rfl
theorem laidOut : laidOutB Try.prog = true := by kernel_rfl

/-- WHAT THE WALK IS TOLD OF A SLICE OF INTEGERS THAT CAME IN: it is nil; or it leads to a row of 'cap' cells, the numbers 'zs' (the first 'len' are its elements, the rest its spare room), each fitting its kind. -/
def IsRow (k : IntKind) (w : World) (a : Option Addr) (len cap : Nat) (zs : List Int) : Prop :=
  (a = none ∧ len = 0 ∧ cap = 0 ∧ zs = []) ∨
  ∃ x, a = some x ∧ len ≤ cap ∧ cap ≤ maxLen ∧ zs.length = cap ∧ (∀ i, i < zs.length → w.cell? (x.add i) = some (.int k (zs.getD i 0))) ∧ ∀ n ∈ zs, (Lit.int k n).wf = true

/-! ### STEP 1: THE WALK: the Go text returns true, AND WRITES NOTHING THAT WAS THERE: 'Below w.heap.size w w'' (Derived/Below.lean: '.refl', '.alloc', '.drew', '.setCell' at a new block, '.trans'). Open each 'IsRow' by 'rcases' AHEAD of 'go_enter'; part every test ahead of the walk. -/
set_option maxHeartbeats 8000000 in
set_option maxRecDepth 100000 in
theorem walk (a0 : Option Addr) (len0 cap0 : Nat) (z0 : List Int) (w : World) (w0 : IsRow .u8 w a0 len0 cap0 z0) :
    Calls Try.prog 4 #[.slice a0 len0 cap0] w fun e w' => e = .returned (.bool true) ∧ Below w.heap.size w w' := by
  obtain ⟨hl, hc, hb⟩ := bytes_of w0
  by_cases hbig : 1048576 < len0
  · go_enter Try.func4, Try.ntmps4
    go_wp2
    go_ret
    exact ⟨rfl, Below.refl _ _⟩
  · go_enter Try.func4, Try.ntmps4
    go_wp2_with fail
    refine (drawProgram_any w a0 len0 cap0 hl hc hb).mono ?_
    rintro e wa ⟨A, n, c, bs, a, f, x1, x2, x3, x4, rfl, hln, h13, hsm, hrow, hbl⟩
    have hs0 : LD w A bs wa := ⟨hrow, hbl⟩
    have HS := Lib.hid (hs0.alloc (.cells #[.bool f, .int .i64 x1, .int .i64 x2, .int .i64 x3, .int .i64 x4] 27))
    have HP := Lib.hid (Blk.new wa 27 #[.bool f, .int .i64 x1, .int .i64 x2, .int .i64 x3, .int .i64 x4])
    have HL := Lib.hid (And.intro hln (fun (q : Bk) (hq : q ∈ bs) => show q.ps.length ≤ 1048576 by have := hsm q hq; omega))
    clear hb w0 hrow hbl hln hsm hs0
    rcases prog_cases n bs a f x1 x2 x3 x4 with hv | ⟨k, rfl, hkn, hd, rfl, hpg⟩
    · have HV := Lib.hid hv
      clear hv
      obtain ⟨p0, p1, p2, p3, p4⟩ := cells5 HP.out
      go_wp2_with fail
      clear p0 p1 p2 p3 p4
      refine (program_other HV.out HL.out.1 HS.out.1 (by omega) HL.out.2).mono ?_
      rintro e w1 ⟨A1, c1, cs1, rfl, hl, hs, ho, hk⟩
      replace HS := Lib.hid (HS.out.keep hk)
      replace HP := Lib.hid (HP.out.keep hk)
      have HX := Lib.hid (show LD w A1 cs1 w1 from ⟨ho.row, HS.out.2⟩)
      have SHX := Lib.hid (And.intro hl hs)
      clear hl hs ho hk
      obtain ⟨p0, p1, p2, p3, p4⟩ := cells5 HP.out
      go_wp2_with fail
      clear p0 p1 p2 p3 p4
      refine (specProgram_other HV.out HL.out.1 HS.out.1 (by omega) HL.out.2).mono ?_
      rintro e w2 ⟨A2, c2, cs2, rfl, hl, hs, ho, hk⟩
      replace HS := Lib.hid (HS.out.keep hk)
      replace HP := Lib.hid (HP.out.keep hk)
      replace HX := Lib.hid (HX.out.keep hk)
      have HY := Lib.hid (show LD w A2 cs2 w2 from ⟨ho.row, HS.out.2⟩)
      have SHY := Lib.hid (And.intro hl hs)
      clear hl hs ho hk
      go_wp2_with fail
      refine (sameDevice_same _ _ _ _ _ _ _ _ SHX.out.1 (SHX.out.2.trans SHY.out.2.symm) HX.out.1 HY.out.1 (by omega) (small_nil SHX.out.1)).mono ?_
      rintro e w3 ⟨rfl, hk⟩
      replace HS := Lib.hid (HS.out.keep hk)
      replace HP := Lib.hid (HP.out.keep hk)
      replace HX := Lib.hid (HX.out.keep hk)
      replace HY := Lib.hid (HY.out.keep hk)
      clear hk
      by_cases hn0 : n = 0
      · subst hn0
        go_wp2_with fail
        refine (sameDevice_same _ _ _ _ _ _ _ _ SHX.out.1 (by rw [List.eq_nil_of_length_eq_zero SHX.out.1, List.eq_nil_of_length_eq_zero HL.out.1]) HX.out.1 HS.out.1 (by omega) (small_nil SHX.out.1)).mono ?_
        rintro e w4 ⟨rfl, hk⟩
        replace HS := Lib.hid (HS.out.keep hk)
        replace HP := Lib.hid (HP.out.keep hk)
        replace HX := Lib.hid (HX.out.keep hk)
        replace HY := Lib.hid (HY.out.keep hk)
        clear hk
        go_wp2_with (go_at_call 19; refine (alive_any _).mono ?_; rintro e w' ⟨rfl, rfl⟩)
        go_ret
        exact ⟨rfl, HS.out.2⟩
      · go_wp2_with fail
        refine (sameDevice_len _ _ _ _ _ _ _ (fun e => hn0 e.symm)).mono ?_
        rintro e w4 ⟨rfl, hk⟩
        replace HS := Lib.hid (HS.out.keep hk)
        replace HP := Lib.hid (HP.out.keep hk)
        replace HX := Lib.hid (HX.out.keep hk)
        replace HY := Lib.hid (HY.out.keep hk)
        clear hk
        go_wp2_with (go_at_call 19; refine (alive_any _).mono ?_; rintro e w' ⟨rfl, rfl⟩)
        go_ret
        exact ⟨rfl, HS.out.2⟩
    · obtain ⟨_, hall⟩ := dev_parts hd
      obtain ⟨⟨m, Ab, cb, ps⟩, hbk⟩ : ∃ b, bs[k]? = some b := ⟨_, List.getElem?_eq_getElem (by have := HL.out.1; omega)⟩
      have hvb := hall _ (List.mem_of_getElem? hbk)
      have HV := Lib.hid (And.intro hd (And.intro hpg hbk))
      clear hd hall
      rcases next_cases m ps with hnx | ⟨j, hnx, hj4, _⟩
      · have HW := Lib.hid (And.intro (show WriteIs m ps true x1 x2 x3 x4 m 4 ps (-1) from .inr (.inl ⟨hvb, rfl, hpg, hnx, rfl, rfl, rfl, rfl⟩)) (And.intro (show progV k (-1) = -1 by simp [progV]) (show (-1 : Int) ≤ -1 ∧ (-1 : Int) < 4 by omega)))
        have HI := Lib.hid (set_id (l := bs.map Bk.is) (k := k) (q := (m, ps)) (by rw [List.getElem?_map, hbk]; rfl))
        clear hnx hvb hbk hpg
        obtain ⟨p0, p1, p2, p3, p4⟩ := cells5 HP.out
        go_wp2_with fail
        clear p0 p1 p2 p3 p4
        refine (program_v (v := -1) HW.out.2.1 HL.out.1 HS.out.1 HV.out.1 HV.out.2.2 HV.out.2.1 HW.out.1 HW.out.2.2).mono ?_
        rintro e w1 ⟨A1, c1, cs1, rfl, hl, hs, ho, hk⟩
        replace HS := Lib.hid (HS.out.keep hk)
        replace HP := Lib.hid (HP.out.keep hk)
        have HX := Lib.hid (show LD w A1 cs1 w1 from ⟨ho.row, HS.out.2⟩)
        have SHX := Lib.hid (And.intro hl hs)
        clear hl hs ho hk
        obtain ⟨p0, p1, p2, p3, p4⟩ := cells5 HP.out
        go_wp2_with fail
        clear p0 p1 p2 p3 p4
        refine (specProgram_v (v := -1) HW.out.2.1 HL.out.1 HS.out.1 HV.out.1 HV.out.2.2 HV.out.2.1 HW.out.1 HW.out.2.2).mono ?_
        rintro e w2 ⟨A2, c2, cs2, rfl, hl, hs, ho, hk⟩
        replace HS := Lib.hid (HS.out.keep hk)
        replace HP := Lib.hid (HP.out.keep hk)
        replace HX := Lib.hid (HX.out.keep hk)
        have HY := Lib.hid (show LD w A2 cs2 w2 from ⟨ho.row, HS.out.2⟩)
        have SHY := Lib.hid (And.intro hl hs)
        clear hl hs ho hk
        go_wp2_with fail
        refine (sameDevice_same _ _ _ _ _ _ _ _ SHX.out.1 (SHX.out.2.trans SHY.out.2.symm) HX.out.1 HY.out.1 (by omega) (small_eq (SHX.out.2.trans HI.out) HL.out.2)).mono ?_
        rintro e w3 ⟨rfl, hk⟩
        replace HS := Lib.hid (HS.out.keep hk)
        replace HP := Lib.hid (HP.out.keep hk)
        replace HX := Lib.hid (HX.out.keep hk)
        replace HY := Lib.hid (HY.out.keep hk)
        clear hk
        go_wp2_with fail
        refine (sameDevice_same _ _ _ _ _ _ _ _ SHX.out.1 (SHX.out.2.trans HI.out) HX.out.1 HS.out.1 (by omega) (small_eq (SHX.out.2.trans HI.out) HL.out.2)).mono ?_
        rintro e w4 ⟨rfl, hk⟩
        replace HS := Lib.hid (HS.out.keep hk)
        replace HP := Lib.hid (HP.out.keep hk)
        replace HX := Lib.hid (HX.out.keep hk)
        replace HY := Lib.hid (HY.out.keep hk)
        clear hk
        go_wp2_with (go_at_call 19; refine (alive_any _).mono ?_; rintro e w' ⟨rfl, rfl⟩)
        go_ret
        exact ⟨rfl, HS.out.2⟩
      · obtain ⟨vn, hvn⟩ : ∃ vn : Nat, vn = k * 4 + j := ⟨_, rfl⟩
        have hpp : pgB ⟨true, x1, x2, x3, x4⟩ = true := hpg
        have HW := Lib.hid (And.intro (show WriteIs m ps true x1 x2 x3 x4 m 4 (ps.set j ⟨true, x1, x2, x3, x4⟩) (j : Int) from .inr (.inr ⟨j, hvb, rfl, hpg, hnx, hj4, rfl, rfl, rfl, rfl⟩)) (And.intro (show progV k (j : Int) = (vn : Int) by rw [progV_pos k (by omega)]; omega) (show (-1 : Int) ≤ (j : Int) ∧ (j : Int) < 4 by omega)))
        have HK := Lib.hid (And.intro hbk (And.intro hnx (And.intro hj4 hpp)))
        have HN := Lib.hid hvn
        have hvk : vn < 4 * n := by omega
        have e4 : (vn : Int) / 4 = (k : Int) := by omega
        have HE := Lib.hid e4
        clear hnx hvb hbk hpg hpp hvn hj4 e4
        obtain ⟨p0, p1, p2, p3, p4⟩ := cells5 HP.out
        go_wp2_with fail
        clear p0 p1 p2 p3 p4
        refine (program_v (v := (vn : Int)) HW.out.2.1 HL.out.1 HS.out.1 HV.out.1 HV.out.2.2 HV.out.2.1 HW.out.1 HW.out.2.2).mono ?_
        rintro e w1 ⟨A1, c1, cs1, rfl, hl, hs, ho, hk⟩
        replace HS := Lib.hid (HS.out.keep hk)
        replace HP := Lib.hid (HP.out.keep hk)
        have HX := Lib.hid (show LD w A1 cs1 w1 from ⟨ho.row, HS.out.2⟩)
        have SHX := Lib.hid (And.intro hl hs)
        clear hl hs ho hk
        obtain ⟨p0, p1, p2, p3, p4⟩ := cells5 HP.out
        go_wp2_with fail
        clear p0 p1 p2 p3 p4
        refine (specProgram_v (v := (vn : Int)) HW.out.2.1 HL.out.1 HS.out.1 HV.out.1 HV.out.2.2 HV.out.2.1 HW.out.1 HW.out.2.2).mono ?_
        rintro e w2 ⟨A2, c2, cs2, rfl, hl, hs, ho, hk⟩
        replace HS := Lib.hid (HS.out.keep hk)
        replace HP := Lib.hid (HP.out.keep hk)
        replace HX := Lib.hid (HX.out.keep hk)
        have HY := Lib.hid (show LD w A2 cs2 w2 from ⟨ho.row, HS.out.2⟩)
        have SHY := Lib.hid (And.intro hl hs)
        clear hl hs ho hk
        have hpf := prog_facts HV.out.1 HK.out.1 HK.out.2.1 HK.out.2.2.1 HK.out.2.2.2 rfl SHX.out.2
        rw [← HN.out] at hpf
        have HF := Lib.hid hpf
        clear hpf
        have hsx := Lib.hid (fun (b : Bk) (hb : b ∈ cs1) => show b.ps.length ≤ 1048576 by have := (block_parts ((dev_parts HF.out.1).2 b hb)).2.1; omega)
        go_wp2_with fail
        refine (sameDevice_same _ _ _ _ _ _ _ _ SHX.out.1 (SHX.out.2.trans SHY.out.2.symm) HX.out.1 HY.out.1 (by omega) hsx.out).mono ?_
        rintro e w3 ⟨rfl, hk⟩
        replace HS := Lib.hid (HS.out.keep hk)
        replace HP := Lib.hid (HP.out.keep hk)
        replace HX := Lib.hid (HX.out.keep hk)
        replace HY := Lib.hid (HY.out.keep hk)
        clear hk
        go_wp2_with fail
        go_loopw [10] (fun i wr => ∃ q : Nat, i = .int .i64 q ∧ q ≤ 4 * n ∧ LD w A bs wr ∧ LD w A1 cs1 wr ∧ Blk wr wa.heap.size 27 #[.bool true, .int .i64 x1, .int .i64 x2, .int .i64 x3, .int .i64 x4]) (fun i _ => 4 * n - (intOf i).toNat)
        case atStart => exact ⟨0, rfl, Nat.zero_le _, HS.out, HX.out, HP.out⟩
        case round =>
          obtain ⟨q, rfl, hq, hS, hX, hP⟩ := hrel
          clear HS HX HY HP
          have HS := Lib.hid hS
          have HX := Lib.hid hX
          have HP := Lib.hid hP
          clear hS hX hP
          by_cases hlt : q < 4 * n
          · by_cases hqa : q = vn
            · subst hqa
              have hi : (q : Int) < 4 * (n : Int) := by omega
              go_wp2_with fail
              refine (readPage_at _ _ _ _ _ _ _ SHX.out.1 HX.out.1 HF.out.1 HF.out.2.1).mono ?_
              rintro e w21 ⟨he, hk⟩
              dsimp only [pz] at he
              subst he
              replace HS := Lib.hid (HS.out.keep hk)
              replace HX := Lib.hid (HX.out.keep hk)
              replace HP := Lib.hid (HP.out.keep hk)
              clear hk
              have hn := Blk.new w21 27 #[.bool true, .int .i64 x1, .int .i64 x2, .int .i64 x3, .int .i64 x4]
              replace HS := Lib.hid (HS.out.keep (grown_alloc (grown_refl _ none) (.cells #[.bool true, .int .i64 x1, .int .i64 x2, .int .i64 x3, .int .i64 x4] 27)))
              replace HX := Lib.hid (HX.out.keep (grown_alloc (grown_refl _ none) (.cells #[.bool true, .int .i64 x1, .int .i64 x2, .int .i64 x3, .int .i64 x4] 27)))
              replace HP := Lib.hid (HP.out.keep (grown_alloc (grown_refl _ none) (.cells #[.bool true, .int .i64 x1, .int .i64 x2, .int .i64 x3, .int .i64 x4] 27)))
              have HA := Lib.hid hn
              clear hn
              go_wp2_with fail
              refine (readPage_at _ _ _ _ _ _ _ HL.out.1 HS.out.1 HV.out.1 HF.out.2.2.1).mono ?_
              rintro e w22 ⟨he, hk⟩
              dsimp only [pz] at he
              subst he
              replace HS := Lib.hid (HS.out.keep hk)
              replace HX := Lib.hid (HX.out.keep hk)
              replace HP := Lib.hid (HP.out.keep hk)
              replace HA := Lib.hid (HA.out.keep hk)
              clear hk
              have hn := Blk.new w22 27 #[.bool false, .int .i64 0, .int .i64 0, .int .i64 0, .int .i64 0]
              replace HS := Lib.hid (HS.out.keep (grown_alloc (grown_refl _ none) (.cells #[.bool false, .int .i64 0, .int .i64 0, .int .i64 0, .int .i64 0] 27)))
              replace HX := Lib.hid (HX.out.keep (grown_alloc (grown_refl _ none) (.cells #[.bool false, .int .i64 0, .int .i64 0, .int .i64 0, .int .i64 0] 27)))
              replace HP := Lib.hid (HP.out.keep (grown_alloc (grown_refl _ none) (.cells #[.bool false, .int .i64 0, .int .i64 0, .int .i64 0, .int .i64 0] 27)))
              replace HA := Lib.hid (HA.out.keep (grown_alloc (grown_refl _ none) (.cells #[.bool false, .int .i64 0, .int .i64 0, .int .i64 0, .int .i64 0] 27)))
              have HB := Lib.hid hn
              clear hn
              obtain ⟨p0, p1, p2, p3, p4⟩ := cells5 HA.out
              obtain ⟨r0, r1, r2, r3, r4⟩ := cells5 HB.out
              obtain ⟨s0, s1, s2, s3, s4⟩ := cells5 HP.out
              go_wp2
              go_roundw
              case rel => exact ⟨q + 1, by go_num, by omega, HS.out, HX.out, HP.out⟩
              case measure => (simp [intOf]) <;> omega
            · have e1 : ((q : Int) == (vn : Int)) = false := by simp; omega
              have e2 : ((q : Int) != (vn : Int)) = true := by simp; omega
              obtain ⟨⟨g1, y1, y2, y3, y4⟩, hp⟩ := page_some (bs := bs) (fun b hb => (block_parts ((dev_parts HV.out.1).2 b hb)).2.1) (a := q) (by have := HL.out.1; omega)
              have HQ := Lib.hid (And.intro hqa hp)
              clear hp hqa
              have hi : (q : Int) < 4 * (n : Int) := by omega
              go_wp2_with fail
              refine (readPage_at _ _ _ _ _ _ _ SHX.out.1 HX.out.1 HF.out.1 ((HF.out.2.2.2.1 q HQ.out.1).trans HQ.out.2)).mono ?_
              rintro e w21 ⟨he, hk⟩
              dsimp only [pz] at he
              subst he
              replace HS := Lib.hid (HS.out.keep hk)
              replace HX := Lib.hid (HX.out.keep hk)
              replace HP := Lib.hid (HP.out.keep hk)
              clear hk
              have hn := Blk.new w21 27 #[.bool g1, .int .i64 y1, .int .i64 y2, .int .i64 y3, .int .i64 y4]
              replace HS := Lib.hid (HS.out.keep (grown_alloc (grown_refl _ none) (.cells #[.bool g1, .int .i64 y1, .int .i64 y2, .int .i64 y3, .int .i64 y4] 27)))
              replace HX := Lib.hid (HX.out.keep (grown_alloc (grown_refl _ none) (.cells #[.bool g1, .int .i64 y1, .int .i64 y2, .int .i64 y3, .int .i64 y4] 27)))
              replace HP := Lib.hid (HP.out.keep (grown_alloc (grown_refl _ none) (.cells #[.bool g1, .int .i64 y1, .int .i64 y2, .int .i64 y3, .int .i64 y4] 27)))
              have HA := Lib.hid hn
              clear hn
              go_wp2_with fail
              refine (readPage_at _ _ _ _ _ _ _ HL.out.1 HS.out.1 HV.out.1 HQ.out.2).mono ?_
              rintro e w22 ⟨he, hk⟩
              dsimp only [pz] at he
              subst he
              replace HS := Lib.hid (HS.out.keep hk)
              replace HX := Lib.hid (HX.out.keep hk)
              replace HP := Lib.hid (HP.out.keep hk)
              replace HA := Lib.hid (HA.out.keep hk)
              clear hk
              have hn := Blk.new w22 27 #[.bool g1, .int .i64 y1, .int .i64 y2, .int .i64 y3, .int .i64 y4]
              replace HS := Lib.hid (HS.out.keep (grown_alloc (grown_refl _ none) (.cells #[.bool g1, .int .i64 y1, .int .i64 y2, .int .i64 y3, .int .i64 y4] 27)))
              replace HX := Lib.hid (HX.out.keep (grown_alloc (grown_refl _ none) (.cells #[.bool g1, .int .i64 y1, .int .i64 y2, .int .i64 y3, .int .i64 y4] 27)))
              replace HP := Lib.hid (HP.out.keep (grown_alloc (grown_refl _ none) (.cells #[.bool g1, .int .i64 y1, .int .i64 y2, .int .i64 y3, .int .i64 y4] 27)))
              replace HA := Lib.hid (HA.out.keep (grown_alloc (grown_refl _ none) (.cells #[.bool g1, .int .i64 y1, .int .i64 y2, .int .i64 y3, .int .i64 y4] 27)))
              have HB := Lib.hid hn
              clear hn
              obtain ⟨p0, p1, p2, p3, p4⟩ := cells5 HA.out
              obtain ⟨r0, r1, r2, r3, r4⟩ := cells5 HB.out
              obtain ⟨s0, s1, s2, s3, s4⟩ := cells5 HP.out
              go_wp2
              go_roundw
              case rel => exact ⟨q + 1, by go_num, by omega, HS.out, HX.out, HP.out⟩
              case measure => (simp [intOf]) <;> omega
          · obtain rfl : q = 4 * n := by omega
            go_wp2_with fail
            refine (deviceValid_val SHX.out.1 HF.out.1 _ HX.out.1 (by omega) hsx.out).mono ?_
            rintro e w30 ⟨rfl, hk⟩
            replace HS := Lib.hid (HS.out.keep hk)
            replace HX := Lib.hid (HX.out.keep hk)
            clear hk
            obtain ⟨F1, hF1⟩ : ∃ F, freeV cs1 = F := ⟨_, rfl⟩
            obtain ⟨F0, hF0⟩ : ∃ F, freeV bs = F := ⟨_, rfl⟩
            have tF : ((F1 : Int) == (F0 : Int) - 1) = true := by have := HF.out.2.2.2.2; simp only [beq_iff_eq]; omega
            have hF0b : F0 ≤ 52 := by have := free_le bs; have := HL.out.1; omega
            have HFV := Lib.hid (And.intro hF1 hF0)
            have e4 := HE.out
            clear hF1 hF0
            go_wp2_with fail
            refine (free_val SHX.out.1 HX.out.1 HF.out.1 HFV.out.1).mono ?_
            rintro e w31 ⟨rfl, hk⟩
            replace HS := Lib.hid (HS.out.keep hk)
            clear hk
            go_wp2_with fail
            refine (free_val HL.out.1 HS.out.1 HV.out.1 HFV.out.2).mono ?_
            rintro e w32 ⟨rfl, hk⟩
            replace HS := Lib.hid (HS.out.keep hk)
            clear hk
            go_wp2
            go_ret
            exact ⟨rfl, HS.out.2⟩

/-! ### THE ROW's STEP: WRITTEN OUT: LEAVE IT -/
set_option maxRecDepth 100000 in
theorem lifted (os : Os) (started : os.Started) (H : Type) (enc : TypeId × Value → H) :
    ReturnsInHanded {} Try.checked os 4 .any (Rows.fnProgramSpec.pre6 enc Try.prog Try.f4 Rows.fnProgramRow.domain false) (Rows.fnProgramSpec.post enc Try.prog Try.f4 false true false false) := by
  refine returnsInHanded_of_change (C := Try.checked) own started (by kernel_rfl) Try.func4
    (ChangeSpec.witness6 (enc := enc) (C := Try.checked) false ⟨#[], #[.slice none 0 0], []⟩ 8 (by kernel_rfl) (by kernel_rfl) (by kernel_rfl) (by kernel_rfl)) ?_
  intro W base args ds gs before hval0 hW hcnd _
  have hval : ∀ (j : Nat) t v, Try.f4.params[j]? = some t → args[j]? = some v → Value.okWide Try.prog W .any base t v := hval0
  have hW' := hW
  obtain ⟨p, q, hA0, hV, rfl, hfz, hnd⟩ := hW
  have hA : DataW.TrodAll enc Try.prog W 0 (fun _ => true) true Try.f4.params.toList args.toList ds p := hA0
  rw [Try.params4] at hA hval
  obtain ⟨v0, vs0, d0, ds0, p0, q0, hargs, rfl, rfl, h0, r0⟩ := trodAll_cons hA
  obtain ⟨rfl, rfl, rfl⟩ := trodAll_nil r0
  obtain rfl : args = #[v0] := by cases args; simp_all
  obtain ⟨rfl, rfl⟩ := trodVars_none hV
  obtain ⟨a0, len0, cap0, rfl⟩ := okWide_slice Try.underlying22 (hval 0 22 v0 rfl rfl)
  have k0 := h0
  have lt0 : ∀ x ∈ p0, x.block < W.heap.size := by obtain ⟨m, hm⟩ := k0; exact DataW.trod_lt m _ _ _ hm
  obtain ⟨z0, w0⟩ : ∃ zs, IsRow .u8 W a0 len0 cap0 zs := by
    obtain ⟨fuel, hf⟩ := h0
    rcases open_ints Try.underlying22 Try.underlying5 (by kernel_rfl) hf with ⟨hcs, _⟩ | ⟨x, l, c, zs, hcs, _, hl, hm, hz, _, hcell, hwz⟩
    · simp [Value.cells] at hcs
      obtain ⟨rfl, rfl, rfl⟩ := hcs
      exact ⟨[], .inl ⟨rfl, rfl, rfl, rfl⟩⟩
    · simp [Value.cells] at hcs
      obtain ⟨rfl, rfl, rfl⟩ := hcs
      exact ⟨zs, .inr ⟨_, rfl, hl, hm, by simpa using hz, hcell, hwz⟩⟩
  clear hA0 hval0
  refine (walk a0 len0 cap0 z0 W w0).mono fun e W' ⟨he, bel⟩ => ?_
  subst he
  exact ⟨_, rfl, _, _, _, [], _, [], hW', trodAll_mk1 (shut_bool Try.underlying4 _), (trodAll_cons_mk (Below.trod laidOut (by kernel_rfl) (of_decide_eq_true (by kernel_rfl)) k0 bel lt0) trodAll_mk0), rfl, bel.frame _, fun h => by cases h⟩

theorem over : Rows.fnProgramRow.holds Try.pinned (OpenSpec.ofChange Rows.fnProgramSpec) :=
  OpenClaim.holds_of_wide 4 Try.f4 rfl rfl rfl rfl rfl rfl rfl ⟨rfl, rfl, rfl, rfl, rfl⟩ rfl rfl rfl rfl rfl (by kernel_rfl) Try.func4 (by kernel_rfl)
    (of_decide_eq_true (by kernel_rfl)) (by unfold Func.isWrapper; first | (rw [if_pos (by decide +kernel)]; kernel_rfl) | (rw [if_neg (by decide +kernel)]; exact ⟨rfl, rfl⟩))
    (fun os started H enc _ => lifted os started H enc)

/-- ████ THE STATEMENT ████ -/
theorem proved : Rows.FnProgramSaid := over
#print axioms proved
end Go.Proofs.Ytpjajmiegopmlaa.fnProgram
