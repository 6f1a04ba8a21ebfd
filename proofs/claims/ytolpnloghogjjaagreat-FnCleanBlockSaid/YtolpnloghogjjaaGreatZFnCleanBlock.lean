/- For every code, CleanBlock answers of the drawn device, table, heads, block and stamp as its model; where it is done, all files that could be read have the same values then, the block is empty and was erased once more, and as many pages were moved as it had used ones: proved.
   Conditions: none beyond the row's own reading of the input. The frame was written by the guide's proof-skeleton; the walk is ours. -/
import Derived.Test.YtolpnloghogjjaaGreatZCleanFacts
import Derived.Test.YtolpnloghogjjaaGreatZHand
import Derived.Test.YtolpnloghogjjaaGreatRows
import Derived.WalkKit
import Derived.ProofKit
import Derived.OpenShut
import Derived.ShutString
import Derived.ChangeOld
import Derived.Below
namespace Go.Proofs.YtolpnloghogjjaaGreat.fnCleanBlock
open Go.ChangeShapes Go.WideShapes Go.ChangeAt Go.RowKit
open Go.ChangeMaps (open_string shut_string)
set_option linter.unusedVariables false
set_option linter.unusedSimpArgs false

theorem own : ownKnob Tryz.prog.godebug = none := by kernel_rfl
theorem laidOut : laidOutB Tryz.prog = true := by kernel_rfl

/-- WHAT THE WALK IS TOLD OF A SLICE OF INTEGERS THAT CAME IN: it is nil; or it leads to a row of 'cap' cells, the numbers 'zs' (the first 'len' are its elements, the rest its spare room), each fitting its kind. -/
def IsRow (k : IntKind) (w : World) (a : Option Addr) (len cap : Nat) (zs : List Int) : Prop :=
  (a = none ∧ len = 0 ∧ cap = 0 ∧ zs = []) ∨
  ∃ x, a = some x ∧ len ≤ cap ∧ cap ≤ maxLen ∧ zs.length = cap ∧ (∀ i, i < zs.length → w.cell? (x.add i) = some (.int k (zs.getD i 0))) ∧ ∀ n ∈ zs, (Lit.int k n).wf = true

/-! ### STEP 1: THE WALK: the Go text returns true, AND WRITES NOTHING THAT WAS THERE: 'Below w.heap.size w w'' (Derived/Below.lean: '.refl', '.alloc', '.drew', '.setCell' at a new block, '.trans'). Open each 'IsRow' by 'rcases' AHEAD of 'go_enter'; part every test ahead of the walk. -/
set_option maxHeartbeats 4000000 in
set_option maxRecDepth 100000 in
theorem walk (a0 : Option Addr) (len0 cap0 : Nat) (z0 : List Int) (w : World) (w0 : IsRow .u8 w a0 len0 cap0 z0) :
    Calls Tryz.prog 3 #[.slice a0 len0 cap0] w fun e w' => e = .returned (.bool true) ∧ Below w.heap.size w w' := by
  obtain ⟨hl, hc, hb⟩ := bytes_of w0
  by_cases hbig : 1048576 < len0
  · go_enter Tryz.func3, Tryz.ntmps3
    go_wp2
    go_ret
    exact ⟨rfl, Below.refl _ _⟩
  · go_enter Tryz.func3, Tryz.ntmps3
    go_wp2_with fail
    refine (drawClean_any w a0 len0 cap0 hl hc hb).mono ?_
    rintro e wa ⟨D, nd, cd, bs, A, n, c, ls, a, b, h, x, s, rfl, hP⟩
    have hbl := hP.1
    have hls := hP.2.1
    have H0 := Lib.hid (XS.start hP.rows.1 hP.rows.2 n c a b h)
    have HB := Lib.hid (And.intro (And.intro hbl.1 (fun (q : Bk) (hq : q ∈ bs) => show q.ps.length ≤ 1048576 by have := hbl.2.2 q hq; omega)) (And.intro hls.1 (fun (l : Li) (hq : l ∈ ls) => show l.xs.length ≤ 1048576 by have := hls.2.2 l hq; omega)))
    have hnd : nd ≤ 1048576 := by have := hbl.2.1; omega
    have hnd13 : nd ≤ 13 := hbl.2.1
    have hn : n ≤ 1048576 := by have := hls.2.1; omega
    clear hP hbl hls hb w0
    obtain ⟨n1, l1, m1, T1, y1, y2, y3, mv, r, hri, hn1, htl, hm1, h6, hl1, hT1⟩ := clean_is HB.out.1.1 (ll ls) a b h x s
    have HI := Lib.hid hri
    have HT := Lib.hid (And.intro htl (ltot_few hT1 hm1 h6))
    have hn1' : n1 ≤ 1048576 := by omega
    have hm1' : m1 ≤ 1048576 := by omega
    have tmv : (mv != mv) = false := by simp
    have trr : (r != r) = false := by simp
    clear hri htl h6 hl1 hT1
    obtain ⟨bH0, xH00, xH01, xH02⟩ := H0.out.cells
    go_wp2_with fail
    clear bH0 xH00 xH01 xH02
    refine (clean_val HI.out HB.out.1.1 H0.out.1 hnd HB.out.1.2 HB.out.2.1 H0.out.2.1 hn HB.out.2.2).mono ?_
    rintro e w1 ⟨D1, c1, cs1, B1, d1, ts1, rfl, hx, hd, ht, hk⟩
    replace H0 := Lib.hid (H0.out.keep hk)
    have HX := Lib.hid (XS.made H0.out.2.2.2.2 hd ht y1 y2 y3)
    have SHX := Lib.hid hx
    have hk2 := grown_alloc (grown_alloc (grown_refl w1 none) (.cells #[.slice B1 m1 d1] 26)) (.cells #[.int .i64 y1, .int .i64 y2, .int .i64 y3] 28)
    replace H0 := Lib.hid (H0.out.keep hk2)
    clear hx hd ht hk hk2
    obtain ⟨bH0, xH00, xH01, xH02⟩ := H0.out.cells
    obtain ⟨bHX, xHX0, xHX1, xHX2⟩ := HX.out.cells
    go_wp2_with fail
    clear bH0 xH00 xH01 xH02 bHX xHX0 xHX1 xHX2
    refine (specClean_val HI.out HB.out.1.1 H0.out.1 hnd HB.out.1.2 HB.out.2.1 H0.out.2.1 hn HB.out.2.2).mono ?_
    rintro e w2 ⟨D2, c2, cs2, B2, d2, ts2, rfl, hx, hd, ht, hk⟩
    replace H0 := Lib.hid (H0.out.keep hk)
    replace HX := Lib.hid (HX.out.keep hk)
    have HZ := Lib.hid (XS.made H0.out.2.2.2.2 hd ht y1 y2 y3)
    have SHZ := Lib.hid hx
    have hk2 := grown_alloc (grown_alloc (grown_refl w2 none) (.cells #[.slice B2 m1 d2] 26)) (.cells #[.int .i64 y1, .int .i64 y2, .int .i64 y3] 28)
    replace H0 := Lib.hid (H0.out.keep hk2)
    replace HX := Lib.hid (HX.out.keep hk2)
    clear hx hd ht hk hk2
    obtain ⟨bH0, xH00, xH01, xH02⟩ := H0.out.cells
    obtain ⟨bHX, xHX0, xHX1, xHX2⟩ := HX.out.cells
    obtain ⟨bHZ, xHZ0, xHZ1, xHZ2⟩ := HZ.out.cells
    have THX := Lib.hid (And.intro (show tot cs1 ≤ 1048576 by rw [tot_is SHX.out.2.1]; exact HT.out.1) (show ∀ l, l ∈ ts1 → l.xs.length ≤ 1048576 from small_ll (by rw [SHX.out.2.2.2]; exact HT.out.2)))
    have THZ := Lib.hid (And.intro (show tot cs2 ≤ 1048576 by rw [tot_is SHZ.out.2.1]; exact HT.out.1) (show ∀ l, l ∈ ts2 → l.xs.length ≤ 1048576 from small_ll (by rw [SHZ.out.2.2.2]; exact HT.out.2)))
    go_wp2_with fail
    clear bH0 xH00 xH01 xH02 bHX xHX0 xHX1 xHX2 bHZ xHZ0 xHZ1 xHZ2
    refine (sameDevice_same _ _ _ _ _ _ _ _ SHX.out.1 (SHX.out.2.1.trans SHZ.out.2.1.symm) HX.out.1 HZ.out.1 hn1' (small_tot THX.out.1)).mono ?_
    rintro e w3 ⟨rfl, hk⟩
    replace H0 := Lib.hid (H0.out.keep hk)
    replace HX := Lib.hid (HX.out.keep hk)
    replace HZ := Lib.hid (HZ.out.keep hk)
    clear hk
    obtain ⟨bH0, xH00, xH01, xH02⟩ := H0.out.cells
    obtain ⟨bHX, xHX0, xHX1, xHX2⟩ := HX.out.cells
    obtain ⟨bHZ, xHZ0, xHZ1, xHZ2⟩ := HZ.out.cells
    go_wp2_with fail
    clear bH0 xH00 xH01 xH02 bHX xHX0 xHX1 xHX2 bHZ xHZ0 xHZ1 xHZ2
    refine (sameTable_val (V := true) (decide_eq_true (SHX.out.2.2.2.trans SHZ.out.2.2.2.symm)) SHX.out.2.2.1 SHZ.out.2.2.1 HX.out.2.1 HZ.out.2.1 hm1' hm1' THX.out.2 THZ.out.2).mono ?_
    rintro e w4 ⟨rfl, hk⟩
    replace H0 := Lib.hid (H0.out.keep hk)
    replace HX := Lib.hid (HX.out.keep hk)
    replace HZ := Lib.hid (HZ.out.keep hk)
    clear hk
    obtain ⟨bH0, xH00, xH01, xH02⟩ := H0.out.cells
    obtain ⟨bHX, xHX0, xHX1, xHX2⟩ := HX.out.cells
    obtain ⟨bHZ, xHZ0, xHZ1, xHZ2⟩ := HZ.out.cells
    have hways := clean_ways HB.out.1.1 HI.out
    rcases hways with ⟨rfl, rfl, rfl, rfl, rfl, rfl, rfl, rfl, rfl⟩ | ⟨rfl, rfl, ⟨rfl, h8⟩, rfl, rfl, rfl, rfl, rfl, rfl⟩ | ⟨nn, m, ps, rfl, hnn, hq, rfl, rfl, hlx, rfl, hrb, hm0, hfacts⟩
    · by_cases h0 : nd = 0
      · have hbs : bs = [] := List.eq_nil_of_length_eq_zero (by rw [HB.out.1.1]; exact h0)
        have hcs : cs1 = [] := List.eq_nil_of_length_eq_zero SHX.out.1
        obtain ⟨V, hV⟩ : ∃ V, decide (ll ts1 = ll ls) = V := ⟨_, rfl⟩
        have HV := Lib.hid hV
        have hn0 : bs.length = 0 := by rw [hbs]; rfl
        have HN := Lib.hid (show cs1.map Bk.is = bs.map Bk.is by rw [hbs, hcs])
        clear hbs hcs hV hn0
        subst h0
        go_wp2_with fail
        clear bH0 xH00 xH01 xH02 bHX xHX0 xHX1 xHX2 bHZ xHZ0 xHZ1 xHZ2
        refine (sameDevice_same _ _ _ _ _ _ _ _ SHX.out.1 HN.out HX.out.1 H0.out.1 hn1' (small_tot THX.out.1)).mono ?_
        rintro e w5 ⟨rfl, hk⟩
        replace H0 := Lib.hid (H0.out.keep hk)
        replace HX := Lib.hid (HX.out.keep hk)
        replace HZ := Lib.hid (HZ.out.keep hk)
        clear hk
        obtain ⟨bH0, xH00, xH01, xH02⟩ := H0.out.cells
        obtain ⟨bHX, xHX0, xHX1, xHX2⟩ := HX.out.cells
        obtain ⟨bHZ, xHZ0, xHZ1, xHZ2⟩ := HZ.out.cells
        go_wp2_with fail
        clear bH0 xH00 xH01 xH02 bHX xHX0 xHX1 xHX2 bHZ xHZ0 xHZ1 xHZ2
        refine (sameTable_val HV.out SHX.out.2.2.1 HB.out.2.1 HX.out.2.1 H0.out.2.1 hm1' hn THX.out.2 HB.out.2.2).mono ?_
        rintro e w6 ⟨rfl, hk⟩
        replace H0 := Lib.hid (H0.out.keep hk)
        replace HX := Lib.hid (HX.out.keep hk)
        replace HZ := Lib.hid (HZ.out.keep hk)
        clear hk
        obtain ⟨bH0, xH00, xH01, xH02⟩ := H0.out.cells
        obtain ⟨bHX, xHX0, xHX1, xHX2⟩ := HX.out.cells
        obtain ⟨bHZ, xHZ0, xHZ1, xHZ2⟩ := HZ.out.cells
        cases V
        · go_wp2_with fail
          clear bH0 xH00 xH01 xH02 bHX xHX0 xHX1 xHX2 bHZ xHZ0 xHZ1 xHZ2
          refine (sameTable_val (V := true) (decide_eq_true (show ll ts1 = ll [] from SHX.out.2.2.2)) SHX.out.2.2.1 (show ([] : List Li).length = 0 from rfl) HX.out.2.1 TRow.nil hm1' hm1' THX.out.2 (fun l hl => by simp at hl)).mono ?_
          rintro e w7 ⟨rfl, hk⟩
          replace H0 := Lib.hid (H0.out.keep hk)
          replace HX := Lib.hid (HX.out.keep hk)
          replace HZ := Lib.hid (HZ.out.keep hk)
          clear hk
          obtain ⟨bH0, xH00, xH01, xH02⟩ := H0.out.cells
          obtain ⟨bHX, xHX0, xHX1, xHX2⟩ := HX.out.cells
          obtain ⟨bHZ, xHZ0, xHZ1, xHZ2⟩ := HZ.out.cells
          go_wp2_with (go_at_call 10; refine (alive_any _).mono ?_; rintro e w' ⟨rfl, rfl⟩)
          go_ret
          exact ⟨rfl, H0.out.2.2.2.2⟩
        · go_wp2_with fail
          · refine (alive_any _).mono ?_
            rintro e w' ⟨rfl, rfl⟩
            go_wp2
            go_ret
            exact ⟨rfl, H0.out.2.2.2.2⟩
          · clear bH0 xH00 xH01 xH02 bHX xHX0 xHX1 xHX2 bHZ xHZ0 xHZ1 xHZ2
            refine (sameTable_val (V := true) (decide_eq_true (show ll ts1 = ll [] from SHX.out.2.2.2)) SHX.out.2.2.1 (show ([] : List Li).length = 0 from rfl) HX.out.2.1 TRow.nil hm1' hm1' THX.out.2 (fun l hl => by simp at hl)).mono ?_
            rintro e w7 ⟨rfl, hk⟩
            replace H0 := Lib.hid (H0.out.keep hk)
            replace HX := Lib.hid (HX.out.keep hk)
            replace HZ := Lib.hid (HZ.out.keep hk)
            clear hk
            obtain ⟨bH0, xH00, xH01, xH02⟩ := H0.out.cells
            obtain ⟨bHX, xHX0, xHX1, xHX2⟩ := HX.out.cells
            obtain ⟨bHZ, xHZ0, xHZ1, xHZ2⟩ := HZ.out.cells
            go_wp2_with (go_at_call 10; refine (alive_any _).mono ?_; rintro e w' ⟨rfl, rfl⟩)
            go_ret
            exact ⟨rfl, H0.out.2.2.2.2⟩
          · clear bH0 xH00 xH01 xH02 bHX xHX0 xHX1 xHX2 bHZ xHZ0 xHZ1 xHZ2
            refine (sameTable_val (V := true) (decide_eq_true (show ll ts1 = ll [] from SHX.out.2.2.2)) SHX.out.2.2.1 (show ([] : List Li).length = 0 from rfl) HX.out.2.1 TRow.nil hm1' hm1' THX.out.2 (fun l hl => by simp at hl)).mono ?_
            rintro e w7 ⟨rfl, hk⟩
            replace H0 := Lib.hid (H0.out.keep hk)
            replace HX := Lib.hid (HX.out.keep hk)
            replace HZ := Lib.hid (HZ.out.keep hk)
            clear hk
            obtain ⟨bH0, xH00, xH01, xH02⟩ := H0.out.cells
            obtain ⟨bHX, xHX0, xHX1, xHX2⟩ := HX.out.cells
            obtain ⟨bHZ, xHZ0, xHZ1, xHZ2⟩ := HZ.out.cells
            go_wp2_with (go_at_call 10; refine (alive_any _).mono ?_; rintro e w' ⟨rfl, rfl⟩)
            go_ret
            exact ⟨rfl, H0.out.2.2.2.2⟩
          · clear bH0 xH00 xH01 xH02 bHX xHX0 xHX1 xHX2 bHZ xHZ0 xHZ1 xHZ2
            refine (sameTable_val (V := true) (decide_eq_true (show ll ts1 = ll [] from SHX.out.2.2.2)) SHX.out.2.2.1 (show ([] : List Li).length = 0 from rfl) HX.out.2.1 TRow.nil hm1' hm1' THX.out.2 (fun l hl => by simp at hl)).mono ?_
            rintro e w7 ⟨rfl, hk⟩
            replace H0 := Lib.hid (H0.out.keep hk)
            replace HX := Lib.hid (HX.out.keep hk)
            replace HZ := Lib.hid (HZ.out.keep hk)
            clear hk
            obtain ⟨bH0, xH00, xH01, xH02⟩ := H0.out.cells
            obtain ⟨bHX, xHX0, xHX1, xHX2⟩ := HX.out.cells
            obtain ⟨bHZ, xHZ0, xHZ1, xHZ2⟩ := HZ.out.cells
            go_wp2_with (go_at_call 10; refine (alive_any _).mono ?_; rintro e w' ⟨rfl, rfl⟩)
            go_ret
            exact ⟨rfl, H0.out.2.2.2.2⟩
      · go_wp2_with fail
        clear bH0 xH00 xH01 xH02 bHX xHX0 xHX1 xHX2 bHZ xHZ0 xHZ1 xHZ2
        refine (sameDevice_len _ _ _ _ _ _ _ (fun e => h0 e.symm)).mono ?_
        rintro e w5 ⟨rfl, hk⟩
        replace H0 := Lib.hid (H0.out.keep hk)
        replace HX := Lib.hid (HX.out.keep hk)
        replace HZ := Lib.hid (HZ.out.keep hk)
        clear hk
        obtain ⟨bH0, xH00, xH01, xH02⟩ := H0.out.cells
        obtain ⟨bHX, xHX0, xHX1, xHX2⟩ := HX.out.cells
        obtain ⟨bHZ, xHZ0, xHZ1, xHZ2⟩ := HZ.out.cells
        go_wp2_with fail
        clear bH0 xH00 xH01 xH02 bHX xHX0 xHX1 xHX2 bHZ xHZ0 xHZ1 xHZ2
        refine (sameTable_val (V := true) (decide_eq_true (show ll ts1 = ll [] from SHX.out.2.2.2)) SHX.out.2.2.1 (show ([] : List Li).length = 0 from rfl) HX.out.2.1 TRow.nil hm1' hm1' THX.out.2 (fun l hl => by simp at hl)).mono ?_
        rintro e w6 ⟨rfl, hk⟩
        replace H0 := Lib.hid (H0.out.keep hk)
        replace HX := Lib.hid (HX.out.keep hk)
        replace HZ := Lib.hid (HZ.out.keep hk)
        clear hk
        obtain ⟨bH0, xH00, xH01, xH02⟩ := H0.out.cells
        obtain ⟨bHX, xHX0, xHX1, xHX2⟩ := HX.out.cells
        obtain ⟨bHZ, xHZ0, xHZ1, xHZ2⟩ := HZ.out.cells
        go_wp2_with (go_at_call 10; refine (alive_any _).mono ?_; rintro e w' ⟨rfl, rfl⟩)
        go_ret
        exact ⟨rfl, H0.out.2.2.2.2⟩
    · have h8n : n = 8 := by rw [← HB.out.2.1, ← ll_length]; exact h8
      subst h8n
      clear h8
      go_wp2_with fail
      clear bH0 xH00 xH01 xH02 bHX xHX0 xHX1 xHX2 bHZ xHZ0 xHZ1 xHZ2
      refine (sameDevice_same _ _ _ _ _ _ _ _ SHX.out.1 SHX.out.2.1 HX.out.1 H0.out.1 hn1' (small_tot THX.out.1)).mono ?_
      rintro e w5 ⟨rfl, hk⟩
      replace H0 := Lib.hid (H0.out.keep hk)
      replace HX := Lib.hid (HX.out.keep hk)
      replace HZ := Lib.hid (HZ.out.keep hk)
      clear hk
      obtain ⟨bH0, xH00, xH01, xH02⟩ := H0.out.cells
      obtain ⟨bHX, xHX0, xHX1, xHX2⟩ := HX.out.cells
      obtain ⟨bHZ, xHZ0, xHZ1, xHZ2⟩ := HZ.out.cells
      go_wp2_with fail
      clear bH0 xH00 xH01 xH02 bHX xHX0 xHX1 xHX2 bHZ xHZ0 xHZ1 xHZ2
      refine (sameTable_val (V := true) (decide_eq_true SHX.out.2.2.2) SHX.out.2.2.1 HB.out.2.1 HX.out.2.1 H0.out.2.1 hm1' hn THX.out.2 HB.out.2.2).mono ?_
      rintro e w6 ⟨rfl, hk⟩
      replace H0 := Lib.hid (H0.out.keep hk)
      replace HX := Lib.hid (HX.out.keep hk)
      replace HZ := Lib.hid (HZ.out.keep hk)
      clear hk
      obtain ⟨bH0, xH00, xH01, xH02⟩ := H0.out.cells
      obtain ⟨bHX, xHX0, xHX1, xHX2⟩ := HX.out.cells
      obtain ⟨bHZ, xHZ0, xHZ1, xHZ2⟩ := HZ.out.cells
      go_wp2_with (go_at_call 10; refine (alive_any _).mono ?_; rintro e w' ⟨rfl, rfl⟩)
      go_ret
      exact ⟨rfl, H0.out.2.2.2.2⟩
    · have HW := Lib.hid (hfacts cs1 SHX.out.2.1)
      have HR := Lib.hid (And.intro hrb (And.intro hq (And.intro hlx hfacts)))
      clear hrb hq hlx hfacts tmv trr
      have t0 : decide ((nn : Int) < 0) = false := decide_eq_false (by omega)
      have t1 : decide ((n1 : Int) ≤ (nn : Int)) = false := decide_eq_false (by omega)
      have t1' : decide (n1 ≤ nn) = false := decide_eq_false (by omega)
      go_wp2_with fail
      go_loopw [18] (fun i wr => ∃ k : Nat, i = .int .i64 k ∧ k ≤ 8 ∧ XS w wa.heap.size (wa.heap.size + 1) D bs A n c ls a b h wr ∧ XS w w1.heap.size (w1.heap.size + 1) D1 cs1 B1 8 d1 ts1 y1 y2 y3 wr) (fun i _ => 8 - (intOf i).toNat)
      case atStart => exact ⟨0, rfl, Nat.zero_le _, H0.out, HX.out⟩
      case round =>
        rename World => wq
        obtain ⟨k, rfl, hk8, hS, hX⟩ := hrel
        clear HZ bH0 xH00 xH01 xH02 bHX xHX0 xHX1 xHX2 bHZ xHZ0 xHZ1 xHZ2
        replace H0 := Lib.hid hS
        replace HX := Lib.hid hX
        clear hS hX
        obtain ⟨bH0, xH00, xH01, xH02⟩ := H0.out.cells
        obtain ⟨bHX, xHX0, xHX1, xHX2⟩ := HX.out.cells
        by_cases hlt : k < 8
        · have k1 : (k : Int) < 8 := by omega
          obtain ⟨XV, hf⟩ : ∃ XV, fvalV bs (ll ls) (k : Int) = (XV, true) := ⟨(fvalV bs (ll ls) (k : Int)).1, Prod.ext rfl (readB_at HR.out.1 hlt)⟩
          have hX6 : XV.length ≤ 6 := by rcases fval_cases hf with ⟨h1, _⟩ | ⟨_, h1, _⟩; cases h1; exact h1
          have HV := Lib.hid (And.intro hf (show fvalV cs1 (ll ts1) (k : Int) = (XV, true) by rw [SHX.out.2.2.2]; exact (HW.out.2.2.1 k hlt).trans hf))
          clear hf
          go_wp2_with fail
          clear bH0 xH00 xH01 xH02 bHX xHX0 xHX1 xHX2
          refine (vals_v HV.out.1 HB.out.1.1 H0.out.1 hnd HB.out.1.2 HB.out.2.1 H0.out.2.1 hn HB.out.2.2).mono ?_
          rintro e w11 ⟨AP, nP, cP, rfl, hlP, ho, hk⟩
          have HP := Lib.hid (And.intro hlP (VOwn.row ho))
          replace H0 := Lib.hid (H0.out.keep hk)
          replace HX := Lib.hid (HX.out.keep hk)
          clear hk ho hlP
          obtain ⟨bH0, xH00, xH01, xH02⟩ := H0.out.cells
          obtain ⟨bHX, xHX0, xHX1, xHX2⟩ := HX.out.cells
          go_wp2_with fail
          clear bH0 xH00 xH01 xH02 bHX xHX0 xHX1 xHX2
          refine (vals_v HV.out.2 SHX.out.1 HX.out.1 hn1' (small_tot THX.out.1) SHX.out.2.2.1 HX.out.2.1 hm1' THX.out.2).mono ?_
          rintro e w12 ⟨AQ, nQ, cQ, rfl, hlQ, ho, hk⟩
          have HQ := Lib.hid (And.intro hlQ (VOwn.row ho))
          replace HP := Lib.hid (And.intro HP.out.1 (IRow.keepN HP.out.2 hk))
          replace H0 := Lib.hid (H0.out.keep hk)
          replace HX := Lib.hid (HX.out.keep hk)
          clear hk ho hlQ
          obtain ⟨bH0, xH00, xH01, xH02⟩ := H0.out.cells
          obtain ⟨bHX, xHX0, xHX1, xHX2⟩ := HX.out.cells
          have nP6 : nP ≤ 1048576 := by have := HP.out.1; omega
          have nQ6 : nQ ≤ 1048576 := by have := HQ.out.1; omega
          go_wp2_with fail
          clear bH0 xH00 xH01 xH02 bHX xHX0 xHX1 xHX2
          refine (sameInts_val (V := true) (decide_eq_true rfl) HP.out.1 HQ.out.1 HP.out.2 HQ.out.2 nP6 nQ6).mono ?_
          rintro e w13 ⟨rfl, hk⟩
          replace H0 := Lib.hid (H0.out.keep hk)
          replace HX := Lib.hid (HX.out.keep hk)
          clear hk
          go_wp2
          go_roundw
          case rel => exact ⟨k + 1, by go_num, by omega, H0.out, HX.out⟩
          case measure => simp [intOf]; omega
        · obtain rfl : k = 8 := by omega
          obtain ⟨XC, hXC⟩ : ∃ X, countsV bs (ll ls) = X := ⟨_, rfl⟩
          have hmv := HW.out.2.2.2.1
          have hlC := HW.out.2.2.2.2
          rw [hXC] at hmv hlC
          have HC := Lib.hid (And.intro hXC (And.intro hlC hmv))
          clear hXC hlC hmv
          go_wp2_with fail
          clear bH0 xH00 xH01 xH02 bHX xHX0 xHX1 xHX2
          refine (counts_val HC.out.1 HC.out.2.1 HB.out.1.1 H0.out.1 hnd HB.out.1.2 HB.out.2.1 H0.out.2.1 hn HB.out.2.2).mono ?_
          rintro e w11 ⟨AC, cC, rfl, _, ho, hk⟩
          replace H0 := Lib.hid (H0.out.keep hk)
          replace HX := Lib.hid (HX.out.keep hk)
          have hrc := VOwn.row ho
          clear hk ho
          obtain ⟨gc, oc, rfl⟩ := IRow.pos hrc (by have := HC.out.2.1; omega)
          have s6 := IRow.cellf hrc HC.out.2.2
          obtain ⟨gd, od, md, Ad, ed, pd, rfl, _, _, hbd, s5, _, _⟩ := H0.out.1.at_ (i := nn) (by have := HB.out.1.1; omega)
          obtain ⟨gx, ox, mx, Ax, ex, px, rfl, _, _, hbx, s3, s4, hrx⟩ := HX.out.1.at_ (i := nn) (by have := SHX.out.1; omega)
          have e1 : (bs.map Bk.is)[nn]? = some (md, pd) := by rw [List.getElem?_map, hbd]; rfl
          rw [HR.out.2.1] at e1
          injection e1 with e1
          injection e1 with e2 e3
          subst e2; subst e3
          have e1 : (cs1.map Bk.is)[nn]? = some (mx, px) := by rw [List.getElem?_map, hbx]; rfl
          rw [SHX.out.2.1, HR.out.2.2.1] at e1
          injection e1 with e1
          injection e1 with e2 e3
          subst e2; subst e3
          have hrx' : Row w11 w11.heap.size Ax [pz, pz, pz, pz] := hrx
          have s4' : w11.cell? ⟨gx, ox + nn * 2 + 1, none⟩ = some (.slice Ax 4 ex) := s4
          obtain ⟨_, s0, s1, s2⟩ := HX.out.cells
          have HRX := Lib.hid hrx'
          clear hrc hbd hbx hrx s4 hrx'
          have nn0 : decide ((0 : Int) ≤ nn) = true := decide_eq_true (by omega)
          have nn1 : (nn : Int) < n1 := by omega
          have hwr : IntKind.i64.wrap (m + 1) = m + 1 := IntWalk.i64_in _ ⟨by omega, by omega⟩
          have emm : ((m + 1 : Int) == m + 1) = true := by simp
          have evv : (mv == mv) = true := by simp
          have nn2 : decide ((nn : Int) < n1) = true := decide_eq_true nn1
          go_wp2_with fail
          refine wp_region_held_drew (S := (fun w' => w'.cell? ⟨w1.heap.size + 1, 0, none⟩ = some (.int .i64 y1) ∧ w'.cell? ⟨w1.heap.size + 1, 1, none⟩ = some (.int .i64 y2) ∧ w'.cell? ⟨w1.heap.size + 1, 2, none⟩ = some (.int .i64 y3) ∧ w'.cell? ⟨gx, ox + nn * 2, none⟩ = some (.int .i64 (m + 1)) ∧ w'.cell? ⟨gx, ox + nn * 2 + 1, none⟩ = some (.slice Ax 4 ex) ∧ w'.cell? ⟨gd, od + nn * 2, none⟩ = some (.int .i64 m) ∧ w'.cell? ⟨gc, oc + nn, none⟩ = some (.int .i64 mv))) (by kernel_rfl) ?_ (fun hHeld => ?_)
          · exact ⟨s0, s1, s2, s3, s4', s5, s6⟩
          have hk := grown_drew (grown_refl w11 none)
          replace H0 := Lib.hid (H0.out.keep hk)
          replace HX := Lib.hid (HX.out.keep hk)
          replace HRX := Lib.hid (HRX.out.kept hk).here
          replace s0 := cell_keep s0 hk
          replace s1 := cell_keep s1 hk
          replace s2 := cell_keep s2 hk
          replace s3 := cell_keep s3 hk
          replace s4' := cell_keep s4' hk
          replace s5 := cell_keep s5 hk
          replace s6 := cell_keep s6 hk
          clear hk
          refine heldY 0 168 ?_
          refine heldY 1 169 ?_
          refine wpAnyH_ready (rs := [2]) (by kernel_rfl) (by simp) ?_
          refine AllReadyH.cons rfl (fun K hK => ?_) AllReadyH.nil
          go_simp
          go_at_call 14; refine (headsValid_val HW.out.1 SHX.out.1 HX.out.1 hn1' (small_tot THX.out.1)).mono ?_; rintro e w12 ⟨rfl, hk⟩; replace H0 := Lib.hid (H0.out.keep hk); replace HX := Lib.hid (HX.out.keep hk); replace HRX := Lib.hid (HRX.out.kept hk).here; replace s0 := cell_keep s0 hk; replace s1 := cell_keep s1 hk; replace s2 := cell_keep s2 hk; replace s3 := cell_keep s3 hk; replace s4' := cell_keep s4' hk; replace s5 := cell_keep s5 hk; replace s6 := cell_keep s6 hk; clear hk
          refine hK.out _ _ ?_ (fun hHeld => ?_)
          · exact ⟨s0, s1, s2, s3, s4', s5, s6⟩
          clear hK K
          try simp only [Act.put, List.setIfInBounds_toArray, List.set_cons_zero, List.set_cons_succ]
          refine heldY 3 171 ?_
          refine heldY 4 172 ?_
          refine heldY 5 173 ?_
          refine heldY 6 174 ?_
          refine heldY 7 175 ?_
          refine wpAnyH_ready (rs := [8]) (by kernel_rfl) (by simp) ?_
          refine AllReadyH.cons rfl (fun K hK => ?_) AllReadyH.nil
          go_simp
          go_at_call 15; refine (next_val rfl HW.out.2.1 _ HRX.out (by simp)).mono ?_; rintro e w13 ⟨rfl, hk⟩; replace H0 := Lib.hid (H0.out.keep hk); replace HX := Lib.hid (HX.out.keep hk); replace HRX := Lib.hid (HRX.out.kept hk).here; replace s0 := cell_keep s0 hk; replace s1 := cell_keep s1 hk; replace s2 := cell_keep s2 hk; replace s3 := cell_keep s3 hk; replace s4' := cell_keep s4' hk; replace s5 := cell_keep s5 hk; replace s6 := cell_keep s6 hk; clear hk
          refine hK.out _ _ ?_ (fun hHeld => ?_)
          · exact ⟨s0, s1, s2, s3, s4', s5, s6⟩
          clear hK K
          try simp only [Act.put, List.setIfInBounds_toArray, List.set_cons_zero, List.set_cons_succ]
          refine heldY 9 177 ?_
          refine heldY 10 178 ?_
          refine heldY 11 179 ?_
          refine heldY 12 180 ?_
          refine heldY 13 181 ?_
          refine heldY 14 182 ?_
          refine heldY 15 183 ?_
          refine heldY 16 184 ?_
          refine heldY 17 185 ?_
          refine heldY 18 186 ?_
          refine heldY 19 187 ?_
          refine heldY 20 188 ?_
          refine heldY 21 189 ?_
          refine heldY 22 190 ?_
          refine heldY 23 191 ?_
          refine heldY 24 192 ?_
          refine heldY 25 193 ?_
          refine heldY 26 194 ?_
          refine heldY 27 195 ?_
          refine heldY 28 196 ?_
          refine heldY 29 197 ?_
          refine heldY 30 198 ?_
          refine heldY 31 199 ?_
          refine heldY 32 200 ?_
          refine heldY 33 201 ?_
          refine heldY 34 202 ?_
          refine heldY 35 203 ?_
          refine heldY 36 204 ?_
          refine heldY 37 205 ?_
          refine heldY 38 206 ?_
          refine heldY 39 2 ?_
          refine wpAnyH_done (by kernel_rfl) ?_ _
          go_wp2
          go_ret
          exact ⟨rfl, H0.out.2.2.2.2⟩

/-! ### THE ROW's STEP: WRITTEN OUT: LEAVE IT -/
set_option maxRecDepth 100000 in
theorem lifted (os : Os) (started : os.Started) (H : Type) (enc : TypeId × Value → H) :
    ReturnsInHanded {} Tryz.checked os 3 .any (Rows.fnCleanBlockSpec.pre6 enc Tryz.prog Tryz.f3 Rows.fnCleanBlockRow.domain false) (Rows.fnCleanBlockSpec.post enc Tryz.prog Tryz.f3 false true false false) := by
  refine returnsInHanded_of_change (C := Tryz.checked) own started (by kernel_rfl) Tryz.func3
    (ChangeSpec.witness6 (enc := enc) (C := Tryz.checked) false ⟨#[], #[.slice none 0 0], []⟩ 8 (by kernel_rfl) (by kernel_rfl) (by kernel_rfl) (by kernel_rfl)) ?_
  intro W base args ds gs before hval0 hW hcnd _
  have hval : ∀ (j : Nat) t v, Tryz.f3.params[j]? = some t → args[j]? = some v → Value.okWide Tryz.prog W .any base t v := hval0
  have hW' := hW
  obtain ⟨p, q, hA0, hV, rfl, hfz, hnd⟩ := hW
  have hA : DataW.TrodAll enc Tryz.prog W 0 (fun _ => true) true Tryz.f3.params.toList args.toList ds p := hA0
  rw [Tryz.params3] at hA hval
  obtain ⟨v0, vs0, d0, ds0, p0, q0, hargs, rfl, rfl, h0, r0⟩ := trodAll_cons hA
  obtain ⟨rfl, rfl, rfl⟩ := trodAll_nil r0
  obtain rfl : args = #[v0] := by cases args; simp_all
  obtain ⟨rfl, rfl⟩ := trodVars_none hV
  obtain ⟨a0, len0, cap0, rfl⟩ := okWide_slice Tryz.underlying22 (hval 0 22 v0 rfl rfl)
  have k0 := h0
  have lt0 : ∀ x ∈ p0, x.block < W.heap.size := by obtain ⟨m, hm⟩ := k0; exact DataW.trod_lt m _ _ _ hm
  obtain ⟨z0, w0⟩ : ∃ zs, IsRow .u8 W a0 len0 cap0 zs := by
    obtain ⟨fuel, hf⟩ := h0
    rcases open_ints Tryz.underlying22 Tryz.underlying5 (by kernel_rfl) hf with ⟨hcs, _⟩ | ⟨x, l, c, zs, hcs, _, hl, hm, hz, _, hcell, hwz⟩
    · simp [Value.cells] at hcs
      obtain ⟨rfl, rfl, rfl⟩ := hcs
      exact ⟨[], .inl ⟨rfl, rfl, rfl, rfl⟩⟩
    · simp [Value.cells] at hcs
      obtain ⟨rfl, rfl, rfl⟩ := hcs
      exact ⟨zs, .inr ⟨_, rfl, hl, hm, by simpa using hz, hcell, hwz⟩⟩
  clear hA0 hval0
  refine (walk a0 len0 cap0 z0 W w0).mono fun e W' ⟨he, bel⟩ => ?_
  subst he
  exact ⟨_, rfl, _, _, _, [], _, [], hW', trodAll_mk1 (shut_bool Tryz.underlying4 _), (trodAll_cons_mk (Below.trod laidOut (by kernel_rfl) (of_decide_eq_true (by kernel_rfl)) k0 bel lt0) trodAll_mk0), rfl, bel.frame _, fun h => by cases h⟩

theorem over : Rows.fnCleanBlockRow.holds Tryz.pinned (OpenSpec.ofChange Rows.fnCleanBlockSpec) :=
  OpenClaim.holds_of_wide 3 Tryz.f3 rfl rfl rfl rfl rfl rfl rfl ⟨rfl, rfl, rfl, rfl, rfl⟩ rfl rfl rfl rfl rfl (by kernel_rfl) Tryz.func3 (by kernel_rfl)
    (of_decide_eq_true (by kernel_rfl)) (by unfold Func.isWrapper; first | (rw [if_pos (by decide +kernel)]; kernel_rfl) | (rw [if_neg (by decide +kernel)]; exact ⟨rfl, rfl⟩))
    (fun os started H enc _ => lifted os started H enc)

/-- ████ THE STATEMENT ████ -/
theorem proved : Rows.FnCleanBlockSaid := over
#print axioms proved
end Go.Proofs.YtolpnloghogjjaaGreat.fnCleanBlock
