/- What the program's TablePut answers. -/
import Derived.Test.YtpjajmiegopmlaaTables8
namespace Go.Proofs.Ytpjajmiegopmlaa
open Go.ChangeShapes Go.WideShapes Go.ChangeAt Go.RowKit
set_option linter.unusedVariables false

theorem put_tab (A : Option Addr) (n c : Nat) (ls : List Li) (f k x : Int) (w : World) (hl : ls.length = n) (hr : TRow w w.heap.size A ls) (hn : n ≤ 1048576) (hp : ∀ l, l ∈ ls → l.xs.length ≤ 1048576) (hv : tabB (ll ls) = false) :
    Calls Try.prog 35 #[.agg #[.slice A n c], .int .i64 f, .int .i64 k, .int .i64 x] w (TabMade2 [] false w) := by
  have HT := Lib.hid (TIn2.start hr n c)
  have HP := Lib.hid (And.intro hl hp)
  have HV := Lib.hid (And.intro hv trivial)
  clear hl hr hp hv
  go_enter Try.func35, Try.ntmps35
  go_wp2_with fail
  refine (tabValid_val HV.out.1 HP.out.1 HT.out.2.2.1.here hn HP.out.2).mono ?_
  rintro e w1 ⟨rfl, hk⟩
  have HK := Lib.hid (HT.out.keep hk)
  clear hk
  have z0 : w1.cell? ⟨w.heap.size + 1, 0, none⟩ = some (.slice none 0 0) := HK.out.2.1.cell 0
  have z1 : w1.frozen? ⟨w.heap.size + 1, 0, none⟩ = false := HK.out.2.1.frozen 0
  go_wp2
  exact bodyPost_ret (v := .tuple #[.agg #[.slice none 0 0], .bool false]) (by simp [results, Try.results35, go_sem, *]) rfl ⟨none, 0, 0, [], rfl, rfl, rfl, town_nil _ _, grown_put HK.out.2.2.2 (p := ⟨w.heap.size + 1, 0, none⟩) (by dsimp only; omega) _⟩
theorem put_file (A : Option Addr) (n c : Nat) (ls : List Li) (f k x : Int) (w : World) (hl : ls.length = n) (hr : TRow w w.heap.size A ls) (hn : n ≤ 1048576) (hp : ∀ l, l ∈ ls → l.xs.length ≤ 1048576) (hv : tabB (ll ls) = true) (hf : inB f 0 7 = false) :
    Calls Try.prog 35 #[.agg #[.slice A n c], .int .i64 f, .int .i64 k, .int .i64 x] w (TabMade2 [] false w) := by
  have HT := Lib.hid (TIn2.start hr n c)
  have HP := Lib.hid (And.intro hl hp)
  have HV := Lib.hid (And.intro hv hf)
  clear hl hr hp hv hf
  go_enter Try.func35, Try.ntmps35
  go_wp2_with fail
  refine (tabValid_val HV.out.1 HP.out.1 HT.out.2.2.1.here hn HP.out.2).mono ?_
  rintro e w1 ⟨rfl, hk⟩
  have HK := Lib.hid (HT.out.keep hk)
  clear hk
  have z0 : w1.cell? ⟨w.heap.size + 1, 0, none⟩ = some (.slice none 0 0) := HK.out.2.1.cell 0
  have z1 : w1.frozen? ⟨w.heap.size + 1, 0, none⟩ = false := HK.out.2.1.frozen 0
  go_wp2_with (go_at_call 87; refine (isFile_any _ _).mono ?_; rintro e w' ⟨rfl, rfl⟩; rw [HV.out.2])
  exact bodyPost_ret (v := .tuple #[.agg #[.slice none 0 0], .bool false]) (by simp [results, Try.results35, go_sem, *]) rfl ⟨none, 0, 0, [], rfl, rfl, rfl, town_nil _ _, grown_put HK.out.2.2.2 (p := ⟨w.heap.size + 1, 0, none⟩) (by dsimp only; omega) _⟩
theorem put_place (A : Option Addr) (n c : Nat) (ls : List Li) (f k x : Int) (w : World) (hl : ls.length = n) (hr : TRow w w.heap.size A ls) (hn : n ≤ 1048576) (hp : ∀ l, l ∈ ls → l.xs.length ≤ 1048576) (hv : tabB (ll ls) = true) (hf : inB f 0 7 = true) (hk : inB k 0 5 = false) :
    Calls Try.prog 35 #[.agg #[.slice A n c], .int .i64 f, .int .i64 k, .int .i64 x] w (TabMade2 [] false w) := by
  have HT := Lib.hid (TIn2.start hr n c)
  have HP := Lib.hid (And.intro hl hp)
  have HV := Lib.hid (And.intro hv (And.intro hf hk))
  clear hl hr hp hv hf hk
  go_enter Try.func35, Try.ntmps35
  go_wp2_with fail
  refine (tabValid_val HV.out.1 HP.out.1 HT.out.2.2.1.here hn HP.out.2).mono ?_
  rintro e w1 ⟨rfl, hk⟩
  have HK := Lib.hid (HT.out.keep hk)
  clear hk
  have z0 : w1.cell? ⟨w.heap.size + 1, 0, none⟩ = some (.slice none 0 0) := HK.out.2.1.cell 0
  have z1 : w1.frozen? ⟨w.heap.size + 1, 0, none⟩ = false := HK.out.2.1.frozen 0
  go_wp2_with (first | (go_at_call 87; refine (isFile_any _ _).mono ?_; rintro e w' ⟨rfl, rfl⟩; rw [HV.out.2.1]) | (go_at_call 88; refine (isFilePlace_any _ _).mono ?_; rintro e w' ⟨rfl, rfl⟩; rw [HV.out.2.2]))
  exact bodyPost_ret (v := .tuple #[.agg #[.slice none 0 0], .bool false]) (by simp [results, Try.results35, go_sem, *]) rfl ⟨none, 0, 0, [], rfl, rfl, rfl, town_nil _ _, grown_put HK.out.2.2.2 (p := ⟨w.heap.size + 1, 0, none⟩) (by dsimp only; omega) _⟩
theorem put_page (A : Option Addr) (n c : Nat) (ls : List Li) (f k x : Int) (w : World) (hl : ls.length = n) (hr : TRow w w.heap.size A ls) (hn : n ≤ 1048576) (hp : ∀ l, l ∈ ls → l.xs.length ≤ 1048576) (hv : tabB (ll ls) = true) (hf : inB f 0 7 = true) (hk : inB k 0 5 = true) (hx : inB x (-1) 47 = false) :
    Calls Try.prog 35 #[.agg #[.slice A n c], .int .i64 f, .int .i64 k, .int .i64 x] w (TabMade2 [] false w) := by
  have HT := Lib.hid (TIn2.start hr n c)
  have HP := Lib.hid (And.intro hl hp)
  have HV := Lib.hid (And.intro hv (And.intro hf (And.intro hk hx)))
  clear hl hr hp hv hf hk hx
  go_enter Try.func35, Try.ntmps35
  go_wp2_with fail
  refine (tabValid_val HV.out.1 HP.out.1 HT.out.2.2.1.here hn HP.out.2).mono ?_
  rintro e w1 ⟨rfl, hk⟩
  have HK := Lib.hid (HT.out.keep hk)
  clear hk
  have z0 : w1.cell? ⟨w.heap.size + 1, 0, none⟩ = some (.slice none 0 0) := HK.out.2.1.cell 0
  have z1 : w1.frozen? ⟨w.heap.size + 1, 0, none⟩ = false := HK.out.2.1.frozen 0
  go_wp2_with (first | (go_at_call 87; refine (isFile_any _ _).mono ?_; rintro e w' ⟨rfl, rfl⟩; rw [HV.out.2.1]) | (go_at_call 88; refine (isFilePlace_any _ _).mono ?_; rintro e w' ⟨rfl, rfl⟩; rw [HV.out.2.2.1]) | (go_at_call 91; refine (isPage_any _ _).mono ?_; rintro e w' ⟨rfl, rfl⟩; rw [HV.out.2.2.2]))
  exact bodyPost_ret (v := .tuple #[.agg #[.slice none 0 0], .bool false]) (by simp [results, Try.results35, go_sem, *]) rfl ⟨none, 0, 0, [], rfl, rfl, rfl, town_nil _ _, grown_put HK.out.2.2.2 (p := ⟨w.heap.size + 1, 0, none⟩) (by dsimp only; omega) _⟩
theorem elsewhere_val (A : Option Addr) (n c : Nat) (ls : List Li) (f k : Nat) (x : Int) (V : Bool) (w : World) (hl : ls.length = n) (hr : TRow w w.heap.size A ls) (hv : tabB (ll ls) = true) (hf : f < 8) (hk : k < 6) (hx : inB x (-1) 47 = true) (hV : tabB (tset (ll ls) f k x) = !V) :
    Calls Try.prog 93 #[.agg #[.slice A n c], .int .i64 f, .int .i64 k, .int .i64 x] w (KeptV (.bool V) w) := by
  have hi : V = true ↔ Elsewhere (ll ls) f k x := by
    have h := tset_ok hv hf hk hx
    rw [hV] at h
    cases V
    · simp only [Bool.not_false, true_iff] at h
      simp [h]
    · simp only [Bool.not_true, Bool.false_eq_true, false_iff, Classical.not_not] at h
      simp [h]
  by_cases e : x = -1
  · subst e
    obtain rfl : V = false := by
      cases hV' : V
      · rfl
      · exact absurd rfl (hi.1 hV').1
    exact elsewhere_none A n c ls f k w
  · exact elsewhere_at A n c ls f k x V w hl hr hv hf hk e hi
set_option maxHeartbeats 1000000 in
theorem put_at (A : Option Addr) (n c : Nat) (ls : List Li) (f k : Nat) (x : Int) (w : World) (hl : ls.length = n) (hr : TRow w w.heap.size A ls) (hv : tabB (ll ls) = true) (hf : inB f 0 7 = true) (hk : inB k 0 5 = true) (hx : inB x (-1) 47 = true) :
    Calls Try.prog 35 #[.agg #[.slice A n c], .int .i64 f, .int .i64 k, .int .i64 x] w (TabMade2 (tputV (ll ls) f k x).1 (tputV (ll ls) f k x).2 w) := by
  have hf7 : f < 8 := by have := inB_iff.1 hf; omega
  have hk5 : k < 6 := by have := inB_iff.1 hk; omega
  obtain ⟨h8, g, off, gx, ox, cl, xs, y, rfl, hll, h6, hy, hc⟩ := hr.open_ hv hf7 hk5
  have hn8 : n = 8 := by omega
  subst hn8
  have hp := ll_six hv
  have HT := Lib.hid (TIn2.start hr 8 c)
  have HP := Lib.hid (And.intro hl hp)
  have HV := Lib.hid (And.intro hv (And.intro hf (And.intro hk hx)))
  have f0 : decide ((0 : Int) ≤ f) = true := decide_eq_true (by omega)
  have f1 : (f : Int) < 8 := by omega
  have k0 : decide ((0 : Int) ≤ k) = true := decide_eq_true (by omega)
  have k1 : (k : Int) < 6 := by omega
  have HX := Lib.hid (And.intro (ll_at hll) (And.intro hy h6))
  have hsmall : (8 : Nat) ≤ 1048576 := by omega
  clear hl hr hp hv hf hk hx hll hy h6 h8 hc
  go_enter Try.func35, Try.ntmps35
  go_wp2_with fail
  refine (tabValid_val HV.out.1 HP.out.1 HT.out.2.2.1.here hsmall HP.out.2).mono ?_
  rintro e w1 ⟨rfl, hk1⟩
  have HK := Lib.hid (HT.out.keep hk1)
  clear hk1
  have b0 : w1.cell? ⟨w.heap.size, 0, none⟩ = some (.slice (some ⟨g, off, none⟩) 8 c) := HK.out.1.cell 0
  go_wp2_with (first | (go_at_call 87; refine (isFile_any _ _).mono ?_; rintro e w' ⟨rfl, rfl⟩; rw [HV.out.2.1]) | (go_at_call 88; refine (isFilePlace_any _ _).mono ?_; rintro e w' ⟨rfl, rfl⟩; rw [HV.out.2.2.1]) | (go_at_call 91; refine (isPage_any _ _).mono ?_; rintro e w' ⟨rfl, rfl⟩; rw [HV.out.2.2.2]) | fail)
  refine (copyTab_at _ _ _ ls w1 HP.out.1 HK.out.2.2.1.here HV.out.1).mono ?_
  rintro e w2 ⟨A2, c2, cs, rfl, hcl, hcs, ho, hk2⟩
  obtain ⟨g2, _, e, hg2, _⟩ := ho.head hcl (by omega)
  injection e with e1 _ e3
  subst e1; subst e3
  have hb1 := HK.out.2.2.2.size
  have K3 : w2.grownBy (w2.alloc (.cells #[.slice (some ⟨g2, 0, none⟩) 8 c2] 51)) none := grown_alloc (grown_refl _ _) _
  have hT3 := (HK.out.keep hk2).keep K3
  have hN := Blk.new w2 51 #[.slice (some ⟨g2, 0, none⟩) 8 c2]
  have b3 := hT3.1.cell 0
  have HZ := Lib.hid (And.intro hT3 (And.intro hN (And.intro (ho.keep K3) (And.intro hcl hcs))))
  clear ho hcl hcs hk2 K3 hT3 hN hg2 b0
  go_wp2_with fail
  rcases hv2 : tabB (tset (ll ls) f k x) with _ | _
  · refine (elsewhere_val _ _ _ ls f k x true _ HP.out.1 HZ.out.1.2.2.1.here HV.out.1 hf7 hk5 HV.out.2.2.2 (by rw [hv2]; rfl)).mono ?_
    rintro e w5 ⟨rfl, hk5'⟩
    have hT5 := HZ.out.1.keep hk5'
    have b5 := (HZ.out.2.1.keep hk5').cell 0
    have z0 : w5.cell? ⟨w.heap.size + 1, 0, none⟩ = some (.slice none 0 0) := hT5.2.1.cell 0
    have z1 : w5.frozen? ⟨w.heap.size + 1, 0, none⟩ = false := hT5.2.1.frozen 0
    have HR := Lib.hid (tput_els (arg_yes HV.out.1 HV.out.2.1 HV.out.2.2.1) HV.out.2.2.2 hv2)
    have HF := Lib.hid (And.intro HZ.out.2.2.2.1 (And.intro HZ.out.2.2.2.2 (And.intro (((HZ.out.2.2.1.keep hk5').base_le hb1).put hT5.2.1 0 (.slice (some ⟨g2, 0, none⟩) 8 c2)) (grown_put hT5.2.2.2 (p := ⟨w.heap.size + 1, 0, none⟩) (by dsimp only; omega) (.slice (some ⟨g2, 0, none⟩) 8 c2)))))
    clear hk5' hv2 hT5 b3
    go_wp2
    rw [HR.out]
    exact bodyPost_ret (v := .tuple #[.agg #[.slice (some ⟨g2, 0, none⟩) 8 c2], .bool false]) (by simp [results, Try.results35, go_sem, *]) rfl ⟨some ⟨g2, 0, none⟩, 8, c2, cs, rfl, HF.out.1, HF.out.2.1, HF.out.2.2.1, HF.out.2.2.2⟩
  · refine (elsewhere_val _ _ _ ls f k x false _ HP.out.1 HZ.out.1.2.2.1.here HV.out.1 hf7 hk5 HV.out.2.2.2 (by rw [hv2]; rfl)).mono ?_
    rintro e w5 ⟨rfl, hk5'⟩
    have hT5 := HZ.out.1.keep hk5'
    have hN5 := HZ.out.2.1.keep hk5'
    have ho5 := HZ.out.2.2.1.keep hk5'
    have hl2 : (ll cs)[f]? = some xs := by rw [HZ.out.2.2.2.2]; exact HX.out.1
    have h6 := HX.out.2.2
    obtain ⟨gl, cl2, hli, hio, hgl, hglz⟩ := ho5.inner hl2 (by omega)
    have c0 := ho5.at_ HZ.out.2.2.2.1 hli
    have c1 : w5.cell? ⟨gl, k, none⟩ = some (.int .i64 y) := VOwn.at_ hio (iv_length xs) (iv_at HX.out.2.1)
    have c2f : w5.frozen? ⟨gl, k, none⟩ = false := VOwn.frozen hio (iv_length xs) k
    dsimp only at c0
    rw [h6] at c0
    have n0 : gl ≠ w.heap.size := VOwn.ne_blk hio hT5.1 (by decide)
    have n1 : gl ≠ w.heap.size + 1 := VOwn.ne_blk hio hT5.2.1 (by decide)
    have n2 : gl ≠ w2.heap.size := VOwn.ne_blk hio hN5 (by decide)
    have hT6 := hT5.far (p := ⟨gl, k, none⟩) (by dsimp only; omega) n0 n1 (.int .i64 x)
    have hN6 := hN5.far (p := ⟨gl, k, none⟩) (fun e => n2 e.symm) (.int .i64 x)
    have ho6 := ho5.set hli k x
    have b5 := hN5.cell 0
    have b6 := hN6.cell 0
    have z0 : (w5.setCell ⟨gl, k, none⟩ (.int .i64 x)).cell? ⟨w.heap.size + 1, 0, none⟩ = some (.slice none 0 0) := hT6.2.1.cell 0
    have z1 : (w5.setCell ⟨gl, k, none⟩ (.int .i64 x)).frozen? ⟨w.heap.size + 1, 0, none⟩ = false := hT6.2.1.frozen 0
    have y0 : w5.cell? ⟨w.heap.size + 1, 0, none⟩ = some (.slice none 0 0) := hT5.2.1.cell 0
    have y1 : w5.frozen? ⟨w.heap.size + 1, 0, none⟩ = false := hT5.2.1.frozen 0
    have HR := Lib.hid (tput_yes (arg_yes HV.out.1 HV.out.2.1 HV.out.2.2.1) HV.out.2.2.2 hv2)
    have HF := Lib.hid (And.intro (show (cs.set f ⟨some ⟨gl, 0, none⟩, cl2, xs.set k x⟩).length = 8 by rw [List.length_set]; exact HZ.out.2.2.2.1) (And.intro (show ll (cs.set f ⟨some ⟨gl, 0, none⟩, cl2, xs.set k x⟩) = tset (ll ls) f k x by rw [ll_set, HZ.out.2.2.2.2, tset_row HX.out.1])
      (And.intro ((ho6.base_le hb1).put hT6.2.1 0 (.slice (some ⟨g2, 0, none⟩) 8 c2)) (grown_put hT6.2.2.2 (p := ⟨w.heap.size + 1, 0, none⟩) (by dsimp only; omega) (.slice (some ⟨g2, 0, none⟩) 8 c2)))))
    clear hk5' hv2 hT5 hN5 ho5 hl2 h6 hli hio hgl hglz hT6 hN6 ho6 b3
    go_wp2
    rw [HR.out]
    exact bodyPost_ret (v := .tuple #[.agg #[.slice (some ⟨g2, 0, none⟩) 8 c2], .bool true]) (by simp [results, Try.results35, go_sem, *]) rfl ⟨some ⟨g2, 0, none⟩, 8, c2, _, rfl, HF.out.1, HF.out.2.1, HF.out.2.2.1, HF.out.2.2.2⟩
theorem tablePut_any (A : Option Addr) (n c : Nat) (ls : List Li) (f k x : Int) (w : World) (hl : ls.length = n) (hr : TRow w w.heap.size A ls) (hn : n ≤ 1048576) (hp : ∀ l, l ∈ ls → l.xs.length ≤ 1048576) :
    Calls Try.prog 35 #[.agg #[.slice A n c], .int .i64 f, .int .i64 k, .int .i64 x] w (TabMade2 (tputV (ll ls) f k x).1 (tputV (ll ls) f k x).2 w) := by
  cases hv : tabB (ll ls)
  · rw [tput_no (arg1 hv)]
    exact put_tab A n c ls f k x w hl hr hn hp hv
  cases hf : inB f 0 7
  · rw [tput_no (arg2 hf)]
    exact put_file A n c ls f k x w hl hr hn hp hv hf
  cases hk : inB k 0 5
  · rw [tput_no (arg3 hk)]
    exact put_place A n c ls f k x w hl hr hn hp hv hf hk
  cases hx : inB x (-1) 47
  · rw [tput_no2 hx]
    exact put_page A n c ls f k x w hl hr hn hp hv hf hk hx
  obtain ⟨fn, rfl, _⟩ := inB_nat (m := 7) hf
  obtain ⟨kn, rfl, _⟩ := inB_nat (m := 5) hk
  exact put_at A n c ls fn kn x w hl hr hv hf hk hx
end Go.Proofs.Ytpjajmiegopmlaa
