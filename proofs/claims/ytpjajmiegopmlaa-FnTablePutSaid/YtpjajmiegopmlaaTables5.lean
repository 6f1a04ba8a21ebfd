/- What the model's TablePut answers. -/
import Derived.Test.YtpjajmiegopmlaaTables4
namespace Go.Proofs.Ytpjajmiegopmlaa
open Go.ChangeShapes Go.WideShapes Go.ChangeAt Go.RowKit

/-- A table in memory of its own, and whether it is possible. -/
def TabMade2 (xss : List (List Int)) (ok : Bool) (w : World) (e : Ending) (w' : World) : Prop :=
  ∃ (A : Option Addr) (n c : Nat) (cs : List Li), e = .returned (.tuple #[.agg #[.slice A n c], .bool ok]) ∧ cs.length = n ∧ ll cs = xss ∧ TOwn w' w.heap.size (.slice A n c) cs ∧ w.grownBy w' none
/-- A boxed table, the result's variable, and the table that came in. -/
def TIn2 (w : World) (A : Option Addr) (n c : Nat) (ls : List Li) (wr : World) : Prop := Blk wr w.heap.size 51 #[.slice A n c] ∧ Blk wr (w.heap.size + 1) 51 #[.slice none 0 0] ∧ TRow wr w.heap.size A ls ∧ w.grownBy wr none
section
variable {w wr w' : World} {A : Option Addr} {n c : Nat} {ls : List Li}
theorem TRow.put {B : Nat} (h : TRow w B A ls) {p : Addr} (hB : B ≤ p.block) (u : Value) : TRow (w.setCell p u) B A ls := ⟨h.1.setCell hB u, fun l hl => VRow.setCell (h.2 l hl) hB u⟩
theorem TIn2.start (hr : TRow w w.heap.size A ls) (n c : Nat) : TIn2 w A n c ls ((w.alloc (.cells #[.slice A n c] 51)).alloc (.cells #[.slice none 0 0] 51)) := by
  refine ⟨(Blk.new w _ _).alloc _, ?_, (hr.alloc _).alloc _, grown_alloc (grown_alloc (grown_refl _ _) _) _⟩
  have H := Blk.new (w.alloc (.cells #[.slice A n c] 51)) 51 #[.slice none 0 0]
  simpa only [size_alloc1] using H
theorem TIn2.keep (H : TIn2 w A n c ls wr) (k : wr.grownBy w' none) : TIn2 w A n c ls w' := ⟨H.1.keep k, H.2.1.keep k, H.2.2.1.kept k, grown_trans H.2.2.2 k⟩
/-- Something else is written. -/
theorem TIn2.far (H : TIn2 w A n c ls wr) {p : Addr} (hp : w.heap.size ≤ p.block) (h0 : p.block ≠ w.heap.size) (h1 : p.block ≠ w.heap.size + 1) (u : Value) : TIn2 w A n c ls (wr.setCell p u) :=
  ⟨H.1.far (fun e => h0 e.symm) u, H.2.1.far (fun e => h1 e.symm) u, H.2.2.1.put hp u, grown_put H.2.2.2 hp u⟩
end
theorem town_none (w : World) (base : Nat) : TOwn w base (.slice none 0 0) [] := town_nil w base
theorem tput_no {xss : List (List Int)} {f k x : Int} (h : argB xss f k = false) : tputV xss f k x = ([], false) := by simp [tputV, h]
theorem tput_no2 {xss : List (List Int)} {f k x : Int} (h : inB x (-1) 47 = false) : tputV xss f k x = ([], false) := by simp [tputV, h]
theorem tput_yes {xss : List (List Int)} {f k : Nat} {x : Int} (h : argB xss f k = true) (hx : inB x (-1) 47 = true) (hv : tabB (tset xss f k x) = true) : tputV xss f k x = (tset xss f k x, true) := by simp [tputV, h, hx, hv]
theorem tput_els {xss : List (List Int)} {f k : Nat} {x : Int} (h : argB xss f k = true) (hx : inB x (-1) 47 = true) (hv : tabB (tset xss f k x) = false) : tputV xss f k x = (xss, false) := by simp [tputV, h, hx, hv]
/-- A list of a table of the call's own. -/
theorem TOwn.inner {w : World} {base : Nat} {v : Value} {ls : List Li} (h : TOwn w base v ls) {f : Nat} {xs : List Int} (hf : (ll ls)[f]? = some xs) (hpos : 0 < xs.length) :
    ∃ gl cl, ls[f]? = some ⟨some ⟨gl, 0, none⟩, cl, xs⟩ ∧ IOwn w base (.slice (some ⟨gl, 0, none⟩) xs.length cl) xs ∧ base ≤ gl ∧ gl < w.heap.size := by
  obtain ⟨Al, cl, hl⟩ := ll_get hf
  have h1 : IOwn w base (.slice Al xs.length cl) xs := h.2.1 _ (List.mem_of_getElem? hl)
  obtain ⟨gl, cap, e, hb, hz, _⟩ := VOwn.head h1 (iv_length xs) hpos
  injection e with e1 _ e2
  subst e1
  exact ⟨gl, cl, hl, h1, hb, hz⟩
theorem ll_six {ls : List Li} (hv : tabB (ll ls) = true) : ∀ l, l ∈ ls → l.xs.length ≤ 1048576 := fun l hl => by
  have h6 := ((tabB_iff _).1 hv).six l.xs (List.mem_map_of_mem hl)
  omega
theorem specPut_tab (A : Option Addr) (n c : Nat) (ls : List Li) (f k x : Int) (w : World) (hl : ls.length = n) (hr : TRow w w.heap.size A ls) (hn : n ≤ 1048576) (hp : ∀ l, l ∈ ls → l.xs.length ≤ 1048576) (hv : tabB (ll ls) = false) :
    Calls Try.prog 36 #[.agg #[.slice A n c], .int .i64 f, .int .i64 k, .int .i64 x] w (TabMade2 [] false w) := by
  have HT := Lib.hid (TIn2.start hr n c)
  have HP := Lib.hid (And.intro hl hp)
  have HV := Lib.hid (And.intro hv trivial)
  clear hl hr hp hv
  go_enter Try.func36, Try.ntmps36
  go_wp2_with fail
  refine (specTabValid_val HV.out.1 HP.out.1 HT.out.2.2.1.here hn HP.out.2).mono ?_
  rintro e w1 ⟨rfl, hk⟩
  have HK := Lib.hid (HT.out.keep hk)
  clear hk
  have z0 : w1.cell? ⟨w.heap.size + 1, 0, none⟩ = some (.slice none 0 0) := HK.out.2.1.cell 0
  have z1 : w1.frozen? ⟨w.heap.size + 1, 0, none⟩ = false := HK.out.2.1.frozen 0
  go_wp2
  exact bodyPost_ret (v := .tuple #[.agg #[.slice none 0 0], .bool false]) (by simp [results, Try.results36, go_sem, *]) rfl ⟨none, 0, 0, [], rfl, rfl, rfl, town_nil _ _, grown_put HK.out.2.2.2 (p := ⟨w.heap.size + 1, 0, none⟩) (by dsimp only; omega) _⟩
theorem specPut_file (A : Option Addr) (n c : Nat) (ls : List Li) (f k x : Int) (w : World) (hl : ls.length = n) (hr : TRow w w.heap.size A ls) (hn : n ≤ 1048576) (hp : ∀ l, l ∈ ls → l.xs.length ≤ 1048576) (hv : tabB (ll ls) = true) (hf : inB f 0 7 = false) :
    Calls Try.prog 36 #[.agg #[.slice A n c], .int .i64 f, .int .i64 k, .int .i64 x] w (TabMade2 [] false w) := by
  have HT := Lib.hid (TIn2.start hr n c)
  have HP := Lib.hid (And.intro hl hp)
  have HV := Lib.hid (And.intro hv hf)
  clear hl hr hp hv hf
  go_enter Try.func36, Try.ntmps36
  go_wp2_with fail
  refine (specTabValid_val HV.out.1 HP.out.1 HT.out.2.2.1.here hn HP.out.2).mono ?_
  rintro e w1 ⟨rfl, hk⟩
  have HK := Lib.hid (HT.out.keep hk)
  clear hk
  have z0 : w1.cell? ⟨w.heap.size + 1, 0, none⟩ = some (.slice none 0 0) := HK.out.2.1.cell 0
  have z1 : w1.frozen? ⟨w.heap.size + 1, 0, none⟩ = false := HK.out.2.1.frozen 0
  go_wp2_with (go_at_call 60; refine (in_any _ _ _ _).mono ?_; rintro e w' ⟨rfl, rfl⟩; first | rw [HV.out.2])
  exact bodyPost_ret (v := .tuple #[.agg #[.slice none 0 0], .bool false]) (by simp [results, Try.results36, go_sem, *]) rfl ⟨none, 0, 0, [], rfl, rfl, rfl, town_nil _ _, grown_put HK.out.2.2.2 (p := ⟨w.heap.size + 1, 0, none⟩) (by dsimp only; omega) _⟩
theorem specPut_place (A : Option Addr) (n c : Nat) (ls : List Li) (f k x : Int) (w : World) (hl : ls.length = n) (hr : TRow w w.heap.size A ls) (hn : n ≤ 1048576) (hp : ∀ l, l ∈ ls → l.xs.length ≤ 1048576) (hv : tabB (ll ls) = true) (hf : inB f 0 7 = true) (hk : inB k 0 5 = false) :
    Calls Try.prog 36 #[.agg #[.slice A n c], .int .i64 f, .int .i64 k, .int .i64 x] w (TabMade2 [] false w) := by
  have HT := Lib.hid (TIn2.start hr n c)
  have HP := Lib.hid (And.intro hl hp)
  have HV := Lib.hid (And.intro hv (And.intro hf hk))
  clear hl hr hp hv hf hk
  go_enter Try.func36, Try.ntmps36
  go_wp2_with fail
  refine (specTabValid_val HV.out.1 HP.out.1 HT.out.2.2.1.here hn HP.out.2).mono ?_
  rintro e w1 ⟨rfl, hk⟩
  have HK := Lib.hid (HT.out.keep hk)
  clear hk
  have z0 : w1.cell? ⟨w.heap.size + 1, 0, none⟩ = some (.slice none 0 0) := HK.out.2.1.cell 0
  have z1 : w1.frozen? ⟨w.heap.size + 1, 0, none⟩ = false := HK.out.2.1.frozen 0
  go_wp2_with (go_at_call 60; refine (in_any _ _ _ _).mono ?_; rintro e w' ⟨rfl, rfl⟩; first | rw [HV.out.2.1] | rw [HV.out.2.2])
  exact bodyPost_ret (v := .tuple #[.agg #[.slice none 0 0], .bool false]) (by simp [results, Try.results36, go_sem, *]) rfl ⟨none, 0, 0, [], rfl, rfl, rfl, town_nil _ _, grown_put HK.out.2.2.2 (p := ⟨w.heap.size + 1, 0, none⟩) (by dsimp only; omega) _⟩
theorem specPut_page (A : Option Addr) (n c : Nat) (ls : List Li) (f k x : Int) (w : World) (hl : ls.length = n) (hr : TRow w w.heap.size A ls) (hn : n ≤ 1048576) (hp : ∀ l, l ∈ ls → l.xs.length ≤ 1048576) (hv : tabB (ll ls) = true) (hf : inB f 0 7 = true) (hk : inB k 0 5 = true) (hx : inB x (-1) 47 = false) :
    Calls Try.prog 36 #[.agg #[.slice A n c], .int .i64 f, .int .i64 k, .int .i64 x] w (TabMade2 [] false w) := by
  have HT := Lib.hid (TIn2.start hr n c)
  have HP := Lib.hid (And.intro hl hp)
  have HV := Lib.hid (And.intro hv (And.intro hf (And.intro hk hx)))
  clear hl hr hp hv hf hk hx
  go_enter Try.func36, Try.ntmps36
  go_wp2_with fail
  refine (specTabValid_val HV.out.1 HP.out.1 HT.out.2.2.1.here hn HP.out.2).mono ?_
  rintro e w1 ⟨rfl, hk⟩
  have HK := Lib.hid (HT.out.keep hk)
  clear hk
  have z0 : w1.cell? ⟨w.heap.size + 1, 0, none⟩ = some (.slice none 0 0) := HK.out.2.1.cell 0
  have z1 : w1.frozen? ⟨w.heap.size + 1, 0, none⟩ = false := HK.out.2.1.frozen 0
  go_wp2_with (go_at_call 60; refine (in_any _ _ _ _).mono ?_; rintro e w' ⟨rfl, rfl⟩; first | rw [HV.out.2.1] | rw [HV.out.2.2.1] | rw [HV.out.2.2.2])
  exact bodyPost_ret (v := .tuple #[.agg #[.slice none 0 0], .bool false]) (by simp [results, Try.results36, go_sem, *]) rfl ⟨none, 0, 0, [], rfl, rfl, rfl, town_nil _ _, grown_put HK.out.2.2.2 (p := ⟨w.heap.size + 1, 0, none⟩) (by dsimp only; omega) _⟩
set_option maxHeartbeats 1000000 in
theorem specPut_at (A : Option Addr) (n c : Nat) (ls : List Li) (f k : Nat) (x : Int) (w : World) (hl : ls.length = n) (hr : TRow w w.heap.size A ls) (hv : tabB (ll ls) = true) (hf : inB f 0 7 = true) (hk : inB k 0 5 = true) (hx : inB x (-1) 47 = true) :
    Calls Try.prog 36 #[.agg #[.slice A n c], .int .i64 f, .int .i64 k, .int .i64 x] w (TabMade2 (tputV (ll ls) f k x).1 (tputV (ll ls) f k x).2 w) := by
  have hf7 : f < 8 := by have := inB_iff.1 hf; omega
  have hk5 : k < 6 := by have := inB_iff.1 hk; omega
  obtain ⟨h8, g, off, gx, ox, cl, xs, y, rfl, hll, h6, hy, hc⟩ := hr.open_ hv hf7 hk5
  have hn8 : n = 8 := by omega
  subst hn8
  have hp := ll_six hv
  have HT := Lib.hid (TIn2.start hr 8 c)
  have HP := Lib.hid (And.intro hl hp)
  have HV := Lib.hid (And.intro hv (And.intro hf (And.intro hk hx)))
  have f0 : decide ((0 : Int) ≤ f) = true := decide_eq_true (by omega)
  have f1 : (f : Int) < 8 := by omega
  have k0 : decide ((0 : Int) ≤ k) = true := decide_eq_true (by omega)
  have k1 : (k : Int) < 6 := by omega
  have HX := Lib.hid (And.intro (ll_at hll) (And.intro hy h6))
  have hsmall : (8 : Nat) ≤ 1048576 := by omega
  clear hl hr hp hv hf hk hx hll hy h6 h8 hc
  go_enter Try.func36, Try.ntmps36
  go_wp2_with fail
  refine (specTabValid_val HV.out.1 HP.out.1 HT.out.2.2.1.here hsmall HP.out.2).mono ?_
  rintro e w1 ⟨rfl, hk1⟩
  have HK := Lib.hid (HT.out.keep hk1)
  clear hk1
  have b0 : w1.cell? ⟨w.heap.size, 0, none⟩ = some (.slice (some ⟨g, off, none⟩) 8 c) := HK.out.1.cell 0
  go_wp2_with (first | (go_at_call 60; refine (in_any _ _ _ _).mono ?_; rintro e w' ⟨rfl, rfl⟩; first | rw [HV.out.2.1] | rw [HV.out.2.2.1] | rw [HV.out.2.2.2]) | fail)
  refine (specCopyTab_any _ _ _ ls w1 HP.out.1 HK.out.2.2.1.here (by omega) HP.out.2).mono ?_
  rintro e w2 ⟨A2, c2, cs, rfl, hcl, hcs, ho, hk2⟩
  obtain ⟨g2, _, e, hg2, _⟩ := ho.head hcl (by omega)
  injection e with e1 _ e3
  subst e1; subst e3
  have hl2 : (ll cs)[f]? = some xs := by rw [hcs]; exact HX.out.1
  have h6 := HX.out.2.2
  have K3 : w2.grownBy (w2.alloc (.cells #[.slice (some ⟨g2, 0, none⟩) 8 c2] 51)) none := grown_alloc (grown_refl _ _) _
  have ho3 := ho.keep K3
  obtain ⟨gl, cl2, hli, hio, hgl, hglz⟩ := ho3.inner hl2 (by omega)
  have c0 := ho3.at_ hcl hli
  have c1 : (w2.alloc (.cells #[.slice (some ⟨g2, 0, none⟩) 8 c2] 51)).cell? ⟨gl, k, none⟩ = some (.int .i64 y) := VOwn.at_ hio (iv_length xs) (iv_at HX.out.2.1)
  have c2f : (w2.alloc (.cells #[.slice (some ⟨g2, 0, none⟩) 8 c2] 51)).frozen? ⟨gl, k, none⟩ = false := VOwn.frozen hio (iv_length xs) k
  dsimp only at c0
  rw [h6] at c0
  have hT3 := (HK.out.keep hk2).keep K3
  have n0 : gl ≠ w.heap.size := VOwn.ne_blk hio hT3.1 (by decide)
  have n1 : gl ≠ w.heap.size + 1 := VOwn.ne_blk hio hT3.2.1 (by decide)
  have hN := Blk.new w2 51 #[.slice (some ⟨g2, 0, none⟩) 8 c2]
  have n2 : gl ≠ w2.heap.size := VOwn.ne_blk hio hN (by decide)
  have hb1 := HK.out.2.2.2.size
  have hT4 := hT3.far (p := ⟨gl, k, none⟩) (by dsimp only; omega) n0 n1 (.int .i64 x)
  have hN4 := hN.far (p := ⟨gl, k, none⟩) (fun e => n2 e.symm) (.int .i64 x)
  have ho4 := ho3.set hli k x
  have hcl4 : (cs.set f ⟨some ⟨gl, 0, none⟩, cl2, xs.set k x⟩).length = 8 := by rw [List.length_set]; exact hcl
  have hcs4 : ll (cs.set f ⟨some ⟨gl, 0, none⟩, cl2, xs.set k x⟩) = tset (ll ls) f k x := by rw [ll_set, hcs, tset_row HX.out.1]
  have hp4 : ∀ l, l ∈ cs.set f ⟨some ⟨gl, 0, none⟩, cl2, xs.set k x⟩ → l.xs.length ≤ 1048576 := fun l hl => by
    rcases List.mem_or_eq_of_mem_set hl with hl | rfl
    · exact ll_six (ls := cs) (by rw [hcs]; exact HV.out.1) l hl
    · show (xs.set k x).length ≤ 1048576
      rw [List.length_set]; omega
  obtain ⟨ds, hds⟩ : ∃ ds, ds = cs.set f ⟨some ⟨gl, 0, none⟩, cl2, xs.set k x⟩ := ⟨_, rfl⟩
  rw [← hds] at ho4 hcl4 hcs4 hp4
  have b4 := hN4.cell 0
  have HZ := Lib.hid (And.intro hT4 (And.intro hN4 (And.intro ho4 (And.intro hcl4 (And.intro hcs4 hp4)))))
  have HY := Lib.hid (And.intro (ho4.row) n2)
  clear ho hcl hcs hk2 hl2 h6 K3 ho3 hli hio hgl hglz hT3 n0 n1 hN hT4 hN4 ho4 hcl4 hcs4 hp4 hds hg2
  have n2 := HY.out.2
  clear b0
  go_wp2_with fail
  rcases hv2 : tabB (tset (ll ls) f k x) with _ | _
  · refine (specTabValid_val (show tabB (ll ds) = false by rw [HZ.out.2.2.2.2.1]; exact hv2) HZ.out.2.2.2.1 HY.out.1 hsmall HZ.out.2.2.2.2.2).mono ?_
    rintro e w5 ⟨rfl, hk5⟩
    have HT5 := Lib.hid (HZ.out.1.keep hk5)
    have b0 : w5.cell? ⟨w.heap.size, 0, none⟩ = some (.slice (some ⟨g, off, none⟩) 8 c) := HT5.out.1.cell 0
    have HR := Lib.hid (tput_els (arg_yes HV.out.1 HV.out.2.1 HV.out.2.2.1) HV.out.2.2.2 hv2)
    clear hk5 hv2
    go_wp2_with fail
    refine (specCopyTab_any _ _ _ ls w5 HP.out.1 HT5.out.2.2.1.here (by omega) HP.out.2).mono ?_
    rintro e w6 ⟨A6, c6, es, rfl, hcl, hcs, ho, hk6⟩
    have hT6 := HT5.out.keep hk6
    have z0 : w6.cell? ⟨w.heap.size + 1, 0, none⟩ = some (.slice none 0 0) := hT6.2.1.cell 0
    have z1 : w6.frozen? ⟨w.heap.size + 1, 0, none⟩ = false := hT6.2.1.frozen 0
    have HF := Lib.hid (And.intro hcl (And.intro hcs (And.intro ((ho.base_le HT5.out.2.2.2.size).put hT6.2.1 0 (.slice A6 8 c6)) (grown_put hT6.2.2.2 (p := ⟨w.heap.size + 1, 0, none⟩) (by dsimp only; omega) (.slice A6 8 c6)))))
    clear hcl hcs ho hk6 hT6
    go_wp2
    rw [HR.out]
    exact bodyPost_ret (v := .tuple #[.agg #[.slice A6 8 c6], .bool false]) (by simp [results, Try.results36, go_sem, *]) rfl ⟨A6, 8, c6, es, rfl, HF.out.1, HF.out.2.1, HF.out.2.2.1, HF.out.2.2.2⟩
  · refine (specTabValid_val (show tabB (ll ds) = true by rw [HZ.out.2.2.2.2.1]; exact hv2) HZ.out.2.2.2.1 HY.out.1 hsmall HZ.out.2.2.2.2.2).mono ?_
    rintro e w5 ⟨rfl, hk5⟩
    have hT5 := HZ.out.1.keep hk5
    have b5 := (HZ.out.2.1.keep hk5).cell 0
    have z0 : w5.cell? ⟨w.heap.size + 1, 0, none⟩ = some (.slice none 0 0) := hT5.2.1.cell 0
    have z1 : w5.frozen? ⟨w.heap.size + 1, 0, none⟩ = false := hT5.2.1.frozen 0
    have HR := Lib.hid (tput_yes (arg_yes HV.out.1 HV.out.2.1 HV.out.2.2.1) HV.out.2.2.2 hv2)
    have HF := Lib.hid (And.intro HZ.out.2.2.2.1 (And.intro HZ.out.2.2.2.2.1 (And.intro (((HZ.out.2.2.1.keep hk5).base_le hb1).put hT5.2.1 0 (.slice (some ⟨g2, 0, none⟩) 8 c2)) (grown_put hT5.2.2.2 (p := ⟨w.heap.size + 1, 0, none⟩) (by dsimp only; omega) (.slice (some ⟨g2, 0, none⟩) 8 c2)))))
    clear hk5 hv2 hT5
    go_wp2
    rw [HR.out]
    exact bodyPost_ret (v := .tuple #[.agg #[.slice (some ⟨g2, 0, none⟩) 8 c2], .bool true]) (by simp [results, Try.results36, go_sem, *]) rfl ⟨some ⟨g2, 0, none⟩, 8, c2, ds, rfl, HF.out.1, HF.out.2.1, HF.out.2.2.1, HF.out.2.2.2⟩
theorem specTablePut_any (A : Option Addr) (n c : Nat) (ls : List Li) (f k x : Int) (w : World) (hl : ls.length = n) (hr : TRow w w.heap.size A ls) (hn : n ≤ 1048576) (hp : ∀ l, l ∈ ls → l.xs.length ≤ 1048576) :
    Calls Try.prog 36 #[.agg #[.slice A n c], .int .i64 f, .int .i64 k, .int .i64 x] w (TabMade2 (tputV (ll ls) f k x).1 (tputV (ll ls) f k x).2 w) := by
  cases hv : tabB (ll ls)
  · rw [tput_no (arg1 hv)]
    exact specPut_tab A n c ls f k x w hl hr hn hp hv
  cases hf : inB f 0 7
  · rw [tput_no (arg2 hf)]
    exact specPut_file A n c ls f k x w hl hr hn hp hv hf
  cases hk : inB k 0 5
  · rw [tput_no (arg3 hk)]
    exact specPut_place A n c ls f k x w hl hr hn hp hv hf hk
  cases hx : inB x (-1) 47
  · rw [tput_no2 hx]
    exact specPut_page A n c ls f k x w hl hr hn hp hv hf hk hx
  obtain ⟨fn, rfl, _⟩ := inB_nat (m := 7) hf
  obtain ⟨kn, rfl, _⟩ := inB_nat (m := 5) hk
  exact specPut_at A n c ls fn kn x w hl hr hv hf hk hx
end Go.Proofs.Ytpjajmiegopmlaa
