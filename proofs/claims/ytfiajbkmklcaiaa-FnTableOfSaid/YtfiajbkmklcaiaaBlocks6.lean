/- Chapter 4, further: WriteBlock and EraseBlock of both.
   Chapter 4, further: WriteBlock where a page is written.
   Chapter 4, further: EraseBlock of both. -/
import Derived.Test.YtfiajbkmklcaiaaBlocks4
namespace Go.Proofs.Ytfiajbkmklcaiaa
open Go.ChangeShapes Go.WideShapes Go.ChangeAt Go.RowKit

/-- A block with n pages in memory of its own, and another result. -/
def Made2 (m : Int) (n : Nat) (ps : List Pg) (r : Value) (w : World) (e : Ending) (w' : World) : Prop :=
  ∃ A c, e = .returned (.tuple #[.agg #[.int .i64 m, .slice A n c], r]) ∧ ps.length = n ∧ Own w' w.heap.size (.slice A n c) ps ∧ w.grownBy w' none
theorem made2_zero {w w' : World} {r : Value} (h : w.grownBy w' none) : Made2 0 0 [] r w (.returned (.tuple #[.agg #[.int .i64 0, .slice none 0 0], r])) w' := ⟨none, 0, rfl, rfl, World.ownsRow_nil _ _ _ _, h⟩
theorem specNext_val {m : Int} {A : Option Addr} {c n : Nat} {ps : List Pg} {V : Int} (hl : ps.length = n) (h : nextV m ps = V) (w : World) (hr : Row w w.heap.size A ps) (hn : n ≤ 1048576) :
    Calls Try.prog 112 #[.agg #[.int .i64 m, .slice A n c]] w (KeptV (.int .i64 V) w) := by subst hl; exact h ▸ specNext_any m A c ps w hr hn
theorem le2 (n : Nat) : n ≤ n + 1 + 1 := by omega
theorem Row.here {w : World} {B : Nat} {A : Option Addr} {ps : List Pg} (h : Row w B A ps) : Row w w.heap.size A ps := fun hn => by
  obtain ⟨g, off, e, _, hz, hc⟩ := h hn
  exact ⟨g, off, e, hz, hz, hc⟩
theorem Own.base_le {w : World} {base base' : Nat} {v : Value} {ps : List Pg} (h : Own w base v ps) (hb : base' ≤ base) : Own w base' v ps := by
  refine ⟨h.1, ?_⟩
  rcases h.2 with hn | ⟨g, cap, cur, e, hg, rest⟩
  · exact .inl hn
  · exact .inr ⟨g, cap, cur, e, Nat.le_trans hb hg, rest⟩
/-- The two boxed arguments and the result's cell, and the pages that came in. -/
def Frame4 (B : Nat) (m : Int) (A : Option Addr) (n c : Nat) (f : Bool) (x1 x2 x3 x4 : Int) (ps : List Pg) (w wr : World) : Prop :=
  Blk wr B 96 #[.int .i64 m, .slice A n c] ∧ Blk wr (B + 1) 37 #[.bool f, .int .i64 x1, .int .i64 x2, .int .i64 x3, .int .i64 x4] ∧ Blk wr (B + 1 + 1) 96 #[.int .i64 0, .slice none 0 0] ∧ Row wr B A ps ∧ w.grownBy wr none
theorem frame4_start (m : Int) (A : Option Addr) (n c : Nat) (f : Bool) (x1 x2 x3 x4 : Int) (ps : List Pg) (w : World) (hr : Row w w.heap.size A ps) :
    Frame4 w.heap.size m A n c f x1 x2 x3 x4 ps w (((w.alloc (.cells #[.int .i64 m, .slice A n c] 96)).alloc (.cells #[.bool f, .int .i64 x1, .int .i64 x2, .int .i64 x3, .int .i64 x4] 37)).alloc (.cells #[.int .i64 0, .slice none 0 0] 96)) := by
  refine ⟨((Blk.new w _ _).alloc _).alloc _, ?_, ?_, ((hr.alloc _).alloc _).alloc _, grown_alloc (grown_alloc (grown_alloc (grown_refl _ _) _) _) _⟩
  · have h := (Blk.new (w.alloc (.cells #[.int .i64 m, .slice A n c] 96)) 37 #[.bool f, .int .i64 x1, .int .i64 x2, .int .i64 x3, .int .i64 x4]).alloc (.cells #[.int .i64 0, .slice none 0 0] 96)
    simpa only [size_alloc1] using h
  · have h := Blk.new ((w.alloc (.cells #[.int .i64 m, .slice A n c] 96)).alloc (.cells #[.bool f, .int .i64 x1, .int .i64 x2, .int .i64 x3, .int .i64 x4] 37)) 96 #[.int .i64 0, .slice none 0 0]
    simpa only [size_alloc1] using h
theorem Frame4.keep {B : Nat} {m : Int} {A : Option Addr} {n c : Nat} {f : Bool} {x1 x2 x3 x4 : Int} {ps : List Pg} {w wr w' : World} (h : Frame4 B m A n c f x1 x2 x3 x4 ps w wr) (k : wr.grownBy w' none) : Frame4 B m A n c f x1 x2 x3 x4 ps w w' :=
  ⟨h.1.keep k, h.2.1.keep k, h.2.2.1.keep k, h.2.2.2.1.kept k, grown_trans h.2.2.2.2 k⟩
/-- The same as facts of cells. -/
theorem Frame4.cells {B : Nat} {m : Int} {A : Option Addr} {n c : Nat} {f : Bool} {x1 x2 x3 x4 : Int} {ps : List Pg} {w wr : World} (h : Frame4 B m A n c f x1 x2 x3 x4 ps w wr) :
    wr.cell? ⟨B, 0, none⟩ = some (.int .i64 m) ∧ wr.cell? ⟨B, 1, none⟩ = some (.slice A n c) ∧ wr.cell? ⟨B + 1, 0, none⟩ = some (.bool f) ∧ wr.cell? ⟨B + 1, 1, none⟩ = some (.int .i64 x1) ∧ wr.cell? ⟨B + 1, 2, none⟩ = some (.int .i64 x2) ∧
    wr.cell? ⟨B + 1, 3, none⟩ = some (.int .i64 x3) ∧ wr.cell? ⟨B + 1, 4, none⟩ = some (.int .i64 x4) ∧ wr.cell? ⟨B + 1 + 1, 0, none⟩ = some (.int .i64 0) ∧ wr.cell? ⟨B + 1 + 1, 1, none⟩ = some (.slice none 0 0) ∧
    wr.frozen? ⟨B + 1 + 1, 0, none⟩ = false ∧ wr.frozen? ⟨B + 1 + 1, 1, none⟩ = false :=
  ⟨h.1.cell 0, h.1.cell 1, h.2.1.cell 0, h.2.1.cell 1, h.2.1.cell 2, h.2.1.cell 3, h.2.1.cell 4, h.2.2.1.cell 0, h.2.2.1.cell 1, h.2.2.1.frozen 0, h.2.2.1.frozen 1⟩
theorem specWrite_bad (m : Int) (A : Option Addr) (n c : Nat) (f : Bool) (x1 x2 x3 x4 : Int) (ps : List Pg) (w : World) (hl : ps.length = n) (hr : Row w w.heap.size A ps) (hn : n ≤ 1048576) (hv : blockB m ps = false) :
    Calls Try.prog 117 #[.agg #[.int .i64 m, .slice A n c], .agg #[.bool f, .int .i64 x1, .int .i64 x2, .int .i64 x3, .int .i64 x4]] w (Made2 0 0 [] (.int .i64 (-1)) w) := by
  have HV := Lib.hid (And.intro hl hv)
  clear hv hl
  have HF := Lib.hid (frame4_start m A n c f x1 x2 x3 x4 ps w hr)
  clear hr
  go_enter Try.func117, Try.ntmps117
  go_wp2_with fail
  refine (specBlockValid_val HV.out.1 HV.out.2 _ HF.out.2.2.2.1.here hn).mono ?_
  rintro e w1 ⟨rfl, hk⟩
  replace HF := Lib.hid (HF.out.keep hk)
  clear hk
  obtain ⟨b0, b1, p0, p1, p2, p3, p4, r0, r1, q0, q1⟩ := HF.out.cells
  go_wp2
  exact bodyPost_ret (v := .tuple #[.agg #[.int .i64 0, .slice none 0 0], .int .i64 (-1)]) (by simp [results, Try.results117, go_sem, *]) rfl (made2_zero (grown_put (grown_put HF.out.2.2.2.2 (le2 _) _) (le2 _) _))
theorem specWrite_page (m : Int) (A : Option Addr) (n c : Nat) (f : Bool) (x1 x2 x3 x4 : Int) (ps : List Pg) (w : World) (hl : ps.length = n) (hr : Row w w.heap.size A ps) (hn : n ≤ 1048576) (hv : blockB m ps = true) (hp : (f && pageB f x1 x2 x3 x4) = false) :
    Calls Try.prog 117 #[.agg #[.int .i64 m, .slice A n c], .agg #[.bool f, .int .i64 x1, .int .i64 x2, .int .i64 x3, .int .i64 x4]] w (Made2 0 0 [] (.int .i64 (-1)) w) := by
  cases hp2 : pageB f x1 x2 x3 x4
  · have HV := Lib.hid (And.intro hl (And.intro hv hp2))
    clear hv hl hp hp2
    have HF := Lib.hid (frame4_start m A n c f x1 x2 x3 x4 ps w hr)
    clear hr
    go_enter Try.func117, Try.ntmps117
    go_wp2_with fail
    refine (specBlockValid_val HV.out.1 HV.out.2.1 _ HF.out.2.2.2.1.here hn).mono ?_
    rintro e w1 ⟨rfl, hk⟩
    replace HF := Lib.hid (HF.out.keep hk)
    clear hk
    obtain ⟨b0, b1, p0, p1, p2, p3, p4, r0, r1, q0, q1⟩ := HF.out.cells
    go_wp2_with fail
    clear b0 b1 p0 p1 p2 p3 p4 r0 r1 q0 q1
    refine (specValid_val HV.out.2.2 _).mono ?_
    rintro e w1 ⟨rfl, hk⟩
    replace HF := Lib.hid (HF.out.keep hk)
    clear hk
    obtain ⟨b0, b1, p0, p1, p2, p3, p4, r0, r1, q0, q1⟩ := HF.out.cells
    go_wp2
    exact bodyPost_ret (v := .tuple #[.agg #[.int .i64 0, .slice none 0 0], .int .i64 (-1)]) (by simp [results, Try.results117, go_sem, *]) rfl (made2_zero (grown_put (grown_put HF.out.2.2.2.2 (le2 _) _) (le2 _) _))
  · obtain rfl : f = false := by simpa [hp2] using hp
    have HV := Lib.hid (And.intro hl (And.intro hv hp2))
    clear hv hl hp hp2
    have HF := Lib.hid (frame4_start m A n c false x1 x2 x3 x4 ps w hr)
    clear hr
    go_enter Try.func117, Try.ntmps117
    go_wp2_with fail
    refine (specBlockValid_val HV.out.1 HV.out.2.1 _ HF.out.2.2.2.1.here hn).mono ?_
    rintro e w1 ⟨rfl, hk⟩
    replace HF := Lib.hid (HF.out.keep hk)
    clear hk
    obtain ⟨b0, b1, p0, p1, p2, p3, p4, r0, r1, q0, q1⟩ := HF.out.cells
    go_wp2_with fail
    clear b0 b1 p0 p1 p2 p3 p4 r0 r1 q0 q1
    refine (specValid_val HV.out.2.2 _).mono ?_
    rintro e w1 ⟨rfl, hk⟩
    replace HF := Lib.hid (HF.out.keep hk)
    clear hk
    obtain ⟨b0, b1, p0, p1, p2, p3, p4, r0, r1, q0, q1⟩ := HF.out.cells
    go_wp2
    exact bodyPost_ret (v := .tuple #[.agg #[.int .i64 0, .slice none 0 0], .int .i64 (-1)]) (by simp [results, Try.results117, go_sem, *]) rfl (made2_zero (grown_put (grown_put HF.out.2.2.2.2 (le2 _) _) (le2 _) _))
theorem specWrite_full (m : Int) (A : Option Addr) (c : Nat) (x1 x2 x3 x4 : Int) (ps : List Pg) (w : World) (hr : Row w w.heap.size A ps) (hv : blockB m ps = true) (hp : pageB true x1 x2 x3 x4 = true) (hx : nextV m ps = -1) :
    Calls Try.prog 117 #[.agg #[.int .i64 m, .slice A 4 c], .agg #[.bool true, .int .i64 x1, .int .i64 x2, .int .i64 x3, .int .i64 x4]] w (Made2 m 4 ps (.int .i64 (-1)) w) := by
  have hl := (block_parts hv).2.1
  have HV := Lib.hid (And.intro hl (And.intro hv (hp)))
  have HN := Lib.hid hx
  clear hv hl hp hx
  have HF := Lib.hid (frame4_start m A 4 c true x1 x2 x3 x4 ps w hr)
  clear hr
  go_enter Try.func117, Try.ntmps117
  go_wp2_with fail
  refine (specBlockValid_val HV.out.1 HV.out.2.1 _ HF.out.2.2.2.1.here (by omega)).mono ?_
  rintro e w1 ⟨rfl, hk⟩
  replace HF := Lib.hid (HF.out.keep hk)
  clear hk
  obtain ⟨b0, b1, p0, p1, p2, p3, p4, r0, r1, q0, q1⟩ := HF.out.cells
  go_wp2_with fail
  clear b0 b1 p0 p1 p2 p3 p4 r0 r1 q0 q1
  refine (specValid_val HV.out.2.2 _).mono ?_
  rintro e w1 ⟨rfl, hk⟩
  replace HF := Lib.hid (HF.out.keep hk)
  clear hk
  obtain ⟨b0, b1, p0, p1, p2, p3, p4, r0, r1, q0, q1⟩ := HF.out.cells
  go_wp2_with fail
  clear b0 b1 p0 p1 p2 p3 p4 r0 r1 q0 q1
  refine (specCopy_any _ _ _ _ _ _ HV.out.1 HF.out.2.2.2.1.here (by omega) (by omega)).mono ?_
  rintro e w2 ⟨A2, c2, rfl, _, hown, hk⟩
  have hlt := HF.out.2.2.1.lt
  have hsz := hk.size
  have hm2 := HF.out.2.2.2.2.size
  replace HF := Lib.hid (HF.out.keep hk)
  clear hk
  rcases hown.form with ⟨_, e0⟩ | ⟨g2, c2', e2, hb2, hg2, _, _⟩
  · exact absurd (HV.out.1.symm.trans (congrArg List.length e0)) (by simp)
  injection e2 with e2 e3 e4
  subst e2; subst e4
  clear e3
  have HO := Lib.hid (hown.base_le (Nat.le_trans hm2 (Nat.le_refl _)))
  have HT := Lib.hid (Blk.new w2 96 #[.int .i64 m, .slice (some ⟨g2, 0, none⟩) 4 c2])
  have HF2 := Lib.hid (HF.out.keep (grown_alloc (grown_refl w2 none) (.cells #[.int .i64 m, .slice (some ⟨g2, 0, none⟩) 4 c2] 96)))
  have HO2 := Lib.hid (HO.out.keep (grown_alloc (grown_refl w2 none) (.cells #[.int .i64 m, .slice (some ⟨g2, 0, none⟩) 4 c2] 96)))
  clear hown
  obtain ⟨b0, b1, p0, p1, p2, p3, p4, r0, r1, q0, q1⟩ := HF.out.cells
  have n1 : g2 ≠ w2.heap.size := by omega
  have n2 : w2.heap.size ≠ g2 := by omega
  have l0 : w.heap.size < w2.heap.size := by omega
  have l1 : w.heap.size + 1 < w2.heap.size := by omega
  have l2 : w.heap.size + 1 + 1 < w2.heap.size := by omega
  have n3 : w2.heap.size ≠ w.heap.size := by omega
  have n4 : w2.heap.size ≠ w.heap.size + 1 := by omega
  have n5 : w2.heap.size ≠ w.heap.size + 1 + 1 := by omega
  have n6 : w.heap.size ≠ w2.heap.size := by omega
  have n7 : w.heap.size + 1 ≠ w2.heap.size := by omega
  have n8 : w.heap.size + 1 + 1 ≠ w2.heap.size := by omega
  go_wp2_with fail
  clear b0 b1 p0 p1 p2 p3 p4 r0 r1 q0 q1
  refine (specNext_val HV.out.1 HN.out _ HF2.out.2.2.2.1.here (by omega)).mono ?_
  rintro e w3 ⟨rfl, hk⟩
  have hs3 := hk.size
  simp only [size_alloc1] at hs3
  replace HF := Lib.hid (HF2.out.keep hk)
  have ht := HT.out.keep hk
  have HO3 := Lib.hid (HO2.out.keep hk)
  clear hk HF2 HO2
  obtain ⟨b0, b1, p0, p1, p2, p3, p4, r0, r1, q0, q1⟩ := HF.out.cells
  have t0 : w3.cell? ⟨w2.heap.size, 0, none⟩ = some (.int .i64 m) := ht.cell 0
  have t1 : w3.cell? ⟨w2.heap.size, 1, none⟩ = some (.slice (some ⟨g2, 0, none⟩) 4 c2) := ht.cell 1
  clear ht
  go_wp2
  exact bodyPost_ret (v := .tuple #[.agg #[.int .i64 m, .slice (some ⟨g2, 0, none⟩) 4 c2], .int .i64 (-1)]) (by simp [results, Try.results117, go_sem, *]) rfl
    ⟨_, _, rfl, HV.out.1, (HO3.out.to_put (by simp [Value.ownBlock]; omega) _).to_put (by simp [Value.ownBlock]; omega) _, grown_put (grown_put HF.out.2.2.2.2 (le2 _) _) (le2 _) _⟩
end Go.Proofs.Ytfiajbkmklcaiaa
namespace Go.Proofs.Ytfiajbkmklcaiaa
open Go.ChangeShapes Go.WideShapes Go.ChangeAt Go.RowKit

theorem grown_putO {a w : World} {k o : Nat} (h : a.grownBy w none) (hk : a.heap.size ≤ k) (u0 u1 u2 u3 u4 : Value) :
    a.grownBy (((((w.setCell ⟨k, o, none⟩ u0).setCell ⟨k, o + 1, none⟩ u1).setCell ⟨k, o + 2, none⟩ u2).setCell ⟨k, o + 3, none⟩ u3).setCell ⟨k, o + 4, none⟩ u4) none :=
  grown_put (grown_put (grown_put (grown_put (grown_put h hk u0) hk u1) hk u2) hk u3) hk u4
theorem specWrite_at (m : Int) (A : Option Addr) (c : Nat) (x1 x2 x3 x4 : Int) (ps : List Pg) (w : World) (hr : Row w w.heap.size A ps) (hv : blockB m ps = true) (hp : pageB true x1 x2 x3 x4 = true) {k : Nat} (hx : nextV m ps = (k : Int)) (hk4 : k < 4) :
    Calls Try.prog 117 #[.agg #[.int .i64 m, .slice A 4 c], .agg #[.bool true, .int .i64 x1, .int .i64 x2, .int .i64 x3, .int .i64 x4]] w (Made2 m 4 (ps.set k ⟨true, x1, x2, x3, x4⟩) (.int .i64 k) w) := by
  have hl := (block_parts hv).2.1
  have HV := Lib.hid (And.intro hl (And.intro hv (hp)))
  have HN := Lib.hid hx
  obtain ⟨⟨qf, y1, y2, y3, y4⟩, hq⟩ := getD_at (show k < ps.length by omega)
  have HQ := Lib.hid hq
  clear hq
  clear hv hl hp hx
  have HF := Lib.hid (frame4_start m A 4 c true x1 x2 x3 x4 ps w hr)
  clear hr
  go_enter Try.func117, Try.ntmps117
  go_wp2_with fail
  refine (specBlockValid_val HV.out.1 HV.out.2.1 _ HF.out.2.2.2.1.here (by omega)).mono ?_
  rintro e w1 ⟨rfl, hk⟩
  replace HF := Lib.hid (HF.out.keep hk)
  clear hk
  obtain ⟨b0, b1, p0, p1, p2, p3, p4, r0, r1, q0, q1⟩ := HF.out.cells
  go_wp2_with fail
  clear b0 b1 p0 p1 p2 p3 p4 r0 r1 q0 q1
  refine (specValid_val HV.out.2.2 _).mono ?_
  rintro e w1 ⟨rfl, hk⟩
  replace HF := Lib.hid (HF.out.keep hk)
  clear hk
  obtain ⟨b0, b1, p0, p1, p2, p3, p4, r0, r1, q0, q1⟩ := HF.out.cells
  go_wp2_with fail
  clear b0 b1 p0 p1 p2 p3 p4 r0 r1 q0 q1
  refine (specCopy_any _ _ _ _ _ _ HV.out.1 HF.out.2.2.2.1.here (by omega) (by omega)).mono ?_
  rintro e w2 ⟨A2, c2, rfl, _, hown, hk⟩
  have hlt := HF.out.2.2.1.lt
  have hsz := hk.size
  have hm2 := HF.out.2.2.2.2.size
  replace HF := Lib.hid (HF.out.keep hk)
  clear hk
  rcases hown.form with ⟨_, e0⟩ | ⟨g2, c2', e2, hb2, hg2, _, _⟩
  · exact absurd (HV.out.1.symm.trans (congrArg List.length e0)) (by simp)
  injection e2 with e2 e3 e4
  subst e2; subst e4
  clear e3
  have HO := Lib.hid (hown.base_le (Nat.le_trans hm2 (Nat.le_refl _)))
  have HT := Lib.hid (Blk.new w2 96 #[.int .i64 m, .slice (some ⟨g2, 0, none⟩) 4 c2])
  have HF2 := Lib.hid (HF.out.keep (grown_alloc (grown_refl w2 none) (.cells #[.int .i64 m, .slice (some ⟨g2, 0, none⟩) 4 c2] 96)))
  have HO2 := Lib.hid (HO.out.keep (grown_alloc (grown_refl w2 none) (.cells #[.int .i64 m, .slice (some ⟨g2, 0, none⟩) 4 c2] 96)))
  clear hown
  obtain ⟨b0, b1, p0, p1, p2, p3, p4, r0, r1, q0, q1⟩ := HF.out.cells
  have n1 : g2 ≠ w2.heap.size := by omega
  have n2 : w2.heap.size ≠ g2 := by omega
  have l0 : w.heap.size < w2.heap.size := by omega
  have l1 : w.heap.size + 1 < w2.heap.size := by omega
  have l2 : w.heap.size + 1 + 1 < w2.heap.size := by omega
  have n3 : w2.heap.size ≠ w.heap.size := by omega
  have n4 : w2.heap.size ≠ w.heap.size + 1 := by omega
  have n5 : w2.heap.size ≠ w.heap.size + 1 + 1 := by omega
  have n6 : w.heap.size ≠ w2.heap.size := by omega
  have n7 : w.heap.size + 1 ≠ w2.heap.size := by omega
  have n8 : w.heap.size + 1 + 1 ≠ w2.heap.size := by omega
  go_wp2_with fail
  clear b0 b1 p0 p1 p2 p3 p4 r0 r1 q0 q1
  refine (specNext_val HV.out.1 HN.out _ HF2.out.2.2.2.1.here (by omega)).mono ?_
  rintro e w3 ⟨rfl, hk⟩
  have hs3 := hk.size
  simp only [size_alloc1] at hs3
  replace HF := Lib.hid (HF2.out.keep hk)
  have ht := HT.out.keep hk
  have HO3 := Lib.hid (HO2.out.keep hk)
  clear hk HF2 HO2
  obtain ⟨b0, b1, p0, p1, p2, p3, p4, r0, r1, q0, q1⟩ := HF.out.cells
  have t0 : w3.cell? ⟨w2.heap.size, 0, none⟩ = some (.int .i64 m) := ht.cell 0
  have t1 : w3.cell? ⟨w2.heap.size, 1, none⟩ = some (.slice (some ⟨g2, 0, none⟩) 4 c2) := ht.cell 1
  clear ht
  obtain ⟨d0, d1, d2, d3, d4⟩ := HO3.out.at_ HV.out.1 HQ.out
  have f0 := HO3.out.frozen HV.out.1 (k * 5)
  have f1 := HO3.out.frozen HV.out.1 (k * 5 + 1)
  have f2 := HO3.out.frozen HV.out.1 (k * 5 + 2)
  have f3 := HO3.out.frozen HV.out.1 (k * 5 + 3)
  have f4 := HO3.out.frozen HV.out.1 (k * 5 + 4)
  have m1 : g2 ≠ w.heap.size := by omega
  have m2 : g2 ≠ w.heap.size + 1 := by omega
  have m3 : g2 ≠ w.heap.size + 1 + 1 := by omega
  have m4 : w.heap.size ≠ g2 := by omega
  have m5 : w.heap.size + 1 ≠ g2 := by omega
  have m6 : w.heap.size + 1 + 1 ≠ g2 := by omega
  go_wp2
  exact bodyPost_ret (v := .tuple #[.agg #[.int .i64 m, .slice (some ⟨g2, 0, none⟩) 4 c2], .int .i64 k]) (by simp [results, Try.results117, go_sem, *]) rfl
    ⟨_, _, rfl, by rw [List.length_set]; exact HV.out.1, ((HO3.out.set5 HV.out.1 k ⟨true, x1, x2, x3, x4⟩).to_put (by simp [Value.ownBlock]; omega) _).to_put (by simp [Value.ownBlock]; omega) _, grown_put (grown_put (grown_putO HF.out.2.2.2.2 (by omega) _ _ _ _ _) (le2 _) _) (le2 _) _⟩
end Go.Proofs.Ytfiajbkmklcaiaa
namespace Go.Proofs.Ytfiajbkmklcaiaa
open Go.ChangeShapes Go.WideShapes Go.ChangeAt Go.RowKit

theorem inB_iff {n lo hi : Int} : inB n lo hi = true ↔ lo ≤ n ∧ n ≤ hi := by simp [inB]
/-- The boxed argument, the result's cell, and the pages that came in. -/
def Frame2 (B : Nat) (m : Int) (A : Option Addr) (n c : Nat) (ps : List Pg) (w wr : World) : Prop :=
  Blk wr B 96 #[.int .i64 m, .slice A n c] ∧ Blk wr (B + 1) 96 #[.int .i64 0, .slice none 0 0] ∧ Row wr B A ps ∧ w.grownBy wr none
theorem frame2_start (m : Int) (A : Option Addr) (n c : Nat) (ps : List Pg) (w : World) (hr : Row w w.heap.size A ps) : Frame2 w.heap.size m A n c ps w ((w.alloc (.cells #[.int .i64 m, .slice A n c] 96)).alloc (.cells #[.int .i64 0, .slice none 0 0] 96)) := by
  refine ⟨(Blk.new w _ _).alloc _, ?_, (hr.alloc _).alloc _, grown_alloc (grown_alloc (grown_refl _ _) _) _⟩
  have h := Blk.new (w.alloc (.cells #[.int .i64 m, .slice A n c] 96)) 96 #[.int .i64 0, .slice none 0 0]
  simpa only [size_alloc1] using h
theorem Frame2.keep {B : Nat} {m : Int} {A : Option Addr} {n c : Nat} {ps : List Pg} {w wr w' : World} (h : Frame2 B m A n c ps w wr) (k : wr.grownBy w' none) : Frame2 B m A n c ps w w' :=
  ⟨h.1.keep k, h.2.1.keep k, h.2.2.1.kept k, grown_trans h.2.2.2 k⟩
theorem Frame2.cells {B : Nat} {m : Int} {A : Option Addr} {n c : Nat} {ps : List Pg} {w wr : World} (h : Frame2 B m A n c ps w wr) :
    wr.cell? ⟨B, 0, none⟩ = some (.int .i64 m) ∧ wr.cell? ⟨B, 1, none⟩ = some (.slice A n c) ∧ wr.cell? ⟨B + 1, 0, none⟩ = some (.int .i64 0) ∧ wr.cell? ⟨B + 1, 1, none⟩ = some (.slice none 0 0) ∧
    wr.frozen? ⟨B + 1, 0, none⟩ = false ∧ wr.frozen? ⟨B + 1, 1, none⟩ = false :=
  ⟨h.1.cell 0, h.1.cell 1, h.2.1.cell 0, h.2.1.cell 1, h.2.1.frozen 0, h.2.1.frozen 1⟩
end Go.Proofs.Ytfiajbkmklcaiaa
