/- Chapter 4, further: WriteBlock and EraseBlock of both. -/
import Derived.Test.YtbhbbfpafonaiaaBlocks5
namespace Go.Proofs.Ytbhbbfpafonaiaa
open Go.ChangeShapes Go.WideShapes Go.ChangeAt Go.RowKit

/-- A block with n pages in memory of its own, and another result. -/
def Made2 (m : Int) (n : Nat) (ps : List Pg) (r : Value) (w : World) (e : Ending) (w' : World) : Prop :=
  ∃ A c, e = .returned (.tuple #[.agg #[.int .i64 m, .slice A n c], r]) ∧ ps.length = n ∧ Own w' w.heap.size (.slice A n c) ps ∧ w.grownBy w' none
theorem made2_zero {w w' : World} {r : Value} (h : w.grownBy w' none) : Made2 0 0 [] r w (.returned (.tuple #[.agg #[.int .i64 0, .slice none 0 0], r])) w' := ⟨none, 0, rfl, rfl, World.ownsRow_nil _ _ _ _, h⟩
theorem next_val {m : Int} {A : Option Addr} {c n : Nat} {ps : List Pg} {V : Int} (hl : ps.length = n) (h : nextV m ps = V) (w : World) (hr : Row w w.heap.size A ps) (hn : n ≤ 1048576) :
    Calls Try.prog 48 #[.agg #[.int .i64 m, .slice A n c]] w (KeptV (.int .i64 V) w) := by subst hl; exact h ▸ next_any m A c ps w hr hn
theorem specNext_val {m : Int} {A : Option Addr} {c n : Nat} {ps : List Pg} {V : Int} (hl : ps.length = n) (h : nextV m ps = V) (w : World) (hr : Row w w.heap.size A ps) (hn : n ≤ 1048576) :
    Calls Try.prog 50 #[.agg #[.int .i64 m, .slice A n c]] w (KeptV (.int .i64 V) w) := by subst hl; exact h ▸ specNext_any m A c ps w hr hn
theorem le2 (n : Nat) : n ≤ n + 1 + 1 := by omega
theorem Row.here {w : World} {B : Nat} {A : Option Addr} {ps : List Pg} (h : Row w B A ps) : Row w w.heap.size A ps := fun hn => by
  obtain ⟨g, off, e, _, hz, hc⟩ := h hn
  exact ⟨g, off, e, hz, hz, hc⟩
theorem Own.base_le {w : World} {base base' : Nat} {v : Value} {ps : List Pg} (h : Own w base v ps) (hb : base' ≤ base) : Own w base' v ps := by
  refine ⟨h.1, ?_⟩
  rcases h.2 with hn | ⟨g, cap, cur, e, hg, rest⟩
  · exact .inl hn
  · exact .inr ⟨g, cap, cur, e, Nat.le_trans hb hg, rest⟩
/-- The two boxed arguments and the result's cell, and the pages that came in. -/
def Frame4 (B : Nat) (m : Int) (A : Option Addr) (n c : Nat) (f : Bool) (x1 x2 x3 x4 : Int) (ps : List Pg) (w wr : World) : Prop :=
  Blk wr B 28 #[.int .i64 m, .slice A n c] ∧ Blk wr (B + 1) 34 #[.bool f, .int .i64 x1, .int .i64 x2, .int .i64 x3, .int .i64 x4] ∧ Blk wr (B + 1 + 1) 28 #[.int .i64 0, .slice none 0 0] ∧ Row wr B A ps ∧ w.grownBy wr none
theorem frame4_start (m : Int) (A : Option Addr) (n c : Nat) (f : Bool) (x1 x2 x3 x4 : Int) (ps : List Pg) (w : World) (hr : Row w w.heap.size A ps) :
    Frame4 w.heap.size m A n c f x1 x2 x3 x4 ps w (((w.alloc (.cells #[.int .i64 m, .slice A n c] 28)).alloc (.cells #[.bool f, .int .i64 x1, .int .i64 x2, .int .i64 x3, .int .i64 x4] 34)).alloc (.cells #[.int .i64 0, .slice none 0 0] 28)) := by
  refine ⟨((Blk.new w _ _).alloc _).alloc _, ?_, ?_, ((hr.alloc _).alloc _).alloc _, grown_alloc (grown_alloc (grown_alloc (grown_refl _ _) _) _) _⟩
  · have h := (Blk.new (w.alloc (.cells #[.int .i64 m, .slice A n c] 28)) 34 #[.bool f, .int .i64 x1, .int .i64 x2, .int .i64 x3, .int .i64 x4]).alloc (.cells #[.int .i64 0, .slice none 0 0] 28)
    simpa only [size_alloc1] using h
  · have h := Blk.new ((w.alloc (.cells #[.int .i64 m, .slice A n c] 28)).alloc (.cells #[.bool f, .int .i64 x1, .int .i64 x2, .int .i64 x3, .int .i64 x4] 34)) 28 #[.int .i64 0, .slice none 0 0]
    simpa only [size_alloc1] using h
theorem Frame4.keep {B : Nat} {m : Int} {A : Option Addr} {n c : Nat} {f : Bool} {x1 x2 x3 x4 : Int} {ps : List Pg} {w wr w' : World} (h : Frame4 B m A n c f x1 x2 x3 x4 ps w wr) (k : wr.grownBy w' none) : Frame4 B m A n c f x1 x2 x3 x4 ps w w' :=
  ⟨h.1.keep k, h.2.1.keep k, h.2.2.1.keep k, h.2.2.2.1.kept k, grown_trans h.2.2.2.2 k⟩
/-- The same as facts of cells. -/
theorem Frame4.cells {B : Nat} {m : Int} {A : Option Addr} {n c : Nat} {f : Bool} {x1 x2 x3 x4 : Int} {ps : List Pg} {w wr : World} (h : Frame4 B m A n c f x1 x2 x3 x4 ps w wr) :
    wr.cell? ⟨B, 0, none⟩ = some (.int .i64 m) ∧ wr.cell? ⟨B, 1, none⟩ = some (.slice A n c) ∧ wr.cell? ⟨B + 1, 0, none⟩ = some (.bool f) ∧ wr.cell? ⟨B + 1, 1, none⟩ = some (.int .i64 x1) ∧ wr.cell? ⟨B + 1, 2, none⟩ = some (.int .i64 x2) ∧
    wr.cell? ⟨B + 1, 3, none⟩ = some (.int .i64 x3) ∧ wr.cell? ⟨B + 1, 4, none⟩ = some (.int .i64 x4) ∧ wr.cell? ⟨B + 1 + 1, 0, none⟩ = some (.int .i64 0) ∧ wr.cell? ⟨B + 1 + 1, 1, none⟩ = some (.slice none 0 0) ∧
    wr.frozen? ⟨B + 1 + 1, 0, none⟩ = false ∧ wr.frozen? ⟨B + 1 + 1, 1, none⟩ = false :=
  ⟨h.1.cell 0, h.1.cell 1, h.2.1.cell 0, h.2.1.cell 1, h.2.1.cell 2, h.2.1.cell 3, h.2.1.cell 4, h.2.2.1.cell 0, h.2.2.1.cell 1, h.2.2.1.frozen 0, h.2.2.1.frozen 1⟩
theorem write_bad (m : Int) (A : Option Addr) (n c : Nat) (f : Bool) (x1 x2 x3 x4 : Int) (ps : List Pg) (w : World) (hl : ps.length = n) (hr : Row w w.heap.size A ps) (hn : n ≤ 1048576) (hv : blockB m ps = false) :
    Calls Try.prog 30 #[.agg #[.int .i64 m, .slice A n c], .agg #[.bool f, .int .i64 x1, .int .i64 x2, .int .i64 x3, .int .i64 x4]] w (Made2 0 0 [] (.int .i64 (-1)) w) := by
  have HV := Lib.hid (And.intro hl hv)
  clear hv hl
  have HF := Lib.hid (frame4_start m A n c f x1 x2 x3 x4 ps w hr)
  clear hr
  go_enter Try.func30, Try.ntmps30
  go_wp2_with fail
  refine (blockValid_val HV.out.1 HV.out.2 _ HF.out.2.2.2.1.here hn).mono ?_
  rintro e w1 ⟨rfl, hk⟩
  replace HF := Lib.hid (HF.out.keep hk)
  clear hk
  obtain ⟨b0, b1, p0, p1, p2, p3, p4, r0, r1, q0, q1⟩ := HF.out.cells
  go_wp2
  exact bodyPost_ret (v := .tuple #[.agg #[.int .i64 0, .slice none 0 0], .int .i64 (-1)]) (by simp [results, Try.results30, go_sem, *]) rfl (made2_zero (grown_put (grown_put HF.out.2.2.2.2 (le2 _) _) (le2 _) _))
theorem write_page (m : Int) (A : Option Addr) (n c : Nat) (f : Bool) (x1 x2 x3 x4 : Int) (ps : List Pg) (w : World) (hl : ps.length = n) (hr : Row w w.heap.size A ps) (hn : n ≤ 1048576) (hv : blockB m ps = true) (hp : (f && pageB f x1 x2 x3 x4) = false) :
    Calls Try.prog 30 #[.agg #[.int .i64 m, .slice A n c], .agg #[.bool f, .int .i64 x1, .int .i64 x2, .int .i64 x3, .int .i64 x4]] w (Made2 0 0 [] (.int .i64 (-1)) w) := by
  have HV := Lib.hid (And.intro hl (And.intro hv hp))
  clear hv hl hp
  have HF := Lib.hid (frame4_start m A n c f x1 x2 x3 x4 ps w hr)
  clear hr
  go_enter Try.func30, Try.ntmps30
  go_wp2_with fail
  refine (blockValid_val HV.out.1 HV.out.2.1 _ HF.out.2.2.2.1.here hn).mono ?_
  rintro e w1 ⟨rfl, hk⟩
  replace HF := Lib.hid (HF.out.keep hk)
  clear hk
  obtain ⟨b0, b1, p0, p1, p2, p3, p4, r0, r1, q0, q1⟩ := HF.out.cells
  go_wp2_with fail
  clear b0 b1 p0 p1 p2 p3 p4 r0 r1 q0 q1
  refine (isWritten_val HV.out.2.2 _).mono ?_
  rintro e w1 ⟨rfl, hk⟩
  replace HF := Lib.hid (HF.out.keep hk)
  clear hk
  obtain ⟨b0, b1, p0, p1, p2, p3, p4, r0, r1, q0, q1⟩ := HF.out.cells
  go_wp2
  exact bodyPost_ret (v := .tuple #[.agg #[.int .i64 0, .slice none 0 0], .int .i64 (-1)]) (by simp [results, Try.results30, go_sem, *]) rfl (made2_zero (grown_put (grown_put HF.out.2.2.2.2 (le2 _) _) (le2 _) _))
theorem write_full (m : Int) (A : Option Addr) (c : Nat) (x1 x2 x3 x4 : Int) (ps : List Pg) (w : World) (hr : Row w w.heap.size A ps) (hv : blockB m ps = true) (hp : pageB true x1 x2 x3 x4 = true) (hx : nextV m ps = -1) :
    Calls Try.prog 30 #[.agg #[.int .i64 m, .slice A 4 c], .agg #[.bool true, .int .i64 x1, .int .i64 x2, .int .i64 x3, .int .i64 x4]] w (Made2 m 4 ps (.int .i64 (-1)) w) := by
  have hl := (block_parts hv).2.1
  have HV := Lib.hid (And.intro hl (And.intro hv (show (true && pageB true x1 x2 x3 x4) = true by simp [hp])))
  have HN := Lib.hid hx
  clear hv hl hp hx
  have HF := Lib.hid (frame4_start m A 4 c true x1 x2 x3 x4 ps w hr)
  clear hr
  go_enter Try.func30, Try.ntmps30
  go_wp2_with fail
  refine (blockValid_val HV.out.1 HV.out.2.1 _ HF.out.2.2.2.1.here (by omega)).mono ?_
  rintro e w1 ⟨rfl, hk⟩
  replace HF := Lib.hid (HF.out.keep hk)
  clear hk
  obtain ⟨b0, b1, p0, p1, p2, p3, p4, r0, r1, q0, q1⟩ := HF.out.cells
  go_wp2_with fail
  clear b0 b1 p0 p1 p2 p3 p4 r0 r1 q0 q1
  refine (isWritten_val HV.out.2.2 _).mono ?_
  rintro e w1 ⟨rfl, hk⟩
  replace HF := Lib.hid (HF.out.keep hk)
  clear hk
  obtain ⟨b0, b1, p0, p1, p2, p3, p4, r0, r1, q0, q1⟩ := HF.out.cells
  go_wp2_with fail
  clear b0 b1 p0 p1 p2 p3 p4 r0 r1 q0 q1
  refine (copyBlock_any _ _ _ _ _ _ HV.out.1 HF.out.2.2.2.1.here (by omega) (by omega)).mono ?_
  rintro e w2 ⟨A2, c2, rfl, _, hown, hk⟩
  have hlt := HF.out.2.2.1.lt
  have hsz := hk.size
  have hm2 := HF.out.2.2.2.2.size
  replace HF := Lib.hid (HF.out.keep hk)
  clear hk
  rcases hown.form with ⟨_, e0⟩ | ⟨g2, c2', e2, hb2, hg2, _, _⟩
  · exact absurd (HV.out.1.symm.trans (congrArg List.length e0)) (by simp)
  injection e2 with e2 e3 e4
  subst e2; subst e4
  clear e3
  have HO := Lib.hid (hown.base_le (Nat.le_trans hm2 (Nat.le_refl _)))
  have HT := Lib.hid (Blk.new w2 28 #[.int .i64 m, .slice (some ⟨g2, 0, none⟩) 4 c2])
  have HF2 := Lib.hid (HF.out.keep (grown_alloc (grown_refl w2 none) (.cells #[.int .i64 m, .slice (some ⟨g2, 0, none⟩) 4 c2] 28)))
  have HO2 := Lib.hid (HO.out.keep (grown_alloc (grown_refl w2 none) (.cells #[.int .i64 m, .slice (some ⟨g2, 0, none⟩) 4 c2] 28)))
  clear hown
  obtain ⟨b0, b1, p0, p1, p2, p3, p4, r0, r1, q0, q1⟩ := HF.out.cells
  have n1 : g2 ≠ w2.heap.size := by omega
  have n2 : w2.heap.size ≠ g2 := by omega
  have l0 : w.heap.size < w2.heap.size := by omega
  have l1 : w.heap.size + 1 < w2.heap.size := by omega
  have l2 : w.heap.size + 1 + 1 < w2.heap.size := by omega
  have n3 : w2.heap.size ≠ w.heap.size := by omega
  have n4 : w2.heap.size ≠ w.heap.size + 1 := by omega
  have n5 : w2.heap.size ≠ w.heap.size + 1 + 1 := by omega
  have n6 : w.heap.size ≠ w2.heap.size := by omega
  have n7 : w.heap.size + 1 ≠ w2.heap.size := by omega
  have n8 : w.heap.size + 1 + 1 ≠ w2.heap.size := by omega
  go_wp2_with fail
  clear b0 b1 p0 p1 p2 p3 p4 r0 r1 q0 q1
  refine (next_val HV.out.1 HN.out _ HF2.out.2.2.2.1.here (by omega)).mono ?_
  rintro e w3 ⟨rfl, hk⟩
  have hs3 := hk.size
  simp only [size_alloc1] at hs3
  replace HF := Lib.hid (HF2.out.keep hk)
  have ht := HT.out.keep hk
  have HO3 := Lib.hid (HO2.out.keep hk)
  clear hk HF2 HO2
  obtain ⟨b0, b1, p0, p1, p2, p3, p4, r0, r1, q0, q1⟩ := HF.out.cells
  have t0 : w3.cell? ⟨w2.heap.size, 0, none⟩ = some (.int .i64 m) := ht.cell 0
  have t1 : w3.cell? ⟨w2.heap.size, 1, none⟩ = some (.slice (some ⟨g2, 0, none⟩) 4 c2) := ht.cell 1
  clear ht
  go_wp2
  exact bodyPost_ret (v := .tuple #[.agg #[.int .i64 m, .slice (some ⟨g2, 0, none⟩) 4 c2], .int .i64 (-1)]) (by simp [results, Try.results30, go_sem, *]) rfl
    ⟨_, _, rfl, HV.out.1, (HO3.out.to_put (by simp [Value.ownBlock]; omega) _).to_put (by simp [Value.ownBlock]; omega) _, grown_put (grown_put HF.out.2.2.2.2 (le2 _) _) (le2 _) _⟩
theorem specWrite_bad (m : Int) (A : Option Addr) (n c : Nat) (f : Bool) (x1 x2 x3 x4 : Int) (ps : List Pg) (w : World) (hl : ps.length = n) (hr : Row w w.heap.size A ps) (hn : n ≤ 1048576) (hv : blockB m ps = false) :
    Calls Try.prog 34 #[.agg #[.int .i64 m, .slice A n c], .agg #[.bool f, .int .i64 x1, .int .i64 x2, .int .i64 x3, .int .i64 x4]] w (Made2 0 0 [] (.int .i64 (-1)) w) := by
  have HV := Lib.hid (And.intro hl hv)
  clear hv hl
  have HF := Lib.hid (frame4_start m A n c f x1 x2 x3 x4 ps w hr)
  clear hr
  go_enter Try.func34, Try.ntmps34
  go_wp2_with fail
  refine (specBlockValid_val HV.out.1 HV.out.2 _ HF.out.2.2.2.1.here hn).mono ?_
  rintro e w1 ⟨rfl, hk⟩
  replace HF := Lib.hid (HF.out.keep hk)
  clear hk
  obtain ⟨b0, b1, p0, p1, p2, p3, p4, r0, r1, q0, q1⟩ := HF.out.cells
  go_wp2
  exact bodyPost_ret (v := .tuple #[.agg #[.int .i64 0, .slice none 0 0], .int .i64 (-1)]) (by simp [results, Try.results34, go_sem, *]) rfl (made2_zero (grown_put (grown_put HF.out.2.2.2.2 (le2 _) _) (le2 _) _))
theorem specWrite_page (m : Int) (A : Option Addr) (n c : Nat) (f : Bool) (x1 x2 x3 x4 : Int) (ps : List Pg) (w : World) (hl : ps.length = n) (hr : Row w w.heap.size A ps) (hn : n ≤ 1048576) (hv : blockB m ps = true) (hp : (f && pageB f x1 x2 x3 x4) = false) :
    Calls Try.prog 34 #[.agg #[.int .i64 m, .slice A n c], .agg #[.bool f, .int .i64 x1, .int .i64 x2, .int .i64 x3, .int .i64 x4]] w (Made2 0 0 [] (.int .i64 (-1)) w) := by
  cases hp2 : pageB f x1 x2 x3 x4
  · have HV := Lib.hid (And.intro hl (And.intro hv hp2))
    clear hv hl hp hp2
    have HF := Lib.hid (frame4_start m A n c f x1 x2 x3 x4 ps w hr)
    clear hr
    go_enter Try.func34, Try.ntmps34
    go_wp2_with fail
    refine (specBlockValid_val HV.out.1 HV.out.2.1 _ HF.out.2.2.2.1.here hn).mono ?_
    rintro e w1 ⟨rfl, hk⟩
    replace HF := Lib.hid (HF.out.keep hk)
    clear hk
    obtain ⟨b0, b1, p0, p1, p2, p3, p4, r0, r1, q0, q1⟩ := HF.out.cells
    go_wp2_with fail
    clear b0 b1 p0 p1 p2 p3 p4 r0 r1 q0 q1
    refine (specValid_val HV.out.2.2 _).mono ?_
    rintro e w1 ⟨rfl, hk⟩
    replace HF := Lib.hid (HF.out.keep hk)
    clear hk
    obtain ⟨b0, b1, p0, p1, p2, p3, p4, r0, r1, q0, q1⟩ := HF.out.cells
    go_wp2
    exact bodyPost_ret (v := .tuple #[.agg #[.int .i64 0, .slice none 0 0], .int .i64 (-1)]) (by simp [results, Try.results34, go_sem, *]) rfl (made2_zero (grown_put (grown_put HF.out.2.2.2.2 (le2 _) _) (le2 _) _))
  · obtain rfl : f = false := by simpa [hp2] using hp
    have HV := Lib.hid (And.intro hl (And.intro hv hp2))
    clear hv hl hp hp2
    have HF := Lib.hid (frame4_start m A n c false x1 x2 x3 x4 ps w hr)
    clear hr
    go_enter Try.func34, Try.ntmps34
    go_wp2_with fail
    refine (specBlockValid_val HV.out.1 HV.out.2.1 _ HF.out.2.2.2.1.here hn).mono ?_
    rintro e w1 ⟨rfl, hk⟩
    replace HF := Lib.hid (HF.out.keep hk)
    clear hk
    obtain ⟨b0, b1, p0, p1, p2, p3, p4, r0, r1, q0, q1⟩ := HF.out.cells
    go_wp2_with fail
    clear b0 b1 p0 p1 p2 p3 p4 r0 r1 q0 q1
    refine (specValid_val HV.out.2.2 _).mono ?_
    rintro e w1 ⟨rfl, hk⟩
    replace HF := Lib.hid (HF.out.keep hk)
    clear hk
    obtain ⟨b0, b1, p0, p1, p2, p3, p4, r0, r1, q0, q1⟩ := HF.out.cells
    go_wp2
    exact bodyPost_ret (v := .tuple #[.agg #[.int .i64 0, .slice none 0 0], .int .i64 (-1)]) (by simp [results, Try.results34, go_sem, *]) rfl (made2_zero (grown_put (grown_put HF.out.2.2.2.2 (le2 _) _) (le2 _) _))
theorem specWrite_full (m : Int) (A : Option Addr) (c : Nat) (x1 x2 x3 x4 : Int) (ps : List Pg) (w : World) (hr : Row w w.heap.size A ps) (hv : blockB m ps = true) (hp : pageB true x1 x2 x3 x4 = true) (hx : nextV m ps = -1) :
    Calls Try.prog 34 #[.agg #[.int .i64 m, .slice A 4 c], .agg #[.bool true, .int .i64 x1, .int .i64 x2, .int .i64 x3, .int .i64 x4]] w (Made2 m 4 ps (.int .i64 (-1)) w) := by
  have hl := (block_parts hv).2.1
  have HV := Lib.hid (And.intro hl (And.intro hv (hp)))
  have HN := Lib.hid hx
  clear hv hl hp hx
  have HF := Lib.hid (frame4_start m A 4 c true x1 x2 x3 x4 ps w hr)
  clear hr
  go_enter Try.func34, Try.ntmps34
  go_wp2_with fail
  refine (specBlockValid_val HV.out.1 HV.out.2.1 _ HF.out.2.2.2.1.here (by omega)).mono ?_
  rintro e w1 ⟨rfl, hk⟩
  replace HF := Lib.hid (HF.out.keep hk)
  clear hk
  obtain ⟨b0, b1, p0, p1, p2, p3, p4, r0, r1, q0, q1⟩ := HF.out.cells
  go_wp2_with fail
  clear b0 b1 p0 p1 p2 p3 p4 r0 r1 q0 q1
  refine (specValid_val HV.out.2.2 _).mono ?_
  rintro e w1 ⟨rfl, hk⟩
  replace HF := Lib.hid (HF.out.keep hk)
  clear hk
  obtain ⟨b0, b1, p0, p1, p2, p3, p4, r0, r1, q0, q1⟩ := HF.out.cells
  go_wp2_with fail
  clear b0 b1 p0 p1 p2 p3 p4 r0 r1 q0 q1
  refine (specCopy_any _ _ _ _ _ _ HV.out.1 HF.out.2.2.2.1.here (by omega) (by omega)).mono ?_
  rintro e w2 ⟨A2, c2, rfl, _, hown, hk⟩
  have hlt := HF.out.2.2.1.lt
  have hsz := hk.size
  have hm2 := HF.out.2.2.2.2.size
  replace HF := Lib.hid (HF.out.keep hk)
  clear hk
  rcases hown.form with ⟨_, e0⟩ | ⟨g2, c2', e2, hb2, hg2, _, _⟩
  · exact absurd (HV.out.1.symm.trans (congrArg List.length e0)) (by simp)
  injection e2 with e2 e3 e4
  subst e2; subst e4
  clear e3
  have HO := Lib.hid (hown.base_le (Nat.le_trans hm2 (Nat.le_refl _)))
  have HT := Lib.hid (Blk.new w2 28 #[.int .i64 m, .slice (some ⟨g2, 0, none⟩) 4 c2])
  have HF2 := Lib.hid (HF.out.keep (grown_alloc (grown_refl w2 none) (.cells #[.int .i64 m, .slice (some ⟨g2, 0, none⟩) 4 c2] 28)))
  have HO2 := Lib.hid (HO.out.keep (grown_alloc (grown_refl w2 none) (.cells #[.int .i64 m, .slice (some ⟨g2, 0, none⟩) 4 c2] 28)))
  clear hown
  obtain ⟨b0, b1, p0, p1, p2, p3, p4, r0, r1, q0, q1⟩ := HF.out.cells
  have n1 : g2 ≠ w2.heap.size := by omega
  have n2 : w2.heap.size ≠ g2 := by omega
  have l0 : w.heap.size < w2.heap.size := by omega
  have l1 : w.heap.size + 1 < w2.heap.size := by omega
  have l2 : w.heap.size + 1 + 1 < w2.heap.size := by omega
  have n3 : w2.heap.size ≠ w.heap.size := by omega
  have n4 : w2.heap.size ≠ w.heap.size + 1 := by omega
  have n5 : w2.heap.size ≠ w.heap.size + 1 + 1 := by omega
  have n6 : w.heap.size ≠ w2.heap.size := by omega
  have n7 : w.heap.size + 1 ≠ w2.heap.size := by omega
  have n8 : w.heap.size + 1 + 1 ≠ w2.heap.size := by omega
  go_wp2_with fail
  clear b0 b1 p0 p1 p2 p3 p4 r0 r1 q0 q1
  refine (specNext_val HV.out.1 HN.out _ HF2.out.2.2.2.1.here (by omega)).mono ?_
  rintro e w3 ⟨rfl, hk⟩
  have hs3 := hk.size
  simp only [size_alloc1] at hs3
  replace HF := Lib.hid (HF2.out.keep hk)
  have ht := HT.out.keep hk
  have HO3 := Lib.hid (HO2.out.keep hk)
  clear hk HF2 HO2
  obtain ⟨b0, b1, p0, p1, p2, p3, p4, r0, r1, q0, q1⟩ := HF.out.cells
  have t0 : w3.cell? ⟨w2.heap.size, 0, none⟩ = some (.int .i64 m) := ht.cell 0
  have t1 : w3.cell? ⟨w2.heap.size, 1, none⟩ = some (.slice (some ⟨g2, 0, none⟩) 4 c2) := ht.cell 1
  clear ht
  go_wp2
  exact bodyPost_ret (v := .tuple #[.agg #[.int .i64 m, .slice (some ⟨g2, 0, none⟩) 4 c2], .int .i64 (-1)]) (by simp [results, Try.results34, go_sem, *]) rfl
    ⟨_, _, rfl, HV.out.1, (HO3.out.to_put (by simp [Value.ownBlock]; omega) _).to_put (by simp [Value.ownBlock]; omega) _, grown_put (grown_put HF.out.2.2.2.2 (le2 _) _) (le2 _) _⟩
end Go.Proofs.Ytbhbbfpafonaiaa
