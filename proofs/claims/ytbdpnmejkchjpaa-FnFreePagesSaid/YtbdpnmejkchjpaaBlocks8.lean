/- Chapter 4, further: EraseBlock of both. -/
import Derived.Test.YtbdpnmejkchjpaaBlocks7
namespace Go.Proofs.Ytbdpnmejkchjpaa
open Go.ChangeShapes Go.WideShapes Go.ChangeAt Go.RowKit

theorem inB_iff {n lo hi : Int} : inB n lo hi = true ↔ lo ≤ n ∧ n ≤ hi := by simp [inB]
/-- The boxed argument, the result's cell, and the pages that came in. -/
def Frame2 (B : Nat) (m : Int) (A : Option Addr) (n c : Nat) (ps : List Pg) (w wr : World) : Prop :=
  Blk wr B 58 #[.int .i64 m, .slice A n c] ∧ Blk wr (B + 1) 58 #[.int .i64 0, .slice none 0 0] ∧ Row wr B A ps ∧ w.grownBy wr none
theorem frame2_start (m : Int) (A : Option Addr) (n c : Nat) (ps : List Pg) (w : World) (hr : Row w w.heap.size A ps) : Frame2 w.heap.size m A n c ps w ((w.alloc (.cells #[.int .i64 m, .slice A n c] 58)).alloc (.cells #[.int .i64 0, .slice none 0 0] 58)) := by
  refine ⟨(Blk.new w _ _).alloc _, ?_, (hr.alloc _).alloc _, grown_alloc (grown_alloc (grown_refl _ _) _) _⟩
  have h := Blk.new (w.alloc (.cells #[.int .i64 m, .slice A n c] 58)) 58 #[.int .i64 0, .slice none 0 0]
  simpa only [size_alloc1] using h
theorem Frame2.keep {B : Nat} {m : Int} {A : Option Addr} {n c : Nat} {ps : List Pg} {w wr w' : World} (h : Frame2 B m A n c ps w wr) (k : wr.grownBy w' none) : Frame2 B m A n c ps w w' :=
  ⟨h.1.keep k, h.2.1.keep k, h.2.2.1.kept k, grown_trans h.2.2.2 k⟩
theorem Frame2.cells {B : Nat} {m : Int} {A : Option Addr} {n c : Nat} {ps : List Pg} {w wr : World} (h : Frame2 B m A n c ps w wr) :
    wr.cell? ⟨B, 0, none⟩ = some (.int .i64 m) ∧ wr.cell? ⟨B, 1, none⟩ = some (.slice A n c) ∧ wr.cell? ⟨B + 1, 0, none⟩ = some (.int .i64 0) ∧ wr.cell? ⟨B + 1, 1, none⟩ = some (.slice none 0 0) ∧
    wr.frozen? ⟨B + 1, 0, none⟩ = false ∧ wr.frozen? ⟨B + 1, 1, none⟩ = false :=
  ⟨h.1.cell 0, h.1.cell 1, h.2.1.cell 0, h.2.1.cell 1, h.2.1.frozen 0, h.2.1.frozen 1⟩
theorem erase_bad (m : Int) (A : Option Addr) (n c : Nat) (ps : List Pg) (w : World) (hl : ps.length = n) (hr : Row w w.heap.size A ps) (hn : n ≤ 1048576) (hv : blockB m ps = false) :
    Calls Try.prog 55 #[.agg #[.int .i64 m, .slice A n c]] w (Made2 0 0 [] (.bool false) w) := by
  have HV := Lib.hid (And.intro hl hv)
  clear hv hl
  have HF := Lib.hid (frame2_start m A n c ps w hr)
  clear hr
  go_enter Try.func55, Try.ntmps55
  go_wp2_with fail
  refine (blockValid_val HV.out.1 HV.out.2 _ HF.out.2.2.1.here hn).mono ?_
  rintro e w1 ⟨rfl, hk⟩
  replace HF := Lib.hid (HF.out.keep hk)
  clear hk
  obtain ⟨b0, b1, r0, r1, q0, q1⟩ := HF.out.cells
  go_wp2
  exact bodyPost_ret (v := .tuple #[.agg #[.int .i64 0, .slice none 0 0], .bool false]) (by simp [results, Try.results55, go_sem, *]) rfl (made2_zero (grown_put (grown_put HF.out.2.2.2 (Nat.le_succ _) _) (Nat.le_succ _) _))
theorem erase_max (m : Int) (A : Option Addr) (c : Nat) (ps : List Pg) (w : World) (hr : Row w w.heap.size A ps) (hv : blockB m ps = true) (hm : m = 100) :
    Calls Try.prog 55 #[.agg #[.int .i64 m, .slice A 4 c]] w (Made2 m 4 ps (.bool false) w) := by
  have hl := (block_parts hv).2.1
  have HV := Lib.hid (And.intro hl hv)
  have t1 : (m == 100) = true := by simp [hm]
  clear hv hl hm
  have HF := Lib.hid (frame2_start m A 4 c ps w hr)
  clear hr
  go_enter Try.func55, Try.ntmps55
  go_wp2_with fail
  refine (blockValid_val HV.out.1 HV.out.2 _ HF.out.2.2.1.here (by omega)).mono ?_
  rintro e w1 ⟨rfl, hk⟩
  replace HF := Lib.hid (HF.out.keep hk)
  clear hk
  obtain ⟨b0, b1, r0, r1, q0, q1⟩ := HF.out.cells
  go_wp2_with fail
  clear b0 b1 r0 r1 q0 q1
  refine (copyBlock_any _ _ _ _ _ _ HV.out.1 HF.out.2.2.1.here (by omega) (by omega)).mono ?_
  rintro e w2 ⟨A2, c2, rfl, _, hown, hk⟩
  have hlt := HF.out.2.1.lt
  have hm2 := HF.out.2.2.2.size
  replace HF := Lib.hid (HF.out.keep hk)
  clear hk
  rcases hown.form with ⟨_, e0⟩ | ⟨g2, c2', e2, hb2, hg2, _, _⟩
  · exact absurd (HV.out.1.symm.trans (congrArg List.length e0)) (by simp)
  injection e2 with e2 e3 e4
  subst e2; subst e4
  clear e3
  have HO := Lib.hid (hown.base_le (Nat.le_trans hm2 (Nat.le_refl _)))
  clear hown
  have hne : g2 ≠ w.heap.size + 1 := by omega
  have HE := Lib.hid hne
  clear hne
  obtain ⟨b0, b1, r0, r1, q0, q1⟩ := HF.out.cells
  go_wp2
  exact bodyPost_ret (v := .tuple #[.agg #[.int .i64 m, .slice (some ⟨g2, 0, none⟩) 4 c2], .bool false]) (by simp [results, Try.results55, go_sem, *]) rfl
    ⟨_, _, rfl, HV.out.1, (HO.out.to_put (by simpa [Value.ownBlock] using HE.out) _).to_put (by simpa [Value.ownBlock] using HE.out) _, grown_put (grown_put HF.out.2.2.2 (Nat.le_succ _) _) (Nat.le_succ _) _⟩
theorem erase_ok (m : Int) (A : Option Addr) (c : Nat) (ps : List Pg) (w : World) (hr : Row w w.heap.size A ps) (hv : blockB m ps = true) (hm : m ≠ 100) :
    Calls Try.prog 55 #[.agg #[.int .i64 m, .slice A 4 c]] w (Made2 (m + 1) 4 [pz, pz, pz, pz] (.bool true) w) := by
  have hl := (block_parts hv).2.1
  have HV := Lib.hid (And.intro hl hv)
  have t1 : (m == 100) = false := by simp [hm]
  have hb := inB_iff.1 (block_parts hv).1
  obtain ⟨hb0, hb1⟩ := hb
  have HB := Lib.hid (show inB (m + 1) 0 100 = true from inB_iff.2 ⟨by omega, by omega⟩)
  clear hv hl hm
  have HF := Lib.hid (frame2_start m A 4 c ps w hr)
  clear hr
  go_enter Try.func55, Try.ntmps55
  go_wp2_with fail
  refine (blockValid_val HV.out.1 HV.out.2 _ HF.out.2.2.1.here (by omega)).mono ?_
  rintro e w1 ⟨rfl, hk⟩
  replace HF := Lib.hid (HF.out.keep hk)
  clear hk
  obtain ⟨b0, b1, r0, r1, q0, q1⟩ := HF.out.cells
  go_wp2_with fail
  clear b0 b1 r0 r1 q0 q1
  refine (newBlock_any _ _ HB.out).mono ?_
  rintro e w2 ⟨A2, c2, rfl, _, hown, hk⟩
  have hlt := HF.out.2.1.lt
  have hm2 := HF.out.2.2.2.size
  replace HF := Lib.hid (HF.out.keep hk)
  clear hk
  rcases hown.form with ⟨_, e0⟩ | ⟨g2, c2', e2, hb2, hg2, _, _⟩
  · exact absurd (congrArg List.length e0) (by simp)
  injection e2 with e2 e3 e4
  subst e2; subst e4
  clear e3
  have HO := Lib.hid (hown.base_le (Nat.le_trans hm2 (Nat.le_refl _)))
  clear hown
  have hne : g2 ≠ w.heap.size + 1 := by omega
  have HE := Lib.hid hne
  clear hne
  obtain ⟨b0, b1, r0, r1, q0, q1⟩ := HF.out.cells
  go_wp2
  exact bodyPost_ret (v := .tuple #[.agg #[.int .i64 (m + 1), .slice (some ⟨g2, 0, none⟩) 4 c2], .bool true]) (by simp [results, Try.results55, go_sem, *]) rfl
    ⟨_, _, rfl, rfl, (HO.out.to_put (by simpa [Value.ownBlock] using HE.out) _).to_put (by simpa [Value.ownBlock] using HE.out) _, grown_put (grown_put HF.out.2.2.2 (Nat.le_succ _) _) (Nat.le_succ _) _⟩
theorem specErase_bad (m : Int) (A : Option Addr) (n c : Nat) (ps : List Pg) (w : World) (hl : ps.length = n) (hr : Row w w.heap.size A ps) (hn : n ≤ 1048576) (hv : blockB m ps = false) :
    Calls Try.prog 54 #[.agg #[.int .i64 m, .slice A n c]] w (Made2 0 0 [] (.bool false) w) := by
  have HV := Lib.hid (And.intro hl hv)
  clear hv hl
  have HF := Lib.hid (frame2_start m A n c ps w hr)
  clear hr
  go_enter Try.func54, Try.ntmps54
  go_wp2_with fail
  refine (specBlockValid_val HV.out.1 HV.out.2 _ HF.out.2.2.1.here hn).mono ?_
  rintro e w1 ⟨rfl, hk⟩
  replace HF := Lib.hid (HF.out.keep hk)
  clear hk
  obtain ⟨b0, b1, r0, r1, q0, q1⟩ := HF.out.cells
  go_wp2
  exact bodyPost_ret (v := .tuple #[.agg #[.int .i64 0, .slice none 0 0], .bool false]) (by simp [results, Try.results54, go_sem, *]) rfl (made2_zero (grown_put (grown_put HF.out.2.2.2 (Nat.le_succ _) _) (Nat.le_succ _) _))
theorem specErase_max (m : Int) (A : Option Addr) (c : Nat) (ps : List Pg) (w : World) (hr : Row w w.heap.size A ps) (hv : blockB m ps = true) (hm : m = 100) :
    Calls Try.prog 54 #[.agg #[.int .i64 m, .slice A 4 c]] w (Made2 m 4 ps (.bool false) w) := by
  have hl := (block_parts hv).2.1
  have HV := Lib.hid (And.intro hl hv)
  have t1 : (m == 100) = true := by simp [hm]
  clear hv hl hm
  have HF := Lib.hid (frame2_start m A 4 c ps w hr)
  clear hr
  go_enter Try.func54, Try.ntmps54
  go_wp2_with fail
  refine (specBlockValid_val HV.out.1 HV.out.2 _ HF.out.2.2.1.here (by omega)).mono ?_
  rintro e w1 ⟨rfl, hk⟩
  replace HF := Lib.hid (HF.out.keep hk)
  clear hk
  obtain ⟨b0, b1, r0, r1, q0, q1⟩ := HF.out.cells
  go_wp2_with fail
  clear b0 b1 r0 r1 q0 q1
  refine (specCopy_any _ _ _ _ _ _ HV.out.1 HF.out.2.2.1.here (by omega) (by omega)).mono ?_
  rintro e w2 ⟨A2, c2, rfl, _, hown, hk⟩
  have hlt := HF.out.2.1.lt
  have hm2 := HF.out.2.2.2.size
  replace HF := Lib.hid (HF.out.keep hk)
  clear hk
  rcases hown.form with ⟨_, e0⟩ | ⟨g2, c2', e2, hb2, hg2, _, _⟩
  · exact absurd (HV.out.1.symm.trans (congrArg List.length e0)) (by simp)
  injection e2 with e2 e3 e4
  subst e2; subst e4
  clear e3
  have HO := Lib.hid (hown.base_le (Nat.le_trans hm2 (Nat.le_refl _)))
  clear hown
  have hne : g2 ≠ w.heap.size + 1 := by omega
  have HE := Lib.hid hne
  clear hne
  obtain ⟨b0, b1, r0, r1, q0, q1⟩ := HF.out.cells
  go_wp2
  exact bodyPost_ret (v := .tuple #[.agg #[.int .i64 m, .slice (some ⟨g2, 0, none⟩) 4 c2], .bool false]) (by simp [results, Try.results54, go_sem, *]) rfl
    ⟨_, _, rfl, HV.out.1, (HO.out.to_put (by simpa [Value.ownBlock] using HE.out) _).to_put (by simpa [Value.ownBlock] using HE.out) _, grown_put (grown_put HF.out.2.2.2 (Nat.le_succ _) _) (Nat.le_succ _) _⟩
theorem specErase_ok (m : Int) (A : Option Addr) (c : Nat) (ps : List Pg) (w : World) (hr : Row w w.heap.size A ps) (hv : blockB m ps = true) (hm : m ≠ 100) :
    Calls Try.prog 54 #[.agg #[.int .i64 m, .slice A 4 c]] w (Made2 (m + 1) 4 [pz, pz, pz, pz] (.bool true) w) := by
  have hl := (block_parts hv).2.1
  have HV := Lib.hid (And.intro hl hv)
  have t1 : (m == 100) = false := by simp [hm]
  have hb := inB_iff.1 (block_parts hv).1
  obtain ⟨hb0, hb1⟩ := hb
  have HB := Lib.hid (show inB (m + 1) 0 100 = true from inB_iff.2 ⟨by omega, by omega⟩)
  clear hv hl hm
  have HF := Lib.hid (frame2_start m A 4 c ps w hr)
  clear hr
  go_enter Try.func54, Try.ntmps54
  go_wp2_with fail
  refine (specBlockValid_val HV.out.1 HV.out.2 _ HF.out.2.2.1.here (by omega)).mono ?_
  rintro e w1 ⟨rfl, hk⟩
  replace HF := Lib.hid (HF.out.keep hk)
  clear hk
  obtain ⟨b0, b1, r0, r1, q0, q1⟩ := HF.out.cells
  go_wp2_with fail
  clear b0 b1 r0 r1 q0 q1
  refine (specNewBlock_any _ _ HB.out).mono ?_
  rintro e w2 ⟨A2, c2, rfl, _, hown, hk⟩
  have hlt := HF.out.2.1.lt
  have hm2 := HF.out.2.2.2.size
  replace HF := Lib.hid (HF.out.keep hk)
  clear hk
  rcases hown.form with ⟨_, e0⟩ | ⟨g2, c2', e2, hb2, hg2, _, _⟩
  · exact absurd (congrArg List.length e0) (by simp)
  injection e2 with e2 e3 e4
  subst e2; subst e4
  clear e3
  have HO := Lib.hid (hown.base_le (Nat.le_trans hm2 (Nat.le_refl _)))
  clear hown
  have hne : g2 ≠ w.heap.size + 1 := by omega
  have HE := Lib.hid hne
  clear hne
  obtain ⟨b0, b1, r0, r1, q0, q1⟩ := HF.out.cells
  go_wp2
  exact bodyPost_ret (v := .tuple #[.agg #[.int .i64 (m + 1), .slice (some ⟨g2, 0, none⟩) 4 c2], .bool true]) (by simp [results, Try.results54, go_sem, *]) rfl
    ⟨_, _, rfl, rfl, (HO.out.to_put (by simpa [Value.ownBlock] using HE.out) _).to_put (by simpa [Value.ownBlock] using HE.out) _, grown_put (grown_put HF.out.2.2.2 (Nat.le_succ _) _) (Nat.le_succ _) _⟩
end Go.Proofs.Ytbdpnmejkchjpaa
