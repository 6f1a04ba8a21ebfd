/- Chapter 4, further: WriteBlock where a page is written. -/
import Derived.Test.YtbhbbfpafonaiaaBlocks6
namespace Go.Proofs.Ytbhbbfpafonaiaa
open Go.ChangeShapes Go.WideShapes Go.ChangeAt Go.RowKit

theorem grown_putO {a w : World} {k o : Nat} (h : a.grownBy w none) (hk : a.heap.size ≤ k) (u0 u1 u2 u3 u4 : Value) :
    a.grownBy (((((w.setCell ⟨k, o, none⟩ u0).setCell ⟨k, o + 1, none⟩ u1).setCell ⟨k, o + 2, none⟩ u2).setCell ⟨k, o + 3, none⟩ u3).setCell ⟨k, o + 4, none⟩ u4) none :=
  grown_put (grown_put (grown_put (grown_put (grown_put h hk u0) hk u1) hk u2) hk u3) hk u4
theorem write_at (m : Int) (A : Option Addr) (c : Nat) (x1 x2 x3 x4 : Int) (ps : List Pg) (w : World) (hr : Row w w.heap.size A ps) (hv : blockB m ps = true) (hp : pageB true x1 x2 x3 x4 = true) {k : Nat} (hx : nextV m ps = (k : Int)) (hk4 : k < 4) :
    Calls Try.prog 30 #[.agg #[.int .i64 m, .slice A 4 c], .agg #[.bool true, .int .i64 x1, .int .i64 x2, .int .i64 x3, .int .i64 x4]] w (Made2 m 4 (ps.set k ⟨true, x1, x2, x3, x4⟩) (.int .i64 k) w) := by
  have hl := (block_parts hv).2.1
  have HV := Lib.hid (And.intro hl (And.intro hv (show (true && pageB true x1 x2 x3 x4) = true by simp [hp])))
  have HN := Lib.hid hx
  obtain ⟨⟨qf, y1, y2, y3, y4⟩, hq⟩ := getD_at (show k < ps.length by omega)
  have HQ := Lib.hid hq
  clear hq
  clear hv hl hp hx
  have HF := Lib.hid (frame4_start m A 4 c true x1 x2 x3 x4 ps w hr)
  clear hr
  go_enter Try.func30, Try.ntmps30
  go_wp2_with fail
  refine (blockValid_val HV.out.1 HV.out.2.1 _ HF.out.2.2.2.1.here (by omega)).mono ?_
  rintro e w1 ⟨rfl, hk⟩
  replace HF := Lib.hid (HF.out.keep hk)
  clear hk
  obtain ⟨b0, b1, p0, p1, p2, p3, p4, r0, r1, q0, q1⟩ := HF.out.cells
  go_wp2_with fail
  clear b0 b1 p0 p1 p2 p3 p4 r0 r1 q0 q1
  refine (isWritten_val HV.out.2.2 _).mono ?_
  rintro e w1 ⟨rfl, hk⟩
  replace HF := Lib.hid (HF.out.keep hk)
  clear hk
  obtain ⟨b0, b1, p0, p1, p2, p3, p4, r0, r1, q0, q1⟩ := HF.out.cells
  go_wp2_with fail
  clear b0 b1 p0 p1 p2 p3 p4 r0 r1 q0 q1
  refine (copyBlock_any _ _ _ _ _ _ HV.out.1 HF.out.2.2.2.1.here (by omega) (by omega)).mono ?_
  rintro e w2 ⟨A2, c2, rfl, _, hown, hk⟩
  have hlt := HF.out.2.2.1.lt
  have hsz := hk.size
  have hm2 := HF.out.2.2.2.2.size
  replace HF := Lib.hid (HF.out.keep hk)
  clear hk
  rcases hown.form with ⟨_, e0⟩ | ⟨g2, c2', e2, hb2, hg2, _, _⟩
  · exact absurd (HV.out.1.symm.trans (congrArg List.length e0)) (by simp)
  injection e2 with e2 e3 e4
  subst e2; subst e4
  clear e3
  have HO := Lib.hid (hown.base_le (Nat.le_trans hm2 (Nat.le_refl _)))
  have HT := Lib.hid (Blk.new w2 28 #[.int .i64 m, .slice (some ⟨g2, 0, none⟩) 4 c2])
  have HF2 := Lib.hid (HF.out.keep (grown_alloc (grown_refl w2 none) (.cells #[.int .i64 m, .slice (some ⟨g2, 0, none⟩) 4 c2] 28)))
  have HO2 := Lib.hid (HO.out.keep (grown_alloc (grown_refl w2 none) (.cells #[.int .i64 m, .slice (some ⟨g2, 0, none⟩) 4 c2] 28)))
  clear hown
  obtain ⟨b0, b1, p0, p1, p2, p3, p4, r0, r1, q0, q1⟩ := HF.out.cells
  have n1 : g2 ≠ w2.heap.size := by omega
  have n2 : w2.heap.size ≠ g2 := by omega
  have l0 : w.heap.size < w2.heap.size := by omega
  have l1 : w.heap.size + 1 < w2.heap.size := by omega
  have l2 : w.heap.size + 1 + 1 < w2.heap.size := by omega
  have n3 : w2.heap.size ≠ w.heap.size := by omega
  have n4 : w2.heap.size ≠ w.heap.size + 1 := by omega
  have n5 : w2.heap.size ≠ w.heap.size + 1 + 1 := by omega
  have n6 : w.heap.size ≠ w2.heap.size := by omega
  have n7 : w.heap.size + 1 ≠ w2.heap.size := by omega
  have n8 : w.heap.size + 1 + 1 ≠ w2.heap.size := by omega
  go_wp2_with fail
  clear b0 b1 p0 p1 p2 p3 p4 r0 r1 q0 q1
  refine (next_val HV.out.1 HN.out _ HF2.out.2.2.2.1.here (by omega)).mono ?_
  rintro e w3 ⟨rfl, hk⟩
  have hs3 := hk.size
  simp only [size_alloc1] at hs3
  replace HF := Lib.hid (HF2.out.keep hk)
  have ht := HT.out.keep hk
  have HO3 := Lib.hid (HO2.out.keep hk)
  clear hk HF2 HO2
  obtain ⟨b0, b1, p0, p1, p2, p3, p4, r0, r1, q0, q1⟩ := HF.out.cells
  have t0 : w3.cell? ⟨w2.heap.size, 0, none⟩ = some (.int .i64 m) := ht.cell 0
  have t1 : w3.cell? ⟨w2.heap.size, 1, none⟩ = some (.slice (some ⟨g2, 0, none⟩) 4 c2) := ht.cell 1
  clear ht
  obtain ⟨d0, d1, d2, d3, d4⟩ := HO3.out.at_ HV.out.1 HQ.out
  have f0 := HO3.out.frozen HV.out.1 (k * 5)
  have f1 := HO3.out.frozen HV.out.1 (k * 5 + 1)
  have f2 := HO3.out.frozen HV.out.1 (k * 5 + 2)
  have f3 := HO3.out.frozen HV.out.1 (k * 5 + 3)
  have f4 := HO3.out.frozen HV.out.1 (k * 5 + 4)
  have m1 : g2 ≠ w.heap.size := by omega
  have m2 : g2 ≠ w.heap.size + 1 := by omega
  have m3 : g2 ≠ w.heap.size + 1 + 1 := by omega
  have m4 : w.heap.size ≠ g2 := by omega
  have m5 : w.heap.size + 1 ≠ g2 := by omega
  have m6 : w.heap.size + 1 + 1 ≠ g2 := by omega
  go_wp2
  exact bodyPost_ret (v := .tuple #[.agg #[.int .i64 m, .slice (some ⟨g2, 0, none⟩) 4 c2], .int .i64 k]) (by simp [results, Try.results30, go_sem, *]) rfl
    ⟨_, _, rfl, by rw [List.length_set]; exact HV.out.1, ((HO3.out.set5 HV.out.1 k ⟨true, x1, x2, x3, x4⟩).to_put (by simp [Value.ownBlock]; omega) _).to_put (by simp [Value.ownBlock]; omega) _, grown_put (grown_put (grown_putO HF.out.2.2.2.2 (by omega) _ _ _ _ _) (le2 _) _) (le2 _) _⟩
theorem specWrite_at (m : Int) (A : Option Addr) (c : Nat) (x1 x2 x3 x4 : Int) (ps : List Pg) (w : World) (hr : Row w w.heap.size A ps) (hv : blockB m ps = true) (hp : pageB true x1 x2 x3 x4 = true) {k : Nat} (hx : nextV m ps = (k : Int)) (hk4 : k < 4) :
    Calls Try.prog 34 #[.agg #[.int .i64 m, .slice A 4 c], .agg #[.bool true, .int .i64 x1, .int .i64 x2, .int .i64 x3, .int .i64 x4]] w (Made2 m 4 (ps.set k ⟨true, x1, x2, x3, x4⟩) (.int .i64 k) w) := by
  have hl := (block_parts hv).2.1
  have HV := Lib.hid (And.intro hl (And.intro hv (hp)))
  have HN := Lib.hid hx
  obtain ⟨⟨qf, y1, y2, y3, y4⟩, hq⟩ := getD_at (show k < ps.length by omega)
  have HQ := Lib.hid hq
  clear hq
  clear hv hl hp hx
  have HF := Lib.hid (frame4_start m A 4 c true x1 x2 x3 x4 ps w hr)
  clear hr
  go_enter Try.func34, Try.ntmps34
  go_wp2_with fail
  refine (specBlockValid_val HV.out.1 HV.out.2.1 _ HF.out.2.2.2.1.here (by omega)).mono ?_
  rintro e w1 ⟨rfl, hk⟩
  replace HF := Lib.hid (HF.out.keep hk)
  clear hk
  obtain ⟨b0, b1, p0, p1, p2, p3, p4, r0, r1, q0, q1⟩ := HF.out.cells
  go_wp2_with fail
  clear b0 b1 p0 p1 p2 p3 p4 r0 r1 q0 q1
  refine (specValid_val HV.out.2.2 _).mono ?_
  rintro e w1 ⟨rfl, hk⟩
  replace HF := Lib.hid (HF.out.keep hk)
  clear hk
  obtain ⟨b0, b1, p0, p1, p2, p3, p4, r0, r1, q0, q1⟩ := HF.out.cells
  go_wp2_with fail
  clear b0 b1 p0 p1 p2 p3 p4 r0 r1 q0 q1
  refine (specCopy_any _ _ _ _ _ _ HV.out.1 HF.out.2.2.2.1.here (by omega) (by omega)).mono ?_
  rintro e w2 ⟨A2, c2, rfl, _, hown, hk⟩
  have hlt := HF.out.2.2.1.lt
  have hsz := hk.size
  have hm2 := HF.out.2.2.2.2.size
  replace HF := Lib.hid (HF.out.keep hk)
  clear hk
  rcases hown.form with ⟨_, e0⟩ | ⟨g2, c2', e2, hb2, hg2, _, _⟩
  · exact absurd (HV.out.1.symm.trans (congrArg List.length e0)) (by simp)
  injection e2 with e2 e3 e4
  subst e2; subst e4
  clear e3
  have HO := Lib.hid (hown.base_le (Nat.le_trans hm2 (Nat.le_refl _)))
  have HT := Lib.hid (Blk.new w2 28 #[.int .i64 m, .slice (some ⟨g2, 0, none⟩) 4 c2])
  have HF2 := Lib.hid (HF.out.keep (grown_alloc (grown_refl w2 none) (.cells #[.int .i64 m, .slice (some ⟨g2, 0, none⟩) 4 c2] 28)))
  have HO2 := Lib.hid (HO.out.keep (grown_alloc (grown_refl w2 none) (.cells #[.int .i64 m, .slice (some ⟨g2, 0, none⟩) 4 c2] 28)))
  clear hown
  obtain ⟨b0, b1, p0, p1, p2, p3, p4, r0, r1, q0, q1⟩ := HF.out.cells
  have n1 : g2 ≠ w2.heap.size := by omega
  have n2 : w2.heap.size ≠ g2 := by omega
  have l0 : w.heap.size < w2.heap.size := by omega
  have l1 : w.heap.size + 1 < w2.heap.size := by omega
  have l2 : w.heap.size + 1 + 1 < w2.heap.size := by omega
  have n3 : w2.heap.size ≠ w.heap.size := by omega
  have n4 : w2.heap.size ≠ w.heap.size + 1 := by omega
  have n5 : w2.heap.size ≠ w.heap.size + 1 + 1 := by omega
  have n6 : w.heap.size ≠ w2.heap.size := by omega
  have n7 : w.heap.size + 1 ≠ w2.heap.size := by omega
  have n8 : w.heap.size + 1 + 1 ≠ w2.heap.size := by omega
  go_wp2_with fail
  clear b0 b1 p0 p1 p2 p3 p4 r0 r1 q0 q1
  refine (specNext_val HV.out.1 HN.out _ HF2.out.2.2.2.1.here (by omega)).mono ?_
  rintro e w3 ⟨rfl, hk⟩
  have hs3 := hk.size
  simp only [size_alloc1] at hs3
  replace HF := Lib.hid (HF2.out.keep hk)
  have ht := HT.out.keep hk
  have HO3 := Lib.hid (HO2.out.keep hk)
  clear hk HF2 HO2
  obtain ⟨b0, b1, p0, p1, p2, p3, p4, r0, r1, q0, q1⟩ := HF.out.cells
  have t0 : w3.cell? ⟨w2.heap.size, 0, none⟩ = some (.int .i64 m) := ht.cell 0
  have t1 : w3.cell? ⟨w2.heap.size, 1, none⟩ = some (.slice (some ⟨g2, 0, none⟩) 4 c2) := ht.cell 1
  clear ht
  obtain ⟨d0, d1, d2, d3, d4⟩ := HO3.out.at_ HV.out.1 HQ.out
  have f0 := HO3.out.frozen HV.out.1 (k * 5)
  have f1 := HO3.out.frozen HV.out.1 (k * 5 + 1)
  have f2 := HO3.out.frozen HV.out.1 (k * 5 + 2)
  have f3 := HO3.out.frozen HV.out.1 (k * 5 + 3)
  have f4 := HO3.out.frozen HV.out.1 (k * 5 + 4)
  have m1 : g2 ≠ w.heap.size := by omega
  have m2 : g2 ≠ w.heap.size + 1 := by omega
  have m3 : g2 ≠ w.heap.size + 1 + 1 := by omega
  have m4 : w.heap.size ≠ g2 := by omega
  have m5 : w.heap.size + 1 ≠ g2 := by omega
  have m6 : w.heap.size + 1 + 1 ≠ g2 := by omega
  go_wp2
  exact bodyPost_ret (v := .tuple #[.agg #[.int .i64 m, .slice (some ⟨g2, 0, none⟩) 4 c2], .int .i64 k]) (by simp [results, Try.results34, go_sem, *]) rfl
    ⟨_, _, rfl, by rw [List.length_set]; exact HV.out.1, ((HO3.out.set5 HV.out.1 k ⟨true, x1, x2, x3, x4⟩).to_put (by simp [Value.ownBlock]; omega) _).to_put (by simp [Value.ownBlock]; omega) _, grown_put (grown_put (grown_putO HF.out.2.2.2.2 (by omega) _ _ _ _ _) (le2 _) _) (le2 _) _⟩
end Go.Proofs.Ytbhbbfpafonaiaa
