/- What NewerSave answers: the program's and the model's. -/
import Derived.Test.YteniikfgellhfaaSaves4
namespace Go.Proofs.Yteniikfgellhfaa
open Go.ChangeShapes Go.WideShapes Go.ChangeAt Go.RowKit
set_option linter.unusedSimpArgs false
set_option linter.unusedVariables false

/-- Which of two answers of LoadTable, with their numbers, is taken. -/
def pickT (T1 : List (List Int)) (o1 : Bool) (N1 : Int) (T2 : List (List Int)) (o2 : Bool) (N2 : Int) : List (List Int) × Int × Bool :=
  if o1 && (!o2 || decide (N2 ≤ N1)) then (T1, N1, true) else if o2 then (T2, N2, true) else ([], -1, false)
/-- What NewerSave answers. -/
def newV (N : Int) (X : List Int) (S N' : Int) (X' : List Int) (S' : Int) : List (List Int) × Int × Bool := pickT (loadV N X S).1 (loadV N X S).2 N (loadV N' X' S').1 (loadV N' X' S').2 N'
/-- A table in memory of its own, a number, and whether there is one. -/
def NewMade (T : List (List Int)) (M : Int) (ok : Bool) (w : World) (e : Ending) (w' : World) : Prop :=
  ∃ (A : Option Addr) (n c : Nat) (cs : List Li), e = .returned (.tuple #[.agg #[.slice A n c], .int .i64 M, .bool ok]) ∧ cs.length = n ∧ ll cs = T ∧ TOwn w' w.heap.size (.slice A n c) cs ∧ w.grownBy w' none
/-- Two boxed saves, a table's variable, and the saves' numbers. -/
def SIn2 (w : World) (N S : Int) (A : Option Addr) (m c : Nat) (X : List Int) (N' S' : Int) (A' : Option Addr) (m' c' : Nat) (X' : List Int) (wr : World) : Prop :=
  Blk wr w.heap.size 49 #[.int .i64 N, .slice A m c, .int .i64 S] ∧ Blk wr (w.heap.size + 1) 49 #[.int .i64 N', .slice A' m' c', .int .i64 S'] ∧ Blk wr (w.heap.size + 1 + 1) 40 #[.slice none 0 0] ∧ IRow wr w.heap.size A X ∧ IRow wr w.heap.size A' X' ∧ w.grownBy wr none
section
variable {w wr w' : World} {N S N' S' : Int} {A A' : Option Addr} {m c m' c' : Nat} {X X' : List Int}
theorem SIn2.start (hr : IRow w w.heap.size A X) (hr' : IRow w w.heap.size A' X') (N S N' S' : Int) (m c m' c' : Nat) : SIn2 w N S A m c X N' S' A' m' c' X'
    (((w.alloc (.cells #[.int .i64 N, .slice A m c, .int .i64 S] 49)).alloc (.cells #[.int .i64 N', .slice A' m' c', .int .i64 S'] 49)).alloc (.cells #[.slice none 0 0] 40)) := by
  refine ⟨((Blk.new w _ _).alloc _).alloc _, ?_, ?_, VRow.alloc (VRow.alloc (VRow.alloc hr _) _) _, VRow.alloc (VRow.alloc (VRow.alloc hr' _) _) _, grown_alloc (grown_alloc (grown_alloc (grown_refl _ _) _) _) _⟩
  · have H := (Blk.new (w.alloc (.cells #[.int .i64 N, .slice A m c, .int .i64 S] 49)) 49 #[.int .i64 N', .slice A' m' c', .int .i64 S']).alloc (.cells #[.slice none 0 0] 40)
    simpa only [size_alloc1] using H
  · have H := Blk.new ((w.alloc (.cells #[.int .i64 N, .slice A m c, .int .i64 S] 49)).alloc (.cells #[.int .i64 N', .slice A' m' c', .int .i64 S'] 49)) 40 #[.slice none 0 0]
    simpa only [size_alloc1] using H
theorem SIn2.keep (H : SIn2 w N S A m c X N' S' A' m' c' X' wr) (k : wr.grownBy w' none) : SIn2 w N S A m c X N' S' A' m' c' X' w' :=
  ⟨H.1.keep k, H.2.1.keep k, H.2.2.1.keep k, VRow.kept H.2.2.2.1 k, VRow.kept H.2.2.2.2.1 k, grown_trans H.2.2.2.2.2 k⟩
theorem SIn2.drew (H : SIn2 w N S A m c X N' S' A' m' c' X' wr) : SIn2 w N S A m c X N' S' A' m' c' X' wr.drew := H.keep (grown_drew (grown_refl _ _))
end
theorem pick_no (T1 T2 : List (List Int)) (N1 N2 : Int) : pickT T1 false N1 T2 false N2 = ([], -1, false) := rfl
theorem pick_one (T1 T2 : List (List Int)) (N1 N2 : Int) : pickT T1 true N1 T2 false N2 = (T1, N1, true) := rfl
theorem pick_two (T1 T2 : List (List Int)) (N1 N2 : Int) : pickT T1 false N1 T2 true N2 = (T2, N2, true) := rfl
theorem pick_first {N1 N2 : Int} (T1 T2 : List (List Int)) (h : N2 ≤ N1) : pickT T1 true N1 T2 true N2 = (T1, N1, true) := by simp [pickT, h]
theorem pick_second {N1 N2 : Int} (T1 T2 : List (List Int)) (h : ¬ N2 ≤ N1) : pickT T1 true N1 T2 true N2 = (T2, N2, true) := by simp [pickT, h]
set_option maxHeartbeats 2000000 in
theorem newer_any (N S : Int) (A : Option Addr) (m c : Nat) (X : List Int) (N' S' : Int) (A' : Option Addr) (m' c' : Nat) (X' : List Int) (w : World) (hl : X.length = m) (hr : IRow w w.heap.size A X) (hm : m ≤ 1048576) (hl' : X'.length = m') (hr' : IRow w w.heap.size A' X') (hm' : m' ≤ 1048576) :
    Calls Try.prog 72 #[.agg #[.int .i64 N, .slice A m c, .int .i64 S], .agg #[.int .i64 N', .slice A' m' c', .int .i64 S']] w (NewMade (newV N X S N' X' S').1 (newV N X S N' X' S').2.1 (newV N X S N' X' S').2.2 w) := by
  unfold newV
  obtain ⟨T1, o1, h1⟩ : ∃ T o, loadV N X S = (T, o) := ⟨_, _, rfl⟩
  obtain ⟨T2, o2, h2⟩ : ∃ T o, loadV N' X' S' = (T, o) := ⟨_, _, rfl⟩
  rw [h1, h2]
  dsimp only
  obtain ⟨TR, M, ok, hR⟩ : ∃ T M o, pickT T1 o1 N T2 o2 N' = (T, M, o) := ⟨_, _, _, rfl⟩
  rw [hR]
  dsimp only
  have HT := Lib.hid (SIn2.start hr hr' N S N' S' m c m' c')
  have HP := Lib.hid (And.intro h1 (And.intro hl (And.intro hm (And.intro h2 (And.intro hl' hm')))))
  have HR := Lib.hid hR
  obtain ⟨b0, b1, b2⟩ := HT.out.1.cells3.1
  clear hl hr hm hl' hr' hm' h1 h2 hR
  go_enter Try.func72, Try.ntmps72
  go_wp2_with fail
  refine (load_val HP.out.1 HP.out.2.1 (VRow.here HT.out.2.2.2.1) HP.out.2.2.1).mono ?_
  rintro e w1 ⟨A1, n1, c1, cs1, rfl, hl1, hs1, ho1, hk⟩
  have K1 : w1.grownBy (w1.alloc (.cells #[.slice A1 n1 c1] 40)) none := grown_alloc (grown_refl _ _) _
  have HK := Lib.hid ((HT.out.keep hk).keep K1)
  have HO := Lib.hid (And.intro hl1 (And.intro hs1 (And.intro ((ho1.keep K1).base_le HT.out.2.2.2.2.2.size) (Blk.new w1 40 #[.slice A1 n1 c1]))))
  clear hk hl1 hs1 ho1 K1 b0 b1 b2
  obtain ⟨b0, b1, b2⟩ := HK.out.2.1.cells3.1
  go_wp2_with fail
  refine (load_val HP.out.2.2.2.1 HP.out.2.2.2.2.1 (VRow.here HK.out.2.2.2.2.1) HP.out.2.2.2.2.2).mono ?_
  rintro e w2 ⟨A2, n2, c2, cs2, rfl, hl2, hs2, ho2, hk⟩
  have K2 : w2.grownBy (w2.alloc (.cells #[.slice A2 n2 c2] 40)) none := grown_alloc (grown_refl _ _) _
  have HQ := Lib.hid (And.intro ((HO.out.2.2.2.keep hk).keep K2) (Blk.new w2 40 #[.slice A2 n2 c2]))
  have HN := Lib.hid (And.intro ((HK.out.keep hk).keep K2) (And.intro (And.intro HO.out.1 (And.intro HO.out.2.1 ((HO.out.2.2.1.keep hk).keep K2))) (And.intro hl2 (And.intro hs2 ((ho2.keep K2).base_le HK.out.2.2.2.2.2.size)))))
  clear hk hl2 hs2 ho2 K2 b0 b1 b2
  obtain ⟨p0, p1, p2⟩ := HN.out.1.1.cells3.1
  obtain ⟨q0, q1, q2⟩ := HN.out.1.2.1.cells3.1
  have v0 := HQ.out.1.cell 0
  have v1 := HQ.out.2.cell 0
  have z0 := HN.out.1.2.2.1.cell 0
  have z1 := HN.out.1.2.2.1.frozen 0
  cases o1 <;> cases o2
  · obtain ⟨rfl, rfl, rfl⟩ : [] = TR ∧ -1 = M ∧ false = ok := by simpa [pick_no] using HR.out
    go_wp2
    exact bodyPost_ret (v := .tuple #[.agg #[.slice none 0 0], .int .i64 (-1), .bool false]) (by simp [results, Try.results72, go_sem, *]) rfl ⟨none, 0, 0, [], rfl, rfl, rfl, town_nil _ _, grown_put HN.out.1.2.2.2.2.2 (p := ⟨w.heap.size + 1 + 1, 0, none⟩) (by dsimp only; omega) _⟩
  · obtain ⟨rfl, rfl, rfl⟩ : T2 = TR ∧ N' = M ∧ true = ok := by simpa [pick_two] using HR.out
    go_wp2_with fail
    go_region
    go_wp2
    exact bodyPost_ret (v := .tuple #[.agg #[.slice A2 n2 c2], .int .i64 N', .bool true]) (by simp [results, Try.results72, go_sem, *]) rfl ⟨_, _, _, _, rfl, HN.out.2.2.1, HN.out.2.2.2.1, HN.out.2.2.2.2.put HN.out.1.2.2.1 0 _, grown_drew (grown_put HN.out.1.2.2.2.2.2 (p := ⟨w.heap.size + 1 + 1, 0, none⟩) (by dsimp only; omega) _)⟩
  · obtain ⟨rfl, rfl, rfl⟩ : T1 = TR ∧ N = M ∧ true = ok := by simpa [pick_one] using HR.out
    go_wp2_with fail
    go_region
    go_wp2
    exact bodyPost_ret (v := .tuple #[.agg #[.slice A1 n1 c1], .int .i64 N, .bool true]) (by simp [results, Try.results72, go_sem, *]) rfl ⟨_, _, _, _, rfl, HN.out.2.1.1, HN.out.2.1.2.1, HN.out.2.1.2.2.put HN.out.1.2.2.1 0 _, grown_drew (grown_put HN.out.1.2.2.2.2.2 (p := ⟨w.heap.size + 1 + 1, 0, none⟩) (by dsimp only; omega) _)⟩
  · by_cases hN : N' ≤ N
    · obtain ⟨rfl, rfl, rfl⟩ : T1 = TR ∧ N = M ∧ true = ok := by simpa [pick_first _ _ hN] using HR.out
      have t1 : decide (N' ≤ N) = true := decide_eq_true hN
      have t2 : decide (N < N') = false := decide_eq_false (by omega)
      clear hN
      go_wp2_with fail
      go_region
      go_wp2
      exact bodyPost_ret (v := .tuple #[.agg #[.slice A1 n1 c1], .int .i64 N, .bool true]) (by simp [results, Try.results72, go_sem, *]) rfl ⟨_, _, _, _, rfl, HN.out.2.1.1, HN.out.2.1.2.1, HN.out.2.1.2.2.put HN.out.1.2.2.1 0 _, grown_drew (grown_put HN.out.1.2.2.2.2.2 (p := ⟨w.heap.size + 1 + 1, 0, none⟩) (by dsimp only; omega) _)⟩
    · obtain ⟨rfl, rfl, rfl⟩ : T2 = TR ∧ N' = M ∧ true = ok := by simpa [pick_second _ _ hN] using HR.out
      have t1 : decide (N' ≤ N) = false := decide_eq_false hN
      have t2 : decide (N < N') = true := decide_eq_true (by omega)
      clear hN
      go_wp2_with fail
      go_region
      go_wp2
      exact bodyPost_ret (v := .tuple #[.agg #[.slice A2 n2 c2], .int .i64 N', .bool true]) (by simp [results, Try.results72, go_sem, *]) rfl ⟨_, _, _, _, rfl, HN.out.2.2.1, HN.out.2.2.2.1, HN.out.2.2.2.2.put HN.out.1.2.2.1 0 _, grown_drew (grown_put HN.out.1.2.2.2.2.2 (p := ⟨w.heap.size + 1 + 1, 0, none⟩) (by dsimp only; omega) _)⟩
theorem newer_val {N S : Int} {A : Option Addr} {m c : Nat} {X : List Int} {N' S' : Int} {A' : Option Addr} {m' c' : Nat} {X' : List Int} {T : List (List Int)} {M : Int} {ok : Bool} {w : World} (hV : newV N X S N' X' S' = (T, M, ok)) (hl : X.length = m) (hr : IRow w w.heap.size A X) (hm : m ≤ 1048576) (hl' : X'.length = m') (hr' : IRow w w.heap.size A' X') (hm' : m' ≤ 1048576) :
    Calls Try.prog 72 #[.agg #[.int .i64 N, .slice A m c, .int .i64 S], .agg #[.int .i64 N', .slice A' m' c', .int .i64 S']] w (NewMade T M ok w) := by
  have h := newer_any N S A m c X N' S' A' m' c' X' w hl hr hm hl' hr' hm'
  rw [hV] at h
  exact h
set_option maxHeartbeats 2000000 in
theorem specNewer_any (N S : Int) (A : Option Addr) (m c : Nat) (X : List Int) (N' S' : Int) (A' : Option Addr) (m' c' : Nat) (X' : List Int) (w : World) (hl : X.length = m) (hr : IRow w w.heap.size A X) (hm : m ≤ 1048576) (hl' : X'.length = m') (hr' : IRow w w.heap.size A' X') (hm' : m' ≤ 1048576) (hc : m ≤ c) (hcm : c ≤ maxLen) (hc' : m' ≤ c') (hcm' : c' ≤ maxLen) :
    Calls Try.prog 73 #[.agg #[.int .i64 N, .slice A m c, .int .i64 S], .agg #[.int .i64 N', .slice A' m' c', .int .i64 S']] w (NewMade (newV N X S N' X' S').1 (newV N X S N' X' S').2.1 (newV N X S N' X' S').2.2 w) := by
  unfold newV
  obtain ⟨T1, o1, h1⟩ : ∃ T o, loadV N X S = (T, o) := ⟨_, _, rfl⟩
  obtain ⟨T2, o2, h2⟩ : ∃ T o, loadV N' X' S' = (T, o) := ⟨_, _, rfl⟩
  rw [h1, h2]
  dsimp only
  obtain ⟨TR, M, ok, hR⟩ : ∃ T M o, pickT T1 o1 N T2 o2 N' = (T, M, o) := ⟨_, _, _, rfl⟩
  rw [hR]
  dsimp only
  have HT := Lib.hid (SIn2.start hr hr' N S N' S' m c m' c')
  have HP := Lib.hid (And.intro h1 (And.intro hl (And.intro hm (And.intro h2 (And.intro hl' (And.intro hm' (And.intro hc (And.intro hcm (And.intro hc' hcm')))))))))
  have HR := Lib.hid hR
  obtain ⟨b0, b1, b2⟩ := HT.out.1.cells3.1
  clear hl hr hm hl' hr' hm' h1 h2 hR hc hcm hc' hcm'
  go_enter Try.func73, Try.ntmps73
  go_wp2_with fail
  refine (specLoad_val HP.out.1 HP.out.2.1 (VRow.here HT.out.2.2.2.1) HP.out.2.2.1 HP.out.2.2.2.2.2.2.1 HP.out.2.2.2.2.2.2.2.1).mono ?_
  rintro e w1 ⟨A1, n1, c1, cs1, rfl, hl1, hs1, ho1, hk⟩
  have K1 : w1.grownBy (w1.alloc (.cells #[.slice A1 n1 c1] 40)) none := grown_alloc (grown_refl _ _) _
  have HK := Lib.hid ((HT.out.keep hk).keep K1)
  have HO := Lib.hid (And.intro hl1 (And.intro hs1 (And.intro ((ho1.keep K1).base_le HT.out.2.2.2.2.2.size) (Blk.new w1 40 #[.slice A1 n1 c1]))))
  clear hk hl1 hs1 ho1 K1 b0 b1 b2
  obtain ⟨b0, b1, b2⟩ := HK.out.2.1.cells3.1
  go_wp2_with fail
  refine (specLoad_val HP.out.2.2.2.1 HP.out.2.2.2.2.1 (VRow.here HK.out.2.2.2.2.1) HP.out.2.2.2.2.2.1 HP.out.2.2.2.2.2.2.2.2.1 HP.out.2.2.2.2.2.2.2.2.2).mono ?_
  rintro e w2 ⟨A2, n2, c2, cs2, rfl, hl2, hs2, ho2, hk⟩
  have K2 : w2.grownBy (w2.alloc (.cells #[.slice A2 n2 c2] 40)) none := grown_alloc (grown_refl _ _) _
  have HQ := Lib.hid (And.intro ((HO.out.2.2.2.keep hk).keep K2) (Blk.new w2 40 #[.slice A2 n2 c2]))
  have HN := Lib.hid (And.intro ((HK.out.keep hk).keep K2) (And.intro (And.intro HO.out.1 (And.intro HO.out.2.1 ((HO.out.2.2.1.keep hk).keep K2))) (And.intro hl2 (And.intro hs2 ((ho2.keep K2).base_le HK.out.2.2.2.2.2.size)))))
  clear hk hl2 hs2 ho2 K2 b0 b1 b2
  obtain ⟨p0, p1, p2⟩ := HN.out.1.1.cells3.1
  obtain ⟨q0, q1, q2⟩ := HN.out.1.2.1.cells3.1
  have v0 := HQ.out.1.cell 0
  have v1 := HQ.out.2.cell 0
  have z0 := HN.out.1.2.2.1.cell 0
  have z1 := HN.out.1.2.2.1.frozen 0
  cases o1 <;> cases o2
  · obtain ⟨rfl, rfl, rfl⟩ : [] = TR ∧ -1 = M ∧ false = ok := by simpa [pick_no] using HR.out
    go_wp2
    exact bodyPost_ret (v := .tuple #[.agg #[.slice none 0 0], .int .i64 (-1), .bool false]) (by simp [results, Try.results73, go_sem, *]) rfl ⟨none, 0, 0, [], rfl, rfl, rfl, town_nil _ _, grown_put HN.out.1.2.2.2.2.2 (p := ⟨w.heap.size + 1 + 1, 0, none⟩) (by dsimp only; omega) _⟩
  · obtain ⟨rfl, rfl, rfl⟩ : T2 = TR ∧ N' = M ∧ true = ok := by simpa [pick_two] using HR.out
    go_wp2_with fail
    go_region
    go_wp2
    exact bodyPost_ret (v := .tuple #[.agg #[.slice A2 n2 c2], .int .i64 N', .bool true]) (by simp [results, Try.results73, go_sem, *]) rfl ⟨_, _, _, _, rfl, HN.out.2.2.1, HN.out.2.2.2.1, HN.out.2.2.2.2.put HN.out.1.2.2.1 0 _, grown_drew (grown_put HN.out.1.2.2.2.2.2 (p := ⟨w.heap.size + 1 + 1, 0, none⟩) (by dsimp only; omega) _)⟩
  · obtain ⟨rfl, rfl, rfl⟩ : T1 = TR ∧ N = M ∧ true = ok := by simpa [pick_one] using HR.out
    go_wp2_with fail
    go_region
    go_wp2
    exact bodyPost_ret (v := .tuple #[.agg #[.slice A1 n1 c1], .int .i64 N, .bool true]) (by simp [results, Try.results73, go_sem, *]) rfl ⟨_, _, _, _, rfl, HN.out.2.1.1, HN.out.2.1.2.1, HN.out.2.1.2.2.put HN.out.1.2.2.1 0 _, grown_drew (grown_put HN.out.1.2.2.2.2.2 (p := ⟨w.heap.size + 1 + 1, 0, none⟩) (by dsimp only; omega) _)⟩
  · by_cases hN : N' ≤ N
    · obtain ⟨rfl, rfl, rfl⟩ : T1 = TR ∧ N = M ∧ true = ok := by simpa [pick_first _ _ hN] using HR.out
      have t1 : decide (N' ≤ N) = true := decide_eq_true hN
      have t2 : decide (N < N') = false := decide_eq_false (by omega)
      clear hN
      go_wp2_with fail
      go_region
      go_wp2
      exact bodyPost_ret (v := .tuple #[.agg #[.slice A1 n1 c1], .int .i64 N, .bool true]) (by simp [results, Try.results73, go_sem, *]) rfl ⟨_, _, _, _, rfl, HN.out.2.1.1, HN.out.2.1.2.1, HN.out.2.1.2.2.put HN.out.1.2.2.1 0 _, grown_drew (grown_put HN.out.1.2.2.2.2.2 (p := ⟨w.heap.size + 1 + 1, 0, none⟩) (by dsimp only; omega) _)⟩
    · obtain ⟨rfl, rfl, rfl⟩ : T2 = TR ∧ N' = M ∧ true = ok := by simpa [pick_second _ _ hN] using HR.out
      have t1 : decide (N' ≤ N) = false := decide_eq_false hN
      have t2 : decide (N < N') = true := decide_eq_true (by omega)
      clear hN
      go_wp2_with fail
      go_region
      go_wp2
      exact bodyPost_ret (v := .tuple #[.agg #[.slice A2 n2 c2], .int .i64 N', .bool true]) (by simp [results, Try.results73, go_sem, *]) rfl ⟨_, _, _, _, rfl, HN.out.2.2.1, HN.out.2.2.2.1, HN.out.2.2.2.2.put HN.out.1.2.2.1 0 _, grown_drew (grown_put HN.out.1.2.2.2.2.2 (p := ⟨w.heap.size + 1 + 1, 0, none⟩) (by dsimp only; omega) _)⟩
theorem specNewer_val {N S : Int} {A : Option Addr} {m c : Nat} {X : List Int} {N' S' : Int} {A' : Option Addr} {m' c' : Nat} {X' : List Int} {T : List (List Int)} {M : Int} {ok : Bool} {w : World} (hV : newV N X S N' X' S' = (T, M, ok)) (hl : X.length = m) (hr : IRow w w.heap.size A X) (hm : m ≤ 1048576) (hl' : X'.length = m') (hr' : IRow w w.heap.size A' X') (hm' : m' ≤ 1048576) (hc : m ≤ c) (hcm : c ≤ maxLen) (hc' : m' ≤ c') (hcm' : c' ≤ maxLen) :
    Calls Try.prog 73 #[.agg #[.int .i64 N, .slice A m c, .int .i64 S], .agg #[.int .i64 N', .slice A' m' c', .int .i64 S']] w (NewMade T M ok w) := by
  have h := specNewer_any N S A m c X N' S' A' m' c' X' w hl hr hm hl' hr' hm' hc hcm hc' hcm'
  rw [hV] at h
  exact h
end Go.Proofs.Yteniikfgellhfaa
