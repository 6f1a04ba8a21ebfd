/- What the model draws for chapter 15: a heat with writes, a heat, rounds. -/
import Derived.Test.YtofolifmgpgkoaaHeats
import Derived.Test.YtofolifmgpgkoaaExtDraw
import Derived.Test.YtofolifmgpgkoaaDag
namespace Go.Proofs.Ytofolifmgpgkoaa
open Go.ChangeShapes Go.WideShapes Go.ChangeAt Go.RowKit
set_option linter.unusedVariables false
set_option linter.unusedSimpArgs false

/-- A reader that was opened, while nothing that was there is written. -/
def RdH (w : World) (B g Q : Nat) (wr : World) : Prop := Rd wr B g Q ∧ Below w.heap.size w wr ∧ B ≤ w.heap.size ∧ w.heap.size ≤ g
section
variable {w wr w' : World} {B g Q Q' : Nat}
theorem RdH.rd (H : RdH w B g Q wr) : Rd wr B g Q := H.1
theorem RdH.grown (H : RdH w B g Q wr) (hg : wr.grownBy w' (some g)) (hr : Rd w' B g Q') : RdH w B g Q' w' := ⟨hr, H.2.1.trans (Below.of_grown hg H.2.2.2 H.2.1.size), H.2.2⟩
theorem RdH.kept (H : RdH w B g Q wr) (hg : wr.grownBy w' none) : RdH w B g Q w' := ⟨H.1.grown hg (by intro k e; cases e), Below.and_kept H.2.1 hg, H.2.2⟩
theorem RdH.fresh (H : RdH w B g Q wr) : wr.heap.size ≠ g ∧ w.heap.size ≤ wr.heap.size := ⟨by have := H.1.lt; omega, H.2.1.size⟩
theorem RdH.far (H : RdH w B g Q wr) : w.heap.size ≤ g := H.2.2.2
end
theorem litH8i (y : Nat) (h : y < 8) : ∃ z : Nat, z < 4 ∧ (#[Value.int .i64 0, Value.int .i64 0, Value.int .i64 0, Value.int .i64 0, Value.int .i64 0, Value.int .i64 1, Value.int .i64 2, Value.int .i64 3] : Array Value)[y]? = some (.int .i64 (z : Int)) := by
  have h1 : y = 0 ∨ y = 1 ∨ y = 2 ∨ y = 3 ∨ y = 4 ∨ y = 5 ∨ y = 6 ∨ y = 7 := by omega
  rcases h1 with rfl | rfl | rfl | rfl | rfl | rfl | rfl | rfl
  · exact ⟨0, by omega, rfl⟩
  · exact ⟨0, by omega, rfl⟩
  · exact ⟨0, by omega, rfl⟩
  · exact ⟨0, by omega, rfl⟩
  · exact ⟨0, by omega, rfl⟩
  · exact ⟨1, by omega, rfl⟩
  · exact ⟨2, by omega, rfl⟩
  · exact ⟨3, by omega, rfl⟩
theorem litH11 (y : Nat) (h : y < 11) : ∃ z : Nat, z < 4 ∧ (#[Value.int .i64 0, Value.int .i64 0, Value.int .i64 0, Value.int .i64 0, Value.int .i64 0, Value.int .i64 0, Value.int .i64 1, Value.int .i64 1, Value.int .i64 1, Value.int .i64 2, Value.int .i64 3] : Array Value)[y]? = some (.int .i64 (z : Int)) := by
  have h1 : y = 0 ∨ y = 1 ∨ y = 2 ∨ y = 3 ∨ y = 4 ∨ y = 5 ∨ y = 6 ∨ y = 7 ∨ y = 8 ∨ y = 9 ∨ y = 10 := by omega
  rcases h1 with rfl | rfl | rfl | rfl | rfl | rfl | rfl | rfl | rfl | rfl | rfl
  · exact ⟨0, by omega, rfl⟩
  · exact ⟨0, by omega, rfl⟩
  · exact ⟨0, by omega, rfl⟩
  · exact ⟨0, by omega, rfl⟩
  · exact ⟨0, by omega, rfl⟩
  · exact ⟨0, by omega, rfl⟩
  · exact ⟨1, by omega, rfl⟩
  · exact ⟨1, by omega, rfl⟩
  · exact ⟨1, by omega, rfl⟩
  · exact ⟨2, by omega, rfl⟩
  · exact ⟨3, by omega, rfl⟩
theorem litH4 (y : Nat) (h : y < 4) (a b c d : Int) : ∃ v : Int, (#[Value.int .i64 a, Value.int .i64 b, Value.int .i64 c, Value.int .i64 d] : Array Value)[y]? = some (.int .i64 v) := by
  have h1 : y = 0 ∨ y = 1 ∨ y = 2 ∨ y = 3 := by omega
  rcases h1 with rfl | rfl | rfl | rfl
  · exact ⟨a, rfl⟩
  · exact ⟨b, rfl⟩
  · exact ⟨c, rfl⟩
  · exact ⟨d, rfl⟩
theorem litH8 (y : Nat) (h : y < 8) (a b c d e f g i : Int) : ∃ v : Int, (#[Value.int .i64 a, Value.int .i64 b, Value.int .i64 c, Value.int .i64 d, Value.int .i64 e, Value.int .i64 f, Value.int .i64 g, Value.int .i64 i] : Array Value)[y]? = some (.int .i64 v) := by
  have h1 : y = 0 ∨ y = 1 ∨ y = 2 ∨ y = 3 ∨ y = 4 ∨ y = 5 ∨ y = 6 ∨ y = 7 := by omega
  rcases h1 with rfl | rfl | rfl | rfl | rfl | rfl | rfl | rfl
  · exact ⟨a, rfl⟩
  · exact ⟨b, rfl⟩
  · exact ⟨c, rfl⟩
  · exact ⟨d, rfl⟩
  · exact ⟨e, rfl⟩
  · exact ⟨f, rfl⟩
  · exact ⟨g, rfl⟩
  · exact ⟨i, rfl⟩
/-- Two numbers are drawn. -/
def HeatDrawn2 (w : World) (e : Ending) (w' : World) : Prop := ∃ u v : Int, e = .returned (.tuple #[.int .i64 u, .int .i64 v]) ∧ Below w.heap.size w w'
/-- A number is drawn. -/
def HeatDrawn (w : World) (e : Ending) (w' : World) : Prop := ∃ u : Int, e = .returned (.int .i64 u) ∧ Below w.heap.size w w'
/-- Rounds are drawn. -/
def RunDrawn (w : World) (e : Ending) (w' : World) : Prop := ∃ (A : Option Addr) (n c : Nat) (xs : List Int), e = .returned (.slice A n c) ∧ xs.length = n ∧ n ≤ 41 ∧ n ≤ c ∧ c ≤ maxLen ∧ IRow w' w'.heap.size A xs ∧ Below w.heap.size w w'
set_option maxRecDepth 8000 in
set_option maxHeartbeats 8000000 in
theorem drawStep_any (w : World) (A : Option Addr) (n c : Nat) (hn : n ≤ c) (hc : c ≤ 9223372036854775807) (h : Bytes w w.heap.size A n) :
    Calls Try.prog 11 #[.slice A n c] w (HeatDrawn2 w) := by
  go_enter Try.func11, Try.ntmps11
  go_wp2_with fail
  refine (open_any w A n c hn hc h).mono ?_
  rintro e w1 ⟨rfl, h1, hb1⟩
  have HS := Lib.hid (show RdH w w.heap.size w.heap.size _ w1 from ⟨h1, hb1, Nat.le_refl _, Nat.le_refl _⟩)
  clear h h1 hb1
  go_wp2_with fail
  apply mrg
  intro key17
  apply mrg
  intro key16
  apply mrg
  intro key15
  apply mrg
  intro key14
  apply mrg
  intro key13
  apply mrg
  intro key12
  apply mrg
  intro key11
  apply mrg
  intro key10
  apply mrg
  intro key9
  apply mrg
  intro key8
  apply mrg
  intro key7
  apply mrg
  intro key6
  apply mrg
  intro key5
  apply mrg
  intro key4
  apply mrg
  intro key3
  apply mrg
  intro key2
  apply mrg
  intro key1
  apply mrg
  intro key0
  · have HS := Lib.hid (HS.out.kept (grown_drew (grown_refl w1 none)))
    have hS0 : True := trivial
    refine wp_region_held_drew (S := (fun w' => True)) (by kernel_rfl) ?_ (fun hX => ?_)
    · exact hS0
    have hHeld := hS0
    clear hS0 hX
    refine heldY 0 7 ?_
    refine heldY 5 12 ?_
    refine heldY 11 18 ?_
    refine heldY 13 20 ?_
    generalize (World.drew w1) = wn at hHeld HS ⊢
    revert HS
    revert hHeld
    revert wn
    exact key0.out
  · intro wz hHeld HS
    refine wpAnyH_ready (rs := [1, 4]) (by kernel_rfl) (by simp) ?_
    refine AllReadyH.cons rfl (fun K hK => ?_) (AllReadyH.cons rfl (fun K hK => ?_) AllReadyH.nil)
    · go_simp
      go_at_call 27
      refine (pick_lt _ _ _ _ _ HS.out.rd (by omega) (by omega)).mono ?_
      rintro e wn ⟨x0, rfl, hu, hv, h4, hg4⟩
      obtain ⟨x1, rfl⟩ := Int.eq_ofNat_of_zero_le hu
      have HB1 := Lib.hid (show x1 < 256 by omega)
      have hS1 : True := trivial
      replace HS := Lib.hid (HS.out.grown hg4 h4)
      clear hHeld
      clear hu hv h4 hg4
      refine hK.out _ _ hS1 (fun hX => ?_)
      clear hK K hX
      try simp only [Act.put, List.setIfInBounds_toArray, List.set_cons_zero, List.set_cons_succ]
      have hHeld := hS1
      clear hS1
      have y0 : decide ((0 : Int) ≤ x1) = true := decide_eq_true (by omega)
      have y1 : (x1 : Int) < 256 := by have := HB1.out; omega
      refine heldY 2 9 ?_
      clear y0 y1
      revert HB1
      revert HS
      revert hHeld
      revert x1
      revert wn
      exact key1.out
    · go_simp
      have HP4 := Lib.hid HS.out.fresh
      have hB0 := Blk.new wz 3 #[.int .i64 0, .int .i64 0, .int .i64 0, .int .i64 0, .int .i64 0, .int .i64 1, .int .i64 2, .int .i64 3]
      have hS1 : True := trivial
      replace HS := Lib.hid (HS.out.kept (grown_alloc (grown_refl wz none) (.cells #[.int .i64 0, .int .i64 0, .int .i64 0, .int .i64 0, .int .i64 0, .int .i64 1, .int .i64 2, .int .i64 3] 3)))
      clear hHeld
      refine hK.out _ _ hS1 (fun hX => ?_)
      clear hK K hX
      try simp only [Act.put, List.setIfInBounds_toArray, List.set_cons_zero, List.set_cons_succ]
      generalize wz.heap.size = p4 at HP4 hB0 ⊢
      generalize (World.alloc wz (.cells #[.int .i64 0, .int .i64 0, .int .i64 0, .int .i64 0, .int .i64 0, .int .i64 1, .int .i64 2, .int .i64 3] 3)) = wn at hS1 HS hB0 ⊢
      refine wpAnyH_to (S' := (fun w' => Blk w' p4 3 #[.int .i64 0, .int .i64 0, .int .i64 0, .int .i64 0, .int .i64 0, .int .i64 1, .int .i64 2, .int .i64 3])) (fun w' h => trivial) _ _ _ _ ?_
      have hHeld : Blk wn p4 3 #[.int .i64 0, .int .i64 0, .int .i64 0, .int .i64 0, .int .i64 0, .int .i64 1, .int .i64 2, .int .i64 3] := hB0
      clear hS1 hB0
      revert HP4
      revert HS
      revert hHeld
      revert p4
      revert wn
      exact key2.out
  · intro wz x1 hHeld HS HB1
    refine wpAnyH_ready (rs := [3, 4, 6]) (by kernel_rfl) (by simp) ?_
    refine AllReadyH.cons rfl (fun K hK => ?_) (AllReadyH.cons rfl (fun K hK => ?_) (AllReadyH.cons rfl (fun K hK => ?_) AllReadyH.nil))
    · go_simp
      have HP3 := Lib.hid HS.out.fresh
      have hB0 := Blk.new wz 3 #[.int .i64 (IntKind.i64.wrap ((x1 : Int) * 4)), .int .i64 1000, .int .i64 1001, .int .i64 (-1)]
      have hS1 : True := trivial
      replace HS := Lib.hid (HS.out.kept (grown_alloc (grown_refl wz none) (.cells #[.int .i64 (IntKind.i64.wrap ((x1 : Int) * 4)), .int .i64 1000, .int .i64 1001, .int .i64 (-1)] 3)))
      clear hHeld
      refine hK.out _ _ hS1 (fun hX => ?_)
      clear hK K hX
      try simp only [Act.put, List.setIfInBounds_toArray, List.set_cons_zero, List.set_cons_succ]
      generalize wz.heap.size = p3 at HP3 hB0 ⊢
      generalize (World.alloc wz (.cells #[.int .i64 (IntKind.i64.wrap ((x1 : Int) * 4)), .int .i64 1000, .int .i64 1001, .int .i64 (-1)] 3)) = wn at hS1 HS hB0 ⊢
      refine wpAnyH_to (S' := (fun w' => Blk w' p3 3 #[.int .i64 (IntKind.i64.wrap ((x1 : Int) * 4)), .int .i64 1000, .int .i64 1001, .int .i64 (-1)])) (fun w' h => trivial) _ _ _ _ ?_
      have hHeld : Blk wn p3 3 #[.int .i64 (IntKind.i64.wrap ((x1 : Int) * 4)), .int .i64 1000, .int .i64 1001, .int .i64 (-1)] := hB0
      clear hS1 hB0
      revert HP3
      revert HB1
      revert HS
      revert hHeld
      revert p3
      revert x1
      revert wn
      exact key3.out
    · go_simp
      have HP4 := Lib.hid HS.out.fresh
      have hB0 := Blk.new wz 3 #[.int .i64 0, .int .i64 0, .int .i64 0, .int .i64 0, .int .i64 0, .int .i64 1, .int .i64 2, .int .i64 3]
      have hS1 : True := trivial
      replace HS := Lib.hid (HS.out.kept (grown_alloc (grown_refl wz none) (.cells #[.int .i64 0, .int .i64 0, .int .i64 0, .int .i64 0, .int .i64 0, .int .i64 1, .int .i64 2, .int .i64 3] 3)))
      clear hHeld
      refine hK.out _ _ hS1 (fun hX => ?_)
      clear hK K hX
      try simp only [Act.put, List.setIfInBounds_toArray, List.set_cons_zero, List.set_cons_succ]
      generalize wz.heap.size = p4 at HP4 hB0 ⊢
      generalize (World.alloc wz (.cells #[.int .i64 0, .int .i64 0, .int .i64 0, .int .i64 0, .int .i64 0, .int .i64 1, .int .i64 2, .int .i64 3] 3)) = wn at hS1 HS hB0 ⊢
      refine wpAnyH_to (S' := (fun w' => Blk w' p4 3 #[.int .i64 0, .int .i64 0, .int .i64 0, .int .i64 0, .int .i64 0, .int .i64 1, .int .i64 2, .int .i64 3])) (fun w' h => trivial) _ _ _ _ ?_
      have hHeld : Blk wn p4 3 #[.int .i64 0, .int .i64 0, .int .i64 0, .int .i64 0, .int .i64 0, .int .i64 1, .int .i64 2, .int .i64 3] := hB0
      clear hS1 hB0
      revert HP4
      revert HB1
      revert HS
      revert hHeld
      revert p4
      revert x1
      revert wn
      exact key4.out
    · go_simp
      go_at_call 27
      refine (pick_lt _ _ _ _ _ HS.out.rd (by omega) (by omega)).mono ?_
      rintro e wn ⟨x0, rfl, hu, hv, h4, hg4⟩
      obtain ⟨y6, rfl⟩ := Int.eq_ofNat_of_zero_le hu
      have HB6 := Lib.hid (show y6 < 8 by omega)
      have hS1 : True := trivial
      replace HS := Lib.hid (HS.out.grown hg4 h4)
      clear hHeld
      clear hu hv h4 hg4
      refine hK.out _ _ hS1 (fun hX => ?_)
      clear hK K hX
      try simp only [Act.put, List.setIfInBounds_toArray, List.set_cons_zero, List.set_cons_succ]
      have hHeld := hS1
      clear hS1
      revert HB6
      revert HB1
      revert HS
      revert hHeld
      revert y6
      revert x1
      revert wn
      exact key5.out
  · intro wz p4 hHeld HS HP4
    refine wpAnyH_ready (rs := [1]) (by kernel_rfl) (by simp) ?_
    refine AllReadyH.cons rfl (fun K hK => ?_) AllReadyH.nil
    go_simp
    go_at_call 27
    refine (pick_lt _ _ _ _ _ HS.out.rd (by omega) (by omega)).mono ?_
    rintro e wn ⟨x0, rfl, hu, hv, h4, hg4⟩
    obtain ⟨x1, rfl⟩ := Int.eq_ofNat_of_zero_le hu
    have HB1 := Lib.hid (show x1 < 256 by omega)
    have hS1 : Blk wn p4 3 #[.int .i64 0, .int .i64 0, .int .i64 0, .int .i64 0, .int .i64 0, .int .i64 1, .int .i64 2, .int .i64 3] := Blk.grown (hHeld) hg4 (fun e => HP4.out.1 (Option.some.inj e))
    replace HS := Lib.hid (HS.out.grown hg4 h4)
    clear hHeld
    clear hu hv h4 hg4
    refine hK.out _ _ hS1 (fun hX => ?_)
    clear hK K hX
    try simp only [Act.put, List.setIfInBounds_toArray, List.set_cons_zero, List.set_cons_succ]
    have hHeld := hS1
    clear hS1
    have y0 : decide ((0 : Int) ≤ x1) = true := decide_eq_true (by omega)
    have y1 : (x1 : Int) < 256 := by have := HB1.out; omega
    refine heldY 2 9 ?_
    clear y0 y1
    revert HP4
    revert HB1
    revert HS
    revert hHeld
    revert p4
    revert x1
    revert wn
    exact key4.out
  · intro wz x1 p3 hHeld HS HB1 HP3
    refine wpAnyH_ready (rs := [4, 6]) (by kernel_rfl) (by simp) ?_
    refine AllReadyH.cons rfl (fun K hK => ?_) (AllReadyH.cons rfl (fun K hK => ?_) AllReadyH.nil)
    · go_simp
      have HP4 := Lib.hid HS.out.fresh
      have hB0 := Blk.new wz 3 #[.int .i64 0, .int .i64 0, .int .i64 0, .int .i64 0, .int .i64 0, .int .i64 1, .int .i64 2, .int .i64 3]
      have hS1 : Blk (World.alloc wz (.cells #[.int .i64 0, .int .i64 0, .int .i64 0, .int .i64 0, .int .i64 0, .int .i64 1, .int .i64 2, .int .i64 3] 3)) p3 3 #[.int .i64 (IntKind.i64.wrap ((x1 : Int) * 4)), .int .i64 1000, .int .i64 1001, .int .i64 (-1)] := (hHeld).alloc (.cells #[.int .i64 0, .int .i64 0, .int .i64 0, .int .i64 0, .int .i64 0, .int .i64 1, .int .i64 2, .int .i64 3] 3)
      replace HS := Lib.hid (HS.out.kept (grown_alloc (grown_refl wz none) (.cells #[.int .i64 0, .int .i64 0, .int .i64 0, .int .i64 0, .int .i64 0, .int .i64 1, .int .i64 2, .int .i64 3] 3)))
      clear hHeld
      refine hK.out _ _ hS1 (fun hX => ?_)
      clear hK K hX
      try simp only [Act.put, List.setIfInBounds_toArray, List.set_cons_zero, List.set_cons_succ]
      generalize wz.heap.size = p4 at HP4 hB0 ⊢
      generalize (World.alloc wz (.cells #[.int .i64 0, .int .i64 0, .int .i64 0, .int .i64 0, .int .i64 0, .int .i64 1, .int .i64 2, .int .i64 3] 3)) = wn at hS1 HS hB0 ⊢
      refine wpAnyH_to (S' := (fun w' => Blk w' p3 3 #[.int .i64 (IntKind.i64.wrap ((x1 : Int) * 4)), .int .i64 1000, .int .i64 1001, .int .i64 (-1)] ∧ Blk w' p4 3 #[.int .i64 0, .int .i64 0, .int .i64 0, .int .i64 0, .int .i64 0, .int .i64 1, .int .i64 2, .int .i64 3])) (fun w' h => h.1) _ _ _ _ ?_
      have hHeld : Blk wn p3 3 #[.int .i64 (IntKind.i64.wrap ((x1 : Int) * 4)), .int .i64 1000, .int .i64 1001, .int .i64 (-1)] ∧ Blk wn p4 3 #[.int .i64 0, .int .i64 0, .int .i64 0, .int .i64 0, .int .i64 0, .int .i64 1, .int .i64 2, .int .i64 3] := ⟨hS1, hB0⟩
      clear hS1 hB0
      revert HP4
      revert HP3
      revert HB1
      revert HS
      revert hHeld
      revert p4
      revert p3
      revert x1
      revert wn
      exact key6.out
    · go_simp
      go_at_call 27
      refine (pick_lt _ _ _ _ _ HS.out.rd (by omega) (by omega)).mono ?_
      rintro e wn ⟨x0, rfl, hu, hv, h4, hg4⟩
      obtain ⟨y6, rfl⟩ := Int.eq_ofNat_of_zero_le hu
      have HB6 := Lib.hid (show y6 < 8 by omega)
      have hS1 : Blk wn p3 3 #[.int .i64 (IntKind.i64.wrap ((x1 : Int) * 4)), .int .i64 1000, .int .i64 1001, .int .i64 (-1)] := Blk.grown (hHeld) hg4 (fun e => HP3.out.1 (Option.some.inj e))
      replace HS := Lib.hid (HS.out.grown hg4 h4)
      clear hHeld
      clear hu hv h4 hg4
      refine hK.out _ _ hS1 (fun hX => ?_)
      clear hK K hX
      try simp only [Act.put, List.setIfInBounds_toArray, List.set_cons_zero, List.set_cons_succ]
      have hHeld := hS1
      clear hS1
      revert HP3
      revert HB6
      revert HB1
      revert HS
      revert hHeld
      revert p3
      revert y6
      revert x1
      revert wn
      exact key7.out
  · intro wz x1 p4 hHeld HS HB1 HP4
    refine wpAnyH_ready (rs := [3, 6]) (by kernel_rfl) (by simp) ?_
    refine AllReadyH.cons rfl (fun K hK => ?_) (AllReadyH.cons rfl (fun K hK => ?_) AllReadyH.nil)
    · go_simp
      have HP3 := Lib.hid HS.out.fresh
      have hB0 := Blk.new wz 3 #[.int .i64 (IntKind.i64.wrap ((x1 : Int) * 4)), .int .i64 1000, .int .i64 1001, .int .i64 (-1)]
      have hS1 : Blk (World.alloc wz (.cells #[.int .i64 (IntKind.i64.wrap ((x1 : Int) * 4)), .int .i64 1000, .int .i64 1001, .int .i64 (-1)] 3)) p4 3 #[.int .i64 0, .int .i64 0, .int .i64 0, .int .i64 0, .int .i64 0, .int .i64 1, .int .i64 2, .int .i64 3] := (hHeld).alloc (.cells #[.int .i64 (IntKind.i64.wrap ((x1 : Int) * 4)), .int .i64 1000, .int .i64 1001, .int .i64 (-1)] 3)
      replace HS := Lib.hid (HS.out.kept (grown_alloc (grown_refl wz none) (.cells #[.int .i64 (IntKind.i64.wrap ((x1 : Int) * 4)), .int .i64 1000, .int .i64 1001, .int .i64 (-1)] 3)))
      clear hHeld
      refine hK.out _ _ hS1 (fun hX => ?_)
      clear hK K hX
      try simp only [Act.put, List.setIfInBounds_toArray, List.set_cons_zero, List.set_cons_succ]
      generalize wz.heap.size = p3 at HP3 hB0 ⊢
      generalize (World.alloc wz (.cells #[.int .i64 (IntKind.i64.wrap ((x1 : Int) * 4)), .int .i64 1000, .int .i64 1001, .int .i64 (-1)] 3)) = wn at hS1 HS hB0 ⊢
      refine wpAnyH_to (S' := (fun w' => Blk w' p3 3 #[.int .i64 (IntKind.i64.wrap ((x1 : Int) * 4)), .int .i64 1000, .int .i64 1001, .int .i64 (-1)] ∧ Blk w' p4 3 #[.int .i64 0, .int .i64 0, .int .i64 0, .int .i64 0, .int .i64 0, .int .i64 1, .int .i64 2, .int .i64 3])) (fun w' h => h.2) _ _ _ _ ?_
      have hHeld : Blk wn p3 3 #[.int .i64 (IntKind.i64.wrap ((x1 : Int) * 4)), .int .i64 1000, .int .i64 1001, .int .i64 (-1)] ∧ Blk wn p4 3 #[.int .i64 0, .int .i64 0, .int .i64 0, .int .i64 0, .int .i64 0, .int .i64 1, .int .i64 2, .int .i64 3] := ⟨hB0, hS1⟩
      clear hS1 hB0
      revert HP4
      revert HP3
      revert HB1
      revert HS
      revert hHeld
      revert p4
      revert p3
      revert x1
      revert wn
      exact key6.out
    · go_simp
      go_at_call 27
      refine (pick_lt _ _ _ _ _ HS.out.rd (by omega) (by omega)).mono ?_
      rintro e wn ⟨x0, rfl, hu, hv, h4, hg4⟩
      obtain ⟨y6, rfl⟩ := Int.eq_ofNat_of_zero_le hu
      have HB6 := Lib.hid (show y6 < 8 by omega)
      have hS1 : Blk wn p4 3 #[.int .i64 0, .int .i64 0, .int .i64 0, .int .i64 0, .int .i64 0, .int .i64 1, .int .i64 2, .int .i64 3] := Blk.grown (hHeld) hg4 (fun e => HP4.out.1 (Option.some.inj e))
      replace HS := Lib.hid (HS.out.grown hg4 h4)
      clear hHeld
      clear hu hv h4 hg4
      refine hK.out _ _ hS1 (fun hX => ?_)
      clear hK K hX
      try simp only [Act.put, List.setIfInBounds_toArray, List.set_cons_zero, List.set_cons_succ]
      have hHeld := hS1
      clear hS1
      have y0 : decide ((0 : Int) ≤ y6) = true := decide_eq_true (by omega)
      have y1 : (y6 : Int) < 8 := by have := HB6.out; omega
      refine heldY 7 14 ?_
      clear y0 y1
      obtain ⟨z8, hz8, hy8⟩ := litH8i y6 HB6.out
      have HZ8 := Lib.hid (And.intro hz8 hy8)
      clear hz8 hy8
      refine held_yes (i := 8) (d := some 15) (v := ?_) rfl rfl (by kernel_rfl) (by kernel_rfl) (by kernel_rfl) (fun _ _ _ h => h) (by rfl) ?_ (by assumption) ?_
      rotate_left
      · (intro w hSw; (try dsimp only at hSw); have e8 := (hSw.cell y6).trans HZ8.out.2; go_simp; (first | done | with_reducible rfl))
      try simp only [Act.put, List.setIfInBounds_toArray, List.set_cons_zero, List.set_cons_succ]
      revert HZ8
      revert HP4
      revert HB6
      revert HB1
      revert HS
      revert hHeld
      revert z8
      revert p4
      revert y6
      revert x1
      revert wn
      exact key8.out
  · intro wz x1 y6 hHeld HS HB1 HB6
    refine wpAnyH_ready (rs := [3, 4, 12]) (by kernel_rfl) (by simp) ?_
    refine AllReadyH.cons rfl (fun K hK => ?_) (AllReadyH.cons rfl (fun K hK => ?_) (AllReadyH.cons rfl (fun K hK => ?_) AllReadyH.nil))
    · go_simp
      have HP3 := Lib.hid HS.out.fresh
      have hB0 := Blk.new wz 3 #[.int .i64 (IntKind.i64.wrap ((x1 : Int) * 4)), .int .i64 1000, .int .i64 1001, .int .i64 (-1)]
      have hS1 : True := trivial
      replace HS := Lib.hid (HS.out.kept (grown_alloc (grown_refl wz none) (.cells #[.int .i64 (IntKind.i64.wrap ((x1 : Int) * 4)), .int .i64 1000, .int .i64 1001, .int .i64 (-1)] 3)))
      clear hHeld
      refine hK.out _ _ hS1 (fun hX => ?_)
      clear hK K hX
      try simp only [Act.put, List.setIfInBounds_toArray, List.set_cons_zero, List.set_cons_succ]
      generalize wz.heap.size = p3 at HP3 hB0 ⊢
      generalize (World.alloc wz (.cells #[.int .i64 (IntKind.i64.wrap ((x1 : Int) * 4)), .int .i64 1000, .int .i64 1001, .int .i64 (-1)] 3)) = wn at hS1 HS hB0 ⊢
      refine wpAnyH_to (S' := (fun w' => Blk w' p3 3 #[.int .i64 (IntKind.i64.wrap ((x1 : Int) * 4)), .int .i64 1000, .int .i64 1001, .int .i64 (-1)])) (fun w' h => trivial) _ _ _ _ ?_
      have hHeld : Blk wn p3 3 #[.int .i64 (IntKind.i64.wrap ((x1 : Int) * 4)), .int .i64 1000, .int .i64 1001, .int .i64 (-1)] := hB0
      clear hS1 hB0
      revert HP3
      revert HB6
      revert HB1
      revert HS
      revert hHeld
      revert p3
      revert y6
      revert x1
      revert wn
      exact key7.out
    · go_simp
      have HP4 := Lib.hid HS.out.fresh
      have hB0 := Blk.new wz 3 #[.int .i64 0, .int .i64 0, .int .i64 0, .int .i64 0, .int .i64 0, .int .i64 1, .int .i64 2, .int .i64 3]
      have hS1 : True := trivial
      replace HS := Lib.hid (HS.out.kept (grown_alloc (grown_refl wz none) (.cells #[.int .i64 0, .int .i64 0, .int .i64 0, .int .i64 0, .int .i64 0, .int .i64 1, .int .i64 2, .int .i64 3] 3)))
      clear hHeld
      refine hK.out _ _ hS1 (fun hX => ?_)
      clear hK K hX
      try simp only [Act.put, List.setIfInBounds_toArray, List.set_cons_zero, List.set_cons_succ]
      generalize wz.heap.size = p4 at HP4 hB0 ⊢
      generalize (World.alloc wz (.cells #[.int .i64 0, .int .i64 0, .int .i64 0, .int .i64 0, .int .i64 0, .int .i64 1, .int .i64 2, .int .i64 3] 3)) = wn at hS1 HS hB0 ⊢
      refine wpAnyH_to (S' := (fun w' => Blk w' p4 3 #[.int .i64 0, .int .i64 0, .int .i64 0, .int .i64 0, .int .i64 0, .int .i64 1, .int .i64 2, .int .i64 3])) (fun w' h => trivial) _ _ _ _ ?_
      have hHeld : Blk wn p4 3 #[.int .i64 0, .int .i64 0, .int .i64 0, .int .i64 0, .int .i64 0, .int .i64 1, .int .i64 2, .int .i64 3] := hB0
      clear hS1 hB0
      have y0 : decide ((0 : Int) ≤ y6) = true := decide_eq_true (by omega)
      have y1 : (y6 : Int) < 8 := by have := HB6.out; omega
      refine heldY 7 14 ?_
      clear y0 y1
      obtain ⟨z8, hz8, hy8⟩ := litH8i y6 HB6.out
      have HZ8 := Lib.hid (And.intro hz8 hy8)
      clear hz8 hy8
      refine held_yes (i := 8) (d := some 15) (v := ?_) rfl rfl (by kernel_rfl) (by kernel_rfl) (by kernel_rfl) (fun _ _ _ h => h) (by rfl) ?_ (by assumption) ?_
      rotate_left
      · (intro w hSw; (try dsimp only at hSw); have e8 := (hSw.cell y6).trans HZ8.out.2; go_simp; (first | done | with_reducible rfl))
      try simp only [Act.put, List.setIfInBounds_toArray, List.set_cons_zero, List.set_cons_succ]
      revert HZ8
      revert HP4
      revert HB6
      revert HB1
      revert HS
      revert hHeld
      revert z8
      revert p4
      revert y6
      revert x1
      revert wn
      exact key8.out
    · go_simp
      go_at_call 27
      refine (pick_lt _ _ _ _ _ HS.out.rd (by omega) (by omega)).mono ?_
      rintro e wn ⟨x12, rfl, hu, hv, h4, hg4⟩
      have HB12 := Lib.hid (And.intro hu hv)
      have hS1 : True := trivial
      replace HS := Lib.hid (HS.out.grown hg4 h4)
      clear hHeld
      clear hu hv h4 hg4
      refine hK.out _ _ hS1 (fun hX => ?_)
      clear hK K hX
      try simp only [Act.put, List.setIfInBounds_toArray, List.set_cons_zero, List.set_cons_succ]
      have hHeld := hS1
      clear hS1
      revert HB12
      revert HB6
      revert HB1
      revert HS
      revert hHeld
      revert x12
      revert y6
      revert x1
      revert wn
      exact key9.out
  · intro wz x1 p3 p4 hHeld HS HB1 HP3 HP4
    refine wpAnyH_ready (rs := [6]) (by kernel_rfl) (by simp) ?_
    refine AllReadyH.cons rfl (fun K hK => ?_) AllReadyH.nil
    go_simp
    go_at_call 27
    refine (pick_lt _ _ _ _ _ HS.out.rd (by omega) (by omega)).mono ?_
    rintro e wn ⟨x0, rfl, hu, hv, h4, hg4⟩
    obtain ⟨y6, rfl⟩ := Int.eq_ofNat_of_zero_le hu
    have HB6 := Lib.hid (show y6 < 8 by omega)
    have hS1 : Blk wn p3 3 #[.int .i64 (IntKind.i64.wrap ((x1 : Int) * 4)), .int .i64 1000, .int .i64 1001, .int .i64 (-1)] ∧ Blk wn p4 3 #[.int .i64 0, .int .i64 0, .int .i64 0, .int .i64 0, .int .i64 0, .int .i64 1, .int .i64 2, .int .i64 3] := ⟨Blk.grown (hHeld.1) hg4 (fun e => HP3.out.1 (Option.some.inj e)), Blk.grown (hHeld.2) hg4 (fun e => HP4.out.1 (Option.some.inj e))⟩
    replace HS := Lib.hid (HS.out.grown hg4 h4)
    clear hHeld
    clear hu hv h4 hg4
    refine hK.out _ _ hS1 (fun hX => ?_)
    clear hK K hX
    try simp only [Act.put, List.setIfInBounds_toArray, List.set_cons_zero, List.set_cons_succ]
    have hHeld := hS1
    clear hS1
    have y0 : decide ((0 : Int) ≤ y6) = true := decide_eq_true (by omega)
    have y1 : (y6 : Int) < 8 := by have := HB6.out; omega
    refine heldY 7 14 ?_
    clear y0 y1
    obtain ⟨z8, hz8, hy8⟩ := litH8i y6 HB6.out
    have HZ8 := Lib.hid (And.intro hz8 hy8)
    clear hz8 hy8
    refine held_yes (i := 8) (d := some 15) (v := ?_) rfl rfl (by kernel_rfl) (by kernel_rfl) (by kernel_rfl) (fun _ _ _ h => h) (by rfl) ?_ (by assumption) ?_
    rotate_left
    · (intro w hSw; (try dsimp only at hSw); have e8 := (hSw.2.cell y6).trans HZ8.out.2; go_simp; (first | done | with_reducible rfl))
    try simp only [Act.put, List.setIfInBounds_toArray, List.set_cons_zero, List.set_cons_succ]
    have y0 : decide ((0 : Int) ≤ z8) = true := decide_eq_true (by omega)
    have y1 : (z8 : Int) < 4 := by have := HZ8.out.1; omega
    refine heldY 9 16 ?_
    clear y0 y1
    obtain ⟨v10, hv10⟩ := litH4 z8 HZ8.out.1 (IntKind.i64.wrap ((x1 : Int) * 4)) 1000 1001 (-1)
    have HZ10 := Lib.hid hv10
    clear hv10
    refine held_yes (i := 10) (d := some 17) (v := ?_) rfl rfl (by kernel_rfl) (by kernel_rfl) (by kernel_rfl) (fun _ _ _ h => h) (by rfl) ?_ (by assumption) ?_
    rotate_left
    · (intro w hSw; (try dsimp only at hSw); have e8 := (hSw.1.cell z8).trans HZ10.out; go_simp; (first | done | with_reducible rfl))
    try simp only [Act.put, List.setIfInBounds_toArray, List.set_cons_zero, List.set_cons_succ]
    revert HZ10
    revert HZ8
    revert HP4
    revert HP3
    revert HB6
    revert HB1
    revert HS
    revert hHeld
    revert v10
    revert z8
    revert p4
    revert p3
    revert y6
    revert x1
    revert wn
    exact key10.out
  · intro wz x1 y6 p3 hHeld HS HB1 HB6 HP3
    refine wpAnyH_ready (rs := [4, 12]) (by kernel_rfl) (by simp) ?_
    refine AllReadyH.cons rfl (fun K hK => ?_) (AllReadyH.cons rfl (fun K hK => ?_) AllReadyH.nil)
    · go_simp
      have HP4 := Lib.hid HS.out.fresh
      have hB0 := Blk.new wz 3 #[.int .i64 0, .int .i64 0, .int .i64 0, .int .i64 0, .int .i64 0, .int .i64 1, .int .i64 2, .int .i64 3]
      have hS1 : Blk (World.alloc wz (.cells #[.int .i64 0, .int .i64 0, .int .i64 0, .int .i64 0, .int .i64 0, .int .i64 1, .int .i64 2, .int .i64 3] 3)) p3 3 #[.int .i64 (IntKind.i64.wrap ((x1 : Int) * 4)), .int .i64 1000, .int .i64 1001, .int .i64 (-1)] := (hHeld).alloc (.cells #[.int .i64 0, .int .i64 0, .int .i64 0, .int .i64 0, .int .i64 0, .int .i64 1, .int .i64 2, .int .i64 3] 3)
      replace HS := Lib.hid (HS.out.kept (grown_alloc (grown_refl wz none) (.cells #[.int .i64 0, .int .i64 0, .int .i64 0, .int .i64 0, .int .i64 0, .int .i64 1, .int .i64 2, .int .i64 3] 3)))
      clear hHeld
      refine hK.out _ _ hS1 (fun hX => ?_)
      clear hK K hX
      try simp only [Act.put, List.setIfInBounds_toArray, List.set_cons_zero, List.set_cons_succ]
      generalize wz.heap.size = p4 at HP4 hB0 ⊢
      generalize (World.alloc wz (.cells #[.int .i64 0, .int .i64 0, .int .i64 0, .int .i64 0, .int .i64 0, .int .i64 1, .int .i64 2, .int .i64 3] 3)) = wn at hS1 HS hB0 ⊢
      refine wpAnyH_to (S' := (fun w' => Blk w' p3 3 #[.int .i64 (IntKind.i64.wrap ((x1 : Int) * 4)), .int .i64 1000, .int .i64 1001, .int .i64 (-1)] ∧ Blk w' p4 3 #[.int .i64 0, .int .i64 0, .int .i64 0, .int .i64 0, .int .i64 0, .int .i64 1, .int .i64 2, .int .i64 3])) (fun w' h => h.1) _ _ _ _ ?_
      have hHeld : Blk wn p3 3 #[.int .i64 (IntKind.i64.wrap ((x1 : Int) * 4)), .int .i64 1000, .int .i64 1001, .int .i64 (-1)] ∧ Blk wn p4 3 #[.int .i64 0, .int .i64 0, .int .i64 0, .int .i64 0, .int .i64 0, .int .i64 1, .int .i64 2, .int .i64 3] := ⟨hS1, hB0⟩
      clear hS1 hB0
      have y0 : decide ((0 : Int) ≤ y6) = true := decide_eq_true (by omega)
      have y1 : (y6 : Int) < 8 := by have := HB6.out; omega
      refine heldY 7 14 ?_
      clear y0 y1
      obtain ⟨z8, hz8, hy8⟩ := litH8i y6 HB6.out
      have HZ8 := Lib.hid (And.intro hz8 hy8)
      clear hz8 hy8
      refine held_yes (i := 8) (d := some 15) (v := ?_) rfl rfl (by kernel_rfl) (by kernel_rfl) (by kernel_rfl) (fun _ _ _ h => h) (by rfl) ?_ (by assumption) ?_
      rotate_left
      · (intro w hSw; (try dsimp only at hSw); have e8 := (hSw.2.cell y6).trans HZ8.out.2; go_simp; (first | done | with_reducible rfl))
      try simp only [Act.put, List.setIfInBounds_toArray, List.set_cons_zero, List.set_cons_succ]
      have y0 : decide ((0 : Int) ≤ z8) = true := decide_eq_true (by omega)
      have y1 : (z8 : Int) < 4 := by have := HZ8.out.1; omega
      refine heldY 9 16 ?_
      clear y0 y1
      obtain ⟨v10, hv10⟩ := litH4 z8 HZ8.out.1 (IntKind.i64.wrap ((x1 : Int) * 4)) 1000 1001 (-1)
      have HZ10 := Lib.hid hv10
      clear hv10
      refine held_yes (i := 10) (d := some 17) (v := ?_) rfl rfl (by kernel_rfl) (by kernel_rfl) (by kernel_rfl) (fun _ _ _ h => h) (by rfl) ?_ (by assumption) ?_
      rotate_left
      · (intro w hSw; (try dsimp only at hSw); have e8 := (hSw.1.cell z8).trans HZ10.out; go_simp; (first | done | with_reducible rfl))
      try simp only [Act.put, List.setIfInBounds_toArray, List.set_cons_zero, List.set_cons_succ]
      revert HZ10
      revert HZ8
      revert HP4
      revert HP3
      revert HB6
      revert HB1
      revert HS
      revert hHeld
      revert v10
      revert z8
      revert p4
      revert p3
      revert y6
      revert x1
      revert wn
      exact key10.out
    · go_simp
      go_at_call 27
      refine (pick_lt _ _ _ _ _ HS.out.rd (by omega) (by omega)).mono ?_
      rintro e wn ⟨x12, rfl, hu, hv, h4, hg4⟩
      have HB12 := Lib.hid (And.intro hu hv)
      have hS1 : Blk wn p3 3 #[.int .i64 (IntKind.i64.wrap ((x1 : Int) * 4)), .int .i64 1000, .int .i64 1001, .int .i64 (-1)] := Blk.grown (hHeld) hg4 (fun e => HP3.out.1 (Option.some.inj e))
      replace HS := Lib.hid (HS.out.grown hg4 h4)
      clear hHeld
      clear hu hv h4 hg4
      refine hK.out _ _ hS1 (fun hX => ?_)
      clear hK K hX
      try simp only [Act.put, List.setIfInBounds_toArray, List.set_cons_zero, List.set_cons_succ]
      have hHeld := hS1
      clear hS1
      revert HP3
      revert HB12
      revert HB6
      revert HB1
      revert HS
      revert hHeld
      revert p3
      revert x12
      revert y6
      revert x1
      revert wn
      exact key11.out
  · intro wz x1 y6 p4 z8 hHeld HS HB1 HB6 HP4 HZ8
    refine wpAnyH_ready (rs := [3, 12]) (by kernel_rfl) (by simp) ?_
    refine AllReadyH.cons rfl (fun K hK => ?_) (AllReadyH.cons rfl (fun K hK => ?_) AllReadyH.nil)
    · go_simp
      have HP3 := Lib.hid HS.out.fresh
      have hB0 := Blk.new wz 3 #[.int .i64 (IntKind.i64.wrap ((x1 : Int) * 4)), .int .i64 1000, .int .i64 1001, .int .i64 (-1)]
      have hS1 : Blk (World.alloc wz (.cells #[.int .i64 (IntKind.i64.wrap ((x1 : Int) * 4)), .int .i64 1000, .int .i64 1001, .int .i64 (-1)] 3)) p4 3 #[.int .i64 0, .int .i64 0, .int .i64 0, .int .i64 0, .int .i64 0, .int .i64 1, .int .i64 2, .int .i64 3] := (hHeld).alloc (.cells #[.int .i64 (IntKind.i64.wrap ((x1 : Int) * 4)), .int .i64 1000, .int .i64 1001, .int .i64 (-1)] 3)
      replace HS := Lib.hid (HS.out.kept (grown_alloc (grown_refl wz none) (.cells #[.int .i64 (IntKind.i64.wrap ((x1 : Int) * 4)), .int .i64 1000, .int .i64 1001, .int .i64 (-1)] 3)))
      clear hHeld
      refine hK.out _ _ hS1 (fun hX => ?_)
      clear hK K hX
      try simp only [Act.put, List.setIfInBounds_toArray, List.set_cons_zero, List.set_cons_succ]
      generalize wz.heap.size = p3 at HP3 hB0 ⊢
      generalize (World.alloc wz (.cells #[.int .i64 (IntKind.i64.wrap ((x1 : Int) * 4)), .int .i64 1000, .int .i64 1001, .int .i64 (-1)] 3)) = wn at hS1 HS hB0 ⊢
      refine wpAnyH_to (S' := (fun w' => Blk w' p3 3 #[.int .i64 (IntKind.i64.wrap ((x1 : Int) * 4)), .int .i64 1000, .int .i64 1001, .int .i64 (-1)] ∧ Blk w' p4 3 #[.int .i64 0, .int .i64 0, .int .i64 0, .int .i64 0, .int .i64 0, .int .i64 1, .int .i64 2, .int .i64 3])) (fun w' h => h.2) _ _ _ _ ?_
      have hHeld : Blk wn p3 3 #[.int .i64 (IntKind.i64.wrap ((x1 : Int) * 4)), .int .i64 1000, .int .i64 1001, .int .i64 (-1)] ∧ Blk wn p4 3 #[.int .i64 0, .int .i64 0, .int .i64 0, .int .i64 0, .int .i64 0, .int .i64 1, .int .i64 2, .int .i64 3] := ⟨hB0, hS1⟩
      clear hS1 hB0
      have y0 : decide ((0 : Int) ≤ z8) = true := decide_eq_true (by omega)
      have y1 : (z8 : Int) < 4 := by have := HZ8.out.1; omega
      refine heldY 9 16 ?_
      clear y0 y1
      obtain ⟨v10, hv10⟩ := litH4 z8 HZ8.out.1 (IntKind.i64.wrap ((x1 : Int) * 4)) 1000 1001 (-1)
      have HZ10 := Lib.hid hv10
      clear hv10
      refine held_yes (i := 10) (d := some 17) (v := ?_) rfl rfl (by kernel_rfl) (by kernel_rfl) (by kernel_rfl) (fun _ _ _ h => h) (by rfl) ?_ (by assumption) ?_
      rotate_left
      · (intro w hSw; (try dsimp only at hSw); have e8 := (hSw.1.cell z8).trans HZ10.out; go_simp; (first | done | with_reducible rfl))
      try simp only [Act.put, List.setIfInBounds_toArray, List.set_cons_zero, List.set_cons_succ]
      revert HZ10
      revert HZ8
      revert HP4
      revert HP3
      revert HB6
      revert HB1
      revert HS
      revert hHeld
      revert v10
      revert z8
      revert p4
      revert p3
      revert y6
      revert x1
      revert wn
      exact key10.out
    · go_simp
      go_at_call 27
      refine (pick_lt _ _ _ _ _ HS.out.rd (by omega) (by omega)).mono ?_
      rintro e wn ⟨x12, rfl, hu, hv, h4, hg4⟩
      have HB12 := Lib.hid (And.intro hu hv)
      have hS1 : Blk wn p4 3 #[.int .i64 0, .int .i64 0, .int .i64 0, .int .i64 0, .int .i64 0, .int .i64 1, .int .i64 2, .int .i64 3] := Blk.grown (hHeld) hg4 (fun e => HP4.out.1 (Option.some.inj e))
      replace HS := Lib.hid (HS.out.grown hg4 h4)
      clear hHeld
      clear hu hv h4 hg4
      refine hK.out _ _ hS1 (fun hX => ?_)
      clear hK K hX
      try simp only [Act.put, List.setIfInBounds_toArray, List.set_cons_zero, List.set_cons_succ]
      have hHeld := hS1
      clear hS1
      revert HZ8
      revert HP4
      revert HB12
      revert HB6
      revert HB1
      revert HS
      revert hHeld
      revert z8
      revert p4
      revert x12
      revert y6
      revert x1
      revert wn
      exact key12.out
  · intro wz x1 y6 x12 hHeld HS HB1 HB6 HB12
    refine wpAnyH_ready (rs := [3, 4, 14]) (by kernel_rfl) (by simp) ?_
    refine AllReadyH.cons rfl (fun K hK => ?_) (AllReadyH.cons rfl (fun K hK => ?_) (AllReadyH.cons rfl (fun K hK => ?_) AllReadyH.nil))
    · go_simp
      have HP3 := Lib.hid HS.out.fresh
      have hB0 := Blk.new wz 3 #[.int .i64 (IntKind.i64.wrap ((x1 : Int) * 4)), .int .i64 1000, .int .i64 1001, .int .i64 (-1)]
      have hS1 : True := trivial
      replace HS := Lib.hid (HS.out.kept (grown_alloc (grown_refl wz none) (.cells #[.int .i64 (IntKind.i64.wrap ((x1 : Int) * 4)), .int .i64 1000, .int .i64 1001, .int .i64 (-1)] 3)))
      clear hHeld
      refine hK.out _ _ hS1 (fun hX => ?_)
      clear hK K hX
      try simp only [Act.put, List.setIfInBounds_toArray, List.set_cons_zero, List.set_cons_succ]
      generalize wz.heap.size = p3 at HP3 hB0 ⊢
      generalize (World.alloc wz (.cells #[.int .i64 (IntKind.i64.wrap ((x1 : Int) * 4)), .int .i64 1000, .int .i64 1001, .int .i64 (-1)] 3)) = wn at hS1 HS hB0 ⊢
      refine wpAnyH_to (S' := (fun w' => Blk w' p3 3 #[.int .i64 (IntKind.i64.wrap ((x1 : Int) * 4)), .int .i64 1000, .int .i64 1001, .int .i64 (-1)])) (fun w' h => trivial) _ _ _ _ ?_
      have hHeld : Blk wn p3 3 #[.int .i64 (IntKind.i64.wrap ((x1 : Int) * 4)), .int .i64 1000, .int .i64 1001, .int .i64 (-1)] := hB0
      clear hS1 hB0
      revert HP3
      revert HB12
      revert HB6
      revert HB1
      revert HS
      revert hHeld
      revert p3
      revert x12
      revert y6
      revert x1
      revert wn
      exact key11.out
    · go_simp
      have HP4 := Lib.hid HS.out.fresh
      have hB0 := Blk.new wz 3 #[.int .i64 0, .int .i64 0, .int .i64 0, .int .i64 0, .int .i64 0, .int .i64 1, .int .i64 2, .int .i64 3]
      have hS1 : True := trivial
      replace HS := Lib.hid (HS.out.kept (grown_alloc (grown_refl wz none) (.cells #[.int .i64 0, .int .i64 0, .int .i64 0, .int .i64 0, .int .i64 0, .int .i64 1, .int .i64 2, .int .i64 3] 3)))
      clear hHeld
      refine hK.out _ _ hS1 (fun hX => ?_)
      clear hK K hX
      try simp only [Act.put, List.setIfInBounds_toArray, List.set_cons_zero, List.set_cons_succ]
      generalize wz.heap.size = p4 at HP4 hB0 ⊢
      generalize (World.alloc wz (.cells #[.int .i64 0, .int .i64 0, .int .i64 0, .int .i64 0, .int .i64 0, .int .i64 1, .int .i64 2, .int .i64 3] 3)) = wn at hS1 HS hB0 ⊢
      refine wpAnyH_to (S' := (fun w' => Blk w' p4 3 #[.int .i64 0, .int .i64 0, .int .i64 0, .int .i64 0, .int .i64 0, .int .i64 1, .int .i64 2, .int .i64 3])) (fun w' h => trivial) _ _ _ _ ?_
      have hHeld : Blk wn p4 3 #[.int .i64 0, .int .i64 0, .int .i64 0, .int .i64 0, .int .i64 0, .int .i64 1, .int .i64 2, .int .i64 3] := hB0
      clear hS1 hB0
      have y0 : decide ((0 : Int) ≤ y6) = true := decide_eq_true (by omega)
      have y1 : (y6 : Int) < 8 := by have := HB6.out; omega
      refine heldY 7 14 ?_
      clear y0 y1
      obtain ⟨z8, hz8, hy8⟩ := litH8i y6 HB6.out
      have HZ8 := Lib.hid (And.intro hz8 hy8)
      clear hz8 hy8
      refine held_yes (i := 8) (d := some 15) (v := ?_) rfl rfl (by kernel_rfl) (by kernel_rfl) (by kernel_rfl) (fun _ _ _ h => h) (by rfl) ?_ (by assumption) ?_
      rotate_left
      · (intro w hSw; (try dsimp only at hSw); have e8 := (hSw.cell y6).trans HZ8.out.2; go_simp; (first | done | with_reducible rfl))
      try simp only [Act.put, List.setIfInBounds_toArray, List.set_cons_zero, List.set_cons_succ]
      revert HZ8
      revert HP4
      revert HB12
      revert HB6
      revert HB1
      revert HS
      revert hHeld
      revert z8
      revert p4
      revert x12
      revert y6
      revert x1
      revert wn
      exact key12.out
    · go_simp
      go_at_call 27
      refine (pick_lt _ _ _ _ _ HS.out.rd (by omega) (by omega)).mono ?_
      rintro e wn ⟨x14, rfl, hu, hv, h4, hg4⟩
      have HB14 := Lib.hid (And.intro hu hv)
      have hS1 : True := trivial
      replace HS := Lib.hid (HS.out.grown hg4 h4)
      clear hHeld
      clear hu hv h4 hg4
      refine hK.out _ _ hS1 (fun hX => ?_)
      clear hK K hX
      try simp only [Act.put, List.setIfInBounds_toArray, List.set_cons_zero, List.set_cons_succ]
      have hHeld := hS1
      clear hS1
      refine heldY 15 22 ?_
      refine heldY 16 23 ?_
      revert HB14
      revert HB12
      revert HB6
      revert HB1
      revert HS
      revert hHeld
      revert x14
      revert x12
      revert y6
      revert x1
      revert wn
      exact key13.out
  · intro wz x1 y6 p3 p4 z8 v10 hHeld HS HB1 HB6 HP3 HP4 HZ8 HZ10
    refine wpAnyH_ready (rs := [12]) (by kernel_rfl) (by simp) ?_
    refine AllReadyH.cons rfl (fun K hK => ?_) AllReadyH.nil
    go_simp
    go_at_call 27
    refine (pick_lt _ _ _ _ _ HS.out.rd (by omega) (by omega)).mono ?_
    rintro e wn ⟨x12, rfl, hu, hv, h4, hg4⟩
    have HB12 := Lib.hid (And.intro hu hv)
    have hS1 : Blk wn p3 3 #[.int .i64 (IntKind.i64.wrap ((x1 : Int) * 4)), .int .i64 1000, .int .i64 1001, .int .i64 (-1)] ∧ Blk wn p4 3 #[.int .i64 0, .int .i64 0, .int .i64 0, .int .i64 0, .int .i64 0, .int .i64 1, .int .i64 2, .int .i64 3] := ⟨Blk.grown (hHeld.1) hg4 (fun e => HP3.out.1 (Option.some.inj e)), Blk.grown (hHeld.2) hg4 (fun e => HP4.out.1 (Option.some.inj e))⟩
    replace HS := Lib.hid (HS.out.grown hg4 h4)
    clear hHeld
    clear hu hv h4 hg4
    refine hK.out _ _ hS1 (fun hX => ?_)
    clear hK K hX
    try simp only [Act.put, List.setIfInBounds_toArray, List.set_cons_zero, List.set_cons_succ]
    have hHeld := hS1
    clear hS1
    revert HZ10
    revert HZ8
    revert HP4
    revert HP3
    revert HB12
    revert HB6
    revert HB1
    revert HS
    revert hHeld
    revert v10
    revert z8
    revert p4
    revert p3
    revert x12
    revert y6
    revert x1
    revert wn
    exact key14.out
  · intro wz x1 y6 x12 p3 hHeld HS HB1 HB6 HB12 HP3
    refine wpAnyH_ready (rs := [4, 14]) (by kernel_rfl) (by simp) ?_
    refine AllReadyH.cons rfl (fun K hK => ?_) (AllReadyH.cons rfl (fun K hK => ?_) AllReadyH.nil)
    · go_simp
      have HP4 := Lib.hid HS.out.fresh
      have hB0 := Blk.new wz 3 #[.int .i64 0, .int .i64 0, .int .i64 0, .int .i64 0, .int .i64 0, .int .i64 1, .int .i64 2, .int .i64 3]
      have hS1 : Blk (World.alloc wz (.cells #[.int .i64 0, .int .i64 0, .int .i64 0, .int .i64 0, .int .i64 0, .int .i64 1, .int .i64 2, .int .i64 3] 3)) p3 3 #[.int .i64 (IntKind.i64.wrap ((x1 : Int) * 4)), .int .i64 1000, .int .i64 1001, .int .i64 (-1)] := (hHeld).alloc (.cells #[.int .i64 0, .int .i64 0, .int .i64 0, .int .i64 0, .int .i64 0, .int .i64 1, .int .i64 2, .int .i64 3] 3)
      replace HS := Lib.hid (HS.out.kept (grown_alloc (grown_refl wz none) (.cells #[.int .i64 0, .int .i64 0, .int .i64 0, .int .i64 0, .int .i64 0, .int .i64 1, .int .i64 2, .int .i64 3] 3)))
      clear hHeld
      refine hK.out _ _ hS1 (fun hX => ?_)
      clear hK K hX
      try simp only [Act.put, List.setIfInBounds_toArray, List.set_cons_zero, List.set_cons_succ]
      generalize wz.heap.size = p4 at HP4 hB0 ⊢
      generalize (World.alloc wz (.cells #[.int .i64 0, .int .i64 0, .int .i64 0, .int .i64 0, .int .i64 0, .int .i64 1, .int .i64 2, .int .i64 3] 3)) = wn at hS1 HS hB0 ⊢
      refine wpAnyH_to (S' := (fun w' => Blk w' p3 3 #[.int .i64 (IntKind.i64.wrap ((x1 : Int) * 4)), .int .i64 1000, .int .i64 1001, .int .i64 (-1)] ∧ Blk w' p4 3 #[.int .i64 0, .int .i64 0, .int .i64 0, .int .i64 0, .int .i64 0, .int .i64 1, .int .i64 2, .int .i64 3])) (fun w' h => h.1) _ _ _ _ ?_
      have hHeld : Blk wn p3 3 #[.int .i64 (IntKind.i64.wrap ((x1 : Int) * 4)), .int .i64 1000, .int .i64 1001, .int .i64 (-1)] ∧ Blk wn p4 3 #[.int .i64 0, .int .i64 0, .int .i64 0, .int .i64 0, .int .i64 0, .int .i64 1, .int .i64 2, .int .i64 3] := ⟨hS1, hB0⟩
      clear hS1 hB0
      have y0 : decide ((0 : Int) ≤ y6) = true := decide_eq_true (by omega)
      have y1 : (y6 : Int) < 8 := by have := HB6.out; omega
      refine heldY 7 14 ?_
      clear y0 y1
      obtain ⟨z8, hz8, hy8⟩ := litH8i y6 HB6.out
      have HZ8 := Lib.hid (And.intro hz8 hy8)
      clear hz8 hy8
      refine held_yes (i := 8) (d := some 15) (v := ?_) rfl rfl (by kernel_rfl) (by kernel_rfl) (by kernel_rfl) (fun _ _ _ h => h) (by rfl) ?_ (by assumption) ?_
      rotate_left
      · (intro w hSw; (try dsimp only at hSw); have e8 := (hSw.2.cell y6).trans HZ8.out.2; go_simp; (first | done | with_reducible rfl))
      try simp only [Act.put, List.setIfInBounds_toArray, List.set_cons_zero, List.set_cons_succ]
      have y0 : decide ((0 : Int) ≤ z8) = true := decide_eq_true (by omega)
      have y1 : (z8 : Int) < 4 := by have := HZ8.out.1; omega
      refine heldY 9 16 ?_
      clear y0 y1
      obtain ⟨v10, hv10⟩ := litH4 z8 HZ8.out.1 (IntKind.i64.wrap ((x1 : Int) * 4)) 1000 1001 (-1)
      have HZ10 := Lib.hid hv10
      clear hv10
      refine held_yes (i := 10) (d := some 17) (v := ?_) rfl rfl (by kernel_rfl) (by kernel_rfl) (by kernel_rfl) (fun _ _ _ h => h) (by rfl) ?_ (by assumption) ?_
      rotate_left
      · (intro w hSw; (try dsimp only at hSw); have e8 := (hSw.1.cell z8).trans HZ10.out; go_simp; (first | done | with_reducible rfl))
      try simp only [Act.put, List.setIfInBounds_toArray, List.set_cons_zero, List.set_cons_succ]
      revert HZ10
      revert HZ8
      revert HP4
      revert HP3
      revert HB12
      revert HB6
      revert HB1
      revert HS
      revert hHeld
      revert v10
      revert z8
      revert p4
      revert p3
      revert x12
      revert y6
      revert x1
      revert wn
      exact key14.out
    · go_simp
      go_at_call 27
      refine (pick_lt _ _ _ _ _ HS.out.rd (by omega) (by omega)).mono ?_
      rintro e wn ⟨x14, rfl, hu, hv, h4, hg4⟩
      have HB14 := Lib.hid (And.intro hu hv)
      have hS1 : Blk wn p3 3 #[.int .i64 (IntKind.i64.wrap ((x1 : Int) * 4)), .int .i64 1000, .int .i64 1001, .int .i64 (-1)] := Blk.grown (hHeld) hg4 (fun e => HP3.out.1 (Option.some.inj e))
      replace HS := Lib.hid (HS.out.grown hg4 h4)
      clear hHeld
      clear hu hv h4 hg4
      refine hK.out _ _ hS1 (fun hX => ?_)
      clear hK K hX
      try simp only [Act.put, List.setIfInBounds_toArray, List.set_cons_zero, List.set_cons_succ]
      have hHeld := hS1
      clear hS1
      refine heldY 15 22 ?_
      refine heldY 16 23 ?_
      revert HP3
      revert HB14
      revert HB12
      revert HB6
      revert HB1
      revert HS
      revert hHeld
      revert p3
      revert x14
      revert x12
      revert y6
      revert x1
      revert wn
      exact key15.out
  · intro wz x1 y6 x12 p4 z8 hHeld HS HB1 HB6 HB12 HP4 HZ8
    refine wpAnyH_ready (rs := [3, 14]) (by kernel_rfl) (by simp) ?_
    refine AllReadyH.cons rfl (fun K hK => ?_) (AllReadyH.cons rfl (fun K hK => ?_) AllReadyH.nil)
    · go_simp
      have HP3 := Lib.hid HS.out.fresh
      have hB0 := Blk.new wz 3 #[.int .i64 (IntKind.i64.wrap ((x1 : Int) * 4)), .int .i64 1000, .int .i64 1001, .int .i64 (-1)]
      have hS1 : Blk (World.alloc wz (.cells #[.int .i64 (IntKind.i64.wrap ((x1 : Int) * 4)), .int .i64 1000, .int .i64 1001, .int .i64 (-1)] 3)) p4 3 #[.int .i64 0, .int .i64 0, .int .i64 0, .int .i64 0, .int .i64 0, .int .i64 1, .int .i64 2, .int .i64 3] := (hHeld).alloc (.cells #[.int .i64 (IntKind.i64.wrap ((x1 : Int) * 4)), .int .i64 1000, .int .i64 1001, .int .i64 (-1)] 3)
      replace HS := Lib.hid (HS.out.kept (grown_alloc (grown_refl wz none) (.cells #[.int .i64 (IntKind.i64.wrap ((x1 : Int) * 4)), .int .i64 1000, .int .i64 1001, .int .i64 (-1)] 3)))
      clear hHeld
      refine hK.out _ _ hS1 (fun hX => ?_)
      clear hK K hX
      try simp only [Act.put, List.setIfInBounds_toArray, List.set_cons_zero, List.set_cons_succ]
      generalize wz.heap.size = p3 at HP3 hB0 ⊢
      generalize (World.alloc wz (.cells #[.int .i64 (IntKind.i64.wrap ((x1 : Int) * 4)), .int .i64 1000, .int .i64 1001, .int .i64 (-1)] 3)) = wn at hS1 HS hB0 ⊢
      refine wpAnyH_to (S' := (fun w' => Blk w' p3 3 #[.int .i64 (IntKind.i64.wrap ((x1 : Int) * 4)), .int .i64 1000, .int .i64 1001, .int .i64 (-1)] ∧ Blk w' p4 3 #[.int .i64 0, .int .i64 0, .int .i64 0, .int .i64 0, .int .i64 0, .int .i64 1, .int .i64 2, .int .i64 3])) (fun w' h => h.2) _ _ _ _ ?_
      have hHeld : Blk wn p3 3 #[.int .i64 (IntKind.i64.wrap ((x1 : Int) * 4)), .int .i64 1000, .int .i64 1001, .int .i64 (-1)] ∧ Blk wn p4 3 #[.int .i64 0, .int .i64 0, .int .i64 0, .int .i64 0, .int .i64 0, .int .i64 1, .int .i64 2, .int .i64 3] := ⟨hB0, hS1⟩
      clear hS1 hB0
      have y0 : decide ((0 : Int) ≤ z8) = true := decide_eq_true (by omega)
      have y1 : (z8 : Int) < 4 := by have := HZ8.out.1; omega
      refine heldY 9 16 ?_
      clear y0 y1
      obtain ⟨v10, hv10⟩ := litH4 z8 HZ8.out.1 (IntKind.i64.wrap ((x1 : Int) * 4)) 1000 1001 (-1)
      have HZ10 := Lib.hid hv10
      clear hv10
      refine held_yes (i := 10) (d := some 17) (v := ?_) rfl rfl (by kernel_rfl) (by kernel_rfl) (by kernel_rfl) (fun _ _ _ h => h) (by rfl) ?_ (by assumption) ?_
      rotate_left
      · (intro w hSw; (try dsimp only at hSw); have e8 := (hSw.1.cell z8).trans HZ10.out; go_simp; (first | done | with_reducible rfl))
      try simp only [Act.put, List.setIfInBounds_toArray, List.set_cons_zero, List.set_cons_succ]
      revert HZ10
      revert HZ8
      revert HP4
      revert HP3
      revert HB12
      revert HB6
      revert HB1
      revert HS
      revert hHeld
      revert v10
      revert z8
      revert p4
      revert p3
      revert x12
      revert y6
      revert x1
      revert wn
      exact key14.out
    · go_simp
      go_at_call 27
      refine (pick_lt _ _ _ _ _ HS.out.rd (by omega) (by omega)).mono ?_
      rintro e wn ⟨x14, rfl, hu, hv, h4, hg4⟩
      have HB14 := Lib.hid (And.intro hu hv)
      have hS1 : Blk wn p4 3 #[.int .i64 0, .int .i64 0, .int .i64 0, .int .i64 0, .int .i64 0, .int .i64 1, .int .i64 2, .int .i64 3] := Blk.grown (hHeld) hg4 (fun e => HP4.out.1 (Option.some.inj e))
      replace HS := Lib.hid (HS.out.grown hg4 h4)
      clear hHeld
      clear hu hv h4 hg4
      refine hK.out _ _ hS1 (fun hX => ?_)
      clear hK K hX
      try simp only [Act.put, List.setIfInBounds_toArray, List.set_cons_zero, List.set_cons_succ]
      have hHeld := hS1
      clear hS1
      refine heldY 15 22 ?_
      refine heldY 16 23 ?_
      revert HZ8
      revert HP4
      revert HB14
      revert HB12
      revert HB6
      revert HB1
      revert HS
      revert hHeld
      revert z8
      revert p4
      revert x14
      revert x12
      revert y6
      revert x1
      revert wn
      exact key16.out
  · intro wz x1 y6 x12 x14 hHeld HS HB1 HB6 HB12 HB14
    refine wpAnyH_ready (rs := [3, 4]) (by kernel_rfl) (by simp) ?_
    refine AllReadyH.cons rfl (fun K hK => ?_) (AllReadyH.cons rfl (fun K hK => ?_) AllReadyH.nil)
    · go_simp
      have HP3 := Lib.hid HS.out.fresh
      have hB0 := Blk.new wz 3 #[.int .i64 (IntKind.i64.wrap ((x1 : Int) * 4)), .int .i64 1000, .int .i64 1001, .int .i64 (-1)]
      have hS1 : True := trivial
      replace HS := Lib.hid (HS.out.kept (grown_alloc (grown_refl wz none) (.cells #[.int .i64 (IntKind.i64.wrap ((x1 : Int) * 4)), .int .i64 1000, .int .i64 1001, .int .i64 (-1)] 3)))
      clear hHeld
      refine hK.out _ _ hS1 (fun hX => ?_)
      clear hK K hX
      try simp only [Act.put, List.setIfInBounds_toArray, List.set_cons_zero, List.set_cons_succ]
      generalize wz.heap.size = p3 at HP3 hB0 ⊢
      generalize (World.alloc wz (.cells #[.int .i64 (IntKind.i64.wrap ((x1 : Int) * 4)), .int .i64 1000, .int .i64 1001, .int .i64 (-1)] 3)) = wn at hS1 HS hB0 ⊢
      refine wpAnyH_to (S' := (fun w' => Blk w' p3 3 #[.int .i64 (IntKind.i64.wrap ((x1 : Int) * 4)), .int .i64 1000, .int .i64 1001, .int .i64 (-1)])) (fun w' h => trivial) _ _ _ _ ?_
      have hHeld : Blk wn p3 3 #[.int .i64 (IntKind.i64.wrap ((x1 : Int) * 4)), .int .i64 1000, .int .i64 1001, .int .i64 (-1)] := hB0
      clear hS1 hB0
      revert HP3
      revert HB14
      revert HB12
      revert HB6
      revert HB1
      revert HS
      revert hHeld
      revert p3
      revert x14
      revert x12
      revert y6
      revert x1
      revert wn
      exact key15.out
    · go_simp
      have HP4 := Lib.hid HS.out.fresh
      have hB0 := Blk.new wz 3 #[.int .i64 0, .int .i64 0, .int .i64 0, .int .i64 0, .int .i64 0, .int .i64 1, .int .i64 2, .int .i64 3]
      have hS1 : True := trivial
      replace HS := Lib.hid (HS.out.kept (grown_alloc (grown_refl wz none) (.cells #[.int .i64 0, .int .i64 0, .int .i64 0, .int .i64 0, .int .i64 0, .int .i64 1, .int .i64 2, .int .i64 3] 3)))
      clear hHeld
      refine hK.out _ _ hS1 (fun hX => ?_)
      clear hK K hX
      try simp only [Act.put, List.setIfInBounds_toArray, List.set_cons_zero, List.set_cons_succ]
      generalize wz.heap.size = p4 at HP4 hB0 ⊢
      generalize (World.alloc wz (.cells #[.int .i64 0, .int .i64 0, .int .i64 0, .int .i64 0, .int .i64 0, .int .i64 1, .int .i64 2, .int .i64 3] 3)) = wn at hS1 HS hB0 ⊢
      refine wpAnyH_to (S' := (fun w' => Blk w' p4 3 #[.int .i64 0, .int .i64 0, .int .i64 0, .int .i64 0, .int .i64 0, .int .i64 1, .int .i64 2, .int .i64 3])) (fun w' h => trivial) _ _ _ _ ?_
      have hHeld : Blk wn p4 3 #[.int .i64 0, .int .i64 0, .int .i64 0, .int .i64 0, .int .i64 0, .int .i64 1, .int .i64 2, .int .i64 3] := hB0
      clear hS1 hB0
      have y0 : decide ((0 : Int) ≤ y6) = true := decide_eq_true (by omega)
      have y1 : (y6 : Int) < 8 := by have := HB6.out; omega
      refine heldY 7 14 ?_
      clear y0 y1
      obtain ⟨z8, hz8, hy8⟩ := litH8i y6 HB6.out
      have HZ8 := Lib.hid (And.intro hz8 hy8)
      clear hz8 hy8
      refine held_yes (i := 8) (d := some 15) (v := ?_) rfl rfl (by kernel_rfl) (by kernel_rfl) (by kernel_rfl) (fun _ _ _ h => h) (by rfl) ?_ (by assumption) ?_
      rotate_left
      · (intro w hSw; (try dsimp only at hSw); have e8 := (hSw.cell y6).trans HZ8.out.2; go_simp; (first | done | with_reducible rfl))
      try simp only [Act.put, List.setIfInBounds_toArray, List.set_cons_zero, List.set_cons_succ]
      revert HZ8
      revert HP4
      revert HB14
      revert HB12
      revert HB6
      revert HB1
      revert HS
      revert hHeld
      revert z8
      revert p4
      revert x14
      revert x12
      revert y6
      revert x1
      revert wn
      exact key16.out
  · intro wz x1 y6 x12 p3 p4 z8 v10 hHeld HS HB1 HB6 HB12 HP3 HP4 HZ8 HZ10
    refine wpAnyH_ready (rs := [14]) (by kernel_rfl) (by simp) ?_
    refine AllReadyH.cons rfl (fun K hK => ?_) AllReadyH.nil
    go_simp
    go_at_call 27
    refine (pick_lt _ _ _ _ _ HS.out.rd (by omega) (by omega)).mono ?_
    rintro e wn ⟨x14, rfl, hu, hv, h4, hg4⟩
    have HB14 := Lib.hid (And.intro hu hv)
    have hS1 : Blk wn p3 3 #[.int .i64 (IntKind.i64.wrap ((x1 : Int) * 4)), .int .i64 1000, .int .i64 1001, .int .i64 (-1)] ∧ Blk wn p4 3 #[.int .i64 0, .int .i64 0, .int .i64 0, .int .i64 0, .int .i64 0, .int .i64 1, .int .i64 2, .int .i64 3] := ⟨Blk.grown (hHeld.1) hg4 (fun e => HP3.out.1 (Option.some.inj e)), Blk.grown (hHeld.2) hg4 (fun e => HP4.out.1 (Option.some.inj e))⟩
    replace HS := Lib.hid (HS.out.grown hg4 h4)
    clear hHeld
    clear hu hv h4 hg4
    refine hK.out _ _ hS1 (fun hX => ?_)
    clear hK K hX
    try simp only [Act.put, List.setIfInBounds_toArray, List.set_cons_zero, List.set_cons_succ]
    have hHeld := hS1
    clear hS1
    refine heldY 15 22 ?_
    refine heldY 16 23 ?_
    refine heldY 17 2 ?_
    refine heldY 18 3 ?_
    revert HZ10
    revert HZ8
    revert HP4
    revert HP3
    revert HB14
    revert HB12
    revert HB6
    revert HB1
    revert HS
    revert hHeld
    revert v10
    revert z8
    revert p4
    revert p3
    revert x14
    revert x12
    revert y6
    revert x1
    revert wn
    exact key17.out
  · intro wz x1 y6 x12 x14 p3 hHeld HS HB1 HB6 HB12 HB14 HP3
    refine wpAnyH_ready (rs := [4]) (by kernel_rfl) (by simp) ?_
    refine AllReadyH.cons rfl (fun K hK => ?_) AllReadyH.nil
    go_simp
    have HP4 := Lib.hid HS.out.fresh
    have hB0 := Blk.new wz 3 #[.int .i64 0, .int .i64 0, .int .i64 0, .int .i64 0, .int .i64 0, .int .i64 1, .int .i64 2, .int .i64 3]
    have hS1 : Blk (World.alloc wz (.cells #[.int .i64 0, .int .i64 0, .int .i64 0, .int .i64 0, .int .i64 0, .int .i64 1, .int .i64 2, .int .i64 3] 3)) p3 3 #[.int .i64 (IntKind.i64.wrap ((x1 : Int) * 4)), .int .i64 1000, .int .i64 1001, .int .i64 (-1)] := (hHeld).alloc (.cells #[.int .i64 0, .int .i64 0, .int .i64 0, .int .i64 0, .int .i64 0, .int .i64 1, .int .i64 2, .int .i64 3] 3)
    replace HS := Lib.hid (HS.out.kept (grown_alloc (grown_refl wz none) (.cells #[.int .i64 0, .int .i64 0, .int .i64 0, .int .i64 0, .int .i64 0, .int .i64 1, .int .i64 2, .int .i64 3] 3)))
    clear hHeld
    refine hK.out _ _ hS1 (fun hX => ?_)
    clear hK K hX
    try simp only [Act.put, List.setIfInBounds_toArray, List.set_cons_zero, List.set_cons_succ]
    generalize wz.heap.size = p4 at HP4 hB0 ⊢
    generalize (World.alloc wz (.cells #[.int .i64 0, .int .i64 0, .int .i64 0, .int .i64 0, .int .i64 0, .int .i64 1, .int .i64 2, .int .i64 3] 3)) = wn at hS1 HS hB0 ⊢
    refine wpAnyH_to (S' := (fun w' => Blk w' p3 3 #[.int .i64 (IntKind.i64.wrap ((x1 : Int) * 4)), .int .i64 1000, .int .i64 1001, .int .i64 (-1)] ∧ Blk w' p4 3 #[.int .i64 0, .int .i64 0, .int .i64 0, .int .i64 0, .int .i64 0, .int .i64 1, .int .i64 2, .int .i64 3])) (fun w' h => h.1) _ _ _ _ ?_
    have hHeld : Blk wn p3 3 #[.int .i64 (IntKind.i64.wrap ((x1 : Int) * 4)), .int .i64 1000, .int .i64 1001, .int .i64 (-1)] ∧ Blk wn p4 3 #[.int .i64 0, .int .i64 0, .int .i64 0, .int .i64 0, .int .i64 0, .int .i64 1, .int .i64 2, .int .i64 3] := ⟨hS1, hB0⟩
    clear hS1 hB0
    have y0 : decide ((0 : Int) ≤ y6) = true := decide_eq_true (by omega)
    have y1 : (y6 : Int) < 8 := by have := HB6.out; omega
    refine heldY 7 14 ?_
    clear y0 y1
    obtain ⟨z8, hz8, hy8⟩ := litH8i y6 HB6.out
    have HZ8 := Lib.hid (And.intro hz8 hy8)
    clear hz8 hy8
    refine held_yes (i := 8) (d := some 15) (v := ?_) rfl rfl (by kernel_rfl) (by kernel_rfl) (by kernel_rfl) (fun _ _ _ h => h) (by rfl) ?_ (by assumption) ?_
    rotate_left
    · (intro w hSw; (try dsimp only at hSw); have e8 := (hSw.2.cell y6).trans HZ8.out.2; go_simp; (first | done | with_reducible rfl))
    try simp only [Act.put, List.setIfInBounds_toArray, List.set_cons_zero, List.set_cons_succ]
    have y0 : decide ((0 : Int) ≤ z8) = true := decide_eq_true (by omega)
    have y1 : (z8 : Int) < 4 := by have := HZ8.out.1; omega
    refine heldY 9 16 ?_
    clear y0 y1
    obtain ⟨v10, hv10⟩ := litH4 z8 HZ8.out.1 (IntKind.i64.wrap ((x1 : Int) * 4)) 1000 1001 (-1)
    have HZ10 := Lib.hid hv10
    clear hv10
    refine held_yes (i := 10) (d := some 17) (v := ?_) rfl rfl (by kernel_rfl) (by kernel_rfl) (by kernel_rfl) (fun _ _ _ h => h) (by rfl) ?_ (by assumption) ?_
    rotate_left
    · (intro w hSw; (try dsimp only at hSw); have e8 := (hSw.1.cell z8).trans HZ10.out; go_simp; (first | done | with_reducible rfl))
    try simp only [Act.put, List.setIfInBounds_toArray, List.set_cons_zero, List.set_cons_succ]
    refine heldY 17 2 ?_
    refine heldY 18 3 ?_
    revert HZ10
    revert HZ8
    revert HP4
    revert HP3
    revert HB14
    revert HB12
    revert HB6
    revert HB1
    revert HS
    revert hHeld
    revert v10
    revert z8
    revert p4
    revert p3
    revert x14
    revert x12
    revert y6
    revert x1
    revert wn
    exact key17.out
  · intro wz x1 y6 x12 x14 p4 z8 hHeld HS HB1 HB6 HB12 HB14 HP4 HZ8
    refine wpAnyH_ready (rs := [3]) (by kernel_rfl) (by simp) ?_
    refine AllReadyH.cons rfl (fun K hK => ?_) AllReadyH.nil
    go_simp
    have HP3 := Lib.hid HS.out.fresh
    have hB0 := Blk.new wz 3 #[.int .i64 (IntKind.i64.wrap ((x1 : Int) * 4)), .int .i64 1000, .int .i64 1001, .int .i64 (-1)]
    have hS1 : Blk (World.alloc wz (.cells #[.int .i64 (IntKind.i64.wrap ((x1 : Int) * 4)), .int .i64 1000, .int .i64 1001, .int .i64 (-1)] 3)) p4 3 #[.int .i64 0, .int .i64 0, .int .i64 0, .int .i64 0, .int .i64 0, .int .i64 1, .int .i64 2, .int .i64 3] := (hHeld).alloc (.cells #[.int .i64 (IntKind.i64.wrap ((x1 : Int) * 4)), .int .i64 1000, .int .i64 1001, .int .i64 (-1)] 3)
    replace HS := Lib.hid (HS.out.kept (grown_alloc (grown_refl wz none) (.cells #[.int .i64 (IntKind.i64.wrap ((x1 : Int) * 4)), .int .i64 1000, .int .i64 1001, .int .i64 (-1)] 3)))
    clear hHeld
    refine hK.out _ _ hS1 (fun hX => ?_)
    clear hK K hX
    try simp only [Act.put, List.setIfInBounds_toArray, List.set_cons_zero, List.set_cons_succ]
    generalize wz.heap.size = p3 at HP3 hB0 ⊢
    generalize (World.alloc wz (.cells #[.int .i64 (IntKind.i64.wrap ((x1 : Int) * 4)), .int .i64 1000, .int .i64 1001, .int .i64 (-1)] 3)) = wn at hS1 HS hB0 ⊢
    refine wpAnyH_to (S' := (fun w' => Blk w' p3 3 #[.int .i64 (IntKind.i64.wrap ((x1 : Int) * 4)), .int .i64 1000, .int .i64 1001, .int .i64 (-1)] ∧ Blk w' p4 3 #[.int .i64 0, .int .i64 0, .int .i64 0, .int .i64 0, .int .i64 0, .int .i64 1, .int .i64 2, .int .i64 3])) (fun w' h => h.2) _ _ _ _ ?_
    have hHeld : Blk wn p3 3 #[.int .i64 (IntKind.i64.wrap ((x1 : Int) * 4)), .int .i64 1000, .int .i64 1001, .int .i64 (-1)] ∧ Blk wn p4 3 #[.int .i64 0, .int .i64 0, .int .i64 0, .int .i64 0, .int .i64 0, .int .i64 1, .int .i64 2, .int .i64 3] := ⟨hB0, hS1⟩
    clear hS1 hB0
    have y0 : decide ((0 : Int) ≤ z8) = true := decide_eq_true (by omega)
    have y1 : (z8 : Int) < 4 := by have := HZ8.out.1; omega
    refine heldY 9 16 ?_
    clear y0 y1
    obtain ⟨v10, hv10⟩ := litH4 z8 HZ8.out.1 (IntKind.i64.wrap ((x1 : Int) * 4)) 1000 1001 (-1)
    have HZ10 := Lib.hid hv10
    clear hv10
    refine held_yes (i := 10) (d := some 17) (v := ?_) rfl rfl (by kernel_rfl) (by kernel_rfl) (by kernel_rfl) (fun _ _ _ h => h) (by rfl) ?_ (by assumption) ?_
    rotate_left
    · (intro w hSw; (try dsimp only at hSw); have e8 := (hSw.1.cell z8).trans HZ10.out; go_simp; (first | done | with_reducible rfl))
    try simp only [Act.put, List.setIfInBounds_toArray, List.set_cons_zero, List.set_cons_succ]
    refine heldY 17 2 ?_
    refine heldY 18 3 ?_
    revert HZ10
    revert HZ8
    revert HP4
    revert HP3
    revert HB14
    revert HB12
    revert HB6
    revert HB1
    revert HS
    revert hHeld
    revert v10
    revert z8
    revert p4
    revert p3
    revert x14
    revert x12
    revert y6
    revert x1
    revert wn
    exact key17.out
  · intro wz x1 y6 x12 x14 p3 p4 z8 v10 hHeld HS HB1 HB6 HB12 HB14 HP3 HP4 HZ8 HZ10
    refine wpAnyH_done (by kernel_rfl) ?_ _
    go_wp2
    go_ret2
    exact ⟨_, _, rfl, HS.out.2.1⟩
theorem drawKind_any (w : World) (A : Option Addr) (n c : Nat) (hn : n ≤ c) (hc : c ≤ 9223372036854775807) (h : Bytes w w.heap.size A n) :
    Calls Try.prog 15 #[.slice A n c] w (HeatDrawn w) := by
  go_enter Try.func15, Try.ntmps15
  go_wp2_with fail
  refine (open_any w A n c hn hc h).mono ?_
  rintro e w1 ⟨rfl, h1, hb1⟩
  have HS := Lib.hid (show RdH w w.heap.size w.heap.size _ w1 from ⟨h1, hb1, Nat.le_refl _, Nat.le_refl _⟩)
  clear h h1 hb1
  go_wp2_with fail
  refine (pick_lt _ _ _ _ _ HS.out.rd (by omega) (by omega)).mono ?_
  rintro e w2 ⟨x, rfl, x0, x1, h2, hg2⟩
  replace HS := Lib.hid (HS.out.grown hg2 h2)
  have HP := Lib.hid HS.out.fresh
  replace HS := Lib.hid (HS.out.kept (grown_alloc (grown_refl w2 none) (.cells #[.int .i64 x, .int .i64 100, .int .i64 99, .int .i64 10, .int .i64 9, .int .i64 1000, .int .i64 1001, .int .i64 (-1)] 3)))
  clear h2 hg2
  go_wp2_with fail
  refine (pick_lt _ _ _ _ _ HS.out.rd (by omega) (by omega)).mono ?_
  rintro e w3 ⟨y, rfl, y0, y1, h3, hg3⟩
  obtain ⟨k, rfl⟩ := Int.eq_ofNat_of_zero_le y0
  obtain ⟨v, hv⟩ := litH8 k (by omega) x 100 99 10 9 1000 1001 (-1)
  have e1 : w3.cell? ⟨w2.heap.size, k, none⟩ = some (.int .i64 v) := (((Blk.new w2 3 #[.int .i64 x, .int .i64 100, .int .i64 99, .int .i64 10, .int .i64 9, .int .i64 1000, .int .i64 1001, .int .i64 (-1)]).grown hg3 (fun e => by have := HP.out.1; injection e with e; omega)).cell k).trans hv
  replace HS := Lib.hid (HS.out.grown hg3 h3)
  have k0 : decide ((0 : Int) ≤ k) = true := decide_eq_true (by omega)
  clear h3 hg3 hv x0 x1 y0
  go_wp2
  go_ret
  exact ⟨_, rfl, HS.out.2.1⟩
theorem drawCools_any (w : World) (A : Option Addr) (n c : Nat) (hn : n ≤ c) (hc : c ≤ 9223372036854775807) (h : Bytes w w.heap.size A n) :
    Calls Try.prog 21 #[.slice A n c] w (HeatDrawn w) := by
  go_enter Try.func21, Try.ntmps21
  go_wp2_with fail
  refine (drawKind_any w A n c hn hc h).mono ?_
  rintro e w1 ⟨u, rfl, hb1⟩
  have HF := Lib.hid hb1
  clear h hb1
  go_wp2
  go_ret
  exact ⟨_, rfl, HF.out⟩
end Go.Proofs.Ytofolifmgpgkoaa
