/- What the model draws for chapter 17, further: a table and a number. -/
import Derived.Test.YtlldmbocaloogaaDrawTabs2
import Derived.Test.YtlldmbocaloogaaDag
namespace Go.Proofs.Ytlldmbocaloogaa
open Go.ChangeShapes Go.WideShapes Go.ChangeAt Go.RowKit
set_option linter.unusedVariables false
set_option linter.unusedSimpArgs false

/-- A drawn table, while the reader reads on (v: it still does). -/
def DT (w : World) (A : Option Addr) (ls : List Li) (g B Q : Nat) (v : Bool) (wr : World) : Prop := TRow wr wr.heap.size A ls ∧ (v = true → Rd wr B g Q) ∧ Below w.heap.size w wr ∧ (w.heap.size < g ∧ g < wr.heap.size) ∧ TFar (g + 1) A ls
section
variable {w wr w' : World} {B g Q Q' : Nat} {A : Option Addr} {ls : List Li} {v : Bool}
theorem DT.rd (H : DT w A ls g B Q true wr) : Rd wr B g Q := H.2.1 rfl
theorem DT.grown (H : DT w A ls g B Q v wr) (hg : wr.grownBy w' (some g)) (hr : Rd w' B g Q') : DT w A ls g B Q' v w' :=
  ⟨(H.1.grownLo H.2.2.2.2 hg (by omega)).here, fun _ => hr, H.2.2.1.trans (Below.of_grown hg (by have := H.2.2.2.1; omega) H.2.2.1.size), ⟨H.2.2.2.1.1, Nat.lt_of_lt_of_le H.2.2.2.1.2 hg.size⟩, H.2.2.2.2⟩
theorem DT.kept (H : DT w A ls g B Q v wr) (hk : wr.grownBy w' none) : DT w A ls g B Q v w' :=
  ⟨(H.1.kept hk).here, fun e => (H.2.1 e).grown hk (by intro k e; cases e), Below.and_kept H.2.2.1 hk, ⟨H.2.2.2.1.1, Nat.lt_of_lt_of_le H.2.2.2.1.2 hk.size⟩, H.2.2.2.2⟩
theorem DT.fresh (H : DT w A ls g B Q v wr) : wr.heap.size ≠ g ∧ w.heap.size < wr.heap.size := ⟨by have := H.2.2.2.1; omega, by have := H.2.2.2.1; omega⟩
theorem DT.far (H : DT w A ls g B Q v wr) : w.heap.size < g := H.2.2.2.1.1
/-- The result's cell is written. -/
theorem DT.put (H : DT w A ls g B Q v wr) (u : Value) : DT w A ls g B Q false (wr.setCell ⟨w.heap.size, 0, none⟩ u) := by
  obtain ⟨h1, h2, h3, h4, h5⟩ := H
  have hs : (wr.setCell ⟨w.heap.size, 0, none⟩ u).heap.size = wr.heap.size := by simp [World.setCell]
  refine ⟨?_, fun e => (by cases e), h3.setCell (Nat.le_refl _) u, by rw [hs]; exact h4, h5⟩
  rw [hs]
  exact h1.putLo h5 (p := ⟨w.heap.size, 0, none⟩) (by dsimp only; omega) u
end
theorem litZ8 (y : Nat) (h : y < 8) : ∃ z : Nat, z < 4 ∧ (#[Value.int .i64 0, Value.int .i64 0, Value.int .i64 0, Value.int .i64 0, Value.int .i64 0, Value.int .i64 1, Value.int .i64 2, Value.int .i64 3] : Array Value)[y]? = some (.int .i64 (z : Int)) := by
  have h1 : y = 0 ∨ y = 1 ∨ y = 2 ∨ y = 3 ∨ y = 4 ∨ y = 5 ∨ y = 6 ∨ y = 7 := by omega
  rcases h1 with rfl | rfl | rfl | rfl | rfl | rfl | rfl | rfl
  · exact ⟨0, by omega, rfl⟩
  · exact ⟨0, by omega, rfl⟩
  · exact ⟨0, by omega, rfl⟩
  · exact ⟨0, by omega, rfl⟩
  · exact ⟨0, by omega, rfl⟩
  · exact ⟨1, by omega, rfl⟩
  · exact ⟨2, by omega, rfl⟩
  · exact ⟨3, by omega, rfl⟩
theorem litZ4 (y : Nat) (h : y < 4) (a b c d : Int) : ∃ v : Int, (#[Value.int .i64 a, Value.int .i64 b, Value.int .i64 c, Value.int .i64 d] : Array Value)[y]? = some (.int .i64 v) := by
  have h1 : y = 0 ∨ y = 1 ∨ y = 2 ∨ y = 3 := by omega
  rcases h1 with rfl | rfl | rfl | rfl
  · exact ⟨a, rfl⟩
  · exact ⟨b, rfl⟩
  · exact ⟨c, rfl⟩
  · exact ⟨d, rfl⟩
/-- A table and a number are drawn. -/
def SaveTDrawn (w : World) (e : Ending) (w' : World) : Prop :=
  ∃ (A : Option Addr) (n c : Nat) (ls : List Li) (v : Int), e = .returned (.tuple #[.agg #[.slice A n c], .int .i64 v]) ∧ ls.length = n ∧ n ≤ 8 ∧ (∀ l, l ∈ ls → l.xs.length ≤ 6) ∧ LT w A ls w'
set_option maxRecDepth 8000 in
set_option maxHeartbeats 8000000 in
theorem drawSaveTable_any (w : World) (A : Option Addr) (n c : Nat) (hn : n ≤ c) (hc : c ≤ 9223372036854775807) (h : Bytes w w.heap.size A n) :
    Calls Try.prog 15 #[.slice A n c] w (SaveTDrawn w) := by
  have h0 := h.alloc (.cells #[.slice none 0 0] 31)
  go_enter Try.func15, Try.ntmps15
  go_wp2_with fail
  refine (open_any _ A n c hn hc h0).mono ?_
  rintro e w1 ⟨rfl, h1, hb1⟩
  (try simp only [size_of_alloc] at h1 hb1)
  have hr1 := (Blk.new w 31 #[.slice none 0 0]).below hb1 (by omega)
  have hg1 := h1.lt
  have hz1 := hb1.size
  (try simp only [size_of_alloc] at hz1)
  go_wp2_with fail
  refine (tables_any _ _ _ _ 9 h1 (by omega) (by omega) (by omega)).mono ?_
  rintro e w2 ⟨A2, n2, c2, ls, rfl, hl, h8, h6, hrow, hfar, h2, hg2⟩
  have hz2 := hg2.size
  have hbl := (((Below.refl w.heap.size w).alloc (Nat.le_refl _) (.cells #[.slice none 0 0] 31)).trans (hb1.mono (by omega))).trans (Below.of_grown hg2 (by omega) (by omega))
  have hr2 := hr1.grown hg2 (by intro e; injection e with e; omega)
  have hfr : TFar (w.heap.size + 1 + 1) A2 ls := hfar.more (by omega)
  have HN := Lib.hid (And.intro hl (And.intro h8 h6))
  have HS := Lib.hid (show DT w A2 ls (w.heap.size + 1) (w.heap.size + 1) _ true w2 from ⟨hrow, fun _ => h2, hbl, ⟨by omega, h2.lt⟩, hfr⟩)
  have HR0 := Lib.hid hr2
  have HV0 := Lib.hid (show w2.heap.size ≠ w.heap.size + 1 ∧ w.heap.size < w2.heap.size from ⟨by omega, by omega⟩)
  clear h h0 h1 h2 hb1 hr1 hg2 hrow hfar hl h8 h6 hbl hr2 hfr hg1 hz1 hz2
  go_wp2_with fail
  apply mrg
  intro key13
  apply mrg
  intro key12
  apply mrg
  intro key11
  apply mrg
  intro key10
  apply mrg
  intro key9
  apply mrg
  intro key8
  apply mrg
  intro key7
  apply mrg
  intro key6
  apply mrg
  intro key5
  apply mrg
  intro key4
  apply mrg
  intro key3
  apply mrg
  intro key2
  apply mrg
  intro key1
  apply mrg
  intro key0
  · have HS := Lib.hid (HS.out.kept (grown_drew (grown_alloc (grown_refl w2 none) (.cells #[.slice A2 n2 c2] 31))))
    have HR0 := Lib.hid (HR0.out.keep (grown_drew (grown_alloc (grown_refl w2 none) (.cells #[.slice A2 n2 c2] 31))))
    have hS0 : Blk (World.drew (World.alloc w2 (.cells #[.slice A2 n2 c2] 31))) w2.heap.size 31 #[.slice A2 n2 c2] := (Blk.new w2 31 #[.slice A2 n2 c2]).drew
    refine wp_region_held_drew (S := (fun w' => Blk w' w2.heap.size 31 #[.slice A2 n2 c2])) (by kernel_rfl) ?_ (fun hX => ?_)
    · exact hS0
    have hHeld := hS0
    clear hS0 hX
    refine held_yes (i := 0) (d := some 10) (v := ?_) rfl rfl (by kernel_rfl) (by kernel_rfl) (by kernel_rfl) (fun _ _ _ h => h) (by rfl) ?_ (by assumption) ?_
    rotate_left
    · (intro w hSw; (try dsimp only at hSw); have e8 := hSw.cell 0; go_simp; (first | done | with_reducible rfl))
    try simp only [Act.put, List.setIfInBounds_toArray, List.set_cons_zero, List.set_cons_succ]
    refine heldY 1 11 ?_
    refine heldY 5 15 ?_
    generalize (World.drew (World.alloc w2 (.cells #[.slice A2 n2 c2] 31))) = wn at hHeld HS HR0 ⊢
    revert HR0
    revert HS
    revert hHeld
    revert wn
    exact key0.out
  · intro wz hHeld HS HR0
    refine wpAnyH_ready (rs := [2, 4]) (by kernel_rfl) (by simp) ?_
    refine AllReadyH.cons rfl (fun K hK => ?_) (AllReadyH.cons rfl (fun K hK => ?_) AllReadyH.nil)
    · go_simp
      go_at_call 40
      refine (pick_lt _ _ _ _ _ HS.out.rd (by omega) (by omega)).mono ?_
      rintro e wn ⟨x2, rfl, hu, hv, h4, hg4⟩
      have HB2 := Lib.hid (And.intro hu hv)
      have hS1 : Blk wn w2.heap.size 31 #[.slice A2 n2 c2] := Blk.grown (hHeld) hg4 (fun e => HV0.out.1 (Option.some.inj e))
      replace HS := Lib.hid (HS.out.grown hg4 h4)
      replace HR0 := Lib.hid (Blk.grown HR0.out hg4 (fun e => by have := HS.out.far; have := Option.some.inj e; omega))
      clear hHeld
      clear hu hv h4 hg4
      refine hK.out _ _ hS1 (fun hX => ?_)
      clear hK K hX
      try simp only [Act.put, List.setIfInBounds_toArray, List.set_cons_zero, List.set_cons_succ]
      have hHeld := hS1
      clear hS1
      revert HR0
      revert HB2
      revert HS
      revert hHeld
      revert x2
      revert wn
      exact key1.out
    · go_simp
      have HP4 := Lib.hid HS.out.fresh
      have hB0 := Blk.new wz 3 #[.int .i64 0, .int .i64 0, .int .i64 0, .int .i64 0, .int .i64 0, .int .i64 1, .int .i64 2, .int .i64 3]
      have hS1 : Blk (World.alloc wz (.cells #[.int .i64 0, .int .i64 0, .int .i64 0, .int .i64 0, .int .i64 0, .int .i64 1, .int .i64 2, .int .i64 3] 3)) w2.heap.size 31 #[.slice A2 n2 c2] := (hHeld).alloc (.cells #[.int .i64 0, .int .i64 0, .int .i64 0, .int .i64 0, .int .i64 0, .int .i64 1, .int .i64 2, .int .i64 3] 3)
      replace HS := Lib.hid (HS.out.kept (grown_alloc (grown_refl wz none) (.cells #[.int .i64 0, .int .i64 0, .int .i64 0, .int .i64 0, .int .i64 0, .int .i64 1, .int .i64 2, .int .i64 3] 3)))
      replace HR0 := Lib.hid (HR0.out.alloc (.cells #[.int .i64 0, .int .i64 0, .int .i64 0, .int .i64 0, .int .i64 0, .int .i64 1, .int .i64 2, .int .i64 3] 3))
      clear hHeld
      refine hK.out _ _ hS1 (fun hX => ?_)
      clear hK K hX
      try simp only [Act.put, List.setIfInBounds_toArray, List.set_cons_zero, List.set_cons_succ]
      generalize wz.heap.size = p4 at HP4 hB0 ⊢
      generalize (World.alloc wz (.cells #[.int .i64 0, .int .i64 0, .int .i64 0, .int .i64 0, .int .i64 0, .int .i64 1, .int .i64 2, .int .i64 3] 3)) = wn at hS1 HS hB0 HR0 ⊢
      refine wpAnyH_to (S' := (fun w' => Blk w' w2.heap.size 31 #[.slice A2 n2 c2] ∧ Blk w' p4 3 #[.int .i64 0, .int .i64 0, .int .i64 0, .int .i64 0, .int .i64 0, .int .i64 1, .int .i64 2, .int .i64 3])) (fun w' h => h.1) _ _ _ _ ?_
      have hHeld : Blk wn w2.heap.size 31 #[.slice A2 n2 c2] ∧ Blk wn p4 3 #[.int .i64 0, .int .i64 0, .int .i64 0, .int .i64 0, .int .i64 0, .int .i64 1, .int .i64 2, .int .i64 3] := ⟨hS1, hB0⟩
      clear hS1 hB0
      revert HR0
      revert HP4
      revert HS
      revert hHeld
      revert p4
      revert wn
      exact key2.out
  · intro wz x2 hHeld HS HB2 HR0
    refine wpAnyH_ready (rs := [3, 4, 6]) (by kernel_rfl) (by simp) ?_
    refine AllReadyH.cons rfl (fun K hK => ?_) (AllReadyH.cons rfl (fun K hK => ?_) (AllReadyH.cons rfl (fun K hK => ?_) AllReadyH.nil))
    · go_simp
      have HP3 := Lib.hid HS.out.fresh
      have hB0 := Blk.new wz 3 #[.int .i64 x2, .int .i64 1000000, .int .i64 1000001, .int .i64 (-1)]
      have hS1 : Blk (World.alloc wz (.cells #[.int .i64 x2, .int .i64 1000000, .int .i64 1000001, .int .i64 (-1)] 3)) w2.heap.size 31 #[.slice A2 n2 c2] := (hHeld).alloc (.cells #[.int .i64 x2, .int .i64 1000000, .int .i64 1000001, .int .i64 (-1)] 3)
      replace HS := Lib.hid (HS.out.kept (grown_alloc (grown_refl wz none) (.cells #[.int .i64 x2, .int .i64 1000000, .int .i64 1000001, .int .i64 (-1)] 3)))
      replace HR0 := Lib.hid (HR0.out.alloc (.cells #[.int .i64 x2, .int .i64 1000000, .int .i64 1000001, .int .i64 (-1)] 3))
      clear hHeld
      refine hK.out _ _ hS1 (fun hX => ?_)
      clear hK K hX
      try simp only [Act.put, List.setIfInBounds_toArray, List.set_cons_zero, List.set_cons_succ]
      generalize wz.heap.size = p3 at HP3 hB0 ⊢
      generalize (World.alloc wz (.cells #[.int .i64 x2, .int .i64 1000000, .int .i64 1000001, .int .i64 (-1)] 3)) = wn at hS1 HS hB0 HR0 ⊢
      refine wpAnyH_to (S' := (fun w' => Blk w' w2.heap.size 31 #[.slice A2 n2 c2] ∧ Blk w' p3 3 #[.int .i64 x2, .int .i64 1000000, .int .i64 1000001, .int .i64 (-1)])) (fun w' h => h.1) _ _ _ _ ?_
      have hHeld : Blk wn w2.heap.size 31 #[.slice A2 n2 c2] ∧ Blk wn p3 3 #[.int .i64 x2, .int .i64 1000000, .int .i64 1000001, .int .i64 (-1)] := ⟨hS1, hB0⟩
      clear hS1 hB0
      revert HR0
      revert HP3
      revert HB2
      revert HS
      revert hHeld
      revert p3
      revert x2
      revert wn
      exact key3.out
    · go_simp
      have HP4 := Lib.hid HS.out.fresh
      have hB0 := Blk.new wz 3 #[.int .i64 0, .int .i64 0, .int .i64 0, .int .i64 0, .int .i64 0, .int .i64 1, .int .i64 2, .int .i64 3]
      have hS1 : Blk (World.alloc wz (.cells #[.int .i64 0, .int .i64 0, .int .i64 0, .int .i64 0, .int .i64 0, .int .i64 1, .int .i64 2, .int .i64 3] 3)) w2.heap.size 31 #[.slice A2 n2 c2] := (hHeld).alloc (.cells #[.int .i64 0, .int .i64 0, .int .i64 0, .int .i64 0, .int .i64 0, .int .i64 1, .int .i64 2, .int .i64 3] 3)
      replace HS := Lib.hid (HS.out.kept (grown_alloc (grown_refl wz none) (.cells #[.int .i64 0, .int .i64 0, .int .i64 0, .int .i64 0, .int .i64 0, .int .i64 1, .int .i64 2, .int .i64 3] 3)))
      replace HR0 := Lib.hid (HR0.out.alloc (.cells #[.int .i64 0, .int .i64 0, .int .i64 0, .int .i64 0, .int .i64 0, .int .i64 1, .int .i64 2, .int .i64 3] 3))
      clear hHeld
      refine hK.out _ _ hS1 (fun hX => ?_)
      clear hK K hX
      try simp only [Act.put, List.setIfInBounds_toArray, List.set_cons_zero, List.set_cons_succ]
      generalize wz.heap.size = p4 at HP4 hB0 ⊢
      generalize (World.alloc wz (.cells #[.int .i64 0, .int .i64 0, .int .i64 0, .int .i64 0, .int .i64 0, .int .i64 1, .int .i64 2, .int .i64 3] 3)) = wn at hS1 HS hB0 HR0 ⊢
      refine wpAnyH_to (S' := (fun w' => Blk w' w2.heap.size 31 #[.slice A2 n2 c2] ∧ Blk w' p4 3 #[.int .i64 0, .int .i64 0, .int .i64 0, .int .i64 0, .int .i64 0, .int .i64 1, .int .i64 2, .int .i64 3])) (fun w' h => h.1) _ _ _ _ ?_
      have hHeld : Blk wn w2.heap.size 31 #[.slice A2 n2 c2] ∧ Blk wn p4 3 #[.int .i64 0, .int .i64 0, .int .i64 0, .int .i64 0, .int .i64 0, .int .i64 1, .int .i64 2, .int .i64 3] := ⟨hS1, hB0⟩
      clear hS1 hB0
      revert HR0
      revert HP4
      revert HB2
      revert HS
      revert hHeld
      revert p4
      revert x2
      revert wn
      exact key4.out
    · go_simp
      go_at_call 40
      refine (pick_lt _ _ _ _ _ HS.out.rd (by omega) (by omega)).mono ?_
      rintro e wn ⟨x0, rfl, hu, hv, h4, hg4⟩
      obtain ⟨y6, rfl⟩ := Int.eq_ofNat_of_zero_le hu
      have HB6 := Lib.hid (show y6 < 8 by omega)
      have hS1 : Blk wn w2.heap.size 31 #[.slice A2 n2 c2] := Blk.grown (hHeld) hg4 (fun e => HV0.out.1 (Option.some.inj e))
      replace HS := Lib.hid (HS.out.grown hg4 h4)
      replace HR0 := Lib.hid (Blk.grown HR0.out hg4 (fun e => by have := HS.out.far; have := Option.some.inj e; omega))
      clear hHeld
      clear hu hv h4 hg4
      refine hK.out _ _ hS1 (fun hX => ?_)
      clear hK K hX
      try simp only [Act.put, List.setIfInBounds_toArray, List.set_cons_zero, List.set_cons_succ]
      have hHeld := hS1
      clear hS1
      revert HR0
      revert HB6
      revert HB2
      revert HS
      revert hHeld
      revert y6
      revert x2
      revert wn
      exact key5.out
  · intro wz p4 hHeld HS HP4 HR0
    refine wpAnyH_ready (rs := [2]) (by kernel_rfl) (by simp) ?_
    refine AllReadyH.cons rfl (fun K hK => ?_) AllReadyH.nil
    go_simp
    go_at_call 40
    refine (pick_lt _ _ _ _ _ HS.out.rd (by omega) (by omega)).mono ?_
    rintro e wn ⟨x2, rfl, hu, hv, h4, hg4⟩
    have HB2 := Lib.hid (And.intro hu hv)
    have hS1 : Blk wn w2.heap.size 31 #[.slice A2 n2 c2] ∧ Blk wn p4 3 #[.int .i64 0, .int .i64 0, .int .i64 0, .int .i64 0, .int .i64 0, .int .i64 1, .int .i64 2, .int .i64 3] := ⟨Blk.grown (hHeld.1) hg4 (fun e => HV0.out.1 (Option.some.inj e)), Blk.grown (hHeld.2) hg4 (fun e => HP4.out.1 (Option.some.inj e))⟩
    replace HS := Lib.hid (HS.out.grown hg4 h4)
    replace HR0 := Lib.hid (Blk.grown HR0.out hg4 (fun e => by have := HS.out.far; have := Option.some.inj e; omega))
    clear hHeld
    clear hu hv h4 hg4
    refine hK.out _ _ hS1 (fun hX => ?_)
    clear hK K hX
    try simp only [Act.put, List.setIfInBounds_toArray, List.set_cons_zero, List.set_cons_succ]
    have hHeld := hS1
    clear hS1
    revert HR0
    revert HP4
    revert HB2
    revert HS
    revert hHeld
    revert p4
    revert x2
    revert wn
    exact key4.out
  · intro wz x2 p3 hHeld HS HB2 HP3 HR0
    refine wpAnyH_ready (rs := [4, 6]) (by kernel_rfl) (by simp) ?_
    refine AllReadyH.cons rfl (fun K hK => ?_) (AllReadyH.cons rfl (fun K hK => ?_) AllReadyH.nil)
    · go_simp
      have HP4 := Lib.hid HS.out.fresh
      have hB0 := Blk.new wz 3 #[.int .i64 0, .int .i64 0, .int .i64 0, .int .i64 0, .int .i64 0, .int .i64 1, .int .i64 2, .int .i64 3]
      have hS1 : Blk (World.alloc wz (.cells #[.int .i64 0, .int .i64 0, .int .i64 0, .int .i64 0, .int .i64 0, .int .i64 1, .int .i64 2, .int .i64 3] 3)) w2.heap.size 31 #[.slice A2 n2 c2] ∧ Blk (World.alloc wz (.cells #[.int .i64 0, .int .i64 0, .int .i64 0, .int .i64 0, .int .i64 0, .int .i64 1, .int .i64 2, .int .i64 3] 3)) p3 3 #[.int .i64 x2, .int .i64 1000000, .int .i64 1000001, .int .i64 (-1)] := ⟨(hHeld.1).alloc (.cells #[.int .i64 0, .int .i64 0, .int .i64 0, .int .i64 0, .int .i64 0, .int .i64 1, .int .i64 2, .int .i64 3] 3), (hHeld.2).alloc (.cells #[.int .i64 0, .int .i64 0, .int .i64 0, .int .i64 0, .int .i64 0, .int .i64 1, .int .i64 2, .int .i64 3] 3)⟩
      replace HS := Lib.hid (HS.out.kept (grown_alloc (grown_refl wz none) (.cells #[.int .i64 0, .int .i64 0, .int .i64 0, .int .i64 0, .int .i64 0, .int .i64 1, .int .i64 2, .int .i64 3] 3)))
      replace HR0 := Lib.hid (HR0.out.alloc (.cells #[.int .i64 0, .int .i64 0, .int .i64 0, .int .i64 0, .int .i64 0, .int .i64 1, .int .i64 2, .int .i64 3] 3))
      clear hHeld
      refine hK.out _ _ hS1 (fun hX => ?_)
      clear hK K hX
      try simp only [Act.put, List.setIfInBounds_toArray, List.set_cons_zero, List.set_cons_succ]
      generalize wz.heap.size = p4 at HP4 hB0 ⊢
      generalize (World.alloc wz (.cells #[.int .i64 0, .int .i64 0, .int .i64 0, .int .i64 0, .int .i64 0, .int .i64 1, .int .i64 2, .int .i64 3] 3)) = wn at hS1 HS hB0 HR0 ⊢
      refine wpAnyH_to (S' := (fun w' => Blk w' w2.heap.size 31 #[.slice A2 n2 c2] ∧ Blk w' p3 3 #[.int .i64 x2, .int .i64 1000000, .int .i64 1000001, .int .i64 (-1)] ∧ Blk w' p4 3 #[.int .i64 0, .int .i64 0, .int .i64 0, .int .i64 0, .int .i64 0, .int .i64 1, .int .i64 2, .int .i64 3])) (fun w' h => ⟨h.1, h.2.1⟩) _ _ _ _ ?_
      have hHeld : Blk wn w2.heap.size 31 #[.slice A2 n2 c2] ∧ Blk wn p3 3 #[.int .i64 x2, .int .i64 1000000, .int .i64 1000001, .int .i64 (-1)] ∧ Blk wn p4 3 #[.int .i64 0, .int .i64 0, .int .i64 0, .int .i64 0, .int .i64 0, .int .i64 1, .int .i64 2, .int .i64 3] := ⟨hS1.1, hS1.2, hB0⟩
      clear hS1 hB0
      revert HR0
      revert HP4
      revert HP3
      revert HB2
      revert HS
      revert hHeld
      revert p4
      revert p3
      revert x2
      revert wn
      exact key6.out
    · go_simp
      go_at_call 40
      refine (pick_lt _ _ _ _ _ HS.out.rd (by omega) (by omega)).mono ?_
      rintro e wn ⟨x0, rfl, hu, hv, h4, hg4⟩
      obtain ⟨y6, rfl⟩ := Int.eq_ofNat_of_zero_le hu
      have HB6 := Lib.hid (show y6 < 8 by omega)
      have hS1 : Blk wn w2.heap.size 31 #[.slice A2 n2 c2] ∧ Blk wn p3 3 #[.int .i64 x2, .int .i64 1000000, .int .i64 1000001, .int .i64 (-1)] := ⟨Blk.grown (hHeld.1) hg4 (fun e => HV0.out.1 (Option.some.inj e)), Blk.grown (hHeld.2) hg4 (fun e => HP3.out.1 (Option.some.inj e))⟩
      replace HS := Lib.hid (HS.out.grown hg4 h4)
      replace HR0 := Lib.hid (Blk.grown HR0.out hg4 (fun e => by have := HS.out.far; have := Option.some.inj e; omega))
      clear hHeld
      clear hu hv h4 hg4
      refine hK.out _ _ hS1 (fun hX => ?_)
      clear hK K hX
      try simp only [Act.put, List.setIfInBounds_toArray, List.set_cons_zero, List.set_cons_succ]
      have hHeld := hS1
      clear hS1
      revert HR0
      revert HP3
      revert HB6
      revert HB2
      revert HS
      revert hHeld
      revert p3
      revert y6
      revert x2
      revert wn
      exact key7.out
  · intro wz x2 p4 hHeld HS HB2 HP4 HR0
    refine wpAnyH_ready (rs := [3, 6]) (by kernel_rfl) (by simp) ?_
    refine AllReadyH.cons rfl (fun K hK => ?_) (AllReadyH.cons rfl (fun K hK => ?_) AllReadyH.nil)
    · go_simp
      have HP3 := Lib.hid HS.out.fresh
      have hB0 := Blk.new wz 3 #[.int .i64 x2, .int .i64 1000000, .int .i64 1000001, .int .i64 (-1)]
      have hS1 : Blk (World.alloc wz (.cells #[.int .i64 x2, .int .i64 1000000, .int .i64 1000001, .int .i64 (-1)] 3)) w2.heap.size 31 #[.slice A2 n2 c2] ∧ Blk (World.alloc wz (.cells #[.int .i64 x2, .int .i64 1000000, .int .i64 1000001, .int .i64 (-1)] 3)) p4 3 #[.int .i64 0, .int .i64 0, .int .i64 0, .int .i64 0, .int .i64 0, .int .i64 1, .int .i64 2, .int .i64 3] := ⟨(hHeld.1).alloc (.cells #[.int .i64 x2, .int .i64 1000000, .int .i64 1000001, .int .i64 (-1)] 3), (hHeld.2).alloc (.cells #[.int .i64 x2, .int .i64 1000000, .int .i64 1000001, .int .i64 (-1)] 3)⟩
      replace HS := Lib.hid (HS.out.kept (grown_alloc (grown_refl wz none) (.cells #[.int .i64 x2, .int .i64 1000000, .int .i64 1000001, .int .i64 (-1)] 3)))
      replace HR0 := Lib.hid (HR0.out.alloc (.cells #[.int .i64 x2, .int .i64 1000000, .int .i64 1000001, .int .i64 (-1)] 3))
      clear hHeld
      refine hK.out _ _ hS1 (fun hX => ?_)
      clear hK K hX
      try simp only [Act.put, List.setIfInBounds_toArray, List.set_cons_zero, List.set_cons_succ]
      generalize wz.heap.size = p3 at HP3 hB0 ⊢
      generalize (World.alloc wz (.cells #[.int .i64 x2, .int .i64 1000000, .int .i64 1000001, .int .i64 (-1)] 3)) = wn at hS1 HS hB0 HR0 ⊢
      refine wpAnyH_to (S' := (fun w' => Blk w' w2.heap.size 31 #[.slice A2 n2 c2] ∧ Blk w' p3 3 #[.int .i64 x2, .int .i64 1000000, .int .i64 1000001, .int .i64 (-1)] ∧ Blk w' p4 3 #[.int .i64 0, .int .i64 0, .int .i64 0, .int .i64 0, .int .i64 0, .int .i64 1, .int .i64 2, .int .i64 3])) (fun w' h => ⟨h.1, h.2.2⟩) _ _ _ _ ?_
      have hHeld : Blk wn w2.heap.size 31 #[.slice A2 n2 c2] ∧ Blk wn p3 3 #[.int .i64 x2, .int .i64 1000000, .int .i64 1000001, .int .i64 (-1)] ∧ Blk wn p4 3 #[.int .i64 0, .int .i64 0, .int .i64 0, .int .i64 0, .int .i64 0, .int .i64 1, .int .i64 2, .int .i64 3] := ⟨hS1.1, hB0, hS1.2⟩
      clear hS1 hB0
      revert HR0
      revert HP4
      revert HP3
      revert HB2
      revert HS
      revert hHeld
      revert p4
      revert p3
      revert x2
      revert wn
      exact key6.out
    · go_simp
      go_at_call 40
      refine (pick_lt _ _ _ _ _ HS.out.rd (by omega) (by omega)).mono ?_
      rintro e wn ⟨x0, rfl, hu, hv, h4, hg4⟩
      obtain ⟨y6, rfl⟩ := Int.eq_ofNat_of_zero_le hu
      have HB6 := Lib.hid (show y6 < 8 by omega)
      have hS1 : Blk wn w2.heap.size 31 #[.slice A2 n2 c2] ∧ Blk wn p4 3 #[.int .i64 0, .int .i64 0, .int .i64 0, .int .i64 0, .int .i64 0, .int .i64 1, .int .i64 2, .int .i64 3] := ⟨Blk.grown (hHeld.1) hg4 (fun e => HV0.out.1 (Option.some.inj e)), Blk.grown (hHeld.2) hg4 (fun e => HP4.out.1 (Option.some.inj e))⟩
      replace HS := Lib.hid (HS.out.grown hg4 h4)
      replace HR0 := Lib.hid (Blk.grown HR0.out hg4 (fun e => by have := HS.out.far; have := Option.some.inj e; omega))
      clear hHeld
      clear hu hv h4 hg4
      refine hK.out _ _ hS1 (fun hX => ?_)
      clear hK K hX
      try simp only [Act.put, List.setIfInBounds_toArray, List.set_cons_zero, List.set_cons_succ]
      have hHeld := hS1
      clear hS1
      have y0 : decide ((0 : Int) ≤ y6) = true := decide_eq_true (by omega)
      have y1 : (y6 : Int) < 8 := by have := HB6.out; omega
      refine heldY 7 17 ?_
      clear y0 y1
      obtain ⟨z8, hz8, hy8⟩ := litZ8 y6 HB6.out
      have HZ8 := Lib.hid (And.intro hz8 hy8)
      clear hz8 hy8
      refine held_yes (i := 8) (d := some 18) (v := ?_) rfl rfl (by kernel_rfl) (by kernel_rfl) (by kernel_rfl) (fun _ _ _ h => h) (by rfl) ?_ (by assumption) ?_
      rotate_left
      · (intro w hSw; (try dsimp only at hSw); have e8 := (hSw.2.cell y6).trans HZ8.out.2; go_simp; (first | done | with_reducible rfl))
      try simp only [Act.put, List.setIfInBounds_toArray, List.set_cons_zero, List.set_cons_succ]
      revert HR0
      revert HZ8
      revert HP4
      revert HB6
      revert HB2
      revert HS
      revert hHeld
      revert z8
      revert p4
      revert y6
      revert x2
      revert wn
      exact key8.out
  · intro wz x2 y6 hHeld HS HB2 HB6 HR0
    refine wpAnyH_ready (rs := [3, 4, 11]) (by kernel_rfl) (by simp) ?_
    refine AllReadyH.cons rfl (fun K hK => ?_) (AllReadyH.cons rfl (fun K hK => ?_) (AllReadyH.cons rfl (fun K hK => ?_) AllReadyH.nil))
    · go_simp
      have HP3 := Lib.hid HS.out.fresh
      have hB0 := Blk.new wz 3 #[.int .i64 x2, .int .i64 1000000, .int .i64 1000001, .int .i64 (-1)]
      have hS1 : Blk (World.alloc wz (.cells #[.int .i64 x2, .int .i64 1000000, .int .i64 1000001, .int .i64 (-1)] 3)) w2.heap.size 31 #[.slice A2 n2 c2] := (hHeld).alloc (.cells #[.int .i64 x2, .int .i64 1000000, .int .i64 1000001, .int .i64 (-1)] 3)
      replace HS := Lib.hid (HS.out.kept (grown_alloc (grown_refl wz none) (.cells #[.int .i64 x2, .int .i64 1000000, .int .i64 1000001, .int .i64 (-1)] 3)))
      replace HR0 := Lib.hid (HR0.out.alloc (.cells #[.int .i64 x2, .int .i64 1000000, .int .i64 1000001, .int .i64 (-1)] 3))
      clear hHeld
      refine hK.out _ _ hS1 (fun hX => ?_)
      clear hK K hX
      try simp only [Act.put, List.setIfInBounds_toArray, List.set_cons_zero, List.set_cons_succ]
      generalize wz.heap.size = p3 at HP3 hB0 ⊢
      generalize (World.alloc wz (.cells #[.int .i64 x2, .int .i64 1000000, .int .i64 1000001, .int .i64 (-1)] 3)) = wn at hS1 HS hB0 HR0 ⊢
      refine wpAnyH_to (S' := (fun w' => Blk w' w2.heap.size 31 #[.slice A2 n2 c2] ∧ Blk w' p3 3 #[.int .i64 x2, .int .i64 1000000, .int .i64 1000001, .int .i64 (-1)])) (fun w' h => h.1) _ _ _ _ ?_
      have hHeld : Blk wn w2.heap.size 31 #[.slice A2 n2 c2] ∧ Blk wn p3 3 #[.int .i64 x2, .int .i64 1000000, .int .i64 1000001, .int .i64 (-1)] := ⟨hS1, hB0⟩
      clear hS1 hB0
      revert HR0
      revert HP3
      revert HB6
      revert HB2
      revert HS
      revert hHeld
      revert p3
      revert y6
      revert x2
      revert wn
      exact key7.out
    · go_simp
      have HP4 := Lib.hid HS.out.fresh
      have hB0 := Blk.new wz 3 #[.int .i64 0, .int .i64 0, .int .i64 0, .int .i64 0, .int .i64 0, .int .i64 1, .int .i64 2, .int .i64 3]
      have hS1 : Blk (World.alloc wz (.cells #[.int .i64 0, .int .i64 0, .int .i64 0, .int .i64 0, .int .i64 0, .int .i64 1, .int .i64 2, .int .i64 3] 3)) w2.heap.size 31 #[.slice A2 n2 c2] := (hHeld).alloc (.cells #[.int .i64 0, .int .i64 0, .int .i64 0, .int .i64 0, .int .i64 0, .int .i64 1, .int .i64 2, .int .i64 3] 3)
      replace HS := Lib.hid (HS.out.kept (grown_alloc (grown_refl wz none) (.cells #[.int .i64 0, .int .i64 0, .int .i64 0, .int .i64 0, .int .i64 0, .int .i64 1, .int .i64 2, .int .i64 3] 3)))
      replace HR0 := Lib.hid (HR0.out.alloc (.cells #[.int .i64 0, .int .i64 0, .int .i64 0, .int .i64 0, .int .i64 0, .int .i64 1, .int .i64 2, .int .i64 3] 3))
      clear hHeld
      refine hK.out _ _ hS1 (fun hX => ?_)
      clear hK K hX
      try simp only [Act.put, List.setIfInBounds_toArray, List.set_cons_zero, List.set_cons_succ]
      generalize wz.heap.size = p4 at HP4 hB0 ⊢
      generalize (World.alloc wz (.cells #[.int .i64 0, .int .i64 0, .int .i64 0, .int .i64 0, .int .i64 0, .int .i64 1, .int .i64 2, .int .i64 3] 3)) = wn at hS1 HS hB0 HR0 ⊢
      refine wpAnyH_to (S' := (fun w' => Blk w' w2.heap.size 31 #[.slice A2 n2 c2] ∧ Blk w' p4 3 #[.int .i64 0, .int .i64 0, .int .i64 0, .int .i64 0, .int .i64 0, .int .i64 1, .int .i64 2, .int .i64 3])) (fun w' h => h.1) _ _ _ _ ?_
      have hHeld : Blk wn w2.heap.size 31 #[.slice A2 n2 c2] ∧ Blk wn p4 3 #[.int .i64 0, .int .i64 0, .int .i64 0, .int .i64 0, .int .i64 0, .int .i64 1, .int .i64 2, .int .i64 3] := ⟨hS1, hB0⟩
      clear hS1 hB0
      have y0 : decide ((0 : Int) ≤ y6) = true := decide_eq_true (by omega)
      have y1 : (y6 : Int) < 8 := by have := HB6.out; omega
      refine heldY 7 17 ?_
      clear y0 y1
      obtain ⟨z8, hz8, hy8⟩ := litZ8 y6 HB6.out
      have HZ8 := Lib.hid (And.intro hz8 hy8)
      clear hz8 hy8
      refine held_yes (i := 8) (d := some 18) (v := ?_) rfl rfl (by kernel_rfl) (by kernel_rfl) (by kernel_rfl) (fun _ _ _ h => h) (by rfl) ?_ (by assumption) ?_
      rotate_left
      · (intro w hSw; (try dsimp only at hSw); have e8 := (hSw.2.cell y6).trans HZ8.out.2; go_simp; (first | done | with_reducible rfl))
      try simp only [Act.put, List.setIfInBounds_toArray, List.set_cons_zero, List.set_cons_succ]
      revert HR0
      revert HZ8
      revert HP4
      revert HB6
      revert HB2
      revert HS
      revert hHeld
      revert z8
      revert p4
      revert y6
      revert x2
      revert wn
      exact key8.out
    · have r0 := HR0.out.cell 0
      have r1 := HR0.out.frozen 0
      go_simp
      have hS1 : Blk (World.setCell wz ⟨w.heap.size, 0, none⟩ (.slice A2 n2 c2)) w2.heap.size 31 #[.slice A2 n2 c2] := (hHeld.far (p := ⟨w.heap.size, 0, none⟩) (by have := HV0.out.2; dsimp only; omega) (.slice A2 n2 c2))
      replace HS := Lib.hid (HS.out.put (.slice A2 n2 c2))
      replace HR0 := Lib.hid (show Blk (World.setCell wz ⟨w.heap.size, 0, none⟩ (.slice A2 n2 c2)) w.heap.size 31 #[.slice A2 n2 c2] from HR0.out.put 0 (.slice A2 n2 c2))
      clear hHeld
      clear r0 r1
      refine hK.out _ _ hS1 (fun hX => ?_)
      clear hK K hX
      try simp only [Act.put, List.setIfInBounds_toArray, List.set_cons_zero, List.set_cons_succ]
      generalize (World.setCell wz ⟨w.heap.size, 0, none⟩ (.slice A2 n2 c2)) = wn at hS1 HS HR0 ⊢
      have hHeld := hS1
      clear hS1
      revert HR0
      revert HB6
      revert HB2
      revert HS
      revert hHeld
      revert y6
      revert x2
      revert wn
      exact key9.out
  · intro wz x2 p3 p4 hHeld HS HB2 HP3 HP4 HR0
    refine wpAnyH_ready (rs := [6]) (by kernel_rfl) (by simp) ?_
    refine AllReadyH.cons rfl (fun K hK => ?_) AllReadyH.nil
    go_simp
    go_at_call 40
    refine (pick_lt _ _ _ _ _ HS.out.rd (by omega) (by omega)).mono ?_
    rintro e wn ⟨x0, rfl, hu, hv, h4, hg4⟩
    obtain ⟨y6, rfl⟩ := Int.eq_ofNat_of_zero_le hu
    have HB6 := Lib.hid (show y6 < 8 by omega)
    have hS1 : Blk wn w2.heap.size 31 #[.slice A2 n2 c2] ∧ Blk wn p3 3 #[.int .i64 x2, .int .i64 1000000, .int .i64 1000001, .int .i64 (-1)] ∧ Blk wn p4 3 #[.int .i64 0, .int .i64 0, .int .i64 0, .int .i64 0, .int .i64 0, .int .i64 1, .int .i64 2, .int .i64 3] := ⟨Blk.grown (hHeld.1) hg4 (fun e => HV0.out.1 (Option.some.inj e)), Blk.grown (hHeld.2.1) hg4 (fun e => HP3.out.1 (Option.some.inj e)), Blk.grown (hHeld.2.2) hg4 (fun e => HP4.out.1 (Option.some.inj e))⟩
    replace HS := Lib.hid (HS.out.grown hg4 h4)
    replace HR0 := Lib.hid (Blk.grown HR0.out hg4 (fun e => by have := HS.out.far; have := Option.some.inj e; omega))
    clear hHeld
    clear hu hv h4 hg4
    refine hK.out _ _ hS1 (fun hX => ?_)
    clear hK K hX
    try simp only [Act.put, List.setIfInBounds_toArray, List.set_cons_zero, List.set_cons_succ]
    have hHeld := hS1
    clear hS1
    have y0 : decide ((0 : Int) ≤ y6) = true := decide_eq_true (by omega)
    have y1 : (y6 : Int) < 8 := by have := HB6.out; omega
    refine heldY 7 17 ?_
    clear y0 y1
    obtain ⟨z8, hz8, hy8⟩ := litZ8 y6 HB6.out
    have HZ8 := Lib.hid (And.intro hz8 hy8)
    clear hz8 hy8
    refine held_yes (i := 8) (d := some 18) (v := ?_) rfl rfl (by kernel_rfl) (by kernel_rfl) (by kernel_rfl) (fun _ _ _ h => h) (by rfl) ?_ (by assumption) ?_
    rotate_left
    · (intro w hSw; (try dsimp only at hSw); have e8 := (hSw.2.2.cell y6).trans HZ8.out.2; go_simp; (first | done | with_reducible rfl))
    try simp only [Act.put, List.setIfInBounds_toArray, List.set_cons_zero, List.set_cons_succ]
    have y0 : decide ((0 : Int) ≤ z8) = true := decide_eq_true (by omega)
    have y1 : (z8 : Int) < 4 := by have := HZ8.out.1; omega
    refine heldY 9 19 ?_
    clear y0 y1
    obtain ⟨v10, hv10⟩ := litZ4 z8 HZ8.out.1 x2 1000000 1000001 (-1)
    have HZ10 := Lib.hid hv10
    clear hv10
    refine held_yes (i := 10) (d := some 20) (v := ?_) rfl rfl (by kernel_rfl) (by kernel_rfl) (by kernel_rfl) (fun _ _ _ h => h) (by rfl) ?_ (by assumption) ?_
    rotate_left
    · (intro w hSw; (try dsimp only at hSw); have e8 := (hSw.2.1.cell z8).trans HZ10.out; go_simp; (first | done | with_reducible rfl))
    try simp only [Act.put, List.setIfInBounds_toArray, List.set_cons_zero, List.set_cons_succ]
    revert HR0
    revert HZ10
    revert HZ8
    revert HP4
    revert HP3
    revert HB6
    revert HB2
    revert HS
    revert hHeld
    revert v10
    revert z8
    revert p4
    revert p3
    revert y6
    revert x2
    revert wn
    exact key10.out
  · intro wz x2 y6 p3 hHeld HS HB2 HB6 HP3 HR0
    refine wpAnyH_ready (rs := [4, 11]) (by kernel_rfl) (by simp) ?_
    refine AllReadyH.cons rfl (fun K hK => ?_) (AllReadyH.cons rfl (fun K hK => ?_) AllReadyH.nil)
    · go_simp
      have HP4 := Lib.hid HS.out.fresh
      have hB0 := Blk.new wz 3 #[.int .i64 0, .int .i64 0, .int .i64 0, .int .i64 0, .int .i64 0, .int .i64 1, .int .i64 2, .int .i64 3]
      have hS1 : Blk (World.alloc wz (.cells #[.int .i64 0, .int .i64 0, .int .i64 0, .int .i64 0, .int .i64 0, .int .i64 1, .int .i64 2, .int .i64 3] 3)) w2.heap.size 31 #[.slice A2 n2 c2] ∧ Blk (World.alloc wz (.cells #[.int .i64 0, .int .i64 0, .int .i64 0, .int .i64 0, .int .i64 0, .int .i64 1, .int .i64 2, .int .i64 3] 3)) p3 3 #[.int .i64 x2, .int .i64 1000000, .int .i64 1000001, .int .i64 (-1)] := ⟨(hHeld.1).alloc (.cells #[.int .i64 0, .int .i64 0, .int .i64 0, .int .i64 0, .int .i64 0, .int .i64 1, .int .i64 2, .int .i64 3] 3), (hHeld.2).alloc (.cells #[.int .i64 0, .int .i64 0, .int .i64 0, .int .i64 0, .int .i64 0, .int .i64 1, .int .i64 2, .int .i64 3] 3)⟩
      replace HS := Lib.hid (HS.out.kept (grown_alloc (grown_refl wz none) (.cells #[.int .i64 0, .int .i64 0, .int .i64 0, .int .i64 0, .int .i64 0, .int .i64 1, .int .i64 2, .int .i64 3] 3)))
      replace HR0 := Lib.hid (HR0.out.alloc (.cells #[.int .i64 0, .int .i64 0, .int .i64 0, .int .i64 0, .int .i64 0, .int .i64 1, .int .i64 2, .int .i64 3] 3))
      clear hHeld
      refine hK.out _ _ hS1 (fun hX => ?_)
      clear hK K hX
      try simp only [Act.put, List.setIfInBounds_toArray, List.set_cons_zero, List.set_cons_succ]
      generalize wz.heap.size = p4 at HP4 hB0 ⊢
      generalize (World.alloc wz (.cells #[.int .i64 0, .int .i64 0, .int .i64 0, .int .i64 0, .int .i64 0, .int .i64 1, .int .i64 2, .int .i64 3] 3)) = wn at hS1 HS hB0 HR0 ⊢
      refine wpAnyH_to (S' := (fun w' => Blk w' w2.heap.size 31 #[.slice A2 n2 c2] ∧ Blk w' p3 3 #[.int .i64 x2, .int .i64 1000000, .int .i64 1000001, .int .i64 (-1)] ∧ Blk w' p4 3 #[.int .i64 0, .int .i64 0, .int .i64 0, .int .i64 0, .int .i64 0, .int .i64 1, .int .i64 2, .int .i64 3])) (fun w' h => ⟨h.1, h.2.1⟩) _ _ _ _ ?_
      have hHeld : Blk wn w2.heap.size 31 #[.slice A2 n2 c2] ∧ Blk wn p3 3 #[.int .i64 x2, .int .i64 1000000, .int .i64 1000001, .int .i64 (-1)] ∧ Blk wn p4 3 #[.int .i64 0, .int .i64 0, .int .i64 0, .int .i64 0, .int .i64 0, .int .i64 1, .int .i64 2, .int .i64 3] := ⟨hS1.1, hS1.2, hB0⟩
      clear hS1 hB0
      have y0 : decide ((0 : Int) ≤ y6) = true := decide_eq_true (by omega)
      have y1 : (y6 : Int) < 8 := by have := HB6.out; omega
      refine heldY 7 17 ?_
      clear y0 y1
      obtain ⟨z8, hz8, hy8⟩ := litZ8 y6 HB6.out
      have HZ8 := Lib.hid (And.intro hz8 hy8)
      clear hz8 hy8
      refine held_yes (i := 8) (d := some 18) (v := ?_) rfl rfl (by kernel_rfl) (by kernel_rfl) (by kernel_rfl) (fun _ _ _ h => h) (by rfl) ?_ (by assumption) ?_
      rotate_left
      · (intro w hSw; (try dsimp only at hSw); have e8 := (hSw.2.2.cell y6).trans HZ8.out.2; go_simp; (first | done | with_reducible rfl))
      try simp only [Act.put, List.setIfInBounds_toArray, List.set_cons_zero, List.set_cons_succ]
      have y0 : decide ((0 : Int) ≤ z8) = true := decide_eq_true (by omega)
      have y1 : (z8 : Int) < 4 := by have := HZ8.out.1; omega
      refine heldY 9 19 ?_
      clear y0 y1
      obtain ⟨v10, hv10⟩ := litZ4 z8 HZ8.out.1 x2 1000000 1000001 (-1)
      have HZ10 := Lib.hid hv10
      clear hv10
      refine held_yes (i := 10) (d := some 20) (v := ?_) rfl rfl (by kernel_rfl) (by kernel_rfl) (by kernel_rfl) (fun _ _ _ h => h) (by rfl) ?_ (by assumption) ?_
      rotate_left
      · (intro w hSw; (try dsimp only at hSw); have e8 := (hSw.2.1.cell z8).trans HZ10.out; go_simp; (first | done | with_reducible rfl))
      try simp only [Act.put, List.setIfInBounds_toArray, List.set_cons_zero, List.set_cons_succ]
      revert HR0
      revert HZ10
      revert HZ8
      revert HP4
      revert HP3
      revert HB6
      revert HB2
      revert HS
      revert hHeld
      revert v10
      revert z8
      revert p4
      revert p3
      revert y6
      revert x2
      revert wn
      exact key10.out
    · have r0 := HR0.out.cell 0
      have r1 := HR0.out.frozen 0
      go_simp
      have hS1 : Blk (World.setCell wz ⟨w.heap.size, 0, none⟩ (.slice A2 n2 c2)) w2.heap.size 31 #[.slice A2 n2 c2] ∧ Blk (World.setCell wz ⟨w.heap.size, 0, none⟩ (.slice A2 n2 c2)) p3 3 #[.int .i64 x2, .int .i64 1000000, .int .i64 1000001, .int .i64 (-1)] := ⟨(hHeld.1.far (p := ⟨w.heap.size, 0, none⟩) (by have := HV0.out.2; dsimp only; omega) (.slice A2 n2 c2)), (hHeld.2.far (p := ⟨w.heap.size, 0, none⟩) (by have := HP3.out.2; dsimp only; omega) (.slice A2 n2 c2))⟩
      replace HS := Lib.hid (HS.out.put (.slice A2 n2 c2))
      replace HR0 := Lib.hid (show Blk (World.setCell wz ⟨w.heap.size, 0, none⟩ (.slice A2 n2 c2)) w.heap.size 31 #[.slice A2 n2 c2] from HR0.out.put 0 (.slice A2 n2 c2))
      clear hHeld
      clear r0 r1
      refine hK.out _ _ hS1 (fun hX => ?_)
      clear hK K hX
      try simp only [Act.put, List.setIfInBounds_toArray, List.set_cons_zero, List.set_cons_succ]
      generalize (World.setCell wz ⟨w.heap.size, 0, none⟩ (.slice A2 n2 c2)) = wn at hS1 HS HR0 ⊢
      have hHeld := hS1
      clear hS1
      revert HR0
      revert HP3
      revert HB6
      revert HB2
      revert HS
      revert hHeld
      revert p3
      revert y6
      revert x2
      revert wn
      exact key11.out
  · intro wz x2 y6 p4 z8 hHeld HS HB2 HB6 HP4 HZ8 HR0
    refine wpAnyH_ready (rs := [3, 11]) (by kernel_rfl) (by simp) ?_
    refine AllReadyH.cons rfl (fun K hK => ?_) (AllReadyH.cons rfl (fun K hK => ?_) AllReadyH.nil)
    · go_simp
      have HP3 := Lib.hid HS.out.fresh
      have hB0 := Blk.new wz 3 #[.int .i64 x2, .int .i64 1000000, .int .i64 1000001, .int .i64 (-1)]
      have hS1 : Blk (World.alloc wz (.cells #[.int .i64 x2, .int .i64 1000000, .int .i64 1000001, .int .i64 (-1)] 3)) w2.heap.size 31 #[.slice A2 n2 c2] ∧ Blk (World.alloc wz (.cells #[.int .i64 x2, .int .i64 1000000, .int .i64 1000001, .int .i64 (-1)] 3)) p4 3 #[.int .i64 0, .int .i64 0, .int .i64 0, .int .i64 0, .int .i64 0, .int .i64 1, .int .i64 2, .int .i64 3] := ⟨(hHeld.1).alloc (.cells #[.int .i64 x2, .int .i64 1000000, .int .i64 1000001, .int .i64 (-1)] 3), (hHeld.2).alloc (.cells #[.int .i64 x2, .int .i64 1000000, .int .i64 1000001, .int .i64 (-1)] 3)⟩
      replace HS := Lib.hid (HS.out.kept (grown_alloc (grown_refl wz none) (.cells #[.int .i64 x2, .int .i64 1000000, .int .i64 1000001, .int .i64 (-1)] 3)))
      replace HR0 := Lib.hid (HR0.out.alloc (.cells #[.int .i64 x2, .int .i64 1000000, .int .i64 1000001, .int .i64 (-1)] 3))
      clear hHeld
      refine hK.out _ _ hS1 (fun hX => ?_)
      clear hK K hX
      try simp only [Act.put, List.setIfInBounds_toArray, List.set_cons_zero, List.set_cons_succ]
      generalize wz.heap.size = p3 at HP3 hB0 ⊢
      generalize (World.alloc wz (.cells #[.int .i64 x2, .int .i64 1000000, .int .i64 1000001, .int .i64 (-1)] 3)) = wn at hS1 HS hB0 HR0 ⊢
      refine wpAnyH_to (S' := (fun w' => Blk w' w2.heap.size 31 #[.slice A2 n2 c2] ∧ Blk w' p3 3 #[.int .i64 x2, .int .i64 1000000, .int .i64 1000001, .int .i64 (-1)] ∧ Blk w' p4 3 #[.int .i64 0, .int .i64 0, .int .i64 0, .int .i64 0, .int .i64 0, .int .i64 1, .int .i64 2, .int .i64 3])) (fun w' h => ⟨h.1, h.2.2⟩) _ _ _ _ ?_
      have hHeld : Blk wn w2.heap.size 31 #[.slice A2 n2 c2] ∧ Blk wn p3 3 #[.int .i64 x2, .int .i64 1000000, .int .i64 1000001, .int .i64 (-1)] ∧ Blk wn p4 3 #[.int .i64 0, .int .i64 0, .int .i64 0, .int .i64 0, .int .i64 0, .int .i64 1, .int .i64 2, .int .i64 3] := ⟨hS1.1, hB0, hS1.2⟩
      clear hS1 hB0
      have y0 : decide ((0 : Int) ≤ z8) = true := decide_eq_true (by omega)
      have y1 : (z8 : Int) < 4 := by have := HZ8.out.1; omega
      refine heldY 9 19 ?_
      clear y0 y1
      obtain ⟨v10, hv10⟩ := litZ4 z8 HZ8.out.1 x2 1000000 1000001 (-1)
      have HZ10 := Lib.hid hv10
      clear hv10
      refine held_yes (i := 10) (d := some 20) (v := ?_) rfl rfl (by kernel_rfl) (by kernel_rfl) (by kernel_rfl) (fun _ _ _ h => h) (by rfl) ?_ (by assumption) ?_
      rotate_left
      · (intro w hSw; (try dsimp only at hSw); have e8 := (hSw.2.1.cell z8).trans HZ10.out; go_simp; (first | done | with_reducible rfl))
      try simp only [Act.put, List.setIfInBounds_toArray, List.set_cons_zero, List.set_cons_succ]
      revert HR0
      revert HZ10
      revert HZ8
      revert HP4
      revert HP3
      revert HB6
      revert HB2
      revert HS
      revert hHeld
      revert v10
      revert z8
      revert p4
      revert p3
      revert y6
      revert x2
      revert wn
      exact key10.out
    · have r0 := HR0.out.cell 0
      have r1 := HR0.out.frozen 0
      go_simp
      have hS1 : Blk (World.setCell wz ⟨w.heap.size, 0, none⟩ (.slice A2 n2 c2)) w2.heap.size 31 #[.slice A2 n2 c2] ∧ Blk (World.setCell wz ⟨w.heap.size, 0, none⟩ (.slice A2 n2 c2)) p4 3 #[.int .i64 0, .int .i64 0, .int .i64 0, .int .i64 0, .int .i64 0, .int .i64 1, .int .i64 2, .int .i64 3] := ⟨(hHeld.1.far (p := ⟨w.heap.size, 0, none⟩) (by have := HV0.out.2; dsimp only; omega) (.slice A2 n2 c2)), (hHeld.2.far (p := ⟨w.heap.size, 0, none⟩) (by have := HP4.out.2; dsimp only; omega) (.slice A2 n2 c2))⟩
      replace HS := Lib.hid (HS.out.put (.slice A2 n2 c2))
      replace HR0 := Lib.hid (show Blk (World.setCell wz ⟨w.heap.size, 0, none⟩ (.slice A2 n2 c2)) w.heap.size 31 #[.slice A2 n2 c2] from HR0.out.put 0 (.slice A2 n2 c2))
      clear hHeld
      clear r0 r1
      refine hK.out _ _ hS1 (fun hX => ?_)
      clear hK K hX
      try simp only [Act.put, List.setIfInBounds_toArray, List.set_cons_zero, List.set_cons_succ]
      generalize (World.setCell wz ⟨w.heap.size, 0, none⟩ (.slice A2 n2 c2)) = wn at hS1 HS HR0 ⊢
      have hHeld := hS1
      clear hS1
      revert HR0
      revert HZ8
      revert HP4
      revert HB6
      revert HB2
      revert HS
      revert hHeld
      revert z8
      revert p4
      revert y6
      revert x2
      revert wn
      exact key12.out
  · intro wz x2 y6 hHeld HS HB2 HB6 HR0
    refine wpAnyH_ready (rs := [3, 4]) (by kernel_rfl) (by simp) ?_
    refine AllReadyH.cons rfl (fun K hK => ?_) (AllReadyH.cons rfl (fun K hK => ?_) AllReadyH.nil)
    · go_simp
      have HP3 := Lib.hid HS.out.fresh
      have hB0 := Blk.new wz 3 #[.int .i64 x2, .int .i64 1000000, .int .i64 1000001, .int .i64 (-1)]
      have hS1 : Blk (World.alloc wz (.cells #[.int .i64 x2, .int .i64 1000000, .int .i64 1000001, .int .i64 (-1)] 3)) w2.heap.size 31 #[.slice A2 n2 c2] := (hHeld).alloc (.cells #[.int .i64 x2, .int .i64 1000000, .int .i64 1000001, .int .i64 (-1)] 3)
      replace HS := Lib.hid (HS.out.kept (grown_alloc (grown_refl wz none) (.cells #[.int .i64 x2, .int .i64 1000000, .int .i64 1000001, .int .i64 (-1)] 3)))
      replace HR0 := Lib.hid (HR0.out.alloc (.cells #[.int .i64 x2, .int .i64 1000000, .int .i64 1000001, .int .i64 (-1)] 3))
      clear hHeld
      refine hK.out _ _ hS1 (fun hX => ?_)
      clear hK K hX
      try simp only [Act.put, List.setIfInBounds_toArray, List.set_cons_zero, List.set_cons_succ]
      generalize wz.heap.size = p3 at HP3 hB0 ⊢
      generalize (World.alloc wz (.cells #[.int .i64 x2, .int .i64 1000000, .int .i64 1000001, .int .i64 (-1)] 3)) = wn at hS1 HS hB0 HR0 ⊢
      refine wpAnyH_to (S' := (fun w' => Blk w' w2.heap.size 31 #[.slice A2 n2 c2] ∧ Blk w' p3 3 #[.int .i64 x2, .int .i64 1000000, .int .i64 1000001, .int .i64 (-1)])) (fun w' h => h.1) _ _ _ _ ?_
      have hHeld : Blk wn w2.heap.size 31 #[.slice A2 n2 c2] ∧ Blk wn p3 3 #[.int .i64 x2, .int .i64 1000000, .int .i64 1000001, .int .i64 (-1)] := ⟨hS1, hB0⟩
      clear hS1 hB0
      revert HR0
      revert HP3
      revert HB6
      revert HB2
      revert HS
      revert hHeld
      revert p3
      revert y6
      revert x2
      revert wn
      exact key11.out
    · go_simp
      have HP4 := Lib.hid HS.out.fresh
      have hB0 := Blk.new wz 3 #[.int .i64 0, .int .i64 0, .int .i64 0, .int .i64 0, .int .i64 0, .int .i64 1, .int .i64 2, .int .i64 3]
      have hS1 : Blk (World.alloc wz (.cells #[.int .i64 0, .int .i64 0, .int .i64 0, .int .i64 0, .int .i64 0, .int .i64 1, .int .i64 2, .int .i64 3] 3)) w2.heap.size 31 #[.slice A2 n2 c2] := (hHeld).alloc (.cells #[.int .i64 0, .int .i64 0, .int .i64 0, .int .i64 0, .int .i64 0, .int .i64 1, .int .i64 2, .int .i64 3] 3)
      replace HS := Lib.hid (HS.out.kept (grown_alloc (grown_refl wz none) (.cells #[.int .i64 0, .int .i64 0, .int .i64 0, .int .i64 0, .int .i64 0, .int .i64 1, .int .i64 2, .int .i64 3] 3)))
      replace HR0 := Lib.hid (HR0.out.alloc (.cells #[.int .i64 0, .int .i64 0, .int .i64 0, .int .i64 0, .int .i64 0, .int .i64 1, .int .i64 2, .int .i64 3] 3))
      clear hHeld
      refine hK.out _ _ hS1 (fun hX => ?_)
      clear hK K hX
      try simp only [Act.put, List.setIfInBounds_toArray, List.set_cons_zero, List.set_cons_succ]
      generalize wz.heap.size = p4 at HP4 hB0 ⊢
      generalize (World.alloc wz (.cells #[.int .i64 0, .int .i64 0, .int .i64 0, .int .i64 0, .int .i64 0, .int .i64 1, .int .i64 2, .int .i64 3] 3)) = wn at hS1 HS hB0 HR0 ⊢
      refine wpAnyH_to (S' := (fun w' => Blk w' w2.heap.size 31 #[.slice A2 n2 c2] ∧ Blk w' p4 3 #[.int .i64 0, .int .i64 0, .int .i64 0, .int .i64 0, .int .i64 0, .int .i64 1, .int .i64 2, .int .i64 3])) (fun w' h => h.1) _ _ _ _ ?_
      have hHeld : Blk wn w2.heap.size 31 #[.slice A2 n2 c2] ∧ Blk wn p4 3 #[.int .i64 0, .int .i64 0, .int .i64 0, .int .i64 0, .int .i64 0, .int .i64 1, .int .i64 2, .int .i64 3] := ⟨hS1, hB0⟩
      clear hS1 hB0
      have y0 : decide ((0 : Int) ≤ y6) = true := decide_eq_true (by omega)
      have y1 : (y6 : Int) < 8 := by have := HB6.out; omega
      refine heldY 7 17 ?_
      clear y0 y1
      obtain ⟨z8, hz8, hy8⟩ := litZ8 y6 HB6.out
      have HZ8 := Lib.hid (And.intro hz8 hy8)
      clear hz8 hy8
      refine held_yes (i := 8) (d := some 18) (v := ?_) rfl rfl (by kernel_rfl) (by kernel_rfl) (by kernel_rfl) (fun _ _ _ h => h) (by rfl) ?_ (by assumption) ?_
      rotate_left
      · (intro w hSw; (try dsimp only at hSw); have e8 := (hSw.2.cell y6).trans HZ8.out.2; go_simp; (first | done | with_reducible rfl))
      try simp only [Act.put, List.setIfInBounds_toArray, List.set_cons_zero, List.set_cons_succ]
      revert HR0
      revert HZ8
      revert HP4
      revert HB6
      revert HB2
      revert HS
      revert hHeld
      revert z8
      revert p4
      revert y6
      revert x2
      revert wn
      exact key12.out
  · intro wz x2 y6 p3 p4 z8 v10 hHeld HS HB2 HB6 HP3 HP4 HZ8 HZ10 HR0
    refine wpAnyH_ready (rs := [11]) (by kernel_rfl) (by simp) ?_
    refine AllReadyH.cons rfl (fun K hK => ?_) AllReadyH.nil
    have r0 := HR0.out.cell 0
    have r1 := HR0.out.frozen 0
    go_simp
    have hS1 : Blk (World.setCell wz ⟨w.heap.size, 0, none⟩ (.slice A2 n2 c2)) w2.heap.size 31 #[.slice A2 n2 c2] ∧ Blk (World.setCell wz ⟨w.heap.size, 0, none⟩ (.slice A2 n2 c2)) p3 3 #[.int .i64 x2, .int .i64 1000000, .int .i64 1000001, .int .i64 (-1)] ∧ Blk (World.setCell wz ⟨w.heap.size, 0, none⟩ (.slice A2 n2 c2)) p4 3 #[.int .i64 0, .int .i64 0, .int .i64 0, .int .i64 0, .int .i64 0, .int .i64 1, .int .i64 2, .int .i64 3] := ⟨(hHeld.1.far (p := ⟨w.heap.size, 0, none⟩) (by have := HV0.out.2; dsimp only; omega) (.slice A2 n2 c2)), (hHeld.2.1.far (p := ⟨w.heap.size, 0, none⟩) (by have := HP3.out.2; dsimp only; omega) (.slice A2 n2 c2)), (hHeld.2.2.far (p := ⟨w.heap.size, 0, none⟩) (by have := HP4.out.2; dsimp only; omega) (.slice A2 n2 c2))⟩
    replace HS := Lib.hid (HS.out.put (.slice A2 n2 c2))
    replace HR0 := Lib.hid (show Blk (World.setCell wz ⟨w.heap.size, 0, none⟩ (.slice A2 n2 c2)) w.heap.size 31 #[.slice A2 n2 c2] from HR0.out.put 0 (.slice A2 n2 c2))
    clear hHeld
    clear r0 r1
    refine hK.out _ _ hS1 (fun hX => ?_)
    clear hK K hX
    try simp only [Act.put, List.setIfInBounds_toArray, List.set_cons_zero, List.set_cons_succ]
    generalize (World.setCell wz ⟨w.heap.size, 0, none⟩ (.slice A2 n2 c2)) = wn at hS1 HS HR0 ⊢
    have hHeld := hS1
    clear hS1
    refine heldY 12 3 ?_
    revert HR0
    revert HZ10
    revert HZ8
    revert HP4
    revert HP3
    revert HB6
    revert HB2
    revert HS
    revert hHeld
    revert v10
    revert z8
    revert p4
    revert p3
    revert y6
    revert x2
    revert wn
    exact key13.out
  · intro wz x2 y6 p3 hHeld HS HB2 HB6 HP3 HR0
    refine wpAnyH_ready (rs := [4]) (by kernel_rfl) (by simp) ?_
    refine AllReadyH.cons rfl (fun K hK => ?_) AllReadyH.nil
    go_simp
    have HP4 := Lib.hid HS.out.fresh
    have hB0 := Blk.new wz 3 #[.int .i64 0, .int .i64 0, .int .i64 0, .int .i64 0, .int .i64 0, .int .i64 1, .int .i64 2, .int .i64 3]
    have hS1 : Blk (World.alloc wz (.cells #[.int .i64 0, .int .i64 0, .int .i64 0, .int .i64 0, .int .i64 0, .int .i64 1, .int .i64 2, .int .i64 3] 3)) w2.heap.size 31 #[.slice A2 n2 c2] ∧ Blk (World.alloc wz (.cells #[.int .i64 0, .int .i64 0, .int .i64 0, .int .i64 0, .int .i64 0, .int .i64 1, .int .i64 2, .int .i64 3] 3)) p3 3 #[.int .i64 x2, .int .i64 1000000, .int .i64 1000001, .int .i64 (-1)] := ⟨(hHeld.1).alloc (.cells #[.int .i64 0, .int .i64 0, .int .i64 0, .int .i64 0, .int .i64 0, .int .i64 1, .int .i64 2, .int .i64 3] 3), (hHeld.2).alloc (.cells #[.int .i64 0, .int .i64 0, .int .i64 0, .int .i64 0, .int .i64 0, .int .i64 1, .int .i64 2, .int .i64 3] 3)⟩
    replace HS := Lib.hid (HS.out.kept (grown_alloc (grown_refl wz none) (.cells #[.int .i64 0, .int .i64 0, .int .i64 0, .int .i64 0, .int .i64 0, .int .i64 1, .int .i64 2, .int .i64 3] 3)))
    replace HR0 := Lib.hid (HR0.out.alloc (.cells #[.int .i64 0, .int .i64 0, .int .i64 0, .int .i64 0, .int .i64 0, .int .i64 1, .int .i64 2, .int .i64 3] 3))
    clear hHeld
    refine hK.out _ _ hS1 (fun hX => ?_)
    clear hK K hX
    try simp only [Act.put, List.setIfInBounds_toArray, List.set_cons_zero, List.set_cons_succ]
    generalize wz.heap.size = p4 at HP4 hB0 ⊢
    generalize (World.alloc wz (.cells #[.int .i64 0, .int .i64 0, .int .i64 0, .int .i64 0, .int .i64 0, .int .i64 1, .int .i64 2, .int .i64 3] 3)) = wn at hS1 HS hB0 HR0 ⊢
    refine wpAnyH_to (S' := (fun w' => Blk w' w2.heap.size 31 #[.slice A2 n2 c2] ∧ Blk w' p3 3 #[.int .i64 x2, .int .i64 1000000, .int .i64 1000001, .int .i64 (-1)] ∧ Blk w' p4 3 #[.int .i64 0, .int .i64 0, .int .i64 0, .int .i64 0, .int .i64 0, .int .i64 1, .int .i64 2, .int .i64 3])) (fun w' h => ⟨h.1, h.2.1⟩) _ _ _ _ ?_
    have hHeld : Blk wn w2.heap.size 31 #[.slice A2 n2 c2] ∧ Blk wn p3 3 #[.int .i64 x2, .int .i64 1000000, .int .i64 1000001, .int .i64 (-1)] ∧ Blk wn p4 3 #[.int .i64 0, .int .i64 0, .int .i64 0, .int .i64 0, .int .i64 0, .int .i64 1, .int .i64 2, .int .i64 3] := ⟨hS1.1, hS1.2, hB0⟩
    clear hS1 hB0
    have y0 : decide ((0 : Int) ≤ y6) = true := decide_eq_true (by omega)
    have y1 : (y6 : Int) < 8 := by have := HB6.out; omega
    refine heldY 7 17 ?_
    clear y0 y1
    obtain ⟨z8, hz8, hy8⟩ := litZ8 y6 HB6.out
    have HZ8 := Lib.hid (And.intro hz8 hy8)
    clear hz8 hy8
    refine held_yes (i := 8) (d := some 18) (v := ?_) rfl rfl (by kernel_rfl) (by kernel_rfl) (by kernel_rfl) (fun _ _ _ h => h) (by rfl) ?_ (by assumption) ?_
    rotate_left
    · (intro w hSw; (try dsimp only at hSw); have e8 := (hSw.2.2.cell y6).trans HZ8.out.2; go_simp; (first | done | with_reducible rfl))
    try simp only [Act.put, List.setIfInBounds_toArray, List.set_cons_zero, List.set_cons_succ]
    have y0 : decide ((0 : Int) ≤ z8) = true := decide_eq_true (by omega)
    have y1 : (z8 : Int) < 4 := by have := HZ8.out.1; omega
    refine heldY 9 19 ?_
    clear y0 y1
    obtain ⟨v10, hv10⟩ := litZ4 z8 HZ8.out.1 x2 1000000 1000001 (-1)
    have HZ10 := Lib.hid hv10
    clear hv10
    refine held_yes (i := 10) (d := some 20) (v := ?_) rfl rfl (by kernel_rfl) (by kernel_rfl) (by kernel_rfl) (fun _ _ _ h => h) (by rfl) ?_ (by assumption) ?_
    rotate_left
    · (intro w hSw; (try dsimp only at hSw); have e8 := (hSw.2.1.cell z8).trans HZ10.out; go_simp; (first | done | with_reducible rfl))
    try simp only [Act.put, List.setIfInBounds_toArray, List.set_cons_zero, List.set_cons_succ]
    refine heldY 12 3 ?_
    revert HR0
    revert HZ10
    revert HZ8
    revert HP4
    revert HP3
    revert HB6
    revert HB2
    revert HS
    revert hHeld
    revert v10
    revert z8
    revert p4
    revert p3
    revert y6
    revert x2
    revert wn
    exact key13.out
  · intro wz x2 y6 p4 z8 hHeld HS HB2 HB6 HP4 HZ8 HR0
    refine wpAnyH_ready (rs := [3]) (by kernel_rfl) (by simp) ?_
    refine AllReadyH.cons rfl (fun K hK => ?_) AllReadyH.nil
    go_simp
    have HP3 := Lib.hid HS.out.fresh
    have hB0 := Blk.new wz 3 #[.int .i64 x2, .int .i64 1000000, .int .i64 1000001, .int .i64 (-1)]
    have hS1 : Blk (World.alloc wz (.cells #[.int .i64 x2, .int .i64 1000000, .int .i64 1000001, .int .i64 (-1)] 3)) w2.heap.size 31 #[.slice A2 n2 c2] ∧ Blk (World.alloc wz (.cells #[.int .i64 x2, .int .i64 1000000, .int .i64 1000001, .int .i64 (-1)] 3)) p4 3 #[.int .i64 0, .int .i64 0, .int .i64 0, .int .i64 0, .int .i64 0, .int .i64 1, .int .i64 2, .int .i64 3] := ⟨(hHeld.1).alloc (.cells #[.int .i64 x2, .int .i64 1000000, .int .i64 1000001, .int .i64 (-1)] 3), (hHeld.2).alloc (.cells #[.int .i64 x2, .int .i64 1000000, .int .i64 1000001, .int .i64 (-1)] 3)⟩
    replace HS := Lib.hid (HS.out.kept (grown_alloc (grown_refl wz none) (.cells #[.int .i64 x2, .int .i64 1000000, .int .i64 1000001, .int .i64 (-1)] 3)))
    replace HR0 := Lib.hid (HR0.out.alloc (.cells #[.int .i64 x2, .int .i64 1000000, .int .i64 1000001, .int .i64 (-1)] 3))
    clear hHeld
    refine hK.out _ _ hS1 (fun hX => ?_)
    clear hK K hX
    try simp only [Act.put, List.setIfInBounds_toArray, List.set_cons_zero, List.set_cons_succ]
    generalize wz.heap.size = p3 at HP3 hB0 ⊢
    generalize (World.alloc wz (.cells #[.int .i64 x2, .int .i64 1000000, .int .i64 1000001, .int .i64 (-1)] 3)) = wn at hS1 HS hB0 HR0 ⊢
    refine wpAnyH_to (S' := (fun w' => Blk w' w2.heap.size 31 #[.slice A2 n2 c2] ∧ Blk w' p3 3 #[.int .i64 x2, .int .i64 1000000, .int .i64 1000001, .int .i64 (-1)] ∧ Blk w' p4 3 #[.int .i64 0, .int .i64 0, .int .i64 0, .int .i64 0, .int .i64 0, .int .i64 1, .int .i64 2, .int .i64 3])) (fun w' h => ⟨h.1, h.2.2⟩) _ _ _ _ ?_
    have hHeld : Blk wn w2.heap.size 31 #[.slice A2 n2 c2] ∧ Blk wn p3 3 #[.int .i64 x2, .int .i64 1000000, .int .i64 1000001, .int .i64 (-1)] ∧ Blk wn p4 3 #[.int .i64 0, .int .i64 0, .int .i64 0, .int .i64 0, .int .i64 0, .int .i64 1, .int .i64 2, .int .i64 3] := ⟨hS1.1, hB0, hS1.2⟩
    clear hS1 hB0
    have y0 : decide ((0 : Int) ≤ z8) = true := decide_eq_true (by omega)
    have y1 : (z8 : Int) < 4 := by have := HZ8.out.1; omega
    refine heldY 9 19 ?_
    clear y0 y1
    obtain ⟨v10, hv10⟩ := litZ4 z8 HZ8.out.1 x2 1000000 1000001 (-1)
    have HZ10 := Lib.hid hv10
    clear hv10
    refine held_yes (i := 10) (d := some 20) (v := ?_) rfl rfl (by kernel_rfl) (by kernel_rfl) (by kernel_rfl) (fun _ _ _ h => h) (by rfl) ?_ (by assumption) ?_
    rotate_left
    · (intro w hSw; (try dsimp only at hSw); have e8 := (hSw.2.1.cell z8).trans HZ10.out; go_simp; (first | done | with_reducible rfl))
    try simp only [Act.put, List.setIfInBounds_toArray, List.set_cons_zero, List.set_cons_succ]
    refine heldY 12 3 ?_
    revert HR0
    revert HZ10
    revert HZ8
    revert HP4
    revert HP3
    revert HB6
    revert HB2
    revert HS
    revert hHeld
    revert v10
    revert z8
    revert p4
    revert p3
    revert y6
    revert x2
    revert wn
    exact key13.out
  · intro wz x2 y6 p3 p4 z8 v10 hHeld HS HB2 HB6 HP3 HP4 HZ8 HZ10 HR0
    refine wpAnyH_done (by kernel_rfl) ?_ _
    have zr := HR0.out.cell 0
    go_wp2
    exact bodyPost_ret (v := .tuple #[.agg #[.slice A2 n2 c2], .int .i64 v10]) (by simp [results, Try.results15, go_sem, *]) rfl ⟨_, _, _, ls, v10, rfl, HN.out.1, HN.out.2.1, HN.out.2.2, HS.out.1, HS.out.2.2.1⟩
end Go.Proofs.Ytlldmbocaloogaa
