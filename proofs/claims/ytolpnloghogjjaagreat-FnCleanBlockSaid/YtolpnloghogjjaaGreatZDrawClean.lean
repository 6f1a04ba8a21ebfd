/- What the model draws for chapter 14: a device, a table, heads, a block and a stamp. -/
import Derived.Test.YtolpnloghogjjaaGreatZDrawVict
namespace Go.Proofs.YtolpnloghogjjaaGreat
open Go.ChangeShapes Go.WideShapes Go.ChangeAt Go.RowKit
set_option linter.unusedVariables false
set_option linter.unusedSimpArgs false

/-- A device, a table, heads, a block and a stamp are drawn. -/
def CleanDrawn (w : World) (e : Ending) (w' : World) : Prop :=
  ∃ (D : Option Addr) (nd cd : Nat) (bs : List Bk) (A : Option Addr) (n c : Nat) (ls : List Li) (a b h x s : Int), e = .returned (.tuple #[.slice D nd cd, .agg #[.slice A n c], .agg #[.int .i64 a, .int .i64 b, .int .i64 h], .int .i64 x, .int .i64 s]) ∧ Pair12 w D nd bs A n ls w'
theorem litV9 (y : Nat) (h : y < 9) : ∃ z : Nat, z < 4 ∧ (#[Value.int .i64 0, .int .i64 0, .int .i64 0, .int .i64 0, .int .i64 0, .int .i64 0, .int .i64 1, .int .i64 2, .int .i64 3] : Array Value)[y]? = some (.int .i64 (z : Int)) := by
  have h1 : y = 0 ∨ y = 1 ∨ y = 2 ∨ y = 3 ∨ y = 4 ∨ y = 5 ∨ y = 6 ∨ y = 7 ∨ y = 8 := by omega
  rcases h1 with rfl | rfl | rfl | rfl | rfl | rfl | rfl | rfl | rfl
  · exact ⟨0, by omega, rfl⟩
  · exact ⟨0, by omega, rfl⟩
  · exact ⟨0, by omega, rfl⟩
  · exact ⟨0, by omega, rfl⟩
  · exact ⟨0, by omega, rfl⟩
  · exact ⟨0, by omega, rfl⟩
  · exact ⟨1, by omega, rfl⟩
  · exact ⟨2, by omega, rfl⟩
  · exact ⟨3, by omega, rfl⟩
set_option maxRecDepth 8000 in
set_option maxHeartbeats 8000000 in
theorem drawClean_any (w : World) (A : Option Addr) (n c : Nat) (hn : n ≤ c) (hc : c ≤ 9223372036854775807) (h : Bytes w w.heap.size A n) :
    Calls Tryz.prog 5 #[.slice A n c] w (CleanDrawn w) := by
  have h0 := (h.alloc (.cells #[.slice none 0 0] 26)).alloc (.cells #[.int .i64 0, .int .i64 0, .int .i64 0] 28)
  go_enter Tryz.func5, Tryz.ntmps5
  go_wp2_with fail
  refine (open_any _ A n c hn hc h0).mono ?_
  rintro e w1 ⟨rfl, h1, hb1⟩
  (try simp only [size_of_alloc] at h1 hb1)
  have hr0 := ((Blk.new w 26 #[.slice none 0 0]).alloc (.cells #[.int .i64 0, .int .i64 0, .int .i64 0] 28)).below hb1 (by omega)
  have hr1 : Blk w1 (w.heap.size + 1) 28 #[.int .i64 0, .int .i64 0, .int .i64 0] := by
    have h9 := Blk.new (w.alloc (.cells #[.slice none 0 0] 26)) 28 #[.int .i64 0, .int .i64 0, .int .i64 0]
    rw [size_alloc1] at h9
    exact h9.below hb1 (by omega)
  have hg1 := h1.lt
  have hz1 := hb1.size
  (try simp only [size_of_alloc] at hz1)
  have hbw : Below w.heap.size w w1 := (((Below.refl w.heap.size w).alloc (Nat.le_refl _) (.cells #[.slice none 0 0] 26)).alloc (by simp) (.cells #[.int .i64 0, .int .i64 0, .int .i64 0] 28)).trans (hb1.mono (by omega))
  go_wp2_with fail
  refine (both_any _ _ _ _ 14 h1 (by omega) (by omega) (by omega)).mono ?_
  rintro e w2 ⟨D, nd, cd, bs, A2, n2, c2, ls, a, b, h9, rfl, hbs, hDZ, hls, hrow, hfar, h2, hg2⟩
  have HS := Lib.hid (BV.start hbw (by omega) hg1 hbs hDZ hls hrow hfar h2 hg2)
  have hlt2 := hg2.size
  have HR0 := Lib.hid (hr0.grown hg2 (by intro e; injection e with e; omega))
  have HR1 := Lib.hid (hr1.grown hg2 (by intro e; injection e with e; omega))
  have HV0 := Lib.hid (show w2.heap.size ≠ w.heap.size + 1 + 1 ∧ w2.heap.size + 1 ≠ w.heap.size + 1 + 1 ∧ w.heap.size + 2 ≤ w2.heap.size by have := HS.out.fresh; omega)
  have hnd13 : nd ≤ 13 := hbs.2.1
  clear hlt2 h h0 h1 h2 hb1 hr0 hr1 hg1 hz1 hbw hbs hDZ hls hrow hfar hg2
  have K3 := grown_alloc (grown_alloc (grown_refl w2 none) (.cells #[.slice A2 n2 c2] 26)) (.cells #[.int .i64 a, .int .i64 b, .int .i64 h9] 28)
  replace HS := Lib.hid (HS.out.kept K3)
  replace HR0 := Lib.hid (HR0.out.keep K3)
  replace HR1 := Lib.hid (HR1.out.keep K3)
  have HT0 := Lib.hid ((Blk.new w2 26 #[.slice A2 n2 c2]).alloc (.cells #[.int .i64 a, .int .i64 b, .int .i64 h9] 28))
  have hh0 := Blk.new (World.alloc w2 (.cells #[.slice A2 n2 c2] 26)) 28 #[.int .i64 a, .int .i64 b, .int .i64 h9]
  rw [size_alloc1] at hh0
  have HT1 := Lib.hid hh0
  clear K3 hh0
  go_wp2_with fail
  refine (pick_lt _ _ _ _ _ HS.out.rd (by omega) (by omega)).mono ?_
  rintro e w3 ⟨x, rfl, x0, x1, h3, hg3⟩
  have hfar := HS.out.far
  replace HT0 := Lib.hid (HT0.out.grown hg3 (fun e => HV0.out.1 (Option.some.inj e)))
  replace HT1 := Lib.hid (HT1.out.grown hg3 (fun e => HV0.out.2.1 (Option.some.inj e)))
  replace HR0 := Lib.hid (HR0.out.grown hg3 (fun e => by have := Option.some.inj e; omega))
  replace HR1 := Lib.hid (HR1.out.grown hg3 (fun e => by have := Option.some.inj e; omega))
  replace HS := Lib.hid (HS.out.grown hg3 h3)
  clear h3 hg3
  go_wp2_with fail
  refine (pick_lt _ _ _ _ _ HS.out.rd (by omega) (by omega)).mono ?_
  rintro e w4 ⟨y, rfl, y0, y1, h4, hg4⟩
  replace HT0 := Lib.hid (HT0.out.grown hg4 (fun e => HV0.out.1 (Option.some.inj e)))
  replace HT1 := Lib.hid (HT1.out.grown hg4 (fun e => HV0.out.2.1 (Option.some.inj e)))
  replace HR0 := Lib.hid (HR0.out.grown hg4 (fun e => by have := Option.some.inj e; omega))
  replace HR1 := Lib.hid (HR1.out.grown hg4 (fun e => by have := Option.some.inj e; omega))
  replace HS := Lib.hid (HS.out.grown hg4 h4)
  clear h4 hg4 hfar
  go_wp2_with fail
  apply mrg
  intro key17
  apply mrg
  intro key16
  apply mrg
  intro key15
  apply mrg
  intro key14
  apply mrg
  intro key13
  apply mrg
  intro key12
  apply mrg
  intro key11
  apply mrg
  intro key10
  apply mrg
  intro key9
  apply mrg
  intro key8
  apply mrg
  intro key7
  apply mrg
  intro key6
  apply mrg
  intro key5
  apply mrg
  intro key4
  apply mrg
  intro key3
  apply mrg
  intro key2
  apply mrg
  intro key1
  apply mrg
  intro key0
  · have HS := Lib.hid (HS.out.kept (grown_drew (grown_refl w4 none)))
    have HR0 := Lib.hid (HR0.out.keep (grown_drew (grown_refl w4 none)))
    have HR1 := Lib.hid (HR1.out.keep (grown_drew (grown_refl w4 none)))
    have hS0 : Blk (World.drew w4) w2.heap.size 26 #[.slice A2 n2 c2] ∧ Blk (World.drew w4) (w2.heap.size + 1) 28 #[.int .i64 a, .int .i64 b, .int .i64 h9] := ⟨HT0.out.drew, HT1.out.drew⟩
    refine wp_region_held_drew (S := (fun w' => Blk w' w2.heap.size 26 #[.slice A2 n2 c2] ∧ Blk w' (w2.heap.size + 1) 28 #[.int .i64 a, .int .i64 b, .int .i64 h9])) (by kernel_rfl) ?_ (fun hX => ?_)
    · exact hS0
    have hHeld := hS0
    clear hS0 hX
    refine heldY 0 29 ?_
    refine held_yes (i := 1) (d := some 30) (v := ?_) rfl rfl (by kernel_rfl) (by kernel_rfl) (by kernel_rfl) (fun _ _ _ h => h) (by rfl) ?_ (by assumption) ?_
    rotate_left
    · (intro w hSw; (try dsimp only at hSw); have e8 := hSw.1.cell 0; go_simp; (first | done | with_reducible rfl))
    try simp only [Act.put, List.setIfInBounds_toArray, List.set_cons_zero, List.set_cons_succ]
    refine held_yes (i := 2) (d := some 31) (v := ?_) rfl rfl (by kernel_rfl) (by kernel_rfl) (by kernel_rfl) (fun _ _ _ h => h) (by rfl) ?_ (by assumption) ?_
    rotate_left
    · (intro w hSw; (try dsimp only at hSw); have e0 := hSw.2.cell 0; have e1 := hSw.2.cell 1; have e2 := hSw.2.cell 2; go_simp; (first | done | with_reducible rfl))
    try simp only [Act.put, List.setIfInBounds_toArray, List.set_cons_zero, List.set_cons_succ]
    refine heldY 3 32 ?_
    refine heldY 4 33 ?_
    refine heldY 9 38 ?_
    generalize (World.drew w4) = wn at hHeld HS HR0 HR1 ⊢
    revert HR1
    revert HR0
    revert HS
    revert hHeld
    revert wn
    exact key0.out
  · intro wz hHeld HS HR0 HR1
    refine wpAnyH_ready (rs := [5, 8]) (by kernel_rfl) (by simp) ?_
    refine AllReadyH.cons rfl (fun K hK => ?_) (AllReadyH.cons rfl (fun K hK => ?_) AllReadyH.nil)
    · go_simp
      go_at_call 30
      refine (pick_lt _ _ _ _ _ HS.out.rd (by omega) (by omega)).mono ?_
      rintro e wn ⟨x5, rfl, hu, hv, h4, hg4⟩
      have HB5 := Lib.hid (And.intro hu hv)
      have hS1 : Blk wn w2.heap.size 26 #[.slice A2 n2 c2] ∧ Blk wn (w2.heap.size + 1) 28 #[.int .i64 a, .int .i64 b, .int .i64 h9] := ⟨Blk.grown (hHeld.1) hg4 (fun e => HV0.out.1 (Option.some.inj e)), Blk.grown (hHeld.2) hg4 (fun e => HV0.out.2.1 (Option.some.inj e))⟩
      replace HS := Lib.hid (HS.out.grown hg4 h4)
      replace HR0 := Lib.hid (Blk.grown HR0.out hg4 (fun e => by have := HS.out.far; have := Option.some.inj e; omega))
      replace HR1 := Lib.hid (Blk.grown HR1.out hg4 (fun e => by have := HS.out.far; have := Option.some.inj e; omega))
      clear hHeld
      clear hu hv h4 hg4
      refine hK.out _ _ hS1 (fun hX => ?_)
      clear hK K hX
      try simp only [Act.put, List.setIfInBounds_toArray, List.set_cons_zero, List.set_cons_succ]
      have hHeld := hS1
      clear hS1
      refine heldY 6 35 ?_
      revert HR1
      revert HR0
      revert HB5
      revert HS
      revert hHeld
      revert x5
      revert wn
      exact key1.out
    · go_simp
      have HP8 := Lib.hid HS.out.fresh
      have hB0 := Blk.new wz 3 #[.int .i64 0, .int .i64 0, .int .i64 0, .int .i64 0, .int .i64 0, .int .i64 0, .int .i64 1, .int .i64 2, .int .i64 3]
      have hS1 : Blk (World.alloc wz (.cells #[.int .i64 0, .int .i64 0, .int .i64 0, .int .i64 0, .int .i64 0, .int .i64 0, .int .i64 1, .int .i64 2, .int .i64 3] 3)) w2.heap.size 26 #[.slice A2 n2 c2] ∧ Blk (World.alloc wz (.cells #[.int .i64 0, .int .i64 0, .int .i64 0, .int .i64 0, .int .i64 0, .int .i64 0, .int .i64 1, .int .i64 2, .int .i64 3] 3)) (w2.heap.size + 1) 28 #[.int .i64 a, .int .i64 b, .int .i64 h9] := ⟨(hHeld.1).alloc (.cells #[.int .i64 0, .int .i64 0, .int .i64 0, .int .i64 0, .int .i64 0, .int .i64 0, .int .i64 1, .int .i64 2, .int .i64 3] 3), (hHeld.2).alloc (.cells #[.int .i64 0, .int .i64 0, .int .i64 0, .int .i64 0, .int .i64 0, .int .i64 0, .int .i64 1, .int .i64 2, .int .i64 3] 3)⟩
      replace HS := Lib.hid (HS.out.kept (grown_alloc (grown_refl wz none) (.cells #[.int .i64 0, .int .i64 0, .int .i64 0, .int .i64 0, .int .i64 0, .int .i64 0, .int .i64 1, .int .i64 2, .int .i64 3] 3)))
      replace HR0 := Lib.hid (HR0.out.alloc (.cells #[.int .i64 0, .int .i64 0, .int .i64 0, .int .i64 0, .int .i64 0, .int .i64 0, .int .i64 1, .int .i64 2, .int .i64 3] 3))
      replace HR1 := Lib.hid (HR1.out.alloc (.cells #[.int .i64 0, .int .i64 0, .int .i64 0, .int .i64 0, .int .i64 0, .int .i64 0, .int .i64 1, .int .i64 2, .int .i64 3] 3))
      clear hHeld
      refine hK.out _ _ hS1 (fun hX => ?_)
      clear hK K hX
      try simp only [Act.put, List.setIfInBounds_toArray, List.set_cons_zero, List.set_cons_succ]
      generalize wz.heap.size = p8 at HP8 hB0 ⊢
      generalize (World.alloc wz (.cells #[.int .i64 0, .int .i64 0, .int .i64 0, .int .i64 0, .int .i64 0, .int .i64 0, .int .i64 1, .int .i64 2, .int .i64 3] 3)) = wn at hS1 HS hB0 HR0 HR1 ⊢
      refine wpAnyH_to (S' := (fun w' => Blk w' w2.heap.size 26 #[.slice A2 n2 c2] ∧ Blk w' (w2.heap.size + 1) 28 #[.int .i64 a, .int .i64 b, .int .i64 h9] ∧ Blk w' p8 3 #[.int .i64 0, .int .i64 0, .int .i64 0, .int .i64 0, .int .i64 0, .int .i64 0, .int .i64 1, .int .i64 2, .int .i64 3])) (fun w' h => ⟨h.1, h.2.1⟩) _ _ _ _ ?_
      have hHeld : Blk wn w2.heap.size 26 #[.slice A2 n2 c2] ∧ Blk wn (w2.heap.size + 1) 28 #[.int .i64 a, .int .i64 b, .int .i64 h9] ∧ Blk wn p8 3 #[.int .i64 0, .int .i64 0, .int .i64 0, .int .i64 0, .int .i64 0, .int .i64 0, .int .i64 1, .int .i64 2, .int .i64 3] := ⟨hS1.1, hS1.2, hB0⟩
      clear hS1 hB0
      revert HR1
      revert HR0
      revert HP8
      revert HS
      revert hHeld
      revert p8
      revert wn
      exact key2.out
  · intro wz x5 hHeld HS HB5 HR0 HR1
    refine wpAnyH_ready (rs := [7, 8, 10]) (by kernel_rfl) (by simp) ?_
    refine AllReadyH.cons rfl (fun K hK => ?_) (AllReadyH.cons rfl (fun K hK => ?_) (AllReadyH.cons rfl (fun K hK => ?_) AllReadyH.nil))
    · go_simp
      have HP7 := Lib.hid HS.out.fresh
      have hB0 := Blk.new wz 3 #[.int .i64 (IntKind.i64.wrap (50 + x5)), .int .i64 1000000, .int .i64 0, .int .i64 1000001]
      have hS1 : Blk (World.alloc wz (.cells #[.int .i64 (IntKind.i64.wrap (50 + x5)), .int .i64 1000000, .int .i64 0, .int .i64 1000001] 3)) w2.heap.size 26 #[.slice A2 n2 c2] ∧ Blk (World.alloc wz (.cells #[.int .i64 (IntKind.i64.wrap (50 + x5)), .int .i64 1000000, .int .i64 0, .int .i64 1000001] 3)) (w2.heap.size + 1) 28 #[.int .i64 a, .int .i64 b, .int .i64 h9] := ⟨(hHeld.1).alloc (.cells #[.int .i64 (IntKind.i64.wrap (50 + x5)), .int .i64 1000000, .int .i64 0, .int .i64 1000001] 3), (hHeld.2).alloc (.cells #[.int .i64 (IntKind.i64.wrap (50 + x5)), .int .i64 1000000, .int .i64 0, .int .i64 1000001] 3)⟩
      replace HS := Lib.hid (HS.out.kept (grown_alloc (grown_refl wz none) (.cells #[.int .i64 (IntKind.i64.wrap (50 + x5)), .int .i64 1000000, .int .i64 0, .int .i64 1000001] 3)))
      replace HR0 := Lib.hid (HR0.out.alloc (.cells #[.int .i64 (IntKind.i64.wrap (50 + x5)), .int .i64 1000000, .int .i64 0, .int .i64 1000001] 3))
      replace HR1 := Lib.hid (HR1.out.alloc (.cells #[.int .i64 (IntKind.i64.wrap (50 + x5)), .int .i64 1000000, .int .i64 0, .int .i64 1000001] 3))
      clear hHeld
      refine hK.out _ _ hS1 (fun hX => ?_)
      clear hK K hX
      try simp only [Act.put, List.setIfInBounds_toArray, List.set_cons_zero, List.set_cons_succ]
      generalize wz.heap.size = p7 at HP7 hB0 ⊢
      generalize (World.alloc wz (.cells #[.int .i64 (IntKind.i64.wrap (50 + x5)), .int .i64 1000000, .int .i64 0, .int .i64 1000001] 3)) = wn at hS1 HS hB0 HR0 HR1 ⊢
      refine wpAnyH_to (S' := (fun w' => Blk w' w2.heap.size 26 #[.slice A2 n2 c2] ∧ Blk w' (w2.heap.size + 1) 28 #[.int .i64 a, .int .i64 b, .int .i64 h9] ∧ Blk w' p7 3 #[.int .i64 (IntKind.i64.wrap (50 + x5)), .int .i64 1000000, .int .i64 0, .int .i64 1000001])) (fun w' h => ⟨h.1, h.2.1⟩) _ _ _ _ ?_
      have hHeld : Blk wn w2.heap.size 26 #[.slice A2 n2 c2] ∧ Blk wn (w2.heap.size + 1) 28 #[.int .i64 a, .int .i64 b, .int .i64 h9] ∧ Blk wn p7 3 #[.int .i64 (IntKind.i64.wrap (50 + x5)), .int .i64 1000000, .int .i64 0, .int .i64 1000001] := ⟨hS1.1, hS1.2, hB0⟩
      clear hS1 hB0
      revert HR1
      revert HR0
      revert HP7
      revert HB5
      revert HS
      revert hHeld
      revert p7
      revert x5
      revert wn
      exact key3.out
    · go_simp
      have HP8 := Lib.hid HS.out.fresh
      have hB0 := Blk.new wz 3 #[.int .i64 0, .int .i64 0, .int .i64 0, .int .i64 0, .int .i64 0, .int .i64 0, .int .i64 1, .int .i64 2, .int .i64 3]
      have hS1 : Blk (World.alloc wz (.cells #[.int .i64 0, .int .i64 0, .int .i64 0, .int .i64 0, .int .i64 0, .int .i64 0, .int .i64 1, .int .i64 2, .int .i64 3] 3)) w2.heap.size 26 #[.slice A2 n2 c2] ∧ Blk (World.alloc wz (.cells #[.int .i64 0, .int .i64 0, .int .i64 0, .int .i64 0, .int .i64 0, .int .i64 0, .int .i64 1, .int .i64 2, .int .i64 3] 3)) (w2.heap.size + 1) 28 #[.int .i64 a, .int .i64 b, .int .i64 h9] := ⟨(hHeld.1).alloc (.cells #[.int .i64 0, .int .i64 0, .int .i64 0, .int .i64 0, .int .i64 0, .int .i64 0, .int .i64 1, .int .i64 2, .int .i64 3] 3), (hHeld.2).alloc (.cells #[.int .i64 0, .int .i64 0, .int .i64 0, .int .i64 0, .int .i64 0, .int .i64 0, .int .i64 1, .int .i64 2, .int .i64 3] 3)⟩
      replace HS := Lib.hid (HS.out.kept (grown_alloc (grown_refl wz none) (.cells #[.int .i64 0, .int .i64 0, .int .i64 0, .int .i64 0, .int .i64 0, .int .i64 0, .int .i64 1, .int .i64 2, .int .i64 3] 3)))
      replace HR0 := Lib.hid (HR0.out.alloc (.cells #[.int .i64 0, .int .i64 0, .int .i64 0, .int .i64 0, .int .i64 0, .int .i64 0, .int .i64 1, .int .i64 2, .int .i64 3] 3))
      replace HR1 := Lib.hid (HR1.out.alloc (.cells #[.int .i64 0, .int .i64 0, .int .i64 0, .int .i64 0, .int .i64 0, .int .i64 0, .int .i64 1, .int .i64 2, .int .i64 3] 3))
      clear hHeld
      refine hK.out _ _ hS1 (fun hX => ?_)
      clear hK K hX
      try simp only [Act.put, List.setIfInBounds_toArray, List.set_cons_zero, List.set_cons_succ]
      generalize wz.heap.size = p8 at HP8 hB0 ⊢
      generalize (World.alloc wz (.cells #[.int .i64 0, .int .i64 0, .int .i64 0, .int .i64 0, .int .i64 0, .int .i64 0, .int .i64 1, .int .i64 2, .int .i64 3] 3)) = wn at hS1 HS hB0 HR0 HR1 ⊢
      refine wpAnyH_to (S' := (fun w' => Blk w' w2.heap.size 26 #[.slice A2 n2 c2] ∧ Blk w' (w2.heap.size + 1) 28 #[.int .i64 a, .int .i64 b, .int .i64 h9] ∧ Blk w' p8 3 #[.int .i64 0, .int .i64 0, .int .i64 0, .int .i64 0, .int .i64 0, .int .i64 0, .int .i64 1, .int .i64 2, .int .i64 3])) (fun w' h => ⟨h.1, h.2.1⟩) _ _ _ _ ?_
      have hHeld : Blk wn w2.heap.size 26 #[.slice A2 n2 c2] ∧ Blk wn (w2.heap.size + 1) 28 #[.int .i64 a, .int .i64 b, .int .i64 h9] ∧ Blk wn p8 3 #[.int .i64 0, .int .i64 0, .int .i64 0, .int .i64 0, .int .i64 0, .int .i64 0, .int .i64 1, .int .i64 2, .int .i64 3] := ⟨hS1.1, hS1.2, hB0⟩
      clear hS1 hB0
      revert HR1
      revert HR0
      revert HP8
      revert HB5
      revert HS
      revert hHeld
      revert p8
      revert x5
      revert wn
      exact key4.out
    · go_simp
      go_at_call 30
      refine (pick_lt _ _ _ _ _ HS.out.rd (by omega) (by omega)).mono ?_
      rintro e wn ⟨x0, rfl, hu, hv, h4, hg4⟩
      obtain ⟨y10, rfl⟩ := Int.eq_ofNat_of_zero_le hu
      have HB10 := Lib.hid (show y10 < 9 by omega)
      have hS1 : Blk wn w2.heap.size 26 #[.slice A2 n2 c2] ∧ Blk wn (w2.heap.size + 1) 28 #[.int .i64 a, .int .i64 b, .int .i64 h9] := ⟨Blk.grown (hHeld.1) hg4 (fun e => HV0.out.1 (Option.some.inj e)), Blk.grown (hHeld.2) hg4 (fun e => HV0.out.2.1 (Option.some.inj e))⟩
      replace HS := Lib.hid (HS.out.grown hg4 h4)
      replace HR0 := Lib.hid (Blk.grown HR0.out hg4 (fun e => by have := HS.out.far; have := Option.some.inj e; omega))
      replace HR1 := Lib.hid (Blk.grown HR1.out hg4 (fun e => by have := HS.out.far; have := Option.some.inj e; omega))
      clear hHeld
      clear hu hv h4 hg4
      refine hK.out _ _ hS1 (fun hX => ?_)
      clear hK K hX
      try simp only [Act.put, List.setIfInBounds_toArray, List.set_cons_zero, List.set_cons_succ]
      have hHeld := hS1
      clear hS1
      refine heldY 15 2 ?_
      revert HR1
      revert HR0
      revert HB10
      revert HB5
      revert HS
      revert hHeld
      revert y10
      revert x5
      revert wn
      exact key5.out
  · intro wz p8 hHeld HS HP8 HR0 HR1
    refine wpAnyH_ready (rs := [5]) (by kernel_rfl) (by simp) ?_
    refine AllReadyH.cons rfl (fun K hK => ?_) AllReadyH.nil
    go_simp
    go_at_call 30
    refine (pick_lt _ _ _ _ _ HS.out.rd (by omega) (by omega)).mono ?_
    rintro e wn ⟨x5, rfl, hu, hv, h4, hg4⟩
    have HB5 := Lib.hid (And.intro hu hv)
    have hS1 : Blk wn w2.heap.size 26 #[.slice A2 n2 c2] ∧ Blk wn (w2.heap.size + 1) 28 #[.int .i64 a, .int .i64 b, .int .i64 h9] ∧ Blk wn p8 3 #[.int .i64 0, .int .i64 0, .int .i64 0, .int .i64 0, .int .i64 0, .int .i64 0, .int .i64 1, .int .i64 2, .int .i64 3] := ⟨Blk.grown (hHeld.1) hg4 (fun e => HV0.out.1 (Option.some.inj e)), Blk.grown (hHeld.2.1) hg4 (fun e => HV0.out.2.1 (Option.some.inj e)), Blk.grown (hHeld.2.2) hg4 (fun e => HP8.out.1 (Option.some.inj e))⟩
    replace HS := Lib.hid (HS.out.grown hg4 h4)
    replace HR0 := Lib.hid (Blk.grown HR0.out hg4 (fun e => by have := HS.out.far; have := Option.some.inj e; omega))
    replace HR1 := Lib.hid (Blk.grown HR1.out hg4 (fun e => by have := HS.out.far; have := Option.some.inj e; omega))
    clear hHeld
    clear hu hv h4 hg4
    refine hK.out _ _ hS1 (fun hX => ?_)
    clear hK K hX
    try simp only [Act.put, List.setIfInBounds_toArray, List.set_cons_zero, List.set_cons_succ]
    have hHeld := hS1
    clear hS1
    refine heldY 6 35 ?_
    revert HR1
    revert HR0
    revert HP8
    revert HB5
    revert HS
    revert hHeld
    revert p8
    revert x5
    revert wn
    exact key4.out
  · intro wz x5 p7 hHeld HS HB5 HP7 HR0 HR1
    refine wpAnyH_ready (rs := [8, 10]) (by kernel_rfl) (by simp) ?_
    refine AllReadyH.cons rfl (fun K hK => ?_) (AllReadyH.cons rfl (fun K hK => ?_) AllReadyH.nil)
    · go_simp
      have HP8 := Lib.hid HS.out.fresh
      have hB0 := Blk.new wz 3 #[.int .i64 0, .int .i64 0, .int .i64 0, .int .i64 0, .int .i64 0, .int .i64 0, .int .i64 1, .int .i64 2, .int .i64 3]
      have hS1 : Blk (World.alloc wz (.cells #[.int .i64 0, .int .i64 0, .int .i64 0, .int .i64 0, .int .i64 0, .int .i64 0, .int .i64 1, .int .i64 2, .int .i64 3] 3)) w2.heap.size 26 #[.slice A2 n2 c2] ∧ Blk (World.alloc wz (.cells #[.int .i64 0, .int .i64 0, .int .i64 0, .int .i64 0, .int .i64 0, .int .i64 0, .int .i64 1, .int .i64 2, .int .i64 3] 3)) (w2.heap.size + 1) 28 #[.int .i64 a, .int .i64 b, .int .i64 h9] ∧ Blk (World.alloc wz (.cells #[.int .i64 0, .int .i64 0, .int .i64 0, .int .i64 0, .int .i64 0, .int .i64 0, .int .i64 1, .int .i64 2, .int .i64 3] 3)) p7 3 #[.int .i64 (IntKind.i64.wrap (50 + x5)), .int .i64 1000000, .int .i64 0, .int .i64 1000001] := ⟨(hHeld.1).alloc (.cells #[.int .i64 0, .int .i64 0, .int .i64 0, .int .i64 0, .int .i64 0, .int .i64 0, .int .i64 1, .int .i64 2, .int .i64 3] 3), (hHeld.2.1).alloc (.cells #[.int .i64 0, .int .i64 0, .int .i64 0, .int .i64 0, .int .i64 0, .int .i64 0, .int .i64 1, .int .i64 2, .int .i64 3] 3), (hHeld.2.2).alloc (.cells #[.int .i64 0, .int .i64 0, .int .i64 0, .int .i64 0, .int .i64 0, .int .i64 0, .int .i64 1, .int .i64 2, .int .i64 3] 3)⟩
      replace HS := Lib.hid (HS.out.kept (grown_alloc (grown_refl wz none) (.cells #[.int .i64 0, .int .i64 0, .int .i64 0, .int .i64 0, .int .i64 0, .int .i64 0, .int .i64 1, .int .i64 2, .int .i64 3] 3)))
      replace HR0 := Lib.hid (HR0.out.alloc (.cells #[.int .i64 0, .int .i64 0, .int .i64 0, .int .i64 0, .int .i64 0, .int .i64 0, .int .i64 1, .int .i64 2, .int .i64 3] 3))
      replace HR1 := Lib.hid (HR1.out.alloc (.cells #[.int .i64 0, .int .i64 0, .int .i64 0, .int .i64 0, .int .i64 0, .int .i64 0, .int .i64 1, .int .i64 2, .int .i64 3] 3))
      clear hHeld
      refine hK.out _ _ hS1 (fun hX => ?_)
      clear hK K hX
      try simp only [Act.put, List.setIfInBounds_toArray, List.set_cons_zero, List.set_cons_succ]
      generalize wz.heap.size = p8 at HP8 hB0 ⊢
      generalize (World.alloc wz (.cells #[.int .i64 0, .int .i64 0, .int .i64 0, .int .i64 0, .int .i64 0, .int .i64 0, .int .i64 1, .int .i64 2, .int .i64 3] 3)) = wn at hS1 HS hB0 HR0 HR1 ⊢
      refine wpAnyH_to (S' := (fun w' => Blk w' w2.heap.size 26 #[.slice A2 n2 c2] ∧ Blk w' (w2.heap.size + 1) 28 #[.int .i64 a, .int .i64 b, .int .i64 h9] ∧ Blk w' p7 3 #[.int .i64 (IntKind.i64.wrap (50 + x5)), .int .i64 1000000, .int .i64 0, .int .i64 1000001] ∧ Blk w' p8 3 #[.int .i64 0, .int .i64 0, .int .i64 0, .int .i64 0, .int .i64 0, .int .i64 0, .int .i64 1, .int .i64 2, .int .i64 3])) (fun w' h => ⟨h.1, h.2.1, h.2.2.1⟩) _ _ _ _ ?_
      have hHeld : Blk wn w2.heap.size 26 #[.slice A2 n2 c2] ∧ Blk wn (w2.heap.size + 1) 28 #[.int .i64 a, .int .i64 b, .int .i64 h9] ∧ Blk wn p7 3 #[.int .i64 (IntKind.i64.wrap (50 + x5)), .int .i64 1000000, .int .i64 0, .int .i64 1000001] ∧ Blk wn p8 3 #[.int .i64 0, .int .i64 0, .int .i64 0, .int .i64 0, .int .i64 0, .int .i64 0, .int .i64 1, .int .i64 2, .int .i64 3] := ⟨hS1.1, hS1.2.1, hS1.2.2, hB0⟩
      clear hS1 hB0
      revert HR1
      revert HR0
      revert HP8
      revert HP7
      revert HB5
      revert HS
      revert hHeld
      revert p8
      revert p7
      revert x5
      revert wn
      exact key6.out
    · go_simp
      go_at_call 30
      refine (pick_lt _ _ _ _ _ HS.out.rd (by omega) (by omega)).mono ?_
      rintro e wn ⟨x0, rfl, hu, hv, h4, hg4⟩
      obtain ⟨y10, rfl⟩ := Int.eq_ofNat_of_zero_le hu
      have HB10 := Lib.hid (show y10 < 9 by omega)
      have hS1 : Blk wn w2.heap.size 26 #[.slice A2 n2 c2] ∧ Blk wn (w2.heap.size + 1) 28 #[.int .i64 a, .int .i64 b, .int .i64 h9] ∧ Blk wn p7 3 #[.int .i64 (IntKind.i64.wrap (50 + x5)), .int .i64 1000000, .int .i64 0, .int .i64 1000001] := ⟨Blk.grown (hHeld.1) hg4 (fun e => HV0.out.1 (Option.some.inj e)), Blk.grown (hHeld.2.1) hg4 (fun e => HV0.out.2.1 (Option.some.inj e)), Blk.grown (hHeld.2.2) hg4 (fun e => HP7.out.1 (Option.some.inj e))⟩
      replace HS := Lib.hid (HS.out.grown hg4 h4)
      replace HR0 := Lib.hid (Blk.grown HR0.out hg4 (fun e => by have := HS.out.far; have := Option.some.inj e; omega))
      replace HR1 := Lib.hid (Blk.grown HR1.out hg4 (fun e => by have := HS.out.far; have := Option.some.inj e; omega))
      clear hHeld
      clear hu hv h4 hg4
      refine hK.out _ _ hS1 (fun hX => ?_)
      clear hK K hX
      try simp only [Act.put, List.setIfInBounds_toArray, List.set_cons_zero, List.set_cons_succ]
      have hHeld := hS1
      clear hS1
      refine heldY 15 2 ?_
      revert HR1
      revert HR0
      revert HP7
      revert HB10
      revert HB5
      revert HS
      revert hHeld
      revert p7
      revert y10
      revert x5
      revert wn
      exact key7.out
  · intro wz x5 p8 hHeld HS HB5 HP8 HR0 HR1
    refine wpAnyH_ready (rs := [7, 10]) (by kernel_rfl) (by simp) ?_
    refine AllReadyH.cons rfl (fun K hK => ?_) (AllReadyH.cons rfl (fun K hK => ?_) AllReadyH.nil)
    · go_simp
      have HP7 := Lib.hid HS.out.fresh
      have hB0 := Blk.new wz 3 #[.int .i64 (IntKind.i64.wrap (50 + x5)), .int .i64 1000000, .int .i64 0, .int .i64 1000001]
      have hS1 : Blk (World.alloc wz (.cells #[.int .i64 (IntKind.i64.wrap (50 + x5)), .int .i64 1000000, .int .i64 0, .int .i64 1000001] 3)) w2.heap.size 26 #[.slice A2 n2 c2] ∧ Blk (World.alloc wz (.cells #[.int .i64 (IntKind.i64.wrap (50 + x5)), .int .i64 1000000, .int .i64 0, .int .i64 1000001] 3)) (w2.heap.size + 1) 28 #[.int .i64 a, .int .i64 b, .int .i64 h9] ∧ Blk (World.alloc wz (.cells #[.int .i64 (IntKind.i64.wrap (50 + x5)), .int .i64 1000000, .int .i64 0, .int .i64 1000001] 3)) p8 3 #[.int .i64 0, .int .i64 0, .int .i64 0, .int .i64 0, .int .i64 0, .int .i64 0, .int .i64 1, .int .i64 2, .int .i64 3] := ⟨(hHeld.1).alloc (.cells #[.int .i64 (IntKind.i64.wrap (50 + x5)), .int .i64 1000000, .int .i64 0, .int .i64 1000001] 3), (hHeld.2.1).alloc (.cells #[.int .i64 (IntKind.i64.wrap (50 + x5)), .int .i64 1000000, .int .i64 0, .int .i64 1000001] 3), (hHeld.2.2).alloc (.cells #[.int .i64 (IntKind.i64.wrap (50 + x5)), .int .i64 1000000, .int .i64 0, .int .i64 1000001] 3)⟩
      replace HS := Lib.hid (HS.out.kept (grown_alloc (grown_refl wz none) (.cells #[.int .i64 (IntKind.i64.wrap (50 + x5)), .int .i64 1000000, .int .i64 0, .int .i64 1000001] 3)))
      replace HR0 := Lib.hid (HR0.out.alloc (.cells #[.int .i64 (IntKind.i64.wrap (50 + x5)), .int .i64 1000000, .int .i64 0, .int .i64 1000001] 3))
      replace HR1 := Lib.hid (HR1.out.alloc (.cells #[.int .i64 (IntKind.i64.wrap (50 + x5)), .int .i64 1000000, .int .i64 0, .int .i64 1000001] 3))
      clear hHeld
      refine hK.out _ _ hS1 (fun hX => ?_)
      clear hK K hX
      try simp only [Act.put, List.setIfInBounds_toArray, List.set_cons_zero, List.set_cons_succ]
      generalize wz.heap.size = p7 at HP7 hB0 ⊢
      generalize (World.alloc wz (.cells #[.int .i64 (IntKind.i64.wrap (50 + x5)), .int .i64 1000000, .int .i64 0, .int .i64 1000001] 3)) = wn at hS1 HS hB0 HR0 HR1 ⊢
      refine wpAnyH_to (S' := (fun w' => Blk w' w2.heap.size 26 #[.slice A2 n2 c2] ∧ Blk w' (w2.heap.size + 1) 28 #[.int .i64 a, .int .i64 b, .int .i64 h9] ∧ Blk w' p7 3 #[.int .i64 (IntKind.i64.wrap (50 + x5)), .int .i64 1000000, .int .i64 0, .int .i64 1000001] ∧ Blk w' p8 3 #[.int .i64 0, .int .i64 0, .int .i64 0, .int .i64 0, .int .i64 0, .int .i64 0, .int .i64 1, .int .i64 2, .int .i64 3])) (fun w' h => ⟨h.1, h.2.1, h.2.2.2⟩) _ _ _ _ ?_
      have hHeld : Blk wn w2.heap.size 26 #[.slice A2 n2 c2] ∧ Blk wn (w2.heap.size + 1) 28 #[.int .i64 a, .int .i64 b, .int .i64 h9] ∧ Blk wn p7 3 #[.int .i64 (IntKind.i64.wrap (50 + x5)), .int .i64 1000000, .int .i64 0, .int .i64 1000001] ∧ Blk wn p8 3 #[.int .i64 0, .int .i64 0, .int .i64 0, .int .i64 0, .int .i64 0, .int .i64 0, .int .i64 1, .int .i64 2, .int .i64 3] := ⟨hS1.1, hS1.2.1, hB0, hS1.2.2⟩
      clear hS1 hB0
      revert HR1
      revert HR0
      revert HP8
      revert HP7
      revert HB5
      revert HS
      revert hHeld
      revert p8
      revert p7
      revert x5
      revert wn
      exact key6.out
    · go_simp
      go_at_call 30
      refine (pick_lt _ _ _ _ _ HS.out.rd (by omega) (by omega)).mono ?_
      rintro e wn ⟨x0, rfl, hu, hv, h4, hg4⟩
      obtain ⟨y10, rfl⟩ := Int.eq_ofNat_of_zero_le hu
      have HB10 := Lib.hid (show y10 < 9 by omega)
      have hS1 : Blk wn w2.heap.size 26 #[.slice A2 n2 c2] ∧ Blk wn (w2.heap.size + 1) 28 #[.int .i64 a, .int .i64 b, .int .i64 h9] ∧ Blk wn p8 3 #[.int .i64 0, .int .i64 0, .int .i64 0, .int .i64 0, .int .i64 0, .int .i64 0, .int .i64 1, .int .i64 2, .int .i64 3] := ⟨Blk.grown (hHeld.1) hg4 (fun e => HV0.out.1 (Option.some.inj e)), Blk.grown (hHeld.2.1) hg4 (fun e => HV0.out.2.1 (Option.some.inj e)), Blk.grown (hHeld.2.2) hg4 (fun e => HP8.out.1 (Option.some.inj e))⟩
      replace HS := Lib.hid (HS.out.grown hg4 h4)
      replace HR0 := Lib.hid (Blk.grown HR0.out hg4 (fun e => by have := HS.out.far; have := Option.some.inj e; omega))
      replace HR1 := Lib.hid (Blk.grown HR1.out hg4 (fun e => by have := HS.out.far; have := Option.some.inj e; omega))
      clear hHeld
      clear hu hv h4 hg4
      refine hK.out _ _ hS1 (fun hX => ?_)
      clear hK K hX
      try simp only [Act.put, List.setIfInBounds_toArray, List.set_cons_zero, List.set_cons_succ]
      have hHeld := hS1
      clear hS1
      have y0 : decide ((0 : Int) ≤ y10) = true := decide_eq_true (by omega)
      have y1 : (y10 : Int) < 9 := by have := HB10.out; omega
      refine heldY 11 40 ?_
      clear y0 y1
      obtain ⟨z12, hz12, hy12⟩ := litV9 y10 HB10.out
      have HZ12 := Lib.hid (And.intro hz12 hy12)
      clear hz12 hy12
      refine held_yes (i := 12) (d := some 41) (v := ?_) rfl rfl (by kernel_rfl) (by kernel_rfl) (by kernel_rfl) (fun _ _ _ h => h) (by rfl) ?_ (by assumption) ?_
      rotate_left
      · (intro w hSw; (try dsimp only at hSw); have e8 := (hSw.2.2.cell y10).trans HZ12.out.2; go_simp; (first | done | with_reducible rfl))
      try simp only [Act.put, List.setIfInBounds_toArray, List.set_cons_zero, List.set_cons_succ]
      refine heldY 15 2 ?_
      revert HR1
      revert HR0
      revert HZ12
      revert HP8
      revert HB10
      revert HB5
      revert HS
      revert hHeld
      revert z12
      revert p8
      revert y10
      revert x5
      revert wn
      exact key8.out
  · intro wz x5 y10 hHeld HS HB5 HB10 HR0 HR1
    refine wpAnyH_ready (rs := [7, 8, 16]) (by kernel_rfl) (by simp) ?_
    refine AllReadyH.cons rfl (fun K hK => ?_) (AllReadyH.cons rfl (fun K hK => ?_) (AllReadyH.cons rfl (fun K hK => ?_) AllReadyH.nil))
    · go_simp
      have HP7 := Lib.hid HS.out.fresh
      have hB0 := Blk.new wz 3 #[.int .i64 (IntKind.i64.wrap (50 + x5)), .int .i64 1000000, .int .i64 0, .int .i64 1000001]
      have hS1 : Blk (World.alloc wz (.cells #[.int .i64 (IntKind.i64.wrap (50 + x5)), .int .i64 1000000, .int .i64 0, .int .i64 1000001] 3)) w2.heap.size 26 #[.slice A2 n2 c2] ∧ Blk (World.alloc wz (.cells #[.int .i64 (IntKind.i64.wrap (50 + x5)), .int .i64 1000000, .int .i64 0, .int .i64 1000001] 3)) (w2.heap.size + 1) 28 #[.int .i64 a, .int .i64 b, .int .i64 h9] := ⟨(hHeld.1).alloc (.cells #[.int .i64 (IntKind.i64.wrap (50 + x5)), .int .i64 1000000, .int .i64 0, .int .i64 1000001] 3), (hHeld.2).alloc (.cells #[.int .i64 (IntKind.i64.wrap (50 + x5)), .int .i64 1000000, .int .i64 0, .int .i64 1000001] 3)⟩
      replace HS := Lib.hid (HS.out.kept (grown_alloc (grown_refl wz none) (.cells #[.int .i64 (IntKind.i64.wrap (50 + x5)), .int .i64 1000000, .int .i64 0, .int .i64 1000001] 3)))
      replace HR0 := Lib.hid (HR0.out.alloc (.cells #[.int .i64 (IntKind.i64.wrap (50 + x5)), .int .i64 1000000, .int .i64 0, .int .i64 1000001] 3))
      replace HR1 := Lib.hid (HR1.out.alloc (.cells #[.int .i64 (IntKind.i64.wrap (50 + x5)), .int .i64 1000000, .int .i64 0, .int .i64 1000001] 3))
      clear hHeld
      refine hK.out _ _ hS1 (fun hX => ?_)
      clear hK K hX
      try simp only [Act.put, List.setIfInBounds_toArray, List.set_cons_zero, List.set_cons_succ]
      generalize wz.heap.size = p7 at HP7 hB0 ⊢
      generalize (World.alloc wz (.cells #[.int .i64 (IntKind.i64.wrap (50 + x5)), .int .i64 1000000, .int .i64 0, .int .i64 1000001] 3)) = wn at hS1 HS hB0 HR0 HR1 ⊢
      refine wpAnyH_to (S' := (fun w' => Blk w' w2.heap.size 26 #[.slice A2 n2 c2] ∧ Blk w' (w2.heap.size + 1) 28 #[.int .i64 a, .int .i64 b, .int .i64 h9] ∧ Blk w' p7 3 #[.int .i64 (IntKind.i64.wrap (50 + x5)), .int .i64 1000000, .int .i64 0, .int .i64 1000001])) (fun w' h => ⟨h.1, h.2.1⟩) _ _ _ _ ?_
      have hHeld : Blk wn w2.heap.size 26 #[.slice A2 n2 c2] ∧ Blk wn (w2.heap.size + 1) 28 #[.int .i64 a, .int .i64 b, .int .i64 h9] ∧ Blk wn p7 3 #[.int .i64 (IntKind.i64.wrap (50 + x5)), .int .i64 1000000, .int .i64 0, .int .i64 1000001] := ⟨hS1.1, hS1.2, hB0⟩
      clear hS1 hB0
      revert HR1
      revert HR0
      revert HP7
      revert HB10
      revert HB5
      revert HS
      revert hHeld
      revert p7
      revert y10
      revert x5
      revert wn
      exact key7.out
    · go_simp
      have HP8 := Lib.hid HS.out.fresh
      have hB0 := Blk.new wz 3 #[.int .i64 0, .int .i64 0, .int .i64 0, .int .i64 0, .int .i64 0, .int .i64 0, .int .i64 1, .int .i64 2, .int .i64 3]
      have hS1 : Blk (World.alloc wz (.cells #[.int .i64 0, .int .i64 0, .int .i64 0, .int .i64 0, .int .i64 0, .int .i64 0, .int .i64 1, .int .i64 2, .int .i64 3] 3)) w2.heap.size 26 #[.slice A2 n2 c2] ∧ Blk (World.alloc wz (.cells #[.int .i64 0, .int .i64 0, .int .i64 0, .int .i64 0, .int .i64 0, .int .i64 0, .int .i64 1, .int .i64 2, .int .i64 3] 3)) (w2.heap.size + 1) 28 #[.int .i64 a, .int .i64 b, .int .i64 h9] := ⟨(hHeld.1).alloc (.cells #[.int .i64 0, .int .i64 0, .int .i64 0, .int .i64 0, .int .i64 0, .int .i64 0, .int .i64 1, .int .i64 2, .int .i64 3] 3), (hHeld.2).alloc (.cells #[.int .i64 0, .int .i64 0, .int .i64 0, .int .i64 0, .int .i64 0, .int .i64 0, .int .i64 1, .int .i64 2, .int .i64 3] 3)⟩
      replace HS := Lib.hid (HS.out.kept (grown_alloc (grown_refl wz none) (.cells #[.int .i64 0, .int .i64 0, .int .i64 0, .int .i64 0, .int .i64 0, .int .i64 0, .int .i64 1, .int .i64 2, .int .i64 3] 3)))
      replace HR0 := Lib.hid (HR0.out.alloc (.cells #[.int .i64 0, .int .i64 0, .int .i64 0, .int .i64 0, .int .i64 0, .int .i64 0, .int .i64 1, .int .i64 2, .int .i64 3] 3))
      replace HR1 := Lib.hid (HR1.out.alloc (.cells #[.int .i64 0, .int .i64 0, .int .i64 0, .int .i64 0, .int .i64 0, .int .i64 0, .int .i64 1, .int .i64 2, .int .i64 3] 3))
      clear hHeld
      refine hK.out _ _ hS1 (fun hX => ?_)
      clear hK K hX
      try simp only [Act.put, List.setIfInBounds_toArray, List.set_cons_zero, List.set_cons_succ]
      generalize wz.heap.size = p8 at HP8 hB0 ⊢
      generalize (World.alloc wz (.cells #[.int .i64 0, .int .i64 0, .int .i64 0, .int .i64 0, .int .i64 0, .int .i64 0, .int .i64 1, .int .i64 2, .int .i64 3] 3)) = wn at hS1 HS hB0 HR0 HR1 ⊢
      refine wpAnyH_to (S' := (fun w' => Blk w' w2.heap.size 26 #[.slice A2 n2 c2] ∧ Blk w' (w2.heap.size + 1) 28 #[.int .i64 a, .int .i64 b, .int .i64 h9] ∧ Blk w' p8 3 #[.int .i64 0, .int .i64 0, .int .i64 0, .int .i64 0, .int .i64 0, .int .i64 0, .int .i64 1, .int .i64 2, .int .i64 3])) (fun w' h => ⟨h.1, h.2.1⟩) _ _ _ _ ?_
      have hHeld : Blk wn w2.heap.size 26 #[.slice A2 n2 c2] ∧ Blk wn (w2.heap.size + 1) 28 #[.int .i64 a, .int .i64 b, .int .i64 h9] ∧ Blk wn p8 3 #[.int .i64 0, .int .i64 0, .int .i64 0, .int .i64 0, .int .i64 0, .int .i64 0, .int .i64 1, .int .i64 2, .int .i64 3] := ⟨hS1.1, hS1.2, hB0⟩
      clear hS1 hB0
      have y0 : decide ((0 : Int) ≤ y10) = true := decide_eq_true (by omega)
      have y1 : (y10 : Int) < 9 := by have := HB10.out; omega
      refine heldY 11 40 ?_
      clear y0 y1
      obtain ⟨z12, hz12, hy12⟩ := litV9 y10 HB10.out
      have HZ12 := Lib.hid (And.intro hz12 hy12)
      clear hz12 hy12
      refine held_yes (i := 12) (d := some 41) (v := ?_) rfl rfl (by kernel_rfl) (by kernel_rfl) (by kernel_rfl) (fun _ _ _ h => h) (by rfl) ?_ (by assumption) ?_
      rotate_left
      · (intro w hSw; (try dsimp only at hSw); have e8 := (hSw.2.2.cell y10).trans HZ12.out.2; go_simp; (first | done | with_reducible rfl))
      try simp only [Act.put, List.setIfInBounds_toArray, List.set_cons_zero, List.set_cons_succ]
      revert HR1
      revert HR0
      revert HZ12
      revert HP8
      revert HB10
      revert HB5
      revert HS
      revert hHeld
      revert z12
      revert p8
      revert y10
      revert x5
      revert wn
      exact key8.out
    · have r0 := HR0.out.cell 0
      have r1 := HR0.out.frozen 0
      go_simp
      have hS1 : Blk (World.setCell wz ⟨w.heap.size, 0, none⟩ (.slice A2 n2 c2)) w2.heap.size 26 #[.slice A2 n2 c2] ∧ Blk (World.setCell wz ⟨w.heap.size, 0, none⟩ (.slice A2 n2 c2)) (w2.heap.size + 1) 28 #[.int .i64 a, .int .i64 b, .int .i64 h9] := ⟨(hHeld.1.far (p := ⟨w.heap.size, 0, none⟩) (by have := HV0.out.2.2; dsimp only; omega) (.slice A2 n2 c2)), (hHeld.2.far (p := ⟨w.heap.size, 0, none⟩) (by have := HV0.out.2.2; dsimp only; omega) (.slice A2 n2 c2))⟩
      replace HS := Lib.hid (HS.out.put (p := ⟨w.heap.size, 0, none⟩) (.inl rfl) (.slice A2 n2 c2))
      replace HR0 := Lib.hid (show Blk (World.setCell wz ⟨w.heap.size, 0, none⟩ (.slice A2 n2 c2)) w.heap.size 26 #[.slice A2 n2 c2] from HR0.out.put 0 (.slice A2 n2 c2))
      replace HR1 := Lib.hid (HR1.out.far (p := ⟨w.heap.size, 0, none⟩) (by dsimp only; omega) (.slice A2 n2 c2))
      clear hHeld
      clear r0 r1
      refine hK.out _ _ hS1 (fun hX => ?_)
      clear hK K hX
      try simp only [Act.put, List.setIfInBounds_toArray, List.set_cons_zero, List.set_cons_succ]
      generalize (World.setCell wz ⟨w.heap.size, 0, none⟩ (.slice A2 n2 c2)) = wn at hS1 HS HR0 HR1 ⊢
      have hHeld := hS1
      clear hS1
      revert HR1
      revert HR0
      revert HB10
      revert HB5
      revert HS
      revert hHeld
      revert y10
      revert x5
      revert wn
      exact key9.out
  · intro wz x5 p7 p8 hHeld HS HB5 HP7 HP8 HR0 HR1
    refine wpAnyH_ready (rs := [10]) (by kernel_rfl) (by simp) ?_
    refine AllReadyH.cons rfl (fun K hK => ?_) AllReadyH.nil
    go_simp
    go_at_call 30
    refine (pick_lt _ _ _ _ _ HS.out.rd (by omega) (by omega)).mono ?_
    rintro e wn ⟨x0, rfl, hu, hv, h4, hg4⟩
    obtain ⟨y10, rfl⟩ := Int.eq_ofNat_of_zero_le hu
    have HB10 := Lib.hid (show y10 < 9 by omega)
    have hS1 : Blk wn w2.heap.size 26 #[.slice A2 n2 c2] ∧ Blk wn (w2.heap.size + 1) 28 #[.int .i64 a, .int .i64 b, .int .i64 h9] ∧ Blk wn p7 3 #[.int .i64 (IntKind.i64.wrap (50 + x5)), .int .i64 1000000, .int .i64 0, .int .i64 1000001] ∧ Blk wn p8 3 #[.int .i64 0, .int .i64 0, .int .i64 0, .int .i64 0, .int .i64 0, .int .i64 0, .int .i64 1, .int .i64 2, .int .i64 3] := ⟨Blk.grown (hHeld.1) hg4 (fun e => HV0.out.1 (Option.some.inj e)), Blk.grown (hHeld.2.1) hg4 (fun e => HV0.out.2.1 (Option.some.inj e)), Blk.grown (hHeld.2.2.1) hg4 (fun e => HP7.out.1 (Option.some.inj e)), Blk.grown (hHeld.2.2.2) hg4 (fun e => HP8.out.1 (Option.some.inj e))⟩
    replace HS := Lib.hid (HS.out.grown hg4 h4)
    replace HR0 := Lib.hid (Blk.grown HR0.out hg4 (fun e => by have := HS.out.far; have := Option.some.inj e; omega))
    replace HR1 := Lib.hid (Blk.grown HR1.out hg4 (fun e => by have := HS.out.far; have := Option.some.inj e; omega))
    clear hHeld
    clear hu hv h4 hg4
    refine hK.out _ _ hS1 (fun hX => ?_)
    clear hK K hX
    try simp only [Act.put, List.setIfInBounds_toArray, List.set_cons_zero, List.set_cons_succ]
    have hHeld := hS1
    clear hS1
    have y0 : decide ((0 : Int) ≤ y10) = true := decide_eq_true (by omega)
    have y1 : (y10 : Int) < 9 := by have := HB10.out; omega
    refine heldY 11 40 ?_
    clear y0 y1
    obtain ⟨z12, hz12, hy12⟩ := litV9 y10 HB10.out
    have HZ12 := Lib.hid (And.intro hz12 hy12)
    clear hz12 hy12
    refine held_yes (i := 12) (d := some 41) (v := ?_) rfl rfl (by kernel_rfl) (by kernel_rfl) (by kernel_rfl) (fun _ _ _ h => h) (by rfl) ?_ (by assumption) ?_
    rotate_left
    · (intro w hSw; (try dsimp only at hSw); have e8 := (hSw.2.2.2.cell y10).trans HZ12.out.2; go_simp; (first | done | with_reducible rfl))
    try simp only [Act.put, List.setIfInBounds_toArray, List.set_cons_zero, List.set_cons_succ]
    have y0 : decide ((0 : Int) ≤ z12) = true := decide_eq_true (by omega)
    have y1 : (z12 : Int) < 4 := by have := HZ12.out.1; omega
    refine heldY 13 42 ?_
    clear y0 y1
    obtain ⟨v14, hv14⟩ := litV4 z12 HZ12.out.1 (IntKind.i64.wrap (50 + x5)) 1000000 0 1000001
    have HZ14 := Lib.hid hv14
    clear hv14
    refine held_yes (i := 14) (d := some 43) (v := ?_) rfl rfl (by kernel_rfl) (by kernel_rfl) (by kernel_rfl) (fun _ _ _ h => h) (by rfl) ?_ (by assumption) ?_
    rotate_left
    · (intro w hSw; (try dsimp only at hSw); have e8 := (hSw.2.2.1.cell z12).trans HZ14.out; go_simp; (first | done | with_reducible rfl))
    try simp only [Act.put, List.setIfInBounds_toArray, List.set_cons_zero, List.set_cons_succ]
    refine heldY 15 2 ?_
    revert HR1
    revert HR0
    revert HZ14
    revert HZ12
    revert HP8
    revert HP7
    revert HB10
    revert HB5
    revert HS
    revert hHeld
    revert v14
    revert z12
    revert p8
    revert p7
    revert y10
    revert x5
    revert wn
    exact key10.out
  · intro wz x5 y10 p7 hHeld HS HB5 HB10 HP7 HR0 HR1
    refine wpAnyH_ready (rs := [8, 16]) (by kernel_rfl) (by simp) ?_
    refine AllReadyH.cons rfl (fun K hK => ?_) (AllReadyH.cons rfl (fun K hK => ?_) AllReadyH.nil)
    · go_simp
      have HP8 := Lib.hid HS.out.fresh
      have hB0 := Blk.new wz 3 #[.int .i64 0, .int .i64 0, .int .i64 0, .int .i64 0, .int .i64 0, .int .i64 0, .int .i64 1, .int .i64 2, .int .i64 3]
      have hS1 : Blk (World.alloc wz (.cells #[.int .i64 0, .int .i64 0, .int .i64 0, .int .i64 0, .int .i64 0, .int .i64 0, .int .i64 1, .int .i64 2, .int .i64 3] 3)) w2.heap.size 26 #[.slice A2 n2 c2] ∧ Blk (World.alloc wz (.cells #[.int .i64 0, .int .i64 0, .int .i64 0, .int .i64 0, .int .i64 0, .int .i64 0, .int .i64 1, .int .i64 2, .int .i64 3] 3)) (w2.heap.size + 1) 28 #[.int .i64 a, .int .i64 b, .int .i64 h9] ∧ Blk (World.alloc wz (.cells #[.int .i64 0, .int .i64 0, .int .i64 0, .int .i64 0, .int .i64 0, .int .i64 0, .int .i64 1, .int .i64 2, .int .i64 3] 3)) p7 3 #[.int .i64 (IntKind.i64.wrap (50 + x5)), .int .i64 1000000, .int .i64 0, .int .i64 1000001] := ⟨(hHeld.1).alloc (.cells #[.int .i64 0, .int .i64 0, .int .i64 0, .int .i64 0, .int .i64 0, .int .i64 0, .int .i64 1, .int .i64 2, .int .i64 3] 3), (hHeld.2.1).alloc (.cells #[.int .i64 0, .int .i64 0, .int .i64 0, .int .i64 0, .int .i64 0, .int .i64 0, .int .i64 1, .int .i64 2, .int .i64 3] 3), (hHeld.2.2).alloc (.cells #[.int .i64 0, .int .i64 0, .int .i64 0, .int .i64 0, .int .i64 0, .int .i64 0, .int .i64 1, .int .i64 2, .int .i64 3] 3)⟩
      replace HS := Lib.hid (HS.out.kept (grown_alloc (grown_refl wz none) (.cells #[.int .i64 0, .int .i64 0, .int .i64 0, .int .i64 0, .int .i64 0, .int .i64 0, .int .i64 1, .int .i64 2, .int .i64 3] 3)))
      replace HR0 := Lib.hid (HR0.out.alloc (.cells #[.int .i64 0, .int .i64 0, .int .i64 0, .int .i64 0, .int .i64 0, .int .i64 0, .int .i64 1, .int .i64 2, .int .i64 3] 3))
      replace HR1 := Lib.hid (HR1.out.alloc (.cells #[.int .i64 0, .int .i64 0, .int .i64 0, .int .i64 0, .int .i64 0, .int .i64 0, .int .i64 1, .int .i64 2, .int .i64 3] 3))
      clear hHeld
      refine hK.out _ _ hS1 (fun hX => ?_)
      clear hK K hX
      try simp only [Act.put, List.setIfInBounds_toArray, List.set_cons_zero, List.set_cons_succ]
      generalize wz.heap.size = p8 at HP8 hB0 ⊢
      generalize (World.alloc wz (.cells #[.int .i64 0, .int .i64 0, .int .i64 0, .int .i64 0, .int .i64 0, .int .i64 0, .int .i64 1, .int .i64 2, .int .i64 3] 3)) = wn at hS1 HS hB0 HR0 HR1 ⊢
      refine wpAnyH_to (S' := (fun w' => Blk w' w2.heap.size 26 #[.slice A2 n2 c2] ∧ Blk w' (w2.heap.size + 1) 28 #[.int .i64 a, .int .i64 b, .int .i64 h9] ∧ Blk w' p7 3 #[.int .i64 (IntKind.i64.wrap (50 + x5)), .int .i64 1000000, .int .i64 0, .int .i64 1000001] ∧ Blk w' p8 3 #[.int .i64 0, .int .i64 0, .int .i64 0, .int .i64 0, .int .i64 0, .int .i64 0, .int .i64 1, .int .i64 2, .int .i64 3])) (fun w' h => ⟨h.1, h.2.1, h.2.2.1⟩) _ _ _ _ ?_
      have hHeld : Blk wn w2.heap.size 26 #[.slice A2 n2 c2] ∧ Blk wn (w2.heap.size + 1) 28 #[.int .i64 a, .int .i64 b, .int .i64 h9] ∧ Blk wn p7 3 #[.int .i64 (IntKind.i64.wrap (50 + x5)), .int .i64 1000000, .int .i64 0, .int .i64 1000001] ∧ Blk wn p8 3 #[.int .i64 0, .int .i64 0, .int .i64 0, .int .i64 0, .int .i64 0, .int .i64 0, .int .i64 1, .int .i64 2, .int .i64 3] := ⟨hS1.1, hS1.2.1, hS1.2.2, hB0⟩
      clear hS1 hB0
      have y0 : decide ((0 : Int) ≤ y10) = true := decide_eq_true (by omega)
      have y1 : (y10 : Int) < 9 := by have := HB10.out; omega
      refine heldY 11 40 ?_
      clear y0 y1
      obtain ⟨z12, hz12, hy12⟩ := litV9 y10 HB10.out
      have HZ12 := Lib.hid (And.intro hz12 hy12)
      clear hz12 hy12
      refine held_yes (i := 12) (d := some 41) (v := ?_) rfl rfl (by kernel_rfl) (by kernel_rfl) (by kernel_rfl) (fun _ _ _ h => h) (by rfl) ?_ (by assumption) ?_
      rotate_left
      · (intro w hSw; (try dsimp only at hSw); have e8 := (hSw.2.2.2.cell y10).trans HZ12.out.2; go_simp; (first | done | with_reducible rfl))
      try simp only [Act.put, List.setIfInBounds_toArray, List.set_cons_zero, List.set_cons_succ]
      have y0 : decide ((0 : Int) ≤ z12) = true := decide_eq_true (by omega)
      have y1 : (z12 : Int) < 4 := by have := HZ12.out.1; omega
      refine heldY 13 42 ?_
      clear y0 y1
      obtain ⟨v14, hv14⟩ := litV4 z12 HZ12.out.1 (IntKind.i64.wrap (50 + x5)) 1000000 0 1000001
      have HZ14 := Lib.hid hv14
      clear hv14
      refine held_yes (i := 14) (d := some 43) (v := ?_) rfl rfl (by kernel_rfl) (by kernel_rfl) (by kernel_rfl) (fun _ _ _ h => h) (by rfl) ?_ (by assumption) ?_
      rotate_left
      · (intro w hSw; (try dsimp only at hSw); have e8 := (hSw.2.2.1.cell z12).trans HZ14.out; go_simp; (first | done | with_reducible rfl))
      try simp only [Act.put, List.setIfInBounds_toArray, List.set_cons_zero, List.set_cons_succ]
      revert HR1
      revert HR0
      revert HZ14
      revert HZ12
      revert HP8
      revert HP7
      revert HB10
      revert HB5
      revert HS
      revert hHeld
      revert v14
      revert z12
      revert p8
      revert p7
      revert y10
      revert x5
      revert wn
      exact key10.out
    · have r0 := HR0.out.cell 0
      have r1 := HR0.out.frozen 0
      go_simp
      have hS1 : Blk (World.setCell wz ⟨w.heap.size, 0, none⟩ (.slice A2 n2 c2)) w2.heap.size 26 #[.slice A2 n2 c2] ∧ Blk (World.setCell wz ⟨w.heap.size, 0, none⟩ (.slice A2 n2 c2)) (w2.heap.size + 1) 28 #[.int .i64 a, .int .i64 b, .int .i64 h9] ∧ Blk (World.setCell wz ⟨w.heap.size, 0, none⟩ (.slice A2 n2 c2)) p7 3 #[.int .i64 (IntKind.i64.wrap (50 + x5)), .int .i64 1000000, .int .i64 0, .int .i64 1000001] := ⟨(hHeld.1.far (p := ⟨w.heap.size, 0, none⟩) (by have := HV0.out.2.2; dsimp only; omega) (.slice A2 n2 c2)), (hHeld.2.1.far (p := ⟨w.heap.size, 0, none⟩) (by have := HV0.out.2.2; dsimp only; omega) (.slice A2 n2 c2)), (hHeld.2.2.far (p := ⟨w.heap.size, 0, none⟩) (by have := HP7.out.2; dsimp only; omega) (.slice A2 n2 c2))⟩
      replace HS := Lib.hid (HS.out.put (p := ⟨w.heap.size, 0, none⟩) (.inl rfl) (.slice A2 n2 c2))
      replace HR0 := Lib.hid (show Blk (World.setCell wz ⟨w.heap.size, 0, none⟩ (.slice A2 n2 c2)) w.heap.size 26 #[.slice A2 n2 c2] from HR0.out.put 0 (.slice A2 n2 c2))
      replace HR1 := Lib.hid (HR1.out.far (p := ⟨w.heap.size, 0, none⟩) (by dsimp only; omega) (.slice A2 n2 c2))
      clear hHeld
      clear r0 r1
      refine hK.out _ _ hS1 (fun hX => ?_)
      clear hK K hX
      try simp only [Act.put, List.setIfInBounds_toArray, List.set_cons_zero, List.set_cons_succ]
      generalize (World.setCell wz ⟨w.heap.size, 0, none⟩ (.slice A2 n2 c2)) = wn at hS1 HS HR0 HR1 ⊢
      have hHeld := hS1
      clear hS1
      revert HR1
      revert HR0
      revert HP7
      revert HB10
      revert HB5
      revert HS
      revert hHeld
      revert p7
      revert y10
      revert x5
      revert wn
      exact key11.out
  · intro wz x5 y10 p8 z12 hHeld HS HB5 HB10 HP8 HZ12 HR0 HR1
    refine wpAnyH_ready (rs := [7, 16]) (by kernel_rfl) (by simp) ?_
    refine AllReadyH.cons rfl (fun K hK => ?_) (AllReadyH.cons rfl (fun K hK => ?_) AllReadyH.nil)
    · go_simp
      have HP7 := Lib.hid HS.out.fresh
      have hB0 := Blk.new wz 3 #[.int .i64 (IntKind.i64.wrap (50 + x5)), .int .i64 1000000, .int .i64 0, .int .i64 1000001]
      have hS1 : Blk (World.alloc wz (.cells #[.int .i64 (IntKind.i64.wrap (50 + x5)), .int .i64 1000000, .int .i64 0, .int .i64 1000001] 3)) w2.heap.size 26 #[.slice A2 n2 c2] ∧ Blk (World.alloc wz (.cells #[.int .i64 (IntKind.i64.wrap (50 + x5)), .int .i64 1000000, .int .i64 0, .int .i64 1000001] 3)) (w2.heap.size + 1) 28 #[.int .i64 a, .int .i64 b, .int .i64 h9] ∧ Blk (World.alloc wz (.cells #[.int .i64 (IntKind.i64.wrap (50 + x5)), .int .i64 1000000, .int .i64 0, .int .i64 1000001] 3)) p8 3 #[.int .i64 0, .int .i64 0, .int .i64 0, .int .i64 0, .int .i64 0, .int .i64 0, .int .i64 1, .int .i64 2, .int .i64 3] := ⟨(hHeld.1).alloc (.cells #[.int .i64 (IntKind.i64.wrap (50 + x5)), .int .i64 1000000, .int .i64 0, .int .i64 1000001] 3), (hHeld.2.1).alloc (.cells #[.int .i64 (IntKind.i64.wrap (50 + x5)), .int .i64 1000000, .int .i64 0, .int .i64 1000001] 3), (hHeld.2.2).alloc (.cells #[.int .i64 (IntKind.i64.wrap (50 + x5)), .int .i64 1000000, .int .i64 0, .int .i64 1000001] 3)⟩
      replace HS := Lib.hid (HS.out.kept (grown_alloc (grown_refl wz none) (.cells #[.int .i64 (IntKind.i64.wrap (50 + x5)), .int .i64 1000000, .int .i64 0, .int .i64 1000001] 3)))
      replace HR0 := Lib.hid (HR0.out.alloc (.cells #[.int .i64 (IntKind.i64.wrap (50 + x5)), .int .i64 1000000, .int .i64 0, .int .i64 1000001] 3))
      replace HR1 := Lib.hid (HR1.out.alloc (.cells #[.int .i64 (IntKind.i64.wrap (50 + x5)), .int .i64 1000000, .int .i64 0, .int .i64 1000001] 3))
      clear hHeld
      refine hK.out _ _ hS1 (fun hX => ?_)
      clear hK K hX
      try simp only [Act.put, List.setIfInBounds_toArray, List.set_cons_zero, List.set_cons_succ]
      generalize wz.heap.size = p7 at HP7 hB0 ⊢
      generalize (World.alloc wz (.cells #[.int .i64 (IntKind.i64.wrap (50 + x5)), .int .i64 1000000, .int .i64 0, .int .i64 1000001] 3)) = wn at hS1 HS hB0 HR0 HR1 ⊢
      refine wpAnyH_to (S' := (fun w' => Blk w' w2.heap.size 26 #[.slice A2 n2 c2] ∧ Blk w' (w2.heap.size + 1) 28 #[.int .i64 a, .int .i64 b, .int .i64 h9] ∧ Blk w' p7 3 #[.int .i64 (IntKind.i64.wrap (50 + x5)), .int .i64 1000000, .int .i64 0, .int .i64 1000001] ∧ Blk w' p8 3 #[.int .i64 0, .int .i64 0, .int .i64 0, .int .i64 0, .int .i64 0, .int .i64 0, .int .i64 1, .int .i64 2, .int .i64 3])) (fun w' h => ⟨h.1, h.2.1, h.2.2.2⟩) _ _ _ _ ?_
      have hHeld : Blk wn w2.heap.size 26 #[.slice A2 n2 c2] ∧ Blk wn (w2.heap.size + 1) 28 #[.int .i64 a, .int .i64 b, .int .i64 h9] ∧ Blk wn p7 3 #[.int .i64 (IntKind.i64.wrap (50 + x5)), .int .i64 1000000, .int .i64 0, .int .i64 1000001] ∧ Blk wn p8 3 #[.int .i64 0, .int .i64 0, .int .i64 0, .int .i64 0, .int .i64 0, .int .i64 0, .int .i64 1, .int .i64 2, .int .i64 3] := ⟨hS1.1, hS1.2.1, hB0, hS1.2.2⟩
      clear hS1 hB0
      have y0 : decide ((0 : Int) ≤ z12) = true := decide_eq_true (by omega)
      have y1 : (z12 : Int) < 4 := by have := HZ12.out.1; omega
      refine heldY 13 42 ?_
      clear y0 y1
      obtain ⟨v14, hv14⟩ := litV4 z12 HZ12.out.1 (IntKind.i64.wrap (50 + x5)) 1000000 0 1000001
      have HZ14 := Lib.hid hv14
      clear hv14
      refine held_yes (i := 14) (d := some 43) (v := ?_) rfl rfl (by kernel_rfl) (by kernel_rfl) (by kernel_rfl) (fun _ _ _ h => h) (by rfl) ?_ (by assumption) ?_
      rotate_left
      · (intro w hSw; (try dsimp only at hSw); have e8 := (hSw.2.2.1.cell z12).trans HZ14.out; go_simp; (first | done | with_reducible rfl))
      try simp only [Act.put, List.setIfInBounds_toArray, List.set_cons_zero, List.set_cons_succ]
      revert HR1
      revert HR0
      revert HZ14
      revert HZ12
      revert HP8
      revert HP7
      revert HB10
      revert HB5
      revert HS
      revert hHeld
      revert v14
      revert z12
      revert p8
      revert p7
      revert y10
      revert x5
      revert wn
      exact key10.out
    · have r0 := HR0.out.cell 0
      have r1 := HR0.out.frozen 0
      go_simp
      have hS1 : Blk (World.setCell wz ⟨w.heap.size, 0, none⟩ (.slice A2 n2 c2)) w2.heap.size 26 #[.slice A2 n2 c2] ∧ Blk (World.setCell wz ⟨w.heap.size, 0, none⟩ (.slice A2 n2 c2)) (w2.heap.size + 1) 28 #[.int .i64 a, .int .i64 b, .int .i64 h9] ∧ Blk (World.setCell wz ⟨w.heap.size, 0, none⟩ (.slice A2 n2 c2)) p8 3 #[.int .i64 0, .int .i64 0, .int .i64 0, .int .i64 0, .int .i64 0, .int .i64 0, .int .i64 1, .int .i64 2, .int .i64 3] := ⟨(hHeld.1.far (p := ⟨w.heap.size, 0, none⟩) (by have := HV0.out.2.2; dsimp only; omega) (.slice A2 n2 c2)), (hHeld.2.1.far (p := ⟨w.heap.size, 0, none⟩) (by have := HV0.out.2.2; dsimp only; omega) (.slice A2 n2 c2)), (hHeld.2.2.far (p := ⟨w.heap.size, 0, none⟩) (by have := HP8.out.2; dsimp only; omega) (.slice A2 n2 c2))⟩
      replace HS := Lib.hid (HS.out.put (p := ⟨w.heap.size, 0, none⟩) (.inl rfl) (.slice A2 n2 c2))
      replace HR0 := Lib.hid (show Blk (World.setCell wz ⟨w.heap.size, 0, none⟩ (.slice A2 n2 c2)) w.heap.size 26 #[.slice A2 n2 c2] from HR0.out.put 0 (.slice A2 n2 c2))
      replace HR1 := Lib.hid (HR1.out.far (p := ⟨w.heap.size, 0, none⟩) (by dsimp only; omega) (.slice A2 n2 c2))
      clear hHeld
      clear r0 r1
      refine hK.out _ _ hS1 (fun hX => ?_)
      clear hK K hX
      try simp only [Act.put, List.setIfInBounds_toArray, List.set_cons_zero, List.set_cons_succ]
      generalize (World.setCell wz ⟨w.heap.size, 0, none⟩ (.slice A2 n2 c2)) = wn at hS1 HS HR0 HR1 ⊢
      have hHeld := hS1
      clear hS1
      revert HR1
      revert HR0
      revert HZ12
      revert HP8
      revert HB10
      revert HB5
      revert HS
      revert hHeld
      revert z12
      revert p8
      revert y10
      revert x5
      revert wn
      exact key12.out
  · intro wz x5 y10 hHeld HS HB5 HB10 HR0 HR1
    refine wpAnyH_ready (rs := [7, 8, 17]) (by kernel_rfl) (by simp) ?_
    refine AllReadyH.cons rfl (fun K hK => ?_) (AllReadyH.cons rfl (fun K hK => ?_) (AllReadyH.cons rfl (fun K hK => ?_) AllReadyH.nil))
    · go_simp
      have HP7 := Lib.hid HS.out.fresh
      have hB0 := Blk.new wz 3 #[.int .i64 (IntKind.i64.wrap (50 + x5)), .int .i64 1000000, .int .i64 0, .int .i64 1000001]
      have hS1 : Blk (World.alloc wz (.cells #[.int .i64 (IntKind.i64.wrap (50 + x5)), .int .i64 1000000, .int .i64 0, .int .i64 1000001] 3)) w2.heap.size 26 #[.slice A2 n2 c2] ∧ Blk (World.alloc wz (.cells #[.int .i64 (IntKind.i64.wrap (50 + x5)), .int .i64 1000000, .int .i64 0, .int .i64 1000001] 3)) (w2.heap.size + 1) 28 #[.int .i64 a, .int .i64 b, .int .i64 h9] := ⟨(hHeld.1).alloc (.cells #[.int .i64 (IntKind.i64.wrap (50 + x5)), .int .i64 1000000, .int .i64 0, .int .i64 1000001] 3), (hHeld.2).alloc (.cells #[.int .i64 (IntKind.i64.wrap (50 + x5)), .int .i64 1000000, .int .i64 0, .int .i64 1000001] 3)⟩
      replace HS := Lib.hid (HS.out.kept (grown_alloc (grown_refl wz none) (.cells #[.int .i64 (IntKind.i64.wrap (50 + x5)), .int .i64 1000000, .int .i64 0, .int .i64 1000001] 3)))
      replace HR0 := Lib.hid (HR0.out.alloc (.cells #[.int .i64 (IntKind.i64.wrap (50 + x5)), .int .i64 1000000, .int .i64 0, .int .i64 1000001] 3))
      replace HR1 := Lib.hid (HR1.out.alloc (.cells #[.int .i64 (IntKind.i64.wrap (50 + x5)), .int .i64 1000000, .int .i64 0, .int .i64 1000001] 3))
      clear hHeld
      refine hK.out _ _ hS1 (fun hX => ?_)
      clear hK K hX
      try simp only [Act.put, List.setIfInBounds_toArray, List.set_cons_zero, List.set_cons_succ]
      generalize wz.heap.size = p7 at HP7 hB0 ⊢
      generalize (World.alloc wz (.cells #[.int .i64 (IntKind.i64.wrap (50 + x5)), .int .i64 1000000, .int .i64 0, .int .i64 1000001] 3)) = wn at hS1 HS hB0 HR0 HR1 ⊢
      refine wpAnyH_to (S' := (fun w' => Blk w' w2.heap.size 26 #[.slice A2 n2 c2] ∧ Blk w' (w2.heap.size + 1) 28 #[.int .i64 a, .int .i64 b, .int .i64 h9] ∧ Blk w' p7 3 #[.int .i64 (IntKind.i64.wrap (50 + x5)), .int .i64 1000000, .int .i64 0, .int .i64 1000001])) (fun w' h => ⟨h.1, h.2.1⟩) _ _ _ _ ?_
      have hHeld : Blk wn w2.heap.size 26 #[.slice A2 n2 c2] ∧ Blk wn (w2.heap.size + 1) 28 #[.int .i64 a, .int .i64 b, .int .i64 h9] ∧ Blk wn p7 3 #[.int .i64 (IntKind.i64.wrap (50 + x5)), .int .i64 1000000, .int .i64 0, .int .i64 1000001] := ⟨hS1.1, hS1.2, hB0⟩
      clear hS1 hB0
      revert HR1
      revert HR0
      revert HP7
      revert HB10
      revert HB5
      revert HS
      revert hHeld
      revert p7
      revert y10
      revert x5
      revert wn
      exact key11.out
    · go_simp
      have HP8 := Lib.hid HS.out.fresh
      have hB0 := Blk.new wz 3 #[.int .i64 0, .int .i64 0, .int .i64 0, .int .i64 0, .int .i64 0, .int .i64 0, .int .i64 1, .int .i64 2, .int .i64 3]
      have hS1 : Blk (World.alloc wz (.cells #[.int .i64 0, .int .i64 0, .int .i64 0, .int .i64 0, .int .i64 0, .int .i64 0, .int .i64 1, .int .i64 2, .int .i64 3] 3)) w2.heap.size 26 #[.slice A2 n2 c2] ∧ Blk (World.alloc wz (.cells #[.int .i64 0, .int .i64 0, .int .i64 0, .int .i64 0, .int .i64 0, .int .i64 0, .int .i64 1, .int .i64 2, .int .i64 3] 3)) (w2.heap.size + 1) 28 #[.int .i64 a, .int .i64 b, .int .i64 h9] := ⟨(hHeld.1).alloc (.cells #[.int .i64 0, .int .i64 0, .int .i64 0, .int .i64 0, .int .i64 0, .int .i64 0, .int .i64 1, .int .i64 2, .int .i64 3] 3), (hHeld.2).alloc (.cells #[.int .i64 0, .int .i64 0, .int .i64 0, .int .i64 0, .int .i64 0, .int .i64 0, .int .i64 1, .int .i64 2, .int .i64 3] 3)⟩
      replace HS := Lib.hid (HS.out.kept (grown_alloc (grown_refl wz none) (.cells #[.int .i64 0, .int .i64 0, .int .i64 0, .int .i64 0, .int .i64 0, .int .i64 0, .int .i64 1, .int .i64 2, .int .i64 3] 3)))
      replace HR0 := Lib.hid (HR0.out.alloc (.cells #[.int .i64 0, .int .i64 0, .int .i64 0, .int .i64 0, .int .i64 0, .int .i64 0, .int .i64 1, .int .i64 2, .int .i64 3] 3))
      replace HR1 := Lib.hid (HR1.out.alloc (.cells #[.int .i64 0, .int .i64 0, .int .i64 0, .int .i64 0, .int .i64 0, .int .i64 0, .int .i64 1, .int .i64 2, .int .i64 3] 3))
      clear hHeld
      refine hK.out _ _ hS1 (fun hX => ?_)
      clear hK K hX
      try simp only [Act.put, List.setIfInBounds_toArray, List.set_cons_zero, List.set_cons_succ]
      generalize wz.heap.size = p8 at HP8 hB0 ⊢
      generalize (World.alloc wz (.cells #[.int .i64 0, .int .i64 0, .int .i64 0, .int .i64 0, .int .i64 0, .int .i64 0, .int .i64 1, .int .i64 2, .int .i64 3] 3)) = wn at hS1 HS hB0 HR0 HR1 ⊢
      refine wpAnyH_to (S' := (fun w' => Blk w' w2.heap.size 26 #[.slice A2 n2 c2] ∧ Blk w' (w2.heap.size + 1) 28 #[.int .i64 a, .int .i64 b, .int .i64 h9] ∧ Blk w' p8 3 #[.int .i64 0, .int .i64 0, .int .i64 0, .int .i64 0, .int .i64 0, .int .i64 0, .int .i64 1, .int .i64 2, .int .i64 3])) (fun w' h => ⟨h.1, h.2.1⟩) _ _ _ _ ?_
      have hHeld : Blk wn w2.heap.size 26 #[.slice A2 n2 c2] ∧ Blk wn (w2.heap.size + 1) 28 #[.int .i64 a, .int .i64 b, .int .i64 h9] ∧ Blk wn p8 3 #[.int .i64 0, .int .i64 0, .int .i64 0, .int .i64 0, .int .i64 0, .int .i64 0, .int .i64 1, .int .i64 2, .int .i64 3] := ⟨hS1.1, hS1.2, hB0⟩
      clear hS1 hB0
      have y0 : decide ((0 : Int) ≤ y10) = true := decide_eq_true (by omega)
      have y1 : (y10 : Int) < 9 := by have := HB10.out; omega
      refine heldY 11 40 ?_
      clear y0 y1
      obtain ⟨z12, hz12, hy12⟩ := litV9 y10 HB10.out
      have HZ12 := Lib.hid (And.intro hz12 hy12)
      clear hz12 hy12
      refine held_yes (i := 12) (d := some 41) (v := ?_) rfl rfl (by kernel_rfl) (by kernel_rfl) (by kernel_rfl) (fun _ _ _ h => h) (by rfl) ?_ (by assumption) ?_
      rotate_left
      · (intro w hSw; (try dsimp only at hSw); have e8 := (hSw.2.2.cell y10).trans HZ12.out.2; go_simp; (first | done | with_reducible rfl))
      try simp only [Act.put, List.setIfInBounds_toArray, List.set_cons_zero, List.set_cons_succ]
      revert HR1
      revert HR0
      revert HZ12
      revert HP8
      revert HB10
      revert HB5
      revert HS
      revert hHeld
      revert z12
      revert p8
      revert y10
      revert x5
      revert wn
      exact key12.out
    · have r0 := HR1.out.cell 0
      have r1 := HR1.out.cell 1
      have r2 := HR1.out.cell 2
      have f0 := HR1.out.frozen 0
      have f1 := HR1.out.frozen 1
      have f2 := HR1.out.frozen 2
      go_simp
      have hS1 : Blk (World.setCell (World.setCell (World.setCell wz ⟨w.heap.size + 1, 0, none⟩ (.int .i64 a)) ⟨w.heap.size + 1, 1, none⟩ (.int .i64 b)) ⟨w.heap.size + 1, 2, none⟩ (.int .i64 h9)) w2.heap.size 26 #[.slice A2 n2 c2] ∧ Blk (World.setCell (World.setCell (World.setCell wz ⟨w.heap.size + 1, 0, none⟩ (.int .i64 a)) ⟨w.heap.size + 1, 1, none⟩ (.int .i64 b)) ⟨w.heap.size + 1, 2, none⟩ (.int .i64 h9)) (w2.heap.size + 1) 28 #[.int .i64 a, .int .i64 b, .int .i64 h9] := ⟨(((hHeld.1.far (p := ⟨w.heap.size + 1, 0, none⟩) (by have := HV0.out.2.2; dsimp only; omega) (.int .i64 a)).far (p := ⟨w.heap.size + 1, 1, none⟩) (by have := HV0.out.2.2; dsimp only; omega) (.int .i64 b)).far (p := ⟨w.heap.size + 1, 2, none⟩) (by have := HV0.out.2.2; dsimp only; omega) (.int .i64 h9)), (((hHeld.2.far (p := ⟨w.heap.size + 1, 0, none⟩) (by have := HV0.out.2.2; dsimp only; omega) (.int .i64 a)).far (p := ⟨w.heap.size + 1, 1, none⟩) (by have := HV0.out.2.2; dsimp only; omega) (.int .i64 b)).far (p := ⟨w.heap.size + 1, 2, none⟩) (by have := HV0.out.2.2; dsimp only; omega) (.int .i64 h9))⟩
      replace HS := Lib.hid (((HS.out.put (p := ⟨w.heap.size + 1, 0, none⟩) (.inr rfl) (.int .i64 a)).put (p := ⟨w.heap.size + 1, 1, none⟩) (.inr rfl) (.int .i64 b)).put (p := ⟨w.heap.size + 1, 2, none⟩) (.inr rfl) (.int .i64 h9))
      replace HR0 := Lib.hid (((HR0.out.far (p := ⟨w.heap.size + 1, 0, none⟩) (by dsimp only; omega) (.int .i64 a)).far (p := ⟨w.heap.size + 1, 1, none⟩) (by dsimp only; omega) (.int .i64 b)).far (p := ⟨w.heap.size + 1, 2, none⟩) (by dsimp only; omega) (.int .i64 h9))
      replace HR1 := Lib.hid (show Blk (World.setCell (World.setCell (World.setCell wz ⟨w.heap.size + 1, 0, none⟩ (.int .i64 a)) ⟨w.heap.size + 1, 1, none⟩ (.int .i64 b)) ⟨w.heap.size + 1, 2, none⟩ (.int .i64 h9)) (w.heap.size + 1) 28 #[.int .i64 a, .int .i64 b, .int .i64 h9] from ((HR1.out.put 0 (.int .i64 a)).put 1 (.int .i64 b)).put 2 (.int .i64 h9))
      clear hHeld
      clear r0 r1 r2 f0 f1 f2
      refine hK.out _ _ hS1 (fun hX => ?_)
      clear hK K hX
      try simp only [Act.put, List.setIfInBounds_toArray, List.set_cons_zero, List.set_cons_succ]
      generalize (World.setCell (World.setCell (World.setCell wz ⟨w.heap.size + 1, 0, none⟩ (.int .i64 a)) ⟨w.heap.size + 1, 1, none⟩ (.int .i64 b)) ⟨w.heap.size + 1, 2, none⟩ (.int .i64 h9)) = wn at hS1 HS HR0 HR1 ⊢
      have hHeld := hS1
      clear hS1
      refine heldY 18 5 ?_
      revert HR1
      revert HR0
      revert HB10
      revert HB5
      revert HS
      revert hHeld
      revert y10
      revert x5
      revert wn
      exact key13.out
  · intro wz x5 y10 p7 p8 z12 v14 hHeld HS HB5 HB10 HP7 HP8 HZ12 HZ14 HR0 HR1
    refine wpAnyH_ready (rs := [16]) (by kernel_rfl) (by simp) ?_
    refine AllReadyH.cons rfl (fun K hK => ?_) AllReadyH.nil
    have r0 := HR0.out.cell 0
    have r1 := HR0.out.frozen 0
    go_simp
    have hS1 : Blk (World.setCell wz ⟨w.heap.size, 0, none⟩ (.slice A2 n2 c2)) w2.heap.size 26 #[.slice A2 n2 c2] ∧ Blk (World.setCell wz ⟨w.heap.size, 0, none⟩ (.slice A2 n2 c2)) (w2.heap.size + 1) 28 #[.int .i64 a, .int .i64 b, .int .i64 h9] ∧ Blk (World.setCell wz ⟨w.heap.size, 0, none⟩ (.slice A2 n2 c2)) p7 3 #[.int .i64 (IntKind.i64.wrap (50 + x5)), .int .i64 1000000, .int .i64 0, .int .i64 1000001] ∧ Blk (World.setCell wz ⟨w.heap.size, 0, none⟩ (.slice A2 n2 c2)) p8 3 #[.int .i64 0, .int .i64 0, .int .i64 0, .int .i64 0, .int .i64 0, .int .i64 0, .int .i64 1, .int .i64 2, .int .i64 3] := ⟨(hHeld.1.far (p := ⟨w.heap.size, 0, none⟩) (by have := HV0.out.2.2; dsimp only; omega) (.slice A2 n2 c2)), (hHeld.2.1.far (p := ⟨w.heap.size, 0, none⟩) (by have := HV0.out.2.2; dsimp only; omega) (.slice A2 n2 c2)), (hHeld.2.2.1.far (p := ⟨w.heap.size, 0, none⟩) (by have := HP7.out.2; dsimp only; omega) (.slice A2 n2 c2)), (hHeld.2.2.2.far (p := ⟨w.heap.size, 0, none⟩) (by have := HP8.out.2; dsimp only; omega) (.slice A2 n2 c2))⟩
    replace HS := Lib.hid (HS.out.put (p := ⟨w.heap.size, 0, none⟩) (.inl rfl) (.slice A2 n2 c2))
    replace HR0 := Lib.hid (show Blk (World.setCell wz ⟨w.heap.size, 0, none⟩ (.slice A2 n2 c2)) w.heap.size 26 #[.slice A2 n2 c2] from HR0.out.put 0 (.slice A2 n2 c2))
    replace HR1 := Lib.hid (HR1.out.far (p := ⟨w.heap.size, 0, none⟩) (by dsimp only; omega) (.slice A2 n2 c2))
    clear hHeld
    clear r0 r1
    refine hK.out _ _ hS1 (fun hX => ?_)
    clear hK K hX
    try simp only [Act.put, List.setIfInBounds_toArray, List.set_cons_zero, List.set_cons_succ]
    generalize (World.setCell wz ⟨w.heap.size, 0, none⟩ (.slice A2 n2 c2)) = wn at hS1 HS HR0 HR1 ⊢
    have hHeld := hS1
    clear hS1
    revert HR1
    revert HR0
    revert HZ14
    revert HZ12
    revert HP8
    revert HP7
    revert HB10
    revert HB5
    revert HS
    revert hHeld
    revert v14
    revert z12
    revert p8
    revert p7
    revert y10
    revert x5
    revert wn
    exact key14.out
  · intro wz x5 y10 p7 hHeld HS HB5 HB10 HP7 HR0 HR1
    refine wpAnyH_ready (rs := [8, 17]) (by kernel_rfl) (by simp) ?_
    refine AllReadyH.cons rfl (fun K hK => ?_) (AllReadyH.cons rfl (fun K hK => ?_) AllReadyH.nil)
    · go_simp
      have HP8 := Lib.hid HS.out.fresh
      have hB0 := Blk.new wz 3 #[.int .i64 0, .int .i64 0, .int .i64 0, .int .i64 0, .int .i64 0, .int .i64 0, .int .i64 1, .int .i64 2, .int .i64 3]
      have hS1 : Blk (World.alloc wz (.cells #[.int .i64 0, .int .i64 0, .int .i64 0, .int .i64 0, .int .i64 0, .int .i64 0, .int .i64 1, .int .i64 2, .int .i64 3] 3)) w2.heap.size 26 #[.slice A2 n2 c2] ∧ Blk (World.alloc wz (.cells #[.int .i64 0, .int .i64 0, .int .i64 0, .int .i64 0, .int .i64 0, .int .i64 0, .int .i64 1, .int .i64 2, .int .i64 3] 3)) (w2.heap.size + 1) 28 #[.int .i64 a, .int .i64 b, .int .i64 h9] ∧ Blk (World.alloc wz (.cells #[.int .i64 0, .int .i64 0, .int .i64 0, .int .i64 0, .int .i64 0, .int .i64 0, .int .i64 1, .int .i64 2, .int .i64 3] 3)) p7 3 #[.int .i64 (IntKind.i64.wrap (50 + x5)), .int .i64 1000000, .int .i64 0, .int .i64 1000001] := ⟨(hHeld.1).alloc (.cells #[.int .i64 0, .int .i64 0, .int .i64 0, .int .i64 0, .int .i64 0, .int .i64 0, .int .i64 1, .int .i64 2, .int .i64 3] 3), (hHeld.2.1).alloc (.cells #[.int .i64 0, .int .i64 0, .int .i64 0, .int .i64 0, .int .i64 0, .int .i64 0, .int .i64 1, .int .i64 2, .int .i64 3] 3), (hHeld.2.2).alloc (.cells #[.int .i64 0, .int .i64 0, .int .i64 0, .int .i64 0, .int .i64 0, .int .i64 0, .int .i64 1, .int .i64 2, .int .i64 3] 3)⟩
      replace HS := Lib.hid (HS.out.kept (grown_alloc (grown_refl wz none) (.cells #[.int .i64 0, .int .i64 0, .int .i64 0, .int .i64 0, .int .i64 0, .int .i64 0, .int .i64 1, .int .i64 2, .int .i64 3] 3)))
      replace HR0 := Lib.hid (HR0.out.alloc (.cells #[.int .i64 0, .int .i64 0, .int .i64 0, .int .i64 0, .int .i64 0, .int .i64 0, .int .i64 1, .int .i64 2, .int .i64 3] 3))
      replace HR1 := Lib.hid (HR1.out.alloc (.cells #[.int .i64 0, .int .i64 0, .int .i64 0, .int .i64 0, .int .i64 0, .int .i64 0, .int .i64 1, .int .i64 2, .int .i64 3] 3))
      clear hHeld
      refine hK.out _ _ hS1 (fun hX => ?_)
      clear hK K hX
      try simp only [Act.put, List.setIfInBounds_toArray, List.set_cons_zero, List.set_cons_succ]
      generalize wz.heap.size = p8 at HP8 hB0 ⊢
      generalize (World.alloc wz (.cells #[.int .i64 0, .int .i64 0, .int .i64 0, .int .i64 0, .int .i64 0, .int .i64 0, .int .i64 1, .int .i64 2, .int .i64 3] 3)) = wn at hS1 HS hB0 HR0 HR1 ⊢
      refine wpAnyH_to (S' := (fun w' => Blk w' w2.heap.size 26 #[.slice A2 n2 c2] ∧ Blk w' (w2.heap.size + 1) 28 #[.int .i64 a, .int .i64 b, .int .i64 h9] ∧ Blk w' p7 3 #[.int .i64 (IntKind.i64.wrap (50 + x5)), .int .i64 1000000, .int .i64 0, .int .i64 1000001] ∧ Blk w' p8 3 #[.int .i64 0, .int .i64 0, .int .i64 0, .int .i64 0, .int .i64 0, .int .i64 0, .int .i64 1, .int .i64 2, .int .i64 3])) (fun w' h => ⟨h.1, h.2.1, h.2.2.1⟩) _ _ _ _ ?_
      have hHeld : Blk wn w2.heap.size 26 #[.slice A2 n2 c2] ∧ Blk wn (w2.heap.size + 1) 28 #[.int .i64 a, .int .i64 b, .int .i64 h9] ∧ Blk wn p7 3 #[.int .i64 (IntKind.i64.wrap (50 + x5)), .int .i64 1000000, .int .i64 0, .int .i64 1000001] ∧ Blk wn p8 3 #[.int .i64 0, .int .i64 0, .int .i64 0, .int .i64 0, .int .i64 0, .int .i64 0, .int .i64 1, .int .i64 2, .int .i64 3] := ⟨hS1.1, hS1.2.1, hS1.2.2, hB0⟩
      clear hS1 hB0
      have y0 : decide ((0 : Int) ≤ y10) = true := decide_eq_true (by omega)
      have y1 : (y10 : Int) < 9 := by have := HB10.out; omega
      refine heldY 11 40 ?_
      clear y0 y1
      obtain ⟨z12, hz12, hy12⟩ := litV9 y10 HB10.out
      have HZ12 := Lib.hid (And.intro hz12 hy12)
      clear hz12 hy12
      refine held_yes (i := 12) (d := some 41) (v := ?_) rfl rfl (by kernel_rfl) (by kernel_rfl) (by kernel_rfl) (fun _ _ _ h => h) (by rfl) ?_ (by assumption) ?_
      rotate_left
      · (intro w hSw; (try dsimp only at hSw); have e8 := (hSw.2.2.2.cell y10).trans HZ12.out.2; go_simp; (first | done | with_reducible rfl))
      try simp only [Act.put, List.setIfInBounds_toArray, List.set_cons_zero, List.set_cons_succ]
      have y0 : decide ((0 : Int) ≤ z12) = true := decide_eq_true (by omega)
      have y1 : (z12 : Int) < 4 := by have := HZ12.out.1; omega
      refine heldY 13 42 ?_
      clear y0 y1
      obtain ⟨v14, hv14⟩ := litV4 z12 HZ12.out.1 (IntKind.i64.wrap (50 + x5)) 1000000 0 1000001
      have HZ14 := Lib.hid hv14
      clear hv14
      refine held_yes (i := 14) (d := some 43) (v := ?_) rfl rfl (by kernel_rfl) (by kernel_rfl) (by kernel_rfl) (fun _ _ _ h => h) (by rfl) ?_ (by assumption) ?_
      rotate_left
      · (intro w hSw; (try dsimp only at hSw); have e8 := (hSw.2.2.1.cell z12).trans HZ14.out; go_simp; (first | done | with_reducible rfl))
      try simp only [Act.put, List.setIfInBounds_toArray, List.set_cons_zero, List.set_cons_succ]
      revert HR1
      revert HR0
      revert HZ14
      revert HZ12
      revert HP8
      revert HP7
      revert HB10
      revert HB5
      revert HS
      revert hHeld
      revert v14
      revert z12
      revert p8
      revert p7
      revert y10
      revert x5
      revert wn
      exact key14.out
    · have r0 := HR1.out.cell 0
      have r1 := HR1.out.cell 1
      have r2 := HR1.out.cell 2
      have f0 := HR1.out.frozen 0
      have f1 := HR1.out.frozen 1
      have f2 := HR1.out.frozen 2
      go_simp
      have hS1 : Blk (World.setCell (World.setCell (World.setCell wz ⟨w.heap.size + 1, 0, none⟩ (.int .i64 a)) ⟨w.heap.size + 1, 1, none⟩ (.int .i64 b)) ⟨w.heap.size + 1, 2, none⟩ (.int .i64 h9)) w2.heap.size 26 #[.slice A2 n2 c2] ∧ Blk (World.setCell (World.setCell (World.setCell wz ⟨w.heap.size + 1, 0, none⟩ (.int .i64 a)) ⟨w.heap.size + 1, 1, none⟩ (.int .i64 b)) ⟨w.heap.size + 1, 2, none⟩ (.int .i64 h9)) (w2.heap.size + 1) 28 #[.int .i64 a, .int .i64 b, .int .i64 h9] ∧ Blk (World.setCell (World.setCell (World.setCell wz ⟨w.heap.size + 1, 0, none⟩ (.int .i64 a)) ⟨w.heap.size + 1, 1, none⟩ (.int .i64 b)) ⟨w.heap.size + 1, 2, none⟩ (.int .i64 h9)) p7 3 #[.int .i64 (IntKind.i64.wrap (50 + x5)), .int .i64 1000000, .int .i64 0, .int .i64 1000001] := ⟨(((hHeld.1.far (p := ⟨w.heap.size + 1, 0, none⟩) (by have := HV0.out.2.2; dsimp only; omega) (.int .i64 a)).far (p := ⟨w.heap.size + 1, 1, none⟩) (by have := HV0.out.2.2; dsimp only; omega) (.int .i64 b)).far (p := ⟨w.heap.size + 1, 2, none⟩) (by have := HV0.out.2.2; dsimp only; omega) (.int .i64 h9)), (((hHeld.2.1.far (p := ⟨w.heap.size + 1, 0, none⟩) (by have := HV0.out.2.2; dsimp only; omega) (.int .i64 a)).far (p := ⟨w.heap.size + 1, 1, none⟩) (by have := HV0.out.2.2; dsimp only; omega) (.int .i64 b)).far (p := ⟨w.heap.size + 1, 2, none⟩) (by have := HV0.out.2.2; dsimp only; omega) (.int .i64 h9)), (((hHeld.2.2.far (p := ⟨w.heap.size + 1, 0, none⟩) (by have := HP7.out.2; dsimp only; omega) (.int .i64 a)).far (p := ⟨w.heap.size + 1, 1, none⟩) (by have := HP7.out.2; dsimp only; omega) (.int .i64 b)).far (p := ⟨w.heap.size + 1, 2, none⟩) (by have := HP7.out.2; dsimp only; omega) (.int .i64 h9))⟩
      replace HS := Lib.hid (((HS.out.put (p := ⟨w.heap.size + 1, 0, none⟩) (.inr rfl) (.int .i64 a)).put (p := ⟨w.heap.size + 1, 1, none⟩) (.inr rfl) (.int .i64 b)).put (p := ⟨w.heap.size + 1, 2, none⟩) (.inr rfl) (.int .i64 h9))
      replace HR0 := Lib.hid (((HR0.out.far (p := ⟨w.heap.size + 1, 0, none⟩) (by dsimp only; omega) (.int .i64 a)).far (p := ⟨w.heap.size + 1, 1, none⟩) (by dsimp only; omega) (.int .i64 b)).far (p := ⟨w.heap.size + 1, 2, none⟩) (by dsimp only; omega) (.int .i64 h9))
      replace HR1 := Lib.hid (show Blk (World.setCell (World.setCell (World.setCell wz ⟨w.heap.size + 1, 0, none⟩ (.int .i64 a)) ⟨w.heap.size + 1, 1, none⟩ (.int .i64 b)) ⟨w.heap.size + 1, 2, none⟩ (.int .i64 h9)) (w.heap.size + 1) 28 #[.int .i64 a, .int .i64 b, .int .i64 h9] from ((HR1.out.put 0 (.int .i64 a)).put 1 (.int .i64 b)).put 2 (.int .i64 h9))
      clear hHeld
      clear r0 r1 r2 f0 f1 f2
      refine hK.out _ _ hS1 (fun hX => ?_)
      clear hK K hX
      try simp only [Act.put, List.setIfInBounds_toArray, List.set_cons_zero, List.set_cons_succ]
      generalize (World.setCell (World.setCell (World.setCell wz ⟨w.heap.size + 1, 0, none⟩ (.int .i64 a)) ⟨w.heap.size + 1, 1, none⟩ (.int .i64 b)) ⟨w.heap.size + 1, 2, none⟩ (.int .i64 h9)) = wn at hS1 HS HR0 HR1 ⊢
      have hHeld := hS1
      clear hS1
      refine heldY 18 5 ?_
      revert HR1
      revert HR0
      revert HP7
      revert HB10
      revert HB5
      revert HS
      revert hHeld
      revert p7
      revert y10
      revert x5
      revert wn
      exact key15.out
  · intro wz x5 y10 p8 z12 hHeld HS HB5 HB10 HP8 HZ12 HR0 HR1
    refine wpAnyH_ready (rs := [7, 17]) (by kernel_rfl) (by simp) ?_
    refine AllReadyH.cons rfl (fun K hK => ?_) (AllReadyH.cons rfl (fun K hK => ?_) AllReadyH.nil)
    · go_simp
      have HP7 := Lib.hid HS.out.fresh
      have hB0 := Blk.new wz 3 #[.int .i64 (IntKind.i64.wrap (50 + x5)), .int .i64 1000000, .int .i64 0, .int .i64 1000001]
      have hS1 : Blk (World.alloc wz (.cells #[.int .i64 (IntKind.i64.wrap (50 + x5)), .int .i64 1000000, .int .i64 0, .int .i64 1000001] 3)) w2.heap.size 26 #[.slice A2 n2 c2] ∧ Blk (World.alloc wz (.cells #[.int .i64 (IntKind.i64.wrap (50 + x5)), .int .i64 1000000, .int .i64 0, .int .i64 1000001] 3)) (w2.heap.size + 1) 28 #[.int .i64 a, .int .i64 b, .int .i64 h9] ∧ Blk (World.alloc wz (.cells #[.int .i64 (IntKind.i64.wrap (50 + x5)), .int .i64 1000000, .int .i64 0, .int .i64 1000001] 3)) p8 3 #[.int .i64 0, .int .i64 0, .int .i64 0, .int .i64 0, .int .i64 0, .int .i64 0, .int .i64 1, .int .i64 2, .int .i64 3] := ⟨(hHeld.1).alloc (.cells #[.int .i64 (IntKind.i64.wrap (50 + x5)), .int .i64 1000000, .int .i64 0, .int .i64 1000001] 3), (hHeld.2.1).alloc (.cells #[.int .i64 (IntKind.i64.wrap (50 + x5)), .int .i64 1000000, .int .i64 0, .int .i64 1000001] 3), (hHeld.2.2).alloc (.cells #[.int .i64 (IntKind.i64.wrap (50 + x5)), .int .i64 1000000, .int .i64 0, .int .i64 1000001] 3)⟩
      replace HS := Lib.hid (HS.out.kept (grown_alloc (grown_refl wz none) (.cells #[.int .i64 (IntKind.i64.wrap (50 + x5)), .int .i64 1000000, .int .i64 0, .int .i64 1000001] 3)))
      replace HR0 := Lib.hid (HR0.out.alloc (.cells #[.int .i64 (IntKind.i64.wrap (50 + x5)), .int .i64 1000000, .int .i64 0, .int .i64 1000001] 3))
      replace HR1 := Lib.hid (HR1.out.alloc (.cells #[.int .i64 (IntKind.i64.wrap (50 + x5)), .int .i64 1000000, .int .i64 0, .int .i64 1000001] 3))
      clear hHeld
      refine hK.out _ _ hS1 (fun hX => ?_)
      clear hK K hX
      try simp only [Act.put, List.setIfInBounds_toArray, List.set_cons_zero, List.set_cons_succ]
      generalize wz.heap.size = p7 at HP7 hB0 ⊢
      generalize (World.alloc wz (.cells #[.int .i64 (IntKind.i64.wrap (50 + x5)), .int .i64 1000000, .int .i64 0, .int .i64 1000001] 3)) = wn at hS1 HS hB0 HR0 HR1 ⊢
      refine wpAnyH_to (S' := (fun w' => Blk w' w2.heap.size 26 #[.slice A2 n2 c2] ∧ Blk w' (w2.heap.size + 1) 28 #[.int .i64 a, .int .i64 b, .int .i64 h9] ∧ Blk w' p7 3 #[.int .i64 (IntKind.i64.wrap (50 + x5)), .int .i64 1000000, .int .i64 0, .int .i64 1000001] ∧ Blk w' p8 3 #[.int .i64 0, .int .i64 0, .int .i64 0, .int .i64 0, .int .i64 0, .int .i64 0, .int .i64 1, .int .i64 2, .int .i64 3])) (fun w' h => ⟨h.1, h.2.1, h.2.2.2⟩) _ _ _ _ ?_
      have hHeld : Blk wn w2.heap.size 26 #[.slice A2 n2 c2] ∧ Blk wn (w2.heap.size + 1) 28 #[.int .i64 a, .int .i64 b, .int .i64 h9] ∧ Blk wn p7 3 #[.int .i64 (IntKind.i64.wrap (50 + x5)), .int .i64 1000000, .int .i64 0, .int .i64 1000001] ∧ Blk wn p8 3 #[.int .i64 0, .int .i64 0, .int .i64 0, .int .i64 0, .int .i64 0, .int .i64 0, .int .i64 1, .int .i64 2, .int .i64 3] := ⟨hS1.1, hS1.2.1, hB0, hS1.2.2⟩
      clear hS1 hB0
      have y0 : decide ((0 : Int) ≤ z12) = true := decide_eq_true (by omega)
      have y1 : (z12 : Int) < 4 := by have := HZ12.out.1; omega
      refine heldY 13 42 ?_
      clear y0 y1
      obtain ⟨v14, hv14⟩ := litV4 z12 HZ12.out.1 (IntKind.i64.wrap (50 + x5)) 1000000 0 1000001
      have HZ14 := Lib.hid hv14
      clear hv14
      refine held_yes (i := 14) (d := some 43) (v := ?_) rfl rfl (by kernel_rfl) (by kernel_rfl) (by kernel_rfl) (fun _ _ _ h => h) (by rfl) ?_ (by assumption) ?_
      rotate_left
      · (intro w hSw; (try dsimp only at hSw); have e8 := (hSw.2.2.1.cell z12).trans HZ14.out; go_simp; (first | done | with_reducible rfl))
      try simp only [Act.put, List.setIfInBounds_toArray, List.set_cons_zero, List.set_cons_succ]
      revert HR1
      revert HR0
      revert HZ14
      revert HZ12
      revert HP8
      revert HP7
      revert HB10
      revert HB5
      revert HS
      revert hHeld
      revert v14
      revert z12
      revert p8
      revert p7
      revert y10
      revert x5
      revert wn
      exact key14.out
    · have r0 := HR1.out.cell 0
      have r1 := HR1.out.cell 1
      have r2 := HR1.out.cell 2
      have f0 := HR1.out.frozen 0
      have f1 := HR1.out.frozen 1
      have f2 := HR1.out.frozen 2
      go_simp
      have hS1 : Blk (World.setCell (World.setCell (World.setCell wz ⟨w.heap.size + 1, 0, none⟩ (.int .i64 a)) ⟨w.heap.size + 1, 1, none⟩ (.int .i64 b)) ⟨w.heap.size + 1, 2, none⟩ (.int .i64 h9)) w2.heap.size 26 #[.slice A2 n2 c2] ∧ Blk (World.setCell (World.setCell (World.setCell wz ⟨w.heap.size + 1, 0, none⟩ (.int .i64 a)) ⟨w.heap.size + 1, 1, none⟩ (.int .i64 b)) ⟨w.heap.size + 1, 2, none⟩ (.int .i64 h9)) (w2.heap.size + 1) 28 #[.int .i64 a, .int .i64 b, .int .i64 h9] ∧ Blk (World.setCell (World.setCell (World.setCell wz ⟨w.heap.size + 1, 0, none⟩ (.int .i64 a)) ⟨w.heap.size + 1, 1, none⟩ (.int .i64 b)) ⟨w.heap.size + 1, 2, none⟩ (.int .i64 h9)) p8 3 #[.int .i64 0, .int .i64 0, .int .i64 0, .int .i64 0, .int .i64 0, .int .i64 0, .int .i64 1, .int .i64 2, .int .i64 3] := ⟨(((hHeld.1.far (p := ⟨w.heap.size + 1, 0, none⟩) (by have := HV0.out.2.2; dsimp only; omega) (.int .i64 a)).far (p := ⟨w.heap.size + 1, 1, none⟩) (by have := HV0.out.2.2; dsimp only; omega) (.int .i64 b)).far (p := ⟨w.heap.size + 1, 2, none⟩) (by have := HV0.out.2.2; dsimp only; omega) (.int .i64 h9)), (((hHeld.2.1.far (p := ⟨w.heap.size + 1, 0, none⟩) (by have := HV0.out.2.2; dsimp only; omega) (.int .i64 a)).far (p := ⟨w.heap.size + 1, 1, none⟩) (by have := HV0.out.2.2; dsimp only; omega) (.int .i64 b)).far (p := ⟨w.heap.size + 1, 2, none⟩) (by have := HV0.out.2.2; dsimp only; omega) (.int .i64 h9)), (((hHeld.2.2.far (p := ⟨w.heap.size + 1, 0, none⟩) (by have := HP8.out.2; dsimp only; omega) (.int .i64 a)).far (p := ⟨w.heap.size + 1, 1, none⟩) (by have := HP8.out.2; dsimp only; omega) (.int .i64 b)).far (p := ⟨w.heap.size + 1, 2, none⟩) (by have := HP8.out.2; dsimp only; omega) (.int .i64 h9))⟩
      replace HS := Lib.hid (((HS.out.put (p := ⟨w.heap.size + 1, 0, none⟩) (.inr rfl) (.int .i64 a)).put (p := ⟨w.heap.size + 1, 1, none⟩) (.inr rfl) (.int .i64 b)).put (p := ⟨w.heap.size + 1, 2, none⟩) (.inr rfl) (.int .i64 h9))
      replace HR0 := Lib.hid (((HR0.out.far (p := ⟨w.heap.size + 1, 0, none⟩) (by dsimp only; omega) (.int .i64 a)).far (p := ⟨w.heap.size + 1, 1, none⟩) (by dsimp only; omega) (.int .i64 b)).far (p := ⟨w.heap.size + 1, 2, none⟩) (by dsimp only; omega) (.int .i64 h9))
      replace HR1 := Lib.hid (show Blk (World.setCell (World.setCell (World.setCell wz ⟨w.heap.size + 1, 0, none⟩ (.int .i64 a)) ⟨w.heap.size + 1, 1, none⟩ (.int .i64 b)) ⟨w.heap.size + 1, 2, none⟩ (.int .i64 h9)) (w.heap.size + 1) 28 #[.int .i64 a, .int .i64 b, .int .i64 h9] from ((HR1.out.put 0 (.int .i64 a)).put 1 (.int .i64 b)).put 2 (.int .i64 h9))
      clear hHeld
      clear r0 r1 r2 f0 f1 f2
      refine hK.out _ _ hS1 (fun hX => ?_)
      clear hK K hX
      try simp only [Act.put, List.setIfInBounds_toArray, List.set_cons_zero, List.set_cons_succ]
      generalize (World.setCell (World.setCell (World.setCell wz ⟨w.heap.size + 1, 0, none⟩ (.int .i64 a)) ⟨w.heap.size + 1, 1, none⟩ (.int .i64 b)) ⟨w.heap.size + 1, 2, none⟩ (.int .i64 h9)) = wn at hS1 HS HR0 HR1 ⊢
      have hHeld := hS1
      clear hS1
      refine heldY 18 5 ?_
      revert HR1
      revert HR0
      revert HZ12
      revert HP8
      revert HB10
      revert HB5
      revert HS
      revert hHeld
      revert z12
      revert p8
      revert y10
      revert x5
      revert wn
      exact key16.out
  · intro wz x5 y10 hHeld HS HB5 HB10 HR0 HR1
    refine wpAnyH_ready (rs := [7, 8]) (by kernel_rfl) (by simp) ?_
    refine AllReadyH.cons rfl (fun K hK => ?_) (AllReadyH.cons rfl (fun K hK => ?_) AllReadyH.nil)
    · go_simp
      have HP7 := Lib.hid HS.out.fresh
      have hB0 := Blk.new wz 3 #[.int .i64 (IntKind.i64.wrap (50 + x5)), .int .i64 1000000, .int .i64 0, .int .i64 1000001]
      have hS1 : Blk (World.alloc wz (.cells #[.int .i64 (IntKind.i64.wrap (50 + x5)), .int .i64 1000000, .int .i64 0, .int .i64 1000001] 3)) w2.heap.size 26 #[.slice A2 n2 c2] ∧ Blk (World.alloc wz (.cells #[.int .i64 (IntKind.i64.wrap (50 + x5)), .int .i64 1000000, .int .i64 0, .int .i64 1000001] 3)) (w2.heap.size + 1) 28 #[.int .i64 a, .int .i64 b, .int .i64 h9] := ⟨(hHeld.1).alloc (.cells #[.int .i64 (IntKind.i64.wrap (50 + x5)), .int .i64 1000000, .int .i64 0, .int .i64 1000001] 3), (hHeld.2).alloc (.cells #[.int .i64 (IntKind.i64.wrap (50 + x5)), .int .i64 1000000, .int .i64 0, .int .i64 1000001] 3)⟩
      replace HS := Lib.hid (HS.out.kept (grown_alloc (grown_refl wz none) (.cells #[.int .i64 (IntKind.i64.wrap (50 + x5)), .int .i64 1000000, .int .i64 0, .int .i64 1000001] 3)))
      replace HR0 := Lib.hid (HR0.out.alloc (.cells #[.int .i64 (IntKind.i64.wrap (50 + x5)), .int .i64 1000000, .int .i64 0, .int .i64 1000001] 3))
      replace HR1 := Lib.hid (HR1.out.alloc (.cells #[.int .i64 (IntKind.i64.wrap (50 + x5)), .int .i64 1000000, .int .i64 0, .int .i64 1000001] 3))
      clear hHeld
      refine hK.out _ _ hS1 (fun hX => ?_)
      clear hK K hX
      try simp only [Act.put, List.setIfInBounds_toArray, List.set_cons_zero, List.set_cons_succ]
      generalize wz.heap.size = p7 at HP7 hB0 ⊢
      generalize (World.alloc wz (.cells #[.int .i64 (IntKind.i64.wrap (50 + x5)), .int .i64 1000000, .int .i64 0, .int .i64 1000001] 3)) = wn at hS1 HS hB0 HR0 HR1 ⊢
      refine wpAnyH_to (S' := (fun w' => Blk w' w2.heap.size 26 #[.slice A2 n2 c2] ∧ Blk w' (w2.heap.size + 1) 28 #[.int .i64 a, .int .i64 b, .int .i64 h9] ∧ Blk w' p7 3 #[.int .i64 (IntKind.i64.wrap (50 + x5)), .int .i64 1000000, .int .i64 0, .int .i64 1000001])) (fun w' h => ⟨h.1, h.2.1⟩) _ _ _ _ ?_
      have hHeld : Blk wn w2.heap.size 26 #[.slice A2 n2 c2] ∧ Blk wn (w2.heap.size + 1) 28 #[.int .i64 a, .int .i64 b, .int .i64 h9] ∧ Blk wn p7 3 #[.int .i64 (IntKind.i64.wrap (50 + x5)), .int .i64 1000000, .int .i64 0, .int .i64 1000001] := ⟨hS1.1, hS1.2, hB0⟩
      clear hS1 hB0
      revert HR1
      revert HR0
      revert HP7
      revert HB10
      revert HB5
      revert HS
      revert hHeld
      revert p7
      revert y10
      revert x5
      revert wn
      exact key15.out
    · go_simp
      have HP8 := Lib.hid HS.out.fresh
      have hB0 := Blk.new wz 3 #[.int .i64 0, .int .i64 0, .int .i64 0, .int .i64 0, .int .i64 0, .int .i64 0, .int .i64 1, .int .i64 2, .int .i64 3]
      have hS1 : Blk (World.alloc wz (.cells #[.int .i64 0, .int .i64 0, .int .i64 0, .int .i64 0, .int .i64 0, .int .i64 0, .int .i64 1, .int .i64 2, .int .i64 3] 3)) w2.heap.size 26 #[.slice A2 n2 c2] ∧ Blk (World.alloc wz (.cells #[.int .i64 0, .int .i64 0, .int .i64 0, .int .i64 0, .int .i64 0, .int .i64 0, .int .i64 1, .int .i64 2, .int .i64 3] 3)) (w2.heap.size + 1) 28 #[.int .i64 a, .int .i64 b, .int .i64 h9] := ⟨(hHeld.1).alloc (.cells #[.int .i64 0, .int .i64 0, .int .i64 0, .int .i64 0, .int .i64 0, .int .i64 0, .int .i64 1, .int .i64 2, .int .i64 3] 3), (hHeld.2).alloc (.cells #[.int .i64 0, .int .i64 0, .int .i64 0, .int .i64 0, .int .i64 0, .int .i64 0, .int .i64 1, .int .i64 2, .int .i64 3] 3)⟩
      replace HS := Lib.hid (HS.out.kept (grown_alloc (grown_refl wz none) (.cells #[.int .i64 0, .int .i64 0, .int .i64 0, .int .i64 0, .int .i64 0, .int .i64 0, .int .i64 1, .int .i64 2, .int .i64 3] 3)))
      replace HR0 := Lib.hid (HR0.out.alloc (.cells #[.int .i64 0, .int .i64 0, .int .i64 0, .int .i64 0, .int .i64 0, .int .i64 0, .int .i64 1, .int .i64 2, .int .i64 3] 3))
      replace HR1 := Lib.hid (HR1.out.alloc (.cells #[.int .i64 0, .int .i64 0, .int .i64 0, .int .i64 0, .int .i64 0, .int .i64 0, .int .i64 1, .int .i64 2, .int .i64 3] 3))
      clear hHeld
      refine hK.out _ _ hS1 (fun hX => ?_)
      clear hK K hX
      try simp only [Act.put, List.setIfInBounds_toArray, List.set_cons_zero, List.set_cons_succ]
      generalize wz.heap.size = p8 at HP8 hB0 ⊢
      generalize (World.alloc wz (.cells #[.int .i64 0, .int .i64 0, .int .i64 0, .int .i64 0, .int .i64 0, .int .i64 0, .int .i64 1, .int .i64 2, .int .i64 3] 3)) = wn at hS1 HS hB0 HR0 HR1 ⊢
      refine wpAnyH_to (S' := (fun w' => Blk w' w2.heap.size 26 #[.slice A2 n2 c2] ∧ Blk w' (w2.heap.size + 1) 28 #[.int .i64 a, .int .i64 b, .int .i64 h9] ∧ Blk w' p8 3 #[.int .i64 0, .int .i64 0, .int .i64 0, .int .i64 0, .int .i64 0, .int .i64 0, .int .i64 1, .int .i64 2, .int .i64 3])) (fun w' h => ⟨h.1, h.2.1⟩) _ _ _ _ ?_
      have hHeld : Blk wn w2.heap.size 26 #[.slice A2 n2 c2] ∧ Blk wn (w2.heap.size + 1) 28 #[.int .i64 a, .int .i64 b, .int .i64 h9] ∧ Blk wn p8 3 #[.int .i64 0, .int .i64 0, .int .i64 0, .int .i64 0, .int .i64 0, .int .i64 0, .int .i64 1, .int .i64 2, .int .i64 3] := ⟨hS1.1, hS1.2, hB0⟩
      clear hS1 hB0
      have y0 : decide ((0 : Int) ≤ y10) = true := decide_eq_true (by omega)
      have y1 : (y10 : Int) < 9 := by have := HB10.out; omega
      refine heldY 11 40 ?_
      clear y0 y1
      obtain ⟨z12, hz12, hy12⟩ := litV9 y10 HB10.out
      have HZ12 := Lib.hid (And.intro hz12 hy12)
      clear hz12 hy12
      refine held_yes (i := 12) (d := some 41) (v := ?_) rfl rfl (by kernel_rfl) (by kernel_rfl) (by kernel_rfl) (fun _ _ _ h => h) (by rfl) ?_ (by assumption) ?_
      rotate_left
      · (intro w hSw; (try dsimp only at hSw); have e8 := (hSw.2.2.cell y10).trans HZ12.out.2; go_simp; (first | done | with_reducible rfl))
      try simp only [Act.put, List.setIfInBounds_toArray, List.set_cons_zero, List.set_cons_succ]
      revert HR1
      revert HR0
      revert HZ12
      revert HP8
      revert HB10
      revert HB5
      revert HS
      revert hHeld
      revert z12
      revert p8
      revert y10
      revert x5
      revert wn
      exact key16.out
  · intro wz x5 y10 p7 p8 z12 v14 hHeld HS HB5 HB10 HP7 HP8 HZ12 HZ14 HR0 HR1
    refine wpAnyH_ready (rs := [17]) (by kernel_rfl) (by simp) ?_
    refine AllReadyH.cons rfl (fun K hK => ?_) AllReadyH.nil
    have r0 := HR1.out.cell 0
    have r1 := HR1.out.cell 1
    have r2 := HR1.out.cell 2
    have f0 := HR1.out.frozen 0
    have f1 := HR1.out.frozen 1
    have f2 := HR1.out.frozen 2
    go_simp
    have hS1 : Blk (World.setCell (World.setCell (World.setCell wz ⟨w.heap.size + 1, 0, none⟩ (.int .i64 a)) ⟨w.heap.size + 1, 1, none⟩ (.int .i64 b)) ⟨w.heap.size + 1, 2, none⟩ (.int .i64 h9)) w2.heap.size 26 #[.slice A2 n2 c2] ∧ Blk (World.setCell (World.setCell (World.setCell wz ⟨w.heap.size + 1, 0, none⟩ (.int .i64 a)) ⟨w.heap.size + 1, 1, none⟩ (.int .i64 b)) ⟨w.heap.size + 1, 2, none⟩ (.int .i64 h9)) (w2.heap.size + 1) 28 #[.int .i64 a, .int .i64 b, .int .i64 h9] ∧ Blk (World.setCell (World.setCell (World.setCell wz ⟨w.heap.size + 1, 0, none⟩ (.int .i64 a)) ⟨w.heap.size + 1, 1, none⟩ (.int .i64 b)) ⟨w.heap.size + 1, 2, none⟩ (.int .i64 h9)) p7 3 #[.int .i64 (IntKind.i64.wrap (50 + x5)), .int .i64 1000000, .int .i64 0, .int .i64 1000001] ∧ Blk (World.setCell (World.setCell (World.setCell wz ⟨w.heap.size + 1, 0, none⟩ (.int .i64 a)) ⟨w.heap.size + 1, 1, none⟩ (.int .i64 b)) ⟨w.heap.size + 1, 2, none⟩ (.int .i64 h9)) p8 3 #[.int .i64 0, .int .i64 0, .int .i64 0, .int .i64 0, .int .i64 0, .int .i64 0, .int .i64 1, .int .i64 2, .int .i64 3] := ⟨(((hHeld.1.far (p := ⟨w.heap.size + 1, 0, none⟩) (by have := HV0.out.2.2; dsimp only; omega) (.int .i64 a)).far (p := ⟨w.heap.size + 1, 1, none⟩) (by have := HV0.out.2.2; dsimp only; omega) (.int .i64 b)).far (p := ⟨w.heap.size + 1, 2, none⟩) (by have := HV0.out.2.2; dsimp only; omega) (.int .i64 h9)), (((hHeld.2.1.far (p := ⟨w.heap.size + 1, 0, none⟩) (by have := HV0.out.2.2; dsimp only; omega) (.int .i64 a)).far (p := ⟨w.heap.size + 1, 1, none⟩) (by have := HV0.out.2.2; dsimp only; omega) (.int .i64 b)).far (p := ⟨w.heap.size + 1, 2, none⟩) (by have := HV0.out.2.2; dsimp only; omega) (.int .i64 h9)), (((hHeld.2.2.1.far (p := ⟨w.heap.size + 1, 0, none⟩) (by have := HP7.out.2; dsimp only; omega) (.int .i64 a)).far (p := ⟨w.heap.size + 1, 1, none⟩) (by have := HP7.out.2; dsimp only; omega) (.int .i64 b)).far (p := ⟨w.heap.size + 1, 2, none⟩) (by have := HP7.out.2; dsimp only; omega) (.int .i64 h9)), (((hHeld.2.2.2.far (p := ⟨w.heap.size + 1, 0, none⟩) (by have := HP8.out.2; dsimp only; omega) (.int .i64 a)).far (p := ⟨w.heap.size + 1, 1, none⟩) (by have := HP8.out.2; dsimp only; omega) (.int .i64 b)).far (p := ⟨w.heap.size + 1, 2, none⟩) (by have := HP8.out.2; dsimp only; omega) (.int .i64 h9))⟩
    replace HS := Lib.hid (((HS.out.put (p := ⟨w.heap.size + 1, 0, none⟩) (.inr rfl) (.int .i64 a)).put (p := ⟨w.heap.size + 1, 1, none⟩) (.inr rfl) (.int .i64 b)).put (p := ⟨w.heap.size + 1, 2, none⟩) (.inr rfl) (.int .i64 h9))
    replace HR0 := Lib.hid (((HR0.out.far (p := ⟨w.heap.size + 1, 0, none⟩) (by dsimp only; omega) (.int .i64 a)).far (p := ⟨w.heap.size + 1, 1, none⟩) (by dsimp only; omega) (.int .i64 b)).far (p := ⟨w.heap.size + 1, 2, none⟩) (by dsimp only; omega) (.int .i64 h9))
    replace HR1 := Lib.hid (show Blk (World.setCell (World.setCell (World.setCell wz ⟨w.heap.size + 1, 0, none⟩ (.int .i64 a)) ⟨w.heap.size + 1, 1, none⟩ (.int .i64 b)) ⟨w.heap.size + 1, 2, none⟩ (.int .i64 h9)) (w.heap.size + 1) 28 #[.int .i64 a, .int .i64 b, .int .i64 h9] from ((HR1.out.put 0 (.int .i64 a)).put 1 (.int .i64 b)).put 2 (.int .i64 h9))
    clear hHeld
    clear r0 r1 r2 f0 f1 f2
    refine hK.out _ _ hS1 (fun hX => ?_)
    clear hK K hX
    try simp only [Act.put, List.setIfInBounds_toArray, List.set_cons_zero, List.set_cons_succ]
    generalize (World.setCell (World.setCell (World.setCell wz ⟨w.heap.size + 1, 0, none⟩ (.int .i64 a)) ⟨w.heap.size + 1, 1, none⟩ (.int .i64 b)) ⟨w.heap.size + 1, 2, none⟩ (.int .i64 h9)) = wn at hS1 HS HR0 HR1 ⊢
    have hHeld := hS1
    clear hS1
    refine heldY 18 5 ?_
    refine heldY 19 6 ?_
    revert HR1
    revert HR0
    revert HZ14
    revert HZ12
    revert HP8
    revert HP7
    revert HB10
    revert HB5
    revert HS
    revert hHeld
    revert v14
    revert z12
    revert p8
    revert p7
    revert y10
    revert x5
    revert wn
    exact key17.out
  · intro wz x5 y10 p7 hHeld HS HB5 HB10 HP7 HR0 HR1
    refine wpAnyH_ready (rs := [8]) (by kernel_rfl) (by simp) ?_
    refine AllReadyH.cons rfl (fun K hK => ?_) AllReadyH.nil
    go_simp
    have HP8 := Lib.hid HS.out.fresh
    have hB0 := Blk.new wz 3 #[.int .i64 0, .int .i64 0, .int .i64 0, .int .i64 0, .int .i64 0, .int .i64 0, .int .i64 1, .int .i64 2, .int .i64 3]
    have hS1 : Blk (World.alloc wz (.cells #[.int .i64 0, .int .i64 0, .int .i64 0, .int .i64 0, .int .i64 0, .int .i64 0, .int .i64 1, .int .i64 2, .int .i64 3] 3)) w2.heap.size 26 #[.slice A2 n2 c2] ∧ Blk (World.alloc wz (.cells #[.int .i64 0, .int .i64 0, .int .i64 0, .int .i64 0, .int .i64 0, .int .i64 0, .int .i64 1, .int .i64 2, .int .i64 3] 3)) (w2.heap.size + 1) 28 #[.int .i64 a, .int .i64 b, .int .i64 h9] ∧ Blk (World.alloc wz (.cells #[.int .i64 0, .int .i64 0, .int .i64 0, .int .i64 0, .int .i64 0, .int .i64 0, .int .i64 1, .int .i64 2, .int .i64 3] 3)) p7 3 #[.int .i64 (IntKind.i64.wrap (50 + x5)), .int .i64 1000000, .int .i64 0, .int .i64 1000001] := ⟨(hHeld.1).alloc (.cells #[.int .i64 0, .int .i64 0, .int .i64 0, .int .i64 0, .int .i64 0, .int .i64 0, .int .i64 1, .int .i64 2, .int .i64 3] 3), (hHeld.2.1).alloc (.cells #[.int .i64 0, .int .i64 0, .int .i64 0, .int .i64 0, .int .i64 0, .int .i64 0, .int .i64 1, .int .i64 2, .int .i64 3] 3), (hHeld.2.2).alloc (.cells #[.int .i64 0, .int .i64 0, .int .i64 0, .int .i64 0, .int .i64 0, .int .i64 0, .int .i64 1, .int .i64 2, .int .i64 3] 3)⟩
    replace HS := Lib.hid (HS.out.kept (grown_alloc (grown_refl wz none) (.cells #[.int .i64 0, .int .i64 0, .int .i64 0, .int .i64 0, .int .i64 0, .int .i64 0, .int .i64 1, .int .i64 2, .int .i64 3] 3)))
    replace HR0 := Lib.hid (HR0.out.alloc (.cells #[.int .i64 0, .int .i64 0, .int .i64 0, .int .i64 0, .int .i64 0, .int .i64 0, .int .i64 1, .int .i64 2, .int .i64 3] 3))
    replace HR1 := Lib.hid (HR1.out.alloc (.cells #[.int .i64 0, .int .i64 0, .int .i64 0, .int .i64 0, .int .i64 0, .int .i64 0, .int .i64 1, .int .i64 2, .int .i64 3] 3))
    clear hHeld
    refine hK.out _ _ hS1 (fun hX => ?_)
    clear hK K hX
    try simp only [Act.put, List.setIfInBounds_toArray, List.set_cons_zero, List.set_cons_succ]
    generalize wz.heap.size = p8 at HP8 hB0 ⊢
    generalize (World.alloc wz (.cells #[.int .i64 0, .int .i64 0, .int .i64 0, .int .i64 0, .int .i64 0, .int .i64 0, .int .i64 1, .int .i64 2, .int .i64 3] 3)) = wn at hS1 HS hB0 HR0 HR1 ⊢
    refine wpAnyH_to (S' := (fun w' => Blk w' w2.heap.size 26 #[.slice A2 n2 c2] ∧ Blk w' (w2.heap.size + 1) 28 #[.int .i64 a, .int .i64 b, .int .i64 h9] ∧ Blk w' p7 3 #[.int .i64 (IntKind.i64.wrap (50 + x5)), .int .i64 1000000, .int .i64 0, .int .i64 1000001] ∧ Blk w' p8 3 #[.int .i64 0, .int .i64 0, .int .i64 0, .int .i64 0, .int .i64 0, .int .i64 0, .int .i64 1, .int .i64 2, .int .i64 3])) (fun w' h => ⟨h.1, h.2.1, h.2.2.1⟩) _ _ _ _ ?_
    have hHeld : Blk wn w2.heap.size 26 #[.slice A2 n2 c2] ∧ Blk wn (w2.heap.size + 1) 28 #[.int .i64 a, .int .i64 b, .int .i64 h9] ∧ Blk wn p7 3 #[.int .i64 (IntKind.i64.wrap (50 + x5)), .int .i64 1000000, .int .i64 0, .int .i64 1000001] ∧ Blk wn p8 3 #[.int .i64 0, .int .i64 0, .int .i64 0, .int .i64 0, .int .i64 0, .int .i64 0, .int .i64 1, .int .i64 2, .int .i64 3] := ⟨hS1.1, hS1.2.1, hS1.2.2, hB0⟩
    clear hS1 hB0
    have y0 : decide ((0 : Int) ≤ y10) = true := decide_eq_true (by omega)
    have y1 : (y10 : Int) < 9 := by have := HB10.out; omega
    refine heldY 11 40 ?_
    clear y0 y1
    obtain ⟨z12, hz12, hy12⟩ := litV9 y10 HB10.out
    have HZ12 := Lib.hid (And.intro hz12 hy12)
    clear hz12 hy12
    refine held_yes (i := 12) (d := some 41) (v := ?_) rfl rfl (by kernel_rfl) (by kernel_rfl) (by kernel_rfl) (fun _ _ _ h => h) (by rfl) ?_ (by assumption) ?_
    rotate_left
    · (intro w hSw; (try dsimp only at hSw); have e8 := (hSw.2.2.2.cell y10).trans HZ12.out.2; go_simp; (first | done | with_reducible rfl))
    try simp only [Act.put, List.setIfInBounds_toArray, List.set_cons_zero, List.set_cons_succ]
    have y0 : decide ((0 : Int) ≤ z12) = true := decide_eq_true (by omega)
    have y1 : (z12 : Int) < 4 := by have := HZ12.out.1; omega
    refine heldY 13 42 ?_
    clear y0 y1
    obtain ⟨v14, hv14⟩ := litV4 z12 HZ12.out.1 (IntKind.i64.wrap (50 + x5)) 1000000 0 1000001
    have HZ14 := Lib.hid hv14
    clear hv14
    refine held_yes (i := 14) (d := some 43) (v := ?_) rfl rfl (by kernel_rfl) (by kernel_rfl) (by kernel_rfl) (fun _ _ _ h => h) (by rfl) ?_ (by assumption) ?_
    rotate_left
    · (intro w hSw; (try dsimp only at hSw); have e8 := (hSw.2.2.1.cell z12).trans HZ14.out; go_simp; (first | done | with_reducible rfl))
    try simp only [Act.put, List.setIfInBounds_toArray, List.set_cons_zero, List.set_cons_succ]
    refine heldY 19 6 ?_
    revert HR1
    revert HR0
    revert HZ14
    revert HZ12
    revert HP8
    revert HP7
    revert HB10
    revert HB5
    revert HS
    revert hHeld
    revert v14
    revert z12
    revert p8
    revert p7
    revert y10
    revert x5
    revert wn
    exact key17.out
  · intro wz x5 y10 p8 z12 hHeld HS HB5 HB10 HP8 HZ12 HR0 HR1
    refine wpAnyH_ready (rs := [7]) (by kernel_rfl) (by simp) ?_
    refine AllReadyH.cons rfl (fun K hK => ?_) AllReadyH.nil
    go_simp
    have HP7 := Lib.hid HS.out.fresh
    have hB0 := Blk.new wz 3 #[.int .i64 (IntKind.i64.wrap (50 + x5)), .int .i64 1000000, .int .i64 0, .int .i64 1000001]
    have hS1 : Blk (World.alloc wz (.cells #[.int .i64 (IntKind.i64.wrap (50 + x5)), .int .i64 1000000, .int .i64 0, .int .i64 1000001] 3)) w2.heap.size 26 #[.slice A2 n2 c2] ∧ Blk (World.alloc wz (.cells #[.int .i64 (IntKind.i64.wrap (50 + x5)), .int .i64 1000000, .int .i64 0, .int .i64 1000001] 3)) (w2.heap.size + 1) 28 #[.int .i64 a, .int .i64 b, .int .i64 h9] ∧ Blk (World.alloc wz (.cells #[.int .i64 (IntKind.i64.wrap (50 + x5)), .int .i64 1000000, .int .i64 0, .int .i64 1000001] 3)) p8 3 #[.int .i64 0, .int .i64 0, .int .i64 0, .int .i64 0, .int .i64 0, .int .i64 0, .int .i64 1, .int .i64 2, .int .i64 3] := ⟨(hHeld.1).alloc (.cells #[.int .i64 (IntKind.i64.wrap (50 + x5)), .int .i64 1000000, .int .i64 0, .int .i64 1000001] 3), (hHeld.2.1).alloc (.cells #[.int .i64 (IntKind.i64.wrap (50 + x5)), .int .i64 1000000, .int .i64 0, .int .i64 1000001] 3), (hHeld.2.2).alloc (.cells #[.int .i64 (IntKind.i64.wrap (50 + x5)), .int .i64 1000000, .int .i64 0, .int .i64 1000001] 3)⟩
    replace HS := Lib.hid (HS.out.kept (grown_alloc (grown_refl wz none) (.cells #[.int .i64 (IntKind.i64.wrap (50 + x5)), .int .i64 1000000, .int .i64 0, .int .i64 1000001] 3)))
    replace HR0 := Lib.hid (HR0.out.alloc (.cells #[.int .i64 (IntKind.i64.wrap (50 + x5)), .int .i64 1000000, .int .i64 0, .int .i64 1000001] 3))
    replace HR1 := Lib.hid (HR1.out.alloc (.cells #[.int .i64 (IntKind.i64.wrap (50 + x5)), .int .i64 1000000, .int .i64 0, .int .i64 1000001] 3))
    clear hHeld
    refine hK.out _ _ hS1 (fun hX => ?_)
    clear hK K hX
    try simp only [Act.put, List.setIfInBounds_toArray, List.set_cons_zero, List.set_cons_succ]
    generalize wz.heap.size = p7 at HP7 hB0 ⊢
    generalize (World.alloc wz (.cells #[.int .i64 (IntKind.i64.wrap (50 + x5)), .int .i64 1000000, .int .i64 0, .int .i64 1000001] 3)) = wn at hS1 HS hB0 HR0 HR1 ⊢
    refine wpAnyH_to (S' := (fun w' => Blk w' w2.heap.size 26 #[.slice A2 n2 c2] ∧ Blk w' (w2.heap.size + 1) 28 #[.int .i64 a, .int .i64 b, .int .i64 h9] ∧ Blk w' p7 3 #[.int .i64 (IntKind.i64.wrap (50 + x5)), .int .i64 1000000, .int .i64 0, .int .i64 1000001] ∧ Blk w' p8 3 #[.int .i64 0, .int .i64 0, .int .i64 0, .int .i64 0, .int .i64 0, .int .i64 0, .int .i64 1, .int .i64 2, .int .i64 3])) (fun w' h => ⟨h.1, h.2.1, h.2.2.2⟩) _ _ _ _ ?_
    have hHeld : Blk wn w2.heap.size 26 #[.slice A2 n2 c2] ∧ Blk wn (w2.heap.size + 1) 28 #[.int .i64 a, .int .i64 b, .int .i64 h9] ∧ Blk wn p7 3 #[.int .i64 (IntKind.i64.wrap (50 + x5)), .int .i64 1000000, .int .i64 0, .int .i64 1000001] ∧ Blk wn p8 3 #[.int .i64 0, .int .i64 0, .int .i64 0, .int .i64 0, .int .i64 0, .int .i64 0, .int .i64 1, .int .i64 2, .int .i64 3] := ⟨hS1.1, hS1.2.1, hB0, hS1.2.2⟩
    clear hS1 hB0
    have y0 : decide ((0 : Int) ≤ z12) = true := decide_eq_true (by omega)
    have y1 : (z12 : Int) < 4 := by have := HZ12.out.1; omega
    refine heldY 13 42 ?_
    clear y0 y1
    obtain ⟨v14, hv14⟩ := litV4 z12 HZ12.out.1 (IntKind.i64.wrap (50 + x5)) 1000000 0 1000001
    have HZ14 := Lib.hid hv14
    clear hv14
    refine held_yes (i := 14) (d := some 43) (v := ?_) rfl rfl (by kernel_rfl) (by kernel_rfl) (by kernel_rfl) (fun _ _ _ h => h) (by rfl) ?_ (by assumption) ?_
    rotate_left
    · (intro w hSw; (try dsimp only at hSw); have e8 := (hSw.2.2.1.cell z12).trans HZ14.out; go_simp; (first | done | with_reducible rfl))
    try simp only [Act.put, List.setIfInBounds_toArray, List.set_cons_zero, List.set_cons_succ]
    refine heldY 19 6 ?_
    revert HR1
    revert HR0
    revert HZ14
    revert HZ12
    revert HP8
    revert HP7
    revert HB10
    revert HB5
    revert HS
    revert hHeld
    revert v14
    revert z12
    revert p8
    revert p7
    revert y10
    revert x5
    revert wn
    exact key17.out
  · intro wz x5 y10 p7 p8 z12 v14 hHeld HS HB5 HB10 HP7 HP8 HZ12 HZ14 HR0 HR1
    refine wpAnyH_done (by kernel_rfl) ?_ _
    have zr := HR0.out.cell 0
    have z0 := HR1.out.cell 0
    have z1 := HR1.out.cell 1
    have z2 := HR1.out.cell 2
    go_wp2
    exact bodyPost_ret (v := .tuple #[.slice D nd cd, .agg #[.slice A2 n2 c2], .agg #[.int .i64 a, .int .i64 b, .int .i64 h9], _, .int .i64 v14]) (by simp [results, Tryz.results5, go_sem, *]; rfl) rfl ⟨_, _, _, _, _, _, _, _, _, _, _, _, _, rfl, HS.out.pair⟩
end Go.Proofs.YtolpnloghogjjaaGreat
