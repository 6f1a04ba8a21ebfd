/- What the model draws for chapter 7: DrawTablePut. -/
import Derived.Test.YtpjajmiegopmlaaDrawTabs2
namespace Go.Proofs.Ytpjajmiegopmlaa
open Go.ChangeShapes Go.WideShapes Go.ChangeAt Go.RowKit
set_option linter.unusedVariables false
set_option linter.unusedSimpArgs false

/-- A drawn table in a variable V, a second reader in block g behind it, the result's cell in block w.heap.size. -/
def PSt (w : World) (A : Option Addr) (n c : Nat) (ls : List Li) (V g B Q : Nat) (r : Value) (wr : World) : Prop :=
  TRow wr V A ls ∧ Rd wr B g Q ∧ Below w.heap.size w wr ∧ Blk wr w.heap.size 51 #[r] ∧ Blk wr V 51 #[.slice A n c] ∧ w.heap.size < V ∧ V < g
section
variable {w wr w' : World} {B g Q Q' V n c : Nat} {A : Option Addr} {ls : List Li} {r : Value}
theorem PSt.grown (H : PSt w A n c ls V g B Q r wr) (hg : wr.grownBy w' (some g)) (hr : Rd w' B g Q') : PSt w A n c ls V g B Q' r w' := by
  obtain ⟨h1, h2, h3, h4, h5, h6, h7⟩ := H
  exact ⟨h1.grown hg (fun k e => by injection e with e; omega), hr, h3.trans (Below.of_grown hg (by omega) h3.size), h4.grown hg (by intro e; injection e with e; omega), h5.grown hg (by intro e; injection e with e; omega), h6, h7⟩
theorem PSt.kept (H : PSt w A n c ls V g B Q r wr) (hk : wr.grownBy w' none) : PSt w A n c ls V g B Q r w' := H.grown (grown_some hk) (H.2.1.grown hk (by intro k e; cases e))
theorem PSt.cell (H : PSt w A n c ls V g B Q r wr) : wr.cell? ⟨V, 0, none⟩ = some (.slice A n c) := H.2.2.2.2.1.cell 0
/-- The same behind the last draw. -/
def QSt (w : World) (A : Option Addr) (n c : Nat) (ls : List Li) (V : Nat) (wr : World) : Prop := TRow wr V A ls ∧ Below w.heap.size w wr ∧ Blk wr V 51 #[.slice A n c] ∧ Blk wr w.heap.size 51 #[.slice A n c]
theorem QSt.kept (H : QSt w A n c ls V wr) (hk : wr.grownBy w' none) : QSt w A n c ls V w' := ⟨H.1.kept hk, Below.and_kept H.2.1 hk, H.2.2.1.keep hk, H.2.2.2.keep hk⟩
theorem QSt.cell (H : QSt w A n c ls V wr) : wr.cell? ⟨V, 0, none⟩ = some (.slice A n c) := H.2.2.1.cell 0
theorem QSt.fin (H : QSt w A n c ls V wr) : LT w A ls wr := ⟨H.1.here, H.2.1⟩
/-- The result's cell is written. -/
theorem PSt.store (H : PSt w A n c ls V g B Q r wr) (hf : TFar (w.heap.size + 1) A ls) : QSt w A n c ls V (wr.setCell ⟨w.heap.size, 0, none⟩ (.slice A n c)) := by
  obtain ⟨h1, h2, h3, h4, h5, h6, h7⟩ := H
  exact ⟨h1.putLo hf (p := ⟨w.heap.size, 0, none⟩) (by dsimp only; omega) _, h3.setCell (Nat.le_refl _) _, h5.far (by dsimp only; omega) _, h4.put 0 _⟩
theorem size_set (w : World) (p : Addr) (u : Value) : (w.setCell p u).heap.size = w.heap.size := by simp [World.setCell]
end
/-- A table, a file, a place and a page are drawn. -/
def PutsDrawn (w : World) (e : Ending) (w' : World) : Prop :=
  ∃ (A : Option Addr) (n c : Nat) (ls : List Li) (f k x : Int), e = .returned (.tuple #[.agg #[.slice A n c], .int .i64 f, .int .i64 k, .int .i64 x]) ∧ ls.length = n ∧ n ≤ 8 ∧ (∀ l, l ∈ ls → l.xs.length ≤ 6) ∧ LT w A ls w'
theorem Bytes.belowB {w w' : World} {B B' : Nat} {A : Option Addr} {n : Nat} (h : Bytes w B A n) (hb : Below B w w') (hB : B ≤ B') : Bytes w' B' A n := fun hn => by
  obtain ⟨b, off, z, e, hlt, hc⟩ := h hn
  exact ⟨b, off, z, e, by omega, fun i hi => ⟨(hb.cell hlt).trans (hc i hi).1, (hc i hi).2⟩⟩
set_option maxRecDepth 8000 in
set_option maxHeartbeats 8000000 in
theorem drawTablePut_any (w : World) (A : Option Addr) (n c : Nat) (hn : n ≤ c) (hc : c ≤ 9223372036854775807) (h : Bytes w w.heap.size A n) :
    Calls Try.prog 34 #[.slice A n c] w (PutsDrawn w) := by
  have h0 := h.alloc (.cells #[.slice none 0 0] 51)
  go_enter Try.func34, Try.ntmps34
  go_wp2_with fail
  refine (drawTableGet_any _ A n c hn hc h0).mono ?_
  rintro e w1 ⟨A2, n2, c2, ls, f, k, rfl, hl, h8, h6, hfar, hlt⟩
  have hbl := hlt.2
  have hz1 := hbl.size
  have hbt : Bytes (w1.alloc (.cells #[.slice A2 n2 c2] 51)) (w1.alloc (.cells #[.slice A2 n2 c2] 51)).heap.size A n := (h0.belowB hbl (show (w.alloc (.cells #[.slice none 0 0] 51)).heap.size ≤ w1.heap.size from hz1)).alloc _
  (try simp only [size_of_alloc] at hz1 hfar)
  go_wp2_with fail
  refine (open_any _ A n c hn hc hbt).mono ?_
  rintro e w3 ⟨rfl, h3, hb3⟩
  (try simp only [size_of_alloc] at h3 hb3)
  have hz3 := hb3.size
  (try simp only [size_of_alloc] at hz3)
  have hB0 : Below w.heap.size w w3 := ((((Below.refl w.heap.size w).alloc (Nat.le_refl _) (.cells #[.slice none 0 0] 51)).trans (hbl.mono (by simp))).alloc (by omega) (.cells #[.slice A2 n2 c2] 51)).trans (hb3.mono (by omega))
  have HN := Lib.hid (And.intro hl (And.intro h8 (And.intro h6 hfar)))
  have HS : RowKit.Hid (PSt w A2 n2 c2 ls w1.heap.size (w1.heap.size + 1) _ _ (.slice none 0 0) w3) := Lib.hid ⟨(hlt.1.alloc (.cells #[.slice A2 n2 c2] 51)).below (hb3.mono (by omega)), h3, hB0, (((Blk.new w 51 #[.slice none 0 0]).below hbl (by simp)).alloc (.cells #[.slice A2 n2 c2] 51)).below hb3 (by omega), (Blk.new w1 51 #[.slice A2 n2 c2]).below hb3 (by omega), by omega, by omega⟩
  clear h h0 hbt hbl hlt h3 hb3 hB0 hl h8 h6 hfar
  go_wp2_with fail
  refine wp_region_held_drew (S := (fun w' => w'.cell? ⟨w1.heap.size, 0, none⟩ = some (.slice A2 n2 c2))) (by kernel_rfl) ?_ (fun hHeld => ?_)
  · exact HS.out.cell
  replace HS := Lib.hid (HS.out.kept (grown_drew (grown_refl _ none)))
  refine held_yes (i := 0) (d := some 18) (v := ?_) rfl rfl (by kernel_rfl) (by kernel_rfl) (by kernel_rfl) (fun _ _ _ h => h) (by rfl) ?_ (by assumption) ?_
  rotate_left
  · (intro w hSw; (try dsimp only at hSw); go_simp; (first | done | with_reducible rfl))
  try simp only [Act.put, List.setIfInBounds_toArray, List.set_cons_zero, List.set_cons_succ]
  refine held_yes (i := 1) (d := some 19) (v := ?_) rfl rfl (by kernel_rfl) (by kernel_rfl) (by kernel_rfl) (fun _ _ _ h => h) (by rfl) ?_ (by assumption) ?_
  rotate_left
  · (intro w hSw; (try dsimp only at hSw); go_simp; (first | done | with_reducible rfl))
  try simp only [Act.put, List.setIfInBounds_toArray, List.set_cons_zero, List.set_cons_succ]
  refine held_yes (i := 2) (d := some 20) (v := ?_) rfl rfl (by kernel_rfl) (by kernel_rfl) (by kernel_rfl) (fun _ _ _ h => h) (by rfl) ?_ (by assumption) ?_
  rotate_left
  · (intro w hSw; (try dsimp only at hSw); go_simp; (first | done | with_reducible rfl))
  try simp only [Act.put, List.setIfInBounds_toArray, List.set_cons_zero, List.set_cons_succ]
  refine held_yes (i := 3) (d := some 21) (v := ?_) rfl rfl (by kernel_rfl) (by kernel_rfl) (by kernel_rfl) (fun _ _ _ h => h) (by rfl) ?_ (by assumption) ?_
  rotate_left
  · (intro w hSw; (try dsimp only at hSw); go_simp; (first | done | with_reducible rfl))
  try simp only [Act.put, List.setIfInBounds_toArray, List.set_cons_zero, List.set_cons_succ]
  refine held_yes (i := 8) (d := some 26) (v := ?_) rfl rfl (by kernel_rfl) (by kernel_rfl) (by kernel_rfl) (fun _ _ _ h => h) (by rfl) ?_ (by assumption) ?_
  rotate_left
  · (intro w hSw; (try dsimp only at hSw); go_simp; (first | done | with_reducible rfl))
  try simp only [Act.put, List.setIfInBounds_toArray, List.set_cons_zero, List.set_cons_succ]
  refine wpAnyH_ready (rs := [4, 7]) (by kernel_rfl) (by simp) ?_
  refine AllReadyH.cons rfl (fun K hK => ?_) (AllReadyH.cons rfl (fun K hK => ?_) AllReadyH.nil)
  · go_simp
    go_at_call 56
    refine (pick_lt _ _ _ _ _ HS.out.2.1 (by omega) (by omega)).mono ?_
    rintro e w4 ⟨x4, rfl, u4, v4, h4, hg4⟩
    replace HS := Lib.hid (HS.out.grown hg4 h4)
    clear h4 hg4
    refine hK.out _ _ ?_ (fun hHeld => ?_)
    · exact HS.out.cell
    clear hK K
    try simp only [Act.put, List.setIfInBounds_toArray, List.set_cons_zero, List.set_cons_succ]
    refine held_yes (i := 5) (d := some 23) (v := ?_) rfl rfl (by kernel_rfl) (by kernel_rfl) (by kernel_rfl) (fun _ _ _ h => h) (by rfl) ?_ (by assumption) ?_
    rotate_left
    · (intro w hSw; (try dsimp only at hSw); go_simp; (first | done | with_reducible rfl))
    try simp only [Act.put, List.setIfInBounds_toArray, List.set_cons_zero, List.set_cons_succ]
    refine wpAnyH_ready (rs := [6, 7, 9]) (by kernel_rfl) (by simp) ?_
    refine AllReadyH.cons rfl (fun K hK => ?_) (AllReadyH.cons rfl (fun K hK => ?_) (AllReadyH.cons rfl (fun K hK => ?_) AllReadyH.nil))
    · have hl0 : Blk (World.alloc w4 (.cells #[.int .i64 (IntKind.i64.wrap (x4 - 1)), .int .i64 48, .int .i64 (-2)] 3)) (w4.heap.size) 3 #[.int .i64 (IntKind.i64.wrap (x4 - 1)), .int .i64 48, .int .i64 (-2)] := by have h := Blk.new w4 3 #[.int .i64 (IntKind.i64.wrap (x4 - 1)), .int .i64 48, .int .i64 (-2)]; (try simp only [World.drew, size_alloc1, size_set] at h); exact h
      have hqb6 := HS.out.2.1.lt
      (try simp only [World.drew, size_alloc1] at hqb6)
      have Hb6 := Lib.hid hl0
      clear hl0
      replace HS := Lib.hid (HS.out.kept (grown_alloc (grown_refl _ none) (.cells #[.int .i64 (IntKind.i64.wrap (x4 - 1)), .int .i64 48, .int .i64 (-2)] 3)))
      go_simp
      refine hK.out _ _ ?_ (fun hHeld => ?_)
      · exact HS.out.cell
      clear hK K
      try simp only [Act.put, List.setIfInBounds_toArray, List.set_cons_zero, List.set_cons_succ]
      refine wpAnyH_ready (rs := [7, 9]) (by kernel_rfl) (by simp) ?_
      refine AllReadyH.cons rfl (fun K hK => ?_) (AllReadyH.cons rfl (fun K hK => ?_) AllReadyH.nil)
      · have hl0 : Blk (World.alloc (World.alloc w4 (.cells #[.int .i64 (IntKind.i64.wrap (x4 - 1)), .int .i64 48, .int .i64 (-2)] 3)) (.cells #[.int .i64 0, .int .i64 0, .int .i64 0, .int .i64 0, .int .i64 0, .int .i64 0, .int .i64 1, .int .i64 2] 3)) (w4.heap.size + 1) 3 #[.int .i64 0, .int .i64 0, .int .i64 0, .int .i64 0, .int .i64 0, .int .i64 0, .int .i64 1, .int .i64 2] := by have h := Blk.new (World.alloc w4 (.cells #[.int .i64 (IntKind.i64.wrap (x4 - 1)), .int .i64 48, .int .i64 (-2)] 3)) 3 #[.int .i64 0, .int .i64 0, .int .i64 0, .int .i64 0, .int .i64 0, .int .i64 0, .int .i64 1, .int .i64 2]; (try simp only [World.drew, size_alloc1, size_set] at h); exact h
        have hqb7 := HS.out.2.1.lt
        (try simp only [World.drew, size_alloc1] at hqb7)
        replace Hb6 := Lib.hid (Hb6.out.keep (grown_alloc (grown_refl _ none) (.cells #[.int .i64 0, .int .i64 0, .int .i64 0, .int .i64 0, .int .i64 0, .int .i64 0, .int .i64 1, .int .i64 2] 3)))
        have Hb7 := Lib.hid hl0
        clear hl0
        replace HS := Lib.hid (HS.out.kept (grown_alloc (grown_refl _ none) (.cells #[.int .i64 0, .int .i64 0, .int .i64 0, .int .i64 0, .int .i64 0, .int .i64 0, .int .i64 1, .int .i64 2] 3)))
        go_simp
        refine hK.out _ _ ?_ (fun hHeld => ?_)
        · exact HS.out.cell
        clear hK K
        try simp only [Act.put, List.setIfInBounds_toArray, List.set_cons_zero, List.set_cons_succ]
        refine wpAnyH_ready (rs := [9]) (by kernel_rfl) (by simp) ?_
        refine AllReadyH.cons rfl (fun K hK => ?_) AllReadyH.nil
        go_simp
        go_at_call 56
        refine (pick_lt _ _ _ _ _ HS.out.2.1 (by omega) (by omega)).mono ?_
        rintro e w9 ⟨x9, rfl, u9, v9, h9, hg9⟩
        replace Hb6 := Lib.hid (Hb6.out.grown hg9 (by intro e; injection e with e; omega))
        replace Hb7 := Lib.hid (Hb7.out.grown hg9 (by intro e; injection e with e; omega))
        replace HS := Lib.hid (HS.out.grown hg9 h9)
        clear h9 hg9
        refine hK.out _ _ ?_ (fun hHeld => ?_)
        · exact HS.out.cell
        clear hK K
        try simp only [Act.put, List.setIfInBounds_toArray, List.set_cons_zero, List.set_cons_succ]
        obtain ⟨y9, rfl⟩ := Int.eq_ofNat_of_zero_le u9
        have y0 : decide ((0 : Int) ≤ y9) = true := decide_eq_true (by omega)
        have y1 : (y9 : Int) < 8 := by omega
        obtain ⟨z9, hz9, hy9⟩ := lit8 y9 (by omega)
        have z0 : decide ((0 : Int) ≤ z9) = true := decide_eq_true (by omega)
        have z1 : (z9 : Int) < 3 := by omega
        refine held_yes (i := 10) (d := some 28) (v := ?_) rfl rfl (by kernel_rfl) (by kernel_rfl) (by kernel_rfl) (fun _ _ _ h => h) (by rfl) ?_ (by assumption) ?_
        rotate_left
        · (intro w hSw; (try dsimp only at hSw); go_simp; (first | done | with_reducible rfl))
        try simp only [Act.put, List.setIfInBounds_toArray, List.set_cons_zero, List.set_cons_succ]
        refine wpAnyH_ready (rs := [11, 14]) (by kernel_rfl) (by simp) ?_
        refine AllReadyH.cons rfl (fun K hK => ?_) (AllReadyH.cons rfl (fun K hK => ?_) AllReadyH.nil)
        · have e8 := (Hb7.out.cell y9).trans hy9
          go_simp
          refine hK.out _ _ ?_ (fun hHeld => ?_)
          · exact HS.out.cell
          clear hK K
          try simp only [Act.put, List.setIfInBounds_toArray, List.set_cons_zero, List.set_cons_succ]
          clear e8
          obtain ⟨v9, hv9⟩ := lit3 z9 hz9 (IntKind.i64.wrap (x4 - 1)) 48 (-2)
          refine held_yes (i := 12) (d := some 30) (v := ?_) rfl rfl (by kernel_rfl) (by kernel_rfl) (by kernel_rfl) (fun _ _ _ h => h) (by rfl) ?_ (by assumption) ?_
          rotate_left
          · (intro w hSw; (try dsimp only at hSw); go_simp; (first | done | with_reducible rfl))
          try simp only [Act.put, List.setIfInBounds_toArray, List.set_cons_zero, List.set_cons_succ]
          refine wpAnyH_ready (rs := [13, 14]) (by kernel_rfl) (by simp) ?_
          refine AllReadyH.cons rfl (fun K hK => ?_) (AllReadyH.cons rfl (fun K hK => ?_) AllReadyH.nil)
          · have e3 := (Hb6.out.cell z9).trans hv9
            go_simp
            refine hK.out _ _ ?_ (fun hHeld => ?_)
            · exact HS.out.cell
            clear hK K
            try simp only [Act.put, List.setIfInBounds_toArray, List.set_cons_zero, List.set_cons_succ]
            clear e3
            refine wpAnyH_ready (rs := [14]) (by kernel_rfl) (by simp) ?_
            refine AllReadyH.cons rfl (fun K hK => ?_) AllReadyH.nil
            have r0 := HS.out.2.2.2.1.cell 0
            have r1 := HS.out.2.2.2.1.frozen 0
            have z5 := HS.out.cell
            have hwl := HS.out.2.2.2.1.lt
            (try simp only [World.drew, size_alloc1] at hwl)
            replace Hb6 := Lib.hid (Hb6.out.far (p := ⟨w.heap.size, 0, none⟩) (by dsimp only; omega) (.slice A2 n2 c2))
            replace Hb7 := Lib.hid (Hb7.out.far (p := ⟨w.heap.size, 0, none⟩) (by dsimp only; omega) (.slice A2 n2 c2))
            replace HS := Lib.hid (HS.out.store HN.out.2.2.2)
            go_simp
            refine hK.out _ _ ?_ (fun hHeld => ?_)
            · exact HS.out.cell
            clear hK K
            try simp only [Act.put, List.setIfInBounds_toArray, List.set_cons_zero, List.set_cons_succ]
            clear r0 r1 z5 hwl
            refine held_yes (i := 15) (d := some 3) (v := ?_) rfl rfl (by kernel_rfl) (by kernel_rfl) (by kernel_rfl) (fun _ _ _ h => h) (by rfl) ?_ (by assumption) ?_
            rotate_left
            · (intro w hSw; (try dsimp only at hSw); go_simp; (first | done | with_reducible rfl))
            try simp only [Act.put, List.setIfInBounds_toArray, List.set_cons_zero, List.set_cons_succ]
            refine held_yes (i := 16) (d := some 4) (v := ?_) rfl rfl (by kernel_rfl) (by kernel_rfl) (by kernel_rfl) (fun _ _ _ h => h) (by rfl) ?_ (by assumption) ?_
            rotate_left
            · (intro w hSw; (try dsimp only at hSw); go_simp; (first | done | with_reducible rfl))
            try simp only [Act.put, List.setIfInBounds_toArray, List.set_cons_zero, List.set_cons_succ]
            refine wpAnyH_ready (rs := [17]) (by kernel_rfl) (by simp) ?_
            refine AllReadyH.cons rfl (fun K hK => ?_) AllReadyH.nil
            go_simp
            refine hK.out _ _ ?_ (fun hHeld => ?_)
            · first | with_reducible assumption | exact HS.out.cell
            clear hK K
            try simp only [Act.put, List.setIfInBounds_toArray, List.set_cons_zero, List.set_cons_succ]
            refine wpAnyH_done (by kernel_rfl) ?_ _
            have zr := HS.out.2.2.2.cell 0
            go_wp2
            exact bodyPost_ret (v := .tuple #[.agg #[.slice A2 n2 c2], .int .i64 f, .int .i64 k, .int .i64 v9]) (by simp [results, Try.results34, go_sem, *]) rfl ⟨_, _, _, _, _, _, _, rfl, HN.out.1, HN.out.2.1, HN.out.2.2.1, HS.out.fin⟩
          · have r0 := HS.out.2.2.2.1.cell 0
            have r1 := HS.out.2.2.2.1.frozen 0
            have z5 := HS.out.cell
            have hwl := HS.out.2.2.2.1.lt
            (try simp only [World.drew, size_alloc1] at hwl)
            replace Hb6 := Lib.hid (Hb6.out.far (p := ⟨w.heap.size, 0, none⟩) (by dsimp only; omega) (.slice A2 n2 c2))
            replace Hb7 := Lib.hid (Hb7.out.far (p := ⟨w.heap.size, 0, none⟩) (by dsimp only; omega) (.slice A2 n2 c2))
            replace HS := Lib.hid (HS.out.store HN.out.2.2.2)
            go_simp
            refine hK.out _ _ ?_ (fun hHeld => ?_)
            · exact HS.out.cell
            clear hK K
            try simp only [Act.put, List.setIfInBounds_toArray, List.set_cons_zero, List.set_cons_succ]
            clear r0 r1 z5 hwl
            refine held_yes (i := 15) (d := some 3) (v := ?_) rfl rfl (by kernel_rfl) (by kernel_rfl) (by kernel_rfl) (fun _ _ _ h => h) (by rfl) ?_ (by assumption) ?_
            rotate_left
            · (intro w hSw; (try dsimp only at hSw); go_simp; (first | done | with_reducible rfl))
            try simp only [Act.put, List.setIfInBounds_toArray, List.set_cons_zero, List.set_cons_succ]
            refine held_yes (i := 16) (d := some 4) (v := ?_) rfl rfl (by kernel_rfl) (by kernel_rfl) (by kernel_rfl) (fun _ _ _ h => h) (by rfl) ?_ (by assumption) ?_
            rotate_left
            · (intro w hSw; (try dsimp only at hSw); go_simp; (first | done | with_reducible rfl))
            try simp only [Act.put, List.setIfInBounds_toArray, List.set_cons_zero, List.set_cons_succ]
            refine wpAnyH_ready (rs := [13]) (by kernel_rfl) (by simp) ?_
            refine AllReadyH.cons rfl (fun K hK => ?_) AllReadyH.nil
            have e3 := (Hb6.out.cell z9).trans hv9
            go_simp
            refine hK.out _ _ ?_ (fun hHeld => ?_)
            · exact HS.out.cell
            clear hK K
            try simp only [Act.put, List.setIfInBounds_toArray, List.set_cons_zero, List.set_cons_succ]
            clear e3
            refine wpAnyH_ready (rs := [17]) (by kernel_rfl) (by simp) ?_
            refine AllReadyH.cons rfl (fun K hK => ?_) AllReadyH.nil
            go_simp
            refine hK.out _ _ ?_ (fun hHeld => ?_)
            · first | with_reducible assumption | exact HS.out.cell
            clear hK K
            try simp only [Act.put, List.setIfInBounds_toArray, List.set_cons_zero, List.set_cons_succ]
            refine wpAnyH_done (by kernel_rfl) ?_ _
            have zr := HS.out.2.2.2.cell 0
            go_wp2
            exact bodyPost_ret (v := .tuple #[.agg #[.slice A2 n2 c2], .int .i64 f, .int .i64 k, .int .i64 v9]) (by simp [results, Try.results34, go_sem, *]) rfl ⟨_, _, _, _, _, _, _, rfl, HN.out.1, HN.out.2.1, HN.out.2.2.1, HS.out.fin⟩
        · have r0 := HS.out.2.2.2.1.cell 0
          have r1 := HS.out.2.2.2.1.frozen 0
          have z5 := HS.out.cell
          have hwl := HS.out.2.2.2.1.lt
          (try simp only [World.drew, size_alloc1] at hwl)
          replace Hb6 := Lib.hid (Hb6.out.far (p := ⟨w.heap.size, 0, none⟩) (by dsimp only; omega) (.slice A2 n2 c2))
          replace Hb7 := Lib.hid (Hb7.out.far (p := ⟨w.heap.size, 0, none⟩) (by dsimp only; omega) (.slice A2 n2 c2))
          replace HS := Lib.hid (HS.out.store HN.out.2.2.2)
          go_simp
          refine hK.out _ _ ?_ (fun hHeld => ?_)
          · exact HS.out.cell
          clear hK K
          try simp only [Act.put, List.setIfInBounds_toArray, List.set_cons_zero, List.set_cons_succ]
          clear r0 r1 z5 hwl
          refine held_yes (i := 15) (d := some 3) (v := ?_) rfl rfl (by kernel_rfl) (by kernel_rfl) (by kernel_rfl) (fun _ _ _ h => h) (by rfl) ?_ (by assumption) ?_
          rotate_left
          · (intro w hSw; (try dsimp only at hSw); go_simp; (first | done | with_reducible rfl))
          try simp only [Act.put, List.setIfInBounds_toArray, List.set_cons_zero, List.set_cons_succ]
          refine held_yes (i := 16) (d := some 4) (v := ?_) rfl rfl (by kernel_rfl) (by kernel_rfl) (by kernel_rfl) (fun _ _ _ h => h) (by rfl) ?_ (by assumption) ?_
          rotate_left
          · (intro w hSw; (try dsimp only at hSw); go_simp; (first | done | with_reducible rfl))
          try simp only [Act.put, List.setIfInBounds_toArray, List.set_cons_zero, List.set_cons_succ]
          refine wpAnyH_ready (rs := [11]) (by kernel_rfl) (by simp) ?_
          refine AllReadyH.cons rfl (fun K hK => ?_) AllReadyH.nil
          have e8 := (Hb7.out.cell y9).trans hy9
          go_simp
          refine hK.out _ _ ?_ (fun hHeld => ?_)
          · exact HS.out.cell
          clear hK K
          try simp only [Act.put, List.setIfInBounds_toArray, List.set_cons_zero, List.set_cons_succ]
          clear e8
          obtain ⟨v9, hv9⟩ := lit3 z9 hz9 (IntKind.i64.wrap (x4 - 1)) 48 (-2)
          refine held_yes (i := 12) (d := some 30) (v := ?_) rfl rfl (by kernel_rfl) (by kernel_rfl) (by kernel_rfl) (fun _ _ _ h => h) (by rfl) ?_ (by assumption) ?_
          rotate_left
          · (intro w hSw; (try dsimp only at hSw); go_simp; (first | done | with_reducible rfl))
          try simp only [Act.put, List.setIfInBounds_toArray, List.set_cons_zero, List.set_cons_succ]
          refine wpAnyH_ready (rs := [13]) (by kernel_rfl) (by simp) ?_
          refine AllReadyH.cons rfl (fun K hK => ?_) AllReadyH.nil
          have e3 := (Hb6.out.cell z9).trans hv9
          go_simp
          refine hK.out _ _ ?_ (fun hHeld => ?_)
          · exact HS.out.cell
          clear hK K
          try simp only [Act.put, List.setIfInBounds_toArray, List.set_cons_zero, List.set_cons_succ]
          clear e3
          refine wpAnyH_ready (rs := [17]) (by kernel_rfl) (by simp) ?_
          refine AllReadyH.cons rfl (fun K hK => ?_) AllReadyH.nil
          go_simp
          refine hK.out _ _ ?_ (fun hHeld => ?_)
          · first | with_reducible assumption | exact HS.out.cell
          clear hK K
          try simp only [Act.put, List.setIfInBounds_toArray, List.set_cons_zero, List.set_cons_succ]
          refine wpAnyH_done (by kernel_rfl) ?_ _
          have zr := HS.out.2.2.2.cell 0
          go_wp2
          exact bodyPost_ret (v := .tuple #[.agg #[.slice A2 n2 c2], .int .i64 f, .int .i64 k, .int .i64 v9]) (by simp [results, Try.results34, go_sem, *]) rfl ⟨_, _, _, _, _, _, _, rfl, HN.out.1, HN.out.2.1, HN.out.2.2.1, HS.out.fin⟩
      · go_simp
        go_at_call 56
        refine (pick_lt _ _ _ _ _ HS.out.2.1 (by omega) (by omega)).mono ?_
        rintro e w9 ⟨x9, rfl, u9, v9, h9, hg9⟩
        replace Hb6 := Lib.hid (Hb6.out.grown hg9 (by intro e; injection e with e; omega))
        replace HS := Lib.hid (HS.out.grown hg9 h9)
        clear h9 hg9
        refine hK.out _ _ ?_ (fun hHeld => ?_)
        · exact HS.out.cell
        clear hK K
        try simp only [Act.put, List.setIfInBounds_toArray, List.set_cons_zero, List.set_cons_succ]
        obtain ⟨y9, rfl⟩ := Int.eq_ofNat_of_zero_le u9
        have y0 : decide ((0 : Int) ≤ y9) = true := decide_eq_true (by omega)
        have y1 : (y9 : Int) < 8 := by omega
        refine wpAnyH_ready (rs := [7, 14]) (by kernel_rfl) (by simp) ?_
        refine AllReadyH.cons rfl (fun K hK => ?_) (AllReadyH.cons rfl (fun K hK => ?_) AllReadyH.nil)
        · have hl0 : Blk (World.alloc w9 (.cells #[.int .i64 0, .int .i64 0, .int .i64 0, .int .i64 0, .int .i64 0, .int .i64 0, .int .i64 1, .int .i64 2] 3)) (w9.heap.size) 3 #[.int .i64 0, .int .i64 0, .int .i64 0, .int .i64 0, .int .i64 0, .int .i64 0, .int .i64 1, .int .i64 2] := by have h := Blk.new w9 3 #[.int .i64 0, .int .i64 0, .int .i64 0, .int .i64 0, .int .i64 0, .int .i64 0, .int .i64 1, .int .i64 2]; (try simp only [World.drew, size_alloc1, size_set] at h); exact h
          have hqb7 := HS.out.2.1.lt
          (try simp only [World.drew, size_alloc1] at hqb7)
          replace Hb6 := Lib.hid (Hb6.out.keep (grown_alloc (grown_refl _ none) (.cells #[.int .i64 0, .int .i64 0, .int .i64 0, .int .i64 0, .int .i64 0, .int .i64 0, .int .i64 1, .int .i64 2] 3)))
          have Hb7 := Lib.hid hl0
          clear hl0
          replace HS := Lib.hid (HS.out.kept (grown_alloc (grown_refl _ none) (.cells #[.int .i64 0, .int .i64 0, .int .i64 0, .int .i64 0, .int .i64 0, .int .i64 0, .int .i64 1, .int .i64 2] 3)))
          go_simp
          refine hK.out _ _ ?_ (fun hHeld => ?_)
          · exact HS.out.cell
          clear hK K
          try simp only [Act.put, List.setIfInBounds_toArray, List.set_cons_zero, List.set_cons_succ]
          obtain ⟨z9, hz9, hy9⟩ := lit8 y9 (by omega)
          have z0 : decide ((0 : Int) ≤ z9) = true := decide_eq_true (by omega)
          have z1 : (z9 : Int) < 3 := by omega
          refine held_yes (i := 10) (d := some 28) (v := ?_) rfl rfl (by kernel_rfl) (by kernel_rfl) (by kernel_rfl) (fun _ _ _ h => h) (by rfl) ?_ (by assumption) ?_
          rotate_left
          · (intro w hSw; (try dsimp only at hSw); go_simp; (first | done | with_reducible rfl))
          try simp only [Act.put, List.setIfInBounds_toArray, List.set_cons_zero, List.set_cons_succ]
          refine wpAnyH_ready (rs := [11, 14]) (by kernel_rfl) (by simp) ?_
          refine AllReadyH.cons rfl (fun K hK => ?_) (AllReadyH.cons rfl (fun K hK => ?_) AllReadyH.nil)
          · have e8 := (Hb7.out.cell y9).trans hy9
            go_simp
            refine hK.out _ _ ?_ (fun hHeld => ?_)
            · exact HS.out.cell
            clear hK K
            try simp only [Act.put, List.setIfInBounds_toArray, List.set_cons_zero, List.set_cons_succ]
            clear e8
            obtain ⟨v9, hv9⟩ := lit3 z9 hz9 (IntKind.i64.wrap (x4 - 1)) 48 (-2)
            refine held_yes (i := 12) (d := some 30) (v := ?_) rfl rfl (by kernel_rfl) (by kernel_rfl) (by kernel_rfl) (fun _ _ _ h => h) (by rfl) ?_ (by assumption) ?_
            rotate_left
            · (intro w hSw; (try dsimp only at hSw); go_simp; (first | done | with_reducible rfl))
            try simp only [Act.put, List.setIfInBounds_toArray, List.set_cons_zero, List.set_cons_succ]
            refine wpAnyH_ready (rs := [13, 14]) (by kernel_rfl) (by simp) ?_
            refine AllReadyH.cons rfl (fun K hK => ?_) (AllReadyH.cons rfl (fun K hK => ?_) AllReadyH.nil)
            · have e3 := (Hb6.out.cell z9).trans hv9
              go_simp
              refine hK.out _ _ ?_ (fun hHeld => ?_)
              · exact HS.out.cell
              clear hK K
              try simp only [Act.put, List.setIfInBounds_toArray, List.set_cons_zero, List.set_cons_succ]
              clear e3
              refine wpAnyH_ready (rs := [14]) (by kernel_rfl) (by simp) ?_
              refine AllReadyH.cons rfl (fun K hK => ?_) AllReadyH.nil
              have r0 := HS.out.2.2.2.1.cell 0
              have r1 := HS.out.2.2.2.1.frozen 0
              have z5 := HS.out.cell
              have hwl := HS.out.2.2.2.1.lt
              (try simp only [World.drew, size_alloc1] at hwl)
              replace Hb6 := Lib.hid (Hb6.out.far (p := ⟨w.heap.size, 0, none⟩) (by dsimp only; omega) (.slice A2 n2 c2))
              replace Hb7 := Lib.hid (Hb7.out.far (p := ⟨w.heap.size, 0, none⟩) (by dsimp only; omega) (.slice A2 n2 c2))
              replace HS := Lib.hid (HS.out.store HN.out.2.2.2)
              go_simp
              refine hK.out _ _ ?_ (fun hHeld => ?_)
              · exact HS.out.cell
              clear hK K
              try simp only [Act.put, List.setIfInBounds_toArray, List.set_cons_zero, List.set_cons_succ]
              clear r0 r1 z5 hwl
              refine held_yes (i := 15) (d := some 3) (v := ?_) rfl rfl (by kernel_rfl) (by kernel_rfl) (by kernel_rfl) (fun _ _ _ h => h) (by rfl) ?_ (by assumption) ?_
              rotate_left
              · (intro w hSw; (try dsimp only at hSw); go_simp; (first | done | with_reducible rfl))
              try simp only [Act.put, List.setIfInBounds_toArray, List.set_cons_zero, List.set_cons_succ]
              refine held_yes (i := 16) (d := some 4) (v := ?_) rfl rfl (by kernel_rfl) (by kernel_rfl) (by kernel_rfl) (fun _ _ _ h => h) (by rfl) ?_ (by assumption) ?_
              rotate_left
              · (intro w hSw; (try dsimp only at hSw); go_simp; (first | done | with_reducible rfl))
              try simp only [Act.put, List.setIfInBounds_toArray, List.set_cons_zero, List.set_cons_succ]
              refine wpAnyH_ready (rs := [17]) (by kernel_rfl) (by simp) ?_
              refine AllReadyH.cons rfl (fun K hK => ?_) AllReadyH.nil
              go_simp
              refine hK.out _ _ ?_ (fun hHeld => ?_)
              · first | with_reducible assumption | exact HS.out.cell
              clear hK K
              try simp only [Act.put, List.setIfInBounds_toArray, List.set_cons_zero, List.set_cons_succ]
              refine wpAnyH_done (by kernel_rfl) ?_ _
              have zr := HS.out.2.2.2.cell 0
              go_wp2
              exact bodyPost_ret (v := .tuple #[.agg #[.slice A2 n2 c2], .int .i64 f, .int .i64 k, .int .i64 v9]) (by simp [results, Try.results34, go_sem, *]) rfl ⟨_, _, _, _, _, _, _, rfl, HN.out.1, HN.out.2.1, HN.out.2.2.1, HS.out.fin⟩
            · have r0 := HS.out.2.2.2.1.cell 0
              have r1 := HS.out.2.2.2.1.frozen 0
              have z5 := HS.out.cell
              have hwl := HS.out.2.2.2.1.lt
              (try simp only [World.drew, size_alloc1] at hwl)
              replace Hb6 := Lib.hid (Hb6.out.far (p := ⟨w.heap.size, 0, none⟩) (by dsimp only; omega) (.slice A2 n2 c2))
              replace Hb7 := Lib.hid (Hb7.out.far (p := ⟨w.heap.size, 0, none⟩) (by dsimp only; omega) (.slice A2 n2 c2))
              replace HS := Lib.hid (HS.out.store HN.out.2.2.2)
              go_simp
              refine hK.out _ _ ?_ (fun hHeld => ?_)
              · exact HS.out.cell
              clear hK K
              try simp only [Act.put, List.setIfInBounds_toArray, List.set_cons_zero, List.set_cons_succ]
              clear r0 r1 z5 hwl
              refine held_yes (i := 15) (d := some 3) (v := ?_) rfl rfl (by kernel_rfl) (by kernel_rfl) (by kernel_rfl) (fun _ _ _ h => h) (by rfl) ?_ (by assumption) ?_
              rotate_left
              · (intro w hSw; (try dsimp only at hSw); go_simp; (first | done | with_reducible rfl))
              try simp only [Act.put, List.setIfInBounds_toArray, List.set_cons_zero, List.set_cons_succ]
              refine held_yes (i := 16) (d := some 4) (v := ?_) rfl rfl (by kernel_rfl) (by kernel_rfl) (by kernel_rfl) (fun _ _ _ h => h) (by rfl) ?_ (by assumption) ?_
              rotate_left
              · (intro w hSw; (try dsimp only at hSw); go_simp; (first | done | with_reducible rfl))
              try simp only [Act.put, List.setIfInBounds_toArray, List.set_cons_zero, List.set_cons_succ]
              refine wpAnyH_ready (rs := [13]) (by kernel_rfl) (by simp) ?_
              refine AllReadyH.cons rfl (fun K hK => ?_) AllReadyH.nil
              have e3 := (Hb6.out.cell z9).trans hv9
              go_simp
              refine hK.out _ _ ?_ (fun hHeld => ?_)
              · exact HS.out.cell
              clear hK K
              try simp only [Act.put, List.setIfInBounds_toArray, List.set_cons_zero, List.set_cons_succ]
              clear e3
              refine wpAnyH_ready (rs := [17]) (by kernel_rfl) (by simp) ?_
              refine AllReadyH.cons rfl (fun K hK => ?_) AllReadyH.nil
              go_simp
              refine hK.out _ _ ?_ (fun hHeld => ?_)
              · first | with_reducible assumption | exact HS.out.cell
              clear hK K
              try simp only [Act.put, List.setIfInBounds_toArray, List.set_cons_zero, List.set_cons_succ]
              refine wpAnyH_done (by kernel_rfl) ?_ _
              have zr := HS.out.2.2.2.cell 0
              go_wp2
              exact bodyPost_ret (v := .tuple #[.agg #[.slice A2 n2 c2], .int .i64 f, .int .i64 k, .int .i64 v9]) (by simp [results, Try.results34, go_sem, *]) rfl ⟨_, _, _, _, _, _, _, rfl, HN.out.1, HN.out.2.1, HN.out.2.2.1, HS.out.fin⟩
          · have r0 := HS.out.2.2.2.1.cell 0
            have r1 := HS.out.2.2.2.1.frozen 0
            have z5 := HS.out.cell
            have hwl := HS.out.2.2.2.1.lt
            (try simp only [World.drew, size_alloc1] at hwl)
            replace Hb6 := Lib.hid (Hb6.out.far (p := ⟨w.heap.size, 0, none⟩) (by dsimp only; omega) (.slice A2 n2 c2))
            replace Hb7 := Lib.hid (Hb7.out.far (p := ⟨w.heap.size, 0, none⟩) (by dsimp only; omega) (.slice A2 n2 c2))
            replace HS := Lib.hid (HS.out.store HN.out.2.2.2)
            go_simp
            refine hK.out _ _ ?_ (fun hHeld => ?_)
            · exact HS.out.cell
            clear hK K
            try simp only [Act.put, List.setIfInBounds_toArray, List.set_cons_zero, List.set_cons_succ]
            clear r0 r1 z5 hwl
            refine held_yes (i := 15) (d := some 3) (v := ?_) rfl rfl (by kernel_rfl) (by kernel_rfl) (by kernel_rfl) (fun _ _ _ h => h) (by rfl) ?_ (by assumption) ?_
            rotate_left
            · (intro w hSw; (try dsimp only at hSw); go_simp; (first | done | with_reducible rfl))
            try simp only [Act.put, List.setIfInBounds_toArray, List.set_cons_zero, List.set_cons_succ]
            refine held_yes (i := 16) (d := some 4) (v := ?_) rfl rfl (by kernel_rfl) (by kernel_rfl) (by kernel_rfl) (fun _ _ _ h => h) (by rfl) ?_ (by assumption) ?_
            rotate_left
            · (intro w hSw; (try dsimp only at hSw); go_simp; (first | done | with_reducible rfl))
            try simp only [Act.put, List.setIfInBounds_toArray, List.set_cons_zero, List.set_cons_succ]
            refine wpAnyH_ready (rs := [11]) (by kernel_rfl) (by simp) ?_
            refine AllReadyH.cons rfl (fun K hK => ?_) AllReadyH.nil
            have e8 := (Hb7.out.cell y9).trans hy9
            go_simp
            refine hK.out _ _ ?_ (fun hHeld => ?_)
            · exact HS.out.cell
            clear hK K
            try simp only [Act.put, List.setIfInBounds_toArray, List.set_cons_zero, List.set_cons_succ]
            clear e8
            obtain ⟨v9, hv9⟩ := lit3 z9 hz9 (IntKind.i64.wrap (x4 - 1)) 48 (-2)
            refine held_yes (i := 12) (d := some 30) (v := ?_) rfl rfl (by kernel_rfl) (by kernel_rfl) (by kernel_rfl) (fun _ _ _ h => h) (by rfl) ?_ (by assumption) ?_
            rotate_left
            · (intro w hSw; (try dsimp only at hSw); go_simp; (first | done | with_reducible rfl))
            try simp only [Act.put, List.setIfInBounds_toArray, List.set_cons_zero, List.set_cons_succ]
            refine wpAnyH_ready (rs := [13]) (by kernel_rfl) (by simp) ?_
            refine AllReadyH.cons rfl (fun K hK => ?_) AllReadyH.nil
            have e3 := (Hb6.out.cell z9).trans hv9
            go_simp
            refine hK.out _ _ ?_ (fun hHeld => ?_)
            · exact HS.out.cell
            clear hK K
            try simp only [Act.put, List.setIfInBounds_toArray, List.set_cons_zero, List.set_cons_succ]
            clear e3
            refine wpAnyH_ready (rs := [17]) (by kernel_rfl) (by simp) ?_
            refine AllReadyH.cons rfl (fun K hK => ?_) AllReadyH.nil
            go_simp
            refine hK.out _ _ ?_ (fun hHeld => ?_)
            · first | with_reducible assumption | exact HS.out.cell
            clear hK K
            try simp only [Act.put, List.setIfInBounds_toArray, List.set_cons_zero, List.set_cons_succ]
            refine wpAnyH_done (by kernel_rfl) ?_ _
            have zr := HS.out.2.2.2.cell 0
            go_wp2
            exact bodyPost_ret (v := .tuple #[.agg #[.slice A2 n2 c2], .int .i64 f, .int .i64 k, .int .i64 v9]) (by simp [results, Try.results34, go_sem, *]) rfl ⟨_, _, _, _, _, _, _, rfl, HN.out.1, HN.out.2.1, HN.out.2.2.1, HS.out.fin⟩
        · have r0 := HS.out.2.2.2.1.cell 0
          have r1 := HS.out.2.2.2.1.frozen 0
          have z5 := HS.out.cell
          have hwl := HS.out.2.2.2.1.lt
          (try simp only [World.drew, size_alloc1] at hwl)
          replace Hb6 := Lib.hid (Hb6.out.far (p := ⟨w.heap.size, 0, none⟩) (by dsimp only; omega) (.slice A2 n2 c2))
          replace HS := Lib.hid (HS.out.store HN.out.2.2.2)
          go_simp
          refine hK.out _ _ ?_ (fun hHeld => ?_)
          · exact HS.out.cell
          clear hK K
          try simp only [Act.put, List.setIfInBounds_toArray, List.set_cons_zero, List.set_cons_succ]
          clear r0 r1 z5 hwl
          refine held_yes (i := 15) (d := some 3) (v := ?_) rfl rfl (by kernel_rfl) (by kernel_rfl) (by kernel_rfl) (fun _ _ _ h => h) (by rfl) ?_ (by assumption) ?_
          rotate_left
          · (intro w hSw; (try dsimp only at hSw); go_simp; (first | done | with_reducible rfl))
          try simp only [Act.put, List.setIfInBounds_toArray, List.set_cons_zero, List.set_cons_succ]
          refine held_yes (i := 16) (d := some 4) (v := ?_) rfl rfl (by kernel_rfl) (by kernel_rfl) (by kernel_rfl) (fun _ _ _ h => h) (by rfl) ?_ (by assumption) ?_
          rotate_left
          · (intro w hSw; (try dsimp only at hSw); go_simp; (first | done | with_reducible rfl))
          try simp only [Act.put, List.setIfInBounds_toArray, List.set_cons_zero, List.set_cons_succ]
          refine wpAnyH_ready (rs := [7]) (by kernel_rfl) (by simp) ?_
          refine AllReadyH.cons rfl (fun K hK => ?_) AllReadyH.nil
          have hl0 : Blk (World.alloc (World.setCell w9 ⟨w.heap.size, 0, none⟩ (.slice A2 n2 c2)) (.cells #[.int .i64 0, .int .i64 0, .int .i64 0, .int .i64 0, .int .i64 0, .int .i64 0, .int .i64 1, .int .i64 2] 3)) (w9.heap.size) 3 #[.int .i64 0, .int .i64 0, .int .i64 0, .int .i64 0, .int .i64 0, .int .i64 0, .int .i64 1, .int .i64 2] := by have h := Blk.new (World.setCell w9 ⟨w.heap.size, 0, none⟩ (.slice A2 n2 c2)) 3 #[.int .i64 0, .int .i64 0, .int .i64 0, .int .i64 0, .int .i64 0, .int .i64 0, .int .i64 1, .int .i64 2]; (try simp only [World.drew, size_alloc1, size_set] at h); exact h
          replace Hb6 := Lib.hid (Hb6.out.keep (grown_alloc (grown_refl _ none) (.cells #[.int .i64 0, .int .i64 0, .int .i64 0, .int .i64 0, .int .i64 0, .int .i64 0, .int .i64 1, .int .i64 2] 3)))
          have Hb7 := Lib.hid hl0
          clear hl0
          replace HS := Lib.hid (HS.out.kept (grown_alloc (grown_refl _ none) (.cells #[.int .i64 0, .int .i64 0, .int .i64 0, .int .i64 0, .int .i64 0, .int .i64 0, .int .i64 1, .int .i64 2] 3)))
          go_simp
          refine hK.out _ _ ?_ (fun hHeld => ?_)
          · exact HS.out.cell
          clear hK K
          try simp only [Act.put, List.setIfInBounds_toArray, List.set_cons_zero, List.set_cons_succ]
          obtain ⟨z9, hz9, hy9⟩ := lit8 y9 (by omega)
          have z0 : decide ((0 : Int) ≤ z9) = true := decide_eq_true (by omega)
          have z1 : (z9 : Int) < 3 := by omega
          refine held_yes (i := 10) (d := some 28) (v := ?_) rfl rfl (by kernel_rfl) (by kernel_rfl) (by kernel_rfl) (fun _ _ _ h => h) (by rfl) ?_ (by assumption) ?_
          rotate_left
          · (intro w hSw; (try dsimp only at hSw); go_simp; (first | done | with_reducible rfl))
          try simp only [Act.put, List.setIfInBounds_toArray, List.set_cons_zero, List.set_cons_succ]
          refine wpAnyH_ready (rs := [11]) (by kernel_rfl) (by simp) ?_
          refine AllReadyH.cons rfl (fun K hK => ?_) AllReadyH.nil
          have e8 := (Hb7.out.cell y9).trans hy9
          go_simp
          refine hK.out _ _ ?_ (fun hHeld => ?_)
          · exact HS.out.cell
          clear hK K
          try simp only [Act.put, List.setIfInBounds_toArray, List.set_cons_zero, List.set_cons_succ]
          clear e8
          obtain ⟨v9, hv9⟩ := lit3 z9 hz9 (IntKind.i64.wrap (x4 - 1)) 48 (-2)
          refine held_yes (i := 12) (d := some 30) (v := ?_) rfl rfl (by kernel_rfl) (by kernel_rfl) (by kernel_rfl) (fun _ _ _ h => h) (by rfl) ?_ (by assumption) ?_
          rotate_left
          · (intro w hSw; (try dsimp only at hSw); go_simp; (first | done | with_reducible rfl))
          try simp only [Act.put, List.setIfInBounds_toArray, List.set_cons_zero, List.set_cons_succ]
          refine wpAnyH_ready (rs := [13]) (by kernel_rfl) (by simp) ?_
          refine AllReadyH.cons rfl (fun K hK => ?_) AllReadyH.nil
          have e3 := (Hb6.out.cell z9).trans hv9
          go_simp
          refine hK.out _ _ ?_ (fun hHeld => ?_)
          · exact HS.out.cell
          clear hK K
          try simp only [Act.put, List.setIfInBounds_toArray, List.set_cons_zero, List.set_cons_succ]
          clear e3
          refine wpAnyH_ready (rs := [17]) (by kernel_rfl) (by simp) ?_
          refine AllReadyH.cons rfl (fun K hK => ?_) AllReadyH.nil
          go_simp
          refine hK.out _ _ ?_ (fun hHeld => ?_)
          · first | with_reducible assumption | exact HS.out.cell
          clear hK K
          try simp only [Act.put, List.setIfInBounds_toArray, List.set_cons_zero, List.set_cons_succ]
          refine wpAnyH_done (by kernel_rfl) ?_ _
          have zr := HS.out.2.2.2.cell 0
          go_wp2
          exact bodyPost_ret (v := .tuple #[.agg #[.slice A2 n2 c2], .int .i64 f, .int .i64 k, .int .i64 v9]) (by simp [results, Try.results34, go_sem, *]) rfl ⟨_, _, _, _, _, _, _, rfl, HN.out.1, HN.out.2.1, HN.out.2.2.1, HS.out.fin⟩
    · have hl0 : Blk (World.alloc w4 (.cells #[.int .i64 0, .int .i64 0, .int .i64 0, .int .i64 0, .int .i64 0, .int .i64 0, .int .i64 1, .int .i64 2] 3)) (w4.heap.size) 3 #[.int .i64 0, .int .i64 0, .int .i64 0, .int .i64 0, .int .i64 0, .int .i64 0, .int .i64 1, .int .i64 2] := by have h := Blk.new w4 3 #[.int .i64 0, .int .i64 0, .int .i64 0, .int .i64 0, .int .i64 0, .int .i64 0, .int .i64 1, .int .i64 2]; (try simp only [World.drew, size_alloc1, size_set] at h); exact h
      have hqb7 := HS.out.2.1.lt
      (try simp only [World.drew, size_alloc1] at hqb7)
      have Hb7 := Lib.hid hl0
      clear hl0
      replace HS := Lib.hid (HS.out.kept (grown_alloc (grown_refl _ none) (.cells #[.int .i64 0, .int .i64 0, .int .i64 0, .int .i64 0, .int .i64 0, .int .i64 0, .int .i64 1, .int .i64 2] 3)))
      go_simp
      refine hK.out _ _ ?_ (fun hHeld => ?_)
      · exact HS.out.cell
      clear hK K
      try simp only [Act.put, List.setIfInBounds_toArray, List.set_cons_zero, List.set_cons_succ]
      refine wpAnyH_ready (rs := [6, 9]) (by kernel_rfl) (by simp) ?_
      refine AllReadyH.cons rfl (fun K hK => ?_) (AllReadyH.cons rfl (fun K hK => ?_) AllReadyH.nil)
      · have hl0 : Blk (World.alloc (World.alloc w4 (.cells #[.int .i64 0, .int .i64 0, .int .i64 0, .int .i64 0, .int .i64 0, .int .i64 0, .int .i64 1, .int .i64 2] 3)) (.cells #[.int .i64 (IntKind.i64.wrap (x4 - 1)), .int .i64 48, .int .i64 (-2)] 3)) (w4.heap.size + 1) 3 #[.int .i64 (IntKind.i64.wrap (x4 - 1)), .int .i64 48, .int .i64 (-2)] := by have h := Blk.new (World.alloc w4 (.cells #[.int .i64 0, .int .i64 0, .int .i64 0, .int .i64 0, .int .i64 0, .int .i64 0, .int .i64 1, .int .i64 2] 3)) 3 #[.int .i64 (IntKind.i64.wrap (x4 - 1)), .int .i64 48, .int .i64 (-2)]; (try simp only [World.drew, size_alloc1, size_set] at h); exact h
        have hqb6 := HS.out.2.1.lt
        (try simp only [World.drew, size_alloc1] at hqb6)
        replace Hb7 := Lib.hid (Hb7.out.keep (grown_alloc (grown_refl _ none) (.cells #[.int .i64 (IntKind.i64.wrap (x4 - 1)), .int .i64 48, .int .i64 (-2)] 3)))
        have Hb6 := Lib.hid hl0
        clear hl0
        replace HS := Lib.hid (HS.out.kept (grown_alloc (grown_refl _ none) (.cells #[.int .i64 (IntKind.i64.wrap (x4 - 1)), .int .i64 48, .int .i64 (-2)] 3)))
        go_simp
        refine hK.out _ _ ?_ (fun hHeld => ?_)
        · exact HS.out.cell
        clear hK K
        try simp only [Act.put, List.setIfInBounds_toArray, List.set_cons_zero, List.set_cons_succ]
        refine wpAnyH_ready (rs := [9]) (by kernel_rfl) (by simp) ?_
        refine AllReadyH.cons rfl (fun K hK => ?_) AllReadyH.nil
        go_simp
        go_at_call 56
        refine (pick_lt _ _ _ _ _ HS.out.2.1 (by omega) (by omega)).mono ?_
        rintro e w9 ⟨x9, rfl, u9, v9, h9, hg9⟩
        replace Hb6 := Lib.hid (Hb6.out.grown hg9 (by intro e; injection e with e; omega))
        replace Hb7 := Lib.hid (Hb7.out.grown hg9 (by intro e; injection e with e; omega))
        replace HS := Lib.hid (HS.out.grown hg9 h9)
        clear h9 hg9
        refine hK.out _ _ ?_ (fun hHeld => ?_)
        · exact HS.out.cell
        clear hK K
        try simp only [Act.put, List.setIfInBounds_toArray, List.set_cons_zero, List.set_cons_succ]
        obtain ⟨y9, rfl⟩ := Int.eq_ofNat_of_zero_le u9
        have y0 : decide ((0 : Int) ≤ y9) = true := decide_eq_true (by omega)
        have y1 : (y9 : Int) < 8 := by omega
        obtain ⟨z9, hz9, hy9⟩ := lit8 y9 (by omega)
        have z0 : decide ((0 : Int) ≤ z9) = true := decide_eq_true (by omega)
        have z1 : (z9 : Int) < 3 := by omega
        refine held_yes (i := 10) (d := some 28) (v := ?_) rfl rfl (by kernel_rfl) (by kernel_rfl) (by kernel_rfl) (fun _ _ _ h => h) (by rfl) ?_ (by assumption) ?_
        rotate_left
        · (intro w hSw; (try dsimp only at hSw); go_simp; (first | done | with_reducible rfl))
        try simp only [Act.put, List.setIfInBounds_toArray, List.set_cons_zero, List.set_cons_succ]
        refine wpAnyH_ready (rs := [11, 14]) (by kernel_rfl) (by simp) ?_
        refine AllReadyH.cons rfl (fun K hK => ?_) (AllReadyH.cons rfl (fun K hK => ?_) AllReadyH.nil)
        · have e8 := (Hb7.out.cell y9).trans hy9
          go_simp
          refine hK.out _ _ ?_ (fun hHeld => ?_)
          · exact HS.out.cell
          clear hK K
          try simp only [Act.put, List.setIfInBounds_toArray, List.set_cons_zero, List.set_cons_succ]
          clear e8
          obtain ⟨v9, hv9⟩ := lit3 z9 hz9 (IntKind.i64.wrap (x4 - 1)) 48 (-2)
          refine held_yes (i := 12) (d := some 30) (v := ?_) rfl rfl (by kernel_rfl) (by kernel_rfl) (by kernel_rfl) (fun _ _ _ h => h) (by rfl) ?_ (by assumption) ?_
          rotate_left
          · (intro w hSw; (try dsimp only at hSw); go_simp; (first | done | with_reducible rfl))
          try simp only [Act.put, List.setIfInBounds_toArray, List.set_cons_zero, List.set_cons_succ]
          refine wpAnyH_ready (rs := [13, 14]) (by kernel_rfl) (by simp) ?_
          refine AllReadyH.cons rfl (fun K hK => ?_) (AllReadyH.cons rfl (fun K hK => ?_) AllReadyH.nil)
          · have e3 := (Hb6.out.cell z9).trans hv9
            go_simp
            refine hK.out _ _ ?_ (fun hHeld => ?_)
            · exact HS.out.cell
            clear hK K
            try simp only [Act.put, List.setIfInBounds_toArray, List.set_cons_zero, List.set_cons_succ]
            clear e3
            refine wpAnyH_ready (rs := [14]) (by kernel_rfl) (by simp) ?_
            refine AllReadyH.cons rfl (fun K hK => ?_) AllReadyH.nil
            have r0 := HS.out.2.2.2.1.cell 0
            have r1 := HS.out.2.2.2.1.frozen 0
            have z5 := HS.out.cell
            have hwl := HS.out.2.2.2.1.lt
            (try simp only [World.drew, size_alloc1] at hwl)
            replace Hb6 := Lib.hid (Hb6.out.far (p := ⟨w.heap.size, 0, none⟩) (by dsimp only; omega) (.slice A2 n2 c2))
            replace Hb7 := Lib.hid (Hb7.out.far (p := ⟨w.heap.size, 0, none⟩) (by dsimp only; omega) (.slice A2 n2 c2))
            replace HS := Lib.hid (HS.out.store HN.out.2.2.2)
            go_simp
            refine hK.out _ _ ?_ (fun hHeld => ?_)
            · exact HS.out.cell
            clear hK K
            try simp only [Act.put, List.setIfInBounds_toArray, List.set_cons_zero, List.set_cons_succ]
            clear r0 r1 z5 hwl
            refine held_yes (i := 15) (d := some 3) (v := ?_) rfl rfl (by kernel_rfl) (by kernel_rfl) (by kernel_rfl) (fun _ _ _ h => h) (by rfl) ?_ (by assumption) ?_
            rotate_left
            · (intro w hSw; (try dsimp only at hSw); go_simp; (first | done | with_reducible rfl))
            try simp only [Act.put, List.setIfInBounds_toArray, List.set_cons_zero, List.set_cons_succ]
            refine held_yes (i := 16) (d := some 4) (v := ?_) rfl rfl (by kernel_rfl) (by kernel_rfl) (by kernel_rfl) (fun _ _ _ h => h) (by rfl) ?_ (by assumption) ?_
            rotate_left
            · (intro w hSw; (try dsimp only at hSw); go_simp; (first | done | with_reducible rfl))
            try simp only [Act.put, List.setIfInBounds_toArray, List.set_cons_zero, List.set_cons_succ]
            refine wpAnyH_ready (rs := [17]) (by kernel_rfl) (by simp) ?_
            refine AllReadyH.cons rfl (fun K hK => ?_) AllReadyH.nil
            go_simp
            refine hK.out _ _ ?_ (fun hHeld => ?_)
            · first | with_reducible assumption | exact HS.out.cell
            clear hK K
            try simp only [Act.put, List.setIfInBounds_toArray, List.set_cons_zero, List.set_cons_succ]
            refine wpAnyH_done (by kernel_rfl) ?_ _
            have zr := HS.out.2.2.2.cell 0
            go_wp2
            exact bodyPost_ret (v := .tuple #[.agg #[.slice A2 n2 c2], .int .i64 f, .int .i64 k, .int .i64 v9]) (by simp [results, Try.results34, go_sem, *]) rfl ⟨_, _, _, _, _, _, _, rfl, HN.out.1, HN.out.2.1, HN.out.2.2.1, HS.out.fin⟩
          · have r0 := HS.out.2.2.2.1.cell 0
            have r1 := HS.out.2.2.2.1.frozen 0
            have z5 := HS.out.cell
            have hwl := HS.out.2.2.2.1.lt
            (try simp only [World.drew, size_alloc1] at hwl)
            replace Hb6 := Lib.hid (Hb6.out.far (p := ⟨w.heap.size, 0, none⟩) (by dsimp only; omega) (.slice A2 n2 c2))
            replace Hb7 := Lib.hid (Hb7.out.far (p := ⟨w.heap.size, 0, none⟩) (by dsimp only; omega) (.slice A2 n2 c2))
            replace HS := Lib.hid (HS.out.store HN.out.2.2.2)
            go_simp
            refine hK.out _ _ ?_ (fun hHeld => ?_)
            · exact HS.out.cell
            clear hK K
            try simp only [Act.put, List.setIfInBounds_toArray, List.set_cons_zero, List.set_cons_succ]
            clear r0 r1 z5 hwl
            refine held_yes (i := 15) (d := some 3) (v := ?_) rfl rfl (by kernel_rfl) (by kernel_rfl) (by kernel_rfl) (fun _ _ _ h => h) (by rfl) ?_ (by assumption) ?_
            rotate_left
            · (intro w hSw; (try dsimp only at hSw); go_simp; (first | done | with_reducible rfl))
            try simp only [Act.put, List.setIfInBounds_toArray, List.set_cons_zero, List.set_cons_succ]
            refine held_yes (i := 16) (d := some 4) (v := ?_) rfl rfl (by kernel_rfl) (by kernel_rfl) (by kernel_rfl) (fun _ _ _ h => h) (by rfl) ?_ (by assumption) ?_
            rotate_left
            · (intro w hSw; (try dsimp only at hSw); go_simp; (first | done | with_reducible rfl))
            try simp only [Act.put, List.setIfInBounds_toArray, List.set_cons_zero, List.set_cons_succ]
            refine wpAnyH_ready (rs := [13]) (by kernel_rfl) (by simp) ?_
            refine AllReadyH.cons rfl (fun K hK => ?_) AllReadyH.nil
            have e3 := (Hb6.out.cell z9).trans hv9
            go_simp
            refine hK.out _ _ ?_ (fun hHeld => ?_)
            · exact HS.out.cell
            clear hK K
            try simp only [Act.put, List.setIfInBounds_toArray, List.set_cons_zero, List.set_cons_succ]
            clear e3
            refine wpAnyH_ready (rs := [17]) (by kernel_rfl) (by simp) ?_
            refine AllReadyH.cons rfl (fun K hK => ?_) AllReadyH.nil
            go_simp
            refine hK.out _ _ ?_ (fun hHeld => ?_)
            · first | with_reducible assumption | exact HS.out.cell
            clear hK K
            try simp only [Act.put, List.setIfInBounds_toArray, List.set_cons_zero, List.set_cons_succ]
            refine wpAnyH_done (by kernel_rfl) ?_ _
            have zr := HS.out.2.2.2.cell 0
            go_wp2
            exact bodyPost_ret (v := .tuple #[.agg #[.slice A2 n2 c2], .int .i64 f, .int .i64 k, .int .i64 v9]) (by simp [results, Try.results34, go_sem, *]) rfl ⟨_, _, _, _, _, _, _, rfl, HN.out.1, HN.out.2.1, HN.out.2.2.1, HS.out.fin⟩
        · have r0 := HS.out.2.2.2.1.cell 0
          have r1 := HS.out.2.2.2.1.frozen 0
          have z5 := HS.out.cell
          have hwl := HS.out.2.2.2.1.lt
          (try simp only [World.drew, size_alloc1] at hwl)
          replace Hb6 := Lib.hid (Hb6.out.far (p := ⟨w.heap.size, 0, none⟩) (by dsimp only; omega) (.slice A2 n2 c2))
          replace Hb7 := Lib.hid (Hb7.out.far (p := ⟨w.heap.size, 0, none⟩) (by dsimp only; omega) (.slice A2 n2 c2))
          replace HS := Lib.hid (HS.out.store HN.out.2.2.2)
          go_simp
          refine hK.out _ _ ?_ (fun hHeld => ?_)
          · exact HS.out.cell
          clear hK K
          try simp only [Act.put, List.setIfInBounds_toArray, List.set_cons_zero, List.set_cons_succ]
          clear r0 r1 z5 hwl
          refine held_yes (i := 15) (d := some 3) (v := ?_) rfl rfl (by kernel_rfl) (by kernel_rfl) (by kernel_rfl) (fun _ _ _ h => h) (by rfl) ?_ (by assumption) ?_
          rotate_left
          · (intro w hSw; (try dsimp only at hSw); go_simp; (first | done | with_reducible rfl))
          try simp only [Act.put, List.setIfInBounds_toArray, List.set_cons_zero, List.set_cons_succ]
          refine held_yes (i := 16) (d := some 4) (v := ?_) rfl rfl (by kernel_rfl) (by kernel_rfl) (by kernel_rfl) (fun _ _ _ h => h) (by rfl) ?_ (by assumption) ?_
          rotate_left
          · (intro w hSw; (try dsimp only at hSw); go_simp; (first | done | with_reducible rfl))
          try simp only [Act.put, List.setIfInBounds_toArray, List.set_cons_zero, List.set_cons_succ]
          refine wpAnyH_ready (rs := [11]) (by kernel_rfl) (by simp) ?_
          refine AllReadyH.cons rfl (fun K hK => ?_) AllReadyH.nil
          have e8 := (Hb7.out.cell y9).trans hy9
          go_simp
          refine hK.out _ _ ?_ (fun hHeld => ?_)
          · exact HS.out.cell
          clear hK K
          try simp only [Act.put, List.setIfInBounds_toArray, List.set_cons_zero, List.set_cons_succ]
          clear e8
          obtain ⟨v9, hv9⟩ := lit3 z9 hz9 (IntKind.i64.wrap (x4 - 1)) 48 (-2)
          refine held_yes (i := 12) (d := some 30) (v := ?_) rfl rfl (by kernel_rfl) (by kernel_rfl) (by kernel_rfl) (fun _ _ _ h => h) (by rfl) ?_ (by assumption) ?_
          rotate_left
          · (intro w hSw; (try dsimp only at hSw); go_simp; (first | done | with_reducible rfl))
          try simp only [Act.put, List.setIfInBounds_toArray, List.set_cons_zero, List.set_cons_succ]
          refine wpAnyH_ready (rs := [13]) (by kernel_rfl) (by simp) ?_
          refine AllReadyH.cons rfl (fun K hK => ?_) AllReadyH.nil
          have e3 := (Hb6.out.cell z9).trans hv9
          go_simp
          refine hK.out _ _ ?_ (fun hHeld => ?_)
          · exact HS.out.cell
          clear hK K
          try simp only [Act.put, List.setIfInBounds_toArray, List.set_cons_zero, List.set_cons_succ]
          clear e3
          refine wpAnyH_ready (rs := [17]) (by kernel_rfl) (by simp) ?_
          refine AllReadyH.cons rfl (fun K hK => ?_) AllReadyH.nil
          go_simp
          refine hK.out _ _ ?_ (fun hHeld => ?_)
          · first | with_reducible assumption | exact HS.out.cell
          clear hK K
          try simp only [Act.put, List.setIfInBounds_toArray, List.set_cons_zero, List.set_cons_succ]
          refine wpAnyH_done (by kernel_rfl) ?_ _
          have zr := HS.out.2.2.2.cell 0
          go_wp2
          exact bodyPost_ret (v := .tuple #[.agg #[.slice A2 n2 c2], .int .i64 f, .int .i64 k, .int .i64 v9]) (by simp [results, Try.results34, go_sem, *]) rfl ⟨_, _, _, _, _, _, _, rfl, HN.out.1, HN.out.2.1, HN.out.2.2.1, HS.out.fin⟩
      · go_simp
        go_at_call 56
        refine (pick_lt _ _ _ _ _ HS.out.2.1 (by omega) (by omega)).mono ?_
        rintro e w9 ⟨x9, rfl, u9, v9, h9, hg9⟩
        replace Hb7 := Lib.hid (Hb7.out.grown hg9 (by intro e; injection e with e; omega))
        replace HS := Lib.hid (HS.out.grown hg9 h9)
        clear h9 hg9
        refine hK.out _ _ ?_ (fun hHeld => ?_)
        · exact HS.out.cell
        clear hK K
        try simp only [Act.put, List.setIfInBounds_toArray, List.set_cons_zero, List.set_cons_succ]
        obtain ⟨y9, rfl⟩ := Int.eq_ofNat_of_zero_le u9
        have y0 : decide ((0 : Int) ≤ y9) = true := decide_eq_true (by omega)
        have y1 : (y9 : Int) < 8 := by omega
        obtain ⟨z9, hz9, hy9⟩ := lit8 y9 (by omega)
        have z0 : decide ((0 : Int) ≤ z9) = true := decide_eq_true (by omega)
        have z1 : (z9 : Int) < 3 := by omega
        refine held_yes (i := 10) (d := some 28) (v := ?_) rfl rfl (by kernel_rfl) (by kernel_rfl) (by kernel_rfl) (fun _ _ _ h => h) (by rfl) ?_ (by assumption) ?_
        rotate_left
        · (intro w hSw; (try dsimp only at hSw); go_simp; (first | done | with_reducible rfl))
        try simp only [Act.put, List.setIfInBounds_toArray, List.set_cons_zero, List.set_cons_succ]
        refine wpAnyH_ready (rs := [6, 11, 14]) (by kernel_rfl) (by simp) ?_
        refine AllReadyH.cons rfl (fun K hK => ?_) (AllReadyH.cons rfl (fun K hK => ?_) (AllReadyH.cons rfl (fun K hK => ?_) AllReadyH.nil))
        · have hl0 : Blk (World.alloc w9 (.cells #[.int .i64 (IntKind.i64.wrap (x4 - 1)), .int .i64 48, .int .i64 (-2)] 3)) (w9.heap.size) 3 #[.int .i64 (IntKind.i64.wrap (x4 - 1)), .int .i64 48, .int .i64 (-2)] := by have h := Blk.new w9 3 #[.int .i64 (IntKind.i64.wrap (x4 - 1)), .int .i64 48, .int .i64 (-2)]; (try simp only [World.drew, size_alloc1, size_set] at h); exact h
          have hqb6 := HS.out.2.1.lt
          (try simp only [World.drew, size_alloc1] at hqb6)
          replace Hb7 := Lib.hid (Hb7.out.keep (grown_alloc (grown_refl _ none) (.cells #[.int .i64 (IntKind.i64.wrap (x4 - 1)), .int .i64 48, .int .i64 (-2)] 3)))
          have Hb6 := Lib.hid hl0
          clear hl0
          replace HS := Lib.hid (HS.out.kept (grown_alloc (grown_refl _ none) (.cells #[.int .i64 (IntKind.i64.wrap (x4 - 1)), .int .i64 48, .int .i64 (-2)] 3)))
          go_simp
          refine hK.out _ _ ?_ (fun hHeld => ?_)
          · exact HS.out.cell
          clear hK K
          try simp only [Act.put, List.setIfInBounds_toArray, List.set_cons_zero, List.set_cons_succ]
          refine wpAnyH_ready (rs := [11, 14]) (by kernel_rfl) (by simp) ?_
          refine AllReadyH.cons rfl (fun K hK => ?_) (AllReadyH.cons rfl (fun K hK => ?_) AllReadyH.nil)
          · have e8 := (Hb7.out.cell y9).trans hy9
            go_simp
            refine hK.out _ _ ?_ (fun hHeld => ?_)
            · exact HS.out.cell
            clear hK K
            try simp only [Act.put, List.setIfInBounds_toArray, List.set_cons_zero, List.set_cons_succ]
            clear e8
            obtain ⟨v9, hv9⟩ := lit3 z9 hz9 (IntKind.i64.wrap (x4 - 1)) 48 (-2)
            refine held_yes (i := 12) (d := some 30) (v := ?_) rfl rfl (by kernel_rfl) (by kernel_rfl) (by kernel_rfl) (fun _ _ _ h => h) (by rfl) ?_ (by assumption) ?_
            rotate_left
            · (intro w hSw; (try dsimp only at hSw); go_simp; (first | done | with_reducible rfl))
            try simp only [Act.put, List.setIfInBounds_toArray, List.set_cons_zero, List.set_cons_succ]
            refine wpAnyH_ready (rs := [13, 14]) (by kernel_rfl) (by simp) ?_
            refine AllReadyH.cons rfl (fun K hK => ?_) (AllReadyH.cons rfl (fun K hK => ?_) AllReadyH.nil)
            · have e3 := (Hb6.out.cell z9).trans hv9
              go_simp
              refine hK.out _ _ ?_ (fun hHeld => ?_)
              · exact HS.out.cell
              clear hK K
              try simp only [Act.put, List.setIfInBounds_toArray, List.set_cons_zero, List.set_cons_succ]
              clear e3
              refine wpAnyH_ready (rs := [14]) (by kernel_rfl) (by simp) ?_
              refine AllReadyH.cons rfl (fun K hK => ?_) AllReadyH.nil
              have r0 := HS.out.2.2.2.1.cell 0
              have r1 := HS.out.2.2.2.1.frozen 0
              have z5 := HS.out.cell
              have hwl := HS.out.2.2.2.1.lt
              (try simp only [World.drew, size_alloc1] at hwl)
              replace Hb6 := Lib.hid (Hb6.out.far (p := ⟨w.heap.size, 0, none⟩) (by dsimp only; omega) (.slice A2 n2 c2))
              replace Hb7 := Lib.hid (Hb7.out.far (p := ⟨w.heap.size, 0, none⟩) (by dsimp only; omega) (.slice A2 n2 c2))
              replace HS := Lib.hid (HS.out.store HN.out.2.2.2)
              go_simp
              refine hK.out _ _ ?_ (fun hHeld => ?_)
              · exact HS.out.cell
              clear hK K
              try simp only [Act.put, List.setIfInBounds_toArray, List.set_cons_zero, List.set_cons_succ]
              clear r0 r1 z5 hwl
              refine held_yes (i := 15) (d := some 3) (v := ?_) rfl rfl (by kernel_rfl) (by kernel_rfl) (by kernel_rfl) (fun _ _ _ h => h) (by rfl) ?_ (by assumption) ?_
              rotate_left
              · (intro w hSw; (try dsimp only at hSw); go_simp; (first | done | with_reducible rfl))
              try simp only [Act.put, List.setIfInBounds_toArray, List.set_cons_zero, List.set_cons_succ]
              refine held_yes (i := 16) (d := some 4) (v := ?_) rfl rfl (by kernel_rfl) (by kernel_rfl) (by kernel_rfl) (fun _ _ _ h => h) (by rfl) ?_ (by assumption) ?_
              rotate_left
              · (intro w hSw; (try dsimp only at hSw); go_simp; (first | done | with_reducible rfl))
              try simp only [Act.put, List.setIfInBounds_toArray, List.set_cons_zero, List.set_cons_succ]
              refine wpAnyH_ready (rs := [17]) (by kernel_rfl) (by simp) ?_
              refine AllReadyH.cons rfl (fun K hK => ?_) AllReadyH.nil
              go_simp
              refine hK.out _ _ ?_ (fun hHeld => ?_)
              · first | with_reducible assumption | exact HS.out.cell
              clear hK K
              try simp only [Act.put, List.setIfInBounds_toArray, List.set_cons_zero, List.set_cons_succ]
              refine wpAnyH_done (by kernel_rfl) ?_ _
              have zr := HS.out.2.2.2.cell 0
              go_wp2
              exact bodyPost_ret (v := .tuple #[.agg #[.slice A2 n2 c2], .int .i64 f, .int .i64 k, .int .i64 v9]) (by simp [results, Try.results34, go_sem, *]) rfl ⟨_, _, _, _, _, _, _, rfl, HN.out.1, HN.out.2.1, HN.out.2.2.1, HS.out.fin⟩
            · have r0 := HS.out.2.2.2.1.cell 0
              have r1 := HS.out.2.2.2.1.frozen 0
              have z5 := HS.out.cell
              have hwl := HS.out.2.2.2.1.lt
              (try simp only [World.drew, size_alloc1] at hwl)
              replace Hb6 := Lib.hid (Hb6.out.far (p := ⟨w.heap.size, 0, none⟩) (by dsimp only; omega) (.slice A2 n2 c2))
              replace Hb7 := Lib.hid (Hb7.out.far (p := ⟨w.heap.size, 0, none⟩) (by dsimp only; omega) (.slice A2 n2 c2))
              replace HS := Lib.hid (HS.out.store HN.out.2.2.2)
              go_simp
              refine hK.out _ _ ?_ (fun hHeld => ?_)
              · exact HS.out.cell
              clear hK K
              try simp only [Act.put, List.setIfInBounds_toArray, List.set_cons_zero, List.set_cons_succ]
              clear r0 r1 z5 hwl
              refine held_yes (i := 15) (d := some 3) (v := ?_) rfl rfl (by kernel_rfl) (by kernel_rfl) (by kernel_rfl) (fun _ _ _ h => h) (by rfl) ?_ (by assumption) ?_
              rotate_left
              · (intro w hSw; (try dsimp only at hSw); go_simp; (first | done | with_reducible rfl))
              try simp only [Act.put, List.setIfInBounds_toArray, List.set_cons_zero, List.set_cons_succ]
              refine held_yes (i := 16) (d := some 4) (v := ?_) rfl rfl (by kernel_rfl) (by kernel_rfl) (by kernel_rfl) (fun _ _ _ h => h) (by rfl) ?_ (by assumption) ?_
              rotate_left
              · (intro w hSw; (try dsimp only at hSw); go_simp; (first | done | with_reducible rfl))
              try simp only [Act.put, List.setIfInBounds_toArray, List.set_cons_zero, List.set_cons_succ]
              refine wpAnyH_ready (rs := [13]) (by kernel_rfl) (by simp) ?_
              refine AllReadyH.cons rfl (fun K hK => ?_) AllReadyH.nil
              have e3 := (Hb6.out.cell z9).trans hv9
              go_simp
              refine hK.out _ _ ?_ (fun hHeld => ?_)
              · exact HS.out.cell
              clear hK K
              try simp only [Act.put, List.setIfInBounds_toArray, List.set_cons_zero, List.set_cons_succ]
              clear e3
              refine wpAnyH_ready (rs := [17]) (by kernel_rfl) (by simp) ?_
              refine AllReadyH.cons rfl (fun K hK => ?_) AllReadyH.nil
              go_simp
              refine hK.out _ _ ?_ (fun hHeld => ?_)
              · first | with_reducible assumption | exact HS.out.cell
              clear hK K
              try simp only [Act.put, List.setIfInBounds_toArray, List.set_cons_zero, List.set_cons_succ]
              refine wpAnyH_done (by kernel_rfl) ?_ _
              have zr := HS.out.2.2.2.cell 0
              go_wp2
              exact bodyPost_ret (v := .tuple #[.agg #[.slice A2 n2 c2], .int .i64 f, .int .i64 k, .int .i64 v9]) (by simp [results, Try.results34, go_sem, *]) rfl ⟨_, _, _, _, _, _, _, rfl, HN.out.1, HN.out.2.1, HN.out.2.2.1, HS.out.fin⟩
          · have r0 := HS.out.2.2.2.1.cell 0
            have r1 := HS.out.2.2.2.1.frozen 0
            have z5 := HS.out.cell
            have hwl := HS.out.2.2.2.1.lt
            (try simp only [World.drew, size_alloc1] at hwl)
            replace Hb6 := Lib.hid (Hb6.out.far (p := ⟨w.heap.size, 0, none⟩) (by dsimp only; omega) (.slice A2 n2 c2))
            replace Hb7 := Lib.hid (Hb7.out.far (p := ⟨w.heap.size, 0, none⟩) (by dsimp only; omega) (.slice A2 n2 c2))
            replace HS := Lib.hid (HS.out.store HN.out.2.2.2)
            go_simp
            refine hK.out _ _ ?_ (fun hHeld => ?_)
            · exact HS.out.cell
            clear hK K
            try simp only [Act.put, List.setIfInBounds_toArray, List.set_cons_zero, List.set_cons_succ]
            clear r0 r1 z5 hwl
            refine held_yes (i := 15) (d := some 3) (v := ?_) rfl rfl (by kernel_rfl) (by kernel_rfl) (by kernel_rfl) (fun _ _ _ h => h) (by rfl) ?_ (by assumption) ?_
            rotate_left
            · (intro w hSw; (try dsimp only at hSw); go_simp; (first | done | with_reducible rfl))
            try simp only [Act.put, List.setIfInBounds_toArray, List.set_cons_zero, List.set_cons_succ]
            refine held_yes (i := 16) (d := some 4) (v := ?_) rfl rfl (by kernel_rfl) (by kernel_rfl) (by kernel_rfl) (fun _ _ _ h => h) (by rfl) ?_ (by assumption) ?_
            rotate_left
            · (intro w hSw; (try dsimp only at hSw); go_simp; (first | done | with_reducible rfl))
            try simp only [Act.put, List.setIfInBounds_toArray, List.set_cons_zero, List.set_cons_succ]
            refine wpAnyH_ready (rs := [11]) (by kernel_rfl) (by simp) ?_
            refine AllReadyH.cons rfl (fun K hK => ?_) AllReadyH.nil
            have e8 := (Hb7.out.cell y9).trans hy9
            go_simp
            refine hK.out _ _ ?_ (fun hHeld => ?_)
            · exact HS.out.cell
            clear hK K
            try simp only [Act.put, List.setIfInBounds_toArray, List.set_cons_zero, List.set_cons_succ]
            clear e8
            obtain ⟨v9, hv9⟩ := lit3 z9 hz9 (IntKind.i64.wrap (x4 - 1)) 48 (-2)
            refine held_yes (i := 12) (d := some 30) (v := ?_) rfl rfl (by kernel_rfl) (by kernel_rfl) (by kernel_rfl) (fun _ _ _ h => h) (by rfl) ?_ (by assumption) ?_
            rotate_left
            · (intro w hSw; (try dsimp only at hSw); go_simp; (first | done | with_reducible rfl))
            try simp only [Act.put, List.setIfInBounds_toArray, List.set_cons_zero, List.set_cons_succ]
            refine wpAnyH_ready (rs := [13]) (by kernel_rfl) (by simp) ?_
            refine AllReadyH.cons rfl (fun K hK => ?_) AllReadyH.nil
            have e3 := (Hb6.out.cell z9).trans hv9
            go_simp
            refine hK.out _ _ ?_ (fun hHeld => ?_)
            · exact HS.out.cell
            clear hK K
            try simp only [Act.put, List.setIfInBounds_toArray, List.set_cons_zero, List.set_cons_succ]
            clear e3
            refine wpAnyH_ready (rs := [17]) (by kernel_rfl) (by simp) ?_
            refine AllReadyH.cons rfl (fun K hK => ?_) AllReadyH.nil
            go_simp
            refine hK.out _ _ ?_ (fun hHeld => ?_)
            · first | with_reducible assumption | exact HS.out.cell
            clear hK K
            try simp only [Act.put, List.setIfInBounds_toArray, List.set_cons_zero, List.set_cons_succ]
            refine wpAnyH_done (by kernel_rfl) ?_ _
            have zr := HS.out.2.2.2.cell 0
            go_wp2
            exact bodyPost_ret (v := .tuple #[.agg #[.slice A2 n2 c2], .int .i64 f, .int .i64 k, .int .i64 v9]) (by simp [results, Try.results34, go_sem, *]) rfl ⟨_, _, _, _, _, _, _, rfl, HN.out.1, HN.out.2.1, HN.out.2.2.1, HS.out.fin⟩
        · have e8 := (Hb7.out.cell y9).trans hy9
          go_simp
          refine hK.out _ _ ?_ (fun hHeld => ?_)
          · exact HS.out.cell
          clear hK K
          try simp only [Act.put, List.setIfInBounds_toArray, List.set_cons_zero, List.set_cons_succ]
          clear e8
          refine wpAnyH_ready (rs := [6, 14]) (by kernel_rfl) (by simp) ?_
          refine AllReadyH.cons rfl (fun K hK => ?_) (AllReadyH.cons rfl (fun K hK => ?_) AllReadyH.nil)
          · have hl0 : Blk (World.alloc w9 (.cells #[.int .i64 (IntKind.i64.wrap (x4 - 1)), .int .i64 48, .int .i64 (-2)] 3)) (w9.heap.size) 3 #[.int .i64 (IntKind.i64.wrap (x4 - 1)), .int .i64 48, .int .i64 (-2)] := by have h := Blk.new w9 3 #[.int .i64 (IntKind.i64.wrap (x4 - 1)), .int .i64 48, .int .i64 (-2)]; (try simp only [World.drew, size_alloc1, size_set] at h); exact h
            have hqb6 := HS.out.2.1.lt
            (try simp only [World.drew, size_alloc1] at hqb6)
            replace Hb7 := Lib.hid (Hb7.out.keep (grown_alloc (grown_refl _ none) (.cells #[.int .i64 (IntKind.i64.wrap (x4 - 1)), .int .i64 48, .int .i64 (-2)] 3)))
            have Hb6 := Lib.hid hl0
            clear hl0
            replace HS := Lib.hid (HS.out.kept (grown_alloc (grown_refl _ none) (.cells #[.int .i64 (IntKind.i64.wrap (x4 - 1)), .int .i64 48, .int .i64 (-2)] 3)))
            go_simp
            refine hK.out _ _ ?_ (fun hHeld => ?_)
            · exact HS.out.cell
            clear hK K
            try simp only [Act.put, List.setIfInBounds_toArray, List.set_cons_zero, List.set_cons_succ]
            obtain ⟨v9, hv9⟩ := lit3 z9 hz9 (IntKind.i64.wrap (x4 - 1)) 48 (-2)
            refine held_yes (i := 12) (d := some 30) (v := ?_) rfl rfl (by kernel_rfl) (by kernel_rfl) (by kernel_rfl) (fun _ _ _ h => h) (by rfl) ?_ (by assumption) ?_
            rotate_left
            · (intro w hSw; (try dsimp only at hSw); go_simp; (first | done | with_reducible rfl))
            try simp only [Act.put, List.setIfInBounds_toArray, List.set_cons_zero, List.set_cons_succ]
            refine wpAnyH_ready (rs := [13, 14]) (by kernel_rfl) (by simp) ?_
            refine AllReadyH.cons rfl (fun K hK => ?_) (AllReadyH.cons rfl (fun K hK => ?_) AllReadyH.nil)
            · have e3 := (Hb6.out.cell z9).trans hv9
              go_simp
              refine hK.out _ _ ?_ (fun hHeld => ?_)
              · exact HS.out.cell
              clear hK K
              try simp only [Act.put, List.setIfInBounds_toArray, List.set_cons_zero, List.set_cons_succ]
              clear e3
              refine wpAnyH_ready (rs := [14]) (by kernel_rfl) (by simp) ?_
              refine AllReadyH.cons rfl (fun K hK => ?_) AllReadyH.nil
              have r0 := HS.out.2.2.2.1.cell 0
              have r1 := HS.out.2.2.2.1.frozen 0
              have z5 := HS.out.cell
              have hwl := HS.out.2.2.2.1.lt
              (try simp only [World.drew, size_alloc1] at hwl)
              replace Hb6 := Lib.hid (Hb6.out.far (p := ⟨w.heap.size, 0, none⟩) (by dsimp only; omega) (.slice A2 n2 c2))
              replace Hb7 := Lib.hid (Hb7.out.far (p := ⟨w.heap.size, 0, none⟩) (by dsimp only; omega) (.slice A2 n2 c2))
              replace HS := Lib.hid (HS.out.store HN.out.2.2.2)
              go_simp
              refine hK.out _ _ ?_ (fun hHeld => ?_)
              · exact HS.out.cell
              clear hK K
              try simp only [Act.put, List.setIfInBounds_toArray, List.set_cons_zero, List.set_cons_succ]
              clear r0 r1 z5 hwl
              refine held_yes (i := 15) (d := some 3) (v := ?_) rfl rfl (by kernel_rfl) (by kernel_rfl) (by kernel_rfl) (fun _ _ _ h => h) (by rfl) ?_ (by assumption) ?_
              rotate_left
              · (intro w hSw; (try dsimp only at hSw); go_simp; (first | done | with_reducible rfl))
              try simp only [Act.put, List.setIfInBounds_toArray, List.set_cons_zero, List.set_cons_succ]
              refine held_yes (i := 16) (d := some 4) (v := ?_) rfl rfl (by kernel_rfl) (by kernel_rfl) (by kernel_rfl) (fun _ _ _ h => h) (by rfl) ?_ (by assumption) ?_
              rotate_left
              · (intro w hSw; (try dsimp only at hSw); go_simp; (first | done | with_reducible rfl))
              try simp only [Act.put, List.setIfInBounds_toArray, List.set_cons_zero, List.set_cons_succ]
              refine wpAnyH_ready (rs := [17]) (by kernel_rfl) (by simp) ?_
              refine AllReadyH.cons rfl (fun K hK => ?_) AllReadyH.nil
              go_simp
              refine hK.out _ _ ?_ (fun hHeld => ?_)
              · first | with_reducible assumption | exact HS.out.cell
              clear hK K
              try simp only [Act.put, List.setIfInBounds_toArray, List.set_cons_zero, List.set_cons_succ]
              refine wpAnyH_done (by kernel_rfl) ?_ _
              have zr := HS.out.2.2.2.cell 0
              go_wp2
              exact bodyPost_ret (v := .tuple #[.agg #[.slice A2 n2 c2], .int .i64 f, .int .i64 k, .int .i64 v9]) (by simp [results, Try.results34, go_sem, *]) rfl ⟨_, _, _, _, _, _, _, rfl, HN.out.1, HN.out.2.1, HN.out.2.2.1, HS.out.fin⟩
            · have r0 := HS.out.2.2.2.1.cell 0
              have r1 := HS.out.2.2.2.1.frozen 0
              have z5 := HS.out.cell
              have hwl := HS.out.2.2.2.1.lt
              (try simp only [World.drew, size_alloc1] at hwl)
              replace Hb6 := Lib.hid (Hb6.out.far (p := ⟨w.heap.size, 0, none⟩) (by dsimp only; omega) (.slice A2 n2 c2))
              replace Hb7 := Lib.hid (Hb7.out.far (p := ⟨w.heap.size, 0, none⟩) (by dsimp only; omega) (.slice A2 n2 c2))
              replace HS := Lib.hid (HS.out.store HN.out.2.2.2)
              go_simp
              refine hK.out _ _ ?_ (fun hHeld => ?_)
              · exact HS.out.cell
              clear hK K
              try simp only [Act.put, List.setIfInBounds_toArray, List.set_cons_zero, List.set_cons_succ]
              clear r0 r1 z5 hwl
              refine held_yes (i := 15) (d := some 3) (v := ?_) rfl rfl (by kernel_rfl) (by kernel_rfl) (by kernel_rfl) (fun _ _ _ h => h) (by rfl) ?_ (by assumption) ?_
              rotate_left
              · (intro w hSw; (try dsimp only at hSw); go_simp; (first | done | with_reducible rfl))
              try simp only [Act.put, List.setIfInBounds_toArray, List.set_cons_zero, List.set_cons_succ]
              refine held_yes (i := 16) (d := some 4) (v := ?_) rfl rfl (by kernel_rfl) (by kernel_rfl) (by kernel_rfl) (fun _ _ _ h => h) (by rfl) ?_ (by assumption) ?_
              rotate_left
              · (intro w hSw; (try dsimp only at hSw); go_simp; (first | done | with_reducible rfl))
              try simp only [Act.put, List.setIfInBounds_toArray, List.set_cons_zero, List.set_cons_succ]
              refine wpAnyH_ready (rs := [13]) (by kernel_rfl) (by simp) ?_
              refine AllReadyH.cons rfl (fun K hK => ?_) AllReadyH.nil
              have e3 := (Hb6.out.cell z9).trans hv9
              go_simp
              refine hK.out _ _ ?_ (fun hHeld => ?_)
              · exact HS.out.cell
              clear hK K
              try simp only [Act.put, List.setIfInBounds_toArray, List.set_cons_zero, List.set_cons_succ]
              clear e3
              refine wpAnyH_ready (rs := [17]) (by kernel_rfl) (by simp) ?_
              refine AllReadyH.cons rfl (fun K hK => ?_) AllReadyH.nil
              go_simp
              refine hK.out _ _ ?_ (fun hHeld => ?_)
              · first | with_reducible assumption | exact HS.out.cell
              clear hK K
              try simp only [Act.put, List.setIfInBounds_toArray, List.set_cons_zero, List.set_cons_succ]
              refine wpAnyH_done (by kernel_rfl) ?_ _
              have zr := HS.out.2.2.2.cell 0
              go_wp2
              exact bodyPost_ret (v := .tuple #[.agg #[.slice A2 n2 c2], .int .i64 f, .int .i64 k, .int .i64 v9]) (by simp [results, Try.results34, go_sem, *]) rfl ⟨_, _, _, _, _, _, _, rfl, HN.out.1, HN.out.2.1, HN.out.2.2.1, HS.out.fin⟩
          · have r0 := HS.out.2.2.2.1.cell 0
            have r1 := HS.out.2.2.2.1.frozen 0
            have z5 := HS.out.cell
            have hwl := HS.out.2.2.2.1.lt
            (try simp only [World.drew, size_alloc1] at hwl)
            replace Hb7 := Lib.hid (Hb7.out.far (p := ⟨w.heap.size, 0, none⟩) (by dsimp only; omega) (.slice A2 n2 c2))
            replace HS := Lib.hid (HS.out.store HN.out.2.2.2)
            go_simp
            refine hK.out _ _ ?_ (fun hHeld => ?_)
            · exact HS.out.cell
            clear hK K
            try simp only [Act.put, List.setIfInBounds_toArray, List.set_cons_zero, List.set_cons_succ]
            clear r0 r1 z5 hwl
            refine held_yes (i := 15) (d := some 3) (v := ?_) rfl rfl (by kernel_rfl) (by kernel_rfl) (by kernel_rfl) (fun _ _ _ h => h) (by rfl) ?_ (by assumption) ?_
            rotate_left
            · (intro w hSw; (try dsimp only at hSw); go_simp; (first | done | with_reducible rfl))
            try simp only [Act.put, List.setIfInBounds_toArray, List.set_cons_zero, List.set_cons_succ]
            refine held_yes (i := 16) (d := some 4) (v := ?_) rfl rfl (by kernel_rfl) (by kernel_rfl) (by kernel_rfl) (fun _ _ _ h => h) (by rfl) ?_ (by assumption) ?_
            rotate_left
            · (intro w hSw; (try dsimp only at hSw); go_simp; (first | done | with_reducible rfl))
            try simp only [Act.put, List.setIfInBounds_toArray, List.set_cons_zero, List.set_cons_succ]
            refine wpAnyH_ready (rs := [6]) (by kernel_rfl) (by simp) ?_
            refine AllReadyH.cons rfl (fun K hK => ?_) AllReadyH.nil
            have hl0 : Blk (World.alloc (World.setCell w9 ⟨w.heap.size, 0, none⟩ (.slice A2 n2 c2)) (.cells #[.int .i64 (IntKind.i64.wrap (x4 - 1)), .int .i64 48, .int .i64 (-2)] 3)) (w9.heap.size) 3 #[.int .i64 (IntKind.i64.wrap (x4 - 1)), .int .i64 48, .int .i64 (-2)] := by have h := Blk.new (World.setCell w9 ⟨w.heap.size, 0, none⟩ (.slice A2 n2 c2)) 3 #[.int .i64 (IntKind.i64.wrap (x4 - 1)), .int .i64 48, .int .i64 (-2)]; (try simp only [World.drew, size_alloc1, size_set] at h); exact h
            replace Hb7 := Lib.hid (Hb7.out.keep (grown_alloc (grown_refl _ none) (.cells #[.int .i64 (IntKind.i64.wrap (x4 - 1)), .int .i64 48, .int .i64 (-2)] 3)))
            have Hb6 := Lib.hid hl0
            clear hl0
            replace HS := Lib.hid (HS.out.kept (grown_alloc (grown_refl _ none) (.cells #[.int .i64 (IntKind.i64.wrap (x4 - 1)), .int .i64 48, .int .i64 (-2)] 3)))
            go_simp
            refine hK.out _ _ ?_ (fun hHeld => ?_)
            · exact HS.out.cell
            clear hK K
            try simp only [Act.put, List.setIfInBounds_toArray, List.set_cons_zero, List.set_cons_succ]
            obtain ⟨v9, hv9⟩ := lit3 z9 hz9 (IntKind.i64.wrap (x4 - 1)) 48 (-2)
            refine held_yes (i := 12) (d := some 30) (v := ?_) rfl rfl (by kernel_rfl) (by kernel_rfl) (by kernel_rfl) (fun _ _ _ h => h) (by rfl) ?_ (by assumption) ?_
            rotate_left
            · (intro w hSw; (try dsimp only at hSw); go_simp; (first | done | with_reducible rfl))
            try simp only [Act.put, List.setIfInBounds_toArray, List.set_cons_zero, List.set_cons_succ]
            refine wpAnyH_ready (rs := [13]) (by kernel_rfl) (by simp) ?_
            refine AllReadyH.cons rfl (fun K hK => ?_) AllReadyH.nil
            have e3 := (Hb6.out.cell z9).trans hv9
            go_simp
            refine hK.out _ _ ?_ (fun hHeld => ?_)
            · exact HS.out.cell
            clear hK K
            try simp only [Act.put, List.setIfInBounds_toArray, List.set_cons_zero, List.set_cons_succ]
            clear e3
            refine wpAnyH_ready (rs := [17]) (by kernel_rfl) (by simp) ?_
            refine AllReadyH.cons rfl (fun K hK => ?_) AllReadyH.nil
            go_simp
            refine hK.out _ _ ?_ (fun hHeld => ?_)
            · first | with_reducible assumption | exact HS.out.cell
            clear hK K
            try simp only [Act.put, List.setIfInBounds_toArray, List.set_cons_zero, List.set_cons_succ]
            refine wpAnyH_done (by kernel_rfl) ?_ _
            have zr := HS.out.2.2.2.cell 0
            go_wp2
            exact bodyPost_ret (v := .tuple #[.agg #[.slice A2 n2 c2], .int .i64 f, .int .i64 k, .int .i64 v9]) (by simp [results, Try.results34, go_sem, *]) rfl ⟨_, _, _, _, _, _, _, rfl, HN.out.1, HN.out.2.1, HN.out.2.2.1, HS.out.fin⟩
        · have r0 := HS.out.2.2.2.1.cell 0
          have r1 := HS.out.2.2.2.1.frozen 0
          have z5 := HS.out.cell
          have hwl := HS.out.2.2.2.1.lt
          (try simp only [World.drew, size_alloc1] at hwl)
          replace Hb7 := Lib.hid (Hb7.out.far (p := ⟨w.heap.size, 0, none⟩) (by dsimp only; omega) (.slice A2 n2 c2))
          replace HS := Lib.hid (HS.out.store HN.out.2.2.2)
          go_simp
          refine hK.out _ _ ?_ (fun hHeld => ?_)
          · exact HS.out.cell
          clear hK K
          try simp only [Act.put, List.setIfInBounds_toArray, List.set_cons_zero, List.set_cons_succ]
          clear r0 r1 z5 hwl
          refine held_yes (i := 15) (d := some 3) (v := ?_) rfl rfl (by kernel_rfl) (by kernel_rfl) (by kernel_rfl) (fun _ _ _ h => h) (by rfl) ?_ (by assumption) ?_
          rotate_left
          · (intro w hSw; (try dsimp only at hSw); go_simp; (first | done | with_reducible rfl))
          try simp only [Act.put, List.setIfInBounds_toArray, List.set_cons_zero, List.set_cons_succ]
          refine held_yes (i := 16) (d := some 4) (v := ?_) rfl rfl (by kernel_rfl) (by kernel_rfl) (by kernel_rfl) (fun _ _ _ h => h) (by rfl) ?_ (by assumption) ?_
          rotate_left
          · (intro w hSw; (try dsimp only at hSw); go_simp; (first | done | with_reducible rfl))
          try simp only [Act.put, List.setIfInBounds_toArray, List.set_cons_zero, List.set_cons_succ]
          refine wpAnyH_ready (rs := [6, 11]) (by kernel_rfl) (by simp) ?_
          refine AllReadyH.cons rfl (fun K hK => ?_) (AllReadyH.cons rfl (fun K hK => ?_) AllReadyH.nil)
          · have hl0 : Blk (World.alloc (World.setCell w9 ⟨w.heap.size, 0, none⟩ (.slice A2 n2 c2)) (.cells #[.int .i64 (IntKind.i64.wrap (x4 - 1)), .int .i64 48, .int .i64 (-2)] 3)) (w9.heap.size) 3 #[.int .i64 (IntKind.i64.wrap (x4 - 1)), .int .i64 48, .int .i64 (-2)] := by have h := Blk.new (World.setCell w9 ⟨w.heap.size, 0, none⟩ (.slice A2 n2 c2)) 3 #[.int .i64 (IntKind.i64.wrap (x4 - 1)), .int .i64 48, .int .i64 (-2)]; (try simp only [World.drew, size_alloc1, size_set] at h); exact h
            replace Hb7 := Lib.hid (Hb7.out.keep (grown_alloc (grown_refl _ none) (.cells #[.int .i64 (IntKind.i64.wrap (x4 - 1)), .int .i64 48, .int .i64 (-2)] 3)))
            have Hb6 := Lib.hid hl0
            clear hl0
            replace HS := Lib.hid (HS.out.kept (grown_alloc (grown_refl _ none) (.cells #[.int .i64 (IntKind.i64.wrap (x4 - 1)), .int .i64 48, .int .i64 (-2)] 3)))
            go_simp
            refine hK.out _ _ ?_ (fun hHeld => ?_)
            · exact HS.out.cell
            clear hK K
            try simp only [Act.put, List.setIfInBounds_toArray, List.set_cons_zero, List.set_cons_succ]
            refine wpAnyH_ready (rs := [11]) (by kernel_rfl) (by simp) ?_
            refine AllReadyH.cons rfl (fun K hK => ?_) AllReadyH.nil
            have e8 := (Hb7.out.cell y9).trans hy9
            go_simp
            refine hK.out _ _ ?_ (fun hHeld => ?_)
            · exact HS.out.cell
            clear hK K
            try simp only [Act.put, List.setIfInBounds_toArray, List.set_cons_zero, List.set_cons_succ]
            clear e8
            obtain ⟨v9, hv9⟩ := lit3 z9 hz9 (IntKind.i64.wrap (x4 - 1)) 48 (-2)
            refine held_yes (i := 12) (d := some 30) (v := ?_) rfl rfl (by kernel_rfl) (by kernel_rfl) (by kernel_rfl) (fun _ _ _ h => h) (by rfl) ?_ (by assumption) ?_
            rotate_left
            · (intro w hSw; (try dsimp only at hSw); go_simp; (first | done | with_reducible rfl))
            try simp only [Act.put, List.setIfInBounds_toArray, List.set_cons_zero, List.set_cons_succ]
            refine wpAnyH_ready (rs := [13]) (by kernel_rfl) (by simp) ?_
            refine AllReadyH.cons rfl (fun K hK => ?_) AllReadyH.nil
            have e3 := (Hb6.out.cell z9).trans hv9
            go_simp
            refine hK.out _ _ ?_ (fun hHeld => ?_)
            · exact HS.out.cell
            clear hK K
            try simp only [Act.put, List.setIfInBounds_toArray, List.set_cons_zero, List.set_cons_succ]
            clear e3
            refine wpAnyH_ready (rs := [17]) (by kernel_rfl) (by simp) ?_
            refine AllReadyH.cons rfl (fun K hK => ?_) AllReadyH.nil
            go_simp
            refine hK.out _ _ ?_ (fun hHeld => ?_)
            · first | with_reducible assumption | exact HS.out.cell
            clear hK K
            try simp only [Act.put, List.setIfInBounds_toArray, List.set_cons_zero, List.set_cons_succ]
            refine wpAnyH_done (by kernel_rfl) ?_ _
            have zr := HS.out.2.2.2.cell 0
            go_wp2
            exact bodyPost_ret (v := .tuple #[.agg #[.slice A2 n2 c2], .int .i64 f, .int .i64 k, .int .i64 v9]) (by simp [results, Try.results34, go_sem, *]) rfl ⟨_, _, _, _, _, _, _, rfl, HN.out.1, HN.out.2.1, HN.out.2.2.1, HS.out.fin⟩
          · have e8 := (Hb7.out.cell y9).trans hy9
            go_simp
            refine hK.out _ _ ?_ (fun hHeld => ?_)
            · exact HS.out.cell
            clear hK K
            try simp only [Act.put, List.setIfInBounds_toArray, List.set_cons_zero, List.set_cons_succ]
            clear e8
            refine wpAnyH_ready (rs := [6]) (by kernel_rfl) (by simp) ?_
            refine AllReadyH.cons rfl (fun K hK => ?_) AllReadyH.nil
            have hl0 : Blk (World.alloc (World.setCell w9 ⟨w.heap.size, 0, none⟩ (.slice A2 n2 c2)) (.cells #[.int .i64 (IntKind.i64.wrap (x4 - 1)), .int .i64 48, .int .i64 (-2)] 3)) (w9.heap.size) 3 #[.int .i64 (IntKind.i64.wrap (x4 - 1)), .int .i64 48, .int .i64 (-2)] := by have h := Blk.new (World.setCell w9 ⟨w.heap.size, 0, none⟩ (.slice A2 n2 c2)) 3 #[.int .i64 (IntKind.i64.wrap (x4 - 1)), .int .i64 48, .int .i64 (-2)]; (try simp only [World.drew, size_alloc1, size_set] at h); exact h
            replace Hb7 := Lib.hid (Hb7.out.keep (grown_alloc (grown_refl _ none) (.cells #[.int .i64 (IntKind.i64.wrap (x4 - 1)), .int .i64 48, .int .i64 (-2)] 3)))
            have Hb6 := Lib.hid hl0
            clear hl0
            replace HS := Lib.hid (HS.out.kept (grown_alloc (grown_refl _ none) (.cells #[.int .i64 (IntKind.i64.wrap (x4 - 1)), .int .i64 48, .int .i64 (-2)] 3)))
            go_simp
            refine hK.out _ _ ?_ (fun hHeld => ?_)
            · exact HS.out.cell
            clear hK K
            try simp only [Act.put, List.setIfInBounds_toArray, List.set_cons_zero, List.set_cons_succ]
            obtain ⟨v9, hv9⟩ := lit3 z9 hz9 (IntKind.i64.wrap (x4 - 1)) 48 (-2)
            refine held_yes (i := 12) (d := some 30) (v := ?_) rfl rfl (by kernel_rfl) (by kernel_rfl) (by kernel_rfl) (fun _ _ _ h => h) (by rfl) ?_ (by assumption) ?_
            rotate_left
            · (intro w hSw; (try dsimp only at hSw); go_simp; (first | done | with_reducible rfl))
            try simp only [Act.put, List.setIfInBounds_toArray, List.set_cons_zero, List.set_cons_succ]
            refine wpAnyH_ready (rs := [13]) (by kernel_rfl) (by simp) ?_
            refine AllReadyH.cons rfl (fun K hK => ?_) AllReadyH.nil
            have e3 := (Hb6.out.cell z9).trans hv9
            go_simp
            refine hK.out _ _ ?_ (fun hHeld => ?_)
            · exact HS.out.cell
            clear hK K
            try simp only [Act.put, List.setIfInBounds_toArray, List.set_cons_zero, List.set_cons_succ]
            clear e3
            refine wpAnyH_ready (rs := [17]) (by kernel_rfl) (by simp) ?_
            refine AllReadyH.cons rfl (fun K hK => ?_) AllReadyH.nil
            go_simp
            refine hK.out _ _ ?_ (fun hHeld => ?_)
            · first | with_reducible assumption | exact HS.out.cell
            clear hK K
            try simp only [Act.put, List.setIfInBounds_toArray, List.set_cons_zero, List.set_cons_succ]
            refine wpAnyH_done (by kernel_rfl) ?_ _
            have zr := HS.out.2.2.2.cell 0
            go_wp2
            exact bodyPost_ret (v := .tuple #[.agg #[.slice A2 n2 c2], .int .i64 f, .int .i64 k, .int .i64 v9]) (by simp [results, Try.results34, go_sem, *]) rfl ⟨_, _, _, _, _, _, _, rfl, HN.out.1, HN.out.2.1, HN.out.2.2.1, HS.out.fin⟩
    · go_simp
      go_at_call 56
      refine (pick_lt _ _ _ _ _ HS.out.2.1 (by omega) (by omega)).mono ?_
      rintro e w9 ⟨x9, rfl, u9, v9, h9, hg9⟩
      replace HS := Lib.hid (HS.out.grown hg9 h9)
      clear h9 hg9
      refine hK.out _ _ ?_ (fun hHeld => ?_)
      · exact HS.out.cell
      clear hK K
      try simp only [Act.put, List.setIfInBounds_toArray, List.set_cons_zero, List.set_cons_succ]
      obtain ⟨y9, rfl⟩ := Int.eq_ofNat_of_zero_le u9
      have y0 : decide ((0 : Int) ≤ y9) = true := decide_eq_true (by omega)
      have y1 : (y9 : Int) < 8 := by omega
      refine wpAnyH_ready (rs := [6, 7, 14]) (by kernel_rfl) (by simp) ?_
      refine AllReadyH.cons rfl (fun K hK => ?_) (AllReadyH.cons rfl (fun K hK => ?_) (AllReadyH.cons rfl (fun K hK => ?_) AllReadyH.nil))
      · have hl0 : Blk (World.alloc w9 (.cells #[.int .i64 (IntKind.i64.wrap (x4 - 1)), .int .i64 48, .int .i64 (-2)] 3)) (w9.heap.size) 3 #[.int .i64 (IntKind.i64.wrap (x4 - 1)), .int .i64 48, .int .i64 (-2)] := by have h := Blk.new w9 3 #[.int .i64 (IntKind.i64.wrap (x4 - 1)), .int .i64 48, .int .i64 (-2)]; (try simp only [World.drew, size_alloc1, size_set] at h); exact h
        have hqb6 := HS.out.2.1.lt
        (try simp only [World.drew, size_alloc1] at hqb6)
        have Hb6 := Lib.hid hl0
        clear hl0
        replace HS := Lib.hid (HS.out.kept (grown_alloc (grown_refl _ none) (.cells #[.int .i64 (IntKind.i64.wrap (x4 - 1)), .int .i64 48, .int .i64 (-2)] 3)))
        go_simp
        refine hK.out _ _ ?_ (fun hHeld => ?_)
        · exact HS.out.cell
        clear hK K
        try simp only [Act.put, List.setIfInBounds_toArray, List.set_cons_zero, List.set_cons_succ]
        refine wpAnyH_ready (rs := [7, 14]) (by kernel_rfl) (by simp) ?_
        refine AllReadyH.cons rfl (fun K hK => ?_) (AllReadyH.cons rfl (fun K hK => ?_) AllReadyH.nil)
        · have hl0 : Blk (World.alloc (World.alloc w9 (.cells #[.int .i64 (IntKind.i64.wrap (x4 - 1)), .int .i64 48, .int .i64 (-2)] 3)) (.cells #[.int .i64 0, .int .i64 0, .int .i64 0, .int .i64 0, .int .i64 0, .int .i64 0, .int .i64 1, .int .i64 2] 3)) (w9.heap.size + 1) 3 #[.int .i64 0, .int .i64 0, .int .i64 0, .int .i64 0, .int .i64 0, .int .i64 0, .int .i64 1, .int .i64 2] := by have h := Blk.new (World.alloc w9 (.cells #[.int .i64 (IntKind.i64.wrap (x4 - 1)), .int .i64 48, .int .i64 (-2)] 3)) 3 #[.int .i64 0, .int .i64 0, .int .i64 0, .int .i64 0, .int .i64 0, .int .i64 0, .int .i64 1, .int .i64 2]; (try simp only [World.drew, size_alloc1, size_set] at h); exact h
          have hqb7 := HS.out.2.1.lt
          (try simp only [World.drew, size_alloc1] at hqb7)
          replace Hb6 := Lib.hid (Hb6.out.keep (grown_alloc (grown_refl _ none) (.cells #[.int .i64 0, .int .i64 0, .int .i64 0, .int .i64 0, .int .i64 0, .int .i64 0, .int .i64 1, .int .i64 2] 3)))
          have Hb7 := Lib.hid hl0
          clear hl0
          replace HS := Lib.hid (HS.out.kept (grown_alloc (grown_refl _ none) (.cells #[.int .i64 0, .int .i64 0, .int .i64 0, .int .i64 0, .int .i64 0, .int .i64 0, .int .i64 1, .int .i64 2] 3)))
          go_simp
          refine hK.out _ _ ?_ (fun hHeld => ?_)
          · exact HS.out.cell
          clear hK K
          try simp only [Act.put, List.setIfInBounds_toArray, List.set_cons_zero, List.set_cons_succ]
          obtain ⟨z9, hz9, hy9⟩ := lit8 y9 (by omega)
          have z0 : decide ((0 : Int) ≤ z9) = true := decide_eq_true (by omega)
          have z1 : (z9 : Int) < 3 := by omega
          refine held_yes (i := 10) (d := some 28) (v := ?_) rfl rfl (by kernel_rfl) (by kernel_rfl) (by kernel_rfl) (fun _ _ _ h => h) (by rfl) ?_ (by assumption) ?_
          rotate_left
          · (intro w hSw; (try dsimp only at hSw); go_simp; (first | done | with_reducible rfl))
          try simp only [Act.put, List.setIfInBounds_toArray, List.set_cons_zero, List.set_cons_succ]
          refine wpAnyH_ready (rs := [11, 14]) (by kernel_rfl) (by simp) ?_
          refine AllReadyH.cons rfl (fun K hK => ?_) (AllReadyH.cons rfl (fun K hK => ?_) AllReadyH.nil)
          · have e8 := (Hb7.out.cell y9).trans hy9
            go_simp
            refine hK.out _ _ ?_ (fun hHeld => ?_)
            · exact HS.out.cell
            clear hK K
            try simp only [Act.put, List.setIfInBounds_toArray, List.set_cons_zero, List.set_cons_succ]
            clear e8
            obtain ⟨v9, hv9⟩ := lit3 z9 hz9 (IntKind.i64.wrap (x4 - 1)) 48 (-2)
            refine held_yes (i := 12) (d := some 30) (v := ?_) rfl rfl (by kernel_rfl) (by kernel_rfl) (by kernel_rfl) (fun _ _ _ h => h) (by rfl) ?_ (by assumption) ?_
            rotate_left
            · (intro w hSw; (try dsimp only at hSw); go_simp; (first | done | with_reducible rfl))
            try simp only [Act.put, List.setIfInBounds_toArray, List.set_cons_zero, List.set_cons_succ]
            refine wpAnyH_ready (rs := [13, 14]) (by kernel_rfl) (by simp) ?_
            refine AllReadyH.cons rfl (fun K hK => ?_) (AllReadyH.cons rfl (fun K hK => ?_) AllReadyH.nil)
            · have e3 := (Hb6.out.cell z9).trans hv9
              go_simp
              refine hK.out _ _ ?_ (fun hHeld => ?_)
              · exact HS.out.cell
              clear hK K
              try simp only [Act.put, List.setIfInBounds_toArray, List.set_cons_zero, List.set_cons_succ]
              clear e3
              refine wpAnyH_ready (rs := [14]) (by kernel_rfl) (by simp) ?_
              refine AllReadyH.cons rfl (fun K hK => ?_) AllReadyH.nil
              have r0 := HS.out.2.2.2.1.cell 0
              have r1 := HS.out.2.2.2.1.frozen 0
              have z5 := HS.out.cell
              have hwl := HS.out.2.2.2.1.lt
              (try simp only [World.drew, size_alloc1] at hwl)
              replace Hb6 := Lib.hid (Hb6.out.far (p := ⟨w.heap.size, 0, none⟩) (by dsimp only; omega) (.slice A2 n2 c2))
              replace Hb7 := Lib.hid (Hb7.out.far (p := ⟨w.heap.size, 0, none⟩) (by dsimp only; omega) (.slice A2 n2 c2))
              replace HS := Lib.hid (HS.out.store HN.out.2.2.2)
              go_simp
              refine hK.out _ _ ?_ (fun hHeld => ?_)
              · exact HS.out.cell
              clear hK K
              try simp only [Act.put, List.setIfInBounds_toArray, List.set_cons_zero, List.set_cons_succ]
              clear r0 r1 z5 hwl
              refine held_yes (i := 15) (d := some 3) (v := ?_) rfl rfl (by kernel_rfl) (by kernel_rfl) (by kernel_rfl) (fun _ _ _ h => h) (by rfl) ?_ (by assumption) ?_
              rotate_left
              · (intro w hSw; (try dsimp only at hSw); go_simp; (first | done | with_reducible rfl))
              try simp only [Act.put, List.setIfInBounds_toArray, List.set_cons_zero, List.set_cons_succ]
              refine held_yes (i := 16) (d := some 4) (v := ?_) rfl rfl (by kernel_rfl) (by kernel_rfl) (by kernel_rfl) (fun _ _ _ h => h) (by rfl) ?_ (by assumption) ?_
              rotate_left
              · (intro w hSw; (try dsimp only at hSw); go_simp; (first | done | with_reducible rfl))
              try simp only [Act.put, List.setIfInBounds_toArray, List.set_cons_zero, List.set_cons_succ]
              refine wpAnyH_ready (rs := [17]) (by kernel_rfl) (by simp) ?_
              refine AllReadyH.cons rfl (fun K hK => ?_) AllReadyH.nil
              go_simp
              refine hK.out _ _ ?_ (fun hHeld => ?_)
              · first | with_reducible assumption | exact HS.out.cell
              clear hK K
              try simp only [Act.put, List.setIfInBounds_toArray, List.set_cons_zero, List.set_cons_succ]
              refine wpAnyH_done (by kernel_rfl) ?_ _
              have zr := HS.out.2.2.2.cell 0
              go_wp2
              exact bodyPost_ret (v := .tuple #[.agg #[.slice A2 n2 c2], .int .i64 f, .int .i64 k, .int .i64 v9]) (by simp [results, Try.results34, go_sem, *]) rfl ⟨_, _, _, _, _, _, _, rfl, HN.out.1, HN.out.2.1, HN.out.2.2.1, HS.out.fin⟩
            · have r0 := HS.out.2.2.2.1.cell 0
              have r1 := HS.out.2.2.2.1.frozen 0
              have z5 := HS.out.cell
              have hwl := HS.out.2.2.2.1.lt
              (try simp only [World.drew, size_alloc1] at hwl)
              replace Hb6 := Lib.hid (Hb6.out.far (p := ⟨w.heap.size, 0, none⟩) (by dsimp only; omega) (.slice A2 n2 c2))
              replace Hb7 := Lib.hid (Hb7.out.far (p := ⟨w.heap.size, 0, none⟩) (by dsimp only; omega) (.slice A2 n2 c2))
              replace HS := Lib.hid (HS.out.store HN.out.2.2.2)
              go_simp
              refine hK.out _ _ ?_ (fun hHeld => ?_)
              · exact HS.out.cell
              clear hK K
              try simp only [Act.put, List.setIfInBounds_toArray, List.set_cons_zero, List.set_cons_succ]
              clear r0 r1 z5 hwl
              refine held_yes (i := 15) (d := some 3) (v := ?_) rfl rfl (by kernel_rfl) (by kernel_rfl) (by kernel_rfl) (fun _ _ _ h => h) (by rfl) ?_ (by assumption) ?_
              rotate_left
              · (intro w hSw; (try dsimp only at hSw); go_simp; (first | done | with_reducible rfl))
              try simp only [Act.put, List.setIfInBounds_toArray, List.set_cons_zero, List.set_cons_succ]
              refine held_yes (i := 16) (d := some 4) (v := ?_) rfl rfl (by kernel_rfl) (by kernel_rfl) (by kernel_rfl) (fun _ _ _ h => h) (by rfl) ?_ (by assumption) ?_
              rotate_left
              · (intro w hSw; (try dsimp only at hSw); go_simp; (first | done | with_reducible rfl))
              try simp only [Act.put, List.setIfInBounds_toArray, List.set_cons_zero, List.set_cons_succ]
              refine wpAnyH_ready (rs := [13]) (by kernel_rfl) (by simp) ?_
              refine AllReadyH.cons rfl (fun K hK => ?_) AllReadyH.nil
              have e3 := (Hb6.out.cell z9).trans hv9
              go_simp
              refine hK.out _ _ ?_ (fun hHeld => ?_)
              · exact HS.out.cell
              clear hK K
              try simp only [Act.put, List.setIfInBounds_toArray, List.set_cons_zero, List.set_cons_succ]
              clear e3
              refine wpAnyH_ready (rs := [17]) (by kernel_rfl) (by simp) ?_
              refine AllReadyH.cons rfl (fun K hK => ?_) AllReadyH.nil
              go_simp
              refine hK.out _ _ ?_ (fun hHeld => ?_)
              · first | with_reducible assumption | exact HS.out.cell
              clear hK K
              try simp only [Act.put, List.setIfInBounds_toArray, List.set_cons_zero, List.set_cons_succ]
              refine wpAnyH_done (by kernel_rfl) ?_ _
              have zr := HS.out.2.2.2.cell 0
              go_wp2
              exact bodyPost_ret (v := .tuple #[.agg #[.slice A2 n2 c2], .int .i64 f, .int .i64 k, .int .i64 v9]) (by simp [results, Try.results34, go_sem, *]) rfl ⟨_, _, _, _, _, _, _, rfl, HN.out.1, HN.out.2.1, HN.out.2.2.1, HS.out.fin⟩
          · have r0 := HS.out.2.2.2.1.cell 0
            have r1 := HS.out.2.2.2.1.frozen 0
            have z5 := HS.out.cell
            have hwl := HS.out.2.2.2.1.lt
            (try simp only [World.drew, size_alloc1] at hwl)
            replace Hb6 := Lib.hid (Hb6.out.far (p := ⟨w.heap.size, 0, none⟩) (by dsimp only; omega) (.slice A2 n2 c2))
            replace Hb7 := Lib.hid (Hb7.out.far (p := ⟨w.heap.size, 0, none⟩) (by dsimp only; omega) (.slice A2 n2 c2))
            replace HS := Lib.hid (HS.out.store HN.out.2.2.2)
            go_simp
            refine hK.out _ _ ?_ (fun hHeld => ?_)
            · exact HS.out.cell
            clear hK K
            try simp only [Act.put, List.setIfInBounds_toArray, List.set_cons_zero, List.set_cons_succ]
            clear r0 r1 z5 hwl
            refine held_yes (i := 15) (d := some 3) (v := ?_) rfl rfl (by kernel_rfl) (by kernel_rfl) (by kernel_rfl) (fun _ _ _ h => h) (by rfl) ?_ (by assumption) ?_
            rotate_left
            · (intro w hSw; (try dsimp only at hSw); go_simp; (first | done | with_reducible rfl))
            try simp only [Act.put, List.setIfInBounds_toArray, List.set_cons_zero, List.set_cons_succ]
            refine held_yes (i := 16) (d := some 4) (v := ?_) rfl rfl (by kernel_rfl) (by kernel_rfl) (by kernel_rfl) (fun _ _ _ h => h) (by rfl) ?_ (by assumption) ?_
            rotate_left
            · (intro w hSw; (try dsimp only at hSw); go_simp; (first | done | with_reducible rfl))
            try simp only [Act.put, List.setIfInBounds_toArray, List.set_cons_zero, List.set_cons_succ]
            refine wpAnyH_ready (rs := [11]) (by kernel_rfl) (by simp) ?_
            refine AllReadyH.cons rfl (fun K hK => ?_) AllReadyH.nil
            have e8 := (Hb7.out.cell y9).trans hy9
            go_simp
            refine hK.out _ _ ?_ (fun hHeld => ?_)
            · exact HS.out.cell
            clear hK K
            try simp only [Act.put, List.setIfInBounds_toArray, List.set_cons_zero, List.set_cons_succ]
            clear e8
            obtain ⟨v9, hv9⟩ := lit3 z9 hz9 (IntKind.i64.wrap (x4 - 1)) 48 (-2)
            refine held_yes (i := 12) (d := some 30) (v := ?_) rfl rfl (by kernel_rfl) (by kernel_rfl) (by kernel_rfl) (fun _ _ _ h => h) (by rfl) ?_ (by assumption) ?_
            rotate_left
            · (intro w hSw; (try dsimp only at hSw); go_simp; (first | done | with_reducible rfl))
            try simp only [Act.put, List.setIfInBounds_toArray, List.set_cons_zero, List.set_cons_succ]
            refine wpAnyH_ready (rs := [13]) (by kernel_rfl) (by simp) ?_
            refine AllReadyH.cons rfl (fun K hK => ?_) AllReadyH.nil
            have e3 := (Hb6.out.cell z9).trans hv9
            go_simp
            refine hK.out _ _ ?_ (fun hHeld => ?_)
            · exact HS.out.cell
            clear hK K
            try simp only [Act.put, List.setIfInBounds_toArray, List.set_cons_zero, List.set_cons_succ]
            clear e3
            refine wpAnyH_ready (rs := [17]) (by kernel_rfl) (by simp) ?_
            refine AllReadyH.cons rfl (fun K hK => ?_) AllReadyH.nil
            go_simp
            refine hK.out _ _ ?_ (fun hHeld => ?_)
            · first | with_reducible assumption | exact HS.out.cell
            clear hK K
            try simp only [Act.put, List.setIfInBounds_toArray, List.set_cons_zero, List.set_cons_succ]
            refine wpAnyH_done (by kernel_rfl) ?_ _
            have zr := HS.out.2.2.2.cell 0
            go_wp2
            exact bodyPost_ret (v := .tuple #[.agg #[.slice A2 n2 c2], .int .i64 f, .int .i64 k, .int .i64 v9]) (by simp [results, Try.results34, go_sem, *]) rfl ⟨_, _, _, _, _, _, _, rfl, HN.out.1, HN.out.2.1, HN.out.2.2.1, HS.out.fin⟩
        · have r0 := HS.out.2.2.2.1.cell 0
          have r1 := HS.out.2.2.2.1.frozen 0
          have z5 := HS.out.cell
          have hwl := HS.out.2.2.2.1.lt
          (try simp only [World.drew, size_alloc1] at hwl)
          replace Hb6 := Lib.hid (Hb6.out.far (p := ⟨w.heap.size, 0, none⟩) (by dsimp only; omega) (.slice A2 n2 c2))
          replace HS := Lib.hid (HS.out.store HN.out.2.2.2)
          go_simp
          refine hK.out _ _ ?_ (fun hHeld => ?_)
          · exact HS.out.cell
          clear hK K
          try simp only [Act.put, List.setIfInBounds_toArray, List.set_cons_zero, List.set_cons_succ]
          clear r0 r1 z5 hwl
          refine held_yes (i := 15) (d := some 3) (v := ?_) rfl rfl (by kernel_rfl) (by kernel_rfl) (by kernel_rfl) (fun _ _ _ h => h) (by rfl) ?_ (by assumption) ?_
          rotate_left
          · (intro w hSw; (try dsimp only at hSw); go_simp; (first | done | with_reducible rfl))
          try simp only [Act.put, List.setIfInBounds_toArray, List.set_cons_zero, List.set_cons_succ]
          refine held_yes (i := 16) (d := some 4) (v := ?_) rfl rfl (by kernel_rfl) (by kernel_rfl) (by kernel_rfl) (fun _ _ _ h => h) (by rfl) ?_ (by assumption) ?_
          rotate_left
          · (intro w hSw; (try dsimp only at hSw); go_simp; (first | done | with_reducible rfl))
          try simp only [Act.put, List.setIfInBounds_toArray, List.set_cons_zero, List.set_cons_succ]
          refine wpAnyH_ready (rs := [7]) (by kernel_rfl) (by simp) ?_
          refine AllReadyH.cons rfl (fun K hK => ?_) AllReadyH.nil
          have hl0 : Blk (World.alloc (World.setCell (World.alloc w9 (.cells #[.int .i64 (IntKind.i64.wrap (x4 - 1)), .int .i64 48, .int .i64 (-2)] 3)) ⟨w.heap.size, 0, none⟩ (.slice A2 n2 c2)) (.cells #[.int .i64 0, .int .i64 0, .int .i64 0, .int .i64 0, .int .i64 0, .int .i64 0, .int .i64 1, .int .i64 2] 3)) (w9.heap.size + 1) 3 #[.int .i64 0, .int .i64 0, .int .i64 0, .int .i64 0, .int .i64 0, .int .i64 0, .int .i64 1, .int .i64 2] := by have h := Blk.new (World.setCell (World.alloc w9 (.cells #[.int .i64 (IntKind.i64.wrap (x4 - 1)), .int .i64 48, .int .i64 (-2)] 3)) ⟨w.heap.size, 0, none⟩ (.slice A2 n2 c2)) 3 #[.int .i64 0, .int .i64 0, .int .i64 0, .int .i64 0, .int .i64 0, .int .i64 0, .int .i64 1, .int .i64 2]; (try simp only [World.drew, size_alloc1, size_set] at h); exact h
          replace Hb6 := Lib.hid (Hb6.out.keep (grown_alloc (grown_refl _ none) (.cells #[.int .i64 0, .int .i64 0, .int .i64 0, .int .i64 0, .int .i64 0, .int .i64 0, .int .i64 1, .int .i64 2] 3)))
          have Hb7 := Lib.hid hl0
          clear hl0
          replace HS := Lib.hid (HS.out.kept (grown_alloc (grown_refl _ none) (.cells #[.int .i64 0, .int .i64 0, .int .i64 0, .int .i64 0, .int .i64 0, .int .i64 0, .int .i64 1, .int .i64 2] 3)))
          go_simp
          refine hK.out _ _ ?_ (fun hHeld => ?_)
          · exact HS.out.cell
          clear hK K
          try simp only [Act.put, List.setIfInBounds_toArray, List.set_cons_zero, List.set_cons_succ]
          obtain ⟨z9, hz9, hy9⟩ := lit8 y9 (by omega)
          have z0 : decide ((0 : Int) ≤ z9) = true := decide_eq_true (by omega)
          have z1 : (z9 : Int) < 3 := by omega
          refine held_yes (i := 10) (d := some 28) (v := ?_) rfl rfl (by kernel_rfl) (by kernel_rfl) (by kernel_rfl) (fun _ _ _ h => h) (by rfl) ?_ (by assumption) ?_
          rotate_left
          · (intro w hSw; (try dsimp only at hSw); go_simp; (first | done | with_reducible rfl))
          try simp only [Act.put, List.setIfInBounds_toArray, List.set_cons_zero, List.set_cons_succ]
          refine wpAnyH_ready (rs := [11]) (by kernel_rfl) (by simp) ?_
          refine AllReadyH.cons rfl (fun K hK => ?_) AllReadyH.nil
          have e8 := (Hb7.out.cell y9).trans hy9
          go_simp
          refine hK.out _ _ ?_ (fun hHeld => ?_)
          · exact HS.out.cell
          clear hK K
          try simp only [Act.put, List.setIfInBounds_toArray, List.set_cons_zero, List.set_cons_succ]
          clear e8
          obtain ⟨v9, hv9⟩ := lit3 z9 hz9 (IntKind.i64.wrap (x4 - 1)) 48 (-2)
          refine held_yes (i := 12) (d := some 30) (v := ?_) rfl rfl (by kernel_rfl) (by kernel_rfl) (by kernel_rfl) (fun _ _ _ h => h) (by rfl) ?_ (by assumption) ?_
          rotate_left
          · (intro w hSw; (try dsimp only at hSw); go_simp; (first | done | with_reducible rfl))
          try simp only [Act.put, List.setIfInBounds_toArray, List.set_cons_zero, List.set_cons_succ]
          refine wpAnyH_ready (rs := [13]) (by kernel_rfl) (by simp) ?_
          refine AllReadyH.cons rfl (fun K hK => ?_) AllReadyH.nil
          have e3 := (Hb6.out.cell z9).trans hv9
          go_simp
          refine hK.out _ _ ?_ (fun hHeld => ?_)
          · exact HS.out.cell
          clear hK K
          try simp only [Act.put, List.setIfInBounds_toArray, List.set_cons_zero, List.set_cons_succ]
          clear e3
          refine wpAnyH_ready (rs := [17]) (by kernel_rfl) (by simp) ?_
          refine AllReadyH.cons rfl (fun K hK => ?_) AllReadyH.nil
          go_simp
          refine hK.out _ _ ?_ (fun hHeld => ?_)
          · first | with_reducible assumption | exact HS.out.cell
          clear hK K
          try simp only [Act.put, List.setIfInBounds_toArray, List.set_cons_zero, List.set_cons_succ]
          refine wpAnyH_done (by kernel_rfl) ?_ _
          have zr := HS.out.2.2.2.cell 0
          go_wp2
          exact bodyPost_ret (v := .tuple #[.agg #[.slice A2 n2 c2], .int .i64 f, .int .i64 k, .int .i64 v9]) (by simp [results, Try.results34, go_sem, *]) rfl ⟨_, _, _, _, _, _, _, rfl, HN.out.1, HN.out.2.1, HN.out.2.2.1, HS.out.fin⟩
      · have hl0 : Blk (World.alloc w9 (.cells #[.int .i64 0, .int .i64 0, .int .i64 0, .int .i64 0, .int .i64 0, .int .i64 0, .int .i64 1, .int .i64 2] 3)) (w9.heap.size) 3 #[.int .i64 0, .int .i64 0, .int .i64 0, .int .i64 0, .int .i64 0, .int .i64 0, .int .i64 1, .int .i64 2] := by have h := Blk.new w9 3 #[.int .i64 0, .int .i64 0, .int .i64 0, .int .i64 0, .int .i64 0, .int .i64 0, .int .i64 1, .int .i64 2]; (try simp only [World.drew, size_alloc1, size_set] at h); exact h
        have hqb7 := HS.out.2.1.lt
        (try simp only [World.drew, size_alloc1] at hqb7)
        have Hb7 := Lib.hid hl0
        clear hl0
        replace HS := Lib.hid (HS.out.kept (grown_alloc (grown_refl _ none) (.cells #[.int .i64 0, .int .i64 0, .int .i64 0, .int .i64 0, .int .i64 0, .int .i64 0, .int .i64 1, .int .i64 2] 3)))
        go_simp
        refine hK.out _ _ ?_ (fun hHeld => ?_)
        · exact HS.out.cell
        clear hK K
        try simp only [Act.put, List.setIfInBounds_toArray, List.set_cons_zero, List.set_cons_succ]
        obtain ⟨z9, hz9, hy9⟩ := lit8 y9 (by omega)
        have z0 : decide ((0 : Int) ≤ z9) = true := decide_eq_true (by omega)
        have z1 : (z9 : Int) < 3 := by omega
        refine held_yes (i := 10) (d := some 28) (v := ?_) rfl rfl (by kernel_rfl) (by kernel_rfl) (by kernel_rfl) (fun _ _ _ h => h) (by rfl) ?_ (by assumption) ?_
        rotate_left
        · (intro w hSw; (try dsimp only at hSw); go_simp; (first | done | with_reducible rfl))
        try simp only [Act.put, List.setIfInBounds_toArray, List.set_cons_zero, List.set_cons_succ]
        refine wpAnyH_ready (rs := [6, 11, 14]) (by kernel_rfl) (by simp) ?_
        refine AllReadyH.cons rfl (fun K hK => ?_) (AllReadyH.cons rfl (fun K hK => ?_) (AllReadyH.cons rfl (fun K hK => ?_) AllReadyH.nil))
        · have hl0 : Blk (World.alloc (World.alloc w9 (.cells #[.int .i64 0, .int .i64 0, .int .i64 0, .int .i64 0, .int .i64 0, .int .i64 0, .int .i64 1, .int .i64 2] 3)) (.cells #[.int .i64 (IntKind.i64.wrap (x4 - 1)), .int .i64 48, .int .i64 (-2)] 3)) (w9.heap.size + 1) 3 #[.int .i64 (IntKind.i64.wrap (x4 - 1)), .int .i64 48, .int .i64 (-2)] := by have h := Blk.new (World.alloc w9 (.cells #[.int .i64 0, .int .i64 0, .int .i64 0, .int .i64 0, .int .i64 0, .int .i64 0, .int .i64 1, .int .i64 2] 3)) 3 #[.int .i64 (IntKind.i64.wrap (x4 - 1)), .int .i64 48, .int .i64 (-2)]; (try simp only [World.drew, size_alloc1, size_set] at h); exact h
          have hqb6 := HS.out.2.1.lt
          (try simp only [World.drew, size_alloc1] at hqb6)
          replace Hb7 := Lib.hid (Hb7.out.keep (grown_alloc (grown_refl _ none) (.cells #[.int .i64 (IntKind.i64.wrap (x4 - 1)), .int .i64 48, .int .i64 (-2)] 3)))
          have Hb6 := Lib.hid hl0
          clear hl0
          replace HS := Lib.hid (HS.out.kept (grown_alloc (grown_refl _ none) (.cells #[.int .i64 (IntKind.i64.wrap (x4 - 1)), .int .i64 48, .int .i64 (-2)] 3)))
          go_simp
          refine hK.out _ _ ?_ (fun hHeld => ?_)
          · exact HS.out.cell
          clear hK K
          try simp only [Act.put, List.setIfInBounds_toArray, List.set_cons_zero, List.set_cons_succ]
          refine wpAnyH_ready (rs := [11, 14]) (by kernel_rfl) (by simp) ?_
          refine AllReadyH.cons rfl (fun K hK => ?_) (AllReadyH.cons rfl (fun K hK => ?_) AllReadyH.nil)
          · have e8 := (Hb7.out.cell y9).trans hy9
            go_simp
            refine hK.out _ _ ?_ (fun hHeld => ?_)
            · exact HS.out.cell
            clear hK K
            try simp only [Act.put, List.setIfInBounds_toArray, List.set_cons_zero, List.set_cons_succ]
            clear e8
            obtain ⟨v9, hv9⟩ := lit3 z9 hz9 (IntKind.i64.wrap (x4 - 1)) 48 (-2)
            refine held_yes (i := 12) (d := some 30) (v := ?_) rfl rfl (by kernel_rfl) (by kernel_rfl) (by kernel_rfl) (fun _ _ _ h => h) (by rfl) ?_ (by assumption) ?_
            rotate_left
            · (intro w hSw; (try dsimp only at hSw); go_simp; (first | done | with_reducible rfl))
            try simp only [Act.put, List.setIfInBounds_toArray, List.set_cons_zero, List.set_cons_succ]
            refine wpAnyH_ready (rs := [13, 14]) (by kernel_rfl) (by simp) ?_
            refine AllReadyH.cons rfl (fun K hK => ?_) (AllReadyH.cons rfl (fun K hK => ?_) AllReadyH.nil)
            · have e3 := (Hb6.out.cell z9).trans hv9
              go_simp
              refine hK.out _ _ ?_ (fun hHeld => ?_)
              · exact HS.out.cell
              clear hK K
              try simp only [Act.put, List.setIfInBounds_toArray, List.set_cons_zero, List.set_cons_succ]
              clear e3
              refine wpAnyH_ready (rs := [14]) (by kernel_rfl) (by simp) ?_
              refine AllReadyH.cons rfl (fun K hK => ?_) AllReadyH.nil
              have r0 := HS.out.2.2.2.1.cell 0
              have r1 := HS.out.2.2.2.1.frozen 0
              have z5 := HS.out.cell
              have hwl := HS.out.2.2.2.1.lt
              (try simp only [World.drew, size_alloc1] at hwl)
              replace Hb6 := Lib.hid (Hb6.out.far (p := ⟨w.heap.size, 0, none⟩) (by dsimp only; omega) (.slice A2 n2 c2))
              replace Hb7 := Lib.hid (Hb7.out.far (p := ⟨w.heap.size, 0, none⟩) (by dsimp only; omega) (.slice A2 n2 c2))
              replace HS := Lib.hid (HS.out.store HN.out.2.2.2)
              go_simp
              refine hK.out _ _ ?_ (fun hHeld => ?_)
              · exact HS.out.cell
              clear hK K
              try simp only [Act.put, List.setIfInBounds_toArray, List.set_cons_zero, List.set_cons_succ]
              clear r0 r1 z5 hwl
              refine held_yes (i := 15) (d := some 3) (v := ?_) rfl rfl (by kernel_rfl) (by kernel_rfl) (by kernel_rfl) (fun _ _ _ h => h) (by rfl) ?_ (by assumption) ?_
              rotate_left
              · (intro w hSw; (try dsimp only at hSw); go_simp; (first | done | with_reducible rfl))
              try simp only [Act.put, List.setIfInBounds_toArray, List.set_cons_zero, List.set_cons_succ]
              refine held_yes (i := 16) (d := some 4) (v := ?_) rfl rfl (by kernel_rfl) (by kernel_rfl) (by kernel_rfl) (fun _ _ _ h => h) (by rfl) ?_ (by assumption) ?_
              rotate_left
              · (intro w hSw; (try dsimp only at hSw); go_simp; (first | done | with_reducible rfl))
              try simp only [Act.put, List.setIfInBounds_toArray, List.set_cons_zero, List.set_cons_succ]
              refine wpAnyH_ready (rs := [17]) (by kernel_rfl) (by simp) ?_
              refine AllReadyH.cons rfl (fun K hK => ?_) AllReadyH.nil
              go_simp
              refine hK.out _ _ ?_ (fun hHeld => ?_)
              · first | with_reducible assumption | exact HS.out.cell
              clear hK K
              try simp only [Act.put, List.setIfInBounds_toArray, List.set_cons_zero, List.set_cons_succ]
              refine wpAnyH_done (by kernel_rfl) ?_ _
              have zr := HS.out.2.2.2.cell 0
              go_wp2
              exact bodyPost_ret (v := .tuple #[.agg #[.slice A2 n2 c2], .int .i64 f, .int .i64 k, .int .i64 v9]) (by simp [results, Try.results34, go_sem, *]) rfl ⟨_, _, _, _, _, _, _, rfl, HN.out.1, HN.out.2.1, HN.out.2.2.1, HS.out.fin⟩
            · have r0 := HS.out.2.2.2.1.cell 0
              have r1 := HS.out.2.2.2.1.frozen 0
              have z5 := HS.out.cell
              have hwl := HS.out.2.2.2.1.lt
              (try simp only [World.drew, size_alloc1] at hwl)
              replace Hb6 := Lib.hid (Hb6.out.far (p := ⟨w.heap.size, 0, none⟩) (by dsimp only; omega) (.slice A2 n2 c2))
              replace Hb7 := Lib.hid (Hb7.out.far (p := ⟨w.heap.size, 0, none⟩) (by dsimp only; omega) (.slice A2 n2 c2))
              replace HS := Lib.hid (HS.out.store HN.out.2.2.2)
              go_simp
              refine hK.out _ _ ?_ (fun hHeld => ?_)
              · exact HS.out.cell
              clear hK K
              try simp only [Act.put, List.setIfInBounds_toArray, List.set_cons_zero, List.set_cons_succ]
              clear r0 r1 z5 hwl
              refine held_yes (i := 15) (d := some 3) (v := ?_) rfl rfl (by kernel_rfl) (by kernel_rfl) (by kernel_rfl) (fun _ _ _ h => h) (by rfl) ?_ (by assumption) ?_
              rotate_left
              · (intro w hSw; (try dsimp only at hSw); go_simp; (first | done | with_reducible rfl))
              try simp only [Act.put, List.setIfInBounds_toArray, List.set_cons_zero, List.set_cons_succ]
              refine held_yes (i := 16) (d := some 4) (v := ?_) rfl rfl (by kernel_rfl) (by kernel_rfl) (by kernel_rfl) (fun _ _ _ h => h) (by rfl) ?_ (by assumption) ?_
              rotate_left
              · (intro w hSw; (try dsimp only at hSw); go_simp; (first | done | with_reducible rfl))
              try simp only [Act.put, List.setIfInBounds_toArray, List.set_cons_zero, List.set_cons_succ]
              refine wpAnyH_ready (rs := [13]) (by kernel_rfl) (by simp) ?_
              refine AllReadyH.cons rfl (fun K hK => ?_) AllReadyH.nil
              have e3 := (Hb6.out.cell z9).trans hv9
              go_simp
              refine hK.out _ _ ?_ (fun hHeld => ?_)
              · exact HS.out.cell
              clear hK K
              try simp only [Act.put, List.setIfInBounds_toArray, List.set_cons_zero, List.set_cons_succ]
              clear e3
              refine wpAnyH_ready (rs := [17]) (by kernel_rfl) (by simp) ?_
              refine AllReadyH.cons rfl (fun K hK => ?_) AllReadyH.nil
              go_simp
              refine hK.out _ _ ?_ (fun hHeld => ?_)
              · first | with_reducible assumption | exact HS.out.cell
              clear hK K
              try simp only [Act.put, List.setIfInBounds_toArray, List.set_cons_zero, List.set_cons_succ]
              refine wpAnyH_done (by kernel_rfl) ?_ _
              have zr := HS.out.2.2.2.cell 0
              go_wp2
              exact bodyPost_ret (v := .tuple #[.agg #[.slice A2 n2 c2], .int .i64 f, .int .i64 k, .int .i64 v9]) (by simp [results, Try.results34, go_sem, *]) rfl ⟨_, _, _, _, _, _, _, rfl, HN.out.1, HN.out.2.1, HN.out.2.2.1, HS.out.fin⟩
          · have r0 := HS.out.2.2.2.1.cell 0
            have r1 := HS.out.2.2.2.1.frozen 0
            have z5 := HS.out.cell
            have hwl := HS.out.2.2.2.1.lt
            (try simp only [World.drew, size_alloc1] at hwl)
            replace Hb6 := Lib.hid (Hb6.out.far (p := ⟨w.heap.size, 0, none⟩) (by dsimp only; omega) (.slice A2 n2 c2))
            replace Hb7 := Lib.hid (Hb7.out.far (p := ⟨w.heap.size, 0, none⟩) (by dsimp only; omega) (.slice A2 n2 c2))
            replace HS := Lib.hid (HS.out.store HN.out.2.2.2)
            go_simp
            refine hK.out _ _ ?_ (fun hHeld => ?_)
            · exact HS.out.cell
            clear hK K
            try simp only [Act.put, List.setIfInBounds_toArray, List.set_cons_zero, List.set_cons_succ]
            clear r0 r1 z5 hwl
            refine held_yes (i := 15) (d := some 3) (v := ?_) rfl rfl (by kernel_rfl) (by kernel_rfl) (by kernel_rfl) (fun _ _ _ h => h) (by rfl) ?_ (by assumption) ?_
            rotate_left
            · (intro w hSw; (try dsimp only at hSw); go_simp; (first | done | with_reducible rfl))
            try simp only [Act.put, List.setIfInBounds_toArray, List.set_cons_zero, List.set_cons_succ]
            refine held_yes (i := 16) (d := some 4) (v := ?_) rfl rfl (by kernel_rfl) (by kernel_rfl) (by kernel_rfl) (fun _ _ _ h => h) (by rfl) ?_ (by assumption) ?_
            rotate_left
            · (intro w hSw; (try dsimp only at hSw); go_simp; (first | done | with_reducible rfl))
            try simp only [Act.put, List.setIfInBounds_toArray, List.set_cons_zero, List.set_cons_succ]
            refine wpAnyH_ready (rs := [11]) (by kernel_rfl) (by simp) ?_
            refine AllReadyH.cons rfl (fun K hK => ?_) AllReadyH.nil
            have e8 := (Hb7.out.cell y9).trans hy9
            go_simp
            refine hK.out _ _ ?_ (fun hHeld => ?_)
            · exact HS.out.cell
            clear hK K
            try simp only [Act.put, List.setIfInBounds_toArray, List.set_cons_zero, List.set_cons_succ]
            clear e8
            obtain ⟨v9, hv9⟩ := lit3 z9 hz9 (IntKind.i64.wrap (x4 - 1)) 48 (-2)
            refine held_yes (i := 12) (d := some 30) (v := ?_) rfl rfl (by kernel_rfl) (by kernel_rfl) (by kernel_rfl) (fun _ _ _ h => h) (by rfl) ?_ (by assumption) ?_
            rotate_left
            · (intro w hSw; (try dsimp only at hSw); go_simp; (first | done | with_reducible rfl))
            try simp only [Act.put, List.setIfInBounds_toArray, List.set_cons_zero, List.set_cons_succ]
            refine wpAnyH_ready (rs := [13]) (by kernel_rfl) (by simp) ?_
            refine AllReadyH.cons rfl (fun K hK => ?_) AllReadyH.nil
            have e3 := (Hb6.out.cell z9).trans hv9
            go_simp
            refine hK.out _ _ ?_ (fun hHeld => ?_)
            · exact HS.out.cell
            clear hK K
            try simp only [Act.put, List.setIfInBounds_toArray, List.set_cons_zero, List.set_cons_succ]
            clear e3
            refine wpAnyH_ready (rs := [17]) (by kernel_rfl) (by simp) ?_
            refine AllReadyH.cons rfl (fun K hK => ?_) AllReadyH.nil
            go_simp
            refine hK.out _ _ ?_ (fun hHeld => ?_)
            · first | with_reducible assumption | exact HS.out.cell
            clear hK K
            try simp only [Act.put, List.setIfInBounds_toArray, List.set_cons_zero, List.set_cons_succ]
            refine wpAnyH_done (by kernel_rfl) ?_ _
            have zr := HS.out.2.2.2.cell 0
            go_wp2
            exact bodyPost_ret (v := .tuple #[.agg #[.slice A2 n2 c2], .int .i64 f, .int .i64 k, .int .i64 v9]) (by simp [results, Try.results34, go_sem, *]) rfl ⟨_, _, _, _, _, _, _, rfl, HN.out.1, HN.out.2.1, HN.out.2.2.1, HS.out.fin⟩
        · have e8 := (Hb7.out.cell y9).trans hy9
          go_simp
          refine hK.out _ _ ?_ (fun hHeld => ?_)
          · exact HS.out.cell
          clear hK K
          try simp only [Act.put, List.setIfInBounds_toArray, List.set_cons_zero, List.set_cons_succ]
          clear e8
          refine wpAnyH_ready (rs := [6, 14]) (by kernel_rfl) (by simp) ?_
          refine AllReadyH.cons rfl (fun K hK => ?_) (AllReadyH.cons rfl (fun K hK => ?_) AllReadyH.nil)
          · have hl0 : Blk (World.alloc (World.alloc w9 (.cells #[.int .i64 0, .int .i64 0, .int .i64 0, .int .i64 0, .int .i64 0, .int .i64 0, .int .i64 1, .int .i64 2] 3)) (.cells #[.int .i64 (IntKind.i64.wrap (x4 - 1)), .int .i64 48, .int .i64 (-2)] 3)) (w9.heap.size + 1) 3 #[.int .i64 (IntKind.i64.wrap (x4 - 1)), .int .i64 48, .int .i64 (-2)] := by have h := Blk.new (World.alloc w9 (.cells #[.int .i64 0, .int .i64 0, .int .i64 0, .int .i64 0, .int .i64 0, .int .i64 0, .int .i64 1, .int .i64 2] 3)) 3 #[.int .i64 (IntKind.i64.wrap (x4 - 1)), .int .i64 48, .int .i64 (-2)]; (try simp only [World.drew, size_alloc1, size_set] at h); exact h
            have hqb6 := HS.out.2.1.lt
            (try simp only [World.drew, size_alloc1] at hqb6)
            replace Hb7 := Lib.hid (Hb7.out.keep (grown_alloc (grown_refl _ none) (.cells #[.int .i64 (IntKind.i64.wrap (x4 - 1)), .int .i64 48, .int .i64 (-2)] 3)))
            have Hb6 := Lib.hid hl0
            clear hl0
            replace HS := Lib.hid (HS.out.kept (grown_alloc (grown_refl _ none) (.cells #[.int .i64 (IntKind.i64.wrap (x4 - 1)), .int .i64 48, .int .i64 (-2)] 3)))
            go_simp
            refine hK.out _ _ ?_ (fun hHeld => ?_)
            · exact HS.out.cell
            clear hK K
            try simp only [Act.put, List.setIfInBounds_toArray, List.set_cons_zero, List.set_cons_succ]
            obtain ⟨v9, hv9⟩ := lit3 z9 hz9 (IntKind.i64.wrap (x4 - 1)) 48 (-2)
            refine held_yes (i := 12) (d := some 30) (v := ?_) rfl rfl (by kernel_rfl) (by kernel_rfl) (by kernel_rfl) (fun _ _ _ h => h) (by rfl) ?_ (by assumption) ?_
            rotate_left
            · (intro w hSw; (try dsimp only at hSw); go_simp; (first | done | with_reducible rfl))
            try simp only [Act.put, List.setIfInBounds_toArray, List.set_cons_zero, List.set_cons_succ]
            refine wpAnyH_ready (rs := [13, 14]) (by kernel_rfl) (by simp) ?_
            refine AllReadyH.cons rfl (fun K hK => ?_) (AllReadyH.cons rfl (fun K hK => ?_) AllReadyH.nil)
            · have e3 := (Hb6.out.cell z9).trans hv9
              go_simp
              refine hK.out _ _ ?_ (fun hHeld => ?_)
              · exact HS.out.cell
              clear hK K
              try simp only [Act.put, List.setIfInBounds_toArray, List.set_cons_zero, List.set_cons_succ]
              clear e3
              refine wpAnyH_ready (rs := [14]) (by kernel_rfl) (by simp) ?_
              refine AllReadyH.cons rfl (fun K hK => ?_) AllReadyH.nil
              have r0 := HS.out.2.2.2.1.cell 0
              have r1 := HS.out.2.2.2.1.frozen 0
              have z5 := HS.out.cell
              have hwl := HS.out.2.2.2.1.lt
              (try simp only [World.drew, size_alloc1] at hwl)
              replace Hb6 := Lib.hid (Hb6.out.far (p := ⟨w.heap.size, 0, none⟩) (by dsimp only; omega) (.slice A2 n2 c2))
              replace Hb7 := Lib.hid (Hb7.out.far (p := ⟨w.heap.size, 0, none⟩) (by dsimp only; omega) (.slice A2 n2 c2))
              replace HS := Lib.hid (HS.out.store HN.out.2.2.2)
              go_simp
              refine hK.out _ _ ?_ (fun hHeld => ?_)
              · exact HS.out.cell
              clear hK K
              try simp only [Act.put, List.setIfInBounds_toArray, List.set_cons_zero, List.set_cons_succ]
              clear r0 r1 z5 hwl
              refine held_yes (i := 15) (d := some 3) (v := ?_) rfl rfl (by kernel_rfl) (by kernel_rfl) (by kernel_rfl) (fun _ _ _ h => h) (by rfl) ?_ (by assumption) ?_
              rotate_left
              · (intro w hSw; (try dsimp only at hSw); go_simp; (first | done | with_reducible rfl))
              try simp only [Act.put, List.setIfInBounds_toArray, List.set_cons_zero, List.set_cons_succ]
              refine held_yes (i := 16) (d := some 4) (v := ?_) rfl rfl (by kernel_rfl) (by kernel_rfl) (by kernel_rfl) (fun _ _ _ h => h) (by rfl) ?_ (by assumption) ?_
              rotate_left
              · (intro w hSw; (try dsimp only at hSw); go_simp; (first | done | with_reducible rfl))
              try simp only [Act.put, List.setIfInBounds_toArray, List.set_cons_zero, List.set_cons_succ]
              refine wpAnyH_ready (rs := [17]) (by kernel_rfl) (by simp) ?_
              refine AllReadyH.cons rfl (fun K hK => ?_) AllReadyH.nil
              go_simp
              refine hK.out _ _ ?_ (fun hHeld => ?_)
              · first | with_reducible assumption | exact HS.out.cell
              clear hK K
              try simp only [Act.put, List.setIfInBounds_toArray, List.set_cons_zero, List.set_cons_succ]
              refine wpAnyH_done (by kernel_rfl) ?_ _
              have zr := HS.out.2.2.2.cell 0
              go_wp2
              exact bodyPost_ret (v := .tuple #[.agg #[.slice A2 n2 c2], .int .i64 f, .int .i64 k, .int .i64 v9]) (by simp [results, Try.results34, go_sem, *]) rfl ⟨_, _, _, _, _, _, _, rfl, HN.out.1, HN.out.2.1, HN.out.2.2.1, HS.out.fin⟩
            · have r0 := HS.out.2.2.2.1.cell 0
              have r1 := HS.out.2.2.2.1.frozen 0
              have z5 := HS.out.cell
              have hwl := HS.out.2.2.2.1.lt
              (try simp only [World.drew, size_alloc1] at hwl)
              replace Hb6 := Lib.hid (Hb6.out.far (p := ⟨w.heap.size, 0, none⟩) (by dsimp only; omega) (.slice A2 n2 c2))
              replace Hb7 := Lib.hid (Hb7.out.far (p := ⟨w.heap.size, 0, none⟩) (by dsimp only; omega) (.slice A2 n2 c2))
              replace HS := Lib.hid (HS.out.store HN.out.2.2.2)
              go_simp
              refine hK.out _ _ ?_ (fun hHeld => ?_)
              · exact HS.out.cell
              clear hK K
              try simp only [Act.put, List.setIfInBounds_toArray, List.set_cons_zero, List.set_cons_succ]
              clear r0 r1 z5 hwl
              refine held_yes (i := 15) (d := some 3) (v := ?_) rfl rfl (by kernel_rfl) (by kernel_rfl) (by kernel_rfl) (fun _ _ _ h => h) (by rfl) ?_ (by assumption) ?_
              rotate_left
              · (intro w hSw; (try dsimp only at hSw); go_simp; (first | done | with_reducible rfl))
              try simp only [Act.put, List.setIfInBounds_toArray, List.set_cons_zero, List.set_cons_succ]
              refine held_yes (i := 16) (d := some 4) (v := ?_) rfl rfl (by kernel_rfl) (by kernel_rfl) (by kernel_rfl) (fun _ _ _ h => h) (by rfl) ?_ (by assumption) ?_
              rotate_left
              · (intro w hSw; (try dsimp only at hSw); go_simp; (first | done | with_reducible rfl))
              try simp only [Act.put, List.setIfInBounds_toArray, List.set_cons_zero, List.set_cons_succ]
              refine wpAnyH_ready (rs := [13]) (by kernel_rfl) (by simp) ?_
              refine AllReadyH.cons rfl (fun K hK => ?_) AllReadyH.nil
              have e3 := (Hb6.out.cell z9).trans hv9
              go_simp
              refine hK.out _ _ ?_ (fun hHeld => ?_)
              · exact HS.out.cell
              clear hK K
              try simp only [Act.put, List.setIfInBounds_toArray, List.set_cons_zero, List.set_cons_succ]
              clear e3
              refine wpAnyH_ready (rs := [17]) (by kernel_rfl) (by simp) ?_
              refine AllReadyH.cons rfl (fun K hK => ?_) AllReadyH.nil
              go_simp
              refine hK.out _ _ ?_ (fun hHeld => ?_)
              · first | with_reducible assumption | exact HS.out.cell
              clear hK K
              try simp only [Act.put, List.setIfInBounds_toArray, List.set_cons_zero, List.set_cons_succ]
              refine wpAnyH_done (by kernel_rfl) ?_ _
              have zr := HS.out.2.2.2.cell 0
              go_wp2
              exact bodyPost_ret (v := .tuple #[.agg #[.slice A2 n2 c2], .int .i64 f, .int .i64 k, .int .i64 v9]) (by simp [results, Try.results34, go_sem, *]) rfl ⟨_, _, _, _, _, _, _, rfl, HN.out.1, HN.out.2.1, HN.out.2.2.1, HS.out.fin⟩
          · have r0 := HS.out.2.2.2.1.cell 0
            have r1 := HS.out.2.2.2.1.frozen 0
            have z5 := HS.out.cell
            have hwl := HS.out.2.2.2.1.lt
            (try simp only [World.drew, size_alloc1] at hwl)
            replace Hb7 := Lib.hid (Hb7.out.far (p := ⟨w.heap.size, 0, none⟩) (by dsimp only; omega) (.slice A2 n2 c2))
            replace HS := Lib.hid (HS.out.store HN.out.2.2.2)
            go_simp
            refine hK.out _ _ ?_ (fun hHeld => ?_)
            · exact HS.out.cell
            clear hK K
            try simp only [Act.put, List.setIfInBounds_toArray, List.set_cons_zero, List.set_cons_succ]
            clear r0 r1 z5 hwl
            refine held_yes (i := 15) (d := some 3) (v := ?_) rfl rfl (by kernel_rfl) (by kernel_rfl) (by kernel_rfl) (fun _ _ _ h => h) (by rfl) ?_ (by assumption) ?_
            rotate_left
            · (intro w hSw; (try dsimp only at hSw); go_simp; (first | done | with_reducible rfl))
            try simp only [Act.put, List.setIfInBounds_toArray, List.set_cons_zero, List.set_cons_succ]
            refine held_yes (i := 16) (d := some 4) (v := ?_) rfl rfl (by kernel_rfl) (by kernel_rfl) (by kernel_rfl) (fun _ _ _ h => h) (by rfl) ?_ (by assumption) ?_
            rotate_left
            · (intro w hSw; (try dsimp only at hSw); go_simp; (first | done | with_reducible rfl))
            try simp only [Act.put, List.setIfInBounds_toArray, List.set_cons_zero, List.set_cons_succ]
            refine wpAnyH_ready (rs := [6]) (by kernel_rfl) (by simp) ?_
            refine AllReadyH.cons rfl (fun K hK => ?_) AllReadyH.nil
            have hl0 : Blk (World.alloc (World.setCell (World.alloc w9 (.cells #[.int .i64 0, .int .i64 0, .int .i64 0, .int .i64 0, .int .i64 0, .int .i64 0, .int .i64 1, .int .i64 2] 3)) ⟨w.heap.size, 0, none⟩ (.slice A2 n2 c2)) (.cells #[.int .i64 (IntKind.i64.wrap (x4 - 1)), .int .i64 48, .int .i64 (-2)] 3)) (w9.heap.size + 1) 3 #[.int .i64 (IntKind.i64.wrap (x4 - 1)), .int .i64 48, .int .i64 (-2)] := by have h := Blk.new (World.setCell (World.alloc w9 (.cells #[.int .i64 0, .int .i64 0, .int .i64 0, .int .i64 0, .int .i64 0, .int .i64 0, .int .i64 1, .int .i64 2] 3)) ⟨w.heap.size, 0, none⟩ (.slice A2 n2 c2)) 3 #[.int .i64 (IntKind.i64.wrap (x4 - 1)), .int .i64 48, .int .i64 (-2)]; (try simp only [World.drew, size_alloc1, size_set] at h); exact h
            replace Hb7 := Lib.hid (Hb7.out.keep (grown_alloc (grown_refl _ none) (.cells #[.int .i64 (IntKind.i64.wrap (x4 - 1)), .int .i64 48, .int .i64 (-2)] 3)))
            have Hb6 := Lib.hid hl0
            clear hl0
            replace HS := Lib.hid (HS.out.kept (grown_alloc (grown_refl _ none) (.cells #[.int .i64 (IntKind.i64.wrap (x4 - 1)), .int .i64 48, .int .i64 (-2)] 3)))
            go_simp
            refine hK.out _ _ ?_ (fun hHeld => ?_)
            · exact HS.out.cell
            clear hK K
            try simp only [Act.put, List.setIfInBounds_toArray, List.set_cons_zero, List.set_cons_succ]
            obtain ⟨v9, hv9⟩ := lit3 z9 hz9 (IntKind.i64.wrap (x4 - 1)) 48 (-2)
            refine held_yes (i := 12) (d := some 30) (v := ?_) rfl rfl (by kernel_rfl) (by kernel_rfl) (by kernel_rfl) (fun _ _ _ h => h) (by rfl) ?_ (by assumption) ?_
            rotate_left
            · (intro w hSw; (try dsimp only at hSw); go_simp; (first | done | with_reducible rfl))
            try simp only [Act.put, List.setIfInBounds_toArray, List.set_cons_zero, List.set_cons_succ]
            refine wpAnyH_ready (rs := [13]) (by kernel_rfl) (by simp) ?_
            refine AllReadyH.cons rfl (fun K hK => ?_) AllReadyH.nil
            have e3 := (Hb6.out.cell z9).trans hv9
            go_simp
            refine hK.out _ _ ?_ (fun hHeld => ?_)
            · exact HS.out.cell
            clear hK K
            try simp only [Act.put, List.setIfInBounds_toArray, List.set_cons_zero, List.set_cons_succ]
            clear e3
            refine wpAnyH_ready (rs := [17]) (by kernel_rfl) (by simp) ?_
            refine AllReadyH.cons rfl (fun K hK => ?_) AllReadyH.nil
            go_simp
            refine hK.out _ _ ?_ (fun hHeld => ?_)
            · first | with_reducible assumption | exact HS.out.cell
            clear hK K
            try simp only [Act.put, List.setIfInBounds_toArray, List.set_cons_zero, List.set_cons_succ]
            refine wpAnyH_done (by kernel_rfl) ?_ _
            have zr := HS.out.2.2.2.cell 0
            go_wp2
            exact bodyPost_ret (v := .tuple #[.agg #[.slice A2 n2 c2], .int .i64 f, .int .i64 k, .int .i64 v9]) (by simp [results, Try.results34, go_sem, *]) rfl ⟨_, _, _, _, _, _, _, rfl, HN.out.1, HN.out.2.1, HN.out.2.2.1, HS.out.fin⟩
        · have r0 := HS.out.2.2.2.1.cell 0
          have r1 := HS.out.2.2.2.1.frozen 0
          have z5 := HS.out.cell
          have hwl := HS.out.2.2.2.1.lt
          (try simp only [World.drew, size_alloc1] at hwl)
          replace Hb7 := Lib.hid (Hb7.out.far (p := ⟨w.heap.size, 0, none⟩) (by dsimp only; omega) (.slice A2 n2 c2))
          replace HS := Lib.hid (HS.out.store HN.out.2.2.2)
          go_simp
          refine hK.out _ _ ?_ (fun hHeld => ?_)
          · exact HS.out.cell
          clear hK K
          try simp only [Act.put, List.setIfInBounds_toArray, List.set_cons_zero, List.set_cons_succ]
          clear r0 r1 z5 hwl
          refine held_yes (i := 15) (d := some 3) (v := ?_) rfl rfl (by kernel_rfl) (by kernel_rfl) (by kernel_rfl) (fun _ _ _ h => h) (by rfl) ?_ (by assumption) ?_
          rotate_left
          · (intro w hSw; (try dsimp only at hSw); go_simp; (first | done | with_reducible rfl))
          try simp only [Act.put, List.setIfInBounds_toArray, List.set_cons_zero, List.set_cons_succ]
          refine held_yes (i := 16) (d := some 4) (v := ?_) rfl rfl (by kernel_rfl) (by kernel_rfl) (by kernel_rfl) (fun _ _ _ h => h) (by rfl) ?_ (by assumption) ?_
          rotate_left
          · (intro w hSw; (try dsimp only at hSw); go_simp; (first | done | with_reducible rfl))
          try simp only [Act.put, List.setIfInBounds_toArray, List.set_cons_zero, List.set_cons_succ]
          refine wpAnyH_ready (rs := [6, 11]) (by kernel_rfl) (by simp) ?_
          refine AllReadyH.cons rfl (fun K hK => ?_) (AllReadyH.cons rfl (fun K hK => ?_) AllReadyH.nil)
          · have hl0 : Blk (World.alloc (World.setCell (World.alloc w9 (.cells #[.int .i64 0, .int .i64 0, .int .i64 0, .int .i64 0, .int .i64 0, .int .i64 0, .int .i64 1, .int .i64 2] 3)) ⟨w.heap.size, 0, none⟩ (.slice A2 n2 c2)) (.cells #[.int .i64 (IntKind.i64.wrap (x4 - 1)), .int .i64 48, .int .i64 (-2)] 3)) (w9.heap.size + 1) 3 #[.int .i64 (IntKind.i64.wrap (x4 - 1)), .int .i64 48, .int .i64 (-2)] := by have h := Blk.new (World.setCell (World.alloc w9 (.cells #[.int .i64 0, .int .i64 0, .int .i64 0, .int .i64 0, .int .i64 0, .int .i64 0, .int .i64 1, .int .i64 2] 3)) ⟨w.heap.size, 0, none⟩ (.slice A2 n2 c2)) 3 #[.int .i64 (IntKind.i64.wrap (x4 - 1)), .int .i64 48, .int .i64 (-2)]; (try simp only [World.drew, size_alloc1, size_set] at h); exact h
            replace Hb7 := Lib.hid (Hb7.out.keep (grown_alloc (grown_refl _ none) (.cells #[.int .i64 (IntKind.i64.wrap (x4 - 1)), .int .i64 48, .int .i64 (-2)] 3)))
            have Hb6 := Lib.hid hl0
            clear hl0
            replace HS := Lib.hid (HS.out.kept (grown_alloc (grown_refl _ none) (.cells #[.int .i64 (IntKind.i64.wrap (x4 - 1)), .int .i64 48, .int .i64 (-2)] 3)))
            go_simp
            refine hK.out _ _ ?_ (fun hHeld => ?_)
            · exact HS.out.cell
            clear hK K
            try simp only [Act.put, List.setIfInBounds_toArray, List.set_cons_zero, List.set_cons_succ]
            refine wpAnyH_ready (rs := [11]) (by kernel_rfl) (by simp) ?_
            refine AllReadyH.cons rfl (fun K hK => ?_) AllReadyH.nil
            have e8 := (Hb7.out.cell y9).trans hy9
            go_simp
            refine hK.out _ _ ?_ (fun hHeld => ?_)
            · exact HS.out.cell
            clear hK K
            try simp only [Act.put, List.setIfInBounds_toArray, List.set_cons_zero, List.set_cons_succ]
            clear e8
            obtain ⟨v9, hv9⟩ := lit3 z9 hz9 (IntKind.i64.wrap (x4 - 1)) 48 (-2)
            refine held_yes (i := 12) (d := some 30) (v := ?_) rfl rfl (by kernel_rfl) (by kernel_rfl) (by kernel_rfl) (fun _ _ _ h => h) (by rfl) ?_ (by assumption) ?_
            rotate_left
            · (intro w hSw; (try dsimp only at hSw); go_simp; (first | done | with_reducible rfl))
            try simp only [Act.put, List.setIfInBounds_toArray, List.set_cons_zero, List.set_cons_succ]
            refine wpAnyH_ready (rs := [13]) (by kernel_rfl) (by simp) ?_
            refine AllReadyH.cons rfl (fun K hK => ?_) AllReadyH.nil
            have e3 := (Hb6.out.cell z9).trans hv9
            go_simp
            refine hK.out _ _ ?_ (fun hHeld => ?_)
            · exact HS.out.cell
            clear hK K
            try simp only [Act.put, List.setIfInBounds_toArray, List.set_cons_zero, List.set_cons_succ]
            clear e3
            refine wpAnyH_ready (rs := [17]) (by kernel_rfl) (by simp) ?_
            refine AllReadyH.cons rfl (fun K hK => ?_) AllReadyH.nil
            go_simp
            refine hK.out _ _ ?_ (fun hHeld => ?_)
            · first | with_reducible assumption | exact HS.out.cell
            clear hK K
            try simp only [Act.put, List.setIfInBounds_toArray, List.set_cons_zero, List.set_cons_succ]
            refine wpAnyH_done (by kernel_rfl) ?_ _
            have zr := HS.out.2.2.2.cell 0
            go_wp2
            exact bodyPost_ret (v := .tuple #[.agg #[.slice A2 n2 c2], .int .i64 f, .int .i64 k, .int .i64 v9]) (by simp [results, Try.results34, go_sem, *]) rfl ⟨_, _, _, _, _, _, _, rfl, HN.out.1, HN.out.2.1, HN.out.2.2.1, HS.out.fin⟩
          · have e8 := (Hb7.out.cell y9).trans hy9
            go_simp
            refine hK.out _ _ ?_ (fun hHeld => ?_)
            · exact HS.out.cell
            clear hK K
            try simp only [Act.put, List.setIfInBounds_toArray, List.set_cons_zero, List.set_cons_succ]
            clear e8
            refine wpAnyH_ready (rs := [6]) (by kernel_rfl) (by simp) ?_
            refine AllReadyH.cons rfl (fun K hK => ?_) AllReadyH.nil
            have hl0 : Blk (World.alloc (World.setCell (World.alloc w9 (.cells #[.int .i64 0, .int .i64 0, .int .i64 0, .int .i64 0, .int .i64 0, .int .i64 0, .int .i64 1, .int .i64 2] 3)) ⟨w.heap.size, 0, none⟩ (.slice A2 n2 c2)) (.cells #[.int .i64 (IntKind.i64.wrap (x4 - 1)), .int .i64 48, .int .i64 (-2)] 3)) (w9.heap.size + 1) 3 #[.int .i64 (IntKind.i64.wrap (x4 - 1)), .int .i64 48, .int .i64 (-2)] := by have h := Blk.new (World.setCell (World.alloc w9 (.cells #[.int .i64 0, .int .i64 0, .int .i64 0, .int .i64 0, .int .i64 0, .int .i64 0, .int .i64 1, .int .i64 2] 3)) ⟨w.heap.size, 0, none⟩ (.slice A2 n2 c2)) 3 #[.int .i64 (IntKind.i64.wrap (x4 - 1)), .int .i64 48, .int .i64 (-2)]; (try simp only [World.drew, size_alloc1, size_set] at h); exact h
            replace Hb7 := Lib.hid (Hb7.out.keep (grown_alloc (grown_refl _ none) (.cells #[.int .i64 (IntKind.i64.wrap (x4 - 1)), .int .i64 48, .int .i64 (-2)] 3)))
            have Hb6 := Lib.hid hl0
            clear hl0
            replace HS := Lib.hid (HS.out.kept (grown_alloc (grown_refl _ none) (.cells #[.int .i64 (IntKind.i64.wrap (x4 - 1)), .int .i64 48, .int .i64 (-2)] 3)))
            go_simp
            refine hK.out _ _ ?_ (fun hHeld => ?_)
            · exact HS.out.cell
            clear hK K
            try simp only [Act.put, List.setIfInBounds_toArray, List.set_cons_zero, List.set_cons_succ]
            obtain ⟨v9, hv9⟩ := lit3 z9 hz9 (IntKind.i64.wrap (x4 - 1)) 48 (-2)
            refine held_yes (i := 12) (d := some 30) (v := ?_) rfl rfl (by kernel_rfl) (by kernel_rfl) (by kernel_rfl) (fun _ _ _ h => h) (by rfl) ?_ (by assumption) ?_
            rotate_left
            · (intro w hSw; (try dsimp only at hSw); go_simp; (first | done | with_reducible rfl))
            try simp only [Act.put, List.setIfInBounds_toArray, List.set_cons_zero, List.set_cons_succ]
            refine wpAnyH_ready (rs := [13]) (by kernel_rfl) (by simp) ?_
            refine AllReadyH.cons rfl (fun K hK => ?_) AllReadyH.nil
            have e3 := (Hb6.out.cell z9).trans hv9
            go_simp
            refine hK.out _ _ ?_ (fun hHeld => ?_)
            · exact HS.out.cell
            clear hK K
            try simp only [Act.put, List.setIfInBounds_toArray, List.set_cons_zero, List.set_cons_succ]
            clear e3
            refine wpAnyH_ready (rs := [17]) (by kernel_rfl) (by simp) ?_
            refine AllReadyH.cons rfl (fun K hK => ?_) AllReadyH.nil
            go_simp
            refine hK.out _ _ ?_ (fun hHeld => ?_)
            · first | with_reducible assumption | exact HS.out.cell
            clear hK K
            try simp only [Act.put, List.setIfInBounds_toArray, List.set_cons_zero, List.set_cons_succ]
            refine wpAnyH_done (by kernel_rfl) ?_ _
            have zr := HS.out.2.2.2.cell 0
            go_wp2
            exact bodyPost_ret (v := .tuple #[.agg #[.slice A2 n2 c2], .int .i64 f, .int .i64 k, .int .i64 v9]) (by simp [results, Try.results34, go_sem, *]) rfl ⟨_, _, _, _, _, _, _, rfl, HN.out.1, HN.out.2.1, HN.out.2.2.1, HS.out.fin⟩
      · have r0 := HS.out.2.2.2.1.cell 0
        have r1 := HS.out.2.2.2.1.frozen 0
        have z5 := HS.out.cell
        have hwl := HS.out.2.2.2.1.lt
        (try simp only [World.drew, size_alloc1] at hwl)
        replace HS := Lib.hid (HS.out.store HN.out.2.2.2)
        go_simp
        refine hK.out _ _ ?_ (fun hHeld => ?_)
        · exact HS.out.cell
        clear hK K
        try simp only [Act.put, List.setIfInBounds_toArray, List.set_cons_zero, List.set_cons_succ]
        clear r0 r1 z5 hwl
        refine held_yes (i := 15) (d := some 3) (v := ?_) rfl rfl (by kernel_rfl) (by kernel_rfl) (by kernel_rfl) (fun _ _ _ h => h) (by rfl) ?_ (by assumption) ?_
        rotate_left
        · (intro w hSw; (try dsimp only at hSw); go_simp; (first | done | with_reducible rfl))
        try simp only [Act.put, List.setIfInBounds_toArray, List.set_cons_zero, List.set_cons_succ]
        refine held_yes (i := 16) (d := some 4) (v := ?_) rfl rfl (by kernel_rfl) (by kernel_rfl) (by kernel_rfl) (fun _ _ _ h => h) (by rfl) ?_ (by assumption) ?_
        rotate_left
        · (intro w hSw; (try dsimp only at hSw); go_simp; (first | done | with_reducible rfl))
        try simp only [Act.put, List.setIfInBounds_toArray, List.set_cons_zero, List.set_cons_succ]
        refine wpAnyH_ready (rs := [6, 7]) (by kernel_rfl) (by simp) ?_
        refine AllReadyH.cons rfl (fun K hK => ?_) (AllReadyH.cons rfl (fun K hK => ?_) AllReadyH.nil)
        · have hl0 : Blk (World.alloc (World.setCell w9 ⟨w.heap.size, 0, none⟩ (.slice A2 n2 c2)) (.cells #[.int .i64 (IntKind.i64.wrap (x4 - 1)), .int .i64 48, .int .i64 (-2)] 3)) (w9.heap.size) 3 #[.int .i64 (IntKind.i64.wrap (x4 - 1)), .int .i64 48, .int .i64 (-2)] := by have h := Blk.new (World.setCell w9 ⟨w.heap.size, 0, none⟩ (.slice A2 n2 c2)) 3 #[.int .i64 (IntKind.i64.wrap (x4 - 1)), .int .i64 48, .int .i64 (-2)]; (try simp only [World.drew, size_alloc1, size_set] at h); exact h
          have Hb6 := Lib.hid hl0
          clear hl0
          replace HS := Lib.hid (HS.out.kept (grown_alloc (grown_refl _ none) (.cells #[.int .i64 (IntKind.i64.wrap (x4 - 1)), .int .i64 48, .int .i64 (-2)] 3)))
          go_simp
          refine hK.out _ _ ?_ (fun hHeld => ?_)
          · exact HS.out.cell
          clear hK K
          try simp only [Act.put, List.setIfInBounds_toArray, List.set_cons_zero, List.set_cons_succ]
          refine wpAnyH_ready (rs := [7]) (by kernel_rfl) (by simp) ?_
          refine AllReadyH.cons rfl (fun K hK => ?_) AllReadyH.nil
          have hl0 : Blk (World.alloc (World.alloc (World.setCell w9 ⟨w.heap.size, 0, none⟩ (.slice A2 n2 c2)) (.cells #[.int .i64 (IntKind.i64.wrap (x4 - 1)), .int .i64 48, .int .i64 (-2)] 3)) (.cells #[.int .i64 0, .int .i64 0, .int .i64 0, .int .i64 0, .int .i64 0, .int .i64 0, .int .i64 1, .int .i64 2] 3)) (w9.heap.size + 1) 3 #[.int .i64 0, .int .i64 0, .int .i64 0, .int .i64 0, .int .i64 0, .int .i64 0, .int .i64 1, .int .i64 2] := by have h := Blk.new (World.alloc (World.setCell w9 ⟨w.heap.size, 0, none⟩ (.slice A2 n2 c2)) (.cells #[.int .i64 (IntKind.i64.wrap (x4 - 1)), .int .i64 48, .int .i64 (-2)] 3)) 3 #[.int .i64 0, .int .i64 0, .int .i64 0, .int .i64 0, .int .i64 0, .int .i64 0, .int .i64 1, .int .i64 2]; (try simp only [World.drew, size_alloc1, size_set] at h); exact h
          replace Hb6 := Lib.hid (Hb6.out.keep (grown_alloc (grown_refl _ none) (.cells #[.int .i64 0, .int .i64 0, .int .i64 0, .int .i64 0, .int .i64 0, .int .i64 0, .int .i64 1, .int .i64 2] 3)))
          have Hb7 := Lib.hid hl0
          clear hl0
          replace HS := Lib.hid (HS.out.kept (grown_alloc (grown_refl _ none) (.cells #[.int .i64 0, .int .i64 0, .int .i64 0, .int .i64 0, .int .i64 0, .int .i64 0, .int .i64 1, .int .i64 2] 3)))
          go_simp
          refine hK.out _ _ ?_ (fun hHeld => ?_)
          · exact HS.out.cell
          clear hK K
          try simp only [Act.put, List.setIfInBounds_toArray, List.set_cons_zero, List.set_cons_succ]
          obtain ⟨z9, hz9, hy9⟩ := lit8 y9 (by omega)
          have z0 : decide ((0 : Int) ≤ z9) = true := decide_eq_true (by omega)
          have z1 : (z9 : Int) < 3 := by omega
          refine held_yes (i := 10) (d := some 28) (v := ?_) rfl rfl (by kernel_rfl) (by kernel_rfl) (by kernel_rfl) (fun _ _ _ h => h) (by rfl) ?_ (by assumption) ?_
          rotate_left
          · (intro w hSw; (try dsimp only at hSw); go_simp; (first | done | with_reducible rfl))
          try simp only [Act.put, List.setIfInBounds_toArray, List.set_cons_zero, List.set_cons_succ]
          refine wpAnyH_ready (rs := [11]) (by kernel_rfl) (by simp) ?_
          refine AllReadyH.cons rfl (fun K hK => ?_) AllReadyH.nil
          have e8 := (Hb7.out.cell y9).trans hy9
          go_simp
          refine hK.out _ _ ?_ (fun hHeld => ?_)
          · exact HS.out.cell
          clear hK K
          try simp only [Act.put, List.setIfInBounds_toArray, List.set_cons_zero, List.set_cons_succ]
          clear e8
          obtain ⟨v9, hv9⟩ := lit3 z9 hz9 (IntKind.i64.wrap (x4 - 1)) 48 (-2)
          refine held_yes (i := 12) (d := some 30) (v := ?_) rfl rfl (by kernel_rfl) (by kernel_rfl) (by kernel_rfl) (fun _ _ _ h => h) (by rfl) ?_ (by assumption) ?_
          rotate_left
          · (intro w hSw; (try dsimp only at hSw); go_simp; (first | done | with_reducible rfl))
          try simp only [Act.put, List.setIfInBounds_toArray, List.set_cons_zero, List.set_cons_succ]
          refine wpAnyH_ready (rs := [13]) (by kernel_rfl) (by simp) ?_
          refine AllReadyH.cons rfl (fun K hK => ?_) AllReadyH.nil
          have e3 := (Hb6.out.cell z9).trans hv9
          go_simp
          refine hK.out _ _ ?_ (fun hHeld => ?_)
          · exact HS.out.cell
          clear hK K
          try simp only [Act.put, List.setIfInBounds_toArray, List.set_cons_zero, List.set_cons_succ]
          clear e3
          refine wpAnyH_ready (rs := [17]) (by kernel_rfl) (by simp) ?_
          refine AllReadyH.cons rfl (fun K hK => ?_) AllReadyH.nil
          go_simp
          refine hK.out _ _ ?_ (fun hHeld => ?_)
          · first | with_reducible assumption | exact HS.out.cell
          clear hK K
          try simp only [Act.put, List.setIfInBounds_toArray, List.set_cons_zero, List.set_cons_succ]
          refine wpAnyH_done (by kernel_rfl) ?_ _
          have zr := HS.out.2.2.2.cell 0
          go_wp2
          exact bodyPost_ret (v := .tuple #[.agg #[.slice A2 n2 c2], .int .i64 f, .int .i64 k, .int .i64 v9]) (by simp [results, Try.results34, go_sem, *]) rfl ⟨_, _, _, _, _, _, _, rfl, HN.out.1, HN.out.2.1, HN.out.2.2.1, HS.out.fin⟩
        · have hl0 : Blk (World.alloc (World.setCell w9 ⟨w.heap.size, 0, none⟩ (.slice A2 n2 c2)) (.cells #[.int .i64 0, .int .i64 0, .int .i64 0, .int .i64 0, .int .i64 0, .int .i64 0, .int .i64 1, .int .i64 2] 3)) (w9.heap.size) 3 #[.int .i64 0, .int .i64 0, .int .i64 0, .int .i64 0, .int .i64 0, .int .i64 0, .int .i64 1, .int .i64 2] := by have h := Blk.new (World.setCell w9 ⟨w.heap.size, 0, none⟩ (.slice A2 n2 c2)) 3 #[.int .i64 0, .int .i64 0, .int .i64 0, .int .i64 0, .int .i64 0, .int .i64 0, .int .i64 1, .int .i64 2]; (try simp only [World.drew, size_alloc1, size_set] at h); exact h
          have Hb7 := Lib.hid hl0
          clear hl0
          replace HS := Lib.hid (HS.out.kept (grown_alloc (grown_refl _ none) (.cells #[.int .i64 0, .int .i64 0, .int .i64 0, .int .i64 0, .int .i64 0, .int .i64 0, .int .i64 1, .int .i64 2] 3)))
          go_simp
          refine hK.out _ _ ?_ (fun hHeld => ?_)
          · exact HS.out.cell
          clear hK K
          try simp only [Act.put, List.setIfInBounds_toArray, List.set_cons_zero, List.set_cons_succ]
          obtain ⟨z9, hz9, hy9⟩ := lit8 y9 (by omega)
          have z0 : decide ((0 : Int) ≤ z9) = true := decide_eq_true (by omega)
          have z1 : (z9 : Int) < 3 := by omega
          refine held_yes (i := 10) (d := some 28) (v := ?_) rfl rfl (by kernel_rfl) (by kernel_rfl) (by kernel_rfl) (fun _ _ _ h => h) (by rfl) ?_ (by assumption) ?_
          rotate_left
          · (intro w hSw; (try dsimp only at hSw); go_simp; (first | done | with_reducible rfl))
          try simp only [Act.put, List.setIfInBounds_toArray, List.set_cons_zero, List.set_cons_succ]
          refine wpAnyH_ready (rs := [6, 11]) (by kernel_rfl) (by simp) ?_
          refine AllReadyH.cons rfl (fun K hK => ?_) (AllReadyH.cons rfl (fun K hK => ?_) AllReadyH.nil)
          · have hl0 : Blk (World.alloc (World.alloc (World.setCell w9 ⟨w.heap.size, 0, none⟩ (.slice A2 n2 c2)) (.cells #[.int .i64 0, .int .i64 0, .int .i64 0, .int .i64 0, .int .i64 0, .int .i64 0, .int .i64 1, .int .i64 2] 3)) (.cells #[.int .i64 (IntKind.i64.wrap (x4 - 1)), .int .i64 48, .int .i64 (-2)] 3)) (w9.heap.size + 1) 3 #[.int .i64 (IntKind.i64.wrap (x4 - 1)), .int .i64 48, .int .i64 (-2)] := by have h := Blk.new (World.alloc (World.setCell w9 ⟨w.heap.size, 0, none⟩ (.slice A2 n2 c2)) (.cells #[.int .i64 0, .int .i64 0, .int .i64 0, .int .i64 0, .int .i64 0, .int .i64 0, .int .i64 1, .int .i64 2] 3)) 3 #[.int .i64 (IntKind.i64.wrap (x4 - 1)), .int .i64 48, .int .i64 (-2)]; (try simp only [World.drew, size_alloc1, size_set] at h); exact h
            replace Hb7 := Lib.hid (Hb7.out.keep (grown_alloc (grown_refl _ none) (.cells #[.int .i64 (IntKind.i64.wrap (x4 - 1)), .int .i64 48, .int .i64 (-2)] 3)))
            have Hb6 := Lib.hid hl0
            clear hl0
            replace HS := Lib.hid (HS.out.kept (grown_alloc (grown_refl _ none) (.cells #[.int .i64 (IntKind.i64.wrap (x4 - 1)), .int .i64 48, .int .i64 (-2)] 3)))
            go_simp
            refine hK.out _ _ ?_ (fun hHeld => ?_)
            · exact HS.out.cell
            clear hK K
            try simp only [Act.put, List.setIfInBounds_toArray, List.set_cons_zero, List.set_cons_succ]
            refine wpAnyH_ready (rs := [11]) (by kernel_rfl) (by simp) ?_
            refine AllReadyH.cons rfl (fun K hK => ?_) AllReadyH.nil
            have e8 := (Hb7.out.cell y9).trans hy9
            go_simp
            refine hK.out _ _ ?_ (fun hHeld => ?_)
            · exact HS.out.cell
            clear hK K
            try simp only [Act.put, List.setIfInBounds_toArray, List.set_cons_zero, List.set_cons_succ]
            clear e8
            obtain ⟨v9, hv9⟩ := lit3 z9 hz9 (IntKind.i64.wrap (x4 - 1)) 48 (-2)
            refine held_yes (i := 12) (d := some 30) (v := ?_) rfl rfl (by kernel_rfl) (by kernel_rfl) (by kernel_rfl) (fun _ _ _ h => h) (by rfl) ?_ (by assumption) ?_
            rotate_left
            · (intro w hSw; (try dsimp only at hSw); go_simp; (first | done | with_reducible rfl))
            try simp only [Act.put, List.setIfInBounds_toArray, List.set_cons_zero, List.set_cons_succ]
            refine wpAnyH_ready (rs := [13]) (by kernel_rfl) (by simp) ?_
            refine AllReadyH.cons rfl (fun K hK => ?_) AllReadyH.nil
            have e3 := (Hb6.out.cell z9).trans hv9
            go_simp
            refine hK.out _ _ ?_ (fun hHeld => ?_)
            · exact HS.out.cell
            clear hK K
            try simp only [Act.put, List.setIfInBounds_toArray, List.set_cons_zero, List.set_cons_succ]
            clear e3
            refine wpAnyH_ready (rs := [17]) (by kernel_rfl) (by simp) ?_
            refine AllReadyH.cons rfl (fun K hK => ?_) AllReadyH.nil
            go_simp
            refine hK.out _ _ ?_ (fun hHeld => ?_)
            · first | with_reducible assumption | exact HS.out.cell
            clear hK K
            try simp only [Act.put, List.setIfInBounds_toArray, List.set_cons_zero, List.set_cons_succ]
            refine wpAnyH_done (by kernel_rfl) ?_ _
            have zr := HS.out.2.2.2.cell 0
            go_wp2
            exact bodyPost_ret (v := .tuple #[.agg #[.slice A2 n2 c2], .int .i64 f, .int .i64 k, .int .i64 v9]) (by simp [results, Try.results34, go_sem, *]) rfl ⟨_, _, _, _, _, _, _, rfl, HN.out.1, HN.out.2.1, HN.out.2.2.1, HS.out.fin⟩
          · have e8 := (Hb7.out.cell y9).trans hy9
            go_simp
            refine hK.out _ _ ?_ (fun hHeld => ?_)
            · exact HS.out.cell
            clear hK K
            try simp only [Act.put, List.setIfInBounds_toArray, List.set_cons_zero, List.set_cons_succ]
            clear e8
            refine wpAnyH_ready (rs := [6]) (by kernel_rfl) (by simp) ?_
            refine AllReadyH.cons rfl (fun K hK => ?_) AllReadyH.nil
            have hl0 : Blk (World.alloc (World.alloc (World.setCell w9 ⟨w.heap.size, 0, none⟩ (.slice A2 n2 c2)) (.cells #[.int .i64 0, .int .i64 0, .int .i64 0, .int .i64 0, .int .i64 0, .int .i64 0, .int .i64 1, .int .i64 2] 3)) (.cells #[.int .i64 (IntKind.i64.wrap (x4 - 1)), .int .i64 48, .int .i64 (-2)] 3)) (w9.heap.size + 1) 3 #[.int .i64 (IntKind.i64.wrap (x4 - 1)), .int .i64 48, .int .i64 (-2)] := by have h := Blk.new (World.alloc (World.setCell w9 ⟨w.heap.size, 0, none⟩ (.slice A2 n2 c2)) (.cells #[.int .i64 0, .int .i64 0, .int .i64 0, .int .i64 0, .int .i64 0, .int .i64 0, .int .i64 1, .int .i64 2] 3)) 3 #[.int .i64 (IntKind.i64.wrap (x4 - 1)), .int .i64 48, .int .i64 (-2)]; (try simp only [World.drew, size_alloc1, size_set] at h); exact h
            replace Hb7 := Lib.hid (Hb7.out.keep (grown_alloc (grown_refl _ none) (.cells #[.int .i64 (IntKind.i64.wrap (x4 - 1)), .int .i64 48, .int .i64 (-2)] 3)))
            have Hb6 := Lib.hid hl0
            clear hl0
            replace HS := Lib.hid (HS.out.kept (grown_alloc (grown_refl _ none) (.cells #[.int .i64 (IntKind.i64.wrap (x4 - 1)), .int .i64 48, .int .i64 (-2)] 3)))
            go_simp
            refine hK.out _ _ ?_ (fun hHeld => ?_)
            · exact HS.out.cell
            clear hK K
            try simp only [Act.put, List.setIfInBounds_toArray, List.set_cons_zero, List.set_cons_succ]
            obtain ⟨v9, hv9⟩ := lit3 z9 hz9 (IntKind.i64.wrap (x4 - 1)) 48 (-2)
            refine held_yes (i := 12) (d := some 30) (v := ?_) rfl rfl (by kernel_rfl) (by kernel_rfl) (by kernel_rfl) (fun _ _ _ h => h) (by rfl) ?_ (by assumption) ?_
            rotate_left
            · (intro w hSw; (try dsimp only at hSw); go_simp; (first | done | with_reducible rfl))
            try simp only [Act.put, List.setIfInBounds_toArray, List.set_cons_zero, List.set_cons_succ]
            refine wpAnyH_ready (rs := [13]) (by kernel_rfl) (by simp) ?_
            refine AllReadyH.cons rfl (fun K hK => ?_) AllReadyH.nil
            have e3 := (Hb6.out.cell z9).trans hv9
            go_simp
            refine hK.out _ _ ?_ (fun hHeld => ?_)
            · exact HS.out.cell
            clear hK K
            try simp only [Act.put, List.setIfInBounds_toArray, List.set_cons_zero, List.set_cons_succ]
            clear e3
            refine wpAnyH_ready (rs := [17]) (by kernel_rfl) (by simp) ?_
            refine AllReadyH.cons rfl (fun K hK => ?_) AllReadyH.nil
            go_simp
            refine hK.out _ _ ?_ (fun hHeld => ?_)
            · first | with_reducible assumption | exact HS.out.cell
            clear hK K
            try simp only [Act.put, List.setIfInBounds_toArray, List.set_cons_zero, List.set_cons_succ]
            refine wpAnyH_done (by kernel_rfl) ?_ _
            have zr := HS.out.2.2.2.cell 0
            go_wp2
            exact bodyPost_ret (v := .tuple #[.agg #[.slice A2 n2 c2], .int .i64 f, .int .i64 k, .int .i64 v9]) (by simp [results, Try.results34, go_sem, *]) rfl ⟨_, _, _, _, _, _, _, rfl, HN.out.1, HN.out.2.1, HN.out.2.2.1, HS.out.fin⟩
  · have hl0 : Blk (World.alloc w3.drew (.cells #[.int .i64 0, .int .i64 0, .int .i64 0, .int .i64 0, .int .i64 0, .int .i64 0, .int .i64 1, .int .i64 2] 3)) (w3.heap.size) 3 #[.int .i64 0, .int .i64 0, .int .i64 0, .int .i64 0, .int .i64 0, .int .i64 0, .int .i64 1, .int .i64 2] := by have h := Blk.new w3.drew 3 #[.int .i64 0, .int .i64 0, .int .i64 0, .int .i64 0, .int .i64 0, .int .i64 0, .int .i64 1, .int .i64 2]; (try simp only [World.drew, size_alloc1, size_set] at h); exact h
    have hqb7 := HS.out.2.1.lt
    (try simp only [World.drew, size_alloc1] at hqb7)
    have Hb7 := Lib.hid hl0
    clear hl0
    replace HS := Lib.hid (HS.out.kept (grown_alloc (grown_refl _ none) (.cells #[.int .i64 0, .int .i64 0, .int .i64 0, .int .i64 0, .int .i64 0, .int .i64 0, .int .i64 1, .int .i64 2] 3)))
    go_simp
    refine hK.out _ _ ?_ (fun hHeld => ?_)
    · exact HS.out.cell
    clear hK K
    try simp only [Act.put, List.setIfInBounds_toArray, List.set_cons_zero, List.set_cons_succ]
    refine wpAnyH_ready (rs := [4]) (by kernel_rfl) (by simp) ?_
    refine AllReadyH.cons rfl (fun K hK => ?_) AllReadyH.nil
    go_simp
    go_at_call 56
    refine (pick_lt _ _ _ _ _ HS.out.2.1 (by omega) (by omega)).mono ?_
    rintro e w4 ⟨x4, rfl, u4, v4, h4, hg4⟩
    replace Hb7 := Lib.hid (Hb7.out.grown hg4 (by intro e; injection e with e; omega))
    replace HS := Lib.hid (HS.out.grown hg4 h4)
    clear h4 hg4
    refine hK.out _ _ ?_ (fun hHeld => ?_)
    · exact HS.out.cell
    clear hK K
    try simp only [Act.put, List.setIfInBounds_toArray, List.set_cons_zero, List.set_cons_succ]
    refine held_yes (i := 5) (d := some 23) (v := ?_) rfl rfl (by kernel_rfl) (by kernel_rfl) (by kernel_rfl) (fun _ _ _ h => h) (by rfl) ?_ (by assumption) ?_
    rotate_left
    · (intro w hSw; (try dsimp only at hSw); go_simp; (first | done | with_reducible rfl))
    try simp only [Act.put, List.setIfInBounds_toArray, List.set_cons_zero, List.set_cons_succ]
    refine wpAnyH_ready (rs := [6, 9]) (by kernel_rfl) (by simp) ?_
    refine AllReadyH.cons rfl (fun K hK => ?_) (AllReadyH.cons rfl (fun K hK => ?_) AllReadyH.nil)
    · have hl0 : Blk (World.alloc w4 (.cells #[.int .i64 (IntKind.i64.wrap (x4 - 1)), .int .i64 48, .int .i64 (-2)] 3)) (w4.heap.size) 3 #[.int .i64 (IntKind.i64.wrap (x4 - 1)), .int .i64 48, .int .i64 (-2)] := by have h := Blk.new w4 3 #[.int .i64 (IntKind.i64.wrap (x4 - 1)), .int .i64 48, .int .i64 (-2)]; (try simp only [World.drew, size_alloc1, size_set] at h); exact h
      have hqb6 := HS.out.2.1.lt
      (try simp only [World.drew, size_alloc1] at hqb6)
      replace Hb7 := Lib.hid (Hb7.out.keep (grown_alloc (grown_refl _ none) (.cells #[.int .i64 (IntKind.i64.wrap (x4 - 1)), .int .i64 48, .int .i64 (-2)] 3)))
      have Hb6 := Lib.hid hl0
      clear hl0
      replace HS := Lib.hid (HS.out.kept (grown_alloc (grown_refl _ none) (.cells #[.int .i64 (IntKind.i64.wrap (x4 - 1)), .int .i64 48, .int .i64 (-2)] 3)))
      go_simp
      refine hK.out _ _ ?_ (fun hHeld => ?_)
      · exact HS.out.cell
      clear hK K
      try simp only [Act.put, List.setIfInBounds_toArray, List.set_cons_zero, List.set_cons_succ]
      refine wpAnyH_ready (rs := [9]) (by kernel_rfl) (by simp) ?_
      refine AllReadyH.cons rfl (fun K hK => ?_) AllReadyH.nil
      go_simp
      go_at_call 56
      refine (pick_lt _ _ _ _ _ HS.out.2.1 (by omega) (by omega)).mono ?_
      rintro e w9 ⟨x9, rfl, u9, v9, h9, hg9⟩
      replace Hb6 := Lib.hid (Hb6.out.grown hg9 (by intro e; injection e with e; omega))
      replace Hb7 := Lib.hid (Hb7.out.grown hg9 (by intro e; injection e with e; omega))
      replace HS := Lib.hid (HS.out.grown hg9 h9)
      clear h9 hg9
      refine hK.out _ _ ?_ (fun hHeld => ?_)
      · exact HS.out.cell
      clear hK K
      try simp only [Act.put, List.setIfInBounds_toArray, List.set_cons_zero, List.set_cons_succ]
      obtain ⟨y9, rfl⟩ := Int.eq_ofNat_of_zero_le u9
      have y0 : decide ((0 : Int) ≤ y9) = true := decide_eq_true (by omega)
      have y1 : (y9 : Int) < 8 := by omega
      obtain ⟨z9, hz9, hy9⟩ := lit8 y9 (by omega)
      have z0 : decide ((0 : Int) ≤ z9) = true := decide_eq_true (by omega)
      have z1 : (z9 : Int) < 3 := by omega
      refine held_yes (i := 10) (d := some 28) (v := ?_) rfl rfl (by kernel_rfl) (by kernel_rfl) (by kernel_rfl) (fun _ _ _ h => h) (by rfl) ?_ (by assumption) ?_
      rotate_left
      · (intro w hSw; (try dsimp only at hSw); go_simp; (first | done | with_reducible rfl))
      try simp only [Act.put, List.setIfInBounds_toArray, List.set_cons_zero, List.set_cons_succ]
      refine wpAnyH_ready (rs := [11, 14]) (by kernel_rfl) (by simp) ?_
      refine AllReadyH.cons rfl (fun K hK => ?_) (AllReadyH.cons rfl (fun K hK => ?_) AllReadyH.nil)
      · have e8 := (Hb7.out.cell y9).trans hy9
        go_simp
        refine hK.out _ _ ?_ (fun hHeld => ?_)
        · exact HS.out.cell
        clear hK K
        try simp only [Act.put, List.setIfInBounds_toArray, List.set_cons_zero, List.set_cons_succ]
        clear e8
        obtain ⟨v9, hv9⟩ := lit3 z9 hz9 (IntKind.i64.wrap (x4 - 1)) 48 (-2)
        refine held_yes (i := 12) (d := some 30) (v := ?_) rfl rfl (by kernel_rfl) (by kernel_rfl) (by kernel_rfl) (fun _ _ _ h => h) (by rfl) ?_ (by assumption) ?_
        rotate_left
        · (intro w hSw; (try dsimp only at hSw); go_simp; (first | done | with_reducible rfl))
        try simp only [Act.put, List.setIfInBounds_toArray, List.set_cons_zero, List.set_cons_succ]
        refine wpAnyH_ready (rs := [13, 14]) (by kernel_rfl) (by simp) ?_
        refine AllReadyH.cons rfl (fun K hK => ?_) (AllReadyH.cons rfl (fun K hK => ?_) AllReadyH.nil)
        · have e3 := (Hb6.out.cell z9).trans hv9
          go_simp
          refine hK.out _ _ ?_ (fun hHeld => ?_)
          · exact HS.out.cell
          clear hK K
          try simp only [Act.put, List.setIfInBounds_toArray, List.set_cons_zero, List.set_cons_succ]
          clear e3
          refine wpAnyH_ready (rs := [14]) (by kernel_rfl) (by simp) ?_
          refine AllReadyH.cons rfl (fun K hK => ?_) AllReadyH.nil
          have r0 := HS.out.2.2.2.1.cell 0
          have r1 := HS.out.2.2.2.1.frozen 0
          have z5 := HS.out.cell
          have hwl := HS.out.2.2.2.1.lt
          (try simp only [World.drew, size_alloc1] at hwl)
          replace Hb6 := Lib.hid (Hb6.out.far (p := ⟨w.heap.size, 0, none⟩) (by dsimp only; omega) (.slice A2 n2 c2))
          replace Hb7 := Lib.hid (Hb7.out.far (p := ⟨w.heap.size, 0, none⟩) (by dsimp only; omega) (.slice A2 n2 c2))
          replace HS := Lib.hid (HS.out.store HN.out.2.2.2)
          go_simp
          refine hK.out _ _ ?_ (fun hHeld => ?_)
          · exact HS.out.cell
          clear hK K
          try simp only [Act.put, List.setIfInBounds_toArray, List.set_cons_zero, List.set_cons_succ]
          clear r0 r1 z5 hwl
          refine held_yes (i := 15) (d := some 3) (v := ?_) rfl rfl (by kernel_rfl) (by kernel_rfl) (by kernel_rfl) (fun _ _ _ h => h) (by rfl) ?_ (by assumption) ?_
          rotate_left
          · (intro w hSw; (try dsimp only at hSw); go_simp; (first | done | with_reducible rfl))
          try simp only [Act.put, List.setIfInBounds_toArray, List.set_cons_zero, List.set_cons_succ]
          refine held_yes (i := 16) (d := some 4) (v := ?_) rfl rfl (by kernel_rfl) (by kernel_rfl) (by kernel_rfl) (fun _ _ _ h => h) (by rfl) ?_ (by assumption) ?_
          rotate_left
          · (intro w hSw; (try dsimp only at hSw); go_simp; (first | done | with_reducible rfl))
          try simp only [Act.put, List.setIfInBounds_toArray, List.set_cons_zero, List.set_cons_succ]
          refine wpAnyH_ready (rs := [17]) (by kernel_rfl) (by simp) ?_
          refine AllReadyH.cons rfl (fun K hK => ?_) AllReadyH.nil
          go_simp
          refine hK.out _ _ ?_ (fun hHeld => ?_)
          · first | with_reducible assumption | exact HS.out.cell
          clear hK K
          try simp only [Act.put, List.setIfInBounds_toArray, List.set_cons_zero, List.set_cons_succ]
          refine wpAnyH_done (by kernel_rfl) ?_ _
          have zr := HS.out.2.2.2.cell 0
          go_wp2
          exact bodyPost_ret (v := .tuple #[.agg #[.slice A2 n2 c2], .int .i64 f, .int .i64 k, .int .i64 v9]) (by simp [results, Try.results34, go_sem, *]) rfl ⟨_, _, _, _, _, _, _, rfl, HN.out.1, HN.out.2.1, HN.out.2.2.1, HS.out.fin⟩
        · have r0 := HS.out.2.2.2.1.cell 0
          have r1 := HS.out.2.2.2.1.frozen 0
          have z5 := HS.out.cell
          have hwl := HS.out.2.2.2.1.lt
          (try simp only [World.drew, size_alloc1] at hwl)
          replace Hb6 := Lib.hid (Hb6.out.far (p := ⟨w.heap.size, 0, none⟩) (by dsimp only; omega) (.slice A2 n2 c2))
          replace Hb7 := Lib.hid (Hb7.out.far (p := ⟨w.heap.size, 0, none⟩) (by dsimp only; omega) (.slice A2 n2 c2))
          replace HS := Lib.hid (HS.out.store HN.out.2.2.2)
          go_simp
          refine hK.out _ _ ?_ (fun hHeld => ?_)
          · exact HS.out.cell
          clear hK K
          try simp only [Act.put, List.setIfInBounds_toArray, List.set_cons_zero, List.set_cons_succ]
          clear r0 r1 z5 hwl
          refine held_yes (i := 15) (d := some 3) (v := ?_) rfl rfl (by kernel_rfl) (by kernel_rfl) (by kernel_rfl) (fun _ _ _ h => h) (by rfl) ?_ (by assumption) ?_
          rotate_left
          · (intro w hSw; (try dsimp only at hSw); go_simp; (first | done | with_reducible rfl))
          try simp only [Act.put, List.setIfInBounds_toArray, List.set_cons_zero, List.set_cons_succ]
          refine held_yes (i := 16) (d := some 4) (v := ?_) rfl rfl (by kernel_rfl) (by kernel_rfl) (by kernel_rfl) (fun _ _ _ h => h) (by rfl) ?_ (by assumption) ?_
          rotate_left
          · (intro w hSw; (try dsimp only at hSw); go_simp; (first | done | with_reducible rfl))
          try simp only [Act.put, List.setIfInBounds_toArray, List.set_cons_zero, List.set_cons_succ]
          refine wpAnyH_ready (rs := [13]) (by kernel_rfl) (by simp) ?_
          refine AllReadyH.cons rfl (fun K hK => ?_) AllReadyH.nil
          have e3 := (Hb6.out.cell z9).trans hv9
          go_simp
          refine hK.out _ _ ?_ (fun hHeld => ?_)
          · exact HS.out.cell
          clear hK K
          try simp only [Act.put, List.setIfInBounds_toArray, List.set_cons_zero, List.set_cons_succ]
          clear e3
          refine wpAnyH_ready (rs := [17]) (by kernel_rfl) (by simp) ?_
          refine AllReadyH.cons rfl (fun K hK => ?_) AllReadyH.nil
          go_simp
          refine hK.out _ _ ?_ (fun hHeld => ?_)
          · first | with_reducible assumption | exact HS.out.cell
          clear hK K
          try simp only [Act.put, List.setIfInBounds_toArray, List.set_cons_zero, List.set_cons_succ]
          refine wpAnyH_done (by kernel_rfl) ?_ _
          have zr := HS.out.2.2.2.cell 0
          go_wp2
          exact bodyPost_ret (v := .tuple #[.agg #[.slice A2 n2 c2], .int .i64 f, .int .i64 k, .int .i64 v9]) (by simp [results, Try.results34, go_sem, *]) rfl ⟨_, _, _, _, _, _, _, rfl, HN.out.1, HN.out.2.1, HN.out.2.2.1, HS.out.fin⟩
      · have r0 := HS.out.2.2.2.1.cell 0
        have r1 := HS.out.2.2.2.1.frozen 0
        have z5 := HS.out.cell
        have hwl := HS.out.2.2.2.1.lt
        (try simp only [World.drew, size_alloc1] at hwl)
        replace Hb6 := Lib.hid (Hb6.out.far (p := ⟨w.heap.size, 0, none⟩) (by dsimp only; omega) (.slice A2 n2 c2))
        replace Hb7 := Lib.hid (Hb7.out.far (p := ⟨w.heap.size, 0, none⟩) (by dsimp only; omega) (.slice A2 n2 c2))
        replace HS := Lib.hid (HS.out.store HN.out.2.2.2)
        go_simp
        refine hK.out _ _ ?_ (fun hHeld => ?_)
        · exact HS.out.cell
        clear hK K
        try simp only [Act.put, List.setIfInBounds_toArray, List.set_cons_zero, List.set_cons_succ]
        clear r0 r1 z5 hwl
        refine held_yes (i := 15) (d := some 3) (v := ?_) rfl rfl (by kernel_rfl) (by kernel_rfl) (by kernel_rfl) (fun _ _ _ h => h) (by rfl) ?_ (by assumption) ?_
        rotate_left
        · (intro w hSw; (try dsimp only at hSw); go_simp; (first | done | with_reducible rfl))
        try simp only [Act.put, List.setIfInBounds_toArray, List.set_cons_zero, List.set_cons_succ]
        refine held_yes (i := 16) (d := some 4) (v := ?_) rfl rfl (by kernel_rfl) (by kernel_rfl) (by kernel_rfl) (fun _ _ _ h => h) (by rfl) ?_ (by assumption) ?_
        rotate_left
        · (intro w hSw; (try dsimp only at hSw); go_simp; (first | done | with_reducible rfl))
        try simp only [Act.put, List.setIfInBounds_toArray, List.set_cons_zero, List.set_cons_succ]
        refine wpAnyH_ready (rs := [11]) (by kernel_rfl) (by simp) ?_
        refine AllReadyH.cons rfl (fun K hK => ?_) AllReadyH.nil
        have e8 := (Hb7.out.cell y9).trans hy9
        go_simp
        refine hK.out _ _ ?_ (fun hHeld => ?_)
        · exact HS.out.cell
        clear hK K
        try simp only [Act.put, List.setIfInBounds_toArray, List.set_cons_zero, List.set_cons_succ]
        clear e8
        obtain ⟨v9, hv9⟩ := lit3 z9 hz9 (IntKind.i64.wrap (x4 - 1)) 48 (-2)
        refine held_yes (i := 12) (d := some 30) (v := ?_) rfl rfl (by kernel_rfl) (by kernel_rfl) (by kernel_rfl) (fun _ _ _ h => h) (by rfl) ?_ (by assumption) ?_
        rotate_left
        · (intro w hSw; (try dsimp only at hSw); go_simp; (first | done | with_reducible rfl))
        try simp only [Act.put, List.setIfInBounds_toArray, List.set_cons_zero, List.set_cons_succ]
        refine wpAnyH_ready (rs := [13]) (by kernel_rfl) (by simp) ?_
        refine AllReadyH.cons rfl (fun K hK => ?_) AllReadyH.nil
        have e3 := (Hb6.out.cell z9).trans hv9
        go_simp
        refine hK.out _ _ ?_ (fun hHeld => ?_)
        · exact HS.out.cell
        clear hK K
        try simp only [Act.put, List.setIfInBounds_toArray, List.set_cons_zero, List.set_cons_succ]
        clear e3
        refine wpAnyH_ready (rs := [17]) (by kernel_rfl) (by simp) ?_
        refine AllReadyH.cons rfl (fun K hK => ?_) AllReadyH.nil
        go_simp
        refine hK.out _ _ ?_ (fun hHeld => ?_)
        · first | with_reducible assumption | exact HS.out.cell
        clear hK K
        try simp only [Act.put, List.setIfInBounds_toArray, List.set_cons_zero, List.set_cons_succ]
        refine wpAnyH_done (by kernel_rfl) ?_ _
        have zr := HS.out.2.2.2.cell 0
        go_wp2
        exact bodyPost_ret (v := .tuple #[.agg #[.slice A2 n2 c2], .int .i64 f, .int .i64 k, .int .i64 v9]) (by simp [results, Try.results34, go_sem, *]) rfl ⟨_, _, _, _, _, _, _, rfl, HN.out.1, HN.out.2.1, HN.out.2.2.1, HS.out.fin⟩
    · go_simp
      go_at_call 56
      refine (pick_lt _ _ _ _ _ HS.out.2.1 (by omega) (by omega)).mono ?_
      rintro e w9 ⟨x9, rfl, u9, v9, h9, hg9⟩
      replace Hb7 := Lib.hid (Hb7.out.grown hg9 (by intro e; injection e with e; omega))
      replace HS := Lib.hid (HS.out.grown hg9 h9)
      clear h9 hg9
      refine hK.out _ _ ?_ (fun hHeld => ?_)
      · exact HS.out.cell
      clear hK K
      try simp only [Act.put, List.setIfInBounds_toArray, List.set_cons_zero, List.set_cons_succ]
      obtain ⟨y9, rfl⟩ := Int.eq_ofNat_of_zero_le u9
      have y0 : decide ((0 : Int) ≤ y9) = true := decide_eq_true (by omega)
      have y1 : (y9 : Int) < 8 := by omega
      obtain ⟨z9, hz9, hy9⟩ := lit8 y9 (by omega)
      have z0 : decide ((0 : Int) ≤ z9) = true := decide_eq_true (by omega)
      have z1 : (z9 : Int) < 3 := by omega
      refine held_yes (i := 10) (d := some 28) (v := ?_) rfl rfl (by kernel_rfl) (by kernel_rfl) (by kernel_rfl) (fun _ _ _ h => h) (by rfl) ?_ (by assumption) ?_
      rotate_left
      · (intro w hSw; (try dsimp only at hSw); go_simp; (first | done | with_reducible rfl))
      try simp only [Act.put, List.setIfInBounds_toArray, List.set_cons_zero, List.set_cons_succ]
      refine wpAnyH_ready (rs := [6, 11, 14]) (by kernel_rfl) (by simp) ?_
      refine AllReadyH.cons rfl (fun K hK => ?_) (AllReadyH.cons rfl (fun K hK => ?_) (AllReadyH.cons rfl (fun K hK => ?_) AllReadyH.nil))
      · have hl0 : Blk (World.alloc w9 (.cells #[.int .i64 (IntKind.i64.wrap (x4 - 1)), .int .i64 48, .int .i64 (-2)] 3)) (w9.heap.size) 3 #[.int .i64 (IntKind.i64.wrap (x4 - 1)), .int .i64 48, .int .i64 (-2)] := by have h := Blk.new w9 3 #[.int .i64 (IntKind.i64.wrap (x4 - 1)), .int .i64 48, .int .i64 (-2)]; (try simp only [World.drew, size_alloc1, size_set] at h); exact h
        have hqb6 := HS.out.2.1.lt
        (try simp only [World.drew, size_alloc1] at hqb6)
        replace Hb7 := Lib.hid (Hb7.out.keep (grown_alloc (grown_refl _ none) (.cells #[.int .i64 (IntKind.i64.wrap (x4 - 1)), .int .i64 48, .int .i64 (-2)] 3)))
        have Hb6 := Lib.hid hl0
        clear hl0
        replace HS := Lib.hid (HS.out.kept (grown_alloc (grown_refl _ none) (.cells #[.int .i64 (IntKind.i64.wrap (x4 - 1)), .int .i64 48, .int .i64 (-2)] 3)))
        go_simp
        refine hK.out _ _ ?_ (fun hHeld => ?_)
        · exact HS.out.cell
        clear hK K
        try simp only [Act.put, List.setIfInBounds_toArray, List.set_cons_zero, List.set_cons_succ]
        refine wpAnyH_ready (rs := [11, 14]) (by kernel_rfl) (by simp) ?_
        refine AllReadyH.cons rfl (fun K hK => ?_) (AllReadyH.cons rfl (fun K hK => ?_) AllReadyH.nil)
        · have e8 := (Hb7.out.cell y9).trans hy9
          go_simp
          refine hK.out _ _ ?_ (fun hHeld => ?_)
          · exact HS.out.cell
          clear hK K
          try simp only [Act.put, List.setIfInBounds_toArray, List.set_cons_zero, List.set_cons_succ]
          clear e8
          obtain ⟨v9, hv9⟩ := lit3 z9 hz9 (IntKind.i64.wrap (x4 - 1)) 48 (-2)
          refine held_yes (i := 12) (d := some 30) (v := ?_) rfl rfl (by kernel_rfl) (by kernel_rfl) (by kernel_rfl) (fun _ _ _ h => h) (by rfl) ?_ (by assumption) ?_
          rotate_left
          · (intro w hSw; (try dsimp only at hSw); go_simp; (first | done | with_reducible rfl))
          try simp only [Act.put, List.setIfInBounds_toArray, List.set_cons_zero, List.set_cons_succ]
          refine wpAnyH_ready (rs := [13, 14]) (by kernel_rfl) (by simp) ?_
          refine AllReadyH.cons rfl (fun K hK => ?_) (AllReadyH.cons rfl (fun K hK => ?_) AllReadyH.nil)
          · have e3 := (Hb6.out.cell z9).trans hv9
            go_simp
            refine hK.out _ _ ?_ (fun hHeld => ?_)
            · exact HS.out.cell
            clear hK K
            try simp only [Act.put, List.setIfInBounds_toArray, List.set_cons_zero, List.set_cons_succ]
            clear e3
            refine wpAnyH_ready (rs := [14]) (by kernel_rfl) (by simp) ?_
            refine AllReadyH.cons rfl (fun K hK => ?_) AllReadyH.nil
            have r0 := HS.out.2.2.2.1.cell 0
            have r1 := HS.out.2.2.2.1.frozen 0
            have z5 := HS.out.cell
            have hwl := HS.out.2.2.2.1.lt
            (try simp only [World.drew, size_alloc1] at hwl)
            replace Hb6 := Lib.hid (Hb6.out.far (p := ⟨w.heap.size, 0, none⟩) (by dsimp only; omega) (.slice A2 n2 c2))
            replace Hb7 := Lib.hid (Hb7.out.far (p := ⟨w.heap.size, 0, none⟩) (by dsimp only; omega) (.slice A2 n2 c2))
            replace HS := Lib.hid (HS.out.store HN.out.2.2.2)
            go_simp
            refine hK.out _ _ ?_ (fun hHeld => ?_)
            · exact HS.out.cell
            clear hK K
            try simp only [Act.put, List.setIfInBounds_toArray, List.set_cons_zero, List.set_cons_succ]
            clear r0 r1 z5 hwl
            refine held_yes (i := 15) (d := some 3) (v := ?_) rfl rfl (by kernel_rfl) (by kernel_rfl) (by kernel_rfl) (fun _ _ _ h => h) (by rfl) ?_ (by assumption) ?_
            rotate_left
            · (intro w hSw; (try dsimp only at hSw); go_simp; (first | done | with_reducible rfl))
            try simp only [Act.put, List.setIfInBounds_toArray, List.set_cons_zero, List.set_cons_succ]
            refine held_yes (i := 16) (d := some 4) (v := ?_) rfl rfl (by kernel_rfl) (by kernel_rfl) (by kernel_rfl) (fun _ _ _ h => h) (by rfl) ?_ (by assumption) ?_
            rotate_left
            · (intro w hSw; (try dsimp only at hSw); go_simp; (first | done | with_reducible rfl))
            try simp only [Act.put, List.setIfInBounds_toArray, List.set_cons_zero, List.set_cons_succ]
            refine wpAnyH_ready (rs := [17]) (by kernel_rfl) (by simp) ?_
            refine AllReadyH.cons rfl (fun K hK => ?_) AllReadyH.nil
            go_simp
            refine hK.out _ _ ?_ (fun hHeld => ?_)
            · first | with_reducible assumption | exact HS.out.cell
            clear hK K
            try simp only [Act.put, List.setIfInBounds_toArray, List.set_cons_zero, List.set_cons_succ]
            refine wpAnyH_done (by kernel_rfl) ?_ _
            have zr := HS.out.2.2.2.cell 0
            go_wp2
            exact bodyPost_ret (v := .tuple #[.agg #[.slice A2 n2 c2], .int .i64 f, .int .i64 k, .int .i64 v9]) (by simp [results, Try.results34, go_sem, *]) rfl ⟨_, _, _, _, _, _, _, rfl, HN.out.1, HN.out.2.1, HN.out.2.2.1, HS.out.fin⟩
          · have r0 := HS.out.2.2.2.1.cell 0
            have r1 := HS.out.2.2.2.1.frozen 0
            have z5 := HS.out.cell
            have hwl := HS.out.2.2.2.1.lt
            (try simp only [World.drew, size_alloc1] at hwl)
            replace Hb6 := Lib.hid (Hb6.out.far (p := ⟨w.heap.size, 0, none⟩) (by dsimp only; omega) (.slice A2 n2 c2))
            replace Hb7 := Lib.hid (Hb7.out.far (p := ⟨w.heap.size, 0, none⟩) (by dsimp only; omega) (.slice A2 n2 c2))
            replace HS := Lib.hid (HS.out.store HN.out.2.2.2)
            go_simp
            refine hK.out _ _ ?_ (fun hHeld => ?_)
            · exact HS.out.cell
            clear hK K
            try simp only [Act.put, List.setIfInBounds_toArray, List.set_cons_zero, List.set_cons_succ]
            clear r0 r1 z5 hwl
            refine held_yes (i := 15) (d := some 3) (v := ?_) rfl rfl (by kernel_rfl) (by kernel_rfl) (by kernel_rfl) (fun _ _ _ h => h) (by rfl) ?_ (by assumption) ?_
            rotate_left
            · (intro w hSw; (try dsimp only at hSw); go_simp; (first | done | with_reducible rfl))
            try simp only [Act.put, List.setIfInBounds_toArray, List.set_cons_zero, List.set_cons_succ]
            refine held_yes (i := 16) (d := some 4) (v := ?_) rfl rfl (by kernel_rfl) (by kernel_rfl) (by kernel_rfl) (fun _ _ _ h => h) (by rfl) ?_ (by assumption) ?_
            rotate_left
            · (intro w hSw; (try dsimp only at hSw); go_simp; (first | done | with_reducible rfl))
            try simp only [Act.put, List.setIfInBounds_toArray, List.set_cons_zero, List.set_cons_succ]
            refine wpAnyH_ready (rs := [13]) (by kernel_rfl) (by simp) ?_
            refine AllReadyH.cons rfl (fun K hK => ?_) AllReadyH.nil
            have e3 := (Hb6.out.cell z9).trans hv9
            go_simp
            refine hK.out _ _ ?_ (fun hHeld => ?_)
            · exact HS.out.cell
            clear hK K
            try simp only [Act.put, List.setIfInBounds_toArray, List.set_cons_zero, List.set_cons_succ]
            clear e3
            refine wpAnyH_ready (rs := [17]) (by kernel_rfl) (by simp) ?_
            refine AllReadyH.cons rfl (fun K hK => ?_) AllReadyH.nil
            go_simp
            refine hK.out _ _ ?_ (fun hHeld => ?_)
            · first | with_reducible assumption | exact HS.out.cell
            clear hK K
            try simp only [Act.put, List.setIfInBounds_toArray, List.set_cons_zero, List.set_cons_succ]
            refine wpAnyH_done (by kernel_rfl) ?_ _
            have zr := HS.out.2.2.2.cell 0
            go_wp2
            exact bodyPost_ret (v := .tuple #[.agg #[.slice A2 n2 c2], .int .i64 f, .int .i64 k, .int .i64 v9]) (by simp [results, Try.results34, go_sem, *]) rfl ⟨_, _, _, _, _, _, _, rfl, HN.out.1, HN.out.2.1, HN.out.2.2.1, HS.out.fin⟩
        · have r0 := HS.out.2.2.2.1.cell 0
          have r1 := HS.out.2.2.2.1.frozen 0
          have z5 := HS.out.cell
          have hwl := HS.out.2.2.2.1.lt
          (try simp only [World.drew, size_alloc1] at hwl)
          replace Hb6 := Lib.hid (Hb6.out.far (p := ⟨w.heap.size, 0, none⟩) (by dsimp only; omega) (.slice A2 n2 c2))
          replace Hb7 := Lib.hid (Hb7.out.far (p := ⟨w.heap.size, 0, none⟩) (by dsimp only; omega) (.slice A2 n2 c2))
          replace HS := Lib.hid (HS.out.store HN.out.2.2.2)
          go_simp
          refine hK.out _ _ ?_ (fun hHeld => ?_)
          · exact HS.out.cell
          clear hK K
          try simp only [Act.put, List.setIfInBounds_toArray, List.set_cons_zero, List.set_cons_succ]
          clear r0 r1 z5 hwl
          refine held_yes (i := 15) (d := some 3) (v := ?_) rfl rfl (by kernel_rfl) (by kernel_rfl) (by kernel_rfl) (fun _ _ _ h => h) (by rfl) ?_ (by assumption) ?_
          rotate_left
          · (intro w hSw; (try dsimp only at hSw); go_simp; (first | done | with_reducible rfl))
          try simp only [Act.put, List.setIfInBounds_toArray, List.set_cons_zero, List.set_cons_succ]
          refine held_yes (i := 16) (d := some 4) (v := ?_) rfl rfl (by kernel_rfl) (by kernel_rfl) (by kernel_rfl) (fun _ _ _ h => h) (by rfl) ?_ (by assumption) ?_
          rotate_left
          · (intro w hSw; (try dsimp only at hSw); go_simp; (first | done | with_reducible rfl))
          try simp only [Act.put, List.setIfInBounds_toArray, List.set_cons_zero, List.set_cons_succ]
          refine wpAnyH_ready (rs := [11]) (by kernel_rfl) (by simp) ?_
          refine AllReadyH.cons rfl (fun K hK => ?_) AllReadyH.nil
          have e8 := (Hb7.out.cell y9).trans hy9
          go_simp
          refine hK.out _ _ ?_ (fun hHeld => ?_)
          · exact HS.out.cell
          clear hK K
          try simp only [Act.put, List.setIfInBounds_toArray, List.set_cons_zero, List.set_cons_succ]
          clear e8
          obtain ⟨v9, hv9⟩ := lit3 z9 hz9 (IntKind.i64.wrap (x4 - 1)) 48 (-2)
          refine held_yes (i := 12) (d := some 30) (v := ?_) rfl rfl (by kernel_rfl) (by kernel_rfl) (by kernel_rfl) (fun _ _ _ h => h) (by rfl) ?_ (by assumption) ?_
          rotate_left
          · (intro w hSw; (try dsimp only at hSw); go_simp; (first | done | with_reducible rfl))
          try simp only [Act.put, List.setIfInBounds_toArray, List.set_cons_zero, List.set_cons_succ]
          refine wpAnyH_ready (rs := [13]) (by kernel_rfl) (by simp) ?_
          refine AllReadyH.cons rfl (fun K hK => ?_) AllReadyH.nil
          have e3 := (Hb6.out.cell z9).trans hv9
          go_simp
          refine hK.out _ _ ?_ (fun hHeld => ?_)
          · exact HS.out.cell
          clear hK K
          try simp only [Act.put, List.setIfInBounds_toArray, List.set_cons_zero, List.set_cons_succ]
          clear e3
          refine wpAnyH_ready (rs := [17]) (by kernel_rfl) (by simp) ?_
          refine AllReadyH.cons rfl (fun K hK => ?_) AllReadyH.nil
          go_simp
          refine hK.out _ _ ?_ (fun hHeld => ?_)
          · first | with_reducible assumption | exact HS.out.cell
          clear hK K
          try simp only [Act.put, List.setIfInBounds_toArray, List.set_cons_zero, List.set_cons_succ]
          refine wpAnyH_done (by kernel_rfl) ?_ _
          have zr := HS.out.2.2.2.cell 0
          go_wp2
          exact bodyPost_ret (v := .tuple #[.agg #[.slice A2 n2 c2], .int .i64 f, .int .i64 k, .int .i64 v9]) (by simp [results, Try.results34, go_sem, *]) rfl ⟨_, _, _, _, _, _, _, rfl, HN.out.1, HN.out.2.1, HN.out.2.2.1, HS.out.fin⟩
      · have e8 := (Hb7.out.cell y9).trans hy9
        go_simp
        refine hK.out _ _ ?_ (fun hHeld => ?_)
        · exact HS.out.cell
        clear hK K
        try simp only [Act.put, List.setIfInBounds_toArray, List.set_cons_zero, List.set_cons_succ]
        clear e8
        refine wpAnyH_ready (rs := [6, 14]) (by kernel_rfl) (by simp) ?_
        refine AllReadyH.cons rfl (fun K hK => ?_) (AllReadyH.cons rfl (fun K hK => ?_) AllReadyH.nil)
        · have hl0 : Blk (World.alloc w9 (.cells #[.int .i64 (IntKind.i64.wrap (x4 - 1)), .int .i64 48, .int .i64 (-2)] 3)) (w9.heap.size) 3 #[.int .i64 (IntKind.i64.wrap (x4 - 1)), .int .i64 48, .int .i64 (-2)] := by have h := Blk.new w9 3 #[.int .i64 (IntKind.i64.wrap (x4 - 1)), .int .i64 48, .int .i64 (-2)]; (try simp only [World.drew, size_alloc1, size_set] at h); exact h
          have hqb6 := HS.out.2.1.lt
          (try simp only [World.drew, size_alloc1] at hqb6)
          replace Hb7 := Lib.hid (Hb7.out.keep (grown_alloc (grown_refl _ none) (.cells #[.int .i64 (IntKind.i64.wrap (x4 - 1)), .int .i64 48, .int .i64 (-2)] 3)))
          have Hb6 := Lib.hid hl0
          clear hl0
          replace HS := Lib.hid (HS.out.kept (grown_alloc (grown_refl _ none) (.cells #[.int .i64 (IntKind.i64.wrap (x4 - 1)), .int .i64 48, .int .i64 (-2)] 3)))
          go_simp
          refine hK.out _ _ ?_ (fun hHeld => ?_)
          · exact HS.out.cell
          clear hK K
          try simp only [Act.put, List.setIfInBounds_toArray, List.set_cons_zero, List.set_cons_succ]
          obtain ⟨v9, hv9⟩ := lit3 z9 hz9 (IntKind.i64.wrap (x4 - 1)) 48 (-2)
          refine held_yes (i := 12) (d := some 30) (v := ?_) rfl rfl (by kernel_rfl) (by kernel_rfl) (by kernel_rfl) (fun _ _ _ h => h) (by rfl) ?_ (by assumption) ?_
          rotate_left
          · (intro w hSw; (try dsimp only at hSw); go_simp; (first | done | with_reducible rfl))
          try simp only [Act.put, List.setIfInBounds_toArray, List.set_cons_zero, List.set_cons_succ]
          refine wpAnyH_ready (rs := [13, 14]) (by kernel_rfl) (by simp) ?_
          refine AllReadyH.cons rfl (fun K hK => ?_) (AllReadyH.cons rfl (fun K hK => ?_) AllReadyH.nil)
          · have e3 := (Hb6.out.cell z9).trans hv9
            go_simp
            refine hK.out _ _ ?_ (fun hHeld => ?_)
            · exact HS.out.cell
            clear hK K
            try simp only [Act.put, List.setIfInBounds_toArray, List.set_cons_zero, List.set_cons_succ]
            clear e3
            refine wpAnyH_ready (rs := [14]) (by kernel_rfl) (by simp) ?_
            refine AllReadyH.cons rfl (fun K hK => ?_) AllReadyH.nil
            have r0 := HS.out.2.2.2.1.cell 0
            have r1 := HS.out.2.2.2.1.frozen 0
            have z5 := HS.out.cell
            have hwl := HS.out.2.2.2.1.lt
            (try simp only [World.drew, size_alloc1] at hwl)
            replace Hb6 := Lib.hid (Hb6.out.far (p := ⟨w.heap.size, 0, none⟩) (by dsimp only; omega) (.slice A2 n2 c2))
            replace Hb7 := Lib.hid (Hb7.out.far (p := ⟨w.heap.size, 0, none⟩) (by dsimp only; omega) (.slice A2 n2 c2))
            replace HS := Lib.hid (HS.out.store HN.out.2.2.2)
            go_simp
            refine hK.out _ _ ?_ (fun hHeld => ?_)
            · exact HS.out.cell
            clear hK K
            try simp only [Act.put, List.setIfInBounds_toArray, List.set_cons_zero, List.set_cons_succ]
            clear r0 r1 z5 hwl
            refine held_yes (i := 15) (d := some 3) (v := ?_) rfl rfl (by kernel_rfl) (by kernel_rfl) (by kernel_rfl) (fun _ _ _ h => h) (by rfl) ?_ (by assumption) ?_
            rotate_left
            · (intro w hSw; (try dsimp only at hSw); go_simp; (first | done | with_reducible rfl))
            try simp only [Act.put, List.setIfInBounds_toArray, List.set_cons_zero, List.set_cons_succ]
            refine held_yes (i := 16) (d := some 4) (v := ?_) rfl rfl (by kernel_rfl) (by kernel_rfl) (by kernel_rfl) (fun _ _ _ h => h) (by rfl) ?_ (by assumption) ?_
            rotate_left
            · (intro w hSw; (try dsimp only at hSw); go_simp; (first | done | with_reducible rfl))
            try simp only [Act.put, List.setIfInBounds_toArray, List.set_cons_zero, List.set_cons_succ]
            refine wpAnyH_ready (rs := [17]) (by kernel_rfl) (by simp) ?_
            refine AllReadyH.cons rfl (fun K hK => ?_) AllReadyH.nil
            go_simp
            refine hK.out _ _ ?_ (fun hHeld => ?_)
            · first | with_reducible assumption | exact HS.out.cell
            clear hK K
            try simp only [Act.put, List.setIfInBounds_toArray, List.set_cons_zero, List.set_cons_succ]
            refine wpAnyH_done (by kernel_rfl) ?_ _
            have zr := HS.out.2.2.2.cell 0
            go_wp2
            exact bodyPost_ret (v := .tuple #[.agg #[.slice A2 n2 c2], .int .i64 f, .int .i64 k, .int .i64 v9]) (by simp [results, Try.results34, go_sem, *]) rfl ⟨_, _, _, _, _, _, _, rfl, HN.out.1, HN.out.2.1, HN.out.2.2.1, HS.out.fin⟩
          · have r0 := HS.out.2.2.2.1.cell 0
            have r1 := HS.out.2.2.2.1.frozen 0
            have z5 := HS.out.cell
            have hwl := HS.out.2.2.2.1.lt
            (try simp only [World.drew, size_alloc1] at hwl)
            replace Hb6 := Lib.hid (Hb6.out.far (p := ⟨w.heap.size, 0, none⟩) (by dsimp only; omega) (.slice A2 n2 c2))
            replace Hb7 := Lib.hid (Hb7.out.far (p := ⟨w.heap.size, 0, none⟩) (by dsimp only; omega) (.slice A2 n2 c2))
            replace HS := Lib.hid (HS.out.store HN.out.2.2.2)
            go_simp
            refine hK.out _ _ ?_ (fun hHeld => ?_)
            · exact HS.out.cell
            clear hK K
            try simp only [Act.put, List.setIfInBounds_toArray, List.set_cons_zero, List.set_cons_succ]
            clear r0 r1 z5 hwl
            refine held_yes (i := 15) (d := some 3) (v := ?_) rfl rfl (by kernel_rfl) (by kernel_rfl) (by kernel_rfl) (fun _ _ _ h => h) (by rfl) ?_ (by assumption) ?_
            rotate_left
            · (intro w hSw; (try dsimp only at hSw); go_simp; (first | done | with_reducible rfl))
            try simp only [Act.put, List.setIfInBounds_toArray, List.set_cons_zero, List.set_cons_succ]
            refine held_yes (i := 16) (d := some 4) (v := ?_) rfl rfl (by kernel_rfl) (by kernel_rfl) (by kernel_rfl) (fun _ _ _ h => h) (by rfl) ?_ (by assumption) ?_
            rotate_left
            · (intro w hSw; (try dsimp only at hSw); go_simp; (first | done | with_reducible rfl))
            try simp only [Act.put, List.setIfInBounds_toArray, List.set_cons_zero, List.set_cons_succ]
            refine wpAnyH_ready (rs := [13]) (by kernel_rfl) (by simp) ?_
            refine AllReadyH.cons rfl (fun K hK => ?_) AllReadyH.nil
            have e3 := (Hb6.out.cell z9).trans hv9
            go_simp
            refine hK.out _ _ ?_ (fun hHeld => ?_)
            · exact HS.out.cell
            clear hK K
            try simp only [Act.put, List.setIfInBounds_toArray, List.set_cons_zero, List.set_cons_succ]
            clear e3
            refine wpAnyH_ready (rs := [17]) (by kernel_rfl) (by simp) ?_
            refine AllReadyH.cons rfl (fun K hK => ?_) AllReadyH.nil
            go_simp
            refine hK.out _ _ ?_ (fun hHeld => ?_)
            · first | with_reducible assumption | exact HS.out.cell
            clear hK K
            try simp only [Act.put, List.setIfInBounds_toArray, List.set_cons_zero, List.set_cons_succ]
            refine wpAnyH_done (by kernel_rfl) ?_ _
            have zr := HS.out.2.2.2.cell 0
            go_wp2
            exact bodyPost_ret (v := .tuple #[.agg #[.slice A2 n2 c2], .int .i64 f, .int .i64 k, .int .i64 v9]) (by simp [results, Try.results34, go_sem, *]) rfl ⟨_, _, _, _, _, _, _, rfl, HN.out.1, HN.out.2.1, HN.out.2.2.1, HS.out.fin⟩
        · have r0 := HS.out.2.2.2.1.cell 0
          have r1 := HS.out.2.2.2.1.frozen 0
          have z5 := HS.out.cell
          have hwl := HS.out.2.2.2.1.lt
          (try simp only [World.drew, size_alloc1] at hwl)
          replace Hb7 := Lib.hid (Hb7.out.far (p := ⟨w.heap.size, 0, none⟩) (by dsimp only; omega) (.slice A2 n2 c2))
          replace HS := Lib.hid (HS.out.store HN.out.2.2.2)
          go_simp
          refine hK.out _ _ ?_ (fun hHeld => ?_)
          · exact HS.out.cell
          clear hK K
          try simp only [Act.put, List.setIfInBounds_toArray, List.set_cons_zero, List.set_cons_succ]
          clear r0 r1 z5 hwl
          refine held_yes (i := 15) (d := some 3) (v := ?_) rfl rfl (by kernel_rfl) (by kernel_rfl) (by kernel_rfl) (fun _ _ _ h => h) (by rfl) ?_ (by assumption) ?_
          rotate_left
          · (intro w hSw; (try dsimp only at hSw); go_simp; (first | done | with_reducible rfl))
          try simp only [Act.put, List.setIfInBounds_toArray, List.set_cons_zero, List.set_cons_succ]
          refine held_yes (i := 16) (d := some 4) (v := ?_) rfl rfl (by kernel_rfl) (by kernel_rfl) (by kernel_rfl) (fun _ _ _ h => h) (by rfl) ?_ (by assumption) ?_
          rotate_left
          · (intro w hSw; (try dsimp only at hSw); go_simp; (first | done | with_reducible rfl))
          try simp only [Act.put, List.setIfInBounds_toArray, List.set_cons_zero, List.set_cons_succ]
          refine wpAnyH_ready (rs := [6]) (by kernel_rfl) (by simp) ?_
          refine AllReadyH.cons rfl (fun K hK => ?_) AllReadyH.nil
          have hl0 : Blk (World.alloc (World.setCell w9 ⟨w.heap.size, 0, none⟩ (.slice A2 n2 c2)) (.cells #[.int .i64 (IntKind.i64.wrap (x4 - 1)), .int .i64 48, .int .i64 (-2)] 3)) (w9.heap.size) 3 #[.int .i64 (IntKind.i64.wrap (x4 - 1)), .int .i64 48, .int .i64 (-2)] := by have h := Blk.new (World.setCell w9 ⟨w.heap.size, 0, none⟩ (.slice A2 n2 c2)) 3 #[.int .i64 (IntKind.i64.wrap (x4 - 1)), .int .i64 48, .int .i64 (-2)]; (try simp only [World.drew, size_alloc1, size_set] at h); exact h
          replace Hb7 := Lib.hid (Hb7.out.keep (grown_alloc (grown_refl _ none) (.cells #[.int .i64 (IntKind.i64.wrap (x4 - 1)), .int .i64 48, .int .i64 (-2)] 3)))
          have Hb6 := Lib.hid hl0
          clear hl0
          replace HS := Lib.hid (HS.out.kept (grown_alloc (grown_refl _ none) (.cells #[.int .i64 (IntKind.i64.wrap (x4 - 1)), .int .i64 48, .int .i64 (-2)] 3)))
          go_simp
          refine hK.out _ _ ?_ (fun hHeld => ?_)
          · exact HS.out.cell
          clear hK K
          try simp only [Act.put, List.setIfInBounds_toArray, List.set_cons_zero, List.set_cons_succ]
          obtain ⟨v9, hv9⟩ := lit3 z9 hz9 (IntKind.i64.wrap (x4 - 1)) 48 (-2)
          refine held_yes (i := 12) (d := some 30) (v := ?_) rfl rfl (by kernel_rfl) (by kernel_rfl) (by kernel_rfl) (fun _ _ _ h => h) (by rfl) ?_ (by assumption) ?_
          rotate_left
          · (intro w hSw; (try dsimp only at hSw); go_simp; (first | done | with_reducible rfl))
          try simp only [Act.put, List.setIfInBounds_toArray, List.set_cons_zero, List.set_cons_succ]
          refine wpAnyH_ready (rs := [13]) (by kernel_rfl) (by simp) ?_
          refine AllReadyH.cons rfl (fun K hK => ?_) AllReadyH.nil
          have e3 := (Hb6.out.cell z9).trans hv9
          go_simp
          refine hK.out _ _ ?_ (fun hHeld => ?_)
          · exact HS.out.cell
          clear hK K
          try simp only [Act.put, List.setIfInBounds_toArray, List.set_cons_zero, List.set_cons_succ]
          clear e3
          refine wpAnyH_ready (rs := [17]) (by kernel_rfl) (by simp) ?_
          refine AllReadyH.cons rfl (fun K hK => ?_) AllReadyH.nil
          go_simp
          refine hK.out _ _ ?_ (fun hHeld => ?_)
          · first | with_reducible assumption | exact HS.out.cell
          clear hK K
          try simp only [Act.put, List.setIfInBounds_toArray, List.set_cons_zero, List.set_cons_succ]
          refine wpAnyH_done (by kernel_rfl) ?_ _
          have zr := HS.out.2.2.2.cell 0
          go_wp2
          exact bodyPost_ret (v := .tuple #[.agg #[.slice A2 n2 c2], .int .i64 f, .int .i64 k, .int .i64 v9]) (by simp [results, Try.results34, go_sem, *]) rfl ⟨_, _, _, _, _, _, _, rfl, HN.out.1, HN.out.2.1, HN.out.2.2.1, HS.out.fin⟩
      · have r0 := HS.out.2.2.2.1.cell 0
        have r1 := HS.out.2.2.2.1.frozen 0
        have z5 := HS.out.cell
        have hwl := HS.out.2.2.2.1.lt
        (try simp only [World.drew, size_alloc1] at hwl)
        replace Hb7 := Lib.hid (Hb7.out.far (p := ⟨w.heap.size, 0, none⟩) (by dsimp only; omega) (.slice A2 n2 c2))
        replace HS := Lib.hid (HS.out.store HN.out.2.2.2)
        go_simp
        refine hK.out _ _ ?_ (fun hHeld => ?_)
        · exact HS.out.cell
        clear hK K
        try simp only [Act.put, List.setIfInBounds_toArray, List.set_cons_zero, List.set_cons_succ]
        clear r0 r1 z5 hwl
        refine held_yes (i := 15) (d := some 3) (v := ?_) rfl rfl (by kernel_rfl) (by kernel_rfl) (by kernel_rfl) (fun _ _ _ h => h) (by rfl) ?_ (by assumption) ?_
        rotate_left
        · (intro w hSw; (try dsimp only at hSw); go_simp; (first | done | with_reducible rfl))
        try simp only [Act.put, List.setIfInBounds_toArray, List.set_cons_zero, List.set_cons_succ]
        refine held_yes (i := 16) (d := some 4) (v := ?_) rfl rfl (by kernel_rfl) (by kernel_rfl) (by kernel_rfl) (fun _ _ _ h => h) (by rfl) ?_ (by assumption) ?_
        rotate_left
        · (intro w hSw; (try dsimp only at hSw); go_simp; (first | done | with_reducible rfl))
        try simp only [Act.put, List.setIfInBounds_toArray, List.set_cons_zero, List.set_cons_succ]
        refine wpAnyH_ready (rs := [6, 11]) (by kernel_rfl) (by simp) ?_
        refine AllReadyH.cons rfl (fun K hK => ?_) (AllReadyH.cons rfl (fun K hK => ?_) AllReadyH.nil)
        · have hl0 : Blk (World.alloc (World.setCell w9 ⟨w.heap.size, 0, none⟩ (.slice A2 n2 c2)) (.cells #[.int .i64 (IntKind.i64.wrap (x4 - 1)), .int .i64 48, .int .i64 (-2)] 3)) (w9.heap.size) 3 #[.int .i64 (IntKind.i64.wrap (x4 - 1)), .int .i64 48, .int .i64 (-2)] := by have h := Blk.new (World.setCell w9 ⟨w.heap.size, 0, none⟩ (.slice A2 n2 c2)) 3 #[.int .i64 (IntKind.i64.wrap (x4 - 1)), .int .i64 48, .int .i64 (-2)]; (try simp only [World.drew, size_alloc1, size_set] at h); exact h
          replace Hb7 := Lib.hid (Hb7.out.keep (grown_alloc (grown_refl _ none) (.cells #[.int .i64 (IntKind.i64.wrap (x4 - 1)), .int .i64 48, .int .i64 (-2)] 3)))
          have Hb6 := Lib.hid hl0
          clear hl0
          replace HS := Lib.hid (HS.out.kept (grown_alloc (grown_refl _ none) (.cells #[.int .i64 (IntKind.i64.wrap (x4 - 1)), .int .i64 48, .int .i64 (-2)] 3)))
          go_simp
          refine hK.out _ _ ?_ (fun hHeld => ?_)
          · exact HS.out.cell
          clear hK K
          try simp only [Act.put, List.setIfInBounds_toArray, List.set_cons_zero, List.set_cons_succ]
          refine wpAnyH_ready (rs := [11]) (by kernel_rfl) (by simp) ?_
          refine AllReadyH.cons rfl (fun K hK => ?_) AllReadyH.nil
          have e8 := (Hb7.out.cell y9).trans hy9
          go_simp
          refine hK.out _ _ ?_ (fun hHeld => ?_)
          · exact HS.out.cell
          clear hK K
          try simp only [Act.put, List.setIfInBounds_toArray, List.set_cons_zero, List.set_cons_succ]
          clear e8
          obtain ⟨v9, hv9⟩ := lit3 z9 hz9 (IntKind.i64.wrap (x4 - 1)) 48 (-2)
          refine held_yes (i := 12) (d := some 30) (v := ?_) rfl rfl (by kernel_rfl) (by kernel_rfl) (by kernel_rfl) (fun _ _ _ h => h) (by rfl) ?_ (by assumption) ?_
          rotate_left
          · (intro w hSw; (try dsimp only at hSw); go_simp; (first | done | with_reducible rfl))
          try simp only [Act.put, List.setIfInBounds_toArray, List.set_cons_zero, List.set_cons_succ]
          refine wpAnyH_ready (rs := [13]) (by kernel_rfl) (by simp) ?_
          refine AllReadyH.cons rfl (fun K hK => ?_) AllReadyH.nil
          have e3 := (Hb6.out.cell z9).trans hv9
          go_simp
          refine hK.out _ _ ?_ (fun hHeld => ?_)
          · exact HS.out.cell
          clear hK K
          try simp only [Act.put, List.setIfInBounds_toArray, List.set_cons_zero, List.set_cons_succ]
          clear e3
          refine wpAnyH_ready (rs := [17]) (by kernel_rfl) (by simp) ?_
          refine AllReadyH.cons rfl (fun K hK => ?_) AllReadyH.nil
          go_simp
          refine hK.out _ _ ?_ (fun hHeld => ?_)
          · first | with_reducible assumption | exact HS.out.cell
          clear hK K
          try simp only [Act.put, List.setIfInBounds_toArray, List.set_cons_zero, List.set_cons_succ]
          refine wpAnyH_done (by kernel_rfl) ?_ _
          have zr := HS.out.2.2.2.cell 0
          go_wp2
          exact bodyPost_ret (v := .tuple #[.agg #[.slice A2 n2 c2], .int .i64 f, .int .i64 k, .int .i64 v9]) (by simp [results, Try.results34, go_sem, *]) rfl ⟨_, _, _, _, _, _, _, rfl, HN.out.1, HN.out.2.1, HN.out.2.2.1, HS.out.fin⟩
        · have e8 := (Hb7.out.cell y9).trans hy9
          go_simp
          refine hK.out _ _ ?_ (fun hHeld => ?_)
          · exact HS.out.cell
          clear hK K
          try simp only [Act.put, List.setIfInBounds_toArray, List.set_cons_zero, List.set_cons_succ]
          clear e8
          refine wpAnyH_ready (rs := [6]) (by kernel_rfl) (by simp) ?_
          refine AllReadyH.cons rfl (fun K hK => ?_) AllReadyH.nil
          have hl0 : Blk (World.alloc (World.setCell w9 ⟨w.heap.size, 0, none⟩ (.slice A2 n2 c2)) (.cells #[.int .i64 (IntKind.i64.wrap (x4 - 1)), .int .i64 48, .int .i64 (-2)] 3)) (w9.heap.size) 3 #[.int .i64 (IntKind.i64.wrap (x4 - 1)), .int .i64 48, .int .i64 (-2)] := by have h := Blk.new (World.setCell w9 ⟨w.heap.size, 0, none⟩ (.slice A2 n2 c2)) 3 #[.int .i64 (IntKind.i64.wrap (x4 - 1)), .int .i64 48, .int .i64 (-2)]; (try simp only [World.drew, size_alloc1, size_set] at h); exact h
          replace Hb7 := Lib.hid (Hb7.out.keep (grown_alloc (grown_refl _ none) (.cells #[.int .i64 (IntKind.i64.wrap (x4 - 1)), .int .i64 48, .int .i64 (-2)] 3)))
          have Hb6 := Lib.hid hl0
          clear hl0
          replace HS := Lib.hid (HS.out.kept (grown_alloc (grown_refl _ none) (.cells #[.int .i64 (IntKind.i64.wrap (x4 - 1)), .int .i64 48, .int .i64 (-2)] 3)))
          go_simp
          refine hK.out _ _ ?_ (fun hHeld => ?_)
          · exact HS.out.cell
          clear hK K
          try simp only [Act.put, List.setIfInBounds_toArray, List.set_cons_zero, List.set_cons_succ]
          obtain ⟨v9, hv9⟩ := lit3 z9 hz9 (IntKind.i64.wrap (x4 - 1)) 48 (-2)
          refine held_yes (i := 12) (d := some 30) (v := ?_) rfl rfl (by kernel_rfl) (by kernel_rfl) (by kernel_rfl) (fun _ _ _ h => h) (by rfl) ?_ (by assumption) ?_
          rotate_left
          · (intro w hSw; (try dsimp only at hSw); go_simp; (first | done | with_reducible rfl))
          try simp only [Act.put, List.setIfInBounds_toArray, List.set_cons_zero, List.set_cons_succ]
          refine wpAnyH_ready (rs := [13]) (by kernel_rfl) (by simp) ?_
          refine AllReadyH.cons rfl (fun K hK => ?_) AllReadyH.nil
          have e3 := (Hb6.out.cell z9).trans hv9
          go_simp
          refine hK.out _ _ ?_ (fun hHeld => ?_)
          · exact HS.out.cell
          clear hK K
          try simp only [Act.put, List.setIfInBounds_toArray, List.set_cons_zero, List.set_cons_succ]
          clear e3
          refine wpAnyH_ready (rs := [17]) (by kernel_rfl) (by simp) ?_
          refine AllReadyH.cons rfl (fun K hK => ?_) AllReadyH.nil
          go_simp
          refine hK.out _ _ ?_ (fun hHeld => ?_)
          · first | with_reducible assumption | exact HS.out.cell
          clear hK K
          try simp only [Act.put, List.setIfInBounds_toArray, List.set_cons_zero, List.set_cons_succ]
          refine wpAnyH_done (by kernel_rfl) ?_ _
          have zr := HS.out.2.2.2.cell 0
          go_wp2
          exact bodyPost_ret (v := .tuple #[.agg #[.slice A2 n2 c2], .int .i64 f, .int .i64 k, .int .i64 v9]) (by simp [results, Try.results34, go_sem, *]) rfl ⟨_, _, _, _, _, _, _, rfl, HN.out.1, HN.out.2.1, HN.out.2.2.1, HS.out.fin⟩
end Go.Proofs.Ytpjajmiegopmlaa
