/- What the model draws for chapter 7: DrawTableGet, DrawTableChanges.
   What the model draws for chapter 7: DrawTableChanges. -/
import Derived.Test.YtfiajbkmklcaiaaDrawTabs
namespace Go.Proofs.Ytfiajbkmklcaiaa
open Go.ChangeShapes Go.WideShapes Go.ChangeAt Go.RowKit
set_option linter.unusedVariables false
set_option linter.unusedSimpArgs false

/-- A drawn table while the law walks on. -/
def LT (w : World) (A : Option Addr) (ls : List Li) (wr : World) : Prop := TRow wr wr.heap.size A ls ∧ Below w.heap.size w wr
theorem LT.keep {w wr w' : World} {A : Option Addr} {ls : List Li} (h : LT w A ls wr) (k : wr.grownBy w' none) : LT w A ls w' := ⟨(h.1.kept k).here, Below.and_kept h.2 k⟩
theorem LT.alloc {w wr : World} {A : Option Addr} {ls : List Li} (h : LT w A ls wr) (o : Obj) : LT w A ls (wr.alloc o) := h.keep (grown_alloc (grown_refl _ _) o)
/-- A drawn table in a variable V, the reader in block g before it, the result's cell in block w.heap.size. -/
def GSt (w : World) (A : Option Addr) (n c : Nat) (ls : List Li) (V g B Q : Nat) (wr : World) : Prop :=
  (TRow wr wr.heap.size A ls ∧ Rd wr B g Q ∧ Below w.heap.size w wr ∧ Blk wr w.heap.size 25 #[.slice none 0 0] ∧ Blk wr V 25 #[.slice A n c]) ∧ w.heap.size < g ∧ g < V ∧ TFar (g + 1) A ls
section
variable {w wr w' : World} {B g Q Q' V n c : Nat} {A : Option Addr} {ls : List Li}
theorem GSt.grown (H : GSt w A n c ls V g B Q wr) (hg : wr.grownBy w' (some g)) (hr : Rd w' B g Q') : GSt w A n c ls V g B Q' w' := by
  obtain ⟨⟨h1, h2, h3, h4, h5⟩, h6, h7, h8⟩ := H
  exact ⟨⟨(h1.grownLo h8 hg (by omega)).here, hr, h3.trans (Below.of_grown hg (by omega) h3.size), h4.grown hg (by intro e; injection e with e; omega), h5.grown hg (by intro e; injection e with e; omega)⟩, h6, h7, h8⟩
theorem GSt.kept (H : GSt w A n c ls V g B Q wr) (hk : wr.grownBy w' none) : GSt w A n c ls V g B Q w' := H.grown (grown_some hk) (H.1.2.1.grown hk (by intro k e; cases e))
theorem GSt.cell (H : GSt w A n c ls V g B Q wr) : wr.cell? ⟨V, 0, none⟩ = some (.slice A n c) := H.1.2.2.2.2.cell 0
/-- The result's cell is written. -/
theorem GSt.put (H : GSt w A n c ls V g B Q wr) (u : Value) : LT w A ls (wr.setCell ⟨w.heap.size, 0, none⟩ u) := by
  obtain ⟨⟨h1, h2, h3, h4, h5⟩, h6, h7, h8⟩ := H
  have hs : (wr.setCell ⟨w.heap.size, 0, none⟩ u).heap.size = wr.heap.size := by simp [World.setCell]
  refine ⟨?_, h3.setCell (Nat.le_refl _) u⟩
  rw [hs]
  exact h1.putLo h8 (p := ⟨w.heap.size, 0, none⟩) (by dsimp only; omega) u
end
/-- A table, a file and a place are drawn. -/
def TabDrawn (w : World) (e : Ending) (w' : World) : Prop :=
  ∃ (A : Option Addr) (n c : Nat) (ls : List Li) (f k : Int), e = .returned (.tuple #[.agg #[.slice A n c], .int .i64 f, .int .i64 k]) ∧ ls.length = n ∧ n ≤ 8 ∧ (∀ l, l ∈ ls → l.xs.length ≤ 6) ∧ TFar w.heap.size A ls ∧ LT w A ls w'
/-- Which of the three is taken. -/
theorem lit8 (y : Nat) (h : y < 8) : ∃ z : Nat, z < 3 ∧ (#[Value.int .i64 0, .int .i64 0, .int .i64 0, .int .i64 0, .int .i64 0, .int .i64 0, .int .i64 1, .int .i64 2] : Array Value)[y]? = some (.int .i64 (z : Int)) := by
  match y, h with
  | 0, _ => exact ⟨0, by omega, rfl⟩
  | 1, _ => exact ⟨0, by omega, rfl⟩
  | 2, _ => exact ⟨0, by omega, rfl⟩
  | 3, _ => exact ⟨0, by omega, rfl⟩
  | 4, _ => exact ⟨0, by omega, rfl⟩
  | 5, _ => exact ⟨0, by omega, rfl⟩
  | 6, _ => exact ⟨1, by omega, rfl⟩
  | 7, _ => exact ⟨2, by omega, rfl⟩
theorem lit3 (z : Nat) (h : z < 3) (a b d : Int) : ∃ v : Int, (#[Value.int .i64 a, .int .i64 b, .int .i64 d] : Array Value)[z]? = some (.int .i64 v) := by
  match z, h with
  | 0, _ => exact ⟨a, rfl⟩
  | 1, _ => exact ⟨b, rfl⟩
  | 2, _ => exact ⟨d, rfl⟩
set_option maxHeartbeats 4000000 in
theorem drawTableGet_any (w : World) (A : Option Addr) (n c : Nat) (hn : n ≤ c) (hc : c ≤ 9223372036854775807) (h : Bytes w w.heap.size A n) :
    Calls Try.prog 73 #[.slice A n c] w (TabDrawn w) := by
  have h0 := h.alloc (.cells #[.slice none 0 0] 25)
  go_enter Try.func73, Try.ntmps73
  go_wp2_with fail
  refine (open_any _ A n c hn hc h0).mono ?_
  rintro e w1 ⟨rfl, h1, hb1⟩
  (try simp only [size_of_alloc] at h1 hb1)
  have hr1 := (Blk.new w 25 #[.slice none 0 0]).below hb1 (by omega)
  have hg1 := h1.lt
  have hz1 := hb1.size
  (try simp only [size_of_alloc] at hz1)
  go_wp2_with fail
  refine (tables_any _ _ _ _ 9 h1 (by omega) (by omega) (by omega)).mono ?_
  rintro e w2 ⟨A2, n2, c2, ls, rfl, hl, h8, h6, hrow, hfar, h2, hg2⟩
  have hz2 := hg2.size
  have hbl := (((Below.refl w.heap.size w).alloc (Nat.le_refl _) (.cells #[.slice none 0 0] 25)).trans (hb1.mono (by omega))).trans (Below.of_grown hg2 (by omega) (by omega))
  have hr2 := hr1.grown hg2 (by intro e; injection e with e; omega)
  have hfr : TFar (w.heap.size + 1 + 1) A2 ls := hfar.more (by omega)
  have HN := Lib.hid (And.intro hl (And.intro h8 (And.intro h6 (hfar.more (show w.heap.size ≤ w1.heap.size by omega)))))
  have HS : RowKit.Hid (GSt w A2 n2 c2 ls w2.heap.size (w.heap.size + 1) _ _ (w2.alloc (.cells #[.slice A2 n2 c2] 25))) := Lib.hid ⟨⟨(hrow.alloc _).here, h2.alloc _, hbl.alloc (by omega) _, hr2.alloc _, Blk.new w2 _ _⟩, by omega, by omega, hfr⟩
  clear h h0 h1 h2 hb1 hr1 hg2 hrow hfar hl h8 h6 hbl hr2 hfr
  go_wp2_with fail
  refine (pick_lt _ _ _ _ _ HS.out.1.2.1 (by omega) (by omega)).mono ?_
  rintro e w3 ⟨x3, rfl, u3, v3, h3, hg3⟩
  replace HS := Lib.hid (HS.out.grown hg3 h3)
  clear h3 hg3
  have hl3 := Blk.new w3 3 #[.int .i64 x3, .int .i64 8, .int .i64 (-1)]
  have hl8 := Blk.new (w3.alloc (.cells #[.int .i64 x3, .int .i64 8, .int .i64 (-1)] 3)) 3 #[.int .i64 0, .int .i64 0, .int .i64 0, .int .i64 0, .int .i64 0, .int .i64 0, .int .i64 1, .int .i64 2]
  have hl3 := hl3.alloc (.cells #[.int .i64 0, .int .i64 0, .int .i64 0, .int .i64 0, .int .i64 0, .int .i64 0, .int .i64 1, .int .i64 2] 3)
  simp only [size_alloc1] at hl8
  have HL := Lib.hid (And.intro hl3 hl8)
  have hgs := HS.out.1.2.1.lt
  replace HS := Lib.hid ((HS.out.kept (grown_alloc (grown_refl _ none) (.cells #[.int .i64 x3, .int .i64 8, .int .i64 (-1)] 3))).kept (grown_alloc (grown_refl _ none) (.cells #[.int .i64 0, .int .i64 0, .int .i64 0, .int .i64 0, .int .i64 0, .int .i64 0, .int .i64 1, .int .i64 2] 3)))
  clear hl3 hl8
  go_wp2_with fail
  refine (pick_lt _ _ _ _ _ HS.out.1.2.1 (by omega) (by omega)).mono ?_
  rintro e w4 ⟨x4, rfl, u4, v4, h4, hg4⟩
  obtain ⟨y, rfl⟩ := Int.eq_ofNat_of_zero_le u4
  obtain ⟨z, hz, hy⟩ := lit8 y (by omega)
  obtain ⟨v, hv⟩ := lit3 z hz x3 8 (-1)
  have e8 : w4.cell? ⟨w3.heap.size + 1, y, none⟩ = some (.int .i64 (z : Int)) := ((HL.out.2.grown hg4 (by intro e; injection e with e; omega)).cell y).trans hy
  have e3 : w4.cell? ⟨w3.heap.size, z, none⟩ = some (.int .i64 v) := ((HL.out.1.grown hg4 (by intro e; injection e with e; omega)).cell z).trans hv
  replace HS := Lib.hid (HS.out.grown hg4 h4)
  clear h4 hg4
  have y0 : decide ((0 : Int) ≤ y) = true := decide_eq_true (by omega)
  have y1 : (y : Int) < 8 := by omega
  have z0 : decide ((0 : Int) ≤ z) = true := decide_eq_true (by omega)
  have z1 : (z : Int) < 3 := by omega
  clear hy hv HL
  go_wp2_with fail
  clear e8 e3
  refine wp_region_held_drew (S := (fun w' => w'.cell? ⟨w2.heap.size, 0, none⟩ = some (.slice A2 n2 c2))) (by kernel_rfl) ?_ (fun hHeld => ?_)
  · exact HS.out.cell
  replace HS := Lib.hid (HS.out.kept (grown_drew (grown_refl _ none)))
  refine held_yes (i := 0) (d := some 22) (v := ?_) rfl rfl (by kernel_rfl) (by kernel_rfl) (by kernel_rfl) (fun _ _ _ h => h) (by rfl) ?_ (by assumption) ?_
  rotate_left
  · (intro w hSw; (try dsimp only at hSw); go_simp; (first | done | with_reducible rfl))
  try simp only [Act.put, List.setIfInBounds_toArray, List.set_cons_zero, List.set_cons_succ]
  refine held_yes (i := 1) (d := some 23) (v := ?_) rfl rfl (by kernel_rfl) (by kernel_rfl) (by kernel_rfl) (fun _ _ _ h => h) (by rfl) ?_ (by assumption) ?_
  rotate_left
  · (intro w hSw; (try dsimp only at hSw); go_simp; (first | done | with_reducible rfl))
  try simp only [Act.put, List.setIfInBounds_toArray, List.set_cons_zero, List.set_cons_succ]
  refine held_yes (i := 2) (d := some 24) (v := ?_) rfl rfl (by kernel_rfl) (by kernel_rfl) (by kernel_rfl) (fun _ _ _ h => h) (by rfl) ?_ (by assumption) ?_
  rotate_left
  · (intro w hSw; (try dsimp only at hSw); go_simp; (first | done | with_reducible rfl))
  try simp only [Act.put, List.setIfInBounds_toArray, List.set_cons_zero, List.set_cons_succ]
  refine held_yes (i := 4) (d := some 26) (v := ?_) rfl rfl (by kernel_rfl) (by kernel_rfl) (by kernel_rfl) (fun _ _ _ h => h) (by rfl) ?_ (by assumption) ?_
  rotate_left
  · (intro w hSw; (try dsimp only at hSw); go_simp; (first | done | with_reducible rfl))
  try simp only [Act.put, List.setIfInBounds_toArray, List.set_cons_zero, List.set_cons_succ]
  refine wpAnyH_ready (rs := [3]) (by kernel_rfl) (by simp) ?_
  refine AllReadyH.cons rfl (fun K hK => ?_) AllReadyH.nil
  go_simp
  go_at_call 76
  refine (pick_lt _ _ _ _ _ HS.out.1.2.1 (by omega) (by omega)).mono ?_
  rintro e w5 ⟨x5, rfl, u5, v5, h5, hg5⟩
  replace HS := Lib.hid (HS.out.grown hg5 h5)
  clear h5 hg5
  refine hK.out _ _ ?_ (fun hHeld => ?_)
  · exact HS.out.cell
  clear hK K
  try simp only [Act.put, List.setIfInBounds_toArray, List.set_cons_zero, List.set_cons_succ]
  refine wpAnyH_ready (rs := [5]) (by kernel_rfl) (by simp) ?_
  refine AllReadyH.cons rfl (fun K hK => ?_) AllReadyH.nil
  go_simp
  go_at_call 76
  refine (pick_lt _ _ _ _ _ HS.out.1.2.1 (by omega) (by omega)).mono ?_
  rintro e w6 ⟨x6, rfl, u6, v6, h6, hg6⟩
  replace HS := Lib.hid (HS.out.grown hg6 h6)
  clear h6 hg6
  refine hK.out _ _ ?_ (fun hHeld => ?_)
  · exact HS.out.cell
  clear hK K
  try simp only [Act.put, List.setIfInBounds_toArray, List.set_cons_zero, List.set_cons_succ]
  refine held_yes (i := 6) (d := some 28) (v := ?_) rfl rfl (by kernel_rfl) (by kernel_rfl) (by kernel_rfl) (fun _ _ _ h => h) (by rfl) ?_ (by assumption) ?_
  rotate_left
  · (intro w hSw; (try dsimp only at hSw); go_simp; (first | done | with_reducible rfl))
  try simp only [Act.put, List.setIfInBounds_toArray, List.set_cons_zero, List.set_cons_succ]
  refine held_yes (i := 7) (d := some 29) (v := ?_) rfl rfl (by kernel_rfl) (by kernel_rfl) (by kernel_rfl) (fun _ _ _ h => h) (by rfl) ?_ (by assumption) ?_
  rotate_left
  · (intro w hSw; (try dsimp only at hSw); go_simp; (first | done | with_reducible rfl))
  try simp only [Act.put, List.setIfInBounds_toArray, List.set_cons_zero, List.set_cons_succ]
  have r0 : w6.cell? ⟨w.heap.size, 0, none⟩ = some (.slice none 0 0) := HS.out.1.2.2.2.1.cell 0
  have r1 : w6.frozen? ⟨w.heap.size, 0, none⟩ = false := HS.out.1.2.2.2.1.frozen 0
  have nv : w2.heap.size ≠ w.heap.size := by omega
  have nv2 : w.heap.size ≠ w2.heap.size := by omega
  have z5 := HS.out.cell
  refine wpAnyH_ready (rs := [8]) (by kernel_rfl) (by simp) ?_
  refine AllReadyH.cons rfl (fun K hK => ?_) AllReadyH.nil
  go_simp
  refine hK.out _ _ ?_ (fun hHeld => ?_)
  · first | with_reducible assumption | go_keep
  clear hK K
  try simp only [Act.put, List.setIfInBounds_toArray, List.set_cons_zero, List.set_cons_succ]
  refine wpAnyH_ready (rs := [9]) (by kernel_rfl) (by simp) ?_
  refine AllReadyH.cons rfl (fun K hK => ?_) AllReadyH.nil
  go_simp
  refine hK.out _ _ ?_ (fun hHeld => ?_)
  · first | with_reducible assumption | go_keep
  clear hK K
  try simp only [Act.put, List.setIfInBounds_toArray, List.set_cons_zero, List.set_cons_succ]
  refine wpAnyH_ready (rs := [10]) (by kernel_rfl) (by simp) ?_
  refine AllReadyH.cons rfl (fun K hK => ?_) AllReadyH.nil
  go_simp
  refine hK.out _ _ ?_ (fun hHeld => ?_)
  · first | with_reducible assumption | go_keep
  clear hK K
  try simp only [Act.put, List.setIfInBounds_toArray, List.set_cons_zero, List.set_cons_succ]
  refine wpAnyH_done (by kernel_rfl) ?_ _
  go_wp2
  exact bodyPost_ret (v := .tuple #[.agg #[.slice A2 n2 c2], .int .i64 v, .int .i64 (IntKind.i64.wrap (x5 - IntKind.i64.wrap (x6.tdiv 13)))]) (by simp [results, Try.results73, go_sem, *]) rfl ⟨_, _, _, _, _, _, rfl, HN.out.1, HN.out.2.1, HN.out.2.2.1, HN.out.2.2.2, HS.out.put _⟩
end Go.Proofs.Ytfiajbkmklcaiaa
namespace Go.Proofs.Ytfiajbkmklcaiaa
open Go.ChangeShapes Go.WideShapes Go.ChangeAt Go.RowKit
set_option linter.unusedVariables false
set_option linter.unusedSimpArgs false

/-- Two tables are drawn. -/
def TabsDrawn (w : World) (e : Ending) (w' : World) : Prop :=
  ∃ (A : Option Addr) (n c : Nat) (ls : List Li) (A' : Option Addr) (n' c' : Nat) (ms : List Li), e = .returned (.tuple #[.agg #[.slice A n c], .agg #[.slice A' n' c']]) ∧ ls.length = n ∧ n ≤ 8 ∧ (∀ l, l ∈ ls → l.xs.length ≤ 6) ∧ ms.length = n' ∧ n' ≤ 8 ∧ (∀ l, l ∈ ms → l.xs.length ≤ 6) ∧ LT w A ls w' ∧ LT w A' ms w'
theorem chgV_comm (a b : List (List Int)) : chgV b a = chgV a b := by
  unfold chgV
  rw [chgTo_comm b a, Bool.and_comm]
theorem LT.putLo {w wr : World} {A : Option Addr} {ls : List Li} {lo : Nat} (h : LT w A ls wr) (f : TFar lo A ls) {p : Addr} (hp : p.block < lo) (hw : w.heap.size ≤ p.block) (u : Value) : LT w A ls (wr.setCell p u) := by
  have hs : (wr.setCell p u).heap.size = wr.heap.size := by simp [World.setCell]
  refine ⟨?_, h.2.setCell hw u⟩
  rw [hs]
  exact h.1.putLo f hp u
end Go.Proofs.Ytfiajbkmklcaiaa
