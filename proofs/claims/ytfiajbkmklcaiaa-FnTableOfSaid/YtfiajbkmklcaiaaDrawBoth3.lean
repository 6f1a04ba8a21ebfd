/- What the model draws for chapter 8, further: DrawFileValues. -/
import Derived.Test.YtfiajbkmklcaiaaDrawBoth2
import Derived.Test.YtfiajbkmklcaiaaDrawDev4
namespace Go.Proofs.Ytfiajbkmklcaiaa
open Go.ChangeShapes Go.WideShapes Go.ChangeAt Go.RowKit
set_option linter.unusedVariables false
set_option linter.unusedSimpArgs false

/-- A drawn device and a drawn table, this in variable T; the result's cell in block w.heap.size, the reader in the next one. -/
def FSt (w : World) (B Q T : Nat) (D : Option Addr) (bs : List Bk) (A : Option Addr) (n c : Nat) (ls : List Li) (wr : World) : Prop :=
  DZ (w.heap.size + 2) T D bs wr ∧ TRow wr wr.heap.size A ls ∧ TFar (w.heap.size + 2) A ls ∧ Blk wr T 25 #[.slice A n c] ∧ Blk wr w.heap.size 25 #[.slice none 0 0] ∧ Rd wr B (w.heap.size + 1) Q ∧ Below w.heap.size w wr ∧ w.heap.size + 2 ≤ T
section
variable {w wr w' : World} {B Q Q' T n c : Nat} {D A : Option Addr} {bs : List Bk} {ls : List Li}
theorem FSt.grown (H : FSt w B Q T D bs A n c ls wr) (hg : wr.grownBy w' (some (w.heap.size + 1))) (hr : Rd w' B (w.heap.size + 1) Q') : FSt w B Q' T D bs A n c ls w' := by
  obtain ⟨h1, h2, h3, h4, h5, h6, h7, h8⟩ := H
  exact ⟨h1.grown hg (fun k e => by injection e with e; omega), (h2.grownLo h3 hg (by omega)).here, h3, h4.grown hg (by intro e; injection e with e; omega), h5.grown hg (by intro e; injection e with e; omega), hr, h7.trans (Below.of_grown hg (by omega) h7.size), h8⟩
theorem FSt.kept (H : FSt w B Q T D bs A n c ls wr) (hk : wr.grownBy w' none) : FSt w B Q T D bs A n c ls w' := H.grown (grown_some hk) (H.2.2.2.2.2.1.grown hk (by intro k e; cases e))
theorem FSt.drew (H : FSt w B Q T D bs A n c ls wr) : FSt w B Q T D bs A n c ls wr.drew := H.kept (grown_drew (grown_refl _ _))
theorem FSt.cell (H : FSt w B Q T D bs A n c ls wr) : wr.cell? ⟨T, 0, none⟩ = some (.slice A n c) := H.2.2.2.1.cell 0
/-- The result's cell is written. -/
theorem FSt.out (H : FSt w B Q T D bs A n c ls wr) (u : Value) : LD w D bs (wr.setCell ⟨w.heap.size, 0, none⟩ u) ∧ LT w A ls (wr.setCell ⟨w.heap.size, 0, none⟩ u) := by
  have hT := H.2.2.2.1.lt
  obtain ⟨h1, h2, h3, h4, h5, h6, h7, h8⟩ := H
  have hs : (wr.setCell ⟨w.heap.size, 0, none⟩ u).heap.size = wr.heap.size := by simp [World.setCell]
  have hb := h7.setCell (p := ⟨w.heap.size, 0, none⟩) (Nat.le_refl _) u
  refine ⟨⟨?_, hb⟩, ⟨?_, hb⟩⟩
  · rw [hs]
    exact (h1.put (p := ⟨w.heap.size, 0, none⟩) (.inl (by dsimp only; omega)) u).1.more (by omega)
  · rw [hs]
    exact h2.putLo h3 (p := ⟨w.heap.size, 0, none⟩) (by dsimp only; omega) u
end
/-- A device, a table and a file are drawn. -/
def ValuesDrawn (w : World) (e : Ending) (w' : World) : Prop :=
  ∃ (D : Option Addr) (nd cd : Nat) (bs : List Bk) (A : Option Addr) (n c : Nat) (ls : List Li) (f : Int), e = .returned (.tuple #[.slice D nd cd, .agg #[.slice A n c], .int .i64 f]) ∧
    (bs.length = nd ∧ nd ≤ 13 ∧ ∀ q, q ∈ bs → q.ps.length ≤ 4) ∧ (ls.length = n ∧ n ≤ 8 ∧ ∀ l, l ∈ ls → l.xs.length ≤ 6) ∧ LD w D bs w' ∧ LT w A ls w'
set_option maxRecDepth 8000 in
set_option maxHeartbeats 4000000 in
theorem drawFileValues_any (w : World) (A : Option Addr) (n c : Nat) (hn : n ≤ c) (hc : c ≤ 9223372036854775807) (h : Bytes w w.heap.size A n) :
    Calls Try.prog 37 #[.slice A n c] w (ValuesDrawn w) := by
  have h0 := h.alloc (.cells #[.slice none 0 0] 25)
  go_enter Try.func37, Try.ntmps37
  go_wp2_with fail
  refine (open_any _ A n c hn hc h0).mono ?_
  rintro e w1 ⟨rfl, h1, hb1⟩
  (try simp only [size_of_alloc] at h1 hb1)
  have hr1 := (Blk.new w 25 #[.slice none 0 0]).below hb1 (by omega)
  have hg1 := h1.lt
  have hz1 := hb1.size
  (try simp only [size_of_alloc] at hz1)
  go_wp2_with fail
  refine (both_any _ _ _ _ 9 h1 (by omega) (by omega) (by omega)).mono ?_
  rintro e w2 ⟨D, nd, cd, bs, A2, n2, c2, ls, a, b, h9, rfl, hbs, hDZ, hls, hrow, hfar, h2, hg2⟩
  have hz2 := hg2.size
  have hbl := (((Below.refl w.heap.size w).alloc (Nat.le_refl _) (.cells #[.slice none 0 0] 25)).trans (hb1.mono (by omega))).trans (Below.of_grown hg2 (by omega) (by omega))
  have hr2 := hr1.grown hg2 (by intro e; injection e with e; omega)
  have hfr : TFar (w.heap.size + 2) A2 ls := hfar.more (by omega)
  have hD2 : DZ (w.heap.size + 2) w2.heap.size D bs w2 := ⟨hDZ.1, fun ad e => by have := hDZ.2.1 ad e; omega, fun q ad hq e => by have := hDZ.2.2 q ad hq e; omega⟩
  have K1 := grown_alloc (grown_refl w2 none) (.cells #[.slice A2 n2 c2] 25)
  have K2 := grown_alloc K1 (.cells #[.int .i64 a, .int .i64 b, .int .i64 h9] 76)
  have HS : RowKit.Hid (FSt w _ _ w2.heap.size D bs A2 n2 c2 ls ((w2.alloc (.cells #[.slice A2 n2 c2] 25)).alloc (.cells #[.int .i64 a, .int .i64 b, .int .i64 h9] 76))) := Lib.hid ⟨hD2.grown K2 (fun k e => by cases e), (hrow.kept K2).here, hfr, (Blk.new w2 _ _).alloc _, hr2.keep K2, h2.grown K2 (by intro k e; cases e), Below.and_kept hbl K2, by omega⟩
  have HX := Lib.hid (And.intro hbs hls)
  clear h h0 h1 h2 hb1 hr1 hr2 hg2 hrow hfar hDZ hD2 hbs hls hbl hfr K1 K2 hg1
  go_wp2_with fail
  refine wp_region_held_drew (S := (fun w' => w'.cell? ⟨w2.heap.size, 0, none⟩ = some (.slice A2 n2 c2))) (by kernel_rfl) ?_ (fun hHeld => ?_)
  · exact HS.out.cell
  refine held_yes (i := 0) (d := some 17) (v := ?_) rfl rfl (by kernel_rfl) (by kernel_rfl) (by kernel_rfl) (fun _ _ _ h => h) (by rfl) ?_ (by assumption) ?_
  rotate_left
  · (intro w hSw; (try dsimp only at hSw); go_simp; (first | done | with_reducible rfl))
  try simp only [Act.put, List.setIfInBounds_toArray, List.set_cons_zero, List.set_cons_succ]
  refine held_yes (i := 1) (d := some 18) (v := ?_) rfl rfl (by kernel_rfl) (by kernel_rfl) (by kernel_rfl) (fun _ _ _ h => h) (by rfl) ?_ (by assumption) ?_
  rotate_left
  · (intro w hSw; (try dsimp only at hSw); go_simp; (first | done | with_reducible rfl))
  try simp only [Act.put, List.setIfInBounds_toArray, List.set_cons_zero, List.set_cons_succ]
  refine held_yes (i := 2) (d := some 19) (v := ?_) rfl rfl (by kernel_rfl) (by kernel_rfl) (by kernel_rfl) (fun _ _ _ h => h) (by rfl) ?_ (by assumption) ?_
  rotate_left
  · (intro w hSw; (try dsimp only at hSw); go_simp; (first | done | with_reducible rfl))
  try simp only [Act.put, List.setIfInBounds_toArray, List.set_cons_zero, List.set_cons_succ]
  refine held_yes (i := 4) (d := some 21) (v := ?_) rfl rfl (by kernel_rfl) (by kernel_rfl) (by kernel_rfl) (fun _ _ _ h => h) (by rfl) ?_ (by assumption) ?_
  rotate_left
  · (intro w hSw; (try dsimp only at hSw); go_simp; (first | done | with_reducible rfl))
  try simp only [Act.put, List.setIfInBounds_toArray, List.set_cons_zero, List.set_cons_succ]
  refine wpAnyH_ready (rs := [3]) (by kernel_rfl) (by simp) ?_
  refine AllReadyH.cons rfl (fun K hK => ?_) AllReadyH.nil
  go_simp
  go_at_call 76; refine (pick_lt _ _ _ _ _ HS.out.drew.2.2.2.2.2.1 (by omega) (by omega)).mono ?_; rintro e w3 ⟨x3, rfl, u3, v3, h3, hg3⟩; replace HS := Lib.hid (HS.out.drew.grown hg3 h3); clear h3 hg3
  refine hK.out _ _ ?_ (fun hHeld => ?_)
  · exact HS.out.cell
  clear hK K
  try simp only [Act.put, List.setIfInBounds_toArray, List.set_cons_zero, List.set_cons_succ]
  refine wpAnyH_ready (rs := [5]) (by kernel_rfl) (by simp) ?_
  refine AllReadyH.cons rfl (fun K hK => ?_) AllReadyH.nil
  go_simp
  go_at_call 76; refine (pick_lt _ _ _ _ _ HS.out.2.2.2.2.2.1 (by omega) (by omega)).mono ?_; rintro e w4 ⟨x4, rfl, u4, v4, h4, hg4⟩; replace HS := Lib.hid (HS.out.grown hg4 h4); clear h4 hg4; have r0 : w4.cell? ⟨w.heap.size, 0, none⟩ = some (.slice none 0 0) := HS.out.2.2.2.2.1.cell 0; have r1 : w4.frozen? ⟨w.heap.size, 0, none⟩ = false := HS.out.2.2.2.2.1.frozen 0; have y0 : w2.heap.size ≠ w.heap.size := (by have := HS.out.2.2.2.2.2.2.2; omega); have y1 : w.heap.size ≠ w2.heap.size := (fun e => y0 e.symm); have HT0 := Lib.hid (HS.out.2.2.2.1.far (p := ⟨w.heap.size, 0, none⟩) y0 (.slice A2 n2 c2))
  refine hK.out _ _ ?_ (fun hHeld => ?_)
  · exact HS.out.cell
  clear hK K
  try simp only [Act.put, List.setIfInBounds_toArray, List.set_cons_zero, List.set_cons_succ]
  refine held_yes (i := 6) (d := some 23) (v := ?_) rfl rfl (by kernel_rfl) (by kernel_rfl) (by kernel_rfl) (fun _ _ _ h => h) (by rfl) ?_ (by assumption) ?_
  rotate_left
  · (intro w hSw; (try dsimp only at hSw); go_simp; (first | done | with_reducible rfl))
  try simp only [Act.put, List.setIfInBounds_toArray, List.set_cons_zero, List.set_cons_succ]
  refine held_yes (i := 7) (d := some 24) (v := ?_) rfl rfl (by kernel_rfl) (by kernel_rfl) (by kernel_rfl) (fun _ _ _ h => h) (by rfl) ?_ (by assumption) ?_
  rotate_left
  · (intro w hSw; (try dsimp only at hSw); go_simp; (first | done | with_reducible rfl))
  try simp only [Act.put, List.setIfInBounds_toArray, List.set_cons_zero, List.set_cons_succ]
  refine held_yes (i := 8) (d := some 2) (v := ?_) rfl rfl (by kernel_rfl) (by kernel_rfl) (by kernel_rfl) (fun _ _ _ h => h) (by rfl) ?_ (by assumption) ?_
  rotate_left
  · (intro w hSw; (try dsimp only at hSw); go_simp; (first | done | with_reducible rfl))
  try simp only [Act.put, List.setIfInBounds_toArray, List.set_cons_zero, List.set_cons_succ]
  refine wpAnyH_ready (rs := [9]) (by kernel_rfl) (by simp) ?_
  refine AllReadyH.cons rfl (fun K hK => ?_) AllReadyH.nil
  go_simp
  refine hK.out _ _ ?_ (fun hHeld => ?_)
  · exact HT0.out.cell 0
  clear hK K
  try simp only [Act.put, List.setIfInBounds_toArray, List.set_cons_zero, List.set_cons_succ]
  refine wpAnyH_ready (rs := [10]) (by kernel_rfl) (by simp) ?_
  refine AllReadyH.cons rfl (fun K hK => ?_) AllReadyH.nil
  go_simp
  refine hK.out _ _ ?_ (fun hHeld => ?_)
  · exact HT0.out.cell 0
  clear hK K
  try simp only [Act.put, List.setIfInBounds_toArray, List.set_cons_zero, List.set_cons_succ]
  refine wpAnyH_done (by kernel_rfl) ?_ _
  go_wp2
  have HO := Lib.hid (HS.out.out (.slice A2 n2 c2))
  exact bodyPost_ret (v := .tuple #[.slice D nd cd, .agg #[.slice A2 n2 c2], .int .i64 (IntKind.i64.wrap (x3 - IntKind.i64.wrap (x4.tdiv 13)))]) (by simp [results, Try.results37, go_sem, *]) rfl ⟨_, _, _, _, _, _, _, _, _, rfl, HX.out.1, HX.out.2, HO.out.1, HO.out.2⟩
end Go.Proofs.Ytfiajbkmklcaiaa
