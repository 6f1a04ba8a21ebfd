/- What the model draws for chapter 18: DrawRollForward. Written by mk/draw_roll.py. -/
import Derived.Test.YteniikfgellhfaaDrawBoth
namespace Go.Proofs.Yteniikfgellhfaa
open Go.ChangeShapes Go.WideShapes Go.ChangeAt Go.RowKit
set_option linter.unusedVariables false
set_option linter.unusedSimpArgs false

set_option maxRecDepth 8000 in
set_option maxHeartbeats 4000000 in
theorem drawRollForward_any (w : World) (A : Option Addr) (n c : Nat) (hn : n ≤ c) (hc : c ≤ 9223372036854775807) (h : Bytes w w.heap.size A n) :
    Calls Try.prog 20 #[.slice A n c] w (ValuesDrawn w) := by
  have h0 := h.alloc (.cells #[.slice none 0 0] 40)
  go_enter Try.func20, Try.ntmps20
  go_wp2_with fail
  refine (open_any _ A n c hn hc h0).mono ?_
  rintro e w1 ⟨rfl, h1, hb1⟩
  (try simp only [size_of_alloc] at h1 hb1)
  have hr1 := (Blk.new w 40 #[.slice none 0 0]).below hb1 (by omega)
  have hg1 := h1.lt
  have hz1 := hb1.size
  (try simp only [size_of_alloc] at hz1)
  go_wp2_with fail
  refine (both_any _ _ _ _ 9 h1 (by omega) (by omega) (by omega)).mono ?_
  rintro e w2 ⟨D, nd, cd, bs, A2, n2, c2, ls, a, b, h9, rfl, hbs, hDZ, hls, hrow, hfar, h2, hg2⟩
  have hz2 := hg2.size
  have hbl := (((Below.refl w.heap.size w).alloc (Nat.le_refl _) (.cells #[.slice none 0 0] 40)).trans (hb1.mono (by omega))).trans (Below.of_grown hg2 (by omega) (by omega))
  have hr2 := hr1.grown hg2 (by intro e; injection e with e; omega)
  have hfr : TFar (w.heap.size + 2) A2 ls := hfar.more (by omega)
  have hD2 : DZ (w.heap.size + 2) w2.heap.size D bs w2 := ⟨hDZ.1, fun ad e => by have := hDZ.2.1 ad e; omega, fun q ad hq e => by have := hDZ.2.2 q ad hq e; omega⟩
  have K1 := grown_alloc (grown_refl w2 none) (.cells #[.slice A2 n2 c2] 40)
  have K2 := grown_alloc K1 (.cells #[.int .i64 a, .int .i64 b, .int .i64 h9] 77)
  have HS : RowKit.Hid (FSt w _ _ w2.heap.size D bs A2 n2 c2 ls ((w2.alloc (.cells #[.slice A2 n2 c2] 40)).alloc (.cells #[.int .i64 a, .int .i64 b, .int .i64 h9] 77))) := Lib.hid ⟨hD2.grown K2 (fun k e => by cases e), (hrow.kept K2).here, hfr, (Blk.new w2 _ _).alloc _, hr2.keep K2, h2.grown K2 (by intro k e; cases e), Below.and_kept hbl K2, by omega⟩
  have HX := Lib.hid (And.intro hbs hls)
  clear h h0 h1 h2 hb1 hr1 hr2 hg2 hrow hfar hDZ hD2 hbs hls hbl hfr K1 K2 hg1
  go_wp2_with fail
  refine wp_region_held_drew (S := (fun w' => w'.cell? ⟨w2.heap.size, 0, none⟩ = some (.slice A2 n2 c2))) (by kernel_rfl) ?_ (fun hHeld => ?_)
  · exact HS.out.cell
  refine heldY 0 17 ?_
  refine heldY 1 18 ?_
  refine heldY 2 19 ?_
  refine wpAnyH_ready (rs := [3]) (by kernel_rfl) (by simp) ?_
  refine AllReadyH.cons rfl (fun K hK => ?_) AllReadyH.nil
  go_simp
  go_at_call 51; refine (pick_lt _ _ _ _ _ HS.out.drew.2.2.2.2.2.1 (by omega) (by omega)).mono ?_; rintro e w3 ⟨x3, rfl, u3, v3, h3, hg3⟩; replace HS := Lib.hid (HS.out.drew.grown hg3 h3); clear h3 hg3; have r0 : w3.cell? ⟨w.heap.size, 0, none⟩ = some (.slice none 0 0) := HS.out.2.2.2.2.1.cell 0; have r1 : w3.frozen? ⟨w.heap.size, 0, none⟩ = false := HS.out.2.2.2.2.1.frozen 0; have y0 : w2.heap.size ≠ w.heap.size := (by have := HS.out.2.2.2.2.2.2.2; omega); have y1 : w.heap.size ≠ w2.heap.size := (fun e => y0 e.symm); have HT0 := Lib.hid (HS.out.2.2.2.1.far (p := ⟨w.heap.size, 0, none⟩) y0 (.slice A2 n2 c2))
  refine hK.out _ _ ?_ (fun hHeld => ?_)
  · exact HS.out.cell
  clear hK K
  try simp only [Act.put, List.setIfInBounds_toArray, List.set_cons_zero, List.set_cons_succ]
  refine heldY 4 21 ?_
  refine heldY 5 2 ?_
  refine wpAnyH_ready (rs := [6]) (by kernel_rfl) (by simp) ?_
  refine AllReadyH.cons rfl (fun K hK => ?_) AllReadyH.nil
  go_simp
  refine hK.out _ _ ?_ (fun hHeld => ?_)
  · exact HT0.out.cell 0
  clear hK K
  try simp only [Act.put, List.setIfInBounds_toArray, List.set_cons_zero, List.set_cons_succ]
  refine heldY 7 4 ?_
  refine wpAnyH_done (by kernel_rfl) ?_ _
  go_wp2
  have HO := Lib.hid (HS.out.out (.slice A2 n2 c2))
  exact bodyPost_ret (v := .tuple #[.slice D nd cd, .agg #[.slice A2 n2 c2], .int .i64 (IntKind.i64.wrap (x3 - 1))]) (by simp [results, Try.results20, go_sem, *]) rfl ⟨_, _, _, _, _, _, _, _, _, rfl, HX.out.1, HX.out.2, HO.out.1, HO.out.2⟩
end Go.Proofs.Yteniikfgellhfaa
