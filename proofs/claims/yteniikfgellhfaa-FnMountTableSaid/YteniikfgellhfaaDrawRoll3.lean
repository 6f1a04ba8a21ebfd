/- What the model draws for chapter 18: DrawMountTable. Written by mk/draw_roll.py. -/
import Derived.Test.YteniikfgellhfaaDrawDev4
import Derived.Test.YteniikfgellhfaaDrawBoth
import Derived.Test.YteniikfgellhfaaDrawSave0
namespace Go.Proofs.Yteniikfgellhfaa
open Go.ChangeShapes Go.WideShapes Go.ChangeAt Go.RowKit
set_option linter.unusedVariables false
set_option linter.unusedSimpArgs false

/-- A device, two saves and a number are drawn out of a code. -/
def MountDrawn (w : World) (e : Ending) (w' : World) : Prop := ∃ (D : Option Addr) (nd cd : Nat) (bs : List Bk) (N : Int) (A : Option Addr) (n c : Nat) (X : List Int) (S N' : Int) (A' : Option Addr) (n' c' : Nat) (X' : List Int) (S' s : Int), e = .returned (.tuple #[.slice D nd cd, .agg #[.int .i64 N, .slice A n c, .int .i64 S], .agg #[.int .i64 N', .slice A' n' c', .int .i64 S'], .int .i64 s]) ∧
  (bs.length = nd ∧ nd ≤ 13 ∧ ∀ q, q ∈ bs → q.ps.length ≤ 4) ∧ (X.length = n ∧ n ≤ 48 ∧ n ≤ c ∧ c ≤ maxLen) ∧ (X'.length = n' ∧ n' ≤ 48 ∧ n' ≤ c' ∧ c' ≤ maxLen) ∧ DRow w' w'.heap.size D bs ∧ IRow w' w'.heap.size A X ∧ IRow w' w'.heap.size A' X' ∧ Below w.heap.size w w'
theorem dz_here {lo hi : Nat} {D : Option Addr} {bs : List Bk} {wr : World} (h : DZ lo hi D bs wr) (hi' : hi ≤ wr.heap.size) : DRow wr wr.heap.size D bs := h.1.more hi'
theorem dz_putS {lo hi V : Nat} {D : Option Addr} {bs : List Bk} {wr : World} (h : DZ lo hi D bs wr) (hV : V < lo) (u0 u1 u2 : Value) : DZ lo hi D bs (putS wr V u0 u1 u2) :=
  ((h.put (p := ⟨V, 0, none⟩) (.inl hV) u0).put (p := ⟨V, 1, none⟩) (.inl hV) u1).put (p := ⟨V, 2, none⟩) (.inl hV) u2
set_option maxRecDepth 8000 in
set_option maxHeartbeats 4000000 in
theorem drawMountTable_any (w : World) (A : Option Addr) (n c : Nat) (hn : n ≤ c) (hc : c ≤ 9223372036854775807) (h : Bytes w w.heap.size A n) :
    Calls Try.prog 29 #[.slice A n c] w (MountDrawn w) := by
  have h0 := (h.alloc (.cells #[.int .i64 0, .slice none 0 0, .int .i64 0] 49)).alloc (.cells #[.int .i64 0, .slice none 0 0, .int .i64 0] 49)
  go_enter Try.func29, Try.ntmps29
  go_wp2_with fail
  refine (open_any _ A n c hn hc h0).mono ?_
  rintro e w1 ⟨rfl, h1, hb1⟩
  (try simp only [size_of_alloc] at h1 hb1)
  have hra := ((Blk.new w 49 #[.int .i64 0, .slice none 0 0, .int .i64 0]).alloc (.cells #[.int .i64 0, .slice none 0 0, .int .i64 0] 49)).below hb1 (by omega)
  have hrb := (Blk.new (w.alloc (.cells #[.int .i64 0, .slice none 0 0, .int .i64 0] 49)) 49 #[.int .i64 0, .slice none 0 0, .int .i64 0]).below hb1 (by simp only [size_of_alloc]; omega)
  (try simp only [size_of_alloc] at hrb)
  have hg1 := h1.lt
  have hz1 := hb1.size
  (try simp only [size_of_alloc] at hz1)
  go_wp2_with fail
  refine (device_any _ _ _ _ 9 h1 (by omega) (by omega) (by omega)).mono ?_
  rintro e w2 ⟨D, nd, cd, bs, ha, hb, hc9, rfl, hld, h13, _, _, hs4, hA, hrowD, h2, hg2, _, hPD⟩
  have hz2 := hg2.size
  have K2 := grown_alloc (grown_refl w2 none) (.cells #[.int .i64 ha, .int .i64 hb, .int .i64 hc9] 77)
  have hDZ : DZ (w.heap.size + 1 + 1 + 1) w2.heap.size D bs (w2.alloc (.cells #[.int .i64 ha, .int .i64 hb, .int .i64 hc9] 77)) := ⟨hrowD.kept K2, fun ad e => by have := hA ad e; omega, fun q ad hq e => by have := hPD q ad hq e; omega⟩
  have hbl2 := ((((Below.refl w.heap.size w).alloc (Nat.le_refl _) (.cells #[.int .i64 0, .slice none 0 0, .int .i64 0] 49)).alloc (by simp only [size_of_alloc]; omega) (.cells #[.int .i64 0, .slice none 0 0, .int .i64 0] 49)).trans (hb1.mono (by omega))).trans (Below.of_grown hg2 (by omega) (by omega))
  have hra2 := (hra.grown hg2 (by intro e; injection e with e; omega)).keep K2
  have hrb2 := (hrb.grown hg2 (by intro e; injection e with e; omega)).keep K2
  have hR2 := h2.grown K2 (by intro k e; cases e)
  have HD := Lib.hid (And.intro hld (And.intro h13 hs4))
  have HS := Lib.hid (And.intro hR2 (And.intro hDZ (And.intro (Below.and_kept hbl2 K2) (And.intro hra2 hrb2))))
  have HV := Lib.hid (show w.heap.size + 1 + 1 < w2.heap.size by omega)
  clear h h0 h1 h2 hb1 hra hrb hg2 hrowD hld hs4 hA hPD hDZ hbl2 hra2 hrb2 hR2 K2 hg1 hz1 hz2
  go_wp2_with fail
  refine (saves_any _ _ _ _ 3 HS.out.1 (by omega) (by omega) (by omega)).mono ?_
  rintro e w3 ⟨N, A2, n2, c2, X, S, rfl, hl, h48, hcap, hmax, hrow, hfar, h3, hg3⟩
  (try simp only [size_alloc1] at hfar)
  have hz3 := hg3.size
  (try simp only [size_alloc1] at hz3)
  have hvv := HV.out
  have HN := Lib.hid (And.intro hl (And.intro h48 (And.intro hcap hmax)))
  have K3 : w3.grownBy (w3.alloc (.cells #[.int .i64 N, .slice A2 n2 c2, .int .i64 S] 49)).drew none := grown_drew (grown_alloc (grown_refl _ _) _)
  have hDZ3 := (HS.out.2.1.grown hg3 (fun k e => by injection e with e; omega)).grown K3 (fun k e => by cases e)
  have hbl3 := Below.and_kept (HS.out.2.2.1.trans (Below.of_grown hg3 (by omega) (by simp only [size_alloc1]; omega))) K3
  have hra3 := (HS.out.2.2.2.1.grown hg3 (by intro e; injection e with e; omega)).keep K3
  have hrb3 := (HS.out.2.2.2.2.grown hg3 (by intro e; injection e with e; omega)).keep K3
  have HT := Lib.hid (And.intro (h3.grown K3 (by intro k e; cases e)) (And.intro (VRow.here (VRow.kept hrow K3) : IRow _ _ A2 X) (And.intro (show ∀ ad, A2 = some ad → w.heap.size + 1 + 1 + 1 ≤ ad.block from fun ad e => by have := hfar ad e; omega) (And.intro hra3 (And.intro hrb3 (And.intro hbl3 (And.intro (Blk.drew (Blk.new w3 49 #[.int .i64 N, .slice A2 n2 c2, .int .i64 S])) hDZ3)))))))
  have HW := Lib.hid (show w.heap.size + 1 + 1 < w3.heap.size ∧ w2.heap.size < w3.heap.size by omega)
  clear h3 hg3 hrow hfar hl h48 hcap hmax hDZ3 hbl3 hra3 hrb3 K3 hz3 HS hvv
  go_wp2_with fail
  refine wp_region_held_drew (S := (fun w' => w'.cell? ⟨w3.heap.size, 0, none⟩ = some (.int .i64 N) ∧ w'.cell? ⟨w3.heap.size, 1, none⟩ = some (.slice A2 n2 c2) ∧ w'.cell? ⟨w3.heap.size, 2, none⟩ = some (.int .i64 S))) (by kernel_rfl) ?_ (fun hHeld => ?_)
  · exact HT.out.2.2.2.2.2.2.1.cells3.1
  refine heldY 0 19 ?_
  refine heldY 1 20 ?_
  refine heldY 2 21 ?_
  refine heldY 4 23 ?_
  refine wpAnyH_ready (rs := [3]) (by kernel_rfl) (by simp) ?_
  refine AllReadyH.cons rfl (fun K hK => ?_) AllReadyH.nil
  go_simp
  go_at_call 71
  refine (saves_any _ _ _ _ 3 HT.out.1 (by omega) (by omega) (by omega)).mono ?_
  rintro e w4 ⟨N', A3, n3, c3, X', S', rfl, hl, h48, hcap, hmax, hrow, hfar, h4, hg4⟩
  have hz4 := hg4.size
  have hzz := HW.out
  have HM := Lib.hid (And.intro hl (And.intro h48 (And.intro hcap hmax)))
  have hq := irow_grownLo HT.out.2.1 HT.out.2.2.1 hg4 (by omega)
  have ha4 := HT.out.2.2.2.1.grown hg4 (by intro e; injection e with e; omega)
  have hb4 := HT.out.2.2.2.2.1.grown hg4 (by intro e; injection e with e; omega)
  have hv4 := HT.out.2.2.2.2.2.2.1.grown hg4 (by intro e; injection e with e; omega)
  have hdz4 := HT.out.2.2.2.2.2.2.2.grown hg4 (fun k e => by injection e with e; omega)
  have hbl := HT.out.2.2.2.2.2.1.trans (Below.of_grown hg4 (by omega) (by simp only [World.drew, size_alloc1]; omega))
  (try simp only [World.drew, size_alloc1] at hfar hz4)
  have hfar4 : ∀ ad, A3 = some ad → w.heap.size + 1 + 1 + 1 ≤ ad.block := fun ad e => by have := hfar ad e; omega
  have HU := Lib.hid (And.intro h4 (And.intro hq.here (And.intro (show IRow w4 w4.heap.size A3 X' from hrow) (And.intro hfar4 (And.intro ha4 (And.intro hb4 (And.intro hv4 (And.intro hdz4 hbl))))))))
  have HF2 := Lib.hid HT.out.2.2.1
  have HZ4 := Lib.hid (show w3.heap.size < w4.heap.size by omega)
  clear hl h48 hcap hmax hrow hfar h4 hg4 hz4 hq ha4 hb4 hv4 hdz4 hbl hzz hfar4 HT
  refine hK.out _ _ ?_ (fun hHeld => ?_)
  · exact HU.out.2.2.2.2.2.2.1.cells3.1
  clear hK K
  try simp only [Act.put, List.setIfInBounds_toArray, List.set_cons_zero, List.set_cons_succ]
  refine wpAnyH_ready (rs := [5]) (by kernel_rfl) (by simp) ?_
  refine AllReadyH.cons rfl (fun K hK => ?_) AllReadyH.nil
  go_simp
  go_at_call 51
  refine (pick_lt _ _ _ _ _ HU.out.1 (by omega) (by omega)).mono ?_
  rintro e w5 ⟨x5, rfl, u5, v5, h5, hg5⟩
  have hz5 := hg5.size
  have hzz := HW.out
  have hz4 := HZ4.out
  have hq := irow_grownLo HU.out.2.1 HF2.out hg5 (by omega)
  have hq' := irow_grownLo HU.out.2.2.1 HU.out.2.2.2.1 hg5 (by omega)
  have ha5 := HU.out.2.2.2.2.1.grown hg5 (by intro e; injection e with e; omega)
  have hb5 := HU.out.2.2.2.2.2.1.grown hg5 (by intro e; injection e with e; omega)
  have hv5 := HU.out.2.2.2.2.2.2.1.grown hg5 (by intro e; injection e with e; omega)
  have hdz5 := HU.out.2.2.2.2.2.2.2.1.grown hg5 (fun k e => by injection e with e; omega)
  have hbl := HU.out.2.2.2.2.2.2.2.2.trans (Below.of_grown hg5 (by omega) (by omega))
  have hsz : w2.heap.size ≤ (putS (putS w5 w.heap.size (.int .i64 N) (.slice A2 n2 c2) (.int .i64 S)) (w.heap.size + 1) (.int .i64 N') (.slice A3 n3 c3) (.int .i64 S')).heap.size := by
    have e : (putS (putS w5 w.heap.size (.int .i64 N) (.slice A2 n2 c2) (.int .i64 S)) (w.heap.size + 1) (.int .i64 N') (.slice A3 n3 c3) (.int .i64 S')).heap.size = w5.heap.size := by simp [putS, World.setCell]
    omega
  have HE := Lib.hid (And.intro (irow_putS (irow_putS hq.here HF2.out (V := w.heap.size) (by omega) (.int .i64 N) (.slice A2 n2 c2) (.int .i64 S)) HF2.out (V := w.heap.size + 1) (by omega) (.int .i64 N') (.slice A3 n3 c3) (.int .i64 S')) (And.intro (irow_putS (irow_putS hq'.here HU.out.2.2.2.1 (V := w.heap.size) (by omega) (.int .i64 N) (.slice A2 n2 c2) (.int .i64 S)) HU.out.2.2.2.1 (V := w.heap.size + 1) (by omega) (.int .i64 N') (.slice A3 n3 c3) (.int .i64 S')) (And.intro (below_putS (below_putS hbl (Nat.le_refl _) (.int .i64 N) (.slice A2 n2 c2) (.int .i64 S)) (V := w.heap.size + 1) (by omega) (.int .i64 N') (.slice A3 n3 c3) (.int .i64 S')) (And.intro (dz_putS (dz_putS hdz5 (V := w.heap.size) (by omega) (.int .i64 N) (.slice A2 n2 c2) (.int .i64 S)) (V := w.heap.size + 1) (by omega) (.int .i64 N') (.slice A3 n3 c3) (.int .i64 S')) hsz))))
  obtain ⟨⟨a0, a1, a2⟩, d0, d1, d2⟩ := ha5.cells3
  obtain ⟨⟨b0, b1, b2⟩, f0, f1, f2⟩ := hb5.cells3
  obtain ⟨⟨v0, v1, v2⟩, _, _, _⟩ := hv5.cells3
  have m1 : w3.heap.size ≠ w.heap.size := by omega
  have m2 : w.heap.size ≠ w3.heap.size := by omega
  have m3 : w3.heap.size ≠ w.heap.size + 1 := by omega
  have m4 : w.heap.size + 1 ≠ w3.heap.size := by omega
  clear h5 hg5 hz5 hz4 hzz hq hq' ha5 hb5 hv5 hdz5 hbl hsz HU
  refine hK.out _ _ ?_ (fun hHeld => ?_)
  · exact ⟨v0, v1, v2⟩
  clear hK K
  try simp only [Act.put, List.setIfInBounds_toArray, List.set_cons_zero, List.set_cons_succ]
  refine heldY 6 25 ?_
  refine heldY 7 2 ?_
  refine wpAnyH_ready (rs := [8]) (by kernel_rfl) (by simp) ?_
  refine AllReadyH.cons rfl (fun K hK => ?_) AllReadyH.nil
  go_simp
  refine hK.out _ _ ?_ (fun hHeld => ?_)
  · first | with_reducible assumption | go_keep
  clear hK K
  try simp only [Act.put, List.setIfInBounds_toArray, List.set_cons_zero, List.set_cons_succ]
  refine wpAnyH_ready (rs := [9]) (by kernel_rfl) (by simp) ?_
  refine AllReadyH.cons rfl (fun K hK => ?_) AllReadyH.nil
  go_simp
  refine hK.out _ _ ?_ (fun hHeld => ?_)
  · first | with_reducible assumption | go_keep
  clear hK K
  try simp only [Act.put, List.setIfInBounds_toArray, List.set_cons_zero, List.set_cons_succ]
  refine heldY 10 5 ?_
  refine wpAnyH_done (by kernel_rfl) ?_ _
  go_wp2
  exact bodyPost_ret (v := .tuple #[.slice D nd cd, .agg #[.int .i64 N, .slice A2 n2 c2, .int .i64 S], .agg #[.int .i64 N', .slice A3 n3 c3, .int .i64 S'], .int .i64 (IntKind.i64.wrap (x5 - 1))]) (by simp [results, Try.results29, go_sem, *]) rfl ⟨_, _, _, _, _, _, _, _, _, _, _, _, _, _, _, _, _, rfl, HD.out, HN.out, HM.out, dz_here HE.out.2.2.2.1 HE.out.2.2.2.2, HE.out.1, HE.out.2.1, HE.out.2.2.1⟩
end Go.Proofs.Yteniikfgellhfaa
