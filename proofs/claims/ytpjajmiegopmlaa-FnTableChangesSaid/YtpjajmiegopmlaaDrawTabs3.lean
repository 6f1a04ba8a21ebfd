/- What the model draws for chapter 7: DrawTableChanges. -/
import Derived.Test.YtpjajmiegopmlaaDrawTabs2
namespace Go.Proofs.Ytpjajmiegopmlaa
open Go.ChangeShapes Go.WideShapes Go.ChangeAt Go.RowKit
set_option linter.unusedVariables false
set_option linter.unusedSimpArgs false

/-- Two tables are drawn. -/
def TabsDrawn (w : World) (e : Ending) (w' : World) : Prop :=
  ∃ (A : Option Addr) (n c : Nat) (ls : List Li) (A' : Option Addr) (n' c' : Nat) (ms : List Li), e = .returned (.tuple #[.agg #[.slice A n c], .agg #[.slice A' n' c']]) ∧ ls.length = n ∧ n ≤ 8 ∧ (∀ l, l ∈ ls → l.xs.length ≤ 6) ∧ ms.length = n' ∧ n' ≤ 8 ∧ (∀ l, l ∈ ms → l.xs.length ≤ 6) ∧ LT w A ls w' ∧ LT w A' ms w'
theorem chgV_comm (a b : List (List Int)) : chgV b a = chgV a b := by
  unfold chgV
  rw [chgTo_comm b a, Bool.and_comm]
theorem LT.putLo {w wr : World} {A : Option Addr} {ls : List Li} {lo : Nat} (h : LT w A ls wr) (f : TFar lo A ls) {p : Addr} (hp : p.block < lo) (hw : w.heap.size ≤ p.block) (u : Value) : LT w A ls (wr.setCell p u) := by
  have hs : (wr.setCell p u).heap.size = wr.heap.size := by simp [World.setCell]
  refine ⟨?_, h.2.setCell hw u⟩
  rw [hs]
  exact h.1.putLo f hp u
set_option maxHeartbeats 4000000 in
theorem drawTableChanges_any (w : World) (A : Option Addr) (n c : Nat) (hn : n ≤ c) (hc : c ≤ 9223372036854775807) (h : Bytes w w.heap.size A n) :
    Calls Try.prog 39 #[.slice A n c] w (TabsDrawn w) := by
  have h0 := (h.alloc (.cells #[.slice none 0 0] 51)).alloc (.cells #[.slice none 0 0] 51)
  go_enter Try.func39, Try.ntmps39
  go_wp2_with fail
  refine (open_any _ A n c hn hc h0).mono ?_
  rintro e w1 ⟨rfl, h1, hb1⟩
  (try simp only [size_of_alloc] at h1 hb1)
  have hr1 := ((Blk.new w 51 #[.slice none 0 0]).alloc (.cells #[.slice none 0 0] 51)).below hb1 (by omega)
  have hs1 := (Blk.new (w.alloc (.cells #[.slice none 0 0] 51)) 51 #[.slice none 0 0]).below hb1 (by simp)
  (try simp only [size_of_alloc] at hs1)
  have hg1 := h1.lt
  have hz1 := hb1.size
  (try simp only [size_of_alloc] at hz1)
  go_wp2_with fail
  refine (tables_any _ _ _ _ 12 h1 (by omega) (by omega) (by omega)).mono ?_
  rintro e w2 ⟨A2, n2, c2, ls, rfl, hl, h8, h6, hrow, hfar, h2, hg2⟩
  have hz2 := hg2.size
  have hbl := ((((Below.refl w.heap.size w).alloc (Nat.le_refl _) (.cells #[.slice none 0 0] 51)).alloc (by simp) (.cells #[.slice none 0 0] 51)).trans (hb1.mono (by omega))).trans (Below.of_grown hg2 (by omega) (by omega))
  have hr2 := (hr1.grown hg2 (by intro e; injection e with e; omega)).alloc (.cells #[.slice A2 n2 c2] 51)
  have hs2 := (hs1.grown hg2 (by intro e; injection e with e; omega)).alloc (.cells #[.slice A2 n2 c2] 51)
  have hfr : TFar (w.heap.size + 1 + 1 + 1) A2 ls := hfar.more (by omega)
  have HN := Lib.hid (And.intro hl (And.intro h8 h6))
  have HS : RowKit.Hid (GSt w A2 n2 c2 ls w2.heap.size (w.heap.size + 1 + 1) _ _ (w2.alloc (.cells #[.slice A2 n2 c2] 51))) := Lib.hid ⟨⟨(hrow.alloc _).here, h2.alloc _, hbl.alloc (by omega) _, hr2, Blk.new w2 _ _⟩, by omega, by omega, hfr⟩
  have HB := Lib.hid hs2
  clear h h0 h1 h2 hb1 hr1 hs1 hg2 hrow hfar hl h8 h6 hbl hr2 hs2 hfr
  go_wp2_with fail
  refine wp_region_held_drew (S := (fun w' => w'.cell? ⟨w2.heap.size, 0, none⟩ = some (.slice A2 n2 c2))) (by kernel_rfl) ?_ (fun hHeld => ?_)
  · exact HS.out.cell
  replace HS := Lib.hid (HS.out.kept (grown_drew (grown_refl _ none)))
  replace HB := Lib.hid HB.out.drew
  refine held_yes (i := 0) (d := some 10) (v := ?_) rfl rfl (by kernel_rfl) (by kernel_rfl) (by kernel_rfl) (fun _ _ _ h => h) (by rfl) ?_ (by assumption) ?_
  rotate_left
  · (intro w hSw; (try dsimp only at hSw); go_simp; (first | done | with_reducible rfl))
  try simp only [Act.put, List.setIfInBounds_toArray, List.set_cons_zero, List.set_cons_succ]
  refine held_yes (i := 1) (d := some 11) (v := ?_) rfl rfl (by kernel_rfl) (by kernel_rfl) (by kernel_rfl) (fun _ _ _ h => h) (by rfl) ?_ (by assumption) ?_
  rotate_left
  · (intro w hSw; (try dsimp only at hSw); go_simp; (first | done | with_reducible rfl))
  try simp only [Act.put, List.setIfInBounds_toArray, List.set_cons_zero, List.set_cons_succ]
  refine wpAnyH_ready (rs := [2]) (by kernel_rfl) (by simp) ?_
  refine AllReadyH.cons rfl (fun K hK => ?_) AllReadyH.nil
  go_simp
  go_at_call 86
  refine (tables_any _ _ _ _ 12 HS.out.1.2.1 (by omega) (by omega) (by omega)).mono ?_
  rintro e w3 ⟨A3, n3, c3, ms, rfl, hl, h8, h6, hrow, hfar, h3, hg3⟩
  have hz3 : w2.heap.size ≤ w3.heap.size := by have h1 := HS.out.1.2.2.2.2.lt; have h2 := hg3.size; (try simp only [World.drew] at h1 h2); omega
  have hf3 : TFar (w.heap.size + 1 + 1) A3 ms := hfar.more (by (try simp only [World.drew]); simp; omega)
  have HM := Lib.hid (And.intro hl (And.intro h8 (And.intro h6 (And.intro hrow hf3))))
  replace HB := Lib.hid (HB.out.grown hg3 (by intro e; injection e with e; omega))
  replace HS := Lib.hid (HS.out.grown hg3 h3)
  clear h3 hg3 hl h8 h6 hrow hfar hf3
  refine hK.out _ _ ?_ (fun hHeld => ?_)
  · exact HS.out.cell
  clear hK K
  try simp only [Act.put, List.setIfInBounds_toArray, List.set_cons_zero, List.set_cons_succ]
  have r0 : w3.cell? ⟨w.heap.size, 0, none⟩ = some (.slice none 0 0) := HS.out.1.2.2.2.1.cell 0
  have r1 : w3.frozen? ⟨w.heap.size, 0, none⟩ = false := HS.out.1.2.2.2.1.frozen 0
  have s0 : w3.cell? ⟨w.heap.size + 1, 0, none⟩ = some (.slice none 0 0) := HB.out.cell 0
  have s1 : w3.frozen? ⟨w.heap.size + 1, 0, none⟩ = false := HB.out.frozen 0
  have nv : w2.heap.size ≠ w.heap.size := by omega
  have nv2 : w.heap.size ≠ w2.heap.size := by omega
  have nw : w2.heap.size ≠ w.heap.size + 1 := by omega
  have nw2 : w.heap.size + 1 ≠ w2.heap.size := by omega
  have z5 := HS.out.cell
  refine wpAnyH_ready (rs := [3]) (by kernel_rfl) (by simp) ?_
  refine AllReadyH.cons rfl (fun K hK => ?_) AllReadyH.nil
  go_simp
  refine hK.out _ _ ?_ (fun hHeld => ?_)
  · first | with_reducible assumption | go_keep
  clear hK K
  try simp only [Act.put, List.setIfInBounds_toArray, List.set_cons_zero, List.set_cons_succ]
  refine wpAnyH_ready (rs := [4]) (by kernel_rfl) (by simp) ?_
  refine AllReadyH.cons rfl (fun K hK => ?_) AllReadyH.nil
  go_simp
  refine hK.out _ _ ?_ (fun hHeld => ?_)
  · first | with_reducible assumption | go_keep
  clear hK K
  try simp only [Act.put, List.setIfInBounds_toArray, List.set_cons_zero, List.set_cons_succ]
  refine wpAnyH_done (by kernel_rfl) ?_ _
  go_wp2
  have HA : RowKit.Hid (LT w A2 ls w3) := Lib.hid ⟨HS.out.1.1, HS.out.1.2.2.1⟩
  have HC : RowKit.Hid (LT w A3 ms w3) := Lib.hid ⟨HM.out.2.2.2.1, HS.out.1.2.2.1⟩
  exact bodyPost_ret (v := .tuple #[.agg #[.slice A2 n2 c2], .agg #[.slice A3 n3 c3]]) (by simp [results, Try.results39, go_sem, *]) rfl ⟨_, _, _, _, _, _, _, _, rfl, HN.out.1, HN.out.2.1, HN.out.2.2, HM.out.1, HM.out.2.1, HM.out.2.2.1, (HA.out.putLo (p := ⟨w.heap.size, 0, none⟩) HS.out.2.2.2 (by dsimp only; omega) (Nat.le_refl _) _).putLo (p := ⟨w.heap.size + 1, 0, none⟩) HS.out.2.2.2 (by dsimp only; omega) (by dsimp only; omega) _, (HC.out.putLo (p := ⟨w.heap.size, 0, none⟩) HM.out.2.2.2.2 (by dsimp only; omega) (Nat.le_refl _) _).putLo (p := ⟨w.heap.size + 1, 0, none⟩) HM.out.2.2.2.2 (by dsimp only; omega) (by dsimp only; omega) _⟩
end Go.Proofs.Ytpjajmiegopmlaa
