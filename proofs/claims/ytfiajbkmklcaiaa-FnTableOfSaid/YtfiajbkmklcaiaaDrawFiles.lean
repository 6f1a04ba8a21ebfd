/- What the model draws for chapter 8: DrawTableOf, DrawTableValid, DrawFileSize, DrawFileHoles, DrawCutFile. -/
import Derived.Test.YtfiajbkmklcaiaaDrawTabs2
import Derived.Test.YtfiajbkmklcaiaaDrawDev4
namespace Go.Proofs.Ytfiajbkmklcaiaa
open Go.ChangeShapes Go.WideShapes Go.ChangeAt Go.RowKit
set_option linter.unusedVariables false
set_option linter.unusedSimpArgs false

theorem drawTableOf_any (w : World) (A : Option Addr) (n c : Nat) (hn : n ≤ c) (hc : c ≤ 9223372036854775807) (h : Bytes w w.heap.size A n) :
    Calls Try.prog 18 #[.slice A n c] w (DevDrawn w) := by
  go_enter Try.func18, Try.ntmps18
  go_wp2_with fail
  refine (open_any _ A n c hn hc h).mono ?_
  rintro e w1 ⟨rfl, h1, hb1⟩
  go_wp2_with fail
  refine (device_any _ _ _ _ _ h1 (by omega) (by omega) (by omega)).mono ?_
  rintro e w2 ⟨A2, n2, c2, bs, a, b, h9, rfl, hl, h13, hnc, hcm, hs, _, hrow, h2, hg2, _, _⟩
  have HF := Lib.hid (hb1.trans (Below.of_grown hg2 (by omega) hb1.size))
  have HX := Lib.hid (And.intro hl (And.intro h13 (And.intro hs hrow)))
  clear h h1 h2 hb1 hg2 hrow hl hs
  go_wp2
  go_ret
  exact ⟨_, _, _, _, rfl, HX.out.1, HX.out.2.1, HX.out.2.2.1, (HX.out.2.2.2.alloc _).here, HF.out.alloc (by have := HF.out.size; exact this) _⟩
/-- A table is drawn. -/
def TabOnly (w : World) (e : Ending) (w' : World) : Prop :=
  ∃ (A : Option Addr) (n c : Nat) (ls : List Li), e = .returned (.agg #[.slice A n c]) ∧ ls.length = n ∧ n ≤ 8 ∧ (∀ l, l ∈ ls → l.xs.length ≤ 6) ∧ LT w A ls w'
set_option maxHeartbeats 1000000 in
theorem drawTableValid_any (w : World) (A : Option Addr) (n c : Nat) (hn : n ≤ c) (hc : c ≤ 9223372036854775807) (h : Bytes w w.heap.size A n) :
    Calls Try.prog 13 #[.slice A n c] w (TabOnly w) := by
  have h0 := h.alloc (.cells #[.slice none 0 0] 25)
  go_enter Try.func13, Try.ntmps13
  go_wp2_with fail
  refine (open_any _ A n c hn hc h0).mono ?_
  rintro e w1 ⟨rfl, h1, hb1⟩
  (try simp only [size_of_alloc] at h1 hb1)
  have hr1 := (Blk.new w 25 #[.slice none 0 0]).below hb1 (by omega)
  have hg1 := h1.lt
  have hz1 := hb1.size
  (try simp only [size_of_alloc] at hz1)
  go_wp2_with fail
  refine (tables_any _ _ _ _ 2 h1 (by omega) (by omega) (by omega)).mono ?_
  rintro e w2 ⟨A2, n2, c2, ls, rfl, hl, h8, h6, hrow, hfar, h2, hg2⟩
  have hbl := (((Below.refl w.heap.size w).alloc (Nat.le_refl _) (.cells #[.slice none 0 0] 25)).trans (hb1.mono (by omega))).trans (Below.of_grown hg2 (by omega) (by omega))
  have hr2 := hr1.grown hg2 (by intro e; injection e with e; omega)
  have r0 := hr2.cell 0
  have r1 := hr2.frozen 0
  have HX := Lib.hid (And.intro hl (And.intro h8 (And.intro h6 (And.intro (hfar.more (show w.heap.size + 1 ≤ w1.heap.size by omega)) (show LT w A2 ls w2 from ⟨hrow, hbl⟩)))))
  clear h h0 h1 h2 hb1 hr1 hr2 hg2 hrow hfar hl h8 h6 hbl
  go_wp2
  exact bodyPost_ret (v := .agg #[.slice A2 n2 c2]) (by simp [results, Try.results13, go_sem, *]) rfl ⟨_, _, _, _, rfl, HX.out.1, HX.out.2.1, HX.out.2.2.1, HX.out.2.2.2.2.putLo (p := ⟨w.heap.size, 0, none⟩) HX.out.2.2.2.1 (by dsimp only; omega) (Nat.le_refl _) _⟩
/-- A table and a file are drawn. -/
def FileDrawn (w : World) (e : Ending) (w' : World) : Prop :=
  ∃ (A : Option Addr) (n c : Nat) (ls : List Li) (f : Int), e = .returned (.tuple #[.agg #[.slice A n c], .int .i64 f]) ∧ ls.length = n ∧ n ≤ 8 ∧ (∀ l, l ∈ ls → l.xs.length ≤ 6) ∧ TFar w.heap.size A ls ∧ LT w A ls w'
theorem drawFileSize_any (w : World) (A : Option Addr) (n c : Nat) (hn : n ≤ c) (hc : c ≤ 9223372036854775807) (h : Bytes w w.heap.size A n) :
    Calls Try.prog 27 #[.slice A n c] w (FileDrawn w) := by
  have h0 := h.alloc (.cells #[.slice none 0 0] 25)
  go_enter Try.func27, Try.ntmps27
  go_wp2_with fail
  refine (drawTableGet_any _ A n c hn hc h0).mono ?_
  rintro e w1 ⟨A2, n2, c2, ls, f, k, rfl, hl, h8, h6, hfar, hlt⟩
  (try simp only [size_of_alloc] at hfar)
  have hbl : Below w.heap.size w w1 := ((Below.refl w.heap.size w).alloc (Nat.le_refl _) (.cells #[.slice none 0 0] 25)).trans (hlt.2.mono (by simp))
  have hr1 := (Blk.new w 25 #[.slice none 0 0]).below hlt.2 (by simp)
  have hz1 := hr1.lt
  have hv := Blk.new w1 25 #[.slice A2 n2 c2]
  have v0 := hv.cell 0
  have r0 : w1.cell? ⟨w.heap.size, 0, none⟩ = some (.slice none 0 0) := hr1.cell 0
  have r1 := hr1.frozen 0
  have n1 : w1.heap.size ≠ w.heap.size := by omega
  have n2' : w.heap.size ≠ w1.heap.size := by omega
  clear hv
  have HX := Lib.hid (And.intro hl (And.intro h8 (And.intro h6 (And.intro hfar (show LT w A2 ls _ from ⟨hlt.1, hbl⟩)))))
  clear h h0 hr1 hfar hl h8 h6 hbl hlt
  go_wp2
  exact bodyPost_ret (v := .tuple #[.agg #[.slice A2 n2 c2], .int .i64 f]) (by simp [results, Try.results27, go_sem, *]) rfl ⟨_, _, _, _, _, rfl, HX.out.1, HX.out.2.1, HX.out.2.2.1, HX.out.2.2.2.1.more (by omega), (HX.out.2.2.2.2.putLo (p := ⟨w.heap.size, 0, none⟩) HX.out.2.2.2.1 (by dsimp only; omega) (Nat.le_refl _) _).alloc _⟩
theorem drawFileHoles_any (w : World) (A : Option Addr) (n c : Nat) (hn : n ≤ c) (hc : c ≤ 9223372036854775807) (h : Bytes w w.heap.size A n) :
    Calls Try.prog 30 #[.slice A n c] w (FileDrawn w) := by
  have h0 := h.alloc (.cells #[.slice none 0 0] 25)
  go_enter Try.func30, Try.ntmps30
  go_wp2_with fail
  refine (drawFileSize_any _ A n c hn hc h0).mono ?_
  rintro e w1 ⟨A2, n2, c2, ls, f, rfl, hl, h8, h6, hfar, hlt⟩
  (try simp only [size_of_alloc] at hfar)
  have hbl : Below w.heap.size w w1 := ((Below.refl w.heap.size w).alloc (Nat.le_refl _) (.cells #[.slice none 0 0] 25)).trans (hlt.2.mono (by simp))
  have hr1 := (Blk.new w 25 #[.slice none 0 0]).below hlt.2 (by simp)
  have hz1 := hr1.lt
  have r0 : w1.cell? ⟨w.heap.size, 0, none⟩ = some (.slice none 0 0) := hr1.cell 0
  have r1 := hr1.frozen 0
  have HX := Lib.hid (And.intro hl (And.intro h8 (And.intro h6 (And.intro hfar (show LT w A2 ls _ from ⟨hlt.1, hbl⟩)))))
  clear h h0 hr1 hfar hl h8 h6 hbl hlt
  go_wp2
  exact bodyPost_ret (v := .tuple #[.agg #[.slice A2 n2 c2], .int .i64 f]) (by simp [results, Try.results30, go_sem, *]) rfl ⟨_, _, _, _, _, rfl, HX.out.1, HX.out.2.1, HX.out.2.2.1, HX.out.2.2.2.1.more (by omega), (HX.out.2.2.2.2.putLo (p := ⟨w.heap.size, 0, none⟩) HX.out.2.2.2.1 (by dsimp only; omega) (Nat.le_refl _) _)⟩
theorem drawCutFile_any (w : World) (A : Option Addr) (n c : Nat) (hn : n ≤ c) (hc : c ≤ 9223372036854775807) (h : Bytes w w.heap.size A n) :
    Calls Try.prog 35 #[.slice A n c] w (TabDrawn w) := by
  have h0 := h.alloc (.cells #[.slice none 0 0] 25)
  go_enter Try.func35, Try.ntmps35
  go_wp2_with fail
  refine (drawTableGet_any _ A n c hn hc h0).mono ?_
  rintro e w1 ⟨A2, n2, c2, ls, f, k, rfl, hl, h8, h6, hfar, hlt⟩
  (try simp only [size_of_alloc] at hfar)
  have hbl : Below w.heap.size w w1 := ((Below.refl w.heap.size w).alloc (Nat.le_refl _) (.cells #[.slice none 0 0] 25)).trans (hlt.2.mono (by simp))
  have hr1 := (Blk.new w 25 #[.slice none 0 0]).below hlt.2 (by simp)
  have hz1 := hr1.lt
  have hv := Blk.new w1 25 #[.slice A2 n2 c2]
  have v0 := hv.cell 0
  have r0 : w1.cell? ⟨w.heap.size, 0, none⟩ = some (.slice none 0 0) := hr1.cell 0
  have r1 := hr1.frozen 0
  have n1 : w1.heap.size ≠ w.heap.size := by omega
  have n2' : w.heap.size ≠ w1.heap.size := by omega
  clear hv
  have HX := Lib.hid (And.intro hl (And.intro h8 (And.intro h6 (And.intro hfar (show LT w A2 ls _ from ⟨hlt.1, hbl⟩)))))
  clear h h0 hr1 hfar hl h8 h6 hbl hlt
  go_wp2
  exact bodyPost_ret (v := .tuple #[.agg #[.slice A2 n2 c2], .int .i64 f, .int .i64 (wrap64 (k + (n : Int) % 2))]) (by simp [results, Try.results35, go_sem, *]) rfl ⟨_, _, _, _, _, _, rfl, HX.out.1, HX.out.2.1, HX.out.2.2.1, HX.out.2.2.2.1.more (by omega), (HX.out.2.2.2.2.putLo (p := ⟨w.heap.size, 0, none⟩) HX.out.2.2.2.1 (by dsimp only; omega) (Nat.le_refl _) _).alloc _⟩
end Go.Proofs.Ytfiajbkmklcaiaa
