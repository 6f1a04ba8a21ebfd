/- What the model draws for chapter 12: a table; a device and a table. -/
import Derived.Test.YtnjgegadhfofbaaDrawBoth
import Derived.Test.YtnjgegadhfofbaaFileFacts
namespace Go.Proofs.Ytnjgegadhfofbaa
open Go.ChangeShapes Go.WideShapes Go.ChangeAt Go.RowKit
set_option linter.unusedVariables false
set_option linter.unusedSimpArgs false

set_option maxHeartbeats 1000000 in
theorem drawUsed_any (w : World) (A : Option Addr) (n c : Nat) (hn : n ≤ c) (hc : c ≤ 9223372036854775807) (h : Bytes w w.heap.size A n) :
    Calls Try.prog 9 #[.slice A n c] w (TabOnly w) := by
  have h0 := h.alloc (.cells #[.slice none 0 0] 25)
  go_enter Try.func9, Try.ntmps9
  go_wp2_with fail
  refine (open_any _ A n c hn hc h0).mono ?_
  rintro e w1 ⟨rfl, h1, hb1⟩
  (try simp only [size_of_alloc] at h1 hb1)
  have hr1 := (Blk.new w 25 #[.slice none 0 0]).below hb1 (by omega)
  have hg1 := h1.lt
  have hz1 := hb1.size
  (try simp only [size_of_alloc] at hz1)
  go_wp2_with fail
  refine (tables_any _ _ _ _ 6 h1 (by omega) (by omega) (by omega)).mono ?_
  rintro e w2 ⟨A2, n2, c2, ls, rfl, hl, h8, h6, hrow, hfar, h2, hg2⟩
  have hbl := (((Below.refl w.heap.size w).alloc (Nat.le_refl _) (.cells #[.slice none 0 0] 25)).trans (hb1.mono (by omega))).trans (Below.of_grown hg2 (by omega) (by omega))
  have hr2 := hr1.grown hg2 (by intro e; injection e with e; omega)
  have r0 := hr2.cell 0
  have r1 := hr2.frozen 0
  have HX := Lib.hid (And.intro hl (And.intro h8 (And.intro h6 (And.intro (hfar.more (show w.heap.size + 1 ≤ w1.heap.size by omega)) (show LT w A2 ls w2 from ⟨hrow, hbl⟩)))))
  clear h h0 h1 h2 hb1 hr1 hr2 hg2 hrow hfar hl h8 h6 hbl
  go_wp2
  exact bodyPost_ret (v := .agg #[.slice A2 n2 c2]) (by simp [results, Try.results9, go_sem, *]) rfl ⟨_, _, _, _, rfl, HX.out.1, HX.out.2.1, HX.out.2.2.1, HX.out.2.2.2.2.putLo (p := ⟨w.heap.size, 0, none⟩) HX.out.2.2.2.1 (by dsimp only; omega) (Nat.le_refl _) _⟩
/-- A device and a table, in memory of their own. -/
def Pair12 (w : World) (D : Option Addr) (nd : Nat) (bs : List Bk) (A : Option Addr) (n : Nat) (ls : List Li) (w' : World) : Prop :=
  (bs.length = nd ∧ nd ≤ 13 ∧ ∀ q, q ∈ bs → q.ps.length ≤ 4) ∧ (ls.length = n ∧ n ≤ 8 ∧ ∀ l, l ∈ ls → l.xs.length ≤ 6) ∧ DZ w.heap.size w'.heap.size D bs w' ∧ TRow w' w'.heap.size A ls ∧ TFar w.heap.size A ls ∧ Below w.heap.size w w'
def PairDrawn (w : World) (e : Ending) (w' : World) : Prop :=
  ∃ (D : Option Addr) (nd cd : Nat) (bs : List Bk) (A : Option Addr) (n c : Nat) (ls : List Li), e = .returned (.tuple #[.slice D nd cd, .agg #[.slice A n c]]) ∧ Pair12 w D nd bs A n ls w'
/-- The result's cell, made ahead of all, is written. -/
theorem Pair12.put {w w' : World} {D A : Option Addr} {nd n : Nat} {bs : List Bk} {ls : List Li} {o : Obj} (h : Pair12 (w.alloc o) D nd bs A n ls w') (u : Value) : Pair12 w D nd bs A n ls (w'.setCell ⟨w.heap.size, 0, none⟩ u) := by
  obtain ⟨h1, h2, h3, h4, h5, h6⟩ := h
  simp only [size_alloc1] at h3 h5 h6
  have hs : (w'.setCell ⟨w.heap.size, 0, none⟩ u).heap.size = w'.heap.size := by simp [World.setCell]
  have h7 := h3.put (p := ⟨w.heap.size, 0, none⟩) (.inl (by dsimp only; omega)) u
  refine ⟨h1, h2, ?_, ?_, h5.more (by omega), ?_⟩
  · rw [hs]
    exact ⟨h7.1, fun ad e => by have := h7.2.1 ad e; omega, fun q ad hq e => by have := h7.2.2 q ad hq e; omega⟩
  · rw [hs]
    exact h4.putLo h5 (p := ⟨w.heap.size, 0, none⟩) (by dsimp only; omega) u
  · exact (((Below.refl w.heap.size w).alloc (Nat.le_refl _) o).trans (h6.mono (by omega))).setCell (p := ⟨w.heap.size, 0, none⟩) (Nat.le_refl _) u
theorem Pair12.drew {w w' : World} {D A : Option Addr} {nd n : Nat} {bs : List Bk} {ls : List Li} (h : Pair12 w D nd bs A n ls w') : Pair12 w D nd bs A n ls w'.drew :=
  ⟨h.1, h.2.1, h.2.2.1.grown (grown_drew (grown_refl _ none)) (fun g e => by cases e), h.2.2.2.1.drew, h.2.2.2.2.1, Below.and_kept h.2.2.2.2.2 (grown_drew (grown_refl _ none))⟩
theorem Pair12.rows {w w' : World} {D A : Option Addr} {nd n : Nat} {bs : List Bk} {ls : List Li} (h : Pair12 w D nd bs A n ls w') : LD w D bs w' ∧ LT w A ls w' := ⟨⟨h.2.2.1.1, h.2.2.2.2.2⟩, ⟨h.2.2.2.1, h.2.2.2.2.2⟩⟩
set_option maxRecDepth 8000 in
set_option maxHeartbeats 4000000 in
theorem pair12_any (w : World) (A : Option Addr) (n c : Nat) (hn : n ≤ c) (hc : c ≤ 9223372036854775807) (h : Bytes w w.heap.size A n) :
    Calls Try.prog 42 #[.slice A n c] w (PairDrawn w) := by
  have h0 := h.alloc (.cells #[.slice none 0 0] 25)
  go_enter Try.func42, Try.ntmps42
  go_wp2_with fail
  refine (open_any _ A n c hn hc h0).mono ?_
  rintro e w1 ⟨rfl, h1, hb1⟩
  (try simp only [size_of_alloc] at h1 hb1)
  have hr1 := (Blk.new w 25 #[.slice none 0 0]).below hb1 (by omega)
  have hg1 := h1.lt
  have hz1 := hb1.size
  (try simp only [size_of_alloc] at hz1)
  go_wp2_with fail
  refine (both_any _ _ _ _ 9 h1 (by omega) (by omega) (by omega)).mono ?_
  rintro e w2 ⟨D, nd, cd, bs, A2, n2, c2, ls, a, b, h9, rfl, hbs, hDZ, hls, hrow, hfar, h2, hg2⟩
  have hz2 := hg2.size
  have hbl := (((Below.refl w.heap.size w).alloc (Nat.le_refl _) (.cells #[.slice none 0 0] 25)).trans (hb1.mono (by omega))).trans (Below.of_grown hg2 (by omega) (by omega))
  have hr2 := hr1.grown hg2 (by intro e; injection e with e; omega)
  have K1 := grown_alloc (grown_refl w2 none) (.cells #[.slice A2 n2 c2] 25)
  have K2 := grown_alloc K1 (.cells #[.int .i64 a, .int .i64 b, .int .i64 h9] 90)
  have hv := (Blk.new w2 25 #[.slice A2 n2 c2]).alloc (.cells #[.int .i64 a, .int .i64 b, .int .i64 h9] 90)
  have hr3 := hr2.keep K2
  have v0 := hv.cell 0
  have r0 := hr3.cell 0
  have r1 := hr3.frozen 0
  have y0 : w2.heap.size ≠ w.heap.size := by omega
  have y1 : w.heap.size ≠ w2.heap.size := by omega
  have HS := Lib.hid (show Pair12 (w.alloc (.cells #[.slice none 0 0] 25)) D nd bs A2 n2 ls ((w2.alloc (.cells #[.slice A2 n2 c2] 25)).alloc (.cells #[.int .i64 a, .int .i64 b, .int .i64 h9] 90)) from by
    have hz3 : ((w2.alloc (.cells #[.slice A2 n2 c2] 25)).alloc (.cells #[.int .i64 a, .int .i64 b, .int .i64 h9] 90)).heap.size = w2.heap.size + 1 + 1 := by simp only [size_alloc1]
    have hD3 := hDZ.grown K2 (fun k e => by cases e)
    refine ⟨hbs, hls, ⟨hD3.1.more (by omega), fun ad e => by have := hD3.2.1 ad e; simp only [size_alloc1]; omega, fun q ad hq e => by have := hD3.2.2 q ad hq e; simp only [size_alloc1]; omega⟩, (hrow.kept K2).here, hfar.more (by simp only [size_alloc1]; omega), ?_⟩
    have h7 : Below (w.alloc (.cells #[.slice none 0 0] 25)).heap.size (w.alloc (.cells #[.slice none 0 0] 25)) w2 := by rw [size_alloc1]; exact hb1.trans (Below.of_grown hg2 (by omega) (by omega))
    exact Below.and_kept h7 K2)
  clear h h0 h1 h2 hb1 hr1 hr2 hg2 hrow hfar hDZ hbs hls hbl K1 K2 hg1 hv hr3
  go_wp2
  go_region
  go_wp2
  have HO := Lib.hid (HS.out.put (.slice A2 n2 c2)).drew
  exact bodyPost_ret (v := .tuple #[.slice D nd cd, .agg #[.slice A2 n2 c2]]) (by simp [results, Try.results42, go_sem, *]) rfl ⟨_, _, _, _, _, _, _, _, rfl, HO.out⟩
theorem drawBlockCounts_any (w : World) (A : Option Addr) (n c : Nat) (hn : n ≤ c) (hc : c ≤ 9223372036854775807) (h : Bytes w w.heap.size A n) :
    Calls Try.prog 16 #[.slice A n c] w (PairDrawn w) := by
  have h0 := h.alloc (.cells #[.slice none 0 0] 25)
  go_enter Try.func16, Try.ntmps16
  go_wp2_with fail
  refine (pair12_any _ A n c hn hc h0).mono ?_
  rintro e w1 ⟨D, nd, cd, bs, A2, n2, c2, ls, rfl, hP⟩
  have hr1 := (Blk.new w 25 #[.slice none 0 0]).below hP.2.2.2.2.2 (by simp)
  have r0 := hr1.cell 0
  have r1 := hr1.frozen 0
  have HO := Lib.hid (hP.put (.slice A2 n2 c2))
  clear h h0 hP hr1
  go_wp2
  exact bodyPost_ret (v := .tuple #[.slice D nd cd, .agg #[.slice A2 n2 c2]]) (by simp [results, Try.results16, go_sem, *]) rfl ⟨_, _, _, _, _, _, _, _, rfl, HO.out⟩
theorem drawOldPages_any (w : World) (A : Option Addr) (n c : Nat) (hn : n ≤ c) (hc : c ≤ 9223372036854775807) (h : Bytes w w.heap.size A n) :
    Calls Try.prog 19 #[.slice A n c] w (PairDrawn w) := by
  have h0 := h.alloc (.cells #[.slice none 0 0] 25)
  go_enter Try.func19, Try.ntmps19
  go_wp2_with fail
  refine (pair12_any _ A n c hn hc h0).mono ?_
  rintro e w1 ⟨D, nd, cd, bs, A2, n2, c2, ls, rfl, hP⟩
  have hr1 := (Blk.new w 25 #[.slice none 0 0]).below hP.2.2.2.2.2 (by simp)
  have r0 := hr1.cell 0
  have r1 := hr1.frozen 0
  have HO := Lib.hid (hP.put (.slice A2 n2 c2))
  clear h h0 hP hr1
  go_wp2
  exact bodyPost_ret (v := .tuple #[.slice D nd cd, .agg #[.slice A2 n2 c2]]) (by simp [results, Try.results19, go_sem, *]) rfl ⟨_, _, _, _, _, _, _, _, rfl, HO.out⟩
end Go.Proofs.Ytnjgegadhfofbaa
