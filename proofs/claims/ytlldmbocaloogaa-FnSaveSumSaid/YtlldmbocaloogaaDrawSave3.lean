/- What the model draws for chapter 17, further: a number and pages, a save, two saves. -/
import Derived.Test.YtlldmbocaloogaaDrawSave
import Derived.Test.YtlldmbocaloogaaDrawSave2
import Derived.Test.YtlldmbocaloogaaExtDraw
import Derived.Test.YtlldmbocaloogaaTables7
namespace Go.Proofs.Ytlldmbocaloogaa
open Go.ChangeShapes Go.WideShapes Go.ChangeAt Go.RowKit
set_option linter.unusedVariables false
set_option linter.unusedSimpArgs false

theorem litZ14 (y : Nat) (h : y < 14) : ∃ z : Nat, z < 3 ∧ (#[Value.int .i64 0, Value.int .i64 0, Value.int .i64 0, Value.int .i64 0, Value.int .i64 0, Value.int .i64 0, Value.int .i64 0, Value.int .i64 0, Value.int .i64 0, Value.int .i64 0, Value.int .i64 0, Value.int .i64 0, Value.int .i64 1, Value.int .i64 2] : Array Value)[y]? = some (.int .i64 (z : Int)) := by
  have h1 : y = 0 ∨ y = 1 ∨ y = 2 ∨ y = 3 ∨ y = 4 ∨ y = 5 ∨ y = 6 ∨ y = 7 ∨ y = 8 ∨ y = 9 ∨ y = 10 ∨ y = 11 ∨ y = 12 ∨ y = 13 := by omega
  rcases h1 with rfl | rfl | rfl | rfl | rfl | rfl | rfl | rfl | rfl | rfl | rfl | rfl | rfl | rfl
  · exact ⟨0, by omega, rfl⟩
  · exact ⟨0, by omega, rfl⟩
  · exact ⟨0, by omega, rfl⟩
  · exact ⟨0, by omega, rfl⟩
  · exact ⟨0, by omega, rfl⟩
  · exact ⟨0, by omega, rfl⟩
  · exact ⟨0, by omega, rfl⟩
  · exact ⟨0, by omega, rfl⟩
  · exact ⟨0, by omega, rfl⟩
  · exact ⟨0, by omega, rfl⟩
  · exact ⟨0, by omega, rfl⟩
  · exact ⟨0, by omega, rfl⟩
  · exact ⟨1, by omega, rfl⟩
  · exact ⟨2, by omega, rfl⟩
theorem litZ3 (y : Nat) (h : y < 3) (a b c : Int) : ∃ v : Int, (#[Value.int .i64 a, Value.int .i64 b, Value.int .i64 c] : Array Value)[y]? = some (.int .i64 v) := by
  have h1 : y = 0 ∨ y = 1 ∨ y = 2 := by omega
  rcases h1 with rfl | rfl | rfl
  · exact ⟨a, rfl⟩
  · exact ⟨b, rfl⟩
  · exact ⟨c, rfl⟩
theorem litZ7 (y : Nat) (h : y < 7) : ∃ z : Nat, z < 4 ∧ (#[Value.int .i64 0, Value.int .i64 0, Value.int .i64 0, Value.int .i64 0, Value.int .i64 1, Value.int .i64 2, Value.int .i64 3] : Array Value)[y]? = some (.int .i64 (z : Int)) := by
  have h1 : y = 0 ∨ y = 1 ∨ y = 2 ∨ y = 3 ∨ y = 4 ∨ y = 5 ∨ y = 6 := by omega
  rcases h1 with rfl | rfl | rfl | rfl | rfl | rfl | rfl
  · exact ⟨0, by omega, rfl⟩
  · exact ⟨0, by omega, rfl⟩
  · exact ⟨0, by omega, rfl⟩
  · exact ⟨0, by omega, rfl⟩
  · exact ⟨1, by omega, rfl⟩
  · exact ⟨2, by omega, rfl⟩
  · exact ⟨3, by omega, rfl⟩
theorem make_ints49 (w : World) : (Instr.makeSlice 23 (.int .i64 49) (.int .i64 49)).run Try.prog w = .ok (.slice (some ⟨w.heap.size, 0, none⟩) 49 49) (w.alloc (.cells (madeCells #[.int .i64 0] 49) 3)) := make_ints w 49 (by omega)
/-- A number and pages are drawn. -/
def SumDrawn (w : World) (e : Ending) (w' : World) : Prop := ∃ (v : Int) (A : Option Addr) (n c : Nat) (xs : List Int), e = .returned (.tuple #[.int .i64 v, .slice A n c]) ∧ xs.length = n ∧ n ≤ 49 ∧ IRow w' w'.heap.size A xs ∧ Below w.heap.size w w'
set_option maxHeartbeats 4000000 in
theorem drawSaveSum_any (w : World) (A : Option Addr) (n c : Nat) (hn : n ≤ c) (hc : c ≤ 9223372036854775807) (h : Bytes w w.heap.size A n) :
    Calls Try.prog 11 #[.slice A n c] w (SumDrawn w) := by
  go_enter Try.func11, Try.ntmps11
  go_wp2_with fail
  refine (open_any _ A n c hn hc h).mono ?_
  rintro e w0 ⟨rfl, h1, hb1⟩
  have hg := h1.lt
  have HB := Lib.hid (And.intro hb1 (Nat.le_refl w.heap.size))
  have HS : RowKit.Hid (NSt w0 w.heap.size w.heap.size 0 [] (.slice (some ⟨w0.heap.size, 0, none⟩) 0 0) (w0.alloc (.cells #[] 3))) := Lib.hid ⟨iown_lit0 w0 w0.heap.size (Nat.le_refl _), h1.alloc _, grown_alloc (grown_refl _ _) _, hg⟩
  clear h h1 hb1
  go_wp2_with fail
  refine (pick_lt _ _ _ _ _ HS.out.2.1 (by omega) (by omega)).mono ?_
  rintro e w1 ⟨x1, rfl, u1, v1, h1, hg1⟩
  replace HS := Lib.hid (HS.out.grown hg1 h1)
  clear h1 hg1
  obtain ⟨k0, rfl⟩ := Int.eq_ofNat_of_zero_le u1
  go_wp2
  go_loopw [5, 6] (fun u i wr => ∃ (k Q : Nat) (xs : List Int), i = .int .i64 k ∧ k ≤ 8 ∧ xs.length + k ≤ 8 ∧ Q + 2 * k ≤ 20 ∧ NSt w0 w.heap.size w.heap.size Q xs u wr) (fun _ i _ => (intOf i).toNat)
  case atStart => exact ⟨k0, 1, [], rfl, by omega, by simp; omega, by omega, HS.out⟩
  case round =>
    rename World => wq
    obtain ⟨k, Q, xs, rfl, hk, hlen, hQ, hS⟩ := hrel
    clear HS
    have HS := Lib.hid hS
    clear hS
    by_cases hk0 : k = 0
    · subst hk0
      go_wp2_with fail
      refine (odd_any _ _ _ _ _ HS.out.2.1 (by omega) (by omega) (by omega)).mono ?_
      rintro e w3 ⟨q, rfl, h3, hg3⟩
      replace HS := Lib.hid (HS.out.grown hg3 h3)
      clear h3 hg3
      cases q
      · obtain ⟨Au, cu, rfl⟩ := IOwn.slice HS.out.1
        go_wp2_with fail
        refine (pick_lt _ _ _ _ _ HS.out.2.1 (by omega) (by omega)).mono ?_
        rintro e w4 ⟨x, rfl, u4, v4, h4, hg4⟩
        replace HS := Lib.hid (HS.out.grown hg4 h4)
        have HLT := Lib.hid HS.out.2.1.lt
        replace HS := Lib.hid (HS.out.kept (grown_alloc (grown_alloc (grown_refl w4 none) (.cells #[.int .i64 (x * 3900), .int .i64 1000000, .int .i64 1000001, .int .i64 (-1)] 3)) (.cells #[.int .i64 0, .int .i64 0, .int .i64 0, .int .i64 0, .int .i64 1, .int .i64 2, .int .i64 3] 3)))
        clear h4 hg4
        go_wp2_with fail
        refine (pick_lt _ _ _ _ _ HS.out.2.1 (by omega) (by omega)).mono ?_
        rintro e w5 ⟨y5, rfl, u5, v5, h5, hg5⟩
        obtain ⟨y, rfl⟩ := Int.eq_ofNat_of_zero_le u5
        obtain ⟨z, hz4, hz⟩ := litZ7 y (by omega)
        obtain ⟨v, hv⟩ := litZ4 z hz4 (x * 3900) 1000000 1000001 (-1)
        have hb := ((Blk.new w4 3 #[.int .i64 (x * 3900), .int .i64 1000000, .int .i64 1000001, .int .i64 (-1)]).alloc (.cells #[.int .i64 0, .int .i64 0, .int .i64 0, .int .i64 0, .int .i64 1, .int .i64 2, .int .i64 3] 3)).grown hg5 (fun e => by have := HLT.out; injection e with e; omega)
        have hb2 := (Blk.new (w4.alloc (.cells #[.int .i64 (x * 3900), .int .i64 1000000, .int .i64 1000001, .int .i64 (-1)] 3)) 3 #[.int .i64 0, .int .i64 0, .int .i64 0, .int .i64 0, .int .i64 1, .int .i64 2, .int .i64 3]).grown hg5 (fun e => by have := HLT.out; injection e with e; simp at e; omega)
        simp only [size_alloc1] at hb2
        have e1 : w5.cell? ⟨w4.heap.size + 1, y, none⟩ = some (.int .i64 (z : Int)) := (hb2.cell y).trans hz
        have e2 : w5.cell? ⟨w4.heap.size, z, none⟩ = some (.int .i64 v) := (hb.cell z).trans hv
        replace HS := Lib.hid (HS.out.grown hg5 h5)
        have y0 : decide ((0 : Int) ≤ y) = true := decide_eq_true (by omega)
        have z0 : decide ((0 : Int) ≤ z) = true := decide_eq_true (by omega)
        have z1 : (z : Int) < 4 := by omega
        clear hb hb2 hz hv h5 hg5 hz4
        go_wp2
        go_ret2
        exact ⟨v, _, _, _, xs, rfl, rfl, by omega, VOwn.row HS.out.1, HB.out.1.trans (Below.of_grown HS.out.2.2.1 HB.out.2 HB.out.1.size)⟩
      · have hmk := make_ints49 w3
        replace HS := Lib.hid (show NSt w0 w.heap.size w.heap.size _ (List.replicate 49 0) (.slice (some ⟨w3.heap.size, 0, none⟩) 49 49) (w3.alloc (.cells (madeCells #[.int .i64 0] 49) 3)) from ⟨iown_made w3 w0.heap.size 49 HS.out.2.2.1.size (by simp only [maxLen]; omega), HS.out.2.1.alloc _, grown_alloc HS.out.2.2.1 _, HS.out.2.2.2⟩)
        go_wp2_with fail
        refine (pick_lt _ _ _ _ _ HS.out.2.1 (by omega) (by omega)).mono ?_
        rintro e w4 ⟨x, rfl, u4, v4, h4, hg4⟩
        replace HS := Lib.hid (HS.out.grown hg4 h4)
        have HLT := Lib.hid HS.out.2.1.lt
        replace HS := Lib.hid (HS.out.kept (grown_alloc (grown_alloc (grown_refl w4 none) (.cells #[.int .i64 (x * 3900), .int .i64 1000000, .int .i64 1000001, .int .i64 (-1)] 3)) (.cells #[.int .i64 0, .int .i64 0, .int .i64 0, .int .i64 0, .int .i64 1, .int .i64 2, .int .i64 3] 3)))
        clear h4 hg4
        go_wp2_with fail
        refine (pick_lt _ _ _ _ _ HS.out.2.1 (by omega) (by omega)).mono ?_
        rintro e w5 ⟨y5, rfl, u5, v5, h5, hg5⟩
        obtain ⟨y, rfl⟩ := Int.eq_ofNat_of_zero_le u5
        obtain ⟨z, hz4, hz⟩ := litZ7 y (by omega)
        obtain ⟨v, hv⟩ := litZ4 z hz4 (x * 3900) 1000000 1000001 (-1)
        have hb := ((Blk.new w4 3 #[.int .i64 (x * 3900), .int .i64 1000000, .int .i64 1000001, .int .i64 (-1)]).alloc (.cells #[.int .i64 0, .int .i64 0, .int .i64 0, .int .i64 0, .int .i64 1, .int .i64 2, .int .i64 3] 3)).grown hg5 (fun e => by have := HLT.out; injection e with e; omega)
        have hb2 := (Blk.new (w4.alloc (.cells #[.int .i64 (x * 3900), .int .i64 1000000, .int .i64 1000001, .int .i64 (-1)] 3)) 3 #[.int .i64 0, .int .i64 0, .int .i64 0, .int .i64 0, .int .i64 1, .int .i64 2, .int .i64 3]).grown hg5 (fun e => by have := HLT.out; injection e with e; simp at e; omega)
        simp only [size_alloc1] at hb2
        have e1 : w5.cell? ⟨w4.heap.size + 1, y, none⟩ = some (.int .i64 (z : Int)) := (hb2.cell y).trans hz
        have e2 : w5.cell? ⟨w4.heap.size, z, none⟩ = some (.int .i64 v) := (hb.cell z).trans hv
        replace HS := Lib.hid (HS.out.grown hg5 h5)
        have y0 : decide ((0 : Int) ≤ y) = true := decide_eq_true (by omega)
        have z0 : decide ((0 : Int) ≤ z) = true := decide_eq_true (by omega)
        have z1 : (z : Int) < 4 := by omega
        clear hb hb2 hz hv h5 hg5 hz4
        go_wp2
        go_ret2
        exact ⟨v, _, _, _, List.replicate 49 0, rfl, by simp, by omega, VOwn.row HS.out.1, HB.out.1.trans (Below.of_grown HS.out.2.2.1 HB.out.2 HB.out.1.size)⟩
    · obtain ⟨k, rfl⟩ : ∃ j, k = j + 1 := ⟨k - 1, by omega⟩
      have k1 : decide ((0 : Int) < ((k + 1 : Nat) : Int)) = true := decide_eq_true (by omega)
      have k2 : (0 : Int) < ((k + 1 : Nat) : Int) := by omega
      go_wp2_with fail
      refine (pick_lt _ _ _ _ _ HS.out.2.1 (by omega) (by omega)).mono ?_
      rintro e w4 ⟨x, rfl, u4, v4, h4, hg4⟩
      replace HS := Lib.hid (HS.out.grown hg4 h4)
      have HLT := Lib.hid HS.out.2.1.lt
      replace HS := Lib.hid (HS.out.kept (grown_alloc (grown_alloc (grown_refl w4 none) (.cells #[.int .i64 (x - 1), .int .i64 48, .int .i64 (-2)] 3)) (.cells #[.int .i64 0, .int .i64 0, .int .i64 0, .int .i64 0, .int .i64 0, .int .i64 0, .int .i64 0, .int .i64 0, .int .i64 0, .int .i64 0, .int .i64 0, .int .i64 0, .int .i64 1, .int .i64 2] 3)))
      clear h4 hg4
      go_wp2_with fail
      refine (pick_lt _ _ _ _ _ HS.out.2.1 (by omega) (by omega)).mono ?_
      rintro e w5 ⟨y5, rfl, u5, v5, h5, hg5⟩
      obtain ⟨y, rfl⟩ := Int.eq_ofNat_of_zero_le u5
      obtain ⟨z, hz4, hz⟩ := litZ14 y (by omega)
      obtain ⟨v, hv⟩ := litZ3 z hz4 (x - 1) 48 (-2)
      have hb := ((Blk.new w4 3 #[.int .i64 (x - 1), .int .i64 48, .int .i64 (-2)]).alloc (.cells #[.int .i64 0, .int .i64 0, .int .i64 0, .int .i64 0, .int .i64 0, .int .i64 0, .int .i64 0, .int .i64 0, .int .i64 0, .int .i64 0, .int .i64 0, .int .i64 0, .int .i64 1, .int .i64 2] 3)).grown hg5 (fun e => by have := HLT.out; injection e with e; omega)
      have hb2 := (Blk.new (w4.alloc (.cells #[.int .i64 (x - 1), .int .i64 48, .int .i64 (-2)] 3)) 3 #[.int .i64 0, .int .i64 0, .int .i64 0, .int .i64 0, .int .i64 0, .int .i64 0, .int .i64 0, .int .i64 0, .int .i64 0, .int .i64 0, .int .i64 0, .int .i64 0, .int .i64 1, .int .i64 2]).grown hg5 (fun e => by have := HLT.out; injection e with e; simp at e; omega)
      simp only [size_alloc1] at hb2
      have e1 : w5.cell? ⟨w4.heap.size + 1, y, none⟩ = some (.int .i64 (z : Int)) := (hb2.cell y).trans hz
      have e2 : w5.cell? ⟨w4.heap.size, z, none⟩ = some (.int .i64 v) := (hb.cell z).trans hv
      replace HS := Lib.hid (HS.out.grown hg5 h5)
      have y0 : decide ((0 : Int) ≤ y) = true := decide_eq_true (by omega)
      have z0 : decide ((0 : Int) ≤ z) = true := decide_eq_true (by omega)
      have z1 : (z : Int) < 3 := by omega
      obtain ⟨u', w6, hrun, hw⟩ := HS.out.push v (by omega)
      have HZ := Lib.hid hw
      have HRUN := Lib.hid hrun
      clear hb hb2 hz hv h5 hg5 hrun hw hz4
      go_wp2_with (first | (at_builtin; refine wpList_append_run _ rfl (.tmp 16) (.tmp 28) _ _ rfl _ _ rfl rfl HRUN.out ?_) | fail)
      go_roundw
      case rel => exact ⟨k, Q + 2, xs ++ [v], by go_num, by omega, by rw [List.length_append]; simp; omega, by omega, HZ.out⟩
      case measure => simp [intOf]
/-- A save is drawn out of a code. -/
def SaveDrawn (w : World) (e : Ending) (w' : World) : Prop := ∃ (N : Int) (A : Option Addr) (n c : Nat) (X : List Int) (S : Int), e = .returned (.agg #[.int .i64 N, .slice A n c, .int .i64 S]) ∧ X.length = n ∧ n ≤ 48 ∧ n ≤ c ∧ c ≤ maxLen ∧ IRow w' w'.heap.size A X ∧ Below w.heap.size w w'
theorem irow_grownLo {w w' : World} {B lo g : Nat} {A : Option Addr} {X : List Int} (h : IRow w B A X) (f : ∀ ad, A = some ad → lo ≤ ad.block) (hg : w.grownBy w' (some g)) (hlt : g < lo) : IRow w' B A X :=
  VRow.away h hg.size fun ad q e hq hz => World.cell?_of_block (hg.block q.block hz (by intro e2; injection e2 with e2; have := f ad e; omega))
theorem irow_putLo {w : World} {B lo : Nat} {A : Option Addr} {X : List Int} (h : IRow w B A X) (f : ∀ ad, A = some ad → lo ≤ ad.block) {p : Addr} (hp : p.block < lo) (u : Value) : IRow (w.setCell p u) B A X :=
  VRow.away h (by simp [World.setCell]) fun ad q e hq _ => World.cell?_setCell_other w p q u (fun e2 => by subst e2; have := f ad e; omega)
theorem irow_putS {w : World} {lo V : Nat} {A : Option Addr} {X : List Int} (h : IRow w w.heap.size A X) (f : ∀ ad, A = some ad → lo ≤ ad.block) (hp : V < lo) (u0 u1 u2 : Value) : IRow (putS w V u0 u1 u2) (putS w V u0 u1 u2).heap.size A X := by
  have e : (putS w V u0 u1 u2).heap.size = w.heap.size := by simp [putS, World.setCell]
  rw [e]
  exact irow_putLo (irow_putLo (irow_putLo h f (p := ⟨V, 0, none⟩) hp u0) f (p := ⟨V, 1, none⟩) hp u1) f (p := ⟨V, 2, none⟩) hp u2
theorem below_putS {w wr : World} {V : Nat} (h : Below w.heap.size w wr) (hV : w.heap.size ≤ V) (u0 u1 u2 : Value) : Below w.heap.size w (putS wr V u0 u1 u2) := ((h.setCell (p := ⟨V, 0, none⟩) hV u0).setCell (p := ⟨V, 1, none⟩) hV u1).setCell (p := ⟨V, 2, none⟩) hV u2
theorem drawLoadTable_any (w : World) (A : Option Addr) (n c : Nat) (hn : n ≤ c) (hc : c ≤ 9223372036854775807) (h : Bytes w w.heap.size A n) :
    Calls Try.prog 21 #[.slice A n c] w (SaveDrawn w) := by
  have h0 := h.alloc (.cells #[.int .i64 0, .slice none 0 0, .int .i64 0] 35)
  go_enter Try.func21, Try.ntmps21
  go_wp2_with fail
  refine (open_any _ A n c hn hc h0).mono ?_
  rintro e w1 ⟨rfl, h1, hb1⟩
  (try simp only [size_of_alloc] at h1 hb1)
  have hr1 := (Blk.new w 35 #[.int .i64 0, .slice none 0 0, .int .i64 0]).below hb1 (by omega)
  have hg1 := h1.lt
  have hz1 := hb1.size
  (try simp only [size_of_alloc] at hz1)
  go_wp2_with fail
  refine (saves_any _ _ _ _ 2 h1 (by omega) (by omega) (by omega)).mono ?_
  rintro e w2 ⟨N, A2, n2, c2, X, S, rfl, hl, h48, hcap, hmax, hrow, hfar, h2, hg2⟩
  have hbl := (((Below.refl w.heap.size w).alloc (Nat.le_refl _) (.cells #[.int .i64 0, .slice none 0 0, .int .i64 0] 35)).trans (hb1.mono (by omega))).trans (Below.of_grown hg2 (by omega) (by omega))
  have hr2 := hr1.grown hg2 (by intro e; injection e with e; omega)
  have HN := Lib.hid (And.intro hl (And.intro h48 (And.intro hcap (And.intro hmax (And.intro (irow_putS hrow hfar (V := w.heap.size) (by omega) (.int .i64 N) (.slice A2 n2 c2) (.int .i64 S)) (below_putS hbl (Nat.le_refl _) (.int .i64 N) (.slice A2 n2 c2) (.int .i64 S)))))))
  obtain ⟨⟨z0, z1, z2⟩, y0, y1, y2⟩ := hr2.cells3
  clear h h0 h1 h2 hb1 hr1 hg2 hrow hfar hl h48 hcap hmax hbl hr2 hg1 hz1
  go_wp2
  exact bodyPost_ret (v := .agg #[.int .i64 N, .slice A2 n2 c2, .int .i64 S]) (by simp [results, Try.results21, go_sem, *]) rfl ⟨N, A2, n2, c2, X, S, rfl, HN.out.1, HN.out.2.1, HN.out.2.2.1, HN.out.2.2.2.1, HN.out.2.2.2.2.1, HN.out.2.2.2.2.2⟩
/-- Two saves are drawn out of a code. -/
def SavesDrawn (w : World) (e : Ending) (w' : World) : Prop := ∃ (N : Int) (A : Option Addr) (n c : Nat) (X : List Int) (S N' : Int) (A' : Option Addr) (n' c' : Nat) (X' : List Int) (S' : Int), e = .returned (.tuple #[.agg #[.int .i64 N, .slice A n c, .int .i64 S], .agg #[.int .i64 N', .slice A' n' c', .int .i64 S']]) ∧
  (X.length = n ∧ n ≤ 48 ∧ n ≤ c ∧ c ≤ maxLen) ∧ (X'.length = n' ∧ n' ≤ 48 ∧ n' ≤ c' ∧ c' ≤ maxLen) ∧ IRow w' w'.heap.size A X ∧ IRow w' w'.heap.size A' X' ∧ Below w.heap.size w w'
set_option maxHeartbeats 2000000 in
theorem drawNewerSave_any (w : World) (A : Option Addr) (n c : Nat) (hn : n ≤ c) (hc : c ≤ 9223372036854775807) (h : Bytes w w.heap.size A n) :
    Calls Try.prog 23 #[.slice A n c] w (SavesDrawn w) := by
  have h0 := (h.alloc (.cells #[.int .i64 0, .slice none 0 0, .int .i64 0] 35)).alloc (.cells #[.int .i64 0, .slice none 0 0, .int .i64 0] 35)
  go_enter Try.func23, Try.ntmps23
  go_wp2_with fail
  refine (open_any _ A n c hn hc h0).mono ?_
  rintro e w1 ⟨rfl, h1, hb1⟩
  (try simp only [size_of_alloc] at h1 hb1)
  have hra := ((Blk.new w 35 #[.int .i64 0, .slice none 0 0, .int .i64 0]).alloc (.cells #[.int .i64 0, .slice none 0 0, .int .i64 0] 35)).below hb1 (by omega)
  have hrb := (Blk.new (w.alloc (.cells #[.int .i64 0, .slice none 0 0, .int .i64 0] 35)) 35 #[.int .i64 0, .slice none 0 0, .int .i64 0]).below hb1 (by simp only [size_of_alloc]; omega)
  (try simp only [size_of_alloc] at hrb)
  have hg1 := h1.lt
  have hz1 := hb1.size
  (try simp only [size_of_alloc] at hz1)
  go_wp2_with fail
  refine (saves_any _ _ _ _ 4 h1 (by omega) (by omega) (by omega)).mono ?_
  rintro e w2 ⟨N, A2, n2, c2, X, S, rfl, hl, h48, hcap, hmax, hrow, hfar, h2, hg2⟩
  have hz2 := hg2.size
  have hbl := ((((Below.refl w.heap.size w).alloc (Nat.le_refl _) (.cells #[.int .i64 0, .slice none 0 0, .int .i64 0] 35)).alloc (by simp only [size_of_alloc]; omega) (.cells #[.int .i64 0, .slice none 0 0, .int .i64 0] 35)).trans (hb1.mono (by omega))).trans (Below.of_grown hg2 (by omega) (by omega))
  have hra2 := hra.grown hg2 (by intro e; injection e with e; omega)
  have hrb2 := hrb.grown hg2 (by intro e; injection e with e; omega)
  have HN := Lib.hid (And.intro hl (And.intro h48 (And.intro hcap hmax)))
  have K2 : w2.grownBy (w2.alloc (.cells #[.int .i64 N, .slice A2 n2 c2, .int .i64 S] 35)).drew none := grown_drew (grown_alloc (grown_refl _ _) _)
  have HS := Lib.hid (And.intro ((h2.grown K2 (by intro k e; cases e))) (And.intro (VRow.here (VRow.kept hrow K2) : IRow _ _ A2 X) (And.intro (show ∀ ad, A2 = some ad → w.heap.size + 1 + 1 + 1 ≤ ad.block from fun ad e => by have := hfar ad e; omega) (And.intro (hra2.keep K2) (And.intro (hrb2.keep K2) (And.intro (hbl.trans (Below.of_kept K2 (by omega))) (Blk.drew (Blk.new w2 35 #[.int .i64 N, .slice A2 n2 c2, .int .i64 S]))))))))
  have HV := Lib.hid (show w.heap.size + 1 + 1 < w2.heap.size by omega)
  clear h h0 h1 h2 hb1 hra hrb hg2 hrow hfar hl h48 hcap hmax hbl hra2 hrb2 hg1 hz1 hz2 K2
  go_wp2_with fail
  refine wp_region_held_drew (S := (fun w' => w'.cell? ⟨w2.heap.size, 0, none⟩ = some (.int .i64 N) ∧ w'.cell? ⟨w2.heap.size, 1, none⟩ = some (.slice A2 n2 c2) ∧ w'.cell? ⟨w2.heap.size, 2, none⟩ = some (.int .i64 S))) (by kernel_rfl) ?_ (fun hHeld => ?_)
  · exact HS.out.2.2.2.2.2.2.cells3.1
  refine heldY 0 10 ?_
  refine heldY 1 11 ?_
  refine wpAnyH_ready (rs := [2]) (by kernel_rfl) (by simp) ?_
  refine AllReadyH.cons rfl (fun K hK => ?_) AllReadyH.nil
  go_simp
  go_at_call 51
  refine (saves_any _ _ _ _ 4 HS.out.1 (by omega) (by omega) (by omega)).mono ?_
  rintro e w3 ⟨N', A3, n3, c3, X', S', rfl, hl, h48, hcap, hmax, hrow, hfar, h3, hg3⟩
  have hz3 := hg3.size
  have hzz := HV.out
  have HM := Lib.hid (And.intro hl (And.intro h48 (And.intro hcap hmax)))
  have hq := irow_grownLo HS.out.2.1 HS.out.2.2.1 hg3 (by omega)
  have ha := HS.out.2.2.2.1.grown hg3 (by intro e; injection e with e; omega)
  have hb := HS.out.2.2.2.2.1.grown hg3 (by intro e; injection e with e; omega)
  have hv := HS.out.2.2.2.2.2.2.grown hg3 (by intro e; injection e with e; omega)
  have hbl := HS.out.2.2.2.2.2.1.trans (Below.of_grown hg3 (by omega) (by simp only [World.drew, size_alloc1]; omega))
  (try simp only [World.drew, size_alloc1] at hfar hz3)
  have HE := Lib.hid (And.intro (irow_putS (irow_putS hq.here HS.out.2.2.1 (V := w.heap.size) (by omega) (.int .i64 N) (.slice A2 n2 c2) (.int .i64 S)) HS.out.2.2.1 (V := w.heap.size + 1) (by omega) (.int .i64 N') (.slice A3 n3 c3) (.int .i64 S')) (And.intro (irow_putS (irow_putS hrow hfar (V := w.heap.size) (by omega) (.int .i64 N) (.slice A2 n2 c2) (.int .i64 S)) hfar (V := w.heap.size + 1) (by omega) (.int .i64 N') (.slice A3 n3 c3) (.int .i64 S')) (below_putS (below_putS hbl (Nat.le_refl _) (.int .i64 N) (.slice A2 n2 c2) (.int .i64 S)) (V := w.heap.size + 1) (by omega) (.int .i64 N') (.slice A3 n3 c3) (.int .i64 S'))))
  obtain ⟨⟨a0, a1, a2⟩, d0, d1, d2⟩ := ha.cells3
  obtain ⟨⟨b0, b1, b2⟩, f0, f1, f2⟩ := hb.cells3
  obtain ⟨⟨v0, v1, v2⟩, _, _, _⟩ := hv.cells3
  have m1 : w2.heap.size ≠ w.heap.size := by omega
  have m2 : w.heap.size ≠ w2.heap.size := by omega
  have m3 : w2.heap.size ≠ w.heap.size + 1 := by omega
  have m4 : w.heap.size + 1 ≠ w2.heap.size := by omega
  clear hl h48 hcap hmax hrow hfar h3 hg3 hz3 hq ha hb hv hbl hzz HS
  refine hK.out _ _ ?_ (fun hHeld => ?_)
  · exact ⟨v0, v1, v2⟩
  clear hK K
  try simp only [Act.put, List.setIfInBounds_toArray, List.set_cons_zero, List.set_cons_succ]
  refine wpAnyH_ready (rs := [3]) (by kernel_rfl) (by simp) ?_
  refine AllReadyH.cons rfl (fun K hK => ?_) AllReadyH.nil
  go_simp
  refine hK.out _ _ ?_ (fun hHeld => ?_)
  · first | with_reducible assumption | go_keep
  clear hK K
  try simp only [Act.put, List.setIfInBounds_toArray, List.set_cons_zero, List.set_cons_succ]
  refine wpAnyH_ready (rs := [4]) (by kernel_rfl) (by simp) ?_
  refine AllReadyH.cons rfl (fun K hK => ?_) AllReadyH.nil
  go_simp
  refine hK.out _ _ ?_ (fun hHeld => ?_)
  · first | with_reducible assumption | go_keep
  clear hK K
  try simp only [Act.put, List.setIfInBounds_toArray, List.set_cons_zero, List.set_cons_succ]
  refine wpAnyH_done (by kernel_rfl) ?_ _
  go_wp2
  exact bodyPost_ret (v := .tuple #[.agg #[.int .i64 N, .slice A2 n2 c2, .int .i64 S], .agg #[.int .i64 N', .slice A3 n3 c3, .int .i64 S']]) (by simp [results, Try.results23, go_sem, *]) rfl ⟨N, A2, n2, c2, X, S, N', A3, n3, c3, X', S', rfl, HN.out, HM.out, HE.out.1, HE.out.2.1, HE.out.2.2⟩
end Go.Proofs.Ytlldmbocaloogaa
