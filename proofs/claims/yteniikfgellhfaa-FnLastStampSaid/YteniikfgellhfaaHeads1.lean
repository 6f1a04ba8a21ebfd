/- What the model's functions of chapter 6 answer: HeadsValid, HeadOf, l6Set.
   What the model's functions of chapter 6 answer, further: HeadOf, l6Set. -/
import Derived.Test.YteniikfgellhfaaDevices6
namespace Go.Proofs.Yteniikfgellhfaa
open Go.ChangeShapes Go.WideShapes Go.ChangeAt Go.RowKit

/-- Two heads that are not the same block. -/
def pairB (x y : Int) : Bool := !((x == y) && decide (0 ≤ y))
/-- Valid heads of n blocks, without a word of the device. -/
def headsB (n : Nat) (a b h : Int) : Bool := inB a (-1) ((n : Int) - 1) && inB b (-1) ((n : Int) - 1) && inB h (-1) ((n : Int) - 1) && pairB a b && pairB a h && pairB b h
/-- The head with a number. -/
def hd (a b h : Int) : Nat → Int
  | 0 => a
  | 1 => b
  | _ => h
theorem heads_bad {n : Nat} {a b h : Int} {k : Nat} (hk : k < 3) (h1 : inB (hd a b h k) (-1) ((n : Int) - 1) = false) : headsB n a b h = false := by
  match k, hk with
  | 0, _ => simp only [hd] at h1; simp [headsB, h1]
  | 1, _ => simp only [hd] at h1; simp [headsB, h1]
  | 2, _ => simp only [hd] at h1; simp [headsB, h1]
theorem heads_same {n : Nat} {a b h : Int} {j k : Nat} (hj : j < k) (hk : k < 3) (h1 : hd a b h j = hd a b h k) (h2 : 0 ≤ hd a b h k) : headsB n a b h = false := by
  have e : pairB (hd a b h j) (hd a b h k) = false := by simp [pairB, h1, h2]
  have h3 : (j = 0 ∧ k = 1) ∨ (j = 0 ∧ k = 2) ∨ (j = 1 ∧ k = 2) := by omega
  rcases h3 with ⟨rfl, rfl⟩ | ⟨rfl, rfl⟩ | ⟨rfl, rfl⟩ <;> simp only [hd] at e <;> simp [headsB, e]
theorem heads_good {n : Nat} {a b h : Int} (h1 : ∀ k, k < 3 → inB (hd a b h k) (-1) ((n : Int) - 1) = true) (h2 : ∀ j k, j < k → k < 3 → pairB (hd a b h j) (hd a b h k) = true) : headsB n a b h = true := by
  have e0 := h1 0 (by omega)
  have e1 := h1 1 (by omega)
  have e2 := h1 2 (by omega)
  have e3 := h2 0 1 (by omega) (by omega)
  have e4 := h2 0 2 (by omega) (by omega)
  have e5 := h2 1 2 (by omega) (by omega)
  simp only [hd] at e0 e1 e2 e3 e4 e5
  simp [headsB, e0, e1, e2, e3, e4, e5]
theorem pair_step {a b h : Int} {j k : Nat} (h1 : ∀ i, i < j → pairB (hd a b h i) (hd a b h k) = true) (h2 : pairB (hd a b h j) (hd a b h k) = true) : ∀ i, i < j + 1 → pairB (hd a b h i) (hd a b h k) = true := fun i hi => by
  rcases Nat.lt_or_ge i j with h3 | h3
  · exact h1 i h3
  · obtain rfl : i = j := by omega
    exact h2
theorem outer_step {P : Nat → Prop} {k : Nat} (h1 : ∀ i, i < k → P i) (h2 : P k) : ∀ i, i < k + 1 → P i := fun i hi => by
  rcases Nat.lt_or_ge i k with h3 | h3
  · exact h1 i h3
  · obtain rfl : i = k := by omega
    exact h2
/-- The list of the three, while it is walked. -/
def LIn (w : World) (L : Nat) (a b h : Int) (wr : World) : Prop := Blk wr L 3 #[.int .i64 a, .int .i64 b, .int .i64 h] ∧ w.grownBy wr none
theorem LIn.keep {w wr w' : World} {L : Nat} {a b h : Int} (hl : LIn w L a b h wr) (k : wr.grownBy w' none) : LIn w L a b h w' := ⟨hl.1.keep k, grown_trans hl.2 k⟩
theorem LIn.at_ {w wr : World} {L : Nat} {a b h : Int} (hl : LIn w L a b h wr) {k : Nat} (hk : k < 3) : wr.cell? ⟨L, k, none⟩ = some (.int .i64 (hd a b h k)) := by
  match k, hk with
  | 0, _ => exact hl.1.cell 0
  | 1, _ => exact hl.1.cell 1
  | 2, _ => exact hl.1.cell 2
/-- The outer loop at head k; the inner one at head j. -/
def HOut (n : Nat) (a b h : Int) (k : Nat) : Prop := (∀ i, i < k → inB (hd a b h i) (-1) ((n : Int) - 1) = true) ∧ ∀ i, i < k → ∀ j, j < i → pairB (hd a b h j) (hd a b h i) = true
set_option maxHeartbeats 1000000 in
theorem specHeads_any (A : Option Addr) (n c : Nat) (bs : List Bk) (a b h : Int) (w : World) (hl : bs.length = n) (hr : DRow w w.heap.size A bs) (hn : n ≤ 1048576) (hp : ∀ b, b ∈ bs → b.ps.length ≤ 1048576) :
    Calls Try.prog 111 #[.slice A n c, .agg #[.int .i64 a, .int .i64 b, .int .i64 h]] w (KeptV (.bool (headsB n a b h && devB bs)) w) := by
  have HD := Lib.hid (And.intro hl (And.intro hr hp))
  have hL : LIn w (w.heap.size + 1) a b h ((w.alloc (.cells #[.int .i64 a, .int .i64 b, .int .i64 h] 77)).alloc (.cells #[.int .i64 a, .int .i64 b, .int .i64 h] 3)) := by
    refine ⟨?_, grown_alloc (grown_alloc (grown_refl _ _) _) _⟩
    have h1 := Blk.new (w.alloc (.cells #[.int .i64 a, .int .i64 b, .int .i64 h] 77)) 3 #[.int .i64 a, .int .i64 b, .int .i64 h]
    simpa only [size_alloc1] using h1
  have HL := Lib.hid hL
  clear hl hr hp hL
  go_enter Try.func111, Try.ntmps111
  go_wp2
  go_loopw [6] (fun i wr => ∃ k : Nat, k ≤ 3 ∧ i = .int .i64 k ∧ HOut n a b h k ∧ LIn w (w.heap.size + 1) a b h wr) (fun i _ => 3 - (intOf i).toNat)
  case atStart => exact ⟨0, by omega, rfl, ⟨fun i hi => absurd hi (by omega), fun i hi => absurd hi (by omega)⟩, HL.out⟩
  case round =>
    obtain ⟨k, hk, rfl, ho, hL⟩ := hrel
    clear HL
    by_cases hlt : k < 3
    · obtain ⟨x, hx⟩ : ∃ x, hd a b h k = x := ⟨_, rfl⟩
      have ck := hL.at_ hlt
      rw [hx] at ck
      cases hv : inB x (-1) ((n : Int) - 1)
      · have HX := Lib.hid (And.intro hL (And.intro (heads_bad hlt (by rw [hx]; exact hv)) hv))
        clear hL ho hv hx
        go_wp2_with (go_at_call 95; refine (in_any _ _ _ _).mono ?_; rintro e w' ⟨rfl, rfl⟩; rw [HX.out.2.2])
        go_ret
        exact ⟨retB (by rw [HX.out.2.1]; rfl), HX.out.1.2⟩
      · have HX := Lib.hid (And.intro hv (And.intro ho hx))
        have HL := Lib.hid hL
        clear hL ho hv hx
        go_wp2_with (go_at_call 95; refine (in_any _ _ _ _).mono ?_; rintro e w' ⟨rfl, rfl⟩; rw [HX.out.1])
        clear ck
        go_loopw [7] (fun i wr => ∃ j : Nat, j ≤ k ∧ i = .int .i64 j ∧ (∀ i, i < j → pairB (hd a b h i) (hd a b h k) = true) ∧ LIn w (w.heap.size + 1) a b h wr) (fun i _ => k - (intOf i).toNat)
        case atStart => exact ⟨0, by omega, rfl, fun i hi => absurd hi (by omega), HL.out⟩
        case round =>
          obtain ⟨j, hj, rfl, hpj, hL⟩ := hrel
          clear HL
          by_cases hjk : j < k
          · obtain ⟨y, hy⟩ : ∃ y, hd a b h j = y := ⟨_, rfl⟩
            have cj := hL.at_ (show j < 3 by omega)
            have ck := hL.at_ hlt
            have k3 : (k : Int) < 3 := by omega
            have j3 : (j : Int) < 3 := by omega
            rw [hy] at cj
            rw [HX.out.2.2] at ck
            by_cases hxy : y = x
            · subst hxy
              by_cases h0 : 0 ≤ y
              · have HY := Lib.hid (And.intro hL (heads_same (n := n) hjk hlt (hy.trans HX.out.2.2.symm) (by rw [HX.out.2.2]; exact h0)))
                have h0 := decide_eq_true h0
                clear hL hpj hy
                go_wp2_with fail
                refine wp_region_held_drew (S := (fun w' => w'.cell? ⟨w.heap.size + 1, j, none⟩ = some (.int .i64 y) ∧ w'.cell? ⟨w.heap.size + 1, k, none⟩ = some (.int .i64 y))) (by kernel_rfl) ?_ (fun hHeld => ?_)
                · exact ⟨cj, ck⟩
                refine heldY 0 33 ?_
                refine heldY 1 34 ?_
                refine heldY 2 35 ?_
                refine heldY 3 36 ?_
                refine heldY 4 37 ?_
                refine heldY 5 38 ?_
                refine heldY 6 39 ?_
                refine heldY 7 40 ?_
                refine heldY 8 41 ?_
                refine heldY 9 42 ?_
                refine heldY 10 43 ?_
                refine heldY 11 44 ?_
                refine heldY 12 45 ?_
                refine heldY 13 46 ?_
                refine heldY 14 47 ?_
                refine heldY 15 48 ?_
                refine wpAnyH_done (by kernel_rfl) ?_ _
                go_wp2
                go_ret
                exact ⟨retB (by rw [HY.out.2]; rfl), grown_drew HY.out.1.2⟩
              · have HY := Lib.hid (And.intro hL (pair_step hpj (show pairB (hd a b h j) (hd a b h k) = true by rw [hy, HX.out.2.2]; simp [pairB, h0])))
                have h0 := decide_eq_false h0
                clear hL hpj hy
                go_wp2_with fail
                refine wp_region_held_drew (S := (fun w' => w'.cell? ⟨w.heap.size + 1, j, none⟩ = some (.int .i64 y) ∧ w'.cell? ⟨w.heap.size + 1, k, none⟩ = some (.int .i64 y))) (by kernel_rfl) ?_ (fun hHeld => ?_)
                · exact ⟨cj, ck⟩
                refine heldY 0 33 ?_
                refine heldY 1 34 ?_
                refine heldY 2 35 ?_
                refine heldY 3 36 ?_
                refine heldY 4 37 ?_
                refine heldY 5 38 ?_
                refine heldY 6 39 ?_
                refine heldY 7 40 ?_
                refine heldY 8 41 ?_
                refine heldY 9 42 ?_
                refine heldY 10 43 ?_
                refine heldY 11 44 ?_
                refine heldY 12 45 ?_
                refine heldY 13 46 ?_
                refine heldY 14 47 ?_
                refine heldY 15 48 ?_
                refine wpAnyH_done (by kernel_rfl) ?_ _
                go_wp2
                go_roundw
                case rel => exact ⟨j + 1, by omega, by go_num, HY.out.2, HY.out.1.keep (grown_drew (grown_refl _ _))⟩
                case measure => simp [intOf]; omega
            · have HY := Lib.hid (And.intro hL (pair_step hpj (show pairB (hd a b h j) (hd a b h k) = true by rw [hy, HX.out.2.2]; simp [pairB, hxy])))
              have hxy : (y == x) = false := by simp [hxy]
              clear hL hpj hy
              go_wp2_with fail
              refine wp_region_held_drew (S := (fun w' => w'.cell? ⟨w.heap.size + 1, j, none⟩ = some (.int .i64 y) ∧ w'.cell? ⟨w.heap.size + 1, k, none⟩ = some (.int .i64 x))) (by kernel_rfl) ?_ (fun hHeld => ?_)
              · exact ⟨cj, ck⟩
              refine heldY 0 33 ?_
              refine heldY 1 34 ?_
              refine heldY 2 35 ?_
              refine heldY 3 36 ?_
              refine heldY 4 37 ?_
              refine heldY 5 38 ?_
              refine heldY 6 39 ?_
              refine heldY 7 40 ?_
              refine heldY 8 41 ?_
              refine heldY 9 42 ?_
              refine heldN 10 43 ?_
              refine heldN 11 44 ?_
              refine heldN 12 45 ?_
              refine heldN 13 46 ?_
              refine heldN 14 47 ?_
              refine heldY 15 48 ?_
              refine wpAnyH_done (by kernel_rfl) ?_ _
              clear hxy
              go_wp2
              go_roundw
              case rel => exact ⟨j + 1, by omega, by go_num, HY.out.2, HY.out.1.keep (grown_drew (grown_refl _ _))⟩
              case measure => simp [intOf]; omega
          · obtain rfl : j = k := by omega
            have HY := Lib.hid (And.intro hL hpj)
            clear hL hpj
            go_wp2
            go_roundw
            case rel => exact ⟨j + 1, by omega, by go_num, ⟨outer_step HX.out.2.1.1 (by rw [HX.out.2.2]; exact HX.out.1), outer_step HX.out.2.1.2 HY.out.2⟩, HY.out.1⟩
            case measure => simp [intOf]; omega
    · obtain rfl : k = 3 := by omega
      have HX := Lib.hid (And.intro hL (heads_good ho.1 (fun j k hj hk => ho.2 k hk j hj)))
      clear hL ho
      go_wp2_with fail
      refine (specDeviceValid_any _ _ _ _ _ HD.out.1 (HD.out.2.1.kept HX.out.1.2).here hn HD.out.2.2).mono ?_
      rintro e w' ⟨rfl, hk1⟩
      have HK := Lib.hid (grown_trans HX.out.1.2 hk1)
      clear hk1
      go_wp2
      go_ret
      exact ⟨retB (by rw [HX.out.2]; rfl), HK.out⟩
theorem specHeads_val {A : Option Addr} {n c : Nat} {bs : List Bk} {a b h : Int} {V : Bool} {w : World} (hV : (headsB n a b h && devB bs) = V) (hl : bs.length = n) (hr : DRow w w.heap.size A bs) (hn : n ≤ 1048576) (hp : ∀ b, b ∈ bs → b.ps.length ≤ 1048576) :
    Calls Try.prog 111 #[.slice A n c, .agg #[.int .i64 a, .int .i64 b, .int .i64 h]] w (KeptV (.bool V) w) := hV ▸ specHeads_any A n c bs a b h w hl hr hn hp
end Go.Proofs.Yteniikfgellhfaa
namespace Go.Proofs.Yteniikfgellhfaa
open Go.ChangeShapes Go.WideShapes Go.ChangeAt Go.RowKit

theorem cells3 {w : World} {g : Nat} {t : TypeId} {u0 u1 u2 : Value} (h : Blk w g t #[u0, u1, u2]) :
    w.cell? ⟨g, 0, none⟩ = some u0 ∧ w.cell? ⟨g, 1, none⟩ = some u1 ∧ w.cell? ⟨g, 2, none⟩ = some u2 := ⟨h.cell 0, h.cell 1, h.cell 2⟩
theorem frozen3 {w : World} {g : Nat} {t : TypeId} {u0 u1 u2 : Value} (h : Blk w g t #[u0, u1, u2]) :
    w.frozen? ⟨g, 0, none⟩ = false ∧ w.frozen? ⟨g, 1, none⟩ = false ∧ w.frozen? ⟨g, 2, none⟩ = false := ⟨h.frozen 0, h.frozen 1, h.frozen 2⟩
theorem grown_put3 {a w : World} {k : Nat} (h : a.grownBy w none) (hk : a.heap.size ≤ k) (u0 u1 u2 : Value) : a.grownBy (((w.setCell ⟨k, 0, none⟩ u0).setCell ⟨k, 1, none⟩ u1).setCell ⟨k, 2, none⟩ u2) none := grown_put (grown_put (grown_put h hk _) hk _) hk _
/-- The boxed heads, and the device that came in. -/
def FIn (w : World) (A : Option Addr) (bs : List Bk) (a b h : Int) (wr : World) : Prop :=
  Blk wr w.heap.size 77 #[.int .i64 a, .int .i64 b, .int .i64 h] ∧ DRow wr w.heap.size A bs ∧ w.grownBy wr none
section
variable {w wr w' : World} {A : Option Addr} {bs : List Bk} {a b h : Int}
theorem FIn.start (hr : DRow w w.heap.size A bs) : FIn w A bs a b h (w.alloc (.cells #[.int .i64 a, .int .i64 b, .int .i64 h] 77)) := ⟨Blk.new w _ _, hr.alloc _, grown_alloc (grown_refl _ _) _⟩
theorem FIn.keep (H : FIn w A bs a b h wr) (k : wr.grownBy w' none) : FIn w A bs a b h w' := ⟨H.1.keep k, H.2.1.kept k, grown_trans H.2.2 k⟩
end
theorem blk_at3 {w : World} {L : Nat} {t : TypeId} {a b h : Int} (H : Blk w L t #[.int .i64 a, .int .i64 b, .int .i64 h]) {k : Nat} (hk : k < 3) : w.cell? ⟨L, k, none⟩ = some (.int .i64 (hd a b h k)) := by
  match k, hk with
  | 0, _ => exact H.cell 0
  | 1, _ => exact H.cell 1
  | 2, _ => exact H.cell 2
theorem specHeadOf_ok (A : Option Addr) (n c : Nat) (bs : List Bk) (a b h : Int) (j : Nat) (w : World) (hj : j < 3) (hv : (headsB n a b h && devB bs) = true) (hl : bs.length = n) (hr : DRow w w.heap.size A bs) (hn : n ≤ 1048576) (hp : ∀ b, b ∈ bs → b.ps.length ≤ 1048576) :
    Calls Try.prog 113 #[.slice A n c, .agg #[.int .i64 a, .int .i64 b, .int .i64 h], .int .i64 j] w (KeptV (.int .i64 (hd a b h j)) w) := by
  have HD := Lib.hid (And.intro hv (And.intro hl hp))
  have HF := Lib.hid (FIn.start (a := a) (b := b) (h := h) hr)
  have HJ : RowKit.Hid (inB (j : Int) 0 2 = true) := Lib.hid (inB_iff.2 ⟨by omega, by omega⟩)
  clear hv hl hr hp
  go_enter Try.func113, Try.ntmps113
  go_wp2_with fail
  refine (specHeads_val HD.out.1 HD.out.2.1 HF.out.2.1.here hn HD.out.2.2).mono ?_
  rintro e w1 ⟨rfl, hk⟩
  replace HF := Lib.hid (HF.out.keep hk)
  clear hk
  obtain ⟨h0, h1, h2⟩ := cells3 HF.out.1
  have hc : (w1.alloc (.cells #[.int .i64 a, .int .i64 b, .int .i64 h] 3)).cell? ⟨w1.heap.size, j, none⟩ = some (.int .i64 (hd a b h j)) := by
    exact blk_at3 (Blk.new w1 3 #[.int .i64 a, .int .i64 b, .int .i64 h]) hj
  have j3 : (j : Int) < 3 := by omega
  go_wp2_with (go_at_call 95; refine (in_any _ _ _ _).mono ?_; rintro e w' ⟨rfl, rfl⟩; rw [HJ.out])
  go_ret
  exact ⟨rfl, grown_alloc HF.out.2.2 _⟩
/-- The heads with another block for a kind of heat. -/
def hset (a b h : Int) (j : Nat) (v : Int) : Int × Int × Int := match j with
  | 0 => (v, b, h)
  | 1 => (a, v, h)
  | _ => (a, b, v)
def SetMade (a b h : Int) (w : World) (e : Ending) (w' : World) : Prop := e = .returned (.agg #[.int .i64 a, .int .i64 b, .int .i64 h]) ∧ w.grownBy w' none
theorem specSet_any (a b h v a1 b1 h1 : Int) (j : Nat) (w : World) (hj : j < 3) (hs : hset a b h j v = (a1, b1, h1)) :
    Calls Try.prog 117 #[.agg #[.int .i64 a, .int .i64 b, .int .i64 h], .int .i64 j, .int .i64 v] w (SetMade a1 b1 h1 w) := by
  have hj3 : j = 0 ∨ j = 1 ∨ j = 2 := by omega
  rcases hj3 with rfl | rfl | rfl
  · simp only [hset, Prod.mk.injEq] at hs
    obtain ⟨rfl, rfl, rfl⟩ := hs
    go_enter Try.func117, Try.ntmps117
    go_wp2
    exact bodyPost_ret (v := .agg #[.int .i64 v, .int .i64 b, .int .i64 h]) (by simp [results, Try.results117, go_sem, *]) rfl ⟨rfl, grown_alloc (grown_alloc (grown_refl _ _) _) _⟩
  · simp only [hset, Prod.mk.injEq] at hs
    obtain ⟨rfl, rfl, rfl⟩ := hs
    go_enter Try.func117, Try.ntmps117
    go_wp2
    exact bodyPost_ret (v := .agg #[.int .i64 a, .int .i64 v, .int .i64 h]) (by simp [results, Try.results117, go_sem, *]) rfl ⟨rfl, grown_alloc (grown_alloc (grown_refl _ _) _) _⟩
  · simp only [hset, Prod.mk.injEq] at hs
    obtain ⟨rfl, rfl, rfl⟩ := hs
    go_enter Try.func117, Try.ntmps117
    go_wp2
    exact bodyPost_ret (v := .agg #[.int .i64 a, .int .i64 b, .int .i64 v]) (by simp [results, Try.results117, go_sem, *]) rfl ⟨rfl, grown_alloc (grown_alloc (grown_refl _ _) _) _⟩
end Go.Proofs.Yteniikfgellhfaa
