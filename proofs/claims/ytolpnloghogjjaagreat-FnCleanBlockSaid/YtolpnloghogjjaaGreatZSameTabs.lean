/- What the laws' sameInts and sameTable answer; a drawn table in its variable.
   What the law of TablePut carries along. -/
import Derived.Test.YtolpnloghogjjaaGreatZTables7
import Derived.Test.YtolpnloghogjjaaGreatZDrawTabs2
import Derived.BigQuiet
namespace Go.Proofs.YtolpnloghogjjaaGreat
open Go.ChangeShapes Go.WideShapes Go.ChangeAt Go.RowKit
set_option linter.unusedVariables false
set_option linter.unusedSimpArgs false

theorem sameInts_any (A A' : Option Addr) (n n' c c' : Nat) (xs ys : List Int) (w : World) (hl : xs.length = n) (hl' : ys.length = n') (hr : IRow w w.heap.size A xs) (hr' : IRow w w.heap.size A' ys) (hn : n ≤ 1048576) (hn' : n' ≤ 1048576) :
    Calls Tryz.prog 12 #[.slice A n c, .slice A' n' c'] w (KeptV (.bool (decide (xs = ys))) w) := by
  by_cases hnn : n = n'
  · subst hnn
    have HR := Lib.hid (And.intro hl (And.intro hl' (And.intro hr hr')))
    have tn : ((n : Int) != (n : Int)) = false := by simp
    clear hl hl' hr hr'
    go_enter Tryz.func12, Tryz.ntmps12
    go_wp2
    go_loopw [5] (fun i wr => ∃ k : Nat, i = .int .i64 k ∧ k ≤ n ∧ (∀ j, j < k → xs[j]? = ys[j]?) ∧ w.grownBy wr none) (fun i _ => n - (intOf i).toNat)
    case atStart => exact ⟨0, rfl, Nat.zero_le _, fun j hj => absurd hj (by omega), grown_refl _ _⟩
    case round =>
      obtain ⟨k, rfl, hk, hj, hg⟩ := hrel
      by_cases hlt : k < n
      · have hk8 : (k : Int) < n := by omega
        have hk0 : decide ((0 : Int) ≤ k) = true := decide_eq_true (by omega)
        obtain ⟨g, off, rfl⟩ := HR.out.2.2.1.pos (by have := HR.out.1; omega)
        obtain ⟨g', off', rfl⟩ := HR.out.2.2.2.pos (by have := HR.out.2.1; omega)
        obtain ⟨x, hx⟩ : ∃ x, xs[k]? = some x := ⟨_, List.getElem?_eq_getElem (by have := HR.out.1; omega)⟩
        obtain ⟨y, hy⟩ : ∃ y, ys[k]? = some y := ⟨_, List.getElem?_eq_getElem (by have := HR.out.2.1; omega)⟩
        have c0 := IRow.cellf (VRow.kept HR.out.2.2.1 hg) hx
        have c1 := IRow.cellf (VRow.kept HR.out.2.2.2 hg) hy
        have HX := Lib.hid (And.intro hg (And.intro hj (And.intro hx hy)))
        clear hg hj hx hy
        by_cases e : x = y
        · have e1 : (x != y) = false := by simp [e]
          have HE := Lib.hid e
          clear e
          go_wp2
          go_quiet (fail)
          all_goals go_wp2
          go_roundw
          case rel =>
            refine ⟨k + 1, by go_num, by omega, fun j hj => ?_, grown_drewN HX.out.1 _⟩
            rcases Nat.lt_or_ge j k with h1 | h1
            · exact HX.out.2.1 j h1
            · obtain rfl : j = k := by omega
              rw [HX.out.2.2.1, HX.out.2.2.2, HE.out]
          case measure => simp [intOf]; omega
        · have e1 : (x != y) = true := by simp [e]
          have HE : RowKit.Hid (decide (xs = ys) = false) := Lib.hid (decide_eq_false (fun h => e (by have h1 := HX.out.2.2.1; rw [h, HX.out.2.2.2] at h1; injection h1 with h1; exact h1.symm)))
          clear e
          go_wp2
          go_quiet (fail)
          all_goals go_wp2
          all_goals (go_ret; exact ⟨retB HE.out.symm, grown_drewN HX.out.1 _⟩)
      · obtain rfl : k = n := by omega
        have HE : RowKit.Hid (decide (xs = ys) = true) := Lib.hid (decide_eq_true (List.ext_getElem? fun j => by
          rcases Nat.lt_or_ge j k with h1 | h1
          · exact hj j h1
          · rw [List.getElem?_eq_none (by have := HR.out.1; omega), List.getElem?_eq_none (by have := HR.out.2.1; omega)]))
        have HG := Lib.hid hg
        clear hj hg
        go_wp2
        go_ret
        exact ⟨retB HE.out.symm, HG.out⟩
  · have tn : ((n : Int) != (n' : Int)) = true := by simp; omega
    have HE : RowKit.Hid (decide (xs = ys) = false) := Lib.hid (decide_eq_false (fun h => hnn (by rw [← hl, ← hl', h])))
    clear hl hl' hr hr' hnn
    go_enter Tryz.func12, Tryz.ntmps12
    go_wp2
    go_ret
    exact ⟨retB HE.out.symm, grown_refl _ _⟩
theorem sameInts_val {A A' : Option Addr} {n n' c c' : Nat} {xs ys : List Int} {w : World} {V : Bool} (hV : decide (xs = ys) = V) (hl : xs.length = n) (hl' : ys.length = n') (hr : IRow w w.heap.size A xs) (hr' : IRow w w.heap.size A' ys) (hn : n ≤ 1048576) (hn' : n' ≤ 1048576) :
    Calls Tryz.prog 12 #[.slice A n c, .slice A' n' c'] w (KeptV (.bool V) w) := hV ▸ sameInts_any A A' n n' c c' xs ys w hl hl' hr hr' hn hn'
theorem sameTable_any (A A' : Option Addr) (n n' c c' : Nat) (ls ms : List Li) (w : World) (hl : ls.length = n) (hl' : ms.length = n') (hr : TRow w w.heap.size A ls) (hr' : TRow w w.heap.size A' ms) (hn : n ≤ 1048576) (hn' : n' ≤ 1048576) (hp : ∀ l, l ∈ ls → l.xs.length ≤ 1048576) (hp' : ∀ l, l ∈ ms → l.xs.length ≤ 1048576) :
    Calls Tryz.prog 9 #[.agg #[.slice A n c], .agg #[.slice A' n' c']] w (KeptV (.bool (decide (ll ls = ll ms))) w) := by
  have HT := Lib.hid (TIn3.start hr hr' n c n' c')
  have b1 := HT.out.2.1.cell 0
  have b2 := HT.out.1.cell 0
  by_cases hnn : n = n'
  · subst hnn
    have HR := Lib.hid (And.intro hl (And.intro hl' (And.intro hp hp')))
    have tn : ((n : Int) != (n : Int)) = false := by simp
    clear hl hl' hr hr' hp hp'
    go_enter Tryz.func9, Tryz.ntmps9
    go_wp2
    go_loopw [5] (fun i wr => ∃ k : Nat, i = .int .i64 k ∧ k ≤ n ∧ (∀ j, j < k → (ll ls)[j]? = (ll ms)[j]?) ∧ TIn3 w A n c ls A' n c' ms wr) (fun i _ => n - (intOf i).toNat)
    case atStart => exact ⟨0, rfl, Nat.zero_le _, fun j hj => absurd hj (by omega), HT.out⟩
    case round =>
      clear b1 b2
      obtain ⟨k, rfl, hk, hj, hT0⟩ := hrel
      have a0 : wr.cell? ⟨w.heap.size, 0, none⟩ = some (.slice A n c) := hT0.1.cell 0
      have a1 : wr.cell? ⟨w.heap.size + 1, 0, none⟩ = some (.slice A' n c') := hT0.2.1.cell 0
      by_cases hlt : k < n
      · have hk8 : (k : Int) < n := by omega
        have hk0 : decide ((0 : Int) ≤ k) = true := decide_eq_true (by omega)
        obtain ⟨g, off, rfl⟩ := hT0.2.2.1.pos (by have := HR.out.1; omega)
        obtain ⟨g', off', rfl⟩ := hT0.2.2.2.1.pos (by have := HR.out.2.1; omega)
        obtain ⟨⟨Al, cl, xs⟩, hx⟩ : ∃ l, ls[k]? = some l := ⟨_, List.getElem?_eq_getElem (by have := HR.out.1; omega)⟩
        obtain ⟨⟨Al', cl', ys⟩, hy⟩ : ∃ l, ms[k]? = some l := ⟨_, List.getElem?_eq_getElem (by have := HR.out.2.1; omega)⟩
        have hpl := HR.out.2.2.1 _ (List.mem_of_getElem? hx)
        have hpl' := HR.out.2.2.2 _ (List.mem_of_getElem? hy)
        dsimp only at hpl hpl'
        have hT := hT0.2.2.1
        have hT' := hT0.2.2.2.1
        have c0 := hT.cellf hx rfl
        have c1 := hT'.cellf hy rfl
        have d0 : ∀ (w' : World), wr.drew.grownBy w' none → w'.cell? ⟨w.heap.size, 0, none⟩ = some (.slice (some ⟨g, off, none⟩) n c) ∧ w'.cell? ⟨w.heap.size + 1, 0, none⟩ = some (.slice (some ⟨g', off', none⟩) n c') ∧ w'.cell? ⟨g, off + k, none⟩ = some (.slice Al xs.length cl) ∧ w'.cell? ⟨g', off' + k, none⟩ = some (.slice Al' ys.length cl') := fun w' h =>
          ⟨(hT0.1.drew.keep h).cell 0, (hT0.2.1.drew.keep h).cell 0, (TRow.kept (TRow.drew hT) h).cellf hx rfl, (TRow.kept (TRow.drew hT') h).cellf hy rfl⟩
        have HX := Lib.hid (And.intro hT0 (And.intro hj (And.intro (show IRow wr.drew wr.drew.heap.size Al xs from (VRow.drew (hT.inner hx)).here) (And.intro (show IRow wr.drew wr.drew.heap.size Al' ys from (VRow.drew (hT'.inner hy)).here) d0))))
        have HY := Lib.hid (And.intro (ll_at hx) (ll_at hy))
        clear hT0 hj hx hy hT hT' d0
        by_cases e : xs = ys
        · have HE : RowKit.Hid (decide (xs = ys) = true) := Lib.hid (decide_eq_true e)
          have HE2 := Lib.hid e
          clear e
          go_wp2
          refine wp_region_held_drew (S := (fun w' => w'.cell? ⟨w.heap.size, 0, none⟩ = some (.slice (some ⟨g, off, none⟩) n c) ∧ w'.cell? ⟨w.heap.size + 1, 0, none⟩ = some (.slice (some ⟨g', off', none⟩) n c') ∧ w'.cell? ⟨g, off + k, none⟩ = some (.slice Al xs.length cl) ∧ w'.cell? ⟨g', off' + k, none⟩ = some (.slice Al' ys.length cl'))) (by kernel_rfl) ?_ (fun hHeld => ?_)
          · first | exact ⟨a0, a1, c0, c1⟩ | exact b0
          refine heldY 0 20 ?_
          refine heldY 1 21 ?_
          refine heldY 2 22 ?_
          refine heldY 3 23 ?_
          refine heldY 4 24 ?_
          refine heldY 5 25 ?_
          refine heldY 6 26 ?_
          refine heldY 7 27 ?_
          refine heldY 8 28 ?_
          refine heldY 9 29 ?_
          refine wpAnyH_ready (rs := [10]) (by kernel_rfl) (by simp) ?_
          refine AllReadyH.cons rfl (fun K hK => ?_) AllReadyH.nil
          go_simp
          go_at_call 12; ((with_reducible refine (sameInts_val HE.out rfl rfl HX.out.2.2.1 HX.out.2.2.2.1 hpl hpl').mono ?_); rintro e w1 ⟨rfl, hk1⟩; have HK := Lib.hid hk1; have b0 := HX.out.2.2.2.2 _ hk1; clear hk1)
          refine hK.out _ _ ?_ (fun hHeld => ?_)
          · first | exact ⟨a0, a1, c0, c1⟩ | exact b0
          clear hK K
          try simp only [Act.put, List.setIfInBounds_toArray, List.set_cons_zero, List.set_cons_succ]
          refine heldY 11 31 ?_
          refine wpAnyH_done (by kernel_rfl) ?_ _
          go_wp2
          go_roundw
          case rel =>
            refine ⟨k + 1, by go_num, by omega, fun j hj => ?_, HX.out.1.keep (grown_trans (grown_drew (grown_refl _ _)) HK.out)⟩
            rcases Nat.lt_or_ge j k with h1 | h1
            · exact HX.out.2.1 j h1
            · obtain rfl : j = k := by omega
              rw [HY.out.1, HY.out.2, HE2.out]
          case measure => simp [intOf]; omega
        · have HE : RowKit.Hid (decide (xs = ys) = false) := Lib.hid (decide_eq_false e)
          have HF : RowKit.Hid (decide (ll ls = ll ms) = false) := Lib.hid (decide_eq_false (fun h => e (by have h1 := HY.out.1; rw [h, HY.out.2] at h1; injection h1 with h1; exact h1.symm)))
          clear e
          go_wp2
          refine wp_region_held_drew (S := (fun w' => w'.cell? ⟨w.heap.size, 0, none⟩ = some (.slice (some ⟨g, off, none⟩) n c) ∧ w'.cell? ⟨w.heap.size + 1, 0, none⟩ = some (.slice (some ⟨g', off', none⟩) n c') ∧ w'.cell? ⟨g, off + k, none⟩ = some (.slice Al xs.length cl) ∧ w'.cell? ⟨g', off' + k, none⟩ = some (.slice Al' ys.length cl'))) (by kernel_rfl) ?_ (fun hHeld => ?_)
          · first | exact ⟨a0, a1, c0, c1⟩ | exact b0
          refine heldY 0 20 ?_
          refine heldY 1 21 ?_
          refine heldY 2 22 ?_
          refine heldY 3 23 ?_
          refine heldY 4 24 ?_
          refine heldY 5 25 ?_
          refine heldY 6 26 ?_
          refine heldY 7 27 ?_
          refine heldY 8 28 ?_
          refine heldY 9 29 ?_
          refine wpAnyH_ready (rs := [10]) (by kernel_rfl) (by simp) ?_
          refine AllReadyH.cons rfl (fun K hK => ?_) AllReadyH.nil
          go_simp
          go_at_call 12; ((with_reducible refine (sameInts_val HE.out rfl rfl HX.out.2.2.1 HX.out.2.2.2.1 hpl hpl').mono ?_); rintro e w1 ⟨rfl, hk1⟩; have HK := Lib.hid hk1; have b0 := HX.out.2.2.2.2 _ hk1; clear hk1)
          refine hK.out _ _ ?_ (fun hHeld => ?_)
          · first | exact ⟨a0, a1, c0, c1⟩ | exact b0
          clear hK K
          try simp only [Act.put, List.setIfInBounds_toArray, List.set_cons_zero, List.set_cons_succ]
          refine heldY 11 31 ?_
          refine wpAnyH_done (by kernel_rfl) ?_ _
          go_wp2
          go_ret
          exact ⟨retB HF.out.symm, (HX.out.1.keep (grown_trans (grown_drew (grown_refl _ _)) HK.out)).2.2.2.2⟩
      · obtain rfl : k = n := by omega
        have HE : RowKit.Hid (decide (ll ls = ll ms) = true) := Lib.hid (decide_eq_true (List.ext_getElem? fun j => by
          rcases Nat.lt_or_ge j k with h1 | h1
          · exact hj j h1
          · rw [List.getElem?_eq_none (by rw [ll_length]; have := HR.out.1; omega), List.getElem?_eq_none (by rw [ll_length]; have := HR.out.2.1; omega)]))
        have HG := Lib.hid hT0.2.2.2.2
        clear hj hT0
        go_wp2
        go_ret
        exact ⟨retB HE.out.symm, HG.out⟩
  · have tn : ((n : Int) != (n' : Int)) = true := by simp; omega
    have HE : RowKit.Hid (decide (ll ls = ll ms) = false) := Lib.hid (decide_eq_false (fun h => hnn (by rw [← hl, ← hl', ← ll_length, h, ll_length])))
    clear hl hl' hr hr' hnn
    go_enter Tryz.func9, Tryz.ntmps9
    go_wp2
    go_ret
    exact ⟨retB HE.out.symm, HT.out.2.2.2.2⟩
theorem sameTable_val {A A' : Option Addr} {n n' c c' : Nat} {ls ms : List Li} {w : World} {V : Bool} (hV : decide (ll ls = ll ms) = V) (hl : ls.length = n) (hl' : ms.length = n') (hr : TRow w w.heap.size A ls) (hr' : TRow w w.heap.size A' ms) (hn : n ≤ 1048576) (hn' : n' ≤ 1048576) (hp : ∀ l, l ∈ ls → l.xs.length ≤ 1048576) (hp' : ∀ l, l ∈ ms → l.xs.length ≤ 1048576) :
    Calls Tryz.prog 9 #[.agg #[.slice A n c], .agg #[.slice A' n' c']] w (KeptV (.bool V) w) := hV ▸ sameTable_any A A' n n' c c' ls ms w hl hl' hr hr' hn hn' hp hp'
section
variable {w : World} {A A' : Option Addr} {n c n' c' : Nat} {ls ls' : List Li} {f k : Int} {V : Int}
end
end Go.Proofs.YtolpnloghogjjaaGreat
namespace Go.Proofs.YtolpnloghogjjaaGreat
open Go.ChangeShapes Go.WideShapes Go.ChangeAt Go.RowKit
set_option linter.unusedVariables false

section
variable {w wr w' : World} {V : Nat} {A : Option Addr} {n c : Nat} {ls cs : List Li}
end
section
variable {w : World} {A : Option Addr} {n c : Nat} {ls : List Li} {f k x : Int} {X : List (List Int)} {r : Bool}
end
end Go.Proofs.YtolpnloghogjjaaGreat
