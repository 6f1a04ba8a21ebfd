/- What the laws' sameInts and sameTable answer; a drawn table in its variable.
   What the law of TablePut carries along. -/
import Derived.Test.YteniikfgellhfaaTables7
import Derived.Test.YteniikfgellhfaaDrawTabs2
import Derived.BigQuiet
namespace Go.Proofs.Yteniikfgellhfaa
open Go.ChangeShapes Go.WideShapes Go.ChangeAt Go.RowKit
set_option linter.unusedVariables false
set_option linter.unusedSimpArgs false

theorem sameInts_any (A A' : Option Addr) (n n' c c' : Nat) (xs ys : List Int) (w : World) (hl : xs.length = n) (hl' : ys.length = n') (hr : IRow w w.heap.size A xs) (hr' : IRow w w.heap.size A' ys) (hn : n ≤ 1048576) (hn' : n' ≤ 1048576) :
    Calls Try.prog 13 #[.slice A n c, .slice A' n' c'] w (KeptV (.bool (decide (xs = ys))) w) := by
  by_cases hnn : n = n'
  · subst hnn
    have HR := Lib.hid (And.intro hl (And.intro hl' (And.intro hr hr')))
    have tn : ((n : Int) != (n : Int)) = false := by simp
    clear hl hl' hr hr'
    go_enter Try.func13, Try.ntmps13
    go_wp2
    go_loopw [5] (fun i wr => ∃ k : Nat, i = .int .i64 k ∧ k ≤ n ∧ (∀ j, j < k → xs[j]? = ys[j]?) ∧ w.grownBy wr none) (fun i _ => n - (intOf i).toNat)
    case atStart => exact ⟨0, rfl, Nat.zero_le _, fun j hj => absurd hj (by omega), grown_refl _ _⟩
    case round =>
      obtain ⟨k, rfl, hk, hj, hg⟩ := hrel
      by_cases hlt : k < n
      · have hk8 : (k : Int) < n := by omega
        have hk0 : decide ((0 : Int) ≤ k) = true := decide_eq_true (by omega)
        obtain ⟨g, off, rfl⟩ := HR.out.2.2.1.pos (by have := HR.out.1; omega)
        obtain ⟨g', off', rfl⟩ := HR.out.2.2.2.pos (by have := HR.out.2.1; omega)
        obtain ⟨x, hx⟩ : ∃ x, xs[k]? = some x := ⟨_, List.getElem?_eq_getElem (by have := HR.out.1; omega)⟩
        obtain ⟨y, hy⟩ : ∃ y, ys[k]? = some y := ⟨_, List.getElem?_eq_getElem (by have := HR.out.2.1; omega)⟩
        have c0 := IRow.cellf (VRow.kept HR.out.2.2.1 hg) hx
        have c1 := IRow.cellf (VRow.kept HR.out.2.2.2 hg) hy
        have HX := Lib.hid (And.intro hg (And.intro hj (And.intro hx hy)))
        clear hg hj hx hy
        by_cases e : x = y
        · have e1 : (x != y) = false := by simp [e]
          have HE := Lib.hid e
          clear e
          go_wp2
          go_quiet (fail)
          all_goals go_wp2
          go_roundw
          case rel =>
            refine ⟨k + 1, by go_num, by omega, fun j hj => ?_, grown_drewN HX.out.1 _⟩
            rcases Nat.lt_or_ge j k with h1 | h1
            · exact HX.out.2.1 j h1
            · obtain rfl : j = k := by omega
              rw [HX.out.2.2.1, HX.out.2.2.2, HE.out]
          case measure => simp [intOf]; omega
        · have e1 : (x != y) = true := by simp [e]
          have HE : RowKit.Hid (decide (xs = ys) = false) := Lib.hid (decide_eq_false (fun h => e (by have h1 := HX.out.2.2.1; rw [h, HX.out.2.2.2] at h1; injection h1 with h1; exact h1.symm)))
          clear e
          go_wp2
          go_quiet (fail)
          all_goals go_wp2
          all_goals (go_ret; exact ⟨retB HE.out.symm, grown_drewN HX.out.1 _⟩)
      · obtain rfl : k = n := by omega
        have HE : RowKit.Hid (decide (xs = ys) = true) := Lib.hid (decide_eq_true (List.ext_getElem? fun j => by
          rcases Nat.lt_or_ge j k with h1 | h1
          · exact hj j h1
          · rw [List.getElem?_eq_none (by have := HR.out.1; omega), List.getElem?_eq_none (by have := HR.out.2.1; omega)]))
        have HG := Lib.hid hg
        clear hj hg
        go_wp2
        go_ret
        exact ⟨retB HE.out.symm, HG.out⟩
  · have tn : ((n : Int) != (n' : Int)) = true := by simp; omega
    have HE : RowKit.Hid (decide (xs = ys) = false) := Lib.hid (decide_eq_false (fun h => hnn (by rw [← hl, ← hl', h])))
    clear hl hl' hr hr' hnn
    go_enter Try.func13, Try.ntmps13
    go_wp2
    go_ret
    exact ⟨retB HE.out.symm, grown_refl _ _⟩
theorem sameInts_val {A A' : Option Addr} {n n' c c' : Nat} {xs ys : List Int} {w : World} {V : Bool} (hV : decide (xs = ys) = V) (hl : xs.length = n) (hl' : ys.length = n') (hr : IRow w w.heap.size A xs) (hr' : IRow w w.heap.size A' ys) (hn : n ≤ 1048576) (hn' : n' ≤ 1048576) :
    Calls Try.prog 13 #[.slice A n c, .slice A' n' c'] w (KeptV (.bool V) w) := hV ▸ sameInts_any A A' n n' c c' xs ys w hl hl' hr hr' hn hn'
theorem sameTable_any (A A' : Option Addr) (n n' c c' : Nat) (ls ms : List Li) (w : World) (hl : ls.length = n) (hl' : ms.length = n') (hr : TRow w w.heap.size A ls) (hr' : TRow w w.heap.size A' ms) (hn : n ≤ 1048576) (hn' : n' ≤ 1048576) (hp : ∀ l, l ∈ ls → l.xs.length ≤ 1048576) (hp' : ∀ l, l ∈ ms → l.xs.length ≤ 1048576) :
    Calls Try.prog 22 #[.agg #[.slice A n c], .agg #[.slice A' n' c']] w (KeptV (.bool (decide (ll ls = ll ms))) w) := by
  have HT := Lib.hid (TIn3.start hr hr' n c n' c')
  have b1 := HT.out.2.1.cell 0
  have b2 := HT.out.1.cell 0
  by_cases hnn : n = n'
  · subst hnn
    have HR := Lib.hid (And.intro hl (And.intro hl' (And.intro hp hp')))
    have tn : ((n : Int) != (n : Int)) = false := by simp
    clear hl hl' hr hr' hp hp'
    go_enter Try.func22, Try.ntmps22
    go_wp2
    go_loopw [5] (fun i wr => ∃ k : Nat, i = .int .i64 k ∧ k ≤ n ∧ (∀ j, j < k → (ll ls)[j]? = (ll ms)[j]?) ∧ TIn3 w A n c ls A' n c' ms wr) (fun i _ => n - (intOf i).toNat)
    case atStart => exact ⟨0, rfl, Nat.zero_le _, fun j hj => absurd hj (by omega), HT.out⟩
    case round =>
      clear b1 b2
      obtain ⟨k, rfl, hk, hj, hT0⟩ := hrel
      have a0 : wr.cell? ⟨w.heap.size, 0, none⟩ = some (.slice A n c) := hT0.1.cell 0
      have a1 : wr.cell? ⟨w.heap.size + 1, 0, none⟩ = some (.slice A' n c') := hT0.2.1.cell 0
      by_cases hlt : k < n
      · have hk8 : (k : Int) < n := by omega
        have hk0 : decide ((0 : Int) ≤ k) = true := decide_eq_true (by omega)
        obtain ⟨g, off, rfl⟩ := hT0.2.2.1.pos (by have := HR.out.1; omega)
        obtain ⟨g', off', rfl⟩ := hT0.2.2.2.1.pos (by have := HR.out.2.1; omega)
        obtain ⟨⟨Al, cl, xs⟩, hx⟩ : ∃ l, ls[k]? = some l := ⟨_, List.getElem?_eq_getElem (by have := HR.out.1; omega)⟩
        obtain ⟨⟨Al', cl', ys⟩, hy⟩ : ∃ l, ms[k]? = some l := ⟨_, List.getElem?_eq_getElem (by have := HR.out.2.1; omega)⟩
        have hpl := HR.out.2.2.1 _ (List.mem_of_getElem? hx)
        have hpl' := HR.out.2.2.2 _ (List.mem_of_getElem? hy)
        dsimp only at hpl hpl'
        have hT := hT0.2.2.1
        have hT' := hT0.2.2.2.1
        have c0 := hT.cellf hx rfl
        have c1 := hT'.cellf hy rfl
        have d0 : ∀ (w' : World), wr.drew.grownBy w' none → w'.cell? ⟨w.heap.size, 0, none⟩ = some (.slice (some ⟨g, off, none⟩) n c) ∧ w'.cell? ⟨w.heap.size + 1, 0, none⟩ = some (.slice (some ⟨g', off', none⟩) n c') ∧ w'.cell? ⟨g, off + k, none⟩ = some (.slice Al xs.length cl) ∧ w'.cell? ⟨g', off' + k, none⟩ = some (.slice Al' ys.length cl') := fun w' h =>
          ⟨(hT0.1.drew.keep h).cell 0, (hT0.2.1.drew.keep h).cell 0, (TRow.kept (TRow.drew hT) h).cellf hx rfl, (TRow.kept (TRow.drew hT') h).cellf hy rfl⟩
        have HX := Lib.hid (And.intro hT0 (And.intro hj (And.intro (show IRow wr.drew wr.drew.heap.size Al xs from (VRow.drew (hT.inner hx)).here) (And.intro (show IRow wr.drew wr.drew.heap.size Al' ys from (VRow.drew (hT'.inner hy)).here) d0))))
        have HY := Lib.hid (And.intro (ll_at hx) (ll_at hy))
        clear hT0 hj hx hy hT hT' d0
        by_cases e : xs = ys
        · have HE : RowKit.Hid (decide (xs = ys) = true) := Lib.hid (decide_eq_true e)
          have HE2 := Lib.hid e
          clear e
          go_wp2
          refine wp_region_held_drew (S := (fun w' => w'.cell? ⟨w.heap.size, 0, none⟩ = some (.slice (some ⟨g, off, none⟩) n c) ∧ w'.cell? ⟨w.heap.size + 1, 0, none⟩ = some (.slice (some ⟨g', off', none⟩) n c') ∧ w'.cell? ⟨g, off + k, none⟩ = some (.slice Al xs.length cl) ∧ w'.cell? ⟨g', off' + k, none⟩ = some (.slice Al' ys.length cl'))) (by kernel_rfl) ?_ (fun hHeld => ?_)
          · first | exact ⟨a0, a1, c0, c1⟩ | exact b0
          refine heldY 0 20 ?_
          refine heldY 1 21 ?_
          refine heldY 2 22 ?_
          refine heldY 3 23 ?_
          refine heldY 4 24 ?_
          refine heldY 5 25 ?_
          refine heldY 6 26 ?_
          refine heldY 7 27 ?_
          refine heldY 8 28 ?_
          refine heldY 9 29 ?_
          refine wpAnyH_ready (rs := [10]) (by kernel_rfl) (by simp) ?_
          refine AllReadyH.cons rfl (fun K hK => ?_) AllReadyH.nil
          go_simp
          go_at_call 13; ((with_reducible refine (sameInts_val HE.out rfl rfl HX.out.2.2.1 HX.out.2.2.2.1 hpl hpl').mono ?_); rintro e w1 ⟨rfl, hk1⟩; have HK := Lib.hid hk1; have b0 := HX.out.2.2.2.2 _ hk1; clear hk1)
          refine hK.out _ _ ?_ (fun hHeld => ?_)
          · first | exact ⟨a0, a1, c0, c1⟩ | exact b0
          clear hK K
          try simp only [Act.put, List.setIfInBounds_toArray, List.set_cons_zero, List.set_cons_succ]
          refine heldY 11 31 ?_
          refine wpAnyH_done (by kernel_rfl) ?_ _
          go_wp2
          go_roundw
          case rel =>
            refine ⟨k + 1, by go_num, by omega, fun j hj => ?_, HX.out.1.keep (grown_trans (grown_drew (grown_refl _ _)) HK.out)⟩
            rcases Nat.lt_or_ge j k with h1 | h1
            · exact HX.out.2.1 j h1
            · obtain rfl : j = k := by omega
              rw [HY.out.1, HY.out.2, HE2.out]
          case measure => simp [intOf]; omega
        · have HE : RowKit.Hid (decide (xs = ys) = false) := Lib.hid (decide_eq_false e)
          have HF : RowKit.Hid (decide (ll ls = ll ms) = false) := Lib.hid (decide_eq_false (fun h => e (by have h1 := HY.out.1; rw [h, HY.out.2] at h1; injection h1 with h1; exact h1.symm)))
          clear e
          go_wp2
          refine wp_region_held_drew (S := (fun w' => w'.cell? ⟨w.heap.size, 0, none⟩ = some (.slice (some ⟨g, off, none⟩) n c) ∧ w'.cell? ⟨w.heap.size + 1, 0, none⟩ = some (.slice (some ⟨g', off', none⟩) n c') ∧ w'.cell? ⟨g, off + k, none⟩ = some (.slice Al xs.length cl) ∧ w'.cell? ⟨g', off' + k, none⟩ = some (.slice Al' ys.length cl'))) (by kernel_rfl) ?_ (fun hHeld => ?_)
          · first | exact ⟨a0, a1, c0, c1⟩ | exact b0
          refine heldY 0 20 ?_
          refine heldY 1 21 ?_
          refine heldY 2 22 ?_
          refine heldY 3 23 ?_
          refine heldY 4 24 ?_
          refine heldY 5 25 ?_
          refine heldY 6 26 ?_
          refine heldY 7 27 ?_
          refine heldY 8 28 ?_
          refine heldY 9 29 ?_
          refine wpAnyH_ready (rs := [10]) (by kernel_rfl) (by simp) ?_
          refine AllReadyH.cons rfl (fun K hK => ?_) AllReadyH.nil
          go_simp
          go_at_call 13; ((with_reducible refine (sameInts_val HE.out rfl rfl HX.out.2.2.1 HX.out.2.2.2.1 hpl hpl').mono ?_); rintro e w1 ⟨rfl, hk1⟩; have HK := Lib.hid hk1; have b0 := HX.out.2.2.2.2 _ hk1; clear hk1)
          refine hK.out _ _ ?_ (fun hHeld => ?_)
          · first | exact ⟨a0, a1, c0, c1⟩ | exact b0
          clear hK K
          try simp only [Act.put, List.setIfInBounds_toArray, List.set_cons_zero, List.set_cons_succ]
          refine heldY 11 31 ?_
          refine wpAnyH_done (by kernel_rfl) ?_ _
          go_wp2
          go_ret
          exact ⟨retB HF.out.symm, (HX.out.1.keep (grown_trans (grown_drew (grown_refl _ _)) HK.out)).2.2.2.2⟩
      · obtain rfl : k = n := by omega
        have HE : RowKit.Hid (decide (ll ls = ll ms) = true) := Lib.hid (decide_eq_true (List.ext_getElem? fun j => by
          rcases Nat.lt_or_ge j k with h1 | h1
          · exact hj j h1
          · rw [List.getElem?_eq_none (by rw [ll_length]; have := HR.out.1; omega), List.getElem?_eq_none (by rw [ll_length]; have := HR.out.2.1; omega)]))
        have HG := Lib.hid hT0.2.2.2.2
        clear hj hT0
        go_wp2
        go_ret
        exact ⟨retB HE.out.symm, HG.out⟩
  · have tn : ((n : Int) != (n' : Int)) = true := by simp; omega
    have HE : RowKit.Hid (decide (ll ls = ll ms) = false) := Lib.hid (decide_eq_false (fun h => hnn (by rw [← hl, ← hl', ← ll_length, h, ll_length])))
    clear hl hl' hr hr' hnn
    go_enter Try.func22, Try.ntmps22
    go_wp2
    go_ret
    exact ⟨retB HE.out.symm, HT.out.2.2.2.2⟩
theorem sameTable_val {A A' : Option Addr} {n n' c c' : Nat} {ls ms : List Li} {w : World} {V : Bool} (hV : decide (ll ls = ll ms) = V) (hl : ls.length = n) (hl' : ms.length = n') (hr : TRow w w.heap.size A ls) (hr' : TRow w w.heap.size A' ms) (hn : n ≤ 1048576) (hn' : n' ≤ 1048576) (hp : ∀ l, l ∈ ls → l.xs.length ≤ 1048576) (hp' : ∀ l, l ∈ ms → l.xs.length ≤ 1048576) :
    Calls Try.prog 22 #[.agg #[.slice A n c], .agg #[.slice A' n' c']] w (KeptV (.bool V) w) := hV ▸ sameTable_any A A' n n' c c' ls ms w hl hl' hr hr' hn hn' hp hp'
/-- A drawn table in its variable V while the law walks on. -/
def LV (w : World) (V : Nat) (A : Option Addr) (n c : Nat) (ls : List Li) (wr : World) : Prop := Blk wr V 40 #[.slice A n c] ∧ TRow wr wr.heap.size A ls ∧ Below w.heap.size w wr
theorem LV.keep {w wr w' : World} {V : Nat} {A : Option Addr} {n c : Nat} {ls : List Li} (h : LV w V A n c ls wr) (k : wr.grownBy w' none) : LV w V A n c ls w' := ⟨h.1.keep k, (h.2.1.kept k).here, Below.and_kept h.2.2 k⟩
theorem LV.cell {w wr : World} {V : Nat} {A : Option Addr} {n c : Nat} {ls : List Li} (h : LV w V A n c ls wr) : wr.cell? ⟨V, 0, none⟩ = some (.slice A n c) := h.1.cell 0
theorem LV.start {w wr : World} {A : Option Addr} {ls : List Li} (h : LT w A ls wr) (n c : Nat) : LV w wr.heap.size A n c ls (wr.alloc (.cells #[.slice A n c] 40)) := ⟨Blk.new wr _ _, (h.1.alloc _).here, (h.alloc _).2⟩
/-- A table that a call has made goes into a variable. -/
theorem LV.made {w wr w' : World} {A : Option Addr} {n c : Nat} {cs : List Li} {base : Nat} (hb : Below w.heap.size w wr) (ho : TOwn w' base (.slice A n c) cs) (hk : wr.grownBy w' none) : LV w w'.heap.size A n c cs (w'.alloc (.cells #[.slice A n c] 40)) :=
  ⟨Blk.new w' _ _, (ho.row.alloc _).here, Below.and_kept hb (grown_alloc hk _)⟩
section
variable {w : World} {A A' : Option Addr} {n c n' c' : Nat} {ls ls' : List Li} {f k : Int} {V : Int}
theorem get_v (h : tgetV (ll ls) f k = V) (hl : ls.length = n) (hr : TRow w w.heap.size A ls) (hn : n ≤ 1048576) (hp : ∀ l, l ∈ ls → l.xs.length ≤ 1048576) :
    Calls Try.prog 25 #[.agg #[.slice A n c], .int .i64 f, .int .i64 k] w (KeptV (.int .i64 V) w) := h ▸ tableGet_any A n c ls f k w hl hr hn hp
end
end Go.Proofs.Yteniikfgellhfaa
namespace Go.Proofs.Yteniikfgellhfaa
open Go.ChangeShapes Go.WideShapes Go.ChangeAt Go.RowKit
set_option linter.unusedVariables false

/-- A table in a variable V, all of it before V, while the law walks on. -/
def LW (w : World) (V : Nat) (A : Option Addr) (n c : Nat) (ls : List Li) (wr : World) : Prop := Blk wr V 40 #[.slice A n c] ∧ TRow wr V A ls ∧ Below w.heap.size w wr ∧ w.heap.size ≤ V
section
variable {w wr w' : World} {V : Nat} {A : Option Addr} {n c : Nat} {ls cs : List Li}
theorem LW.keep (h : LW w V A n c ls wr) (k : wr.grownBy w' none) : LW w V A n c ls w' := ⟨h.1.keep k, h.2.1.kept k, Below.and_kept h.2.2.1 k, h.2.2.2⟩
theorem LW.cell (h : LW w V A n c ls wr) : wr.cell? ⟨V, 0, none⟩ = some (.slice A n c) := h.1.cell 0
theorem LW.row (h : LW w V A n c ls wr) : TRow wr wr.heap.size A ls := h.2.1.here
theorem LW.start (h : LT w A ls wr) (n c : Nat) : LW w wr.heap.size A n c ls (wr.alloc (.cells #[.slice A n c] 40)) := ⟨Blk.new wr _ _, h.1.alloc _, (h.alloc _).2, h.2.size⟩
theorem LW.made {base : Nat} (hb : Below w.heap.size w wr) (ho : TOwn w' base (.slice A n c) cs) (hk : wr.grownBy w' none) : LW w w'.heap.size A n c cs (w'.alloc (.cells #[.slice A n c] 40)) :=
  ⟨Blk.new w' _ _, ho.row.alloc _, Below.and_kept hb (grown_alloc hk _), Nat.le_trans hb.size hk.size⟩
theorem LW.far (h : LW w V A n c ls wr) {D : Nat} (hD : V < D) (u : Value) : LW w V A n c ls (wr.setCell ⟨D, 0, none⟩ u) :=
  ⟨h.1.far (by dsimp only; omega) u, h.2.1.put (p := ⟨D, 0, none⟩) (by dsimp only; omega) u, h.2.2.1.setCell (show w.heap.size ≤ D by have := h.2.2.2; omega) u, h.2.2.2⟩
/-- A table that a call has made goes into a variable that was made before the call. -/
def LX (w : World) (D : Nat) (A : Option Addr) (n c : Nat) (ls : List Li) (wr : World) : Prop := Blk wr D 40 #[.slice A n c] ∧ TRow wr wr.heap.size A ls ∧ Below w.heap.size w wr
theorem LX.keep {D : Nat} (h : LX w D A n c ls wr) (k : wr.grownBy w' none) : LX w D A n c ls w' := ⟨h.1.keep k, (h.2.1.kept k).here, Below.and_kept h.2.2 k⟩
theorem LX.cell {D : Nat} (h : LX w D A n c ls wr) : wr.cell? ⟨D, 0, none⟩ = some (.slice A n c) := h.1.cell 0
theorem LX.made {base : Nat} (hb : Below w.heap.size w wr) (ho : TOwn w' base (.slice A n c) cs) (hk : wr.grownBy w' none) : LX w w'.heap.size A n c cs (w'.alloc (.cells #[.slice A n c] 40)) :=
  ⟨Blk.new w' _ _, (ho.row.alloc _).here, Below.and_kept hb (grown_alloc hk _)⟩
theorem LX.put {D base : Nat} (hb : Below w.heap.size w wr) (hD : Blk wr D 40 #[.slice none 0 0]) (hw : w.heap.size ≤ D) (ho : TOwn wr base (.slice A n c) cs) : LX w D A n c cs (wr.setCell ⟨D, 0, none⟩ (.slice A n c)) :=
  ⟨hD.put 0 _, (ho.put hD 0 _).row, hb.setCell hw _⟩
end
/-- What TablePut answers: nothing new, or one number put. -/
theorem tput_cases {xss X : List (List Int)} {f k x : Int} {r : Bool} (h : tputV xss f k x = (X, r)) :
    (r = false ∧ (X = xss ∨ X = [])) ∨ (r = true ∧ ∃ fn kn : Nat, f = fn ∧ k = kn ∧ fn < 8 ∧ kn < 6 ∧ tabB xss = true ∧ inB x (-1) 47 = true ∧ X = tset xss fn kn x ∧ tabB X = true) := by
  unfold tputV at h
  split at h
  · rename_i ha
    simp only [Bool.and_eq_true, argB] at ha
    split at h
    · rename_i hv
      injection h with h1 h2
      obtain ⟨⟨⟨hx, hf⟩, hk⟩, hp⟩ := ha
      obtain ⟨fn, rfl, hf7⟩ := inB_nat (m := 7) hf
      obtain ⟨kn, rfl, hk5⟩ := inB_nat (m := 5) hk
      simp only [Int.toNat_natCast] at h1 hv
      exact .inr ⟨h2.symm, fn, kn, rfl, rfl, by omega, by omega, hx, hp, h1.symm, by rw [← h1]; exact hv⟩
    · injection h with h1 h2
      exact .inl ⟨h2.symm, .inl h1.symm⟩
  · injection h with h1 h2
    exact .inl ⟨h2.symm, .inr h1.symm⟩
theorem tput_small {xss X : List (List Int)} {f k x : Int} {r : Bool} (h : tputV xss f k x = (X, r)) (h8 : xss.length ≤ 8) (h6 : ∀ xs, xs ∈ xss → xs.length ≤ 6) : X.length ≤ 8 ∧ ∀ xs, xs ∈ X → xs.length ≤ 6 := by
  rcases tput_cases h with ⟨_, rfl | rfl⟩ | ⟨_, fn, kn, _, _, _, _, _, _, _, hv⟩
  · exact ⟨h8, h6⟩
  · exact ⟨by simp, fun xs hx => by simp at hx⟩
  · have hT := (tabB_iff _).1 hv
    exact ⟨by rw [hT.len]; exact Nat.le_refl _, fun xs hx => by rw [hT.six xs hx]; exact Nat.le_refl _⟩
/-- What follows of a number that was put. -/
theorem tput_new {xss : List (List Int)} {fn kn : Nat} {x : Int} (hf : fn < 8) (hk : kn < 6) (hv : tabB xss = true) (hx : inB x (-1) 47 = true) (hX : tabB (tset xss fn kn x) = true) :
    tgetV (tset xss fn kn x) fn kn = x ∧ ∃ o m : _, tgetV xss fn kn = o ∧ tputV (tset xss fn kn x) fn kn o = (xss, true) ∧ chgV xss (tset xss fn kn x) = ((m : Nat) : Int) ∧ m ≤ 1 := by
  have hT := (tabB_iff _).1 hv
  have hf7 : inB (fn : Int) 0 7 = true := inB_iff.2 ⟨by omega, by omega⟩
  have hk5 : inB (kn : Int) 0 5 = true := inB_iff.2 ⟨by omega, by omega⟩
  obtain ⟨xs, o, h1, h6, h2, h3⟩ := hT.cell hf hk
  have hback : tset (tset xss fn kn x) fn kn o = xss := by
    rw [tset_row h1]
    have hget : (xss.set fn (xs.set kn x))[fn]? = some (xs.set kn x) := by
      rw [List.getElem?_set_self]
      rw [hT.len]; exact hf
    rw [tset_row hget, List.set_set, List.set_set]
    have e1 : xs.set kn o = xs := by
      obtain ⟨hl, e⟩ := List.getElem?_eq_some_iff.1 h2
      rw [← e]
      exact List.set_getElem_self hl
    rw [e1]
    obtain ⟨hl, e⟩ := List.getElem?_eq_some_iff.1 h1
    rw [← e]
    exact List.set_getElem_self hl
  have ho := hT.inb fn kn o h3
  refine ⟨tget_at (arg_yes hX hf7 hk5) (by rw [tset_cell hT hf hk]; simp), o, chgTo xss (tset xss fn kn x) 48, tget_at (arg_yes hv hf7 hk5) h3, ?_, chg_yes hv hX, ?_⟩
  · have h4 := tput_yes (xss := tset xss fn kn x) (x := o) (arg_yes hX hf7 hk5) (inB_iff.2 ho) (by rw [hback]; exact hv)
    rw [hback] at h4
    exact h4
  · have h5 := chgTo_one (a := xss) (b := tset xss fn kn x) (f := fn) (k := kn) (fun f' k' hn => by rw [tset_cell hT hf hk, if_neg hn]) 48
    refine Nat.le_trans h5 ?_
    split <;> omega
section
variable {w : World} {A : Option Addr} {n c : Nat} {ls : List Li} {f k x : Int} {X : List (List Int)} {r : Bool}
theorem specPut_v (h : tputV (ll ls) f k x = (X, r)) (hl : ls.length = n) (hr : TRow w w.heap.size A ls) (hn : n ≤ 1048576) (hp : ∀ l, l ∈ ls → l.xs.length ≤ 1048576) :
    Calls Try.prog 125 #[.agg #[.slice A n c], .int .i64 f, .int .i64 k, .int .i64 x] w (TabMade2 X r w) := by
  have e := specTablePut_any A n c ls f k x w hl hr hn hp
  rw [h] at e
  exact e
end
/-- A made table is small. -/
theorem made_small {cs : List Li} {n : Nat} {X : List (List Int)} (hl : cs.length = n) (he : ll cs = X) (h8 : X.length ≤ 8) (h6 : ∀ xs, xs ∈ X → xs.length ≤ 6) : n ≤ 1048576 ∧ ∀ l, l ∈ cs → l.xs.length ≤ 1048576 := by
  refine ⟨?_, fun l hm => ?_⟩
  · have : cs.length = X.length := by rw [← he, ll_length]
    omega
  · have := h6 l.xs (by rw [← he]; exact List.mem_map_of_mem hm)
    omega
end Go.Proofs.Yteniikfgellhfaa
