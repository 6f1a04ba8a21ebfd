/- What the model's LoadTable answers. -/
import Derived.Test.YteniikfgellhfaaSaves3
namespace Go.Proofs.Yteniikfgellhfaa
open Go.ChangeShapes Go.WideShapes Go.ChangeAt Go.RowKit
set_option linter.unusedSimpArgs false
set_option linter.unusedVariables false

theorem IRow.drewAt {w : World} {B : Nat} {A : Option Addr} {xs : List Int} (h : IRow w B A xs) (k : Nat) : IRow (w.drewN k) (w.drewN k).heap.size A xs := VRow.here (VRow.drewN h k)
/-- A part of a row that is read. -/
theorem IRow.part {w : World} {B g off : Nat} {xs : List Int} (h : IRow w B (some ⟨g, off, none⟩) xs) (a b : Nat) : IRow w B (some ⟨g, off + a, none⟩) ((xs.drop a).take b) := fun hn => by
  rw [iv_length, List.length_take, List.length_drop] at hn
  obtain ⟨g', off', e, hb, hz, hc⟩ := h (by rw [iv_length]; omega)
  injection e with e
  injection e with e1 e2
  subst e1; subst e2
  refine ⟨g, off + a, rfl, hb, hz, fun i u hu => ?_⟩
  obtain ⟨x, hx, rfl⟩ := iv_get hu
  have hi : i < b := by
    have := (List.getElem?_eq_some_iff.1 hx).1
    rw [List.length_take] at this
    omega
  rw [List.getElem?_take_of_lt hi, List.getElem?_drop] at hx
  have := hc _ _ (iv_at hx)
  rwa [← Nat.add_assoc] at this
theorem sum_same {n V : Int} {A : Option Addr} {m c : Nat} {xs : List Int} {w : World} (hV : ssumV n xs = V) (hl : xs.length = m) (hr : IRow w w.heap.size A xs) (hm : m ≤ 1048576) :
    Calls Try.prog 126 #[.int .i64 n, .slice A m c] w fun e w' => e = .returned (.int .i64 V) ∧ w' = w := specSum_val hV hl hr hm
theorem specLoad_len (N S : Int) (A : Option Addr) (m c : Nat) (X : List Int) (w : World) (hl : X.length = m) (hr : IRow w w.heap.size A X) (hm : m ≤ 1048576) (h48 : m ≠ 48) :
    Calls Try.prog 105 #[.agg #[.int .i64 N, .slice A m c, .int .i64 S]] w (TabMade2 [] false w) := by
  have HT := Lib.hid (SIn.start hr N S m c)
  have t0 : ((m : Int) != 48) = true := by simp; omega
  obtain ⟨⟨b0, b1, b2⟩, z0, z1⟩ := HT.out.cells
  clear hl hr h48
  go_enter Try.func105, Try.ntmps105
  go_wp2_with fail
  go_quiet (fail)
  go_wp2
  exact bodyPost_ret (v := .tuple #[.agg #[.slice none 0 0], .bool false]) (by simp [results, Try.results105, go_sem, *]) rfl ⟨none, 0, 0, [], rfl, rfl, rfl, town_nil _ _, grown_put (grown_drewN HT.out.2.2.2 _) (p := ⟨w.heap.size + 1, 0, none⟩) (by dsimp only; omega) _⟩
theorem specLoad_sum (N S T : Int) (A : Option Addr) (c : Nat) (X : List Int) (w : World) (hl : X.length = 48) (hr : IRow w w.heap.size A X) (hT : ssumV N X = T) (hS : T ≠ S) :
    Calls Try.prog 105 #[.agg #[.int .i64 N, .slice A 48 c, .int .i64 S]] w (TabMade2 [] false w) := by
  have HT := Lib.hid (SIn.start hr N S 48 c)
  have t1 : (T != S) = true := by simp [hS]
  have HP := Lib.hid (And.intro hT hl)
  have HRW := Lib.hid (fun k => IRow.drewAt HT.out.2.2.1 k)
  obtain ⟨⟨b0, b1, b2⟩, z0, z1⟩ := HT.out.cells
  clear hl hr hS hT
  go_enter Try.func105, Try.ntmps105
  go_wp2_with fail
  go_quiet ((go_at_call 126; with_reducible exact Calls.quiet_of_same (sum_same HP.out.1 HP.out.2 (HRW.out _) (by omega))))
  go_wp2
  exact bodyPost_ret (v := .tuple #[.agg #[.slice none 0 0], .bool false]) (by simp [results, Try.results105, go_sem, *]) rfl ⟨none, 0, 0, [], rfl, rfl, rfl, town_nil _ _, grown_put (grown_drewN HT.out.2.2.2 _) (p := ⟨w.heap.size + 1, 0, none⟩) (by dsimp only; omega) _⟩
/-- The loop that takes the lists, at list k: the table's variable is V. -/
def LoadRel (w : World) (N S : Int) (g off c : Nat) (X : List Int) (V k : Nat) (wr : World) : Prop :=
  k ≤ 8 ∧ ∃ (v : Value) (cs : List Li), cs.length = k ∧ ll cs = (rowsOf X).take k ∧ TOwn wr w.heap.size v cs ∧ Blk wr V 40 #[v] ∧ SIn w N S (some ⟨g, off, none⟩) 48 c X wr
theorem SIn.far {w wr : World} {N S : Int} {A : Option Addr} {m c V : Nat} {X : List Int} (H : SIn w N S A m c X wr) (hV : w.heap.size + 1 < V) (u : Value) : SIn w N S A m c X (wr.setCell ⟨V, 0, none⟩ u) :=
  ⟨H.1.far (by dsimp only; omega) u, H.2.1.far (by dsimp only; omega) u, VRow.setCell H.2.2.1 (by dsimp only; omega) u, grown_put H.2.2.2 (by dsimp only; omega) u⟩
theorem SIn.grown {w wr w' : World} {N S : Int} {A : Option Addr} {m c : Nat} {X : List Int} {v : Value} {cs : List Li} (H : SIn w N S A m c X wr) (ho : TOwn wr w.heap.size v cs) (hg : wr.grownBy w' v.ownBlock) : SIn w N S A m c X w' := by
  have hb : ∀ g, v.ownBlock = some g → w.heap.size ≤ g := fun g e => (VOwn.lt ho.1 g e).1
  refine ⟨H.1.grown hg ?_, H.2.1.grown hg (TOwn.ne_blk ho H.2.1), VRow.grown H.2.2.1 hg hb, grown_joinR H.2.2.2 hg hb⟩
  rcases ho.form with ⟨rfl, _⟩ | ⟨g, cap, rfl, _⟩
  · simp [Value.ownBlock]
  · intro e
    simp only [Value.ownBlock, Option.some.injEq] at e
    exact VOwn.ne_blk ho.1 H.1 (by decide) e.symm
/-- The bounds of list k among the numbers. -/
theorem slice_at (c : Nat) {k : Nat} (hk : k < 8) (hc : 48 ≤ c) : (0 ≤ IntKind.i64.wrap (IntKind.i64.wrap ((k : Int) + 1) * 6) ∧ IntKind.i64.wrap (IntKind.i64.wrap ((k : Int) + 1) * 6) ≤ (c : Int)) ∧
    (0 ≤ IntKind.i64.wrap ((k : Int) * 6) ∧ IntKind.i64.wrap ((k : Int) * 6) ≤ max (IntKind.i64.wrap (IntKind.i64.wrap ((k : Int) + 1) * 6)) 0) ∧ (IntKind.i64.wrap ((k : Int) * 6)).toNat = 6 * k ∧
    (IntKind.i64.wrap (IntKind.i64.wrap ((k : Int) + 1) * 6)).toNat - 6 * k = 6 ∧ ¬ c = 6 * k := by
  have e1 : IntKind.i64.wrap ((k : Int) * 6) = (k : Int) * 6 := IntWalk.i64_in _ ⟨by omega, by omega⟩
  have e2 : IntKind.i64.wrap ((k : Int) + 1) = (k : Int) + 1 := IntWalk.i64_in _ ⟨by omega, by omega⟩
  have e3 : IntKind.i64.wrap (((k : Int) + 1) * 6) = ((k : Int) + 1) * 6 := IntWalk.i64_in _ ⟨by omega, by omega⟩
  rw [e1, e2, e3]
  omega
theorem drop_row {X : List Int} (h : X.length = 48) {k : Nat} (hk : k < 8) : ((X.drop (6 * k)).take 6).length = 6 := by
  rw [List.length_take, List.length_drop, h]
  omega
set_option maxHeartbeats 4000000 in
theorem specLoad_tab (N S : Int) (A : Option Addr) (c : Nat) (X : List Int) (V : Bool) (R : List (List Int)) (w : World) (hl : X.length = 48) (hr : IRow w w.heap.size A X) (hc : 48 ≤ c) (hcm : c ≤ maxLen) (hT : ssumV N X = S) (hV : (tabB (rowsOf X) && decide (0 ≤ S)) = V) (hR : (V = false → R = []) ∧ (V = true → R = rowsOf X)) :
    Calls Try.prog 105 #[.agg #[.int .i64 N, .slice A 48 c, .int .i64 S]] w (TabMade2 R V w) := by
  obtain ⟨g, off, rfl⟩ := hr.pos (by omega)
  have HT := Lib.hid (SIn.start hr N S 48 c)
  have t1 : (S != S) = false := by simp
  have HP := Lib.hid (And.intro hT (And.intro hl (And.intro hV (And.intro (rowsOf_six hl) hR))))
  have HRW := Lib.hid (fun k => IRow.drewAt HT.out.2.2.1 k)
  obtain ⟨⟨b0, b1, b2⟩, z0, z1⟩ := HT.out.cells
  clear hl hr hT hV hR
  go_enter Try.func105, Try.ntmps105
  go_wp2_with fail
  go_quiet ((go_at_call 126; with_reducible exact Calls.quiet_of_same (sum_same HP.out.1 HP.out.2.1 (HRW.out _) (by omega))))
  rename_i nq
  generalize hwz : World.drewN _ nq = wz
  have HQ := Lib.hid (show SIn w N S (some ⟨g, off, none⟩) 48 c X wz by rw [← hwz]; exact HT.out.keep (grown_drewN (grown_refl _ _) _))
  have hVz := Lib.hid (show w.heap.size + 1 < wz.heap.size from HQ.out.2.1.lt)
  have HB := Lib.hid (show LoadRel w N S g off c X wz.heap.size 0 (wz.alloc (.cells #[.slice none 0 0] 40)) from ⟨Nat.zero_le _, _, [], rfl, rfl, town_nil _ _, Blk.new _ _ _, HQ.out.keep (grown_alloc (grown_refl _ _) _)⟩)
  clear hwz b0 b1 b2 z0 z1
  go_wp2
  go_loopw [5] (fun i wr => ∃ k : Nat, i = .int .i64 k ∧ LoadRel w N S g off c X wz.heap.size k wr) (fun i _ => 8 - (intOf i).toNat)
  case atStart => exact ⟨0, rfl, HB.out⟩
  case round =>
    rename World => wr
    clear HB
    obtain ⟨k, rfl, hk, v, cs, hcl, hcs, ho, hv, hS⟩ := hrel
    obtain ⟨⟨b0, b1, b2⟩, z0, z1⟩ := hS.cells
    have hVlt := hVz.out
    have r0 : wr.cell? ⟨wz.heap.size, 0, none⟩ = some v := hv.cell 0
    by_cases hlt : k < 8
    · have hrow : IRow wr w.heap.size (some ⟨g, off + 6 * k, none⟩) ((X.drop (6 * k)).take 6) := IRow.part hS.2.2.1 (6 * k) 6
      have h6 := drop_row HP.out.2.1 hlt
      have hfl : (rowsOf X)[k]? = some ((X.drop (6 * k)).take 6) := rowsOf_at X hlt
      generalize (X.drop (6 * k)).take 6 = xs at hrow h6 hfl
      obtain ⟨A1, c1, w1, hr1, ho1, hg1⟩ := clone_ints (U := wr.drew) (c := c - 6 * k) (VRow.drew hrow) h6 (by omega)
      have hg1' : wr.grownBy w1 none := grown_trans (grown_drew (grown_refl wr none)) hg1
      have hga : wr.grownBy (w1.alloc (.cells #[.slice A1 6 c1] 26)) none := grown_alloc hg1' _
      obtain ⟨v2, w2, hr2, ho2, hg2⟩ := push_list ho hg1' ho1 h6 hS.2.2.2.size (by omega)
      obtain ⟨g2, c2, rfl, _⟩ := ho2.head (n := k + 1) (by simp [hcl]) (by omega)
      have gd : wr.grownBy wr.drew none := grown_drew (grown_refl wr none)
      have hv2 : Blk w2 wz.heap.size 40 #[v] := ((hv.keep hg1').alloc _).grown hg2 (TOwn.ne_blk ho hv)
      have hS2 : SIn w N S (some ⟨g, off, none⟩) 48 c X w2 := (hS.keep hga).grown (ho.keep hga) hg2
      have hS5 := hS2.far hVlt (.slice (some ⟨g2, 0, none⟩) (k + 1) c2)
      have HSS := Lib.hid (And.intro (hS.keep (grown_alloc gd (.cells #[] 3))).cells.1.2.1 (And.intro (hS.keep hg1').cells.1.2.1 (And.intro (hS.keep hga).cells.1.2.1 (And.intro hS2.cells.1.2.1 hS5.cells.1.2.1))))
      have r1 : ((wr.alloc (.cells #[] 3)).drew).cell? ⟨wz.heap.size, 0, none⟩ = some v := (hv.keep (grown_alloc gd (.cells #[] 3))).cell 0
      have r2 : w1.cell? ⟨wz.heap.size, 0, none⟩ = some v := (hv.keep hg1').cell 0
      have r3 : (w1.alloc (.cells #[.slice A1 6 c1] 26)).cell? ⟨wz.heap.size, 0, none⟩ = some v := (hv.keep hga).cell 0
      have s0 : w2.cell? ⟨wz.heap.size, 0, none⟩ = some v := hv2.cell 0
      have s1 : w2.frozen? ⟨wz.heap.size, 0, none⟩ = false := hv2.frozen 0
      have HR1 := Lib.hid hr1
      have HR2 := Lib.hid hr2
      have hx1 := take_at hfl
      have HX := Lib.hid (And.intro hcl (show ll (cs ++ [⟨A1, c1, xs⟩]) = (rowsOf X).take (k + 1) by rw [hx1, ll_append, hcs]; rfl))
      have HZ := Lib.hid (And.intro (ho2.put hv2 0 (.slice (some ⟨g2, 0, none⟩) (k + 1) c2)) (And.intro (hv2.put 0 (.slice (some ⟨g2, 0, none⟩) (k + 1) c2)) hS5))
      have k0 : decide ((0 : Int) ≤ k) = true := decide_eq_true (by omega)
      have k1 : (k : Int) < 8 := by omega
      have H10 := Lib.hid (slice_at c hlt hc)
      clear hcl hcs ho hv hS hfl hrow h6 hr1 ho1 hg1 hg1' hga hr2 ho2 hg2 gd hv2 hS2 hS5 hx1 hVlt
      go_wp2
      refine wp_region_held_drew (S := (fun w' => w'.cell? ⟨w.heap.size, 1, none⟩ = some (.slice (some ⟨g, off, none⟩) 48 c))) (by kernel_rfl) ?_ (fun hHeld => ?_)
      · exact b1
      refine heldY 0 26 ?_
      refine heldY 3 29 ?_
      refine heldY 4 30 ?_
      refine heldY 5 31 ?_
      refine heldY 6 32 ?_
      refine heldY 7 33 ?_
      refine heldY 8 34 ?_
      refine heldY 9 35 ?_
      refine held_yes (i := 10) (d := some 36) (v := ?_) rfl rfl (by kernel_rfl) (by kernel_rfl) (by kernel_rfl) (fun _ _ _ h => h) (by rfl) ?_ (by assumption) ?_
      rotate_left
      · (intro w hSw; (try dsimp only at hSw); go_simp; (try simp only [if_pos H10.out.1, if_pos H10.out.2.1, H10.out.2.2.1, H10.out.2.2.2.1, if_neg H10.out.2.2.2.2]); (first | done | with_reducible rfl))
      try simp only [Act.put, List.setIfInBounds_toArray, List.set_cons_zero, List.set_cons_succ]
      refine wpAnyH_ready (rs := [1, 2]) (by kernel_rfl) (by simp) ?_
      refine AllReadyH.cons rfl (fun K hK => ?_) (AllReadyH.cons rfl (fun K hK => ?_) AllReadyH.nil)
      · go_simp
        refine hK.out _ _ ?_ (fun hHeld => ?_)
        · with_reducible assumption
        clear hK K
        try simp only [Act.put, List.setIfInBounds_toArray, List.set_cons_zero, List.set_cons_succ]
        refine wpAnyH_ready (rs := [2]) (by kernel_rfl) (by simp) ?_
        refine AllReadyH.cons rfl (fun K hK => ?_) AllReadyH.nil
        go_simp
        refine hK.out _ _ ?_ (fun hHeld => ?_)
        · exact HSS.out.1
        clear hK K
        try simp only [Act.put, List.setIfInBounds_toArray, List.set_cons_zero, List.set_cons_succ]
        refine wpAnyH_ready (rs := [11]) (by kernel_rfl) (by simp) ?_
        refine AllReadyH.cons rfl (fun K hK => ?_) AllReadyH.nil
        refine step_append_run _ rfl (.tmp 28) (.tmp 36) 26 26 rfl _ _ rfl rfl HR1.out ?_
        refine hK.out _ _ ?_ (fun hHeld => ?_)
        · exact HSS.out.2.1
        clear hK K
        try simp only [Act.put, List.setIfInBounds_toArray, List.set_cons_zero, List.set_cons_succ]
        refine wpAnyH_ready (rs := [12]) (by kernel_rfl) (by simp) ?_
        refine AllReadyH.cons rfl (fun K hK => ?_) AllReadyH.nil
        go_simp
        refine hK.out _ _ ?_ (fun hHeld => ?_)
        · exact HSS.out.2.2.1
        clear hK K
        try simp only [Act.put, List.setIfInBounds_toArray, List.set_cons_zero, List.set_cons_succ]
        refine wpAnyH_ready (rs := [13]) (by kernel_rfl) (by simp) ?_
        refine AllReadyH.cons rfl (fun K hK => ?_) AllReadyH.nil
        refine step_append_run _ rfl (.tmp 27) (.tmp 38) 38 38 rfl _ _ rfl rfl HR2.out ?_
        refine hK.out _ _ ?_ (fun hHeld => ?_)
        · exact HSS.out.2.2.2.1
        clear hK K
        try simp only [Act.put, List.setIfInBounds_toArray, List.set_cons_zero, List.set_cons_succ]
        refine heldY 14 40 ?_
        refine wpAnyH_ready (rs := [15]) (by kernel_rfl) (by simp) ?_
        refine AllReadyH.cons rfl (fun K hK => ?_) AllReadyH.nil
        go_simp
        refine hK.out _ _ ?_ (fun hHeld => ?_)
        · exact HSS.out.2.2.2.2
        clear hK K
        try simp only [Act.put, List.setIfInBounds_toArray, List.set_cons_zero, List.set_cons_succ]
        refine wpAnyH_done (by kernel_rfl) ?_ _
        go_wp2
        go_roundw
        case rel => exact ⟨k + 1, by go_num, by omega, _, _, by simp [HX.out.1], HX.out.2, HZ.out⟩
        case measure => simp [intOf]; omega
      · go_simp
        refine hK.out _ _ ?_ (fun hHeld => ?_)
        · exact HSS.out.1
        clear hK K
        try simp only [Act.put, List.setIfInBounds_toArray, List.set_cons_zero, List.set_cons_succ]
        refine wpAnyH_ready (rs := [1, 11]) (by kernel_rfl) (by simp) ?_
        refine AllReadyH.cons rfl (fun K hK => ?_) (AllReadyH.cons rfl (fun K hK => ?_) AllReadyH.nil)
        · go_simp
          refine hK.out _ _ ?_ (fun hHeld => ?_)
          · with_reducible assumption
          clear hK K
          try simp only [Act.put, List.setIfInBounds_toArray, List.set_cons_zero, List.set_cons_succ]
          refine wpAnyH_ready (rs := [11]) (by kernel_rfl) (by simp) ?_
          refine AllReadyH.cons rfl (fun K hK => ?_) AllReadyH.nil
          refine step_append_run _ rfl (.tmp 28) (.tmp 36) 26 26 rfl _ _ rfl rfl HR1.out ?_
          refine hK.out _ _ ?_ (fun hHeld => ?_)
          · exact HSS.out.2.1
          clear hK K
          try simp only [Act.put, List.setIfInBounds_toArray, List.set_cons_zero, List.set_cons_succ]
          refine wpAnyH_ready (rs := [12]) (by kernel_rfl) (by simp) ?_
          refine AllReadyH.cons rfl (fun K hK => ?_) AllReadyH.nil
          go_simp
          refine hK.out _ _ ?_ (fun hHeld => ?_)
          · exact HSS.out.2.2.1
          clear hK K
          try simp only [Act.put, List.setIfInBounds_toArray, List.set_cons_zero, List.set_cons_succ]
          refine wpAnyH_ready (rs := [13]) (by kernel_rfl) (by simp) ?_
          refine AllReadyH.cons rfl (fun K hK => ?_) AllReadyH.nil
          refine step_append_run _ rfl (.tmp 27) (.tmp 38) 38 38 rfl _ _ rfl rfl HR2.out ?_
          refine hK.out _ _ ?_ (fun hHeld => ?_)
          · exact HSS.out.2.2.2.1
          clear hK K
          try simp only [Act.put, List.setIfInBounds_toArray, List.set_cons_zero, List.set_cons_succ]
          refine heldY 14 40 ?_
          refine wpAnyH_ready (rs := [15]) (by kernel_rfl) (by simp) ?_
          refine AllReadyH.cons rfl (fun K hK => ?_) AllReadyH.nil
          go_simp
          refine hK.out _ _ ?_ (fun hHeld => ?_)
          · exact HSS.out.2.2.2.2
          clear hK K
          try simp only [Act.put, List.setIfInBounds_toArray, List.set_cons_zero, List.set_cons_succ]
          refine wpAnyH_done (by kernel_rfl) ?_ _
          go_wp2
          go_roundw
          case rel => exact ⟨k + 1, by go_num, by omega, _, _, by simp [HX.out.1], HX.out.2, HZ.out⟩
          case measure => simp [intOf]; omega
        · refine step_append_run _ rfl (.tmp 28) (.tmp 36) 26 26 rfl _ _ rfl rfl HR1.out ?_
          refine hK.out _ _ ?_ (fun hHeld => ?_)
          · exact HSS.out.2.1
          clear hK K
          try simp only [Act.put, List.setIfInBounds_toArray, List.set_cons_zero, List.set_cons_succ]
          refine wpAnyH_ready (rs := [1, 12]) (by kernel_rfl) (by simp) ?_
          refine AllReadyH.cons rfl (fun K hK => ?_) (AllReadyH.cons rfl (fun K hK => ?_) AllReadyH.nil)
          · go_simp
            refine hK.out _ _ ?_ (fun hHeld => ?_)
            · with_reducible assumption
            clear hK K
            try simp only [Act.put, List.setIfInBounds_toArray, List.set_cons_zero, List.set_cons_succ]
            refine wpAnyH_ready (rs := [12]) (by kernel_rfl) (by simp) ?_
            refine AllReadyH.cons rfl (fun K hK => ?_) AllReadyH.nil
            go_simp
            refine hK.out _ _ ?_ (fun hHeld => ?_)
            · exact HSS.out.2.2.1
            clear hK K
            try simp only [Act.put, List.setIfInBounds_toArray, List.set_cons_zero, List.set_cons_succ]
            refine wpAnyH_ready (rs := [13]) (by kernel_rfl) (by simp) ?_
            refine AllReadyH.cons rfl (fun K hK => ?_) AllReadyH.nil
            refine step_append_run _ rfl (.tmp 27) (.tmp 38) 38 38 rfl _ _ rfl rfl HR2.out ?_
            refine hK.out _ _ ?_ (fun hHeld => ?_)
            · exact HSS.out.2.2.2.1
            clear hK K
            try simp only [Act.put, List.setIfInBounds_toArray, List.set_cons_zero, List.set_cons_succ]
            refine heldY 14 40 ?_
            refine wpAnyH_ready (rs := [15]) (by kernel_rfl) (by simp) ?_
            refine AllReadyH.cons rfl (fun K hK => ?_) AllReadyH.nil
            go_simp
            refine hK.out _ _ ?_ (fun hHeld => ?_)
            · exact HSS.out.2.2.2.2
            clear hK K
            try simp only [Act.put, List.setIfInBounds_toArray, List.set_cons_zero, List.set_cons_succ]
            refine wpAnyH_done (by kernel_rfl) ?_ _
            go_wp2
            go_roundw
            case rel => exact ⟨k + 1, by go_num, by omega, _, _, by simp [HX.out.1], HX.out.2, HZ.out⟩
            case measure => simp [intOf]; omega
          · go_simp
            refine hK.out _ _ ?_ (fun hHeld => ?_)
            · exact HSS.out.2.2.1
            clear hK K
            try simp only [Act.put, List.setIfInBounds_toArray, List.set_cons_zero, List.set_cons_succ]
            refine wpAnyH_ready (rs := [1]) (by kernel_rfl) (by simp) ?_
            refine AllReadyH.cons rfl (fun K hK => ?_) AllReadyH.nil
            go_simp
            refine hK.out _ _ ?_ (fun hHeld => ?_)
            · with_reducible assumption
            clear hK K
            try simp only [Act.put, List.setIfInBounds_toArray, List.set_cons_zero, List.set_cons_succ]
            refine wpAnyH_ready (rs := [13]) (by kernel_rfl) (by simp) ?_
            refine AllReadyH.cons rfl (fun K hK => ?_) AllReadyH.nil
            refine step_append_run _ rfl (.tmp 27) (.tmp 38) 38 38 rfl _ _ rfl rfl HR2.out ?_
            refine hK.out _ _ ?_ (fun hHeld => ?_)
            · exact HSS.out.2.2.2.1
            clear hK K
            try simp only [Act.put, List.setIfInBounds_toArray, List.set_cons_zero, List.set_cons_succ]
            refine heldY 14 40 ?_
            refine wpAnyH_ready (rs := [15]) (by kernel_rfl) (by simp) ?_
            refine AllReadyH.cons rfl (fun K hK => ?_) AllReadyH.nil
            go_simp
            refine hK.out _ _ ?_ (fun hHeld => ?_)
            · exact HSS.out.2.2.2.2
            clear hK K
            try simp only [Act.put, List.setIfInBounds_toArray, List.set_cons_zero, List.set_cons_succ]
            refine wpAnyH_done (by kernel_rfl) ?_ _
            go_wp2
            go_roundw
            case rel => exact ⟨k + 1, by go_num, by omega, _, _, by simp [HX.out.1], HX.out.2, HZ.out⟩
            case measure => simp [intOf]; omega
    · obtain rfl : k = 8 := by omega
      rw [List.take_of_length_le (by rw [rowsOf_length]; exact Nat.le_refl _)] at hcs
      obtain ⟨gt, ct, rfl, _⟩ := ho.head hcl (by omega)
      have hp : ∀ l, l ∈ cs → l.xs.length ≤ 1048576 := fun l hq => by
        have := HP.out.2.2.2.1 l.xs (by rw [← hcs]; exact List.mem_map_of_mem hq)
        omega
      obtain ⟨B, hB⟩ : ∃ B, tabB (rowsOf X) = B := ⟨_, rfl⟩
      have HY := Lib.hid (And.intro hcl (And.intro hcs (And.intro ho (And.intro hv (And.intro hS (And.intro hp hB))))))
      clear hcl hcs ho hv hS hp hB b0 b1 b2 z0 z1
      go_wp2_with fail
      refine (specTabValid_val (show tabB (ll cs) = B by rw [HY.out.2.1]; exact HY.out.2.2.2.2.2.2) HY.out.1 HY.out.2.2.1.row (by omega) HY.out.2.2.2.2.2.1).mono ?_
      rintro e w3 ⟨rfl, hk3⟩
      have HF := Lib.hid (HY.out.2.2.2.2.1.keep hk3)
      have HG := Lib.hid (And.intro (HY.out.2.2.1.keep hk3) (HY.out.2.2.2.1.keep hk3))
      have v0 := HG.out.2.cell 0
      obtain ⟨⟨b0, b1, b2⟩, z0, z1⟩ := HF.out.cells
      clear hk3 r0
      cases B
      · obtain rfl : V = false := by rw [← HP.out.2.2.1, HY.out.2.2.2.2.2.2]; rfl
        obtain rfl := HP.out.2.2.2.2.1 rfl
        go_wp2
        exact bodyPost_ret (v := .tuple #[.agg #[.slice none 0 0], .bool false]) (by simp [results, Try.results105, go_sem, *]) rfl ⟨none, 0, 0, [], rfl, rfl, rfl, town_nil _ _, grown_put HF.out.2.2.2 (p := ⟨w.heap.size + 1, 0, none⟩) (by dsimp only; omega) _⟩
      · by_cases hs : S < 0
        · obtain rfl : V = false := by rw [← HP.out.2.2.1, HY.out.2.2.2.2.2.2]; simp; omega
          obtain rfl := HP.out.2.2.2.2.1 rfl
          have hs0 : decide (S < 0) = true := decide_eq_true hs
          clear hs
          go_wp2
          exact bodyPost_ret (v := .tuple #[.agg #[.slice none 0 0], .bool false]) (by simp [results, Try.results105, go_sem, *]) rfl ⟨none, 0, 0, [], rfl, rfl, rfl, town_nil _ _, grown_put HF.out.2.2.2 (p := ⟨w.heap.size + 1, 0, none⟩) (by dsimp only; omega) _⟩
        · obtain rfl : V = true := by rw [← HP.out.2.2.1, HY.out.2.2.2.2.2.2]; simp; omega
          obtain rfl := HP.out.2.2.2.2.2 rfl
          have hs0 : decide (S < 0) = false := decide_eq_false hs
          clear hs
          go_wp2
          exact bodyPost_ret (v := .tuple #[.agg #[.slice (some ⟨gt, 0, none⟩) 8 ct], .bool true]) (by simp [results, Try.results105, go_sem, *]) rfl ⟨_, 8, ct, cs, rfl, HY.out.1, HY.out.2.1, HG.out.1.put HF.out.2.1 0 _, grown_put HF.out.2.2.2 (p := ⟨w.heap.size + 1, 0, none⟩) (by dsimp only; omega) _⟩
theorem specLoad_any (N S : Int) (A : Option Addr) (m c : Nat) (X : List Int) (w : World) (hl : X.length = m) (hr : IRow w w.heap.size A X) (hm : m ≤ 1048576) (hc : m ≤ c) (hcm : c ≤ maxLen) :
    Calls Try.prog 105 #[.agg #[.int .i64 N, .slice A m c, .int .i64 S]] w (TabMade2 (loadV N X S).1 (loadV N X S).2 w) := by
  by_cases h48 : m = 48
  · subst h48
    by_cases hS : ssumV N X = S
    · cases hV : tabB (rowsOf X) && decide (0 ≤ S)
      · rw [loadV_no (by
          cases h1 : tabB (rowsOf X)
          · simp [loadB, h1]
          · rw [h1, Bool.true_and] at hV
            simp [loadB, h1, hV])]
        exact specLoad_tab N S A c X false [] w hl hr hc hcm hS hV (by simp)
      · rw [Bool.and_eq_true] at hV
        rw [loadV_yes (by simp only [loadB, hV.1, hV.2, hl, hS]; simp)]
        exact specLoad_tab N S A c X true _ w hl hr hc hcm hS (by simp only [hV.1, hV.2]; rfl) (by simp)
    · rw [loadV_no (by
        have e : (ssumV N X == S) = false := by simp; exact hS
        simp [loadB, e])]
      exact specLoad_sum N S _ A c X w hl hr rfl hS
  · rw [loadV_no (by simp [loadB]; omega)]
    exact specLoad_len N S A m c X w hl hr hm h48
theorem specLoad_val {N S : Int} {A : Option Addr} {m c : Nat} {X : List Int} {T : List (List Int)} {ok : Bool} {w : World} (hV : loadV N X S = (T, ok)) (hl : X.length = m) (hr : IRow w w.heap.size A X) (hm : m ≤ 1048576) (hc : m ≤ c) (hcm : c ≤ maxLen) :
    Calls Try.prog 105 #[.agg #[.int .i64 N, .slice A m c, .int .i64 S]] w (TabMade2 T ok w) := by
  have h := specLoad_any N S A m c X w hl hr hm hc hcm
  rw [hV] at h
  exact h
end Go.Proofs.Yteniikfgellhfaa
