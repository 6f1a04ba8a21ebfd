/- A table is drawn that is valid.
   What the model draws for chapter 17: l20Save, DrawSaveTable, DrawLoadTable, DrawNewerSave.
   What the model draws for chapter 17, further: a table and a number.
   What the model draws for chapter 17, further: a number and pages, a save, two saves. -/
import Derived.Test.YteniikfgellhfaaDrawTabs
import Derived.Test.YteniikfgellhfaaDrawTabs2
import Derived.Test.YteniikfgellhfaaSaves
import Derived.Test.YteniikfgellhfaaDag
import Derived.Test.YteniikfgellhfaaExtDraw
import Derived.Test.YteniikfgellhfaaTables7
namespace Go.Proofs.Yteniikfgellhfaa
open Go.ChangeShapes Go.WideShapes Go.ChangeAt Go.RowKit
set_option linter.unusedVariables false
set_option linter.unusedSimpArgs false

/-- A valid table is drawn. -/
def DrewTab0 (w : World) (B g P : Nat) (e : Ending) (w' : World) : Prop :=
  ∃ (gt ct : Nat) (ls : List Li), e = .returned (.agg #[.slice (some ⟨gt, 0, none⟩) 8 ct]) ∧ ls.length = 8 ∧ tabB (ll ls) = true ∧ TRow w' w'.heap.size (some ⟨gt, 0, none⟩) ls ∧ TFar w.heap.size (some ⟨gt, 0, none⟩) ls ∧ Rd w' B g P ∧ w.grownBy w' (some g)
theorem TSt.fin0 {w wr : World} {B g Q Q' V gt ct : Nat} {ls : List Li} (H : TSt w B g Q V gt ct ls wr) (hq : Q ≤ Q') : DrewTab0 w B g Q' (.returned (.agg #[.slice (some ⟨gt, 0, none⟩) 8 ct])) (wr.setCell ⟨w.heap.size, 0, none⟩ (.slice (some ⟨gt, 0, none⟩) 8 ct)) := by
  obtain ⟨h1, h2, h3, h4, h5, h6, h7, h8⟩ := H
  have hB := h5.le
  have hs : (wr.setCell ⟨w.heap.size, 0, none⟩ (.slice (some ⟨gt, 0, none⟩) 8 ct)).heap.size = wr.heap.size := by simp [World.setCell]
  refine ⟨gt, ct, ls, rfl, h2.1, h2.2, ?_, h3.tfar.more (by omega), (h5.far (by dsimp only; omega) (by dsimp only; omega) _).more hq, grown_set h6 (.inr (Nat.le_refl _)) _⟩
  rw [hs]
  exact h3.row.putLo h3.tfar (p := ⟨w.heap.size, 0, none⟩) (by dsimp only; omega) _
set_option maxRecDepth 8000 in
set_option maxHeartbeats 8000000 in
theorem tables0_any (w : World) (B g P : Nat) (h : Rd w B g P) (hP : P ≤ 100000) :
    Calls Try.prog 101 #[.pointer (some ⟨g, 0, none⟩), .int .i64 0] w (DrewTab0 w B g (P + 50)) := by
  have h0 := h.alloc (.cells #[.slice none 0 0] 40)
  have hg := h.lt
  clear h
  go_enter Try.func101, Try.ntmps101
  go_wp2_with fail
  refine (specNew_any _).mono ?_
  rintro e w2 ⟨A0, ct, ls0, rfl, hcl, hcs, ho, hk⟩
  obtain ⟨gt, _, e, hgt, _⟩ := ho.head hcl (by omega)
  injection e with e1 _ e3
  subst e1; subst e3
  simp only [size_alloc1] at ho hgt
  have hsz := hk.size
  simp only [size_alloc1] at hsz
  have hka : w2.grownBy (w2.alloc (.cells #[.slice (some ⟨gt, 0, none⟩) 8 ct] 40)) none := grown_alloc (grown_refl _ _) _
  have HS : RowKit.Hid (TSt w B g P w2.heap.size gt ct ls0 (w2.alloc (.cells #[.slice (some ⟨gt, 0, none⟩) 8 ct] 40))) := Lib.hid ⟨Blk.new w2 _ _, ⟨hcl, by rw [hcs]; exact noTab_valid⟩, ho.keep hka, ((Blk.new w 40 #[.slice none 0 0]).keep hk).keep hka, (h0.grown hk (by intro k e; cases e)).alloc _, grown_some (grown_trans (grown_trans (grown_alloc (grown_refl w none) _) hk) hka), hg, by omega⟩
  clear h0 hcl hcs ho hk hgt hsz hka
  go_wp2_with fail
  refine (pick_lt _ _ _ _ _ HS.out.2.2.2.2.1 (by omega) (by omega)).mono ?_
  rintro e w3 ⟨x3, rfl, u3, v3, h3, hg3⟩
  replace HS := Lib.hid (HS.out.grown hg3 h3)
  clear h3 hg3
  obtain ⟨k0, rfl⟩ := Int.eq_ofNat_of_zero_le u3
  have HK := Lib.hid (show k0 ≤ 11 by omega)
  clear u3 v3
  go_wp2
  go_loopw [6] (fun i wr => ∃ k : Nat, i = .int .i64 k ∧ k ≤ 11 ∧ ∃ gt ct ls, TSt w B g (P + 40 - 3 * k) w2.heap.size gt ct ls wr) (fun i _ => (intOf i).toNat)
  case atStart => exact ⟨k0, rfl, HK.out, _, _, _, HS.out.more (by have := HK.out; omega)⟩
  case round =>
    clear HS HK
    rename World => wq
    obtain ⟨k, rfl, hk, gt, ct, ls, hS⟩ := hrel
    have HS := Lib.hid hS
    clear hS
    by_cases hpos : 0 < k
    · obtain ⟨k, rfl⟩ : ∃ k' : Nat, k = k' + 1 := ⟨k - 1, by omega⟩
      have t0 : decide ((0 : Int) < ((k + 1 : Nat) : Int)) = true := decide_eq_true (by omega)
      go_upto_region 5 with fail
      go_cut [7, 8] (fun s7 s8 wx => ∃ (D g1 c1 : Nat) (cs : List Li) (b : Bool), s7 = .pointer (some ⟨D, 0, none⟩) ∧ s8 = .bool b ∧ Blk wx D 40 #[.slice (some ⟨g1, 0, none⟩) 8 c1] ∧ cs.length = 8 ∧ tabB (ll cs) = true ∧ TOwn wx (w.heap.size + 1) (.slice (some ⟨g1, 0, none⟩) 8 c1) cs ∧ TSt w B g (P + 40 - 3 * (k + 1) + 3) w2.heap.size gt ct ls wx)
      case first =>
        refine wp_region_held_drew (S := (fun w' => w'.cell? ⟨w2.heap.size, 0, none⟩ = some (.slice (some ⟨gt, 0, none⟩) 8 ct))) (by kernel_rfl) ?_ (fun hHeld => ?_)
        · exact HS.out.1.cell 0
        replace HS := Lib.hid (HS.out.kept (grown_drew (grown_refl _ none)))
        refine heldY 0 17 ?_
        refine heldY 1 18 ?_
        refine heldY 3 20 ?_
        refine heldY 5 22 ?_
        refine wpAnyH_ready (rs := [2, 11]) (by kernel_rfl) (by simp) ?_
        refine AllReadyH.cons rfl (fun K hK => ?_) (AllReadyH.cons rfl (fun K hK => ?_) AllReadyH.nil)
        · go_simp
          go_at_call 51
          refine (pick_lt _ _ _ _ _ HS.out.2.2.2.2.1 (by omega) (by omega)).mono ?_
          rintro e w20 ⟨x20, rfl, u20, v20, h20, hg20⟩
          replace HS := Lib.hid (HS.out.grown hg20 h20)
          clear h20 hg20
          refine hK.out _ _ ?_ (fun hHeld => ?_)
          · exact HS.out.1.cell 0
          clear hK K
          try simp only [Act.put, List.setIfInBounds_toArray, List.set_cons_zero, List.set_cons_succ]
          refine wpAnyH_ready (rs := [4, 11]) (by kernel_rfl) (by simp) ?_
          refine AllReadyH.cons rfl (fun K hK => ?_) (AllReadyH.cons rfl (fun K hK => ?_) AllReadyH.nil)
          · go_simp
            go_at_call 51
            refine (pick_lt _ _ _ _ _ HS.out.2.2.2.2.1 (by omega) (by omega)).mono ?_
            rintro e w21 ⟨x21, rfl, u21, v21, h21, hg21⟩
            replace HS := Lib.hid (HS.out.grown hg21 h21)
            clear h21 hg21
            refine hK.out _ _ ?_ (fun hHeld => ?_)
            · exact HS.out.1.cell 0
            clear hK K
            try simp only [Act.put, List.setIfInBounds_toArray, List.set_cons_zero, List.set_cons_succ]
            refine wpAnyH_ready (rs := [6, 11]) (by kernel_rfl) (by simp) ?_
            refine AllReadyH.cons rfl (fun K hK => ?_) (AllReadyH.cons rfl (fun K hK => ?_) AllReadyH.nil)
            · go_simp
              go_at_call 51
              refine (pick_lt _ _ _ _ _ HS.out.2.2.2.2.1 (by omega) (by omega)).mono ?_
              rintro e w22 ⟨x22, rfl, u22, v22, h22, hg22⟩
              replace HS := Lib.hid (HS.out.grown hg22 h22)
              clear h22 hg22
              refine hK.out _ _ ?_ (fun hHeld => ?_)
              · exact HS.out.1.cell 0
              clear hK K
              try simp only [Act.put, List.setIfInBounds_toArray, List.set_cons_zero, List.set_cons_succ]
              refine wpAnyH_ready (rs := [7, 11]) (by kernel_rfl) (by simp) ?_
              refine AllReadyH.cons rfl (fun K hK => ?_) (AllReadyH.cons rfl (fun K hK => ?_) AllReadyH.nil)
              · go_simp
                go_at_call 125
                refine (put_drawn _ _ ls _ _ _ _ HS.out.2.1.1 HS.out.2.2.1.row HS.out.2.1.2 u20 v20 u21 v21 u22 v22).mono ?_
                rintro e w23 ⟨g1, c1, cs, b, rfl, hl, hv, ho, hk⟩
                have hsz := HS.out.2.2.2.2.2.1.size
                have hVs := HS.out.2.2.2.1.lt
                (try simp only [World.drew, size_alloc1] at hVs)
                have ho1 := ho.base_le (base' := w.heap.size + 1) (by (try simp only [World.drew, size_alloc1]); omega)
                replace HS := Lib.hid (HS.out.kept hk)
                have HM := Lib.hid (And.intro hl (And.intro hv ho1))
                clear hl hv ho ho1 hk hsz hVs
                refine hK.out _ _ ?_ (fun hHeld => ?_)
                · exact HS.out.1.cell 0
                clear hK K
                try simp only [Act.put, List.setIfInBounds_toArray, List.set_cons_zero, List.set_cons_succ]
                refine heldY 8 16 ?_
                refine heldY 9 25 ?_
                refine heldY 10 26 ?_
                refine wpAnyH_ready (rs := [11]) (by kernel_rfl) (by simp) ?_
                refine AllReadyH.cons rfl (fun K hK => ?_) AllReadyH.nil
                have hv0 : Blk (World.alloc w23 (.cells #[.slice none 0 0] 40)) w23.heap.size 40 #[.slice none 0 0] := by have h := Blk.new w23 40 #[.slice none 0 0]; (try simp only [World.drew] at h); exact h
                have HV := Lib.hid hv0
                clear hv0
                have hVD := HS.out.1.lt
                (try simp only [World.drew] at hVD)
                have HSx := Lib.hid HS.out
                replace HS := Lib.hid (HS.out.kept (grown_alloc (grown_refl _ none) (.cells #[.slice none 0 0] 40)))
                go_simp
                refine hK.out _ _ ?_ (fun hHeld => ?_)
                · exact HS.out.1.cell 0
                clear hK K
                try simp only [Act.put, List.setIfInBounds_toArray, List.set_cons_zero, List.set_cons_succ]
                have d0 := HV.out.cell 0
                have e0 := HV.out.frozen 0
                have na : w2.heap.size ≠ w23.heap.size := by omega
                have nb : w23.heap.size ≠ w2.heap.size := by omega
                have z5 := HS.out.1.cell 0
                refine wpAnyH_ready (rs := [12]) (by kernel_rfl) (by simp) ?_
                refine AllReadyH.cons rfl (fun K hK => ?_) AllReadyH.nil
                go_simp
                refine hK.out _ _ ?_ (fun hHeld => ?_)
                · first | with_reducible assumption | go_keep
                clear hK K
                try simp only [Act.put, List.setIfInBounds_toArray, List.set_cons_zero, List.set_cons_succ]
                refine wpAnyH_ready (rs := [13]) (by kernel_rfl) (by simp) ?_
                refine AllReadyH.cons rfl (fun K hK => ?_) AllReadyH.nil
                go_simp
                refine hK.out _ _ ?_ (fun hHeld => ?_)
                · first | with_reducible assumption | go_keep
                clear hK K
                try simp only [Act.put, List.setIfInBounds_toArray, List.set_cons_zero, List.set_cons_succ]
                refine wpAnyH_done (by kernel_rfl) ?_ _
                go_wp2_with fail
                go_meet
                exact ⟨_, _, _, cs, _, rfl, rfl, Blk.new w23 _ _, HM.out.1, HM.out.2.1, HM.out.2.2.keep (grown_alloc (grown_refl _ none) _), HSx.out.kept (grown_alloc (grown_refl _ none) _)⟩
              · have hv0 : Blk (World.alloc w22 (.cells #[.slice none 0 0] 40)) w22.heap.size 40 #[.slice none 0 0] := by have h := Blk.new w22 40 #[.slice none 0 0]; (try simp only [World.drew] at h); exact h
                have HV := Lib.hid hv0
                clear hv0
                have hVD := HS.out.1.lt
                (try simp only [World.drew] at hVD)
                have HSx := Lib.hid HS.out
                replace HS := Lib.hid (HS.out.kept (grown_alloc (grown_refl _ none) (.cells #[.slice none 0 0] 40)))
                go_simp
                refine hK.out _ _ ?_ (fun hHeld => ?_)
                · exact HS.out.1.cell 0
                clear hK K
                try simp only [Act.put, List.setIfInBounds_toArray, List.set_cons_zero, List.set_cons_succ]
                refine wpAnyH_ready (rs := [7]) (by kernel_rfl) (by simp) ?_
                refine AllReadyH.cons rfl (fun K hK => ?_) AllReadyH.nil
                go_simp
                go_at_call 125
                refine (put_drawn _ _ ls _ _ _ _ HS.out.2.1.1 HS.out.2.2.1.row HS.out.2.1.2 u20 v20 u21 v21 u22 v22).mono ?_
                rintro e w23 ⟨g1, c1, cs, b, rfl, hl, hv, ho, hk⟩
                have hsz := HS.out.2.2.2.2.2.1.size
                have hVs := HS.out.2.2.2.1.lt
                (try simp only [World.drew, size_alloc1] at hVs)
                replace HV := Lib.hid (HV.out.keep hk)
                have ho1 := ho.base_le (base' := w.heap.size + 1) (by (try simp only [World.drew, size_alloc1]); omega)
                replace HS := Lib.hid (HS.out.kept hk)
                have HM := Lib.hid (And.intro hl (And.intro hv ho1))
                clear hl hv ho ho1 hk hsz hVs
                refine hK.out _ _ ?_ (fun hHeld => ?_)
                · exact HS.out.1.cell 0
                clear hK K
                try simp only [Act.put, List.setIfInBounds_toArray, List.set_cons_zero, List.set_cons_succ]
                refine heldY 8 16 ?_
                refine heldY 9 25 ?_
                refine heldY 10 26 ?_
                have d0 := HV.out.cell 0
                have e0 := HV.out.frozen 0
                have na : w2.heap.size ≠ w22.heap.size := by omega
                have nb : w22.heap.size ≠ w2.heap.size := by omega
                have z5 := HS.out.1.cell 0
                refine wpAnyH_ready (rs := [12]) (by kernel_rfl) (by simp) ?_
                refine AllReadyH.cons rfl (fun K hK => ?_) AllReadyH.nil
                go_simp
                refine hK.out _ _ ?_ (fun hHeld => ?_)
                · first | with_reducible assumption | go_keep
                clear hK K
                try simp only [Act.put, List.setIfInBounds_toArray, List.set_cons_zero, List.set_cons_succ]
                refine wpAnyH_ready (rs := [13]) (by kernel_rfl) (by simp) ?_
                refine AllReadyH.cons rfl (fun K hK => ?_) AllReadyH.nil
                go_simp
                refine hK.out _ _ ?_ (fun hHeld => ?_)
                · first | with_reducible assumption | go_keep
                clear hK K
                try simp only [Act.put, List.setIfInBounds_toArray, List.set_cons_zero, List.set_cons_succ]
                refine wpAnyH_done (by kernel_rfl) ?_ _
                go_wp2_with fail
                go_meet
                exact ⟨_, _, _, cs, _, rfl, rfl, HV.out.put 0 (.slice (some ⟨g1, 0, none⟩) 8 c1), HM.out.1, HM.out.2.1, HM.out.2.2.put HV.out 0 (.slice (some ⟨g1, 0, none⟩) 8 c1), HS.out.farT HV.out (by omega) (.slice (some ⟨g1, 0, none⟩) 8 c1)⟩
            · have hv0 : Blk (World.alloc w21 (.cells #[.slice none 0 0] 40)) w21.heap.size 40 #[.slice none 0 0] := by have h := Blk.new w21 40 #[.slice none 0 0]; (try simp only [World.drew] at h); exact h
              have HV := Lib.hid hv0
              clear hv0
              have hVD := HS.out.1.lt
              (try simp only [World.drew] at hVD)
              have HSx := Lib.hid HS.out
              replace HS := Lib.hid (HS.out.kept (grown_alloc (grown_refl _ none) (.cells #[.slice none 0 0] 40)))
              go_simp
              refine hK.out _ _ ?_ (fun hHeld => ?_)
              · exact HS.out.1.cell 0
              clear hK K
              try simp only [Act.put, List.setIfInBounds_toArray, List.set_cons_zero, List.set_cons_succ]
              refine wpAnyH_ready (rs := [6]) (by kernel_rfl) (by simp) ?_
              refine AllReadyH.cons rfl (fun K hK => ?_) AllReadyH.nil
              go_simp
              go_at_call 51
              refine (pick_lt _ _ _ _ _ HS.out.2.2.2.2.1 (by omega) (by omega)).mono ?_
              rintro e w22 ⟨x22, rfl, u22, v22, h22, hg22⟩
              have hgl := HS.out.2.2.2.2.2.2.1
              have hwV := HS.out.2.2.2.2.2.2.2
              replace HV := Lib.hid (HV.out.grown hg22 (by intro e; injection e with e; omega))
              replace HS := Lib.hid (HS.out.grown hg22 h22)
              clear h22 hg22
              refine hK.out _ _ ?_ (fun hHeld => ?_)
              · exact HS.out.1.cell 0
              clear hK K
              try simp only [Act.put, List.setIfInBounds_toArray, List.set_cons_zero, List.set_cons_succ]
              refine wpAnyH_ready (rs := [7]) (by kernel_rfl) (by simp) ?_
              refine AllReadyH.cons rfl (fun K hK => ?_) AllReadyH.nil
              go_simp
              go_at_call 125
              refine (put_drawn _ _ ls _ _ _ _ HS.out.2.1.1 HS.out.2.2.1.row HS.out.2.1.2 u20 v20 u21 v21 u22 v22).mono ?_
              rintro e w23 ⟨g1, c1, cs, b, rfl, hl, hv, ho, hk⟩
              have hsz := HS.out.2.2.2.2.2.1.size
              have hVs := HS.out.2.2.2.1.lt
              (try simp only [World.drew, size_alloc1] at hVs)
              replace HV := Lib.hid (HV.out.keep hk)
              have ho1 := ho.base_le (base' := w.heap.size + 1) (by (try simp only [World.drew, size_alloc1]); omega)
              replace HS := Lib.hid (HS.out.kept hk)
              have HM := Lib.hid (And.intro hl (And.intro hv ho1))
              clear hl hv ho ho1 hk hsz hVs
              refine hK.out _ _ ?_ (fun hHeld => ?_)
              · exact HS.out.1.cell 0
              clear hK K
              try simp only [Act.put, List.setIfInBounds_toArray, List.set_cons_zero, List.set_cons_succ]
              refine heldY 8 16 ?_
              refine heldY 9 25 ?_
              refine heldY 10 26 ?_
              have d0 := HV.out.cell 0
              have e0 := HV.out.frozen 0
              have na : w2.heap.size ≠ w21.heap.size := by omega
              have nb : w21.heap.size ≠ w2.heap.size := by omega
              have z5 := HS.out.1.cell 0
              refine wpAnyH_ready (rs := [12]) (by kernel_rfl) (by simp) ?_
              refine AllReadyH.cons rfl (fun K hK => ?_) AllReadyH.nil
              go_simp
              refine hK.out _ _ ?_ (fun hHeld => ?_)
              · first | with_reducible assumption | go_keep
              clear hK K
              try simp only [Act.put, List.setIfInBounds_toArray, List.set_cons_zero, List.set_cons_succ]
              refine wpAnyH_ready (rs := [13]) (by kernel_rfl) (by simp) ?_
              refine AllReadyH.cons rfl (fun K hK => ?_) AllReadyH.nil
              go_simp
              refine hK.out _ _ ?_ (fun hHeld => ?_)
              · first | with_reducible assumption | go_keep
              clear hK K
              try simp only [Act.put, List.setIfInBounds_toArray, List.set_cons_zero, List.set_cons_succ]
              refine wpAnyH_done (by kernel_rfl) ?_ _
              go_wp2_with fail
              go_meet
              exact ⟨_, _, _, cs, _, rfl, rfl, HV.out.put 0 (.slice (some ⟨g1, 0, none⟩) 8 c1), HM.out.1, HM.out.2.1, HM.out.2.2.put HV.out 0 (.slice (some ⟨g1, 0, none⟩) 8 c1), HS.out.farT HV.out (by omega) (.slice (some ⟨g1, 0, none⟩) 8 c1)⟩
          · have hv0 : Blk (World.alloc w20 (.cells #[.slice none 0 0] 40)) w20.heap.size 40 #[.slice none 0 0] := by have h := Blk.new w20 40 #[.slice none 0 0]; (try simp only [World.drew] at h); exact h
            have HV := Lib.hid hv0
            clear hv0
            have hVD := HS.out.1.lt
            (try simp only [World.drew] at hVD)
            have HSx := Lib.hid HS.out
            replace HS := Lib.hid (HS.out.kept (grown_alloc (grown_refl _ none) (.cells #[.slice none 0 0] 40)))
            go_simp
            refine hK.out _ _ ?_ (fun hHeld => ?_)
            · exact HS.out.1.cell 0
            clear hK K
            try simp only [Act.put, List.setIfInBounds_toArray, List.set_cons_zero, List.set_cons_succ]
            refine wpAnyH_ready (rs := [4]) (by kernel_rfl) (by simp) ?_
            refine AllReadyH.cons rfl (fun K hK => ?_) AllReadyH.nil
            go_simp
            go_at_call 51
            refine (pick_lt _ _ _ _ _ HS.out.2.2.2.2.1 (by omega) (by omega)).mono ?_
            rintro e w21 ⟨x21, rfl, u21, v21, h21, hg21⟩
            have hgl := HS.out.2.2.2.2.2.2.1
            have hwV := HS.out.2.2.2.2.2.2.2
            replace HV := Lib.hid (HV.out.grown hg21 (by intro e; injection e with e; omega))
            replace HS := Lib.hid (HS.out.grown hg21 h21)
            clear h21 hg21
            refine hK.out _ _ ?_ (fun hHeld => ?_)
            · exact HS.out.1.cell 0
            clear hK K
            try simp only [Act.put, List.setIfInBounds_toArray, List.set_cons_zero, List.set_cons_succ]
            refine wpAnyH_ready (rs := [6]) (by kernel_rfl) (by simp) ?_
            refine AllReadyH.cons rfl (fun K hK => ?_) AllReadyH.nil
            go_simp
            go_at_call 51
            refine (pick_lt _ _ _ _ _ HS.out.2.2.2.2.1 (by omega) (by omega)).mono ?_
            rintro e w22 ⟨x22, rfl, u22, v22, h22, hg22⟩
            have hgl := HS.out.2.2.2.2.2.2.1
            have hwV := HS.out.2.2.2.2.2.2.2
            replace HV := Lib.hid (HV.out.grown hg22 (by intro e; injection e with e; omega))
            replace HS := Lib.hid (HS.out.grown hg22 h22)
            clear h22 hg22
            refine hK.out _ _ ?_ (fun hHeld => ?_)
            · exact HS.out.1.cell 0
            clear hK K
            try simp only [Act.put, List.setIfInBounds_toArray, List.set_cons_zero, List.set_cons_succ]
            refine wpAnyH_ready (rs := [7]) (by kernel_rfl) (by simp) ?_
            refine AllReadyH.cons rfl (fun K hK => ?_) AllReadyH.nil
            go_simp
            go_at_call 125
            refine (put_drawn _ _ ls _ _ _ _ HS.out.2.1.1 HS.out.2.2.1.row HS.out.2.1.2 u20 v20 u21 v21 u22 v22).mono ?_
            rintro e w23 ⟨g1, c1, cs, b, rfl, hl, hv, ho, hk⟩
            have hsz := HS.out.2.2.2.2.2.1.size
            have hVs := HS.out.2.2.2.1.lt
            (try simp only [World.drew, size_alloc1] at hVs)
            replace HV := Lib.hid (HV.out.keep hk)
            have ho1 := ho.base_le (base' := w.heap.size + 1) (by (try simp only [World.drew, size_alloc1]); omega)
            replace HS := Lib.hid (HS.out.kept hk)
            have HM := Lib.hid (And.intro hl (And.intro hv ho1))
            clear hl hv ho ho1 hk hsz hVs
            refine hK.out _ _ ?_ (fun hHeld => ?_)
            · exact HS.out.1.cell 0
            clear hK K
            try simp only [Act.put, List.setIfInBounds_toArray, List.set_cons_zero, List.set_cons_succ]
            refine heldY 8 16 ?_
            refine heldY 9 25 ?_
            refine heldY 10 26 ?_
            have d0 := HV.out.cell 0
            have e0 := HV.out.frozen 0
            have na : w2.heap.size ≠ w20.heap.size := by omega
            have nb : w20.heap.size ≠ w2.heap.size := by omega
            have z5 := HS.out.1.cell 0
            refine wpAnyH_ready (rs := [12]) (by kernel_rfl) (by simp) ?_
            refine AllReadyH.cons rfl (fun K hK => ?_) AllReadyH.nil
            go_simp
            refine hK.out _ _ ?_ (fun hHeld => ?_)
            · first | with_reducible assumption | go_keep
            clear hK K
            try simp only [Act.put, List.setIfInBounds_toArray, List.set_cons_zero, List.set_cons_succ]
            refine wpAnyH_ready (rs := [13]) (by kernel_rfl) (by simp) ?_
            refine AllReadyH.cons rfl (fun K hK => ?_) AllReadyH.nil
            go_simp
            refine hK.out _ _ ?_ (fun hHeld => ?_)
            · first | with_reducible assumption | go_keep
            clear hK K
            try simp only [Act.put, List.setIfInBounds_toArray, List.set_cons_zero, List.set_cons_succ]
            refine wpAnyH_done (by kernel_rfl) ?_ _
            go_wp2_with fail
            go_meet
            exact ⟨_, _, _, cs, _, rfl, rfl, HV.out.put 0 (.slice (some ⟨g1, 0, none⟩) 8 c1), HM.out.1, HM.out.2.1, HM.out.2.2.put HV.out 0 (.slice (some ⟨g1, 0, none⟩) 8 c1), HS.out.farT HV.out (by omega) (.slice (some ⟨g1, 0, none⟩) 8 c1)⟩
        · have hv0 : Blk (World.alloc wq.drew (.cells #[.slice none 0 0] 40)) wq.heap.size 40 #[.slice none 0 0] := by have h := Blk.new wq.drew 40 #[.slice none 0 0]; (try simp only [World.drew] at h); exact h
          have HV := Lib.hid hv0
          clear hv0
          have hVD := HS.out.1.lt
          (try simp only [World.drew] at hVD)
          have HSx := Lib.hid HS.out
          replace HS := Lib.hid (HS.out.kept (grown_alloc (grown_refl _ none) (.cells #[.slice none 0 0] 40)))
          go_simp
          refine hK.out _ _ ?_ (fun hHeld => ?_)
          · exact HS.out.1.cell 0
          clear hK K
          try simp only [Act.put, List.setIfInBounds_toArray, List.set_cons_zero, List.set_cons_succ]
          refine wpAnyH_ready (rs := [2]) (by kernel_rfl) (by simp) ?_
          refine AllReadyH.cons rfl (fun K hK => ?_) AllReadyH.nil
          go_simp
          go_at_call 51
          refine (pick_lt _ _ _ _ _ HS.out.2.2.2.2.1 (by omega) (by omega)).mono ?_
          rintro e w20 ⟨x20, rfl, u20, v20, h20, hg20⟩
          have hgl := HS.out.2.2.2.2.2.2.1
          have hwV := HS.out.2.2.2.2.2.2.2
          replace HV := Lib.hid (HV.out.grown hg20 (by intro e; injection e with e; omega))
          replace HS := Lib.hid (HS.out.grown hg20 h20)
          clear h20 hg20
          refine hK.out _ _ ?_ (fun hHeld => ?_)
          · exact HS.out.1.cell 0
          clear hK K
          try simp only [Act.put, List.setIfInBounds_toArray, List.set_cons_zero, List.set_cons_succ]
          refine wpAnyH_ready (rs := [4]) (by kernel_rfl) (by simp) ?_
          refine AllReadyH.cons rfl (fun K hK => ?_) AllReadyH.nil
          go_simp
          go_at_call 51
          refine (pick_lt _ _ _ _ _ HS.out.2.2.2.2.1 (by omega) (by omega)).mono ?_
          rintro e w21 ⟨x21, rfl, u21, v21, h21, hg21⟩
          have hgl := HS.out.2.2.2.2.2.2.1
          have hwV := HS.out.2.2.2.2.2.2.2
          replace HV := Lib.hid (HV.out.grown hg21 (by intro e; injection e with e; omega))
          replace HS := Lib.hid (HS.out.grown hg21 h21)
          clear h21 hg21
          refine hK.out _ _ ?_ (fun hHeld => ?_)
          · exact HS.out.1.cell 0
          clear hK K
          try simp only [Act.put, List.setIfInBounds_toArray, List.set_cons_zero, List.set_cons_succ]
          refine wpAnyH_ready (rs := [6]) (by kernel_rfl) (by simp) ?_
          refine AllReadyH.cons rfl (fun K hK => ?_) AllReadyH.nil
          go_simp
          go_at_call 51
          refine (pick_lt _ _ _ _ _ HS.out.2.2.2.2.1 (by omega) (by omega)).mono ?_
          rintro e w22 ⟨x22, rfl, u22, v22, h22, hg22⟩
          have hgl := HS.out.2.2.2.2.2.2.1
          have hwV := HS.out.2.2.2.2.2.2.2
          replace HV := Lib.hid (HV.out.grown hg22 (by intro e; injection e with e; omega))
          replace HS := Lib.hid (HS.out.grown hg22 h22)
          clear h22 hg22
          refine hK.out _ _ ?_ (fun hHeld => ?_)
          · exact HS.out.1.cell 0
          clear hK K
          try simp only [Act.put, List.setIfInBounds_toArray, List.set_cons_zero, List.set_cons_succ]
          refine wpAnyH_ready (rs := [7]) (by kernel_rfl) (by simp) ?_
          refine AllReadyH.cons rfl (fun K hK => ?_) AllReadyH.nil
          go_simp
          go_at_call 125
          refine (put_drawn _ _ ls _ _ _ _ HS.out.2.1.1 HS.out.2.2.1.row HS.out.2.1.2 u20 v20 u21 v21 u22 v22).mono ?_
          rintro e w23 ⟨g1, c1, cs, b, rfl, hl, hv, ho, hk⟩
          have hsz := HS.out.2.2.2.2.2.1.size
          have hVs := HS.out.2.2.2.1.lt
          (try simp only [World.drew, size_alloc1] at hVs)
          replace HV := Lib.hid (HV.out.keep hk)
          have ho1 := ho.base_le (base' := w.heap.size + 1) (by (try simp only [World.drew, size_alloc1]); omega)
          replace HS := Lib.hid (HS.out.kept hk)
          have HM := Lib.hid (And.intro hl (And.intro hv ho1))
          clear hl hv ho ho1 hk hsz hVs
          refine hK.out _ _ ?_ (fun hHeld => ?_)
          · exact HS.out.1.cell 0
          clear hK K
          try simp only [Act.put, List.setIfInBounds_toArray, List.set_cons_zero, List.set_cons_succ]
          refine heldY 8 16 ?_
          refine heldY 9 25 ?_
          refine heldY 10 26 ?_
          have d0 := HV.out.cell 0
          have e0 := HV.out.frozen 0
          have na : w2.heap.size ≠ wq.heap.size := by omega
          have nb : wq.heap.size ≠ w2.heap.size := by omega
          have z5 := HS.out.1.cell 0
          refine wpAnyH_ready (rs := [12]) (by kernel_rfl) (by simp) ?_
          refine AllReadyH.cons rfl (fun K hK => ?_) AllReadyH.nil
          go_simp
          refine hK.out _ _ ?_ (fun hHeld => ?_)
          · first | with_reducible assumption | go_keep
          clear hK K
          try simp only [Act.put, List.setIfInBounds_toArray, List.set_cons_zero, List.set_cons_succ]
          refine wpAnyH_ready (rs := [13]) (by kernel_rfl) (by simp) ?_
          refine AllReadyH.cons rfl (fun K hK => ?_) AllReadyH.nil
          go_simp
          refine hK.out _ _ ?_ (fun hHeld => ?_)
          · first | with_reducible assumption | go_keep
          clear hK K
          try simp only [Act.put, List.setIfInBounds_toArray, List.set_cons_zero, List.set_cons_succ]
          refine wpAnyH_done (by kernel_rfl) ?_ _
          go_wp2_with fail
          go_meet
          exact ⟨_, _, _, cs, _, rfl, rfl, HV.out.put 0 (.slice (some ⟨g1, 0, none⟩) 8 c1), HM.out.1, HM.out.2.1, HM.out.2.2.put HV.out 0 (.slice (some ⟨g1, 0, none⟩) 8 c1), HS.out.farT HV.out (by omega) (.slice (some ⟨g1, 0, none⟩) 8 c1)⟩
      case rest =>
        clear HS
        obtain ⟨D, g1, c1, cs, b, rfl, rfl, hD, hl, hv, ho, hS⟩ := hcut
        rename World => wx
        have b7 : wx.cell? ⟨D, 0, none⟩ = some (.slice (some ⟨g1, 0, none⟩) 8 c1) := hD.cell 0
        have b5 : wx.cell? ⟨w2.heap.size, 0, none⟩ = some (.slice (some ⟨gt, 0, none⟩) 8 ct) := hS.1.cell 0
        have f5 : wx.frozen? ⟨w2.heap.size, 0, none⟩ = false := hS.1.frozen 0
        have HZ := Lib.hid ((hS.put hl hv ho).more (show P + 40 - 3 * (k + 1) + 3 ≤ P + 40 - 3 * k by omega))
        clear hD hl hv ho hS
        go_wp2
        go_roundw
        case rel => exact ⟨k, by go_num, by omega, _, _, _, HZ.out⟩
        case measure => first | (simp [intOf]; done) | (simp [intOf]; omega)
    · obtain rfl : k = 0 := by omega
      have z5 : wq.cell? ⟨w2.heap.size, 0, none⟩ = some (.slice (some ⟨gt, 0, none⟩) 8 ct) := HS.out.1.cell 0
      have z4 : wq.cell? ⟨w.heap.size, 0, none⟩ = some (.slice none 0 0) := HS.out.2.2.2.1.cell 0
      have y4 : wq.frozen? ⟨w.heap.size, 0, none⟩ = false := HS.out.2.2.2.1.frozen 0
      go_wp2_with (go_at_call 91; refine (odd_zero _ _).mono ?_; rintro e w' ⟨rfl, rfl⟩)
      exact bodyPost_ret (v := .agg #[.slice (some ⟨gt, 0, none⟩) 8 ct]) (by simp [results, Try.results101, go_sem, *]) rfl (HS.out.fin0 (by omega))
end Go.Proofs.Yteniikfgellhfaa
namespace Go.Proofs.Yteniikfgellhfaa
open Go.ChangeShapes Go.WideShapes Go.ChangeAt Go.RowKit
set_option linter.unusedVariables false
set_option linter.unusedSimpArgs false

/-- A save is drawn. -/
def DrewSave (w : World) (B g P : Nat) (e : Ending) (w' : World) : Prop :=
  ∃ (N : Int) (A : Option Addr) (n c : Nat) (X : List Int) (S : Int), e = .returned (.agg #[.int .i64 N, .slice A n c, .int .i64 S]) ∧ X.length = n ∧ n ≤ 48 ∧ n ≤ c ∧ c ≤ maxLen ∧ IRow w' w'.heap.size A X ∧ (∀ ad, A = some ad → w.heap.size ≤ ad.block) ∧ Rd w' B g P ∧ w.grownBy w' (some g)
/-- The draw of a save under way: the save in its variable V, its numbers in block gp, the result's cells, the reader. -/
def SSt (w : World) (B g Q V : Nat) (N S : Int) (gp c : Nat) (X : List Int) (wr : World) : Prop :=
  Blk wr V 49 #[.int .i64 N, .slice (some ⟨gp, 0, none⟩) 48 c, .int .i64 S] ∧ X.length = 48 ∧ IOwn wr (w.heap.size + 1) (.slice (some ⟨gp, 0, none⟩) 48 c) X ∧ Blk wr w.heap.size 49 #[.int .i64 0, .slice none 0 0, .int .i64 0] ∧ Rd wr B g Q ∧ w.grownBy wr (some g) ∧ g < w.heap.size ∧ w.heap.size < V
section
variable {w wr w' : World} {B g Q Q' V gp c : Nat} {N S : Int} {X : List Int}
theorem SSt.grown (H : SSt w B g Q V N S gp c X wr) (hg : wr.grownBy w' (some g)) (hr : Rd w' B g Q') : SSt w B g Q' V N S gp c X w' := by
  obtain ⟨h1, h2, h3, h4, h5, h6, h7, h8⟩ := H
  have hp := (VOwn.lt h3 gp rfl).1
  exact ⟨h1.grown hg (by intro e; injection e with e; omega), h2, VOwn.kept h3 hg (.inr (by simp only [Value.ownBlock]; intro e; injection e with e; omega)), h4.grown hg (by intro e; injection e with e; omega), hr, grown_trans h6 hg, h7, h8⟩
theorem SSt.kept (H : SSt w B g Q V N S gp c X wr) (hk : wr.grownBy w' none) : SSt w B g Q V N S gp c X w' := H.grown (grown_some hk) (H.2.2.2.2.1.grown hk (by intro k e; cases e))
/-- The number, or the sum, is another one. -/
theorem SSt.putC (H : SSt w B g Q V N S gp c X wr) (i : Nat) (u : Value) : Blk (wr.setCell ⟨V, i, none⟩ u) V 49 (#[.int .i64 N, .slice (some ⟨gp, 0, none⟩) 48 c, .int .i64 S].setIfInBounds i u) ∧ IOwn (wr.setCell ⟨V, i, none⟩ u) (w.heap.size + 1) (.slice (some ⟨gp, 0, none⟩) 48 c) X ∧ Blk (wr.setCell ⟨V, i, none⟩ u) w.heap.size 49 #[.int .i64 0, .slice none 0 0, .int .i64 0] ∧ Rd (wr.setCell ⟨V, i, none⟩ u) B g Q ∧ w.grownBy (wr.setCell ⟨V, i, none⟩ u) (some g) := by
  obtain ⟨h1, h2, h3, h4, h5, h6, h7, h8⟩ := H
  have hB := h5.le
  have e : (Value.slice (some ⟨gp, 0, none⟩) 48 c).ownBlock ≠ some V := by
    intro e
    simp only [Value.ownBlock, Option.some.injEq] at e
    exact VOwn.ne_blk h3 h1 (by decide) e
  exact ⟨h1.put i u, VOwn.to_put h3 (p := ⟨V, i, none⟩) e u, h4.far (by dsimp only; omega) u, h5.far (by dsimp only; omega) (by dsimp only; omega) u, grown_set h6 (.inr (by dsimp only; omega)) u⟩
theorem SSt.num (H : SSt w B g Q V N S gp c X wr) (N' : Int) : SSt w B g Q V N' S gp c X (wr.setCell ⟨V, 0, none⟩ (.int .i64 N')) := by
  obtain ⟨k1, k2, k3, k4, k5⟩ := H.putC 0 (.int .i64 N')
  exact ⟨k1, H.2.1, k2, k3, k4, k5, H.2.2.2.2.2.2⟩
theorem SSt.sum (H : SSt w B g Q V N S gp c X wr) (S' : Int) : SSt w B g Q V N S' gp c X (wr.setCell ⟨V, 2, none⟩ (.int .i64 S')) := by
  obtain ⟨k1, k2, k3, k4, k5⟩ := H.putC 2 (.int .i64 S')
  exact ⟨k1, H.2.1, k2, k3, k4, k5, H.2.2.2.2.2.2⟩
/-- A page is another one. -/
theorem SSt.setX (H : SSt w B g Q V N S gp c X wr) (i : Nat) (x : Int) : SSt w B g Q V N S gp c (X.set i x) (wr.setCell ⟨gp, i, none⟩ (.int .i64 x)) := by
  obtain ⟨h1, h2, h3, h4, h5, h6, h7, h8⟩ := H
  have hB := h5.le
  have hp := (VOwn.lt h3 gp rfl).1
  have hs := VOwn.set h3 (by rw [iv_length]; exact h2) i (.int .i64 x)
  rw [← iv_set] at hs
  exact ⟨h1.far (fun e => VOwn.ne_blk h3 h1 (by decide) e.symm) _, by rw [List.length_set]; exact h2, hs, h4.far (fun e => VOwn.ne_blk h3 h4 (by decide) e.symm) _, h5.far (by dsimp only; omega) (by dsimp only; omega) _, grown_set h6 (.inr (by dsimp only; omega)) _, h7, h8⟩
theorem SSt.fin (H : SSt w B g Q V N S gp c X wr) (hq : Q ≤ Q') : DrewSave w B g Q' (.returned (.agg #[.int .i64 N, .slice (some ⟨gp, 0, none⟩) 48 c, .int .i64 S])) (putS wr w.heap.size (.int .i64 N) (.slice (some ⟨gp, 0, none⟩) 48 c) (.int .i64 S)) := by
  obtain ⟨h1, h2, h3, h4, h5, h6, h7, h8⟩ := H
  have hB := h5.le
  have hcap := VOwn.capn h3 (by rw [iv_length]; exact h2)
  have hp := (VOwn.lt h3 gp rfl).1
  refine ⟨N, _, 48, c, X, S, rfl, h2, Nat.le_refl _, hcap.1, hcap.2, VOwn.row (h3.putS h4 _ _ _), fun ad e => by injection e with e; subst e; dsimp only; omega,
    (((h5.far (by dsimp only; omega) (by dsimp only; omega) _).far (by dsimp only; omega) (by dsimp only; omega) _).far (by dsimp only; omega) (by dsimp only; omega) _).more hq, grown_set (grown_set (grown_set h6 (.inr (Nat.le_refl _)) _) (.inr (Nat.le_refl _)) _) (.inr (Nat.le_refl _)) _⟩
theorem SSt.zero (H : SSt w B g Q V N S gp c X wr) (hq : Q ≤ Q') : DrewSave w B g Q' (.returned (.agg #[.int .i64 0, .slice none 0 0, .int .i64 0])) (putS wr w.heap.size (.int .i64 0) (.slice none 0 0) (.int .i64 0)) := by
  obtain ⟨h1, h2, h3, h4, h5, h6, h7, h8⟩ := H
  have hB := h5.le
  exact ⟨0, none, 0, 0, [], 0, rfl, rfl, by omega, Nat.le_refl _, by simp [maxLen], VRow.nil, fun ad e => (by cases e),
    (((h5.far (by dsimp only; omega) (by dsimp only; omega) _).far (by dsimp only; omega) (by dsimp only; omega) _).far (by dsimp only; omega) (by dsimp only; omega) _).more hq, grown_set (grown_set (grown_set h6 (.inr (Nat.le_refl _)) _) (.inr (Nat.le_refl _)) _) (.inr (Nat.le_refl _)) _⟩
end
set_option maxHeartbeats 4000000 in
theorem saves_any (w : World) (B g P : Nat) (N : Int) (h : Rd w B g P) (hP : P ≤ 90000) (hN : 1 ≤ N) (hN2 : N ≤ 1000000000000) :
    Calls Try.prog 71 #[.pointer (some ⟨g, 0, none⟩), .int .i64 N] w (DrewSave w B g (P + 60)) := by
  have h0 := h.alloc (.cells #[.int .i64 0, .slice none 0 0, .int .i64 0] 49)
  have hg := h.lt
  have hb0 := Blk.new w 49 #[.int .i64 0, .slice none 0 0, .int .i64 0]
  clear h
  go_enter Try.func71, Try.ntmps71
  go_wp2_with fail
  refine (tables0_any _ _ _ _ h0 (by omega)).mono ?_
  rintro e w2 ⟨gt, ct, ls, rfl, hl, hv, hrow, hfar, h2, hg2⟩
  have hb2 := hb0.grown hg2 (by intro e; injection e with e; omega)
  have hw2 := grown_trans (grown_alloc (grown_refl w (some g)) (.cells #[.int .i64 0, .slice none 0 0, .int .i64 0] 49)) hg2
  have HA := Lib.hid (And.intro h2 (And.intro hrow (And.intro hfar (And.intro hb2 hw2))))
  have HV := Lib.hid (And.intro hl hv)
  clear h0 hb0 hl hv hrow hfar h2 hg2 hb2 hw2
  go_wp2_with fail
  refine (pick_lt _ _ _ _ _ HA.out.1 (by omega) (by omega)).mono ?_
  rintro e w3 ⟨x3, rfl, u3, v3, h3, hg3⟩
  have hz := HA.out.2.2.2.2.size
  have hrow3 := HA.out.2.1.grownLo HA.out.2.2.1 hg3 (by simp only [size_alloc1]; omega)
  have hb3 := HA.out.2.2.2.1.grown hg3 (by intro e; injection e with e; omega)
  have HC := Lib.hid (And.intro h3 (And.intro hrow3.here (And.intro hb3 (grown_trans HA.out.2.2.2.2 hg3))))
  have hsv : saveB (ll ls) x3 = true := by simp only [saveB, Bool.and_eq_true]; exact ⟨HV.out.2, inB_iff.2 ⟨u3, by omega⟩⟩
  have h48 := tab_flat HV.out.2
  have hsum := (ssum_cases x3 (ll ls).flatten).resolve_left (fun q => by rw [save_sum hsv] at q; cases q.1)
  obtain ⟨S, hS⟩ : ∃ S, ssumV x3 (ll ls).flatten = S := ⟨_, rfl⟩
  obtain ⟨X, hX⟩ : ∃ X, (ll ls).flatten = X := ⟨_, rfl⟩
  have hsav := saveV_yes hsv
  rw [hX] at h48 hsum hS hsav
  rw [hS] at hsum hsav
  have s0 := hsum.2.2.1
  have s1 := hsum.2.2.2
  have HX := Lib.hid (And.intro hsav h48)
  clear h3 hg3 hrow3 hb3 hsv hsum hS hX hsav h48 HA
  go_wp2_with fail
  refine (specSave_val HX.out.1 HV.out.1 HC.out.2.1 (by omega) (ll_six HV.out.2)).mono ?_
  rintro e w4 ⟨A4, n4, c4, rfl, hl4, ho4, hk4⟩
  obtain rfl : n4 = 48 := by rw [← hl4]; exact HX.out.2
  obtain ⟨gp, cap, e, _⟩ := VOwn.head (n := 48) ho4 (by rw [iv_length]; exact hl4) (by omega)
  injection e with e1 _ e3
  subst e1; subst e3
  have hz3 := HC.out.2.2.2.size
  have hlt := HC.out.2.2.1.lt
  have K4 : w4.grownBy (w4.alloc (.cells #[.int .i64 x3, .slice (some ⟨gp, 0, none⟩) 48 c4, .int .i64 S] 49)) none := grown_alloc (grown_refl _ _) _
  have HS : RowKit.Hid (SSt w B g (P + 51) w4.heap.size x3 S gp c4 X (w4.alloc (.cells #[.int .i64 x3, .slice (some ⟨gp, 0, none⟩) 48 c4, .int .i64 S] 49))) := Lib.hid
    ⟨Blk.new w4 _ _, hl4, VOwn.keep (VOwn.base_le ho4 (by omega)) K4, (HC.out.2.2.1.keep hk4).keep K4, ((HC.out.1.grown hk4 (by intro k e; cases e)).grown K4 (by intro k e; cases e)).more (by omega), grown_trans (grown_trans HC.out.2.2.2 (grown_some hk4)) (grown_some K4), hg, by have := hk4.size; omega⟩
  clear hl4 ho4 hk4 K4 hz hz3 hlt HX HV HC
  go_wp2_with fail
  refine (odd_any _ _ _ _ _ HS.out.2.2.2.2.1 (by omega) hN hN2).mono ?_
  rintro e w5 ⟨o5, rfl, h5, hg5⟩
  replace HS := Lib.hid (HS.out.grown hg5 h5)
  clear h5 hg5
  generalize w4.heap.size = V at HS ⊢
  cases o5
  · obtain ⟨⟨b0, b1, b2⟩, _, _, _⟩ := HS.out.1.cells3
    obtain ⟨⟨z0, z1, z2⟩, y0, y1, y2⟩ := HS.out.2.2.2.1.cells3
    go_wp2
    exact bodyPost_ret (v := .agg #[.int .i64 x3, .slice (some ⟨gp, 0, none⟩) 48 c4, .int .i64 S]) (by simp [results, Try.results71, go_sem, *]) rfl (HS.out.fin (by omega))
  · go_wp2_with fail
    refine (pick_lt _ _ _ _ _ HS.out.2.2.2.2.1 (by omega) (by omega)).mono ?_
    rintro e w5 ⟨x5, rfl, u5, v5, h5, hg5⟩
    replace HS := Lib.hid (HS.out.grown hg5 h5)
    clear h5 hg5
    have hx : x5 = 0 ∨ x5 = 1 ∨ x5 = 2 ∨ x5 = 3 := by omega
    rcases hx with rfl | rfl | rfl | rfl
    · obtain ⟨⟨z0, z1, z2⟩, y0, y1, y2⟩ := HS.out.2.2.2.1.cells3
      go_wp2
      exact bodyPost_ret (v := .agg #[.int .i64 0, .slice none 0 0, .int .i64 0]) (by simp [results, Try.results71, go_sem, *]) rfl (HS.out.zero (by omega))
    · have HE := Lib.hid (HS.out.sum (S + 1))
      obtain ⟨⟨b0, b1, b2⟩, f0, f1, f2⟩ := HS.out.1.cells3
      obtain ⟨⟨z0, z1, z2⟩, y0, y1, y2⟩ := HS.out.2.2.2.1.cells3
      have nv := HS.out.2.2.2.2.2.2.2
      have n1 : V ≠ w.heap.size := by omega
      have n2 : w.heap.size ≠ V := by omega
      clear nv
      go_wp2
      exact bodyPost_ret (v := .agg #[.int .i64 x3, .slice (some ⟨gp, 0, none⟩) 48 c4, .int .i64 (S + 1)]) (by simp [results, Try.results71, go_sem, *]) rfl (HE.out.fin (by omega))
    · have b1 := HS.out.1.cell 1
      go_wp2_with fail
      clear b1
      refine wp_region_held_drew (S := (fun w' => w'.cell? ⟨V, 1, none⟩ = some (.slice (some ⟨gp, 0, none⟩) 48 c4))) (by kernel_rfl) ?_ (fun hHeld => ?_)
      · exact HS.out.1.cell 1
      replace HS := Lib.hid (HS.out.kept (grown_drew (grown_refl _ none)))
      refine heldY 0 31 ?_
      refine heldY 1 32 ?_
      refine heldY 2 33 ?_
      refine heldY 3 34 ?_
      refine heldY 4 35 ?_
      refine heldY 5 36 ?_
      refine wpAnyH_ready (rs := [6]) (by kernel_rfl) (by simp) ?_
      refine AllReadyH.cons rfl (fun K hK => ?_) AllReadyH.nil
      go_simp
      go_at_call 51
      refine (pick_lt _ _ _ _ _ HS.out.2.2.2.2.1 (by omega) (by omega)).mono ?_
      rintro e w6 ⟨x6, rfl, u6, v6, h6, hg6⟩
      replace HS := Lib.hid (HS.out.grown hg6 h6)
      clear h6 hg6
      obtain ⟨i, rfl⟩ := Int.eq_ofNat_of_zero_le u6
      have i0 : decide ((0 : Int) ≤ i) = true := decide_eq_true (by omega)
      have i1 : (i : Int) < 48 := by omega
      refine hK.out _ _ ?_ (fun hHeld => ?_)
      · exact HS.out.1.cell 1
      clear hK K
      try simp only [Act.put, List.setIfInBounds_toArray, List.set_cons_zero, List.set_cons_succ]
      refine heldY 7 38 ?_
      obtain ⟨x, hx⟩ : ∃ x, X[i]? = some x := ⟨_, List.getElem?_eq_getElem (by have := HS.out.2.1; omega)⟩
      have c0 : w6.cell? ⟨gp, i, none⟩ = some (.int .i64 x) := VOwn.at_ HS.out.2.2.1 (by rw [iv_length]; exact HS.out.2.1) (iv_at hx)
      have c1 : w6.frozen? ⟨gp, i, none⟩ = false := VOwn.frozen HS.out.2.2.1 (by rw [iv_length]; exact HS.out.2.1) i
      have nV : gp ≠ V := VOwn.ne_blk HS.out.2.2.1 HS.out.1 (by decide)
      have nV' : V ≠ gp := fun e => nV e.symm
      have HE := Lib.hid (HS.out.setX i 47)
      have z5 := HS.out.1.cell 1
      clear hx
      refine wpAnyH_ready (rs := [8]) (by kernel_rfl) (by simp) ?_
      refine AllReadyH.cons rfl (fun K hK => ?_) AllReadyH.nil
      go_simp
      refine hK.out _ _ ?_ (fun hHeld => ?_)
      · exact HE.out.1.cell 1
      clear hK K
      try simp only [Act.put, List.setIfInBounds_toArray, List.set_cons_zero, List.set_cons_succ]
      refine wpAnyH_done (by kernel_rfl) ?_ _
      clear c0 c1 nV nV' z5
      obtain ⟨⟨b0, b1, b2⟩, _, _, _⟩ := HE.out.1.cells3
      obtain ⟨⟨z0, z1, z2⟩, y0, y1, y2⟩ := HE.out.2.2.2.1.cells3
      go_wp2
      exact bodyPost_ret (v := .agg #[.int .i64 x3, .slice (some ⟨gp, 0, none⟩) 48 c4, .int .i64 S]) (by simp [results, Try.results71, go_sem, *]) rfl (HE.out.fin (by omega))
    · have HE := Lib.hid (HS.out.num (x3 + 1))
      obtain ⟨⟨b0, b1, b2⟩, f0, f1, f2⟩ := HS.out.1.cells3
      obtain ⟨⟨z0, z1, z2⟩, y0, y1, y2⟩ := HS.out.2.2.2.1.cells3
      have nv := HS.out.2.2.2.2.2.2.2
      have n1 : V ≠ w.heap.size := by omega
      have n2 : w.heap.size ≠ V := by omega
      clear nv
      go_wp2
      exact bodyPost_ret (v := .agg #[.int .i64 (x3 + 1), .slice (some ⟨gp, 0, none⟩) 48 c4, .int .i64 S]) (by simp [results, Try.results71, go_sem, *]) rfl (HE.out.fin (by omega))
end Go.Proofs.Yteniikfgellhfaa
namespace Go.Proofs.Yteniikfgellhfaa
open Go.ChangeShapes Go.WideShapes Go.ChangeAt Go.RowKit
set_option linter.unusedVariables false
set_option linter.unusedSimpArgs false

/-- A drawn table, while the reader reads on (v: it still does). -/
def DT (w : World) (A : Option Addr) (ls : List Li) (g B Q : Nat) (v : Bool) (wr : World) : Prop := TRow wr wr.heap.size A ls ∧ (v = true → Rd wr B g Q) ∧ Below w.heap.size w wr ∧ (w.heap.size < g ∧ g < wr.heap.size) ∧ TFar (g + 1) A ls
section
variable {w wr w' : World} {B g Q Q' : Nat} {A : Option Addr} {ls : List Li} {v : Bool}
theorem DT.rd (H : DT w A ls g B Q true wr) : Rd wr B g Q := H.2.1 rfl
theorem DT.grown (H : DT w A ls g B Q v wr) (hg : wr.grownBy w' (some g)) (hr : Rd w' B g Q') : DT w A ls g B Q' v w' :=
  ⟨(H.1.grownLo H.2.2.2.2 hg (by omega)).here, fun _ => hr, H.2.2.1.trans (Below.of_grown hg (by have := H.2.2.2.1; omega) H.2.2.1.size), ⟨H.2.2.2.1.1, Nat.lt_of_lt_of_le H.2.2.2.1.2 hg.size⟩, H.2.2.2.2⟩
theorem DT.kept (H : DT w A ls g B Q v wr) (hk : wr.grownBy w' none) : DT w A ls g B Q v w' :=
  ⟨(H.1.kept hk).here, fun e => (H.2.1 e).grown hk (by intro k e; cases e), Below.and_kept H.2.2.1 hk, ⟨H.2.2.2.1.1, Nat.lt_of_lt_of_le H.2.2.2.1.2 hk.size⟩, H.2.2.2.2⟩
theorem DT.fresh (H : DT w A ls g B Q v wr) : wr.heap.size ≠ g ∧ w.heap.size < wr.heap.size := ⟨by have := H.2.2.2.1; omega, by have := H.2.2.2.1; omega⟩
theorem DT.far (H : DT w A ls g B Q v wr) : w.heap.size < g := H.2.2.2.1.1
/-- The result's cell is written. -/
theorem DT.put (H : DT w A ls g B Q v wr) (u : Value) : DT w A ls g B Q false (wr.setCell ⟨w.heap.size, 0, none⟩ u) := by
  obtain ⟨h1, h2, h3, h4, h5⟩ := H
  have hs : (wr.setCell ⟨w.heap.size, 0, none⟩ u).heap.size = wr.heap.size := by simp [World.setCell]
  refine ⟨?_, fun e => (by cases e), h3.setCell (Nat.le_refl _) u, by rw [hs]; exact h4, h5⟩
  rw [hs]
  exact h1.putLo h5 (p := ⟨w.heap.size, 0, none⟩) (by dsimp only; omega) u
end
theorem litZ8 (y : Nat) (h : y < 8) : ∃ z : Nat, z < 4 ∧ (#[Value.int .i64 0, Value.int .i64 0, Value.int .i64 0, Value.int .i64 0, Value.int .i64 0, Value.int .i64 1, Value.int .i64 2, Value.int .i64 3] : Array Value)[y]? = some (.int .i64 (z : Int)) := by
  have h1 : y = 0 ∨ y = 1 ∨ y = 2 ∨ y = 3 ∨ y = 4 ∨ y = 5 ∨ y = 6 ∨ y = 7 := by omega
  rcases h1 with rfl | rfl | rfl | rfl | rfl | rfl | rfl | rfl
  · exact ⟨0, by omega, rfl⟩
  · exact ⟨0, by omega, rfl⟩
  · exact ⟨0, by omega, rfl⟩
  · exact ⟨0, by omega, rfl⟩
  · exact ⟨0, by omega, rfl⟩
  · exact ⟨1, by omega, rfl⟩
  · exact ⟨2, by omega, rfl⟩
  · exact ⟨3, by omega, rfl⟩
theorem litZ4 (y : Nat) (h : y < 4) (a b c d : Int) : ∃ v : Int, (#[Value.int .i64 a, Value.int .i64 b, Value.int .i64 c, Value.int .i64 d] : Array Value)[y]? = some (.int .i64 v) := by
  have h1 : y = 0 ∨ y = 1 ∨ y = 2 ∨ y = 3 := by omega
  rcases h1 with rfl | rfl | rfl | rfl
  · exact ⟨a, rfl⟩
  · exact ⟨b, rfl⟩
  · exact ⟨c, rfl⟩
  · exact ⟨d, rfl⟩
/-- A table and a number are drawn. -/
def SaveTDrawn (w : World) (e : Ending) (w' : World) : Prop :=
  ∃ (A : Option Addr) (n c : Nat) (ls : List Li) (v : Int), e = .returned (.tuple #[.agg #[.slice A n c], .int .i64 v]) ∧ ls.length = n ∧ n ≤ 8 ∧ (∀ l, l ∈ ls → l.xs.length ≤ 6) ∧ LT w A ls w'
end Go.Proofs.Yteniikfgellhfaa
namespace Go.Proofs.Yteniikfgellhfaa
open Go.ChangeShapes Go.WideShapes Go.ChangeAt Go.RowKit
set_option linter.unusedVariables false
set_option linter.unusedSimpArgs false

theorem litZ14 (y : Nat) (h : y < 14) : ∃ z : Nat, z < 3 ∧ (#[Value.int .i64 0, Value.int .i64 0, Value.int .i64 0, Value.int .i64 0, Value.int .i64 0, Value.int .i64 0, Value.int .i64 0, Value.int .i64 0, Value.int .i64 0, Value.int .i64 0, Value.int .i64 0, Value.int .i64 0, Value.int .i64 1, Value.int .i64 2] : Array Value)[y]? = some (.int .i64 (z : Int)) := by
  have h1 : y = 0 ∨ y = 1 ∨ y = 2 ∨ y = 3 ∨ y = 4 ∨ y = 5 ∨ y = 6 ∨ y = 7 ∨ y = 8 ∨ y = 9 ∨ y = 10 ∨ y = 11 ∨ y = 12 ∨ y = 13 := by omega
  rcases h1 with rfl | rfl | rfl | rfl | rfl | rfl | rfl | rfl | rfl | rfl | rfl | rfl | rfl | rfl
  · exact ⟨0, by omega, rfl⟩
  · exact ⟨0, by omega, rfl⟩
  · exact ⟨0, by omega, rfl⟩
  · exact ⟨0, by omega, rfl⟩
  · exact ⟨0, by omega, rfl⟩
  · exact ⟨0, by omega, rfl⟩
  · exact ⟨0, by omega, rfl⟩
  · exact ⟨0, by omega, rfl⟩
  · exact ⟨0, by omega, rfl⟩
  · exact ⟨0, by omega, rfl⟩
  · exact ⟨0, by omega, rfl⟩
  · exact ⟨0, by omega, rfl⟩
  · exact ⟨1, by omega, rfl⟩
  · exact ⟨2, by omega, rfl⟩
theorem litZ3 (y : Nat) (h : y < 3) (a b c : Int) : ∃ v : Int, (#[Value.int .i64 a, Value.int .i64 b, Value.int .i64 c] : Array Value)[y]? = some (.int .i64 v) := by
  have h1 : y = 0 ∨ y = 1 ∨ y = 2 := by omega
  rcases h1 with rfl | rfl | rfl
  · exact ⟨a, rfl⟩
  · exact ⟨b, rfl⟩
  · exact ⟨c, rfl⟩
theorem litZ7 (y : Nat) (h : y < 7) : ∃ z : Nat, z < 4 ∧ (#[Value.int .i64 0, Value.int .i64 0, Value.int .i64 0, Value.int .i64 0, Value.int .i64 1, Value.int .i64 2, Value.int .i64 3] : Array Value)[y]? = some (.int .i64 (z : Int)) := by
  have h1 : y = 0 ∨ y = 1 ∨ y = 2 ∨ y = 3 ∨ y = 4 ∨ y = 5 ∨ y = 6 := by omega
  rcases h1 with rfl | rfl | rfl | rfl | rfl | rfl | rfl
  · exact ⟨0, by omega, rfl⟩
  · exact ⟨0, by omega, rfl⟩
  · exact ⟨0, by omega, rfl⟩
  · exact ⟨0, by omega, rfl⟩
  · exact ⟨1, by omega, rfl⟩
  · exact ⟨2, by omega, rfl⟩
  · exact ⟨3, by omega, rfl⟩
theorem make_ints49 (w : World) : (Instr.makeSlice 26 (.int .i64 49) (.int .i64 49)).run Try.prog w = .ok (.slice (some ⟨w.heap.size, 0, none⟩) 49 49) (w.alloc (.cells (madeCells #[.int .i64 0] 49) 3)) := make_ints w 49 (by omega)
/-- A number and pages are drawn. -/
def SumDrawn (w : World) (e : Ending) (w' : World) : Prop := ∃ (v : Int) (A : Option Addr) (n c : Nat) (xs : List Int), e = .returned (.tuple #[.int .i64 v, .slice A n c]) ∧ xs.length = n ∧ n ≤ 49 ∧ IRow w' w'.heap.size A xs ∧ Below w.heap.size w w'
/-- A save is drawn out of a code. -/
def SaveDrawn (w : World) (e : Ending) (w' : World) : Prop := ∃ (N : Int) (A : Option Addr) (n c : Nat) (X : List Int) (S : Int), e = .returned (.agg #[.int .i64 N, .slice A n c, .int .i64 S]) ∧ X.length = n ∧ n ≤ 48 ∧ n ≤ c ∧ c ≤ maxLen ∧ IRow w' w'.heap.size A X ∧ Below w.heap.size w w'
theorem irow_grownLo {w w' : World} {B lo g : Nat} {A : Option Addr} {X : List Int} (h : IRow w B A X) (f : ∀ ad, A = some ad → lo ≤ ad.block) (hg : w.grownBy w' (some g)) (hlt : g < lo) : IRow w' B A X :=
  VRow.away h hg.size fun ad q e hq hz => World.cell?_of_block (hg.block q.block hz (by intro e2; injection e2 with e2; have := f ad e; omega))
theorem irow_putLo {w : World} {B lo : Nat} {A : Option Addr} {X : List Int} (h : IRow w B A X) (f : ∀ ad, A = some ad → lo ≤ ad.block) {p : Addr} (hp : p.block < lo) (u : Value) : IRow (w.setCell p u) B A X :=
  VRow.away h (by simp [World.setCell]) fun ad q e hq _ => World.cell?_setCell_other w p q u (fun e2 => by subst e2; have := f ad e; omega)
theorem irow_putS {w : World} {lo V : Nat} {A : Option Addr} {X : List Int} (h : IRow w w.heap.size A X) (f : ∀ ad, A = some ad → lo ≤ ad.block) (hp : V < lo) (u0 u1 u2 : Value) : IRow (putS w V u0 u1 u2) (putS w V u0 u1 u2).heap.size A X := by
  have e : (putS w V u0 u1 u2).heap.size = w.heap.size := by simp [putS, World.setCell]
  rw [e]
  exact irow_putLo (irow_putLo (irow_putLo h f (p := ⟨V, 0, none⟩) hp u0) f (p := ⟨V, 1, none⟩) hp u1) f (p := ⟨V, 2, none⟩) hp u2
theorem below_putS {w wr : World} {V : Nat} (h : Below w.heap.size w wr) (hV : w.heap.size ≤ V) (u0 u1 u2 : Value) : Below w.heap.size w (putS wr V u0 u1 u2) := ((h.setCell (p := ⟨V, 0, none⟩) hV u0).setCell (p := ⟨V, 1, none⟩) hV u1).setCell (p := ⟨V, 2, none⟩) hV u2
/-- Two saves are drawn out of a code. -/
def SavesDrawn (w : World) (e : Ending) (w' : World) : Prop := ∃ (N : Int) (A : Option Addr) (n c : Nat) (X : List Int) (S N' : Int) (A' : Option Addr) (n' c' : Nat) (X' : List Int) (S' : Int), e = .returned (.tuple #[.agg #[.int .i64 N, .slice A n c, .int .i64 S], .agg #[.int .i64 N', .slice A' n' c', .int .i64 S']]) ∧
  (X.length = n ∧ n ≤ 48 ∧ n ≤ c ∧ c ≤ maxLen) ∧ (X'.length = n' ∧ n' ≤ 48 ∧ n' ≤ c' ∧ c' ≤ maxLen) ∧ IRow w' w'.heap.size A X ∧ IRow w' w'.heap.size A' X' ∧ Below w.heap.size w w'
end Go.Proofs.Yteniikfgellhfaa
