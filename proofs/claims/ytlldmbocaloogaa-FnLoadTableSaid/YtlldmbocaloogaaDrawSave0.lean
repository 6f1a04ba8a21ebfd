/- A table is drawn that is valid. -/
import Derived.Test.YtlldmbocaloogaaDrawTabs
namespace Go.Proofs.Ytlldmbocaloogaa
open Go.ChangeShapes Go.WideShapes Go.ChangeAt Go.RowKit
set_option linter.unusedVariables false
set_option linter.unusedSimpArgs false

/-- A valid table is drawn. -/
def DrewTab0 (w : World) (B g P : Nat) (e : Ending) (w' : World) : Prop :=
  ∃ (gt ct : Nat) (ls : List Li), e = .returned (.agg #[.slice (some ⟨gt, 0, none⟩) 8 ct]) ∧ ls.length = 8 ∧ tabB (ll ls) = true ∧ TRow w' w'.heap.size (some ⟨gt, 0, none⟩) ls ∧ TFar w.heap.size (some ⟨gt, 0, none⟩) ls ∧ Rd w' B g P ∧ w.grownBy w' (some g)
theorem TSt.fin0 {w wr : World} {B g Q Q' V gt ct : Nat} {ls : List Li} (H : TSt w B g Q V gt ct ls wr) (hq : Q ≤ Q') : DrewTab0 w B g Q' (.returned (.agg #[.slice (some ⟨gt, 0, none⟩) 8 ct])) (wr.setCell ⟨w.heap.size, 0, none⟩ (.slice (some ⟨gt, 0, none⟩) 8 ct)) := by
  obtain ⟨h1, h2, h3, h4, h5, h6, h7, h8⟩ := H
  have hB := h5.le
  have hs : (wr.setCell ⟨w.heap.size, 0, none⟩ (.slice (some ⟨gt, 0, none⟩) 8 ct)).heap.size = wr.heap.size := by simp [World.setCell]
  refine ⟨gt, ct, ls, rfl, h2.1, h2.2, ?_, h3.tfar.more (by omega), (h5.far (by dsimp only; omega) (by dsimp only; omega) _).more hq, grown_set h6 (.inr (Nat.le_refl _)) _⟩
  rw [hs]
  exact h3.row.putLo h3.tfar (p := ⟨w.heap.size, 0, none⟩) (by dsimp only; omega) _
set_option maxRecDepth 8000 in
set_option maxHeartbeats 8000000 in
theorem tables0_any (w : World) (B g P : Nat) (h : Rd w B g P) (hP : P ≤ 100000) :
    Calls Try.prog 46 #[.pointer (some ⟨g, 0, none⟩), .int .i64 0] w (DrewTab0 w B g (P + 50)) := by
  have h0 := h.alloc (.cells #[.slice none 0 0] 31)
  have hg := h.lt
  clear h
  go_enter Try.func46, Try.ntmps46
  go_wp2_with fail
  refine (specNew_any _).mono ?_
  rintro e w2 ⟨A0, ct, ls0, rfl, hcl, hcs, ho, hk⟩
  obtain ⟨gt, _, e, hgt, _⟩ := ho.head hcl (by omega)
  injection e with e1 _ e3
  subst e1; subst e3
  simp only [size_alloc1] at ho hgt
  have hsz := hk.size
  simp only [size_alloc1] at hsz
  have hka : w2.grownBy (w2.alloc (.cells #[.slice (some ⟨gt, 0, none⟩) 8 ct] 31)) none := grown_alloc (grown_refl _ _) _
  have HS : RowKit.Hid (TSt w B g P w2.heap.size gt ct ls0 (w2.alloc (.cells #[.slice (some ⟨gt, 0, none⟩) 8 ct] 31))) := Lib.hid ⟨Blk.new w2 _ _, ⟨hcl, by rw [hcs]; exact noTab_valid⟩, ho.keep hka, ((Blk.new w 31 #[.slice none 0 0]).keep hk).keep hka, (h0.grown hk (by intro k e; cases e)).alloc _, grown_some (grown_trans (grown_trans (grown_alloc (grown_refl w none) _) hk) hka), hg, by omega⟩
  clear h0 hcl hcs ho hk hgt hsz hka
  go_wp2_with fail
  refine (pick_lt _ _ _ _ _ HS.out.2.2.2.2.1 (by omega) (by omega)).mono ?_
  rintro e w3 ⟨x3, rfl, u3, v3, h3, hg3⟩
  replace HS := Lib.hid (HS.out.grown hg3 h3)
  clear h3 hg3
  obtain ⟨k0, rfl⟩ := Int.eq_ofNat_of_zero_le u3
  have HK := Lib.hid (show k0 ≤ 11 by omega)
  clear u3 v3
  go_wp2
  go_loopw [6] (fun i wr => ∃ k : Nat, i = .int .i64 k ∧ k ≤ 11 ∧ ∃ gt ct ls, TSt w B g (P + 40 - 3 * k) w2.heap.size gt ct ls wr) (fun i _ => (intOf i).toNat)
  case atStart => exact ⟨k0, rfl, HK.out, _, _, _, HS.out.more (by have := HK.out; omega)⟩
  case round =>
    clear HS HK
    rename World => wq
    obtain ⟨k, rfl, hk, gt, ct, ls, hS⟩ := hrel
    have HS := Lib.hid hS
    clear hS
    by_cases hpos : 0 < k
    · obtain ⟨k, rfl⟩ : ∃ k' : Nat, k = k' + 1 := ⟨k - 1, by omega⟩
      have t0 : decide ((0 : Int) < ((k + 1 : Nat) : Int)) = true := decide_eq_true (by omega)
      go_upto_region 5 with fail
      go_cut [7, 8] (fun s7 s8 wx => ∃ (D g1 c1 : Nat) (cs : List Li) (b : Bool), s7 = .pointer (some ⟨D, 0, none⟩) ∧ s8 = .bool b ∧ Blk wx D 31 #[.slice (some ⟨g1, 0, none⟩) 8 c1] ∧ cs.length = 8 ∧ tabB (ll cs) = true ∧ TOwn wx (w.heap.size + 1) (.slice (some ⟨g1, 0, none⟩) 8 c1) cs ∧ TSt w B g (P + 40 - 3 * (k + 1) + 3) w2.heap.size gt ct ls wx)
      case first =>
        refine wp_region_held_drew (S := (fun w' => w'.cell? ⟨w2.heap.size, 0, none⟩ = some (.slice (some ⟨gt, 0, none⟩) 8 ct))) (by kernel_rfl) ?_ (fun hHeld => ?_)
        · exact HS.out.1.cell 0
        replace HS := Lib.hid (HS.out.kept (grown_drew (grown_refl _ none)))
        refine heldY 0 17 ?_
        refine heldY 1 18 ?_
        refine heldY 3 20 ?_
        refine heldY 5 22 ?_
        refine wpAnyH_ready (rs := [2, 11]) (by kernel_rfl) (by simp) ?_
        refine AllReadyH.cons rfl (fun K hK => ?_) (AllReadyH.cons rfl (fun K hK => ?_) AllReadyH.nil)
        · go_simp
          go_at_call 40
          refine (pick_lt _ _ _ _ _ HS.out.2.2.2.2.1 (by omega) (by omega)).mono ?_
          rintro e w20 ⟨x20, rfl, u20, v20, h20, hg20⟩
          replace HS := Lib.hid (HS.out.grown hg20 h20)
          clear h20 hg20
          refine hK.out _ _ ?_ (fun hHeld => ?_)
          · exact HS.out.1.cell 0
          clear hK K
          try simp only [Act.put, List.setIfInBounds_toArray, List.set_cons_zero, List.set_cons_succ]
          refine wpAnyH_ready (rs := [4, 11]) (by kernel_rfl) (by simp) ?_
          refine AllReadyH.cons rfl (fun K hK => ?_) (AllReadyH.cons rfl (fun K hK => ?_) AllReadyH.nil)
          · go_simp
            go_at_call 40
            refine (pick_lt _ _ _ _ _ HS.out.2.2.2.2.1 (by omega) (by omega)).mono ?_
            rintro e w21 ⟨x21, rfl, u21, v21, h21, hg21⟩
            replace HS := Lib.hid (HS.out.grown hg21 h21)
            clear h21 hg21
            refine hK.out _ _ ?_ (fun hHeld => ?_)
            · exact HS.out.1.cell 0
            clear hK K
            try simp only [Act.put, List.setIfInBounds_toArray, List.set_cons_zero, List.set_cons_succ]
            refine wpAnyH_ready (rs := [6, 11]) (by kernel_rfl) (by simp) ?_
            refine AllReadyH.cons rfl (fun K hK => ?_) (AllReadyH.cons rfl (fun K hK => ?_) AllReadyH.nil)
            · go_simp
              go_at_call 40
              refine (pick_lt _ _ _ _ _ HS.out.2.2.2.2.1 (by omega) (by omega)).mono ?_
              rintro e w22 ⟨x22, rfl, u22, v22, h22, hg22⟩
              replace HS := Lib.hid (HS.out.grown hg22 h22)
              clear h22 hg22
              refine hK.out _ _ ?_ (fun hHeld => ?_)
              · exact HS.out.1.cell 0
              clear hK K
              try simp only [Act.put, List.setIfInBounds_toArray, List.set_cons_zero, List.set_cons_succ]
              refine wpAnyH_ready (rs := [7, 11]) (by kernel_rfl) (by simp) ?_
              refine AllReadyH.cons rfl (fun K hK => ?_) (AllReadyH.cons rfl (fun K hK => ?_) AllReadyH.nil)
              · go_simp
                go_at_call 65
                refine (put_drawn _ _ ls _ _ _ _ HS.out.2.1.1 HS.out.2.2.1.row HS.out.2.1.2 u20 v20 u21 v21 u22 v22).mono ?_
                rintro e w23 ⟨g1, c1, cs, b, rfl, hl, hv, ho, hk⟩
                have hsz := HS.out.2.2.2.2.2.1.size
                have hVs := HS.out.2.2.2.1.lt
                (try simp only [World.drew, size_alloc1] at hVs)
                have ho1 := ho.base_le (base' := w.heap.size + 1) (by (try simp only [World.drew, size_alloc1]); omega)
                replace HS := Lib.hid (HS.out.kept hk)
                have HM := Lib.hid (And.intro hl (And.intro hv ho1))
                clear hl hv ho ho1 hk hsz hVs
                refine hK.out _ _ ?_ (fun hHeld => ?_)
                · exact HS.out.1.cell 0
                clear hK K
                try simp only [Act.put, List.setIfInBounds_toArray, List.set_cons_zero, List.set_cons_succ]
                refine heldY 8 16 ?_
                refine heldY 9 25 ?_
                refine heldY 10 26 ?_
                refine wpAnyH_ready (rs := [11]) (by kernel_rfl) (by simp) ?_
                refine AllReadyH.cons rfl (fun K hK => ?_) AllReadyH.nil
                have hv0 : Blk (World.alloc w23 (.cells #[.slice none 0 0] 31)) w23.heap.size 31 #[.slice none 0 0] := by have h := Blk.new w23 31 #[.slice none 0 0]; (try simp only [World.drew] at h); exact h
                have HV := Lib.hid hv0
                clear hv0
                have hVD := HS.out.1.lt
                (try simp only [World.drew] at hVD)
                have HSx := Lib.hid HS.out
                replace HS := Lib.hid (HS.out.kept (grown_alloc (grown_refl _ none) (.cells #[.slice none 0 0] 31)))
                go_simp
                refine hK.out _ _ ?_ (fun hHeld => ?_)
                · exact HS.out.1.cell 0
                clear hK K
                try simp only [Act.put, List.setIfInBounds_toArray, List.set_cons_zero, List.set_cons_succ]
                have d0 := HV.out.cell 0
                have e0 := HV.out.frozen 0
                have na : w2.heap.size ≠ w23.heap.size := by omega
                have nb : w23.heap.size ≠ w2.heap.size := by omega
                have z5 := HS.out.1.cell 0
                refine wpAnyH_ready (rs := [12]) (by kernel_rfl) (by simp) ?_
                refine AllReadyH.cons rfl (fun K hK => ?_) AllReadyH.nil
                go_simp
                refine hK.out _ _ ?_ (fun hHeld => ?_)
                · first | with_reducible assumption | go_keep
                clear hK K
                try simp only [Act.put, List.setIfInBounds_toArray, List.set_cons_zero, List.set_cons_succ]
                refine wpAnyH_ready (rs := [13]) (by kernel_rfl) (by simp) ?_
                refine AllReadyH.cons rfl (fun K hK => ?_) AllReadyH.nil
                go_simp
                refine hK.out _ _ ?_ (fun hHeld => ?_)
                · first | with_reducible assumption | go_keep
                clear hK K
                try simp only [Act.put, List.setIfInBounds_toArray, List.set_cons_zero, List.set_cons_succ]
                refine wpAnyH_done (by kernel_rfl) ?_ _
                go_wp2_with fail
                go_meet
                exact ⟨_, _, _, cs, _, rfl, rfl, Blk.new w23 _ _, HM.out.1, HM.out.2.1, HM.out.2.2.keep (grown_alloc (grown_refl _ none) _), HSx.out.kept (grown_alloc (grown_refl _ none) _)⟩
              · have hv0 : Blk (World.alloc w22 (.cells #[.slice none 0 0] 31)) w22.heap.size 31 #[.slice none 0 0] := by have h := Blk.new w22 31 #[.slice none 0 0]; (try simp only [World.drew] at h); exact h
                have HV := Lib.hid hv0
                clear hv0
                have hVD := HS.out.1.lt
                (try simp only [World.drew] at hVD)
                have HSx := Lib.hid HS.out
                replace HS := Lib.hid (HS.out.kept (grown_alloc (grown_refl _ none) (.cells #[.slice none 0 0] 31)))
                go_simp
                refine hK.out _ _ ?_ (fun hHeld => ?_)
                · exact HS.out.1.cell 0
                clear hK K
                try simp only [Act.put, List.setIfInBounds_toArray, List.set_cons_zero, List.set_cons_succ]
                refine wpAnyH_ready (rs := [7]) (by kernel_rfl) (by simp) ?_
                refine AllReadyH.cons rfl (fun K hK => ?_) AllReadyH.nil
                go_simp
                go_at_call 65
                refine (put_drawn _ _ ls _ _ _ _ HS.out.2.1.1 HS.out.2.2.1.row HS.out.2.1.2 u20 v20 u21 v21 u22 v22).mono ?_
                rintro e w23 ⟨g1, c1, cs, b, rfl, hl, hv, ho, hk⟩
                have hsz := HS.out.2.2.2.2.2.1.size
                have hVs := HS.out.2.2.2.1.lt
                (try simp only [World.drew, size_alloc1] at hVs)
                replace HV := Lib.hid (HV.out.keep hk)
                have ho1 := ho.base_le (base' := w.heap.size + 1) (by (try simp only [World.drew, size_alloc1]); omega)
                replace HS := Lib.hid (HS.out.kept hk)
                have HM := Lib.hid (And.intro hl (And.intro hv ho1))
                clear hl hv ho ho1 hk hsz hVs
                refine hK.out _ _ ?_ (fun hHeld => ?_)
                · exact HS.out.1.cell 0
                clear hK K
                try simp only [Act.put, List.setIfInBounds_toArray, List.set_cons_zero, List.set_cons_succ]
                refine heldY 8 16 ?_
                refine heldY 9 25 ?_
                refine heldY 10 26 ?_
                have d0 := HV.out.cell 0
                have e0 := HV.out.frozen 0
                have na : w2.heap.size ≠ w22.heap.size := by omega
                have nb : w22.heap.size ≠ w2.heap.size := by omega
                have z5 := HS.out.1.cell 0
                refine wpAnyH_ready (rs := [12]) (by kernel_rfl) (by simp) ?_
                refine AllReadyH.cons rfl (fun K hK => ?_) AllReadyH.nil
                go_simp
                refine hK.out _ _ ?_ (fun hHeld => ?_)
                · first | with_reducible assumption | go_keep
                clear hK K
                try simp only [Act.put, List.setIfInBounds_toArray, List.set_cons_zero, List.set_cons_succ]
                refine wpAnyH_ready (rs := [13]) (by kernel_rfl) (by simp) ?_
                refine AllReadyH.cons rfl (fun K hK => ?_) AllReadyH.nil
                go_simp
                refine hK.out _ _ ?_ (fun hHeld => ?_)
                · first | with_reducible assumption | go_keep
                clear hK K
                try simp only [Act.put, List.setIfInBounds_toArray, List.set_cons_zero, List.set_cons_succ]
                refine wpAnyH_done (by kernel_rfl) ?_ _
                go_wp2_with fail
                go_meet
                exact ⟨_, _, _, cs, _, rfl, rfl, HV.out.put 0 (.slice (some ⟨g1, 0, none⟩) 8 c1), HM.out.1, HM.out.2.1, HM.out.2.2.put HV.out 0 (.slice (some ⟨g1, 0, none⟩) 8 c1), HS.out.farT HV.out (by omega) (.slice (some ⟨g1, 0, none⟩) 8 c1)⟩
            · have hv0 : Blk (World.alloc w21 (.cells #[.slice none 0 0] 31)) w21.heap.size 31 #[.slice none 0 0] := by have h := Blk.new w21 31 #[.slice none 0 0]; (try simp only [World.drew] at h); exact h
              have HV := Lib.hid hv0
              clear hv0
              have hVD := HS.out.1.lt
              (try simp only [World.drew] at hVD)
              have HSx := Lib.hid HS.out
              replace HS := Lib.hid (HS.out.kept (grown_alloc (grown_refl _ none) (.cells #[.slice none 0 0] 31)))
              go_simp
              refine hK.out _ _ ?_ (fun hHeld => ?_)
              · exact HS.out.1.cell 0
              clear hK K
              try simp only [Act.put, List.setIfInBounds_toArray, List.set_cons_zero, List.set_cons_succ]
              refine wpAnyH_ready (rs := [6]) (by kernel_rfl) (by simp) ?_
              refine AllReadyH.cons rfl (fun K hK => ?_) AllReadyH.nil
              go_simp
              go_at_call 40
              refine (pick_lt _ _ _ _ _ HS.out.2.2.2.2.1 (by omega) (by omega)).mono ?_
              rintro e w22 ⟨x22, rfl, u22, v22, h22, hg22⟩
              have hgl := HS.out.2.2.2.2.2.2.1
              have hwV := HS.out.2.2.2.2.2.2.2
              replace HV := Lib.hid (HV.out.grown hg22 (by intro e; injection e with e; omega))
              replace HS := Lib.hid (HS.out.grown hg22 h22)
              clear h22 hg22
              refine hK.out _ _ ?_ (fun hHeld => ?_)
              · exact HS.out.1.cell 0
              clear hK K
              try simp only [Act.put, List.setIfInBounds_toArray, List.set_cons_zero, List.set_cons_succ]
              refine wpAnyH_ready (rs := [7]) (by kernel_rfl) (by simp) ?_
              refine AllReadyH.cons rfl (fun K hK => ?_) AllReadyH.nil
              go_simp
              go_at_call 65
              refine (put_drawn _ _ ls _ _ _ _ HS.out.2.1.1 HS.out.2.2.1.row HS.out.2.1.2 u20 v20 u21 v21 u22 v22).mono ?_
              rintro e w23 ⟨g1, c1, cs, b, rfl, hl, hv, ho, hk⟩
              have hsz := HS.out.2.2.2.2.2.1.size
              have hVs := HS.out.2.2.2.1.lt
              (try simp only [World.drew, size_alloc1] at hVs)
              replace HV := Lib.hid (HV.out.keep hk)
              have ho1 := ho.base_le (base' := w.heap.size + 1) (by (try simp only [World.drew, size_alloc1]); omega)
              replace HS := Lib.hid (HS.out.kept hk)
              have HM := Lib.hid (And.intro hl (And.intro hv ho1))
              clear hl hv ho ho1 hk hsz hVs
              refine hK.out _ _ ?_ (fun hHeld => ?_)
              · exact HS.out.1.cell 0
              clear hK K
              try simp only [Act.put, List.setIfInBounds_toArray, List.set_cons_zero, List.set_cons_succ]
              refine heldY 8 16 ?_
              refine heldY 9 25 ?_
              refine heldY 10 26 ?_
              have d0 := HV.out.cell 0
              have e0 := HV.out.frozen 0
              have na : w2.heap.size ≠ w21.heap.size := by omega
              have nb : w21.heap.size ≠ w2.heap.size := by omega
              have z5 := HS.out.1.cell 0
              refine wpAnyH_ready (rs := [12]) (by kernel_rfl) (by simp) ?_
              refine AllReadyH.cons rfl (fun K hK => ?_) AllReadyH.nil
              go_simp
              refine hK.out _ _ ?_ (fun hHeld => ?_)
              · first | with_reducible assumption | go_keep
              clear hK K
              try simp only [Act.put, List.setIfInBounds_toArray, List.set_cons_zero, List.set_cons_succ]
              refine wpAnyH_ready (rs := [13]) (by kernel_rfl) (by simp) ?_
              refine AllReadyH.cons rfl (fun K hK => ?_) AllReadyH.nil
              go_simp
              refine hK.out _ _ ?_ (fun hHeld => ?_)
              · first | with_reducible assumption | go_keep
              clear hK K
              try simp only [Act.put, List.setIfInBounds_toArray, List.set_cons_zero, List.set_cons_succ]
              refine wpAnyH_done (by kernel_rfl) ?_ _
              go_wp2_with fail
              go_meet
              exact ⟨_, _, _, cs, _, rfl, rfl, HV.out.put 0 (.slice (some ⟨g1, 0, none⟩) 8 c1), HM.out.1, HM.out.2.1, HM.out.2.2.put HV.out 0 (.slice (some ⟨g1, 0, none⟩) 8 c1), HS.out.farT HV.out (by omega) (.slice (some ⟨g1, 0, none⟩) 8 c1)⟩
          · have hv0 : Blk (World.alloc w20 (.cells #[.slice none 0 0] 31)) w20.heap.size 31 #[.slice none 0 0] := by have h := Blk.new w20 31 #[.slice none 0 0]; (try simp only [World.drew] at h); exact h
            have HV := Lib.hid hv0
            clear hv0
            have hVD := HS.out.1.lt
            (try simp only [World.drew] at hVD)
            have HSx := Lib.hid HS.out
            replace HS := Lib.hid (HS.out.kept (grown_alloc (grown_refl _ none) (.cells #[.slice none 0 0] 31)))
            go_simp
            refine hK.out _ _ ?_ (fun hHeld => ?_)
            · exact HS.out.1.cell 0
            clear hK K
            try simp only [Act.put, List.setIfInBounds_toArray, List.set_cons_zero, List.set_cons_succ]
            refine wpAnyH_ready (rs := [4]) (by kernel_rfl) (by simp) ?_
            refine AllReadyH.cons rfl (fun K hK => ?_) AllReadyH.nil
            go_simp
            go_at_call 40
            refine (pick_lt _ _ _ _ _ HS.out.2.2.2.2.1 (by omega) (by omega)).mono ?_
            rintro e w21 ⟨x21, rfl, u21, v21, h21, hg21⟩
            have hgl := HS.out.2.2.2.2.2.2.1
            have hwV := HS.out.2.2.2.2.2.2.2
            replace HV := Lib.hid (HV.out.grown hg21 (by intro e; injection e with e; omega))
            replace HS := Lib.hid (HS.out.grown hg21 h21)
            clear h21 hg21
            refine hK.out _ _ ?_ (fun hHeld => ?_)
            · exact HS.out.1.cell 0
            clear hK K
            try simp only [Act.put, List.setIfInBounds_toArray, List.set_cons_zero, List.set_cons_succ]
            refine wpAnyH_ready (rs := [6]) (by kernel_rfl) (by simp) ?_
            refine AllReadyH.cons rfl (fun K hK => ?_) AllReadyH.nil
            go_simp
            go_at_call 40
            refine (pick_lt _ _ _ _ _ HS.out.2.2.2.2.1 (by omega) (by omega)).mono ?_
            rintro e w22 ⟨x22, rfl, u22, v22, h22, hg22⟩
            have hgl := HS.out.2.2.2.2.2.2.1
            have hwV := HS.out.2.2.2.2.2.2.2
            replace HV := Lib.hid (HV.out.grown hg22 (by intro e; injection e with e; omega))
            replace HS := Lib.hid (HS.out.grown hg22 h22)
            clear h22 hg22
            refine hK.out _ _ ?_ (fun hHeld => ?_)
            · exact HS.out.1.cell 0
            clear hK K
            try simp only [Act.put, List.setIfInBounds_toArray, List.set_cons_zero, List.set_cons_succ]
            refine wpAnyH_ready (rs := [7]) (by kernel_rfl) (by simp) ?_
            refine AllReadyH.cons rfl (fun K hK => ?_) AllReadyH.nil
            go_simp
            go_at_call 65
            refine (put_drawn _ _ ls _ _ _ _ HS.out.2.1.1 HS.out.2.2.1.row HS.out.2.1.2 u20 v20 u21 v21 u22 v22).mono ?_
            rintro e w23 ⟨g1, c1, cs, b, rfl, hl, hv, ho, hk⟩
            have hsz := HS.out.2.2.2.2.2.1.size
            have hVs := HS.out.2.2.2.1.lt
            (try simp only [World.drew, size_alloc1] at hVs)
            replace HV := Lib.hid (HV.out.keep hk)
            have ho1 := ho.base_le (base' := w.heap.size + 1) (by (try simp only [World.drew, size_alloc1]); omega)
            replace HS := Lib.hid (HS.out.kept hk)
            have HM := Lib.hid (And.intro hl (And.intro hv ho1))
            clear hl hv ho ho1 hk hsz hVs
            refine hK.out _ _ ?_ (fun hHeld => ?_)
            · exact HS.out.1.cell 0
            clear hK K
            try simp only [Act.put, List.setIfInBounds_toArray, List.set_cons_zero, List.set_cons_succ]
            refine heldY 8 16 ?_
            refine heldY 9 25 ?_
            refine heldY 10 26 ?_
            have d0 := HV.out.cell 0
            have e0 := HV.out.frozen 0
            have na : w2.heap.size ≠ w20.heap.size := by omega
            have nb : w20.heap.size ≠ w2.heap.size := by omega
            have z5 := HS.out.1.cell 0
            refine wpAnyH_ready (rs := [12]) (by kernel_rfl) (by simp) ?_
            refine AllReadyH.cons rfl (fun K hK => ?_) AllReadyH.nil
            go_simp
            refine hK.out _ _ ?_ (fun hHeld => ?_)
            · first | with_reducible assumption | go_keep
            clear hK K
            try simp only [Act.put, List.setIfInBounds_toArray, List.set_cons_zero, List.set_cons_succ]
            refine wpAnyH_ready (rs := [13]) (by kernel_rfl) (by simp) ?_
            refine AllReadyH.cons rfl (fun K hK => ?_) AllReadyH.nil
            go_simp
            refine hK.out _ _ ?_ (fun hHeld => ?_)
            · first | with_reducible assumption | go_keep
            clear hK K
            try simp only [Act.put, List.setIfInBounds_toArray, List.set_cons_zero, List.set_cons_succ]
            refine wpAnyH_done (by kernel_rfl) ?_ _
            go_wp2_with fail
            go_meet
            exact ⟨_, _, _, cs, _, rfl, rfl, HV.out.put 0 (.slice (some ⟨g1, 0, none⟩) 8 c1), HM.out.1, HM.out.2.1, HM.out.2.2.put HV.out 0 (.slice (some ⟨g1, 0, none⟩) 8 c1), HS.out.farT HV.out (by omega) (.slice (some ⟨g1, 0, none⟩) 8 c1)⟩
        · have hv0 : Blk (World.alloc wq.drew (.cells #[.slice none 0 0] 31)) wq.heap.size 31 #[.slice none 0 0] := by have h := Blk.new wq.drew 31 #[.slice none 0 0]; (try simp only [World.drew] at h); exact h
          have HV := Lib.hid hv0
          clear hv0
          have hVD := HS.out.1.lt
          (try simp only [World.drew] at hVD)
          have HSx := Lib.hid HS.out
          replace HS := Lib.hid (HS.out.kept (grown_alloc (grown_refl _ none) (.cells #[.slice none 0 0] 31)))
          go_simp
          refine hK.out _ _ ?_ (fun hHeld => ?_)
          · exact HS.out.1.cell 0
          clear hK K
          try simp only [Act.put, List.setIfInBounds_toArray, List.set_cons_zero, List.set_cons_succ]
          refine wpAnyH_ready (rs := [2]) (by kernel_rfl) (by simp) ?_
          refine AllReadyH.cons rfl (fun K hK => ?_) AllReadyH.nil
          go_simp
          go_at_call 40
          refine (pick_lt _ _ _ _ _ HS.out.2.2.2.2.1 (by omega) (by omega)).mono ?_
          rintro e w20 ⟨x20, rfl, u20, v20, h20, hg20⟩
          have hgl := HS.out.2.2.2.2.2.2.1
          have hwV := HS.out.2.2.2.2.2.2.2
          replace HV := Lib.hid (HV.out.grown hg20 (by intro e; injection e with e; omega))
          replace HS := Lib.hid (HS.out.grown hg20 h20)
          clear h20 hg20
          refine hK.out _ _ ?_ (fun hHeld => ?_)
          · exact HS.out.1.cell 0
          clear hK K
          try simp only [Act.put, List.setIfInBounds_toArray, List.set_cons_zero, List.set_cons_succ]
          refine wpAnyH_ready (rs := [4]) (by kernel_rfl) (by simp) ?_
          refine AllReadyH.cons rfl (fun K hK => ?_) AllReadyH.nil
          go_simp
          go_at_call 40
          refine (pick_lt _ _ _ _ _ HS.out.2.2.2.2.1 (by omega) (by omega)).mono ?_
          rintro e w21 ⟨x21, rfl, u21, v21, h21, hg21⟩
          have hgl := HS.out.2.2.2.2.2.2.1
          have hwV := HS.out.2.2.2.2.2.2.2
          replace HV := Lib.hid (HV.out.grown hg21 (by intro e; injection e with e; omega))
          replace HS := Lib.hid (HS.out.grown hg21 h21)
          clear h21 hg21
          refine hK.out _ _ ?_ (fun hHeld => ?_)
          · exact HS.out.1.cell 0
          clear hK K
          try simp only [Act.put, List.setIfInBounds_toArray, List.set_cons_zero, List.set_cons_succ]
          refine wpAnyH_ready (rs := [6]) (by kernel_rfl) (by simp) ?_
          refine AllReadyH.cons rfl (fun K hK => ?_) AllReadyH.nil
          go_simp
          go_at_call 40
          refine (pick_lt _ _ _ _ _ HS.out.2.2.2.2.1 (by omega) (by omega)).mono ?_
          rintro e w22 ⟨x22, rfl, u22, v22, h22, hg22⟩
          have hgl := HS.out.2.2.2.2.2.2.1
          have hwV := HS.out.2.2.2.2.2.2.2
          replace HV := Lib.hid (HV.out.grown hg22 (by intro e; injection e with e; omega))
          replace HS := Lib.hid (HS.out.grown hg22 h22)
          clear h22 hg22
          refine hK.out _ _ ?_ (fun hHeld => ?_)
          · exact HS.out.1.cell 0
          clear hK K
          try simp only [Act.put, List.setIfInBounds_toArray, List.set_cons_zero, List.set_cons_succ]
          refine wpAnyH_ready (rs := [7]) (by kernel_rfl) (by simp) ?_
          refine AllReadyH.cons rfl (fun K hK => ?_) AllReadyH.nil
          go_simp
          go_at_call 65
          refine (put_drawn _ _ ls _ _ _ _ HS.out.2.1.1 HS.out.2.2.1.row HS.out.2.1.2 u20 v20 u21 v21 u22 v22).mono ?_
          rintro e w23 ⟨g1, c1, cs, b, rfl, hl, hv, ho, hk⟩
          have hsz := HS.out.2.2.2.2.2.1.size
          have hVs := HS.out.2.2.2.1.lt
          (try simp only [World.drew, size_alloc1] at hVs)
          replace HV := Lib.hid (HV.out.keep hk)
          have ho1 := ho.base_le (base' := w.heap.size + 1) (by (try simp only [World.drew, size_alloc1]); omega)
          replace HS := Lib.hid (HS.out.kept hk)
          have HM := Lib.hid (And.intro hl (And.intro hv ho1))
          clear hl hv ho ho1 hk hsz hVs
          refine hK.out _ _ ?_ (fun hHeld => ?_)
          · exact HS.out.1.cell 0
          clear hK K
          try simp only [Act.put, List.setIfInBounds_toArray, List.set_cons_zero, List.set_cons_succ]
          refine heldY 8 16 ?_
          refine heldY 9 25 ?_
          refine heldY 10 26 ?_
          have d0 := HV.out.cell 0
          have e0 := HV.out.frozen 0
          have na : w2.heap.size ≠ wq.heap.size := by omega
          have nb : wq.heap.size ≠ w2.heap.size := by omega
          have z5 := HS.out.1.cell 0
          refine wpAnyH_ready (rs := [12]) (by kernel_rfl) (by simp) ?_
          refine AllReadyH.cons rfl (fun K hK => ?_) AllReadyH.nil
          go_simp
          refine hK.out _ _ ?_ (fun hHeld => ?_)
          · first | with_reducible assumption | go_keep
          clear hK K
          try simp only [Act.put, List.setIfInBounds_toArray, List.set_cons_zero, List.set_cons_succ]
          refine wpAnyH_ready (rs := [13]) (by kernel_rfl) (by simp) ?_
          refine AllReadyH.cons rfl (fun K hK => ?_) AllReadyH.nil
          go_simp
          refine hK.out _ _ ?_ (fun hHeld => ?_)
          · first | with_reducible assumption | go_keep
          clear hK K
          try simp only [Act.put, List.setIfInBounds_toArray, List.set_cons_zero, List.set_cons_succ]
          refine wpAnyH_done (by kernel_rfl) ?_ _
          go_wp2_with fail
          go_meet
          exact ⟨_, _, _, cs, _, rfl, rfl, HV.out.put 0 (.slice (some ⟨g1, 0, none⟩) 8 c1), HM.out.1, HM.out.2.1, HM.out.2.2.put HV.out 0 (.slice (some ⟨g1, 0, none⟩) 8 c1), HS.out.farT HV.out (by omega) (.slice (some ⟨g1, 0, none⟩) 8 c1)⟩
      case rest =>
        clear HS
        obtain ⟨D, g1, c1, cs, b, rfl, rfl, hD, hl, hv, ho, hS⟩ := hcut
        rename World => wx
        have b7 : wx.cell? ⟨D, 0, none⟩ = some (.slice (some ⟨g1, 0, none⟩) 8 c1) := hD.cell 0
        have b5 : wx.cell? ⟨w2.heap.size, 0, none⟩ = some (.slice (some ⟨gt, 0, none⟩) 8 ct) := hS.1.cell 0
        have f5 : wx.frozen? ⟨w2.heap.size, 0, none⟩ = false := hS.1.frozen 0
        have HZ := Lib.hid ((hS.put hl hv ho).more (show P + 40 - 3 * (k + 1) + 3 ≤ P + 40 - 3 * k by omega))
        clear hD hl hv ho hS
        go_wp2
        go_roundw
        case rel => exact ⟨k, by go_num, by omega, _, _, _, HZ.out⟩
        case measure => first | (simp [intOf]; done) | (simp [intOf]; omega)
    · obtain rfl : k = 0 := by omega
      have z5 : wq.cell? ⟨w2.heap.size, 0, none⟩ = some (.slice (some ⟨gt, 0, none⟩) 8 ct) := HS.out.1.cell 0
      have z4 : wq.cell? ⟨w.heap.size, 0, none⟩ = some (.slice none 0 0) := HS.out.2.2.2.1.cell 0
      have y4 : wq.frozen? ⟨w.heap.size, 0, none⟩ = false := HS.out.2.2.2.1.frozen 0
      go_wp2_with (go_at_call 41; refine (odd_zero _ _).mono ?_; rintro e w' ⟨rfl, rfl⟩)
      exact bodyPost_ret (v := .agg #[.slice (some ⟨gt, 0, none⟩) 8 ct]) (by simp [results, Try.results46, go_sem, *]) rfl (HS.out.fin0 (by omega))
end Go.Proofs.Ytlldmbocaloogaa
