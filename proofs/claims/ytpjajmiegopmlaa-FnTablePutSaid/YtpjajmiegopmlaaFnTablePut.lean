/- For every code, TablePut answers of the drawn table, file, place and page as its model; and what the statement asks of the new table and of the way back holds: proved.
   Conditions: none beyond the row's own reading of the input. The frame was written by the guide's proof-skeleton; the walk is ours. -/
import Derived.Test.YtpjajmiegopmlaaPutTabs
import Derived.Test.YtpjajmiegopmlaaDrawTabs4
import Derived.Test.YtpjajmiegopmlaaHand
import Derived.Test.YtpjajmiegopmlaaRows
import Derived.WalkKit
import Derived.ProofKit
import Derived.OpenShut
import Derived.ShutString
import Derived.ChangeOld
import Derived.Below
namespace Go.Proofs.Ytpjajmiegopmlaa.fnTablePut
open Go.ChangeShapes Go.WideShapes Go.ChangeAt Go.RowKit
open Go.ChangeMaps (open_string shut_string)
set_option linter.unusedVariables false
set_option linter.unusedSimpArgs false

theorem own : ownKnob Try.prog.godebug = none := by kernel_rfl
theorem laidOut : laidOutB Try.prog = true := by kernel_rfl

/-- WHAT THE WALK IS TOLD OF A SLICE OF INTEGERS THAT CAME IN: it is nil; or it leads to a row of 'cap' cells, the numbers 'zs' (the first 'len' are its elements, the rest its spare room), each fitting its kind. -/
def IsRow (k : IntKind) (w : World) (a : Option Addr) (len cap : Nat) (zs : List Int) : Prop :=
  (a = none ∧ len = 0 ∧ cap = 0 ∧ zs = []) ∨
  ∃ x, a = some x ∧ len ≤ cap ∧ cap ≤ maxLen ∧ zs.length = cap ∧ (∀ i, i < zs.length → w.cell? (x.add i) = some (.int k (zs.getD i 0))) ∧ ∀ n ∈ zs, (Lit.int k n).wf = true

/-! ### STEP 1: THE WALK: the Go text returns true, AND WRITES NOTHING THAT WAS THERE: 'Below w.heap.size w w'' (Derived/Below.lean: '.refl', '.alloc', '.drew', '.setCell' at a new block, '.trans'). Open each 'IsRow' by 'rcases' AHEAD of 'go_enter'; part every test ahead of the walk. -/
set_option maxHeartbeats 4000000 in
set_option maxRecDepth 100000 in
theorem walk (a0 : Option Addr) (len0 cap0 : Nat) (z0 : List Int) (w : World) (w0 : IsRow .u8 w a0 len0 cap0 z0) :
    Calls Try.prog 7 #[.slice a0 len0 cap0] w fun e w' => e = .returned (.bool true) ∧ Below w.heap.size w w' := by
  obtain ⟨hl, hc, hb⟩ := bytes_of w0
  by_cases hbig : 1048576 < len0
  · go_enter Try.func7, Try.ntmps7
    go_wp2
    go_ret
    exact ⟨rfl, Below.refl _ _⟩
  · go_enter Try.func7, Try.ntmps7
    go_wp2_with fail
    refine (drawTablePut_any w a0 len0 cap0 hl hc hb).mono ?_
    rintro e wa ⟨A, n, c, ls, f, k, x, rfl, hln, h8, h6, hlt⟩
    have HS := Lib.hid (LW.start hlt n c)
    have HL := Lib.hid (And.intro hln (fun (l : Li) (hq : l ∈ ls) => show l.xs.length ≤ 1048576 by have := h6 l hq; omega))
    have hn : n ≤ 1048576 := by omega
    obtain ⟨X, r, hp⟩ : ∃ X r, tputV (ll ls) f k x = (X, r) := ⟨_, _, rfl⟩
    have HP := Lib.hid hp
    have HSM := Lib.hid (tput_small hp (by rw [ll_length]; omega) (fun xs hx => by obtain ⟨l, hl', rfl⟩ := List.mem_map.1 hx; exact h6 l hl'))
    have trr : (r != r) = false := by simp
    clear hb w0 hlt hln h6 hp
    go_wp2_with fail
    have hbl := HS.out.2.2.1
    refine (put_v HP.out HL.out.1 HS.out.row hn HL.out.2).mono ?_
    rintro e w1 ⟨A1, n1, c1, cs1, rfl, hl1, hs1, ho, hk⟩
    have hx := LW.made hbl ho hk
    replace HS := Lib.hid (HS.out.keep hk)
    have bHS := HS.out.cell
    have lHS := HS.out.1.lt
    replace HS := Lib.hid (HS.out.keep (grown_alloc (grown_refl w1 none) (.cells #[.slice A1 n1 c1] 51)))
    have HX := Lib.hid hx
    have M1 := made_small hl1 hs1 HSM.out.1 HSM.out.2
    have n1k := M1.1
    have IHX := Lib.hid (And.intro hl1 (And.intro hs1 M1.2))
    clear hbl ho hk hx hl1 hs1 M1
    go_wp2_with fail
    clear bHS lHS
    have hbl := HS.out.2.2.1
    refine (specPut_v HP.out HL.out.1 HS.out.row hn HL.out.2).mono ?_
    rintro e w2 ⟨A2, n2, c2, cs2, rfl, hl2, hs2, ho, hk⟩
    have hx := LW.made hbl ho hk
    replace HS := Lib.hid (HS.out.keep hk)
    replace HX := Lib.hid (HX.out.keep hk)
    have bHS := HS.out.cell
    have lHS := HS.out.1.lt
    have bHX := HX.out.cell
    have lHX := HX.out.1.lt
    replace HS := Lib.hid (HS.out.keep (grown_alloc (grown_refl w2 none) (.cells #[.slice A2 n2 c2] 51)))
    replace HX := Lib.hid (HX.out.keep (grown_alloc (grown_refl w2 none) (.cells #[.slice A2 n2 c2] 51)))
    have HY := Lib.hid hx
    have M2 := made_small hl2 hs2 HSM.out.1 HSM.out.2
    have n2k := M2.1
    have IHY := Lib.hid (And.intro hl2 (And.intro hs2 M2.2))
    clear hbl ho hk hx hl2 hs2 M2
    go_wp2_with fail
    clear bHS lHS bHX lHX
    refine (sameTable_val (show decide (ll cs1 = ll cs2) = true by rw [IHX.out.2.1, IHY.out.2.1]; simp) IHX.out.1 IHY.out.1 HX.out.row HY.out.row n1k n2k IHX.out.2.2 IHY.out.2.2).mono ?_
    rintro e w3 ⟨rfl, hk⟩
    replace HS := Lib.hid (HS.out.keep hk)
    replace HX := Lib.hid (HX.out.keep hk)
    replace HY := Lib.hid (HY.out.keep hk)
    clear hk
    have bHS := HS.out.cell
    have lHS := HS.out.1.lt
    have bHX := HX.out.cell
    have lHX := HX.out.1.lt
    have bHY := HY.out.cell
    have lHY := HY.out.1.lt
    clear bHY lHY HY
    rcases tput_cases HP.out with ⟨er, hX⟩ | ⟨er, fn, kn, rfl, rfl, hf8, hk6, hv, hx, hXe, hXv⟩
    · subst er
      go_wp2_with fail
      obtain ⟨q, hq⟩ : ∃ q, decide (ll cs1 = ll ls) = q := ⟨_, rfl⟩
      clear bHS lHS bHX lHX
      refine (sameTable_val hq IHX.out.1 HL.out.1 HX.out.row HS.out.row n1k hn IHX.out.2.2 HL.out.2).mono ?_
      rintro e w4 ⟨rfl, hk⟩
      replace HS := Lib.hid (HS.out.keep hk)
      replace HX := Lib.hid (HX.out.keep hk)
      clear hk
      have bHS := HS.out.cell
      have lHS := HS.out.1.lt
      have bHX := HX.out.cell
      have lHX := HX.out.1.lt
      cases q
      · have hX0 : ll cs1 = [] := hX.elim (fun h => absurd (IHX.out.2.1.trans h) (of_decide_eq_false hq)) (fun h => IHX.out.2.1.trans h)
        have HX0 := Lib.hid hX0
        clear hX0 hX hq
        go_wp2_with fail
        clear bHS lHS bHX lHX
        refine (sameTable_val (ms := []) (A' := none) (n' := 0) (c' := 0) (show decide (ll cs1 = ll []) = true by rw [HX0.out]; rfl) IHX.out.1 rfl HX.out.row TRow.nil n1k (Nat.zero_le _) IHX.out.2.2 (fun l hl => by simp at hl)).mono ?_
        rintro e w5 ⟨rfl, hk⟩
        replace HS := Lib.hid (HS.out.keep hk)
        replace HX := Lib.hid (HX.out.keep hk)
        clear hk
        have bHS := HS.out.cell
        have lHS := HS.out.1.lt
        have bHX := HX.out.cell
        have lHX := HX.out.1.lt
        go_wp2_with (go_at_call 19; refine (alive_any _).mono ?_; rintro e w' ⟨rfl, rfl⟩)
        go_ret
        exact ⟨rfl, HS.out.2.2.1⟩
      · go_wp2_with (go_at_call 19; refine (alive_any _).mono ?_; rintro e w' ⟨rfl, rfl⟩)
        go_ret
        exact ⟨rfl, HS.out.2.2.1⟩
    · rw [hXe] at hXv
      subst er
      obtain ⟨hnew, o, m, hold, hback, hchg, hm⟩ := tput_new hf8 hk6 hv hx hXv
      have HO := Lib.hid hold
      have HBK := Lib.hid (show tputV (ll cs1) fn kn o = (ll ls, true) by rw [IHX.out.2.1, hXe]; exact hback)
      have HNW := Lib.hid (show tgetV (ll cs1) fn kn = x by rw [IHX.out.2.1, hXe]; exact hnew)
      have HCH := Lib.hid (show chgV (ll ls) (ll cs1) = ((m : Nat) : Int) by rw [IHX.out.2.1, hXe]; exact hchg)
      have HVX := Lib.hid (show tabB (ll cs1) = true by rw [IHX.out.2.1, hXe]; exact hXv)
      have txx : (x == x) = true := by simp
      have tm : decide ((m : Int) ≤ 1) = true := decide_eq_true (by omega)
      clear hnew hold hback hchg hm hv hx hXv hXe
      go_upto_region 10 with fail
      go_cut [11, 12] (fun s11 s12 wx => ∃ (D n5 c5 : Nat) (A5 : Option Addr) (cs5 : List Li), s11 = .pointer (some ⟨D, 0, none⟩) ∧ s12 = .bool true ∧ cs5.length = n5 ∧ ll cs5 = ll ls ∧ LX w D A5 n5 c5 cs5 wx ∧ LW w wa.heap.size A n c ls wx ∧ LW w w1.heap.size A1 n1 c1 cs1 wx)
      case first =>
        clear bHS lHS bHX lHX
        refine wp_region_held_drew (S := (fun w' => w'.cell? ⟨w1.heap.size, 0, none⟩ = some (.slice A1 n1 c1) ∧ w'.cell? ⟨wa.heap.size, 0, none⟩ = some (.slice A n c))) (by kernel_rfl) ?_ (fun hHeld => ?_)
        · exact ⟨HX.out.cell, HS.out.cell⟩
        replace HS := Lib.hid (HS.out.keep (grown_drew (grown_refl _ none)))
        replace HX := Lib.hid (HX.out.keep (grown_drew (grown_refl _ none)))
        refine held_yes (i := 0) (d := some 62) (v := ?_) rfl rfl (by kernel_rfl) (by kernel_rfl) (by kernel_rfl) (fun _ _ _ h => h) (by rfl) ?_ (by assumption) ?_
        rotate_left
        · (intro w hSw; (try dsimp only at hSw); go_simp; (first | done | with_reducible rfl))
        try simp only [Act.put, List.setIfInBounds_toArray, List.set_cons_zero, List.set_cons_succ]
        refine held_yes (i := 1) (d := some 63) (v := ?_) rfl rfl (by kernel_rfl) (by kernel_rfl) (by kernel_rfl) (fun _ _ _ h => h) (by rfl) ?_ (by assumption) ?_
        rotate_left
        · (intro w hSw; (try dsimp only at hSw); go_simp; (first | done | with_reducible rfl))
        try simp only [Act.put, List.setIfInBounds_toArray, List.set_cons_zero, List.set_cons_succ]
        refine held_yes (i := 2) (d := some 64) (v := ?_) rfl rfl (by kernel_rfl) (by kernel_rfl) (by kernel_rfl) (fun _ _ _ h => h) (by rfl) ?_ (by assumption) ?_
        rotate_left
        · (intro w hSw; (try dsimp only at hSw); go_simp; (first | done | with_reducible rfl))
        try simp only [Act.put, List.setIfInBounds_toArray, List.set_cons_zero, List.set_cons_succ]
        refine held_yes (i := 3) (d := some 65) (v := ?_) rfl rfl (by kernel_rfl) (by kernel_rfl) (by kernel_rfl) (fun _ _ _ h => h) (by rfl) ?_ (by assumption) ?_
        rotate_left
        · (intro w hSw; (try dsimp only at hSw); go_simp; (first | done | with_reducible rfl))
        try simp only [Act.put, List.setIfInBounds_toArray, List.set_cons_zero, List.set_cons_succ]
        refine held_yes (i := 4) (d := some 66) (v := ?_) rfl rfl (by kernel_rfl) (by kernel_rfl) (by kernel_rfl) (fun _ _ _ h => h) (by rfl) ?_ (by assumption) ?_
        rotate_left
        · (intro w hSw; (try dsimp only at hSw); go_simp; (first | done | with_reducible rfl))
        try simp only [Act.put, List.setIfInBounds_toArray, List.set_cons_zero, List.set_cons_succ]
        refine held_yes (i := 5) (d := some 67) (v := ?_) rfl rfl (by kernel_rfl) (by kernel_rfl) (by kernel_rfl) (fun _ _ _ h => h) (by rfl) ?_ (by assumption) ?_
        rotate_left
        · (intro w hSw; (try dsimp only at hSw); go_simp; (first | done | with_reducible rfl))
        try simp only [Act.put, List.setIfInBounds_toArray, List.set_cons_zero, List.set_cons_succ]
        refine wpAnyH_ready (rs := [6, 11]) (by kernel_rfl) (by simp) ?_
        refine AllReadyH.cons rfl (fun K hK => ?_) (AllReadyH.cons rfl (fun K hK => ?_) AllReadyH.nil)
        · go_simp
          go_at_call 31
          refine (get_v HO.out HL.out.1 HS.out.row hn HL.out.2).mono ?_
          rintro e w20 ⟨rfl, hk⟩
          replace HS := Lib.hid (HS.out.keep hk)
          replace HX := Lib.hid (HX.out.keep hk)
          clear hk
          refine hK.out _ _ ?_ (fun hHeld => ?_)
          · exact ⟨HX.out.cell, HS.out.cell⟩
          clear hK K
          try simp only [Act.put, List.setIfInBounds_toArray, List.set_cons_zero, List.set_cons_succ]
          refine wpAnyH_ready (rs := [7, 11]) (by kernel_rfl) (by simp) ?_
          refine AllReadyH.cons rfl (fun K hK => ?_) (AllReadyH.cons rfl (fun K hK => ?_) AllReadyH.nil)
          · go_simp
            go_at_call 35
            have hbl := HS.out.2.2.1
            refine (put_v HBK.out IHX.out.1 HX.out.row n1k IHX.out.2.2).mono ?_
            rintro e w21 ⟨A5, n5, c5, cs5, rfl, hl5, hs5, ho5, hk⟩
            replace HS := Lib.hid (HS.out.keep hk)
            replace HX := Lib.hid (HX.out.keep hk)
            have HM := Lib.hid (And.intro hl5 (And.intro hs5 (And.intro ho5 (LX.made hbl ho5 hk))))
            clear hbl hl5 hs5 ho5 hk
            refine hK.out _ _ ?_ (fun hHeld => ?_)
            · exact ⟨HX.out.cell, HS.out.cell⟩
            clear hK K
            try simp only [Act.put, List.setIfInBounds_toArray, List.set_cons_zero, List.set_cons_succ]
            refine held_yes (i := 8) (d := some 61) (v := ?_) rfl rfl (by kernel_rfl) (by kernel_rfl) (by kernel_rfl) (fun _ _ _ h => h) (by rfl) ?_ (by assumption) ?_
            rotate_left
            · (intro w hSw; (try dsimp only at hSw); go_simp; (first | done | with_reducible rfl))
            try simp only [Act.put, List.setIfInBounds_toArray, List.set_cons_zero, List.set_cons_succ]
            refine held_yes (i := 9) (d := some 70) (v := ?_) rfl rfl (by kernel_rfl) (by kernel_rfl) (by kernel_rfl) (fun _ _ _ h => h) (by rfl) ?_ (by assumption) ?_
            rotate_left
            · (intro w hSw; (try dsimp only at hSw); go_simp; (first | done | with_reducible rfl))
            try simp only [Act.put, List.setIfInBounds_toArray, List.set_cons_zero, List.set_cons_succ]
            refine held_yes (i := 10) (d := some 71) (v := ?_) rfl rfl (by kernel_rfl) (by kernel_rfl) (by kernel_rfl) (fun _ _ _ h => h) (by rfl) ?_ (by assumption) ?_
            rotate_left
            · (intro w hSw; (try dsimp only at hSw); go_simp; (first | done | with_reducible rfl))
            try simp only [Act.put, List.setIfInBounds_toArray, List.set_cons_zero, List.set_cons_succ]
            refine wpAnyH_ready (rs := [11]) (by kernel_rfl) (by simp) ?_
            refine AllReadyH.cons rfl (fun K hK => ?_) AllReadyH.nil
            have hv0 : Blk (World.alloc w21 (.cells #[.slice none 0 0] 51)) w21.heap.size 51 #[.slice none 0 0] := by have h := Blk.new w21 51 #[.slice none 0 0]; (try simp only [World.drew] at h); exact h
            have HV := Lib.hid hv0
            clear hv0
            have hV3 := HS.out.1.lt
            have hV7 := HX.out.1.lt
            have hVw := HS.out.2.2.2
            (try simp only [World.drew] at hV3 hV7)
            have HSx := Lib.hid HS.out
            have HXx := Lib.hid HX.out
            replace HS := Lib.hid (HS.out.keep (grown_alloc (grown_refl _ none) (.cells #[.slice none 0 0] 51)))
            replace HX := Lib.hid (HX.out.keep (grown_alloc (grown_refl _ none) (.cells #[.slice none 0 0] 51)))
            go_simp
            refine hK.out _ _ ?_ (fun hHeld => ?_)
            · exact ⟨HX.out.cell, HS.out.cell⟩
            clear hK K
            try simp only [Act.put, List.setIfInBounds_toArray, List.set_cons_zero, List.set_cons_succ]
            have d0 := HV.out.cell 0
            have e0 := HV.out.frozen 0
            have na : wa.heap.size ≠ w21.heap.size := by omega
            have nb : w21.heap.size ≠ wa.heap.size := by omega
            have nc : w1.heap.size ≠ w21.heap.size := by omega
            have nd : w21.heap.size ≠ w1.heap.size := by omega
            have z3 := HS.out.cell
            have z7 := HX.out.cell
            refine wpAnyH_ready (rs := [12]) (by kernel_rfl) (by simp) ?_
            refine AllReadyH.cons rfl (fun K hK => ?_) AllReadyH.nil
            go_simp
            refine hK.out _ _ ?_ (fun hHeld => ?_)
            · first | with_reducible assumption | go_keep
            clear hK K
            try simp only [Act.put, List.setIfInBounds_toArray, List.set_cons_zero, List.set_cons_succ]
            refine wpAnyH_ready (rs := [13]) (by kernel_rfl) (by simp) ?_
            refine AllReadyH.cons rfl (fun K hK => ?_) AllReadyH.nil
            go_simp
            refine hK.out _ _ ?_ (fun hHeld => ?_)
            · first | with_reducible assumption | go_keep
            clear hK K
            try simp only [Act.put, List.setIfInBounds_toArray, List.set_cons_zero, List.set_cons_succ]
            refine wpAnyH_done (by kernel_rfl) ?_ _
            go_wp2_with fail
            go_meet
            exact ⟨_, _, _, _, cs5, rfl, rfl, HM.out.1, HM.out.2.1, HM.out.2.2.2, HSx.out.keep (grown_alloc (grown_refl _ none) _), HXx.out.keep (grown_alloc (grown_refl _ none) _)⟩
          · have hv0 : Blk (World.alloc w20 (.cells #[.slice none 0 0] 51)) w20.heap.size 51 #[.slice none 0 0] := by have h := Blk.new w20 51 #[.slice none 0 0]; (try simp only [World.drew] at h); exact h
            have HV := Lib.hid hv0
            clear hv0
            have hV3 := HS.out.1.lt
            have hV7 := HX.out.1.lt
            have hVw := HS.out.2.2.2
            (try simp only [World.drew] at hV3 hV7)
            have HSx := Lib.hid HS.out
            have HXx := Lib.hid HX.out
            replace HS := Lib.hid (HS.out.keep (grown_alloc (grown_refl _ none) (.cells #[.slice none 0 0] 51)))
            replace HX := Lib.hid (HX.out.keep (grown_alloc (grown_refl _ none) (.cells #[.slice none 0 0] 51)))
            go_simp
            refine hK.out _ _ ?_ (fun hHeld => ?_)
            · exact ⟨HX.out.cell, HS.out.cell⟩
            clear hK K
            try simp only [Act.put, List.setIfInBounds_toArray, List.set_cons_zero, List.set_cons_succ]
            refine wpAnyH_ready (rs := [7]) (by kernel_rfl) (by simp) ?_
            refine AllReadyH.cons rfl (fun K hK => ?_) AllReadyH.nil
            go_simp
            go_at_call 35
            have hbl := HS.out.2.2.1
            refine (put_v HBK.out IHX.out.1 HX.out.row n1k IHX.out.2.2).mono ?_
            rintro e w21 ⟨A5, n5, c5, cs5, rfl, hl5, hs5, ho5, hk⟩
            replace HV := Lib.hid (HV.out.keep hk)
            replace HS := Lib.hid (HS.out.keep hk)
            replace HX := Lib.hid (HX.out.keep hk)
            have HM := Lib.hid (And.intro hl5 (And.intro hs5 (And.intro ho5 (LX.made hbl ho5 hk))))
            clear hbl hl5 hs5 ho5 hk
            refine hK.out _ _ ?_ (fun hHeld => ?_)
            · exact ⟨HX.out.cell, HS.out.cell⟩
            clear hK K
            try simp only [Act.put, List.setIfInBounds_toArray, List.set_cons_zero, List.set_cons_succ]
            refine held_yes (i := 8) (d := some 61) (v := ?_) rfl rfl (by kernel_rfl) (by kernel_rfl) (by kernel_rfl) (fun _ _ _ h => h) (by rfl) ?_ (by assumption) ?_
            rotate_left
            · (intro w hSw; (try dsimp only at hSw); go_simp; (first | done | with_reducible rfl))
            try simp only [Act.put, List.setIfInBounds_toArray, List.set_cons_zero, List.set_cons_succ]
            refine held_yes (i := 9) (d := some 70) (v := ?_) rfl rfl (by kernel_rfl) (by kernel_rfl) (by kernel_rfl) (fun _ _ _ h => h) (by rfl) ?_ (by assumption) ?_
            rotate_left
            · (intro w hSw; (try dsimp only at hSw); go_simp; (first | done | with_reducible rfl))
            try simp only [Act.put, List.setIfInBounds_toArray, List.set_cons_zero, List.set_cons_succ]
            refine held_yes (i := 10) (d := some 71) (v := ?_) rfl rfl (by kernel_rfl) (by kernel_rfl) (by kernel_rfl) (fun _ _ _ h => h) (by rfl) ?_ (by assumption) ?_
            rotate_left
            · (intro w hSw; (try dsimp only at hSw); go_simp; (first | done | with_reducible rfl))
            try simp only [Act.put, List.setIfInBounds_toArray, List.set_cons_zero, List.set_cons_succ]
            have d0 := HV.out.cell 0
            have e0 := HV.out.frozen 0
            have na : wa.heap.size ≠ w20.heap.size := by omega
            have nb : w20.heap.size ≠ wa.heap.size := by omega
            have nc : w1.heap.size ≠ w20.heap.size := by omega
            have nd : w20.heap.size ≠ w1.heap.size := by omega
            have z3 := HS.out.cell
            have z7 := HX.out.cell
            refine wpAnyH_ready (rs := [12]) (by kernel_rfl) (by simp) ?_
            refine AllReadyH.cons rfl (fun K hK => ?_) AllReadyH.nil
            go_simp
            refine hK.out _ _ ?_ (fun hHeld => ?_)
            · first | with_reducible assumption | go_keep
            clear hK K
            try simp only [Act.put, List.setIfInBounds_toArray, List.set_cons_zero, List.set_cons_succ]
            refine wpAnyH_ready (rs := [13]) (by kernel_rfl) (by simp) ?_
            refine AllReadyH.cons rfl (fun K hK => ?_) AllReadyH.nil
            go_simp
            refine hK.out _ _ ?_ (fun hHeld => ?_)
            · first | with_reducible assumption | go_keep
            clear hK K
            try simp only [Act.put, List.setIfInBounds_toArray, List.set_cons_zero, List.set_cons_succ]
            refine wpAnyH_done (by kernel_rfl) ?_ _
            go_wp2_with fail
            go_meet
            exact ⟨_, _, _, _, cs5, rfl, rfl, HM.out.1, HM.out.2.1, LX.put HS.out.2.2.1 HV.out (by omega) HM.out.2.2.1, HS.out.far (by omega) _, HX.out.far (by omega) _⟩
        · have hv0 : Blk (World.alloc w3.drew (.cells #[.slice none 0 0] 51)) w3.heap.size 51 #[.slice none 0 0] := by have h := Blk.new w3.drew 51 #[.slice none 0 0]; (try simp only [World.drew] at h); exact h
          have HV := Lib.hid hv0
          clear hv0
          have hV3 := HS.out.1.lt
          have hV7 := HX.out.1.lt
          have hVw := HS.out.2.2.2
          (try simp only [World.drew] at hV3 hV7)
          have HSx := Lib.hid HS.out
          have HXx := Lib.hid HX.out
          replace HS := Lib.hid (HS.out.keep (grown_alloc (grown_refl _ none) (.cells #[.slice none 0 0] 51)))
          replace HX := Lib.hid (HX.out.keep (grown_alloc (grown_refl _ none) (.cells #[.slice none 0 0] 51)))
          go_simp
          refine hK.out _ _ ?_ (fun hHeld => ?_)
          · exact ⟨HX.out.cell, HS.out.cell⟩
          clear hK K
          try simp only [Act.put, List.setIfInBounds_toArray, List.set_cons_zero, List.set_cons_succ]
          refine wpAnyH_ready (rs := [6]) (by kernel_rfl) (by simp) ?_
          refine AllReadyH.cons rfl (fun K hK => ?_) AllReadyH.nil
          go_simp
          go_at_call 31
          refine (get_v HO.out HL.out.1 HS.out.row hn HL.out.2).mono ?_
          rintro e w20 ⟨rfl, hk⟩
          replace HV := Lib.hid (HV.out.keep hk)
          replace HS := Lib.hid (HS.out.keep hk)
          replace HX := Lib.hid (HX.out.keep hk)
          clear hk
          refine hK.out _ _ ?_ (fun hHeld => ?_)
          · exact ⟨HX.out.cell, HS.out.cell⟩
          clear hK K
          try simp only [Act.put, List.setIfInBounds_toArray, List.set_cons_zero, List.set_cons_succ]
          refine wpAnyH_ready (rs := [7]) (by kernel_rfl) (by simp) ?_
          refine AllReadyH.cons rfl (fun K hK => ?_) AllReadyH.nil
          go_simp
          go_at_call 35
          have hbl := HS.out.2.2.1
          refine (put_v HBK.out IHX.out.1 HX.out.row n1k IHX.out.2.2).mono ?_
          rintro e w21 ⟨A5, n5, c5, cs5, rfl, hl5, hs5, ho5, hk⟩
          replace HV := Lib.hid (HV.out.keep hk)
          replace HS := Lib.hid (HS.out.keep hk)
          replace HX := Lib.hid (HX.out.keep hk)
          have HM := Lib.hid (And.intro hl5 (And.intro hs5 (And.intro ho5 (LX.made hbl ho5 hk))))
          clear hbl hl5 hs5 ho5 hk
          refine hK.out _ _ ?_ (fun hHeld => ?_)
          · exact ⟨HX.out.cell, HS.out.cell⟩
          clear hK K
          try simp only [Act.put, List.setIfInBounds_toArray, List.set_cons_zero, List.set_cons_succ]
          refine held_yes (i := 8) (d := some 61) (v := ?_) rfl rfl (by kernel_rfl) (by kernel_rfl) (by kernel_rfl) (fun _ _ _ h => h) (by rfl) ?_ (by assumption) ?_
          rotate_left
          · (intro w hSw; (try dsimp only at hSw); go_simp; (first | done | with_reducible rfl))
          try simp only [Act.put, List.setIfInBounds_toArray, List.set_cons_zero, List.set_cons_succ]
          refine held_yes (i := 9) (d := some 70) (v := ?_) rfl rfl (by kernel_rfl) (by kernel_rfl) (by kernel_rfl) (fun _ _ _ h => h) (by rfl) ?_ (by assumption) ?_
          rotate_left
          · (intro w hSw; (try dsimp only at hSw); go_simp; (first | done | with_reducible rfl))
          try simp only [Act.put, List.setIfInBounds_toArray, List.set_cons_zero, List.set_cons_succ]
          refine held_yes (i := 10) (d := some 71) (v := ?_) rfl rfl (by kernel_rfl) (by kernel_rfl) (by kernel_rfl) (fun _ _ _ h => h) (by rfl) ?_ (by assumption) ?_
          rotate_left
          · (intro w hSw; (try dsimp only at hSw); go_simp; (first | done | with_reducible rfl))
          try simp only [Act.put, List.setIfInBounds_toArray, List.set_cons_zero, List.set_cons_succ]
          have d0 := HV.out.cell 0
          have e0 := HV.out.frozen 0
          have na : wa.heap.size ≠ w3.heap.size := by omega
          have nb : w3.heap.size ≠ wa.heap.size := by omega
          have nc : w1.heap.size ≠ w3.heap.size := by omega
          have nd : w3.heap.size ≠ w1.heap.size := by omega
          have z3 := HS.out.cell
          have z7 := HX.out.cell
          refine wpAnyH_ready (rs := [12]) (by kernel_rfl) (by simp) ?_
          refine AllReadyH.cons rfl (fun K hK => ?_) AllReadyH.nil
          go_simp
          refine hK.out _ _ ?_ (fun hHeld => ?_)
          · first | with_reducible assumption | go_keep
          clear hK K
          try simp only [Act.put, List.setIfInBounds_toArray, List.set_cons_zero, List.set_cons_succ]
          refine wpAnyH_ready (rs := [13]) (by kernel_rfl) (by simp) ?_
          refine AllReadyH.cons rfl (fun K hK => ?_) AllReadyH.nil
          go_simp
          refine hK.out _ _ ?_ (fun hHeld => ?_)
          · first | with_reducible assumption | go_keep
          clear hK K
          try simp only [Act.put, List.setIfInBounds_toArray, List.set_cons_zero, List.set_cons_succ]
          refine wpAnyH_done (by kernel_rfl) ?_ _
          go_wp2_with fail
          go_meet
          exact ⟨_, _, _, _, cs5, rfl, rfl, HM.out.1, HM.out.2.1, LX.put HS.out.2.2.1 HV.out (by omega) HM.out.2.2.1, HS.out.far (by omega) _, HX.out.far (by omega) _⟩
      case rest =>
        clear HS HX
        obtain ⟨D, n5, c5, A5, cs5, rfl, rfl, hl5, hs5, hB, hS, hX⟩ := hcut
        rename World => wx
        have HS := Lib.hid hS
        have HX := Lib.hid hX
        have HB := Lib.hid hB
        have n5k : n5 ≤ 1048576 := by rw [← hl5, ← ll_length, hs5, ll_length, HL.out.1]; exact hn
        have IB := Lib.hid (And.intro hl5 (And.intro (show decide (ll cs5 = ll ls) = true by rw [hs5]; simp) (fun (l : Li) (hq : l ∈ cs5) => show l.xs.length ≤ 1048576 by have h1 : l.xs ∈ ll cs5 := List.mem_map_of_mem hq; rw [hs5] at h1; obtain ⟨l', h2, h3⟩ := List.mem_map.1 h1; rw [← h3]; exact HL.out.2 l' h2)))
        clear hl5 hs5 hB hS hX
        have bHS := HS.out.cell
        have lHS := HS.out.1.lt
        have bHX := HX.out.cell
        have lHX := HX.out.1.lt
        have bHB := HB.out.cell
        have lHB := HB.out.1.lt
        go_wp2_with fail
        clear bHS lHS bHX lHX bHB lHB
        refine (tabValid_val HVX.out IHX.out.1 HX.out.row n1k IHX.out.2.2).mono ?_
        rintro e w6 ⟨rfl, hk⟩
        replace HS := Lib.hid (HS.out.keep hk)
        replace HX := Lib.hid (HX.out.keep hk)
        replace HB := Lib.hid (HB.out.keep hk)
        clear hk
        have bHS := HS.out.cell
        have lHS := HS.out.1.lt
        have bHX := HX.out.cell
        have lHX := HX.out.1.lt
        have bHB := HB.out.cell
        have lHB := HB.out.1.lt
        go_wp2_with fail
        clear bHS lHS bHX lHX bHB lHB
        refine (get_v HNW.out IHX.out.1 HX.out.row n1k IHX.out.2.2).mono ?_
        rintro e w7 ⟨rfl, hk⟩
        replace HS := Lib.hid (HS.out.keep hk)
        replace HX := Lib.hid (HX.out.keep hk)
        replace HB := Lib.hid (HB.out.keep hk)
        clear hk
        have bHS := HS.out.cell
        have lHS := HS.out.1.lt
        have bHX := HX.out.cell
        have lHX := HX.out.1.lt
        have bHB := HB.out.cell
        have lHB := HB.out.1.lt
        go_wp2_with fail
        clear bHS lHS bHX lHX bHB lHB
        refine (chg_v HCH.out HL.out.1 HS.out.row hn HL.out.2 IHX.out.1 HX.out.row n1k IHX.out.2.2).mono ?_
        rintro e w8 ⟨rfl, hk⟩
        replace HS := Lib.hid (HS.out.keep hk)
        replace HX := Lib.hid (HX.out.keep hk)
        replace HB := Lib.hid (HB.out.keep hk)
        clear hk
        have bHS := HS.out.cell
        have lHS := HS.out.1.lt
        have bHX := HX.out.cell
        have lHX := HX.out.1.lt
        have bHB := HB.out.cell
        have lHB := HB.out.1.lt
        go_wp2_with fail
        clear bHS lHS bHX lHX bHB lHB
        refine (sameTable_val IB.out.2.1 IB.out.1 HL.out.1 HB.out.2.1 HS.out.row n5k hn IB.out.2.2 HL.out.2).mono ?_
        rintro e w9 ⟨rfl, hk⟩
        replace HS := Lib.hid (HS.out.keep hk)
        replace HX := Lib.hid (HX.out.keep hk)
        replace HB := Lib.hid (HB.out.keep hk)
        clear hk
        have bHS := HS.out.cell
        have lHS := HS.out.1.lt
        have bHX := HX.out.cell
        have lHX := HX.out.1.lt
        have bHB := HB.out.cell
        have lHB := HB.out.1.lt
        go_wp2
        go_ret
        exact ⟨rfl, HS.out.2.2.1⟩

/-! ### THE ROW's STEP: WRITTEN OUT: LEAVE IT -/
set_option maxRecDepth 100000 in
theorem lifted (os : Os) (started : os.Started) (H : Type) (enc : TypeId × Value → H) :
    ReturnsInHanded {} Try.checked os 7 .any (Rows.fnTablePutSpec.pre6 enc Try.prog Try.f7 Rows.fnTablePutRow.domain false) (Rows.fnTablePutSpec.post enc Try.prog Try.f7 false true false false) := by
  refine returnsInHanded_of_change (C := Try.checked) own started (by kernel_rfl) Try.func7
    (ChangeSpec.witness6 (enc := enc) (C := Try.checked) false ⟨#[], #[.slice none 0 0], []⟩ 8 (by kernel_rfl) (by kernel_rfl) (by kernel_rfl) (by kernel_rfl)) ?_
  intro W base args ds gs before hval0 hW hcnd _
  have hval : ∀ (j : Nat) t v, Try.f7.params[j]? = some t → args[j]? = some v → Value.okWide Try.prog W .any base t v := hval0
  have hW' := hW
  obtain ⟨p, q, hA0, hV, rfl, hfz, hnd⟩ := hW
  have hA : DataW.TrodAll enc Try.prog W 0 (fun _ => true) true Try.f7.params.toList args.toList ds p := hA0
  rw [Try.params7] at hA hval
  obtain ⟨v0, vs0, d0, ds0, p0, q0, hargs, rfl, rfl, h0, r0⟩ := trodAll_cons hA
  obtain ⟨rfl, rfl, rfl⟩ := trodAll_nil r0
  obtain rfl : args = #[v0] := by cases args; simp_all
  obtain ⟨rfl, rfl⟩ := trodVars_none hV
  obtain ⟨a0, len0, cap0, rfl⟩ := okWide_slice Try.underlying22 (hval 0 22 v0 rfl rfl)
  have k0 := h0
  have lt0 : ∀ x ∈ p0, x.block < W.heap.size := by obtain ⟨m, hm⟩ := k0; exact DataW.trod_lt m _ _ _ hm
  obtain ⟨z0, w0⟩ : ∃ zs, IsRow .u8 W a0 len0 cap0 zs := by
    obtain ⟨fuel, hf⟩ := h0
    rcases open_ints Try.underlying22 Try.underlying5 (by kernel_rfl) hf with ⟨hcs, _⟩ | ⟨x, l, c, zs, hcs, _, hl, hm, hz, _, hcell, hwz⟩
    · simp [Value.cells] at hcs
      obtain ⟨rfl, rfl, rfl⟩ := hcs
      exact ⟨[], .inl ⟨rfl, rfl, rfl, rfl⟩⟩
    · simp [Value.cells] at hcs
      obtain ⟨rfl, rfl, rfl⟩ := hcs
      exact ⟨zs, .inr ⟨_, rfl, hl, hm, by simpa using hz, hcell, hwz⟩⟩
  clear hA0 hval0
  refine (walk a0 len0 cap0 z0 W w0).mono fun e W' ⟨he, bel⟩ => ?_
  subst he
  exact ⟨_, rfl, _, _, _, [], _, [], hW', trodAll_mk1 (shut_bool Try.underlying4 _), (trodAll_cons_mk (Below.trod laidOut (by kernel_rfl) (of_decide_eq_true (by kernel_rfl)) k0 bel lt0) trodAll_mk0), rfl, bel.frame _, fun h => by cases h⟩

theorem over : Rows.fnTablePutRow.holds Try.pinned (OpenSpec.ofChange Rows.fnTablePutSpec) :=
  OpenClaim.holds_of_wide 7 Try.f7 rfl rfl rfl rfl rfl rfl rfl ⟨rfl, rfl, rfl, rfl, rfl⟩ rfl rfl rfl rfl rfl (by kernel_rfl) Try.func7 (by kernel_rfl)
    (of_decide_eq_true (by kernel_rfl)) (by unfold Func.isWrapper; first | (rw [if_pos (by decide +kernel)]; kernel_rfl) | (rw [if_neg (by decide +kernel)]; exact ⟨rfl, rfl⟩))
    (fun os started H enc _ => lifted os started H enc)

/-- ████ THE STATEMENT ████ -/
theorem proved : Rows.FnTablePutSaid := over
#print axioms proved
end Go.Proofs.Ytpjajmiegopmlaa.fnTablePut
