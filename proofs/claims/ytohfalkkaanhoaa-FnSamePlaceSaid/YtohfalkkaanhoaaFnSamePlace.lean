/- For every code, SamePlace of the drawn pages is the same in both directions, and a page is at its own place exactly if it is valid and written: proved.
   Conditions: none beyond the row's own reading of the input. The frame was written by the guide's proof-skeleton; the walk is ours. -/
import Derived.Test.YtohfalkkaanhoaaHand
import Derived.Test.YtohfalkkaanhoaaPages
import Derived.Test.YtohfalkkaanhoaaDrawPages
import Derived.Test.YtohfalkkaanhoaaRows
import Derived.WalkKit
import Derived.ProofKit
import Derived.OpenShut
import Derived.ShutString
import Derived.ChangeOld
import Derived.Below
namespace Go.Proofs.Ytohfalkkaanhoaa.fnSamePlace
open Go.ChangeShapes Go.WideShapes Go.ChangeAt Go.RowKit
open Go.ChangeMaps (open_string shut_string)
set_option linter.unusedVariables false
set_option linter.unusedSimpArgs false

theorem own : ownKnob Try.prog.godebug = none := by kernel_rfl
theorem laidOut : laidOutB Try.prog = true := by kernel_rfl

/-- WHAT THE WALK IS TOLD OF A SLICE OF INTEGERS THAT CAME IN: it is nil; or it leads to a row of 'cap' cells, the numbers 'zs' (the first 'len' are its elements, the rest its spare room), each fitting its kind. -/
def IsRow (k : IntKind) (w : World) (a : Option Addr) (len cap : Nat) (zs : List Int) : Prop :=
  (a = none ∧ len = 0 ∧ cap = 0 ∧ zs = []) ∨
  ∃ x, a = some x ∧ len ≤ cap ∧ cap ≤ maxLen ∧ zs.length = cap ∧ (∀ i, i < zs.length → w.cell? (x.add i) = some (.int k (zs.getD i 0))) ∧ ∀ n ∈ zs, (Lit.int k n).wf = true

/-! ### STEP 1: THE WALK: the Go text returns true, AND WRITES NOTHING THAT WAS THERE: 'Below w.heap.size w w'' (Derived/Below.lean: '.refl', '.alloc', '.drew', '.setCell' at a new block, '.trans'). Open each 'IsRow' by 'rcases' AHEAD of 'go_enter'; part every test ahead of the walk. -/
set_option maxHeartbeats 2000000 in
theorem walk (a0 : Option Addr) (len0 cap0 : Nat) (z0 : List Int) (w : World) (w0 : IsRow .u8 w a0 len0 cap0 z0) :
    Calls Try.prog 4 #[.slice a0 len0 cap0] w fun e w' => e = .returned (.bool true) ∧ Below w.heap.size w w' := by
  obtain ⟨hl, hc, hb⟩ := bytes_of w0
  by_cases hbig : 1048576 < len0
  · go_enter Try.func4, Try.ntmps4
    go_wp2
    go_ret
    exact ⟨rfl, Below.refl _ _⟩
  · go_enter Try.func4, Try.ntmps4
    go_wp2_with fail
    refine (drawSame_any w a0 len0 cap0 hl hc hb).mono ?_
    rintro e wa ⟨f, a, b, c, d, f2, a2, b2, c2, d2, rfl, hb1⟩
    have hA := (Blk.new wa 24 #[.bool f, .int .i64 a, .int .i64 b, .int .i64 c, .int .i64 d]).alloc (.cells #[.bool f2, .int .i64 a2, .int .i64 b2, .int .i64 c2, .int .i64 d2] 24)
    have hB := Blk.new (wa.alloc (.cells #[.bool f, .int .i64 a, .int .i64 b, .int .i64 c, .int .i64 d] 24)) 24 #[.bool f2, .int .i64 a2, .int .i64 b2, .int .i64 c2, .int .i64 d2]
    simp only [size_alloc1] at hB
    have hG := grown_alloc (grown_alloc (grown_refl wa none) (.cells #[.bool f, .int .i64 a, .int .i64 b, .int .i64 c, .int .i64 d] 24)) (.cells #[.bool f2, .int .i64 a2, .int .i64 b2, .int .i64 c2, .int .i64 d2] 24)
    have HB := Lib.hid hb1
    clear hb hb1 w0
    obtain ⟨x0, x1, x2, x3, x4⟩ := cells5 hA
    obtain ⟨y0, y1, y2, y3, y4⟩ := cells5 hB
    have t1 := same_flip f a b c d f2 a2 b2 c2 d2
    have t2 := same_self f a b c d
    go_wp2_with (first | (go_at_call 14; ((with_reducible refine (same_any _ _ _ _ _ _ _ _ _ _ _).mono ?_); rintro e w1 ⟨rfl, hk⟩; clear x0 x1 x2 x3 x4; (first | (with_reducible replace hA := hA.keep hk) | (with_reducible replace hA := hA.drew.keep hk) | (with_reducible replace hA := (hA.alloc _).keep hk) | (with_reducible replace hA := (hA.alloc _).drew.keep hk)); clear y0 y1 y2 y3 y4; (first | (with_reducible replace hB := hB.keep hk) | (with_reducible replace hB := hB.drew.keep hk) | (with_reducible replace hB := (hB.alloc _).keep hk) | (with_reducible replace hB := (hB.alloc _).drew.keep hk)); (first | (with_reducible replace hG := grown_trans hG hk) | (with_reducible replace hG := grown_trans (grown_drew hG) hk) | (with_reducible replace hG := grown_trans (grown_alloc hG _) hk) | (with_reducible replace hG := grown_trans (grown_drew (grown_alloc hG _)) hk)); clear hk; obtain ⟨x0, x1, x2, x3, x4⟩ := cells5 hA; obtain ⟨y0, y1, y2, y3, y4⟩ := cells5 hB)) | (go_at_call 15; ((with_reducible refine (specSame_any _ _ _ _ _ _ _ _ _ _ _).mono ?_); rintro e w1 ⟨rfl, hk⟩; clear x0 x1 x2 x3 x4; (first | (with_reducible replace hA := hA.keep hk) | (with_reducible replace hA := hA.drew.keep hk) | (with_reducible replace hA := (hA.alloc _).keep hk) | (with_reducible replace hA := (hA.alloc _).drew.keep hk)); clear y0 y1 y2 y3 y4; (first | (with_reducible replace hB := hB.keep hk) | (with_reducible replace hB := hB.drew.keep hk) | (with_reducible replace hB := (hB.alloc _).keep hk) | (with_reducible replace hB := (hB.alloc _).drew.keep hk)); (first | (with_reducible replace hG := grown_trans hG hk) | (with_reducible replace hG := grown_trans (grown_drew hG) hk) | (with_reducible replace hG := grown_trans (grown_alloc hG _) hk) | (with_reducible replace hG := grown_trans (grown_drew (grown_alloc hG _)) hk)); clear hk; obtain ⟨x0, x1, x2, x3, x4⟩ := cells5 hA; obtain ⟨y0, y1, y2, y3, y4⟩ := cells5 hB)))
    cases hv : pageB f a b c d
    · rw [hv] at t2
      have HT := Lib.hid (t2.trans (show _ = false from rfl))
      have HV := Lib.hid hv
      clear t2 hv t1
      refine wp_region_held_drew (S := (fun w' => w'.cell? ⟨wa.heap.size, 0, none⟩ = some (.bool f) ∧ w'.cell? ⟨wa.heap.size, 1, none⟩ = some (.int .i64 a) ∧ w'.cell? ⟨wa.heap.size, 2, none⟩ = some (.int .i64 b) ∧ w'.cell? ⟨wa.heap.size, 3, none⟩ = some (.int .i64 c) ∧ w'.cell? ⟨wa.heap.size, 4, none⟩ = some (.int .i64 d))) (by kernel_rfl) ?_ (fun hHeld => ?_)
      · (first | (with_reducible exact cells5 hA) | (with_reducible exact cells5 hA.drew) | go_keep)
      refine held_yes (i := 0) (d := some 29) (v := ?_) rfl rfl (by kernel_rfl) (by kernel_rfl) (by kernel_rfl) (fun _ _ _ h => h) (by rfl) ?_ (by assumption) ?_
      rotate_left
      · (intro w hSw; (try dsimp only at hSw); go_simp; (first | done | with_reducible rfl))
      try simp only [Act.put, List.setIfInBounds_toArray, List.set_cons_zero, List.set_cons_succ]
      refine held_yes (i := 1) (d := some 30) (v := ?_) rfl rfl (by kernel_rfl) (by kernel_rfl) (by kernel_rfl) (fun _ _ _ h => h) (by rfl) ?_ (by assumption) ?_
      rotate_left
      · (intro w hSw; (try dsimp only at hSw); go_simp; (first | done | with_reducible rfl))
      try simp only [Act.put, List.setIfInBounds_toArray, List.set_cons_zero, List.set_cons_succ]
      refine held_yes (i := 3) (d := some 32) (v := ?_) rfl rfl (by kernel_rfl) (by kernel_rfl) (by kernel_rfl) (fun _ _ _ h => h) (by rfl) ?_ (by assumption) ?_
      rotate_left
      · (intro w hSw; (try dsimp only at hSw); go_simp; (first | done | with_reducible rfl))
      try simp only [Act.put, List.setIfInBounds_toArray, List.set_cons_zero, List.set_cons_succ]
      refine wpAnyH_ready (rs := [2]) (by kernel_rfl) (by simp) ?_
      refine AllReadyH.cons rfl (fun K hK => ?_) AllReadyH.nil
      go_simp
      go_at_call 14; ((with_reducible refine (same_val HT.out _).mono ?_); rintro e w1 ⟨rfl, hk⟩; clear x0 x1 x2 x3 x4; (first | (with_reducible replace hA := hA.keep hk) | (with_reducible replace hA := hA.drew.keep hk) | (with_reducible replace hA := (hA.alloc _).keep hk) | (with_reducible replace hA := (hA.alloc _).drew.keep hk)); clear y0 y1 y2 y3 y4; (first | (with_reducible replace hB := hB.keep hk) | (with_reducible replace hB := hB.drew.keep hk) | (with_reducible replace hB := (hB.alloc _).keep hk) | (with_reducible replace hB := (hB.alloc _).drew.keep hk)); (first | (with_reducible replace hG := grown_trans hG hk) | (with_reducible replace hG := grown_trans (grown_drew hG) hk) | (with_reducible replace hG := grown_trans (grown_alloc hG _) hk) | (with_reducible replace hG := grown_trans (grown_drew (grown_alloc hG _)) hk)); clear hk; obtain ⟨x0, x1, x2, x3, x4⟩ := cells5 hA; obtain ⟨y0, y1, y2, y3, y4⟩ := cells5 hB)
      refine hK.out _ _ ?_ (fun hHeld => ?_)
      · (first | (with_reducible exact cells5 hA) | (with_reducible exact cells5 hA.drew) | go_keep)
      clear hK K
      try simp only [Act.put, List.setIfInBounds_toArray, List.set_cons_zero, List.set_cons_succ]
      refine wpAnyH_ready (rs := [4]) (by kernel_rfl) (by simp) ?_
      refine AllReadyH.cons rfl (fun K hK => ?_) AllReadyH.nil
      go_simp
      go_at_call 10; ((with_reducible refine (valid_val HV.out _).mono ?_); rintro e w1 ⟨rfl, hk⟩; clear x0 x1 x2 x3 x4; (first | (with_reducible replace hA := hA.keep hk) | (with_reducible replace hA := hA.drew.keep hk) | (with_reducible replace hA := (hA.alloc _).keep hk) | (with_reducible replace hA := (hA.alloc _).drew.keep hk)); clear y0 y1 y2 y3 y4; (first | (with_reducible replace hB := hB.keep hk) | (with_reducible replace hB := hB.drew.keep hk) | (with_reducible replace hB := (hB.alloc _).keep hk) | (with_reducible replace hB := (hB.alloc _).drew.keep hk)); (first | (with_reducible replace hG := grown_trans hG hk) | (with_reducible replace hG := grown_trans (grown_drew hG) hk) | (with_reducible replace hG := grown_trans (grown_alloc hG _) hk) | (with_reducible replace hG := grown_trans (grown_drew (grown_alloc hG _)) hk)); clear hk; obtain ⟨x0, x1, x2, x3, x4⟩ := cells5 hA; obtain ⟨y0, y1, y2, y3, y4⟩ := cells5 hB)
      refine hK.out _ _ ?_ (fun hHeld => ?_)
      · (first | (with_reducible exact cells5 hA) | (with_reducible exact cells5 hA.drew) | go_keep)
      clear hK K
      try simp only [Act.put, List.setIfInBounds_toArray, List.set_cons_zero, List.set_cons_succ]
      refine held_yes (i := 5) (d := some 34) (v := ?_) rfl rfl (by kernel_rfl) (by kernel_rfl) (by kernel_rfl) (fun _ _ _ h => h) (by rfl) ?_ (by assumption) ?_
      rotate_left
      · (intro w hSw; (try dsimp only at hSw); go_simp; (first | done | with_reducible rfl))
      try simp only [Act.put, List.setIfInBounds_toArray, List.set_cons_zero, List.set_cons_succ]
      refine held_no (i := 6) (d := some 35) rfl rfl (by kernel_rfl) (by kernel_rfl) (by kernel_rfl) (fun _ _ _ h => h) (by rfl) (by assumption) ?_
      try simp only [Act.put, List.setIfInBounds_toArray, List.set_cons_zero, List.set_cons_succ]
      refine held_no (i := 7) (d := some 36) rfl rfl (by kernel_rfl) (by kernel_rfl) (by kernel_rfl) (fun _ _ _ h => h) (by rfl) (by assumption) ?_
      try simp only [Act.put, List.setIfInBounds_toArray, List.set_cons_zero, List.set_cons_succ]
      refine held_yes (i := 8) (d := some 37) (v := ?_) rfl rfl (by kernel_rfl) (by kernel_rfl) (by kernel_rfl) (fun _ _ _ h => h) (by rfl) ?_ (by assumption) ?_
      rotate_left
      · (intro w hSw; (try dsimp only at hSw); go_simp; (first | done | with_reducible rfl))
      try simp only [Act.put, List.setIfInBounds_toArray, List.set_cons_zero, List.set_cons_succ]
      refine held_yes (i := 9) (d := some 38) (v := ?_) rfl rfl (by kernel_rfl) (by kernel_rfl) (by kernel_rfl) (fun _ _ _ h => h) (by rfl) ?_ (by assumption) ?_
      rotate_left
      · (intro w hSw; (try dsimp only at hSw); go_simp; (first | done | with_reducible rfl))
      try simp only [Act.put, List.setIfInBounds_toArray, List.set_cons_zero, List.set_cons_succ]
      refine held_yes (i := 10) (d := some 39) (v := ?_) rfl rfl (by kernel_rfl) (by kernel_rfl) (by kernel_rfl) (fun _ _ _ h => h) (by rfl) ?_ (by assumption) ?_
      rotate_left
      · (intro w hSw; (try dsimp only at hSw); go_simp; (first | done | with_reducible rfl))
      try simp only [Act.put, List.setIfInBounds_toArray, List.set_cons_zero, List.set_cons_succ]
      refine wpAnyH_ready (rs := [11]) (by kernel_rfl) (by simp) ?_
      refine AllReadyH.cons rfl (fun K hK => ?_) AllReadyH.nil
      go_simp
      go_at_call 12; refine (alive_any _).mono ?_; rintro e w' ⟨rfl, rfl⟩
      refine hK.out _ _ ?_ (fun hHeld => ?_)
      · (first | (with_reducible exact cells5 hA) | (with_reducible exact cells5 hA.drew) | go_keep)
      clear hK K
      try simp only [Act.put, List.setIfInBounds_toArray, List.set_cons_zero, List.set_cons_succ]
      refine held_yes (i := 12) (d := some 41) (v := ?_) rfl rfl (by kernel_rfl) (by kernel_rfl) (by kernel_rfl) (fun _ _ _ h => h) (by rfl) ?_ (by assumption) ?_
      rotate_left
      · (intro w hSw; (try dsimp only at hSw); go_simp; (first | done | with_reducible rfl))
      try simp only [Act.put, List.setIfInBounds_toArray, List.set_cons_zero, List.set_cons_succ]
      refine held_yes (i := 13) (d := some 2) (v := ?_) rfl rfl (by kernel_rfl) (by kernel_rfl) (by kernel_rfl) (fun _ _ _ h => h) (by rfl) ?_ (by assumption) ?_
      rotate_left
      · (intro w hSw; (try dsimp only at hSw); go_simp; (first | done | with_reducible rfl))
      try simp only [Act.put, List.setIfInBounds_toArray, List.set_cons_zero, List.set_cons_succ]
      refine wpAnyH_done (by kernel_rfl) ?_ _
      go_wp2
      go_ret
      exact ⟨rfl, Below.and_kept HB.out hG⟩
    · rw [hv] at t2
      have HT := Lib.hid (t2.trans (Bool.true_and f))
      have HV := Lib.hid hv
      clear t2 hv t1
      cases f
      · go_region_held3 (fun w' => w'.cell? ⟨wa.heap.size, 0, none⟩ = some (.bool false) ∧ w'.cell? ⟨wa.heap.size, 1, none⟩ = some (.int .i64 a) ∧ w'.cell? ⟨wa.heap.size, 2, none⟩ = some (.int .i64 b) ∧ w'.cell? ⟨wa.heap.size, 3, none⟩ = some (.int .i64 c) ∧ w'.cell? ⟨wa.heap.size, 4, none⟩ = some (.int .i64 d)) (first | (with_reducible exact cells5 hA) | (with_reducible exact cells5 hA.drew) | go_keep)
          (first | (go_at_call 14; ((with_reducible refine (same_val HT.out _).mono ?_); rintro e w1 ⟨rfl, hk⟩; clear x0 x1 x2 x3 x4; (first | (with_reducible replace hA := hA.keep hk) | (with_reducible replace hA := hA.drew.keep hk) | (with_reducible replace hA := (hA.alloc _).keep hk) | (with_reducible replace hA := (hA.alloc _).drew.keep hk)); clear y0 y1 y2 y3 y4; (first | (with_reducible replace hB := hB.keep hk) | (with_reducible replace hB := hB.drew.keep hk) | (with_reducible replace hB := (hB.alloc _).keep hk) | (with_reducible replace hB := (hB.alloc _).drew.keep hk)); (first | (with_reducible replace hG := grown_trans hG hk) | (with_reducible replace hG := grown_trans (grown_drew hG) hk) | (with_reducible replace hG := grown_trans (grown_alloc hG _) hk) | (with_reducible replace hG := grown_trans (grown_drew (grown_alloc hG _)) hk)); clear hk; obtain ⟨x0, x1, x2, x3, x4⟩ := cells5 hA; obtain ⟨y0, y1, y2, y3, y4⟩ := cells5 hB)) | (go_at_call 10; ((with_reducible refine (valid_val HV.out _).mono ?_); rintro e w1 ⟨rfl, hk⟩; clear x0 x1 x2 x3 x4; (first | (with_reducible replace hA := hA.keep hk) | (with_reducible replace hA := hA.drew.keep hk) | (with_reducible replace hA := (hA.alloc _).keep hk) | (with_reducible replace hA := (hA.alloc _).drew.keep hk)); clear y0 y1 y2 y3 y4; (first | (with_reducible replace hB := hB.keep hk) | (with_reducible replace hB := hB.drew.keep hk) | (with_reducible replace hB := (hB.alloc _).keep hk) | (with_reducible replace hB := (hB.alloc _).drew.keep hk)); (first | (with_reducible replace hG := grown_trans hG hk) | (with_reducible replace hG := grown_trans (grown_drew hG) hk) | (with_reducible replace hG := grown_trans (grown_alloc hG _) hk) | (with_reducible replace hG := grown_trans (grown_drew (grown_alloc hG _)) hk)); clear hk; obtain ⟨x0, x1, x2, x3, x4⟩ := cells5 hA; obtain ⟨y0, y1, y2, y3, y4⟩ := cells5 hB)) | (go_at_call 12; refine (alive_any _).mono ?_; rintro e w' ⟨rfl, rfl⟩))
        go_wp2
        go_ret
        exact ⟨rfl, Below.and_kept HB.out hG⟩
      · go_region_held3 (fun w' => w'.cell? ⟨wa.heap.size, 0, none⟩ = some (.bool true) ∧ w'.cell? ⟨wa.heap.size, 1, none⟩ = some (.int .i64 a) ∧ w'.cell? ⟨wa.heap.size, 2, none⟩ = some (.int .i64 b) ∧ w'.cell? ⟨wa.heap.size, 3, none⟩ = some (.int .i64 c) ∧ w'.cell? ⟨wa.heap.size, 4, none⟩ = some (.int .i64 d)) (first | (with_reducible exact cells5 hA) | (with_reducible exact cells5 hA.drew) | go_keep)
          (first | (go_at_call 14; ((with_reducible refine (same_val HT.out _).mono ?_); rintro e w1 ⟨rfl, hk⟩; clear x0 x1 x2 x3 x4; (first | (with_reducible replace hA := hA.keep hk) | (with_reducible replace hA := hA.drew.keep hk) | (with_reducible replace hA := (hA.alloc _).keep hk) | (with_reducible replace hA := (hA.alloc _).drew.keep hk)); clear y0 y1 y2 y3 y4; (first | (with_reducible replace hB := hB.keep hk) | (with_reducible replace hB := hB.drew.keep hk) | (with_reducible replace hB := (hB.alloc _).keep hk) | (with_reducible replace hB := (hB.alloc _).drew.keep hk)); (first | (with_reducible replace hG := grown_trans hG hk) | (with_reducible replace hG := grown_trans (grown_drew hG) hk) | (with_reducible replace hG := grown_trans (grown_alloc hG _) hk) | (with_reducible replace hG := grown_trans (grown_drew (grown_alloc hG _)) hk)); clear hk; obtain ⟨x0, x1, x2, x3, x4⟩ := cells5 hA; obtain ⟨y0, y1, y2, y3, y4⟩ := cells5 hB)) | (go_at_call 10; ((with_reducible refine (valid_val HV.out _).mono ?_); rintro e w1 ⟨rfl, hk⟩; clear x0 x1 x2 x3 x4; (first | (with_reducible replace hA := hA.keep hk) | (with_reducible replace hA := hA.drew.keep hk) | (with_reducible replace hA := (hA.alloc _).keep hk) | (with_reducible replace hA := (hA.alloc _).drew.keep hk)); clear y0 y1 y2 y3 y4; (first | (with_reducible replace hB := hB.keep hk) | (with_reducible replace hB := hB.drew.keep hk) | (with_reducible replace hB := (hB.alloc _).keep hk) | (with_reducible replace hB := (hB.alloc _).drew.keep hk)); (first | (with_reducible replace hG := grown_trans hG hk) | (with_reducible replace hG := grown_trans (grown_drew hG) hk) | (with_reducible replace hG := grown_trans (grown_alloc hG _) hk) | (with_reducible replace hG := grown_trans (grown_drew (grown_alloc hG _)) hk)); clear hk; obtain ⟨x0, x1, x2, x3, x4⟩ := cells5 hA; obtain ⟨y0, y1, y2, y3, y4⟩ := cells5 hB)) | (go_at_call 12; refine (alive_any _).mono ?_; rintro e w' ⟨rfl, rfl⟩))
        go_wp2
        go_ret
        exact ⟨rfl, Below.and_kept HB.out hG⟩

/-! ### THE ROW's STEP: WRITTEN OUT: LEAVE IT -/
set_option maxRecDepth 100000 in
theorem lifted (os : Os) (started : os.Started) (H : Type) (enc : TypeId × Value → H) :
    ReturnsInHanded {} Try.checked os 4 .any (Rows.fnSamePlaceSpec.pre6 enc Try.prog Try.f4 Rows.fnSamePlaceRow.domain false) (Rows.fnSamePlaceSpec.post enc Try.prog Try.f4 false true false false) := by
  refine returnsInHanded_of_change (C := Try.checked) own started (by kernel_rfl) Try.func4
    (ChangeSpec.witness6 (enc := enc) (C := Try.checked) false ⟨#[], #[.slice none 0 0], []⟩ 8 (by kernel_rfl) (by kernel_rfl) (by kernel_rfl) (by kernel_rfl)) ?_
  intro W base args ds gs before hval0 hW hcnd _
  have hval : ∀ (j : Nat) t v, Try.f4.params[j]? = some t → args[j]? = some v → Value.okWide Try.prog W .any base t v := hval0
  have hW' := hW
  obtain ⟨p, q, hA0, hV, rfl, hfz, hnd⟩ := hW
  have hA : DataW.TrodAll enc Try.prog W 0 (fun _ => true) true Try.f4.params.toList args.toList ds p := hA0
  rw [Try.params4] at hA hval
  obtain ⟨v0, vs0, d0, ds0, p0, q0, hargs, rfl, rfl, h0, r0⟩ := trodAll_cons hA
  obtain ⟨rfl, rfl, rfl⟩ := trodAll_nil r0
  obtain rfl : args = #[v0] := by cases args; simp_all
  obtain ⟨rfl, rfl⟩ := trodVars_none hV
  obtain ⟨a0, len0, cap0, rfl⟩ := okWide_slice Try.underlying22 (hval 0 22 v0 rfl rfl)
  have k0 := h0
  have lt0 : ∀ x ∈ p0, x.block < W.heap.size := by obtain ⟨m, hm⟩ := k0; exact DataW.trod_lt m _ _ _ hm
  obtain ⟨z0, w0⟩ : ∃ zs, IsRow .u8 W a0 len0 cap0 zs := by
    obtain ⟨fuel, hf⟩ := h0
    rcases open_ints Try.underlying22 Try.underlying5 (by kernel_rfl) hf with ⟨hcs, _⟩ | ⟨x, l, c, zs, hcs, _, hl, hm, hz, _, hcell, hwz⟩
    · simp [Value.cells] at hcs
      obtain ⟨rfl, rfl, rfl⟩ := hcs
      exact ⟨[], .inl ⟨rfl, rfl, rfl, rfl⟩⟩
    · simp [Value.cells] at hcs
      obtain ⟨rfl, rfl, rfl⟩ := hcs
      exact ⟨zs, .inr ⟨_, rfl, hl, hm, by simpa using hz, hcell, hwz⟩⟩
  clear hA0 hval0
  refine (walk a0 len0 cap0 z0 W w0).mono fun e W' ⟨he, bel⟩ => ?_
  subst he
  exact ⟨_, rfl, _, _, _, [], _, [], hW', trodAll_mk1 (shut_bool Try.underlying4 _), (trodAll_cons_mk (Below.trod laidOut (by kernel_rfl) (of_decide_eq_true (by kernel_rfl)) k0 bel lt0) trodAll_mk0), rfl, bel.frame _, fun h => by cases h⟩

theorem over : Rows.fnSamePlaceRow.holds Try.pinned (OpenSpec.ofChange Rows.fnSamePlaceSpec) :=
  OpenClaim.holds_of_wide 4 Try.f4 rfl rfl rfl rfl rfl rfl rfl ⟨rfl, rfl, rfl, rfl, rfl⟩ rfl rfl rfl rfl rfl (by kernel_rfl) Try.func4 (by kernel_rfl)
    (of_decide_eq_true (by kernel_rfl)) (by unfold Func.isWrapper; first | (rw [if_pos (by decide +kernel)]; kernel_rfl) | (rw [if_neg (by decide +kernel)]; exact ⟨rfl, rfl⟩))
    (fun os started H enc _ => lifted os started H enc)

/-- ████ THE STATEMENT ████ -/
theorem proved : Rows.FnSamePlaceSaid := over
#print axioms proved
end Go.Proofs.Ytohfalkkaanhoaa.fnSamePlace
