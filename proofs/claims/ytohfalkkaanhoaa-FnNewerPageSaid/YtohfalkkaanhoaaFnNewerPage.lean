/- For every code, NewerPage of the drawn valid pages is one of both, no other has a greater Stamp, and of a page and itself it is that: proved.
   Conditions: none beyond the row's own reading of the input. The frame was written by the guide's proof-skeleton; the walk is ours. -/
import Derived.Test.YtohfalkkaanhoaaHand
import Derived.Test.YtohfalkkaanhoaaPages
import Derived.Test.YtohfalkkaanhoaaDrawPages
import Derived.Test.YtohfalkkaanhoaaRows
import Derived.WalkKit
import Derived.ProofKit
import Derived.OpenShut
import Derived.ShutString
import Derived.ChangeOld
import Derived.Below
namespace Go.Proofs.Ytohfalkkaanhoaa.fnNewerPage
open Go.ChangeShapes Go.WideShapes Go.ChangeAt Go.RowKit
open Go.ChangeMaps (open_string shut_string)
set_option linter.unusedVariables false
set_option linter.unusedSimpArgs false

theorem own : ownKnob Try.prog.godebug = none := by kernel_rfl
theorem laidOut : laidOutB Try.prog = true := by kernel_rfl

/-- WHAT THE WALK IS TOLD OF A SLICE OF INTEGERS THAT CAME IN: it is nil; or it leads to a row of 'cap' cells, the numbers 'zs' (the first 'len' are its elements, the rest its spare room), each fitting its kind. -/
def IsRow (k : IntKind) (w : World) (a : Option Addr) (len cap : Nat) (zs : List Int) : Prop :=
  (a = none ∧ len = 0 ∧ cap = 0 ∧ zs = []) ∨
  ∃ x, a = some x ∧ len ≤ cap ∧ cap ≤ maxLen ∧ zs.length = cap ∧ (∀ i, i < zs.length → w.cell? (x.add i) = some (.int k (zs.getD i 0))) ∧ ∀ n ∈ zs, (Lit.int k n).wf = true

/-! ### STEP 1: THE WALK: the Go text returns true, AND WRITES NOTHING THAT WAS THERE: 'Below w.heap.size w w'' (Derived/Below.lean: '.refl', '.alloc', '.drew', '.setCell' at a new block, '.trans'). Open each 'IsRow' by 'rcases' AHEAD of 'go_enter'; part every test ahead of the walk. -/
set_option maxHeartbeats 4000000 in
theorem walk (a0 : Option Addr) (len0 cap0 : Nat) (z0 : List Int) (w : World) (w0 : IsRow .u8 w a0 len0 cap0 z0) :
    Calls Try.prog 5 #[.slice a0 len0 cap0] w fun e w' => e = .returned (.bool true) ∧ Below w.heap.size w w' := by
  obtain ⟨hl, hc, hb⟩ := bytes_of w0
  by_cases hbig : 1048576 < len0
  · go_enter Try.func5, Try.ntmps5
    go_wp2
    go_ret
    exact ⟨rfl, Below.refl _ _⟩
  · go_enter Try.func5, Try.ntmps5
    go_wp2_with fail
    refine (drawNewer_any w a0 len0 cap0 hl hc hb).mono ?_
    rintro e wa ⟨f, a, b, c, d, f2, a2, b2, c2, d2, rfl, hb1⟩
    have hA := (Blk.new wa 24 #[.bool f, .int .i64 a, .int .i64 b, .int .i64 c, .int .i64 d]).alloc (.cells #[.bool f2, .int .i64 a2, .int .i64 b2, .int .i64 c2, .int .i64 d2] 24)
    have hB := Blk.new (wa.alloc (.cells #[.bool f, .int .i64 a, .int .i64 b, .int .i64 c, .int .i64 d] 24)) 24 #[.bool f2, .int .i64 a2, .int .i64 b2, .int .i64 c2, .int .i64 d2]
    simp only [size_alloc1] at hB
    have hG := grown_alloc (grown_alloc (grown_refl wa none) (.cells #[.bool f, .int .i64 a, .int .i64 b, .int .i64 c, .int .i64 d] 24)) (.cells #[.bool f2, .int .i64 a2, .int .i64 b2, .int .i64 c2, .int .i64 d2] 24)
    have HB := Lib.hid hb1
    clear hb hb1 w0
    obtain ⟨x0, x1, x2, x3, x4⟩ := cells5 hA
    obtain ⟨y0, y1, y2, y3, y4⟩ := cells5 hB
    cases hv : (pageB f a b c d && pageB f2 a2 b2 c2 d2)
    · have HQ := Lib.hid (new_none f a b c d f2 a2 b2 c2 d2 hv)
      go_wp2_with (first | (go_at_call 17; ((with_reducible refine (newer_any _ _ _ _ _ _ _ _ _ _ _ HQ.out).mono ?_); rintro e wb ⟨rfl, hk⟩; replace hA := hA.keep hk; replace hB := hB.keep hk; replace hG := grown_trans hG hk; clear hk)))
      have hN := Blk.new wb 24 #[.bool false, .int .i64 0, .int .i64 0, .int .i64 0, .int .i64 0]
      replace hA := hA.alloc (.cells #[.bool false, .int .i64 0, .int .i64 0, .int .i64 0, .int .i64 0] 24)
      replace hB := hB.alloc (.cells #[.bool false, .int .i64 0, .int .i64 0, .int .i64 0, .int .i64 0] 24)
      replace hG := grown_alloc hG (.cells #[.bool false, .int .i64 0, .int .i64 0, .int .i64 0, .int .i64 0] 24)
      clear x0 x1 x2 x3 x4 y0 y1 y2 y3 y4
      obtain ⟨x0, x1, x2, x3, x4⟩ := cells5 hA
      obtain ⟨y0, y1, y2, y3, y4⟩ := cells5 hB
      obtain ⟨z0, z1, z2, z3, z4⟩ := cells5 hN
      go_region_held3 (fun w' => w'.cell? ⟨wa.heap.size, 0, none⟩ = some (.bool f) ∧ w'.cell? ⟨wa.heap.size, 1, none⟩ = some (.int .i64 a) ∧ w'.cell? ⟨wa.heap.size, 2, none⟩ = some (.int .i64 b) ∧ w'.cell? ⟨wa.heap.size, 3, none⟩ = some (.int .i64 c) ∧ w'.cell? ⟨wa.heap.size, 4, none⟩ = some (.int .i64 d) ∧ w'.cell? ⟨wa.heap.size + 1, 0, none⟩ = some (.bool f2) ∧ w'.cell? ⟨wa.heap.size + 1, 1, none⟩ = some (.int .i64 a2) ∧ w'.cell? ⟨wa.heap.size + 1, 2, none⟩ = some (.int .i64 b2) ∧ w'.cell? ⟨wa.heap.size + 1, 3, none⟩ = some (.int .i64 c2) ∧ w'.cell? ⟨wa.heap.size + 1, 4, none⟩ = some (.int .i64 d2) ∧ w'.cell? ⟨wb.heap.size, 0, none⟩ = some (.bool false) ∧ w'.cell? ⟨wb.heap.size, 1, none⟩ = some (.int .i64 0) ∧ w'.cell? ⟨wb.heap.size, 2, none⟩ = some (.int .i64 0) ∧ w'.cell? ⟨wb.heap.size, 3, none⟩ = some (.int .i64 0) ∧ w'.cell? ⟨wb.heap.size, 4, none⟩ = some (.int .i64 0)) (first | (with_reducible exact cells555 hA hB hN) | (with_reducible exact cells555 hA.drew hB.drew hN.drew))
        (first | (go_at_call 18; ((with_reducible refine (specNewer_any _ _ _ _ _ _ _ _ _ _ _ HQ.out).mono ?_); rintro e w1 ⟨rfl, hk⟩; clear x0 x1 x2 x3 x4; (first | (with_reducible replace hA := hA.keep hk) | (with_reducible replace hA := hA.drew.keep hk) | (with_reducible replace hA := (hA.alloc _).keep hk) | (with_reducible replace hA := (hA.alloc _).drew.keep hk)); clear y0 y1 y2 y3 y4; (first | (with_reducible replace hB := hB.keep hk) | (with_reducible replace hB := hB.drew.keep hk) | (with_reducible replace hB := (hB.alloc _).keep hk) | (with_reducible replace hB := (hB.alloc _).drew.keep hk)); clear z0 z1 z2 z3 z4; (first | (with_reducible replace hN := hN.keep hk) | (with_reducible replace hN := hN.drew.keep hk) | (with_reducible replace hN := (hN.alloc _).keep hk) | (with_reducible replace hN := (hN.alloc _).drew.keep hk)); (first | (with_reducible replace hG := grown_trans hG hk) | (with_reducible replace hG := grown_trans (grown_drew hG) hk) | (with_reducible replace hG := grown_trans (grown_alloc hG _) hk) | (with_reducible replace hG := grown_trans (grown_drew (grown_alloc hG _)) hk)); clear hk; obtain ⟨x0, x1, x2, x3, x4⟩ := cells5 hA; obtain ⟨y0, y1, y2, y3, y4⟩ := cells5 hB; obtain ⟨z0, z1, z2, z3, z4⟩ := cells5 hN)))
      cases h1 : pageB f a b c d <;> cases h2 : pageB f2 a2 b2 c2 d2 <;> simp only [h1, h2, Bool.and_self, Bool.and_true, Bool.true_and, Bool.true_eq_false] at hv
      all_goals
        go_wp2_with (first | (go_at_call 10; ((with_reducible refine (valid_any _ _ _ _ _ _).mono ?_); rintro e w1 ⟨rfl, hk⟩; clear x0 x1 x2 x3 x4; (first | (with_reducible replace hA := hA.keep hk) | (with_reducible replace hA := hA.drew.keep hk) | (with_reducible replace hA := (hA.alloc _).keep hk) | (with_reducible replace hA := (hA.alloc _).drew.keep hk)); clear y0 y1 y2 y3 y4; (first | (with_reducible replace hB := hB.keep hk) | (with_reducible replace hB := hB.drew.keep hk) | (with_reducible replace hB := (hB.alloc _).keep hk) | (with_reducible replace hB := (hB.alloc _).drew.keep hk)); clear z0 z1 z2 z3 z4; (first | (with_reducible replace hN := hN.keep hk) | (with_reducible replace hN := hN.drew.keep hk) | (with_reducible replace hN := (hN.alloc _).keep hk) | (with_reducible replace hN := (hN.alloc _).drew.keep hk)); (first | (with_reducible replace hG := grown_trans hG hk) | (with_reducible replace hG := grown_trans (grown_drew hG) hk) | (with_reducible replace hG := grown_trans (grown_alloc hG _) hk) | (with_reducible replace hG := grown_trans (grown_drew (grown_alloc hG _)) hk)); clear hk; obtain ⟨x0, x1, x2, x3, x4⟩ := cells5 hA; obtain ⟨y0, y1, y2, y3, y4⟩ := cells5 hB; obtain ⟨z0, z1, z2, z3, z4⟩ := cells5 hN)) | (go_at_call 12; refine (alive_any _).mono ?_; rintro e w' ⟨rfl, rfl⟩))
        go_ret
        exact ⟨rfl, Below.and_kept HB.out hG⟩
    · obtain ⟨h1, h2⟩ : pageB f a b c d = true ∧ pageB f2 a2 b2 c2 d2 = true := by simpa using hv
      clear hv
      have HQ2 := Lib.hid (new_self f a b c d h1)
      rcases new_cases f a b c d f2 a2 b2 c2 d2 h1 h2 with ⟨hlt, hq⟩ | ⟨hlt, hq⟩
      · have HQ := Lib.hid hq
        have l1 : d ≤ d2 := by omega
        have l2 : ¬ d2 = d := by omega
        clear hq hlt
        go_wp2_with (first | (go_at_call 17; ((with_reducible refine (newer_any _ _ _ _ _ _ _ _ _ _ _ HQ.out).mono ?_); rintro e wb ⟨rfl, hk⟩; replace hA := hA.keep hk; replace hB := hB.keep hk; replace hG := grown_trans hG hk; clear hk)))
        have hN := Blk.new wb 24 #[.bool f2, .int .i64 a2, .int .i64 b2, .int .i64 c2, .int .i64 d2]
        replace hA := hA.alloc (.cells #[.bool f2, .int .i64 a2, .int .i64 b2, .int .i64 c2, .int .i64 d2] 24)
        replace hB := hB.alloc (.cells #[.bool f2, .int .i64 a2, .int .i64 b2, .int .i64 c2, .int .i64 d2] 24)
        replace hG := grown_alloc hG (.cells #[.bool f2, .int .i64 a2, .int .i64 b2, .int .i64 c2, .int .i64 d2] 24)
        clear x0 x1 x2 x3 x4 y0 y1 y2 y3 y4
        obtain ⟨x0, x1, x2, x3, x4⟩ := cells5 hA
        obtain ⟨y0, y1, y2, y3, y4⟩ := cells5 hB
        obtain ⟨z0, z1, z2, z3, z4⟩ := cells5 hN
        go_region_held3 (fun w' => w'.cell? ⟨wa.heap.size, 0, none⟩ = some (.bool f) ∧ w'.cell? ⟨wa.heap.size, 1, none⟩ = some (.int .i64 a) ∧ w'.cell? ⟨wa.heap.size, 2, none⟩ = some (.int .i64 b) ∧ w'.cell? ⟨wa.heap.size, 3, none⟩ = some (.int .i64 c) ∧ w'.cell? ⟨wa.heap.size, 4, none⟩ = some (.int .i64 d) ∧ w'.cell? ⟨wa.heap.size + 1, 0, none⟩ = some (.bool f2) ∧ w'.cell? ⟨wa.heap.size + 1, 1, none⟩ = some (.int .i64 a2) ∧ w'.cell? ⟨wa.heap.size + 1, 2, none⟩ = some (.int .i64 b2) ∧ w'.cell? ⟨wa.heap.size + 1, 3, none⟩ = some (.int .i64 c2) ∧ w'.cell? ⟨wa.heap.size + 1, 4, none⟩ = some (.int .i64 d2) ∧ w'.cell? ⟨wb.heap.size, 0, none⟩ = some (.bool f2) ∧ w'.cell? ⟨wb.heap.size, 1, none⟩ = some (.int .i64 a2) ∧ w'.cell? ⟨wb.heap.size, 2, none⟩ = some (.int .i64 b2) ∧ w'.cell? ⟨wb.heap.size, 3, none⟩ = some (.int .i64 c2) ∧ w'.cell? ⟨wb.heap.size, 4, none⟩ = some (.int .i64 d2)) (first | (with_reducible exact cells555 hA hB hN) | (with_reducible exact cells555 hA.drew hB.drew hN.drew))
          (first | (go_at_call 18; ((with_reducible refine (specNewer_any _ _ _ _ _ _ _ _ _ _ _ HQ.out).mono ?_); rintro e w1 ⟨rfl, hk⟩; clear x0 x1 x2 x3 x4; (first | (with_reducible replace hA := hA.keep hk) | (with_reducible replace hA := hA.drew.keep hk) | (with_reducible replace hA := (hA.alloc _).keep hk) | (with_reducible replace hA := (hA.alloc _).drew.keep hk)); clear y0 y1 y2 y3 y4; (first | (with_reducible replace hB := hB.keep hk) | (with_reducible replace hB := hB.drew.keep hk) | (with_reducible replace hB := (hB.alloc _).keep hk) | (with_reducible replace hB := (hB.alloc _).drew.keep hk)); clear z0 z1 z2 z3 z4; (first | (with_reducible replace hN := hN.keep hk) | (with_reducible replace hN := hN.drew.keep hk) | (with_reducible replace hN := (hN.alloc _).keep hk) | (with_reducible replace hN := (hN.alloc _).drew.keep hk)); (first | (with_reducible replace hG := grown_trans hG hk) | (with_reducible replace hG := grown_trans (grown_drew hG) hk) | (with_reducible replace hG := grown_trans (grown_alloc hG _) hk) | (with_reducible replace hG := grown_trans (grown_drew (grown_alloc hG _)) hk)); clear hk; obtain ⟨x0, x1, x2, x3, x4⟩ := cells5 hA; obtain ⟨y0, y1, y2, y3, y4⟩ := cells5 hB; obtain ⟨z0, z1, z2, z3, z4⟩ := cells5 hN)))
        go_wp2_with (first | (go_at_call 10; ((with_reducible refine (valid_any _ _ _ _ _ _).mono ?_); rintro e w1 ⟨rfl, hk⟩; clear x0 x1 x2 x3 x4; (first | (with_reducible replace hA := hA.keep hk) | (with_reducible replace hA := hA.drew.keep hk) | (with_reducible replace hA := (hA.alloc _).keep hk) | (with_reducible replace hA := (hA.alloc _).drew.keep hk)); clear y0 y1 y2 y3 y4; (first | (with_reducible replace hB := hB.keep hk) | (with_reducible replace hB := hB.drew.keep hk) | (with_reducible replace hB := (hB.alloc _).keep hk) | (with_reducible replace hB := (hB.alloc _).drew.keep hk)); clear z0 z1 z2 z3 z4; (first | (with_reducible replace hN := hN.keep hk) | (with_reducible replace hN := hN.drew.keep hk) | (with_reducible replace hN := (hN.alloc _).keep hk) | (with_reducible replace hN := (hN.alloc _).drew.keep hk)); (first | (with_reducible replace hG := grown_trans hG hk) | (with_reducible replace hG := grown_trans (grown_drew hG) hk) | (with_reducible replace hG := grown_trans (grown_alloc hG _) hk) | (with_reducible replace hG := grown_trans (grown_drew (grown_alloc hG _)) hk)); clear hk; obtain ⟨x0, x1, x2, x3, x4⟩ := cells5 hA; obtain ⟨y0, y1, y2, y3, y4⟩ := cells5 hB; obtain ⟨z0, z1, z2, z3, z4⟩ := cells5 hN)) | (go_at_call 12; refine (alive_any _).mono ?_; rintro e w' ⟨rfl, rfl⟩))
        go_region_held3 (fun w' => w'.cell? ⟨wa.heap.size, 0, none⟩ = some (.bool f) ∧ w'.cell? ⟨wa.heap.size, 1, none⟩ = some (.int .i64 a) ∧ w'.cell? ⟨wa.heap.size, 2, none⟩ = some (.int .i64 b) ∧ w'.cell? ⟨wa.heap.size, 3, none⟩ = some (.int .i64 c) ∧ w'.cell? ⟨wa.heap.size, 4, none⟩ = some (.int .i64 d) ∧ w'.cell? ⟨wa.heap.size + 1, 0, none⟩ = some (.bool f2) ∧ w'.cell? ⟨wa.heap.size + 1, 1, none⟩ = some (.int .i64 a2) ∧ w'.cell? ⟨wa.heap.size + 1, 2, none⟩ = some (.int .i64 b2) ∧ w'.cell? ⟨wa.heap.size + 1, 3, none⟩ = some (.int .i64 c2) ∧ w'.cell? ⟨wa.heap.size + 1, 4, none⟩ = some (.int .i64 d2) ∧ w'.cell? ⟨wb.heap.size, 0, none⟩ = some (.bool f2) ∧ w'.cell? ⟨wb.heap.size, 1, none⟩ = some (.int .i64 a2) ∧ w'.cell? ⟨wb.heap.size, 2, none⟩ = some (.int .i64 b2) ∧ w'.cell? ⟨wb.heap.size, 3, none⟩ = some (.int .i64 c2) ∧ w'.cell? ⟨wb.heap.size, 4, none⟩ = some (.int .i64 d2)) (first | (with_reducible exact cells555 hA hB hN) | (with_reducible exact cells555 hA.drew hB.drew hN.drew))
          (first | (go_at_call 17; ((with_reducible refine (newer_any _ _ _ _ _ _ _ _ _ _ _ HQ2.out).mono ?_); rintro e w1 ⟨rfl, hk⟩; clear x0 x1 x2 x3 x4; (first | (with_reducible replace hA := hA.keep hk) | (with_reducible replace hA := hA.drew.keep hk) | (with_reducible replace hA := (hA.alloc _).keep hk) | (with_reducible replace hA := (hA.alloc _).drew.keep hk)); clear y0 y1 y2 y3 y4; (first | (with_reducible replace hB := hB.keep hk) | (with_reducible replace hB := hB.drew.keep hk) | (with_reducible replace hB := (hB.alloc _).keep hk) | (with_reducible replace hB := (hB.alloc _).drew.keep hk)); clear z0 z1 z2 z3 z4; (first | (with_reducible replace hN := hN.keep hk) | (with_reducible replace hN := hN.drew.keep hk) | (with_reducible replace hN := (hN.alloc _).keep hk) | (with_reducible replace hN := (hN.alloc _).drew.keep hk)); (first | (with_reducible replace hG := grown_trans hG hk) | (with_reducible replace hG := grown_trans (grown_drew hG) hk) | (with_reducible replace hG := grown_trans (grown_alloc hG _) hk) | (with_reducible replace hG := grown_trans (grown_drew (grown_alloc hG _)) hk)); clear hk; obtain ⟨x0, x1, x2, x3, x4⟩ := cells5 hA; obtain ⟨y0, y1, y2, y3, y4⟩ := cells5 hB; obtain ⟨z0, z1, z2, z3, z4⟩ := cells5 hN)))
        go_wp2
        go_ret
        exact ⟨rfl, Below.and_kept HB.out hG⟩
      · have HQ := Lib.hid hq
        have l1 : d2 ≤ d := by omega
        clear hq hlt
        go_wp2_with (first | (go_at_call 17; ((with_reducible refine (newer_any _ _ _ _ _ _ _ _ _ _ _ HQ.out).mono ?_); rintro e wb ⟨rfl, hk⟩; replace hA := hA.keep hk; replace hB := hB.keep hk; replace hG := grown_trans hG hk; clear hk)))
        have hN := Blk.new wb 24 #[.bool f, .int .i64 a, .int .i64 b, .int .i64 c, .int .i64 d]
        replace hA := hA.alloc (.cells #[.bool f, .int .i64 a, .int .i64 b, .int .i64 c, .int .i64 d] 24)
        replace hB := hB.alloc (.cells #[.bool f, .int .i64 a, .int .i64 b, .int .i64 c, .int .i64 d] 24)
        replace hG := grown_alloc hG (.cells #[.bool f, .int .i64 a, .int .i64 b, .int .i64 c, .int .i64 d] 24)
        clear x0 x1 x2 x3 x4 y0 y1 y2 y3 y4
        obtain ⟨x0, x1, x2, x3, x4⟩ := cells5 hA
        obtain ⟨y0, y1, y2, y3, y4⟩ := cells5 hB
        obtain ⟨z0, z1, z2, z3, z4⟩ := cells5 hN
        go_region_held3 (fun w' => w'.cell? ⟨wa.heap.size, 0, none⟩ = some (.bool f) ∧ w'.cell? ⟨wa.heap.size, 1, none⟩ = some (.int .i64 a) ∧ w'.cell? ⟨wa.heap.size, 2, none⟩ = some (.int .i64 b) ∧ w'.cell? ⟨wa.heap.size, 3, none⟩ = some (.int .i64 c) ∧ w'.cell? ⟨wa.heap.size, 4, none⟩ = some (.int .i64 d) ∧ w'.cell? ⟨wa.heap.size + 1, 0, none⟩ = some (.bool f2) ∧ w'.cell? ⟨wa.heap.size + 1, 1, none⟩ = some (.int .i64 a2) ∧ w'.cell? ⟨wa.heap.size + 1, 2, none⟩ = some (.int .i64 b2) ∧ w'.cell? ⟨wa.heap.size + 1, 3, none⟩ = some (.int .i64 c2) ∧ w'.cell? ⟨wa.heap.size + 1, 4, none⟩ = some (.int .i64 d2) ∧ w'.cell? ⟨wb.heap.size, 0, none⟩ = some (.bool f) ∧ w'.cell? ⟨wb.heap.size, 1, none⟩ = some (.int .i64 a) ∧ w'.cell? ⟨wb.heap.size, 2, none⟩ = some (.int .i64 b) ∧ w'.cell? ⟨wb.heap.size, 3, none⟩ = some (.int .i64 c) ∧ w'.cell? ⟨wb.heap.size, 4, none⟩ = some (.int .i64 d)) (first | (with_reducible exact cells555 hA hB hN) | (with_reducible exact cells555 hA.drew hB.drew hN.drew))
          (first | (go_at_call 18; ((with_reducible refine (specNewer_any _ _ _ _ _ _ _ _ _ _ _ HQ.out).mono ?_); rintro e w1 ⟨rfl, hk⟩; clear x0 x1 x2 x3 x4; (first | (with_reducible replace hA := hA.keep hk) | (with_reducible replace hA := hA.drew.keep hk) | (with_reducible replace hA := (hA.alloc _).keep hk) | (with_reducible replace hA := (hA.alloc _).drew.keep hk)); clear y0 y1 y2 y3 y4; (first | (with_reducible replace hB := hB.keep hk) | (with_reducible replace hB := hB.drew.keep hk) | (with_reducible replace hB := (hB.alloc _).keep hk) | (with_reducible replace hB := (hB.alloc _).drew.keep hk)); clear z0 z1 z2 z3 z4; (first | (with_reducible replace hN := hN.keep hk) | (with_reducible replace hN := hN.drew.keep hk) | (with_reducible replace hN := (hN.alloc _).keep hk) | (with_reducible replace hN := (hN.alloc _).drew.keep hk)); (first | (with_reducible replace hG := grown_trans hG hk) | (with_reducible replace hG := grown_trans (grown_drew hG) hk) | (with_reducible replace hG := grown_trans (grown_alloc hG _) hk) | (with_reducible replace hG := grown_trans (grown_drew (grown_alloc hG _)) hk)); clear hk; obtain ⟨x0, x1, x2, x3, x4⟩ := cells5 hA; obtain ⟨y0, y1, y2, y3, y4⟩ := cells5 hB; obtain ⟨z0, z1, z2, z3, z4⟩ := cells5 hN)))
        go_wp2_with (first | (go_at_call 10; ((with_reducible refine (valid_any _ _ _ _ _ _).mono ?_); rintro e w1 ⟨rfl, hk⟩; clear x0 x1 x2 x3 x4; (first | (with_reducible replace hA := hA.keep hk) | (with_reducible replace hA := hA.drew.keep hk) | (with_reducible replace hA := (hA.alloc _).keep hk) | (with_reducible replace hA := (hA.alloc _).drew.keep hk)); clear y0 y1 y2 y3 y4; (first | (with_reducible replace hB := hB.keep hk) | (with_reducible replace hB := hB.drew.keep hk) | (with_reducible replace hB := (hB.alloc _).keep hk) | (with_reducible replace hB := (hB.alloc _).drew.keep hk)); clear z0 z1 z2 z3 z4; (first | (with_reducible replace hN := hN.keep hk) | (with_reducible replace hN := hN.drew.keep hk) | (with_reducible replace hN := (hN.alloc _).keep hk) | (with_reducible replace hN := (hN.alloc _).drew.keep hk)); (first | (with_reducible replace hG := grown_trans hG hk) | (with_reducible replace hG := grown_trans (grown_drew hG) hk) | (with_reducible replace hG := grown_trans (grown_alloc hG _) hk) | (with_reducible replace hG := grown_trans (grown_drew (grown_alloc hG _)) hk)); clear hk; obtain ⟨x0, x1, x2, x3, x4⟩ := cells5 hA; obtain ⟨y0, y1, y2, y3, y4⟩ := cells5 hB; obtain ⟨z0, z1, z2, z3, z4⟩ := cells5 hN)) | (go_at_call 12; refine (alive_any _).mono ?_; rintro e w' ⟨rfl, rfl⟩))
        refine wp_region_held_drew (S := (fun w' => w'.cell? ⟨wa.heap.size, 0, none⟩ = some (.bool f) ∧ w'.cell? ⟨wa.heap.size, 1, none⟩ = some (.int .i64 a) ∧ w'.cell? ⟨wa.heap.size, 2, none⟩ = some (.int .i64 b) ∧ w'.cell? ⟨wa.heap.size, 3, none⟩ = some (.int .i64 c) ∧ w'.cell? ⟨wa.heap.size, 4, none⟩ = some (.int .i64 d) ∧ w'.cell? ⟨wa.heap.size + 1, 0, none⟩ = some (.bool f2) ∧ w'.cell? ⟨wa.heap.size + 1, 1, none⟩ = some (.int .i64 a2) ∧ w'.cell? ⟨wa.heap.size + 1, 2, none⟩ = some (.int .i64 b2) ∧ w'.cell? ⟨wa.heap.size + 1, 3, none⟩ = some (.int .i64 c2) ∧ w'.cell? ⟨wa.heap.size + 1, 4, none⟩ = some (.int .i64 d2) ∧ w'.cell? ⟨wb.heap.size, 0, none⟩ = some (.bool f) ∧ w'.cell? ⟨wb.heap.size, 1, none⟩ = some (.int .i64 a) ∧ w'.cell? ⟨wb.heap.size, 2, none⟩ = some (.int .i64 b) ∧ w'.cell? ⟨wb.heap.size, 3, none⟩ = some (.int .i64 c) ∧ w'.cell? ⟨wb.heap.size, 4, none⟩ = some (.int .i64 d))) (by kernel_rfl) ?_ (fun hHeld => ?_)
        · (first | (with_reducible exact cells555 hA hB hN) | (with_reducible exact cells555 hA.drew hB.drew hN.drew))
        refine held_yes (i := 0) (d := some 36) (v := ?_) rfl rfl (by kernel_rfl) (by kernel_rfl) (by kernel_rfl) (fun _ _ _ h => h) (by rfl) ?_ (by assumption) ?_
        rotate_left
        · (intro w hSw; (try dsimp only at hSw); go_simp; (first | done | with_reducible rfl))
        try simp only [Act.put, List.setIfInBounds_toArray, List.set_cons_zero, List.set_cons_succ]
        refine held_yes (i := 1) (d := some 37) (v := ?_) rfl rfl (by kernel_rfl) (by kernel_rfl) (by kernel_rfl) (fun _ _ _ h => h) (by rfl) ?_ (by assumption) ?_
        rotate_left
        · (intro w hSw; (try dsimp only at hSw); go_simp; (first | done | with_reducible rfl))
        try simp only [Act.put, List.setIfInBounds_toArray, List.set_cons_zero, List.set_cons_succ]
        refine held_yes (i := 2) (d := some 38) (v := ?_) rfl rfl (by kernel_rfl) (by kernel_rfl) (by kernel_rfl) (fun _ _ _ h => h) (by rfl) ?_ (by assumption) ?_
        rotate_left
        · (intro w hSw; (try dsimp only at hSw); go_simp; (first | done | with_reducible rfl))
        try simp only [Act.put, List.setIfInBounds_toArray, List.set_cons_zero, List.set_cons_succ]
        refine held_yes (i := 3) (d := some 39) (v := ?_) rfl rfl (by kernel_rfl) (by kernel_rfl) (by kernel_rfl) (fun _ _ _ h => h) (by rfl) ?_ (by assumption) ?_
        rotate_left
        · (intro w hSw; (try dsimp only at hSw); go_simp; (first | done | with_reducible rfl))
        try simp only [Act.put, List.setIfInBounds_toArray, List.set_cons_zero, List.set_cons_succ]
        refine held_no (i := 4) (d := some 40) rfl rfl (by kernel_rfl) (by kernel_rfl) (by kernel_rfl) (fun _ _ _ h => h) (by rfl) (by assumption) ?_
        try simp only [Act.put, List.setIfInBounds_toArray, List.set_cons_zero, List.set_cons_succ]
        refine held_no (i := 5) (d := some 41) rfl rfl (by kernel_rfl) (by kernel_rfl) (by kernel_rfl) (fun _ _ _ h => h) (by rfl) (by assumption) ?_
        try simp only [Act.put, List.setIfInBounds_toArray, List.set_cons_zero, List.set_cons_succ]
        refine held_no (i := 6) (d := some 42) rfl rfl (by kernel_rfl) (by kernel_rfl) (by kernel_rfl) (fun _ _ _ h => h) (by rfl) (by assumption) ?_
        try simp only [Act.put, List.setIfInBounds_toArray, List.set_cons_zero, List.set_cons_succ]
        refine held_yes (i := 7) (d := some 43) (v := ?_) rfl rfl (by kernel_rfl) (by kernel_rfl) (by kernel_rfl) (fun _ _ _ h => h) (by rfl) ?_ (by assumption) ?_
        rotate_left
        · (intro w hSw; (try dsimp only at hSw); go_simp; (first | done | with_reducible rfl))
        try simp only [Act.put, List.setIfInBounds_toArray, List.set_cons_zero, List.set_cons_succ]
        refine held_yes (i := 8) (d := some 44) (v := ?_) rfl rfl (by kernel_rfl) (by kernel_rfl) (by kernel_rfl) (fun _ _ _ h => h) (by rfl) ?_ (by assumption) ?_
        rotate_left
        · (intro w hSw; (try dsimp only at hSw); go_simp; (first | done | with_reducible rfl))
        try simp only [Act.put, List.setIfInBounds_toArray, List.set_cons_zero, List.set_cons_succ]
        refine held_yes (i := 9) (d := some 45) (v := ?_) rfl rfl (by kernel_rfl) (by kernel_rfl) (by kernel_rfl) (fun _ _ _ h => h) (by rfl) ?_ (by assumption) ?_
        rotate_left
        · (intro w hSw; (try dsimp only at hSw); go_simp; (first | done | with_reducible rfl))
        try simp only [Act.put, List.setIfInBounds_toArray, List.set_cons_zero, List.set_cons_succ]
        refine held_yes (i := 10) (d := some 46) (v := ?_) rfl rfl (by kernel_rfl) (by kernel_rfl) (by kernel_rfl) (fun _ _ _ h => h) (by rfl) ?_ (by assumption) ?_
        rotate_left
        · (intro w hSw; (try dsimp only at hSw); go_simp; (first | done | with_reducible rfl))
        try simp only [Act.put, List.setIfInBounds_toArray, List.set_cons_zero, List.set_cons_succ]
        refine held_yes (i := 11) (d := some 47) (v := ?_) rfl rfl (by kernel_rfl) (by kernel_rfl) (by kernel_rfl) (fun _ _ _ h => h) (by rfl) ?_ (by assumption) ?_
        rotate_left
        · (intro w hSw; (try dsimp only at hSw); go_simp; (first | done | with_reducible rfl))
        try simp only [Act.put, List.setIfInBounds_toArray, List.set_cons_zero, List.set_cons_succ]
        refine held_yes (i := 12) (d := some 48) (v := ?_) rfl rfl (by kernel_rfl) (by kernel_rfl) (by kernel_rfl) (fun _ _ _ h => h) (by rfl) ?_ (by assumption) ?_
        rotate_left
        · (intro w hSw; (try dsimp only at hSw); go_simp; (first | done | with_reducible rfl))
        try simp only [Act.put, List.setIfInBounds_toArray, List.set_cons_zero, List.set_cons_succ]
        refine held_yes (i := 13) (d := some 49) (v := ?_) rfl rfl (by kernel_rfl) (by kernel_rfl) (by kernel_rfl) (fun _ _ _ h => h) (by rfl) ?_ (by assumption) ?_
        rotate_left
        · (intro w hSw; (try dsimp only at hSw); go_simp; (first | done | with_reducible rfl))
        try simp only [Act.put, List.setIfInBounds_toArray, List.set_cons_zero, List.set_cons_succ]
        refine held_yes (i := 14) (d := some 50) (v := ?_) rfl rfl (by kernel_rfl) (by kernel_rfl) (by kernel_rfl) (fun _ _ _ h => h) (by rfl) ?_ (by assumption) ?_
        rotate_left
        · (intro w hSw; (try dsimp only at hSw); go_simp; (first | done | with_reducible rfl))
        try simp only [Act.put, List.setIfInBounds_toArray, List.set_cons_zero, List.set_cons_succ]
        refine held_yes (i := 15) (d := some 51) (v := ?_) rfl rfl (by kernel_rfl) (by kernel_rfl) (by kernel_rfl) (fun _ _ _ h => h) (by rfl) ?_ (by assumption) ?_
        rotate_left
        · (intro w hSw; (try dsimp only at hSw); go_simp; (first | done | with_reducible rfl))
        try simp only [Act.put, List.setIfInBounds_toArray, List.set_cons_zero, List.set_cons_succ]
        refine held_yes (i := 16) (d := some 52) (v := ?_) rfl rfl (by kernel_rfl) (by kernel_rfl) (by kernel_rfl) (fun _ _ _ h => h) (by rfl) ?_ (by assumption) ?_
        rotate_left
        · (intro w hSw; (try dsimp only at hSw); go_simp; (first | done | with_reducible rfl))
        try simp only [Act.put, List.setIfInBounds_toArray, List.set_cons_zero, List.set_cons_succ]
        refine held_yes (i := 17) (d := some 53) (v := ?_) rfl rfl (by kernel_rfl) (by kernel_rfl) (by kernel_rfl) (fun _ _ _ h => h) (by rfl) ?_ (by assumption) ?_
        rotate_left
        · (intro w hSw; (try dsimp only at hSw); go_simp; (first | done | with_reducible rfl))
        try simp only [Act.put, List.setIfInBounds_toArray, List.set_cons_zero, List.set_cons_succ]
        refine held_yes (i := 18) (d := some 54) (v := ?_) rfl rfl (by kernel_rfl) (by kernel_rfl) (by kernel_rfl) (fun _ _ _ h => h) (by rfl) ?_ (by assumption) ?_
        rotate_left
        · (intro w hSw; (try dsimp only at hSw); go_simp; (first | done | with_reducible rfl))
        try simp only [Act.put, List.setIfInBounds_toArray, List.set_cons_zero, List.set_cons_succ]
        refine held_yes (i := 19) (d := some 55) (v := ?_) rfl rfl (by kernel_rfl) (by kernel_rfl) (by kernel_rfl) (fun _ _ _ h => h) (by rfl) ?_ (by assumption) ?_
        rotate_left
        · (intro w hSw; (try dsimp only at hSw); go_simp; (first | done | with_reducible rfl))
        try simp only [Act.put, List.setIfInBounds_toArray, List.set_cons_zero, List.set_cons_succ]
        refine held_yes (i := 20) (d := some 56) (v := ?_) rfl rfl (by kernel_rfl) (by kernel_rfl) (by kernel_rfl) (fun _ _ _ h => h) (by rfl) ?_ (by assumption) ?_
        rotate_left
        · (intro w hSw; (try dsimp only at hSw); go_simp; (first | done | with_reducible rfl))
        try simp only [Act.put, List.setIfInBounds_toArray, List.set_cons_zero, List.set_cons_succ]
        refine held_yes (i := 21) (d := some 57) (v := ?_) rfl rfl (by kernel_rfl) (by kernel_rfl) (by kernel_rfl) (fun _ _ _ h => h) (by rfl) ?_ (by assumption) ?_
        rotate_left
        · (intro w hSw; (try dsimp only at hSw); go_simp; (first | done | with_reducible rfl))
        try simp only [Act.put, List.setIfInBounds_toArray, List.set_cons_zero, List.set_cons_succ]
        refine held_yes (i := 22) (d := some 58) (v := ?_) rfl rfl (by kernel_rfl) (by kernel_rfl) (by kernel_rfl) (fun _ _ _ h => h) (by rfl) ?_ (by assumption) ?_
        rotate_left
        · (intro w hSw; (try dsimp only at hSw); go_simp; (first | done | with_reducible rfl))
        try simp only [Act.put, List.setIfInBounds_toArray, List.set_cons_zero, List.set_cons_succ]
        refine held_yes (i := 23) (d := some 59) (v := ?_) rfl rfl (by kernel_rfl) (by kernel_rfl) (by kernel_rfl) (fun _ _ _ h => h) (by rfl) ?_ (by assumption) ?_
        rotate_left
        · (intro w hSw; (try dsimp only at hSw); go_simp; (first | done | with_reducible rfl))
        try simp only [Act.put, List.setIfInBounds_toArray, List.set_cons_zero, List.set_cons_succ]
        refine held_yes (i := 24) (d := some 60) (v := ?_) rfl rfl (by kernel_rfl) (by kernel_rfl) (by kernel_rfl) (fun _ _ _ h => h) (by rfl) ?_ (by assumption) ?_
        rotate_left
        · (intro w hSw; (try dsimp only at hSw); go_simp; (first | done | with_reducible rfl))
        try simp only [Act.put, List.setIfInBounds_toArray, List.set_cons_zero, List.set_cons_succ]
        refine held_yes (i := 26) (d := some 62) (v := ?_) rfl rfl (by kernel_rfl) (by kernel_rfl) (by kernel_rfl) (fun _ _ _ h => h) (by rfl) ?_ (by assumption) ?_
        rotate_left
        · (intro w hSw; (try dsimp only at hSw); go_simp; (first | done | with_reducible rfl))
        try simp only [Act.put, List.setIfInBounds_toArray, List.set_cons_zero, List.set_cons_succ]
        refine wpAnyH_ready (rs := [25]) (by kernel_rfl) (by simp) ?_
        refine AllReadyH.cons rfl (fun K hK => ?_) AllReadyH.nil
        go_simp
        go_at_call 17; ((with_reducible refine (newer_any _ _ _ _ _ _ _ _ _ _ _ HQ2.out).mono ?_); rintro e w1 ⟨rfl, hk⟩; clear x0 x1 x2 x3 x4; (first | (with_reducible replace hA := hA.keep hk) | (with_reducible replace hA := hA.drew.keep hk) | (with_reducible replace hA := (hA.alloc _).keep hk) | (with_reducible replace hA := (hA.alloc _).drew.keep hk)); clear y0 y1 y2 y3 y4; (first | (with_reducible replace hB := hB.keep hk) | (with_reducible replace hB := hB.drew.keep hk) | (with_reducible replace hB := (hB.alloc _).keep hk) | (with_reducible replace hB := (hB.alloc _).drew.keep hk)); clear z0 z1 z2 z3 z4; (first | (with_reducible replace hN := hN.keep hk) | (with_reducible replace hN := hN.drew.keep hk) | (with_reducible replace hN := (hN.alloc _).keep hk) | (with_reducible replace hN := (hN.alloc _).drew.keep hk)); (first | (with_reducible replace hG := grown_trans hG hk) | (with_reducible replace hG := grown_trans (grown_drew hG) hk) | (with_reducible replace hG := grown_trans (grown_alloc hG _) hk) | (with_reducible replace hG := grown_trans (grown_drew (grown_alloc hG _)) hk)); clear hk; obtain ⟨x0, x1, x2, x3, x4⟩ := cells5 hA; obtain ⟨y0, y1, y2, y3, y4⟩ := cells5 hB; obtain ⟨z0, z1, z2, z3, z4⟩ := cells5 hN)
        refine hK.out _ _ ?_ (fun hHeld => ?_)
        · (first | (with_reducible exact cells555 hA hB hN) | (with_reducible exact cells555 hA.drew hB.drew hN.drew))
        clear hK K
        try simp only [Act.put, List.setIfInBounds_toArray, List.set_cons_zero, List.set_cons_succ]
        refine held_yes (i := 27) (d := some 63) (v := ?_) rfl rfl (by kernel_rfl) (by kernel_rfl) (by kernel_rfl) (fun _ _ _ h => h) (by rfl) ?_ (by assumption) ?_
        rotate_left
        · (intro w hSw; (try dsimp only at hSw); go_simp; (first | done | with_reducible rfl))
        try simp only [Act.put, List.setIfInBounds_toArray, List.set_cons_zero, List.set_cons_succ]
        refine held_yes (i := 28) (d := some 64) (v := ?_) rfl rfl (by kernel_rfl) (by kernel_rfl) (by kernel_rfl) (fun _ _ _ h => h) (by rfl) ?_ (by assumption) ?_
        rotate_left
        · (intro w hSw; (try dsimp only at hSw); go_simp; (first | done | with_reducible rfl))
        try simp only [Act.put, List.setIfInBounds_toArray, List.set_cons_zero, List.set_cons_succ]
        refine held_yes (i := 29) (d := some 2) (v := ?_) rfl rfl (by kernel_rfl) (by kernel_rfl) (by kernel_rfl) (fun _ _ _ h => h) (by rfl) ?_ (by assumption) ?_
        rotate_left
        · (intro w hSw; (try dsimp only at hSw); go_simp; (first | done | with_reducible rfl))
        try simp only [Act.put, List.setIfInBounds_toArray, List.set_cons_zero, List.set_cons_succ]
        refine wpAnyH_done (by kernel_rfl) ?_ _
        go_wp2
        go_ret
        exact ⟨rfl, Below.and_kept HB.out hG⟩

/-! ### THE ROW's STEP: WRITTEN OUT: LEAVE IT -/
set_option maxRecDepth 100000 in
theorem lifted (os : Os) (started : os.Started) (H : Type) (enc : TypeId × Value → H) :
    ReturnsInHanded {} Try.checked os 5 .any (Rows.fnNewerPageSpec.pre6 enc Try.prog Try.f5 Rows.fnNewerPageRow.domain false) (Rows.fnNewerPageSpec.post enc Try.prog Try.f5 false true false false) := by
  refine returnsInHanded_of_change (C := Try.checked) own started (by kernel_rfl) Try.func5
    (ChangeSpec.witness6 (enc := enc) (C := Try.checked) false ⟨#[], #[.slice none 0 0], []⟩ 8 (by kernel_rfl) (by kernel_rfl) (by kernel_rfl) (by kernel_rfl)) ?_
  intro W base args ds gs before hval0 hW hcnd _
  have hval : ∀ (j : Nat) t v, Try.f5.params[j]? = some t → args[j]? = some v → Value.okWide Try.prog W .any base t v := hval0
  have hW' := hW
  obtain ⟨p, q, hA0, hV, rfl, hfz, hnd⟩ := hW
  have hA : DataW.TrodAll enc Try.prog W 0 (fun _ => true) true Try.f5.params.toList args.toList ds p := hA0
  rw [Try.params5] at hA hval
  obtain ⟨v0, vs0, d0, ds0, p0, q0, hargs, rfl, rfl, h0, r0⟩ := trodAll_cons hA
  obtain ⟨rfl, rfl, rfl⟩ := trodAll_nil r0
  obtain rfl : args = #[v0] := by cases args; simp_all
  obtain ⟨rfl, rfl⟩ := trodVars_none hV
  obtain ⟨a0, len0, cap0, rfl⟩ := okWide_slice Try.underlying22 (hval 0 22 v0 rfl rfl)
  have k0 := h0
  have lt0 : ∀ x ∈ p0, x.block < W.heap.size := by obtain ⟨m, hm⟩ := k0; exact DataW.trod_lt m _ _ _ hm
  obtain ⟨z0, w0⟩ : ∃ zs, IsRow .u8 W a0 len0 cap0 zs := by
    obtain ⟨fuel, hf⟩ := h0
    rcases open_ints Try.underlying22 Try.underlying5 (by kernel_rfl) hf with ⟨hcs, _⟩ | ⟨x, l, c, zs, hcs, _, hl, hm, hz, _, hcell, hwz⟩
    · simp [Value.cells] at hcs
      obtain ⟨rfl, rfl, rfl⟩ := hcs
      exact ⟨[], .inl ⟨rfl, rfl, rfl, rfl⟩⟩
    · simp [Value.cells] at hcs
      obtain ⟨rfl, rfl, rfl⟩ := hcs
      exact ⟨zs, .inr ⟨_, rfl, hl, hm, by simpa using hz, hcell, hwz⟩⟩
  clear hA0 hval0
  refine (walk a0 len0 cap0 z0 W w0).mono fun e W' ⟨he, bel⟩ => ?_
  subst he
  exact ⟨_, rfl, _, _, _, [], _, [], hW', trodAll_mk1 (shut_bool Try.underlying4 _), (trodAll_cons_mk (Below.trod laidOut (by kernel_rfl) (of_decide_eq_true (by kernel_rfl)) k0 bel lt0) trodAll_mk0), rfl, bel.frame _, fun h => by cases h⟩

theorem over : Rows.fnNewerPageRow.holds Try.pinned (OpenSpec.ofChange Rows.fnNewerPageSpec) :=
  OpenClaim.holds_of_wide 5 Try.f5 rfl rfl rfl rfl rfl rfl rfl ⟨rfl, rfl, rfl, rfl, rfl⟩ rfl rfl rfl rfl rfl (by kernel_rfl) Try.func5 (by kernel_rfl)
    (of_decide_eq_true (by kernel_rfl)) (by unfold Func.isWrapper; first | (rw [if_pos (by decide +kernel)]; kernel_rfl) | (rw [if_neg (by decide +kernel)]; exact ⟨rfl, rfl⟩))
    (fun os started H enc _ => lifted os started H enc)

/-- ████ THE STATEMENT ████ -/
theorem proved : Rows.FnNewerPageSaid := over
#print axioms proved
end Go.Proofs.Ytohfalkkaanhoaa.fnNewerPage
