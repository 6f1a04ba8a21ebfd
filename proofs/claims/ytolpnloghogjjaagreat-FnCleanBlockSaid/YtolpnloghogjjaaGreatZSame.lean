/- The laws' helpers for blocks: samePages, sameBlock. -/
import Derived.Test.YtolpnloghogjjaaGreatZBlocks
import Derived.Deep.QuietTactic
import Derived.BigQuiet
namespace Go.Proofs.YtolpnloghogjjaaGreat
open Go.ChangeShapes Go.WideShapes Go.ChangeAt Go.RowKit

theorem samePages_same (A A' : Option Addr) (c c' n : Nat) (ps : List Pg) (w : World) (hl : ps.length = n) (hr : Row w w.heap.size A ps) (hr' : Row w w.heap.size A' ps) (hn : n ≤ 1048576) :
    Calls Tryz.prog 90 #[.slice A n c, .slice A' n c'] w (KeptV (.bool true) w) := by
  subst hl
  have HR := Lib.hid (And.intro hr hr')
  clear hr hr'
  go_enter Tryz.func90, Tryz.ntmps90
  go_wp2
  go_loopw [5] (fun i wr => ∃ k : Nat, k ≤ ps.length ∧ i = .int .i64 k ∧ w.grownBy wr none) (fun i _ => ps.length - (intOf i).toNat)
  case atStart => exact ⟨0, Nat.zero_le _, rfl, grown_refl _ _⟩
  case round =>
    obtain ⟨k, hk, rfl, hg⟩ := hrel
    by_cases hlt : k < ps.length
    · obtain ⟨g, off, rfl, _, hgw, hp5⟩ := HR.out.1.kept hg (by omega)
      obtain ⟨g', off', rfl, _, hgw', hp5'⟩ := HR.out.2.kept hg (by omega)
      obtain ⟨⟨f, x1, x2, x3, x4⟩, hp⟩ := getD_at hlt
      obtain ⟨c0, c1, c2, c3, c4⟩ := hp5 _ _ hp
      obtain ⟨d0, d1, d2, d3, d4⟩ := hp5' _ _ hp
      have HG := Lib.hid hg
      clear hp hp5 hp5' hg
      have ha : decide (k < ps.length) = true := decide_eq_true hlt
      go_wp2
      go_quiet (fail)
      go_wp2
      go_roundw
      case rel => exact ⟨k + 1, by omega, by go_num, grown_drewN HG.out _⟩
      case measure => simp [intOf]; omega
    · have HG := Lib.hid hg
      clear hg
      go_wp2
      go_ret
      exact ⟨rfl, HG.out⟩
theorem sameBlock_same (m : Int) (A A' : Option Addr) (c c' n : Nat) (ps : List Pg) (w : World) (hl : ps.length = n) (hr : Row w w.heap.size A ps) (hr' : Row w w.heap.size A' ps) (hn : n ≤ 1048576) :
    Calls Tryz.prog 45 #[.agg #[.int .i64 m, .slice A n c], .agg #[.int .i64 m, .slice A' n c']] w (KeptV (.bool true) w) := by
  have HR := Lib.hid (And.intro hl (And.intro (hr.alloc (.cells #[.int .i64 m, .slice A n c] 45)) (hr'.alloc (.cells #[.int .i64 m, .slice A n c] 45))))
  clear hr hr' hl
  go_enter Tryz.func45, Tryz.ntmps45
  go_wp2_with (go_at_call 90; refine (samePages_same _ _ _ _ _ _ _ HR.out.1 (HR.out.2.1.alloc _).here (HR.out.2.2.alloc _).here hn).mono ?_; rintro e w' ⟨rfl, hk⟩)
  go_ret
  exact ⟨rfl, grown_trans (grown_alloc (grown_alloc (grown_refl _ _) _) _) hk⟩
end Go.Proofs.YtolpnloghogjjaaGreat
