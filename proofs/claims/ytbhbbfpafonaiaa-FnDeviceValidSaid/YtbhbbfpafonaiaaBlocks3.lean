/- Chapter 4, further: BlockNext, copies and new blocks of both. -/
import Derived.Test.YtbhbbfpafonaiaaBlocks2
namespace Go.Proofs.Ytbhbbfpafonaiaa
open Go.ChangeShapes Go.WideShapes Go.ChangeAt Go.RowKit

theorem next_any (m : Int) (A : Option Addr) (c : Nat) (ps : List Pg) (w : World) (hr : Row w w.heap.size A ps) (hn : ps.length ≤ 1048576) :
    Calls Try.prog 48 #[.agg #[.int .i64 m, .slice A ps.length c]] w (KeptV (.int .i64 (nextV m ps)) w) := by
  have HR := Lib.hid (hr.alloc (.cells #[.int .i64 m, .slice A ps.length c] 28))
  have HB := Lib.hid (Blk.new w 28 #[.int .i64 m, .slice A ps.length c])
  clear hr
  cases hv : blockB m ps
  · have HV := Lib.hid (And.intro hv (next_no hv))
    clear hv
    go_enter Try.func48, Try.ntmps48
    go_wp2_with (go_at_call 43; refine (blockValid_val rfl HV.out.1 _ (HR.out.more (by simp)) hn).mono ?_; rintro e w1 ⟨rfl, hk⟩)
    go_ret
    exact ⟨retI HV.out.2.symm, grown_trans (grown_alloc (grown_refl _ _) _) hk⟩
  · have H4 := Lib.hid (show nextV m ps = if cntF ps = 4 then -1 else (cntF ps : Int) by simp [nextV, hv])
    have hc := pcnt_le ps
    have HV := Lib.hid hv
    clear hv
    by_cases h4 : cntF ps = 4
    · have t1 : ((cntF ps : Int) == 4) = true := by simp [h4]
      have HX := Lib.hid (show nextV m ps = -1 by rw [H4.out, if_pos h4])
      clear h4
      go_enter Try.func48, Try.ntmps48
      go_wp2_with (first | (go_at_call 43; refine (blockValid_val rfl HV.out _ (HR.out.more (by simp)) hn).mono ?_; rintro e w1 ⟨rfl, hk1⟩; have b1 : w1.cell? ⟨w.heap.size, 1, none⟩ = some (.slice A ps.length c) := (HB.out.keep hk1).cell 1; have HK := Lib.hid hk1; clear hk1) | (go_at_call 36; refine (written_any _ _ _ _ ((HR.out.kept HK.out).more (Nat.le_trans (by simp) HK.out.size)) hn).mono ?_; rintro e w2 ⟨rfl, hk2⟩))
      go_ret
      exact ⟨retI HX.out.symm, grown_trans (grown_alloc (grown_refl _ _) _) (grown_trans HK.out hk2)⟩
    · have t1 : ((cntF ps : Int) == 4) = false := by simp; omega
      have HX := Lib.hid (show nextV m ps = (cntF ps : Int) by rw [H4.out, if_neg h4])
      clear h4
      go_enter Try.func48, Try.ntmps48
      go_wp2_with (first | (go_at_call 43; refine (blockValid_val rfl HV.out _ (HR.out.more (by simp)) hn).mono ?_; rintro e w1 ⟨rfl, hk1⟩; have b1 : w1.cell? ⟨w.heap.size, 1, none⟩ = some (.slice A ps.length c) := (HB.out.keep hk1).cell 1; have HK := Lib.hid hk1; clear hk1) | (go_at_call 36; refine (written_any _ _ _ _ ((HR.out.kept HK.out).more (Nat.le_trans (by simp) HK.out.size)) hn).mono ?_; rintro e w2 ⟨rfl, hk2⟩))
      go_ret
      exact ⟨retI HX.out.symm, grown_trans (grown_alloc (grown_refl _ _) _) (grown_trans HK.out hk2)⟩

/-- The model's loop for the next page, at page k. -/
def NextRel (w : World) (ps : List Pg) (k : Nat) (wr : World) : Prop := k ≤ ps.length ∧ (∀ (j : Nat) (q : Pg), j < k → ps[j]? = some q → q.f = true) ∧ w.grownBy wr none
theorem next_step {ps : List Pg} {k : Nat} {p : Pg} (h : ∀ (j : Nat) (q : Pg), j < k → ps[j]? = some q → q.f = true) (hp : ps[k]? = some p) (hf : p.f = true) : ∀ (j : Nat) (q : Pg), j < k + 1 → ps[j]? = some q → q.f = true := fun j q hj hq => by
  rcases Nat.lt_or_ge j k with h1 | h1
  · exact h j q h1 hq
  · obtain rfl : j = k := by omega
    rw [hp] at hq
    injection hq with hq
    rw [← hq]; exact hf
theorem specNext_any (m : Int) (A : Option Addr) (c : Nat) (ps : List Pg) (w : World) (hr : Row w w.heap.size A ps) (hn : ps.length ≤ 1048576) :
    Calls Try.prog 50 #[.agg #[.int .i64 m, .slice A ps.length c]] w (KeptV (.int .i64 (nextV m ps)) w) := by
  have HR := Lib.hid (hr.alloc (.cells #[.int .i64 m, .slice A ps.length c] 28))
  have HB := Lib.hid (Blk.new w 28 #[.int .i64 m, .slice A ps.length c])
  clear hr
  cases hv : blockB m ps
  · have HV := Lib.hid (And.intro hv (next_no hv))
    clear hv
    by_cases hz : 0 < ps.length
    · have t1 : decide (0 < ps.length) = true := decide_eq_true hz
      go_enter Try.func50, Try.ntmps50
      go_wp2
      go_loopw [3] (fun i wr => i = .int .i64 0 ∧ wr = w.alloc (.cells #[.int .i64 m, .slice A ps.length c] 28)) (fun i _ => ps.length - (intOf i).toNat)
      case atStart => exact ⟨rfl, rfl⟩
      case round =>
        obtain ⟨rfl, rfl⟩ := hrel
        go_wp2_with (go_at_call 22; refine (specBlockValid_val rfl HV.out.1 _ (HR.out.more (by simp)) hn).mono ?_; rintro e w1 ⟨rfl, hk⟩)
        go_ret
        exact ⟨retI HV.out.2.symm, grown_trans (grown_alloc (grown_refl _ _) _) hk⟩
    · have t1 : decide (0 < ps.length) = false := decide_eq_false hz
      go_enter Try.func50, Try.ntmps50
      go_wp2
      go_loopw [3] (fun i wr => i = .int .i64 0 ∧ wr = w.alloc (.cells #[.int .i64 m, .slice A ps.length c] 28)) (fun i _ => ps.length - (intOf i).toNat)
      case atStart => exact ⟨rfl, rfl⟩
      case round =>
        obtain ⟨rfl, rfl⟩ := hrel
        go_wp2
        go_ret
        exact ⟨retI HV.out.2.symm, grown_alloc (grown_refl _ _) _⟩
  · have HV := Lib.hid hv
    clear hv
    go_enter Try.func50, Try.ntmps50
    go_wp2
    go_loopw [3] (fun i wr => ∃ k : Nat, i = .int .i64 k ∧ NextRel (w.alloc (.cells #[.int .i64 m, .slice A ps.length c] 28)) ps k wr) (fun i _ => ps.length - (intOf i).toNat)
    case atStart => exact ⟨0, rfl, Nat.zero_le _, fun j _ hj => absurd hj (by omega), grown_refl _ _⟩
    case round =>
      obtain ⟨k, rfl, hk, hj, hg⟩ := hrel
      have hB := HB.out.keep hg
      have b0 : wr.cell? ⟨w.heap.size, 0, none⟩ = some (.int .i64 m) := hB.cell 0
      have b1 : wr.cell? ⟨w.heap.size, 1, none⟩ = some (.slice A ps.length c) := hB.cell 1
      by_cases hlt : k < ps.length
      · obtain ⟨g, off, rfl, hgB, hgw, hp5⟩ := HR.out.kept hg (by omega)
        obtain ⟨⟨f, x1, x2, x3, x4⟩, hp⟩ := getD_at hlt
        have HX := Lib.hid (And.intro hg (And.intro hB (hp5 _ _ hp)))
        have HP := Lib.hid (And.intro hp hj)
        clear hp hp5 hg hB hj
        cases f
        all_goals
          go_wp2_with (go_at_call 22; refine (specBlockValid_val rfl HV.out _ ((HR.out.kept HX.out.1).more (Nat.le_trans (by simp) HX.out.1.size)) hn).mono ?_; rintro e w1 ⟨rfl, hk1⟩; clear b0 b1; have b1 : w1.cell? ⟨w.heap.size, 1, none⟩ = some (.slice (some ⟨g, off, none⟩) ps.length c) := (HX.out.2.1.keep hk1).cell 1; obtain ⟨c0, _, _, _, _⟩ := HX.out.2.2.kept hk1; have HK := Lib.hid hk1; clear hk1)
          first
            | (go_ret; exact ⟨retI (next_first HV.out HP.out.1 rfl HP.out.2).symm, grown_trans (grown_alloc (grown_refl _ _) _) (grown_trans HX.out.1 HK.out)⟩)
            | (go_roundw
               case rel => exact ⟨k + 1, by go_num, by omega, next_step HP.out.2 HP.out.1 rfl, grown_trans HX.out.1 HK.out⟩
               case measure => simp [intOf]; omega)
      · have HX := Lib.hid (And.intro hg (next_all HV.out (fun j q hq => hj j q (by have := (List.getElem?_eq_some_iff.1 hq).1; omega) hq)))
        clear hg hj hB
        go_wp2
        go_ret
        exact ⟨retI HX.out.2.symm, grown_trans (grown_alloc (grown_refl _ _) _) HX.out.1⟩

theorem isWritten_val {f : Bool} {a b c d : Int} {V : Bool} (h : (f && pageB f a b c d) = V) (w : World) :
    Calls Try.prog 29 #[.agg #[.bool f, .int .i64 a, .int .i64 b, .int .i64 c, .int .i64 d]] w (KeptV (.bool V) w) := by
  have HV := Lib.hid h
  clear h
  cases f
  · go_enter Try.func29, Try.ntmps29
    go_wp2
    go_ret
    exact ⟨retB (by simp [← HV.out]), grown_alloc (grown_refl _ _) _⟩
  · cases hp : pageB true a b c d
    all_goals
      have HP := Lib.hid hp
      clear hp
      go_enter Try.func29, Try.ntmps29
      go_wp2_with (go_at_call 46; refine (valid_val HP.out _).mono ?_; rintro e w1 ⟨rfl, hk⟩)
      go_ret
      exact ⟨retB (by simp [← HV.out, HP.out]), grown_trans (grown_alloc (grown_refl _ _) _) hk⟩
end Go.Proofs.Ytbhbbfpafonaiaa
