/- What the functions of chapter 4 answer, of the program and of the model, for every block. -/
import Derived.Test.YtfiajbkmklcaiaaRows
import Derived.Test.YtfiajbkmklcaiaaBits
import Derived.Test.YtfiajbkmklcaiaaDraw
import Derived.Test.YtfiajbkmklcaiaaPages
import Derived.Test.YtfiajbkmklcaiaaRows5
import Derived.Test.YtfiajbkmklcaiaaDrawPages
import Derived.Deep.RegionHeld3
import Derived.Deep.DeepCutAuto
import Derived.Outline
namespace Go.Proofs.Ytfiajbkmklcaiaa
open Go.ChangeShapes Go.WideShapes Go.ChangeAt Go.RowKit

/-- Page k is valid, and not written after one that is not. -/
def okAt (ps : List Pg) (k : Nat) : Bool := pgB (ps.getD k pz) && (decide (k = 0) || !(ps.getD k pz).f || (ps.getD (k - 1) pz).f)
def ordB (ps : List Pg) : Bool := (List.range ps.length).all (okAt ps)
def blockB (wear : Int) (ps : List Pg) : Bool := inB wear 0 100 && decide (ps.length = 4) && ordB ps
theorem ord_no {ps : List Pg} {k : Nat} (hk : k < ps.length) (h : okAt ps k = false) : ordB ps = false := by
  unfold ordB
  rw [List.all_eq_false]
  exact ⟨k, by simpa using hk, by simp [h]⟩
theorem ord_yes {ps : List Pg} (h : ∀ j, j < ps.length → okAt ps j = true) : ordB ps = true := by
  unfold ordB
  rw [List.all_eq_true]
  exact fun j hj => h j (by simpa using hj)
theorem okAt_of {ps : List Pg} {k : Nat} {p : Pg} (h : ps[k]? = some p) : okAt ps k = (pgB p && (decide (k = 0) || !p.f || (ps.getD (k - 1) pz).f)) := by
  unfold okAt
  rw [List.getD_eq_getElem?_getD, h]
  rfl
theorem okAt_zero {ps : List Pg} {p : Pg} (h : ps[0]? = some p) : okAt ps 0 = pgB p := by rw [okAt_of h]; simp
theorem okAt_succ {ps : List Pg} {j : Nat} {p q : Pg} (h : ps[j + 1]? = some p) (h' : ps[j]? = some q) : okAt ps (j + 1) = (pgB p && (!p.f || q.f)) := by
  rw [okAt_of h, Nat.add_sub_cancel, List.getD_eq_getElem?_getD, h']; simp
theorem ok_step {ps : List Pg} {k : Nat} (h : ∀ j, j < k → okAt ps j = true) (hk : okAt ps k = true) : ∀ j, j < k + 1 → okAt ps j = true := fun j hj => by
  rcases Nat.lt_or_ge j k with h1 | h1
  · exact h j h1
  · obtain rfl : j = k := by omega
    exact hk
theorem getD_at {ps : List Pg} {k : Nat} (h : k < ps.length) : ∃ p, ps[k]? = some p := ⟨_, List.getElem?_eq_getElem h⟩

/-- The loop over the pages, at page k. -/
def OrdRel (w : World) (ps : List Pg) (k : Nat) (wr : World) : Prop := k ≤ ps.length ∧ (∀ j, j < k → okAt ps j = true) ∧ w.grownBy wr none

theorem isWear_any (n : Int) (w : World) :
    Calls Try.prog 119 #[.int .i64 n] w fun e w' => e = .returned (.bool (inB n 0 100)) ∧ w = w' := by
  go_enter Try.func119, Try.ntmps119
  go_wp2
  all_goals (go_ret; refine ⟨retB ?_, rfl⟩; rw [Bool.eq_iff_iff]; simp [inB]; omega)
theorem order_any (A : Option Addr) (c : Nat) (ps : List Pg) (w : World) (hr : Row w w.heap.size A ps) (hn : ps.length ≤ 1048576) :
    Calls Try.prog 120 #[.slice A ps.length c] w (KeptV (.bool (ordB ps)) w) := by
  have HR := Lib.hid hr
  clear hr
  go_enter Try.func120, Try.ntmps120
  go_wp2
  go_loopw [3] (fun i wr => ∃ k : Nat, i = .int .i64 k ∧ OrdRel w ps k wr) (fun i _ => ps.length - (intOf i).toNat)
  case atStart => exact ⟨0, rfl, Nat.zero_le _, fun j hj => absurd hj (by omega), grown_refl _ _⟩
  case round =>
    obtain ⟨k, rfl, hk, hj, hg⟩ := hrel
    by_cases hlt : k < ps.length
    · obtain ⟨g, off, rfl, hgB, hgw, hp5⟩ := HR.out.kept hg (by omega)
      obtain ⟨⟨f, x1, x2, x3, x4⟩, hp⟩ := getD_at hlt
      obtain ⟨c0, c1, c2, c3, c4⟩ := hp5 _ _ hp
      have n1 : g ≠ wr.heap.size := by omega
      have n2 : wr.heap.size ≠ g := by omega
      cases hv : pageB f x1 x2 x3 x4
      · have HX := Lib.hid (And.intro hg (ord_no hlt (by rw [okAt_of hp]; simp [pgB, hv])))
        have HV := Lib.hid hv
        clear hv hp hg hj hp5
        go_wp2_with (go_at_call 71; refine (valid_val HV.out _).mono ?_; rintro e w' ⟨rfl, hkp⟩)
        go_ret
        exact ⟨retB HX.out.2.symm, grown_trans HX.out.1 hkp⟩
      · rcases Nat.eq_zero_or_pos k with h0 | h0
        · have t1 : decide (0 < k) = false := decide_eq_false (by omega)
          have HX := Lib.hid (And.intro hg (ok_step hj (by rw [okAt_of hp]; simp [pgB, hv, h0])))
          have HV := Lib.hid hv
          clear hv hp hg hj hp5 h0
          go_wp2_with (go_at_call 71; refine (valid_val HV.out _).mono ?_; rintro e w' ⟨rfl, hkp⟩)
          go_roundw
          case rel => exact ⟨k + 1, by go_num, by omega, HX.out.2, grown_trans HX.out.1 hkp⟩
          case measure => simp [intOf]; omega
        · obtain ⟨j, rfl⟩ : ∃ j, k = j + 1 := ⟨k - 1, by omega⟩
          obtain ⟨⟨f', y1, y2, y3, y4⟩, hp'⟩ := getD_at (show j < ps.length by omega)
          have HP := Lib.hid (And.intro (hp5 _ _ hp) (hp5 _ _ hp'))
          have HX := Lib.hid (And.intro hg (And.intro hj (okAt_succ hp hp')))
          have HV := Lib.hid hv
          clear hv hp hg hp5 hp' hj
          cases f <;> cases f'
          all_goals
            go_wp2_with (go_at_call 71; refine (valid_val HV.out _).mono ?_; rintro e w' ⟨rfl, hkp⟩; clear c0 c1 c2 c3 c4; obtain ⟨c0, _, _, _, _⟩ := HP.out.1.kept hkp; obtain ⟨d0, _, _, _, _⟩ := HP.out.2.kept hkp; have HK := Lib.hid hkp; clear hkp)
            first
              | (go_ret; exact ⟨retB (ord_no hlt (by rw [HX.out.2.2]; simp [pgB, HV.out])).symm, grown_trans HX.out.1 HK.out⟩)
              | (go_roundw
                 case rel => exact ⟨j + 1 + 1, by go_num, by omega, ok_step HX.out.2.1 (by rw [HX.out.2.2]; simp [pgB, HV.out]), grown_trans HX.out.1 HK.out⟩
                 case measure => simp [intOf]; omega)
    · have HX := Lib.hid (And.intro hg (ord_yes (fun i hi => hj i (by omega))))
      clear hg hj
      go_wp2
      go_ret
      exact ⟨retB HX.out.2.symm, HX.out.1⟩
theorem blockValid_any (m : Int) (A : Option Addr) (c : Nat) (ps : List Pg) (w : World) (hr : Row w w.heap.size A ps) (hn : ps.length ≤ 1048576) :
    Calls Try.prog 98 #[.agg #[.int .i64 m, .slice A ps.length c]] w (KeptV (.bool (blockB m ps)) w) := by
  have HR := Lib.hid (hr.alloc (.cells #[.int .i64 m, .slice A ps.length c] 96))
  clear hr
  by_cases h4 : ps.length = 4
  · have t1 : ((ps.length : Int) == 4) = true := by simp [h4]
    cases h1 : inB m 0 100
    · have H1 := Lib.hid h1
      clear h4 h1
      go_enter Try.func98, Try.ntmps98
      go_wp2_with (first | (go_at_call 119; refine (isWear_any _ _).mono ?_; rintro e w' ⟨rfl, rfl⟩; try rw [H1.out]) | (go_at_call 120; refine (order_any _ _ _ _ (HR.out.more (by simp)) hn).mono ?_; rintro e w' ⟨rfl, hk⟩))
      go_ret
      exact ⟨retB (by simp [blockB, H1.out]), grown_alloc (grown_refl _ _) _⟩
    · have H1 := Lib.hid h1
      have H4 := Lib.hid h4
      clear h4 h1
      go_enter Try.func98, Try.ntmps98
      go_wp2_with (first | (go_at_call 119; refine (isWear_any _ _).mono ?_; rintro e w' ⟨rfl, rfl⟩; try rw [H1.out]) | (go_at_call 120; refine (order_any _ _ _ _ (HR.out.more (by simp)) hn).mono ?_; rintro e w' ⟨rfl, hk⟩))
      go_ret
      exact ⟨retB (by simp [blockB, H1.out, H4.out]), grown_trans (grown_alloc (grown_refl _ _) _) hk⟩
  · have t1 : ((ps.length : Int) == 4) = false := by simp; omega
    have H4 := Lib.hid h4
    clear h4
    cases h1 : inB m 0 100
    all_goals
      have H1 := Lib.hid h1
      clear h1
      go_enter Try.func98, Try.ntmps98
      go_wp2_with (go_at_call 119; refine (isWear_any _ _).mono ?_; rintro e w' ⟨rfl, rfl⟩; try rw [H1.out])
      go_ret
      exact ⟨retB (by simp [blockB, H1.out, H4.out]), grown_alloc (grown_refl _ _) _⟩
end Go.Proofs.Ytfiajbkmklcaiaa
