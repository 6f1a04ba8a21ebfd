/- What the model's NamesValid answers.
   What the model's FindName answers. -/
import Derived.Test.YtengcjglkcmkbaaPairName
import Derived.Test.YtengcjglkcmkbaaNamesPlain
namespace Go.Proofs.Ytengcjglkcmkbaa
open Go.ChangeShapes Go.WideShapes Go.ChangeAt Go.RowKit
set_option linter.unusedVariables false

/-- a <= b, as the model runs it. -/
theorem run_leq (a b : ByteArray) {Y : Bool} (h : leT a b = Y) (w : World) : Sem.run Try.prog (binOp BinOp.leq 9 (.string a) (.string b)) w = Result.ok (.bool Y) w := by
  subst h
  simp [binOp, Op.stringOp, leT, go_sem]

set_option maxHeartbeats 1000000 in
theorem specNames_any (A : Option Addr) (n c : Nat) (ps : List Nm) (w : World) (hl : ps.length = n) (hr : NRow w w.heap.size A ps) (hn : n ≤ 1048576) (hs : ∀ (k : Nat) p, ps[k]? = some p → p.a.size ≤ 9223372036854775807) :
    Calls Try.prog 24 #[.slice A n c] w (KeptV (.bool (nmB ps)) w) := by
  subst hl
  have HR := Lib.hid (And.intro hr hs)
  clear hr hs
  go_enter Try.func24, Try.ntmps24
  go_wp2
  go_loopw [3] (fun i wr => ∃ k : Nat, k ≤ ps.length ∧ i = .int .i64 k ∧ (∀ j, j < k → nmStepB ps j = true) ∧ w.grownBy wr none) (fun i _ => ps.length - (intOf i).toNat)
  case atStart => exact ⟨0, Nat.zero_le _, rfl, fun j hj => absurd hj (by omega), grown_refl _ _⟩
  case round =>
    rename World => wq
    obtain ⟨k, hk, rfl, hall, hg⟩ := hrel
    by_cases hlt : k < ps.length
    · have h1 := HR.out.1.kept hg
      obtain ⟨g, off, rfl, _⟩ := h1.pos (by omega)
      obtain ⟨⟨a, b⟩, hp⟩ : ∃ p, ps[k]? = some p := ⟨_, List.getElem?_eq_getElem hlt⟩
      obtain ⟨c0, c1⟩ := h1.cellf hp
      have za := HR.out.2 _ _ hp
      dsimp only at c0 c1 za
      have hk0 : decide ((0 : Int) ≤ k) = true := decide_eq_true (by omega)
      have hk1 : (k : Int) < ps.length := by omega
      have HG := Lib.hid (And.intro hg hall)
      clear hg hall h1
      obtain ⟨V, hV⟩ : ∃ V, bkV a = V := ⟨_, rfl⟩
      by_cases hv : V < 0
      · have e1 : decide (V < 0) = true := decide_eq_true hv
        have HX := Lib.hid (And.intro hV (nm_bad hlt (by simp [nmStepB, hp, hV]; omega)))
        clear hp hV
        go_wp2_with (go_at_call 21; with_reducible refine (specBucket_any a _ za).mono ?_; rintro e w' ⟨rfl, rfl⟩; rw [HX.out.1])
        go_ret
        exact ⟨retB HX.out.2.symm, HG.out.1⟩
      have e1 : decide (V < 0) = false := decide_eq_false hv
      cases hb : inB b 0 7
      · have HX := Lib.hid (And.intro hV (And.intro hb (nm_bad hlt (by simp [nmStepB, hp, hb]))))
        clear hp hV hb
        go_wp2_with (first | (go_at_call 21; with_reducible refine (specBucket_any a _ za).mono ?_; rintro e w' ⟨rfl, rfl⟩; rw [HX.out.1]) | (go_at_call 45; refine (in_any _ _ _ _).mono ?_; rintro e w' ⟨rfl, rfl⟩; rw [HX.out.2.1]))
        go_ret
        exact ⟨retB HX.out.2.2.symm, HG.out.1⟩
      by_cases hkz : k = 0
      · have hk2 : decide ((0 : Int) < (k : Int)) = false := decide_eq_false (by omega)
        have hk3 : decide ((3 : Int) ≤ (k : Int)) = false := decide_eq_false (by omega)
        have hk4 : decide (0 < k) = false := decide_eq_false (by omega)
        have hk5 : decide (3 ≤ k) = false := decide_eq_false (by omega)
        have HX := Lib.hid (And.intro hV (And.intro hb (show nmStepB ps k = true by subst hkz; simp [nmStepB, hp, hb, hV]; omega)))
        have HKZ := Lib.hid hkz
        clear hp hV hb hkz
        go_wp2_with (first | (go_at_call 21; with_reducible refine (specBucket_any a _ za).mono ?_; rintro e w' ⟨rfl, rfl⟩; rw [HX.out.1]) | (go_at_call 45; refine (in_any _ _ _ _).mono ?_; rintro e w' ⟨rfl, rfl⟩; rw [HX.out.2.1]))
        go_roundw
        case rel => exact ⟨k + 1, by omega, by go_num, fun j hj => by obtain rfl : j = k := by (have := HKZ.out; omega)
                                                                      exact HX.out.2.2, HG.out.1⟩
        case measure => simp [intOf]; omega
      · obtain ⟨⟨a', b'⟩, hq⟩ : ∃ q, ps[k - 1]? = some q := ⟨_, List.getElem?_eq_getElem (by omega)⟩
        obtain ⟨d0, d1⟩ := (HR.out.1.kept HG.out.1).cellf hq
        have zq := HR.out.2 _ _ hq
        have HP := Lib.hid (And.intro hp hq)
        dsimp only at d0 d1 zq
        obtain ⟨U, hU⟩ : ∃ U, bkV a' = U := ⟨_, rfl⟩
        have HU := Lib.hid hU
        have hk2 : decide ((0 : Int) < (k : Int)) = true := decide_eq_true (by omega)
        have hk4 : decide (0 < k) = true := decide_eq_true (by omega)
        have hk6 : decide ((0 : Int) ≤ (k : Int) - 1) = true := decide_eq_true (by omega)
        have hk7 : (k : Int) - 1 < ps.length := by omega
        by_cases hVU : V < U
        · have e2 : decide (V < U) = true := decide_eq_true hVU
          have HX := Lib.hid (And.intro hV (And.intro hb (nm_bad hlt (nmStep_q hp (by omega) hq (by simp [hV, hU, hVU])))))
          clear hp hV hb hq hU
          go_wp2_with (first | (go_at_call 21; with_reducible refine (specBucket_any a _ za).mono ?_; rintro e w' ⟨rfl, rfl⟩; rw [HX.out.1]) | (go_at_call 21; with_reducible refine (specBucket_any a' _ zq).mono ?_; rintro e w' ⟨rfl, rfl⟩; rw [HU.out]) | (go_at_call 45; refine (in_any _ _ _ _).mono ?_; rintro e w' ⟨rfl, rfl⟩; rw [HX.out.2.1]))
          refine wp_region_held_drew (S := (fun w' => w'.cell? ⟨g, off + k * 2, none⟩ = some (.string a) ∧ w'.cell? ⟨g, off + (k - 1) * 2, none⟩ = some (.string a'))) (by kernel_rfl) ?_ (fun hHeld => ?_)
          · exact ⟨((HR.out.1.kept HG.out.1).cellf HP.out.1).1, ((HR.out.1.kept HG.out.1).cellf HP.out.2).1⟩
          refine heldY 0 38 ?_
          refine heldY 1 39 ?_
          refine heldY 2 40 ?_
          refine heldY 3 41 ?_
          refine heldN 4 42 ?_
          refine heldN 5 43 ?_
          refine heldN 6 44 ?_
          refine heldN 7 45 ?_
          refine heldN 8 46 ?_
          refine heldN 9 47 ?_
          refine heldN 10 48 ?_
          refine heldN 11 49 ?_
          refine heldN 12 50 ?_
          refine heldN 13 51 ?_
          refine heldN 14 52 ?_
          refine heldN 15 53 ?_
          refine heldN 16 54 ?_
          refine heldN 17 55 ?_
          refine heldN 18 56 ?_
          refine heldN 19 57 ?_
          refine heldN 20 58 ?_
          refine heldY 21 59 ?_
          refine wpAnyH_done (by kernel_rfl) ?_ _
          go_wp2
          go_ret
          exact ⟨retB HX.out.2.2.symm, grown_drew HG.out.1⟩
        have e2 : decide (V < U) = false := decide_eq_false hVU
        obtain ⟨Y, hY⟩ : ∃ Y, leT a a' = Y := ⟨_, rfl⟩
        cases e3 : (U == V)
        · by_cases h3 : k < 3
          · have hk3 : decide ((3 : Int) ≤ (k : Int)) = false := decide_eq_false (by omega)
            have hk5 : decide (3 ≤ k) = false := decide_eq_false (by omega)
            have HX := Lib.hid (And.intro hV (And.intro hb (show nmStepB ps k = true by rw [nmStep_1 hp (by omega) h3 hq]; simp [hb, hV, hU, hVU, hY, e3]; omega)))
            clear hp hV hb hq hU
            go_wp2_with (first | (go_at_call 21; with_reducible refine (specBucket_any a _ za).mono ?_; rintro e w' ⟨rfl, rfl⟩; rw [HX.out.1]) | (go_at_call 21; with_reducible refine (specBucket_any a' _ zq).mono ?_; rintro e w' ⟨rfl, rfl⟩; rw [HU.out]) | (go_at_call 45; refine (in_any _ _ _ _).mono ?_; rintro e w' ⟨rfl, rfl⟩; rw [HX.out.2.1]))
            refine wp_region_held_drew (S := (fun w' => w'.cell? ⟨g, off + k * 2, none⟩ = some (.string a) ∧ w'.cell? ⟨g, off + (k - 1) * 2, none⟩ = some (.string a'))) (by kernel_rfl) ?_ (fun hHeld => ?_)
            · exact ⟨((HR.out.1.kept HG.out.1).cellf HP.out.1).1, ((HR.out.1.kept HG.out.1).cellf HP.out.2).1⟩
            refine heldY 0 38 ?_
            refine heldY 1 39 ?_
            refine heldY 2 40 ?_
            refine heldY 3 41 ?_
            refine heldY 4 42 ?_
            refine heldY 5 43 ?_
            refine heldY 6 44 ?_
            refine heldY 7 45 ?_
            refine heldN 8 46 ?_
            refine heldN 9 47 ?_
            refine heldN 10 48 ?_
            refine heldN 11 49 ?_
            refine heldN 12 50 ?_
            refine heldN 13 51 ?_
            refine heldN 14 52 ?_
            refine heldN 15 53 ?_
            refine heldN 16 54 ?_
            refine heldN 17 55 ?_
            refine heldN 18 56 ?_
            refine heldN 19 57 ?_
            refine heldY 20 58 ?_
            refine heldY 21 59 ?_
            refine wpAnyH_done (by kernel_rfl) ?_ _
            go_wp2
            go_roundw
            case rel => exact ⟨k + 1, by omega, by go_num, fun i hi => by rcases Nat.lt_or_ge i k with h | h
                                                                          · exact HG.out.2 i h
                                                                          · obtain rfl : i = k := by omega
                                                                            exact HX.out.2.2, grown_drew HG.out.1⟩
            case measure => simp [intOf]; omega
          · obtain ⟨⟨a'', b''⟩, hr⟩ : ∃ q, ps[k - 3]? = some q := ⟨_, List.getElem?_eq_getElem (by omega)⟩
            have r0 := ((HR.out.1.kept HG.out.1).cellf hr).1
            have zr := HR.out.2 _ _ hr
            dsimp only at r0 zr
            obtain ⟨T, hT⟩ : ∃ T, bkV a'' = T := ⟨_, rfl⟩
            have HT := Lib.hid hT
            have hk3 : decide ((3 : Int) ≤ (k : Int)) = true := decide_eq_true (by omega)
            have hk5 : decide (3 ≤ k) = true := decide_eq_true (by omega)
            have hk8 : decide ((0 : Int) ≤ (k : Int) - 3) = true := decide_eq_true (by omega)
            have hk9 : (k : Int) - 3 < ps.length := by omega
            cases hTV : (T == V)
            · have HX := Lib.hid (And.intro hV (And.intro hb (show nmStepB ps k = true by rw [nmStep_3 hp (by omega) hq hr]; simp [hb, hV, hU, hT, hTV, hVU, hY, e3]; omega)))
              clear hp hV hb hq hU hr
              go_wp2_with (first | (go_at_call 21; with_reducible refine (specBucket_any a _ za).mono ?_; rintro e w' ⟨rfl, rfl⟩; rw [HX.out.1]) | (go_at_call 21; with_reducible refine (specBucket_any a' _ zq).mono ?_; rintro e w' ⟨rfl, rfl⟩; rw [HU.out]) | (go_at_call 45; refine (in_any _ _ _ _).mono ?_; rintro e w' ⟨rfl, rfl⟩; rw [HX.out.2.1]))
              refine wp_region_held_drew (S := (fun w' => w'.cell? ⟨g, off + k * 2, none⟩ = some (.string a) ∧ w'.cell? ⟨g, off + (k - 1) * 2, none⟩ = some (.string a'))) (by kernel_rfl) ?_ (fun hHeld => ?_)
              · exact ⟨((HR.out.1.kept HG.out.1).cellf HP.out.1).1, ((HR.out.1.kept HG.out.1).cellf HP.out.2).1⟩
              refine heldY 0 38 ?_
              refine heldY 1 39 ?_
              refine heldY 2 40 ?_
              refine heldY 3 41 ?_
              refine heldY 4 42 ?_
              refine heldY 5 43 ?_
              refine heldY 6 44 ?_
              refine heldY 7 45 ?_
              refine heldN 8 46 ?_
              refine heldN 9 47 ?_
              refine heldN 10 48 ?_
              refine heldN 11 49 ?_
              refine heldN 12 50 ?_
              refine heldN 13 51 ?_
              refine heldN 14 52 ?_
              refine heldN 15 53 ?_
              refine heldN 16 54 ?_
              refine heldN 17 55 ?_
              refine heldN 18 56 ?_
              refine heldN 19 57 ?_
              refine heldY 20 58 ?_
              refine heldY 21 59 ?_
              refine wpAnyH_done (by kernel_rfl) ?_ _
              go_wp2_with (first | (fail) | (go_at_call 21; with_reducible refine (specBucket_any a'' _ zr).mono ?_; rintro e w' ⟨rfl, rfl⟩; rw [HT.out]))
              go_roundw
              case rel => exact ⟨k + 1, by omega, by go_num, fun i hi => by rcases Nat.lt_or_ge i k with h | h
                                                                            · exact HG.out.2 i h
                                                                            · obtain rfl : i = k := by omega
                                                                              exact HX.out.2.2, grown_drew HG.out.1⟩
              case measure => simp [intOf]; omega
            · have HX := Lib.hid (And.intro hV (And.intro hb (nm_bad hlt (by rw [nmStep_3 hp (by omega) hq hr]; simp [hb, hV, hU, hT, hTV]))))
              clear hp hV hb hq hU hr
              go_wp2_with (first | (go_at_call 21; with_reducible refine (specBucket_any a _ za).mono ?_; rintro e w' ⟨rfl, rfl⟩; rw [HX.out.1]) | (go_at_call 21; with_reducible refine (specBucket_any a' _ zq).mono ?_; rintro e w' ⟨rfl, rfl⟩; rw [HU.out]) | (go_at_call 45; refine (in_any _ _ _ _).mono ?_; rintro e w' ⟨rfl, rfl⟩; rw [HX.out.2.1]))
              refine wp_region_held_drew (S := (fun w' => w'.cell? ⟨g, off + k * 2, none⟩ = some (.string a) ∧ w'.cell? ⟨g, off + (k - 1) * 2, none⟩ = some (.string a'))) (by kernel_rfl) ?_ (fun hHeld => ?_)
              · exact ⟨((HR.out.1.kept HG.out.1).cellf HP.out.1).1, ((HR.out.1.kept HG.out.1).cellf HP.out.2).1⟩
              refine heldY 0 38 ?_
              refine heldY 1 39 ?_
              refine heldY 2 40 ?_
              refine heldY 3 41 ?_
              refine heldY 4 42 ?_
              refine heldY 5 43 ?_
              refine heldY 6 44 ?_
              refine heldY 7 45 ?_
              refine heldN 8 46 ?_
              refine heldN 9 47 ?_
              refine heldN 10 48 ?_
              refine heldN 11 49 ?_
              refine heldN 12 50 ?_
              refine heldN 13 51 ?_
              refine heldN 14 52 ?_
              refine heldN 15 53 ?_
              refine heldN 16 54 ?_
              refine heldN 17 55 ?_
              refine heldN 18 56 ?_
              refine heldN 19 57 ?_
              refine heldY 20 58 ?_
              refine heldY 21 59 ?_
              refine wpAnyH_done (by kernel_rfl) ?_ _
              go_wp2_with (first | (fail) | (go_at_call 21; with_reducible refine (specBucket_any a'' _ zr).mono ?_; rintro e w' ⟨rfl, rfl⟩; rw [HT.out]))
              go_ret
              exact ⟨retB HX.out.2.2.symm, grown_drew HG.out.1⟩
        obtain rfl : V = U := by have := eq_of_beq e3; omega
        clear e3
        cases Y
        · by_cases h3 : k < 3
          · have hk3 : decide ((3 : Int) ≤ (k : Int)) = false := decide_eq_false (by omega)
            have hk5 : decide (3 ≤ k) = false := decide_eq_false (by omega)
            have HX := Lib.hid (And.intro hV (And.intro hb (show nmStepB ps k = true by rw [nmStep_1 hp (by omega) h3 hq]; simp [hb, hV, hU, hVU, hY]; omega)))
            clear hp hV hb hq hU
            go_wp2_with (first | (go_at_call 21; with_reducible refine (specBucket_any a _ za).mono ?_; rintro e w' ⟨rfl, rfl⟩; rw [HX.out.1]) | (go_at_call 21; with_reducible refine (specBucket_any a' _ zq).mono ?_; rintro e w' ⟨rfl, rfl⟩; rw [HU.out]) | (go_at_call 45; refine (in_any _ _ _ _).mono ?_; rintro e w' ⟨rfl, rfl⟩; rw [HX.out.2.1]))
            have hleq := run_leq a a' hY
            have hw : IntKind.i64.wrap ((k : Int) - 1) = ((k - 1 : Nat) : Int) := by rw [IntWalk.i64_in _ ⟨by omega, by omega⟩]; omega
            have hw2 : ((k - 1 : Nat) : Int) < ps.length := by omega
            refine wp_region_held_drew (S := (fun w' => w'.cell? ⟨g, off + k * 2, none⟩ = some (.string a) ∧ w'.cell? ⟨g, off + (k - 1) * 2, none⟩ = some (.string a'))) (by kernel_rfl) ?_ (fun hHeld => ?_)
            · exact ⟨((HR.out.1.kept HG.out.1).cellf HP.out.1).1, ((HR.out.1.kept HG.out.1).cellf HP.out.2).1⟩
            refine heldY 0 38 ?_
            refine heldY 1 39 ?_
            refine heldY 2 40 ?_
            refine heldY 3 41 ?_
            refine heldY 4 42 ?_
            refine heldY 5 43 ?_
            refine heldY 6 44 ?_
            refine heldY 7 45 ?_
            refine heldY 8 46 ?_
            refine heldY 9 47 ?_
            refine heldY 10 48 ?_
            refine heldY 11 49 ?_
            refine heldY 12 50 ?_
            refine heldY 13 51 ?_
            refine heldY 14 52 ?_
            refine heldY 15 53 ?_
            refine heldY 16 54 ?_
            refine heldY 17 55 ?_
            refine heldY 18 56 ?_
            refine heldY 19 57 ?_
            refine heldY 20 58 ?_
            refine heldY 21 59 ?_
            refine wpAnyH_done (by kernel_rfl) ?_ _
            clear hw hw2 hleq
            go_wp2
            go_roundw
            case rel => exact ⟨k + 1, by omega, by go_num, fun i hi => by rcases Nat.lt_or_ge i k with h | h
                                                                          · exact HG.out.2 i h
                                                                          · obtain rfl : i = k := by omega
                                                                            exact HX.out.2.2, grown_drew HG.out.1⟩
            case measure => simp [intOf]; omega
          · obtain ⟨⟨a'', b''⟩, hr⟩ : ∃ q, ps[k - 3]? = some q := ⟨_, List.getElem?_eq_getElem (by omega)⟩
            have r0 := ((HR.out.1.kept HG.out.1).cellf hr).1
            have zr := HR.out.2 _ _ hr
            dsimp only at r0 zr
            obtain ⟨T, hT⟩ : ∃ T, bkV a'' = T := ⟨_, rfl⟩
            have HT := Lib.hid hT
            have hk3 : decide ((3 : Int) ≤ (k : Int)) = true := decide_eq_true (by omega)
            have hk5 : decide (3 ≤ k) = true := decide_eq_true (by omega)
            have hk8 : decide ((0 : Int) ≤ (k : Int) - 3) = true := decide_eq_true (by omega)
            have hk9 : (k : Int) - 3 < ps.length := by omega
            cases hTV : (T == V)
            · have HX := Lib.hid (And.intro hV (And.intro hb (show nmStepB ps k = true by rw [nmStep_3 hp (by omega) hq hr]; simp [hb, hV, hU, hT, hTV, hVU, hY]; omega)))
              clear hp hV hb hq hU hr
              go_wp2_with (first | (go_at_call 21; with_reducible refine (specBucket_any a _ za).mono ?_; rintro e w' ⟨rfl, rfl⟩; rw [HX.out.1]) | (go_at_call 21; with_reducible refine (specBucket_any a' _ zq).mono ?_; rintro e w' ⟨rfl, rfl⟩; rw [HU.out]) | (go_at_call 45; refine (in_any _ _ _ _).mono ?_; rintro e w' ⟨rfl, rfl⟩; rw [HX.out.2.1]))
              have hleq := run_leq a a' hY
              have hw : IntKind.i64.wrap ((k : Int) - 1) = ((k - 1 : Nat) : Int) := by rw [IntWalk.i64_in _ ⟨by omega, by omega⟩]; omega
              have hw2 : ((k - 1 : Nat) : Int) < ps.length := by omega
              refine wp_region_held_drew (S := (fun w' => w'.cell? ⟨g, off + k * 2, none⟩ = some (.string a) ∧ w'.cell? ⟨g, off + (k - 1) * 2, none⟩ = some (.string a'))) (by kernel_rfl) ?_ (fun hHeld => ?_)
              · exact ⟨((HR.out.1.kept HG.out.1).cellf HP.out.1).1, ((HR.out.1.kept HG.out.1).cellf HP.out.2).1⟩
              refine heldY 0 38 ?_
              refine heldY 1 39 ?_
              refine heldY 2 40 ?_
              refine heldY 3 41 ?_
              refine heldY 4 42 ?_
              refine heldY 5 43 ?_
              refine heldY 6 44 ?_
              refine heldY 7 45 ?_
              refine heldY 8 46 ?_
              refine heldY 9 47 ?_
              refine heldY 10 48 ?_
              refine heldY 11 49 ?_
              refine heldY 12 50 ?_
              refine heldY 13 51 ?_
              refine heldY 14 52 ?_
              refine heldY 15 53 ?_
              refine heldY 16 54 ?_
              refine heldY 17 55 ?_
              refine heldY 18 56 ?_
              refine heldY 19 57 ?_
              refine heldY 20 58 ?_
              refine heldY 21 59 ?_
              refine wpAnyH_done (by kernel_rfl) ?_ _
              clear hw hw2 hleq
              go_wp2_with (first | (fail) | (go_at_call 21; with_reducible refine (specBucket_any a'' _ zr).mono ?_; rintro e w' ⟨rfl, rfl⟩; rw [HT.out]))
              go_roundw
              case rel => exact ⟨k + 1, by omega, by go_num, fun i hi => by rcases Nat.lt_or_ge i k with h | h
                                                                            · exact HG.out.2 i h
                                                                            · obtain rfl : i = k := by omega
                                                                              exact HX.out.2.2, grown_drew HG.out.1⟩
              case measure => simp [intOf]; omega
            · have HX := Lib.hid (And.intro hV (And.intro hb (nm_bad hlt (by rw [nmStep_3 hp (by omega) hq hr]; simp [hb, hV, hU, hT, hTV]))))
              clear hp hV hb hq hU hr
              go_wp2_with (first | (go_at_call 21; with_reducible refine (specBucket_any a _ za).mono ?_; rintro e w' ⟨rfl, rfl⟩; rw [HX.out.1]) | (go_at_call 21; with_reducible refine (specBucket_any a' _ zq).mono ?_; rintro e w' ⟨rfl, rfl⟩; rw [HU.out]) | (go_at_call 45; refine (in_any _ _ _ _).mono ?_; rintro e w' ⟨rfl, rfl⟩; rw [HX.out.2.1]))
              have hleq := run_leq a a' hY
              have hw : IntKind.i64.wrap ((k : Int) - 1) = ((k - 1 : Nat) : Int) := by rw [IntWalk.i64_in _ ⟨by omega, by omega⟩]; omega
              have hw2 : ((k - 1 : Nat) : Int) < ps.length := by omega
              refine wp_region_held_drew (S := (fun w' => w'.cell? ⟨g, off + k * 2, none⟩ = some (.string a) ∧ w'.cell? ⟨g, off + (k - 1) * 2, none⟩ = some (.string a'))) (by kernel_rfl) ?_ (fun hHeld => ?_)
              · exact ⟨((HR.out.1.kept HG.out.1).cellf HP.out.1).1, ((HR.out.1.kept HG.out.1).cellf HP.out.2).1⟩
              refine heldY 0 38 ?_
              refine heldY 1 39 ?_
              refine heldY 2 40 ?_
              refine heldY 3 41 ?_
              refine heldY 4 42 ?_
              refine heldY 5 43 ?_
              refine heldY 6 44 ?_
              refine heldY 7 45 ?_
              refine heldY 8 46 ?_
              refine heldY 9 47 ?_
              refine heldY 10 48 ?_
              refine heldY 11 49 ?_
              refine heldY 12 50 ?_
              refine heldY 13 51 ?_
              refine heldY 14 52 ?_
              refine heldY 15 53 ?_
              refine heldY 16 54 ?_
              refine heldY 17 55 ?_
              refine heldY 18 56 ?_
              refine heldY 19 57 ?_
              refine heldY 20 58 ?_
              refine heldY 21 59 ?_
              refine wpAnyH_done (by kernel_rfl) ?_ _
              clear hw hw2 hleq
              go_wp2_with (first | (fail) | (go_at_call 21; with_reducible refine (specBucket_any a'' _ zr).mono ?_; rintro e w' ⟨rfl, rfl⟩; rw [HT.out]))
              go_ret
              exact ⟨retB HX.out.2.2.symm, grown_drew HG.out.1⟩
        have HX := Lib.hid (And.intro hV (And.intro hb (nm_bad hlt (nmStep_q hp (by omega) hq (by simp [hV, hU, hVU, hY])))))
        clear hp hV hb hq hU
        go_wp2_with (first | (go_at_call 21; with_reducible refine (specBucket_any a _ za).mono ?_; rintro e w' ⟨rfl, rfl⟩; rw [HX.out.1]) | (go_at_call 21; with_reducible refine (specBucket_any a' _ zq).mono ?_; rintro e w' ⟨rfl, rfl⟩; rw [HU.out]) | (go_at_call 45; refine (in_any _ _ _ _).mono ?_; rintro e w' ⟨rfl, rfl⟩; rw [HX.out.2.1]))
        have hleq := run_leq a a' hY
        have hw : IntKind.i64.wrap ((k : Int) - 1) = ((k - 1 : Nat) : Int) := by rw [IntWalk.i64_in _ ⟨by omega, by omega⟩]; omega
        have hw2 : ((k - 1 : Nat) : Int) < ps.length := by omega
        refine wp_region_held_drew (S := (fun w' => w'.cell? ⟨g, off + k * 2, none⟩ = some (.string a) ∧ w'.cell? ⟨g, off + (k - 1) * 2, none⟩ = some (.string a'))) (by kernel_rfl) ?_ (fun hHeld => ?_)
        · exact ⟨((HR.out.1.kept HG.out.1).cellf HP.out.1).1, ((HR.out.1.kept HG.out.1).cellf HP.out.2).1⟩
        refine heldY 0 38 ?_
        refine heldY 1 39 ?_
        refine heldY 2 40 ?_
        refine heldY 3 41 ?_
        refine heldY 4 42 ?_
        refine heldY 5 43 ?_
        refine heldY 6 44 ?_
        refine heldY 7 45 ?_
        refine heldY 8 46 ?_
        refine heldY 9 47 ?_
        refine heldY 10 48 ?_
        refine heldY 11 49 ?_
        refine heldY 12 50 ?_
        refine heldY 13 51 ?_
        refine heldY 14 52 ?_
        refine heldY 15 53 ?_
        refine heldY 16 54 ?_
        refine heldY 17 55 ?_
        refine heldY 18 56 ?_
        refine heldY 19 57 ?_
        refine heldY 20 58 ?_
        refine heldY 21 59 ?_
        refine wpAnyH_done (by kernel_rfl) ?_ _
        clear hw hw2 hleq
        go_wp2
        go_ret
        exact ⟨retB HX.out.2.2.symm, grown_drew HG.out.1⟩
    · obtain rfl : k = ps.length := by omega
      have HX := Lib.hid (And.intro (nm_end hall) hg)
      clear hall hg
      go_wp2
      go_ret
      exact ⟨retB HX.out.1.symm, HX.out.2⟩
end Go.Proofs.Ytengcjglkcmkbaa
namespace Go.Proofs.Ytengcjglkcmkbaa
open Go.ChangeShapes Go.WideShapes Go.ChangeAt Go.RowKit
set_option linter.unusedVariables false

theorem specNames_val {B : Bool} {A : Option Addr} {n c : Nat} {ps : List Nm} {w : World} (h : nmB ps = B) (hl : ps.length = n) (hr : NRow w w.heap.size A ps) (hn : n ≤ 1048576) (hs : ∀ (k : Nat) p, ps[k]? = some p → p.a.size ≤ 9223372036854775807) :
    Calls Try.prog 24 #[.slice A n c] w (KeptV (.bool B) w) := h ▸ specNames_any A n c ps w hl hr hn hs
theorem specFind_any (A : Option Addr) (n c : Nat) (ps : List Nm) (s : ByteArray) (w : World) (hl : ps.length = n) (hr : NRow w w.heap.size A ps) (hn : n ≤ 1048576) (hs : ∀ (k : Nat) p, ps[k]? = some p → p.a.size ≤ 9223372036854775807) :
    Calls Try.prog 27 #[.slice A n c, .string s] w (KeptV (.int .i64 (findV ps s)) w) := by
  have HR := Lib.hid (And.intro hl (And.intro hr hs))
  clear hl hr hs
  obtain ⟨B, hB⟩ : ∃ B, nmB ps = B := ⟨_, rfl⟩
  have HB := Lib.hid hB
  go_enter Try.func27, Try.ntmps27
  go_wp2
  go_loopw [5] (fun i wr => ∃ k : Nat, k ≤ n ∧ i = .int .i64 k ∧ (∀ (j : Nat) q, j < k → ps[j]? = some q → q.a.toList ≠ s.toList) ∧ w.grownBy wr none) (fun i _ => n - (intOf i).toNat)
  case atStart => exact ⟨0, Nat.zero_le _, rfl, fun j q hj => absurd hj (by omega), grown_refl _ _⟩
  case round =>
    rename World => wq
    obtain ⟨k, hk, rfl, hall, hg⟩ := hrel
    have HG := Lib.hid (And.intro hg hall)
    clear hg hall
    by_cases hlt : k < n
    · have hk0 : decide ((0 : Int) ≤ k) = true := decide_eq_true (by omega)
      have hk1 : (k : Int) < n := by omega
      go_wp2_with fail
      refine (specNames_val HB.out HR.out.1 (HR.out.2.1.keepN HG.out.1) hn HR.out.2.2).mono ?_
      rintro e w1 ⟨rfl, hkk⟩
      replace HG := Lib.hid (And.intro (grown_trans HG.out.1 hkk) HG.out.2)
      clear hkk
      cases B
      · go_wp2
        go_ret
        exact ⟨retI (by simp [findV, HB.out]), HG.out.1⟩
      · have hrow := HR.out.2.1.kept HG.out.1
        obtain ⟨g, off, rfl, hgB⟩ := hrow.pos (by have := HR.out.1; omega)
        obtain ⟨⟨a, b⟩, hp⟩ : ∃ p, ps[k]? = some p := ⟨_, List.getElem?_eq_getElem (by have := HR.out.1; omega)⟩
        obtain ⟨c0, c1⟩ := hrow.cellf hp
        dsimp only at c0 c1
        have HP := Lib.hid hp
        clear hp hrow
        cases he : (a.toList == s.toList)
        · go_wp2
          go_roundw
          case rel => exact ⟨k + 1, by omega, by go_num, fun j q hj hq => by
            rcases Nat.lt_or_ge j k with h | h
            · exact HG.out.2 j q h hq
            · obtain rfl : j = k := by omega
              have := HP.out
              rw [hq] at this
              injection this with this
              subst this
              simpa using he, HG.out.1⟩
          case measure => simp [intOf]; omega
        · have HE := Lib.hid (show a.toList = s.toList by simpa using he)
          go_wp2
          go_ret
          exact ⟨retI (by simp only [findV, HB.out, if_true]; exact (nmFind_at HP.out HE.out HG.out.2).symm), HG.out.1⟩
    · obtain rfl : k = n := by omega
      go_wp2
      go_ret
      refine ⟨retI ?_, HG.out.1⟩
      have h := nmFind_none (s := s) (ps := ps) fun j q hq => HG.out.2 j q (by have := (List.getElem?_eq_some_iff.1 hq).1; have := HR.out.1; omega) hq
      unfold findV
      rw [h]
      split <;> rfl
end Go.Proofs.Ytengcjglkcmkbaa
