/- What chapter 15's functions answer: the program's and the model's. -/
import Derived.Test.YtofolifmgpgkoaaHeatPlain
import Derived.Test.YtofolifmgpgkoaaLawFiles
import Derived.BigQuiet
namespace Go.Proofs.Ytofolifmgpgkoaa
open Go.ChangeShapes Go.WideShapes Go.ChangeAt Go.RowKit
set_option linter.unusedVariables false

theorem isHeat_any (h : Int) (w : World) : Calls Try.prog 28 #[.int .i64 h] w fun e w' => e = .returned (.bool (heatB h)) ∧ w = w' := by
  go_enter Try.func28, Try.ntmps28
  go_wp2
  all_goals (go_ret; refine ⟨retB ?_, rfl⟩; rw [Bool.eq_iff_iff]; simp [heatB]; try omega)
theorem isHeat_val {h : Int} {V : Bool} (hV : heatB h = V) (w : World) : Calls Try.prog 28 #[.int .i64 h] w fun e w' => e = .returned (.bool V) ∧ w = w' := hV ▸ isHeat_any h w
theorem inHeat (h : Int) : inB h 0 1000 = heatB h := rfl
theorem inRnd (h : Int) : inB h 0 100 = rndB h := rfl

theorem step_any (h n : Int) (w : World) : Calls Try.prog 12 #[.int .i64 h, .int .i64 n] w fun e w' => e = .returned (.int .i64 (stepV h n)) ∧ w = w' := by
  cases hh : heatB h
  · have HH := Lib.hid hh
    clear hh
    go_enter Try.func12, Try.ntmps12
    go_wp2_with (go_at_call 28; refine (isHeat_val HH.out _).mono ?_; rintro e w' ⟨rfl, rfl⟩)
    go_ret
    exact ⟨retI (step_no (.inl HH.out)).symm, rfl⟩
  · have HH := Lib.hid hh
    obtain ⟨a0, a1⟩ := heatB_iff.1 hh
    obtain ⟨H, rfl⟩ := Int.eq_ofNat_of_zero_le a0
    clear hh
    cases hn : rndB n
    · have HN := Lib.hid hn
      rcases rndB_no hn with h1 | h1
      · have t1 : decide (n < 0) = true := decide_eq_true h1
        clear hn
        go_enter Try.func12, Try.ntmps12
        go_wp2_with (go_at_call 28; refine (isHeat_val HH.out _).mono ?_; rintro e w' ⟨rfl, rfl⟩)
        go_ret
        exact ⟨retI (step_no (.inr HN.out)).symm, rfl⟩
      · have t1 : decide (n < 0) = false := decide_eq_false (by omega)
        have t2 : decide (100 < n) = true := decide_eq_true h1
        clear hn
        go_enter Try.func12, Try.ntmps12
        go_wp2_with (go_at_call 28; refine (isHeat_val HH.out _).mono ?_; rintro e w' ⟨rfl, rfl⟩)
        go_ret
        exact ⟨retI (step_no (.inr HN.out)).symm, rfl⟩
    · have HN := Lib.hid hn
      obtain ⟨b0, b1⟩ := rndB_iff.1 hn
      obtain ⟨K, rfl⟩ := Int.eq_ofNat_of_zero_le b0
      clear hn
      rcases Int.lt_or_le 1000 ((H : Int) / 2 + 10 * (K : Int)) with hb | hb
      · have HB := Lib.hid hb
        go_enter Try.func12, Try.ntmps12
        go_wp2_with (go_at_call 28; refine (isHeat_val HH.out _).mono ?_; rintro e w' ⟨rfl, rfl⟩)
        go_ret
        exact ⟨retI (step_top HH.out HN.out HB.out).symm, rfl⟩
      · have HB := Lib.hid hb
        go_enter Try.func12, Try.ntmps12
        go_wp2_with (go_at_call 28; refine (isHeat_val HH.out _).mono ?_; rintro e w' ⟨rfl, rfl⟩)
        go_ret
        exact ⟨retI (step_in HH.out HN.out HB.out).symm, rfl⟩
theorem specStep_any (h n : Int) (w : World) : Calls Try.prog 13 #[.int .i64 h, .int .i64 n] w fun e w' => e = .returned (.int .i64 (stepV h n)) ∧ w = w' := by
  cases hh : heatB h
  · have HH := Lib.hid hh
    clear hh
    go_enter Try.func13, Try.ntmps13
    go_wp2_with (go_at_call 29; refine (in_val HH.out _).mono ?_; rintro e w' ⟨rfl, rfl⟩)
    go_ret
    exact ⟨retI (step_no (.inl HH.out)).symm, rfl⟩
  · have HH := Lib.hid hh
    obtain ⟨a0, a1⟩ := heatB_iff.1 hh
    obtain ⟨H, rfl⟩ := Int.eq_ofNat_of_zero_le a0
    clear hh
    cases hn : rndB n
    · have HN := Lib.hid hn
      have i1 : inB (H : Int) 0 1000 = true := HH.out
      have i2 : inB n 0 100 = false := HN.out
      clear hn
      go_enter Try.func13, Try.ntmps13
      go_wp2_with (go_at_call 29; refine (in_any _ _ _ _).mono ?_; rintro e w' ⟨rfl, rfl⟩)
      go_ret
      exact ⟨retI (step_no (.inr HN.out)).symm, rfl⟩
    · have HN := Lib.hid hn
      obtain ⟨b0, b1⟩ := rndB_iff.1 hn
      obtain ⟨K, rfl⟩ := Int.eq_ofNat_of_zero_le b0
      clear hn
      rcases Int.lt_or_le ((H : Int) / 2 + 10 * (K : Int)) 1000 with hb | hb
      · have HB := Lib.hid hb
        have i1 : inB (H : Int) 0 1000 = true := HH.out
        have i2 : inB (K : Int) 0 100 = true := HN.out
        go_enter Try.func13, Try.ntmps13
        go_wp2_with (go_at_call 29; refine (in_any _ _ _ _).mono ?_; rintro e w' ⟨rfl, rfl⟩)
        go_ret
        refine ⟨retI ?_, rfl⟩
        rw [step_in HH.out HN.out (Int.le_of_lt HB.out)]
      · have HB := Lib.hid hb
        have i1 : inB (H : Int) 0 1000 = true := HH.out
        have i2 : inB (K : Int) 0 100 = true := HN.out
        go_enter Try.func13, Try.ntmps13
        go_wp2_with (go_at_call 29; refine (in_any _ _ _ _).mono ?_; rintro e w' ⟨rfl, rfl⟩)
        go_ret
        refine ⟨retI ?_, rfl⟩
        rw [step_topE HH.out HN.out HB.out]
theorem stepI_val {h n V : Int} (hV : stepV h n = V) (w : World) : Calls Try.prog 12 #[.int .i64 h, .int .i64 n] w fun e w' => e = .returned (.int .i64 V) ∧ w = w' := hV ▸ step_any h n w
theorem specStep_val {h n V : Int} (hV : stepV h n = V) (w : World) : Calls Try.prog 13 #[.int .i64 h, .int .i64 n] w fun e w' => e = .returned (.int .i64 V) ∧ w = w' := hV ▸ specStep_any h n w

theorem kind_any (h : Int) (w : World) : Calls Try.prog 16 #[.int .i64 h] w fun e w' => e = .returned (.int .i64 (kindV h)) ∧ w = w' := by
  cases hh : heatB h
  · have HH := Lib.hid hh
    clear hh
    go_enter Try.func16, Try.ntmps16
    go_wp2_with (go_at_call 28; refine (isHeat_val HH.out _).mono ?_; rintro e w' ⟨rfl, rfl⟩)
    go_ret
    exact ⟨retI (kind_no HH.out).symm, rfl⟩
  · have HH := Lib.hid hh
    clear hh
    by_cases h1 : 100 ≤ h
    · have t1 : decide (100 ≤ h) = true := decide_eq_true h1
      go_enter Try.func16, Try.ntmps16
      go_wp2_with (go_at_call 28; refine (isHeat_val HH.out _).mono ?_; rintro e w' ⟨rfl, rfl⟩)
      go_ret
      exact ⟨retI (kind_hot HH.out h1).symm, rfl⟩
    · have t1 : decide (100 ≤ h) = false := decide_eq_false h1
      by_cases h2 : 10 ≤ h
      · have t2 : decide (10 ≤ h) = true := decide_eq_true h2
        go_enter Try.func16, Try.ntmps16
        go_wp2_with (go_at_call 28; refine (isHeat_val HH.out _).mono ?_; rintro e w' ⟨rfl, rfl⟩)
        go_ret
        exact ⟨retI (kind_warm HH.out (by omega) h2).symm, rfl⟩
      · have t2 : decide (10 ≤ h) = false := decide_eq_false h2
        go_enter Try.func16, Try.ntmps16
        go_wp2_with (go_at_call 28; refine (isHeat_val HH.out _).mono ?_; rintro e w' ⟨rfl, rfl⟩)
        go_ret
        exact ⟨retI (kind_cold HH.out (by omega)).symm, rfl⟩
theorem specKind_any (h : Int) (w : World) : Calls Try.prog 17 #[.int .i64 h] w fun e w' => e = .returned (.int .i64 (kindV h)) ∧ w = w' := by
  cases hh : heatB h
  · have HH := Lib.hid hh
    clear hh
    go_enter Try.func17, Try.ntmps17
    go_wp2_with (go_at_call 29; refine (in_val HH.out _).mono ?_; rintro e w' ⟨rfl, rfl⟩)
    go_ret
    exact ⟨retI (kind_no HH.out).symm, rfl⟩
  · have HH := Lib.hid hh
    clear hh
    by_cases h1 : 100 ≤ h
    · have t1 : decide (100 ≤ h) = true := decide_eq_true h1
      go_enter Try.func17, Try.ntmps17
      go_wp2_with (go_at_call 29; refine (in_val HH.out _).mono ?_; rintro e w' ⟨rfl, rfl⟩)
      go_ret
      exact ⟨retI (kind_hot HH.out h1).symm, rfl⟩
    · have t1 : decide (100 ≤ h) = false := decide_eq_false h1
      by_cases h2 : 10 ≤ h
      · have t2 : decide (10 ≤ h) = true := decide_eq_true h2
        go_enter Try.func17, Try.ntmps17
        go_wp2_with (go_at_call 29; refine (in_val HH.out _).mono ?_; rintro e w' ⟨rfl, rfl⟩)
        go_ret
        exact ⟨retI (kind_warm HH.out (by omega) h2).symm, rfl⟩
      · have t2 : decide (10 ≤ h) = false := decide_eq_false h2
        go_enter Try.func17, Try.ntmps17
        go_wp2_with (go_at_call 29; refine (in_val HH.out _).mono ?_; rintro e w' ⟨rfl, rfl⟩)
        go_ret
        exact ⟨retI (kind_cold HH.out (by omega)).symm, rfl⟩
theorem kind_val {h V : Int} (hV : kindV h = V) (w : World) : Calls Try.prog 16 #[.int .i64 h] w fun e w' => e = .returned (.int .i64 V) ∧ w = w' := hV ▸ kind_any h w
theorem specKind_val {h V : Int} (hV : kindV h = V) (w : World) : Calls Try.prog 17 #[.int .i64 h] w fun e w' => e = .returned (.int .i64 V) ∧ w = w' := hV ▸ specKind_any h w

/-- The program's HeatRun only reads. -/
theorem heatRun_same (A : Option Addr) (n c : Nat) (xs : List Int) (w : World) (hl : xs.length = n) (hr : IRow w w.heap.size A xs) (hn : n ≤ 1048576) :
    Calls Try.prog 19 #[.slice A n c] w fun e w' => e = .returned (.int .i64 (runV xs)) ∧ w' = w := by
  by_cases h4 : 40 < n
  · have HB := Lib.hid (run_long (xs := xs) (by omega))
    have t1 : decide ((40 : Int) < (n : Int)) = true := decide_eq_true (by omega)
    clear hl hr
    go_enter Try.func19, Try.ntmps19
    go_wp2
    go_ret
    exact ⟨retI HB.out.symm, by trivial⟩
  · have HR := Lib.hid (And.intro hl hr)
    have t1 : decide ((40 : Int) < (n : Int)) = false := decide_eq_false (by omega)
    clear hl hr
    go_enter Try.func19, Try.ntmps19
    go_wp2
    go_loopw [3, 5, 11] (fun v y i wr => ∃ k : Nat, i = .int .i64 k ∧ k ≤ n ∧ v = .int .i64 (heatTo (xs.take k)) ∧ wr = w) (fun v y i _ => n - (intOf i).toNat)
    case atStart => exact ⟨0, rfl, Nat.zero_le _, rfl, by trivial⟩
    case round =>
      obtain ⟨k, rfl, hk, rfl, rfl⟩ := hrel
      by_cases hlt : k < n
      · have hk8 : (k : Int) < n := by omega
        have hk0 : decide ((0 : Int) ≤ k) = true := decide_eq_true (by omega)
        obtain ⟨g, off, rfl⟩ := HR.out.2.pos (by have := HR.out.1; omega)
        obtain ⟨x, hx⟩ : ∃ x, xs[k]? = some x := ⟨_, List.getElem?_eq_getElem (by have := HR.out.1; omega)⟩
        have c0 := IRow.cellf HR.out.2 hx
        have HX := Lib.hid (heat_take hx)
        clear hx
        generalize heatTo (xs.take k) = v at HX
        go_wp2_with (go_at_call 12; refine (step_any _ _ _).mono ?_; rintro e w' ⟨rfl, rfl⟩)
        go_roundw
        case rel => exact ⟨k + 1, by go_num, by omega, by rw [HX.out], by trivial⟩
        case measure => simp [intOf]; omega
      · obtain rfl : k = n := by omega
        have HE : RowKit.Hid (heatTo (xs.take k) = runV xs) := Lib.hid (by rw [List.take_of_length_le (by have := HR.out.1; omega), run_yes (by have := HR.out.1; omega)])
        go_wp2
        go_ret
        exact ⟨retI HE.out, by trivial⟩
theorem heatRun_any (A : Option Addr) (n c : Nat) (xs : List Int) (w : World) (hl : xs.length = n) (hr : IRow w w.heap.size A xs) (hn : n ≤ 1048576) :
    Calls Try.prog 19 #[.slice A n c] w (KeptV (.int .i64 (runV xs)) w) := (heatRun_same A n c xs w hl hr hn).mono fun _ _ ⟨he, hw⟩ => ⟨he, by rw [hw]; exact grown_refl _ _⟩
theorem heatRun_sameV {A : Option Addr} {n c : Nat} {xs : List Int} {w : World} {V : Int} (hV : runV xs = V) (hl : xs.length = n) (hr : IRow w w.heap.size A xs) (hn : n ≤ 1048576) :
    Calls Try.prog 19 #[.slice A n c] w fun e w' => e = .returned (.int .i64 V) ∧ w' = w := hV ▸ heatRun_same A n c xs w hl hr hn
theorem step_same {h n V : Int} (hV : stepV h n = V) (w : World) : Calls Try.prog 12 #[.int .i64 h, .int .i64 n] w fun e w' => e = .returned (.int .i64 V) ∧ w' = w := (stepI_val hV w).mono fun _ _ ⟨he, hw⟩ => ⟨he, hw.symm⟩
theorem heatRun_val {A : Option Addr} {n c : Nat} {xs : List Int} {w : World} {V : Int} (hV : runV xs = V) (hl : xs.length = n) (hr : IRow w w.heap.size A xs) (hn : n ≤ 1048576) :
    Calls Try.prog 19 #[.slice A n c] w (KeptV (.int .i64 V) w) := hV ▸ heatRun_any A n c xs w hl hr hn
theorem specRun_any (A : Option Addr) (n c : Nat) (xs : List Int) (w : World) (hl : xs.length = n) (hr : IRow w w.heap.size A xs) (hn : n ≤ 1048576) :
    Calls Try.prog 20 #[.slice A n c] w (KeptV (.int .i64 (runV xs)) w) := by
  have HR := Lib.hid (And.intro hl hr)
  clear hl hr
  go_enter Try.func20, Try.ntmps20
  go_wp2
  go_loopw [3, 4] (fun v i wr => ∃ k : Nat, i = .int .i64 k ∧ k ≤ n ∧ (n ≤ 40 ∨ k = 0) ∧ v = .int .i64 (heatTo (xs.take k)) ∧ w.grownBy wr none) (fun v i _ => n - (intOf i).toNat)
  case atStart => exact ⟨0, rfl, Nat.zero_le _, .inr rfl, rfl, grown_refl _ _⟩
  case round =>
    obtain ⟨k, rfl, hk, hz, rfl, hg⟩ := hrel
    by_cases hlt : k < n
    · have hk8 : (k : Int) < n := by omega
      have hk0 : decide ((0 : Int) ≤ k) = true := decide_eq_true (by omega)
      obtain ⟨g, off, rfl⟩ := HR.out.2.pos (by have := HR.out.1; omega)
      obtain ⟨x, hx⟩ : ∃ x, xs[k]? = some x := ⟨_, List.getElem?_eq_getElem (by have := HR.out.1; omega)⟩
      have c0 := IRow.cellf (VRow.kept HR.out.2 hg) hx
      have hb := heat_range (xs.take (k + 1))
      obtain ⟨V, hV⟩ : ∃ V, heatTo (xs.take (k + 1)) = V := ⟨_, rfl⟩
      rw [hV] at hb
      have HX := Lib.hid (And.intro hg (And.intro hV ((heat_take hx).symm.trans hV)))
      clear hg hx hz
      generalize heatTo (xs.take k) = v at HX
      by_cases h0 : V < 0
      · have t0 : decide (V < 0) = true := decide_eq_true h0
        have HE : RowKit.Hid (runV xs = -1) := Lib.hid (by
          have h1 : heatTo (xs.take (k + 1)) = -1 := by rw [HX.out.2.1]; omega
          have h2 := heat_bad xs (k + 1) h1
          unfold runV
          split
          · rfl
          · exact h2)
        clear h0 hb hV
        go_wp2_with (go_at_call 13; refine (specStep_val HX.out.2.2 _).mono ?_; rintro e w' ⟨rfl, rfl⟩)
        go_ret
        exact ⟨retI HE.out.symm, HX.out.1⟩
      · have t0 : decide (V < 0) = false := decide_eq_false h0
        clear h0 hb hV
        by_cases h40 : 40 < n
        · have HE : RowKit.Hid (runV xs = -1) := Lib.hid (run_long (by have := HR.out.1; omega))
          have t1 : decide ((40 : Int) < (n : Int)) = true := decide_eq_true (by omega)
          go_wp2_with (go_at_call 13; refine (specStep_val HX.out.2.2 _).mono ?_; rintro e w' ⟨rfl, rfl⟩)
          go_ret
          exact ⟨retI HE.out.symm, HX.out.1⟩
        · have t1 : decide ((40 : Int) < (n : Int)) = false := decide_eq_false (by omega)
          go_wp2_with (go_at_call 13; refine (specStep_val HX.out.2.2 _).mono ?_; rintro e w' ⟨rfl, rfl⟩)
          go_roundw
          case rel => exact ⟨k + 1, by go_num, by omega, .inl (by omega), by rw [HX.out.2.1], HX.out.1⟩
          case measure => simp [intOf]; omega
    · obtain rfl : k = n := by omega
      have HE : RowKit.Hid (heatTo (xs.take k) = runV xs) := Lib.hid (by
        have h1 := HR.out.1
        rw [List.take_of_length_le (by omega), run_yes (by omega)])
      have HG := Lib.hid hg
      clear hg hz
      go_wp2
      go_ret
      exact ⟨retI HE.out, HG.out⟩
theorem specRun_val {A : Option Addr} {n c : Nat} {xs : List Int} {w : World} {V : Int} (hV : runV xs = V) (hl : xs.length = n) (hr : IRow w w.heap.size A xs) (hn : n ≤ 1048576) :
    Calls Try.prog 20 #[.slice A n c] w (KeptV (.int .i64 V) w) := hV ▸ specRun_any A n c xs w hl hr hn

theorem cools_any (h : Int) (w : World) : Calls Try.prog 22 #[.int .i64 h] w fun e w' => e = .returned (.int .i64 (coolV h)) ∧ w = w' := by
  cases hh : heatB h
  · have HH := Lib.hid hh
    clear hh
    go_enter Try.func22, Try.ntmps22
    go_wp2_with (go_at_call 28; refine (isHeat_val HH.out _).mono ?_; rintro e w' ⟨rfl, rfl⟩)
    go_ret
    exact ⟨retI (cool_no HH.out).symm, rfl⟩
  · have HH := Lib.hid hh
    obtain ⟨a0, a1⟩ := heatB_iff.1 hh
    obtain ⟨H, rfl⟩ := Int.eq_ofNat_of_zero_le a0
    have HM := Lib.hid (show H ≤ 1000 by omega)
    clear hh a0 a1
    go_enter Try.func22, Try.ntmps22
    go_wp2_with (go_at_call 28; refine (isHeat_val HH.out _).mono ?_; rintro e w' ⟨rfl, rfl⟩)
    go_loop [0, 3] (fun t c => ∃ k m : Nat, CoolSt H k m ∧ t = .int .i64 m ∧ c = .int .i64 k) (fun t _ => (intOf t).toNat)
    case atStart => exact ⟨0, H, CoolSt.start HM.out, rfl, rfl⟩
    case round =>
      obtain ⟨k, m, hc, rfl, rfl⟩ := hrel
      have hk := hc.1
      have hm := hc.le
      have e : heatB (m : Int) = true := heatB_iff.2 ⟨by omega, by omega⟩
      by_cases h1 : 10 ≤ m
      · obtain ⟨V, hV⟩ : ∃ V, kindV (m : Int) = V := ⟨_, rfl⟩
        have t1 : (V != 2) = true := by rw [← hV]; exact kind_not e (by omega)
        have HV := Lib.hid (And.intro hV (And.intro (step_zero hm) (hc.step h1)))
        clear hV hc e
        go_wp2_with (first | (go_at_call 16; refine (kind_val HV.out.1 _).mono ?_; rintro e w' ⟨rfl, rfl⟩) | (go_at_call 12; refine (stepI_val HV.out.2.1 _).mono ?_; rintro e w' ⟨rfl, rfl⟩))
        go_round
        case rel => exact ⟨k + 1, m / 2, HV.out.2.2, by go_num, by go_num⟩
        case measure => simp [intOf]; omega
      · have HV := Lib.hid (And.intro (kind_cold e (by omega)) (hc.done (by omega)))
        clear hc e
        go_wp2_with (go_at_call 16; refine (kind_val HV.out.1 _).mono ?_; rintro e w' ⟨rfl, rfl⟩)
        go_ret
        exact ⟨retI (by rw [cool_yes HM.out, HV.out.2]), rfl⟩
theorem specCools_any (h : Int) (w : World) : Calls Try.prog 23 #[.int .i64 h] w fun e w' => e = .returned (.int .i64 (coolV h)) ∧ w = w' := by
  cases hh : heatB h
  · have HH := Lib.hid hh
    clear hh
    go_enter Try.func23, Try.ntmps23
    go_wp2_with (go_at_call 29; refine (in_val HH.out _).mono ?_; rintro e w' ⟨rfl, rfl⟩)
    go_ret
    exact ⟨retI (cool_no HH.out).symm, rfl⟩
  · have HH := Lib.hid hh
    obtain ⟨a0, a1⟩ := heatB_iff.1 hh
    obtain ⟨H, rfl⟩ := Int.eq_ofNat_of_zero_le a0
    have HM := Lib.hid (show H ≤ 1000 by omega)
    clear hh a0 a1
    go_enter Try.func23, Try.ntmps23
    go_wp2_with (go_at_call 29; refine (in_val HH.out _).mono ?_; rintro e w' ⟨rfl, rfl⟩)
    go_loop [0, 3] (fun t c => ∃ k m : Nat, CoolSt H k m ∧ t = .int .i64 m ∧ c = .int .i64 k) (fun t _ => (intOf t).toNat)
    case atStart => exact ⟨0, H, CoolSt.start HM.out, rfl, rfl⟩
    case round =>
      obtain ⟨k, m, hc, rfl, rfl⟩ := hrel
      have hk := hc.1
      have hm := hc.le
      have e : heatB (m : Int) = true := heatB_iff.2 ⟨by omega, by omega⟩
      by_cases h1 : 10 ≤ m
      · obtain ⟨V, hV⟩ : ∃ V, kindV (m : Int) = V := ⟨_, rfl⟩
        have t1 : (V != 2) = true := by rw [← hV]; exact kind_not e (by omega)
        have HV := Lib.hid (And.intro hV (And.intro (step_zero hm) (hc.step h1)))
        clear hV hc e
        go_wp2_with (first | (go_at_call 17; refine (specKind_val HV.out.1 _).mono ?_; rintro e w' ⟨rfl, rfl⟩) | (go_at_call 13; refine (specStep_val HV.out.2.1 _).mono ?_; rintro e w' ⟨rfl, rfl⟩))
        go_round
        case rel => exact ⟨k + 1, m / 2, HV.out.2.2, by go_num, by go_num⟩
        case measure => simp [intOf]; omega
      · have HV := Lib.hid (And.intro (kind_cold e (by omega)) (hc.done (by omega)))
        clear hc e
        go_wp2_with (go_at_call 17; refine (specKind_val HV.out.1 _).mono ?_; rintro e w' ⟨rfl, rfl⟩)
        go_ret
        exact ⟨retI (by rw [cool_yes HM.out, HV.out.2]), rfl⟩
theorem cools_val {h V : Int} (hV : coolV h = V) (w : World) : Calls Try.prog 22 #[.int .i64 h] w fun e w' => e = .returned (.int .i64 V) ∧ w = w' := hV ▸ cools_any h w
theorem specCools_val {h V : Int} (hV : coolV h = V) (w : World) : Calls Try.prog 23 #[.int .i64 h] w fun e w' => e = .returned (.int .i64 V) ∧ w = w' := hV ▸ specCools_any h w
end Go.Proofs.Ytofolifmgpgkoaa
