/- What the functions of chapter 1 answer, of the program and of the model, for every number. -/
import Derived.Test.YtengcjglkcmkbaaRows
import Derived.Test.YtengcjglkcmkbaaPlain
import Derived.WalkKit
import Derived.ProofKit
import Derived.Lib.Hide
namespace Go.Proofs.Ytengcjglkcmkbaa
open Go.ChangeShapes Go.WideShapes Go.ChangeAt Go.RowKit

theorem retI {a b : Int} (h : a = b) : Ending.returned (.int .i64 a) = .returned (.int .i64 b) := by rw [h]
theorem retB {a b : Bool} (h : a = b) : Ending.returned (.bool a) = .returned (.bool b) := by rw [h]

theorem wrapPow (k : Nat) (hk : k ≤ 15) : wrap64 (2 ^ k) = 2 ^ k := by
  have := pow_bd k hk
  have e : ((2 : Int) ^ k) = ((2 ^ k : Nat) : Int) := by simp
  exact IntWalk.wrap64_in _ ⟨by omega, by omega⟩

theorem pow_any (k : Nat) (h1 : k ≤ 15) (w : World) :
    Calls Try.prog 61 #[.int .i64 k] w fun e w' => e = .returned (.int .i64 (2 ^ k)) ∧ w = w' := by
  go_enter Try.func61, Try.ntmps61
  go_wp2
  go_ret
  exact ⟨retI (wrapPow k h1), rfl⟩

theorem isSet_any (n : Int) (w : World) :
    Calls Try.prog 57 #[.int .i64 n] w fun e w' => e = .returned (.bool (setB n)) ∧ w = w' := by
  go_enter Try.func57, Try.ntmps57
  go_wp2
  all_goals (go_ret; refine ⟨retB ?_, rfl⟩; simp [setB]; try omega)
theorem isNum_any (n : Int) (w : World) :
    Calls Try.prog 60 #[.int .i64 n] w fun e w' => e = .returned (.bool (numB n)) ∧ w = w' := by
  go_enter Try.func60, Try.ntmps60
  go_wp2
  all_goals (go_ret; refine ⟨retB ?_, rfl⟩; rw [Bool.eq_iff_iff]; simp [numB]; omega)
def inB (n lo hi : Int) : Bool := decide (lo ≤ n) && decide (n ≤ hi)
theorem in_any (n lo hi : Int) (w : World) :
    Calls Try.prog 45 #[.int .i64 n, .int .i64 lo, .int .i64 hi] w fun e w' => e = .returned (.bool (inB n lo hi)) ∧ w = w' := by
  go_enter Try.func45, Try.ntmps45
  go_wp2
  all_goals (go_ret; refine ⟨retB ?_, rfl⟩; simp [inB]; try omega)
theorem inSet (n : Int) : inB n 0 65535 = setB n := rfl
theorem inNum (n : Int) : inB n 0 15 = numB n := rfl
theorem inSet_any (n : Int) (w : World) :
    Calls Try.prog 45 #[.int .i64 n, .int .i64 0, .int .i64 65535] w fun e w' => e = .returned (.bool (setB n)) ∧ w = w' := in_any n 0 65535 w
theorem inNum_any (n : Int) (w : World) :
    Calls Try.prog 45 #[.int .i64 n, .int .i64 0, .int .i64 15] w fun e w' => e = .returned (.bool (numB n)) ∧ w = w' := in_any n 0 15 w

theorem has_any (s n : Int) (w : World) :
    Calls Try.prog 58 #[.int .i64 s, .int .i64 n] w fun e w' => e = .returned (.bool (hasV s n)) ∧ w = w' := by
  cases hs : setB s
  · have h1 := hs
    go_enter Try.func58, Try.ntmps58
    go_wp2_with (first | (go_at_call 57; refine (isSet_any _ _).mono ?_; rintro e w' ⟨rfl, rfl⟩) | (go_at_call 60; refine (isNum_any _ _).mono ?_; rintro e w' ⟨rfl, rfl⟩))
    all_goals (go_ret; exact ⟨retB (by simp [hasV, hs]), rfl⟩)
  · cases hn : numB n
    · go_enter Try.func58, Try.ntmps58
      go_wp2_with (first | (go_at_call 57; refine (isSet_any _ _).mono ?_; rintro e w' ⟨rfl, rfl⟩) | (go_at_call 60; refine (isNum_any _ _).mono ?_; rintro e w' ⟨rfl, rfl⟩))
      all_goals (go_ret; exact ⟨retB (by simp [hasV, hn]), rfl⟩)
    · obtain ⟨a1, a2⟩ := setB_iff.1 hs
      obtain ⟨b1, b2⟩ := numB_iff.1 hn
      obtain ⟨S, rfl⟩ := Int.eq_ofNat_of_zero_le a1
      obtain ⟨k, rfl⟩ := Int.eq_ofNat_of_zero_le b1
      have hk : k ≤ 15 := by omega
      have hS : S ≤ 65535 := by omega
      go_enter Try.func58, Try.ntmps58
      go_wp2_with (first | (go_at_call 57; refine (isSet_any _ _).mono ?_; rintro e w' ⟨rfl, rfl⟩) | (go_at_call 60; refine (isNum_any _ _).mono ?_; rintro e w' ⟨rfl, rfl⟩) | (go_at_call 61; refine (pow_any _ hk _).mono ?_; rintro e w' ⟨rfl, rfl⟩))
      go_ret
      refine ⟨retB ?_, rfl⟩
      rw [hasV_nat S k hS hk]
      exact hasV_and S k hS hk

theorem cnt_yes {s : Int} {k : Nat} (h : hasV s k = true) : cnt s (k + 1) = cnt s k + 1 := by simp [cnt, h]
theorem cnt_no {s : Int} {k : Nat} (h : hasV s k = false) : cnt s (k + 1) = cnt s k := by simp [cnt, h]

theorem count_any (s : Int) (w : World) :
    Calls Try.prog 46 #[.int .i64 s] w fun e w' => e = .returned (.int .i64 (countV s)) ∧ w = w' := by
  cases hs : setB s
  · go_enter Try.func46, Try.ntmps46
    go_wp2_with (go_at_call 57; refine (isSet_any _ _).mono ?_; rintro e w' ⟨rfl, rfl⟩)
    go_ret
    exact ⟨retI (by simp [countV, hs]), rfl⟩
  · go_enter Try.func46, Try.ntmps46
    go_wp2_with (go_at_call 57; refine (isSet_any _ _).mono ?_; rintro e w' ⟨rfl, rfl⟩)
    go_loop [3, 4] (fun c i => ∃ k : Nat, k ≤ 16 ∧ i = .int .i64 k ∧ c = .int .i64 (cnt s k)) (fun _ i => 16 - (intOf i).toNat)
    case atStart => exact ⟨0, Nat.zero_le _, rfl, rfl⟩
    case round =>
      obtain ⟨k, hk, rfl, rfl⟩ := hrel
      have hc := cnt_le s k
      by_cases hlt : k < 16
      · cases hb : hasV s k
        · have HB := Lib.hid (cnt_no hb)
          go_wp2_with (go_at_call 58; refine (has_any _ _ _).mono ?_; rintro e w' ⟨rfl, rfl⟩)
          go_round
          case rel => exact ⟨k + 1, by omega, by go_num, by rw [HB.out]⟩
          case measure => simp [intOf]; omega
        · have HB := Lib.hid (cnt_yes hb)
          go_wp2_with (go_at_call 58; refine (has_any _ _ _).mono ?_; rintro e w' ⟨rfl, rfl⟩)
          go_round
          case rel => exact ⟨k + 1, by omega, by go_num, by rw [HB.out]; go_num⟩
          case measure => simp [intOf]; omega
      · have HK := Lib.hid (show k = 16 by omega)
        go_wp2
        go_ret
        exact ⟨retI (by rw [HK.out]; simp [countV, hs]), rfl⟩

theorem alive_any (w : World) : Calls Try.prog 18 #[] w fun e w' => e = .returned (.bool true) ∧ w = w' := by
  have h1 : countV 10 = 2 := by decide
  have h2 : countV (-1) = -1 := by decide
  go_enter Try.func18, Try.ntmps18
  go_wp2_with (go_at_call 46; refine (count_any _ _).mono ?_; rintro e w' ⟨rfl, rfl⟩)
  go_ret
  exact ⟨rfl, rfl⟩
theorem put_has {s n : Int} (hs : setB s = true) (hn : numB n = true) : hasV (putV s n true) n = true ∧ hasV (putV s n false) n = false ∧ 0 ≤ putV s n true := by
  obtain ⟨a1, a2⟩ := setB_iff.1 hs
  obtain ⟨b1, b2⟩ := numB_iff.1 hn
  obtain ⟨S, rfl⟩ := Int.eq_ofNat_of_zero_le a1
  obtain ⟨k, rfl⟩ := Int.eq_ofNat_of_zero_le b1
  have hS : S ≤ 65535 := by omega
  have hk : k ≤ 15 := by omega
  rw [putV_nat S k _ hS hk, putV_nat S k _ hS hk, hasV_nat _ k (putN_le S k _ hS hk) hk, hasV_nat _ k (putN_le S k _ hS hk) hk, put_test S k k _ hk hk, put_test S k k _ hk hk]
  simp
theorem put_other {s n : Int} {has : Bool} (hs : setB s = true) (hn : numB n = true) (j : Nat) (hj : j ≤ 15) : hasV (putV s n has) j = if (j : Int) = n then has else hasV s j := by
  obtain ⟨a1, a2⟩ := setB_iff.1 hs
  obtain ⟨b1, b2⟩ := numB_iff.1 hn
  obtain ⟨S, rfl⟩ := Int.eq_ofNat_of_zero_le a1
  obtain ⟨k, rfl⟩ := Int.eq_ofNat_of_zero_le b1
  have hS : S ≤ 65535 := by omega
  have hk : k ≤ 15 := by omega
  rw [putV_nat S k _ hS hk, hasV_nat _ j (putN_le S k _ hS hk) hj, put_test S k j _ hk hj, hasV_nat S j hS hj]
  by_cases e : j = k
  · subst e; simp
  · have e' : ¬ (j : Int) = (k : Int) := by omega
    simp [e, e']
theorem put_range {s n : Int} {has : Bool} (hs : setB s = true) (hn : numB n = true) : 0 ≤ putV s n has ∧ putV s n has ≤ 65535 := by
  obtain ⟨a1, a2⟩ := setB_iff.1 hs
  obtain ⟨b1, b2⟩ := numB_iff.1 hn
  obtain ⟨S, rfl⟩ := Int.eq_ofNat_of_zero_le a1
  obtain ⟨k, rfl⟩ := Int.eq_ofNat_of_zero_le b1
  have hS : S ≤ 65535 := by omega
  have hk : k ≤ 15 := by omega
  rw [putV_nat S k _ hS hk]
  have := putN_le S k has hS hk
  omega
theorem put_twice {s n : Int} {has : Bool} (hs : setB s = true) (hn : numB n = true) : putV (putV s n has) n has = putV s n has := by
  obtain ⟨a1, a2⟩ := setB_iff.1 hs
  obtain ⟨b1, b2⟩ := numB_iff.1 hn
  obtain ⟨S, rfl⟩ := Int.eq_ofNat_of_zero_le a1
  obtain ⟨k, rfl⟩ := Int.eq_ofNat_of_zero_le b1
  have hS : S ≤ 65535 := by omega
  have hk : k ≤ 15 := by omega
  have hp := putN_le S k has hS hk
  rw [putV_nat S k _ hS hk, putV_nat _ k _ hp hk]
  congr 1
  apply Nat.eq_of_testBit_eq
  intro j
  by_cases hj : j ≤ 15
  · rw [put_test _ k j _ hk hj, put_test S k j _ hk hj]
    split <;> rfl
  · rw [high_bits _ j (putN_le _ k _ hp hk) (by omega), high_bits _ j hp (by omega)]
theorem cnt_zero {s : Int} (k : Nat) (h : ∀ j, j < k → hasV s (j : Nat) = false) : cnt s k = 0 := by
  induction k with
  | zero => rfl
  | succ k ih => simp [cnt, ih (fun j hj => h j (by omega)), h k (by omega)]
theorem count_none {s : Int} (h : ∀ j, j < 16 → hasV s (j : Nat) = false) : countV s ≤ 0 := by
  unfold countV
  rw [cnt_zero 16 h]
  split <;> omega
end Go.Proofs.Ytengcjglkcmkbaa
