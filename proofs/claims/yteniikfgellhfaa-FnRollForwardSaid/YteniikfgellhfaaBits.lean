/- Plain facts about sets of numbers in 0..15, kept as the bits of a number; nothing here speaks of the program.
   What the functions of chapter 1 answer, of the program and of the model, for every number. -/
import Derived.Test.YteniikfgellhfaaRows
import Derived.Laws.BitsAllLaws
import Derived.Laws.BitsLemmas
import Derived.RowKit
import Derived.WalkKit
import Derived.ProofKit
import Derived.Lib.Hide
namespace Go.Proofs.Yteniikfgellhfaa
open Go.RowKit

theorem wrapI64 (n : Int) (h1 : -9223372036854775808 ≤ n) (h2 : n < 9223372036854775808) : IntKind.i64.wrap n = n := by
  rw [IntKind.wrap_i64]; omega
theorem ofIntI64 (a : Nat) (ha : a < 9223372036854775808) : (BitVec.ofInt 64 (a : Int)).toNat = a := ofInt_u64 a (by omega)
theorem andI64 (a b : Nat) (ha : a < 9223372036854775808) (hb : b < 9223372036854775808) : bits .and .i64 (a : Int) (b : Int) = ((a &&& b : Nat) : Int) := by
  have hx : a &&& b < 2 ^ 63 := Nat.and_lt_two_pow _ (by omega)
  show IntKind.i64.wrap ((BitVec.ofInt 64 (a : Int) &&& BitVec.ofInt 64 (b : Int)).toNat : Int) = _
  rw [BitVec.toNat_and, ofIntI64 a ha, ofIntI64 b hb, wrapI64 _ (by omega) (by omega)]
theorem orI64 (a b : Nat) (ha : a < 9223372036854775808) (hb : b < 9223372036854775808) : bits .or .i64 (a : Int) (b : Int) = ((a ||| b : Nat) : Int) := by
  have hx : a ||| b < 2 ^ 63 := Nat.or_lt_two_pow (by omega) (by omega)
  show IntKind.i64.wrap ((BitVec.ofInt 64 (a : Int) ||| BitVec.ofInt 64 (b : Int)).toNat : Int) = _
  rw [BitVec.toNat_or, ofIntI64 a ha, ofIntI64 b hb, wrapI64 _ (by omega) (by omega)]
theorem xorI64 (a b : Nat) (ha : a < 9223372036854775808) (hb : b < 9223372036854775808) : bits .xor .i64 (a : Int) (b : Int) = ((a ^^^ b : Nat) : Int) := by
  have hx : a ^^^ b < 2 ^ 63 := Nat.xor_lt_two_pow (by omega) (by omega)
  show IntKind.i64.wrap ((BitVec.ofInt 64 (a : Int) ^^^ BitVec.ofInt 64 (b : Int)).toNat : Int) = _
  rw [BitVec.toNat_xor, ofIntI64 a ha, ofIntI64 b hb, wrapI64 _ (by omega) (by omega)]
theorem andNotI64 (a b : Nat) (ha : a < 9223372036854775808) (hb : b < 9223372036854775808) : bits .andNot .i64 (a : Int) (b : Int) = ((a &&& (18446744073709551615 - b) : Nat) : Int) := by
  have hx : a &&& (18446744073709551615 - b) < 2 ^ 63 := by rw [Nat.and_comm]; exact Nat.and_lt_two_pow _ (by omega)
  show IntKind.i64.wrap ((BitVec.ofInt 64 (a : Int) &&& ~~~BitVec.ofInt 64 (b : Int)).toNat : Int) = _
  rw [BitVec.toNat_and, BitVec.toNat_not, ofIntI64 a ha, ofIntI64 b hb]
  have e : 2 ^ 64 - 1 - b = 18446744073709551615 - b := by omega
  rw [e, wrapI64 _ (by omega) (by omega)]

/-- Whether a number is a set. -/
def setB (s : Int) : Bool := decide (0 ≤ s) && decide (s ≤ 65535)
/-- Whether a number can be in a set. -/
def numB (n : Int) : Bool := decide (0 ≤ n) && decide (n ≤ 15)
theorem setB_iff {s : Int} : setB s = true ↔ 0 ≤ s ∧ s ≤ 65535 := by simp [setB]
theorem numB_iff {n : Int} : numB n = true ↔ 0 ≤ n ∧ n ≤ 15 := by simp [numB]
theorem setB_no {s : Int} : setB s = false ↔ ¬ (0 ≤ s ∧ s ≤ 65535) := by rw [← setB_iff]; simp
theorem numB_no {n : Int} : numB n = false ↔ ¬ (0 ≤ n ∧ n ≤ 15) := by rw [← numB_iff]; simp

/-- BitHas. -/
def hasV (s n : Int) : Bool := setB s && numB n && s.toNat.testBit n.toNat
/-- BitPut. -/
def putN (S k : Nat) (has : Bool) : Nat := if has then S ||| 2 ^ k else S &&& (65535 - 2 ^ k)
def putV (s n : Int) (has : Bool) : Int := if setB s && numB n then (putN s.toNat n.toNat has : Int) else -1
/-- How many of the first k numbers a set has. -/
def cnt (s : Int) : Nat → Nat
  | 0 => 0
  | k + 1 => cnt s k + if hasV s k then 1 else 0
/-- BitCount. -/
def countV (s : Int) : Int := if setB s then (cnt s 16 : Int) else -1
/-- BitFirst. -/
def firstV (s : Int) : Int := match (List.range 16).find? (fun k => hasV s (k : Nat)) with
  | some k => (k : Int)
  | none => -1

theorem pow_bd (k : Nat) (h : k ≤ 15) : 0 < 2 ^ k ∧ 2 ^ k ≤ 32768 :=
  ⟨Nat.two_pow_pos k, Nat.pow_le_pow_right (by decide) (by omega : k ≤ 15)⟩
theorem hasV_nat (S k : Nat) (hS : S ≤ 65535) (hk : k ≤ 15) : hasV (S : Int) (k : Int) = S.testBit k := by
  have h1 : setB (S : Int) = true := setB_iff.2 ⟨by omega, by omega⟩
  have h2 : numB (k : Int) = true := numB_iff.2 ⟨by omega, by omega⟩
  simp [hasV, h1, h2]
theorem hasV_set {s n : Int} (h : setB s = false) : hasV s n = false := by simp [hasV, h]
theorem hasV_num {s n : Int} (h : numB n = false) : hasV s n = false := by simp [hasV, h]
theorem hasV_and (S k : Nat) (_hS : S ≤ 65535) (hk : k ≤ 15) : (!(bits .and .i64 (S : Int) (2 ^ k) == 0)) = S.testBit k := by
  have hp := pow_bd k hk
  have e : ((2 : Int) ^ k) = ((2 ^ k : Nat) : Int) := by simp
  rw [e, andI64 S (2 ^ k) (by omega) (by omega), nat_bit]
  have h2 : S.testBit k = decide (S / 2 ^ k % 2 = 1) := by rw [Nat.testBit_eq_decide_div_mod_eq]
  rw [h2]
  rcases Nat.mod_two_eq_zero_or_one (S / 2 ^ k) with h | h
  · simp [h]
  · have hi : ¬ (2 : Int) ^ k = 0 := by rw [e]; omega
    simp [h, hi]
theorem hasV_shr (S k : Nat) : (((S : Int) / 2 ^ k % 2) == 1) = S.testBit k := by
  have e : ((2 : Int) ^ k) = ((2 ^ k : Nat) : Int) := by simp
  rw [e, Nat.testBit_eq_decide_div_mod_eq, Bool.eq_iff_iff]
  simp only [beq_iff_eq, decide_eq_true_eq]
  omega
theorem putN_le (S k : Nat) (has : Bool) (hS : S ≤ 65535) (hk : k ≤ 15) : putN S k has ≤ 65535 := by
  have hp := pow_bd k hk
  unfold putN
  split
  · have : S ||| 2 ^ k < 2 ^ 16 := Nat.or_lt_two_pow (by omega) (by omega)
    omega
  · have := @Nat.and_le_left S (65535 - 2 ^ k)
    omega
theorem test_not (k j : Nat) (hk : k ≤ 15) (hj : j ≤ 15) : (65535 - 2 ^ k).testBit j = !decide (k = j) := by
  have : ∀ k, k ≤ 15 → ∀ j, j ≤ 15 → (65535 - 2 ^ k).testBit j = !decide (k = j) := by decide
  exact this k hk j hj
theorem put_test (S k j : Nat) (has : Bool) (hk : k ≤ 15) (hj : j ≤ 15) : (putN S k has).testBit j = if j = k then has else S.testBit j := by
  unfold putN
  by_cases e : j = k
  · subst e
    cases has
    · simp [Nat.testBit_and, test_not j j hk hk]
    · simp [Nat.testBit_or, Nat.testBit_two_pow_self]
  · have e' : ¬ k = j := fun h => e h.symm
    cases has
    · simp [Nat.testBit_and, test_not k j hk hj, e, e']
    · simp [Nat.testBit_or, e, e']
theorem put_or (S k : Nat) (_hS : S ≤ 65535) (hk : k ≤ 15) : bits .or .i64 (S : Int) (2 ^ k) = (putN S k true : Int) := by
  have hp := pow_bd k hk
  have e : ((2 : Int) ^ k) = ((2 ^ k : Nat) : Int) := by simp
  rw [e, orI64 S (2 ^ k) (by omega) (by omega)]; rfl
theorem high_not (k j : Nat) (hk : k ≤ 15) (hj : j ≤ 15) : (18446744073709551615 - 2 ^ k).testBit j = !decide (k = j) := by
  have : ∀ k, k ≤ 15 → ∀ j, j ≤ 15 → (18446744073709551615 - 2 ^ k).testBit j = !decide (k = j) := by decide
  exact this k hk j hj
theorem high_bits (S j : Nat) (hS : S ≤ 65535) (hj : 15 < j) : S.testBit j = false := by
  apply Nat.testBit_lt_two_pow
  have : 2 ^ 16 ≤ 2 ^ j := Nat.pow_le_pow_right (by decide) (by omega)
  omega
theorem put_andNot (S k : Nat) (hS : S ≤ 65535) (hk : k ≤ 15) : bits .andNot .i64 (S : Int) (2 ^ k) = (putN S k false : Int) := by
  have hp := pow_bd k hk
  have e : ((2 : Int) ^ k) = ((2 ^ k : Nat) : Int) := by simp
  rw [e, andNotI64 S (2 ^ k) (by omega) (by omega)]
  have : S &&& (18446744073709551615 - 2 ^ k) = S &&& (65535 - 2 ^ k) := by
    apply Nat.eq_of_testBit_eq
    intro j
    rw [Nat.testBit_and, Nat.testBit_and]
    by_cases hj : j ≤ 15
    · rw [test_not k j hk hj, high_not k j hk hj]
    · rw [high_bits S j hS (by omega)]; simp
  rw [this]; simp [putN]
theorem putV_nat (S k : Nat) (has : Bool) (hS : S ≤ 65535) (hk : k ≤ 15) : putV (S : Int) (k : Int) has = (putN S k has : Int) := by
  have h1 : setB (S : Int) = true := setB_iff.2 ⟨by omega, by omega⟩
  have h2 : numB (k : Int) = true := numB_iff.2 ⟨by omega, by omega⟩
  simp [putV, h1, h2]
theorem putV_no {s n : Int} {has : Bool} (h : (setB s && numB n) = false) : putV s n has = -1 := by simp [putV, h]
theorem cnt_le (s : Int) (k : Nat) : cnt s k ≤ k := by
  induction k with
  | zero => simp [cnt]
  | succ k ih => unfold cnt; split <;> omega
theorem cnt_none {s : Int} (h : setB s = false) (k : Nat) : cnt s k = 0 := by
  induction k with
  | zero => rfl
  | succ k ih => simp [cnt, ih, hasV_set h]
theorem cnt_stop (S j : Nat) (hS : S ≤ 65535) (h0 : S / 2 ^ j = 0) (k : Nat) (hk : k ≤ 16) (hjk : j ≤ k) : cnt (S : Int) k = cnt (S : Int) j := by
  induction k with
  | zero => have : j = 0 := by omega
            rw [this]
  | succ k ih =>
    by_cases e : j = k + 1
    · rw [e]
    · have hz : S / 2 ^ k = 0 := by
        have h1 : 2 ^ j ≤ 2 ^ k := Nat.pow_le_pow_right (by decide) (by omega)
        have h2 : S < 2 ^ j := by
          rcases Nat.div_eq_zero_iff.1 h0 with h | h
          · have := Nat.two_pow_pos j; omega
          · exact h
        exact Nat.div_eq_of_lt (by omega)
      have hf : hasV (S : Int) (k : Int) = false := by
        rw [hasV_nat S k hS (by omega), Nat.testBit_eq_decide_div_mod_eq, hz]; rfl
      rw [cnt, hf, ih (by omega) (by omega)]; rfl
theorem cnt_all (S j : Nat) (hS : S ≤ 65535) (hj : j ≤ 16) (h0 : S / 2 ^ j = 0) : cnt (S : Int) j = cnt (S : Int) 16 :=
  (cnt_stop S j hS h0 16 (by omega) hj).symm
theorem cnt_succ (S j : Nat) (hS : S ≤ 65535) (hj : j ≤ 15) : ((cnt (S : Int) (j + 1) : Nat) : Int) = (cnt (S : Int) j : Int) + ((S / 2 ^ j : Nat) : Int) % 2 := by
  rw [cnt, hasV_nat S j hS hj, Nat.testBit_eq_decide_div_mod_eq]
  by_cases h : S / 2 ^ j % 2 = 1
  · have h' : ((S / 2 ^ j : Nat) : Int) % 2 = 1 := by omega
    rw [h', decide_eq_true h]; rfl
  · have h' : ((S / 2 ^ j : Nat) : Int) % 2 = 0 := by omega
    rw [h', decide_eq_false h]; rfl
theorem div_step (S j : Nat) : S / 2 ^ j / 2 = S / 2 ^ (j + 1) := by
  rw [Nat.div_div_eq_div_mul, Nat.pow_succ]
theorem div_zero (S : Nat) (hS : S ≤ 65535) : S / 2 ^ 16 = 0 := Nat.div_eq_of_lt (by omega)
theorem firstV_some {s : Int} {k : Nat} (hk : k ≤ 15) (h : hasV s k = true) (hl : ∀ j, j < k → hasV s (j : Nat) = false) : firstV s = k := by
  have : (List.range 16).find? (fun k => hasV s (k : Nat)) = some k := by
    rw [List.find?_range_eq_some]
    exact ⟨h, List.mem_range.2 (by omega), fun j hj => by simp [hl j hj]⟩
  simp [firstV, this]
theorem firstV_none {s : Int} (hl : ∀ j, j < 16 → hasV s (j : Nat) = false) : firstV s = -1 := by
  have : (List.range 16).find? (fun k => hasV s (k : Nat)) = none := by
    rw [List.find?_eq_none]
    intro j hj
    simp [hl j (List.mem_range.1 hj)]
  simp [firstV, this]
theorem firstV_cases (s : Int) : (∃ k : Nat, k ≤ 15 ∧ firstV s = k ∧ hasV s k = true ∧ ∀ j, j < k → hasV s (j : Nat) = false) ∨ (firstV s = -1 ∧ ∀ j, j < 16 → hasV s (j : Nat) = false) := by
  rcases e : (List.range 16).find? (fun k => hasV s (k : Nat)) with _ | k
  · right
    refine ⟨by simp [firstV, e], fun j hj => ?_⟩
    rw [List.find?_eq_none] at e
    simpa using e j (List.mem_range.2 hj)
  · left
    have e' := e
    rw [List.find?_range_eq_some] at e
    obtain ⟨h1, h2, h3⟩ := e
    have := List.mem_range.1 h2
    exact ⟨k, by omega, by simp [firstV, e'], h1, fun j hj => by simpa using h3 j hj⟩
end Go.Proofs.Yteniikfgellhfaa
namespace Go.Proofs.Yteniikfgellhfaa
open Go.ChangeShapes Go.WideShapes Go.ChangeAt Go.RowKit

theorem retI {a b : Int} (h : a = b) : Ending.returned (.int .i64 a) = .returned (.int .i64 b) := by rw [h]
theorem retB {a b : Bool} (h : a = b) : Ending.returned (.bool a) = .returned (.bool b) := by rw [h]

theorem wrapPow (k : Nat) (hk : k ≤ 15) : wrap64 (2 ^ k) = 2 ^ k := by
  have := pow_bd k hk
  have e : ((2 : Int) ^ k) = ((2 ^ k : Nat) : Int) := by simp
  exact IntWalk.wrap64_in _ ⟨by omega, by omega⟩

theorem pow_any (k : Nat) (h1 : k ≤ 15) (w : World) :
    Calls Try.prog 124 #[.int .i64 k] w fun e w' => e = .returned (.int .i64 (2 ^ k)) ∧ w = w' := by
  go_enter Try.func124, Try.ntmps124
  go_wp2
  go_ret
  exact ⟨retI (wrapPow k h1), rfl⟩

theorem isSet_any (n : Int) (w : World) :
    Calls Try.prog 97 #[.int .i64 n] w fun e w' => e = .returned (.bool (setB n)) ∧ w = w' := by
  go_enter Try.func97, Try.ntmps97
  go_wp2
  all_goals (go_ret; refine ⟨retB ?_, rfl⟩; simp [setB]; try omega)
theorem isNum_any (n : Int) (w : World) :
    Calls Try.prog 123 #[.int .i64 n] w fun e w' => e = .returned (.bool (numB n)) ∧ w = w' := by
  go_enter Try.func123, Try.ntmps123
  go_wp2
  all_goals (go_ret; refine ⟨retB ?_, rfl⟩; rw [Bool.eq_iff_iff]; simp [numB]; omega)
def inB (n lo hi : Int) : Bool := decide (lo ≤ n) && decide (n ≤ hi)
theorem in_any (n lo hi : Int) (w : World) :
    Calls Try.prog 95 #[.int .i64 n, .int .i64 lo, .int .i64 hi] w fun e w' => e = .returned (.bool (inB n lo hi)) ∧ w = w' := by
  go_enter Try.func95, Try.ntmps95
  go_wp2
  all_goals (go_ret; refine ⟨retB ?_, rfl⟩; simp [inB]; try omega)
theorem inSet (n : Int) : inB n 0 65535 = setB n := rfl
theorem inNum (n : Int) : inB n 0 15 = numB n := rfl
theorem inSet_any (n : Int) (w : World) :
    Calls Try.prog 95 #[.int .i64 n, .int .i64 0, .int .i64 65535] w fun e w' => e = .returned (.bool (setB n)) ∧ w = w' := in_any n 0 65535 w
theorem inNum_any (n : Int) (w : World) :
    Calls Try.prog 95 #[.int .i64 n, .int .i64 0, .int .i64 15] w fun e w' => e = .returned (.bool (numB n)) ∧ w = w' := in_any n 0 15 w

theorem has_any (s n : Int) (w : World) :
    Calls Try.prog 98 #[.int .i64 s, .int .i64 n] w fun e w' => e = .returned (.bool (hasV s n)) ∧ w = w' := by
  cases hs : setB s
  · have h1 := hs
    go_enter Try.func98, Try.ntmps98
    go_wp2_with (first | (go_at_call 97; refine (isSet_any _ _).mono ?_; rintro e w' ⟨rfl, rfl⟩) | (go_at_call 123; refine (isNum_any _ _).mono ?_; rintro e w' ⟨rfl, rfl⟩))
    all_goals (go_ret; exact ⟨retB (by simp [hasV, hs]), rfl⟩)
  · cases hn : numB n
    · go_enter Try.func98, Try.ntmps98
      go_wp2_with (first | (go_at_call 97; refine (isSet_any _ _).mono ?_; rintro e w' ⟨rfl, rfl⟩) | (go_at_call 123; refine (isNum_any _ _).mono ?_; rintro e w' ⟨rfl, rfl⟩))
      all_goals (go_ret; exact ⟨retB (by simp [hasV, hn]), rfl⟩)
    · obtain ⟨a1, a2⟩ := setB_iff.1 hs
      obtain ⟨b1, b2⟩ := numB_iff.1 hn
      obtain ⟨S, rfl⟩ := Int.eq_ofNat_of_zero_le a1
      obtain ⟨k, rfl⟩ := Int.eq_ofNat_of_zero_le b1
      have hk : k ≤ 15 := by omega
      have hS : S ≤ 65535 := by omega
      go_enter Try.func98, Try.ntmps98
      go_wp2_with (first | (go_at_call 97; refine (isSet_any _ _).mono ?_; rintro e w' ⟨rfl, rfl⟩) | (go_at_call 123; refine (isNum_any _ _).mono ?_; rintro e w' ⟨rfl, rfl⟩) | (go_at_call 124; refine (pow_any _ hk _).mono ?_; rintro e w' ⟨rfl, rfl⟩))
      go_ret
      refine ⟨retB ?_, rfl⟩
      rw [hasV_nat S k hS hk]
      exact hasV_and S k hS hk

theorem cnt_yes {s : Int} {k : Nat} (h : hasV s k = true) : cnt s (k + 1) = cnt s k + 1 := by simp [cnt, h]
theorem cnt_no {s : Int} {k : Nat} (h : hasV s k = false) : cnt s (k + 1) = cnt s k := by simp [cnt, h]

theorem count_any (s : Int) (w : World) :
    Calls Try.prog 60 #[.int .i64 s] w fun e w' => e = .returned (.int .i64 (countV s)) ∧ w = w' := by
  cases hs : setB s
  · go_enter Try.func60, Try.ntmps60
    go_wp2_with (go_at_call 97; refine (isSet_any _ _).mono ?_; rintro e w' ⟨rfl, rfl⟩)
    go_ret
    exact ⟨retI (by simp [countV, hs]), rfl⟩
  · go_enter Try.func60, Try.ntmps60
    go_wp2_with (go_at_call 97; refine (isSet_any _ _).mono ?_; rintro e w' ⟨rfl, rfl⟩)
    go_loop [3, 4] (fun c i => ∃ k : Nat, k ≤ 16 ∧ i = .int .i64 k ∧ c = .int .i64 (cnt s k)) (fun _ i => 16 - (intOf i).toNat)
    case atStart => exact ⟨0, Nat.zero_le _, rfl, rfl⟩
    case round =>
      obtain ⟨k, hk, rfl, rfl⟩ := hrel
      have hc := cnt_le s k
      by_cases hlt : k < 16
      · cases hb : hasV s k
        · have HB := Lib.hid (cnt_no hb)
          go_wp2_with (go_at_call 98; refine (has_any _ _ _).mono ?_; rintro e w' ⟨rfl, rfl⟩)
          go_round
          case rel => exact ⟨k + 1, by omega, by go_num, by rw [HB.out]⟩
          case measure => simp [intOf]; omega
        · have HB := Lib.hid (cnt_yes hb)
          go_wp2_with (go_at_call 98; refine (has_any _ _ _).mono ?_; rintro e w' ⟨rfl, rfl⟩)
          go_round
          case rel => exact ⟨k + 1, by omega, by go_num, by rw [HB.out]; go_num⟩
          case measure => simp [intOf]; omega
      · have HK := Lib.hid (show k = 16 by omega)
        go_wp2
        go_ret
        exact ⟨retI (by rw [HK.out]; simp [countV, hs]), rfl⟩

theorem alive_any (w : World) : Calls Try.prog 19 #[] w fun e w' => e = .returned (.bool true) ∧ w = w' := by
  have h1 : countV 10 = 2 := by decide
  have h2 : countV (-1) = -1 := by decide
  go_enter Try.func19, Try.ntmps19
  go_wp2_with (go_at_call 60; refine (count_any _ _).mono ?_; rintro e w' ⟨rfl, rfl⟩)
  go_ret
  exact ⟨rfl, rfl⟩
theorem put_has {s n : Int} (hs : setB s = true) (hn : numB n = true) : hasV (putV s n true) n = true ∧ hasV (putV s n false) n = false ∧ 0 ≤ putV s n true := by
  obtain ⟨a1, a2⟩ := setB_iff.1 hs
  obtain ⟨b1, b2⟩ := numB_iff.1 hn
  obtain ⟨S, rfl⟩ := Int.eq_ofNat_of_zero_le a1
  obtain ⟨k, rfl⟩ := Int.eq_ofNat_of_zero_le b1
  have hS : S ≤ 65535 := by omega
  have hk : k ≤ 15 := by omega
  rw [putV_nat S k _ hS hk, putV_nat S k _ hS hk, hasV_nat _ k (putN_le S k _ hS hk) hk, hasV_nat _ k (putN_le S k _ hS hk) hk, put_test S k k _ hk hk, put_test S k k _ hk hk]
  simp
theorem put_other {s n : Int} {has : Bool} (hs : setB s = true) (hn : numB n = true) (j : Nat) (hj : j ≤ 15) : hasV (putV s n has) j = if (j : Int) = n then has else hasV s j := by
  obtain ⟨a1, a2⟩ := setB_iff.1 hs
  obtain ⟨b1, b2⟩ := numB_iff.1 hn
  obtain ⟨S, rfl⟩ := Int.eq_ofNat_of_zero_le a1
  obtain ⟨k, rfl⟩ := Int.eq_ofNat_of_zero_le b1
  have hS : S ≤ 65535 := by omega
  have hk : k ≤ 15 := by omega
  rw [putV_nat S k _ hS hk, hasV_nat _ j (putN_le S k _ hS hk) hj, put_test S k j _ hk hj, hasV_nat S j hS hj]
  by_cases e : j = k
  · subst e; simp
  · have e' : ¬ (j : Int) = (k : Int) := by omega
    simp [e, e']
theorem put_range {s n : Int} {has : Bool} (hs : setB s = true) (hn : numB n = true) : 0 ≤ putV s n has ∧ putV s n has ≤ 65535 := by
  obtain ⟨a1, a2⟩ := setB_iff.1 hs
  obtain ⟨b1, b2⟩ := numB_iff.1 hn
  obtain ⟨S, rfl⟩ := Int.eq_ofNat_of_zero_le a1
  obtain ⟨k, rfl⟩ := Int.eq_ofNat_of_zero_le b1
  have hS : S ≤ 65535 := by omega
  have hk : k ≤ 15 := by omega
  rw [putV_nat S k _ hS hk]
  have := putN_le S k has hS hk
  omega
theorem put_twice {s n : Int} {has : Bool} (hs : setB s = true) (hn : numB n = true) : putV (putV s n has) n has = putV s n has := by
  obtain ⟨a1, a2⟩ := setB_iff.1 hs
  obtain ⟨b1, b2⟩ := numB_iff.1 hn
  obtain ⟨S, rfl⟩ := Int.eq_ofNat_of_zero_le a1
  obtain ⟨k, rfl⟩ := Int.eq_ofNat_of_zero_le b1
  have hS : S ≤ 65535 := by omega
  have hk : k ≤ 15 := by omega
  have hp := putN_le S k has hS hk
  rw [putV_nat S k _ hS hk, putV_nat _ k _ hp hk]
  congr 1
  apply Nat.eq_of_testBit_eq
  intro j
  by_cases hj : j ≤ 15
  · rw [put_test _ k j _ hk hj, put_test S k j _ hk hj]
    split <;> rfl
  · rw [high_bits _ j (putN_le _ k _ hp hk) (by omega), high_bits _ j hp (by omega)]
theorem cnt_zero {s : Int} (k : Nat) (h : ∀ j, j < k → hasV s (j : Nat) = false) : cnt s k = 0 := by
  induction k with
  | zero => rfl
  | succ k ih => simp [cnt, ih (fun j hj => h j (by omega)), h k (by omega)]
theorem count_none {s : Int} (h : ∀ j, j < 16 → hasV s (j : Nat) = false) : countV s ≤ 0 := by
  unfold countV
  rw [cnt_zero 16 h]
  split <;> omega
end Go.Proofs.Yteniikfgellhfaa
