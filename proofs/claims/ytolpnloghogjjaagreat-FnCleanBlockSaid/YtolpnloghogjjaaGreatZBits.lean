/- Plain facts about sets of numbers in 0..15, kept as the bits of a number; nothing here speaks of the program.
   What the functions of chapter 1 answer, of the program and of the model, for every number. -/
import Derived.Test.YtolpnloghogjjaaGreatRows
import Derived.Laws.BitsAllLaws
import Derived.Laws.BitsLemmas
import Derived.RowKit
import Derived.WalkKit
import Derived.ProofKit
import Derived.Lib.Hide
namespace Go.Proofs.YtolpnloghogjjaaGreat
open Go.RowKit

theorem wrapI64 (n : Int) (h1 : -9223372036854775808 ≤ n) (h2 : n < 9223372036854775808) : IntKind.i64.wrap n = n := by
  rw [IntKind.wrap_i64]; omega
theorem ofIntI64 (a : Nat) (ha : a < 9223372036854775808) : (BitVec.ofInt 64 (a : Int)).toNat = a := ofInt_u64 a (by omega)
theorem andI64 (a b : Nat) (ha : a < 9223372036854775808) (hb : b < 9223372036854775808) : bits .and .i64 (a : Int) (b : Int) = ((a &&& b : Nat) : Int) := by
  have hx : a &&& b < 2 ^ 63 := Nat.and_lt_two_pow _ (by omega)
  show IntKind.i64.wrap ((BitVec.ofInt 64 (a : Int) &&& BitVec.ofInt 64 (b : Int)).toNat : Int) = _
  rw [BitVec.toNat_and, ofIntI64 a ha, ofIntI64 b hb, wrapI64 _ (by omega) (by omega)]
theorem xorI64 (a b : Nat) (ha : a < 9223372036854775808) (hb : b < 9223372036854775808) : bits .xor .i64 (a : Int) (b : Int) = ((a ^^^ b : Nat) : Int) := by
  have hx : a ^^^ b < 2 ^ 63 := Nat.xor_lt_two_pow (by omega) (by omega)
  show IntKind.i64.wrap ((BitVec.ofInt 64 (a : Int) ^^^ BitVec.ofInt 64 (b : Int)).toNat : Int) = _
  rw [BitVec.toNat_xor, ofIntI64 a ha, ofIntI64 b hb, wrapI64 _ (by omega) (by omega)]
/-- Whether a number is a set. -/
def setB (s : Int) : Bool := decide (0 ≤ s) && decide (s ≤ 65535)
/-- Whether a number can be in a set. -/
def numB (n : Int) : Bool := decide (0 ≤ n) && decide (n ≤ 15)
theorem setB_iff {s : Int} : setB s = true ↔ 0 ≤ s ∧ s ≤ 65535 := by simp [setB]
theorem numB_iff {n : Int} : numB n = true ↔ 0 ≤ n ∧ n ≤ 15 := by simp [numB]
/-- BitHas. -/
def hasV (s n : Int) : Bool := setB s && numB n && s.toNat.testBit n.toNat
/-- BitPut. -/
def putN (S k : Nat) (has : Bool) : Nat := if has then S ||| 2 ^ k else S &&& (65535 - 2 ^ k)
def putV (s n : Int) (has : Bool) : Int := if setB s && numB n then (putN s.toNat n.toNat has : Int) else -1
/-- How many of the first k numbers a set has. -/
def cnt (s : Int) : Nat → Nat
  | 0 => 0
  | k + 1 => cnt s k + if hasV s k then 1 else 0
/-- BitCount. -/
def countV (s : Int) : Int := if setB s then (cnt s 16 : Int) else -1
theorem pow_bd (k : Nat) (h : k ≤ 15) : 0 < 2 ^ k ∧ 2 ^ k ≤ 32768 :=
  ⟨Nat.two_pow_pos k, Nat.pow_le_pow_right (by decide) (by omega : k ≤ 15)⟩
theorem hasV_nat (S k : Nat) (hS : S ≤ 65535) (hk : k ≤ 15) : hasV (S : Int) (k : Int) = S.testBit k := by
  have h1 : setB (S : Int) = true := setB_iff.2 ⟨by omega, by omega⟩
  have h2 : numB (k : Int) = true := numB_iff.2 ⟨by omega, by omega⟩
  simp [hasV, h1, h2]
theorem hasV_and (S k : Nat) (_hS : S ≤ 65535) (hk : k ≤ 15) : (!(bits .and .i64 (S : Int) (2 ^ k) == 0)) = S.testBit k := by
  have hp := pow_bd k hk
  have e : ((2 : Int) ^ k) = ((2 ^ k : Nat) : Int) := by simp
  rw [e, andI64 S (2 ^ k) (by omega) (by omega), nat_bit]
  have h2 : S.testBit k = decide (S / 2 ^ k % 2 = 1) := by rw [Nat.testBit_eq_decide_div_mod_eq]
  rw [h2]
  rcases Nat.mod_two_eq_zero_or_one (S / 2 ^ k) with h | h
  · simp [h]
  · have hi : ¬ (2 : Int) ^ k = 0 := by rw [e]; omega
    simp [h, hi]
theorem cnt_le (s : Int) (k : Nat) : cnt s k ≤ k := by
  induction k with
  | zero => simp [cnt]
  | succ k ih => unfold cnt; split <;> omega
end Go.Proofs.YtolpnloghogjjaaGreat
namespace Go.Proofs.YtolpnloghogjjaaGreat
open Go.ChangeShapes Go.WideShapes Go.ChangeAt Go.RowKit

theorem retI {a b : Int} (h : a = b) : Ending.returned (.int .i64 a) = .returned (.int .i64 b) := by rw [h]
theorem retB {a b : Bool} (h : a = b) : Ending.returned (.bool a) = .returned (.bool b) := by rw [h]

theorem wrapPow (k : Nat) (hk : k ≤ 15) : wrap64 (2 ^ k) = 2 ^ k := by
  have := pow_bd k hk
  have e : ((2 : Int) ^ k) = ((2 ^ k : Nat) : Int) := by simp
  exact IntWalk.wrap64_in _ ⟨by omega, by omega⟩

theorem pow_any (k : Nat) (h1 : k ≤ 15) (w : World) :
    Calls Tryz.prog 120 #[.int .i64 k] w fun e w' => e = .returned (.int .i64 (2 ^ k)) ∧ w = w' := by
  go_enter Tryz.func120, Tryz.ntmps120
  go_wp2
  go_ret
  exact ⟨retI (wrapPow k h1), rfl⟩

theorem isSet_any (n : Int) (w : World) :
    Calls Tryz.prog 91 #[.int .i64 n] w fun e w' => e = .returned (.bool (setB n)) ∧ w = w' := by
  go_enter Tryz.func91, Tryz.ntmps91
  go_wp2
  all_goals (go_ret; refine ⟨retB ?_, rfl⟩; simp [setB]; try omega)
theorem isNum_any (n : Int) (w : World) :
    Calls Tryz.prog 119 #[.int .i64 n] w fun e w' => e = .returned (.bool (numB n)) ∧ w = w' := by
  go_enter Tryz.func119, Tryz.ntmps119
  go_wp2
  all_goals (go_ret; refine ⟨retB ?_, rfl⟩; rw [Bool.eq_iff_iff]; simp [numB]; omega)
def inB (n lo hi : Int) : Bool := decide (lo ≤ n) && decide (n ≤ hi)
theorem in_any (n lo hi : Int) (w : World) :
    Calls Tryz.prog 39 #[.int .i64 n, .int .i64 lo, .int .i64 hi] w fun e w' => e = .returned (.bool (inB n lo hi)) ∧ w = w' := by
  go_enter Tryz.func39, Tryz.ntmps39
  go_wp2
  all_goals (go_ret; refine ⟨retB ?_, rfl⟩; simp [inB]; try omega)
theorem has_any (s n : Int) (w : World) :
    Calls Tryz.prog 92 #[.int .i64 s, .int .i64 n] w fun e w' => e = .returned (.bool (hasV s n)) ∧ w = w' := by
  cases hs : setB s
  · have h1 := hs
    go_enter Tryz.func92, Tryz.ntmps92
    go_wp2_with (first | (go_at_call 91; refine (isSet_any _ _).mono ?_; rintro e w' ⟨rfl, rfl⟩) | (go_at_call 119; refine (isNum_any _ _).mono ?_; rintro e w' ⟨rfl, rfl⟩))
    all_goals (go_ret; exact ⟨retB (by simp [hasV, hs]), rfl⟩)
  · cases hn : numB n
    · go_enter Tryz.func92, Tryz.ntmps92
      go_wp2_with (first | (go_at_call 91; refine (isSet_any _ _).mono ?_; rintro e w' ⟨rfl, rfl⟩) | (go_at_call 119; refine (isNum_any _ _).mono ?_; rintro e w' ⟨rfl, rfl⟩))
      all_goals (go_ret; exact ⟨retB (by simp [hasV, hn]), rfl⟩)
    · obtain ⟨a1, a2⟩ := setB_iff.1 hs
      obtain ⟨b1, b2⟩ := numB_iff.1 hn
      obtain ⟨S, rfl⟩ := Int.eq_ofNat_of_zero_le a1
      obtain ⟨k, rfl⟩ := Int.eq_ofNat_of_zero_le b1
      have hk : k ≤ 15 := by omega
      have hS : S ≤ 65535 := by omega
      go_enter Tryz.func92, Tryz.ntmps92
      go_wp2_with (first | (go_at_call 91; refine (isSet_any _ _).mono ?_; rintro e w' ⟨rfl, rfl⟩) | (go_at_call 119; refine (isNum_any _ _).mono ?_; rintro e w' ⟨rfl, rfl⟩) | (go_at_call 120; refine (pow_any _ hk _).mono ?_; rintro e w' ⟨rfl, rfl⟩))
      go_ret
      refine ⟨retB ?_, rfl⟩
      rw [hasV_nat S k hS hk]
      exact hasV_and S k hS hk

theorem cnt_yes {s : Int} {k : Nat} (h : hasV s k = true) : cnt s (k + 1) = cnt s k + 1 := by simp [cnt, h]
theorem cnt_no {s : Int} {k : Nat} (h : hasV s k = false) : cnt s (k + 1) = cnt s k := by simp [cnt, h]

theorem count_any (s : Int) (w : World) :
    Calls Tryz.prog 46 #[.int .i64 s] w fun e w' => e = .returned (.int .i64 (countV s)) ∧ w = w' := by
  cases hs : setB s
  · go_enter Tryz.func46, Tryz.ntmps46
    go_wp2_with (go_at_call 91; refine (isSet_any _ _).mono ?_; rintro e w' ⟨rfl, rfl⟩)
    go_ret
    exact ⟨retI (by simp [countV, hs]), rfl⟩
  · go_enter Tryz.func46, Tryz.ntmps46
    go_wp2_with (go_at_call 91; refine (isSet_any _ _).mono ?_; rintro e w' ⟨rfl, rfl⟩)
    go_loop [3, 4] (fun c i => ∃ k : Nat, k ≤ 16 ∧ i = .int .i64 k ∧ c = .int .i64 (cnt s k)) (fun _ i => 16 - (intOf i).toNat)
    case atStart => exact ⟨0, Nat.zero_le _, rfl, rfl⟩
    case round =>
      obtain ⟨k, hk, rfl, rfl⟩ := hrel
      have hc := cnt_le s k
      by_cases hlt : k < 16
      · cases hb : hasV s k
        · have HB := Lib.hid (cnt_no hb)
          go_wp2_with (go_at_call 92; refine (has_any _ _ _).mono ?_; rintro e w' ⟨rfl, rfl⟩)
          go_round
          case rel => exact ⟨k + 1, by omega, by go_num, by rw [HB.out]⟩
          case measure => simp [intOf]; omega
        · have HB := Lib.hid (cnt_yes hb)
          go_wp2_with (go_at_call 92; refine (has_any _ _ _).mono ?_; rintro e w' ⟨rfl, rfl⟩)
          go_round
          case rel => exact ⟨k + 1, by omega, by go_num, by rw [HB.out]; go_num⟩
          case measure => simp [intOf]; omega
      · have HK := Lib.hid (show k = 16 by omega)
        go_wp2
        go_ret
        exact ⟨retI (by rw [HK.out]; simp [countV, hs]), rfl⟩

theorem alive_any (w : World) : Calls Tryz.prog 10 #[] w fun e w' => e = .returned (.bool true) ∧ w = w' := by
  have h1 : countV 10 = 2 := by decide
  have h2 : countV (-1) = -1 := by decide
  go_enter Tryz.func10, Tryz.ntmps10
  go_wp2_with (go_at_call 46; refine (count_any _ _).mono ?_; rintro e w' ⟨rfl, rfl⟩)
  go_ret
  exact ⟨rfl, rfl⟩
end Go.Proofs.YtolpnloghogjjaaGreat
