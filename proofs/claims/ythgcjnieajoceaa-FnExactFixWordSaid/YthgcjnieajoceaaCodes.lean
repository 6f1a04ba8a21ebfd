/- What the functions of chapter 2 answer, of the program and of the model, for every number. -/
import Derived.Test.YthgcjnieajoceaaBits
import Derived.Test.YthgcjnieajoceaaCodesPlain
import Derived.Test.YthgcjnieajoceaaDraw
import Derived.Deep.QuietTactic
import Derived.BigQuiet
import Derived.Outline
namespace Go.Proofs.Ythgcjnieajoceaa
open Go.ChangeShapes Go.WideShapes Go.ChangeAt Go.RowKit

theorem isWord_any (n : Int) (w : World) :
    Calls Try.prog 33 #[.int .i64 n] w fun e w' => e = .returned (.bool (wordB n)) ∧ w = w' := by
  go_enter Try.func33, Try.ntmps33
  go_wp2
  all_goals (go_ret; refine ⟨retB ?_, rfl⟩; simp [wordB]; try omega)
theorem hasPlace_any (s : Int) (k : Nat) (hk : k ≤ 100) (w : World) :
    Calls Try.prog 36 #[.int .i64 s, .int .i64 ((k : Int) + 1)] w fun e w' => e = .returned (.bool (hasV s k)) ∧ w = w' := by
  go_enter Try.func36, Try.ntmps36
  go_wp2_with (go_at_call 28; refine (has_any _ _ _).mono ?_; rintro e w' ⟨rfl, rfl⟩)
  go_ret
  exact ⟨retB (by congr 1 <;> omega), rfl⟩
theorem hasPlace_of (s p : Int) (h1 : 1 ≤ p) (h2 : p ≤ 100) (w : World) :
    Calls Try.prog 36 #[.int .i64 s, .int .i64 p] w fun e w' => e = .returned (.bool (hasV s (p - 1))) ∧ w = w' := by
  obtain ⟨k, hk⟩ := Int.eq_ofNat_of_zero_le (show 0 ≤ p - 1 by omega)
  have e : p = (k : Int) + 1 := by omega
  rw [e]
  refine (hasPlace_any s k (by omega) w).mono ?_
  rintro e w' ⟨rfl, rfl⟩
  exact ⟨retB (by congr 1 <;> omega), rfl⟩
theorem flip_nat (W k : Nat) (hW : W ≤ 4095) (hk : k ≤ 11) : flipV (W : Int) ((k : Int) + 1) = ((W ^^^ 2 ^ k : Nat) : Int) := by
  have h1 : wordB (W : Int) = true := wordB_iff.2 ⟨by omega, by omega⟩
  have h2 : placeB ((k : Int) + 1) = true := placeB_iff.2 ⟨by omega, by omega⟩
  simp [flipV, h1, h2]
theorem flip_any (s p : Int) (w : World) :
    Calls Try.prog 17 #[.int .i64 s, .int .i64 p] w fun e w' => e = .returned (.int .i64 (flipV s p)) ∧ w = w' := by
  cases hs : wordB s
  · go_enter Try.func17, Try.ntmps17
    go_wp2_with (go_at_call 33; refine (isWord_any _ _).mono ?_; rintro e w' ⟨rfl, rfl⟩)
    all_goals (go_ret; exact ⟨retI (by simp [flipV, hs]), rfl⟩)
  · cases hp : placeB p
    · have hp2 : p < 1 ∨ 12 < p := by
        rcases Classical.em (p < 1 ∨ 12 < p) with h | h
        · exact h
        · rw [placeB_iff.2 ⟨by omega, by omega⟩] at hp; cases hp
      have HP := Lib.hid hp
      clear hp
      by_cases h1 : p < 1
      · have t1 : decide (p < 1) = true := decide_eq_true h1
        go_enter Try.func17, Try.ntmps17
        go_wp2_with (go_at_call 33; refine (isWord_any _ _).mono ?_; rintro e w' ⟨rfl, rfl⟩)
        all_goals (go_ret; exact ⟨retI (by simp [flipV, HP.out]), rfl⟩)
      · have t1 : decide (p < 1) = false := decide_eq_false h1
        have t2 : decide (12 < p) = true := decide_eq_true (by omega)
        go_enter Try.func17, Try.ntmps17
        go_wp2_with (go_at_call 33; refine (isWord_any _ _).mono ?_; rintro e w' ⟨rfl, rfl⟩)
        all_goals (go_ret; exact ⟨retI (by simp [flipV, HP.out]), rfl⟩)
    · obtain ⟨a1, a2⟩ := wordB_iff.1 hs
      obtain ⟨b1, b2⟩ := placeB_iff.1 hp
      obtain ⟨S, rfl⟩ := Int.eq_ofNat_of_zero_le a1
      obtain ⟨k, hk'⟩ := Int.eq_ofNat_of_zero_le (show 0 ≤ p - 1 by omega)
      obtain rfl : p = (k : Int) + 1 := by omega
      clear hk' hp
      have hk : k ≤ 11 := by omega
      have hS : S ≤ 4095 := by omega
      have HF := Lib.hid (flip_nat S k hS hk)
      have HV := Lib.hid (putV_nat S k (!S.testBit k) (by omega) (by omega))
      have HN := Lib.hid (hasV_nat S k (by omega) (by omega))
      have HQ := Lib.hid (put_flip S k hS hk)
      go_enter Try.func17, Try.ntmps17
      go_wp2_with (first | (go_at_call 33; refine (isWord_any _ _).mono ?_; rintro e w' ⟨rfl, rfl⟩) | (go_at_call 36; refine (hasPlace_any _ k (by omega) _).mono ?_; rintro e w' ⟨rfl, rfl⟩) | (go_at_call 35; refine (put_any _ _ _ _).mono ?_; rintro e w' ⟨rfl, rfl⟩))
      go_ret
      exact ⟨retI (by rw [HF.out, ← HQ.out, ← HV.out, HN.out]), rfl⟩

theorem sum_yes {W k : Nat} (h : W.testBit k = true) : plN W (k + 1) = plN W k ^^^ (k + 1) := by simp [plN, h]
theorem sum_no {W k : Nat} (h : W.testBit k = false) : plN W (k + 1) = plN W k := by simp [plN, h]
theorem bit_test (W k : Nat) : (((W : Int) / 2 ^ k).tmod 2 == 1) = W.testBit k := by
  rw [← hasV_shr W k, Int.tmod_eq_emod_of_nonneg (Int.ediv_nonneg (by omega) (Int.le_of_lt (Int.pow_pos (by decide))))]
theorem retII {a b c d : Int} (h : a = c) (k : b = d) : Ending.returned (.tuple #[.int .i64 a, .int .i64 b]) = .returned (.tuple #[.int .i64 c, .int .i64 d]) := by rw [h, k]
theorem xor_pow (S k : Nat) (hS : S ≤ 4095) (hk : k ≤ 11) : bits .xor .i64 (S : Int) (2 ^ k) = ((S ^^^ 2 ^ k : Nat) : Int) := by
  have hp := pow_bd k (by omega)
  have e : ((2 : Int) ^ k) = ((2 ^ k : Nat) : Int) := by simp
  rw [e, xorI64 S (2 ^ k) (by omega) (by omega)]
theorem or_shift (X D k n : Nat) (hX : X ≤ 4095) (hn : n ≤ 11) : bits .or .i64 (X : Int) (wrap64 (((D : Int) / 2 ^ k).tmod 2 * 2 ^ n)) = ((X ||| (D / 2 ^ k % 2 * 2 ^ n) : Nat) : Int) := by
  have hp := pow_le_11 n hn
  have hm : D / 2 ^ k % 2 * 2 ^ n ≤ 1 * 2 ^ n := Nat.mul_le_mul_right _ (by omega)
  have e : ((D : Int) / 2 ^ k).tmod 2 * 2 ^ n = ((D / 2 ^ k % 2 * 2 ^ n : Nat) : Int) := by
    rw [Int.tmod_eq_emod_of_nonneg (Int.ediv_nonneg (by omega) (Int.le_of_lt (Int.pow_pos (by decide))))]
    simp
  rw [e, IntWalk.wrap64_in _ ⟨by omega, by omega⟩, orI64 X _ (by omega) (by omega)]
theorem sh_exp (j : Nat) (h : j ≤ 3) : min (IntKind.u64.wrap (IntKind.u64.wrap (2 ^ j) - 1)).toNat 64 = 2 ^ j - 1 := by
  rcases (show j = 0 ∨ j = 1 ∨ j = 2 ∨ j = 3 by omega) with rfl | rfl | rfl | rfl <;> decide
theorem places_any (W : Nat) (hW : W ≤ 4095) (w : World) :
    Calls Try.prog 27 #[.int .i64 W] w fun e w' => e = .returned (.int .i64 (plN W 12 : Nat)) ∧ w = w' := by
  go_enter Try.func27, Try.ntmps27
  go_wp2
  go_loop [3, 4] (fun s i => ∃ k : Nat, k ≤ 12 ∧ i = .int .i64 ((k : Int) + 1) ∧ s = .int .i64 (plN W k : Nat)) (fun _ i => 20 - (intOf i).toNat)
  case atStart => exact ⟨0, Nat.zero_le _, by go_num, rfl⟩
  case round =>
    obtain ⟨k, hk, rfl, rfl⟩ := hrel
    by_cases hlt : k < 12
    · have hb0 := hasV_nat W k (by omega) (by omega)
      have hp := plN_lt W k hk
      have HX := Lib.hid (xorI64 (plN W k) (k + 1) (by omega) (by omega))
      cases hb : W.testBit k
      · rw [hb] at hb0
        have HB := Lib.hid (sum_no hb)
        clear hb
        go_wp2_with (go_at_call 36; refine (hasPlace_any _ k (by omega) _).mono ?_; rintro e w' ⟨rfl, rfl⟩)
        go_round
        case rel => exact ⟨k + 1, by omega, by go_num, by rw [HB.out]⟩
        case measure => simp [intOf]; omega
      · rw [hb] at hb0
        have HB := Lib.hid (sum_yes hb)
        clear hb
        go_wp2_with (go_at_call 36; refine (hasPlace_any _ k (by omega) _).mono ?_; rintro e w' ⟨rfl, rfl⟩)
        go_round
        case rel => exact ⟨k + 1, by omega, by go_num, by rw [HB.out]; have := HX.out; simp only [Int.natCast_add, Int.natCast_one] at this; rw [this]⟩
        case measure => simp [intOf]; omega
    · have HK := Lib.hid (show k = 12 by omega)
      go_wp2
      go_ret
      exact ⟨retI (by rw [HK.out]), rfl⟩
theorem specSum_any (W : Nat) (w : World) :
    Calls Try.prog 31 #[.int .i64 W] w fun e w' => e = .returned (.int .i64 (plN W 12 : Nat)) ∧ w = w' := by
  go_enter Try.func31, Try.ntmps31
  go_wp2
  go_loop [3, 4] (fun s i => ∃ k : Nat, k ≤ 12 ∧ i = .int .i64 ((k : Int) + 1) ∧ s = .int .i64 (plN W k : Nat)) (fun _ i => 20 - (intOf i).toNat)
  case atStart => exact ⟨0, Nat.zero_le _, by go_num, rfl⟩
  case round =>
    obtain ⟨k, hk, rfl, rfl⟩ := hrel
    by_cases hlt : k < 12
    · have hp := plN_lt W k hk
      have HX := Lib.hid (xorI64 (plN W k) (k + 1) (by omega) (by omega))
      have ht := bit_test W k
      cases hb : W.testBit k
      · rw [hb] at ht
        have HB := Lib.hid (sum_no hb)
        clear hb
        go_wp2
        go_round
        case rel => exact ⟨k + 1, by omega, by go_num, by rw [HB.out]⟩
        case measure => simp [intOf]; omega
      · rw [hb] at ht
        have HB := Lib.hid (sum_yes hb)
        clear hb
        go_wp2
        go_round
        case rel => exact ⟨k + 1, by omega, by go_num, by rw [HB.out]; have := HX.out; simp only [Int.natCast_add, Int.natCast_one] at this; rw [this]⟩
        case measure => simp [intOf]; omega
    · have HK := Lib.hid (show k = 12 by omega)
      go_wp2
      go_ret
      exact ⟨retI (by rw [HK.out]), rfl⟩
theorem specFlip_any (s p : Int) (w : World) :
    Calls Try.prog 19 #[.int .i64 s, .int .i64 p] w fun e w' => e = .returned (.int .i64 (flipV s p)) ∧ w = w' := by
  cases hs : wordB s
  · have hs2 : inB s 0 4095 = false := hs
    go_enter Try.func19, Try.ntmps19
    go_wp2_with (go_at_call 30; refine (in_any _ _ _ _).mono ?_; rintro e w' ⟨rfl, rfl⟩)
    all_goals (go_ret; exact ⟨retI (by simp [flipV, hs]), rfl⟩)
  · cases hp : placeB p
    · have hs2 : inB s 0 4095 = true := hs
      have hn2 : inB p 1 12 = false := hp
      go_enter Try.func19, Try.ntmps19
      go_wp2_with (go_at_call 30; refine (in_any _ _ _ _).mono ?_; rintro e w' ⟨rfl, rfl⟩)
      all_goals (go_ret; exact ⟨retI (by simp [flipV, hp]), rfl⟩)
    · obtain ⟨a1, a2⟩ := wordB_iff.1 hs
      obtain ⟨b1, b2⟩ := placeB_iff.1 hp
      obtain ⟨S, rfl⟩ := Int.eq_ofNat_of_zero_le a1
      obtain ⟨k, hk'⟩ := Int.eq_ofNat_of_zero_le (show 0 ≤ p - 1 by omega)
      obtain rfl : p = (k : Int) + 1 := by omega
      have hs2 : inB (S : Int) 0 4095 = true := hs
      have hn2 : inB ((k : Int) + 1) 1 12 = true := hp
      clear hk' hp
      have hk : k ≤ 11 := by omega
      have hS : S ≤ 4095 := by omega
      have HF := Lib.hid (flip_nat S k hS hk)
      go_enter Try.func19, Try.ntmps19
      go_wp2_with (go_at_call 30; refine (in_any _ _ _ _).mono ?_; rintro e w' ⟨rfl, rfl⟩)
      go_ret
      exact ⟨retI (by rw [HF.out, wrapPow k (by omega)]; exact xor_pow S k hS hk), rfl⟩
theorem dataPlace_any (k : Nat) (hk : k ≤ 7) (w : World) :
    Calls Try.prog 39 #[.int .i64 k] w fun e w' => e = .returned (.int .i64 (dp k : Nat)) ∧ w = w' := by
  have hd : dp k = if k < 1 then 3 else if k < 4 then k + 4 else k + 5 := rfl
  by_cases h1 : k < 1
  · have HD := Lib.hid (hd.trans (if_pos h1))
    clear hd
    go_enter Try.func39, Try.ntmps39
    go_wp2
    go_ret
    exact ⟨retI (by rw [HD.out]; rfl), rfl⟩
  · by_cases h2 : k < 4
    · have HD := Lib.hid (hd.trans ((if_neg h1).trans (if_pos h2)))
      clear hd
      go_enter Try.func39, Try.ntmps39
      go_wp2
      go_ret
      exact ⟨retI (by rw [HD.out]; omega), rfl⟩
    · have HD := Lib.hid (hd.trans ((if_neg h1).trans (if_neg h2)))
      clear hd
      go_enter Try.func39, Try.ntmps39
      go_wp2
      go_ret
      exact ⟨retI (by rw [HD.out]; omega), rfl⟩
theorem dp_cast (k : Nat) (hk : k ≤ 7) : ((dp k : Nat) : Int) = ((dp k - 1 : Nat) : Int) + 1 := by have := dp_bd k hk; omega
theorem wordOf_any (D : Nat) (hD : D ≤ 255) (w : World) :
    Calls Try.prog 26 #[.int .i64 D] w fun e w' => e = .returned (.int .i64 (wodN D 8 : Nat)) ∧ w = w' := by
  go_enter Try.func26, Try.ntmps26
  go_wp2
  go_loop [3, 4] (fun s i => ∃ k : Nat, k ≤ 8 ∧ i = .int .i64 k ∧ s = .int .i64 (wodN D k : Nat)) (fun _ i => 8 - (intOf i).toNat)
  case atStart => exact ⟨0, Nat.zero_le _, rfl, rfl⟩
  case round =>
    obtain ⟨k, hk, rfl, rfl⟩ := hrel
    by_cases hlt : k < 8
    · have hd := dp_bd k (by omega)
      have hw := wodN_le D k hk
      have HP := Lib.hid (putV_nat (wodN D k) (dp k - 1) (D.testBit k) (by omega) (by omega))
      have HN := Lib.hid (hasV_nat D k (by omega) (by omega))
      have HC := Lib.hid (show ((dp k : Nat) : Int) - 1 = ((dp k - 1 : Nat) : Int) by omega)
      go_wp2_with (first | (go_at_call 39; refine (dataPlace_any k (by omega) _).mono ?_; rintro e w' ⟨rfl, rfl⟩) | (go_at_call 28; refine (has_any _ _ _).mono ?_; rintro e w' ⟨rfl, rfl⟩) | (go_at_call 35; refine (put_any _ _ _ _).mono ?_; rintro e w' ⟨rfl, rfl⟩))
      go_round
      case rel => exact ⟨k + 1, by omega, by go_num, by rw [HN.out, HC.out, HP.out]; rfl⟩
      case measure => simp [intOf]; omega
    · have HK := Lib.hid (show k = 8 by omega)
      go_wp2
      go_ret
      exact ⟨retI (by rw [HK.out]), rfl⟩
theorem dataOf_any (W : Nat) (hW : W ≤ 4095) (w : World) :
    Calls Try.prog 34 #[.int .i64 W] w fun e w' => e = .returned (.int .i64 (dataN W 8 : Nat)) ∧ w = w' := by
  go_enter Try.func34, Try.ntmps34
  go_wp2
  go_loop [3, 4] (fun s i => ∃ k : Nat, k ≤ 8 ∧ i = .int .i64 k ∧ s = .int .i64 (dataN W k : Nat)) (fun _ i => 8 - (intOf i).toNat)
  case atStart => exact ⟨0, Nat.zero_le _, rfl, rfl⟩
  case round =>
    obtain ⟨k, hk, rfl, rfl⟩ := hrel
    by_cases hlt : k < 8
    · have hd := dp_bd k (by omega)
      have hw := dataN_le W k hk
      have HP := Lib.hid (putV_nat (dataN W k) k (W.testBit (dp k - 1)) (by omega) (by omega))
      have HN := Lib.hid (hasV_nat W (dp k - 1) (by omega) (by omega))
      have HC := Lib.hid (show ((dp k : Nat) : Int) - 1 = ((dp k - 1 : Nat) : Int) by omega)
      go_wp2_with (first | (go_at_call 39; refine (dataPlace_any k (by omega) _).mono ?_; rintro e w' ⟨rfl, rfl⟩) | (go_at_call 36; refine (hasPlace_of _ _ (by omega) (by omega) _).mono ?_; rintro e w' ⟨rfl, rfl⟩) | (go_at_call 35; refine (put_any _ _ _ _).mono ?_; rintro e w' ⟨rfl, rfl⟩))
      go_round
      case rel => exact ⟨k + 1, by omega, by go_num, by rw [HC.out, HN.out, HP.out]; rfl⟩
      case measure => simp [intOf]; omega
    · have HK := Lib.hid (show k = 8 by omega)
      go_wp2
      go_ret
      exact ⟨retI (by rw [HK.out]), rfl⟩
theorem cwF_yes {W s k : Nat} (h : s.testBit k = true) : cwF W s (k + 1) = cwF W s k ^^^ 2 ^ (2 ^ k - 1) := by simp [cwF, h]
theorem cwF_no {W s k : Nat} (h : s.testBit k = false) : cwF W s (k + 1) = cwF W s k := by simp [cwF, h]
theorem pow_cast (k : Nat) : (2 : Int) ^ k = ((2 ^ k - 1 : Nat) : Int) + 1 := by
  have h := Nat.two_pow_pos k
  have e : ((2 : Int) ^ k) = ((2 ^ k : Nat) : Int) := by simp
  omega
theorem code_any (d : Int) (w : World) :
    Calls Try.prog 12 #[.int .i64 d] w fun e w' => e = .returned (.int .i64 (codeV d)) ∧ w = w' := by
  cases hd : dataB d
  · have hn : d < 0 ∨ 255 < d := by
      rcases Classical.em (d < 0 ∨ 255 < d) with h | h
      · exact h
      · rw [dataB_iff.2 ⟨by omega, by omega⟩] at hd; cases hd
    have HD := Lib.hid hd
    clear hd
    rcases hn with h | h
    · have t1 : decide (d < 0) = true := decide_eq_true h
      go_enter Try.func12, Try.ntmps12
      go_wp2
      go_ret
      exact ⟨retI (by simp [codeV, HD.out]), rfl⟩
    · have t1 : decide (d < 0) = false := decide_eq_false (by omega)
      have t2 : decide (255 < d) = true := decide_eq_true h
      go_enter Try.func12, Try.ntmps12
      go_wp2
      go_ret
      exact ⟨retI (by simp [codeV, HD.out]), rfl⟩
  · obtain ⟨a1, a2⟩ := dataB_iff.1 hd
    obtain ⟨D, rfl⟩ := Int.eq_ofNat_of_zero_le a1
    have HD := Lib.hid hd
    clear hd
    have hD : D ≤ 255 := by omega
    have hw := wodN_le D 8 (by omega)
    have hs := plN_lt (wodN D 8) 12 (by omega)
    go_enter Try.func12, Try.ntmps12
    go_wp2_with (first | (go_at_call 26; refine (wordOf_any D hD _).mono ?_; rintro e w' ⟨rfl, rfl⟩) | (go_at_call 27; refine (places_any _ hw _).mono ?_; rintro e w' ⟨rfl, rfl⟩))
    go_loop [3, 5] (fun s i => ∃ k : Nat, k ≤ 4 ∧ i = .int .i64 k ∧ s = .int .i64 (cwF (wodN D 8) (plN (wodN D 8) 12) k : Nat)) (fun _ i => 4 - (intOf i).toNat)
    case atStart => exact ⟨0, Nat.zero_le _, rfl, rfl⟩
    case round =>
      obtain ⟨k, hk, rfl, rfl⟩ := hrel
      by_cases hlt : k < 4
      · have hb0 := hasV_nat (plN (wodN D 8) 12) k (by omega) (by omega)
        have hp := pow2_bd k (by omega)
        have hc := cwF_le (wodN D 8) (plN (wodN D 8) 12) k hw (by omega)
        cases hb : (plN (wodN D 8) 12).testBit k
        · rw [hb] at hb0
          have HB := Lib.hid (cwF_no (W := wodN D 8) hb)
          clear hb
          go_wp2_with (go_at_call 28; refine (has_any _ _ _).mono ?_; rintro e w' ⟨rfl, rfl⟩)
          go_round
          case rel => exact ⟨k + 1, by omega, by go_num, by rw [HB.out]⟩
          case measure => simp [intOf]; omega
        · rw [hb] at hb0
          have HB := Lib.hid (cwF_yes (W := wodN D 8) hb)
          have HF := Lib.hid (flip_nat (cwF (wodN D 8) (plN (wodN D 8) 12) k) (2 ^ k - 1) hc (by omega))
          clear hb
          go_wp2_with (first | (go_at_call 28; refine (has_any _ _ _).mono ?_; rintro e w' ⟨rfl, rfl⟩) | (go_at_call 29; refine (pow_any _ (by omega) _).mono ?_; rintro e w' ⟨rfl, rfl⟩) | (go_at_call 17; refine (flip_any _ _ _).mono ?_; rintro e w' ⟨rfl, rfl⟩))
          go_round
          case rel => exact ⟨k + 1, by omega, by go_num, by rw [HB.out, pow_cast, HF.out]⟩
          case measure => simp [intOf]; omega
      · have HK := Lib.hid (show k = 4 by omega)
        go_wp2
        go_ret
        exact ⟨retI (by rw [HK.out]; simp [codeV, HD.out, cwN]), rfl⟩
theorem apart_any (a b : Int) (w : World) :
    Calls Try.prog 16 #[.int .i64 a, .int .i64 b] w fun e w' => e = .returned (.int .i64 (apartV a b)) ∧ w = w' := by
  cases ha : wordB a
  · go_enter Try.func16, Try.ntmps16
    go_wp2_with (go_at_call 33; refine (isWord_any _ _).mono ?_; rintro e w' ⟨rfl, rfl⟩)
    all_goals (go_ret; exact ⟨retI (by simp [apartV, ha]), rfl⟩)
  · cases hb : wordB b
    · go_enter Try.func16, Try.ntmps16
      go_wp2_with (go_at_call 33; refine (isWord_any _ _).mono ?_; rintro e w' ⟨rfl, rfl⟩)
      all_goals (go_ret; exact ⟨retI (by simp [apartV, hb]), rfl⟩)
    · obtain ⟨a1, a2⟩ := wordB_iff.1 ha
      obtain ⟨b1, b2⟩ := wordB_iff.1 hb
      obtain ⟨S, rfl⟩ := Int.eq_ofNat_of_zero_le a1
      obtain ⟨T, rfl⟩ := Int.eq_ofNat_of_zero_le b1
      have HX := Lib.hid (xorI64 S T (by omega) (by omega))
      have HA := Lib.hid (show apartV (S : Int) (T : Int) = countV ((S ^^^ T : Nat) : Int) by simp [apartV, ha, hb])
      go_enter Try.func16, Try.ntmps16
      go_wp2_with (first | (go_at_call 33; refine (isWord_any _ _).mono ?_; rintro e w' ⟨rfl, rfl⟩) | (go_at_call 32; refine (count_any _ _).mono ?_; rintro e w' ⟨rfl, rfl⟩))
      go_ret
      exact ⟨retI (by rw [HA.out, HX.out]), rfl⟩
theorem specApart_any (a b : Int) (w : World) :
    Calls Try.prog 23 #[.int .i64 a, .int .i64 b] w fun e w' => e = .returned (.int .i64 (apartV a b)) ∧ w = w' := by
  cases ha : wordB a
  · have ha2 : inB a 0 4095 = false := ha
    go_enter Try.func23, Try.ntmps23
    go_wp2_with (go_at_call 30; refine (in_any _ _ _ _).mono ?_; rintro e w' ⟨rfl, rfl⟩)
    all_goals (go_ret; exact ⟨retI (by simp [apartV, ha]), rfl⟩)
  · cases hb : wordB b
    · have ha2 : inB a 0 4095 = true := ha
      have hb2 : inB b 0 4095 = false := hb
      go_enter Try.func23, Try.ntmps23
      go_wp2_with (go_at_call 30; refine (in_any _ _ _ _).mono ?_; rintro e w' ⟨rfl, rfl⟩)
      all_goals (go_ret; exact ⟨retI (by simp [apartV, hb]), rfl⟩)
    · obtain ⟨a1, a2⟩ := wordB_iff.1 ha
      obtain ⟨b1, b2⟩ := wordB_iff.1 hb
      obtain ⟨S, rfl⟩ := Int.eq_ofNat_of_zero_le a1
      obtain ⟨T, rfl⟩ := Int.eq_ofNat_of_zero_le b1
      have ha2 : inB (S : Int) 0 4095 = true := ha
      have hb2 : inB (T : Int) 0 4095 = true := hb
      have HX := Lib.hid (xorI64 S T (by omega) (by omega))
      have HA := Lib.hid (show apartV (S : Int) (T : Int) = countV ((S ^^^ T : Nat) : Int) by simp [apartV, ha, hb])
      go_enter Try.func23, Try.ntmps23
      go_wp2_with (first | (go_at_call 30; refine (in_any _ _ _ _).mono ?_; rintro e w' ⟨rfl, rfl⟩) | (go_at_call 38; refine (specCount_any _ _).mono ?_; rintro e w' ⟨rfl, rfl⟩))
      go_ret
      exact ⟨retI (by rw [HA.out, HX.out]), rfl⟩
theorem fix_no (n : Int) (h : wordB n = false) : fixD n = -1 ∧ fixP n = -1 := by simp [fixD, fixP, fixB, h]
theorem fix_far (W : Nat) (h2 : 12 < plN W 12) : fixD (W : Int) = -1 ∧ fixP (W : Int) = -1 := by
  have : fixB (W : Int) = false := by simp [fixB]; omega
  simp [fixD, fixP, this]
theorem fix_near (W : Nat) (hW : W ≤ 4095) (h2 : plN W 12 ≤ 12) : fixD (W : Int) = (dataN (mendN W) 8 : Nat) ∧ fixP (W : Int) = (plN W 12 : Nat) := by
  have h1 : wordB (W : Int) = true := wordB_iff.2 ⟨by omega, by omega⟩
  have : fixB (W : Int) = true := by simp [fixB, h1, h2]
  simp [fixD, fixP, this]
theorem mend_at (W p : Nat) (h : plN W 12 = p + 1) : mendN W = W ^^^ 2 ^ p := by simp [mendN, h]
theorem mend_none (W : Nat) (h : plN W 12 = 0) : mendN W = W := by simp [mendN, h]
theorem fix_any (n : Int) (w : World) :
    Calls Try.prog 15 #[.int .i64 n] w fun e w' => e = .returned (.tuple #[.int .i64 (fixD n), .int .i64 (fixP n)]) ∧ w = w' := by
  cases hs : wordB n
  · obtain ⟨f1, f2⟩ := fix_no n hs
    have H1 := Lib.hid f1
    have H2 := Lib.hid f2
    clear f1 f2
    go_enter Try.func15, Try.ntmps15
    go_wp2_with (go_at_call 33; refine (isWord_any _ _).mono ?_; rintro e w' ⟨rfl, rfl⟩)
    go_ret2
    exact ⟨retII H1.out.symm H2.out.symm, rfl⟩
  · obtain ⟨a1, a2⟩ := wordB_iff.1 hs
    obtain ⟨W, rfl⟩ := Int.eq_ofNat_of_zero_le a1
    have hW : W ≤ 4095 := by omega
    have hp := plN_lt W 12 (by omega)
    by_cases h2 : 12 < plN W 12
    · obtain ⟨f1, f2⟩ := fix_far W h2
      have H1 := Lib.hid f1
      have H2 := Lib.hid f2
      clear f1 f2
      go_enter Try.func15, Try.ntmps15
      go_wp2_with (first | (go_at_call 33; refine (isWord_any _ _).mono ?_; rintro e w' ⟨rfl, rfl⟩) | (go_at_call 27; refine (places_any W hW _).mono ?_; rintro e w' ⟨rfl, rfl⟩))
      go_ret2
      exact ⟨retII H1.out.symm H2.out.symm, rfl⟩
    · obtain ⟨f1, f2⟩ := fix_near W hW (by omega)
      have H1 := Lib.hid f1
      have H2 := Lib.hid f2
      clear f1 f2
      rcases hz : plN W 12 with _ | p
      · have HM := Lib.hid (mend_none W hz)
        have t0 : ((plN W 12 : Nat) : Int) = 0 := by rw [hz]; rfl
        have HZ := Lib.hid t0
        have t1 : (((plN W 12 : Nat) : Int) == 0) = true := by simp [hz]
        clear hz t0
        go_enter Try.func15, Try.ntmps15
        go_wp2_with (first | (go_at_call 33; refine (isWord_any _ _).mono ?_; rintro e w' ⟨rfl, rfl⟩) | (go_at_call 27; refine (places_any W hW _).mono ?_; rintro e w' ⟨rfl, rfl⟩) | (go_at_call 34; refine (dataOf_any W hW _).mono ?_; rintro e w' ⟨rfl, rfl⟩))
        go_ret2
        exact ⟨retII (by rw [H1.out, HM.out]) (by rw [H2.out, HZ.out]), rfl⟩
      · have HM := Lib.hid (mend_at W p hz)
        have HC := Lib.hid (show ((plN W 12 : Nat) : Int) = (p : Int) + 1 by rw [hz]; rfl)
        have hp2 : p ≤ 11 := by omega
        have HF := Lib.hid (flip_nat W p hW hp2)
        have t1 : (((plN W 12 : Nat) : Int) == 0) = false := by rw [hz]; simp; omega
        have HX := Lib.hid (xor_word W p hW hp2)
        clear hz
        go_enter Try.func15, Try.ntmps15
        go_wp2_with (first | (go_at_call 33; refine (isWord_any _ _).mono ?_; rintro e w' ⟨rfl, rfl⟩) | (go_at_call 27; refine (places_any W hW _).mono ?_; rintro e w' ⟨rfl, rfl⟩) | (go_at_call 17; refine (flip_any _ _ _).mono ?_; rintro e w' ⟨rfl, rfl⟩; rw [HC.out, HF.out]) | (go_at_call 34; refine (dataOf_any _ HX.out _).mono ?_; rintro e w' ⟨rfl, rfl⟩))
        go_ret2
        exact ⟨retII (by rw [H1.out, HM.out]) (by rw [H2.out, HC.out]), rfl⟩
/-- Nothing that was there has changed. -/
def Kept (w w' : World) : Prop := w.grownBy w' none
/-- The table of the places of data. -/
def Tbl (w : World) (g : Nat) : Prop := ∀ k : Nat, k ≤ 7 → w.cell? ⟨g, k, none⟩ = some (.int .i64 (dp k : Nat))
theorem Tbl.of {w : World} {g : Nat} (h : Blk w g 3 #[.int .i64 3, .int .i64 5, .int .i64 6, .int .i64 7, .int .i64 9, .int .i64 10, .int .i64 11, .int .i64 12]) : Tbl w g := by
  intro k hk
  rw [h.cell k]
  rcases (show k = 0 ∨ k = 1 ∨ k = 2 ∨ k = 3 ∨ k = 4 ∨ k = 5 ∨ k = 6 ∨ k = 7 by omega) with rfl | rfl | rfl | rfl | rfl | rfl | rfl | rfl <;> rfl
theorem Tbl.drewN {w : World} {g : Nat} (h : Tbl w g) (n : Nat) : Tbl (w.drewN n) g := h
def Coded (d : Int) (w : World) (e : Ending) (w' : World) : Prop := e = .returned (.int .i64 (codeV d)) ∧ Kept w w'
theorem specCode_any (d : Int) (w : World) :
    Calls Try.prog 13 #[.int .i64 d] w (Coded d w) := by
  cases hd : dataB d
  · have hs2 : inB d 0 255 = false := hd
    have HD := Lib.hid hd
    clear hd
    go_enter Try.func13, Try.ntmps13
    go_wp2_with (go_at_call 30; refine (in_any _ _ _ _).mono ?_; rintro e w' ⟨rfl, rfl⟩)
    go_ret
    exact ⟨retI (by simp [codeV, HD.out]), grown_refl _ _⟩
  · have hs2 : inB d 0 255 = true := hd
    obtain ⟨a1, a2⟩ := dataB_iff.1 hd
    obtain ⟨D, rfl⟩ := Int.eq_ofNat_of_zero_le a1
    have HD := Lib.hid hd
    clear hd
    have hD : D ≤ 255 := by omega
    go_enter Try.func13, Try.ntmps13
    go_wp2_with (go_at_call 30; refine (in_any _ _ _ _).mono ?_; rintro e w' ⟨rfl, rfl⟩)
    have hT := Tbl.of (Blk.new w 3 _)
    have HG := Lib.hid (grown_alloc (grown_refl w none) (.cells #[.int .i64 3, .int .i64 5, .int .i64 6, .int .i64 7, .int .i64 9, .int .i64 10, .int .i64 11, .int .i64 12] 3))
    go_loopw [3, 5] (fun s i wr => ∃ k : Nat, k ≤ 8 ∧ i = .int .i64 k ∧ s = .int .i64 (spW D k : Nat) ∧ Tbl wr w.heap.size ∧ w.grownBy wr none) (fun _ i _ => 8 - (intOf i).toNat)
    case atStart => exact ⟨0, Nat.zero_le _, rfl, rfl, hT, HG.out⟩
    case round =>
      obtain ⟨k, hk, rfl, rfl, hT2, hg2⟩ := hrel
      clear hT HG
      by_cases hlt : k < 8
      · have hcell := hT2 k (by omega)
        have HT := Lib.hid hT2
        have HG := Lib.hid hg2
        have hb := dp_bd k (by omega)
        have hp := spW_le D k hk
        clear hT2 hg2
        go_wp2
        go_quiet (fail)
        go_wp2
        go_roundw
        case rel => exact ⟨k + 1, by omega, by go_num, by rw [or_shift _ D k _ hp (by omega)]; rfl, HT.out.drewN _, grown_drewN HG.out _⟩
        case measure => simp [intOf]; omega
      · have HK := Lib.hid (show k = 8 by omega)
        have HG := Lib.hid hg2
        clear hT2 hg2
        have hw := spW_le D k hk
        have hs := plN_lt (spW D k) 12 (by omega)
        go_wp2_with (go_at_call 31; refine (specSum_any _ _).mono ?_; rintro e w' ⟨rfl, rfl⟩)
        go_loopw [3, 7] (fun s i wr' => ∃ j : Nat, j ≤ 4 ∧ i = .int .i64 j ∧ s = .int .i64 (cwG (spW D k) (plN (spW D k) 12) j : Nat) ∧ w.grownBy wr' none) (fun _ i _ => 4 - (intOf i).toNat)
        case atStart => exact ⟨0, Nat.zero_le _, rfl, rfl, HG.out⟩
        case round =>
          obtain ⟨j, hj, rfl, rfl, hg3⟩ := hrel
          clear HG
          have HG := Lib.hid hg3
          clear hg3
          by_cases hlt2 : j < 4
          · have hp2 := pow2_bd j (by omega)
            have hc := cwG_le (spW D k) (plN (spW D k) 12) j hw hj
            go_wp2
            go_quiet (fail)
            go_wp2
            go_roundw
            case rel => exact ⟨j + 1, by omega, by go_num, by rw [sh_exp j (by omega), or_shift _ _ j _ hc (by omega)]; rfl, grown_drewN HG.out _⟩
            case measure => simp [intOf]; omega
          · have HJ := Lib.hid (show j = 4 by omega)
            go_wp2
            go_ret
            exact ⟨retI (by rw [HJ.out, HK.out, word_same D (by omega)]; simp [codeV, HD.out]), HG.out⟩
def Fixed (n : Int) (w : World) (e : Ending) (w' : World) : Prop := e = .returned (.tuple #[.int .i64 (fixD n), .int .i64 (fixP n)]) ∧ Kept w w'
theorem fixTail (W M P : Nat) (w : World) (H1 : Hid (fixD (W : Int) = (dataN M 8 : Nat))) (H2 : Hid (fixP (W : Int) = (P : Nat))) (k : Nat) (HK : Hid (k = 8)) (wr : World) (HG : Hid (w.grownBy wr none)) :
    Fixed (W : Int) w (.returned (.tuple #[.int .i64 (daS M k : Nat), .int .i64 (P : Nat)])) wr :=
  ⟨retII (by rw [H1.out, HK.out, data_same M 8 (by omega)]) H2.out.symm, HG.out⟩
theorem specFix_any (n : Int) (w : World) :
    Calls Try.prog 21 #[.int .i64 n] w (Fixed n w) := by
  cases hs : wordB n
  · have hs2 : inB n 0 4095 = false := hs
    obtain ⟨f1, f2⟩ := fix_no n hs
    have H1 := Lib.hid f1
    have H2 := Lib.hid f2
    clear f1 f2 hs
    go_enter Try.func21, Try.ntmps21
    go_wp2_with (go_at_call 30; refine (in_any _ _ _ _).mono ?_; rintro e w' ⟨rfl, rfl⟩)
    go_ret2
    exact ⟨retII H1.out.symm H2.out.symm, grown_refl _ _⟩
  · have hs2 : inB n 0 4095 = true := hs
    obtain ⟨a1, a2⟩ := wordB_iff.1 hs
    obtain ⟨W, rfl⟩ := Int.eq_ofNat_of_zero_le a1
    have hW : W ≤ 4095 := by omega
    have hp := plN_lt W 12 (by omega)
    clear hs
    by_cases h2 : 12 < plN W 12
    · obtain ⟨f1, f2⟩ := fix_far W h2
      have H1 := Lib.hid f1
      have H2 := Lib.hid f2
      clear f1 f2
      go_enter Try.func21, Try.ntmps21
      go_wp2_with (first | (go_at_call 30; refine (in_any _ _ _ _).mono ?_; rintro e w' ⟨rfl, rfl⟩) | (go_at_call 31; refine (specSum_any _ _).mono ?_; rintro e w' ⟨rfl, rfl⟩))
      go_ret2
      exact ⟨retII H1.out.symm H2.out.symm, grown_refl _ _⟩
    · obtain ⟨f1, f2⟩ := fix_near W hW (by omega)
      have H1 := Lib.hid f1
      have H2 := Lib.hid f2
      clear f1 f2
      have hm := mendN_le W hW (by omega)
      have HG0 := Lib.hid (grown_alloc (grown_refl w none) (.cells #[.int .i64 3, .int .i64 5, .int .i64 6, .int .i64 7, .int .i64 9, .int .i64 10, .int .i64 11, .int .i64 12] 3))
      have hT := Tbl.of (Blk.new w 3 #[.int .i64 3, .int .i64 5, .int .i64 6, .int .i64 7, .int .i64 9, .int .i64 10, .int .i64 11, .int .i64 12])
      by_cases hz : 0 < plN W 12
      · obtain ⟨p, hp'⟩ : ∃ p, plN W 12 = p + 1 := ⟨plN W 12 - 1, by omega⟩
        have HM := Lib.hid (mend_at W p hp')
        have HC := Lib.hid (show ((plN W 12 : Nat) : Int) = (p : Int) + 1 by rw [hp']; rfl)
        have hp2 : p ≤ 11 := by omega
        have HF := Lib.hid (flip_nat W p hW hp2)
        clear hp'
        go_enter Try.func21, Try.ntmps21
        go_wp2_with (first | (go_at_call 30; refine (in_any _ _ _ _).mono ?_; rintro e w' ⟨rfl, rfl⟩) | (go_at_call 31; refine (specSum_any _ _).mono ?_; rintro e w' ⟨rfl, rfl⟩) | (go_at_call 19; refine (specFlip_any _ _ _).mono ?_; rintro e w' ⟨rfl, rfl⟩; rw [HC.out, HF.out, ← HM.out, ← HC.out]))
        go_loop [5, 7] (fun s i => ∃ k : Nat, k ≤ 8 ∧ i = .int .i64 k ∧ s = .int .i64 (daS (mendN W) k : Nat)) (fun _ i => 8 - (intOf i).toNat)
        case atStart => exact ⟨0, Nat.zero_le _, rfl, rfl⟩
        case round =>
          obtain ⟨k, hk, rfl, rfl⟩ := hrel
          by_cases hlt : k < 8
          · have hcell := hT k (by omega)
            have HT := Lib.hid hT
            have hb := dp_bd k (by omega)
            have hq := daS_le (mendN W) k hk
            have HO := Lib.hid (or_shift (daS (mendN W) k) (mendN W) (dp k - 1) k (by omega) (by omega))
            clear hT
            go_wp2
            go_round
            case rel => exact ⟨k + 1, by omega, by go_num, by rw [HO.out]; rfl⟩
            case measure => simp [intOf]; omega
          · have HK := Lib.hid (show k = 8 by omega)
            go_wp2
            go_ret2
            exact fixTail W _ _ w H1 H2 k HK _ HG0
      · have hz0 : plN W 12 = 0 := by omega
        have HM := Lib.hid (mend_none W hz0)
        clear hz0
        rw [HM.out] at H1
        go_enter Try.func21, Try.ntmps21
        go_wp2_with (first | (go_at_call 30; refine (in_any _ _ _ _).mono ?_; rintro e w' ⟨rfl, rfl⟩) | (go_at_call 31; refine (specSum_any _ _).mono ?_; rintro e w' ⟨rfl, rfl⟩))
        go_loop [5, 7] (fun s i => ∃ k : Nat, k ≤ 8 ∧ i = .int .i64 k ∧ s = .int .i64 (daS W k : Nat)) (fun _ i => 8 - (intOf i).toNat)
        case atStart => exact ⟨0, Nat.zero_le _, rfl, rfl⟩
        case round =>
          obtain ⟨k, hk, rfl, rfl⟩ := hrel
          by_cases hlt : k < 8
          · have hcell := hT k (by omega)
            have HT := Lib.hid hT
            have hb := dp_bd k (by omega)
            have hq := daS_le W k hk
            have HO := Lib.hid (or_shift (daS W k) W (dp k - 1) k (by omega) (by omega))
            clear hT
            go_wp2
            go_round
            case rel => exact ⟨k + 1, by omega, by go_num, by rw [HO.out]; rfl⟩
            case measure => simp [intOf]; omega
          · have HK := Lib.hid (show k = 8 by omega)
            go_wp2
            go_ret2
            exact fixTail W _ _ w H1 H2 k HK _ HG0
theorem code_nat (D : Nat) (hD : D ≤ 255) : codeV (D : Int) = (cwN D : Nat) := by
  have h : dataB (D : Int) = true := dataB_iff.2 ⟨by omega, by omega⟩
  simp [codeV, h]
theorem code_next (D : Nat) : codeV (((D : Int) + 1) % 256) = (cwN ((D + 1) % 256) : Nat) := by
  have e : ((D : Int) + 1) % 256 = (((D + 1) % 256 : Nat) : Int) := by omega
  rw [e, code_nat _ (by omega)]
theorem apart_nat (S T : Nat) (hS : S ≤ 4095) (hT : T ≤ 4095) : apartV (S : Int) (T : Int) = (cntN (S ^^^ T) 16 : Nat) := by
  have h1 : wordB (S : Int) = true := wordB_iff.2 ⟨by omega, by omega⟩
  have h2 : wordB (T : Int) = true := wordB_iff.2 ⟨by omega, by omega⟩
  have h3 : S ^^^ T < 2 ^ 12 := Nat.xor_lt_two_pow (by omega) (by omega)
  simp only [apartV, h1, h2, Bool.and_self, if_true, Int.toNat_natCast]
  exact countV_nat _ (by omega)
theorem next_apart (D : Nat) (hD : D ≤ 255) : ∃ N : Nat, 3 ≤ N ∧ apartV ((cwN D : Nat) : Int) ((cwN ((D + 1) % 256) : Nat) : Int) = (N : Int) :=
  ⟨_, code_apart D (by omega), apart_nat _ _ (code_plain D (by omega)).2.2 (code_plain _ (by omega)).2.2⟩
theorem fix_of_code (D : Nat) (hD : D ≤ 255) : fixD ((cwN D : Nat) : Int) = (D : Int) ∧ fixP ((cwN D : Nat) : Int) = 0 := by
  obtain ⟨h1, h2, h3⟩ := code_plain D (by omega)
  obtain ⟨f1, f2⟩ := fix_near (cwN D) h3 (by omega)
  rw [f1, f2, mend_none _ h1, h1, h2]
  exact ⟨rfl, rfl⟩
theorem flip_of_code (D k : Nat) (hD : D ≤ 255) (hk : k < 12) : flipV ((cwN D : Nat) : Int) ((k : Int) + 1) = ((cwN D ^^^ 2 ^ k : Nat) : Int) ∧ fixD ((cwN D ^^^ 2 ^ k : Nat) : Int) = (D : Int) ∧ fixP ((cwN D ^^^ 2 ^ k : Nat) : Int) = (k : Int) + 1 := by
  obtain ⟨h1, h2, h3⟩ := code_plain D (by omega)
  have h4 := code_one D k (by omega) hk
  obtain ⟨f1, f2⟩ := fix_near (cwN D ^^^ 2 ^ k) (xor_word _ k h3 (by omega)) (by omega)
  refine ⟨flip_nat _ k h3 (by omega), ?_, ?_⟩
  · rw [f1, mend_at _ k h4, Nat.xor_assoc, Nat.xor_self, Nat.xor_zero, h2]
  · rw [f2, h4]; rfl
theorem flip_args {s p : Int} (h : (wordB s && placeB p) = true) : ∃ S k : Nat, S ≤ 4095 ∧ k ≤ 11 ∧ s = (S : Int) ∧ p = (k : Int) + 1 := by
  obtain ⟨h1, h2⟩ : wordB s = true ∧ placeB p = true := by simpa using h
  obtain ⟨a1, a2⟩ := wordB_iff.1 h1
  obtain ⟨b1, b2⟩ := placeB_iff.1 h2
  exact ⟨s.toNat, (p - 1).toNat, by omega, by omega, by omega, by omega⟩
theorem flip_facts (S k : Nat) (hS : S ≤ 4095) (hk : k ≤ 11) : flipV (S : Int) ((k : Int) + 1) = ((S ^^^ 2 ^ k : Nat) : Int) ∧ flipV ((S ^^^ 2 ^ k : Nat) : Int) ((k : Int) + 1) = (S : Int) ∧ apartV (S : Int) ((S ^^^ 2 ^ k : Nat) : Int) = 1 := by
  have hx := xor_word S k hS hk
  refine ⟨flip_nat S k hS hk, ?_, ?_⟩
  · rw [flip_nat _ k hx hk, Nat.xor_assoc, Nat.xor_self, Nat.xor_zero]
  · rw [apart_nat _ _ hS hx, ← Nat.xor_assoc, Nat.xor_self, Nat.zero_xor, cnt_pow k (by omega)]; rfl
theorem fix_facts {n : Int} (h : fixB n = true) : ∃ W M X : Nat, X ≤ 255 ∧ n = (W : Int) ∧ fixD (W : Int) = (X : Int) ∧ codeV (X : Int) = (M : Int) ∧ 0 ≤ fixP (W : Int) ∧
    ((fixP (W : Int) = 0 ∧ M = W) ∨ ∃ P : Nat, fixP (W : Int) = (P : Int) + 1 ∧ flipV (W : Int) ((P : Int) + 1) = (M : Int)) := by
  obtain ⟨h1, h2⟩ : wordB n = true ∧ plN n.toNat 12 ≤ 12 := by simpa [fixB] using h
  obtain ⟨a1, a2⟩ := wordB_iff.1 h1
  obtain ⟨W, rfl⟩ := Int.eq_ofNat_of_zero_le a1
  simp only [Int.toNat_natCast] at h2
  have hW : W ≤ 4095 := by omega
  obtain ⟨f1, f2⟩ := fix_near W hW h2
  have hd := dataN_le (mendN W) 8 (by omega)
  refine ⟨W, mendN W, dataN (mendN W) 8, hd, rfl, f1, ?_, by omega, ?_⟩
  · rw [code_nat _ hd, fix_code W hW h2]
  · rcases hz : plN W 12 with _ | p
    · exact .inl ⟨by rw [f2, hz]; rfl, mend_none W hz⟩
    · exact .inr ⟨p, by rw [f2, hz]; rfl, by rw [flip_nat W p hW (by omega), mend_at W p hz]⟩
theorem xor_zero_eq {a b : Nat} (h : a ^^^ b = 0) : a = b := by
  have e : a ^^^ b ^^^ b = 0 ^^^ b := by rw [h]
  rwa [Nat.xor_assoc, Nat.xor_self, Nat.xor_zero, Nat.zero_xor] at e
theorem apart_facts {a b : Int} (h : (wordB a && wordB b) = true) : ∃ S T N : Nat, N ≤ 12 ∧ a = (S : Int) ∧ b = (T : Int) ∧ apartV (S : Int) (T : Int) = (N : Int) ∧ apartV (T : Int) (S : Int) = (N : Int) ∧ apartV (S : Int) (S : Int) = 0 ∧
    ((S = T ∧ N = 0) ∨ (0 < N ∧ (((S : Int) == (T : Int)) = false))) := by
  obtain ⟨h1, h2⟩ : wordB a = true ∧ wordB b = true := by simpa using h
  obtain ⟨a1, a2⟩ := wordB_iff.1 h1
  obtain ⟨b1, b2⟩ := wordB_iff.1 h2
  obtain ⟨S, rfl⟩ := Int.eq_ofNat_of_zero_le a1
  obtain ⟨T, rfl⟩ := Int.eq_ofNat_of_zero_le b1
  have hS : S ≤ 4095 := by omega
  have hT : T ≤ 4095 := by omega
  have h3 : S ^^^ T < 2 ^ 12 := Nat.xor_lt_two_pow (by omega) (by omega)
  obtain ⟨c1, c2⟩ := cnt_word (S ^^^ T) (by omega)
  refine ⟨S, T, cntN (S ^^^ T) 16, c1, rfl, rfl, apart_nat S T hS hT, ?_, ?_, ?_⟩
  · rw [apart_nat T S hT hS, Nat.xor_comm]
  · rw [apart_nat S S hS hS, Nat.xor_self, cntN_none]; rfl
  · by_cases e : S = T
    · exact .inl ⟨e, by rw [c2, e, Nat.xor_self]⟩
    · refine .inr ⟨?_, ?_⟩
      · rcases Nat.eq_zero_or_pos (cntN (S ^^^ T) 16) with z | z
        · exact absurd (xor_zero_eq (c2.1 z)) e
        · exact z
      · simp; omega
end Go.Proofs.Ythgcjnieajoceaa
