/- Plain facts about words of 12 bits that repair a wrong one; nothing here speaks of the program. -/
import Derived.Test.YthgcjnieajoceaaPlain
namespace Go.Proofs.Ythgcjnieajoceaa
open Go.RowKit

/-- Whether a number is data, a word, a place. -/
def dataB (n : Int) : Bool := decide (0 ≤ n) && decide (n ≤ 255)
def wordB (n : Int) : Bool := decide (0 ≤ n) && decide (n ≤ 4095)
def placeB (n : Int) : Bool := decide (1 ≤ n) && decide (n ≤ 12)
theorem dataB_iff {n : Int} : dataB n = true ↔ 0 ≤ n ∧ n ≤ 255 := by simp [dataB]
theorem wordB_iff {n : Int} : wordB n = true ↔ 0 ≤ n ∧ n ≤ 4095 := by simp [wordB]
theorem placeB_iff {n : Int} : placeB n = true ↔ 1 ≤ n ∧ n ≤ 12 := by simp [placeB]

/-- The places up to k of the bits that a word has, together. -/
def plN (W : Nat) : Nat → Nat
  | 0 => 0
  | k + 1 => if W.testBit k then plN W k ^^^ (k + 1) else plN W k
/-- The place of a bit of data. -/
def dp (k : Nat) : Nat := if k < 1 then 3 else if k < 4 then k + 4 else k + 5
/-- The word with the first k bits of data. -/
def wodN (D : Nat) : Nat → Nat
  | 0 => 0
  | k + 1 => putN (wodN D k) (dp k - 1) (D.testBit k)
/-- The same as the model makes it. -/
def spW (D : Nat) : Nat → Nat
  | 0 => 0
  | k + 1 => spW D k ||| (D / 2 ^ k % 2 * 2 ^ (dp k - 1))
/-- The word with its first k checking bits. -/
def cwF (W s : Nat) : Nat → Nat
  | 0 => W
  | k + 1 => if s.testBit k then cwF W s k ^^^ 2 ^ (2 ^ k - 1) else cwF W s k
def cwG (W s : Nat) : Nat → Nat
  | 0 => W
  | k + 1 => cwG W s k ||| (s / 2 ^ k % 2 * 2 ^ (2 ^ k - 1))
/-- CodeWord. -/
def cwN (D : Nat) : Nat := cwF (wodN D 8) (plN (wodN D 8) 12) 4
def codeV (d : Int) : Int := if dataB d then (cwN d.toNat : Int) else -1
/-- FlipBit. -/
def flipV (w p : Int) : Int := if wordB w && placeB p then ((w.toNat ^^^ 2 ^ (p.toNat - 1) : Nat) : Int) else -1
/-- The first k bits of data of a word. -/
def dataN (W : Nat) : Nat → Nat
  | 0 => 0
  | k + 1 => putN (dataN W k) k (W.testBit (dp k - 1))
def daS (W : Nat) : Nat → Nat
  | 0 => 0
  | k + 1 => daS W k ||| (W / 2 ^ (dp k - 1) % 2 * 2 ^ k)
/-- The word with the wrong bit flipped. -/
def mendN (W : Nat) : Nat := if plN W 12 = 0 then W else W ^^^ 2 ^ (plN W 12 - 1)
/-- FixWord. -/
def fixB (w : Int) : Bool := wordB w && decide (plN w.toNat 12 ≤ 12)
def fixD (w : Int) : Int := if fixB w then (dataN (mendN w.toNat) 8 : Int) else -1
def fixP (w : Int) : Int := if fixB w then (plN w.toNat 12 : Int) else -1
/-- WordsApart. -/
def apartV (a b : Int) : Int := if wordB a && wordB b then countV ((a.toNat ^^^ b.toNat : Nat) : Int) else -1

theorem dp_bd (k : Nat) (h : k ≤ 7) : 3 ≤ dp k ∧ dp k ≤ 12 := by unfold dp; split <;> (try split) <;> omega
theorem plN_lt (W k : Nat) (h : k ≤ 12) : plN W k < 16 := by
  induction k with
  | zero => simp [plN]
  | succ k ih =>
    unfold plN
    split
    · exact Nat.xor_lt_two_pow (n := 4) (ih (by omega)) (by omega)
    · exact ih (by omega)
theorem pow_le_11 (k : Nat) (h : k ≤ 11) : 0 < 2 ^ k ∧ 2 ^ k ≤ 2048 := ⟨Nat.two_pow_pos k, Nat.pow_le_pow_right (by decide) (by omega : k ≤ 11)⟩
theorem xor_word (W k : Nat) (hW : W ≤ 4095) (hk : k ≤ 11) : W ^^^ 2 ^ k ≤ 4095 := by
  have := pow_le_11 k hk
  have : W ^^^ 2 ^ k < 2 ^ 12 := Nat.xor_lt_two_pow (by omega) (by omega)
  omega
theorem or_bits (W b k n : Nat) (hW : W < 2 ^ n) (hk : k < n) : W ||| (b % 2 * 2 ^ k) < 2 ^ n := by
  refine Nat.or_lt_two_pow hW ?_
  have h1 : 2 ^ k < 2 ^ n := Nat.pow_lt_pow_right (by decide) hk
  have h2 : b % 2 * 2 ^ k ≤ 1 * 2 ^ k := Nat.mul_le_mul_right _ (by omega)
  omega
theorem wodN_le (D k : Nat) (hk : k ≤ 8) : wodN D k ≤ 4095 := by
  induction k with
  | zero => simp [wodN]
  | succ k ih =>
    have hb := dp_bd k (by omega)
    have hi := ih (by omega)
    have hp := pow_le_11 (dp k - 1) (by omega)
    unfold wodN putN
    split
    · have : wodN D k ||| 2 ^ (dp k - 1) < 2 ^ 12 := Nat.or_lt_two_pow (by omega) (by omega)
      omega
    · have := @Nat.and_le_left (wodN D k) (65535 - 2 ^ (dp k - 1))
      omega
theorem spW_le (D k : Nat) (hk : k ≤ 8) : spW D k ≤ 4095 := by
  induction k with
  | zero => simp [spW]
  | succ k ih =>
    have hb := dp_bd k (by omega)
    have hi := ih (by omega)
    have := or_bits (spW D k) (D / 2 ^ k) (dp k - 1) 12 (by omega) (by omega)
    unfold spW
    omega
theorem pow2_bd (k : Nat) (h : k ≤ 3) : 1 ≤ 2 ^ k ∧ 2 ^ k ≤ 8 := by
  have := Nat.two_pow_pos k
  exact ⟨by omega, Nat.pow_le_pow_right (by decide) h⟩
theorem cwF_le (W s k : Nat) (hW : W ≤ 4095) (hk : k ≤ 4) : cwF W s k ≤ 4095 := by
  induction k with
  | zero => simpa [cwF] using hW
  | succ k ih =>
    have hb := pow2_bd k (by omega)
    have hi := ih (by omega)
    unfold cwF
    split
    · exact xor_word _ _ hi (by omega)
    · exact hi
theorem cwG_le (W s k : Nat) (hW : W ≤ 4095) (hk : k ≤ 4) : cwG W s k ≤ 4095 := by
  induction k with
  | zero => simpa [cwG] using hW
  | succ k ih =>
    have hb := pow2_bd k (by omega)
    have hi := ih (by omega)
    have := or_bits (cwG W s k) (s / 2 ^ k) (2 ^ k - 1) 12 (by omega) (by omega)
    unfold cwG
    omega
theorem dataN_le (W k : Nat) (hk : k ≤ 8) : dataN W k ≤ 255 := by
  induction k with
  | zero => simp [dataN]
  | succ k ih =>
    have hi := ih (by omega)
    have hp : 2 ^ k ≤ 2 ^ 7 := Nat.pow_le_pow_right (by decide) (by omega)
    unfold dataN putN
    split
    · have : dataN W k ||| 2 ^ k < 2 ^ 8 := Nat.or_lt_two_pow (by omega) (by omega)
      omega
    · have := @Nat.and_le_left (dataN W k) (65535 - 2 ^ k)
      omega
theorem daS_le (W k : Nat) (hk : k ≤ 8) : daS W k ≤ 255 := by
  induction k with
  | zero => simp [daS]
  | succ k ih =>
    have hi := ih (by omega)
    have := or_bits (daS W k) (W / 2 ^ (dp k - 1)) k 8 (by omega) (by omega)
    unfold daS
    omega
theorem put_flip (W k : Nat) (hW : W ≤ 4095) (hk : k ≤ 11) : putN W k (!W.testBit k) = W ^^^ 2 ^ k := by
  apply Nat.eq_of_testBit_eq
  intro j
  by_cases hj : j ≤ 15
  · rw [put_test W k j _ (by omega) hj, Nat.testBit_xor, Nat.testBit_two_pow]
    by_cases e : j = k
    · subst e; simp
    · have e' : ¬ k = j := fun h => e h.symm
      simp [e, e']
  · rw [high_bits _ j (putN_le W k _ (by omega) (by omega)) (by omega), high_bits _ j (by have := xor_word W k hW hk; omega) (by omega)]

theorem plN_flip (W j k : Nat) (hk : k ≤ 12) : plN (W ^^^ 2 ^ j) k = plN W k ^^^ (if j < k then j + 1 else 0) := by
  induction k with
  | zero => simp [plN]
  | succ k ih =>
    have hi := ih (by omega)
    have ht : (W ^^^ 2 ^ j).testBit k = (W.testBit k ^^ decide (j = k)) := by rw [Nat.testBit_xor, Nat.testBit_two_pow]
    unfold plN
    rw [ht, hi]
    by_cases e : j = k
    · subst e
      rw [if_neg (by omega : ¬ j < j), if_pos (by omega : j < j + 1)]
      cases hb : W.testBit j
      · simp
      · simp [Nat.xor_assoc]
    · have e2 : (j < k + 1) ↔ (j < k) := by omega
      cases hb : W.testBit k
      · simp [e, e2]
      · simp only [e, e2, decide_false, Bool.xor_false, if_true]
        rw [Nat.xor_assoc, Nat.xor_assoc, Nat.xor_comm (k + 1)]
theorem dataN_lt (W k : Nat) (hk : k ≤ 8) : dataN W k < 2 ^ k := by
  induction k with
  | zero => simp [dataN]
  | succ k ih =>
    have hi := ih (by omega)
    have hp : 2 ^ (k + 1) = 2 ^ k * 2 := Nat.pow_succ 2 k
    unfold dataN putN
    split
    · exact Nat.or_lt_two_pow (by omega) (by omega)
    · have := @Nat.and_le_left (dataN W k) (65535 - 2 ^ k)
      omega
theorem put_low (X k : Nat) (b : Bool) (hX : X < 2 ^ k) (hk : k ≤ 15) : putN X k b = X ||| (b.toNat * 2 ^ k) := by
  cases b
  · have h1 : X ≤ 65535 := by
      have := pow_bd k hk
      omega
    simp only [Bool.toNat_false, Nat.zero_mul, Nat.or_zero]
    apply Nat.eq_of_testBit_eq
    intro j
    by_cases hj : j ≤ 15
    · rw [put_test X k j _ hk hj]
      split
      · rename_i e
        subst e
        exact (Nat.testBit_lt_two_pow hX).symm
      · rfl
    · rw [high_bits _ j (putN_le X k _ h1 hk) (by omega), high_bits _ j h1 (by omega)]
  · simp [putN]
theorem bit_nat (W j : Nat) : (W.testBit j).toNat = W / 2 ^ j % 2 := by
  rw [Nat.testBit_eq_decide_div_mod_eq]
  rcases Nat.mod_two_eq_zero_or_one (W / 2 ^ j) with h | h <;> simp [h]
theorem data_same (W k : Nat) (hk : k ≤ 8) : daS W k = dataN W k := by
  induction k with
  | zero => rfl
  | succ k ih => rw [daS, dataN, ih (by omega), put_low _ k _ (dataN_lt W k (by omega)) (by omega), bit_nat]
set_option maxRecDepth 100000 in
theorem word_same : ∀ D, D < 256 → cwG (spW D 8) (plN (spW D 8) 12) 4 = cwN D := by decide +kernel
set_option maxRecDepth 100000 in
theorem code_plain : ∀ D, D < 256 → plN (cwN D) 12 = 0 ∧ dataN (cwN D) 8 = D ∧ cwN D ≤ 4095 := by decide +kernel
set_option maxRecDepth 100000 in
theorem zero_code : ∀ W, W < 4096 → plN W 12 = 0 → cwN (dataN W 8) = W := by decide +kernel
theorem code_one (D p : Nat) (hD : D < 256) (hp : p < 12) : plN (cwN D ^^^ 2 ^ p) 12 = p + 1 := by
  rw [plN_flip _ _ 12 (by omega), (code_plain D hD).1, if_pos hp, Nat.zero_xor]
theorem mendN_le (W : Nat) (hW : W ≤ 4095) (h : plN W 12 ≤ 12) : mendN W ≤ 4095 := by
  unfold mendN
  split
  · exact hW
  · exact xor_word W _ hW (by omega)
theorem mend_zero (W : Nat) (h : plN W 12 ≤ 12) : plN (mendN W) 12 = 0 := by
  unfold mendN
  split
  · assumption
  · rw [plN_flip _ _ 12 (by omega), if_pos (by omega : plN W 12 - 1 < 12), (by omega : plN W 12 - 1 + 1 = plN W 12), Nat.xor_self]
theorem fix_code (W : Nat) (hW : W ≤ 4095) (h : plN W 12 ≤ 12) : cwN (dataN (mendN W) 8) = mendN W :=
  zero_code _ (by have := mendN_le W hW h; omega) (mend_zero W h)
/-- How many bits of the first k a number has. -/
def cntN (S : Nat) : Nat → Nat
  | 0 => 0
  | k + 1 => cntN S k + if S.testBit k then 1 else 0
theorem cnt_nat (S : Nat) (hS : S ≤ 65535) (k : Nat) (hk : k ≤ 16) : cnt (S : Int) k = cntN S k := by
  induction k with
  | zero => rfl
  | succ k ih => rw [cnt, cntN, ih (by omega), hasV_nat S k hS (by omega)]
theorem countV_nat (S : Nat) (hS : S ≤ 65535) : countV (S : Int) = (cntN S 16 : Int) := by
  have h1 : setB (S : Int) = true := setB_iff.2 ⟨by omega, by omega⟩
  simp [countV, h1, cnt_nat S hS 16 (by omega)]
set_option maxRecDepth 100000 in
theorem code_apart : ∀ D, D < 256 → 3 ≤ cntN (cwN D ^^^ cwN ((D + 1) % 256)) 16 := by decide +kernel
theorem cnt_pow : ∀ k, k < 12 → cntN (2 ^ k) 16 = 1 := by decide +kernel
theorem cntN_zero (X k : Nat) (h : cntN X k = 0) : ∀ j, j < k → X.testBit j = false := by
  induction k with
  | zero => intro j hj; omega
  | succ k ih =>
    intro j hj
    unfold cntN at h
    by_cases e : j = k
    · subst e
      cases hb : X.testBit j
      · rfl
      · simp [hb] at h
    · exact ih (by omega) j (by omega)
theorem cntN_none (k : Nat) : cntN 0 k = 0 := by
  induction k with
  | zero => rfl
  | succ k ih => simp [cntN, ih]
theorem cntN_le (X k : Nat) : cntN X k ≤ k := by
  induction k with
  | zero => simp [cntN]
  | succ k ih => unfold cntN; split <;> omega
theorem cnt_word (X : Nat) (hX : X ≤ 4095) : cntN X 16 ≤ 12 ∧ (cntN X 16 = 0 ↔ X = 0) := by
  have hb : ∀ j, 12 ≤ j → X.testBit j = false := fun j hj => Nat.testBit_lt_two_pow (by
    have : 2 ^ 12 ≤ 2 ^ j := Nat.pow_le_pow_right (by decide) hj
    omega)
  constructor
  · have e : cntN X 16 = cntN X 12 := by simp [cntN, hb]
    rw [e]; exact cntN_le X 12
  · constructor
    · intro h
      apply Nat.eq_of_testBit_eq
      intro j
      rw [Nat.zero_testBit]
      rcases Nat.lt_or_ge j 12 with hj | hj
      · exact cntN_zero X 16 h j (by omega)
      · exact hb j hj
    · rintro rfl; exact cntN_none 16
end Go.Proofs.Ythgcjnieajoceaa
