/- Plain facts on chapter 11: values that fit, the number that they are packed into, the values of a number. -/
import Derived.Test.YtofolifmgpgkoaaBits
namespace Go.Proofs.Ytofolifmgpgkoaa

/-- Values fit. -/
def smB (xs : List Int) : Bool := decide (xs.length ≤ 4 ∧ ∀ x ∈ xs, 0 ≤ x ∧ x ≤ 15)
/-- The digits behind a number. -/
def smAcc (c : Int) (xs : List Int) : Int := xs.foldl (fun a x => 16 * a + x) c
/-- What values are packed into. -/
def smV (xs : List Int) : Int := if smB xs = true then smAcc (xs.length : Nat) xs else -1
/-- A number without its last k digits. -/
def smQ (n : Int) : Nat → Int
  | 0 => n
  | k + 1 => (smQ n k).tdiv 16
/-- The last k digits of a number. -/
def smDig (n : Int) : Nat → List Int
  | 0 => []
  | k + 1 => (smQ n k).tmod 16 :: smDig n k
/-- The values that a number is packed out of. -/
def smOut (n : Int) : List Int × Bool :=
  match (List.range 5).find? (fun k => decide (smQ n k = (k : Int))) with
  | some k => (smDig n k, true)
  | none => ([], false)

theorem smB_iff {xs : List Int} : smB xs = true ↔ xs.length ≤ 4 ∧ ∀ x ∈ xs, 0 ≤ x ∧ x ≤ 15 := by simp [smB]
theorem smB_long {xs : List Int} (h : 4 < xs.length) : smB xs = false := by
  cases e : smB xs
  · rfl
  · have := (smB_iff.1 e).1; omega
theorem smB_bad {xs : List Int} {i : Nat} {x : Int} (h : xs[i]? = some x) (hx : x < 0 ∨ 15 < x) : smB xs = false := by
  cases e : smB xs
  · rfl
  · have := (smB_iff.1 e).2 x (List.mem_of_getElem? h); omega
theorem smB_all {xs : List Int} (hl : xs.length ≤ 4) (h : ∀ j x, j < xs.length → xs[j]? = some x → 0 ≤ x ∧ x ≤ 15) : smB xs = true :=
  smB_iff.2 ⟨hl, fun x hx => by
    obtain ⟨j, hj, e⟩ := List.getElem_of_mem hx
    exact h j x hj (by rw [List.getElem?_eq_getElem hj, e])⟩
theorem smB_cons (x : Int) (hx : 15 < x) (xs : List Int) : smB (x :: xs) = false := smB_bad (i := 0) (x := x) rfl (.inr hx)
theorem smB_take {xs : List Int} (h : smB xs = true) (m : Nat) : smB (xs.take m) = true :=
  smB_iff.2 ⟨by have := (smB_iff.1 h).1; rw [List.length_take]; omega, fun x hx => (smB_iff.1 h).2 x (List.mem_of_mem_take hx)⟩
theorem smAcc_snoc (c : Int) (xs : List Int) (x : Int) : smAcc c (xs ++ [x]) = 16 * smAcc c xs + x := by simp [smAcc]
theorem smAcc_take (c : Int) {xs : List Int} {k : Nat} {x : Int} (h : xs[k]? = some x) : smAcc c (xs.take (k + 1)) = 16 * smAcc c (xs.take k) + x := by
  rw [List.take_add_one, h]
  exact smAcc_snoc _ _ _
theorem smAcc_ge {c : Int} {xs : List Int} (h0 : 0 ≤ c) (hx : ∀ x ∈ xs, 0 ≤ x ∧ x ≤ 15) : c ≤ smAcc c xs := by
  induction xs generalizing c with
  | nil => exact Int.le_refl _
  | cons x xs ih =>
    have h1 := hx x (by simp)
    have h2 := ih (c := 16 * c + x) (by omega) fun y hy => hx y (by simp [hy])
    have e : smAcc c (x :: xs) = smAcc (16 * c + x) xs := rfl
    omega
theorem smAcc_le {c : Int} {xs : List Int} {k : Nat} (hk : k ≤ 4) (h0 : 0 ≤ c) (h4 : c ≤ 4) (hx : ∀ x ∈ xs, 0 ≤ x ∧ x ≤ 15) : 0 ≤ smAcc c (xs.take k) ∧ smAcc c (xs.take k) ≤ 327679 := by
  have hm : ∀ x ∈ xs.take k, 0 ≤ x ∧ x ≤ 15 := fun x h => hx x (List.mem_of_mem_take h)
  have hl : (xs.take k).length ≤ 4 := by rw [List.length_take]; omega
  generalize xs.take k = ys at hm hl
  match ys, hl, hm with
  | [], _, _ => simp [smAcc]; omega
  | [a], _, hm => have ha := hm a (by simp); simp [smAcc]; omega
  | [a, b], _, hm => have ha := hm a (by simp); have hb := hm b (by simp); simp [smAcc]; omega
  | [a, b, c'], _, hm => have ha := hm a (by simp); have hb := hm b (by simp); have hc := hm c' (by simp); simp [smAcc]; omega
  | [a, b, c', d], _, hm => have ha := hm a (by simp); have hb := hm b (by simp); have hc := hm c' (by simp); have hd := hm d (by simp); simp [smAcc]; omega
  | a :: b :: c' :: d :: e :: l, hl, _ => simp at hl
theorem smV_yes {xs : List Int} (h : smB xs = true) : smV xs = smAcc (xs.length : Nat) xs := by simp [smV, h]
theorem smV_no {xs : List Int} (h : smB xs = false) : smV xs = -1 := by simp [smV, h]
theorem smV_range (xs : List Int) : -1 ≤ smV xs ∧ smV xs ≤ 327679 := by
  cases h : smB xs
  · rw [smV_no h]; omega
  · have h1 := smB_iff.1 h
    have h2 := smAcc_le (c := (xs.length : Nat)) (Nat.le_refl 4) (by omega) (by omega) h1.2
    rw [List.take_of_length_le h1.1] at h2
    rw [smV_yes h]; omega
theorem smV_pos {xs : List Int} (h : smB xs = true) : 0 ≤ smV xs := by
  rw [smV_yes h]
  have := smAcc_ge (c := (xs.length : Nat)) (by omega) (smB_iff.1 h).2
  omega
theorem q_up {a x : Int} (h : 0 ≤ a) (h0 : 0 ≤ x) (h1 : x ≤ 15) : (16 * a + x).tdiv 16 = a ∧ (16 * a + x).tmod 16 = x := by
  rw [Int.tdiv_eq_ediv_of_nonneg (by omega), Int.tmod_eq_emod_of_nonneg (by omega)]
  omega
theorem smQ_pos {n : Int} (h : 0 ≤ n) (k : Nat) : 0 ≤ smQ n k := by
  induction k with
  | zero => exact h
  | succ k ih => rw [smQ, Int.tdiv_eq_ediv_of_nonneg ih]; omega
theorem tdiv_neg16 {x : Int} (h : x ≤ 0) : x ≤ x.tdiv 16 ∧ x.tdiv 16 ≤ 0 := by
  have e : x.tdiv 16 = -((-x) / 16) := by
    rw [← Int.tdiv_eq_ediv_of_nonneg (show 0 ≤ -x by omega), Int.neg_tdiv, Int.neg_neg]
  omega
theorem smQ_in {n : Int} (h : -9223372036854775808 ≤ n ∧ n ≤ 9223372036854775807) (k : Nat) : -9223372036854775808 ≤ smQ n k ∧ smQ n k ≤ 9223372036854775807 := by
  induction k with
  | zero => exact h
  | succ k ih =>
    rw [smQ]
    rcases Int.le_total 0 (smQ n k) with h0 | h0
    · rw [Int.tdiv_eq_ediv_of_nonneg h0]; omega
    · have := tdiv_neg16 h0; omega
theorem smQ_neg {n : Int} (h : n < 0) (k : Nat) : smQ n k ≤ 0 := by
  induction k with
  | zero => exact Int.le_of_lt h
  | succ k ih => exact (tdiv_neg16 ih).2
theorem smQ_neg_ne {n : Int} (h : n < 0) (k : Nat) : smQ n k ≠ (k : Int) := by
  have h1 := smQ_neg h k
  cases k with
  | zero => exact fun e => by have e' : n = 0 := e; omega
  | succ k => omega
theorem smDig_length (n : Int) (k : Nat) : (smDig n k).length = k := by
  induction k with
  | zero => rfl
  | succ k ih => simp [smDig, ih]
theorem smDig_in {n : Int} (h : 0 ≤ n) (k : Nat) : ∀ x ∈ smDig n k, 0 ≤ x ∧ x ≤ 15 := by
  induction k with
  | zero => intro x hx; simp [smDig] at hx
  | succ k ih =>
    intro x hx
    rcases List.mem_cons.1 hx with rfl | hx
    · rw [Int.tmod_eq_emod_of_nonneg (smQ_pos h k)]; omega
    · exact ih x hx
theorem smAcc_dig (n : Int) (k : Nat) : smAcc (smQ n k) (smDig n k) = n := by
  induction k with
  | zero => rfl
  | succ k ih =>
    have e : smAcc (smQ n (k + 1)) (smDig n (k + 1)) = smAcc (16 * smQ n (k + 1) + (smQ n k).tmod 16) (smDig n k) := rfl
    rw [e, smQ, Int.mul_tdiv_add_tmod, ih]
theorem smV_dig {n : Int} {k : Nat} (h0 : 0 ≤ n) (hk : k ≤ 4) (h : smQ n k = (k : Int)) : smV (smDig n k) = n := by
  rw [smV_yes (smB_iff.2 ⟨by rw [smDig_length]; exact hk, smDig_in h0 k⟩), smDig_length, ← h, smAcc_dig]
theorem smOut_hit {n : Int} {k : Nat} (hk : k ≤ 4) (hne : ∀ j, j < k → smQ n j ≠ (j : Int)) (h : smQ n k = (k : Int)) : smOut n = (smDig n k, true) := by
  have e : (List.range 5).find? (fun k => decide (smQ n k = (k : Int))) = some k :=
    List.find?_range_eq_some.2 ⟨by simp [h], by simp; omega, fun j hj => by simp [hne j hj]⟩
  rw [smOut, e]
theorem smOut_none {n : Int} (hne : ∀ j, j < 5 → smQ n j ≠ (j : Int)) : smOut n = ([], false) := by
  have e : (List.range 5).find? (fun k => decide (smQ n k = (k : Int))) = none :=
    List.find?_range_eq_none.2 fun j hj => by simp [hne j hj]
  rw [smOut, e]
theorem smOut_cases {n : Int} {X : List Int} {r : Bool} (h : smOut n = (X, r)) : X.length ≤ 4 ∧ ((r = false ∧ X = []) ∨ (r = true ∧ smV X = n)) := by
  unfold smOut at h
  split at h
  · rename_i k e
    have e' := List.find?_range_eq_some.1 e
    have hk : smQ n k = (k : Int) := by simpa using e'.1
    have hk5 : k < 5 := by simpa using e'.2.1
    injection h with h1 h2
    subst h1; subst h2
    refine ⟨by rw [smDig_length]; omega, .inr ⟨rfl, ?_⟩⟩
    rcases Int.lt_or_le n 0 with hn | hn
    · exact absurd hk (smQ_neg_ne hn k)
    · exact smV_dig hn (by omega) hk
  · injection h with h1 h2
    subst h1; subst h2
    exact ⟨Nat.zero_le _, .inl ⟨rfl, rfl⟩⟩
theorem acc_q {c : Int} (h0 : 0 ≤ c) : ∀ (ys xs : List Int), (∀ x ∈ xs ++ ys, 0 ≤ x ∧ x ≤ 15) → smQ (smAcc c (xs ++ ys)) ys.length = smAcc c xs ∧ smDig (smAcc c (xs ++ ys)) ys.length = ys
  | [], xs, _ => by simp [smQ, smDig]
  | y :: ys, xs, h => by
    have e : xs ++ y :: ys = (xs ++ [y]) ++ ys := by simp
    have ih := acc_q h0 ys (xs ++ [y]) (by rw [← e]; exact h)
    have hy := h y (by simp)
    have ha : 0 ≤ smAcc c xs := Int.le_trans h0 (smAcc_ge h0 fun x hx => h x (by simp [hx]))
    have hq := q_up ha hy.1 hy.2
    rw [e]
    simp only [List.length_cons, smQ, smDig, ih.1, ih.2, smAcc_snoc, hq.1, hq.2]
    exact ⟨trivial, trivial⟩
/-- Packed values are found again. -/
theorem smOut_pack {xs : List Int} (h : smB xs = true) : smOut (smV xs) = (xs, true) := by
  have h1 := smB_iff.1 h
  have hL : (0 : Int) ≤ (xs.length : Nat) := by omega
  have key := acc_q hL xs [] (by simpa using h1.2)
  rw [List.nil_append] at key
  rw [smV_yes h]
  have := smOut_hit (n := smAcc (xs.length : Nat) xs) h1.1 (fun j hj e => ?_) key.1
  · rw [this, key.2]
  · have hsp : xs.take (xs.length - j) ++ xs.drop (xs.length - j) = xs := List.take_append_drop _ _
    have k2 := acc_q hL (xs.drop (xs.length - j)) (xs.take (xs.length - j)) (by rw [hsp]; exact h1.2)
    rw [hsp, List.length_drop, show xs.length - (xs.length - j) = j by omega] at k2
    have hne : (xs.take (xs.length - j)).length = xs.length - j := by rw [List.length_take]; omega
    have hm : ∀ x ∈ xs.take (xs.length - j), 0 ≤ x ∧ x ≤ 15 := fun x hx => h1.2 x (List.mem_of_mem_take hx)
    have k1 := k2.1
    generalize xs.take (xs.length - j) = zs at hne hm k1
    cases zs with
    | nil => simp at hne; omega
    | cons z zs =>
      have hz := hm z (by simp)
      have g := smAcc_ge (c := 16 * (xs.length : Nat) + z) (xs := zs) (by omega) fun x hx => hm x (by simp [hx])
      have e2 : smAcc (xs.length : Nat) (z :: zs) = smAcc (16 * (xs.length : Nat) + z) zs := rfl
      omega
end Go.Proofs.Ytofolifmgpgkoaa
