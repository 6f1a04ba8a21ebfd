/- Plain facts on chapter 15: heats, kinds of heat, rounds, how many rounds a file takes to be cold. -/
import Derived.Test.YtofolifmgpgkoaaBits
namespace Go.Proofs.Ytofolifmgpgkoaa

/-- A heat. -/
def heatB (h : Int) : Bool := decide (0 ≤ h) && decide (h ≤ 1000)
/-- Writes of a round. -/
def rndB (n : Int) : Bool := decide (0 ≤ n) && decide (n ≤ 100)
/-- The heat behind a round. -/
def stepV (h n : Int) : Int := if heatB h = true ∧ rndB n = true then (if 1000 < h / 2 + 10 * n then 1000 else h / 2 + 10 * n) else -1
/-- The kind of a heat. -/
def kindV (h : Int) : Int := if heatB h = true then (if 100 ≤ h then 0 else if 10 ≤ h then 1 else 2) else -1
/-- The heat behind rounds. -/
def heatTo (xs : List Int) : Int := xs.foldl stepV 0
def runV (xs : List Int) : Int := if 40 < xs.length then -1 else heatTo xs
/-- Rounds until a file is cold, f at most. -/
def coolF : Nat → Nat → Nat
  | 0, _ => 0
  | f + 1, h => if h < 10 then 0 else coolF f (h / 2) + 1
def coolV (h : Int) : Int := if heatB h = true then (coolF 10 h.toNat : Nat) else -1

theorem heatB_iff {h : Int} : heatB h = true ↔ 0 ≤ h ∧ h ≤ 1000 := by simp [heatB]
theorem heatB_no {h : Int} (e : heatB h = false) : h < 0 ∨ 1000 < h := by
  rcases Int.lt_or_le h 0 with h1 | h1
  · exact .inl h1
  · rcases Int.lt_or_le 1000 h with h2 | h2
    · exact .inr h2
    · rw [heatB_iff.2 ⟨h1, h2⟩] at e; cases e
theorem rndB_iff {n : Int} : rndB n = true ↔ 0 ≤ n ∧ n ≤ 100 := by simp [rndB]
theorem rndB_no {n : Int} (e : rndB n = false) : n < 0 ∨ 100 < n := by
  rcases Int.lt_or_le n 0 with h1 | h1
  · exact .inl h1
  · rcases Int.lt_or_le 100 n with h2 | h2
    · exact .inr h2
    · rw [rndB_iff.2 ⟨h1, h2⟩] at e; cases e
theorem step_no {h n : Int} (e : heatB h = false ∨ rndB n = false) : stepV h n = -1 := by
  unfold stepV
  rw [if_neg]
  rintro ⟨h1, h2⟩
  rcases e with e | e
  · rw [h1] at e; cases e
  · rw [h2] at e; cases e
theorem step_top {h n : Int} (h1 : heatB h = true) (h2 : rndB n = true) (h3 : 1000 < h / 2 + 10 * n) : stepV h n = 1000 := by
  unfold stepV
  rw [if_pos ⟨h1, h2⟩, if_pos h3]
theorem step_topE {h n : Int} (h1 : heatB h = true) (h2 : rndB n = true) (h3 : 1000 ≤ h / 2 + 10 * n) : stepV h n = 1000 := by
  unfold stepV
  rw [if_pos ⟨h1, h2⟩]
  split <;> omega
theorem step_in {h n : Int} (h1 : heatB h = true) (h2 : rndB n = true) (h3 : h / 2 + 10 * n ≤ 1000) : stepV h n = h / 2 + 10 * n := by
  unfold stepV
  rw [if_pos ⟨h1, h2⟩, if_neg (by omega)]
theorem step_range (h n : Int) : -1 ≤ stepV h n ∧ stepV h n ≤ 1000 := by
  unfold stepV
  split
  · rename_i hh
    have h1 := heatB_iff.1 hh.1
    have h2 := rndB_iff.1 hh.2
    split <;> omega
  · omega
theorem step_heat {h n : Int} (h1 : heatB h = true) (h2 : rndB n = true) : 0 ≤ stepV h n ∧ stepV h n ≤ 1000 := by
  have a := heatB_iff.1 h1
  have b := rndB_iff.1 h2
  by_cases h3 : 1000 < h / 2 + 10 * n
  · rw [step_top h1 h2 h3]; omega
  · rw [step_in h1 h2 (by omega)]; omega
/-- A write more is never less heat. -/
theorem step_more {h n : Int} (h1 : heatB h = true) (h2 : rndB n = true) (h3 : n ≠ 100) : stepV h n ≤ stepV h (n + 1) := by
  have a := heatB_iff.1 h1
  have b := rndB_iff.1 h2
  have h4 : rndB (n + 1) = true := rndB_iff.2 ⟨by omega, by omega⟩
  have e1 : stepV h n = if 1000 < h / 2 + 10 * n then 1000 else h / 2 + 10 * n := if_pos (And.intro h1 h2)
  have e2 : stepV h (n + 1) = if 1000 < h / 2 + 10 * (n + 1) then 1000 else h / 2 + 10 * (n + 1) := if_pos (And.intro h1 h4)
  rw [e1, e2]
  split <;> split <;> omega
theorem step_neg (n : Int) : stepV (-1) n = -1 := step_no (.inl rfl)
theorem step_zero {h : Nat} (h1 : h ≤ 1000) : stepV h 0 = ((h / 2 : Nat) : Int) := by
  rw [step_in (heatB_iff.2 ⟨by omega, by omega⟩) rfl (by omega)]
  omega

theorem kind_no {h : Int} (e : heatB h = false) : kindV h = -1 := by
  unfold kindV
  rw [if_neg (by rw [e]; decide)]
theorem kind_hot {h : Int} (e : heatB h = true) (h1 : 100 ≤ h) : kindV h = 0 := by
  unfold kindV
  rw [if_pos e, if_pos h1]
theorem kind_warm {h : Int} (e : heatB h = true) (h1 : h < 100) (h2 : 10 ≤ h) : kindV h = 1 := by
  unfold kindV
  rw [if_pos e, if_neg (by omega), if_pos h2]
theorem kind_cold {h : Int} (e : heatB h = true) (h2 : h < 10) : kindV h = 2 := by
  unfold kindV
  rw [if_pos e, if_neg (by omega), if_neg (by omega)]
theorem kind_in {h : Int} (e : heatB h = true) : 0 ≤ kindV h ∧ kindV h ≤ 2 := by
  unfold kindV
  rw [if_pos e]
  split
  · omega
  · split <;> omega
theorem kind_not {h : Int} (e : heatB h = true) (h2 : 10 ≤ h) : (kindV h != 2) = true := by
  have : kindV h ≠ 2 := by
    unfold kindV
    rw [if_pos e]
    split
    · omega
    · omega
  simpa using this
/-- One more is never colder. -/
theorem kind_more {h : Int} (e : heatB h = true) (h1 : h ≠ 1000) : kindV (h + 1) ≤ kindV h := by
  have a := heatB_iff.1 e
  have e2 : heatB (h + 1) = true := heatB_iff.2 ⟨by omega, by omega⟩
  rcases Int.lt_or_le h 9 with h2 | h2
  · rw [kind_cold e (by omega), kind_cold e2 (by omega)]; omega
  · rcases Int.lt_or_le h 10 with h3 | h3
    · rw [kind_cold e h3]; exact (kind_in e2).2
    · rcases Int.lt_or_le h 99 with h4 | h4
      · rw [kind_warm e (by omega) h3, kind_warm e2 (by omega) (by omega)]; omega
      · rw [kind_hot e2 (by omega)]; exact (kind_in e).1

theorem heat_take {xs : List Int} {k : Nat} {x : Int} (h : xs[k]? = some x) : heatTo (xs.take (k + 1)) = stepV (heatTo (xs.take k)) x := by
  unfold heatTo
  rw [List.take_add_one, h, Option.toList_some, List.foldl_append]
  rfl
theorem heat_range (xs : List Int) : -1 ≤ heatTo xs ∧ heatTo xs ≤ 1000 := by
  rcases List.eq_nil_or_concat xs with rfl | ⟨ys, y, rfl⟩
  · exact ⟨by decide, by decide⟩
  · unfold heatTo
    rw [List.concat_eq_append, List.foldl_append]
    exact step_range _ _
/-- After a wrong round there is no heat. -/
theorem heat_bad (xs : List Int) (k : Nat) (h : heatTo (xs.take k) = -1) : heatTo xs = -1 := by
  have e : ∀ ys : List Int, ys.foldl stepV (-1) = -1 := by
    intro ys
    induction ys with
    | nil => rfl
    | cons y r ih => rw [List.foldl_cons, step_neg, ih]
  unfold heatTo at h ⊢
  rw [← List.take_append_drop k xs, List.foldl_append, h, e]
theorem run_long {xs : List Int} (h : 40 < xs.length) : runV xs = -1 := by
  unfold runV
  rw [if_pos h]
theorem run_yes {xs : List Int} (h : ¬ 40 < xs.length) : runV xs = heatTo xs := by
  unfold runV
  rw [if_neg h]
theorem run_range (xs : List Int) : -1 ≤ runV xs ∧ runV xs ≤ 1000 := by
  have := heat_range xs
  unfold runV
  split <;> omega
/-- The last round is one more step. -/
theorem run_last {xs : List Int} {n : Nat} {x V : Int} (hl : xs.length = n + 1) (hx : xs[n]? = some x) (hV : runV xs = V) (h0 : ¬ V < 0) : stepV (runV (xs.take n)) x = V := by
  by_cases h : 40 < xs.length
  · rw [run_long h] at hV; omega
  · rw [run_yes h] at hV
    rw [run_yes (by rw [List.length_take]; omega), ← heat_take hx, List.take_of_length_le (by omega)]
    exact hV

/-- The state of a file that cools: k rounds went by, its heat is m. -/
def CoolSt (h k m : Nat) : Prop := k ≤ 7 ∧ m * 2 ^ k ≤ 1000 ∧ k + coolF (10 - k) m = coolF 10 h
theorem CoolSt.start {h : Nat} (hh : h ≤ 1000) : CoolSt h 0 h := ⟨by omega, by simpa using hh, by simp⟩
theorem CoolSt.le {h k m : Nat} (c : CoolSt h k m) : m ≤ 1000 := Nat.le_trans (Nat.le_mul_of_pos_right m (Nat.two_pow_pos k)) c.2.1
theorem coolF_hot {f m : Nat} (h : 10 ≤ m) : coolF (f + 1) m = coolF f (m / 2) + 1 := by
  show (if m < 10 then 0 else coolF f (m / 2) + 1) = _
  rw [if_neg (by omega)]
theorem coolF_cold {f m : Nat} (h : m < 10) : coolF f m = 0 := by
  cases f with
  | zero => rfl
  | succ f =>
    show (if m < 10 then 0 else coolF f (m / 2) + 1) = _
    rw [if_pos h]
theorem CoolSt.step {h k m : Nat} (c : CoolSt h k m) (hm : 10 ≤ m) : CoolSt h (k + 1) (m / 2) := by
  have hk : k < 7 := by
    rcases Nat.lt_or_ge k 7 with h1 | h1
    · exact h1
    · exfalso
      have h2 : 2 ^ 7 ≤ 2 ^ k := Nat.pow_le_pow_right (by decide) h1
      have h3 := Nat.mul_le_mul hm h2
      have h4 := c.2.1
      omega
  refine ⟨hk, ?_, ?_⟩
  · have h1 : m / 2 * 2 ≤ m := by omega
    have h2 := Nat.mul_le_mul_right (2 ^ k) h1
    rw [Nat.pow_succ, Nat.mul_comm (2 ^ k) 2, ← Nat.mul_assoc]
    exact Nat.le_trans h2 c.2.1
  · have h1 := c.2.2
    rw [show 10 - k = (10 - (k + 1)) + 1 by omega, coolF_hot hm] at h1
    omega
theorem CoolSt.done {h k m : Nat} (c : CoolSt h k m) (hm : m < 10) : coolF 10 h = k := by
  have h1 := c.2.2
  rw [coolF_cold hm] at h1
  omega
theorem CoolSt.hot {h k m : Nat} (c : CoolSt h k m) (hk : k < coolF 10 h) : 10 ≤ m := by
  rcases Nat.lt_or_ge m 10 with h1 | h1
  · have := c.done h1; omega
  · exact h1
theorem CoolSt.cold {h k m : Nat} (c : CoolSt h k m) (hk : coolF 10 h ≤ k) : m < 10 := by
  rcases Nat.lt_or_ge m 10 with h1 | h1
  · exact h1
  · have h2 := c.2.2
    have h3 := c.1
    rw [show 10 - k = (10 - (k + 1)) + 1 by omega, coolF_hot h1] at h2
    omega
theorem CoolSt.most {h k m : Nat} (c : CoolSt h k m) : coolF 10 h ≤ 7 := by
  rcases Nat.lt_or_ge 7 (coolF 10 h) with h1 | h1
  · exfalso
    have h2 := c.hot (Nat.lt_of_le_of_lt c.1 h1)
    have h3 := c.step h2
    have key : ∀ d k m : Nat, d = 7 - k → CoolSt h k m → 7 < coolF 10 h → False := by
      intro d
      induction d with
      | zero =>
        intro k m hd c h1
        have h2 := c.hot (Nat.lt_of_le_of_lt c.1 h1)
        have h3 := (c.step h2).1
        omega
      | succ d ih =>
        intro k m hd c h1
        have h2 := c.hot (Nat.lt_of_le_of_lt c.1 h1)
        exact ih (k + 1) (m / 2) (by omega) (c.step h2) h1
    exact key _ k m rfl c h1
  · exact h1
theorem cool_no {h : Int} (e : heatB h = false) : coolV h = -1 := by
  unfold coolV
  rw [if_neg (by rw [e]; decide)]
theorem cool_yes {h : Nat} (hh : h ≤ 1000) : coolV h = (coolF 10 h : Nat) := by
  unfold coolV
  rw [if_pos (heatB_iff.2 ⟨by omega, by omega⟩), Int.toNat_natCast]
end Go.Proofs.Ytofolifmgpgkoaa
