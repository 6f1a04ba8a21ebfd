/- The block with the least wear of those with, or without, a written page; the least and the greatest wear of a device, and all of it: what they are. -/
import Derived.Test.YteniikfgellhfaaHeads6
namespace Go.Proofs.Yteniikfgellhfaa
open Go.ChangeShapes Go.WideShapes Go.ChangeAt Go.RowKit
set_option linter.unusedVariables false

/-- Block k is better than the best so far; W: those with a written page are asked for, or those without. -/
def wornOk (W : Bool) (bs : List Bk) (a b h best : Int) (k : Nat) : Bool := match bs[k]? with
  | some q => ((nextV q.m q.ps != 0) == W) && !((k : Int) == a) && !((k : Int) == b) && !((k : Int) == h) && (decide (best < 0) || decide (q.m < wearAt bs best))
  | none => false
/-- The best of the first blocks. -/
def wornTo (W : Bool) (bs : List Bk) (a b h : Int) : Nat → Int
  | 0 => -1
  | k + 1 => if wornOk W bs a b h (wornTo W bs a b h k) k then (k : Int) else wornTo W bs a b h k
def wornV (W : Bool) (bs : List Bk) (a b h : Int) : Int := wornTo W bs a b h bs.length
theorem worn_at {W : Bool} {bs : List Bk} {a b h best : Int} {k : Nat} {m : Int} {A : Option Addr} {c : Nat} {ps : List Pg} (hk : bs[k]? = some ⟨m, A, c, ps⟩) :
    wornOk W bs a b h best k = (((nextV m ps != 0) == W) && !((k : Int) == a) && !((k : Int) == b) && !((k : Int) == h) && (decide (best < 0) || decide (m < wearAt bs best))) := by
  simp [wornOk, hk]
theorem worn_yes {W : Bool} {bs : List Bk} {a b h x : Int} {k : Nat} (hx : wornTo W bs a b h k = x) (h1 : wornOk W bs a b h x k = true) : wornTo W bs a b h (k + 1) = (k : Int) := by
  simp only [wornTo, hx, h1, if_true]
theorem worn_no {W : Bool} {bs : List Bk} {a b h x : Int} {k : Nat} (hx : wornTo W bs a b h k = x) (h1 : wornOk W bs a b h x k = false) : wornTo W bs a b h (k + 1) = x := by
  simp only [wornTo, hx, h1, Bool.false_eq_true, if_false]
theorem worn_facts (W : Bool) (bs : List Bk) (a b h : Int) (k : Nat) : wornTo W bs a b h k = -1 ∨ ∃ i : Nat, wornTo W bs a b h k = (i : Int) ∧ i < k := by
  induction k with
  | zero => exact .inl rfl
  | succ k ih =>
    cases h1 : wornOk W bs a b h (wornTo W bs a b h k) k
    · rw [worn_no rfl h1]
      rcases ih with h2 | ⟨i, h2, h3⟩
      · exact .inl h2
      · exact .inr ⟨i, h2, by omega⟩
    · rw [worn_yes rfl h1]
      exact .inr ⟨k, rfl, by omega⟩
/-- Those without a written page: the fresh ones. -/
theorem wornOk_fresh (bs : List Bk) (a b h best : Int) (k : Nat) : wornOk false bs a b h best k = freshOk bs a b h best k := by
  unfold wornOk freshOk
  cases bs[k]? with
  | none => rfl
  | some q =>
    have e : ((nextV q.m q.ps != 0) == false) = (nextV q.m q.ps == 0) := by cases e2 : (nextV q.m q.ps == 0) <;> simp [bne, e2]
    simp only [e]
theorem wornTo_fresh (bs : List Bk) (a b h : Int) (k : Nat) : wornTo false bs a b h k = freshTo bs a b h k := by
  induction k with
  | zero => rfl
  | succ k ih => simp only [wornTo, freshTo, ih, wornOk_fresh]
theorem worn_fresh (bs : List Bk) (a b h : Int) : wornV false bs a b h = freshV bs a b h := wornTo_fresh bs a b h _
theorem wornOk_same {W : Bool} {bs cs : List Bk} (h : cs.map Bk.is = bs.map Bk.is) (a b h9 best : Int) (k : Nat) : wornOk W cs a b h9 best k = wornOk W bs a b h9 best k := by
  have e := is_get h k
  unfold wornOk
  cases hc : cs[k]? <;> cases hb : bs[k]? <;> rw [hc, hb] at e <;> simp [Bk.is] at e ⊢
  rw [e.1, e.2, wear_same h]
theorem wornTo_same {W : Bool} {bs cs : List Bk} (h : cs.map Bk.is = bs.map Bk.is) (a b h9 : Int) (k : Nat) : wornTo W cs a b h9 k = wornTo W bs a b h9 k := by
  induction k with
  | zero => rfl
  | succ k ih => simp only [wornTo, ih, wornOk_same h]
theorem worn_same {W : Bool} {bs cs : List Bk} (h : cs.map Bk.is = bs.map Bk.is) (a b h9 : Int) : wornV W cs a b h9 = wornV W bs a b h9 := by
  unfold wornV
  rw [wornTo_same h, is_length h]
/-- Block k is one of those that are asked for. -/
def wrB (W : Bool) (a b h : Int) (k : Nat) (q : Bk) : Bool := ((nextV q.m q.ps != 0) == W) && !((k : Int) == a) && !((k : Int) == b) && !((k : Int) == h)
theorem ok_wrB {W : Bool} {bs : List Bk} {a b h best : Int} {k : Nat} {q : Bk} (hq : bs[k]? = some q) : wornOk W bs a b h best k = (wrB W a b h k q && (decide (best < 0) || decide (q.m < wearAt bs best))) := by
  simp [wornOk, hq, wrB]
theorem worn_best (W : Bool) (bs : List Bk) (a b h : Int) (k : Nat) :
    (wornTo W bs a b h k = -1 ∧ ∀ (i : Nat) (q : Bk), i < k → bs[i]? = some q → wrB W a b h i q = false) ∨
    ∃ (i : Nat) (qi : Bk), wornTo W bs a b h k = (i : Int) ∧ i < k ∧ wrB W a b h i qi = true ∧ bs[i]? = some qi ∧ ∀ (j : Nat) (q : Bk), j < k → bs[j]? = some q → wrB W a b h j q = true → qi.m ≤ q.m := by
  induction k with
  | zero => exact .inl ⟨rfl, fun i q hi => by omega⟩
  | succ k ih =>
    cases hq : bs[k]? with
    | none =>
      have h1 : wornOk W bs a b h (wornTo W bs a b h k) k = false := by simp [wornOk, hq]
      rw [worn_no rfl h1]
      rcases ih with ⟨h2, h3⟩ | ⟨i, qi, h2, h3, h4, h5, h6⟩
      · refine .inl ⟨h2, fun i q hi hb => ?_⟩
        rcases Nat.lt_or_ge i k with h7 | h7
        · exact h3 i q h7 hb
        · obtain rfl : i = k := by omega
          rw [hq] at hb; cases hb
      · refine .inr ⟨i, qi, h2, by omega, h4, h5, fun j q hj hb => ?_⟩
        rcases Nat.lt_or_ge j k with h7 | h7
        · exact h6 j q h7 hb
        · obtain rfl : j = k := by omega
          rw [hq] at hb; cases hb
    | some q =>
      cases hf : wrB W a b h k q
      · have h1 : wornOk W bs a b h (wornTo W bs a b h k) k = false := by rw [ok_wrB hq, hf]; rfl
        rw [worn_no rfl h1]
        rcases ih with ⟨h2, h3⟩ | ⟨i, qi, h2, h3, h4, h5, h6⟩
        · refine .inl ⟨h2, fun i q' hi hb => ?_⟩
          rcases Nat.lt_or_ge i k with h7 | h7
          · exact h3 i q' h7 hb
          · obtain rfl : i = k := by omega
            rw [hq] at hb; injection hb with hb; subst hb; exact hf
        · refine .inr ⟨i, qi, h2, by omega, h4, h5, fun j q' hj hb hf' => ?_⟩
          rcases Nat.lt_or_ge j k with h7 | h7
          · exact h6 j q' h7 hb hf'
          · obtain rfl : j = k := by omega
            rw [hq] at hb; injection hb with hb; subst hb; rw [hf] at hf'; cases hf'
      · rcases ih with ⟨h2, h3⟩ | ⟨i, qi, h2, h3, h4, h5, h6⟩
        · have h1 : wornOk W bs a b h (-1) k = true := by rw [ok_wrB hq, hf]; rfl
          rw [worn_yes h2 h1]
          refine .inr ⟨k, q, rfl, by omega, hf, hq, fun j q' hj hb hf' => ?_⟩
          rcases Nat.lt_or_ge j k with h7 | h7
          · rw [h3 j q' h7 hb] at hf'; cases hf'
          · obtain rfl : j = k := by omega
            rw [hq] at hb; injection hb with hb; subst hb; exact Int.le_refl _
        · have hw : wearAt bs (i : Int) = qi.m := by simp [wearAt, h5]
          by_cases hlt : q.m < qi.m
          · have h1 : wornOk W bs a b h (i : Int) k = true := by rw [ok_wrB hq, hf, hw]; simp [hlt]
            rw [worn_yes h2 h1]
            refine .inr ⟨k, q, rfl, by omega, hf, hq, fun j q' hj hb hf' => ?_⟩
            rcases Nat.lt_or_ge j k with h7 | h7
            · have := h6 j q' h7 hb hf'; omega
            · obtain rfl : j = k := by omega
              rw [hq] at hb; injection hb with hb; subst hb; exact Int.le_refl _
          · have h1 : wornOk W bs a b h (i : Int) k = false := by rw [ok_wrB hq, hf, hw]; simp; omega
            rw [worn_no h2 h1]
            refine .inr ⟨i, qi, rfl, by omega, h4, h5, fun j q' hj hb hf' => ?_⟩
            rcases Nat.lt_or_ge j k with h7 | h7
            · exact h6 j q' h7 hb hf'
            · obtain rfl : j = k := by omega
              rw [hq] at hb; injection hb with hb; subst hb; omega
/-- What is known of the number. -/
theorem worn_law {W : Bool} {n : Nat} {bs : List Bk} {a b h : Int} (hl : bs.length = n) :
    (wornV W bs a b h = -1 ∧ ∀ (i : Nat) (q : Bk), i < n → bs[i]? = some q → wrB W a b h i q = false) ∨
    ∃ (i : Nat) (qi : Bk), wornV W bs a b h = (i : Int) ∧ i < n ∧ wrB W a b h i qi = true ∧ bs[i]? = some qi ∧ ∀ (j : Nat) (q : Bk), j < n → bs[j]? = some q → wrB W a b h j q = true → qi.m ≤ q.m := by
  subst hl
  exact worn_best W bs a b h bs.length
/-- The least and the greatest wear of the first blocks, and all of theirs. -/
def lowTo (bs : List Bk) : Nat → Int
  | 0 => 100
  | k + 1 => min (lowTo bs k) (wearAt bs (k : Int))
def topTo (bs : List Bk) : Nat → Int
  | 0 => 0
  | k + 1 => max (topTo bs k) (wearAt bs (k : Int))
def wsTo (bs : List Bk) : Nat → Int
  | 0 => 0
  | k + 1 => wsTo bs k + wearAt bs (k : Int)
def spreadV (bs : List Bk) : Int := if devB bs then topTo bs bs.length - lowTo bs bs.length else -1
def totalV (bs : List Bk) : Int := if devB bs then wsTo bs bs.length else -1
def restV (n : Nat) (bs : List Bk) (a b h : Int) : Int := if headsB n a b h && devB bs then (if 5 < spreadV bs then wornV true bs a b h else -1) else -1
theorem wear_at {bs : List Bk} {k : Nat} {q : Bk} (h : bs[k]? = some q) : wearAt bs (k : Int) = q.m := by simp [wearAt, h]
theorem low_step {bs : List Bk} {k : Nat} {q : Bk} (h : bs[k]? = some q) : lowTo bs (k + 1) = min (lowTo bs k) q.m := by simp only [lowTo, wear_at h]
theorem top_step {bs : List Bk} {k : Nat} {q : Bk} (h : bs[k]? = some q) : topTo bs (k + 1) = max (topTo bs k) q.m := by simp only [topTo, wear_at h]
theorem ws_step {bs : List Bk} {k : Nat} {q : Bk} (h : bs[k]? = some q) : wsTo bs (k + 1) = wsTo bs k + q.m := by simp only [wsTo, wear_at h]
theorem min_lt {a b : Int} (h : a < b) : min a b = a := by omega
theorem min_ge {a b : Int} (h : b ≤ a) : min a b = b := by omega
theorem max_lt {a b : Int} (h : a < b) : max a b = b := by omega
theorem max_ge {a b : Int} (h : b ≤ a) : max a b = a := by omega
theorem wear_in {bs : List Bk} (hd : devB bs = true) (k : Nat) : 0 ≤ wearAt bs (k : Int) ∧ wearAt bs (k : Int) ≤ 100 := by
  cases hq : bs[k]? with
  | none => simp [wearAt, hq]
  | some q =>
    rw [wear_at hq]
    have h1 := (block_parts ((dev_parts hd).2 q (List.mem_of_getElem? hq))).1
    exact inB_iff.1 h1
theorem low_in {bs : List Bk} (hd : devB bs = true) (k : Nat) : 0 ≤ lowTo bs k ∧ lowTo bs k ≤ 100 := by
  induction k with
  | zero => simp [lowTo]
  | succ k ih => have := wear_in hd k; simp only [lowTo]; omega
theorem top_in {bs : List Bk} (hd : devB bs = true) (k : Nat) : 0 ≤ topTo bs k ∧ topTo bs k ≤ 100 := by
  induction k with
  | zero => simp [topTo]
  | succ k ih => have := wear_in hd k; simp only [topTo]; omega
theorem ws_in {bs : List Bk} (hd : devB bs = true) (k : Nat) : 0 ≤ wsTo bs k ∧ wsTo bs k ≤ 100 * (k : Int) := by
  induction k with
  | zero => simp [wsTo]
  | succ k ih => have := wear_in hd k; simp only [wsTo]; omega
/-- From the first block on, instead of from the bounds. -/
theorem low_one {bs : List Bk} (hd : devB bs = true) : lowTo bs 1 = wearAt bs 0 := by
  have := wear_in hd 0
  simp only [lowTo]
  simp at this ⊢
  omega
theorem top_one {bs : List Bk} (hd : devB bs = true) : topTo bs 1 = wearAt bs 0 := by
  have := wear_in hd 0
  simp only [topTo]
  simp at this ⊢
  omega
theorem low_le {bs : List Bk} {j k : Nat} (h : j < k) : lowTo bs k ≤ wearAt bs (j : Int) := by
  induction k with
  | zero => omega
  | succ k ih =>
    simp only [lowTo]
    rcases Nat.lt_or_ge j k with h1 | h1
    · have := ih h1; omega
    · obtain rfl : j = k := by omega
      omega
theorem top_ge {bs : List Bk} {j k : Nat} (h : j < k) : wearAt bs (j : Int) ≤ topTo bs k := by
  induction k with
  | zero => omega
  | succ k ih =>
    simp only [topTo]
    rcases Nat.lt_or_ge j k with h1 | h1
    · have := ih h1; omega
    · obtain rfl : j = k := by omega
      omega
theorem spread_no {bs : List Bk} (hd : devB bs = false) : spreadV bs = -1 := by simp [spreadV, hd]
theorem spread_of {bs : List Bk} (hd : devB bs = true) : spreadV bs = topTo bs bs.length - lowTo bs bs.length := by simp [spreadV, hd]
theorem total_no {bs : List Bk} (hd : devB bs = false) : totalV bs = -1 := by simp [totalV, hd]
theorem total_of {bs : List Bk} (hd : devB bs = true) : totalV bs = wsTo bs bs.length := by simp [totalV, hd]
theorem spread_in {bs : List Bk} (hd : devB bs = true) : 0 ≤ spreadV bs ∧ spreadV bs ≤ 100 := by
  have h1 := low_in hd bs.length
  have h2 := top_in hd bs.length
  obtain ⟨⟨h3, _⟩, _⟩ := dev_parts hd
  have h4 : lowTo bs bs.length ≤ wearAt bs ((0 : Nat) : Int) := low_le h3
  have h5 : wearAt bs ((0 : Nat) : Int) ≤ topTo bs bs.length := top_ge h3
  rw [spread_of hd]
  omega
theorem total_in {bs : List Bk} (hd : devB bs = true) : 0 ≤ totalV bs ∧ totalV bs ≤ 1200 := by
  have h1 := ws_in hd bs.length
  obtain ⟨⟨_, h3⟩, _⟩ := dev_parts hd
  rw [total_of hd]
  omega
theorem lowTo_same {bs cs : List Bk} (h : cs.map Bk.is = bs.map Bk.is) (k : Nat) : lowTo cs k = lowTo bs k := by
  induction k with
  | zero => rfl
  | succ k ih => simp only [lowTo, ih, wear_same h]
theorem topTo_same {bs cs : List Bk} (h : cs.map Bk.is = bs.map Bk.is) (k : Nat) : topTo cs k = topTo bs k := by
  induction k with
  | zero => rfl
  | succ k ih => simp only [topTo, ih, wear_same h]
theorem wsTo_same {bs cs : List Bk} (h : cs.map Bk.is = bs.map Bk.is) (k : Nat) : wsTo cs k = wsTo bs k := by
  induction k with
  | zero => rfl
  | succ k ih => simp only [wsTo, ih, wear_same h]
theorem spread_same {bs cs : List Bk} (h : cs.map Bk.is = bs.map Bk.is) : spreadV cs = spreadV bs := by
  unfold spreadV
  rw [devB_is h, lowTo_same h, topTo_same h, is_length h]
theorem total_same {bs cs : List Bk} (h : cs.map Bk.is = bs.map Bk.is) : totalV cs = totalV bs := by
  unfold totalV
  rw [devB_is h, wsTo_same h, is_length h]
theorem rest_same {bs cs : List Bk} (he : cs.map Bk.is = bs.map Bk.is) (n : Nat) (a b h : Int) : restV n cs a b h = restV n bs a b h := by
  unfold restV
  rw [devB_is he, spread_same he, worn_same he]
theorem rest_no {n : Nat} {bs : List Bk} {a b h : Int} (hv : (headsB n a b h && devB bs) = false) : restV n bs a b h = -1 := by simp [restV, hv]
theorem rest_low {n : Nat} {bs : List Bk} {a b h : Int} (hs : ¬ 5 < spreadV bs) : restV n bs a b h = -1 := by
  unfold restV
  rw [if_neg hs]
  split <;> rfl
theorem rest_of {n : Nat} {bs : List Bk} {a b h : Int} (hv : (headsB n a b h && devB bs) = true) (hs : 5 < spreadV bs) : restV n bs a b h = wornV true bs a b h := by
  unfold restV
  rw [if_pos hv, if_pos hs]
end Go.Proofs.Yteniikfgellhfaa
