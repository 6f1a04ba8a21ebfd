/- What the laws of chapter 6 ask besides: none is better than the fresh block; heads with one set; AppendPage's ways. -/
import Derived.Test.YtolpnloghogjjaaGreatDrawHeads2
import Derived.Test.YtolpnloghogjjaaGreatHeads7
namespace Go.Proofs.YtolpnloghogjjaaGreat
open Go.ChangeShapes Go.WideShapes Go.ChangeAt Go.RowKit

/-- Block k is a fresh one. -/
def frB (a b h : Int) (k : Nat) (q : Bk) : Bool := (nextV q.m q.ps == 0) && !((k : Int) == a) && !((k : Int) == b) && !((k : Int) == h)
theorem ok_frB {bs : List Bk} {a b h best : Int} {k : Nat} {q : Bk} (hq : bs[k]? = some q) : freshOk bs a b h best k = (frB a b h k q && (decide (best < 0) || decide (q.m < wearAt bs best))) := by
  simp [freshOk, hq, frB]
theorem fresh_best (bs : List Bk) (a b h : Int) (k : Nat) :
    (freshTo bs a b h k = -1 ∧ ∀ (i : Nat) (q : Bk), i < k → bs[i]? = some q → frB a b h i q = false) ∨
    ∃ (i : Nat) (qi : Bk), freshTo bs a b h k = (i : Int) ∧ i < k ∧ frB a b h i qi = true ∧ bs[i]? = some qi ∧ ∀ (j : Nat) (q : Bk), j < k → bs[j]? = some q → frB a b h j q = true → qi.m ≤ q.m := by
  induction k with
  | zero => exact .inl ⟨rfl, fun i q hi => by omega⟩
  | succ k ih =>
    cases hq : bs[k]? with
    | none =>
      have h1 : freshOk bs a b h (freshTo bs a b h k) k = false := by simp [freshOk, hq]
      rw [fresh_no rfl h1]
      rcases ih with ⟨h2, h3⟩ | ⟨i, qi, h2, h3, h4, h5, h6⟩
      · refine .inl ⟨h2, fun i q hi hb => ?_⟩
        rcases Nat.lt_or_ge i k with h7 | h7
        · exact h3 i q h7 hb
        · obtain rfl : i = k := by omega
          rw [hq] at hb; cases hb
      · refine .inr ⟨i, qi, h2, by omega, h4, h5, fun j q hj hb => ?_⟩
        rcases Nat.lt_or_ge j k with h7 | h7
        · exact h6 j q h7 hb
        · obtain rfl : j = k := by omega
          rw [hq] at hb; cases hb
    | some q =>
      cases hf : frB a b h k q
      · have h1 : freshOk bs a b h (freshTo bs a b h k) k = false := by rw [ok_frB hq, hf]; rfl
        rw [fresh_no rfl h1]
        rcases ih with ⟨h2, h3⟩ | ⟨i, qi, h2, h3, h4, h5, h6⟩
        · refine .inl ⟨h2, fun i q' hi hb => ?_⟩
          rcases Nat.lt_or_ge i k with h7 | h7
          · exact h3 i q' h7 hb
          · obtain rfl : i = k := by omega
            rw [hq] at hb; injection hb with hb; subst hb; exact hf
        · refine .inr ⟨i, qi, h2, by omega, h4, h5, fun j q' hj hb hf' => ?_⟩
          rcases Nat.lt_or_ge j k with h7 | h7
          · exact h6 j q' h7 hb hf'
          · obtain rfl : j = k := by omega
            rw [hq] at hb; injection hb with hb; subst hb; rw [hf] at hf'; cases hf'
      · rcases ih with ⟨h2, h3⟩ | ⟨i, qi, h2, h3, h4, h5, h6⟩
        · have h1 : freshOk bs a b h (-1) k = true := by rw [ok_frB hq, hf]; rfl
          rw [fresh_yes h2 h1]
          refine .inr ⟨k, q, rfl, by omega, hf, hq, fun j q' hj hb hf' => ?_⟩
          rcases Nat.lt_or_ge j k with h7 | h7
          · rw [h3 j q' h7 hb] at hf'; cases hf'
          · obtain rfl : j = k := by omega
            rw [hq] at hb; injection hb with hb; subst hb; exact Int.le_refl _
        · have hw : wearAt bs (i : Int) = qi.m := by simp [wearAt, h5]
          by_cases hlt : q.m < qi.m
          · have h1 : freshOk bs a b h (i : Int) k = true := by rw [ok_frB hq, hf, hw]; simp [hlt]
            rw [fresh_yes h2 h1]
            refine .inr ⟨k, q, rfl, by omega, hf, hq, fun j q' hj hb hf' => ?_⟩
            rcases Nat.lt_or_ge j k with h7 | h7
            · have := h6 j q' h7 hb hf'; omega
            · obtain rfl : j = k := by omega
              rw [hq] at hb; injection hb with hb; subst hb; exact Int.le_refl _
          · have h1 : freshOk bs a b h (i : Int) k = false := by rw [ok_frB hq, hf, hw]; simp; omega
            rw [fresh_no h2 h1]
            refine .inr ⟨i, qi, rfl, by omega, h4, h5, fun j q' hj hb hf' => ?_⟩
            rcases Nat.lt_or_ge j k with h7 | h7
            · exact h6 j q' h7 hb hf'
            · obtain rfl : j = k := by omega
              rw [hq] at hb; injection hb with hb; subst hb; omega
/-- What the law of FreshBlock wants of its number. -/
theorem fresh_law {n : Nat} {bs : List Bk} {a b h : Int} (hl : bs.length = n) :
    (freshV bs a b h = -1 ∧ ∀ (i : Nat) (q : Bk), i < n → bs[i]? = some q → frB a b h i q = false) ∨
    ∃ (i : Nat) (qi : Bk), freshV bs a b h = (i : Int) ∧ i < n ∧ frB a b h i qi = true ∧ bs[i]? = some qi ∧ ∀ (j : Nat) (q : Bk), j < n → bs[j]? = some q → frB a b h j q = true → qi.m ≤ q.m := by
  subst hl
  exact fresh_best bs a b h bs.length
theorem hset_heads {n k j : Nat} {a b h a1 b1 h1 : Int} (hh : headsB n a b h = true) (hk : k < n) (ka : (k : Int) ≠ a) (kb : (k : Int) ≠ b) (kh : (k : Int) ≠ h) (hj : j < 3) (hs : hset a b h j (k : Int) = (a1, b1, h1)) :
    headsB n a1 b1 h1 = true ∧ hd a1 b1 h1 j = (k : Int) ∧ ∀ o, o < 3 → o ≠ j → hd a1 b1 h1 o = hd a b h o := by
  match j, hj with
  | 0, _ =>
    simp only [hset, Prod.mk.injEq] at hs
    obtain ⟨rfl, rfl, rfl⟩ := hs
    refine ⟨by simp [headsB, pairB, inB] at hh ⊢; omega, rfl, fun o ho hne => ?_⟩
    match o, ho with
    | 0, _ => exact absurd rfl hne
    | 1, _ => rfl
    | 2, _ => rfl
  | 1, _ =>
    simp only [hset, Prod.mk.injEq] at hs
    obtain ⟨rfl, rfl, rfl⟩ := hs
    refine ⟨by simp [headsB, pairB, inB] at hh ⊢; omega, rfl, fun o ho hne => ?_⟩
    match o, ho with
    | 0, _ => rfl
    | 1, _ => exact absurd rfl hne
    | 2, _ => rfl
  | 2, _ =>
    simp only [hset, Prod.mk.injEq] at hs
    obtain ⟨rfl, rfl, rfl⟩ := hs
    refine ⟨by simp [headsB, pairB, inB] at hh ⊢; omega, rfl, fun o ho hne => ?_⟩
    match o, ho with
    | 0, _ => rfl
    | 1, _ => rfl
    | 2, _ => exact absurd rfl hne
/-- The ways of AppendPage, told by what its law wants. -/
theorem app_cases {n n1 : Nat} {bs : List Bk} {a b h j : Int} {f : Bool} {x1 x2 x3 x4 a1 b1 h1 r : Int} {l1 : List (Int × List Pg)} (hl : bs.length = n) (H : AppendIs n bs a b h j f x1 x2 x3 x4 n1 l1 a1 b1 h1 r) :
    (n1 = 0 ∧ l1 = [] ∧ a1 = 0 ∧ b1 = 0 ∧ h1 = 0 ∧ r = -1) ∨ (n = n1 ∧ bs.map Bk.is = l1 ∧ a = a1 ∧ b = b1 ∧ h = h1 ∧ r = -1) ∨
    ∃ (j0 k i v : Nat), j = (j0 : Int) ∧ j0 < 3 ∧ f = true ∧ n = n1 ∧ v = k * 4 + i ∧ r = (v : Int) ∧ i < 4 ∧ k < n ∧ devB bs = true ∧ headsB n a b h = true ∧ headsB n a1 b1 h1 = true ∧ hd a1 b1 h1 j0 = (k : Int) ∧ (∀ o, o < 3 → o ≠ j0 → hd a1 b1 h1 o = hd a b h o) ∧
      ∀ cs : List Bk, cs.map Bk.is = l1 → devB cs = true ∧ pageAt cs v = some ⟨true, x1, x2, x3, x4⟩ ∧ freeV cs + 1 = freeV bs := by
  rcases H with ⟨_, h1, h2, h3, h4, h5, h6⟩ | ⟨j0, rfl, hj, hh, hd0, rfl, hpg, rfl, H⟩
  · exact .inl ⟨h1, h2, h3, h4, h5, h6⟩
  · have hpp : pgB ⟨true, x1, x2, x3, x4⟩ = true := hpg
    have put : ∀ (k : Nat) (m : Int) (ps ps1 : List Pg) (r0 : Int), (bs.map Bk.is)[k]? = some (m, ps) → 0 ≤ nextV m ps → WriteIs m ps true x1 x2 x3 x4 m 4 ps1 r0 →
        ∃ i : Nat, i < 4 ∧ r0 = (i : Int) ∧ k < n1 ∧ ∀ cs : List Bk, cs.map Bk.is = (bs.map Bk.is).set k (m, ps1) → devB cs = true ∧ pageAt cs (k * 4 + i) = some ⟨true, x1, x2, x3, x4⟩ ∧ freeV cs + 1 = freeV bs := fun k m ps ps1 r0 hi h0 hw => by
      obtain ⟨Ab, cb, hb⟩ := is_some hi
      rcases hw with ⟨_, _, e4, _, _⟩ | ⟨_, _, _, e, _⟩ | ⟨i, hvb, _, _, hn, hi4, _, _, rfl, rfl⟩
      · exact absurd e4 (by omega)
      · omega
      · refine ⟨i, hi4, rfl, by have := (List.getElem?_eq_some_iff.1 hb).1; omega, fun cs hs => ?_⟩
        have hpf := prog_facts hd0 hb hn hi4 hpp rfl hs
        exact ⟨hpf.1, hpf.2.1, hpf.2.2.2.2⟩
    rcases H with ⟨k, m, ps, ps1, r0, hx, hi, h0, hw, hr4, rfl, rfl, rfl, rfl, rfl⟩ | ⟨hf, k, m, ps, ps1, r0, hy, hi, hw, hr4, rfl, hs, rfl⟩ | ⟨hf, hy, h1, h2, h3, h4, h5⟩
    · obtain ⟨i, hi4, rfl, hkn, hc⟩ := put k m ps ps1 r0 hi h0 hw
      exact .inr (.inr ⟨j0, k, i, k * 4 + i, rfl, hj, rfl, rfl, rfl, by rw [progV_pos k (by omega)]; omega, hi4, hkn, hd0, hh, hh, hx, fun _ _ _ => rfl, hc⟩)
    · rcases fresh_facts bs a b h bs.length with e | ⟨k', e, _, ka, kb, kh, q, hq, hq0⟩
      · have : freshV bs a b h = -1 := e
        omega
      · have e2 : freshV bs a b h = (k' : Int) := e
        obtain rfl : k' = k := by omega
        obtain ⟨Ab, cb, hb⟩ := is_some hi
        rw [hq] at hb
        injection hb with hb
        subst hb
        obtain ⟨i, hi4, rfl, hkn, hc⟩ := put _ m ps ps1 r0 hi (by simp only at hq0; omega) hw
        obtain ⟨g1, g2, g3⟩ := hset_heads hh hkn ka kb kh hj hs
        exact .inr (.inr ⟨j0, _, i, _, rfl, hj, rfl, rfl, rfl, by rw [progV_pos _ (by omega)]; omega, hi4, hkn, hd0, hh, g1, g2, g3, hc⟩)
    · exact .inr (.inl ⟨rfl, h1.symm, h2.symm, h3.symm, h4.symm, h5⟩)
theorem HeadIs.ok {n : Nat} {bs : List Bk} {a b h r : Int} {k : Nat} (h1 : headsB n a b h = true) (h2 : devB bs = true) (hk : k < 3) (hr : hd a b h k = r) : HeadIs n bs a b h (k : Int) r :=
  .inr (.inr ⟨k, by rw [h1, h2]; rfl, rfl, hk, hr.symm⟩)
theorem and_true' {x y : Bool} (h1 : x = true) (h2 : y = true) : (x && y) = true := by rw [h1, h2]; rfl
/-- Without heads: valid exactly if the device is. -/
theorem heads_dev {n : Nat} {bs : List Bk} {V : Bool} (hl : bs.length = n) (h : devB bs = V) : (headsB n (-1) (-1) (-1) && devB bs) = V := by
  subst h
  cases hd : devB bs
  · simp
  · obtain ⟨⟨h1, _⟩, _⟩ := dev_parts hd
    rw [heads_none n (by omega)]
    rfl
theorem heads_twice (n : Nat) (bs : List Bk) : (headsB n 0 0 (-1) && devB bs) = false := by simp [headsB, pairB]
end Go.Proofs.YtolpnloghogjjaaGreat
