/- Plain facts that the laws of chapter 18 ask. -/
import Derived.Test.YteniikfgellhfaaRollLast
namespace Go.Proofs.Yteniikfgellhfaa
open Go.ChangeShapes Go.WideShapes Go.ChangeAt Go.RowKit
set_option linter.unusedVariables false
set_option linter.unusedSimpArgs false

/-- The stamp of the page ahead of number k of a list, or the stamp since which the pages are. -/
def lstV (bs : List Bk) (L : List Int) (s : Int) : Nat → Int
  | 0 => s
  | k + 1 => match L[k]? with
    | some x => stV bs x
    | none => s
theorem lst_succ {bs : List Bk} {L : List Int} {s : Int} {k : Nat} {x : Int} (h : L[k]? = some x) : lstV bs L s (k + 1) = stV bs x := by simp only [lstV, h]
theorem since_at {bs : List Bk} {s : Int} {k : Nat} {x : Int} (h : (sinV bs s)[k]? = some x) : lstV bs (sinV bs s) s k ≤ stV bs x ∧ x ∉ (sinV bs s).take k := by
  have hm := List.mem_of_getElem? h
  obtain ⟨hd, h0, h1, h2⟩ := sinV_in hm
  have hs : s < stV bs x := by
    simp only [sinB, Bool.and_eq_true, decide_eq_true_eq] at h2
    exact h2.2
  rw [sinV_yes hd] at h ⊢
  constructor
  · cases k with
    | zero => simp only [lstV]; omega
    | succ k =>
      cases hy : (sinTo bs s (4 * bs.length))[k]? with
      | none => simp only [lstV, hy]; omega
      | some y =>
        rw [lst_succ hy]
        obtain ⟨l1, g1⟩ := List.getElem?_eq_some_iff.1 hy
        obtain ⟨l2, g2⟩ := List.getElem?_eq_some_iff.1 h
        have := List.pairwise_iff_getElem.1 (sin_asc bs s (4 * bs.length)) k (k + 1) l1 l2 (by omega)
        rw [g1, g2] at this
        exact this
  · intro hin
    obtain ⟨i, hi⟩ := List.mem_iff_getElem?.1 hin
    have hik : i < k := by
      have := (List.getElem?_eq_some_iff.1 hi).1
      rw [List.length_take] at this
      omega
    rw [List.getElem?_take, if_pos hik] at hi
    obtain ⟨l1, g1⟩ := List.getElem?_eq_some_iff.1 hi
    obtain ⟨l2, g2⟩ := List.getElem?_eq_some_iff.1 h
    exact (List.nodup_iff_pairwise_ne.1 (sin_nodup bs s (4 * bs.length)) |> List.pairwise_iff_getElem.1) i k l1 l2 hik (by rw [g1, g2])
/-- With -1 these are all written pages. -/
theorem since_all {bs : List Bk} (hd : devB bs = true) : ∀ k : Nat, k ≤ 4 * bs.length → (sinTo bs (-1) k).length = fullTo bs k := by
  obtain ⟨_, hall⟩ := dev_parts hd
  have h4 : ∀ b, b ∈ bs → b.ps.length = 4 := fun b hm => (block_parts (hall b hm)).2.1
  intro k
  induction k with
  | zero => intro _; simp [sinTo, fullTo, cntF]
  | succ k ih =>
    intro hk
    obtain ⟨p, hp, hr⟩ := roll_read hd (k := k) (by omega)
    have hb := roll_stamp hd hp
    have e : sinB bs (-1) (k : Int) = p.f := by
      simp only [sinB, stV, hr]
      have : decide ((-1 : Int) < p.d) = true := decide_eq_true (by omega)
      rw [this, Bool.and_true]
    rw [fullTo_step h4 hp, ← ih (by omega)]
    cases hf : p.f
    · rw [hf] at e
      rw [sin_no e]; rfl
    · rw [hf] at e
      rw [sin_yes e, insP_length]; rfl
theorem since_free {bs : List Bk} (hd : devB bs = true) : ((sinV bs (-1)).length : Int) = 4 * (bs.length : Int) - freeV bs := by
  obtain ⟨_, hall⟩ := dev_parts hd
  have h4 : ∀ b, b ∈ bs → b.ps.length = 4 := fun b hm => (block_parts (hall b hm)).2.1
  have h1 := both_end h4
  rw [sinV_yes hd, since_all hd _ (Nat.le_refl _)]
  omega
/-! ### The last stamp -/
theorem lastD_none {bs : List Bk} (hd : devB bs = true) : sinV bs (lastD bs) = [] := by
  rw [List.eq_nil_iff_forall_not_mem]
  intro x hx
  obtain ⟨_, h0, h1, h2⟩ := sinV_in hx
  obtain ⟨a, rfl⟩ := Int.eq_ofNat_of_zero_le h0
  obtain ⟨p, hp, hr⟩ := roll_read hd (k := a) (by omega)
  simp only [sinB, stV, hr, Bool.and_eq_true, decide_eq_true_eq] at h2
  have := lastD_ge hd hp
  omega
theorem lastD_some {bs : List Bk} (hd : devB bs = true) (h : lastD bs ≠ 0) : 0 < (sinV bs (lastD bs - 1)).length := by
  rcases lastD_at hd with h1 | ⟨a, p, ha, hp, hl⟩
  · exact absurd h1 h
  · have hm : (a : Int) ∈ sinV bs (lastD bs - 1) := by
      obtain ⟨q, hq, hr⟩ := roll_read hd (k := a) ha
      rw [hp] at hq
      injection hq with hq
      subst hq
      rw [sinV_yes hd, sin_mem]
      refine ⟨by omega, by omega, ?_⟩
      have hb := roll_stamp hd hp
      simp only [sinB, stV, hr, Bool.and_eq_true, decide_eq_true_eq]
      refine ⟨?_, by omega⟩
      cases hf : p.f
      · have := hb.2.2.2 hf
        omega
      · rfl
    exact List.length_pos_of_mem hm
/-! ### Tables after pages -/
/-- What the law wants: the page of the place among the first k of the list that comes last, or else z. -/
def wantV (bs : List Bk) (L : List Int) (f j z : Int) : Nat → Int
  | 0 => z
  | k + 1 => match L[k]? with
    | some x => if (readV bs x).a = f ∧ (readV bs x).b = j then x else wantV bs L f j z k
    | none => wantV bs L f j z k
theorem want_yes {bs : List Bk} {L : List Int} {f j z : Int} {k : Nat} {x : Int} (h : L[k]? = some x) (ha : (readV bs x).a = f) (hb : (readV bs x).b = j) : wantV bs L f j z (k + 1) = x := by simp only [wantV, h, ha, hb, and_self, if_true]
theorem want_no {bs : List Bk} {L : List Int} {f j z : Int} {k : Nat} {x : Int} (h : L[k]? = some x) (hn : ¬ ((readV bs x).a = f ∧ (readV bs x).b = j)) : wantV bs L f j z (k + 1) = wantV bs L f j z k := by simp only [wantV, h, hn, if_false]
/-- A page that none of the first k is: only where nothing else stands. -/
theorem want_clr {bs : List Bk} {L : List Int} {f j z x : Int} : ∀ k : Nat, x ∉ L.take k → (if wantV bs L f j z k = x then -1 else wantV bs L f j z k) = wantV bs L f j (if z = x then -1 else z) k
  | 0, _ => rfl
  | k + 1, h => by
    cases hy : L[k]? with
    | none =>
      have e : L.take (k + 1) = L.take k := by rw [List.take_add_one, hy]; simp
      rw [e] at h
      simp only [wantV, hy]
      exact want_clr k h
    | some y =>
      have e : L.take (k + 1) = L.take k ++ [y] := by rw [List.take_add_one, hy]; rfl
      rw [e, List.mem_append, List.mem_singleton, not_or] at h
      by_cases hq : (readV bs y).a = f ∧ (readV bs y).b = j
      · rw [want_yes hy hq.1 hq.2, want_yes hy hq.1 hq.2, if_neg (fun e => h.2 e.symm)]
      · rw [want_no hy hq, want_no hy hq]
        exact want_clr k h.1
theorem roll_cell {bs : List Bk} {xss : List (List Int)} (h : TV xss) {s : Int} {f j : Nat} (hf : f < 8) (hj : j < 6) {c : Int} (hc : cellO xss f j = some c) : ∀ k : Nat, k ≤ (sinV bs s).length →
    cellO (rollTo bs xss (sinV bs s) k) f j = some (wantV bs (sinV bs s) (f : Int) (j : Int) (if ((sinV bs s).take k).contains c then -1 else c) k)
  | 0, _ => by simpa [rollTo, wantV] using hc
  | k + 1, hk => by
    have ih := roll_cell h hf hj hc k (by omega) (bs := bs) (s := s)
    have iv := roll_tv h s k (bs := bs)
    obtain ⟨x, hx⟩ : ∃ x, (sinV bs s)[k]? = some x := ⟨_, List.getElem?_eq_getElem (by omega)⟩
    have hm := List.mem_of_getElem? hx
    have hnot := (since_at hx).2
    obtain ⟨a, pf, pj, v, d, rfl, ha, hp, hr, hf8, hj6, _⟩ := sinV_page hm
    rw [roll_step hx]
    unfold putB
    rw [tset_cell (clr_tv iv _ 48 (Nat.le_refl _)) (by rw [hr]; simpa using hf8) (by rw [hr]; simpa using hj6), hr]
    simp only [Int.toNat_natCast]
    have e : (sinV bs s).take (k + 1) = (sinV bs s).take k ++ [(a : Int)] := by rw [List.take_add_one, hx]; rfl
    by_cases hq : f = pf ∧ j = pj
    · rw [if_pos hq, want_yes hx (by rw [hr]; dsimp only; omega) (by rw [hr]; dsimp only; omega)]
    · rw [if_neg hq, want_no hx (by rw [hr]; dsimp only; omega), clr_cell iv _ 48 (Nat.le_refl _) _ _ hj, ih]
      have h2 := want_clr (bs := bs) (f := (f : Int)) (j := (j : Int)) (z := if ((sinV bs s).take k).contains c then -1 else c) k hnot
      have h3 : (if (if ((sinV bs s).take k).contains c then (-1 : Int) else c) = (a : Int) then (-1 : Int) else (if ((sinV bs s).take k).contains c then -1 else c)) = (if ((sinV bs s).take (k + 1)).contains c then -1 else c) := by
        rw [e]
        cases hcc : ((sinV bs s).take k).contains c
        · simp only [Bool.false_eq_true, if_false]
          by_cases hca : c = (a : Int)
          · subst hca
            simp
          · have : ((sinV bs s).take k ++ [(a : Int)]).contains c = false := by
              rw [List.contains_eq_any_beq, List.any_append, ← List.contains_eq_any_beq, hcc]
              simpa using hca
            rw [if_neg hca, this]
            simp
        · have : ((sinV bs s).take k ++ [(a : Int)]).contains c = true := by
            rw [List.contains_eq_any_beq, List.any_append, ← List.contains_eq_any_beq, hcc]
            rfl
          rw [this]
          simp
      rw [← h3, ← h2]
      by_cases hw : wantV bs (sinV bs s) (f : Int) (j : Int) (if ((sinV bs s).take k).contains c then -1 else c) k = (a : Int)
      · rw [if_pos ⟨by omega, by rw [hw]⟩, if_pos hw]
      · rw [if_neg (fun h => hw (by injection h.2)), if_neg hw]
/-- What the law asks of a table after the pages. -/
theorem roll_law {bs : List Bk} {xss : List (List Int)} (hd : devB bs = true) (h : tabB xss = true) {s : Int} {f j : Nat} (hf : f < 8) (hj : j < 6) {c : Int} (hc : cellO xss f j = some c) :
    cellO (rollV bs xss s) f j = some (wantV bs (sinV bs s) (f : Int) (j : Int) (if (sinV bs s).contains c then -1 else c) (sinV bs s).length) := by
  have e := roll_cell ((tabB_iff _).1 h) hf hj hc (sinV bs s).length (Nat.le_refl _) (bs := bs) (s := s)
  rw [List.take_length] at e
  rw [rollV_yes hd h]
  exact e
end Go.Proofs.Yteniikfgellhfaa
