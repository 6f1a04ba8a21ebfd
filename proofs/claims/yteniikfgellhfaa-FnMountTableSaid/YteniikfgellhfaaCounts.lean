/- Plain facts on counts: the pages that a table names, in order; how many of them are written pages of a block.
   What UsedPages answers: the model's and the program's.
   What BlockCounts answers: the program's and the model's.
   What the model's BlockCounts answers.
   What OldPages answers: the program's and the model's; contracts by letters. -/
import Derived.Test.YteniikfgellhfaaFiles
import Derived.Test.YteniikfgellhfaaTables7
import Derived.Test.YteniikfgellhfaaFiles5
import Derived.Test.YteniikfgellhfaaLawFiles
namespace Go.Proofs.Yteniikfgellhfaa

/-- Which of the numbers before k are in the list, in order. -/
def usedTo (L : List Int) : Nat → List Int
  | 0 => []
  | k + 1 => if L.contains (k : Int) then usedTo L k ++ [(k : Int)] else usedTo L k
theorem used_yes {L : List Int} {k : Nat} (h : L.contains (k : Int) = true) : usedTo L (k + 1) = usedTo L k ++ [(k : Int)] := by simp only [usedTo, h, if_true]
theorem used_no {L : List Int} {k : Nat} (h : L.contains (k : Int) = false) : usedTo L (k + 1) = usedTo L k := by simp only [usedTo, h]; rfl
theorem usedTo_le (L : List Int) (k : Nat) : (usedTo L k).length ≤ k := by
  induction k with
  | zero => exact Nat.le_refl _
  | succ k ih =>
    cases h : L.contains (k : Int)
    · rw [used_no h]; omega
    · rw [used_yes h, List.length_append]; simp only [List.length_cons, List.length_nil]; omega
theorem usedTo_mem {L : List Int} {k : Nat} {x : Int} : x ∈ usedTo L k ↔ 0 ≤ x ∧ x < k ∧ x ∈ L := by
  induction k with
  | zero => simp [usedTo]; omega
  | succ k ih =>
    cases h : L.contains (k : Int)
    · rw [used_no h, ih]
      constructor
      · rintro ⟨h1, h2, h3⟩; exact ⟨h1, by omega, h3⟩
      · rintro ⟨h1, h2, h3⟩
        refine ⟨h1, ?_, h3⟩
        rcases Int.lt_or_le x k with h4 | h4
        · exact h4
        · obtain rfl : x = (k : Int) := by omega
          have : L.contains (k : Int) = true := by simpa using h3
          rw [h] at this; cases this
    · rw [used_yes h, List.mem_append, ih, List.mem_singleton]
      constructor
      · rintro (⟨h1, h2, h3⟩ | rfl)
        · exact ⟨h1, by omega, h3⟩
        · exact ⟨by omega, by omega, by simpa using h⟩
      · rintro ⟨h1, h2, h3⟩
        rcases Int.lt_or_le x k with h4 | h4
        · exact .inl ⟨h1, h4, h3⟩
        · exact .inr (by omega)
theorem usedTo_asc (L : List Int) (k : Nat) : (usedTo L k).Pairwise (· < ·) := by
  induction k with
  | zero => exact List.Pairwise.nil
  | succ k ih =>
    cases h : L.contains (k : Int)
    · rw [used_no h]; exact ih
    · rw [used_yes h, List.pairwise_append]
      refine ⟨ih, by simp, fun a ha b hb => ?_⟩
      have := (usedTo_mem.1 ha).2.1
      rw [List.mem_singleton] at hb
      omega
theorem usedTo_lt {L : List Int} {m k : Nat} {x y : Int} (hx : (usedTo L m)[k]? = some x) (hy : (usedTo L m)[k + 1]? = some y) : x < y := by
  obtain ⟨h1, rfl⟩ := List.getElem?_eq_some_iff.1 hx
  obtain ⟨h2, rfl⟩ := List.getElem?_eq_some_iff.1 hy
  exact List.pairwise_iff_getElem.1 (usedTo_asc L m) k (k + 1) h1 h2 (by omega)
theorem flat_count : ∀ (l P : List Int) (x : Int), flatB P l = true → 0 ≤ x → l.count x ≤ (if P.contains x then 0 else 1)
  | [], P, x, _, _ => by simp
  | y :: l, P, x, h, h0 => by
    simp only [flatB, Bool.and_eq_true] at h
    obtain ⟨⟨_, h2⟩, h3⟩ := h
    have ih := flat_count l (y :: P) x h3 h0
    rw [List.count_cons]
    by_cases e : y = x
    · subst e
      have hP : P.contains y = false := by simpa [h0] using h2
      simp only [List.contains_cons, BEq.rfl, Bool.true_or, if_true] at ih
      rw [hP]
      simp only [BEq.rfl, if_true]
      simp; omega
    · have e1 : (y == x) = false := by simpa using e
      have e2 : (x == y) = false := by simpa using fun h => e h.symm
      rw [e1]
      simp only [List.contains_cons, e2, Bool.false_or] at ih
      simpa using ih
/-- A valid table names each page at most once. -/
theorem tab_count {xss : List (List Int)} (h : tabB xss = true) {x : Int} (h0 : 0 ≤ x) : xss.flatten.count x = if xss.flatten.contains x then 1 else 0 := by
  have hf : flatB [] xss.flatten = true := by
    simp only [tabB, Bool.and_eq_true] at h
    exact h.2
  have h1 := flat_count _ _ x hf h0
  simp only [List.contains_nil] at h1
  cases hc : xss.flatten.contains x
  · simp only [Bool.false_eq_true, if_false]
    exact List.count_eq_zero.2 (by simpa using hc)
  · have : 0 < xss.flatten.count x := List.count_pos_iff.2 (by simpa using hc)
    simp at h1 ⊢
    omega
theorem flat_len : ∀ (xss : List (List Int)), (∀ xs, xs ∈ xss → xs.length = 6) → xss.flatten.length = 6 * xss.length
  | [], _ => rfl
  | ys :: xss, h => by
    have h1 := flat_len xss fun xs hx => h xs (by simp [hx])
    have h2 := h ys (by simp)
    rw [List.flatten_cons, List.length_append, h1, h2, List.length_cons]
    omega
theorem tab_flat {xss : List (List Int)} (h : tabB xss = true) : xss.flatten.length = 48 := by
  have hT := (tabB_iff _).1 h
  rw [flat_len _ hT.six, hT.len]
theorem tab_at {xss : List (List Int)} (h : tabB xss = true) {f k : Nat} {x : Int} (hk : k < 6) (hc : cellO xss f k = some x) : xss.flatten[6 * f + k]? = some x := by
  rw [flat_get xss ((tabB_iff _).1 h).six f k hk]
  exact hc
theorem tab_in {xss : List (List Int)} (h : tabB xss = true) {x : Int} (hx : x ∈ xss.flatten) : -1 ≤ x ∧ x < 48 := by
  obtain ⟨i, hi⟩ := List.mem_iff_getElem?.1 hx
  have := ((tabB_iff _).1 h).inb _ _ _ (flat_cell ((tabB_iff _).1 h).six hi)
  omega
theorem count_take {L : List Int} {i : Nat} {y : Int} (x : Int) (h : L[i]? = some y) : (L.take (i + 1)).count x = (L.take i).count x + if y = x then 1 else 0 := by
  rw [List.take_add_one, h, List.count_append]
  simp [List.count_cons]
/-- How many of the first i cells have a page. -/
def pgs (L : List Int) (i : Nat) : Nat := (L.take i).countP fun x => decide (0 ≤ x)
theorem pgs_step {L : List Int} {i : Nat} {y : Int} (h : L[i]? = some y) : pgs L (i + 1) = pgs L i + if 0 ≤ y then 1 else 0 := by
  unfold pgs
  rw [List.take_add_one, h, List.countP_append]
  by_cases e : 0 ≤ y <;> simp [e]
theorem pgs_le (L : List Int) (i : Nat) : pgs L i ≤ i := Nat.le_trans List.countP_le_length (by rw [List.length_take]; exact Nat.min_le_left _ _)
theorem cnt_split (L : List Int) (k : Nat) : L.countP (fun x => decide (0 ≤ x) && decide (x < (k : Int) + 1)) = L.countP (fun x => decide (0 ≤ x) && decide (x < (k : Int))) + L.count (k : Int) := by
  induction L with
  | nil => rfl
  | cons y L ih =>
    rw [List.countP_cons, List.countP_cons, List.count_cons, ih]
    by_cases e : y = (k : Int)
    · subst e
      have h1 : ¬ ((k : Int) < (k : Int)) := by omega
      have h2 : (k : Int) < (k : Int) + 1 := by omega
      simp [h1, h2]; omega
    · have h1 : (y == (k : Int)) = false := by simpa using e
      have h2 : decide (y < (k : Int) + 1) = decide (y < (k : Int)) := by
        rw [decide_eq_decide]; omega
      rw [h1, h2]
      simp; omega
theorem used_length {xss : List (List Int)} (h : tabB xss = true) : (usedTo xss.flatten 48).length = pgs xss.flatten 48 := by
  have hk : ∀ k : Nat, (usedTo xss.flatten k).length = xss.flatten.countP (fun x => decide (0 ≤ x) && decide (x < (k : Int))) := by
    intro k
    induction k with
    | zero =>
      symm
      simp only [usedTo, List.length_nil]
      rw [List.countP_eq_zero]
      intro x _
      simp
      try omega
    | succ k ih =>
      have e : ((k + 1 : Nat) : Int) = (k : Int) + 1 := by omega
      rw [e, cnt_split, ← ih, tab_count h (by omega)]
      cases hc : xss.flatten.contains (k : Int)
      · rw [used_no hc]; rfl
      · rw [used_yes hc, List.length_append]; rfl
  rw [hk 48]
  unfold pgs
  rw [List.take_of_length_le (by rw [tab_flat h]; exact Nat.le_refl _)]
  refine List.countP_congr fun x hx => ?_
  have := tab_in h hx
  simp
  omega
/-- What UsedPages answers. -/
def usedV (xss : List (List Int)) : List Int := if tabB xss then usedTo xss.flatten 48 else []
theorem used_of_no {xss : List (List Int)} (h : tabB xss = false) : usedV xss = [] := by simp [usedV, h]
theorem used_of {xss : List (List Int)} (h : tabB xss = true) : usedV xss = usedTo xss.flatten 48 := by simp [usedV, h]
theorem used_small (xss : List (List Int)) : (usedV xss).length ≤ 48 := by
  cases h : tabB xss
  · rw [used_of_no h]; simp
  · rw [used_of h]; exact usedTo_le _ _
theorem used_in (xss : List (List Int)) {i : Nat} {x : Int} (h : (usedV xss)[i]? = some x) : 0 ≤ x ∧ x < 48 := by
  cases hv : tabB xss
  · rw [used_of_no hv] at h; simp at h
  · rw [used_of hv] at h
    have := usedTo_mem.1 (List.mem_of_getElem? h)
    omega

/-- A page is written, of block n. -/
def inBlk (bs : List Bk) (n : Nat) (x : Int) : Bool := (readV bs x).f && decide (x / 4 = (n : Int))
/-- How many of the numbers are of written pages of each of the first m blocks. -/
def cntL (bs : List Bk) (us : List Int) (m : Nat) : List Int := (List.range m).map fun n => ((us.countP (inBlk bs n) : Nat) : Int)
theorem cntL_length (bs : List Bk) (us : List Int) (m : Nat) : (cntL bs us m).length = m := by simp [cntL]
theorem cntL_at (bs : List Bk) (us : List Int) {m n : Nat} (h : n < m) : (cntL bs us m)[n]? = some ((us.countP (inBlk bs n) : Nat) : Int) := by simp [cntL, h]
theorem cntL_succ (bs : List Bk) (us : List Int) (m : Nat) : cntL bs us (m + 1) = cntL bs us m ++ [((us.countP (inBlk bs m) : Nat) : Int)] := by simp [cntL, List.range_succ]
theorem cntL_none (bs : List Bk) (m : Nat) : cntL bs [] m = List.replicate m 0 := by
  refine List.ext_getElem? fun i => ?_
  simp only [cntL, List.countP_nil, List.getElem?_map, List.getElem?_replicate]
  rcases Nat.lt_or_ge i m with h | h
  · simp [h]
  · simp [Nat.not_lt.2 h]
theorem blk_take {bs : List Bk} {us : List Int} {j n : Nat} {x : Int} (h : us[j]? = some x) : (us.take (j + 1)).countP (inBlk bs n) = (us.take j).countP (inBlk bs n) + if inBlk bs n x then 1 else 0 := by
  rw [List.take_add_one, h, List.countP_append]
  simp [List.countP_cons]
theorem cnt_old {bs : List Bk} {us : List Int} {j : Nat} {x : Int} (m : Nat) (h : us[j]? = some x) (hf : (readV bs x).f = false) : cntL bs (us.take (j + 1)) m = cntL bs (us.take j) m := by
  unfold cntL
  refine List.map_congr_left fun n _ => ?_
  rw [blk_take h]
  simp [inBlk, hf]
theorem cnt_new {bs : List Bk} {us : List Int} {j q : Nat} {x : Int} (m : Nat) (h : us[j]? = some x) (hf : (readV bs x).f = true) (hq : x / 4 = (q : Int)) :
    cntL bs (us.take (j + 1)) m = (cntL bs (us.take j) m).set q ((((us.take j).countP (inBlk bs q) : Nat) : Int) + 1) := by
  refine List.ext_getElem? fun i => ?_
  rw [List.getElem?_set]
  rcases Nat.lt_or_ge i m with hi | hi
  · rw [cntL_at _ _ hi, cntL_at _ _ hi, blk_take h]
    by_cases e : q = i
    · subst e
      have : inBlk bs q x = true := by simp [inBlk, hf, hq]
      simp [this, cntL_length, hi]
    · have : inBlk bs i x = false := by
        simp only [inBlk, hf, Bool.true_and, decide_eq_false_iff_not]
        omega
      rw [if_neg e, this]
      simp
  · have e1 : ∀ us, (cntL bs us m)[i]? = none := fun us => List.getElem?_eq_none (by rw [cntL_length]; exact hi)
    rw [e1, e1]
    split
    · rw [if_neg (by rw [cntL_length]; omega)]
    · rfl
/-- What BlockCounts answers. -/
def countsV (bs : List Bk) (xss : List (List Int)) : List Int := if devB bs && tabB xss then cntL bs (usedTo xss.flatten 48) bs.length else []
theorem counts_no1 {bs : List Bk} {xss : List (List Int)} (h : devB bs = false) : countsV bs xss = [] := by simp [countsV, h]
theorem counts_no2 {bs : List Bk} {xss : List (List Int)} (h : tabB xss = false) : countsV bs xss = [] := by simp [countsV, h]
theorem counts_of {bs : List Bk} {xss : List (List Int)} (h : devB bs = true) (h' : tabB xss = true) : countsV bs xss = cntL bs (usedTo xss.flatten 48) bs.length := by simp [countsV, h, h']
theorem counts_small (bs : List Bk) (xss : List (List Int)) : (countsV bs xss).length ≤ 12 := by
  cases h : devB bs
  · rw [counts_no1 h]; simp
  · cases h' : tabB xss
    · rw [counts_no2 h']; simp
    · obtain ⟨⟨_, h12⟩, _⟩ := dev_parts h
      rw [counts_of h h', cntL_length]
      omega
/-- How many of the numbers are of written pages of the first m blocks, all together. -/
def csum (bs : List Bk) (us : List Int) : Nat → Nat
  | 0 => 0
  | m + 1 => csum bs us m + us.countP (inBlk bs m)
theorem csum_cons (bs : List Bk) (us : List Int) (x : Int) (m : Nat) : csum bs (x :: us) m ≤ csum bs us m + if x / 4 < (m : Int) then 1 else 0 := by
  induction m with
  | zero => exact Nat.zero_le _
  | succ m ih =>
    simp only [csum, List.countP_cons]
    have e : ((m + 1 : Nat) : Int) = (m : Int) + 1 := by omega
    rw [e]
    by_cases h : inBlk bs m x = true
    · have hq : x / 4 = (m : Int) := by
        simp only [inBlk, Bool.and_eq_true, decide_eq_true_eq] at h
        exact h.2
      rw [if_neg (by omega)] at ih
      rw [if_pos h, if_pos (by omega)]
      omega
    · rw [if_neg h]
      refine Nat.le_trans (Nat.add_le_add_right ih _) ?_
      split <;> split <;> omega
theorem csum_le (bs : List Bk) (us : List Int) (m : Nat) : csum bs us m ≤ us.length := by
  induction us with
  | nil =>
    induction m with
    | zero => exact Nat.le_refl _
    | succ m ih => simpa [csum] using ih
  | cons x us ih =>
    have := csum_cons bs us x m
    rw [List.length_cons]
    split at this <;> omega
theorem csum_mono (bs : List Bk) (us : List Int) {k m : Nat} (h : k ≤ m) : csum bs us k ≤ csum bs us m := by
  obtain ⟨d, rfl⟩ := Nat.le.dest h
  clear h
  induction d with
  | zero => exact Nat.le_refl _
  | succ d ih => rw [← Nat.add_assoc]; simp only [csum]; omega
theorem readV_blk {bs : List Bk} (hd : devB bs = true) {n j : Nat} {b : Bk} (hb : bs[n]? = some b) (hj : j < 4) : ∃ p, b.ps[j]? = some p ∧ readV bs ((4 * n + j : Nat) : Int) = p := by
  obtain ⟨_, hall⟩ := dev_parts hd
  obtain ⟨_, h4, _⟩ := block_parts (hall b (List.mem_of_getElem? hb))
  refine ⟨b.ps[j]'(by omega), List.getElem?_eq_getElem _, ?_⟩
  unfold readV
  rw [if_pos hd, if_pos (by omega), Int.toNat_natCast]
  unfold pageAt
  rw [show (4 * n + j) / 4 = n by omega, show (4 * n + j) % 4 = j by omega, hb]
  simp [List.getElem?_eq_getElem (l := b.ps) (i := j) (by omega)]
/-- No block has more pages in a table than it has written ones. -/
theorem blk_le {bs : List Bk} (hd : devB bs = true) (L : List Int) {n : Nat} {b : Bk} (hb : bs[n]? = some b) (k : Nat) : (usedTo L k).countP (inBlk bs n) ≤ cntF (b.ps.take (k - 4 * n)) := by
  obtain ⟨_, hall⟩ := dev_parts hd
  obtain ⟨_, h4, _⟩ := block_parts (hall b (List.mem_of_getElem? hb))
  induction k with
  | zero => simp [usedTo]
  | succ k ih =>
    by_cases hk : k / 4 = n
    · obtain ⟨j, hj⟩ : ∃ j, j = k - 4 * n := ⟨_, rfl⟩
      obtain ⟨p, hp, hr⟩ := readV_blk hd hb (show j < 4 by omega)
      rw [show 4 * n + j = k by omega] at hr
      rw [← hj] at ih
      rw [show k + 1 - 4 * n = j + 1 by omega, cnt_take hp]
      cases hc : L.contains (k : Int)
      · rw [used_no hc]; omega
      · rw [used_yes hc, List.countP_append]
        have : inBlk bs n (k : Int) = p.f := by
          have e : (k : Int) / 4 = (n : Int) := by omega
          simp [inBlk, hr, e]
        simp only [List.countP_cons, List.countP_nil, this]
        omega
    · have hle : cntF (b.ps.take (k - 4 * n)) ≤ cntF (b.ps.take (k + 1 - 4 * n)) := by
        rcases Nat.lt_or_ge k (4 * n) with h1 | h1
        · rw [show k + 1 - 4 * n = 0 by omega, show k - 4 * n = 0 by omega]; exact Nat.le_refl _
        · rw [List.take_of_length_le (by omega), List.take_of_length_le (by omega)]; exact Nat.le_refl _
      refine Nat.le_trans ?_ hle
      cases hc : L.contains (k : Int)
      · rw [used_no hc]; exact ih
      · rw [used_yes hc, List.countP_append]
        have : inBlk bs n (k : Int) = false := by
          have e : ¬ ((k : Int) / 4 = (n : Int)) := by omega
          simp [inBlk, e]
        simpa [this] using ih
/-- How many pages are written. -/
def writV (bs : List Bk) : Nat := (bs.map fun b => cntF b.ps).sum
theorem writ_take {bs : List Bk} {k : Nat} {b : Bk} (h : bs[k]? = some b) : writV (bs.take (k + 1)) = writV (bs.take k) + cntF b.ps := by
  unfold writV
  rw [List.take_add_one, h, List.map_append, List.sum_append]
  simp
theorem writ_free {bs : List Bk} (h : ∀ b, b ∈ bs → b.ps.length = 4) : freeV bs + writV bs = 4 * bs.length := by
  induction bs with
  | nil => rfl
  | cons b r ih =>
    have hb : b.ps.length = 4 := h b (by simp)
    have h1 := ih (fun b hm => h b (by simp [hm]))
    have h2 : cntF b.ps ≤ 4 := by have := pcnt_le b.ps; omega
    simp only [freeV, writV, List.map_cons, List.sum_cons, List.length_cons] at h1 ⊢
    omega
theorem csum_writ {bs : List Bk} (hd : devB bs = true) (L : List Int) (k : Nat) (hk : k ≤ bs.length) : csum bs (usedTo L 48) k ≤ writV (bs.take k) := by
  obtain ⟨⟨_, h12⟩, hall⟩ := dev_parts hd
  induction k with
  | zero => exact Nat.zero_le _
  | succ k ih =>
    have hb := List.getElem?_eq_getElem (l := bs) (i := k) (by omega)
    have h1 := blk_le hd L hb 48
    obtain ⟨_, h4, _⟩ := block_parts (hall _ (List.mem_of_getElem? hb))
    rw [List.take_of_length_le (by omega)] at h1
    have := ih (by omega)
    rw [writ_take hb]
    simp only [csum]
    omega
/-- What OldPages answers. -/
def oldV (bs : List Bk) (xss : List (List Int)) : Int := if devB bs && tabB xss then (writV bs : Nat) - (csum bs (usedTo xss.flatten 48) bs.length : Nat) else -1
theorem old_no1 {bs : List Bk} {xss : List (List Int)} (h : devB bs = false) : oldV bs xss = -1 := by simp [oldV, h]
theorem old_no2 {bs : List Bk} {xss : List (List Int)} (h : tabB xss = false) : oldV bs xss = -1 := by simp [oldV, h]
theorem old_of {bs : List Bk} {xss : List (List Int)} (h : devB bs = true) (h' : tabB xss = true) : oldV bs xss = (writV bs : Nat) - (csum bs (usedTo xss.flatten 48) bs.length : Nat) := by simp [oldV, h, h']
end Go.Proofs.Yteniikfgellhfaa
namespace Go.Proofs.Yteniikfgellhfaa
open Go.ChangeShapes Go.WideShapes Go.ChangeAt Go.RowKit
set_option linter.unusedVariables false

theorem used_cnt {xss : List (List Int)} {L : List Int} (hv : tabB xss = true) (hL : L = xss.flatten) (a : Nat) : usedTo L a ++ List.replicate ((L.take (6 * 8)).count (a : Int)) (a : Int) = usedTo L (a + 1) := by
  subst hL
  rw [List.take_of_length_le (by rw [tab_flat hv]; exact Nat.le_refl _), tab_count hv (by omega)]
  cases h : xss.flatten.contains (a : Int)
  · rw [used_no h]; simp
  · rw [used_yes h]; simp
theorem used_put {L : List Int} {i a : Nat} {x : Int} (h : L[i]? = some x) (hx : x = (a : Int)) : usedTo L a ++ List.replicate ((L.take i).count (a : Int)) (a : Int) ++ [(a : Int)] = usedTo L a ++ List.replicate ((L.take (i + 1)).count (a : Int)) (a : Int) := by
  rw [count_take (a : Int) h, if_pos hx, List.replicate_succ', List.append_assoc]
theorem used_not {L : List Int} {i a : Nat} {x : Int} (h : L[i]? = some x) (hx : ¬ x = (a : Int)) : usedTo L a ++ List.replicate ((L.take i).count (a : Int)) (a : Int) = usedTo L a ++ List.replicate ((L.take (i + 1)).count (a : Int)) (a : Int) := by
  rw [count_take (a : Int) h, if_neg hx, Nat.add_zero]
theorem used_len (L : List Int) (a i : Nat) (ha : a ≤ 48) (hi : i ≤ 48) : (usedTo L a ++ List.replicate ((L.take i).count (a : Int)) (a : Int)).length ≤ 1000000 := by
  have h1 := usedTo_le L a
  have h2 : (L.take i).count (a : Int) ≤ i := Nat.le_trans List.count_le_length (by rw [List.length_take]; exact Nat.min_le_left _ _)
  simp only [List.length_append, List.length_replicate]
  omega
theorem Seen.more {w : World} {g v m : Nat} {L : List Int} (h : Seen w g (L.take m)) (hx : L[m]? = some (v : Int)) : Seen (w.setCell ⟨g, v, none⟩ (.bool true)) g (L.take (m + 1)) := World.rowIs.congr (h.put (v := v)) fun i _ => by
  congr 1
  rw [Bool.eq_iff_iff]
  simp [List.take_add_one, hx, or_comm]
theorem Seen.same {w : World} {g m : Nat} {L : List Int} {x : Int} (h : Seen w g (L.take m)) (hx : L[m]? = some x) (h0 : ¬ 0 ≤ x) : Seen w g (L.take (m + 1)) := World.rowIs.congr h fun i _ => by
  congr 1
  rw [Bool.eq_iff_iff]
  simp [List.take_add_one, hx]
  omega
theorem Seen.keep {w w' : World} {g : Nat} {L : List Int} {row : Option Nat} (h : Seen w g L) (k : w.grownBy w' row) (hne : row ≠ some g) : Seen w' g L := World.rowIs.of_block h (k.block g (World.rowIs.lt h) (fun e => hne e.symm))
/-- Which pages a table names is told in memory of its own. -/
def NamedIs (L : List Int) (w : World) (e : Ending) (w' : World) : Prop := ∃ g, e = .returned (.slice (some ⟨g, 0, none⟩) 48 48) ∧ Seen w' g L ∧ w.heap.size ≤ g ∧ w.grownBy w' none
end Go.Proofs.Yteniikfgellhfaa
namespace Go.Proofs.Yteniikfgellhfaa
open Go.ChangeShapes Go.WideShapes Go.ChangeAt Go.RowKit
set_option linter.unusedVariables false

theorem readV_page {bs : List Bk} (hd : devB bs = true) {n a : Nat} (hl : bs.length = n) (ha : hasP n (a : Int) = true) : ∃ p, pageAt bs a = some p ∧ readV bs (a : Int) = p := by
  obtain ⟨_, hall⟩ := dev_parts hd
  have h4 : ∀ b, b ∈ bs → b.ps.length = 4 := fun b hm => (block_parts (hall b hm)).2.1
  simp only [hasP, Bool.and_eq_true, decide_eq_true_eq] at ha
  obtain ⟨p, hp⟩ := page_some h4 (a := a) (by omega)
  refine ⟨p, hp, ?_⟩
  unfold readV
  rw [if_pos hd, if_pos (by omega), Int.toNat_natCast, hp]
  rfl
theorem readV_out {bs : List Bk} (hd : devB bs = true) {n a : Nat} (hl : bs.length = n) (ha : hasP n (a : Int) = false) : (readV bs (a : Int)).f = false := by
  obtain ⟨_, hall⟩ := dev_parts hd
  have h4 : ∀ b, b ∈ bs → b.ps.length = 4 := fun b hm => (block_parts (hall b hm)).2.1
  simp only [hasP, Bool.and_eq_false_iff, decide_eq_false_iff_not] at ha
  unfold readV
  rw [if_pos hd, if_pos (by omega), Int.toNat_natCast, ← allP_at h4, List.getElem?_eq_none (by rw [allP_length h4]; omega)]
  rfl
theorem blk_small {us : List Int} {bs : List Bk} (j q : Nat) (h : us.length ≤ 48) : (us.take j).countP (inBlk bs q) ≤ 48 := Nat.le_trans List.countP_le_length (by rw [List.length_take]; omega)
section
variable {D : Option Addr} {nd cd : Nat} {bs : List Bk} {A : Option Addr} {n c : Nat} {ls : List Li} {w : World}
/-- The loop over the pages of a table: the numbers of the blocks lie in block G. -/
def CRel (w : World) (G B nd : Nat) (U : Value) (us : List Int) (D : Option Addr) (bs : List Bk) (j : Nat) (wr : World) : Prop :=
  IOwn wr w.heap.size (.slice (some ⟨G, 0, none⟩) nd nd) (cntL bs (us.take j) nd) ∧ IOwn wr B U us ∧ DRow wr w.heap.size D bs ∧ w.grownBy wr none
end
end Go.Proofs.Yteniikfgellhfaa
namespace Go.Proofs.Yteniikfgellhfaa
open Go.ChangeShapes Go.WideShapes Go.ChangeAt Go.RowKit
set_option linter.unusedVariables false

/-- append(u, x), which also tells where the row lies then. -/
theorem push_intK {wr wq : World} {u : Value} {xs : List Int} (x : Int) (h : IOwn wq wr.heap.size u xs) (hb : wr.heap.size ≤ wq.heap.size) (hn : xs.length ≤ 1000000) :
    ∃ u' w', (∀ ty, (Builtin.append_ #[26, 26] ty #[u, .slice (some ⟨wq.heap.size, 0, none⟩) 1 1]).run Try.prog (wq.alloc (.cells #[.int .i64 x] 3)) = .ok u' w') ∧ IOwn w' wr.heap.size u' (xs ++ [x]) ∧ (wq.alloc (.cells #[.int .i64 x] 3)).grownBy w' u.ownBlock ∧
      (u'.ownBlock = u.ownBlock ∨ u'.ownBlock = some (wq.heap.size + 1)) := by
  have h1 := VOwn.keep h (grown_alloc (grown_refl wq none) (.cells #[.int .i64 x] 3))
  unfold VOwn at h1
  rw [iv_length] at h1
  obtain ⟨u', w', hrun, h2, h3, h4⟩ := append_ints _ wr.heap.size u xs.length _ _ 1 1 [x] (iv xs) h1 (irow_one wq x) rfl (by omega) (by omega) (by simp only [size_alloc1]; omega)
  refine ⟨u', w', hrun, ?_, h3, by rw [size_alloc1] at h4; exact h4⟩
  unfold IOwn VOwn
  rw [iv_length, List.length_append, iv_append]
  exact h2
/-- Two rows of numbers of the call's own, apart from each other; the first one grows. -/
def USt (w : World) (U : Value) (us : List Int) (u : Value) (xs : List Int) (wr : World) : Prop :=
  IOwn wr w.heap.size u xs ∧ IOwn wr w.heap.size U us ∧ (∀ g, u.ownBlock = some g → U.ownBlock ≠ some g)
section
variable {w wr w' : World} {U u u' : Value} {us xs : List Int}
theorem USt.keep (h : USt w U us u xs wr) (k : wr.grownBy w' none) : USt w U us u xs w' := ⟨VOwn.keep h.1 k, VOwn.keep h.2.1 k, h.2.2⟩
theorem USt.push {x : Int} (h : USt w U us u xs wr) (hi : IOwn w' w.heap.size u' (xs ++ [x])) (hg : (wr.alloc (.cells #[.int .i64 x] 3)).grownBy w' u.ownBlock) (hk : u'.ownBlock = u.ownBlock ∨ u'.ownBlock = some (wr.heap.size + 1)) : USt w U us u' (xs ++ [x]) w' := by
  refine ⟨hi, VOwn.kept (VOwn.keep h.2.1 (grown_alloc (grown_refl wr none) _)) hg ?_, fun g e e' => ?_⟩
  · cases hu : u.ownBlock with
    | none => cases hU : U.ownBlock <;> simp
    | some g => exact .inr (h.2.2 g hu)
  · rcases hk with hk | hk
    · exact h.2.2 g (hk.symm.trans e) e'
    · have h1 := (VOwn.lt h.2.1 g e').2
      rw [hk] at e
      injection e with e
      omega
end
variable {D : Option Addr} {nd cd : Nat} {bs : List Bk} {A : Option Addr} {n c : Nat} {ls : List Li} {w : World}
/-- The loop over the blocks. -/
def SRel (w : World) (A : Option Addr) (n c : Nat) (ls : List Li) (D : Option Addr) (bs : List Bk) (U : Value) (us : List Int) (u : Value) (xs : List Int) (wr : World) : Prop := USt w U us u xs wr ∧ VIn w A n c ls D bs wr
theorem SRel.keep {wr w' : World} {U u : Value} {us xs : List Int} (h : SRel w A n c ls D bs U us u xs wr) (k : wr.grownBy w' none) : SRel w A n c ls D bs U us u xs w' := ⟨h.1.keep k, h.2.keep k⟩
/-- What is laid behind the call of UsedPages. -/
theorem srel_start {w2 w3 : World} {Au : Option Addr} {nu cu : Nat} {us : List Int} (hT : VIn w A n c ls D bs w2) (hi : IOwn w2 w.heap.size (.slice (some ⟨w.heap.size + 1, 0, none⟩) 0 0) []) (hz : w2.heap.size = w.heap.size + 2) (ho : IOwn w3 w2.heap.size (.slice Au nu cu) us) (hk : w2.grownBy w3 none) :
    SRel w A n c ls D bs (.slice Au nu cu) us (.slice (some ⟨w.heap.size + 1, 0, none⟩) 0 0) [] w3 := by
  refine ⟨⟨VOwn.keep hi hk, VOwn.base_le ho (by omega), fun g e e' => ?_⟩, hT.keep hk⟩
  have := (VOwn.lt ho g e').1
  simp only [Value.ownBlock, Option.some.injEq] at e
  omega
end Go.Proofs.Yteniikfgellhfaa
namespace Go.Proofs.Yteniikfgellhfaa
open Go.ChangeShapes Go.WideShapes Go.ChangeAt Go.RowKit
set_option linter.unusedVariables false

section
variable {D : Option Addr} {nd cd : Nat} {bs : List Bk} {A : Option Addr} {n c : Nat} {ls : List Li} {w : World}
theorem csum_step (bs : List Bk) (us : List Int) (k : Nat) : csum bs us (k + 1) = csum bs us k + us.countP (inBlk bs k) := rfl
theorem writ_le {bs : List Bk} (hd : devB bs = true) (k : Nat) : writV (bs.take k) ≤ 48 := by
  obtain ⟨⟨_, h12⟩, hall⟩ := dev_parts hd
  have h := writ_free (bs := bs.take k) (fun b hm => (block_parts (hall b (List.mem_of_mem_take hm))).2.1)
  rw [List.length_take] at h
  omega
variable {X : List Int} {n1 : Nat} {V : Int}
end
/-- The program reads of a device what the pages are, not where they lie. -/
theorem inBlk_is {bs cs : List Bk} (h : cs.map Bk.is = bs.map Bk.is) (n : Nat) (x : Int) : inBlk cs n x = inBlk bs n x := by simp only [inBlk, readV_is h]
theorem countsV_is {bs cs : List Bk} (h : cs.map Bk.is = bs.map Bk.is) (xss : List (List Int)) : countsV cs xss = countsV bs xss := by
  have e : ∀ n, inBlk cs n = inBlk bs n := fun n => funext fun x => inBlk_is h n x
  simp only [countsV, devB_is h, cntL, e, is_length h]
theorem oldV_is {bs cs : List Bk} (h : cs.map Bk.is = bs.map Bk.is) (xss : List (List Int)) : oldV cs xss = oldV bs xss := by
  have e : ∀ n, inBlk cs n = inBlk bs n := fun n => funext fun x => inBlk_is h n x
  have ec : ∀ us m, csum cs us m = csum bs us m := fun us m => by
    induction m with
    | zero => rfl
    | succ m ih => simp only [csum, ih, e]
  have ew : ∀ l : List Bk, writV l = ((l.map Bk.is).map fun q => cntF q.2).sum := fun l => by simp only [writV, List.map_map]; rfl
  simp only [oldV, devB_is h, ec, is_length h]
  rw [ew cs, ew bs, h]
theorem used_is (xss : List (List Int)) : ∃ (n1 : Nat) (l1 : List Int), usedV xss = l1 ∧ l1.length = n1 ∧ n1 ≤ 1048576 := ⟨_, _, rfl, rfl, Nat.le_trans (used_small xss) (by omega)⟩
theorem counts_is (bs : List Bk) (xss : List (List Int)) : ∃ (n1 : Nat) (l1 : List Int), countsV bs xss = l1 ∧ l1.length = n1 ∧ n1 ≤ 1048576 := ⟨_, _, rfl, rfl, Nat.le_trans (counts_small bs xss) (by omega)⟩
end Go.Proofs.Yteniikfgellhfaa
