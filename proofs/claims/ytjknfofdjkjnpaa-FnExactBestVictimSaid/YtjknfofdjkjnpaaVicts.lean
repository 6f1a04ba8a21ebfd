/- Which blocks may be cleaned, and the best one of them (plain facts of chapter 13).
   What the small functions of chapter 13 answer: the program's and the model's.
   Which blocks may be cleaned: the program's blocksToClean and the model's l13May.
   What the program's GreedyVictim and BestVictim answer.
   What the program's BestVictim answers.
   What the model's GreedyVictim and BestVictim answer.
   What the model's BestVictim answers. -/
import Derived.Test.YtjknfofdjkjnpaaHeads1
import Derived.Test.YtjknfofdjkjnpaaHeads6
import Derived.Test.YtjknfofdjkjnpaaCounts
import Derived.Test.YtjknfofdjkjnpaaHeads7
namespace Go.Proofs.Ytjknfofdjkjnpaa
open Go.ChangeShapes Go.WideShapes Go.ChangeAt Go.RowKit
set_option linter.unusedVariables false

/-- The number at a place of a row. -/
def cAt (X : List Int) (x : Int) : Int := (X[x.toNat]?).getD 0
/-- The pages of a block. -/
def pgAt (bs : List Bk) (x : Int) : List Pg := ((bs[x.toNat]?).map (·.ps)).getD []
theorem cAt_of {X : List Int} {k : Nat} {x : Int} (h : X[k]? = some x) : cAt X (k : Int) = x := by simp [cAt, h]
theorem pgAt_of {bs : List Bk} {k : Nat} {b : Bk} (h : bs[k]? = some b) : pgAt bs (k : Int) = b.ps := by simp [pgAt, h]
theorem pgAt_is {bs cs : List Bk} (h : cs.map Bk.is = bs.map Bk.is) (x : Int) : pgAt cs x = pgAt bs x := by
  have e := is_get h x.toNat
  unfold pgAt
  cases hc : cs[x.toNat]? <;> cases hb : bs[x.toNat]? <;> rw [hc, hb] at e <;> simp [Bk.is] at e ⊢
  exact e.2
/-- The block is one of the heads. -/
def oneB (a b h x : Int) : Bool := (x == a) || (x == b) || (x == h)
/-- Block k may be cleaned. -/
def mayB (bs : List Bk) (X : List Int) (a b h : Int) (k : Nat) : Bool := decide (cntF (pgAt bs k) = 4) && decide (cAt X k < 4) && !oneB a b h k
theorem mayB_is {bs cs : List Bk} (h : cs.map Bk.is = bs.map Bk.is) (X : List Int) (a b h9 : Int) : mayB cs X a b h9 = mayB bs X a b h9 := funext fun k => by simp only [mayB, pgAt_is h]
/-- The numbers below k that are let in. -/
def mayTo (m : Nat → Bool) : Nat → List Int
  | 0 => []
  | k + 1 => if m k then mayTo m k ++ [(k : Int)] else mayTo m k
theorem may_yes {m : Nat → Bool} {k : Nat} (h : m k = true) : mayTo m (k + 1) = mayTo m k ++ [(k : Int)] := by simp only [mayTo, h, if_true]
theorem may_no {m : Nat → Bool} {k : Nat} (h : m k = false) : mayTo m (k + 1) = mayTo m k := by simp only [mayTo, h]; rfl
theorem mayTo_le (m : Nat → Bool) (k : Nat) : (mayTo m k).length ≤ k := by
  induction k with
  | zero => exact Nat.le_refl 0
  | succ k ih =>
    cases h : m k
    · rw [may_no h]; omega
    · rw [may_yes h, List.length_append, List.length_singleton]; omega
theorem mem_mayTo {m : Nat → Bool} {k : Nat} {x : Int} : x ∈ mayTo m k ↔ ∃ j : Nat, j < k ∧ x = (j : Int) ∧ m j = true := by
  induction k with
  | zero => simp [mayTo]
  | succ k ih =>
    have e : (∃ j : Nat, j < k + 1 ∧ x = (j : Int) ∧ m j = true) ↔ (∃ j : Nat, j < k ∧ x = (j : Int) ∧ m j = true) ∨ (x = (k : Int) ∧ m k = true) := by
      constructor
      · rintro ⟨j, hj, h1, h2⟩
        rcases Nat.lt_or_ge j k with h | h
        · exact .inl ⟨j, h, h1, h2⟩
        · obtain rfl : j = k := by omega
          exact .inr ⟨h1, h2⟩
      · rintro (⟨j, hj, h1, h2⟩ | ⟨h1, h2⟩)
        · exact ⟨j, by omega, h1, h2⟩
        · exact ⟨k, by omega, h1, h2⟩
    rw [e, ← ih]
    cases h : m k
    · rw [may_no h]; simp
    · rw [may_yes h]; simp
/-- The blocks that may be cleaned. -/
def toCleanV (n : Nat) (bs : List Bk) (X : List Int) (a b h : Int) : List Int := if headsB n a b h && devB bs then mayTo (mayB bs X a b h) X.length else []
theorem toClean_no {n : Nat} {bs : List Bk} {X : List Int} {a b h : Int} (hv : (headsB n a b h && devB bs) = false) : toCleanV n bs X a b h = [] := by simp [toCleanV, hv]
theorem toClean_of {n : Nat} {bs : List Bk} {X : List Int} {a b h : Int} (hv : (headsB n a b h && devB bs) = true) : toCleanV n bs X a b h = mayTo (mayB bs X a b h) X.length := by simp [toCleanV, hv]
theorem toClean_is {bs cs : List Bk} (he : cs.map Bk.is = bs.map Bk.is) (n : Nat) (X : List Int) (a b h : Int) : toCleanV n cs X a b h = toCleanV n bs X a b h := by simp only [toCleanV, devB_is he, mayB_is he]
theorem toClean_le (n : Nat) (bs : List Bk) (X : List Int) (a b h : Int) : (toCleanV n bs X a b h).length ≤ X.length := by
  unfold toCleanV
  split
  · exact mayTo_le _ _
  · exact Nat.zero_le _
theorem toClean_mem {n : Nat} {bs : List Bk} {X : List Int} {a b h x : Int} (hx : x ∈ toCleanV n bs X a b h) : ∃ j : Nat, j < X.length ∧ x = (j : Int) ∧ mayB bs X a b h j = true := by
  unfold toCleanV at hx
  split at hx
  · exact mem_mayTo.1 hx
  · simp at hx
/-- One step to the first number with the least value. -/
def leastS (f : Int → Int) (v x : Int) : Int := if v < 0 ∨ f x < f v then x else v
def leastV (f : Int → Int) (L : List Int) : Int := L.foldl (leastS f) (-1)
theorem least_step {f : Int → Int} {L : List Int} {i : Nat} {x : Int} (h : L[i]? = some x) : leastV f (L.take (i + 1)) = leastS f (leastV f (L.take i)) x := by
  simp only [leastV, List.take_add_one, h, Option.toList_some, List.foldl_append, List.foldl_cons, List.foldl_nil]
theorem least_snoc (f : Int → Int) (L : List Int) (x : Int) : leastV f (L ++ [x]) = leastS f (leastV f L) x := by simp only [leastV, List.foldl_append, List.foldl_cons, List.foldl_nil]
theorem least_acc (f : Int → Int) : ∀ (L : List Int) (v : Int), (∀ x, x ∈ L → 0 ≤ x) → (L.foldl (leastS f) v = v ∨ L.foldl (leastS f) v ∈ L) ∧ (0 ≤ v → 0 ≤ L.foldl (leastS f) v ∧ f (L.foldl (leastS f) v) ≤ f v) ∧ ∀ x, x ∈ L → 0 ≤ L.foldl (leastS f) v ∧ f (L.foldl (leastS f) v) ≤ f x := by
  intro L
  induction L with
  | nil => intro v _; exact ⟨.inl rfl, fun h => ⟨h, Int.le_refl _⟩, fun x hx => by simp at hx⟩
  | cons y t ih =>
    intro v hL
    have hy := hL y (by simp)
    obtain ⟨i1, i2, i3⟩ := ih (leastS f v y) (fun x hx => hL x (by simp [hx]))
    have hv : leastS f v y = v ∨ leastS f v y = y := by unfold leastS; split <;> simp
    have h0 : 0 ≤ leastS f v y := by unfold leastS; split <;> omega
    have h1 : f (leastS f v y) ≤ f y := by
      unfold leastS
      split
      · exact Int.le_refl _
      · omega
    have h2 : 0 ≤ v → f (leastS f v y) ≤ f v := fun h => by
      unfold leastS
      split
      · omega
      · exact Int.le_refl _
    obtain ⟨j0, j1⟩ := i2 h0
    simp only [List.foldl_cons]
    refine ⟨?_, fun h => ⟨j0, Int.le_trans j1 (h2 h)⟩, fun x hx => ⟨j0, ?_⟩⟩
    · rcases i1 with e | e
      · rw [e]
        rcases hv with hv | hv
        · exact .inl hv
        · rw [hv]; exact .inr (by simp)
      · exact .inr (by simp [e])
    · rcases List.mem_cons.1 hx with rfl | hx
      · exact Int.le_trans j1 h1
      · exact (i3 x hx).2
theorem least_cases (f : Int → Int) {L : List Int} (hL : ∀ x, x ∈ L → 0 ≤ x) : (L = [] ∧ leastV f L = -1) ∨ (leastV f L ∈ L ∧ 0 ≤ leastV f L ∧ ∀ x, x ∈ L → f (leastV f L) ≤ f x) := by
  obtain ⟨h1, _, h3⟩ := least_acc f L (-1) hL
  cases L with
  | nil => exact .inl ⟨rfl, rfl⟩
  | cons y t =>
    have h0 := (h3 y (by simp)).1
    refine .inr ⟨?_, h0, fun x hx => (h3 x hx).2⟩
    rcases h1 with e | e
    · exact absurd (e ▸ h0) (by decide)
    · exact e
/-- The greatest Stamp of pages. -/
def lastV (ps : List Pg) : Int := ps.foldl (fun m p => max m p.d) 0
theorem last_step {ps : List Pg} {k : Nat} {p : Pg} (h : ps[k]? = some p) : lastV (ps.take (k + 1)) = max (lastV (ps.take k)) p.d := by
  simp only [lastV, List.take_add_one, h, Option.toList_some, List.foldl_append, List.foldl_cons, List.foldl_nil]
theorem last_acc (B : Int) : ∀ (ps : List Pg) (m : Int), m ≤ B → (∀ p, p ∈ ps → p.d ≤ B) → m ≤ ps.foldl (fun m p => max m p.d) m ∧ ps.foldl (fun m p => max m p.d) m ≤ B := by
  intro ps
  induction ps with
  | nil => intro m h _; exact ⟨Int.le_refl _, h⟩
  | cons p t ih =>
    intro m h hp
    have h1 := hp p (by simp)
    obtain ⟨i1, i2⟩ := ih (max m p.d) (by omega) (fun q hq => hp q (by simp [hq]))
    simp only [List.foldl_cons]
    exact ⟨by omega, i2⟩
theorem last_in {ps : List Pg} (h : ∀ p, p ∈ ps → p.d ≤ 1000000) : 0 ≤ lastV ps ∧ lastV ps ≤ 1000000 := last_acc 1000000 ps 0 (by decide) h
/-- How long ago the last write was. -/
def ageV (ps : List Pg) (now : Int) : Int := max 0 (now - lastV ps)
/-- What it is worth to clean a block. -/
def scoreV (u g : Int) : Int := if inB u 0 4 && inB g 0 1000000 then (g * (4 - u)).tdiv (u + 1) else -1
theorem score_no {u g : Int} (h : (inB u 0 4 && inB g 0 1000000) = false) : scoreV u g = -1 := by simp [scoreV, h]
theorem score_of {u g : Int} (h : (inB u 0 4 && inB g 0 1000000) = true) : scoreV u g = (g * (4 - u)).tdiv (u + 1) := by simp [scoreV, h]
theorem score_five {u g : Int} (h : inB u 0 4 = true) (hg : inB g 0 1000000 = true) : (u = 0 ∧ scoreV u g = (g * 4).tdiv 1) ∨ (u = 1 ∧ scoreV u g = (g * 3).tdiv 2) ∨ (u = 2 ∧ scoreV u g = (g * 2).tdiv 3) ∨ (u = 3 ∧ scoreV u g = (g * 1).tdiv 4) ∨ (u = 4 ∧ scoreV u g = (g * 0).tdiv 5) := by
  rw [score_of (by rw [h, hg]; rfl)]
  have h1 := inB_iff.1 h
  have h2 : u = 0 ∨ u = 1 ∨ u = 2 ∨ u = 3 ∨ u = 4 := by omega
  rcases h2 with rfl | rfl | rfl | rfl | rfl <;> simp
theorem score_le {u g : Int} : -1 ≤ scoreV u g ∧ scoreV u g ≤ 4000000 := by
  cases hv : inB u 0 4 && inB g 0 1000000
  · rw [score_no hv]; decide
  · rw [Bool.and_eq_true] at hv
    have h2 := inB_iff.1 hv.2
    rcases score_five hv.1 hv.2 with ⟨_, e⟩ | ⟨_, e⟩ | ⟨_, e⟩ | ⟨_, e⟩ | ⟨_, e⟩ <;> rw [e, Int.tdiv_eq_ediv_of_nonneg (by omega)] <;> omega
theorem score_pos {u g : Int} (h : inB u 0 4 = true) (hg : inB g 0 1000000 = true) : 0 ≤ scoreV u g := by
  have h2 := inB_iff.1 hg
  rcases score_five h hg with ⟨_, e⟩ | ⟨_, e⟩ | ⟨_, e⟩ | ⟨_, e⟩ | ⟨_, e⟩ <;> rw [e, Int.tdiv_eq_ediv_of_nonneg (by omega)] <;> omega
theorem score_age {u g : Int} (h : inB u 0 4 = true) (hg : inB g 0 1000000 = true) (h1 : g ≠ 1000000) : scoreV u g ≤ scoreV u (g + 1) := by
  have h2 := inB_iff.1 hg
  have hg' : inB (g + 1) 0 1000000 = true := inB_iff.2 ⟨by omega, by omega⟩
  rcases score_five h hg with ⟨hu, e⟩ | ⟨hu, e⟩ | ⟨hu, e⟩ | ⟨hu, e⟩ | ⟨hu, e⟩ <;> rcases score_five h hg' with ⟨hu', e'⟩ | ⟨hu', e'⟩ | ⟨hu', e'⟩ | ⟨hu', e'⟩ | ⟨hu', e'⟩ <;> first
    | (exfalso; omega)
    | (rw [e, e', Int.tdiv_eq_ediv_of_nonneg (by omega), Int.tdiv_eq_ediv_of_nonneg (by omega)]; omega)
theorem score_used {u g : Int} (h : inB u 0 4 = true) (hg : inB g 0 1000000 = true) (h1 : u ≠ 4) : scoreV (u + 1) g ≤ scoreV u g := by
  have h2 := inB_iff.1 hg
  have h3 := inB_iff.1 h
  have h' : inB (u + 1) 0 4 = true := inB_iff.2 ⟨by omega, by omega⟩
  rcases score_five h hg with ⟨hu, e⟩ | ⟨hu, e⟩ | ⟨hu, e⟩ | ⟨hu, e⟩ | ⟨hu, e⟩ <;> rcases score_five h' hg with ⟨hu', e'⟩ | ⟨hu', e'⟩ | ⟨hu', e'⟩ | ⟨hu', e'⟩ | ⟨hu', e'⟩ <;> first
    | (exfalso; omega)
    | (rw [e, e', Int.tdiv_eq_ediv_of_nonneg (by omega), Int.tdiv_eq_ediv_of_nonneg (by omega)]; omega)
/-- One step to the first number with the greatest value. -/
def bestS (s : Int → Int) (p : Int × Int) (x : Int) : Int × Int := if p.2 < s x then (x, s x) else p
def bestL (s : Int → Int) (L : List Int) : Int × Int := L.foldl (bestS s) (-1, -1)
theorem best_step {s : Int → Int} {L : List Int} {i : Nat} {x : Int} (h : L[i]? = some x) : bestL s (L.take (i + 1)) = bestS s (bestL s (L.take i)) x := by
  simp only [bestL, List.take_add_one, h, Option.toList_some, List.foldl_append, List.foldl_cons, List.foldl_nil]
theorem best_snoc (s : Int → Int) (L : List Int) (x : Int) : bestL s (L ++ [x]) = bestS s (bestL s L) x := by simp only [bestL, List.foldl_append, List.foldl_cons, List.foldl_nil]
theorem best_acc (s : Int → Int) : ∀ (L : List Int) (p : Int × Int), (L.foldl (bestS s) p = p ∨ ((L.foldl (bestS s) p).1 ∈ L ∧ (L.foldl (bestS s) p).2 = s (L.foldl (bestS s) p).1)) ∧ ∀ x, x ∈ L → s x ≤ (L.foldl (bestS s) p).2 ∧ p.2 ≤ (L.foldl (bestS s) p).2 := by
  intro L
  induction L with
  | nil => intro p; exact ⟨.inl rfl, fun x hx => by simp at hx⟩
  | cons y t ih =>
    intro p
    obtain ⟨i1, i2⟩ := ih (bestS s p y)
    have hp : (bestS s p y = p ∧ ¬ p.2 < s y) ∨ (bestS s p y = (y, s y) ∧ p.2 < s y) := by unfold bestS; split <;> simp [*]
    have hm : s y ≤ (bestS s p y).2 ∧ p.2 ≤ (bestS s p y).2 := by rcases hp with ⟨e, h⟩ | ⟨e, h⟩ <;> rw [e] <;> (try dsimp only) <;> omega
    have hn : (bestS s p y).2 ≤ (t.foldl (bestS s) (bestS s p y)).2 := by
      cases t with
      | nil => exact Int.le_refl _
      | cons z r => exact (i2 z (by simp)).2
    simp only [List.foldl_cons]
    refine ⟨?_, fun x hx => ?_⟩
    · rcases i1 with e | ⟨e, e2⟩
      · rw [e]
        rcases hp with ⟨e1, _⟩ | ⟨e1, _⟩
        · exact .inl e1
        · rw [e1]; exact .inr ⟨by simp, rfl⟩
      · exact .inr ⟨by simp [e], e2⟩
    · refine ⟨?_, by omega⟩
      rcases List.mem_cons.1 hx with rfl | hx
      · omega
      · exact (i2 x hx).1
theorem best_cases {s : Int → Int} {L : List Int} (hL : ∀ x, x ∈ L → 0 ≤ s x) : (L = [] ∧ bestL s L = (-1, -1)) ∨ ((bestL s L).1 ∈ L ∧ (bestL s L).2 = s (bestL s L).1) := by
  obtain ⟨h1, h2⟩ := best_acc s L (-1, -1)
  cases L with
  | nil => exact .inl ⟨rfl, rfl⟩
  | cons y t =>
    rcases h1 with e | e
    · have h0 := hL y (by simp)
      have h3 := (h2 y (by simp)).1
      rw [e] at h3
      dsimp only at h3
      omega
    · exact .inr e
/-- What a block is worth at a time. -/
def sAt (bs : List Bk) (X : List Int) (now x : Int) : Int := scoreV (cAt X x) (ageV (pgAt bs x) now)
theorem sAt_is {bs cs : List Bk} (h : cs.map Bk.is = bs.map Bk.is) (X : List Int) (now : Int) : sAt cs X now = sAt bs X now := funext fun x => by simp only [sAt, pgAt_is h]
/-- What GreedyVictim answers. -/
def greedyV (n : Nat) (bs : List Bk) (X : List Int) (a b h : Int) : Int := leastV (cAt X) (toCleanV n bs X a b h)
/-- What BestVictim answers. -/
def victimV (n : Nat) (bs : List Bk) (X : List Int) (a b h now : Int) : Int := if inB now 0 1000000 then (bestL (sAt bs X now) (toCleanV n bs X a b h)).1 else -1
theorem greedy_is {bs cs : List Bk} (he : cs.map Bk.is = bs.map Bk.is) (n : Nat) (X : List Int) (a b h : Int) : greedyV n cs X a b h = greedyV n bs X a b h := by simp only [greedyV, toClean_is he]
theorem victim_is {bs cs : List Bk} (he : cs.map Bk.is = bs.map Bk.is) (n : Nat) (X : List Int) (a b h now : Int) : victimV n cs X a b h now = victimV n bs X a b h now := by simp only [victimV, toClean_is he, sAt_is he]
end Go.Proofs.Ytjknfofdjkjnpaa
namespace Go.Proofs.Ytjknfofdjkjnpaa
open Go.ChangeShapes Go.WideShapes Go.ChangeAt Go.RowKit
set_option linter.unusedVariables false

theorem isTime_any (n : Int) (w : World) :
    Calls Try.prog 46 #[.int .i64 n] w fun e w' => e = .returned (.bool (inB n 0 1000000)) ∧ w = w' := by
  go_enter Try.func46, Try.ntmps46
  go_wp2
  all_goals (go_ret; refine ⟨retB ?_, rfl⟩; rw [Bool.eq_iff_iff]; simp [inB]; omega)
theorem isTime_val {n : Int} {V : Bool} (h : inB n 0 1000000 = V) (w : World) :
    Calls Try.prog 46 #[.int .i64 n] w fun e w' => e = .returned (.bool V) ∧ w = w' := h ▸ isTime_any n w
theorem out_cases {u hi : Int} (hu : inB u 0 hi = false) : u < 0 ∨ (¬ u < 0 ∧ hi < u) := by
  rcases Int.lt_or_le u 0 with h | h
  · exact .inl h
  · refine .inr ⟨by omega, ?_⟩
    rcases Int.lt_or_le hi u with h' | h'
    · exact h'
    · exact absurd (inB_iff.2 ⟨h, h'⟩) (by simp [hu])
theorem score_any (u g : Int) (w : World) :
    Calls Try.prog 17 #[.int .i64 u, .int .i64 g] w fun e w' => e = .returned (.int .i64 (scoreV u g)) ∧ w = w' := by
  cases hu : inB u 0 4
  · rw [score_no (by rw [hu]; rfl)]
    rcases out_cases hu with h | ⟨h, h'⟩
    · have t0 := decide_eq_true h
      clear h hu
      go_enter Try.func17, Try.ntmps17
      go_wp2
      go_ret
      exact ⟨rfl, rfl⟩
    · have t0 := decide_eq_false h
      have t1 := decide_eq_true h'
      clear h h' hu
      go_enter Try.func17, Try.ntmps17
      go_wp2
      go_ret
      exact ⟨rfl, rfl⟩
  · have h5 := inB_iff.1 hu
    have t0 : decide (u < 0) = false := decide_eq_false (by omega)
    have t1 : decide (4 < u) = false := decide_eq_false (by omega)
    cases hg : inB g 0 1000000
    · rw [score_no (by rw [hu, hg]; rfl)]
      have HG := Lib.hid hg
      clear hu hg h5
      go_enter Try.func17, Try.ntmps17
      go_wp2_with (go_at_call 46; refine (isTime_val HG.out _).mono ?_; rintro e w' ⟨rfl, rfl⟩)
      go_ret
      exact ⟨rfl, rfl⟩
    · obtain ⟨g0, g1⟩ := inB_iff.1 hg
      have HG := Lib.hid hg
      rcases score_five hu hg with ⟨rfl, e⟩ | ⟨rfl, e⟩ | ⟨rfl, e⟩ | ⟨rfl, e⟩ | ⟨rfl, e⟩
      all_goals
        rw [e]
        clear e hu hg h5 t0 t1
        go_enter Try.func17, Try.ntmps17
        go_wp2_with (go_at_call 46; refine (isTime_val HG.out _).mono ?_; rintro e w' ⟨rfl, rfl⟩)
        go_ret
        exact ⟨retI (by first | rfl | (simp; done) | (rw [Int.tdiv_eq_ediv_of_nonneg (by omega)]; try omega)), rfl⟩
theorem specScore_any (u g : Int) (w : World) :
    Calls Try.prog 18 #[.int .i64 u, .int .i64 g] w fun e w' => e = .returned (.int .i64 (scoreV u g)) ∧ w = w' := by
  cases hu : inB u 0 4
  · rw [score_no (by rw [hu]; rfl)]
    have HU := Lib.hid hu
    clear hu
    go_enter Try.func18, Try.ntmps18
    go_wp2_with (go_at_call 47; refine (in_any _ _ _ _).mono ?_; rintro e w' ⟨rfl, rfl⟩; rw [HU.out])
    go_ret
    exact ⟨rfl, rfl⟩
  · have h5 := inB_iff.1 hu
    cases hg : inB g 0 1000000
    · rw [score_no (by rw [hu, hg]; rfl)]
      have HU := Lib.hid hu
      have HG := Lib.hid hg
      clear hu hg h5
      go_enter Try.func18, Try.ntmps18
      go_wp2_with (go_at_call 47; refine (in_any _ _ _ _).mono ?_; rintro e w' ⟨rfl, rfl⟩; first | rw [HU.out] | rw [HG.out])
      go_ret
      exact ⟨rfl, rfl⟩
    · obtain ⟨g0, g1⟩ := inB_iff.1 hg
      have HG := Lib.hid hg
      rcases score_five hu hg with ⟨rfl, e⟩ | ⟨rfl, e⟩ | ⟨rfl, e⟩ | ⟨rfl, e⟩ | ⟨rfl, e⟩
      all_goals
        rw [e]
        have HU := Lib.hid hu
        clear e hu hg h5
        go_enter Try.func18, Try.ntmps18
        go_wp2_with (go_at_call 47; refine (in_any _ _ _ _).mono ?_; rintro e w' ⟨rfl, rfl⟩; first | rw [HU.out] | rw [HG.out])
        go_ret
        exact ⟨retI (by first | rfl | (simp; done) | (rw [Int.tdiv_eq_ediv_of_nonneg (by omega)]; try omega)), rfl⟩
theorem score_val {u g V : Int} (h : scoreV u g = V) (w : World) :
    Calls Try.prog 17 #[.int .i64 u, .int .i64 g] w fun e w' => e = .returned (.int .i64 V) ∧ w = w' := h ▸ score_any u g w
theorem specScore_val {u g V : Int} (h : scoreV u g = V) (w : World) :
    Calls Try.prog 18 #[.int .i64 u, .int .i64 g] w fun e w' => e = .returned (.int .i64 V) ∧ w = w' := h ▸ specScore_any u g w
section
variable {A : Option Addr} {c n : Nat} {m : Int} {ps : List Pg} {w : World}
theorem isFull_val {V : Bool} (hl : ps.length = n) (h : decide (cntF ps = 4) = V) (hr : Row w w.heap.size A ps) (hn : n ≤ 1048576) :
    Calls Try.prog 62 #[.agg #[.int .i64 m, .slice A n c]] w (KeptV (.bool V) w) := by
  subst hl
  have HR := Lib.hid (hr.alloc (.cells #[.int .i64 m, .slice A ps.length c] 39))
  have b1 := (Blk.new w 39 #[.int .i64 m, .slice A ps.length c]).cell 1
  obtain ⟨q, hq⟩ : ∃ q, cntF ps = q := ⟨_, rfl⟩
  have HQ := Lib.hid hq
  have e1 : ((q : Int) == 4) = V := by
    rw [← h, hq, Bool.eq_iff_iff, beq_iff_eq, decide_eq_true_iff]
    omega
  clear hr hq h
  go_enter Try.func62, Try.ntmps62
  go_wp2_with (go_at_call 44; refine (written_any _ _ _ _ HR.out.here hn).mono ?_; rintro e w' ⟨rfl, hk⟩; rw [HQ.out])
  go_ret
  exact ⟨retB (by first | rfl | exact e1 | simp [e1]), grown_trans (grown_alloc (grown_refl _ _) _) hk⟩
theorem lastStamp_any (hl : ps.length = n) (hr : Row w w.heap.size A ps) (hn : n ≤ 1048576) :
    Calls Try.prog 79 #[.agg #[.int .i64 m, .slice A n c]] w (KeptV (.int .i64 (lastV ps)) w) := by
  subst hl
  have HR := Lib.hid hr
  have b1 := (Blk.new w 39 #[.int .i64 m, .slice A ps.length c]).cell 1
  clear hr
  go_enter Try.func79, Try.ntmps79
  go_wp2
  go_loopw [3, 9] (fun s i wr => ∃ k : Nat, k ≤ ps.length ∧ i = .int .i64 k ∧ s = .int .i64 (lastV (ps.take k)) ∧ w.grownBy wr none) (fun _ i _ => ps.length - (intOf i).toNat)
  case atStart => exact ⟨0, Nat.zero_le _, rfl, rfl, grown_alloc (grown_refl _ _) _⟩
  case round =>
    obtain ⟨k, hk, rfl, rfl, hg⟩ := hrel
    clear b1
    by_cases hlt : k < ps.length
    · obtain ⟨g, off, rfl, hgB, hgw, hp5⟩ := HR.out.kept hg (by omega)
      obtain ⟨⟨f, x1, x2, x3, x4⟩, hp⟩ := getD_at hlt
      obtain ⟨c0, c1, c2, c3, c4⟩ := hp5 _ _ hp
      have n1 : g ≠ wr.heap.size := by omega
      have n2 : wr.heap.size ≠ g := by omega
      have HG := Lib.hid hg
      have hs := last_step hp
      dsimp only at hs
      obtain ⟨z, hz⟩ : ∃ z, lastV (ps.take k) = z := ⟨_, rfl⟩
      rw [hz] at hs ⊢
      by_cases hx : z < x4
      · have t1 := decide_eq_true hx
        have HC := Lib.hid (show lastV (ps.take (k + 1)) = x4 by rw [hs]; omega)
        clear hp hp5 hg hs hz hx
        go_wp2
        go_roundw
        case rel => exact ⟨k + 1, by omega, by go_num, by rw [HC.out], grown_alloc HG.out _⟩
        case measure => simp [intOf]; omega
      · have t1 := decide_eq_false hx
        have HC := Lib.hid (show lastV (ps.take (k + 1)) = z by rw [hs]; omega)
        clear hp hp5 hg hs hz hx
        go_wp2
        go_roundw
        case rel => exact ⟨k + 1, by omega, by go_num, by rw [HC.out], grown_alloc HG.out _⟩
        case measure => simp [intOf]; omega
    · obtain rfl : k = ps.length := by omega
      have HX := Lib.hid (And.intro hg (show lastV (ps.take ps.length) = lastV ps by rw [List.take_length]))
      clear hg
      go_wp2
      go_ret
      exact ⟨retI (by rw [HX.out.2]), HX.out.1⟩
theorem age_val {now V : Int} (hV : ageV ps now = V) (hd : ∀ p, p ∈ ps → p.d ≤ 1000000) (hnow : inB now 0 1000000 = true) (hl : ps.length = n) (hr : Row w w.heap.size A ps) (hn : n ≤ 1048576) :
    Calls Try.prog 48 #[.agg #[.int .i64 m, .slice A n c], .int .i64 now] w (KeptV (.int .i64 V) w) := by
  have HR := Lib.hid (And.intro hl (And.intro (hr.alloc (.cells #[.int .i64 m, .slice A n c] 39)) hn))
  have b0 := (Blk.new w 39 #[.int .i64 m, .slice A n c]).cell 0
  have b1 := (Blk.new w 39 #[.int .i64 m, .slice A n c]).cell 1
  obtain ⟨z, hz⟩ : ∃ z, lastV ps = z := ⟨_, rfl⟩
  have hz2 := last_in hd
  rw [hz] at hz2
  obtain ⟨z0, z1⟩ := hz2
  obtain ⟨n0, n1⟩ := inB_iff.1 hnow
  have hV2 : max 0 (now - z) = V := by rw [← hV, ageV, hz]
  have HZ := Lib.hid hz
  clear hr hz hd hnow hV
  by_cases hx : now < z
  · have t1 := decide_eq_true hx
    have HV := Lib.hid (show V = 0 by omega)
    clear hV2 hx
    go_enter Try.func48, Try.ntmps48
    go_wp2_with (go_at_call 79; refine (lastStamp_any HR.out.1 HR.out.2.1.here HR.out.2.2).mono ?_; rintro e w' ⟨rfl, hk⟩; rw [HZ.out])
    go_ret
    exact ⟨retI HV.out.symm, grown_trans (grown_alloc (grown_refl _ _) _) hk⟩
  · have t1 := decide_eq_false hx
    have HV := Lib.hid (show V = now - z by omega)
    clear hV2
    go_enter Try.func48, Try.ntmps48
    go_wp2_with (go_at_call 79; refine (lastStamp_any HR.out.1 HR.out.2.1.here HR.out.2.2).mono ?_; rintro e w' ⟨rfl, hk⟩; rw [HZ.out])
    go_ret
    exact ⟨retI (by rw [HV.out]), grown_trans (grown_alloc (grown_refl _ _) _) hk⟩
theorem specAge_val {now V : Int} (hV : ageV ps now = V) (hd : ∀ p, p ∈ ps → p.d ≤ 1000000) (hnow : inB now 0 1000000 = true) (hl : ps.length = n) (hr : Row w w.heap.size A ps) (hn : n ≤ 1048576) :
    Calls Try.prog 49 #[.agg #[.int .i64 m, .slice A n c], .int .i64 now] w (KeptV (.int .i64 V) w) := by
  subst hl
  have HR := Lib.hid hr
  have b1 := (Blk.new w 39 #[.int .i64 m, .slice A ps.length c]).cell 1
  have HB := Lib.hid (Blk.new w 39 #[.int .i64 m, .slice A ps.length c])
  have HD := Lib.hid (And.intro hd hV)
  obtain ⟨n0, n1⟩ := inB_iff.1 hnow
  clear hr hd hV hnow
  go_enter Try.func49, Try.ntmps49
  go_wp2
  go_loopw [5, 6] (fun s i wr => ∃ k : Nat, k ≤ ps.length ∧ i = .int .i64 k ∧ s = .int .i64 (lastV (ps.take k)) ∧ Blk wr w.heap.size 39 #[.int .i64 m, .slice A ps.length c] ∧ w.grownBy wr none) (fun _ i _ => ps.length - (intOf i).toNat)
  case atStart => exact ⟨0, Nat.zero_le _, rfl, rfl, HB.out, grown_alloc (grown_refl _ _) _⟩
  case round =>
    obtain ⟨k, hk, rfl, rfl, hB, hg⟩ := hrel
    have b1 := hB.cell 1
    clear HB
    by_cases hlt : k < ps.length
    · obtain ⟨g, off, rfl, hgB, hgw, hp5⟩ := HR.out.kept hg (by omega)
      obtain ⟨⟨f, x1, x2, x3, x4⟩, hp⟩ := getD_at hlt
      obtain ⟨c0, c1, c2, c3, c4⟩ := hp5 _ _ hp
      have HG := Lib.hid (And.intro hB hg)
      have HC := Lib.hid (last_step hp)
      have k0 : decide ((0 : Int) ≤ k) = true := decide_eq_true (by omega)
      generalize lastV (ps.take k) = z at HC
      clear hp hp5 hg hB
      go_wp2
      all_goals
        go_roundw
        case rel => exact ⟨k + 1, by omega, by go_num, by rw [HC.out]; congr 1; dsimp only; omega, HG.out⟩
        case measure => simp [intOf]; omega
    · obtain rfl : k = ps.length := by omega
      have e : lastV (ps.take ps.length) = lastV ps := by rw [List.take_length]
      rw [e]
      obtain ⟨z, hz⟩ : ∃ z, lastV ps = z := ⟨_, rfl⟩
      have hz2 := last_in HD.out.1
      have hV2 := HD.out.2
      rw [ageV] at hV2
      rw [hz] at hz2 hV2 ⊢
      obtain ⟨z0, z1⟩ := hz2
      have HV := Lib.hid hV2
      have HG := Lib.hid hg
      clear hB hg e hz hV2
      go_wp2
      all_goals
        go_ret
        exact ⟨retI (by have := HV.out; omega), HG.out⟩
end
end Go.Proofs.Ytjknfofdjkjnpaa
namespace Go.Proofs.Ytjknfofdjkjnpaa
open Go.ChangeShapes Go.WideShapes Go.ChangeAt Go.RowKit
set_option linter.unusedVariables false

theorem full_next {m : Int} {ps : List Pg} (h : blockB m ps = true) : decide (nextV m ps < 0) = decide (cntF ps = 4) := by
  unfold nextV
  rw [if_pos h]
  split
  · simp [*]
  · rw [Bool.eq_iff_iff, decide_eq_true_iff, decide_eq_true_iff]
    omega
section
variable {D : Option Addr} {nd cd : Nat} {bs : List Bk} {Ac : Option Addr} {nc cc : Nat} {X : List Int} {a b h : Int} {w wr w' : World}
theorem FIn.grown {u : Value} {xs : List Int} (H : FIn w D bs a b h wr) (hu : IOwn wr (w.heap.size + 1) u xs) (hg : wr.grownBy w' u.ownBlock) : FIn w D bs a b h w' :=
  ⟨H.1.grown hg (fun e => by have := (VOwn.lt hu _ e.symm).1; omega), H.2.1.grown hg (fun g e => by have := (VOwn.lt hu g e).1; omega), grown_joinR H.2.2 hg (fun g e => by have := (VOwn.lt hu g e).1; omega)⟩
theorem specMay_val {k : Nat} {V : Bool} (hV : mayB bs X a b h k = V) (hk : k < nd) (hkc : k < nc) (hd : devB bs = true) (hld : bs.length = nd) (hrd : DRow w w.heap.size D bs) (hlc : X.length = nc) (hrc : IRow w w.heap.size Ac X) :
    Calls Try.prog 34 #[.slice D nd cd, .slice Ac nc cc, .agg #[.int .i64 a, .int .i64 b, .int .i64 h], .int .i64 k] w (KeptV (.bool V) w) := by
  obtain ⟨⟨h1, h12⟩, hall⟩ := dev_parts hd
  have HF := Lib.hid (And.intro (FIn.start (a := a) (b := b) (h := h) hrd) (VRow.alloc hrc (.cells #[.int .i64 a, .int .i64 b, .int .i64 h] 28)))
  obtain ⟨g, off, m, Ab, cb, ps, rfl, hgw, _, hb, c0, c1, hrow⟩ := (HF.out.1.2.1).at_ (show k < bs.length by omega)
  have hv := hall _ (List.mem_of_getElem? hb)
  have hp4 : ps.length = 4 := (block_parts hv).2.1
  obtain ⟨x, hx⟩ : ∃ x, X[k]? = some x := ⟨_, List.getElem?_eq_getElem (by omega)⟩
  obtain ⟨r, hr⟩ : ∃ r, nextV m ps = r := ⟨_, rfl⟩
  have hful := full_next hv
  rw [hr] at hful
  have hb' : (decide (r < 0) && (decide (x < 4) && (((k : Int) != a) && (((k : Int) != b) && ((k : Int) != h))))) = V := by
    rw [← hV, mayB, pgAt_of hb, cAt_of hx, ← hful]
    simp [oneB, bne, Bool.and_assoc]
  have HX := Lib.hid (And.intro hr (And.intro hrow (And.intro hp4 (And.intro hlc hx))))
  have k0 : decide ((0 : Int) ≤ k) = true := decide_eq_true (by omega)
  have k1 : (k : Int) < nd := by omega
  have k2 : (k : Int) < nc := by omega
  clear hrd hrc hv hful hr hrow hp4 hlc hb hV hall hx h1 h12 hd hld
  go_enter Try.func34, Try.ntmps34
  go_wp2_with fail
  refine (specNext_val rfl HX.out.1 _ HX.out.2.1.here (by have := HX.out.2.2.1; omega)).mono ?_
  rintro e w1 ⟨rfl, hk1⟩
  have HG := Lib.hid (And.intro (HF.out.1.keep hk1) (VRow.kept HF.out.2 hk1))
  obtain ⟨p0, p1, p2⟩ := cells3 HG.out.1.1
  obtain ⟨gc, oc, rfl⟩ := IRow.pos HG.out.2 (by have := HX.out.2.2.2.1; omega)
  have c3 := IRow.cellf HG.out.2 HX.out.2.2.2.2
  clear hk1 c0 c1 HF
  cases t0 : decide (r < 0)
  · have HV := Lib.hid (show V = false by rw [← hb', t0]; rfl)
    clear hb'
    go_wp2
    go_ret
    exact ⟨retB HV.out.symm, HG.out.1.2.2⟩
  · cases t1 : decide (x < 4)
    · have HV := Lib.hid (show V = false by rw [← hb', t0, t1]; rfl)
      clear hb'
      go_wp2
      go_ret
      exact ⟨retB HV.out.symm, HG.out.1.2.2⟩
    · cases t2 : ((k : Int) != a)
      · have HV := Lib.hid (show V = false by rw [← hb', t0, t1, t2]; rfl)
        clear hb'
        go_wp2
        go_ret
        exact ⟨retB HV.out.symm, HG.out.1.2.2⟩
      · cases t3 : ((k : Int) != b)
        · have HV := Lib.hid (show V = false by rw [← hb', t0, t1, t2, t3]; rfl)
          clear hb'
          go_wp2
          go_ret
          exact ⟨retB HV.out.symm, HG.out.1.2.2⟩
        · cases t4 : ((k : Int) != h)
          all_goals
            have HV := Lib.hid (show V = _ by rw [← hb', t0, t1, t2, t3, t4])
            clear hb'
            go_wp2
            go_ret
            exact ⟨retB HV.out.symm, HG.out.1.2.2⟩
theorem toClean_bad (hv : (headsB nd a b h && devB bs) = false) (hld : bs.length = nd) (hrd : DRow w w.heap.size D bs) (hnd : nd ≤ 1048576) (hpd : ∀ b, b ∈ bs → b.ps.length ≤ 1048576) :
    Calls Try.prog 31 #[.slice D nd cd, .agg #[.int .i64 a, .int .i64 b, .int .i64 h], .slice Ac nc cc] w (IMade [] w) := by
  have HF := Lib.hid (FIn.start (a := a) (b := b) (h := h) hrd)
  have HD := Lib.hid (And.intro hv (And.intro hld hpd))
  clear hv hld hrd hpd
  go_enter Try.func31, Try.ntmps31
  obtain ⟨p0, p1, p2⟩ := cells3 HF.out.1
  go_wp2_with fail
  refine (headsValid_val HD.out.1 HD.out.2.1 HF.out.2.1.here hnd HD.out.2.2).mono ?_
  rintro e w1 ⟨rfl, hk⟩
  have HG := Lib.hid (HF.out.keep hk)
  clear hk p0 p1 p2
  go_wp2
  go_ret
  exact ⟨none, 0, 0, rfl, rfl, World.ownsRow_nil _ _ _ _, HG.out.2.2⟩
set_option maxHeartbeats 1000000 in
theorem toClean_good (hv : (headsB nd a b h && devB bs) = true) (hld : bs.length = nd) (hrd : DRow w w.heap.size D bs) (hlc : X.length = nc) (hle : nc ≤ nd) (hrc : IRow w w.heap.size Ac X) :
    Calls Try.prog 31 #[.slice D nd cd, .agg #[.int .i64 a, .int .i64 b, .int .i64 h], .slice Ac nc cc] w (IMade (mayTo (mayB bs X a b h) nc) w) := by
  have hd : devB bs = true := by rw [Bool.and_eq_true] at hv; exact hv.2
  obtain ⟨⟨h1, h12⟩, hall⟩ := dev_parts hd
  have hnd : nd ≤ 12 := by omega
  obtain ⟨M, hM⟩ : ∃ M, M = mayB bs X a b h := ⟨_, rfl⟩
  have HF := Lib.hid (And.intro (FIn.start (a := a) (b := b) (h := h) hrd) (VRow.alloc hrc (.cells #[.int .i64 a, .int .i64 b, .int .i64 h] 28)))
  have HD := Lib.hid (And.intro hv (And.intro hld (And.intro (fun (b : Bk) (hm : b ∈ bs) => (block_parts (hall b hm)).2.1) (And.intro hlc hM))))
  rw [← hM]
  clear hv hld hrd hlc hrc hM hd h1 h12 hall
  go_enter Try.func31, Try.ntmps31
  obtain ⟨p0, p1, p2⟩ := cells3 HF.out.1.1
  go_wp2_with fail
  refine (headsValid_val HD.out.1 HD.out.2.1 HF.out.1.2.1.here (by omega) (fun b hm => by have := HD.out.2.2.1 b hm; omega)).mono ?_
  rintro e w1 ⟨rfl, hk⟩
  replace HF := Lib.hid (And.intro (HF.out.1.keep hk) (VRow.kept HF.out.2 hk))
  clear hk p0 p1 p2
  go_wp2
  go_loopw [7, 16] (fun u i wr => ∃ k : Nat, i = .int .i64 k ∧ k ≤ nc ∧ IOwn wr (w.heap.size + 1) u (mayTo M k) ∧ FIn w D bs a b h wr ∧ IRow wr w.heap.size Ac X) (fun _ i _ => nc - (intOf i).toNat)
  case atStart => exact ⟨0, rfl, Nat.zero_le _, World.ownsRow_nil _ _ _ _, HF.out.1, HF.out.2⟩
  case round =>
    rename World => wq
    obtain ⟨k, rfl, hk, hi, hF, hX⟩ := hrel
    clear HF
    by_cases hlt : k < nc
    · have k0 : decide ((0 : Int) ≤ k) = true := decide_eq_true (by omega)
      have k1 : (k : Int) < nd := by omega
      have k2 : (k : Int) < nc := by omega
      obtain ⟨g, off, m, Ab, cb, ps, rfl, _, _, hb, c0, c1, hrow⟩ := hF.2.1.at_ (show k < bs.length by have := HD.out.2.1; omega)
      have hp4 : ps.length = 4 := HD.out.2.2.1 _ (List.mem_of_getElem? hb)
      obtain ⟨gc, oc, rfl⟩ := IRow.pos hX (by have := HD.out.2.2.2.1; omega)
      obtain ⟨x, hx⟩ : ∃ x, X[k]? = some x := ⟨_, List.getElem?_eq_getElem (by have := HD.out.2.2.2.1; omega)⟩
      have c3 := IRow.cellf hX hx
      have hm : M k = (decide (cntF ps = 4) && (decide (x < 4) && !oneB a b h k)) := by rw [HD.out.2.2.2.2, mayB, pgAt_of hb, cAt_of hx, Bool.and_assoc]
      have HS := Lib.hid (And.intro hi (And.intro hF hX))
      have HR := Lib.hid (And.intro hrow (And.intro hb hx))
      clear hi hF hX hrow hb hx
      cases t0 : decide (cntF ps = 4)
      · have HM := Lib.hid (may_no (m := M) (k := k) (by rw [hm, t0]; rfl))
        have HT := Lib.hid t0
        clear hm t0
        go_wp2_with (go_at_call 62; refine (isFull_val hp4 HT.out HR.out.1.here (by omega)).mono ?_; rintro e w' ⟨rfl, hk1⟩)
        go_roundw
        case rel => exact ⟨k + 1, by go_num, by omega, by rw [HM.out]; exact VOwn.keep HS.out.1 hk1, HS.out.2.1.keep hk1, VRow.kept HS.out.2.2 hk1⟩
        case measure => simp [intOf]; omega
      · have HT := Lib.hid t0
        rw [t0, Bool.true_and] at hm
        clear t0
        cases t1 : decide (x < 4)
        · have HM := Lib.hid (may_no (m := M) (k := k) (by rw [hm, t1]; rfl))
          clear hm
          go_wp2_with (go_at_call 62; refine (isFull_val hp4 HT.out HR.out.1.here (by omega)).mono ?_; rintro e w' ⟨rfl, hk1⟩)
          go_roundw
          case rel => exact ⟨k + 1, by go_num, by omega, by rw [HM.out]; exact VOwn.keep HS.out.1 hk1, HS.out.2.1.keep hk1, VRow.kept HS.out.2.2 hk1⟩
          case measure => simp [intOf]; omega
        · rw [t1, Bool.true_and] at hm
          go_wp2_with fail
          refine (isFull_val hp4 HT.out HR.out.1.here (by omega)).mono ?_
          rintro e w2 ⟨rfl, hk1⟩
          replace HS := Lib.hid (show IOwn w2 _ _ _ ∧ FIn w _ bs a b h w2 ∧ _ from ⟨VOwn.keep HS.out.1 hk1, HS.out.2.1.keep hk1, VRow.kept HS.out.2.2 hk1⟩)
          obtain ⟨p0, p1, p2⟩ := cells3 HS.out.2.1.1
          clear hk1 c0 c1 c3
          cases t2 : oneB a b h k
          · rw [t2] at hm
            have HO := Lib.hid t2
            clear t2
            go_wp2_with fail
            refine (isOne_val HO.out _).mono ?_
            rintro e w3 ⟨rfl, hk1⟩
            replace HS := Lib.hid (show IOwn w3 _ _ _ ∧ FIn w _ bs a b h w3 ∧ _ from ⟨VOwn.keep HS.out.1 hk1, HS.out.2.1.keep hk1, VRow.kept HS.out.2.2 hk1⟩)
            clear hk1 p0 p1 p2
            have hle := mayTo_le M k
            obtain ⟨u', w4, hrun, hi2, hg2⟩ := push_int (wr := w.alloc (.cells #[.int .i64 a, .int .i64 b, .int .i64 h] 28)) (k : Int) (show IOwn w3 (World.alloc _ _).heap.size _ _ by rw [size_alloc1]; exact HS.out.1) (by rw [size_alloc1]; have := HS.out.2.1.1.lt; omega) (by omega)
            rw [← may_yes (by rw [hm]; rfl), size_alloc1] at hi2
            have K1 := grown_alloc (grown_refl w3 none) (.cells #[.int .i64 (k : Int)] 3)
            have hI := VOwn.keep HS.out.1 K1
            have HZ := Lib.hid (And.intro hi2 (And.intro ((HS.out.2.1.keep K1).grown hI hg2) (VRow.grown (VRow.kept HS.out.2.2 K1) hg2 (fun g e => by have := (VOwn.lt hI g e).1; omega))))
            have HRUN := Lib.hid hrun
            clear hi2 hg2 hrun K1 hI hle hm HS
            go_wp2_with (at_builtin; refine wpList_append_run _ rfl (.tmp 36) (.tmp 38) _ _ rfl _ _ rfl rfl HRUN.out ?_)
            go_roundw
            case rel => exact ⟨k + 1, by go_num, by omega, HZ.out⟩
            case measure => simp [intOf]; omega
          · rw [t2] at hm
            have HO := Lib.hid t2
            have HM := Lib.hid (may_no (m := M) (k := k) (by rw [hm]; rfl))
            clear t2 hm
            go_wp2_with (go_at_call 63; refine (isOne_val HO.out _).mono ?_; rintro e w' ⟨rfl, hk1⟩)
            go_roundw
            case rel => exact ⟨k + 1, by go_num, by omega, by rw [HM.out]; exact VOwn.keep HS.out.1 hk1, HS.out.2.1.keep hk1, VRow.kept HS.out.2.2 hk1⟩
            case measure => simp [intOf]; omega
    · obtain rfl : k = nc := by omega
      obtain ⟨Au, cu, rfl⟩ := IOwn.slice hi
      have HZ := Lib.hid (And.intro (VOwn.base_le hi (Nat.le_succ _)) hF.2.2)
      clear hi hF hX
      go_wp2
      go_ret
      exact ⟨Au, _, cu, rfl, rfl, HZ.out.1, HZ.out.2⟩
theorem toClean_val {L : List Int} {nL : Nat} (hL : toCleanV nd bs X a b h = L) (h1 : L.length = nL) (hld : bs.length = nd) (hrd : DRow w w.heap.size D bs) (hnd : nd ≤ 1048576) (hpd : ∀ b, b ∈ bs → b.ps.length ≤ 1048576) (hlc : X.length = nc) (hle : nc ≤ nd) (hrc : IRow w w.heap.size Ac X) :
    Calls Try.prog 31 #[.slice D nd cd, .agg #[.int .i64 a, .int .i64 b, .int .i64 h], .slice Ac nc cc] w (IMadeN L nL w) := by
  cases hv : (headsB nd a b h && devB bs)
  · rw [toClean_no hv] at hL
    subst hL
    exact (toClean_bad hv hld hrd hnd hpd).mono fun _ _ q => q.to h1
  · rw [toClean_of hv, hlc] at hL
    subst hL
    exact (toClean_good hv hld hrd hlc hle hrc).mono fun _ _ q => q.to h1
end
end Go.Proofs.Ytjknfofdjkjnpaa
namespace Go.Proofs.Ytjknfofdjkjnpaa
open Go.ChangeShapes Go.WideShapes Go.ChangeAt Go.RowKit
set_option linter.unusedVariables false

theorem counts_len (bs : List Bk) (xss : List (List Int)) : (countsV bs xss).length ≤ bs.length := by
  unfold countsV
  split
  · rw [cntL_length]; exact Nat.le_refl _
  · exact Nat.zero_le _
/-- The boxed table and heads, the table and the device that came in. -/
def GIn (w : World) (A : Option Addr) (n c : Nat) (ls : List Li) (D : Option Addr) (bs : List Bk) (a b h : Int) (wr : World) : Prop :=
  VIn w A n c ls D bs wr ∧ Blk wr (w.heap.size + 1) 28 #[.int .i64 a, .int .i64 b, .int .i64 h]
section
variable {D : Option Addr} {nd cd : Nat} {bs : List Bk} {A : Option Addr} {n c : Nat} {ls : List Li} {a b h : Int} {w wr w' : World}
theorem GIn.start (hr : TRow w w.heap.size A ls) (hrd : DRow w w.heap.size D bs) (n c : Nat) (a b h : Int) : GIn w A n c ls D bs a b h ((w.alloc (.cells #[.slice A n c] 26)).alloc (.cells #[.int .i64 a, .int .i64 b, .int .i64 h] 28)) := by
  refine ⟨VIn.keep (⟨TIn.start hr n c, hrd.alloc _⟩ : VIn w A n c ls D bs _) (grown_alloc (grown_refl _ _) _), ?_⟩
  have h1 := Blk.new (w.alloc (.cells #[.slice A n c] 26)) 28 #[.int .i64 a, .int .i64 b, .int .i64 h]
  simpa only [size_alloc1] using h1
theorem GIn.keep (H : GIn w A n c ls D bs a b h wr) (k : wr.grownBy w' none) : GIn w A n c ls D bs a b h w' := ⟨H.1.keep k, H.2.keep k⟩
set_option maxHeartbeats 1000000 in
theorem greedy_any (hld : bs.length = nd) (hrd : DRow w w.heap.size D bs) (hnd : nd ≤ 1048576) (hpd : ∀ b, b ∈ bs → b.ps.length ≤ 1048576) (hl : ls.length = n) (hr : TRow w w.heap.size A ls) (hn : n ≤ 1048576) (hp : ∀ l, l ∈ ls → l.xs.length ≤ 1048576) :
    Calls Try.prog 10 #[.slice D nd cd, .agg #[.slice A n c], .agg #[.int .i64 a, .int .i64 b, .int .i64 h]] w (KeptV (.int .i64 (greedyV nd bs (countsV bs (ll ls)) a b h)) w) := by
  obtain ⟨X, hX⟩ : ∃ X, countsV bs (ll ls) = X := ⟨_, rfl⟩
  obtain ⟨n1, hn1⟩ : ∃ n1, X.length = n1 := ⟨_, rfl⟩
  have hle : n1 ≤ nd := by rw [← hn1, ← hX, ← hld]; exact counts_len _ _
  have h12 : n1 ≤ 12 := by rw [← hn1, ← hX]; exact counts_small _ _
  rw [hX, greedyV]
  obtain ⟨L, hL⟩ : ∃ L, toCleanV nd bs X a b h = L := ⟨_, rfl⟩
  obtain ⟨nL, hnL⟩ : ∃ nL, L.length = nL := ⟨_, rfl⟩
  have hn12 : nL ≤ 12 := by have := toClean_le nd bs X a b h; rw [hL, hnL, hn1] at this; omega
  have hm : ∀ x, x ∈ L → ∃ j : Nat, j < n1 ∧ x = (j : Int) := fun x hx => by rw [← hL] at hx; obtain ⟨j, h1, h2, _⟩ := toClean_mem hx; exact ⟨j, by omega, h2⟩
  rw [hL]
  have HX := Lib.hid (And.intro hX hn1)
  have HL := Lib.hid (And.intro hL (And.intro hnL hm))
  have HT := Lib.hid (GIn.start hr hrd n c a b h)
  have HP := Lib.hid (And.intro hld hpd)
  have HQ := Lib.hid (And.intro hl hp)
  clear hld hrd hpd hl hr hp hX hn1 hL hnL hm
  go_enter Try.func10, Try.ntmps10
  go_wp2_with fail
  refine (counts_val HX.out.1 HX.out.2 HP.out.1 HT.out.1.2.here hnd HP.out.2 HQ.out.1 HT.out.1.1.2.1.here hn HQ.out.2).mono ?_
  rintro e w3 ⟨Ac, cc, rfl, hlc, hoc, hk⟩
  have HG := Lib.hid (And.intro (HT.out.keep hk) (VOwn.row hoc))
  obtain ⟨p0, p1, p2⟩ := cells3 HG.out.1.2
  clear hk hoc hlc HT
  go_wp2_with fail
  refine (toClean_val HL.out.1 HL.out.2.1 HP.out.1 HG.out.1.1.2.here hnd HP.out.2 HX.out.2 hle HG.out.2).mono ?_
  rintro e w4 ⟨AL, cL, rfl, hlL, hoL, hk⟩
  have HM := Lib.hid (show IRow w4 w4.heap.size Ac X ∧ IRow w4 w4.heap.size AL L ∧ w.grownBy w4 none from ⟨IRow.keepN HG.out.2 hk, VOwn.row hoL, (HG.out.1.keep hk).1.1.2.2⟩)
  clear hk hoL hlL HG p0 p1 p2
  go_wp2
  go_loopw [8, 19] (fun v i wr => ∃ k : Nat, i = .int .i64 k ∧ k ≤ nL ∧ v = .int .i64 (leastV (cAt X) (L.take k)) ∧ w4.grownBy wr none) (fun _ i _ => nL - (intOf i).toNat)
  case atStart => exact ⟨0, rfl, Nat.zero_le _, rfl, grown_refl _ _⟩
  case round =>
    rename World => wq
    obtain ⟨k, rfl, hk, rfl, hg⟩ := hrel
    by_cases hlt : k < nL
    · have k0 : decide ((0 : Int) ≤ k) = true := decide_eq_true (by omega)
      have k1 : (k : Int) < nL := by omega
      obtain ⟨gL, oL, rfl⟩ := IRow.pos HM.out.2.1 (by have := HL.out.2.1; omega)
      obtain ⟨x, hx⟩ : ∃ x, L[k]? = some x := ⟨_, List.getElem?_eq_getElem (by have := HL.out.2.1; omega)⟩
      have c0 := IRow.cellf (VRow.kept HM.out.2.1 hg) hx
      obtain ⟨j, hj, rfl⟩ := HL.out.2.2 x (List.mem_of_getElem? hx)
      have hs := least_step (f := cAt X) hx
      have hc := least_cases (cAt X) (L := L.take k) (fun x hx => by obtain ⟨j, _, e⟩ := HL.out.2.2 x (List.mem_of_mem_take hx); omega)
      have hq : leastV (cAt X) (L.take k) = -1 ∨ ∃ q : Nat, q < n1 ∧ leastV (cAt X) (L.take k) = (q : Int) := by
        rcases hc with ⟨_, e⟩ | ⟨e, _⟩
        · exact .inl e
        · obtain ⟨q, h1, h2⟩ := HL.out.2.2 _ (List.mem_of_mem_take e)
          exact .inr ⟨q, h1, h2⟩
      have HG := Lib.hid hg
      have HX2 := Lib.hid hx
      clear hc hx hg
      generalize leastV (cAt X) (L.take k) = z at hs hq
      rcases hq with rfl | ⟨q, hqn, rfl⟩
      · have HS := Lib.hid (show leastV (cAt X) (L.take (k + 1)) = (j : Int) by rw [hs, leastS, if_pos (.inl (by decide))])
        clear hs
        go_wp2_with fail
        go_quiet (fail)
        have HZ := Lib.hid (grown_drewN HG.out nq)
        clear c0
        generalize wq.drewN nq = wu at HZ
        go_wp2
        go_roundw
        case rel => exact ⟨k + 1, by go_num, by omega, by rw [HS.out], HZ.out⟩
        case measure => simp [intOf]; omega
      · obtain ⟨gX, oX, rfl⟩ := IRow.pos HM.out.1 (by have := HX.out.2; omega)
        obtain ⟨x1, hx1⟩ : ∃ x, X[j]? = some x := ⟨_, List.getElem?_eq_getElem (by have := HX.out.2; omega)⟩
        obtain ⟨x2, hx2⟩ : ∃ x, X[q]? = some x := ⟨_, List.getElem?_eq_getElem (by have := HX.out.2; omega)⟩
        have c1 := IRow.cellf (VRow.kept HM.out.1 HG.out) hx1
        have c2 := IRow.cellf (VRow.kept HM.out.1 HG.out) hx2
        rw [leastS, cAt_of hx1, cAt_of hx2] at hs
        have j0 : decide ((0 : Int) ≤ j) = true := decide_eq_true (by omega)
        have j1 : (j : Int) < n1 := by omega
        have q0 : decide ((0 : Int) ≤ q) = true := decide_eq_true (by omega)
        have q1 : (q : Int) < n1 := by omega
        have q2 : decide ((q : Int) < 0) = false := decide_eq_false (by omega)
        clear hx1 hx2
        by_cases hxx : x1 < x2
        · have HS := Lib.hid (show leastV (cAt X) (L.take (k + 1)) = (j : Int) by rw [hs, if_pos (.inr hxx)])
          have t1 := decide_eq_true hxx
          clear hs hxx
          go_wp2_with fail
          go_quiet (fail)
          have HZ := Lib.hid (grown_drewN HG.out nq)
          clear c0 c1 c2
          generalize wq.drewN nq = wu at HZ
          go_wp2
          go_roundw
          case rel => exact ⟨k + 1, by go_num, by omega, by rw [HS.out], HZ.out⟩
          case measure => simp [intOf]; omega
        · have HS := Lib.hid (show leastV (cAt X) (L.take (k + 1)) = (q : Int) by rw [hs, if_neg (by rintro (e | e) <;> omega)])
          have t1 := decide_eq_false hxx
          clear hs hxx
          go_wp2_with fail
          go_quiet (fail)
          have HZ := Lib.hid (grown_drewN HG.out nq)
          clear c0 c1 c2
          generalize wq.drewN nq = wu at HZ
          go_wp2
          go_roundw
          case rel => exact ⟨k + 1, by go_num, by omega, by rw [HS.out], HZ.out⟩
          case measure => simp [intOf]; omega
    · obtain rfl : k = nL := by omega
      have HZ := Lib.hid (And.intro (show L.take k = L from List.take_of_length_le (by have := HL.out.2.1; omega)) (grown_trans HM.out.2.2 hg))
      clear hg
      go_wp2
      go_ret
      exact ⟨retI (by rw [HZ.out.1]), HZ.out.2⟩
theorem greedy_val {V : Int} (hV : greedyV nd bs (countsV bs (ll ls)) a b h = V) (hld : bs.length = nd) (hrd : DRow w w.heap.size D bs) (hnd : nd ≤ 1048576) (hpd : ∀ b, b ∈ bs → b.ps.length ≤ 1048576) (hl : ls.length = n) (hr : TRow w w.heap.size A ls) (hn : n ≤ 1048576) (hp : ∀ l, l ∈ ls → l.xs.length ≤ 1048576) :
    Calls Try.prog 10 #[.slice D nd cd, .agg #[.slice A n c], .agg #[.int .i64 a, .int .i64 b, .int .i64 h]] w (KeptV (.int .i64 V) w) := hV ▸ greedy_any hld hrd hnd hpd hl hr hn hp
end
end Go.Proofs.Ytjknfofdjkjnpaa
namespace Go.Proofs.Ytjknfofdjkjnpaa
open Go.ChangeShapes Go.WideShapes Go.ChangeAt Go.RowKit
set_option linter.unusedVariables false

theorem stamp_le {m : Int} {ps : List Pg} (h : blockB m ps = true) : ∀ p, p ∈ ps → p.d ≤ 1000000 := by
  intro p hp
  obtain ⟨_, _, ho⟩ := block_parts h
  obtain ⟨k, hk, e⟩ := List.mem_iff_getElem.1 hp
  have hg : ps[k]? = some p := by rw [List.getElem?_eq_getElem hk, e]
  have hk' : okAt ps k = true := by unfold ordB at ho; rw [List.all_eq_true] at ho; exact ho k (by simpa using hk)
  rw [okAt_of hg, Bool.and_eq_true] at hk'
  have h1 := hk'.1
  unfold pgB pageB at h1
  split at h1
  · simp only [Bool.and_eq_true] at h1; exact (inB_iff.1 h1.2).2
  · simp only [Bool.and_eq_true, decide_eq_true_iff] at h1; omega
theorem age_in {m : Int} {ps : List Pg} (h : blockB m ps = true) {now : Int} (hn : inB now 0 1000000 = true) : inB (ageV ps now) 0 1000000 = true := by
  have h1 := last_in (stamp_le h)
  have h2 := inB_iff.1 hn
  exact inB_iff.2 ⟨by unfold ageV; omega, by unfold ageV; omega⟩
section
variable {D : Option Addr} {nd cd : Nat} {bs : List Bk} {A : Option Addr} {n c : Nat} {ls : List Li} {a b h : Int} {w wr w' : World}
theorem best_no {now : Int} (hnow : inB now 0 1000000 = false) :
    Calls Try.prog 20 #[.slice D nd cd, .agg #[.slice A n c], .agg #[.int .i64 a, .int .i64 b, .int .i64 h], .int .i64 now] w (KeptV (.int .i64 (-1)) w) := by
  have HN := Lib.hid hnow
  have K := grown_alloc (grown_alloc (grown_refl w none) (.cells #[.slice A n c] 26)) (.cells #[.int .i64 a, .int .i64 b, .int .i64 h] 28)
  have HK := Lib.hid K
  clear hnow K
  go_enter Try.func20, Try.ntmps20
  go_wp2_with (go_at_call 46; refine (isTime_val HN.out _).mono ?_; rintro e w' ⟨rfl, rfl⟩)
  go_ret
  exact ⟨rfl, HK.out⟩
set_option maxHeartbeats 2000000 in
theorem best_yes {now : Int} (hnow : inB now 0 1000000 = true) (hld : bs.length = nd) (hrd : DRow w w.heap.size D bs) (hnd : nd ≤ 1048576) (hpd : ∀ b, b ∈ bs → b.ps.length ≤ 1048576) (hl : ls.length = n) (hr : TRow w w.heap.size A ls) (hn : n ≤ 1048576) (hp : ∀ l, l ∈ ls → l.xs.length ≤ 1048576) :
    Calls Try.prog 20 #[.slice D nd cd, .agg #[.slice A n c], .agg #[.int .i64 a, .int .i64 b, .int .i64 h], .int .i64 now] w (KeptV (.int .i64 (bestL (sAt bs (countsV bs (ll ls)) now) (toCleanV nd bs (countsV bs (ll ls)) a b h)).1) w) := by
  obtain ⟨X, hX⟩ : ∃ X, countsV bs (ll ls) = X := ⟨_, rfl⟩
  obtain ⟨n1, hn1⟩ : ∃ n1, X.length = n1 := ⟨_, rfl⟩
  have hle : n1 ≤ nd := by rw [← hn1, ← hX, ← hld]; exact counts_len _ _
  have h12 : n1 ≤ 12 := by rw [← hn1, ← hX]; exact counts_small _ _
  rw [hX]
  obtain ⟨L, hL⟩ : ∃ L, toCleanV nd bs X a b h = L := ⟨_, rfl⟩
  obtain ⟨nL, hnL⟩ : ∃ nL, L.length = nL := ⟨_, rfl⟩
  have hn12 : nL ≤ 12 := by have := toClean_le nd bs X a b h; rw [hL, hnL, hn1] at this; omega
  have hm : ∀ x, x ∈ L → devB bs = true ∧ ∃ j : Nat, j < n1 ∧ x = (j : Int) := fun x hx => by
    rw [← hL] at hx
    obtain ⟨j, h1, h2, _⟩ := toClean_mem hx
    refine ⟨?_, j, by omega, h2⟩
    cases hv : headsB nd a b h && devB bs
    · rw [toClean_no hv] at hx; simp at hx
    · rw [Bool.and_eq_true] at hv; exact hv.2
  rw [hL]
  have HX := Lib.hid (And.intro hX hn1)
  have HL := Lib.hid (And.intro hL (And.intro hnL hm))
  have HT := Lib.hid (GIn.start hr hrd n c a b h)
  have HP := Lib.hid (And.intro hld hpd)
  have HQ := Lib.hid (And.intro hl hp)
  have HN := Lib.hid hnow
  obtain ⟨f, hf⟩ : ∃ f, sAt bs X now = f := ⟨_, rfl⟩
  rw [hf]
  have HF := Lib.hid hf
  clear hld hrd hpd hl hr hp hX hn1 hL hnL hm hnow hf
  go_enter Try.func20, Try.ntmps20
  go_wp2_with (first | (go_at_call 46; refine (isTime_val HN.out _).mono ?_; rintro e w' ⟨rfl, rfl⟩) | fail)
  refine (counts_val HX.out.1 HX.out.2 HP.out.1 HT.out.1.2.here hnd HP.out.2 HQ.out.1 HT.out.1.1.2.1.here hn HQ.out.2).mono ?_
  rintro e w3 ⟨Ac, cc, rfl, hlc, hoc, hk⟩
  have HG := Lib.hid (And.intro (HT.out.keep hk) (VOwn.row hoc))
  obtain ⟨p0, p1, p2⟩ := cells3 HG.out.1.2
  clear hk hoc hlc HT
  go_wp2_with fail
  refine (toClean_val HL.out.1 HL.out.2.1 HP.out.1 HG.out.1.1.2.here hnd HP.out.2 HX.out.2 hle HG.out.2).mono ?_
  rintro e w4 ⟨AL, cL, rfl, hlL, hoL, hk⟩
  have HM := Lib.hid (show IRow w4 w4.heap.size Ac X ∧ IRow w4 w4.heap.size AL L ∧ DRow w4 w4.heap.size D bs ∧ w.grownBy w4 none from ⟨IRow.keepN HG.out.2 hk, VOwn.row hoL, ((HG.out.1.keep hk).1.2).here, (HG.out.1.keep hk).1.1.2.2⟩)
  clear hk hoL hlL HG p0 p1 p2
  go_wp2
  go_loopw [10, 11, 26] (fun v s i wr => ∃ (k : Nat) (p q : Int), i = .int .i64 k ∧ k ≤ nL ∧ v = .int .i64 p ∧ s = .int .i64 q ∧ bestL f (L.take k) = (p, q) ∧ w4.grownBy wr none) (fun _ _ i _ => nL - (intOf i).toNat)
  case atStart => exact ⟨0, -1, -1, rfl, Nat.zero_le _, rfl, rfl, rfl, grown_refl _ _⟩
  case round =>
    rename World => wq
    obtain ⟨k, p, q, rfl, hk, rfl, rfl, hb, hg⟩ := hrel
    by_cases hlt : k < nL
    · have k0 : decide ((0 : Int) ≤ k) = true := decide_eq_true (by omega)
      have k1 : (k : Int) < nL := by omega
      obtain ⟨gL, oL, rfl⟩ := IRow.pos HM.out.2.1 (by have := HL.out.2.1; omega)
      obtain ⟨x, hx⟩ : ∃ x, L[k]? = some x := ⟨_, List.getElem?_eq_getElem (by have := HL.out.2.1; omega)⟩
      have c0 := IRow.cellf (VRow.kept HM.out.2.1 hg) hx
      obtain ⟨hd, j, hj, rfl⟩ := HL.out.2.2 x (List.mem_of_getElem? hx)
      have hs := best_step (s := f) hx
      rw [hb, bestS] at hs
      obtain ⟨gX, oX, rfl⟩ := IRow.pos HM.out.1 (by have := HX.out.2; omega)
      obtain ⟨x1, hx1⟩ : ∃ x, X[j]? = some x := ⟨_, List.getElem?_eq_getElem (by have := HX.out.2; omega)⟩
      have c1 := IRow.cellf (VRow.kept HM.out.1 hg) hx1
      obtain ⟨g, off, m, Ab, cb, ps, rfl, _, _, hbj, d0, d1, hrow⟩ := (HM.out.2.2.1.kept hg).at_ (i := j) (by have := HP.out.1; omega)
      obtain ⟨⟨_, hd12⟩, hall⟩ := dev_parts hd
      have hv := hall _ (List.mem_of_getElem? hbj)
      have hp4 : ps.length = 4 := (block_parts hv).2.1
      obtain ⟨y, hy⟩ : ∃ y, ageV ps now = y := ⟨_, rfl⟩
      obtain ⟨r, hr⟩ : ∃ r, scoreV x1 y = r := ⟨_, rfl⟩
      have hfr : f (j : Int) = r := by rw [← HF.out, sAt, cAt_of hx1, pgAt_of hbj, hy, hr]
      rw [hfr] at hs
      have HR := Lib.hid (And.intro hy (And.intro hr (And.intro (stamp_le hv) (And.intro hp4 hrow))))
      have HC := Lib.hid (show D2 wq g (off + j * 2) ⟨m, Ab, cb, ps⟩ ∧ IRow wq w4.heap.size (some ⟨gX, oX, none⟩) X ∧ X[j]? = some x1 ∧ w4.grownBy wq none from ⟨⟨d0, d1⟩, VRow.kept HM.out.1 hg, hx1, hg⟩)
      have j0 : decide ((0 : Int) ≤ j) = true := decide_eq_true (by omega)
      have j1 : (j : Int) < n1 := by omega
      have j2 : (j : Int) < nd := by omega
      have HB := Lib.hid hs
      clear hx hx1 hg hb hbj hrow hd hall hv hp4 hy hr hfr hs hd12
      go_wp2_with fail
      refine wp_region_held_drew (S := (fun w' => w'.cell? ⟨g, off + j * 2, none⟩ = some (.int .i64 m) ∧ w'.cell? ⟨g, off + j * 2 + 1, none⟩ = some (.slice Ab ps.length cb) ∧ w'.cell? ⟨gX, oX + j, none⟩ = some (.int .i64 x1))) (by kernel_rfl) ?_ (fun hHeld => ?_)
      · exact ⟨d0, d1, c1⟩
      refine heldY 0 30 ?_
      refine heldY 1 31 ?_
      refine heldY 2 32 ?_
      refine heldY 3 33 ?_
      refine heldY 4 34 ?_
      refine heldY 5 35 ?_
      refine heldY 6 36 ?_
      refine heldY 7 37 ?_
      refine heldY 8 38 ?_
      refine wpAnyH_ready (rs := [9]) (by kernel_rfl) (by simp) ?_
      refine AllReadyH.cons rfl (fun K hK => ?_) AllReadyH.nil
      go_simp
      go_at_call 48; (refine (age_val HR.out.1 HR.out.2.2.1 HN.out rfl (HR.out.2.2.2.2.drew.here) (by have := HR.out.2.2.2.1; omega)).mono ?_); rintro e w5 ⟨rfl, hk1⟩; replace hk1 := grown_trans (grown_drew (grown_refl wq none)) hk1; replace HC := Lib.hid (show _ ∧ _ ∧ _ ∧ w4.grownBy w5 none from ⟨HC.out.1.kept hk1, VRow.kept HC.out.2.1 hk1, HC.out.2.2.1, grown_trans HC.out.2.2.2 hk1⟩); clear hk1 d0 d1 c1; obtain ⟨d0, d1⟩ := HC.out.1; have c1 := IRow.cellf HC.out.2.1 HC.out.2.2.1
      refine hK.out _ _ ?_ (fun hHeld => ?_)
      · exact ⟨d0, d1, c1⟩
      clear hK K
      try simp only [Act.put, List.setIfInBounds_toArray, List.set_cons_zero, List.set_cons_succ]
      refine wpAnyH_ready (rs := [10]) (by kernel_rfl) (by simp) ?_
      refine AllReadyH.cons rfl (fun K hK => ?_) AllReadyH.nil
      go_simp
      go_at_call 17; (refine (score_val HR.out.2.1 _).mono ?_); rintro e w' ⟨rfl, rfl⟩
      refine hK.out _ _ ?_ (fun hHeld => ?_)
      · exact ⟨d0, d1, c1⟩
      clear hK K
      try simp only [Act.put, List.setIfInBounds_toArray, List.set_cons_zero, List.set_cons_succ]
      refine heldY 11 14 ?_
      refine wpAnyH_done (by kernel_rfl) ?_ _
      have HZ := Lib.hid HC.out.2.2.2
      clear c0 c1 d0 d1 HC
      by_cases hqr : q < r
      · have t1 := decide_eq_true hqr
        have hB := HB.out
        rw [if_pos hqr] at hB
        have HB2 := Lib.hid hB
        clear hB hqr HB
        go_wp2
        go_roundw
        case rel => exact ⟨k + 1, j, r, by go_num, by omega, rfl, rfl, HB2.out, HZ.out⟩
        case measure => simp [intOf]; omega
      · have t1 := decide_eq_false hqr
        have hB := HB.out
        rw [if_neg hqr] at hB
        have HB2 := Lib.hid hB
        clear hB hqr HB
        go_wp2
        go_roundw
        case rel => exact ⟨k + 1, p, q, by go_num, by omega, rfl, rfl, HB2.out, HZ.out⟩
        case measure => simp [intOf]; omega
    · obtain rfl : k = nL := by omega
      have HZ := Lib.hid (And.intro (show (bestL f L).1 = p by rw [show L.take k = L from List.take_of_length_le (by have := HL.out.2.1; omega)] at hb; rw [hb]) (grown_trans HM.out.2.2.2 hg))
      clear hg hb
      go_wp2
      go_ret
      exact ⟨retI (by rw [HZ.out.1]), HZ.out.2⟩
theorem best_any {now : Int} (hld : bs.length = nd) (hrd : DRow w w.heap.size D bs) (hnd : nd ≤ 1048576) (hpd : ∀ b, b ∈ bs → b.ps.length ≤ 1048576) (hl : ls.length = n) (hr : TRow w w.heap.size A ls) (hn : n ≤ 1048576) (hp : ∀ l, l ∈ ls → l.xs.length ≤ 1048576) :
    Calls Try.prog 20 #[.slice D nd cd, .agg #[.slice A n c], .agg #[.int .i64 a, .int .i64 b, .int .i64 h], .int .i64 now] w (KeptV (.int .i64 (victimV nd bs (countsV bs (ll ls)) a b h now)) w) := by
  cases hv : inB now 0 1000000
  · rw [victimV, hv]
    exact best_no hv
  · rw [victimV, hv]
    exact best_yes hv hld hrd hnd hpd hl hr hn hp
theorem best_val {now V : Int} (hV : victimV nd bs (countsV bs (ll ls)) a b h now = V) (hld : bs.length = nd) (hrd : DRow w w.heap.size D bs) (hnd : nd ≤ 1048576) (hpd : ∀ b, b ∈ bs → b.ps.length ≤ 1048576) (hl : ls.length = n) (hr : TRow w w.heap.size A ls) (hn : n ≤ 1048576) (hp : ∀ l, l ∈ ls → l.xs.length ≤ 1048576) :
    Calls Try.prog 20 #[.slice D nd cd, .agg #[.slice A n c], .agg #[.int .i64 a, .int .i64 b, .int .i64 h], .int .i64 now] w (KeptV (.int .i64 V) w) := hV ▸ best_any hld hrd hnd hpd hl hr hn hp
end
end Go.Proofs.Ytjknfofdjkjnpaa
namespace Go.Proofs.Ytjknfofdjkjnpaa
open Go.ChangeShapes Go.WideShapes Go.ChangeAt Go.RowKit
set_option linter.unusedVariables false

section
variable {D : Option Addr} {nd cd : Nat} {bs : List Bk} {A : Option Addr} {n c : Nat} {ls : List Li} {a b h : Int} {w wr w' : World}
theorem specGreedy_no (hv : (headsB nd a b h && devB bs) = false) (hld : bs.length = nd) (hrd : DRow w w.heap.size D bs) (hnd : nd ≤ 1048576) (hpd : ∀ b, b ∈ bs → b.ps.length ≤ 1048576) (hl : ls.length = n) (hr : TRow w w.heap.size A ls) (hn : n ≤ 1048576) (hp : ∀ l, l ∈ ls → l.xs.length ≤ 1048576) :
    Calls Try.prog 11 #[.slice D nd cd, .agg #[.slice A n c], .agg #[.int .i64 a, .int .i64 b, .int .i64 h]] w (KeptV (.int .i64 (-1)) w) := by
  obtain ⟨X, hX⟩ : ∃ X, countsV bs (ll ls) = X := ⟨_, rfl⟩
  obtain ⟨n1, hn1⟩ : ∃ n1, X.length = n1 := ⟨_, rfl⟩
  have hle : n1 ≤ nd := by rw [← hn1, ← hX, ← hld]; exact counts_len _ _
  have h12 : n1 ≤ 12 := by rw [← hn1, ← hX]; exact counts_small _ _
  have HT := Lib.hid (GIn.start hr hrd n c a b h)
  have HP := Lib.hid (And.intro hld hpd)
  have HQ := Lib.hid (And.intro hl hp)
  have HX := Lib.hid (And.intro hX hn1)
  have HV := Lib.hid hv
  clear hld hrd hpd hl hr hp hX hn1 hv
  go_enter Try.func11, Try.ntmps11
  go_wp2_with fail
  refine (specCounts_val HX.out.1 HX.out.2 HP.out.1 HT.out.1.2.here hnd HP.out.2 HQ.out.1 HT.out.1.1.2.1.here hn HQ.out.2).mono ?_
  rintro e w3 ⟨Ac, cc, rfl, hlc, hoc, hk⟩
  have HS := Lib.hid (show GIn w A n c ls D bs a b h w3 ∧ IRow w3 w3.heap.size Ac X from ⟨HT.out.keep hk, VOwn.row hoc⟩)
  clear hk hoc hlc HT
  go_wp2
  go_loopw [7, 9] (fun v i wr => i = .int .i64 0 ∧ v = .int .i64 (-1) ∧ GIn w A n c ls D bs a b h wr ∧ IRow wr wr.heap.size Ac X) (fun _ _ _ => 1)
  case atStart => exact ⟨rfl, rfl, HS.out⟩
  case round =>
    rename World => wq
    obtain ⟨rfl, rfl, hS⟩ := hrel
    replace HS := Lib.hid hS
    clear hS
    obtain ⟨p0, p1, p2⟩ := cells3 HS.out.1.2
    by_cases h0 : 0 < n1
    · have h1 : (0 : Int) < n1 := by omega
      go_wp2_with fail
      refine (specHeads_val HV.out HP.out.1 HS.out.1.1.2.here hnd HP.out.2).mono ?_
      rintro e w4 ⟨rfl, hk⟩
      replace HS := Lib.hid (show GIn w A n c ls D bs a b h w4 ∧ IRow w4 w4.heap.size Ac X from ⟨HS.out.1.keep hk, IRow.keepN HS.out.2 hk⟩)
      clear hk p0 p1 p2
      go_wp2
      go_ret
      exact ⟨rfl, HS.out.1.1.1.2.2⟩
    · obtain rfl : n1 = 0 := by omega
      go_wp2
      go_ret
      exact ⟨rfl, HS.out.1.1.1.2.2⟩
set_option maxHeartbeats 2000000 in
theorem specGreedy_yes (hv : (headsB nd a b h && devB bs) = true) (hld : bs.length = nd) (hrd : DRow w w.heap.size D bs) (hnd : nd ≤ 1048576) (hpd : ∀ b, b ∈ bs → b.ps.length ≤ 1048576) (hl : ls.length = n) (hr : TRow w w.heap.size A ls) (hn : n ≤ 1048576) (hp : ∀ l, l ∈ ls → l.xs.length ≤ 1048576) :
    Calls Try.prog 11 #[.slice D nd cd, .agg #[.slice A n c], .agg #[.int .i64 a, .int .i64 b, .int .i64 h]] w (KeptV (.int .i64 (greedyV nd bs (countsV bs (ll ls)) a b h)) w) := by
  obtain ⟨X, hX⟩ : ∃ X, countsV bs (ll ls) = X := ⟨_, rfl⟩
  obtain ⟨n1, hn1⟩ : ∃ n1, X.length = n1 := ⟨_, rfl⟩
  have hle : n1 ≤ nd := by rw [← hn1, ← hX, ← hld]; exact counts_len _ _
  have h12 : n1 ≤ 12 := by rw [← hn1, ← hX]; exact counts_small _ _
  rw [hX, greedyV, toClean_of hv, hn1]
  have HT := Lib.hid (GIn.start hr hrd n c a b h)
  have HP := Lib.hid (And.intro hld hpd)
  have HQ := Lib.hid (And.intro hl hp)
  have HX := Lib.hid (And.intro hX hn1)
  have HV := Lib.hid (And.intro hv (show devB bs = true by rw [Bool.and_eq_true] at hv; exact hv.2))
  obtain ⟨M, hM⟩ : ∃ M, mayB bs X a b h = M := ⟨_, rfl⟩
  rw [hM]
  have HM := Lib.hid hM
  clear hld hrd hpd hl hr hp hX hn1 hv hM
  go_enter Try.func11, Try.ntmps11
  go_wp2_with fail
  refine (specCounts_val HX.out.1 HX.out.2 HP.out.1 HT.out.1.2.here hnd HP.out.2 HQ.out.1 HT.out.1.1.2.1.here hn HQ.out.2).mono ?_
  rintro e w3 ⟨Ac, cc, rfl, hlc, hoc, hk⟩
  have HS := Lib.hid (show GIn w A n c ls D bs a b h w3 ∧ IRow w3 w3.heap.size Ac X from ⟨HT.out.keep hk, VOwn.row hoc⟩)
  clear hk hoc hlc HT
  go_wp2
  go_loopw [7, 9] (fun v i wr => ∃ k : Nat, i = .int .i64 k ∧ k ≤ n1 ∧ v = .int .i64 (leastV (cAt X) (mayTo M k)) ∧ GIn w A n c ls D bs a b h wr ∧ IRow wr wr.heap.size Ac X) (fun _ i _ => n1 - (intOf i).toNat)
  case atStart => exact ⟨0, rfl, Nat.zero_le _, rfl, HS.out⟩
  case round =>
    rename World => wz
    obtain ⟨k, rfl, hk, rfl, hS⟩ := hrel
    replace HS := Lib.hid hS
    clear hS
    obtain ⟨p0, p1, p2⟩ := cells3 HS.out.1.2
    by_cases hlt : k < n1
    · have k0 : decide ((0 : Int) ≤ k) = true := decide_eq_true (by omega)
      have k1 : (k : Int) < n1 := by omega
      have hkd : k < nd := by omega
      go_wp2_with fail
      refine (specHeads_val HV.out.1 HP.out.1 HS.out.1.1.2.here hnd HP.out.2).mono ?_
      rintro e w4 ⟨rfl, hk⟩
      replace HS := Lib.hid (show GIn w A n c ls D bs a b h w4 ∧ IRow w4 w4.heap.size Ac X from ⟨HS.out.1.keep hk, IRow.keepN HS.out.2 hk⟩)
      clear hk p0 p1 p2
      rename World => wq
      obtain ⟨p0, p1, p2⟩ := cells3 HS.out.1.2
      have hc := least_cases (cAt X) (L := mayTo M k) (fun x hx => by obtain ⟨j, _, e, _⟩ := mem_mayTo.1 hx; omega)
      have hq : leastV (cAt X) (mayTo M k) = -1 ∨ ∃ q : Nat, q < n1 ∧ leastV (cAt X) (mayTo M k) = (q : Int) := by
        rcases hc with ⟨_, e⟩ | ⟨e, _⟩
        · exact .inl e
        · obtain ⟨q, h1, h2, _⟩ := mem_mayTo.1 e
          exact .inr ⟨q, by omega, h2⟩
      have hs := least_snoc (cAt X) (mayTo M k) (k : Int)
      clear hc
      cases hm : M k
      · have HE := Lib.hid (may_no hm)
        have HB := Lib.hid (show mayB bs X a b h k = false by rw [HM.out]; exact hm)
        clear hm hs hq
        go_wp2_with fail
        refine wp_region_held_drew (S := (fun w' => w'.cell? ⟨w.heap.size + 1, 0, none⟩ = some (.int .i64 a) ∧ w'.cell? ⟨w.heap.size + 1, 1, none⟩ = some (.int .i64 b) ∧ w'.cell? ⟨w.heap.size + 1, 2, none⟩ = some (.int .i64 h))) (by kernel_rfl) ?_ (fun hHeld => ?_)
        · exact ⟨p0, p1, p2⟩
        refine heldY 0 24 ?_
        refine heldY 1 25 ?_
        refine heldY 2 26 ?_
        refine heldY 3 27 ?_
        refine wpAnyH_ready (rs := [4]) (by kernel_rfl) (by simp) ?_
        refine AllReadyH.cons rfl (fun K hK => ?_) AllReadyH.nil
        go_simp
        go_at_call 34; (refine (specMay_val HB.out hkd hlt HV.out.2 HP.out.1 HS.out.1.1.2.drew.here HX.out.2 (VRow.here (VRow.drew HS.out.2))).mono ?_); rintro e w5 ⟨rfl, hk1⟩; replace hk1 := grown_trans (grown_drew (grown_refl wq none)) hk1; replace HS := Lib.hid (show GIn w A n c ls _ bs a b h w5 ∧ IRow w5 w5.heap.size _ X from ⟨HS.out.1.keep hk1, IRow.keepN HS.out.2 hk1⟩); clear hk1 p0 p1 p2; obtain ⟨p0, p1, p2⟩ := cells3 HS.out.1.2
        refine hK.out _ _ ?_ (fun hHeld => ?_)
        · exact ⟨p0, p1, p2⟩
        clear hK K
        try simp only [Act.put, List.setIfInBounds_toArray, List.set_cons_zero, List.set_cons_succ]
        refine heldY 5 29 ?_
        refine heldN 6 30 ?_
        refine heldN 7 31 ?_
        refine heldN 8 32 ?_
        refine heldN 9 33 ?_
        refine heldN 10 34 ?_
        refine heldN 11 35 ?_
        refine heldN 12 36 ?_
        refine heldN 13 37 ?_
        refine heldN 14 38 ?_
        refine heldN 15 39 ?_
        refine heldN 16 40 ?_
        refine heldN 17 41 ?_
        refine heldN 18 42 ?_
        refine heldY 19 43 ?_
        refine wpAnyH_done (by kernel_rfl) ?_ _
        clear p0 p1 p2
        go_wp2
        go_roundw
        case rel => exact ⟨k + 1, by go_num, by omega, by rw [HE.out], HS.out⟩
        case measure => simp [intOf]; omega
      · have HL := Lib.hid (may_yes hm)
        have HB := Lib.hid (show mayB bs X a b h k = true by rw [HM.out]; exact hm)
        rw [← HL.out] at hs
        clear hm
        generalize leastV (cAt X) (mayTo M k) = z at hs hq
        rcases hq with rfl | ⟨q, hqn, rfl⟩
        · have HE := Lib.hid (show leastV (cAt X) (mayTo M (k + 1)) = (k : Int) by rw [hs, leastS, if_pos (.inl (by decide))])
          clear hs
          go_wp2_with fail
          refine wp_region_held_drew (S := (fun w' => w'.cell? ⟨w.heap.size + 1, 0, none⟩ = some (.int .i64 a) ∧ w'.cell? ⟨w.heap.size + 1, 1, none⟩ = some (.int .i64 b) ∧ w'.cell? ⟨w.heap.size + 1, 2, none⟩ = some (.int .i64 h))) (by kernel_rfl) ?_ (fun hHeld => ?_)
          · exact ⟨p0, p1, p2⟩
          refine heldY 0 24 ?_
          refine heldY 1 25 ?_
          refine heldY 2 26 ?_
          refine heldY 3 27 ?_
          refine wpAnyH_ready (rs := [4]) (by kernel_rfl) (by simp) ?_
          refine AllReadyH.cons rfl (fun K hK => ?_) AllReadyH.nil
          go_simp
          go_at_call 34; (refine (specMay_val HB.out hkd hlt HV.out.2 HP.out.1 HS.out.1.1.2.drew.here HX.out.2 (VRow.here (VRow.drew HS.out.2))).mono ?_); rintro e w5 ⟨rfl, hk1⟩; replace hk1 := grown_trans (grown_drew (grown_refl wq none)) hk1; replace HS := Lib.hid (show GIn w A n c ls _ bs a b h w5 ∧ IRow w5 w5.heap.size _ X from ⟨HS.out.1.keep hk1, IRow.keepN HS.out.2 hk1⟩); clear hk1 p0 p1 p2; obtain ⟨p0, p1, p2⟩ := cells3 HS.out.1.2
          refine hK.out _ _ ?_ (fun hHeld => ?_)
          · exact ⟨p0, p1, p2⟩
          clear hK K
          try simp only [Act.put, List.setIfInBounds_toArray, List.set_cons_zero, List.set_cons_succ]
          refine heldY 5 29 ?_
          refine heldY 6 30 ?_
          refine heldY 7 31 ?_
          refine heldY 8 32 ?_
          refine heldN 9 33 ?_
          refine heldN 10 34 ?_
          refine heldN 11 35 ?_
          refine heldN 12 36 ?_
          refine heldN 13 37 ?_
          refine heldN 14 38 ?_
          refine heldN 15 39 ?_
          refine heldN 16 40 ?_
          refine heldN 17 41 ?_
          refine heldY 18 42 ?_
          refine heldY 19 43 ?_
          refine wpAnyH_done (by kernel_rfl) ?_ _
          clear p0 p1 p2
          go_wp2
          go_roundw
          case rel => exact ⟨k + 1, by go_num, by omega, by rw [HE.out], HS.out⟩
          case measure => simp [intOf]; omega
        · obtain ⟨gX, oX, rfl⟩ := IRow.pos HS.out.2 (by have := HX.out.2; omega)
          obtain ⟨x1, hx1⟩ : ∃ x, X[k]? = some x := ⟨_, List.getElem?_eq_getElem (by have := HX.out.2; omega)⟩
          obtain ⟨x2, hx2⟩ : ∃ x, X[q]? = some x := ⟨_, List.getElem?_eq_getElem (by have := HX.out.2; omega)⟩
          have HE := Lib.hid (And.intro hx1 hx2)
          have c1 := IRow.cellf HS.out.2 hx1
          have c2 := IRow.cellf HS.out.2 hx2
          rw [leastS, cAt_of hx1, cAt_of hx2] at hs
          have q0 : decide ((0 : Int) ≤ q) = true := decide_eq_true (by omega)
          have q1 : (q : Int) < n1 := by omega
          have q2 : decide ((q : Int) < 0) = false := decide_eq_false (by omega)
          clear hx1 hx2
          by_cases hxx : x1 < x2
          · have HO := Lib.hid (show leastV (cAt X) (mayTo M (k + 1)) = (k : Int) by rw [hs, if_pos (.inr hxx)])
            have t1 := decide_eq_true hxx
            clear hs hxx
            go_wp2_with fail
            refine wp_region_held_drew (S := (fun w' => w'.cell? ⟨w.heap.size + 1, 0, none⟩ = some (.int .i64 a) ∧ w'.cell? ⟨w.heap.size + 1, 1, none⟩ = some (.int .i64 b) ∧ w'.cell? ⟨w.heap.size + 1, 2, none⟩ = some (.int .i64 h) ∧ w'.cell? ⟨gX, oX + k, none⟩ = some (.int .i64 x1) ∧ w'.cell? ⟨gX, oX + q, none⟩ = some (.int .i64 x2))) (by kernel_rfl) ?_ (fun hHeld => ?_)
            · exact ⟨p0, p1, p2, c1, c2⟩
            refine heldY 0 24 ?_
            refine heldY 1 25 ?_
            refine heldY 2 26 ?_
            refine heldY 3 27 ?_
            refine wpAnyH_ready (rs := [4]) (by kernel_rfl) (by simp) ?_
            refine AllReadyH.cons rfl (fun K hK => ?_) AllReadyH.nil
            go_simp
            go_at_call 34; (refine (specMay_val HB.out hkd hlt HV.out.2 HP.out.1 HS.out.1.1.2.drew.here HX.out.2 (VRow.here (VRow.drew HS.out.2))).mono ?_); rintro e w5 ⟨rfl, hk1⟩; replace hk1 := grown_trans (grown_drew (grown_refl wq none)) hk1; replace HS := Lib.hid (show GIn w A n c ls _ bs a b h w5 ∧ IRow w5 w5.heap.size _ X from ⟨HS.out.1.keep hk1, IRow.keepN HS.out.2 hk1⟩); clear hk1 p0 p1 p2 c1 c2; obtain ⟨p0, p1, p2⟩ := cells3 HS.out.1.2; have c1 := IRow.cellf HS.out.2 HE.out.1; have c2 := IRow.cellf HS.out.2 HE.out.2
            refine hK.out _ _ ?_ (fun hHeld => ?_)
            · exact ⟨p0, p1, p2, c1, c2⟩
            clear hK K
            try simp only [Act.put, List.setIfInBounds_toArray, List.set_cons_zero, List.set_cons_succ]
            refine heldY 5 29 ?_
            refine heldY 6 30 ?_
            refine heldY 7 31 ?_
            refine heldY 8 32 ?_
            refine heldY 9 33 ?_
            refine heldY 10 34 ?_
            refine heldY 11 35 ?_
            refine heldY 12 36 ?_
            refine heldY 13 37 ?_
            refine heldY 14 38 ?_
            refine heldY 15 39 ?_
            refine heldY 16 40 ?_
            refine heldY 17 41 ?_
            refine heldY 18 42 ?_
            refine heldY 19 43 ?_
            refine wpAnyH_done (by kernel_rfl) ?_ _
            clear p0 p1 p2 c1 c2
            go_wp2
            go_roundw
            case rel => exact ⟨k + 1, by go_num, by omega, by rw [HO.out], HS.out⟩
            case measure => simp [intOf]; omega
          · have HO := Lib.hid (show leastV (cAt X) (mayTo M (k + 1)) = (q : Int) by rw [hs, if_neg (by rintro (e | e) <;> omega)])
            have t1 := decide_eq_false hxx
            clear hs hxx
            go_wp2_with fail
            refine wp_region_held_drew (S := (fun w' => w'.cell? ⟨w.heap.size + 1, 0, none⟩ = some (.int .i64 a) ∧ w'.cell? ⟨w.heap.size + 1, 1, none⟩ = some (.int .i64 b) ∧ w'.cell? ⟨w.heap.size + 1, 2, none⟩ = some (.int .i64 h) ∧ w'.cell? ⟨gX, oX + k, none⟩ = some (.int .i64 x1) ∧ w'.cell? ⟨gX, oX + q, none⟩ = some (.int .i64 x2))) (by kernel_rfl) ?_ (fun hHeld => ?_)
            · exact ⟨p0, p1, p2, c1, c2⟩
            refine heldY 0 24 ?_
            refine heldY 1 25 ?_
            refine heldY 2 26 ?_
            refine heldY 3 27 ?_
            refine wpAnyH_ready (rs := [4]) (by kernel_rfl) (by simp) ?_
            refine AllReadyH.cons rfl (fun K hK => ?_) AllReadyH.nil
            go_simp
            go_at_call 34; (refine (specMay_val HB.out hkd hlt HV.out.2 HP.out.1 HS.out.1.1.2.drew.here HX.out.2 (VRow.here (VRow.drew HS.out.2))).mono ?_); rintro e w5 ⟨rfl, hk1⟩; replace hk1 := grown_trans (grown_drew (grown_refl wq none)) hk1; replace HS := Lib.hid (show GIn w A n c ls _ bs a b h w5 ∧ IRow w5 w5.heap.size _ X from ⟨HS.out.1.keep hk1, IRow.keepN HS.out.2 hk1⟩); clear hk1 p0 p1 p2 c1 c2; obtain ⟨p0, p1, p2⟩ := cells3 HS.out.1.2; have c1 := IRow.cellf HS.out.2 HE.out.1; have c2 := IRow.cellf HS.out.2 HE.out.2
            refine hK.out _ _ ?_ (fun hHeld => ?_)
            · exact ⟨p0, p1, p2, c1, c2⟩
            clear hK K
            try simp only [Act.put, List.setIfInBounds_toArray, List.set_cons_zero, List.set_cons_succ]
            refine heldY 5 29 ?_
            refine heldY 6 30 ?_
            refine heldY 7 31 ?_
            refine heldY 8 32 ?_
            refine heldY 9 33 ?_
            refine heldY 10 34 ?_
            refine heldY 11 35 ?_
            refine heldY 12 36 ?_
            refine heldY 13 37 ?_
            refine heldY 14 38 ?_
            refine heldY 15 39 ?_
            refine heldY 16 40 ?_
            refine heldY 17 41 ?_
            refine heldY 18 42 ?_
            refine heldY 19 43 ?_
            refine wpAnyH_done (by kernel_rfl) ?_ _
            clear p0 p1 p2 c1 c2
            go_wp2
            go_roundw
            case rel => exact ⟨k + 1, by go_num, by omega, by rw [HO.out], HS.out⟩
            case measure => simp [intOf]; omega
    · obtain rfl : k = n1 := by omega
      have HZ := Lib.hid HS.out.1.1.1.2.2
      clear p0 p1 p2 HS
      go_wp2
      go_ret
      exact ⟨rfl, HZ.out⟩
theorem specGreedy_any (hld : bs.length = nd) (hrd : DRow w w.heap.size D bs) (hnd : nd ≤ 1048576) (hpd : ∀ b, b ∈ bs → b.ps.length ≤ 1048576) (hl : ls.length = n) (hr : TRow w w.heap.size A ls) (hn : n ≤ 1048576) (hp : ∀ l, l ∈ ls → l.xs.length ≤ 1048576) :
    Calls Try.prog 11 #[.slice D nd cd, .agg #[.slice A n c], .agg #[.int .i64 a, .int .i64 b, .int .i64 h]] w (KeptV (.int .i64 (greedyV nd bs (countsV bs (ll ls)) a b h)) w) := by
  cases hv : headsB nd a b h && devB bs
  · rw [greedyV, toClean_no hv]
    exact specGreedy_no hv hld hrd hnd hpd hl hr hn hp
  · exact specGreedy_yes hv hld hrd hnd hpd hl hr hn hp
theorem specGreedy_val {V : Int} (hV : greedyV nd bs (countsV bs (ll ls)) a b h = V) (hld : bs.length = nd) (hrd : DRow w w.heap.size D bs) (hnd : nd ≤ 1048576) (hpd : ∀ b, b ∈ bs → b.ps.length ≤ 1048576) (hl : ls.length = n) (hr : TRow w w.heap.size A ls) (hn : n ≤ 1048576) (hp : ∀ l, l ∈ ls → l.xs.length ≤ 1048576) :
    Calls Try.prog 11 #[.slice D nd cd, .agg #[.slice A n c], .agg #[.int .i64 a, .int .i64 b, .int .i64 h]] w (KeptV (.int .i64 V) w) := hV ▸ specGreedy_any hld hrd hnd hpd hl hr hn hp
end
end Go.Proofs.Ytjknfofdjkjnpaa
namespace Go.Proofs.Ytjknfofdjkjnpaa
open Go.ChangeShapes Go.WideShapes Go.ChangeAt Go.RowKit
set_option linter.unusedVariables false

section
variable {D : Option Addr} {nd cd : Nat} {bs : List Bk} {A : Option Addr} {n c : Nat} {ls : List Li} {a b h : Int} {w wr w' : World}
theorem specBest_no {now : Int} (hv : (headsB nd a b h && devB bs) = false ∨ ((headsB nd a b h && devB bs) = true ∧ inB now 0 1000000 = false)) (hld : bs.length = nd) (hrd : DRow w w.heap.size D bs) (hnd : nd ≤ 1048576) (hpd : ∀ b, b ∈ bs → b.ps.length ≤ 1048576) (hl : ls.length = n) (hr : TRow w w.heap.size A ls) (hn : n ≤ 1048576) (hp : ∀ l, l ∈ ls → l.xs.length ≤ 1048576) :
    Calls Try.prog 21 #[.slice D nd cd, .agg #[.slice A n c], .agg #[.int .i64 a, .int .i64 b, .int .i64 h], .int .i64 now] w (KeptV (.int .i64 (-1)) w) := by
  obtain ⟨X, hX⟩ : ∃ X, countsV bs (ll ls) = X := ⟨_, rfl⟩
  obtain ⟨n1, hn1⟩ : ∃ n1, X.length = n1 := ⟨_, rfl⟩
  have hle : n1 ≤ nd := by rw [← hn1, ← hX, ← hld]; exact counts_len _ _
  have h12 : n1 ≤ 12 := by rw [← hn1, ← hX]; exact counts_small _ _
  have HT := Lib.hid (GIn.start hr hrd n c a b h)
  have HP := Lib.hid (And.intro hld hpd)
  have HQ := Lib.hid (And.intro hl hp)
  have HX := Lib.hid (And.intro hX hn1)
  rcases hv with hv | ⟨hv, hw⟩
  · have HV := Lib.hid hv
    clear hld hrd hpd hl hr hp hX hn1 hv
    go_enter Try.func21, Try.ntmps21
    go_wp2_with fail
    refine (specCounts_val HX.out.1 HX.out.2 HP.out.1 HT.out.1.2.here hnd HP.out.2 HQ.out.1 HT.out.1.1.2.1.here hn HQ.out.2).mono ?_
    rintro e w3 ⟨Ac, cc, rfl, hlc, hoc, hk⟩
    have HS := Lib.hid (show GIn w A n c ls D bs a b h w3 ∧ IRow w3 w3.heap.size Ac X from ⟨HT.out.keep hk, VOwn.row hoc⟩)
    clear hk hoc hlc HT
    go_wp2
    go_loopw [9, 10, 12] (fun v s i wr => i = .int .i64 0 ∧ v = .int .i64 (-1) ∧ s = .int .i64 (-1) ∧ GIn w A n c ls D bs a b h wr ∧ IRow wr wr.heap.size Ac X) (fun _ _ _ _ => 1)
    case atStart => exact ⟨rfl, rfl, rfl, HS.out⟩
    case round =>
      rename World => wq
      obtain ⟨rfl, rfl, rfl, hS⟩ := hrel
      replace HS := Lib.hid hS
      clear hS
      obtain ⟨p0, p1, p2⟩ := cells3 HS.out.1.2
      by_cases h0 : 0 < n1
      · have h1 : (0 : Int) < n1 := by omega
        go_wp2_with fail
        refine (specHeads_val HV.out HP.out.1 HS.out.1.1.2.here hnd HP.out.2).mono ?_
        rintro e w4 ⟨rfl, hk⟩
        replace HS := Lib.hid (show GIn w A n c ls D bs a b h w4 ∧ IRow w4 w4.heap.size Ac X from ⟨HS.out.1.keep hk, IRow.keepN HS.out.2 hk⟩)
        clear hk p0 p1 p2
        go_wp2
        go_ret
        exact ⟨rfl, HS.out.1.1.1.2.2⟩
      · obtain rfl : n1 = 0 := by omega
        go_wp2
        go_ret
        exact ⟨rfl, HS.out.1.1.1.2.2⟩
  · have HV := Lib.hid hv
    have HW := Lib.hid hw
    clear hld hrd hpd hl hr hp hX hn1 hv hw
    go_enter Try.func21, Try.ntmps21
    go_wp2_with fail
    refine (specCounts_val HX.out.1 HX.out.2 HP.out.1 HT.out.1.2.here hnd HP.out.2 HQ.out.1 HT.out.1.1.2.1.here hn HQ.out.2).mono ?_
    rintro e w3 ⟨Ac, cc, rfl, hlc, hoc, hk⟩
    have HS := Lib.hid (show GIn w A n c ls D bs a b h w3 ∧ IRow w3 w3.heap.size Ac X from ⟨HT.out.keep hk, VOwn.row hoc⟩)
    clear hk hoc hlc HT
    go_wp2
    go_loopw [9, 10, 12] (fun v s i wr => i = .int .i64 0 ∧ v = .int .i64 (-1) ∧ s = .int .i64 (-1) ∧ GIn w A n c ls D bs a b h wr ∧ IRow wr wr.heap.size Ac X) (fun _ _ _ _ => 1)
    case atStart => exact ⟨rfl, rfl, rfl, HS.out⟩
    case round =>
      rename World => wq
      obtain ⟨rfl, rfl, rfl, hS⟩ := hrel
      replace HS := Lib.hid hS
      clear hS
      obtain ⟨p0, p1, p2⟩ := cells3 HS.out.1.2
      by_cases h0 : 0 < n1
      · have h1 : (0 : Int) < n1 := by omega
        go_wp2_with fail
        refine (specHeads_val HV.out HP.out.1 HS.out.1.1.2.here hnd HP.out.2).mono ?_
        rintro e w4 ⟨rfl, hk⟩
        replace HS := Lib.hid (show GIn w A n c ls D bs a b h w4 ∧ IRow w4 w4.heap.size Ac X from ⟨HS.out.1.keep hk, IRow.keepN HS.out.2 hk⟩)
        clear hk p0 p1 p2
        go_wp2_with (go_at_call 47; refine (in_any _ _ _ _).mono ?_; rintro e w' ⟨rfl, rfl⟩; rw [HW.out])
        go_ret
        exact ⟨rfl, HS.out.1.1.1.2.2⟩
      · obtain rfl : n1 = 0 := by omega
        go_wp2
        go_ret
        exact ⟨rfl, HS.out.1.1.1.2.2⟩
set_option maxHeartbeats 4000000 in
theorem specBest_yes {now : Int} (hv : (headsB nd a b h && devB bs) = true) (hnow : inB now 0 1000000 = true) (hld : bs.length = nd) (hrd : DRow w w.heap.size D bs) (hnd : nd ≤ 1048576) (hpd : ∀ b, b ∈ bs → b.ps.length ≤ 1048576) (hl : ls.length = n) (hr : TRow w w.heap.size A ls) (hn : n ≤ 1048576) (hp : ∀ l, l ∈ ls → l.xs.length ≤ 1048576) :
    Calls Try.prog 21 #[.slice D nd cd, .agg #[.slice A n c], .agg #[.int .i64 a, .int .i64 b, .int .i64 h], .int .i64 now] w (KeptV (.int .i64 (bestL (sAt bs (countsV bs (ll ls)) now) (toCleanV nd bs (countsV bs (ll ls)) a b h)).1) w) := by
  obtain ⟨X, hX⟩ : ∃ X, countsV bs (ll ls) = X := ⟨_, rfl⟩
  obtain ⟨n1, hn1⟩ : ∃ n1, X.length = n1 := ⟨_, rfl⟩
  have hle : n1 ≤ nd := by rw [← hn1, ← hX, ← hld]; exact counts_len _ _
  have h12 : n1 ≤ 12 := by rw [← hn1, ← hX]; exact counts_small _ _
  rw [hX, toClean_of hv, hn1]
  have HT := Lib.hid (GIn.start hr hrd n c a b h)
  have HP := Lib.hid (And.intro hld hpd)
  have HQ := Lib.hid (And.intro hl hp)
  have HX := Lib.hid (And.intro hX hn1)
  have hdv : devB bs = true := by rw [Bool.and_eq_true] at hv; exact hv.2
  have HV := Lib.hid (And.intro hv hdv)
  have HN := Lib.hid hnow
  obtain ⟨M, hM⟩ : ∃ M, mayB bs X a b h = M := ⟨_, rfl⟩
  obtain ⟨f, hf⟩ : ∃ f, sAt bs X now = f := ⟨_, rfl⟩
  rw [hM, hf]
  have HM := Lib.hid hM
  have HF := Lib.hid hf
  obtain ⟨⟨_, hd12⟩, hall⟩ := dev_parts hdv
  have HA := Lib.hid hall
  clear hld hrd hpd hl hr hp hX hn1 hv hM hf hall hdv hnow
  go_enter Try.func21, Try.ntmps21
  go_wp2_with fail
  refine (specCounts_val HX.out.1 HX.out.2 HP.out.1 HT.out.1.2.here hnd HP.out.2 HQ.out.1 HT.out.1.1.2.1.here hn HQ.out.2).mono ?_
  rintro e w3 ⟨Ac, cc, rfl, hlc, hoc, hk⟩
  have HS := Lib.hid (show GIn w A n c ls D bs a b h w3 ∧ IRow w3 w3.heap.size Ac X from ⟨HT.out.keep hk, VOwn.row hoc⟩)
  clear hk hoc hlc HT
  go_wp2
  go_loopw [9, 10, 12] (fun v s i wr => ∃ (k : Nat) (p q : Int), i = .int .i64 k ∧ k ≤ n1 ∧ v = .int .i64 p ∧ s = .int .i64 q ∧ bestL f (mayTo M k) = (p, q) ∧ GIn w A n c ls D bs a b h wr ∧ IRow wr wr.heap.size Ac X) (fun _ _ i _ => n1 - (intOf i).toNat)
  case atStart => exact ⟨0, -1, -1, rfl, Nat.zero_le _, rfl, rfl, rfl, HS.out⟩
  case round =>
    rename World => wz
    obtain ⟨k, p, q, rfl, hk, rfl, rfl, hb, hS⟩ := hrel
    replace HS := Lib.hid hS
    clear hS
    obtain ⟨p0, p1, p2⟩ := cells3 HS.out.1.2
    by_cases hlt : k < n1
    · have k0 : decide ((0 : Int) ≤ k) = true := decide_eq_true (by omega)
      have k1 : (k : Int) < n1 := by omega
      have k2 : (k : Int) < nd := by omega
      have hkd : k < nd := by omega
      go_wp2_with fail
      refine (specHeads_val HV.out.1 HP.out.1 HS.out.1.1.2.here hnd HP.out.2).mono ?_
      rintro e w4 ⟨rfl, hk⟩
      replace HS := Lib.hid (show GIn w A n c ls D bs a b h w4 ∧ IRow w4 w4.heap.size Ac X from ⟨HS.out.1.keep hk, IRow.keepN HS.out.2 hk⟩)
      clear hk p0 p1 p2
      rename World => wq
      obtain ⟨p0, p1, p2⟩ := cells3 HS.out.1.2
      have hs := best_snoc f (mayTo M k) (k : Int)
      rw [hb] at hs
      cases hm : M k
      · have HE := Lib.hid (may_no hm)
        have HB := Lib.hid (show mayB bs X a b h k = false by rw [HM.out]; exact hm)
        clear hm hs
        go_wp2_with (first | (go_at_call 47; refine (in_any _ _ _ _).mono ?_; rintro e w' ⟨rfl, rfl⟩; rw [HN.out]) | fail)
        refine wp_region_held_drew (S := (fun w' => w'.cell? ⟨w.heap.size + 1, 0, none⟩ = some (.int .i64 a) ∧ w'.cell? ⟨w.heap.size + 1, 1, none⟩ = some (.int .i64 b) ∧ w'.cell? ⟨w.heap.size + 1, 2, none⟩ = some (.int .i64 h))) (by kernel_rfl) ?_ (fun hHeld => ?_)
        · exact ⟨p0, p1, p2⟩
        refine heldY 0 31 ?_
        refine heldY 1 32 ?_
        refine heldY 2 33 ?_
        refine heldY 3 34 ?_
        refine wpAnyH_ready (rs := [4]) (by kernel_rfl) (by simp) ?_
        refine AllReadyH.cons rfl (fun K hK => ?_) AllReadyH.nil
        go_simp
        go_at_call 34; (refine (specMay_val HB.out hkd hlt HV.out.2 HP.out.1 HS.out.1.1.2.drew.here HX.out.2 (VRow.here (VRow.drew HS.out.2))).mono ?_); rintro e w5 ⟨rfl, hk1⟩; replace hk1 := grown_trans (grown_drew (grown_refl wq none)) hk1; replace HS := Lib.hid (show GIn w A n c ls _ bs a b h w5 ∧ IRow w5 w5.heap.size _ X from ⟨HS.out.1.keep hk1, IRow.keepN HS.out.2 hk1⟩); clear hk1 p0 p1 p2; obtain ⟨p0, p1, p2⟩ := cells3 HS.out.1.2
        refine hK.out _ _ ?_ (fun hHeld => ?_)
        · exact ⟨p0, p1, p2⟩
        clear hK K
        try simp only [Act.put, List.setIfInBounds_toArray, List.set_cons_zero, List.set_cons_succ]
        refine heldY 5 36 ?_
        refine heldN 6 37 ?_
        refine heldN 7 38 ?_
        refine heldN 8 39 ?_
        refine heldN 9 40 ?_
        refine heldN 10 41 ?_
        refine heldN 11 42 ?_
        refine heldN 12 43 ?_
        refine heldN 13 44 ?_
        refine heldN 14 45 ?_
        refine heldN 15 46 ?_
        refine heldN 16 47 ?_
        refine heldN 17 48 ?_
        refine heldN 18 49 ?_
        refine heldY 19 50 ?_
        refine wpAnyH_done (by kernel_rfl) ?_ _
        clear p0 p1 p2
        go_wp2
        go_roundw
        case rel => exact ⟨k + 1, p, q, by go_num, by omega, rfl, rfl, by rw [HE.out]; exact hb, HS.out⟩
        case measure => simp [intOf]; omega
      · have HL := Lib.hid (may_yes hm)
        have HB := Lib.hid (show mayB bs X a b h k = true by rw [HM.out]; exact hm)
        rw [← HL.out, bestS] at hs
        obtain ⟨gX, oX, rfl⟩ := IRow.pos HS.out.2 (by have := HX.out.2; omega)
        obtain ⟨x1, hx1⟩ : ∃ x, X[k]? = some x := ⟨_, List.getElem?_eq_getElem (by have := HX.out.2; omega)⟩
        have c1 := IRow.cellf HS.out.2 hx1
        obtain ⟨g, off, m, Ab, cb, ps, rfl, _, _, hbj, d0, d1, hrow⟩ := (HS.out.1.1.2).at_ (i := k) (by have := HP.out.1; omega)
        have hv := HA.out _ (List.mem_of_getElem? hbj)
        have hp4 : ps.length = 4 := (block_parts hv).2.1
        obtain ⟨y, hy⟩ : ∃ y, ageV ps now = y := ⟨_, rfl⟩
        obtain ⟨r, hr⟩ : ∃ r, scoreV x1 y = r := ⟨_, rfl⟩
        have hfr : f (k : Int) = r := by rw [← HF.out, sAt, cAt_of hx1, pgAt_of hbj, hy, hr]
        rw [hfr] at hs
        have HE := Lib.hid (And.intro hx1 trivial)
        have HC := Lib.hid (show D2 wq g (off + k * 2) ⟨m, Ab, cb, ps⟩ from ⟨d0, d1⟩)
        have HR := Lib.hid (And.intro hy (And.intro hr (And.intro (stamp_le hv) (And.intro hp4 hbj))))
        clear hm hx1 hbj hrow hv hp4 hy hr hfr hb
        by_cases hqr : q < r
        · have t1 := decide_eq_true hqr
          rw [if_pos hqr] at hs
          have HO := Lib.hid hs
          clear hs hqr
          go_wp2_with (first | (go_at_call 47; refine (in_any _ _ _ _).mono ?_; rintro e w' ⟨rfl, rfl⟩; rw [HN.out]) | fail)
          refine wp_region_held_drew (S := (fun w' => w'.cell? ⟨w.heap.size + 1, 0, none⟩ = some (.int .i64 a) ∧ w'.cell? ⟨w.heap.size + 1, 1, none⟩ = some (.int .i64 b) ∧ w'.cell? ⟨w.heap.size + 1, 2, none⟩ = some (.int .i64 h) ∧ w'.cell? ⟨gX, oX + k, none⟩ = some (.int .i64 x1) ∧ w'.cell? ⟨g, off + k * 2, none⟩ = some (.int .i64 m) ∧ w'.cell? ⟨g, off + k * 2 + 1, none⟩ = some (.slice Ab ps.length cb))) (by kernel_rfl) ?_ (fun hHeld => ?_)
          · exact ⟨p0, p1, p2, c1, d0, d1⟩
          refine heldY 0 31 ?_
          refine heldY 1 32 ?_
          refine heldY 2 33 ?_
          refine heldY 3 34 ?_
          refine wpAnyH_ready (rs := [4]) (by kernel_rfl) (by simp) ?_
          refine AllReadyH.cons rfl (fun K hK => ?_) AllReadyH.nil
          go_simp
          go_at_call 34; (refine (specMay_val HB.out hkd hlt HV.out.2 HP.out.1 HS.out.1.1.2.drew.here HX.out.2 (VRow.here (VRow.drew HS.out.2))).mono ?_); rintro e w5 ⟨rfl, hk1⟩; replace hk1 := grown_trans (grown_drew (grown_refl wq none)) hk1; replace HS := Lib.hid (show GIn w A n c ls _ bs a b h w5 ∧ IRow w5 w5.heap.size _ X from ⟨HS.out.1.keep hk1, IRow.keepN HS.out.2 hk1⟩); replace HC := Lib.hid (HC.out.kept hk1); clear hk1 p0 p1 p2 c1 d0 d1; obtain ⟨p0, p1, p2⟩ := cells3 HS.out.1.2; have c1 := IRow.cellf HS.out.2 HE.out.1; obtain ⟨d0, d1⟩ := HC.out
          refine hK.out _ _ ?_ (fun hHeld => ?_)
          · exact ⟨p0, p1, p2, c1, d0, d1⟩
          clear hK K
          try simp only [Act.put, List.setIfInBounds_toArray, List.set_cons_zero, List.set_cons_succ]
          refine heldY 5 36 ?_
          refine heldY 6 37 ?_
          refine heldY 7 38 ?_
          refine heldY 8 39 ?_
          refine heldY 9 40 ?_
          refine heldY 10 41 ?_
          refine heldY 11 42 ?_
          refine heldY 12 43 ?_
          refine heldY 13 44 ?_
          refine heldY 14 45 ?_
          refine heldY 17 48 ?_
          refine wpAnyH_ready (rs := [15]) (by kernel_rfl) (by simp) ?_
          refine AllReadyH.cons rfl (fun K hK => ?_) AllReadyH.nil
          go_simp
          go_at_call 49; (refine (specAge_val HR.out.1 HR.out.2.2.1 HN.out rfl ((HS.out.1.1.2).2 _ (List.mem_of_getElem? HR.out.2.2.2.2)).here (by have := HR.out.2.2.2.1; omega)).mono ?_); rintro e w6 ⟨rfl, hk1⟩; replace HS := Lib.hid (show GIn w A n c ls _ bs a b h w6 ∧ IRow w6 w6.heap.size _ X from ⟨HS.out.1.keep hk1, IRow.keepN HS.out.2 hk1⟩); replace HC := Lib.hid (HC.out.kept hk1); clear hk1 p0 p1 p2 c1 d0 d1; obtain ⟨p0, p1, p2⟩ := cells3 HS.out.1.2; have c1 := IRow.cellf HS.out.2 HE.out.1; obtain ⟨d0, d1⟩ := HC.out
          refine hK.out _ _ ?_ (fun hHeld => ?_)
          · exact ⟨p0, p1, p2, c1, d0, d1⟩
          clear hK K
          try simp only [Act.put, List.setIfInBounds_toArray, List.set_cons_zero, List.set_cons_succ]
          refine wpAnyH_ready (rs := [16]) (by kernel_rfl) (by simp) ?_
          refine AllReadyH.cons rfl (fun K hK => ?_) AllReadyH.nil
          go_simp
          go_at_call 18; (refine (specScore_val HR.out.2.1 _).mono ?_); rintro e w' ⟨rfl, rfl⟩
          refine hK.out _ _ ?_ (fun hHeld => ?_)
          · exact ⟨p0, p1, p2, c1, d0, d1⟩
          clear hK K
          try simp only [Act.put, List.setIfInBounds_toArray, List.set_cons_zero, List.set_cons_succ]
          refine heldY 18 49 ?_
          refine heldY 19 50 ?_
          refine wpAnyH_done (by kernel_rfl) ?_ _
          go_wp2_with fail
          rename World => wy
          refine wp_region_held_drew (S := (fun w' => w'.cell? ⟨w.heap.size + 1, 0, none⟩ = some (.int .i64 a) ∧ w'.cell? ⟨w.heap.size + 1, 1, none⟩ = some (.int .i64 b) ∧ w'.cell? ⟨w.heap.size + 1, 2, none⟩ = some (.int .i64 h) ∧ w'.cell? ⟨gX, oX + k, none⟩ = some (.int .i64 x1) ∧ w'.cell? ⟨g, off + k * 2, none⟩ = some (.int .i64 m) ∧ w'.cell? ⟨g, off + k * 2 + 1, none⟩ = some (.slice Ab ps.length cb))) (by kernel_rfl) ?_ (fun hHeld => ?_)
          · exact ⟨p0, p1, p2, c1, d0, d1⟩
          refine heldY 0 51 ?_
          refine heldY 1 52 ?_
          refine heldY 2 53 ?_
          refine heldY 3 54 ?_
          refine heldY 4 55 ?_
          refine heldY 5 56 ?_
          refine heldY 6 57 ?_
          refine heldY 7 58 ?_
          refine heldY 8 59 ?_
          refine wpAnyH_ready (rs := [9]) (by kernel_rfl) (by simp) ?_
          refine AllReadyH.cons rfl (fun K hK => ?_) AllReadyH.nil
          go_simp
          go_at_call 49; (refine (specAge_val HR.out.1 HR.out.2.2.1 HN.out rfl ((HS.out.1.1.2.drew).2 _ (List.mem_of_getElem? HR.out.2.2.2.2)).here (by have := HR.out.2.2.2.1; omega)).mono ?_); rintro e w8 ⟨rfl, hk1⟩; replace hk1 := grown_trans (grown_drew (grown_refl wy none)) hk1; replace HS := Lib.hid (show GIn w A n c ls _ bs a b h w8 ∧ IRow w8 w8.heap.size _ X from ⟨HS.out.1.keep hk1, IRow.keepN HS.out.2 hk1⟩); replace HC := Lib.hid (HC.out.kept hk1); clear hk1 p0 p1 p2 c1 d0 d1; obtain ⟨p0, p1, p2⟩ := cells3 HS.out.1.2; have c1 := IRow.cellf HS.out.2 HE.out.1; obtain ⟨d0, d1⟩ := HC.out
          refine hK.out _ _ ?_ (fun hHeld => ?_)
          · exact ⟨p0, p1, p2, c1, d0, d1⟩
          clear hK K
          try simp only [Act.put, List.setIfInBounds_toArray, List.set_cons_zero, List.set_cons_succ]
          refine wpAnyH_ready (rs := [10]) (by kernel_rfl) (by simp) ?_
          refine AllReadyH.cons rfl (fun K hK => ?_) AllReadyH.nil
          go_simp
          go_at_call 18; (refine (specScore_val HR.out.2.1 _).mono ?_); rintro e w' ⟨rfl, rfl⟩
          refine hK.out _ _ ?_ (fun hHeld => ?_)
          · exact ⟨p0, p1, p2, c1, d0, d1⟩
          clear hK K
          try simp only [Act.put, List.setIfInBounds_toArray, List.set_cons_zero, List.set_cons_succ]
          refine heldY 11 10 ?_
          refine wpAnyH_done (by kernel_rfl) ?_ _
          clear p0 p1 p2 c1 d0 d1
          go_wp2
          go_roundw
          case rel => exact ⟨k + 1, k, r, by go_num, by omega, rfl, rfl, HO.out, HS.out⟩
          case measure => simp [intOf]; omega
        · have t1 := decide_eq_false hqr
          rw [if_neg hqr] at hs
          have HO := Lib.hid hs
          clear hs hqr
          go_wp2_with (first | (go_at_call 47; refine (in_any _ _ _ _).mono ?_; rintro e w' ⟨rfl, rfl⟩; rw [HN.out]) | fail)
          refine wp_region_held_drew (S := (fun w' => w'.cell? ⟨w.heap.size + 1, 0, none⟩ = some (.int .i64 a) ∧ w'.cell? ⟨w.heap.size + 1, 1, none⟩ = some (.int .i64 b) ∧ w'.cell? ⟨w.heap.size + 1, 2, none⟩ = some (.int .i64 h) ∧ w'.cell? ⟨gX, oX + k, none⟩ = some (.int .i64 x1) ∧ w'.cell? ⟨g, off + k * 2, none⟩ = some (.int .i64 m) ∧ w'.cell? ⟨g, off + k * 2 + 1, none⟩ = some (.slice Ab ps.length cb))) (by kernel_rfl) ?_ (fun hHeld => ?_)
          · exact ⟨p0, p1, p2, c1, d0, d1⟩
          refine heldY 0 31 ?_
          refine heldY 1 32 ?_
          refine heldY 2 33 ?_
          refine heldY 3 34 ?_
          refine wpAnyH_ready (rs := [4]) (by kernel_rfl) (by simp) ?_
          refine AllReadyH.cons rfl (fun K hK => ?_) AllReadyH.nil
          go_simp
          go_at_call 34; (refine (specMay_val HB.out hkd hlt HV.out.2 HP.out.1 HS.out.1.1.2.drew.here HX.out.2 (VRow.here (VRow.drew HS.out.2))).mono ?_); rintro e w5 ⟨rfl, hk1⟩; replace hk1 := grown_trans (grown_drew (grown_refl wq none)) hk1; replace HS := Lib.hid (show GIn w A n c ls _ bs a b h w5 ∧ IRow w5 w5.heap.size _ X from ⟨HS.out.1.keep hk1, IRow.keepN HS.out.2 hk1⟩); replace HC := Lib.hid (HC.out.kept hk1); clear hk1 p0 p1 p2 c1 d0 d1; obtain ⟨p0, p1, p2⟩ := cells3 HS.out.1.2; have c1 := IRow.cellf HS.out.2 HE.out.1; obtain ⟨d0, d1⟩ := HC.out
          refine hK.out _ _ ?_ (fun hHeld => ?_)
          · exact ⟨p0, p1, p2, c1, d0, d1⟩
          clear hK K
          try simp only [Act.put, List.setIfInBounds_toArray, List.set_cons_zero, List.set_cons_succ]
          refine heldY 5 36 ?_
          refine heldY 6 37 ?_
          refine heldY 7 38 ?_
          refine heldY 8 39 ?_
          refine heldY 9 40 ?_
          refine heldY 10 41 ?_
          refine heldY 11 42 ?_
          refine heldY 12 43 ?_
          refine heldY 13 44 ?_
          refine heldY 14 45 ?_
          refine heldY 17 48 ?_
          refine wpAnyH_ready (rs := [15]) (by kernel_rfl) (by simp) ?_
          refine AllReadyH.cons rfl (fun K hK => ?_) AllReadyH.nil
          go_simp
          go_at_call 49; (refine (specAge_val HR.out.1 HR.out.2.2.1 HN.out rfl ((HS.out.1.1.2).2 _ (List.mem_of_getElem? HR.out.2.2.2.2)).here (by have := HR.out.2.2.2.1; omega)).mono ?_); rintro e w6 ⟨rfl, hk1⟩; replace HS := Lib.hid (show GIn w A n c ls _ bs a b h w6 ∧ IRow w6 w6.heap.size _ X from ⟨HS.out.1.keep hk1, IRow.keepN HS.out.2 hk1⟩); replace HC := Lib.hid (HC.out.kept hk1); clear hk1 p0 p1 p2 c1 d0 d1; obtain ⟨p0, p1, p2⟩ := cells3 HS.out.1.2; have c1 := IRow.cellf HS.out.2 HE.out.1; obtain ⟨d0, d1⟩ := HC.out
          refine hK.out _ _ ?_ (fun hHeld => ?_)
          · exact ⟨p0, p1, p2, c1, d0, d1⟩
          clear hK K
          try simp only [Act.put, List.setIfInBounds_toArray, List.set_cons_zero, List.set_cons_succ]
          refine wpAnyH_ready (rs := [16]) (by kernel_rfl) (by simp) ?_
          refine AllReadyH.cons rfl (fun K hK => ?_) AllReadyH.nil
          go_simp
          go_at_call 18; (refine (specScore_val HR.out.2.1 _).mono ?_); rintro e w' ⟨rfl, rfl⟩
          refine hK.out _ _ ?_ (fun hHeld => ?_)
          · exact ⟨p0, p1, p2, c1, d0, d1⟩
          clear hK K
          try simp only [Act.put, List.setIfInBounds_toArray, List.set_cons_zero, List.set_cons_succ]
          refine heldY 18 49 ?_
          refine heldY 19 50 ?_
          refine wpAnyH_done (by kernel_rfl) ?_ _
          clear p0 p1 p2 c1 d0 d1
          go_wp2
          go_roundw
          case rel => exact ⟨k + 1, p, q, by go_num, by omega, rfl, rfl, HO.out, HS.out⟩
          case measure => simp [intOf]; omega
    · obtain rfl : k = n1 := by omega
      have HZ := Lib.hid HS.out.1.1.1.2.2
      have HB := Lib.hid (show (bestL f (mayTo M k)).1 = p by rw [hb])
      clear p0 p1 p2 HS hb
      go_wp2
      go_ret
      exact ⟨retI (by rw [HB.out]), HZ.out⟩
theorem specBest_any {now : Int} (hld : bs.length = nd) (hrd : DRow w w.heap.size D bs) (hnd : nd ≤ 1048576) (hpd : ∀ b, b ∈ bs → b.ps.length ≤ 1048576) (hl : ls.length = n) (hr : TRow w w.heap.size A ls) (hn : n ≤ 1048576) (hp : ∀ l, l ∈ ls → l.xs.length ≤ 1048576) :
    Calls Try.prog 21 #[.slice D nd cd, .agg #[.slice A n c], .agg #[.int .i64 a, .int .i64 b, .int .i64 h], .int .i64 now] w (KeptV (.int .i64 (victimV nd bs (countsV bs (ll ls)) a b h now)) w) := by
  cases hv : headsB nd a b h && devB bs
  · have e : victimV nd bs (countsV bs (ll ls)) a b h now = -1 := by rw [victimV, toClean_no hv]; split <;> rfl
    rw [e]
    exact specBest_no (.inl hv) hld hrd hnd hpd hl hr hn hp
  · cases hw : inB now 0 1000000
    · rw [victimV, hw]
      exact specBest_no (.inr ⟨hv, hw⟩) hld hrd hnd hpd hl hr hn hp
    · rw [victimV, hw]
      exact specBest_yes hv hw hld hrd hnd hpd hl hr hn hp
theorem specBest_val {now V : Int} (hV : victimV nd bs (countsV bs (ll ls)) a b h now = V) (hld : bs.length = nd) (hrd : DRow w w.heap.size D bs) (hnd : nd ≤ 1048576) (hpd : ∀ b, b ∈ bs → b.ps.length ≤ 1048576) (hl : ls.length = n) (hr : TRow w w.heap.size A ls) (hn : n ≤ 1048576) (hp : ∀ l, l ∈ ls → l.xs.length ≤ 1048576) :
    Calls Try.prog 21 #[.slice D nd cd, .agg #[.slice A n c], .agg #[.int .i64 a, .int .i64 b, .int .i64 h], .int .i64 now] w (KeptV (.int .i64 V) w) := hV ▸ specBest_any hld hrd hnd hpd hl hr hn hp
end
end Go.Proofs.Ytjknfofdjkjnpaa
