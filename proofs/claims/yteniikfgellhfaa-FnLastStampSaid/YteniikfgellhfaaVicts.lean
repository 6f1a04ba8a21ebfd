/- Which blocks may be cleaned, and the best one of them (plain facts of chapter 13).
   What the small functions of chapter 13 answer: the program's and the model's.
   Which blocks may be cleaned: the program's blocksToClean and the model's l13May.
   What the program's GreedyVictim and BestVictim answer.
   What the program's BestVictim answers.
   What the model's GreedyVictim and BestVictim answer.
   What the model's BestVictim answers. -/
import Derived.Test.YteniikfgellhfaaHeads1
import Derived.Test.YteniikfgellhfaaHeads6
import Derived.Test.YteniikfgellhfaaCounts
import Derived.Test.YteniikfgellhfaaHeads7
namespace Go.Proofs.Yteniikfgellhfaa
open Go.ChangeShapes Go.WideShapes Go.ChangeAt Go.RowKit
set_option linter.unusedVariables false

/-- The number at a place of a row. -/
def cAt (X : List Int) (x : Int) : Int := (X[x.toNat]?).getD 0
/-- The pages of a block. -/
def pgAt (bs : List Bk) (x : Int) : List Pg := ((bs[x.toNat]?).map (·.ps)).getD []
theorem cAt_of {X : List Int} {k : Nat} {x : Int} (h : X[k]? = some x) : cAt X (k : Int) = x := by simp [cAt, h]
theorem pgAt_of {bs : List Bk} {k : Nat} {b : Bk} (h : bs[k]? = some b) : pgAt bs (k : Int) = b.ps := by simp [pgAt, h]
theorem pgAt_is {bs cs : List Bk} (h : cs.map Bk.is = bs.map Bk.is) (x : Int) : pgAt cs x = pgAt bs x := by
  have e := is_get h x.toNat
  unfold pgAt
  cases hc : cs[x.toNat]? <;> cases hb : bs[x.toNat]? <;> rw [hc, hb] at e <;> simp [Bk.is] at e ⊢
  exact e.2
/-- The block is one of the heads. -/
def oneB (a b h x : Int) : Bool := (x == a) || (x == b) || (x == h)
/-- Block k may be cleaned. -/
def mayB (bs : List Bk) (X : List Int) (a b h : Int) (k : Nat) : Bool := decide (cntF (pgAt bs k) = 4) && decide (cAt X k < 4) && !oneB a b h k
theorem mayB_is {bs cs : List Bk} (h : cs.map Bk.is = bs.map Bk.is) (X : List Int) (a b h9 : Int) : mayB cs X a b h9 = mayB bs X a b h9 := funext fun k => by simp only [mayB, pgAt_is h]
/-- The numbers below k that are let in. -/
def mayTo (m : Nat → Bool) : Nat → List Int
  | 0 => []
  | k + 1 => if m k then mayTo m k ++ [(k : Int)] else mayTo m k
theorem may_yes {m : Nat → Bool} {k : Nat} (h : m k = true) : mayTo m (k + 1) = mayTo m k ++ [(k : Int)] := by simp only [mayTo, h, if_true]
theorem may_no {m : Nat → Bool} {k : Nat} (h : m k = false) : mayTo m (k + 1) = mayTo m k := by simp only [mayTo, h]; rfl
theorem mayTo_le (m : Nat → Bool) (k : Nat) : (mayTo m k).length ≤ k := by
  induction k with
  | zero => exact Nat.le_refl 0
  | succ k ih =>
    cases h : m k
    · rw [may_no h]; omega
    · rw [may_yes h, List.length_append, List.length_singleton]; omega
theorem mem_mayTo {m : Nat → Bool} {k : Nat} {x : Int} : x ∈ mayTo m k ↔ ∃ j : Nat, j < k ∧ x = (j : Int) ∧ m j = true := by
  induction k with
  | zero => simp [mayTo]
  | succ k ih =>
    have e : (∃ j : Nat, j < k + 1 ∧ x = (j : Int) ∧ m j = true) ↔ (∃ j : Nat, j < k ∧ x = (j : Int) ∧ m j = true) ∨ (x = (k : Int) ∧ m k = true) := by
      constructor
      · rintro ⟨j, hj, h1, h2⟩
        rcases Nat.lt_or_ge j k with h | h
        · exact .inl ⟨j, h, h1, h2⟩
        · obtain rfl : j = k := by omega
          exact .inr ⟨h1, h2⟩
      · rintro (⟨j, hj, h1, h2⟩ | ⟨h1, h2⟩)
        · exact ⟨j, by omega, h1, h2⟩
        · exact ⟨k, by omega, h1, h2⟩
    rw [e, ← ih]
    cases h : m k
    · rw [may_no h]; simp
    · rw [may_yes h]; simp
/-- The blocks that may be cleaned. -/
def toCleanV (n : Nat) (bs : List Bk) (X : List Int) (a b h : Int) : List Int := if headsB n a b h && devB bs then mayTo (mayB bs X a b h) X.length else []
theorem toClean_no {n : Nat} {bs : List Bk} {X : List Int} {a b h : Int} (hv : (headsB n a b h && devB bs) = false) : toCleanV n bs X a b h = [] := by simp [toCleanV, hv]
theorem toClean_of {n : Nat} {bs : List Bk} {X : List Int} {a b h : Int} (hv : (headsB n a b h && devB bs) = true) : toCleanV n bs X a b h = mayTo (mayB bs X a b h) X.length := by simp [toCleanV, hv]
theorem toClean_is {bs cs : List Bk} (he : cs.map Bk.is = bs.map Bk.is) (n : Nat) (X : List Int) (a b h : Int) : toCleanV n cs X a b h = toCleanV n bs X a b h := by simp only [toCleanV, devB_is he, mayB_is he]
theorem toClean_le (n : Nat) (bs : List Bk) (X : List Int) (a b h : Int) : (toCleanV n bs X a b h).length ≤ X.length := by
  unfold toCleanV
  split
  · exact mayTo_le _ _
  · exact Nat.zero_le _
theorem toClean_mem {n : Nat} {bs : List Bk} {X : List Int} {a b h x : Int} (hx : x ∈ toCleanV n bs X a b h) : ∃ j : Nat, j < X.length ∧ x = (j : Int) ∧ mayB bs X a b h j = true := by
  unfold toCleanV at hx
  split at hx
  · exact mem_mayTo.1 hx
  · simp at hx
/-- One step to the first number with the least value. -/
def leastS (f : Int → Int) (v x : Int) : Int := if v < 0 ∨ f x < f v then x else v
def leastV (f : Int → Int) (L : List Int) : Int := L.foldl (leastS f) (-1)
theorem least_step {f : Int → Int} {L : List Int} {i : Nat} {x : Int} (h : L[i]? = some x) : leastV f (L.take (i + 1)) = leastS f (leastV f (L.take i)) x := by
  simp only [leastV, List.take_add_one, h, Option.toList_some, List.foldl_append, List.foldl_cons, List.foldl_nil]
theorem least_snoc (f : Int → Int) (L : List Int) (x : Int) : leastV f (L ++ [x]) = leastS f (leastV f L) x := by simp only [leastV, List.foldl_append, List.foldl_cons, List.foldl_nil]
theorem least_acc (f : Int → Int) : ∀ (L : List Int) (v : Int), (∀ x, x ∈ L → 0 ≤ x) → (L.foldl (leastS f) v = v ∨ L.foldl (leastS f) v ∈ L) ∧ (0 ≤ v → 0 ≤ L.foldl (leastS f) v ∧ f (L.foldl (leastS f) v) ≤ f v) ∧ ∀ x, x ∈ L → 0 ≤ L.foldl (leastS f) v ∧ f (L.foldl (leastS f) v) ≤ f x := by
  intro L
  induction L with
  | nil => intro v _; exact ⟨.inl rfl, fun h => ⟨h, Int.le_refl _⟩, fun x hx => by simp at hx⟩
  | cons y t ih =>
    intro v hL
    have hy := hL y (by simp)
    obtain ⟨i1, i2, i3⟩ := ih (leastS f v y) (fun x hx => hL x (by simp [hx]))
    have hv : leastS f v y = v ∨ leastS f v y = y := by unfold leastS; split <;> simp
    have h0 : 0 ≤ leastS f v y := by unfold leastS; split <;> omega
    have h1 : f (leastS f v y) ≤ f y := by
      unfold leastS
      split
      · exact Int.le_refl _
      · omega
    have h2 : 0 ≤ v → f (leastS f v y) ≤ f v := fun h => by
      unfold leastS
      split
      · omega
      · exact Int.le_refl _
    obtain ⟨j0, j1⟩ := i2 h0
    simp only [List.foldl_cons]
    refine ⟨?_, fun h => ⟨j0, Int.le_trans j1 (h2 h)⟩, fun x hx => ⟨j0, ?_⟩⟩
    · rcases i1 with e | e
      · rw [e]
        rcases hv with hv | hv
        · exact .inl hv
        · rw [hv]; exact .inr (by simp)
      · exact .inr (by simp [e])
    · rcases List.mem_cons.1 hx with rfl | hx
      · exact Int.le_trans j1 h1
      · exact (i3 x hx).2
theorem least_cases (f : Int → Int) {L : List Int} (hL : ∀ x, x ∈ L → 0 ≤ x) : (L = [] ∧ leastV f L = -1) ∨ (leastV f L ∈ L ∧ 0 ≤ leastV f L ∧ ∀ x, x ∈ L → f (leastV f L) ≤ f x) := by
  obtain ⟨h1, _, h3⟩ := least_acc f L (-1) hL
  cases L with
  | nil => exact .inl ⟨rfl, rfl⟩
  | cons y t =>
    have h0 := (h3 y (by simp)).1
    refine .inr ⟨?_, h0, fun x hx => (h3 x hx).2⟩
    rcases h1 with e | e
    · exact absurd (e ▸ h0) (by decide)
    · exact e
/-- The greatest Stamp of pages. -/
def lastV (ps : List Pg) : Int := ps.foldl (fun m p => max m p.d) 0
theorem last_step {ps : List Pg} {k : Nat} {p : Pg} (h : ps[k]? = some p) : lastV (ps.take (k + 1)) = max (lastV (ps.take k)) p.d := by
  simp only [lastV, List.take_add_one, h, Option.toList_some, List.foldl_append, List.foldl_cons, List.foldl_nil]
theorem last_acc (B : Int) : ∀ (ps : List Pg) (m : Int), m ≤ B → (∀ p, p ∈ ps → p.d ≤ B) → m ≤ ps.foldl (fun m p => max m p.d) m ∧ ps.foldl (fun m p => max m p.d) m ≤ B := by
  intro ps
  induction ps with
  | nil => intro m h _; exact ⟨Int.le_refl _, h⟩
  | cons p t ih =>
    intro m h hp
    have h1 := hp p (by simp)
    obtain ⟨i1, i2⟩ := ih (max m p.d) (by omega) (fun q hq => hp q (by simp [hq]))
    simp only [List.foldl_cons]
    exact ⟨by omega, i2⟩
theorem last_in {ps : List Pg} (h : ∀ p, p ∈ ps → p.d ≤ 1000000) : 0 ≤ lastV ps ∧ lastV ps ≤ 1000000 := last_acc 1000000 ps 0 (by decide) h
/-- How long ago the last write was. -/
def ageV (ps : List Pg) (now : Int) : Int := max 0 (now - lastV ps)
/-- What it is worth to clean a block. -/
def scoreV (u g : Int) : Int := if inB u 0 4 && inB g 0 1000000 then (g * (4 - u)).tdiv (u + 1) else -1
theorem score_no {u g : Int} (h : (inB u 0 4 && inB g 0 1000000) = false) : scoreV u g = -1 := by simp [scoreV, h]
theorem score_of {u g : Int} (h : (inB u 0 4 && inB g 0 1000000) = true) : scoreV u g = (g * (4 - u)).tdiv (u + 1) := by simp [scoreV, h]
theorem score_five {u g : Int} (h : inB u 0 4 = true) (hg : inB g 0 1000000 = true) : (u = 0 ∧ scoreV u g = (g * 4).tdiv 1) ∨ (u = 1 ∧ scoreV u g = (g * 3).tdiv 2) ∨ (u = 2 ∧ scoreV u g = (g * 2).tdiv 3) ∨ (u = 3 ∧ scoreV u g = (g * 1).tdiv 4) ∨ (u = 4 ∧ scoreV u g = (g * 0).tdiv 5) := by
  rw [score_of (by rw [h, hg]; rfl)]
  have h1 := inB_iff.1 h
  have h2 : u = 0 ∨ u = 1 ∨ u = 2 ∨ u = 3 ∨ u = 4 := by omega
  rcases h2 with rfl | rfl | rfl | rfl | rfl <;> simp
theorem score_le {u g : Int} : -1 ≤ scoreV u g ∧ scoreV u g ≤ 4000000 := by
  cases hv : inB u 0 4 && inB g 0 1000000
  · rw [score_no hv]; decide
  · rw [Bool.and_eq_true] at hv
    have h2 := inB_iff.1 hv.2
    rcases score_five hv.1 hv.2 with ⟨_, e⟩ | ⟨_, e⟩ | ⟨_, e⟩ | ⟨_, e⟩ | ⟨_, e⟩ <;> rw [e, Int.tdiv_eq_ediv_of_nonneg (by omega)] <;> omega
theorem score_pos {u g : Int} (h : inB u 0 4 = true) (hg : inB g 0 1000000 = true) : 0 ≤ scoreV u g := by
  have h2 := inB_iff.1 hg
  rcases score_five h hg with ⟨_, e⟩ | ⟨_, e⟩ | ⟨_, e⟩ | ⟨_, e⟩ | ⟨_, e⟩ <;> rw [e, Int.tdiv_eq_ediv_of_nonneg (by omega)] <;> omega
theorem score_age {u g : Int} (h : inB u 0 4 = true) (hg : inB g 0 1000000 = true) (h1 : g ≠ 1000000) : scoreV u g ≤ scoreV u (g + 1) := by
  have h2 := inB_iff.1 hg
  have hg' : inB (g + 1) 0 1000000 = true := inB_iff.2 ⟨by omega, by omega⟩
  rcases score_five h hg with ⟨hu, e⟩ | ⟨hu, e⟩ | ⟨hu, e⟩ | ⟨hu, e⟩ | ⟨hu, e⟩ <;> rcases score_five h hg' with ⟨hu', e'⟩ | ⟨hu', e'⟩ | ⟨hu', e'⟩ | ⟨hu', e'⟩ | ⟨hu', e'⟩ <;> first
    | (exfalso; omega)
    | (rw [e, e', Int.tdiv_eq_ediv_of_nonneg (by omega), Int.tdiv_eq_ediv_of_nonneg (by omega)]; omega)
theorem score_used {u g : Int} (h : inB u 0 4 = true) (hg : inB g 0 1000000 = true) (h1 : u ≠ 4) : scoreV (u + 1) g ≤ scoreV u g := by
  have h2 := inB_iff.1 hg
  have h3 := inB_iff.1 h
  have h' : inB (u + 1) 0 4 = true := inB_iff.2 ⟨by omega, by omega⟩
  rcases score_five h hg with ⟨hu, e⟩ | ⟨hu, e⟩ | ⟨hu, e⟩ | ⟨hu, e⟩ | ⟨hu, e⟩ <;> rcases score_five h' hg with ⟨hu', e'⟩ | ⟨hu', e'⟩ | ⟨hu', e'⟩ | ⟨hu', e'⟩ | ⟨hu', e'⟩ <;> first
    | (exfalso; omega)
    | (rw [e, e', Int.tdiv_eq_ediv_of_nonneg (by omega), Int.tdiv_eq_ediv_of_nonneg (by omega)]; omega)
/-- One step to the first number with the greatest value. -/
def bestS (s : Int → Int) (p : Int × Int) (x : Int) : Int × Int := if p.2 < s x then (x, s x) else p
def bestL (s : Int → Int) (L : List Int) : Int × Int := L.foldl (bestS s) (-1, -1)
theorem best_step {s : Int → Int} {L : List Int} {i : Nat} {x : Int} (h : L[i]? = some x) : bestL s (L.take (i + 1)) = bestS s (bestL s (L.take i)) x := by
  simp only [bestL, List.take_add_one, h, Option.toList_some, List.foldl_append, List.foldl_cons, List.foldl_nil]
theorem best_snoc (s : Int → Int) (L : List Int) (x : Int) : bestL s (L ++ [x]) = bestS s (bestL s L) x := by simp only [bestL, List.foldl_append, List.foldl_cons, List.foldl_nil]
theorem best_acc (s : Int → Int) : ∀ (L : List Int) (p : Int × Int), (L.foldl (bestS s) p = p ∨ ((L.foldl (bestS s) p).1 ∈ L ∧ (L.foldl (bestS s) p).2 = s (L.foldl (bestS s) p).1)) ∧ ∀ x, x ∈ L → s x ≤ (L.foldl (bestS s) p).2 ∧ p.2 ≤ (L.foldl (bestS s) p).2 := by
  intro L
  induction L with
  | nil => intro p; exact ⟨.inl rfl, fun x hx => by simp at hx⟩
  | cons y t ih =>
    intro p
    obtain ⟨i1, i2⟩ := ih (bestS s p y)
    have hp : (bestS s p y = p ∧ ¬ p.2 < s y) ∨ (bestS s p y = (y, s y) ∧ p.2 < s y) := by unfold bestS; split <;> simp [*]
    have hm : s y ≤ (bestS s p y).2 ∧ p.2 ≤ (bestS s p y).2 := by rcases hp with ⟨e, h⟩ | ⟨e, h⟩ <;> rw [e] <;> (try dsimp only) <;> omega
    have hn : (bestS s p y).2 ≤ (t.foldl (bestS s) (bestS s p y)).2 := by
      cases t with
      | nil => exact Int.le_refl _
      | cons z r => exact (i2 z (by simp)).2
    simp only [List.foldl_cons]
    refine ⟨?_, fun x hx => ?_⟩
    · rcases i1 with e | ⟨e, e2⟩
      · rw [e]
        rcases hp with ⟨e1, _⟩ | ⟨e1, _⟩
        · exact .inl e1
        · rw [e1]; exact .inr ⟨by simp, rfl⟩
      · exact .inr ⟨by simp [e], e2⟩
    · refine ⟨?_, by omega⟩
      rcases List.mem_cons.1 hx with rfl | hx
      · omega
      · exact (i2 x hx).1
theorem best_cases {s : Int → Int} {L : List Int} (hL : ∀ x, x ∈ L → 0 ≤ s x) : (L = [] ∧ bestL s L = (-1, -1)) ∨ ((bestL s L).1 ∈ L ∧ (bestL s L).2 = s (bestL s L).1) := by
  obtain ⟨h1, h2⟩ := best_acc s L (-1, -1)
  cases L with
  | nil => exact .inl ⟨rfl, rfl⟩
  | cons y t =>
    rcases h1 with e | e
    · have h0 := hL y (by simp)
      have h3 := (h2 y (by simp)).1
      rw [e] at h3
      dsimp only at h3
      omega
    · exact .inr e
/-- What a block is worth at a time. -/
def sAt (bs : List Bk) (X : List Int) (now x : Int) : Int := scoreV (cAt X x) (ageV (pgAt bs x) now)
theorem sAt_is {bs cs : List Bk} (h : cs.map Bk.is = bs.map Bk.is) (X : List Int) (now : Int) : sAt cs X now = sAt bs X now := funext fun x => by simp only [sAt, pgAt_is h]
/-- What GreedyVictim answers. -/
def greedyV (n : Nat) (bs : List Bk) (X : List Int) (a b h : Int) : Int := leastV (cAt X) (toCleanV n bs X a b h)
/-- What BestVictim answers. -/
def victimV (n : Nat) (bs : List Bk) (X : List Int) (a b h now : Int) : Int := if inB now 0 1000000 then (bestL (sAt bs X now) (toCleanV n bs X a b h)).1 else -1
theorem greedy_is {bs cs : List Bk} (he : cs.map Bk.is = bs.map Bk.is) (n : Nat) (X : List Int) (a b h : Int) : greedyV n cs X a b h = greedyV n bs X a b h := by simp only [greedyV, toClean_is he]
theorem victim_is {bs cs : List Bk} (he : cs.map Bk.is = bs.map Bk.is) (n : Nat) (X : List Int) (a b h now : Int) : victimV n cs X a b h now = victimV n bs X a b h now := by simp only [victimV, toClean_is he, sAt_is he]
end Go.Proofs.Yteniikfgellhfaa
namespace Go.Proofs.Yteniikfgellhfaa
open Go.ChangeShapes Go.WideShapes Go.ChangeAt Go.RowKit
set_option linter.unusedVariables false

theorem out_cases {u hi : Int} (hu : inB u 0 hi = false) : u < 0 ∨ (¬ u < 0 ∧ hi < u) := by
  rcases Int.lt_or_le u 0 with h | h
  · exact .inl h
  · refine .inr ⟨by omega, ?_⟩
    rcases Int.lt_or_le hi u with h' | h'
    · exact h'
    · exact absurd (inB_iff.2 ⟨h, h'⟩) (by simp [hu])
section
variable {A : Option Addr} {c n : Nat} {m : Int} {ps : List Pg} {w : World}
theorem lastStamp_any (hl : ps.length = n) (hr : Row w w.heap.size A ps) (hn : n ≤ 1048576) :
    Calls Try.prog 70 #[.agg #[.int .i64 m, .slice A n c]] w (KeptV (.int .i64 (lastV ps)) w) := by
  subst hl
  have HR := Lib.hid hr
  have b1 := (Blk.new w 87 #[.int .i64 m, .slice A ps.length c]).cell 1
  clear hr
  go_enter Try.func70, Try.ntmps70
  go_wp2
  go_loopw [3, 9] (fun s i wr => ∃ k : Nat, k ≤ ps.length ∧ i = .int .i64 k ∧ s = .int .i64 (lastV (ps.take k)) ∧ w.grownBy wr none) (fun _ i _ => ps.length - (intOf i).toNat)
  case atStart => exact ⟨0, Nat.zero_le _, rfl, rfl, grown_alloc (grown_refl _ _) _⟩
  case round =>
    obtain ⟨k, hk, rfl, rfl, hg⟩ := hrel
    clear b1
    by_cases hlt : k < ps.length
    · obtain ⟨g, off, rfl, hgB, hgw, hp5⟩ := HR.out.kept hg (by omega)
      obtain ⟨⟨f, x1, x2, x3, x4⟩, hp⟩ := getD_at hlt
      obtain ⟨c0, c1, c2, c3, c4⟩ := hp5 _ _ hp
      have n1 : g ≠ wr.heap.size := by omega
      have n2 : wr.heap.size ≠ g := by omega
      have HG := Lib.hid hg
      have hs := last_step hp
      dsimp only at hs
      obtain ⟨z, hz⟩ : ∃ z, lastV (ps.take k) = z := ⟨_, rfl⟩
      rw [hz] at hs ⊢
      by_cases hx : z < x4
      · have t1 := decide_eq_true hx
        have HC := Lib.hid (show lastV (ps.take (k + 1)) = x4 by rw [hs]; omega)
        clear hp hp5 hg hs hz hx
        go_wp2
        go_roundw
        case rel => exact ⟨k + 1, by omega, by go_num, by rw [HC.out], grown_alloc HG.out _⟩
        case measure => simp [intOf]; omega
      · have t1 := decide_eq_false hx
        have HC := Lib.hid (show lastV (ps.take (k + 1)) = z by rw [hs]; omega)
        clear hp hp5 hg hs hz hx
        go_wp2
        go_roundw
        case rel => exact ⟨k + 1, by omega, by go_num, by rw [HC.out], grown_alloc HG.out _⟩
        case measure => simp [intOf]; omega
    · obtain rfl : k = ps.length := by omega
      have HX := Lib.hid (And.intro hg (show lastV (ps.take ps.length) = lastV ps by rw [List.take_length]))
      clear hg
      go_wp2
      go_ret
      exact ⟨retI (by rw [HX.out.2]), HX.out.1⟩
end
end Go.Proofs.Yteniikfgellhfaa
namespace Go.Proofs.Yteniikfgellhfaa
open Go.ChangeShapes Go.WideShapes Go.ChangeAt Go.RowKit
set_option linter.unusedVariables false

theorem full_next {m : Int} {ps : List Pg} (h : blockB m ps = true) : decide (nextV m ps < 0) = decide (cntF ps = 4) := by
  unfold nextV
  rw [if_pos h]
  split
  · simp [*]
  · rw [Bool.eq_iff_iff, decide_eq_true_iff, decide_eq_true_iff]
    omega
section
variable {D : Option Addr} {nd cd : Nat} {bs : List Bk} {Ac : Option Addr} {nc cc : Nat} {X : List Int} {a b h : Int} {w wr w' : World}
theorem FIn.grown {u : Value} {xs : List Int} (H : FIn w D bs a b h wr) (hu : IOwn wr (w.heap.size + 1) u xs) (hg : wr.grownBy w' u.ownBlock) : FIn w D bs a b h w' :=
  ⟨H.1.grown hg (fun e => by have := (VOwn.lt hu _ e.symm).1; omega), H.2.1.grown hg (fun g e => by have := (VOwn.lt hu g e).1; omega), grown_joinR H.2.2 hg (fun g e => by have := (VOwn.lt hu g e).1; omega)⟩
end
end Go.Proofs.Yteniikfgellhfaa
namespace Go.Proofs.Yteniikfgellhfaa
open Go.ChangeShapes Go.WideShapes Go.ChangeAt Go.RowKit
set_option linter.unusedVariables false

theorem counts_len (bs : List Bk) (xss : List (List Int)) : (countsV bs xss).length ≤ bs.length := by
  unfold countsV
  split
  · rw [cntL_length]; exact Nat.le_refl _
  · exact Nat.zero_le _
/-- The boxed table and heads, the table and the device that came in. -/
def GIn (w : World) (A : Option Addr) (n c : Nat) (ls : List Li) (D : Option Addr) (bs : List Bk) (a b h : Int) (wr : World) : Prop :=
  VIn w A n c ls D bs wr ∧ Blk wr (w.heap.size + 1) 77 #[.int .i64 a, .int .i64 b, .int .i64 h]
section
variable {D : Option Addr} {nd cd : Nat} {bs : List Bk} {A : Option Addr} {n c : Nat} {ls : List Li} {a b h : Int} {w wr w' : World}
theorem GIn.start (hr : TRow w w.heap.size A ls) (hrd : DRow w w.heap.size D bs) (n c : Nat) (a b h : Int) : GIn w A n c ls D bs a b h ((w.alloc (.cells #[.slice A n c] 40)).alloc (.cells #[.int .i64 a, .int .i64 b, .int .i64 h] 77)) := by
  refine ⟨VIn.keep (⟨TIn.start hr n c, hrd.alloc _⟩ : VIn w A n c ls D bs _) (grown_alloc (grown_refl _ _) _), ?_⟩
  have h1 := Blk.new (w.alloc (.cells #[.slice A n c] 40)) 77 #[.int .i64 a, .int .i64 b, .int .i64 h]
  simpa only [size_alloc1] using h1
theorem GIn.keep (H : GIn w A n c ls D bs a b h wr) (k : wr.grownBy w' none) : GIn w A n c ls D bs a b h w' := ⟨H.1.keep k, H.2.keep k⟩
end
end Go.Proofs.Yteniikfgellhfaa
namespace Go.Proofs.Yteniikfgellhfaa
open Go.ChangeShapes Go.WideShapes Go.ChangeAt Go.RowKit
set_option linter.unusedVariables false

theorem stamp_le {m : Int} {ps : List Pg} (h : blockB m ps = true) : ∀ p, p ∈ ps → p.d ≤ 1000000 := by
  intro p hp
  obtain ⟨_, _, ho⟩ := block_parts h
  obtain ⟨k, hk, e⟩ := List.mem_iff_getElem.1 hp
  have hg : ps[k]? = some p := by rw [List.getElem?_eq_getElem hk, e]
  have hk' : okAt ps k = true := by unfold ordB at ho; rw [List.all_eq_true] at ho; exact ho k (by simpa using hk)
  rw [okAt_of hg, Bool.and_eq_true] at hk'
  have h1 := hk'.1
  unfold pgB pageB at h1
  split at h1
  · simp only [Bool.and_eq_true] at h1; exact (inB_iff.1 h1.2).2
  · simp only [Bool.and_eq_true, decide_eq_true_iff] at h1; omega
theorem age_in {m : Int} {ps : List Pg} (h : blockB m ps = true) {now : Int} (hn : inB now 0 1000000 = true) : inB (ageV ps now) 0 1000000 = true := by
  have h1 := last_in (stamp_le h)
  have h2 := inB_iff.1 hn
  exact inB_iff.2 ⟨by unfold ageV; omega, by unfold ageV; omega⟩
section
variable {D : Option Addr} {nd cd : Nat} {bs : List Bk} {A : Option Addr} {n c : Nat} {ls : List Li} {a b h : Int} {w wr w' : World}
end
end Go.Proofs.Yteniikfgellhfaa
namespace Go.Proofs.Yteniikfgellhfaa
open Go.ChangeShapes Go.WideShapes Go.ChangeAt Go.RowKit
set_option linter.unusedVariables false

section
variable {D : Option Addr} {nd cd : Nat} {bs : List Bk} {A : Option Addr} {n c : Nat} {ls : List Li} {a b h : Int} {w wr w' : World}
end
end Go.Proofs.Yteniikfgellhfaa
namespace Go.Proofs.Yteniikfgellhfaa
open Go.ChangeShapes Go.WideShapes Go.ChangeAt Go.RowKit
set_option linter.unusedVariables false

section
variable {D : Option Addr} {nd cd : Nat} {bs : List Bk} {A : Option Addr} {n c : Nat} {ls : List Li} {a b h : Int} {w wr w' : World}
end
end Go.Proofs.Yteniikfgellhfaa
