/- What the model's l7New and l7Copy answer: tables in memory of their own.
   What the model's l7Copy answers: a table in memory of its own.
   Plain facts on tables: what a valid one is, cell by cell; one cell put; how many cells differ.
   What the model's TableGet and TablePut answer.
   What the model's TablePut answers.
   What the model's TableChanges answers. -/
import Derived.Test.YtofolifmgpgkoaaInts
import Derived.Test.YtofolifmgpgkoaaHand
import Derived.BigQuiet
namespace Go.Proofs.Ytofolifmgpgkoaa
open Go.ChangeShapes Go.WideShapes Go.ChangeAt Go.RowKit

theorem list_info : (Try.prog.info? 30).map (fun i => (i.zero, i.size, i.bytes)) = some (some (.slice none 0 0), 1, 24) := by kernel_rfl
/-- append([]int{}, s...): the numbers of a row that is read, in memory of the call's own. -/
theorem clone_ints {U : World} {A : Option Addr} {B c m : Nat} {xs : List Int} (hr : IRow U B A xs) (hl : xs.length = m) (hm : m ≤ 1048576) :
    ∃ A' c' w', (∀ ty, (Builtin.append_ #[30, 30] ty #[.slice (some ⟨U.heap.size, 0, none⟩) 0 0, .slice A m c]).run Try.prog (U.alloc (.cells #[] 3)) = .ok (.slice A' m c') w') ∧ IOwn w' U.heap.size (.slice A' m c') xs ∧ U.grownBy w' none := by
  have h0 : (U.alloc (.cells #[] 3)).ownsRow U.heap.size 3 1 (.slice (some ⟨U.heap.size, 0, none⟩) 0 0) 0 [] := vown_lit U U.heap.size 3 [] (Nat.le_refl _) (by simp)
  rcases Nat.eq_zero_or_pos m with rfl | hpos
  · obtain rfl := List.eq_nil_of_length_eq_zero hl
    exact ⟨_, 0, _, appendInts_none _ U.heap.size _ 0 A c [] h0, h0, grown_alloc (grown_refl _ _) _⟩
  · obtain ⟨v', w', hrun, h2, h3, _⟩ := append_ints _ U.heap.size _ 0 A B m c xs [] h0 (VRow.alloc hr _) hl hpos (by omega) (by simp only [size_alloc1]; omega)
    have h4 : IOwn w' U.heap.size v' xs := by
      unfold IOwn VOwn
      rw [iv_length, hl]
      simpa using h2
    have h5 : U.grownBy w' none := grown_join (grown_alloc (grown_refl U none) (.cells #[] 3)) h3 (Nat.le_refl _)
    rcases VOwn.form h4 with ⟨_, e⟩ | ⟨g, cap, rfl, _⟩
    · have := congrArg List.length e
      rw [iv_length, List.length_nil] at this
      omega
    · rw [iv_length, hl] at h4 hrun
      exact ⟨_, cap, w', hrun, h4, h5⟩
/-- A table in memory of its own is returned: its lists are xss. -/
def TabMade (xss : List (List Int)) (n : Nat) (w : World) (e : Ending) (w' : World) : Prop :=
  ∃ (A : Option Addr) (c : Nat) (cs : List Li), e = .returned (.agg #[.slice A n c]) ∧ cs.length = n ∧ ll cs = xss ∧ TOwn w' w.heap.size (.slice A n c) cs ∧ w.grownBy w' none
theorem town_nil (w : World) (base : Nat) : TOwn w base (.slice none 0 0) [] := ⟨World.ownsRow_nil w base _ 1, fun l hl => by simp at hl, fun i j l l' a a' _ hi => by simp at hi⟩
theorem take_at {xss : List (List Int)} {k : Nat} {xs : List Int} (h : xss[k]? = some xs) : xss.take (k + 1) = xss.take k ++ [xs] := by rw [List.take_add_one, h]; rfl
theorem TOwn.head {w : World} {base n : Nat} {v : Value} {ls : List Li} (h : TOwn w base v ls) (hl : ls.length = n) (hpos : 0 < n) : ∃ g cap, v = .slice (some ⟨g, 0, none⟩) n cap ∧ base ≤ g ∧ g < w.heap.size ∧ n ≤ cap ∧ cap ≤ maxLen := by
  subst hl
  rcases h.form with ⟨_, rfl⟩ | ⟨g, cap, e, hb⟩
  · simp at hpos
  · exact ⟨g, cap, e, hb⟩
theorem VOwn.head {w : World} {base n : Nat} {ty : TypeId} {v : Value} {cs : List Value} (h : VOwn w base ty v cs) (hl : cs.length = n) (hpos : 0 < n) : ∃ g cap, v = .slice (some ⟨g, 0, none⟩) n cap ∧ base ≤ g ∧ g < w.heap.size ∧ n ≤ cap ∧ cap ≤ maxLen := by
  subst hl
  rcases h.form with ⟨_, rfl⟩ | ⟨g, cap, e, hb⟩
  · simp at hpos
  · exact ⟨g, cap, e, hb⟩
theorem irow_one (w : World) (x : Int) : IRow (w.alloc (.cells #[.int .i64 x] 3)) (w.heap.size + 1) (some ⟨w.heap.size, 0, none⟩) [x] := fun _ => by
  refine ⟨w.heap.size, 0, rfl, Nat.lt_succ_self _, by simp, fun i u hu => ?_⟩
  match i, hu with
  | 0, hu => simp [iv] at hu; subst hu; exact (Blk.new w 3 #[.int .i64 x]).cell 0
  | i + 1, hu => simp [iv] at hu
/-- append(u, x): one number more. -/
theorem push_int {wr wq : World} {u : Value} {xs : List Int} (x : Int) (h : IOwn wq wr.heap.size u xs) (hb : wr.heap.size ≤ wq.heap.size) (hn : xs.length ≤ 1000000) :
    ∃ u' w', (∀ ty, (Builtin.append_ #[30, 30] ty #[u, .slice (some ⟨wq.heap.size, 0, none⟩) 1 1]).run Try.prog (wq.alloc (.cells #[.int .i64 x] 3)) = .ok u' w') ∧ IOwn w' wr.heap.size u' (xs ++ [x]) ∧ (wq.alloc (.cells #[.int .i64 x] 3)).grownBy w' u.ownBlock := by
  have h1 := VOwn.keep h (grown_alloc (grown_refl wq none) (.cells #[.int .i64 x] 3))
  unfold VOwn at h1
  rw [iv_length] at h1
  obtain ⟨u', w', hrun, h2, h3, _⟩ := append_ints _ wr.heap.size u xs.length _ _ 1 1 [x] (iv xs) h1 (irow_one wq x) rfl (by omega) (by omega) (by simp only [size_alloc1]; omega)
  refine ⟨u', w', hrun, ?_, h3⟩
  unfold IOwn VOwn
  rw [iv_length, List.length_append, iv_append]
  exact h2
/-- A list without pages. -/
def m6 : List Int := List.replicate 6 (-1)
/-- A table without pages. -/
def noTab : List (List Int) := List.replicate 8 m6
end Go.Proofs.Ytofolifmgpgkoaa
namespace Go.Proofs.Ytofolifmgpgkoaa
open Go.ChangeShapes Go.WideShapes Go.ChangeAt Go.RowKit
set_option linter.unusedSimpArgs false

theorem TOwn.any {w : World} {base n : Nat} {v : Value} {ls : List Li} (h : TOwn w base v ls) (hl : ls.length = n) : ∃ A c, v = .slice A n c := by
  subst hl
  rcases h.form with ⟨rfl, rfl⟩ | ⟨g, cap, e, _⟩
  · exact ⟨none, 0, rfl⟩
  · exact ⟨_, _, e⟩
end Go.Proofs.Ytofolifmgpgkoaa
namespace Go.Proofs.Ytofolifmgpgkoaa

/-- The number at a place of a file. -/
def cellO (xss : List (List Int)) (f k : Nat) : Option Int := (xss[f]?).bind fun xs => xs[k]?
theorem cellO_some {xss : List (List Int)} {f k : Nat} {x : Int} (h : cellO xss f k = some x) : ∃ xs, xss[f]? = some xs ∧ xs[k]? = some x := by
  simpa [cellO, Option.bind_eq_some_iff] using h
theorem cellO_of {xss : List (List Int)} {f k : Nat} {xs : List Int} {x : Int} (h : xss[f]? = some xs) (hx : xs[k]? = some x) : cellO xss f k = some x := by simp [cellO, h, hx]
theorem flatB_iff : ∀ (l P : List Int), flatB P l = true ↔ (∀ x, x ∈ l → inB x (-1) 47 = true) ∧ (∀ (i : Nat) (x : Int), l[i]? = some x → 0 ≤ x → P.contains x = false) ∧ ∀ (i j : Nat) (x : Int), i < j → l[i]? = some x → l[j]? = some x → ¬ 0 ≤ x
  | [], P => by simp [flatB]
  | y :: l, P => by
    have ih := flatB_iff l (y :: P)
    simp only [flatB, Bool.and_eq_true, ih]
    constructor
    · rintro ⟨⟨h1, h2⟩, h3, h4, h5⟩
      have h2' : 0 ≤ y → P.contains y = false := by
        intro hy
        simpa [hy] using h2
      refine ⟨?_, ?_, ?_⟩
      · intro x hx
        rcases List.mem_cons.1 hx with rfl | hx
        · exact h1
        · exact h3 x hx
      · intro i x hi hx
        cases i with
        | zero => simp at hi; subst hi; exact h2' hx
        | succ i =>
          have := h4 i x (by simpa using hi) hx
          simp only [List.contains_cons, Bool.or_eq_false_iff] at this
          exact this.2
      · intro i j x hij hi hj hx
        cases j with
        | zero => omega
        | succ j =>
          have hj' : l[j]? = some x := by simpa using hj
          cases i with
          | zero =>
            simp at hi
            subst hi
            have := h4 j y hj' hx
            simp at this
          | succ i => exact h5 i j x (by omega) (by simpa using hi) hj' hx
    · rintro ⟨h1, h2, h3⟩
      refine ⟨⟨h1 y (by simp), ?_⟩, fun x hx => h1 x (by simp [hx]), ?_, ?_⟩
      · by_cases hy : 0 ≤ y
        · have := h2 0 y (by simp) hy
          rw [this]; simp
        · simp [hy]
      · intro i x hi hx
        have a := h2 (i + 1) x (by simpa using hi) hx
        simp only [List.contains_cons, a, Bool.or_false]
        cases e : x == y
        · rfl
        · have e' : x = y := by simpa using e
          subst e'
          exact absurd hx (h3 0 (i + 1) x (by omega) (by simp) (by simpa using hi))
      · intro i j x hij hi hj
        exact h3 (i + 1) (j + 1) x (by omega) (by simpa using hi) (by simpa using hj)
theorem flat_get : ∀ (xss : List (List Int)), (∀ xs, xs ∈ xss → xs.length = 6) → ∀ (f k : Nat), k < 6 → xss.flatten[6 * f + k]? = cellO xss f k
  | [], _, f, k, _ => by simp [cellO]
  | ys :: xss, h, f, k, hk => by
    have hy : ys.length = 6 := h ys (by simp)
    rw [List.flatten_cons]
    cases f with
    | zero =>
      rw [List.getElem?_append_left (by omega)]
      simp [cellO]
    | succ f =>
      rw [List.getElem?_append_right (by omega), show 6 * (f + 1) + k - ys.length = 6 * f + k by omega, flat_get xss (fun xs hx => h xs (by simp [hx])) f k hk]
      simp [cellO]
/-- What a valid table is, cell by cell. -/
structure TV (xss : List (List Int)) : Prop where
  len : xss.length = 8
  six : ∀ xs, xs ∈ xss → xs.length = 6
  inb : ∀ (f k : Nat) (x : Int), cellO xss f k = some x → -1 ≤ x ∧ x ≤ 47
  one : ∀ (f k f' k' : Nat) (x : Int), cellO xss f k = some x → cellO xss f' k' = some x → 0 ≤ x → f = f' ∧ k = k'
theorem six_lt {xss : List (List Int)} (h : ∀ xs, xs ∈ xss → xs.length = 6) {f k : Nat} {x : Int} (hc : cellO xss f k = some x) : k < 6 ∧ f < xss.length := by
  obtain ⟨xs, h1, h2⟩ := cellO_some hc
  have := h xs (List.mem_of_getElem? h1)
  have h3 := (List.getElem?_eq_some_iff.1 h2).1
  have h4 := (List.getElem?_eq_some_iff.1 h1).1
  omega
theorem flat_cell {xss : List (List Int)} (h : ∀ xs, xs ∈ xss → xs.length = 6) {i : Nat} {x : Int} (hi : xss.flatten[i]? = some x) : cellO xss (i / 6) (i % 6) = some x := by
  rw [← flat_get xss h (i / 6) (i % 6) (by omega), show 6 * (i / 6) + i % 6 = i by omega]
  exact hi
theorem tabB_iff (xss : List (List Int)) : tabB xss = true ↔ TV xss := by
  simp only [tabB, Bool.and_eq_true, decide_eq_true_eq, List.all_eq_true]
  constructor
  · rintro ⟨⟨h1, h2⟩, h3⟩
    obtain ⟨a, _, c⟩ := (flatB_iff _ _).1 h3
    refine ⟨h1, h2, ?_, ?_⟩
    · intro f k x hx
      have hk := six_lt h2 hx
      rw [← flat_get xss h2 f k hk.1] at hx
      exact inB_iff.1 (a x (List.mem_of_getElem? hx))
    · intro f k f' k' x hx hx' h0
      have hk := six_lt h2 hx
      have hk' := six_lt h2 hx'
      rw [← flat_get xss h2 f k hk.1] at hx
      rw [← flat_get xss h2 f' k' hk'.1] at hx'
      rcases Nat.lt_trichotomy (6 * f + k) (6 * f' + k') with h | h | h
      · exact absurd h0 (c _ _ x h hx hx')
      · omega
      · exact absurd h0 (c _ _ x h hx' hx)
  · rintro ⟨h1, h2, h3, h4⟩
    refine ⟨⟨h1, h2⟩, (flatB_iff _ _).2 ⟨?_, ?_, ?_⟩⟩
    · intro x hx
      obtain ⟨i, hi⟩ := List.mem_iff_getElem?.1 hx
      exact inB_iff.2 (h3 _ _ x (flat_cell h2 hi))
    · intro i x _ _
      simp
    · intro i j x hij hi hj h0
      have := h4 _ _ _ _ x (flat_cell h2 hi) (flat_cell h2 hj) h0
      omega
/-- One number put. -/
def tset (xss : List (List Int)) (f k : Nat) (x : Int) : List (List Int) := xss.set f ((xss.getD f []).set k x)
theorem TV.cell {xss : List (List Int)} (h : TV xss) {f k : Nat} (hf : f < 8) (hk : k < 6) : ∃ xs x, xss[f]? = some xs ∧ xs.length = 6 ∧ xs[k]? = some x ∧ cellO xss f k = some x := by
  have h1 : xss[f]? = some (xss[f]'(by have := h.len; omega)) := List.getElem?_eq_getElem _
  have h6 := h.six _ (List.mem_of_getElem? h1)
  have h2 := List.getElem?_eq_getElem (l := xss[f]'(by have := h.len; omega)) (i := k) (by omega)
  exact ⟨_, _, h1, h6, h2, cellO_of h1 h2⟩
theorem tset_row {xss : List (List Int)} {f : Nat} {xs : List Int} (h : xss[f]? = some xs) (k : Nat) (x : Int) : tset xss f k x = xss.set f (xs.set k x) := by
  simp [tset, List.getD_eq_getElem?_getD, h]
theorem tset_cell {xss : List (List Int)} (h : TV xss) {f k : Nat} (hf : f < 8) (hk : k < 6) (x : Int) (f' k' : Nat) : cellO (tset xss f k x) f' k' = if f' = f ∧ k' = k then some x else cellO xss f' k' := by
  obtain ⟨xs, y, h1, h6, h2, _⟩ := h.cell hf hk
  rw [tset_row h1]
  by_cases e : f' = f
  · subst e
    have : (xss.set f' (xs.set k x))[f']? = some (xs.set k x) := by
      rw [List.getElem?_set]
      simp [h.len]
      omega
    simp only [cellO, this, h1, Option.bind_some, true_and]
    rw [List.getElem?_set]
    by_cases e2 : k = k'
    · subst e2; simp [h6]; omega
    · rw [if_neg e2, if_neg (fun e => e2 e.symm)]
  · simp only [cellO, e, false_and, if_false]
    rw [List.getElem?_set, if_neg (fun e' => e e'.symm)]
/-- The page is in the table at another place. -/
def Elsewhere (xss : List (List Int)) (f k : Nat) (x : Int) : Prop := x ≠ -1 ∧ ∃ f' k', cellO xss f' k' = some x ∧ (f' ≠ f ∨ k' ≠ k)
theorem tset_valid {xss : List (List Int)} (h : TV xss) {f k : Nat} (hf : f < 8) (hk : k < 6) {x : Int} (hx : -1 ≤ x ∧ x ≤ 47) (hE : ¬ Elsewhere xss f k x) : TV (tset xss f k x) := by
  obtain ⟨xs, y, h1, h6, h2, _⟩ := h.cell hf hk
  refine ⟨by rw [tset_row h1, List.length_set]; exact h.len, ?_, ?_, ?_⟩
  · intro l hl
    rw [tset_row h1] at hl
    rcases List.mem_or_eq_of_mem_set hl with hl | rfl
    · exact h.six l hl
    · rw [List.length_set]; exact h6
  · intro f' k' z hz
    rw [tset_cell h hf hk] at hz
    split at hz
    · injection hz with hz; subst hz; exact hx
    · exact h.inb f' k' z hz
  · intro f1 k1 f2 k2 z hz1 hz2 h0
    rw [tset_cell h hf hk] at hz1 hz2
    split at hz1 <;> split at hz2
    · omega
    · injection hz1 with hz1
      subst hz1
      rename_i a b
      exact absurd ⟨by omega, f2, k2, hz2, by omega⟩ hE
    · injection hz2 with hz2
      subst hz2
      rename_i a b
      exact absurd ⟨by omega, f1, k1, hz1, by omega⟩ hE
    · exact h.one f1 k1 f2 k2 z hz1 hz2 h0
theorem tset_not {xss : List (List Int)} (h : TV xss) {f k : Nat} (hf : f < 8) (hk : k < 6) {x : Int} (hx : -1 ≤ x ∧ x ≤ 47) (hE : Elsewhere xss f k x) : ¬ TV (tset xss f k x) := by
  intro hT
  obtain ⟨hne, f', k', hc, hd⟩ := hE
  have := hT.one f k f' k' x (by rw [tset_cell h hf hk]; simp) (by rw [tset_cell h hf hk, if_neg (by omega)]; exact hc) (by omega)
  omega
theorem tset_ok {xss : List (List Int)} (h : tabB xss = true) {f k : Nat} (hf : f < 8) (hk : k < 6) {x : Int} (hx : inB x (-1) 47 = true) : tabB (tset xss f k x) = true ↔ ¬ Elsewhere xss f k x := by
  have hT := (tabB_iff _).1 h
  have hx' := inB_iff.1 hx
  constructor
  · intro hv hE
    exact tset_not hT hf hk hx' hE ((tabB_iff _).1 hv)
  · intro hE
    exact (tabB_iff _).2 (tset_valid hT hf hk hx' hE)
/-- The arguments are a file and a place of a valid table. -/
def argB (xss : List (List Int)) (f k : Int) : Bool := tabB xss && inB f 0 7 && inB k 0 5
/-- What TableGet answers. -/
def tgetV (xss : List (List Int)) (f k : Int) : Int := if argB xss f k then (cellO xss f.toNat k.toNat).getD 0 else -1
/-- What TablePut answers. -/
def tputV (xss : List (List Int)) (f k x : Int) : List (List Int) × Bool :=
  if argB xss f k && inB x (-1) 47 then (if tabB (tset xss f.toNat k.toNat x) then (tset xss f.toNat k.toNat x, true) else (xss, false)) else ([], false)
/-- In how many of the first i cells two tables differ. -/
def chgTo (a b : List (List Int)) : Nat → Nat
  | 0 => 0
  | i + 1 => chgTo a b i + (if cellO a (i / 6) (i % 6) = cellO b (i / 6) (i % 6) then 0 else 1)
/-- What TableChanges answers. -/
def chgV (a b : List (List Int)) : Int := if tabB a && tabB b then (chgTo a b 48 : Nat) else -1
theorem chgTo_le (a b : List (List Int)) (i : Nat) : chgTo a b i ≤ i := by
  induction i with
  | zero => exact Nat.le_refl _
  | succ i ih => simp only [chgTo]; split <;> omega
theorem chgTo_comm (a b : List (List Int)) (i : Nat) : chgTo a b i = chgTo b a i := by
  induction i with
  | zero => rfl
  | succ i ih =>
    simp only [chgTo, ih]
    by_cases e : cellO a (i / 6) (i % 6) = cellO b (i / 6) (i % 6)
    · rw [if_pos e, if_pos e.symm]
    · rw [if_neg e, if_neg (fun e' => e e'.symm)]
theorem chgTo_self (a : List (List Int)) (i : Nat) : chgTo a a i = 0 := by
  induction i with
  | zero => rfl
  | succ i ih => simp [chgTo, ih]
theorem chgTo_zero (a b : List (List Int)) (i : Nat) : chgTo a b i = 0 ↔ ∀ j, j < i → cellO a (j / 6) (j % 6) = cellO b (j / 6) (j % 6) := by
  induction i with
  | zero => simp [chgTo]
  | succ i ih =>
    simp only [chgTo]
    constructor
    · intro h j hj
      by_cases e : cellO a (i / 6) (i % 6) = cellO b (i / 6) (i % 6)
      · rw [if_pos e] at h
        rcases Nat.lt_or_ge j i with h1 | h1
        · exact ih.1 (by omega) j h1
        · obtain rfl : j = i := by omega
          exact e
      · rw [if_neg e] at h; omega
    · intro h
      rw [if_pos (h i (by omega)), ih.2 (fun j hj => h j (by omega))]
theorem TV.same {a b : List (List Int)} (ha : TV a) (hb : TV b) (h : ∀ f k, f < 8 → k < 6 → cellO a f k = cellO b f k) : a = b := by
  refine List.ext_getElem? fun f => ?_
  rcases Nat.lt_or_ge f 8 with hf | hf
  · obtain ⟨xs, x, h1, h6, _, _⟩ := ha.cell hf (show 0 < 6 by omega)
    obtain ⟨ys, y, g1, g6, _, _⟩ := hb.cell hf (show 0 < 6 by omega)
    rw [h1, g1]
    congr 1
    refine List.ext_getElem? fun k => ?_
    rcases Nat.lt_or_ge k 6 with hk | hk
    · have := h f k hf hk
      simpa [cellO, h1, g1] using this
    · rw [List.getElem?_eq_none (by omega), List.getElem?_eq_none (by omega)]
  · rw [List.getElem?_eq_none (by have := ha.len; omega), List.getElem?_eq_none (by have := hb.len; omega)]
theorem chg_zero {a b : List (List Int)} (ha : tabB a = true) (hb : tabB b = true) : chgTo a b 48 = 0 ↔ a = b := by
  constructor
  · intro h
    refine TV.same ((tabB_iff _).1 ha) ((tabB_iff _).1 hb) fun f k hf hk => ?_
    have := (chgTo_zero a b 48).1 h (6 * f + k) (by omega)
    rwa [show (6 * f + k) / 6 = f by omega, show (6 * f + k) % 6 = k by omega] at this
  · rintro rfl
    exact chgTo_self a 48
theorem chgTo_one {a b : List (List Int)} {f k : Nat} (h : ∀ f' k', ¬ (f' = f ∧ k' = k) → cellO a f' k' = cellO b f' k') (i : Nat) : chgTo a b i ≤ (if 6 * f + k < i ∧ k < 6 then 1 else 0) := by
  induction i with
  | zero => simp [chgTo]
  | succ i ih =>
    simp only [chgTo]
    by_cases e : i / 6 = f ∧ i % 6 = k
    · have hi : 6 * f + k = i := by omega
      rw [if_neg (show ¬ (6 * f + k < i ∧ k < 6) by omega)] at ih
      rw [if_pos (show 6 * f + k < i + 1 ∧ k < 6 by omega)]
      split <;> omega
    · rw [if_pos (h _ _ e)]
      refine Nat.le_trans (by simpa using ih) ?_
      split
      · rw [if_pos (show 6 * f + k < i + 1 ∧ k < 6 by omega)]; exact Nat.le_refl _
      · exact Nat.zero_le _
end Go.Proofs.Ytofolifmgpgkoaa
namespace Go.Proofs.Ytofolifmgpgkoaa
open Go.ChangeShapes Go.WideShapes Go.ChangeAt Go.RowKit

section
variable {w w' : World} {B : Nat} {A : Option Addr} {ls : List Li} {xs : List Int}
theorem TRow.pos (h : TRow w B A ls) (hp : 0 < ls.length) : ∃ g off, A = some ⟨g, off, none⟩ := by
  obtain ⟨g, off, e, _⟩ := h.1 (by rw [lv_length]; exact hp)
  exact ⟨g, off, e⟩
theorem TRow.cellf {g off f : Nat} {Al : Option Addr} {cl n : Nat} (h : TRow w B (some ⟨g, off, none⟩) ls) (hf : ls[f]? = some ⟨Al, cl, xs⟩) (hn : xs.length = n) : w.cell? ⟨g, off + f, none⟩ = some (.slice Al n cl) := by
  subst hn
  obtain ⟨g', off', e, _, _, hc⟩ := h.1 (by rw [lv_length]; have := (List.getElem?_eq_some_iff.1 hf).1; omega)
  injection e with e
  injection e with e1 e2
  subst e1; subst e2
  exact hc _ _ (lv_at hf)
theorem TRow.inner {f : Nat} {l : Li} (h : TRow w B A ls) (hf : ls[f]? = some l) : IRow w B l.A l.xs := h.2 _ (List.mem_of_getElem? hf)
theorem TRow.lt {g off : Nat} (h : TRow w B (some ⟨g, off, none⟩) ls) (hp : 0 < ls.length) : g < B := by
  obtain ⟨g', off', e, hb, _⟩ := h.1 (by rw [lv_length]; exact hp)
  injection e with e
  injection e with e1 e2
  subst e1
  exact hb
theorem IRow.lt {g off : Nat} (h : IRow w B (some ⟨g, off, none⟩) xs) (hp : 0 < xs.length) : g < B := by
  obtain ⟨g', off', e, hb, _⟩ := h (by rw [iv_length]; exact hp)
  injection e with e
  injection e with e1 e2
  subst e1
  exact hb
theorem IRow.pos (h : IRow w B A xs) (hp : 0 < xs.length) : ∃ g off, A = some ⟨g, off, none⟩ := by
  obtain ⟨g, off, e, _⟩ := h (by rw [iv_length]; exact hp)
  exact ⟨g, off, e⟩
theorem IRow.cellf {g off k : Nat} {x : Int} (h : IRow w B (some ⟨g, off, none⟩) xs) (hk : xs[k]? = some x) : w.cell? ⟨g, off + k, none⟩ = some (.int .i64 x) := by
  obtain ⟨g', off', e, _, _, hc⟩ := h (by rw [iv_length]; have := (List.getElem?_eq_some_iff.1 hk).1; omega)
  injection e with e
  injection e with e1 e2
  subst e1; subst e2
  exact hc _ _ (iv_at hk)
end
theorem ll_get {ls : List Li} {f : Nat} {xs : List Int} (h : (ll ls)[f]? = some xs) : ∃ A c, ls[f]? = some ⟨A, c, xs⟩ := by
  simp only [ll, List.getElem?_map, Option.map_eq_some_iff] at h
  obtain ⟨⟨A, c, ys⟩, hl, rfl⟩ := h
  exact ⟨A, c, hl⟩
/-- A cell of a valid table that is read: where it lies. -/
theorem TRow.open_ {w : World} {B : Nat} {A : Option Addr} {ls : List Li} (h : TRow w B A ls) (hv : tabB (ll ls) = true) {f k : Nat} (hf : f < 8) (hk : k < 6) :
    ls.length = 8 ∧ ∃ g off gx ox cl xs x, A = some ⟨g, off, none⟩ ∧ ls[f]? = some ⟨some ⟨gx, ox, none⟩, cl, xs⟩ ∧ xs.length = 6 ∧ xs[k]? = some x ∧ cellO (ll ls) f k = some x := by
  have hT := (tabB_iff _).1 hv
  have h8 : ls.length = 8 := by rw [← ll_length]; exact hT.len
  obtain ⟨xs, x, h1, h6, h2, h3⟩ := hT.cell hf hk
  obtain ⟨Al, cl, hl⟩ := ll_get h1
  obtain ⟨g, off, rfl⟩ := h.pos (by omega)
  obtain ⟨gx, ox, e⟩ := IRow.pos (h.inner hl) (by show 0 < xs.length; omega)
  dsimp only at e
  subst e
  exact ⟨h8, g, off, gx, ox, cl, xs, x, rfl, hl, h6, h2, h3⟩
section
variable {w wr w' : World} {A : Option Addr} {n c : Nat} {ls : List Li}
end
theorem tget_no {xss : List (List Int)} {f k : Int} (h : argB xss f k = false) : tgetV xss f k = -1 := by simp [tgetV, h]
theorem tget_at {xss : List (List Int)} {f k : Nat} {x : Int} (h : argB xss f k = true) (hc : cellO xss f k = some x) : tgetV xss f k = x := by simp [tgetV, h, hc]
theorem arg1 {xss : List (List Int)} {f k : Int} (h : tabB xss = false) : argB xss f k = false := by simp [argB, h]
theorem arg2 {xss : List (List Int)} {f k : Int} (h : inB f 0 7 = false) : argB xss f k = false := by simp [argB, h]
theorem arg3 {xss : List (List Int)} {f k : Int} (h : inB k 0 5 = false) : argB xss f k = false := by simp [argB, h]
theorem arg_yes {xss : List (List Int)} {f k : Int} (h : tabB xss = true) (hf : inB f 0 7 = true) (hk : inB k 0 5 = true) : argB xss f k = true := by simp [argB, h, hf, hk]
theorem inB_nat {x : Int} {m : Nat} (h : inB x 0 m = true) : ∃ n : Nat, x = n ∧ n ≤ m := by
  have := inB_iff.1 h
  obtain ⟨n, rfl⟩ := Int.eq_ofNat_of_zero_le this.1
  exact ⟨n, rfl, by omega⟩
theorem in_val {n lo hi : Int} {V : Bool} (h : inB n lo hi = V) (w : World) : Calls Try.prog 29 #[.int .i64 n, .int .i64 lo, .int .i64 hi] w fun e w' => e = .returned (.bool V) ∧ w = w' := h ▸ in_any n lo hi w
end Go.Proofs.Ytofolifmgpgkoaa
namespace Go.Proofs.Ytofolifmgpgkoaa
open Go.ChangeShapes Go.WideShapes Go.ChangeAt Go.RowKit

/-- A table in memory of its own, and whether it is possible. -/
def TabMade2 (xss : List (List Int)) (ok : Bool) (w : World) (e : Ending) (w' : World) : Prop :=
  ∃ (A : Option Addr) (n c : Nat) (cs : List Li), e = .returned (.tuple #[.agg #[.slice A n c], .bool ok]) ∧ cs.length = n ∧ ll cs = xss ∧ TOwn w' w.heap.size (.slice A n c) cs ∧ w.grownBy w' none
section
variable {w wr w' : World} {A : Option Addr} {n c : Nat} {ls : List Li}
theorem TRow.put {B : Nat} (h : TRow w B A ls) {p : Addr} (hB : B ≤ p.block) (u : Value) : TRow (w.setCell p u) B A ls := ⟨h.1.setCell hB u, fun l hl => VRow.setCell (h.2 l hl) hB u⟩
end
theorem town_none (w : World) (base : Nat) : TOwn w base (.slice none 0 0) [] := town_nil w base
theorem tput_no {xss : List (List Int)} {f k x : Int} (h : argB xss f k = false) : tputV xss f k x = ([], false) := by simp [tputV, h]
theorem tput_no2 {xss : List (List Int)} {f k x : Int} (h : inB x (-1) 47 = false) : tputV xss f k x = ([], false) := by simp [tputV, h]
theorem tput_yes {xss : List (List Int)} {f k : Nat} {x : Int} (h : argB xss f k = true) (hx : inB x (-1) 47 = true) (hv : tabB (tset xss f k x) = true) : tputV xss f k x = (tset xss f k x, true) := by simp [tputV, h, hx, hv]
theorem tput_els {xss : List (List Int)} {f k : Nat} {x : Int} (h : argB xss f k = true) (hx : inB x (-1) 47 = true) (hv : tabB (tset xss f k x) = false) : tputV xss f k x = (xss, false) := by simp [tputV, h, hx, hv]
/-- A list of a table of the call's own. -/
theorem TOwn.inner {w : World} {base : Nat} {v : Value} {ls : List Li} (h : TOwn w base v ls) {f : Nat} {xs : List Int} (hf : (ll ls)[f]? = some xs) (hpos : 0 < xs.length) :
    ∃ gl cl, ls[f]? = some ⟨some ⟨gl, 0, none⟩, cl, xs⟩ ∧ IOwn w base (.slice (some ⟨gl, 0, none⟩) xs.length cl) xs ∧ base ≤ gl ∧ gl < w.heap.size := by
  obtain ⟨Al, cl, hl⟩ := ll_get hf
  have h1 : IOwn w base (.slice Al xs.length cl) xs := h.2.1 _ (List.mem_of_getElem? hl)
  obtain ⟨gl, cap, e, hb, hz, _⟩ := VOwn.head h1 (iv_length xs) hpos
  injection e with e1 _ e2
  subst e1
  exact ⟨gl, cl, hl, h1, hb, hz⟩
theorem ll_six {ls : List Li} (hv : tabB (ll ls) = true) : ∀ l, l ∈ ls → l.xs.length ≤ 1048576 := fun l hl => by
  have h6 := ((tabB_iff _).1 hv).six l.xs (List.mem_map_of_mem hl)
  omega
end Go.Proofs.Ytofolifmgpgkoaa
namespace Go.Proofs.Ytofolifmgpgkoaa
open Go.ChangeShapes Go.WideShapes Go.ChangeAt Go.RowKit
set_option linter.unusedVariables false

theorem chg_step {a b : List (List Int)} {f k : Nat} {x y : Int} (hk : k < 6) (hx : cellO a f k = some x) (hy : cellO b f k = some y) : chgTo a b (6 * f + k + 1) = chgTo a b (6 * f + k) + (if x = y then 0 else 1) := by
  simp only [chgTo, show (6 * f + k) / 6 = f by omega, show (6 * f + k) % 6 = k by omega, hx, hy, Option.some.injEq]
theorem TRow.list {w : World} {B g off : Nat} {ls : List Li} (h : TRow w B (some ⟨g, off, none⟩) ls) (hv : tabB (ll ls) = true) {f : Nat} (hf : f < 8) :
    ∃ gx ox cl xs, ls[f]? = some ⟨some ⟨gx, ox, none⟩, cl, xs⟩ ∧ xs.length = 6 := by
  obtain ⟨_, g', off', gx, ox, cl, xs, x, e, h1, h2, _⟩ := h.open_ hv hf (show 0 < 6 by omega)
  exact ⟨gx, ox, cl, xs, h1, h2⟩
section
variable {w wr w' : World} {A A' : Option Addr} {n c n' c' : Nat} {ls ls' : List Li}
end
theorem chg_no1 {a b : List (List Int)} (h : tabB a = false) : chgV a b = -1 := by simp [chgV, h]
theorem chg_no2 {a b : List (List Int)} (h : tabB b = false) : chgV a b = -1 := by simp [chgV, h]
theorem chg_yes {a b : List (List Int)} (h : tabB a = true) (h' : tabB b = true) : chgV a b = (chgTo a b 48 : Nat) := by simp [chgV, h, h']
end Go.Proofs.Ytofolifmgpgkoaa
