/- Plain facts on extents: which are valid, the numbers that they are, the extents that some numbers are.
   What the model's functions of chapter 9 answer. -/
import Derived.Test.YteniikfgellhfaaPairs
import Derived.Test.YteniikfgellhfaaPairExtent
import Derived.Test.YteniikfgellhfaaTables2
import Derived.Test.YteniikfgellhfaaFiles
import Derived.BigQuiet
namespace Go.Proofs.Yteniikfgellhfaa
open Go.RowKit

/-- An extent has numbers within the bounds. -/
def exOk (p : Pr) : Bool := inB p.a 0 1000000 && inB p.b 1 40
/-- Extent k is in order: its numbers, and it does not go on where the one before ends. -/
def exStepB (ps : List Pr) (k : Nat) : Bool :=
  match ps[k]? with
  | some p => exOk p && (match k with
    | 0 => true
    | j + 1 => match ps[j]? with
      | some q => !(p.a == q.a + q.b)
      | none => true)
  | none => true
/-- Valid extents. -/
def extB (ps : List Pr) : Bool := (List.range ps.length).all (exStepB ps) && decide (ps.length ≤ 8)
theorem ext_bad {ps : List Pr} {k : Nat} (hk : k < ps.length) (h : exStepB ps k = false) : extB ps = false := by
  have : (List.range ps.length).all (exStepB ps) = false := by
    rw [List.all_eq_false]
    exact ⟨k, List.mem_range.2 hk, by simp [h]⟩
  simp [extB, this]
theorem ext_end {ps : List Pr} (h : ∀ k, k < ps.length → exStepB ps k = true) : extB ps = decide (ps.length ≤ 8) := by
  have : (List.range ps.length).all (exStepB ps) = true := by
    rw [List.all_eq_true]
    intro k hk
    exact h k (List.mem_range.1 hk)
  simp [extB, this]
theorem ext_steps {ps : List Pr} (h : extB ps = true) : (∀ k, k < ps.length → exStepB ps k = true) ∧ ps.length ≤ 8 := by
  simp only [extB, Bool.and_eq_true, List.all_eq_true, List.mem_range, decide_eq_true_eq] at h
  exact h
theorem exStep_ok {ps : List Pr} {k : Nat} {p : Pr} (hp : ps[k]? = some p) (h : exStepB ps k = true) : exOk p = true := by
  simp only [exStepB, hp, Bool.and_eq_true] at h
  exact h.1
theorem exStep_sep {ps : List Pr} {k : Nat} {p q : Pr} (hp : ps[k + 1]? = some p) (hq : ps[k]? = some q) (h : exStepB ps (k + 1) = true) : p.a ≠ q.a + q.b := by
  simp only [exStepB, hp, hq, Bool.and_eq_true] at h
  have := h.2
  simpa using this
theorem ext_ok {ps : List Pr} (h : extB ps = true) {k : Nat} {p : Pr} (hp : ps[k]? = some p) : 0 ≤ p.a ∧ p.a ≤ 1000000 ∧ 1 ≤ p.b ∧ p.b ≤ 40 := by
  have h1 := exStep_ok hp ((ext_steps h).1 k (List.getElem?_eq_some_iff.1 hp).1)
  simp only [exOk, Bool.and_eq_true] at h1
  have h2 := inB_iff.1 h1.1
  have h3 := inB_iff.1 h1.2
  omega
theorem ext_sep {ps : List Pr} (h : extB ps = true) {k : Nat} {p q : Pr} (hp : ps[k + 1]? = some p) (hq : ps[k]? = some q) : p.a ≠ q.a + q.b :=
  exStep_sep hp hq ((ext_steps h).1 _ (List.getElem?_eq_some_iff.1 hp).1)
theorem ext_of {ps : List Pr} (hl : ps.length ≤ 8) (h1 : ∀ (k : Nat) (p : Pr), ps[k]? = some p → exOk p = true) (h2 : ∀ (k : Nat) (p q : Pr), ps[k + 1]? = some p → ps[k]? = some q → p.a ≠ q.a + q.b) : extB ps = true := by
  rw [ext_end fun k hk => ?_]
  · exact decide_eq_true hl
  · have hp := List.getElem?_eq_getElem hk
    simp only [exStepB, hp, h1 k _ hp, Bool.true_and]
    cases k with
    | zero => rfl
    | succ j =>
      have hq := List.getElem?_eq_getElem (l := ps) (i := j) (by omega)
      simp only [hq]
      have := h2 j _ _ hp hq
      simp [this]
/-- Valid extents are valid without some of the first ones. -/
theorem ext_drop {ps : List Pr} (h : extB ps = true) (m : Nat) : extB (ps.drop m) = true := by
  refine ext_of (by have := (ext_steps h).2; rw [List.length_drop]; omega) (fun k p hp => ?_) (fun k p q hp hq => ?_)
  · rw [List.getElem?_drop] at hp
    exact exStep_ok hp ((ext_steps h).1 _ (List.getElem?_eq_some_iff.1 hp).1)
  · rw [List.getElem?_drop] at hp hq
    rw [← Nat.add_assoc] at hp
    exact ext_sep h hp hq
theorem ext_cons_bad (a : Int) (ps : List Pr) : extB (⟨a, 0⟩ :: ps) = false := ext_bad (k := 0) (by simp) (by simp [exStepB, exOk, inB])
/-- The numbers of one extent, and of all. -/
def exOne (p : Pr) : List Int := (List.range p.b.toNat).map fun (j : Nat) => p.a + (j : Int)
def exNums (ps : List Pr) : List Int := ps.flatMap exOne
theorem exOne_length (p : Pr) : (exOne p).length = p.b.toNat := by simp [exOne]
theorem exOne_at {p : Pr} {j : Nat} (h : j < p.b.toNat) : (exOne p)[j]? = some (p.a + (j : Int)) := by simp [exOne, h]
theorem exNums_append (a b : List Pr) : exNums (a ++ b) = exNums a ++ exNums b := by simp [exNums]
theorem exNums_cons (p : Pr) (ps : List Pr) : exNums (p :: ps) = exOne p ++ exNums ps := by simp [exNums]
/-- What ExtentsList answers. -/
def exListV (ps : List Pr) : List Int := if extB ps then exNums ps else []
theorem exNums_le {ps : List Pr} (h : extB ps = true) : (exNums ps).length ≤ 40 * ps.length := by
  have : ∀ (qs : List Pr), (∀ p, p ∈ qs → p.b ≤ 40) → (exNums qs).length ≤ 40 * qs.length := by
    intro qs hq
    induction qs with
    | nil => simp [exNums]
    | cons p r ih =>
      rw [exNums_cons, List.length_append, exOne_length, List.length_cons]
      have h1 := hq p (by simp)
      have h2 := ih fun q hm => hq q (by simp [hm])
      omega
  refine this ps fun p hm => ?_
  obtain ⟨k, hk⟩ := List.getElem?_of_mem hm
  exact (ext_ok h hk).2.2.2
theorem exListV_le (ps : List Pr) : (exListV ps).length ≤ 320 := by
  unfold exListV
  split
  · rename_i h
    have h1 := exNums_le h
    have h2 := (ext_steps h).2
    omega
  · simp
/-- What ExtentAt answers. -/
def exAtV (ps : List Pr) (n : Int) : Int := if extB ps && decide (0 ≤ n) then ((exNums ps)[n.toNat]?).getD (-1) else -1
/-- A number goes on where an extent ends. -/
def joinB (p : Pr) (x : Int) : Bool := (x == p.a + p.b) && inB x 0 1000040
/-- One number more. -/
def exAdd (out : List Pr) (x : Int) : List Pr :=
  match out.getLast? with
  | some l => if joinB l x then out.set (out.length - 1) ⟨l.a, l.b + 1⟩ else out ++ [⟨x, 1⟩]
  | none => out ++ [⟨x, 1⟩]
/-- The extents of the first k numbers. -/
def exTo (xs : List Int) (k : Nat) : List Pr := (xs.take k).foldl exAdd []
theorem exTo_zero (xs : List Int) : exTo xs 0 = [] := by simp [exTo]
theorem exTo_step {xs : List Int} {k : Nat} {x : Int} (h : xs[k]? = some x) : exTo xs (k + 1) = exAdd (exTo xs k) x := by
  unfold exTo
  rw [List.take_add_one, h, List.foldl_append]
  rfl
theorem exTo_all {xs : List Int} {n : Nat} (h : xs.length = n) : exTo xs n = xs.foldl exAdd [] := by subst h; simp [exTo]
theorem exAdd_none {x : Int} : exAdd [] x = [⟨x, 1⟩] := rfl
theorem exAdd_join {out : List Pr} {x : Int} {l : Pr} {m : Nat} (hm : out.length = m + 1) (hl : out[m]? = some l) (h : joinB l x = true) : exAdd out x = out.set m ⟨l.a, l.b + 1⟩ := by
  have e : out.getLast? = some l := by rw [List.getLast?_eq_getElem?, hm]; exact hl
  simp [exAdd, e, h, hm]
theorem exAdd_new {out : List Pr} {x : Int} {l : Pr} {m : Nat} (hm : out.length = m + 1) (hl : out[m]? = some l) (h : joinB l x = false) : exAdd out x = out ++ [⟨x, 1⟩] := by
  have e : out.getLast? = some l := by rw [List.getLast?_eq_getElem?, hm]; exact hl
  simp [exAdd, e, h]
theorem list_last {out : List Pr} {m : Nat} (hm : out.length = m + 1) : ∃ (r : List Pr) (l : Pr), out = r ++ [l] ∧ r.length = m ∧ out[m]? = some l := by
  have hne : out ≠ [] := by intro e; subst e; simp at hm
  refine ⟨out.dropLast, out.getLast hne, (List.dropLast_concat_getLast hne).symm, by rw [List.length_dropLast]; omega, ?_⟩
  rw [← List.getLast?_eq_some_getLast hne, List.getLast?_eq_getElem?, hm]
  rfl
theorem set_last {r : List Pr} {l q : Pr} {m : Nat} (hr : r.length = m) : (r ++ [l]).set m q = r ++ [q] := by
  rw [List.set_append_right _ _ (by omega), hr, Nat.sub_self, List.set_cons_zero]
/-- What holds of the extents of the first k numbers: they are these numbers; each has one at least, and at most k. -/
structure ExInv (xs : List Int) (k : Nat) (out : List Pr) : Prop where
  nums : exNums out = xs.take k
  pos : ∀ p, p ∈ out → 1 ≤ p.b ∧ p.b ≤ k ∧ p.a ∈ xs
  len : out.length ≤ k
theorem exOne_more (a : Int) (b : Int) (hb : 0 ≤ b) : exOne ⟨a, b + 1⟩ = exOne ⟨a, b⟩ ++ [a + b] := by
  obtain ⟨n, rfl⟩ := Int.eq_ofNat_of_zero_le hb
  have e : ((n : Int) + 1).toNat = n + 1 := by omega
  simp only [exOne, e, Int.toNat_natCast, List.range_succ, List.map_append, List.map_cons, List.map_nil]
theorem exInv {xs : List Int} : ∀ k : Nat, k ≤ xs.length → ExInv xs k (exTo xs k)
  | 0, _ => ⟨by simp [exTo, exNums], by simp [exTo], by simp [exTo]⟩
  | k + 1, hk => by
    obtain ⟨h1, h2, h3⟩ := exInv (xs := xs) k (by omega)
    have hx := List.getElem?_eq_getElem (l := xs) (i := k) (by omega)
    have hmem : xs[k] ∈ xs := List.getElem_mem _
    rw [exTo_step hx]
    have ht : xs.take (k + 1) = xs.take k ++ [xs[k]] := by rw [List.take_add_one, hx]; rfl
    have new : ExInv xs (k + 1) (exTo xs k ++ [⟨xs[k], 1⟩]) := by
      refine ⟨by rw [exNums_append, h1, ht]; simp [exNums, exOne], fun p hp => ?_, by rw [List.length_append]; simp; omega⟩
      rcases List.mem_append.1 hp with hp | hp
      · have := h2 p hp; exact ⟨this.1, by omega, this.2.2⟩
      · simp at hp; subst hp; exact ⟨by simp, by simp; omega, hmem⟩
    rcases Nat.eq_zero_or_pos (exTo xs k).length with h0 | h0
    · have e := List.eq_nil_of_length_eq_zero h0
      rw [e, exAdd_none]
      rw [e] at new
      exact new
    · obtain ⟨m, hm⟩ : ∃ m, (exTo xs k).length = m + 1 := ⟨(exTo xs k).length - 1, by omega⟩
      obtain ⟨r, l, e, hr, hl⟩ := list_last hm
      cases hj : joinB l xs[k]
      · rw [exAdd_new hm hl hj]
        exact new
      · rw [exAdd_join hm hl hj, e, set_last hr]
        have hj1 : xs[k] = l.a + l.b := by simp only [joinB, Bool.and_eq_true, beq_iff_eq] at hj; exact hj.1
        have hlm := h2 l (by rw [e]; simp)
        refine ⟨?_, fun p hp => ?_, by rw [List.length_append]; simp; omega⟩
        · rw [e, exNums_append] at h1
          rw [exNums_append, ht, ← h1, List.append_assoc]
          congr 1
          have e1 : exNums [(⟨l.a, l.b + 1⟩ : Pr)] = exOne ⟨l.a, l.b + 1⟩ := by simp [exNums]
          have e2 : exNums [l] = exOne l := by simp [exNums]
          rw [e1, e2, exOne_more _ _ (by omega), hj1]
        · rcases List.mem_append.1 hp with hp | hp
          · have := h2 p (by rw [e]; simp [hp]); exact ⟨this.1, by omega, this.2.2⟩
          · simp at hp; subst hp; dsimp only; exact ⟨by omega, by omega, hlm.2.2⟩
/-- What ExtentsOf answers. -/
def exOfV (xs : List Int) : List Pr × Bool := if extB (exTo xs xs.length) then (exTo xs xs.length, true) else ([], false)
/-- The extents of the numbers of valid extents are those extents. -/
theorem exAdd_one {out : List Pr} {a : Int} (b : Nat) (h0 : 0 ≤ a) (h1 : a ≤ 1000000) (hb : b ≤ 39) (hs : ∀ l, out.getLast? = some l → a ≠ l.a + l.b) : (exOne ⟨a, (b : Int) + 1⟩).foldl exAdd out = out ++ [⟨a, (b : Int) + 1⟩] := by
  induction b with
  | zero =>
    have e : exOne ⟨a, ((0 : Nat) : Int) + 1⟩ = [a] := by simp [exOne]
    rw [e]
    show exAdd out a = _
    unfold exAdd
    split
    · rename_i l hl
      have hj : joinB l a = false := by
        have := hs l hl
        simp [joinB, this]
      rw [hj]
      simp
    · simp
  | succ b ih =>
    rw [exOne_more _ _ (by omega), List.foldl_append, show (((b + 1 : Nat) : Int)) = (b : Int) + 1 by omega, ih (by omega)]
    show exAdd (out ++ [⟨a, (b : Int) + 1⟩]) (a + ((b : Int) + 1)) = _
    rw [exAdd_join (m := out.length) (l := ⟨a, (b : Int) + 1⟩) (by simp) (by simp) (by simp only [joinB, beq_self_eq_true, Bool.true_and]; exact inB_iff.2 ⟨by omega, by omega⟩), set_last rfl]
theorem exAdd_all {ps : List Pr} (h : extB ps = true) : ∀ k : Nat, k ≤ ps.length → (exNums (ps.take k)).foldl exAdd [] = ps.take k
  | 0, _ => by simp [exNums]
  | k + 1, hk => by
    have ih := exAdd_all h k (by omega)
    have hp := List.getElem?_eq_getElem (l := ps) (i := k) (by omega)
    have e : ps.take (k + 1) = ps.take k ++ [ps[k]] := by rw [List.take_add_one, hp]; rfl
    have ho := ext_ok h hp
    rw [e, exNums_append, List.foldl_append, ih]
    have e2 : exNums [ps[k]] = exOne ps[k] := by simp [exNums]
    obtain ⟨b, hb⟩ : ∃ b : Nat, ps[k].b = (b : Int) + 1 := ⟨(ps[k].b - 1).toNat, by omega⟩
    have e3 : ps[k] = ⟨ps[k].a, (b : Int) + 1⟩ := by rw [← hb]
    rw [e2, e3]
    refine exAdd_one b ho.1 ho.2.1 (by omega) fun l hl => ?_
    cases k with
    | zero => simp at hl
    | succ j =>
      rw [List.getLast?_eq_getElem?, List.length_take, show min (j + 1) ps.length - 1 = j by omega, List.getElem?_take, if_pos (by omega)] at hl
      exact ext_sep h hp hl
theorem exOf_list {ps : List Pr} (h : extB ps = true) : exOfV (exNums ps) = (ps, true) := by
  have := exAdd_all h ps.length (Nat.le_refl _)
  rw [List.take_length] at this
  unfold exOfV
  rw [exTo_all rfl, this, if_pos h]
/-- ExtentAt's loop: the numbers that are left. -/
theorem exAt_here {p : Pr} {ps : List Pr} {n : Nat} (hn : (n : Int) < p.b) : (exNums (p :: ps))[n]? = some (p.a + (n : Int)) := by
  rw [exNums_cons, List.getElem?_append_left (by rw [exOne_length]; omega)]
  exact exOne_at (by omega)
theorem exAt_next {p : Pr} {ps : List Pr} {n : Nat} (hn : ¬ (n : Int) < p.b) (h0 : 0 ≤ p.b) : (exNums (p :: ps))[n]? = (exNums ps)[n - p.b.toNat]? := by
  rw [exNums_cons, List.getElem?_append_right (by rw [exOne_length]; omega), exOne_length]
theorem exOfV_cases {xs : List Int} {X : List Pr} {r : Bool} (h : exOfV xs = (X, r)) : (r = false ∧ X = []) ∨ (r = true ∧ extB X = true ∧ exNums X = xs ∧ X.length ≤ xs.length) := by
  unfold exOfV at h
  split at h
  · rename_i hv
    injection h with h1 h2
    subst h1; subst h2
    have hi := exInv (xs := xs) xs.length (Nat.le_refl _)
    exact .inr ⟨rfl, hv, by rw [hi.nums, List.take_length], hi.len⟩
  · injection h with h1 h2
    exact .inl ⟨h2.symm, h1.symm⟩
theorem exOfV_le (xs : List Int) : (exOfV xs).1.length ≤ 8 := by
  unfold exOfV
  split
  · rename_i h; exact (ext_steps h).2
  · simp
/-- In the machine's numbers, too, a number goes on where an extent ends only if it does so. -/
theorem join_wrap {a b x : Int} (ha : -9223372036854775808 ≤ a ∧ a ≤ 9223372036854775807) (hb : 0 ≤ b ∧ b ≤ 2000000) : ((x == wrap64 (a + b)) && inB x 0 1000040) = joinB ⟨a, b⟩ x := by
  unfold joinB
  cases hin : inB x 0 1000040
  · simp
  · have h1 := inB_iff.1 hin
    simp only [Bool.and_true]
    rw [Bool.eq_iff_iff, beq_iff_eq, beq_iff_eq]
    have hw : wrap64 (a + b) = a + b ∨ wrap64 (a + b) < 0 := by
      rcases (show a + b < 9223372036854775808 ∨ 9223372036854775808 ≤ a + b by omega) with h2 | h2
      · exact .inl (by unfold wrap64; omega)
      · exact .inr (by unfold wrap64; omega)
    constructor
    · intro e
      rcases hw with h2 | h2 <;> omega
    · intro e
      unfold wrap64
      omega
end Go.Proofs.Yteniikfgellhfaa
namespace Go.Proofs.Yteniikfgellhfaa
open Go.ChangeShapes Go.WideShapes Go.ChangeAt Go.RowKit
set_option linter.unusedVariables false

theorem in_same {n lo hi : Int} {V : Bool} (h : inB n lo hi = V) (w : World) : Calls Try.prog 95 #[.int .i64 n, .int .i64 lo, .int .i64 hi] w fun e w' => e = .returned (.bool V) ∧ w' = w :=
  (in_val h w).mono fun _ _ q => ⟨q.1, q.2.symm⟩
section
variable {w wr w' : World} {A : Option Addr} {xs : List Int} {k : Nat} {u : Value} {x : Int}
end
theorem exOne_take {p : Pr} {j : Nat} (h : j < p.b.toNat) : (exOne p).take (j + 1) = (exOne p).take j ++ [p.a + (j : Int)] := by
  rw [List.take_add_one, exOne_at h]
  rfl
theorem exNums_take {ps : List Pr} {k : Nat} {p : Pr} (h : ps[k]? = some p) : exNums (ps.take (k + 1)) = exNums (ps.take k) ++ exOne p := by
  rw [List.take_add_one, h, exNums_append]
  simp [exNums]
theorem exNums_take_le {ps : List Pr} (h : extB ps = true) (k : Nat) : (exNums (ps.take k)).length ≤ 320 := by
  have : exNums ps = exNums (ps.take k) ++ exNums (ps.drop k) := by rw [← exNums_append, List.take_append_drop]
  have h1 := exNums_le h
  have h2 := (ext_steps h).2
  rw [this, List.length_append] at h1
  omega
theorem exAt_no {ps : List Pr} {n : Int} (h : extB ps = false) : exAtV ps n = -1 := by simp [exAtV, h]
theorem exAt_neg {ps : List Pr} {n : Int} (h : n < 0) : exAtV ps n = -1 := by
  have : decide (0 ≤ n) = false := decide_eq_false (by omega)
  simp [exAtV, this]
theorem exAt_yes {ps : List Pr} {n : Nat} (h : extB ps = true) : exAtV ps (n : Int) = ((exNums ps)[n]?).getD (-1) := by simp [exAtV, h]
end Go.Proofs.Yteniikfgellhfaa
