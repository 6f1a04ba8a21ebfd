/- Plain facts on extents: which are valid, the numbers that they are, the extents that some numbers are.
   What the model's functions of chapter 9 answer. -/
import Derived.Test.YtpfmjagbnfcocaaPairs
import Derived.Test.YtpfmjagbnfcocaaPairExtent
import Derived.Test.YtpfmjagbnfcocaaTables4
import Derived.Test.YtpfmjagbnfcocaaFiles
import Derived.BigQuiet
namespace Go.Proofs.Ytpfmjagbnfcocaa
open Go.RowKit

/-- An extent has numbers within the bounds. -/
def exOk (p : Pr) : Bool := inB p.a 0 1000000 && inB p.b 1 40
/-- Extent k is in order: its numbers, and it does not go on where the one before ends. -/
def exStepB (ps : List Pr) (k : Nat) : Bool :=
  match ps[k]? with
  | some p => exOk p && (match k with
    | 0 => true
    | j + 1 => match ps[j]? with
      | some q => !(p.a == q.a + q.b)
      | none => true)
  | none => true
/-- Valid extents. -/
def extB (ps : List Pr) : Bool := (List.range ps.length).all (exStepB ps) && decide (ps.length ≤ 8)
theorem ext_bad {ps : List Pr} {k : Nat} (hk : k < ps.length) (h : exStepB ps k = false) : extB ps = false := by
  have : (List.range ps.length).all (exStepB ps) = false := by
    rw [List.all_eq_false]
    exact ⟨k, List.mem_range.2 hk, by simp [h]⟩
  simp [extB, this]
theorem ext_end {ps : List Pr} (h : ∀ k, k < ps.length → exStepB ps k = true) : extB ps = decide (ps.length ≤ 8) := by
  have : (List.range ps.length).all (exStepB ps) = true := by
    rw [List.all_eq_true]
    intro k hk
    exact h k (List.mem_range.1 hk)
  simp [extB, this]
theorem ext_steps {ps : List Pr} (h : extB ps = true) : (∀ k, k < ps.length → exStepB ps k = true) ∧ ps.length ≤ 8 := by
  simp only [extB, Bool.and_eq_true, List.all_eq_true, List.mem_range, decide_eq_true_eq] at h
  exact h
theorem exStep_ok {ps : List Pr} {k : Nat} {p : Pr} (hp : ps[k]? = some p) (h : exStepB ps k = true) : exOk p = true := by
  simp only [exStepB, hp, Bool.and_eq_true] at h
  exact h.1
theorem exStep_sep {ps : List Pr} {k : Nat} {p q : Pr} (hp : ps[k + 1]? = some p) (hq : ps[k]? = some q) (h : exStepB ps (k + 1) = true) : p.a ≠ q.a + q.b := by
  simp only [exStepB, hp, hq, Bool.and_eq_true] at h
  have := h.2
  simpa using this
theorem ext_ok {ps : List Pr} (h : extB ps = true) {k : Nat} {p : Pr} (hp : ps[k]? = some p) : 0 ≤ p.a ∧ p.a ≤ 1000000 ∧ 1 ≤ p.b ∧ p.b ≤ 40 := by
  have h1 := exStep_ok hp ((ext_steps h).1 k (List.getElem?_eq_some_iff.1 hp).1)
  simp only [exOk, Bool.and_eq_true] at h1
  have h2 := inB_iff.1 h1.1
  have h3 := inB_iff.1 h1.2
  omega
theorem ext_sep {ps : List Pr} (h : extB ps = true) {k : Nat} {p q : Pr} (hp : ps[k + 1]? = some p) (hq : ps[k]? = some q) : p.a ≠ q.a + q.b :=
  exStep_sep hp hq ((ext_steps h).1 _ (List.getElem?_eq_some_iff.1 hp).1)
theorem ext_of {ps : List Pr} (hl : ps.length ≤ 8) (h1 : ∀ (k : Nat) (p : Pr), ps[k]? = some p → exOk p = true) (h2 : ∀ (k : Nat) (p q : Pr), ps[k + 1]? = some p → ps[k]? = some q → p.a ≠ q.a + q.b) : extB ps = true := by
  rw [ext_end fun k hk => ?_]
  · exact decide_eq_true hl
  · have hp := List.getElem?_eq_getElem hk
    simp only [exStepB, hp, h1 k _ hp, Bool.true_and]
    cases k with
    | zero => rfl
    | succ j =>
      have hq := List.getElem?_eq_getElem (l := ps) (i := j) (by omega)
      simp only [hq]
      have := h2 j _ _ hp hq
      simp [this]
/-- Valid extents are valid without some of the first ones. -/
theorem ext_drop {ps : List Pr} (h : extB ps = true) (m : Nat) : extB (ps.drop m) = true := by
  refine ext_of (by have := (ext_steps h).2; rw [List.length_drop]; omega) (fun k p hp => ?_) (fun k p q hp hq => ?_)
  · rw [List.getElem?_drop] at hp
    exact exStep_ok hp ((ext_steps h).1 _ (List.getElem?_eq_some_iff.1 hp).1)
  · rw [List.getElem?_drop] at hp hq
    rw [← Nat.add_assoc] at hp
    exact ext_sep h hp hq
theorem ext_cons_bad (a : Int) (ps : List Pr) : extB (⟨a, 0⟩ :: ps) = false := ext_bad (k := 0) (by simp) (by simp [exStepB, exOk, inB])
/-- The numbers of one extent, and of all. -/
def exOne (p : Pr) : List Int := (List.range p.b.toNat).map fun (j : Nat) => p.a + (j : Int)
def exNums (ps : List Pr) : List Int := ps.flatMap exOne
theorem exOne_length (p : Pr) : (exOne p).length = p.b.toNat := by simp [exOne]
theorem exOne_at {p : Pr} {j : Nat} (h : j < p.b.toNat) : (exOne p)[j]? = some (p.a + (j : Int)) := by simp [exOne, h]
theorem exNums_append (a b : List Pr) : exNums (a ++ b) = exNums a ++ exNums b := by simp [exNums]
theorem exNums_cons (p : Pr) (ps : List Pr) : exNums (p :: ps) = exOne p ++ exNums ps := by simp [exNums]
/-- What ExtentsList answers. -/
def exListV (ps : List Pr) : List Int := if extB ps then exNums ps else []
theorem exNums_le {ps : List Pr} (h : extB ps = true) : (exNums ps).length ≤ 40 * ps.length := by
  have : ∀ (qs : List Pr), (∀ p, p ∈ qs → p.b ≤ 40) → (exNums qs).length ≤ 40 * qs.length := by
    intro qs hq
    induction qs with
    | nil => simp [exNums]
    | cons p r ih =>
      rw [exNums_cons, List.length_append, exOne_length, List.length_cons]
      have h1 := hq p (by simp)
      have h2 := ih fun q hm => hq q (by simp [hm])
      omega
  refine this ps fun p hm => ?_
  obtain ⟨k, hk⟩ := List.getElem?_of_mem hm
  exact (ext_ok h hk).2.2.2
theorem exListV_le (ps : List Pr) : (exListV ps).length ≤ 320 := by
  unfold exListV
  split
  · rename_i h
    have h1 := exNums_le h
    have h2 := (ext_steps h).2
    omega
  · simp
/-- What ExtentAt answers. -/
def exAtV (ps : List Pr) (n : Int) : Int := if extB ps && decide (0 ≤ n) then ((exNums ps)[n.toNat]?).getD (-1) else -1
/-- A number goes on where an extent ends. -/
def joinB (p : Pr) (x : Int) : Bool := (x == p.a + p.b) && inB x 0 1000040
/-- One number more. -/
def exAdd (out : List Pr) (x : Int) : List Pr :=
  match out.getLast? with
  | some l => if joinB l x then out.set (out.length - 1) ⟨l.a, l.b + 1⟩ else out ++ [⟨x, 1⟩]
  | none => out ++ [⟨x, 1⟩]
/-- The extents of the first k numbers. -/
def exTo (xs : List Int) (k : Nat) : List Pr := (xs.take k).foldl exAdd []
theorem exTo_zero (xs : List Int) : exTo xs 0 = [] := by simp [exTo]
theorem exTo_step {xs : List Int} {k : Nat} {x : Int} (h : xs[k]? = some x) : exTo xs (k + 1) = exAdd (exTo xs k) x := by
  unfold exTo
  rw [List.take_add_one, h, List.foldl_append]
  rfl
theorem exTo_all {xs : List Int} {n : Nat} (h : xs.length = n) : exTo xs n = xs.foldl exAdd [] := by subst h; simp [exTo]
theorem exAdd_none {x : Int} : exAdd [] x = [⟨x, 1⟩] := rfl
theorem exAdd_join {out : List Pr} {x : Int} {l : Pr} {m : Nat} (hm : out.length = m + 1) (hl : out[m]? = some l) (h : joinB l x = true) : exAdd out x = out.set m ⟨l.a, l.b + 1⟩ := by
  have e : out.getLast? = some l := by rw [List.getLast?_eq_getElem?, hm]; exact hl
  simp [exAdd, e, h, hm]
theorem exAdd_new {out : List Pr} {x : Int} {l : Pr} {m : Nat} (hm : out.length = m + 1) (hl : out[m]? = some l) (h : joinB l x = false) : exAdd out x = out ++ [⟨x, 1⟩] := by
  have e : out.getLast? = some l := by rw [List.getLast?_eq_getElem?, hm]; exact hl
  simp [exAdd, e, h]
theorem list_last {out : List Pr} {m : Nat} (hm : out.length = m + 1) : ∃ (r : List Pr) (l : Pr), out = r ++ [l] ∧ r.length = m ∧ out[m]? = some l := by
  have hne : out ≠ [] := by intro e; subst e; simp at hm
  refine ⟨out.dropLast, out.getLast hne, (List.dropLast_concat_getLast hne).symm, by rw [List.length_dropLast]; omega, ?_⟩
  rw [← List.getLast?_eq_some_getLast hne, List.getLast?_eq_getElem?, hm]
  rfl
theorem set_last {r : List Pr} {l q : Pr} {m : Nat} (hr : r.length = m) : (r ++ [l]).set m q = r ++ [q] := by
  rw [List.set_append_right _ _ (by omega), hr, Nat.sub_self, List.set_cons_zero]
/-- What holds of the extents of the first k numbers: they are these numbers; each has one at least, and at most k. -/
structure ExInv (xs : List Int) (k : Nat) (out : List Pr) : Prop where
  nums : exNums out = xs.take k
  pos : ∀ p, p ∈ out → 1 ≤ p.b ∧ p.b ≤ k ∧ p.a ∈ xs
  len : out.length ≤ k
theorem exOne_more (a : Int) (b : Int) (hb : 0 ≤ b) : exOne ⟨a, b + 1⟩ = exOne ⟨a, b⟩ ++ [a + b] := by
  obtain ⟨n, rfl⟩ := Int.eq_ofNat_of_zero_le hb
  have e : ((n : Int) + 1).toNat = n + 1 := by omega
  simp only [exOne, e, Int.toNat_natCast, List.range_succ, List.map_append, List.map_cons, List.map_nil]
theorem exInv {xs : List Int} : ∀ k : Nat, k ≤ xs.length → ExInv xs k (exTo xs k)
  | 0, _ => ⟨by simp [exTo, exNums], by simp [exTo], by simp [exTo]⟩
  | k + 1, hk => by
    obtain ⟨h1, h2, h3⟩ := exInv (xs := xs) k (by omega)
    have hx := List.getElem?_eq_getElem (l := xs) (i := k) (by omega)
    have hmem : xs[k] ∈ xs := List.getElem_mem _
    rw [exTo_step hx]
    have ht : xs.take (k + 1) = xs.take k ++ [xs[k]] := by rw [List.take_add_one, hx]; rfl
    have new : ExInv xs (k + 1) (exTo xs k ++ [⟨xs[k], 1⟩]) := by
      refine ⟨by rw [exNums_append, h1, ht]; simp [exNums, exOne], fun p hp => ?_, by rw [List.length_append]; simp; omega⟩
      rcases List.mem_append.1 hp with hp | hp
      · have := h2 p hp; exact ⟨this.1, by omega, this.2.2⟩
      · simp at hp; subst hp; exact ⟨by simp, by simp; omega, hmem⟩
    rcases Nat.eq_zero_or_pos (exTo xs k).length with h0 | h0
    · have e := List.eq_nil_of_length_eq_zero h0
      rw [e, exAdd_none]
      rw [e] at new
      exact new
    · obtain ⟨m, hm⟩ : ∃ m, (exTo xs k).length = m + 1 := ⟨(exTo xs k).length - 1, by omega⟩
      obtain ⟨r, l, e, hr, hl⟩ := list_last hm
      cases hj : joinB l xs[k]
      · rw [exAdd_new hm hl hj]
        exact new
      · rw [exAdd_join hm hl hj, e, set_last hr]
        have hj1 : xs[k] = l.a + l.b := by simp only [joinB, Bool.and_eq_true, beq_iff_eq] at hj; exact hj.1
        have hlm := h2 l (by rw [e]; simp)
        refine ⟨?_, fun p hp => ?_, by rw [List.length_append]; simp; omega⟩
        · rw [e, exNums_append] at h1
          rw [exNums_append, ht, ← h1, List.append_assoc]
          congr 1
          have e1 : exNums [(⟨l.a, l.b + 1⟩ : Pr)] = exOne ⟨l.a, l.b + 1⟩ := by simp [exNums]
          have e2 : exNums [l] = exOne l := by simp [exNums]
          rw [e1, e2, exOne_more _ _ (by omega), hj1]
        · rcases List.mem_append.1 hp with hp | hp
          · have := h2 p (by rw [e]; simp [hp]); exact ⟨this.1, by omega, this.2.2⟩
          · simp at hp; subst hp; dsimp only; exact ⟨by omega, by omega, hlm.2.2⟩
/-- What ExtentsOf answers. -/
def exOfV (xs : List Int) : List Pr × Bool := if extB (exTo xs xs.length) then (exTo xs xs.length, true) else ([], false)
/-- The extents of the numbers of valid extents are those extents. -/
theorem exAdd_one {out : List Pr} {a : Int} (b : Nat) (h0 : 0 ≤ a) (h1 : a ≤ 1000000) (hb : b ≤ 39) (hs : ∀ l, out.getLast? = some l → a ≠ l.a + l.b) : (exOne ⟨a, (b : Int) + 1⟩).foldl exAdd out = out ++ [⟨a, (b : Int) + 1⟩] := by
  induction b with
  | zero =>
    have e : exOne ⟨a, ((0 : Nat) : Int) + 1⟩ = [a] := by simp [exOne]
    rw [e]
    show exAdd out a = _
    unfold exAdd
    split
    · rename_i l hl
      have hj : joinB l a = false := by
        have := hs l hl
        simp [joinB, this]
      rw [hj]
      simp
    · simp
  | succ b ih =>
    rw [exOne_more _ _ (by omega), List.foldl_append, show (((b + 1 : Nat) : Int)) = (b : Int) + 1 by omega, ih (by omega)]
    show exAdd (out ++ [⟨a, (b : Int) + 1⟩]) (a + ((b : Int) + 1)) = _
    rw [exAdd_join (m := out.length) (l := ⟨a, (b : Int) + 1⟩) (by simp) (by simp) (by simp only [joinB, beq_self_eq_true, Bool.true_and]; exact inB_iff.2 ⟨by omega, by omega⟩), set_last rfl]
theorem exAdd_all {ps : List Pr} (h : extB ps = true) : ∀ k : Nat, k ≤ ps.length → (exNums (ps.take k)).foldl exAdd [] = ps.take k
  | 0, _ => by simp [exNums]
  | k + 1, hk => by
    have ih := exAdd_all h k (by omega)
    have hp := List.getElem?_eq_getElem (l := ps) (i := k) (by omega)
    have e : ps.take (k + 1) = ps.take k ++ [ps[k]] := by rw [List.take_add_one, hp]; rfl
    have ho := ext_ok h hp
    rw [e, exNums_append, List.foldl_append, ih]
    have e2 : exNums [ps[k]] = exOne ps[k] := by simp [exNums]
    obtain ⟨b, hb⟩ : ∃ b : Nat, ps[k].b = (b : Int) + 1 := ⟨(ps[k].b - 1).toNat, by omega⟩
    have e3 : ps[k] = ⟨ps[k].a, (b : Int) + 1⟩ := by rw [← hb]
    rw [e2, e3]
    refine exAdd_one b ho.1 ho.2.1 (by omega) fun l hl => ?_
    cases k with
    | zero => simp at hl
    | succ j =>
      rw [List.getLast?_eq_getElem?, List.length_take, show min (j + 1) ps.length - 1 = j by omega, List.getElem?_take, if_pos (by omega)] at hl
      exact ext_sep h hp hl
theorem exOf_list {ps : List Pr} (h : extB ps = true) : exOfV (exNums ps) = (ps, true) := by
  have := exAdd_all h ps.length (Nat.le_refl _)
  rw [List.take_length] at this
  unfold exOfV
  rw [exTo_all rfl, this, if_pos h]
/-- ExtentAt's loop: the numbers that are left. -/
theorem exAt_here {p : Pr} {ps : List Pr} {n : Nat} (hn : (n : Int) < p.b) : (exNums (p :: ps))[n]? = some (p.a + (n : Int)) := by
  rw [exNums_cons, List.getElem?_append_left (by rw [exOne_length]; omega)]
  exact exOne_at (by omega)
theorem exAt_next {p : Pr} {ps : List Pr} {n : Nat} (hn : ¬ (n : Int) < p.b) (h0 : 0 ≤ p.b) : (exNums (p :: ps))[n]? = (exNums ps)[n - p.b.toNat]? := by
  rw [exNums_cons, List.getElem?_append_right (by rw [exOne_length]; omega), exOne_length]
theorem exOfV_cases {xs : List Int} {X : List Pr} {r : Bool} (h : exOfV xs = (X, r)) : (r = false ∧ X = []) ∨ (r = true ∧ extB X = true ∧ exNums X = xs ∧ X.length ≤ xs.length) := by
  unfold exOfV at h
  split at h
  · rename_i hv
    injection h with h1 h2
    subst h1; subst h2
    have hi := exInv (xs := xs) xs.length (Nat.le_refl _)
    exact .inr ⟨rfl, hv, by rw [hi.nums, List.take_length], hi.len⟩
  · injection h with h1 h2
    exact .inl ⟨h2.symm, h1.symm⟩
theorem exOfV_le (xs : List Int) : (exOfV xs).1.length ≤ 8 := by
  unfold exOfV
  split
  · rename_i h; exact (ext_steps h).2
  · simp
/-- In the machine's numbers, too, a number goes on where an extent ends only if it does so. -/
theorem join_wrap {a b x : Int} (ha : -9223372036854775808 ≤ a ∧ a ≤ 9223372036854775807) (hb : 0 ≤ b ∧ b ≤ 2000000) : ((x == wrap64 (a + b)) && inB x 0 1000040) = joinB ⟨a, b⟩ x := by
  unfold joinB
  cases hin : inB x 0 1000040
  · simp
  · have h1 := inB_iff.1 hin
    simp only [Bool.and_true]
    rw [Bool.eq_iff_iff, beq_iff_eq, beq_iff_eq]
    have hw : wrap64 (a + b) = a + b ∨ wrap64 (a + b) < 0 := by
      rcases (show a + b < 9223372036854775808 ∨ 9223372036854775808 ≤ a + b by omega) with h2 | h2
      · exact .inl (by unfold wrap64; omega)
      · exact .inr (by unfold wrap64; omega)
    constructor
    · intro e
      rcases hw with h2 | h2 <;> omega
    · intro e
      unfold wrap64
      omega
end Go.Proofs.Ytpfmjagbnfcocaa
namespace Go.Proofs.Ytpfmjagbnfcocaa
open Go.ChangeShapes Go.WideShapes Go.ChangeAt Go.RowKit
set_option linter.unusedVariables false

theorem in_same {n lo hi : Int} {V : Bool} (h : inB n lo hi = V) (w : World) : Calls Try.prog 39 #[.int .i64 n, .int .i64 lo, .int .i64 hi] w fun e w' => e = .returned (.bool V) ∧ w' = w :=
  (in_val h w).mono fun _ _ q => ⟨q.1, q.2.symm⟩
set_option maxHeartbeats 4000000 in
theorem specExtValid_any (A : Option Addr) (n c : Nat) (ps : List Pr) (w : World) (hl : ps.length = n) (hr : PRow w w.heap.size A ps) (hn : n ≤ 1048576) :
    Calls Try.prog 13 #[.slice A n c] w (KeptV (.bool (extB ps)) w) := by
  subst hl
  have HR := Lib.hid hr
  clear hr
  go_enter Try.func13, Try.ntmps13
  go_wp2
  go_loopw [3] (fun i wr => ∃ k : Nat, k ≤ ps.length ∧ i = .int .i64 k ∧ (∀ j, j < k → exStepB ps j = true) ∧ w.grownBy wr none) (fun i _ => ps.length - (intOf i).toNat)
  case atStart => exact ⟨0, Nat.zero_le _, rfl, fun j hj => absurd hj (by omega), grown_refl _ _⟩
  case round =>
    rename World => wq
    obtain ⟨k, hk, rfl, hall, hg⟩ := hrel
    by_cases hlt : k < ps.length
    · have h1 := HR.out.kept hg
      obtain ⟨g, off, rfl, _⟩ := h1.pos (by omega)
      obtain ⟨⟨a, b⟩, hp⟩ : ∃ p, ps[k]? = some p := ⟨_, List.getElem?_eq_getElem hlt⟩
      obtain ⟨c0, c1⟩ := h1.cellf hp
      dsimp only at c0 c1
      have hk0 : decide ((0 : Int) ≤ k) = true := decide_eq_true (by omega)
      have hk1 : (k : Int) < ps.length := by omega
      have HG := Lib.hid (And.intro hg hall)
      clear hg hall h1
      cases ha : inB a 0 1000000
      · have HX := Lib.hid (And.intro ha (ext_bad hlt (by simp [exStepB, hp, exOk, ha])))
        clear ha hp
        go_wp2_with fail
        go_quiet ((go_at_call 39; with_reducible exact Calls.quiet_of_same (in_same HX.out.1 _)))
        go_wp2
        go_ret
        exact ⟨retB HX.out.2.symm, grown_drewN HG.out.1 _⟩
      cases hb : inB b 1 40
      · have HX := Lib.hid (And.intro ha (And.intro hb (ext_bad hlt (by simp [exStepB, hp, exOk, hb]))))
        clear ha hb hp
        go_wp2_with fail
        go_quiet (first | (go_at_call 39; with_reducible exact Calls.quiet_of_same (in_same HX.out.1 _)) | (go_at_call 39; with_reducible exact Calls.quiet_of_same (in_same HX.out.2.1 _)))
        go_wp2
        go_ret
        exact ⟨retB HX.out.2.2.symm, grown_drewN HG.out.1 _⟩
      by_cases hkz : k = 0
      · have hk2 : decide ((0 : Int) < (k : Int)) = false := decide_eq_false (by omega)
        have hk3 : decide (0 < k) = false := decide_eq_false (by omega)
        have HX := Lib.hid (And.intro ha (And.intro hb (show exStepB ps k = true by subst hkz; simp [exStepB, hp, exOk, ha, hb])))
        have HKZ := Lib.hid hkz
        clear ha hb hp hkz
        go_wp2_with fail
        go_quiet (first | (go_at_call 39; with_reducible exact Calls.quiet_of_same (in_same HX.out.1 _)) | (go_at_call 39; with_reducible exact Calls.quiet_of_same (in_same HX.out.2.1 _)))
        go_wp2
        go_roundw
        case rel => exact ⟨k + 1, by omega, by go_num, fun j hj => by obtain rfl : j = k := by (have := HKZ.out; omega)
                                                                      exact HX.out.2.2, grown_drewN HG.out.1 _⟩
        case measure => simp [intOf]; omega
      · obtain ⟨j, rfl⟩ : ∃ j, k = j + 1 := ⟨k - 1, by omega⟩
        obtain ⟨⟨a', b'⟩, hq⟩ : ∃ q, ps[j]? = some q := ⟨_, List.getElem?_eq_getElem (by omega)⟩
        obtain ⟨d0, d1⟩ := (HR.out.kept HG.out.1).cellf hq
        dsimp only at d0 d1
        have hv := exStep_ok hq (HG.out.2 j (by omega))
        simp only [exOk, Bool.and_eq_true] at hv
        have hb1 := inB_iff.1 hv.1
        have hb2 := inB_iff.1 hv.2
        have hj0 : decide ((0 : Int) ≤ j) = true := decide_eq_true (by omega)
        have hj1 : (j : Int) < ps.length := by omega
        have hj2 : decide ((0 : Int) < ((j + 1 : Nat) : Int)) = true := decide_eq_true (by omega)
        cases he : (a == a' + b')
        · have HX := Lib.hid (And.intro ha (And.intro hb (show exStepB ps (j + 1) = true by simp [exStepB, hp, hq, exOk, ha, hb, he])))
          clear ha hb hp hq hv
          go_wp2_with fail
          go_quiet (first | (go_at_call 39; with_reducible exact Calls.quiet_of_same (in_same HX.out.1 _)) | (go_at_call 39; with_reducible exact Calls.quiet_of_same (in_same HX.out.2.1 _)))
          go_wp2
          go_roundw
          case rel => exact ⟨j + 1 + 1, by omega, by go_num, fun i hi => by rcases Nat.lt_or_ge i (j + 1) with h | h
                                                                            · exact HG.out.2 i h
                                                                            · obtain rfl : i = j + 1 := by omega
                                                                              exact HX.out.2.2, grown_drewN HG.out.1 _⟩
          case measure => simp [intOf]; omega
        · have HX := Lib.hid (And.intro ha (And.intro hb (ext_bad hlt (by simp [exStepB, hp, hq, exOk, ha, hb, he]))))
          clear ha hb hp hq hv
          go_wp2_with fail
          go_quiet (first | (go_at_call 39; with_reducible exact Calls.quiet_of_same (in_same HX.out.1 _)) | (go_at_call 39; with_reducible exact Calls.quiet_of_same (in_same HX.out.2.1 _)))
          go_wp2
          go_ret
          exact ⟨retB HX.out.2.2.symm, grown_drewN HG.out.1 _⟩
    · obtain rfl : k = ps.length := by omega
      have HX := Lib.hid (And.intro hg (ext_end hall))
      clear hg hall
      go_wp2
      go_ret
      exact ⟨retB (by rw [HX.out.2]; simp; omega), HX.out.1⟩
theorem specExtValid_val {A : Option Addr} {n c : Nat} {ps : List Pr} {V : Bool} {w : World} (h : extB ps = V) (hl : ps.length = n) (hr : PRow w w.heap.size A ps) (hn : n ≤ 1048576) :
    Calls Try.prog 13 #[.slice A n c] w (KeptV (.bool V) w) := h ▸ specExtValid_any A n c ps w hl hr hn
/-- Extents in memory of their own are returned, and whether it is possible. -/
def PMade2 (xs : List Pr) (ok : Bool) (w : World) (e : Ending) (w' : World) : Prop := ∃ (A : Option Addr) (n c : Nat), e = .returned (.tuple #[.slice A n c, .bool ok]) ∧ xs.length = n ∧ POwn w' w.heap.size 27 (.slice A n c) xs ∧ w.grownBy w' none
/-- The extents of the first k numbers, of the call's own. -/
def ExSt (w : World) (A : Option Addr) (xs : List Int) (k : Nat) (u : Value) (wr : World) : Prop := POwn wr w.heap.size 27 u (exTo xs k) ∧ IRow wr w.heap.size A xs ∧ w.grownBy wr none
section
variable {w wr w' : World} {A : Option Addr} {xs : List Int} {k : Nat} {u : Value} {x : Int}
theorem ExSt.keep (H : ExSt w A xs k u wr) (h : wr.grownBy w' none) : ExSt w A xs k u w' := ⟨H.1.keep h, VRow.kept H.2.1 h, grown_trans H.2.2 h⟩
theorem ExSt.push (H : ExSt w A xs k u wr) (ha : exAdd (exTo xs k) x = exTo xs k ++ [⟨x, 1⟩]) (hx : xs[k]? = some x) (hk : (exTo xs k).length < 1048576) :
    ∃ u' w', (∀ ty, (Builtin.append_ #[23, 23] ty #[u, .slice (some ⟨wr.heap.size, 0, none⟩) 1 1]).run Try.prog (wr.alloc (.cells #[.int .i64 x, .int .i64 1] 27)) = .ok u' w') ∧ ExSt w A xs (k + 1) u' w' := by
  obtain ⟨u', w2, hrun, h2, hg2⟩ := push_extent (base := w.heap.size) x 1 H.1 H.2.2.size hk
  have K1 := grown_alloc (grown_refl wr none) (.cells #[.int .i64 x, .int .i64 1] 27)
  exact ⟨u', w2, hrun, by rw [exTo_step hx, ha]; exact h2, VRow.grown (VRow.kept H.2.1 K1) hg2 (fun g e => (POwn.lt H.1 g e).1), grown_joinR (grown_trans H.2.2 K1) hg2 (fun g e => (POwn.lt H.1 g e).1)⟩
/-- The last extent has one number more. -/
theorem ExSt.join {gu m cu : Nat} {l : Pr} (H : ExSt w A xs k (.slice (some ⟨gu, 0, none⟩) (m + 1) cu) wr) (hm : (exTo xs k).length = m + 1) (hl : (exTo xs k)[m]? = some l) (hj : joinB l x = true) (hx : xs[k]? = some x) :
    ExSt w A xs (k + 1) (.slice (some ⟨gu, 0, none⟩) (m + 1) cu) (wr.setCell ⟨gu, m * 2 + 1, none⟩ (.int .i64 (l.b + 1))) := by
  have hlt := POwn.lt H.1 gu rfl
  refine ⟨by rw [exTo_step hx, exAdd_join hm hl hj]; exact H.1.setB hm hl _, VRow.setCell H.2.1 (p := ⟨gu, m * 2 + 1, none⟩) hlt.1 _, grown_put H.2.2 (p := ⟨gu, m * 2 + 1, none⟩) hlt.1 _⟩
end
set_option maxHeartbeats 4000000 in
theorem specExtOf_any (A : Option Addr) (n c : Nat) (xs : List Int) (w : World) (hl : xs.length = n) (hr : IRow w w.heap.size A xs) (hn : n ≤ 1048576) (hx : ∀ x, x ∈ xs → -9223372036854775808 ≤ x ∧ x ≤ 9223372036854775807) :
    Calls Try.prog 17 #[.slice A n c] w (PMade2 (exOfV xs).1 (exOfV xs).2 w) := by
  have HR := Lib.hid (And.intro hl hx)
  have HS0 := Lib.hid (show ExSt w A xs 0 (.slice (some ⟨w.heap.size, 0, none⟩) 0 0) (w.alloc (.cells #[] 27)) from ⟨by rw [exTo_zero]; exact pown_lit0 w _ _ (Nat.le_refl _), VRow.alloc hr _, grown_alloc (grown_refl _ _) _⟩)
  clear hl hr hx
  go_enter Try.func17, Try.ntmps17
  go_wp2
  go_loopw [4, 5] (fun u i wr => ∃ k : Nat, k ≤ n ∧ i = .int .i64 k ∧ ExSt w A xs k u wr) (fun _ i _ => n - (intOf i).toNat)
  case atStart => exact ⟨0, Nat.zero_le _, rfl, HS0.out⟩
  case round =>
    rename World => wq
    obtain ⟨k, hk, rfl, hS⟩ := hrel
    have HS := Lib.hid hS
    have hi := exInv (xs := xs) k (by rw [HR.out.1]; exact hk)
    clear hS HS0
    by_cases hlt : k < n
    · obtain ⟨g, off, x, rfl, _, _, hxk, c0⟩ := HS.out.2.1.at_ (show k < xs.length by rw [HR.out.1]; exact hlt)
      have hk0 : decide ((0 : Int) ≤ k) = true := decide_eq_true (by omega)
      have hk1 : (k : Int) < n := by omega
      have hlen := hi.len
      rcases Nat.eq_zero_or_pos (exTo xs k).length with h0 | h0
      · have e0 := List.eq_nil_of_length_eq_zero h0
        obtain ⟨Au, cu, eu⟩ := HS.out.1.slice
        rw [h0] at eu
        subst eu
        go_wp2_with fail
        go_quiet (fail)
        generalize hwz : wq.drewN nq = wz
        have hkz : wq.grownBy wz none := by rw [← hwz]; exact grown_drewN (grown_refl _ _) _
        replace HS := Lib.hid (HS.out.keep hkz)
        clear hwz hkz
        obtain ⟨u', w2, hrun, hz⟩ := HS.out.push (by rw [e0]; exact exAdd_none) hxk (by omega)
        have HZ := Lib.hid hz
        have HRUN := Lib.hid hrun
        have c2 := (VRow.kept HS.out.2.1 (grown_refl _ _)) |> fun h => IRow.cellf h hxk
        clear hz hrun hxk hi
        go_wp2_with (at_builtin; refine wpList_append_run _ rfl (.tmp 54) (.tmp 60) _ _ rfl _ _ rfl rfl HRUN.out ?_)
        go_roundw
        case rel => exact ⟨k + 1, by omega, by go_num, HZ.out⟩
        case measure => simp [intOf]; omega
      · obtain ⟨m, hm⟩ : ∃ m, (exTo xs k).length = m + 1 := ⟨(exTo xs k).length - 1, by omega⟩
        obtain ⟨r, ⟨a, b⟩, hrl, hrm, hl⟩ := list_last hm
        rcases HS.out.1.form with ⟨_, e0⟩ | ⟨gu, cu, eu, hgu, _, _, _⟩
        · rw [e0] at h0; simp at h0
        rw [hm] at eu
        subst eu
        have hlp := hi.pos ⟨a, b⟩ (List.mem_of_getElem? hl)
        have hba := HR.out.2 a hlp.2.2
        have hjw := join_wrap (x := x) hba (show 0 ≤ b ∧ b ≤ 2000000 by have := hlp.1; have := hlp.2.1; dsimp only at *; omega)
        obtain ⟨d0, d1⟩ := HS.out.1.at_ hm hl
        dsimp only at d0 d1 hlp
        have hm0 : decide ((0 : Int) ≤ m) = true := decide_eq_true (by omega)
        have hm1 : (m : Int) < ((m + 1 : Nat) : Int) := by omega
        have hb1 : 1 ≤ b ∧ b ≤ 1048576 := ⟨hlp.1, by have := hlp.2.1; omega⟩
        have hJ := Lib.hid hjw
        clear hjw hlp hrl hrm hba
        cases hw : (x == wrap64 (a + b))
        · have hj : joinB ⟨a, b⟩ x = false := by rw [← hJ.out, hw]; rfl
          clear hJ
          go_wp2_with fail
          go_quiet (fail)
          generalize hwz : wq.drewN nq = wz
          have hkz : wq.grownBy wz none := by rw [← hwz]; exact grown_drewN (grown_refl _ _) _
          replace HS := Lib.hid (HS.out.keep hkz)
          clear hwz hkz
          obtain ⟨u', w2, hrun, hz⟩ := HS.out.push (exAdd_new hm hl hj) hxk (by omega)
          have HZ := Lib.hid hz
          have HRUN := Lib.hid hrun
          have c2 := (VRow.kept HS.out.2.1 (grown_refl _ _)) |> fun h => IRow.cellf h hxk
          clear hz hrun hxk hi
          go_wp2_with (at_builtin; refine wpList_append_run _ rfl (.tmp 54) (.tmp 60) _ _ rfl _ _ rfl rfl HRUN.out ?_)
          go_roundw
          case rel => exact ⟨k + 1, by omega, by go_num, HZ.out⟩
          case measure => simp [intOf]; omega
        · cases hin : inB x 0 1000040
          · have hj : joinB ⟨a, b⟩ x = false := by rw [← hJ.out, hw, hin]; rfl
            have HI := Lib.hid hin
            clear hJ hin
            go_wp2_with fail
            go_quiet ((go_at_call 39; exact Calls.quiet_of_same (in_same HI.out _)))
            generalize hwz : wq.drewN nq = wz
            have hkz : wq.grownBy wz none := by rw [← hwz]; exact grown_drewN (grown_refl _ _) _
            replace HS := Lib.hid (HS.out.keep hkz)
            clear hwz hkz
            obtain ⟨u', w2, hrun, hz⟩ := HS.out.push (exAdd_new hm hl hj) hxk (by omega)
            have HZ := Lib.hid hz
            have HRUN := Lib.hid hrun
            have c2 := (VRow.kept HS.out.2.1 (grown_refl _ _)) |> fun h => IRow.cellf h hxk
            clear hz hrun hxk hi
            go_wp2_with (at_builtin; refine wpList_append_run _ rfl (.tmp 54) (.tmp 60) _ _ rfl _ _ rfl rfl HRUN.out ?_)
            go_roundw
            case rel => exact ⟨k + 1, by omega, by go_num, HZ.out⟩
            case measure => simp [intOf]; omega
          · have hj : joinB ⟨a, b⟩ x = true := by rw [← hJ.out, hw, hin]; rfl
            have HI := Lib.hid hin
            clear hJ hin
            go_wp2_with fail
            go_quiet ((go_at_call 39; exact Calls.quiet_of_same (in_same HI.out _)))
            generalize hwz : wq.drewN nq = wz
            have hkz : wq.grownBy wz none := by rw [← hwz]; exact grown_drewN (grown_refl _ _) _
            replace HS := Lib.hid (HS.out.keep hkz)
            clear hwz hkz
            obtain ⟨d2, d3⟩ := HS.out.1.at_ hm hl
            have d4 := HS.out.1.frozen hm (m * 2 + 1)
            dsimp only at d2 d3
            have HZ := Lib.hid (HS.out.join hm hl hj hxk)
            clear hxk hi hl hm hj
            go_wp2
            go_roundw
            case rel => exact ⟨k + 1, by omega, by go_num, HZ.out⟩
            case measure => simp [intOf]; omega
    · obtain rfl : k = n := by omega
      obtain ⟨Au, cu, eu⟩ := HS.out.1.slice
      subst eu
      obtain ⟨X, r, hX⟩ : ∃ X r, exOfV xs = (X, r) := ⟨_, _, rfl⟩
      have hlen := hi.len
      clear hi
      cases hv : extB (exTo xs k)
      · have hXX : exOfV xs = ([], false) := by unfold exOfV; rw [HR.out.1, hv]; rfl
        have HX := Lib.hid hXX
        have HV := Lib.hid hv
        clear hv hX hXX
        go_wp2_with fail
        refine (specExtValid_val HV.out rfl HS.out.1.row (by omega)).mono ?_
        rintro e w2 ⟨rfl, hk2⟩
        have HG := Lib.hid (grown_alloc (grown_trans HS.out.2.2 hk2) (.cells #[] 27))
        have HL := Lib.hid (pown_lit0 w2 w.heap.size 27 (grown_trans HS.out.2.2 hk2).size)
        clear hk2
        go_wp2
        rw [HX.out]
        exact bodyPost_ret (v := .tuple #[.slice (some ⟨w2.heap.size, 0, none⟩) 0 0, .bool false]) (by simp [results, Try.results17, go_sem, *]) rfl ⟨_, _, _, rfl, rfl, HL.out, HG.out⟩
      · have hXX : exOfV xs = (exTo xs k, true) := by unfold exOfV; rw [HR.out.1, hv]; rfl
        have HX := Lib.hid hXX
        have HV := Lib.hid hv
        clear hv hX hXX
        go_wp2_with fail
        refine (specExtValid_val HV.out rfl HS.out.1.row (by omega)).mono ?_
        rintro e w2 ⟨rfl, hk2⟩
        have HG := Lib.hid (HS.out.keep hk2)
        clear hk2
        go_wp2
        rw [HX.out]
        exact bodyPost_ret (v := .tuple #[.slice Au (exTo xs k).length cu, .bool true]) (by simp [results, Try.results17, go_sem, *]) rfl ⟨_, _, _, rfl, rfl, HG.out.1, HG.out.2.2⟩
theorem exOne_take {p : Pr} {j : Nat} (h : j < p.b.toNat) : (exOne p).take (j + 1) = (exOne p).take j ++ [p.a + (j : Int)] := by
  rw [List.take_add_one, exOne_at h]
  rfl
theorem exNums_take {ps : List Pr} {k : Nat} {p : Pr} (h : ps[k]? = some p) : exNums (ps.take (k + 1)) = exNums (ps.take k) ++ exOne p := by
  rw [List.take_add_one, h, exNums_append]
  simp [exNums]
theorem exNums_take_le {ps : List Pr} (h : extB ps = true) (k : Nat) : (exNums (ps.take k)).length ≤ 320 := by
  have : exNums ps = exNums (ps.take k) ++ exNums (ps.drop k) := by rw [← exNums_append, List.take_append_drop]
  have h1 := exNums_le h
  have h2 := (ext_steps h).2
  rw [this, List.length_append] at h1
  omega
theorem specExtList_no (A : Option Addr) (n c : Nat) (ps : List Pr) (w : World) (hl : ps.length = n) (hr : PRow w w.heap.size A ps) (hn : n ≤ 1048576) (hv : extB ps = false) :
    Calls Try.prog 22 #[.slice A n c] w (IMade [] w) := by
  have hpos : 0 < n := by
    rcases Nat.eq_zero_or_pos n with rfl | h
    · rw [List.eq_nil_of_length_eq_zero hl] at hv
      simp [extB] at hv
    · exact h
  have HR := Lib.hid (And.intro hl (And.intro hr hv))
  have hp1 : (0 : Int) < (n : Int) := by omega
  clear hl hr hv
  go_enter Try.func22, Try.ntmps22
  go_wp2
  go_loopw [3, 4] (fun u i wr => i = .int .i64 0 ∧ u = .slice (some ⟨w.heap.size, 0, none⟩) 0 0 ∧ wr = w.alloc (.cells #[] 3)) (fun _ _ _ => 1)
  case atStart => exact ⟨rfl, rfl, rfl⟩
  case round =>
    obtain ⟨rfl, rfl, rfl⟩ := hrel
    go_wp2_with fail
    refine (specExtValid_val HR.out.2.2 HR.out.1 (HR.out.2.1.alloc _).here hn).mono ?_
    rintro e w2 ⟨rfl, hk⟩
    have HG := Lib.hid (And.intro (VOwn.keep (iown_lit0 w w.heap.size (Nat.le_refl _)) hk) (grown_trans (grown_alloc (grown_refl w none) (.cells #[] 3)) hk))
    clear hk
    go_wp2
    go_ret
    exact ⟨_, _, _, rfl, rfl, HG.out.1, HG.out.2⟩
set_option maxHeartbeats 1000000 in
theorem specExtList_yes (A : Option Addr) (n c : Nat) (ps : List Pr) (w : World) (hl : ps.length = n) (hr : PRow w w.heap.size A ps) (hn : n ≤ 1048576) (hv : extB ps = true) :
    Calls Try.prog 22 #[.slice A n c] w (IMade (exNums ps) w) := by
  have HR := Lib.hid (And.intro hl hv)
  have HS0 := Lib.hid (And.intro (iown_lit0 w w.heap.size (Nat.le_refl _)) (And.intro (hr.alloc (.cells #[] 3)) (grown_alloc (grown_refl w none) (.cells #[] 3))))
  clear hl hr hv
  go_enter Try.func22, Try.ntmps22
  go_wp2
  go_loopw [3, 4] (fun u i wr => ∃ k : Nat, k ≤ n ∧ i = .int .i64 k ∧ IOwn wr w.heap.size u (exNums (ps.take k)) ∧ PRow wr w.heap.size A ps ∧ w.grownBy wr none) (fun _ i _ => n - (intOf i).toNat)
  case atStart => exact ⟨0, Nat.zero_le _, rfl, HS0.out.1, HS0.out.2.1, HS0.out.2.2⟩
  case round =>
    rename World => wq
    obtain ⟨k, hk, rfl, ho, hrow, hg⟩ := hrel
    have HS := Lib.hid (And.intro ho (And.intro hrow hg))
    clear ho hrow hg HS0
    by_cases hlt : k < n
    · have hk0 : decide ((0 : Int) ≤ k) = true := decide_eq_true (by omega)
      have hk1 : (k : Int) < n := by omega
      go_wp2_with fail
      refine (specExtValid_val HR.out.2 HR.out.1 HS.out.2.1.here hn).mono ?_
      rintro e w2 ⟨rfl, hk2⟩
      replace HS := Lib.hid (And.intro (VOwn.keep HS.out.1 hk2) (And.intro (HS.out.2.1.kept hk2) (grown_trans HS.out.2.2 hk2)))
      obtain ⟨g, off, rfl, _⟩ := HS.out.2.1.pos (by rw [HR.out.1]; omega)
      obtain ⟨⟨a, b⟩, hp⟩ : ∃ p, ps[k]? = some p := ⟨_, List.getElem?_eq_getElem (by rw [HR.out.1]; exact hlt)⟩
      have hb := ext_ok HR.out.2 hp
      dsimp only at hb
      obtain ⟨bn, rfl⟩ := Int.eq_ofNat_of_zero_le (show 0 ≤ b by omega)
      have HP := Lib.hid hp
      have hbn : bn ≤ 40 := by omega
      clear hk2 hp
      go_wp2
      go_loopw [3, 5] (fun u i wr => ∃ j : Nat, j ≤ bn ∧ i = .int .i64 j ∧ IOwn wr w.heap.size u (exNums (ps.take k) ++ (exOne ⟨a, (bn : Int)⟩).take j) ∧ PRow wr w.heap.size (some ⟨g, off, none⟩) ps ∧ w.grownBy wr none) (fun _ i _ => bn - (intOf i).toNat)
      case atStart => exact ⟨0, Nat.zero_le _, rfl, by rw [List.take_zero, List.append_nil]; exact HS.out.1, HS.out.2.1, HS.out.2.2⟩
      case round =>
        rename World => wz
        obtain ⟨j, hj, rfl, ho, hrow, hg⟩ := hrel
        clear HS
        have HS := Lib.hid (And.intro ho (And.intro hrow hg))
        obtain ⟨c0, c1⟩ := hrow.cellf HP.out
        dsimp only at c0 c1
        by_cases hjb : j < bn
        · have hjb1 : (j : Int) < (bn : Int) := by omega
          have hlen : (exNums (ps.take k) ++ (exOne ⟨a, (bn : Int)⟩).take j).length ≤ 1000000 := by
            have h1 := exNums_take_le HR.out.2 k
            rw [List.length_append, List.length_take, exOne_length]
            omega
          obtain ⟨u', w3, hrun, hi3, hg3⟩ := push_int (wr := w) (a + (j : Int)) ho hg.size hlen
          have K1 := grown_alloc (grown_refl wz none) (.cells #[.int .i64 (a + (j : Int))] 3)
          rw [List.append_assoc, ← exOne_take (p := ⟨a, (bn : Int)⟩) (by simpa using hjb)] at hi3
          have HZ := Lib.hid (And.intro hi3 (And.intro (PRow.grown (hrow.kept K1) hg3 (fun g e => (VOwn.lt ho g e).1)) (grown_joinR (grown_trans hg K1) hg3 (fun g e => (VOwn.lt ho g e).1))))
          have HRUN := Lib.hid hrun
          clear ho hrow hg hlen hrun hi3 hg3 K1
          go_wp2_with (at_builtin; refine wpList_append_run _ rfl (.tmp 26) (.tmp 34) _ _ rfl _ _ rfl rfl HRUN.out ?_)
          go_roundw
          case rel => exact ⟨j + 1, by omega, by go_num, HZ.out.1, HZ.out.2.1, HZ.out.2.2⟩
          case measure => simp [intOf]; omega
        · obtain rfl : j = bn := by omega
          have e1 : exNums (ps.take k) ++ (exOne ⟨a, (j : Int)⟩).take j = exNums (ps.take (k + 1)) := by
            rw [exNums_take HP.out, List.take_of_length_le (l := exOne ⟨a, (j : Int)⟩) (by rw [exOne_length]; simp)]
          rw [e1] at ho
          have HZ := Lib.hid (And.intro ho (And.intro hrow hg))
          clear ho hrow hg e1
          go_wp2
          go_roundw
          case rel => exact ⟨k + 1, by omega, by go_num, HZ.out.1, HZ.out.2.1, HZ.out.2.2⟩
          case measure => simp [intOf]; omega
    · obtain rfl : k = n := by omega
      have e0 : ps.take k = ps := List.take_of_length_le (by rw [HR.out.1]; exact Nat.le_refl _)
      have ho := HS.out.1
      rw [e0] at ho
      obtain ⟨Au, cu, rfl⟩ := IOwn.slice ho
      have HO := Lib.hid ho
      clear ho e0
      go_wp2
      go_ret
      exact ⟨_, _, _, rfl, rfl, HO.out, HS.out.2.2⟩
theorem specExtList_any (A : Option Addr) (n c : Nat) (ps : List Pr) (w : World) (hl : ps.length = n) (hr : PRow w w.heap.size A ps) (hn : n ≤ 1048576) :
    Calls Try.prog 22 #[.slice A n c] w (IMade (exListV ps) w) := by
  unfold exListV
  cases hv : extB ps
  · exact specExtList_no A n c ps w hl hr hn hv
  · exact specExtList_yes A n c ps w hl hr hn hv
theorem exAt_no {ps : List Pr} {n : Int} (h : extB ps = false) : exAtV ps n = -1 := by simp [exAtV, h]
theorem exAt_neg {ps : List Pr} {n : Int} (h : n < 0) : exAtV ps n = -1 := by
  have : decide (0 ≤ n) = false := decide_eq_false (by omega)
  simp [exAtV, this]
theorem exAt_yes {ps : List Pr} {n : Nat} (h : extB ps = true) : exAtV ps (n : Int) = ((exNums ps)[n]?).getD (-1) := by simp [exAtV, h]
theorem specExtAt_any (A : Option Addr) (n c : Nat) (ps : List Pr) (x : Int) (w : World) (hl : ps.length = n) (hr : PRow w w.heap.size A ps) (hn : n ≤ 1048576) (hx64 : x ≤ 9223372036854775807) :
    Calls Try.prog 25 #[.slice A n c, .int .i64 x] w (KeptV (.int .i64 (exAtV ps x)) w) := by
  have HR := Lib.hid (And.intro hl hr)
  clear hl hr
  cases hv : extB ps
  · have HV := Lib.hid (And.intro hv (exAt_no (n := x) hv))
    clear hv
    go_enter Try.func25, Try.ntmps25
    go_wp2_with fail
    refine (specExtValid_val HV.out.1 HR.out.1 HR.out.2.here hn).mono ?_
    rintro e w2 ⟨rfl, hk⟩
    have HG := Lib.hid hk
    clear hk
    go_wp2
    go_ret
    exact ⟨retI HV.out.2.symm, HG.out⟩
  by_cases hx : x < 0
  · have HV := Lib.hid (And.intro hv (exAt_neg (ps := ps) hx))
    clear hv
    have hx1 : decide (x < 0) = true := decide_eq_true hx
    go_enter Try.func25, Try.ntmps25
    go_wp2_with fail
    refine (specExtValid_val HV.out.1 HR.out.1 HR.out.2.here hn).mono ?_
    rintro e w2 ⟨rfl, hk⟩
    have HG := Lib.hid hk
    clear hk
    go_wp2
    go_ret
    exact ⟨retI HV.out.2.symm, HG.out⟩
  obtain ⟨N, rfl⟩ := Int.eq_ofNat_of_zero_le (show 0 ≤ x by omega)
  have hx1 : decide ((N : Int) < 0) = false := decide_eq_false hx
  have HV := Lib.hid (And.intro hv (exAt_yes (n := N) hv))
  clear hv hx
  go_enter Try.func25, Try.ntmps25
  go_wp2_with fail
  refine (specExtValid_val HV.out.1 HR.out.1 HR.out.2.here hn).mono ?_
  rintro e w2 ⟨rfl, hk⟩
  have HG := Lib.hid (And.intro (HR.out.2.kept hk) hk)
  clear hk
  go_wp2
  go_loopw [1, 5] (fun m i wr => ∃ k M : Nat, k ≤ n ∧ i = .int .i64 k ∧ m = .int .i64 M ∧ M ≤ N ∧ (exNums ps)[N]? = (exNums (ps.drop k))[M]? ∧ wr = w2) (fun _ i _ => n - (intOf i).toNat)
  case atStart => exact ⟨0, N, Nat.zero_le _, rfl, rfl, Nat.le_refl _, rfl, rfl⟩
  case round =>
    rename World => wq
    obtain ⟨k, M, hk, rfl, rfl, hMN, hnum, rfl⟩ := hrel
    by_cases hlt : k < n
    · have hk0 : decide ((0 : Int) ≤ k) = true := decide_eq_true (by omega)
      have hk1 : (k : Int) < n := by omega
      obtain ⟨g, off, rfl, _⟩ := HG.out.1.pos (by rw [HR.out.1]; omega)
      obtain ⟨⟨a, b⟩, hp⟩ : ∃ p, ps[k]? = some p := ⟨_, List.getElem?_eq_getElem (by rw [HR.out.1]; exact hlt)⟩
      have hb := ext_ok HV.out.1 hp
      dsimp only at hb
      obtain ⟨c0, c1⟩ := HG.out.1.cellf hp
      dsimp only at c0 c1
      have hd : ps.drop k = ⟨a, b⟩ :: ps.drop (k + 1) := by
        obtain ⟨h1, h2⟩ := List.getElem?_eq_some_iff.1 hp
        rw [← h2]
        exact List.drop_eq_getElem_cons h1
      rw [hd] at hnum
      by_cases hm : (M : Int) < b
      · have hm1 : decide ((M : Int) < b) = true := decide_eq_true hm
        rw [exAt_here hm] at hnum
        have HZ := Lib.hid hnum
        clear hnum hp hd
        go_wp2
        go_ret
        exact ⟨retI (by rw [HV.out.2, HZ.out]; rfl), HG.out.2⟩
      · have hm1 : decide ((M : Int) < b) = false := decide_eq_false hm
        rw [exAt_next hm (by dsimp only; omega)] at hnum
        dsimp only at hnum
        have e1 : (M : Int) - b = ((M - b.toNat : Nat) : Int) := by omega
        have HZ := Lib.hid (And.intro hnum e1)
        clear hnum hp hd e1
        go_wp2
        go_roundw
        case rel => exact ⟨k + 1, M - b.toNat, by omega, by go_num, by rw [HZ.out.2], by omega, HZ.out.1, by trivial⟩
        case measure => simp [intOf]; omega
    · obtain rfl : k = n := by omega
      rw [List.drop_of_length_le (by rw [HR.out.1]; exact Nat.le_refl _)] at hnum
      have HZ := Lib.hid hnum
      clear hnum
      go_wp2
      go_ret
      exact ⟨retI (by rw [HV.out.2, HZ.out]; simp [exNums]), HG.out.2⟩
end Go.Proofs.Ytpfmjagbnfcocaa
