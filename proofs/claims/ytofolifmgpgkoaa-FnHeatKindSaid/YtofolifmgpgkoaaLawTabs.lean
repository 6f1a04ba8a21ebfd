/- What the exact laws of chapter 7 carry along: a table that came in, tables in variables of the call's own.
   What the exact law of TableOf carries along: tables and devices side by side. -/
import Derived.Test.YtofolifmgpgkoaaExactInts
import Derived.Test.YtofolifmgpgkoaaTables7
import Derived.Test.YtofolifmgpgkoaaExactDev3
namespace Go.Proofs.Ytofolifmgpgkoaa
open Go.ChangeShapes Go.WideShapes Go.ChangeAt Go.RowKit Go.Deep
set_option linter.unusedVariables false

theorem addr_add_zero (a : Addr) : a.add 0 = a := by unfold Addr.add; split <;> simp_all
theorem list1 {α : Type} {l : List α} (h : l.length = 1) : ∃ a, l = [a] := by
  match l, h with
  | [a], _ => exact ⟨a, rfl⟩
theorem all_some {α : Type} {Q : Nat → α → Prop} (n : Nat) (h : ∀ i, i < n → ∃ p, Q i p) : ∃ ps : List α, ps.length = n ∧ ∀ i p, ps[i]? = some p → Q i p := by
  induction n with
  | zero => exact ⟨[], rfl, fun i p hp => by simp at hp⟩
  | succ n ih =>
    obtain ⟨ps, hl, hq⟩ := ih fun i hi => h i (by omega)
    obtain ⟨p, hp⟩ := h n (by omega)
    refine ⟨ps ++ [p], by simp [hl], fun i q hi => ?_⟩
    rcases Nat.lt_trichotomy i n with h1 | h1 | h1
    · rw [List.getElem?_append_left (by omega)] at hi
      exact hq i q hi
    · subst h1
      rw [List.getElem?_append_right (by omega), hl, Nat.sub_self] at hi
      simp at hi
      rw [← hi]; exact hp
    · rw [List.getElem?_eq_none (by simp; omega)] at hi
      cases hi
section
variable {H : Type} {enc : TypeId × Value → H} {w : World} {base : Nat} {spare : Nat → Bool} {held : Bool}
/-- What a walk is told of a slice of numbers that came in. -/
def IsInts (w : World) (A : Option Addr) (n c : Nat) (xs : List Int) : Prop := xs.length = n ∧ n ≤ c ∧ c ≤ maxLen ∧ IRow w w.heap.size A xs
set_option maxRecDepth 100000 in
theorem open_intsT {fuel : Nat} {v : Value} {x : DataW H × List MemPlace} (h : DataW.trod enc Try.prog w base spare held fuel 30 [v] = some x) :
    ∃ A n c xs, v = .slice A n c ∧ IsInts w A n c xs := by
  rcases open_slice Try.underlying30 h with ⟨h0, _⟩ | ⟨a, len, cap, m, n, D, Pl, hcs, hb, hl, hm, hmm, hx, hi⟩
  · injection h0 with h0
    exact ⟨none, 0, 0, [], h0, rfl, Nat.le_refl _, Nat.zero_le _, VRow.nil⟩
  · injection hcs with hcs
    have hmn : len ≤ m := by rw [hmm]; split <;> omega
    have k1 : Try.prog.cellsOf 3 = 1 := by kernel_rfl
    have hp : ∀ i, i < len → ∃ x : Int, w.cell? (a.add (i * 1)) = some (.int .i64 x) := by
      intro i hil
      obtain ⟨cs', hc, ht'⟩ := hi i (by omega)
      rw [k1] at hc
      obtain ⟨_, hcl, hat⟩ := World.cells?_some hc
      have hat0 := hat 0 (by omega)
      obtain ⟨u, rfl⟩ := list1 hcl
      obtain ⟨y, hy, _⟩ := DataW.trod_int Try.underlying3 ht'
      injection hy with hy
      subst hy
      exact ⟨y, by simpa [addr_add_zero] using hat0⟩
    obtain ⟨xs, hbl, hq⟩ := all_some len hp
    refine ⟨some a, len, cap, xs, hcs, hbl, hl, hm, fun hn => ?_⟩
    rw [iv_length] at hn
    obtain ⟨g, off, spot⟩ := a
    have h0 := (hp 0 (by omega)).choose_spec
    have hspot : spot = none := by simpa [Addr.add] using World.cell?_spot h0
    subst hspot
    refine ⟨g, off, rfl, ?_, ?_, fun i u hu => ?_⟩
    · exact World.block_lt_of_cell? w ⟨g, off, none⟩ (by simpa [Addr.add] using h0)
    · exact World.block_lt_of_cell? w ⟨g, off, none⟩ (by simpa [Addr.add] using h0)
    · obtain ⟨y, hy, rfl⟩ := iv_get hu
      have := hq i y hy
      simpa [Go.WideShapes.add_plain] using this
end
section
variable {w wr w' : World} {A Ax : Option Addr} {V Vx n c nx cx lo hi lox hix : Nat} {ls cs : List Li}
theorem Blk.outV {t : TypeId} {cc : Array Value} (h : Blk wr V t cc) (k : Out lox hix wr w') (hd : V < lox ∨ hix ≤ V) : Blk w' V t cc := (k.block V h.lt hd).trans h
theorem tabB_ll (h : ll cs = ll ls) : tabB (ll cs) = tabB (ll ls) := by rw [h]
end
theorem IsLists.alloc {w : World} {A : Option Addr} {n c : Nat} {ls : List Li} (h : IsLists w A n c ls) (o : Obj) : IsLists (w.alloc o) A n c ls := ⟨h.1, h.2.1, h.2.2.1, (h.2.2.2.1.alloc o).here, h.2.2.2.2⟩
theorem IsLists.keep {w w' : World} {A : Option Addr} {n c : Nat} {ls : List Li} (h : IsLists w A n c ls) (k : w.grownBy w' none) : IsLists w' A n c ls := ⟨h.1, h.2.1, h.2.2.1, (h.2.2.2.1.kept k).here, h.2.2.2.2⟩
/-- What TablePut answers, by letters. -/
def TPutIs (xss : List (List Int)) (f k x : Int) (l1 : List (List Int)) (r : Bool) : Prop := tputV xss f k x = (l1, r)
theorem tset_len {xss : List (List Int)} {f k : Nat} {x : Int} : (tset xss f k x).length = xss.length := by simp [tset]
theorem ltot_set {xss : List (List Int)} {f k : Nat} {x : Int} : ltot (tset xss f k x) = ltot xss := by
  unfold tset ltot
  rcases Nat.lt_or_ge f xss.length with h | h
  · rw [List.map_set]
    have e : (xss.getD f []).length = (xss.map List.length)[f]'(by simpa using h) := by simp [List.getD_eq_getElem?_getD, h]
    rw [List.length_set, e, List.set_getElem_self]
  · rw [List.set_eq_of_length_le h]
theorem tput_is (xss : List (List Int)) (f k x : Int) : ∃ (n1 : Nat) (l1 : List (List Int)) (r : Bool), TPutIs xss f k x l1 r ∧ l1.length = n1 ∧ n1 ≤ 1048576 ∧ ltot l1 ≤ 1048576 := by
  refine ⟨(tputV xss f k x).1.length, (tputV xss f k x).1, (tputV xss f k x).2, rfl, rfl, ?_⟩
  unfold tputV
  split
  · rename_i h
    simp only [Bool.and_eq_true, argB] at h
    have hv := h.1.1.1
    have hT := (tabB_iff _).1 hv
    have h48 := ltot_tab hv
    split
    · dsimp only
      rw [tset_len, ltot_set, hT.len]
      omega
    · dsimp only
      rw [hT.len]
      omega
  · simp [ltot]
theorem TPutIs.of {xss yss : List (List Int)} {f k x : Int} {l1 : List (List Int)} {r : Bool} (h : TPutIs xss f k x l1 r) (e : yss = xss) : TPutIs yss f k x l1 r := e ▸ h
/-- A table of so many lists, in memory of its own, and whether it is possible. -/
def TabMadeN (xss : List (List Int)) (n : Nat) (r : Bool) (w : World) (e : Ending) (w' : World) : Prop :=
  ∃ (A : Option Addr) (c : Nat) (cs : List Li), e = .returned (.tuple #[.agg #[.slice A n c], .bool r]) ∧ cs.length = n ∧ ll cs = xss ∧ TOwn w' w.heap.size (.slice A n c) cs ∧ w.grownBy w' none
theorem TabMade2.to {xss : List (List Int)} {n : Nat} {r : Bool} {w w' : World} {e : Ending} (h : TabMade2 xss r w e w') (hl : xss.length = n) : TabMadeN xss n r w e w' := by
  obtain ⟨A, m, c, cs, h1, h2, h3, h4⟩ := h
  obtain rfl : m = n := by rw [← h2, ← hl, ← h3, ll_length]
  exact ⟨A, c, cs, h1, h2, h3, h4⟩
section
variable {w : World} {A A' : Option Addr} {n c n' c' n1 : Nat} {ls ls' : List Li} {f k x : Int} {l1 : List (List Int)} {r : Bool} {V : Int}
/-- What holds of a list of tables holds of its copies. -/
theorem small_cp (h : ll ls' = ll ls) (hp : ltot (ll ls) ≤ 1048576) : ∀ l, l ∈ ls' → l.xs.length ≤ 1048576 := small_ll (by rw [h]; exact hp)
end
end Go.Proofs.Ytofolifmgpgkoaa
namespace Go.Proofs.Ytofolifmgpgkoaa
open Go.ChangeShapes Go.WideShapes Go.ChangeAt Go.RowKit

theorem ltot_few {l : List (List Int)} {m : Nat} (hl : l.length = m) (hm : m ≤ 8) (h6 : ∀ xs, xs ∈ l → xs.length = 6) : ltot l ≤ 1048576 := by
  have : ∀ l : List (List Int), (∀ xs, xs ∈ l → xs.length = 6) → ltot l = 6 * l.length := by
    intro l hl
    induction l with
    | nil => rfl
    | cons p r ih =>
      have h1 := ih fun xs hx => hl xs (by simp [hx])
      have h2 := hl p (by simp)
      simp only [ltot, List.map_cons, List.sum_cons, List.length_cons] at h1 ⊢
      omega
  rw [this l h6, hl]
  omega
end Go.Proofs.Ytofolifmgpgkoaa
