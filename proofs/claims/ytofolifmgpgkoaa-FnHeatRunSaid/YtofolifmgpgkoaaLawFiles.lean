/- What the exact laws of chapter 8 carry along: numbers of the call's own; a table cut short. -/
import Derived.Test.YtofolifmgpgkoaaLawTabs
import Derived.Test.YtofolifmgpgkoaaFiles5
namespace Go.Proofs.Ytofolifmgpgkoaa
open Go.ChangeShapes Go.WideShapes Go.ChangeAt Go.RowKit Go.Deep
set_option linter.unusedVariables false

/-- Numbers of the call's own: all their memory lies in blocks lo .. hi - 1. -/
def VN (w : World) (A : Option Addr) (n c : Nat) (xs : List Int) (lo hi : Nat) (wr : World) : Prop :=
  IOwn wr lo (.slice A n c) xs ∧ xs.length = n ∧ (∀ a, A = some a → a.block < hi) ∧ hi ≤ wr.heap.size ∧ w.heap.size ≤ lo ∧ w.grownBy wr none
section
variable {w wr w' : World} {A : Option Addr} {n c lo hi lox hix : Nat} {xs : List Int}
theorem VN.keep (h : VN w A n c xs lo hi wr) (k : wr.grownBy w' none) : VN w A n c xs lo hi w' := ⟨VOwn.keep h.1 k, h.2.1, h.2.2.1, Nat.le_trans h.2.2.2.1 k.size, h.2.2.2.2.1, grown_trans h.2.2.2.2.2 k⟩
theorem VN.row (h : VN w A n c xs lo hi wr) : IRow wr wr.heap.size A xs := VOwn.row h.1
theorem VN.made (hG : w.grownBy wr none) (hl : xs.length = n) (ho : IOwn w' wr.heap.size (.slice A n c) xs) (hk : wr.grownBy w' none) : VN w A n c xs wr.heap.size w'.heap.size w' :=
  ⟨ho, hl, fun a e => (VOwn.lt ho a.block (by subst e; rfl)).2, Nat.le_refl _, hG.size, grown_trans hG hk⟩
theorem VN.at_ (h : VN w A n c xs lo hi wr) {g : Nat} (e : (Value.slice A n c).ownBlock = some g) : lo ≤ g ∧ g < hi := by
  refine ⟨(VOwn.lt h.1 g e).1, ?_⟩
  cases hA : A with
  | none => rw [hA] at e; simp [Value.ownBlock] at e
  | some a =>
    have := h.2.2.1 a hA
    rw [hA] at e
    simp only [Value.ownBlock, Option.some.injEq] at e
    omega
theorem VN.marked (h : VN w A n c xs lo hi wr) (hd : hi ≤ lox ∨ hix ≤ lo) (hlo : w.heap.size ≤ lox) (k : Out lox hix wr w') : VN w A n c xs lo hi w' :=
  ⟨ownsRow_out h.1 k fun g e => by have := h.at_ e; omega, h.2.1, h.2.2.1, Nat.le_trans h.2.2.2.1 k.size, h.2.2.2.2.1, k.grown h.2.2.2.2.2 hlo⟩
theorem VN.self (h : VN w A n c xs lo hi wr) (ho : IOwn w' lo (.slice A n c) (imarks 1 n)) (k : Out lo hi wr w') : VN w A n c (imarks 1 n) lo hi w' :=
  ⟨ho, imarks_length 1 n, h.2.2.1, Nat.le_trans h.2.2.2.1 k.size, h.2.2.2.2.1, k.grown h.2.2.2.2.2 h.2.2.2.2.1⟩
end
/-- So many numbers, in memory of their own. -/
def IMadeN (xs : List Int) (m : Nat) (w : World) (e : Ending) (w' : World) : Prop := ∃ (A : Option Addr) (c : Nat), e = .returned (.slice A m c) ∧ xs.length = m ∧ IOwn w' w.heap.size (.slice A m c) xs ∧ w.grownBy w' none
theorem IMade.to {xs : List Int} {m : Nat} {w w' : World} {e : Ending} (h : IMade xs w e w') (hl : xs.length = m) : IMadeN xs m w e w' := by
  obtain ⟨A, n, c, h1, h2, h3⟩ := h
  obtain rfl : n = m := by rw [← h2, ← hl]
  exact ⟨A, c, h1, h2, h3⟩
/-- So many numbers, in memory of their own, and whether it is possible. -/
def IMadeN2 (xs : List Int) (m : Nat) (r : Bool) (w : World) (e : Ending) (w' : World) : Prop := ∃ (A : Option Addr) (c : Nat), e = .returned (.tuple #[.slice A m c, .bool r]) ∧ xs.length = m ∧ IOwn w' w.heap.size (.slice A m c) xs ∧ w.grownBy w' none
theorem IMade2.to {xs : List Int} {m : Nat} {r : Bool} {w w' : World} {e : Ending} (h : IMade2 xs r w e w') (hl : xs.length = m) : IMadeN2 xs m r w e w' := by
  obtain ⟨A, n, c, h1, h2, h3⟩ := h
  obtain rfl : n = m := by rw [← h2, ← hl]
  exact ⟨A, c, h1, h2, h3⟩
theorem TabMade3.to {xss : List (List Int)} {n : Nat} {w w' : World} {e : Ending} (h : TabMade3 xss w e w') (hl : xss.length = n) : TabMade xss n w e w' := by
  obtain ⟨m, A, c, cs, h1, h2, h3, h4⟩ := h
  obtain rfl : m = n := by rw [← h2, ← hl, ← h3, ll_length]
  exact ⟨A, c, cs, h1, h2, h3, h4⟩
theorem cutL_len {xs : List Int} {p : Nat} (h : xs.length = 6) (hp : p ≤ 6) : (cutL xs p).length = 6 := by simp [cutL, h]; omega
theorem cut_is (xss : List (List Int)) (f p : Int) : ∃ (n1 : Nat) (l1 : List (List Int)), cutV xss f p = l1 ∧ l1.length = n1 ∧ n1 ≤ 1048576 ∧ ltot l1 ≤ 1048576 := by
  refine ⟨_, cutV xss f p, rfl, rfl, ?_⟩
  cases h : cutB xss f p
  · rw [cut_no h]; simp [ltot]
  · simp only [cutB, Bool.and_eq_true] at h
    obtain ⟨⟨hv, hf⟩, hp⟩ := h
    have hT := (tabB_iff _).1 hv
    obtain ⟨fn, rfl, hfn⟩ := inB_nat (m := 7) hf
    obtain ⟨pn, rfl, hpn⟩ := inB_nat (m := 6) hp
    have h8 := hT.len
    have hx := List.getElem?_eq_getElem (l := xss) (i := fn) (by omega)
    rw [cut_at (cut_yes hv hf hp) hx]
    refine ⟨by rw [List.length_set]; omega, ltot_few (m := 8) (by rw [List.length_set]; exact h8) (by omega) fun xs hm => ?_⟩
    rcases List.mem_or_eq_of_mem_set hm with hm | rfl
    · exact hT.six xs hm
    · exact cutL_len (hT.six _ (List.getElem_mem _)) hpn
theorem holes_is (xss : List (List Int)) (f : Int) : ∃ (n1 : Nat) (l1 : List Int), holesV xss f = l1 ∧ l1.length = n1 ∧ n1 ≤ 1048576 := by
  refine ⟨_, holesV xss f, rfl, rfl, ?_⟩
  unfold holesV
  split
  · have := holesTo_le (xss.getD f.toNat []) (szAt (xss.getD f.toNat []) 6)
    have := szAt_le (xss.getD f.toNat []) 6
    omega
  · simp
theorem vals_is (bs : List Bk) (xss : List (List Int)) (f : Int) : ∃ (n1 : Nat) (l1 : List Int) (r : Bool), fvalV bs xss f = (l1, r) ∧ l1.length = n1 ∧ n1 ≤ 1048576 := by
  refine ⟨_, (fvalV bs xss f).1, (fvalV bs xss f).2, rfl, rfl, ?_⟩
  unfold fvalV
  split
  · split
    · rename_i l h
      have := vals_len h
      have := szAt_le (xss.getD f.toNat []) 6
      dsimp only
      omega
    · simp
  · simp
section
variable {w : World} {A : Option Addr} {n c n1 : Nat} {ls : List Li} {f p : Int} {l1 : List (List Int)} {x1 : List Int}
/-- FileValues reads of a device what the pages are, not where they lie. -/
theorem readV_is {bs cs : List Bk} (h : cs.map Bk.is = bs.map Bk.is) (a : Int) : readV cs a = readV bs a := by simp only [readV, devB_is h, page_is h]
theorem valsTo_is {bs cs : List Bk} (h : cs.map Bk.is = bs.map Bk.is) (xs : List Int) (g : Int) (k : Nat) : valsTo cs xs g k = valsTo bs xs g k := by
  induction k with
  | zero => rfl
  | succ k ih => simp only [valsTo, ih, readV_is h]
theorem fvalV_is {bs cs : List Bk} (h : cs.map Bk.is = bs.map Bk.is) (xss : List (List Int)) (g : Int) : fvalV cs xss g = fvalV bs xss g := by simp only [fvalV, devB_is h, valsTo_is h]
end
end Go.Proofs.Ytofolifmgpgkoaa
