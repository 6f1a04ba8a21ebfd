/- What the exact laws of chapter 8 carry along: numbers of the call's own; a table cut short. -/
import Derived.Test.YteniikfgellhfaaLawTabs
import Derived.Test.YteniikfgellhfaaFiles5
namespace Go.Proofs.Yteniikfgellhfaa
open Go.ChangeShapes Go.WideShapes Go.ChangeAt Go.RowKit Go.Deep
set_option linter.unusedVariables false

/-- Numbers of the call's own: all their memory lies in blocks lo .. hi - 1. -/
def VN (w : World) (A : Option Addr) (n c : Nat) (xs : List Int) (lo hi : Nat) (wr : World) : Prop :=
  IOwn wr lo (.slice A n c) xs ∧ xs.length = n ∧ (∀ a, A = some a → a.block < hi) ∧ hi ≤ wr.heap.size ∧ w.heap.size ≤ lo ∧ w.grownBy wr none
section
variable {w wr w' : World} {A : Option Addr} {n c lo hi lox hix : Nat} {xs : List Int}
theorem VN.keep (h : VN w A n c xs lo hi wr) (k : wr.grownBy w' none) : VN w A n c xs lo hi w' := ⟨VOwn.keep h.1 k, h.2.1, h.2.2.1, Nat.le_trans h.2.2.2.1 k.size, h.2.2.2.2.1, grown_trans h.2.2.2.2.2 k⟩
theorem VN.row (h : VN w A n c xs lo hi wr) : IRow wr wr.heap.size A xs := VOwn.row h.1
theorem VN.made (hG : w.grownBy wr none) (hl : xs.length = n) (ho : IOwn w' wr.heap.size (.slice A n c) xs) (hk : wr.grownBy w' none) : VN w A n c xs wr.heap.size w'.heap.size w' :=
  ⟨ho, hl, fun a e => (VOwn.lt ho a.block (by subst e; rfl)).2, Nat.le_refl _, hG.size, grown_trans hG hk⟩
theorem VN.at_ (h : VN w A n c xs lo hi wr) {g : Nat} (e : (Value.slice A n c).ownBlock = some g) : lo ≤ g ∧ g < hi := by
  refine ⟨(VOwn.lt h.1 g e).1, ?_⟩
  cases hA : A with
  | none => rw [hA] at e; simp [Value.ownBlock] at e
  | some a =>
    have := h.2.2.1 a hA
    rw [hA] at e
    simp only [Value.ownBlock, Option.some.injEq] at e
    omega
theorem VN.marked (h : VN w A n c xs lo hi wr) (hd : hi ≤ lox ∨ hix ≤ lo) (hlo : w.heap.size ≤ lox) (k : Out lox hix wr w') : VN w A n c xs lo hi w' :=
  ⟨ownsRow_out h.1 k fun g e => by have := h.at_ e; omega, h.2.1, h.2.2.1, Nat.le_trans h.2.2.2.1 k.size, h.2.2.2.2.1, k.grown h.2.2.2.2.2 hlo⟩
theorem VN.self (h : VN w A n c xs lo hi wr) (ho : IOwn w' lo (.slice A n c) (imarks 1 n)) (k : Out lo hi wr w') : VN w A n c (imarks 1 n) lo hi w' :=
  ⟨ho, imarks_length 1 n, h.2.2.1, Nat.le_trans h.2.2.2.1 k.size, h.2.2.2.2.1, k.grown h.2.2.2.2.2 h.2.2.2.2.1⟩
/-- The mark of numbers, its number told by an equation. -/
theorem markInts_val {v : Int} (hv : v = ((1 + n : Nat) : Int)) (h : VN w A n c xs lo hi wr) (hn : n ≤ 1048576) :
    Calls Try.prog 38 #[.slice A n c, .int .i64 1] wr fun e w' => e = .returned (.int .i64 v) ∧ IOwn w' lo (.slice A n c) (imarks 1 n) ∧ Out lo hi wr w' := by
  subst hv
  refine (markInts_any A n c 1 lo xs wr h.2.1 h.1 hn (by omega)).mono ?_
  rintro e w' ⟨rfl, ho, hk⟩
  exact ⟨rfl, ho, hk.os, hk.tape, hk.output, hk.size, fun i hi1 h2 => hk.block i hi1 (by intro e; have := h.at_ e.symm; omega)⟩
theorem heldInts_val {v : Int} (hv : v = ((1 + n : Nat) : Int)) (h : VN w A n c (imarks 1 n) lo hi wr) (hn : n ≤ 1048576) :
    Calls Try.prog 39 #[.slice A n c, .int .i64 1] wr (KeptV (.int .i64 v) wr) := by
  subst hv
  refine (heldInts_any A n c 1 wr h.row hn (by omega)).mono ?_
  rintro e w' ⟨rfl, rfl⟩
  exact ⟨rfl, grown_refl _ _⟩
end
/-- A table is marked from a number on. -/
theorem markTable_from {w wr : World} {V n c lo hi K : Nat} {A : Option Addr} {ls : List Li} (hK : K ≤ 7000000) (h : VT w V A n c ls lo hi wr) (hn : n ≤ 1048576) (ht : ltot (ll ls) ≤ 1048576) :
    Calls Try.prog 43 #[.agg #[.slice A n c], .int .i64 (K : Int)] wr fun e w' => ∃ v : Int, e = .returned (.int .i64 v) ∧ decide (v < 0) = false ∧ Out lo hi wr w' := by
  have h1 : wr.grownBy (wr.alloc (.cells #[.slice A n c] 40)) none := grown_alloc (grown_refl wr none) _
  rcases h.2.1.form with ⟨e, rfl⟩ | ⟨g, cap, e, hb, hlt, _, _⟩
  · injection e with e1 e2 e3
    subst e1; subst e2; subst e3
    have HO := Lib.hid (And.intro (h.2.1.keep h1) h1)
    clear h h1
    go_enter Try.func43, Try.ntmps43
    go_wp2_with fail
    refine (markLists_nilK K _).mono ?_
    rintro e w1 ⟨rfl, rfl⟩
    go_wp2
    go_ret
    exact ⟨_, rfl, decide_eq_false (by omega), Out.of_grown HO.out.2 (fun g e => by cases e)⟩
  · injection e with e1 e2 e3
    subst e1; subst e2; subst e3
    have hd : TIs lo hi g ls := ⟨⟨(VOwn.lt h.2.1.1 g rfl).1, h.2.2.2.1 _ rfl⟩, fun b a hm ha => ⟨(VOwn.lt (h.2.1.2.1 b hm) a.block (by simp [Li.row, ha, Value.ownBlock])).1, h.2.2.2.2.1 b a hm ha⟩⟩
    have HO := Lib.hid (And.intro (h.2.1.keep h1) (And.intro h1 hd))
    clear h h1 hd
    go_enter Try.func43, Try.ntmps43
    go_wp2_with fail
    refine (markLists_from K hK g ls.length c lo lo hi ls _ rfl HO.out.1 HO.out.2.2 hn ht).mono ?_
    rintro e w1 ⟨rfl, ho, hk⟩
    have HZ := Lib.hid ((Out.of_grown HO.out.2.1 (fun g e => by cases e)).trans hk)
    clear ho hk
    go_wp2
    go_ret
    exact ⟨_, rfl, decide_eq_false (by omega), HZ.out⟩
/-- So many numbers, in memory of their own. -/
def IMadeN (xs : List Int) (m : Nat) (w : World) (e : Ending) (w' : World) : Prop := ∃ (A : Option Addr) (c : Nat), e = .returned (.slice A m c) ∧ xs.length = m ∧ IOwn w' w.heap.size (.slice A m c) xs ∧ w.grownBy w' none
theorem IMade.to {xs : List Int} {m : Nat} {w w' : World} {e : Ending} (h : IMade xs w e w') (hl : xs.length = m) : IMadeN xs m w e w' := by
  obtain ⟨A, n, c, h1, h2, h3⟩ := h
  obtain rfl : n = m := by rw [← h2, ← hl]
  exact ⟨A, c, h1, h2, h3⟩
/-- So many numbers, in memory of their own, and whether it is possible. -/
def IMadeN2 (xs : List Int) (m : Nat) (r : Bool) (w : World) (e : Ending) (w' : World) : Prop := ∃ (A : Option Addr) (c : Nat), e = .returned (.tuple #[.slice A m c, .bool r]) ∧ xs.length = m ∧ IOwn w' w.heap.size (.slice A m c) xs ∧ w.grownBy w' none
theorem IMade2.to {xs : List Int} {m : Nat} {r : Bool} {w w' : World} {e : Ending} (h : IMade2 xs r w e w') (hl : xs.length = m) : IMadeN2 xs m r w e w' := by
  obtain ⟨A, n, c, h1, h2, h3⟩ := h
  obtain rfl : n = m := by rw [← h2, ← hl]
  exact ⟨A, c, h1, h2, h3⟩
theorem TabMade3.to {xss : List (List Int)} {n : Nat} {w w' : World} {e : Ending} (h : TabMade3 xss w e w') (hl : xss.length = n) : TabMade xss n w e w' := by
  obtain ⟨m, A, c, cs, h1, h2, h3, h4⟩ := h
  obtain rfl : m = n := by rw [← h2, ← hl, ← h3, ll_length]
  exact ⟨A, c, cs, h1, h2, h3, h4⟩
theorem cutL_len {xs : List Int} {p : Nat} (h : xs.length = 6) (hp : p ≤ 6) : (cutL xs p).length = 6 := by simp [cutL, h]; omega
theorem cut_is (xss : List (List Int)) (f p : Int) : ∃ (n1 : Nat) (l1 : List (List Int)), cutV xss f p = l1 ∧ l1.length = n1 ∧ n1 ≤ 1048576 ∧ ltot l1 ≤ 1048576 := by
  refine ⟨_, cutV xss f p, rfl, rfl, ?_⟩
  cases h : cutB xss f p
  · rw [cut_no h]; simp [ltot]
  · simp only [cutB, Bool.and_eq_true] at h
    obtain ⟨⟨hv, hf⟩, hp⟩ := h
    have hT := (tabB_iff _).1 hv
    obtain ⟨fn, rfl, hfn⟩ := inB_nat (m := 7) hf
    obtain ⟨pn, rfl, hpn⟩ := inB_nat (m := 6) hp
    have h8 := hT.len
    have hx := List.getElem?_eq_getElem (l := xss) (i := fn) (by omega)
    rw [cut_at (cut_yes hv hf hp) hx]
    refine ⟨by rw [List.length_set]; omega, ltot_few (m := 8) (by rw [List.length_set]; exact h8) (by omega) fun xs hm => ?_⟩
    rcases List.mem_or_eq_of_mem_set hm with hm | rfl
    · exact hT.six xs hm
    · exact cutL_len (hT.six _ (List.getElem_mem _)) hpn
theorem holes_is (xss : List (List Int)) (f : Int) : ∃ (n1 : Nat) (l1 : List Int), holesV xss f = l1 ∧ l1.length = n1 ∧ n1 ≤ 1048576 := by
  refine ⟨_, holesV xss f, rfl, rfl, ?_⟩
  unfold holesV
  split
  · have := holesTo_le (xss.getD f.toNat []) (szAt (xss.getD f.toNat []) 6)
    have := szAt_le (xss.getD f.toNat []) 6
    omega
  · simp
theorem vals_is (bs : List Bk) (xss : List (List Int)) (f : Int) : ∃ (n1 : Nat) (l1 : List Int) (r : Bool), fvalV bs xss f = (l1, r) ∧ l1.length = n1 ∧ n1 ≤ 1048576 := by
  refine ⟨_, (fvalV bs xss f).1, (fvalV bs xss f).2, rfl, rfl, ?_⟩
  unfold fvalV
  split
  · split
    · rename_i l h
      have := vals_len h
      have := szAt_le (xss.getD f.toNat []) 6
      dsimp only
      omega
    · simp
  · simp
section
variable {w : World} {A : Option Addr} {n c n1 : Nat} {ls : List Li} {f p : Int} {l1 : List (List Int)} {x1 : List Int}
theorem specCut_val (h : cutV (ll ls) f p = l1) (h1 : l1.length = n1) (hl : ls.length = n) (hr : TRow w w.heap.size A ls) (hn : n ≤ 1048576) (hp : ∀ l, l ∈ ls → l.xs.length ≤ 1048576) :
    Calls Try.prog 100 #[.agg #[.slice A n c], .int .i64 f, .int .i64 p] w (TabMade l1 n1 w) :=
  (specCutFile_any A n c ls f p w hl hr hn hp).mono fun _ _ q => by rw [h] at q; exact q.to h1
/-- FileValues reads of a device what the pages are, not where they lie. -/
theorem readV_is {bs cs : List Bk} (h : cs.map Bk.is = bs.map Bk.is) (a : Int) : readV cs a = readV bs a := by simp only [readV, devB_is h, page_is h]
theorem valsTo_is {bs cs : List Bk} (h : cs.map Bk.is = bs.map Bk.is) (xs : List Int) (g : Int) (k : Nat) : valsTo cs xs g k = valsTo bs xs g k := by
  induction k with
  | zero => rfl
  | succ k ih => simp only [valsTo, ih, readV_is h]
theorem fvalV_is {bs cs : List Bk} (h : cs.map Bk.is = bs.map Bk.is) (xss : List (List Int)) (g : Int) : fvalV cs xss g = fvalV bs xss g := by simp only [fvalV, devB_is h, valsTo_is h]
end
end Go.Proofs.Yteniikfgellhfaa
