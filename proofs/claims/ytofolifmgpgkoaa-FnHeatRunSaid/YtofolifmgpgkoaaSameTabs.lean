/- What the laws' sameInts and sameTable answer; a drawn table in its variable.
   What the law of TablePut carries along. -/
import Derived.Test.YtofolifmgpgkoaaTables7
import Derived.Test.YtofolifmgpgkoaaDrawTabs2
import Derived.BigQuiet
namespace Go.Proofs.Ytofolifmgpgkoaa
open Go.ChangeShapes Go.WideShapes Go.ChangeAt Go.RowKit
set_option linter.unusedVariables false
set_option linter.unusedSimpArgs false

section
variable {w : World} {A A' : Option Addr} {n c n' c' : Nat} {ls ls' : List Li} {f k : Int} {V : Int}
end
end Go.Proofs.Ytofolifmgpgkoaa
namespace Go.Proofs.Ytofolifmgpgkoaa
open Go.ChangeShapes Go.WideShapes Go.ChangeAt Go.RowKit
set_option linter.unusedVariables false

section
variable {w wr w' : World} {V : Nat} {A : Option Addr} {n c : Nat} {ls cs : List Li}
end
/-- What TablePut answers: nothing new, or one number put. -/
theorem tput_cases {xss X : List (List Int)} {f k x : Int} {r : Bool} (h : tputV xss f k x = (X, r)) :
    (r = false ∧ (X = xss ∨ X = [])) ∨ (r = true ∧ ∃ fn kn : Nat, f = fn ∧ k = kn ∧ fn < 8 ∧ kn < 6 ∧ tabB xss = true ∧ inB x (-1) 47 = true ∧ X = tset xss fn kn x ∧ tabB X = true) := by
  unfold tputV at h
  split at h
  · rename_i ha
    simp only [Bool.and_eq_true, argB] at ha
    split at h
    · rename_i hv
      injection h with h1 h2
      obtain ⟨⟨⟨hx, hf⟩, hk⟩, hp⟩ := ha
      obtain ⟨fn, rfl, hf7⟩ := inB_nat (m := 7) hf
      obtain ⟨kn, rfl, hk5⟩ := inB_nat (m := 5) hk
      simp only [Int.toNat_natCast] at h1 hv
      exact .inr ⟨h2.symm, fn, kn, rfl, rfl, by omega, by omega, hx, hp, h1.symm, by rw [← h1]; exact hv⟩
    · injection h with h1 h2
      exact .inl ⟨h2.symm, .inl h1.symm⟩
  · injection h with h1 h2
    exact .inl ⟨h2.symm, .inr h1.symm⟩
theorem tput_small {xss X : List (List Int)} {f k x : Int} {r : Bool} (h : tputV xss f k x = (X, r)) (h8 : xss.length ≤ 8) (h6 : ∀ xs, xs ∈ xss → xs.length ≤ 6) : X.length ≤ 8 ∧ ∀ xs, xs ∈ X → xs.length ≤ 6 := by
  rcases tput_cases h with ⟨_, rfl | rfl⟩ | ⟨_, fn, kn, _, _, _, _, _, _, _, hv⟩
  · exact ⟨h8, h6⟩
  · exact ⟨by simp, fun xs hx => by simp at hx⟩
  · have hT := (tabB_iff _).1 hv
    exact ⟨by rw [hT.len]; exact Nat.le_refl _, fun xs hx => by rw [hT.six xs hx]; exact Nat.le_refl _⟩
/-- What follows of a number that was put. -/
theorem tput_new {xss : List (List Int)} {fn kn : Nat} {x : Int} (hf : fn < 8) (hk : kn < 6) (hv : tabB xss = true) (hx : inB x (-1) 47 = true) (hX : tabB (tset xss fn kn x) = true) :
    tgetV (tset xss fn kn x) fn kn = x ∧ ∃ o m : _, tgetV xss fn kn = o ∧ tputV (tset xss fn kn x) fn kn o = (xss, true) ∧ chgV xss (tset xss fn kn x) = ((m : Nat) : Int) ∧ m ≤ 1 := by
  have hT := (tabB_iff _).1 hv
  have hf7 : inB (fn : Int) 0 7 = true := inB_iff.2 ⟨by omega, by omega⟩
  have hk5 : inB (kn : Int) 0 5 = true := inB_iff.2 ⟨by omega, by omega⟩
  obtain ⟨xs, o, h1, h6, h2, h3⟩ := hT.cell hf hk
  have hback : tset (tset xss fn kn x) fn kn o = xss := by
    rw [tset_row h1]
    have hget : (xss.set fn (xs.set kn x))[fn]? = some (xs.set kn x) := by
      rw [List.getElem?_set_self]
      rw [hT.len]; exact hf
    rw [tset_row hget, List.set_set, List.set_set]
    have e1 : xs.set kn o = xs := by
      obtain ⟨hl, e⟩ := List.getElem?_eq_some_iff.1 h2
      rw [← e]
      exact List.set_getElem_self hl
    rw [e1]
    obtain ⟨hl, e⟩ := List.getElem?_eq_some_iff.1 h1
    rw [← e]
    exact List.set_getElem_self hl
  have ho := hT.inb fn kn o h3
  refine ⟨tget_at (arg_yes hX hf7 hk5) (by rw [tset_cell hT hf hk]; simp), o, chgTo xss (tset xss fn kn x) 48, tget_at (arg_yes hv hf7 hk5) h3, ?_, chg_yes hv hX, ?_⟩
  · have h4 := tput_yes (xss := tset xss fn kn x) (x := o) (arg_yes hX hf7 hk5) (inB_iff.2 ho) (by rw [hback]; exact hv)
    rw [hback] at h4
    exact h4
  · have h5 := chgTo_one (a := xss) (b := tset xss fn kn x) (f := fn) (k := kn) (fun f' k' hn => by rw [tset_cell hT hf hk, if_neg hn]) 48
    refine Nat.le_trans h5 ?_
    split <;> omega
section
variable {w : World} {A : Option Addr} {n c : Nat} {ls : List Li} {f k x : Int} {X : List (List Int)} {r : Bool}
end
/-- A made table is small. -/
theorem made_small {cs : List Li} {n : Nat} {X : List (List Int)} (hl : cs.length = n) (he : ll cs = X) (h8 : X.length ≤ 8) (h6 : ∀ xs, xs ∈ X → xs.length ≤ 6) : n ≤ 1048576 ∧ ∀ l, l ∈ cs → l.xs.length ≤ 1048576 := by
  refine ⟨?_, fun l hm => ?_⟩
  · have : cs.length = X.length := by rw [← he, ll_length]
    omega
  · have := h6 l.xs (by rw [← he]; exact List.mem_map_of_mem hm)
    omega
end Go.Proofs.Ytofolifmgpgkoaa
