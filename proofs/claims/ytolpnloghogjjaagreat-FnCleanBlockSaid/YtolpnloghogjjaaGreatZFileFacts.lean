/- What the model draws for chapter 8: DrawTableOf, DrawTableValid, DrawFileSize, DrawFileHoles, DrawCutFile.
   Plain facts that the laws of chapter 8 ask: what a cut leaves, where the size lies, which places are holes; hasInt. -/
import Derived.Test.YtolpnloghogjjaaGreatZDrawTabs2
import Derived.Test.YtolpnloghogjjaaGreatZDrawDev4
import Derived.Test.YtolpnloghogjjaaGreatZFiles5
import Derived.Test.YtolpnloghogjjaaGreatZSameTabs
namespace Go.Proofs.YtolpnloghogjjaaGreat
open Go.ChangeShapes Go.WideShapes Go.ChangeAt Go.RowKit
set_option linter.unusedVariables false
set_option linter.unusedSimpArgs false

end Go.Proofs.YtolpnloghogjjaaGreat
namespace Go.Proofs.YtolpnloghogjjaaGreat
open Go.ChangeShapes Go.WideShapes Go.ChangeAt Go.RowKit
set_option linter.unusedVariables false

theorem cutL_get {xs : List Int} {p k : Nat} (h : xs.length = 6) (hp : p ≤ 6) (hk : k < 6) : (cutL xs p)[k]? = if p ≤ k then some (-1) else xs[k]? := by
  unfold cutL
  split
  · rename_i h1
    rw [List.getElem?_append_right (by simp; omega), List.getElem?_replicate, if_pos (by simp; omega)]
  · rename_i h1
    rw [List.getElem?_append_left (by simp; omega), List.getElem?_take, if_pos (by omega)]
theorem cutL_six {xs : List Int} {p : Nat} (h : xs.length = 6) (hp : p ≤ 6) : (cutL xs p).length = 6 := by simp [cutL, h]; omega
theorem cut_cell {xss : List (List Int)} (h : TV xss) {f p : Nat} {xs : List Int} (hx : xss[f]? = some xs) (hp : p ≤ 6) (f' k' : Nat) (hk : k' < 6) : cellO (xss.set f (cutL xs p)) f' k' = if f' = f ∧ p ≤ k' then some (-1) else cellO xss f' k' := by
  have h6 := h.six xs (List.mem_of_getElem? hx)
  have hf := (List.getElem?_eq_some_iff.1 hx).1
  by_cases e : f' = f
  · subst e
    simp only [cellO, List.getElem?_set_self hf, Option.bind_some, cutL_get h6 hp hk, hx, true_and]
  · simp only [cellO, e, false_and, if_false]
    rw [List.getElem?_set_ne (fun e' => e e'.symm)]
theorem cut_valid {xss : List (List Int)} (h : TV xss) {f p : Nat} {xs : List Int} (hx : xss[f]? = some xs) (hp : p ≤ 6) : TV (xss.set f (cutL xs p)) := by
  have h6 := h.six xs (List.mem_of_getElem? hx)
  have hs : ∀ ys, ys ∈ xss.set f (cutL xs p) → ys.length = 6 := fun ys hm => by
    rcases List.mem_or_eq_of_mem_set hm with hm | rfl
    · exact h.six ys hm
    · exact cutL_six h6 hp
  have hc : ∀ (f' k' : Nat) (x : Int), cellO (xss.set f (cutL xs p)) f' k' = some x → x = -1 ∨ cellO xss f' k' = some x := fun f' k' x hx' => by
    rw [cut_cell h hx hp f' k' (six_lt hs hx').1] at hx'
    split at hx'
    · injection hx' with e; exact .inl e.symm
    · exact .inr hx'
  refine ⟨by rw [List.length_set]; exact h.len, hs, fun f' k' x hx' => ?_, fun f1 k1 f2 k2 x h1 h2 h0 => ?_⟩
  · rcases hc f' k' x hx' with rfl | h1
    · omega
    · exact h.inb f' k' x h1
  · rcases hc f1 k1 x h1 with rfl | h1
    · omega
    rcases hc f2 k2 x h2 with rfl | h2
    · omega
    exact h.one f1 k1 f2 k2 x h1 h2 h0
/-- The size of a file cut short. -/
theorem szAt_cut {xs : List Int} {p : Nat} (h : xs.length = 6) (hp : p ≤ 6) : szAt (cutL xs p) 6 ≤ p := by
  rcases Nat.lt_or_ge p (szAt (cutL xs p) 6) with h1 | h1
  · have h2 := szAt_last (xs := cutL xs p) (k := 6) (by omega)
    have h3 := szAt_le (cutL xs p) 6
    rw [List.getD_eq_getElem?_getD, cutL_get h hp (by omega), if_pos (by omega)] at h2
    simp at h2
  · exact h1
/-- What CutFile answers, told by cases. -/
theorem cut_cases {xss X : List (List Int)} {f p : Int} (h : cutV xss f p = X) : X = [] ∨ ∃ (fn pn : Nat) (xs : List Int), f = fn ∧ p = pn ∧ fn < 8 ∧ pn ≤ 6 ∧ tabB xss = true ∧ tabB X = true ∧ fsizeV X f ≤ p ∧
    ∀ f' k' : Nat, f' < 8 → k' < 6 → tgetV X f' k' = if f' = fn ∧ pn ≤ k' then -1 else tgetV xss f' k' := by
  subst h
  cases hB : cutB xss f p
  · exact .inl (cut_no hB)
  simp only [cutB, Bool.and_eq_true] at hB
  obtain ⟨⟨hv, hf⟩, hp⟩ := hB
  obtain ⟨fn, rfl, hfn⟩ := inB_nat (m := 7) hf
  obtain ⟨pn, rfl, hpn⟩ := inB_nat (m := 6) hp
  have hT := (tabB_iff _).1 hv
  have h8 := hT.len
  have hx := List.getElem?_eq_getElem (l := xss) (i := fn) (by omega)
  have hV := (tabB_iff _).2 (cut_valid hT hx hpn)
  have hfl : fn < xss.length := by omega
  refine .inr ⟨fn, pn, xss[fn], rfl, rfl, by omega, hpn, hv, ?_, ?_, ?_⟩ <;> rw [cut_at (cut_yes hv hf hp) hx]
  · exact hV
  · rw [fsize_at (file_yes hV hf) (List.getElem?_set_self hfl)]
    have := szAt_cut (hT.six _ (List.mem_of_getElem? hx)) hpn
    omega
  · intro f' k' hf' hk'
    have a1 : inB (f' : Int) 0 7 = true := inB_iff.2 ⟨by omega, by omega⟩
    have a2 : inB (k' : Int) 0 5 = true := inB_iff.2 ⟨by omega, by omega⟩
    obtain ⟨ys, y, hy1, hy6, hy2, hc⟩ := hT.cell hf' hk'
    rw [tget_at (arg_yes hv a1 a2) hc]
    have hc2 := cut_cell hT hx hpn f' k' hk'
    split
    · rename_i e
      rw [if_pos e] at hc2
      exact tget_at (arg_yes hV a1 a2) hc2
    · rename_i e
      rw [if_neg e, hc] at hc2
      exact tget_at (arg_yes hV a1 a2) hc2
theorem cut_small {xss X : List (List Int)} {f p : Int} (h : cutV xss f p = X) : X.length ≤ 8 ∧ ∀ xs, xs ∈ X → xs.length ≤ 6 := by
  rcases cut_cases h with rfl | ⟨_, _, _, _, _, _, _, _, hv, _⟩
  · simp
  · have hT := (tabB_iff _).1 hv
    exact ⟨by have := hT.len; omega, fun xs hm => by have := hT.six xs hm; omega⟩
section
variable {A : Option Addr} {n c : Nat} {ls : List Li} {f p : Int} {X : List (List Int)} {Y : List Int} {w : World}
theorem specCut_v (h : cutV (ll ls) f p = X) (hl : ls.length = n) (hr : TRow w w.heap.size A ls) (hn : n ≤ 1048576) (hp : ∀ l, l ∈ ls → l.xs.length ≤ 1048576) :
    Calls Tryz.prog 71 #[.agg #[.slice A n c], .int .i64 f, .int .i64 p] w (TabMade3 X w) := h ▸ specCutFile_any A n c ls f p w hl hr hn hp
end
end Go.Proofs.YtolpnloghogjjaaGreat
