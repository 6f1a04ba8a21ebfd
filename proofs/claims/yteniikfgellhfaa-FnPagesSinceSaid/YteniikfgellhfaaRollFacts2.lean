/- What the laws of chapter 18 call besides. -/
import Derived.Test.YteniikfgellhfaaRollFacts
import Derived.Test.YteniikfgellhfaaRolls
import Derived.Test.YteniikfgellhfaaFileFacts
namespace Go.Proofs.Yteniikfgellhfaa
open Go.ChangeShapes Go.WideShapes Go.ChangeAt Go.RowKit
set_option linter.unusedVariables false

theorem irow_still {w : World} {B : Nat} {A : Option Addr} {xs : List Int} (h : IRow w B A xs) (k : Nat) : IRow (w.drewN k) (w.drewN k).heap.size A xs := VRow.here (VRow.drewN h k)
/-- The search in a list makes no memory. -/
theorem hasInt_still (A : Option Addr) (n c : Nat) (xs : List Int) (x : Int) (w : World) (hl : xs.length = n) (hr : IRow w w.heap.size A xs) (hn : n ≤ 1048576) :
    Calls Try.prog 16 #[.slice A n c, .int .i64 x] w (fun e w' => e = .returned (.bool (xs.contains x)) ∧ w' = w) := by
  have HR := Lib.hid (And.intro hl hr)
  clear hr
  go_enter Try.func16, Try.ntmps16
  go_wp2
  go_loopw [5] (fun i wr => ∃ k : Nat, i = .int .i64 k ∧ k ≤ n ∧ xs.contains x = (xs.drop k).contains x ∧ wr = w) (fun i _ => n - (intOf i).toNat)
  case atStart => exact ⟨0, rfl, Nat.zero_le _, rfl, rfl⟩
  case round =>
    rename World => wq
    obtain ⟨k, rfl, hk, hc, rfl⟩ := hrel
    by_cases hkn : k < n
    · have k1 : (k : Int) < n := by omega
      have k0 : decide ((0 : Int) ≤ k) = true := decide_eq_true (by omega)
      obtain ⟨y, hy⟩ : ∃ y, xs[k]? = some y := ⟨_, List.getElem?_eq_getElem (by omega)⟩
      obtain ⟨g, off, rfl⟩ := HR.out.2.pos (by omega)
      have c0 := HR.out.2.cellf hy
      have hd : xs.drop k = y :: xs.drop (k + 1) := by
        obtain ⟨h1, h2⟩ := List.getElem?_eq_some_iff.1 hy
        rw [← h2]
        exact List.drop_eq_getElem_cons h1
      rw [hd] at hc
      by_cases e : y = x
      · subst e
        have HC := Lib.hid (show xs.contains y = true by rw [hc]; simp)
        have e1 : (y == y) = true := by simp
        clear hc hd hy hl
        go_wp2
        go_ret
        exact ⟨retB HC.out.symm, rfl⟩
      · have e1 : (y == x) = false := by rw [beq_eq_false_iff_ne]; exact e
        have HC := Lib.hid (show xs.contains x = (xs.drop (k + 1)).contains x by rw [hc]; simp [Ne.symm e])
        clear hc hd hy hl
        go_wp2
        go_roundw
        case rel => exact ⟨k + 1, by go_num, by omega, HC.out, by trivial⟩
        case measure => simp [intOf]; omega
    · obtain rfl : k = n := by omega
      have HC := Lib.hid (show xs.contains x = false by rw [hc, ← hl, List.drop_length]; rfl)
      clear hc hl
      go_wp2
      go_ret
      exact ⟨retB HC.out.symm, rfl⟩
theorem hasInt_quiet {A : Option Addr} {n c : Nat} {xs : List Int} {x : Int} {V : Bool} {w : World} (h : xs.contains x = V) (hl : xs.length = n) (hr : IRow w w.heap.size A xs) (hn : n ≤ 1048576) :
    Calls Try.prog 16 #[.slice A n c, .int .i64 x] w (fun e w' => e = .returned (.bool V) ∧ w' = w) := h ▸ hasInt_still A n c xs x w hl hr hn
theorem roll_small {bs : List Bk} {xss R : List (List Int)} {s : Int} (h : rollV bs xss s = R) : R.length ≤ 8 ∧ ∀ xs, xs ∈ R → xs.length ≤ 1048576 := by
  subst h
  cases hB : devB bs && tabB xss
  · rw [rollV_no hB]; exact ⟨by simp, fun xs hx => by simp at hx⟩
  · rw [Bool.and_eq_true] at hB
    have hT := (tabB_iff _).1 (rollV_tab hB.1 hB.2 s)
    exact ⟨by rw [hT.len]; exact Nat.le_refl _, fun xs hx => by rw [hT.six xs hx]; omega⟩
theorem roll_get {bs : List Bk} {xss R : List (List Int)} {s : Int} {L : List Int} (hd : devB bs = true) (hv : tabB xss = true) (hR : rollV bs xss s = R) (hL : sinV bs s = L) {f k : Nat} (hf : f < 8) (hk : k < 6) :
    ∃ c, tgetV xss (f : Int) (k : Int) = c ∧ tgetV R (f : Int) (k : Int) = wantV bs L (f : Int) (k : Int) (if L.contains c then -1 else c) L.length := by
  subst hR; subst hL
  have hT := (tabB_iff _).1 hv
  obtain ⟨xs, c, _, _, _, hc⟩ := hT.cell hf hk
  have h1 := arg_yes (f := (f : Int)) (k := (k : Int)) hv (inB_iff.2 ⟨by omega, by omega⟩) (inB_iff.2 ⟨by omega, by omega⟩)
  have h2 := arg_yes (f := (f : Int)) (k := (k : Int)) (rollV_tab hd hv s) (inB_iff.2 ⟨by omega, by omega⟩) (inB_iff.2 ⟨by omega, by omega⟩)
  exact ⟨c, tget_at h1 hc, tget_at h2 (roll_law hd hv hf hk hc)⟩
end Go.Proofs.Yteniikfgellhfaa
