/- What the law FnMountTable asks: the answers of MountTable. -/
import Derived.Test.YteniikfgellhfaaMounts
import Derived.Test.YteniikfgellhfaaSaveFacts
namespace Go.Proofs.Yteniikfgellhfaa
open Go.ChangeShapes Go.WideShapes Go.ChangeAt Go.RowKit
set_option linter.unusedVariables false

theorem tabOf_tab {bs : List Bk} (hd : devB bs = true) : tabB (tabOf bs) = true := by
  obtain ⟨⟨_, h12⟩, _⟩ := dev_parts hd
  rw [of_yes hd]
  exact (tabB_iff _).2 (of_inv hd _ (by omega)).tv
theorem mount_ways {N S N' S' M s : Int} {X X' : List Int} {T R : List (List Int)} {ok o : Bool} {bs : List Bk} (hV : newV N X S N' X' S' = (T, M, ok)) (hR : mountV bs T ok s = (R, o)) :
    (R.length ≤ 8 ∧ ∀ xs, xs ∈ R → xs.length ≤ 1048576) ∧ ((devB bs = false ∧ R = [] ∧ o = false) ∨ (devB bs = true ∧ o = true ∧ tabB R = true)) := by
  cases hd : devB bs
  · obtain ⟨rfl, rfl⟩ : [] = R ∧ false = o := by simpa [mountV, hd] using hR
    exact ⟨⟨by simp, fun xs hx => by simp at hx⟩, .inl ⟨rfl, rfl, rfl⟩⟩
  · have key : o = true ∧ tabB R = true := by
      cases ok
      · obtain ⟨rfl, rfl⟩ : tabOf bs = R ∧ true = o := by simpa [mountV, hd] using hR
        exact ⟨rfl, tabOf_tab hd⟩
      · obtain ⟨rfl, rfl⟩ : rollV bs T s = R ∧ true = o := by simpa [mountV, hd] using hR
        exact ⟨rfl, rollV_tab hd (new_tabB hV) s⟩
    have hT := (tabB_iff _).1 key.2
    exact ⟨⟨by rw [hT.len]; exact Nat.le_refl _, fun xs hx => by rw [hT.six xs hx]; omega⟩, .inr ⟨rfl, key⟩⟩
theorem new_zero : newV 0 [] 0 0 [] 0 = ([], -1, false) := by
  have h : loadB 0 [] 0 = false := by simp [loadB]
  unfold newV
  rw [loadV_no h]
  rfl
theorem mount_none {bs : List Bk} (hd : devB bs = true) (s : Int) : mountV bs [] false s = (tabOf bs, true) := by simp [mountV, hd]
end Go.Proofs.Yteniikfgellhfaa
