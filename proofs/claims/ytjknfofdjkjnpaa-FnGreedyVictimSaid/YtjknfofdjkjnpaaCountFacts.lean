/- Plain facts that the laws of chapter 12 ask. -/
import Derived.Test.YtjknfofdjkjnpaaCounts
import Derived.Test.YtjknfofdjkjnpaaDrawCounts
import Derived.Test.YtjknfofdjkjnpaaFileFacts
namespace Go.Proofs.Ytjknfofdjkjnpaa
open Go.ChangeShapes Go.WideShapes Go.ChangeAt Go.RowKit
set_option linter.unusedVariables false

/-- As many numbers as cells with a page; each of these is among them. -/
theorem used_facts {xss : List (List Int)} {X : List Int} (h : usedV xss = X) : ∃ M : Nat → Nat, M 0 = 0 ∧ M 48 = X.length ∧ (∀ i, M i ≤ i) ∧
    ∀ f k : Nat, f < 8 → k < 6 → (tgetV xss f k < 0 ∧ M (6 * f + (k + 1)) = M (6 * f + k)) ∨ (0 ≤ tgetV xss f k ∧ M (6 * f + (k + 1)) = M (6 * f + k) + 1 ∧ X.contains (tgetV xss f k) = true) := by
  subst h
  cases hv : tabB xss
  · refine ⟨fun _ => 0, rfl, by rw [used_of_no hv]; rfl, fun i => Nat.zero_le _, fun f k hf hk => .inl ⟨?_, rfl⟩⟩
    rw [tget_no (arg1 hv)]; decide
  · refine ⟨pgs xss.flatten, by simp [pgs], by rw [used_of hv, used_length hv], pgs_le _, fun f k hf hk => ?_⟩
    obtain ⟨xs, x, h1, h6, h2, h3⟩ := ((tabB_iff _).1 hv).cell hf hk
    have hx := tab_at hv hk h3
    rw [tget_at (arg_yes hv (inB_iff.2 ⟨by omega, by omega⟩) (inB_iff.2 ⟨by omega, by omega⟩)) h3, ← Nat.add_assoc, pgs_step hx]
    by_cases h0 : 0 ≤ x
    · rw [if_pos h0]
      refine .inr ⟨h0, rfl, ?_⟩
      have := tab_in hv (List.mem_of_getElem? hx)
      rw [used_of hv]
      have hm : x ∈ usedTo xss.flatten 48 := usedTo_mem.2 ⟨h0, by omega, List.mem_of_getElem? hx⟩
      simpa using hm
    · rw [if_neg h0]
      exact .inl ⟨by omega, rfl⟩
/-- The numbers ascend. -/
theorem used_asc {xss : List (List Int)} {X : List Int} (h : usedV xss = X) {k : Nat} {x y : Int} (hx : X[k]? = some x) (hy : X[k + 1]? = some y) : x < y := by
  subst h
  cases hv : tabB xss
  · rw [used_of_no hv] at hx; simp at hx
  · rw [used_of hv] at hx hy
    exact usedTo_lt hx hy
/-- What the sums of the numbers of the blocks are. -/
def Sums (X : List Int) (S : Nat → Nat) : Prop := S 0 = 0 ∧ (∀ (k : Nat) (x : Int), X[k]? = some x → 0 ≤ x ∧ x ≤ 4 ∧ (S (k + 1) : Int) = S k + x) ∧ ∀ k, k ≤ X.length → S k ≤ 48
theorem counts_sums {bs : List Bk} {xss : List (List Int)} (hd : devB bs = true) (hv : tabB xss = true) : Sums (countsV bs xss) (csum bs (usedTo xss.flatten 48)) := by
  obtain ⟨_, hall⟩ := dev_parts hd
  refine ⟨rfl, fun k x hx => ?_, fun k _ => Nat.le_trans (csum_le _ _ _) (usedTo_le _ _)⟩
  rw [counts_of hd hv] at hx
  have hk : k < bs.length := by have := (List.getElem?_eq_some_iff.1 hx).1; rwa [cntL_length] at this
  rw [cntL_at _ _ hk] at hx
  injection hx with hx
  subst hx
  have hb := List.getElem?_eq_getElem (l := bs) (i := k) hk
  have h1 := blk_le hd xss.flatten hb 48
  have h4 := (block_parts (hall _ (List.mem_of_getElem? hb))).2.1
  have h5 := pcnt_le (bs[k].ps.take (48 - 4 * k))
  rw [List.length_take] at h5
  refine ⟨by omega, by omega, ?_⟩
  rw [csum_step]
  omega
theorem counts_facts {bs : List Bk} {xss : List (List Int)} {X : List Int} (h : countsV bs xss = X) : ∃ S : Nat → Nat, Sums X S ∧ S X.length ≤ (usedV xss).length ∧ (X.length = 0 ∨ X.length = bs.length) := by
  subst h
  cases hB : devB bs && tabB xss
  · have e : countsV bs xss = [] := by simp [countsV, hB]
    rw [e]
    exact ⟨fun _ => 0, ⟨rfl, fun k x hx => by simp at hx, fun k _ => Nat.zero_le _⟩, Nat.zero_le _, .inl rfl⟩
  · rw [Bool.and_eq_true] at hB
    refine ⟨_, counts_sums hB.1 hB.2, ?_, .inr ?_⟩
    · rw [used_of hB.2]; exact csum_le _ _ _
    · rw [counts_of hB.1 hB.2, cntL_length]
theorem old_facts {bs : List Bk} {xss : List (List Int)} {V : Int} {X : List Int} (hV : oldV bs xss = V) (hX : countsV bs xss = X) : V = -1 ∨ (devB bs = true ∧ 0 ≤ V ∧ V ≤ 48 ∧ freeV bs ≤ 48 ∧ ∃ S : Nat → Nat, Sums X S ∧ V + (freeV bs : Nat) + (S X.length : Nat) = 4 * (bs.length : Nat)) := by
  subst hX
  cases hB : devB bs && tabB xss
  · refine .inl ?_
    rw [← hV]
    simp [oldV, hB]
  · rw [Bool.and_eq_true] at hB
    obtain ⟨⟨_, h12⟩, hall⟩ := dev_parts hB.1
    have h1 := csum_writ hB.1 xss.flatten bs.length (Nat.le_refl _)
    have h2 := writ_le hB.1 bs.length
    rw [List.take_length] at h1 h2
    have h3 := writ_free (bs := bs) (fun b hm => (block_parts (hall b hm)).2.1)
    rw [old_of hB.1 hB.2] at hV
    refine .inr ⟨hB.1, by omega, by omega, by omega, _, counts_sums hB.1 hB.2, ?_⟩
    rw [counts_of hB.1 hB.2, cntL_length]
    omega
end Go.Proofs.Ytjknfofdjkjnpaa
