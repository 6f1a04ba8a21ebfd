/- Chapter 4, further: BlockValid of the model, BlockNext of both.
   Chapter 4, further: BlockNext, copies and new blocks of both. -/
import Derived.Test.YtengcjglkcmkbaaBlocks
namespace Go.Proofs.Ytengcjglkcmkbaa
open Go.ChangeShapes Go.WideShapes Go.ChangeAt Go.RowKit

/-- How many pages are written; BlockNext. -/
def cntF (ps : List Pg) : Nat := ps.countP (·.f)
def nextV (m : Int) (ps : List Pg) : Int := if blockB m ps then (if cntF ps = 4 then -1 else (cntF ps : Int)) else -1
theorem pcnt_le (ps : List Pg) : cntF ps ≤ ps.length := List.countP_le_length
theorem cnt_take {ps : List Pg} {k : Nat} {p : Pg} (h : ps[k]? = some p) : cntF (ps.take (k + 1)) = cntF (ps.take k) + if p.f then 1 else 0 := by
  unfold cntF
  rw [List.take_add_one, h, List.countP_append]
  cases hf : p.f <;> simp [hf]
theorem four {ps : List Pg} (h : ps.length = 4) : ∃ a b c d, ps = [a, b, c, d] := by
  match ps, h with
  | [a, b, c, d], _ => exact ⟨a, b, c, d, rfl⟩
theorem ord4 (a b c d : Pg) : ordB [a, b, c, d] = (pgB a && (pgB b && (!b.f || a.f)) && (pgB c && (!c.f || b.f)) && (pgB d && (!d.f || c.f))) := by
  simp [ordB, okAt, List.range_succ, Bool.and_assoc]
theorem block_parts {m : Int} {ps : List Pg} (h : blockB m ps = true) : inB m 0 100 = true ∧ ps.length = 4 ∧ ordB ps = true := by
  simp only [blockB, Bool.and_eq_true, decide_eq_true_eq] at h
  exact ⟨h.1.1, h.1.2, h.2⟩
/-- The first page that is not written is counted by those before it. -/
theorem next_first {m : Int} {ps : List Pg} (h : blockB m ps = true) {k : Nat} {p : Pg} (hp : ps[k]? = some p) (hf : p.f = false) (hj : ∀ j q, j < k → ps[j]? = some q → q.f = true) : nextV m ps = k := by
  obtain ⟨_, h4, ho⟩ := block_parts h
  obtain ⟨a, b, c, d, rfl⟩ := four h4
  rw [ord4] at ho
  unfold nextV
  rw [if_pos h]
  unfold cntF
  have hk : k < 4 := (List.getElem?_eq_some_iff.1 hp).1
  match k, hk with
  | 0, _ => simp at hp; subst hp; cases hb : b.f <;> cases hc : c.f <;> cases hd : d.f <;> simp [hf, hb, hc, hd] at ho ⊢
  | 1, _ => simp at hp; subst hp; have ha := hj 0 a (by omega) rfl; cases hc : c.f <;> cases hd : d.f <;> simp [hf, ha, hc, hd] at ho ⊢
  | 2, _ => simp at hp; subst hp; have ha := hj 0 a (by omega) rfl; have hb := hj 1 b (by omega) rfl; cases hd : d.f <;> simp [hf, ha, hb, hd] at ho ⊢
  | 3, _ => simp at hp; subst hp; have ha := hj 0 a (by omega) rfl; have hb := hj 1 b (by omega) rfl; have hc := hj 2 c (by omega) rfl; simp [hf, ha, hb, hc]
theorem next_all {m : Int} {ps : List Pg} (h : blockB m ps = true) (hj : ∀ (j : Nat) (q : Pg), ps[j]? = some q → q.f = true) : nextV m ps = -1 := by
  obtain ⟨_, h4, ho⟩ := block_parts h
  obtain ⟨a, b, c, d, rfl⟩ := four h4
  unfold nextV
  rw [if_pos h]
  have ha := hj 0 a rfl; have hb := hj 1 b rfl; have hc := hj 2 c rfl; have hd := hj 3 d rfl
  simp [cntF, ha, hb, hc, hd]
theorem next_no {m : Int} {ps : List Pg} (h : blockB m ps = false) : nextV m ps = -1 := by simp [nextV, h]

end Go.Proofs.Ytengcjglkcmkbaa
namespace Go.Proofs.Ytengcjglkcmkbaa
open Go.ChangeShapes Go.WideShapes Go.ChangeAt Go.RowKit

/-- The model's loop for the next page, at page k. -/
def NextRel (w : World) (ps : List Pg) (k : Nat) (wr : World) : Prop := k ≤ ps.length ∧ (∀ (j : Nat) (q : Pg), j < k → ps[j]? = some q → q.f = true) ∧ w.grownBy wr none
theorem next_step {ps : List Pg} {k : Nat} {p : Pg} (h : ∀ (j : Nat) (q : Pg), j < k → ps[j]? = some q → q.f = true) (hp : ps[k]? = some p) (hf : p.f = true) : ∀ (j : Nat) (q : Pg), j < k + 1 → ps[j]? = some q → q.f = true := fun j q hj hq => by
  rcases Nat.lt_or_ge j k with h1 | h1
  · exact h j q h1 hq
  · obtain rfl : j = k := by omega
    rw [hp] at hq
    injection hq with hq
    rw [← hq]; exact hf
end Go.Proofs.Ytengcjglkcmkbaa
