/- What the laws of chapter 17 carry along: a drawn save in a variable; saves held against each other. -/
import Derived.Test.YteniikfgellhfaaSaves
import Derived.Test.YteniikfgellhfaaDrawSave0
import Derived.Test.YteniikfgellhfaaSameTabs
namespace Go.Proofs.Yteniikfgellhfaa
open Go.ChangeShapes Go.WideShapes Go.ChangeAt Go.RowKit
set_option linter.unusedVariables false

/-- A save in its variable V. -/
def LSV (w : World) (V : Nat) (N : Int) (A : Option Addr) (n c : Nat) (X : List Int) (S : Int) (wr : World) : Prop := Blk wr V 49 #[.int .i64 N, .slice A n c, .int .i64 S] ∧ IRow wr wr.heap.size A X ∧ Below w.heap.size w wr
section
variable {w wr w' : World} {V n c base : Nat} {N S : Int} {A : Option Addr} {X : List Int}
theorem LSV.keep (h : LSV w V N A n c X S wr) (k : wr.grownBy w' none) : LSV w V N A n c X S w' := ⟨h.1.keep k, VRow.here (VRow.kept h.2.1 k), Below.and_kept h.2.2 k⟩
theorem LSV.cells (h : LSV w V N A n c X S wr) : wr.cell? ⟨V, 0, none⟩ = some (.int .i64 N) ∧ wr.cell? ⟨V, 1, none⟩ = some (.slice A n c) ∧ wr.cell? ⟨V, 2, none⟩ = some (.int .i64 S) := h.1.cells3.1
theorem LSV.start (hr : IRow wr wr.heap.size A X) (hb : Below w.heap.size w wr) (N S : Int) (n c : Nat) : LSV w wr.heap.size N A n c X S (wr.alloc (.cells #[.int .i64 N, .slice A n c, .int .i64 S] 49)) :=
  ⟨Blk.new wr _ _, VRow.here (VRow.alloc hr _), Below.and_kept hb (grown_alloc (grown_refl _ _) _)⟩
theorem LSV.made (hb : Below w.heap.size w wr) (ho : IOwn w' base (.slice A n c) X) (hk : wr.grownBy w' none) (N S : Int) : LSV w w'.heap.size N A n c X S (w'.alloc (.cells #[.int .i64 N, .slice A n c, .int .i64 S] 49)) :=
  LSV.start (VOwn.row ho) (Below.and_kept hb hk) N S n c
end
/-- append(append([]int{}, s...), x): both runs. -/
theorem clone_push {U : World} {A : Option Addr} {B c m : Nat} {xs : List Int} (x : Int) (hr : IRow U B A xs) (hl : xs.length = m) (hm : m ≤ 1000000) :
    ∃ A1 c1 w1 A2 c2 w2, (∀ ty, (Builtin.append_ #[26, 26] ty #[.slice (some ⟨U.heap.size, 0, none⟩) 0 0, .slice A m c]).run Try.prog (U.alloc (.cells #[] 3)) = .ok (.slice A1 m c1) w1) ∧
      (∀ ty, (Builtin.append_ #[26, 26] ty #[.slice A1 m c1, .slice (some ⟨w1.heap.size, 0, none⟩) 1 1]).run Try.prog (w1.alloc (.cells #[.int .i64 x] 3)) = .ok (.slice A2 (m + 1) c2) w2) ∧ IRow w2 w2.heap.size A2 (xs ++ [x]) ∧ U.grownBy w2 none := by
  obtain ⟨A1, c1, w1, hr1, ho1, hk1⟩ := clone_ints (U := U) (c := c) hr hl (by omega)
  obtain ⟨u2, w2, hr2, ho2, hg2⟩ := push_int (wr := U) x ho1 hk1.size (by omega)
  obtain ⟨A2, c2, rfl⟩ := IOwn.slice ho2
  rw [List.length_append, hl] at hr2 ho2
  exact ⟨A1, c1, w1, A2, c2, w2, hr1, hr2, VOwn.row ho2, grown_joinR (grown_trans hk1 (grown_alloc (grown_refl _ _) _)) hg2 (fun g e => (VOwn.lt ho1 g e).1)⟩
/-- What the sum of the drawn pages tells of one page more. -/
theorem sum_more {N V : Int} {X : List Int} {n : Nat} (hV : ssumV N X = V) (h0 : ¬ V < 0) (hl : X.length = n) (h48 : n ≠ 48) : V < 99991 ∧ ssumV N (X ++ [5]) ≠ ssumV N (X ++ [6]) := by
  rcases ssum_cases N X with ⟨_, h⟩ | ⟨h, _, _, h3⟩
  · omega
  · obtain ⟨_, h2, _⟩ := sumOk_parts h
    refine ⟨by omega, ?_⟩
    rw [ssum_of (sumOk_snoc h (by omega) (by decide)), ssum_of (sumOk_snoc h (by omega) (by decide))]
    exact sum_last N X (by omega) (by omega) (by omega)
theorem sum_neg {N V : Int} {X : List Int} (hV : ssumV N X = V) (h0 : V < 0) : V = -1 := by
  rcases ssum_cases N X with ⟨_, h⟩ | ⟨_, _, h, _⟩ <;> omega
/-- The two answers of SaveTable. -/
theorem save_ways {xss : List (List Int)} {v M S : Int} {X : List Int} (h : saveV xss v = (M, X, S)) : (M = 0 ∧ X = [] ∧ S = 0) ∨ (M = v ∧ X.length = 48 ∧ loadV M X S = (xss, true)) := by
  cases hb : saveB xss v
  · rw [saveV_no hb] at h
    injection h with h1 h
    injection h with h2 h3
    exact .inl ⟨h1.symm, h2.symm, h3.symm⟩
  · rw [saveV_yes hb] at h
    injection h with h1 h
    injection h with h2 h3
    subst h1; subst h2; subst h3
    obtain ⟨h4, h5⟩ := load_save hb
    refine .inr ⟨rfl, ?_, by rw [loadV_yes h4, h5]⟩
    simp only [saveB, Bool.and_eq_true] at hb
    exact tab_flat hb.1
/-- The two answers of LoadTable. -/
theorem load_ways {N S : Int} {X : List Int} {T : List (List Int)} {ok : Bool} (h : loadV N X S = (T, ok)) : (T = [] ∧ ok = false) ∨ (ok = true ∧ tabB T = true ∧ saveV T N = (N, X, S) ∧ 0 ≤ S ∧ S < 99991 ∧ ∃ T', loadV N X (S + 1) = (T', false)) := by
  cases hb : loadB N X S
  · rw [loadV_no hb] at h
    injection h with h1 h2
    exact .inl ⟨h1.symm, h2.symm⟩
  · rw [loadV_yes hb] at h
    injection h with h1 h2
    subst h1; subst h2
    obtain ⟨h3, h4, h5, h6, h7, _⟩ := save_load hb
    refine .inr ⟨rfl, ?_, by rw [saveV_yes h3, h4, h5], h6, h7, _, loadV_no (load_other hb (by omega))⟩
    simp only [saveB, Bool.and_eq_true] at h3
    exact h3.1
theorem loadT_small {N S : Int} {X : List Int} {T : List (List Int)} {ok : Bool} (h : loadV N X S = (T, ok)) : T.length ≤ 8 ∧ ∀ xs, xs ∈ T → xs.length ≤ 1048576 := by
  rcases load_ways h with ⟨rfl, _⟩ | ⟨_, ht, _⟩
  · exact ⟨by simp, fun xs hx => by simp at hx⟩
  · obtain ⟨h8, h6⟩ := tab_shape ht
    exact ⟨by omega, fun xs hx => by rw [h6 xs hx]; omega⟩
theorem ll_small {ls : List Li} {T : List (List Int)} (h : ll ls = T) (hT : ∀ xs, xs ∈ T → xs.length ≤ 1048576) : ∀ l, l ∈ ls → l.xs.length ≤ 1048576 := fun l hl => hT l.xs (by rw [← h]; exact List.mem_map_of_mem hl)
/-- What NewerSave answers, held against the answers of LoadTable. -/
theorem new_ways {N S N' S' M : Int} {X X' : List Int} {T T1 T2 : List (List Int)} {ok o1 o2 : Bool} (h : newV N X S N' X' S' = (T, M, ok)) (h1 : loadV N X S = (T1, o1)) (h2 : loadV N' X' S' = (T2, o2)) :
    (T.length ≤ 8 ∧ ∀ xs, xs ∈ T → xs.length ≤ 1048576) ∧ ((ok = false ∧ o1 = false ∧ o2 = false ∧ M = -1) ∨ (ok = true ∧ tabB T = true ∧ ((o1 = true ∧ o2 = false ∧ M = N) ∨ (o1 = false ∧ o2 = true ∧ M = N') ∨ (o1 = true ∧ o2 = true ∧ N ≤ M ∧ N' ≤ M)))) := by
  have s1 := loadT_small h1
  have s2 := loadT_small h2
  unfold newV at h
  rw [h1, h2] at h
  dsimp only at h
  cases o1 <;> cases o2
  · rw [pick_no] at h
    injection h with h3 h; injection h with h4 h5
    subst h3
    exact ⟨⟨by simp, fun xs hx => by simp at hx⟩, .inl ⟨h5.symm, rfl, rfl, h4.symm⟩⟩
  · rw [pick_two] at h
    injection h with h3 h; injection h with h4 h5
    subst h3
    rcases load_ways h2 with ⟨_, e⟩ | ⟨_, ht, _⟩
    · cases e
    · exact ⟨s2, .inr ⟨h5.symm, ht, .inr (.inl ⟨rfl, rfl, h4.symm⟩)⟩⟩
  · rw [pick_one] at h
    injection h with h3 h; injection h with h4 h5
    subst h3
    rcases load_ways h1 with ⟨_, e⟩ | ⟨_, ht, _⟩
    · cases e
    · exact ⟨s1, .inr ⟨h5.symm, ht, .inl ⟨rfl, rfl, h4.symm⟩⟩⟩
  · by_cases hN : N' ≤ N
    · rw [pick_first _ _ hN] at h
      injection h with h3 h; injection h with h4 h5
      subst h3
      rcases load_ways h1 with ⟨_, e⟩ | ⟨_, ht, _⟩
      · cases e
      · exact ⟨s1, .inr ⟨h5.symm, ht, .inr (.inr ⟨rfl, rfl, by omega, by omega⟩)⟩⟩
    · rw [pick_second _ _ hN] at h
      injection h with h3 h; injection h with h4 h5
      subst h3
      rcases load_ways h2 with ⟨_, e⟩ | ⟨_, ht, _⟩
      · cases e
      · exact ⟨s2, .inr ⟨h5.symm, ht, .inr (.inr ⟨rfl, rfl, by omega, by omega⟩)⟩⟩
end Go.Proofs.Yteniikfgellhfaa
