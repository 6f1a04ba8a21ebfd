/- The exact laws' helpers for devices (under way): eqBlockS, toBlockS.
   The exact laws' helpers for devices, further (under way): toBlockS. -/
import Derived.Test.YtengcjglkcmkbaaDevices
import Derived.Test.YtengcjglkcmkbaaExactRows
namespace Go.Proofs.Ytengcjglkcmkbaa
open Go.ChangeShapes Go.WideShapes Go.ChangeAt Go.RowKit

theorem D2.kept {w w' : World} {g o : Nat} {b : Bk} (h : D2 w g o b) (hk : w.grownBy w' none) : D2 w' g o b :=
  h.keep fun q hq => World.cell?_of_block (hk.block q.block (by have := h.lt; omega) (by simp))
theorem is_at {bs cs : List Bk} (h : bs.map Bk.is = cs.map Bk.is) {i : Nat} {m : Int} {A : Option Addr} {c : Nat} {ps : List Pg} (hi : bs[i]? = some ⟨m, A, c, ps⟩) : ∃ A' c', cs[i]? = some ⟨m, A', c', ps⟩ := by
  have e : (bs.map Bk.is)[i]? = (cs.map Bk.is)[i]? := by rw [h]
  rw [List.getElem?_map, List.getElem?_map, hi] at e
  cases hc : cs[i]? with
  | none => rw [hc] at e; simp at e
  | some b =>
    rw [hc] at e
    obtain ⟨m', A', c', ps'⟩ := b
    simp [Bk.is] at e
    obtain ⟨rfl, rfl⟩ := e
    exact ⟨A', c', rfl⟩
theorem is_length {bs cs : List Bk} (h : bs.map Bk.is = cs.map Bk.is) : bs.length = cs.length := by
  have := congrArg List.length h
  simpa using this
end Go.Proofs.Ytengcjglkcmkbaa
namespace Go.Proofs.Ytengcjglkcmkbaa
open Go.ChangeShapes Go.WideShapes Go.ChangeAt Go.RowKit

/-- A block that is not laid yet. -/
def bz : Bk := ⟨0, none, 0, []⟩
theorem bv_zero (n : Nat) : bv (List.replicate n bz) = (List.replicate n [Value.int .i64 0, .slice none 0 0]).flatten := by
  induction n with
  | zero => rfl
  | succ n ih => simp only [List.replicate_succ, bv, ih, List.flatten_cons]; rfl
theorem bv_made (n : Nat) : (madeCells #[.int .i64 0, .slice none 0 0] (n * 2)).toList = bv (List.replicate n bz) := by
  apply List.ext_getElem?
  intro j
  by_cases hj : j < n * 2
  · have hi : (List.replicate n bz)[j / 2]? = some bz := by rw [List.getElem?_replicate]; simp; omega
    obtain ⟨h0, h1⟩ := bv_at _ _ _ hi
    have hm : j % 2 < 2 := Nat.mod_lt _ (by omega)
    have hd : j / 2 * 2 + j % 2 = j := by omega
    have hL : (madeCells #[.int .i64 0, .slice none 0 0] (n * 2)).toList[j]? = (#[Value.int .i64 0, .slice none 0 0] : Array Value)[j % 2]? := by
      simp only [madeCells, Array.toList_map, Array.toList_range, List.getElem?_map]
      rw [List.getElem?_range hj]
      have hs : (#[Value.int .i64 0, .slice none 0 0] : Array Value).size = 2 := rfl
      rw [hs, Option.map_some]
      revert hm
      generalize j % 2 = r
      intro hm
      match r, hm with
      | 0, _ => rfl
      | 1, _ => rfl
    rw [hL]
    match hr : j % 2, hm with
    | 0, _ => rw [hr] at hd; rw [← hd, Nat.add_zero, h0]; simp [bz]
    | 1, _ => rw [hr] at hd; rw [← hd, h1]; simp [bz, Bk.row]
  · rw [List.getElem?_eq_none (by simp [madeCells]; omega), List.getElem?_eq_none (by rw [bv_length]; simp; omega)]
theorem to_step {bs cs : List Bk} {n k : Nat} {m : Int} {Ab A1 : Option Addr} {cb d1 : Nat} {ps : List Pg} (hl : cs.length = n) (hk : k < n) (hcs : (cs.take k).map Bk.is = (bs.take k).map Bk.is) (hcz : ∀ (j : Nat) (b : Bk), k ≤ j → cs[j]? = some b → b = bz) (hb : bs[k]? = some ⟨m, Ab, cb, ps⟩) :
    (cs.set k ⟨m, A1, d1, ps⟩).length = n ∧ ((cs.set k ⟨m, A1, d1, ps⟩).take (k + 1)).map Bk.is = (bs.take (k + 1)).map Bk.is ∧ ∀ (j : Nat) (b : Bk), k + 1 ≤ j → (cs.set k ⟨m, A1, d1, ps⟩)[j]? = some b → b = bz := by
  refine ⟨by simpa using hl, ?_, fun j b hj h => ?_⟩
  · rw [List.take_add_one, List.take_add_one, List.take_set_of_le (Nat.le_refl _), List.getElem?_set_self (by omega), hb, List.map_append, List.map_append, hcs]
    rfl
  · rw [List.getElem?_set_ne (by omega)] at h
    exact hcz j b (by omega) h
end Go.Proofs.Ytengcjglkcmkbaa
