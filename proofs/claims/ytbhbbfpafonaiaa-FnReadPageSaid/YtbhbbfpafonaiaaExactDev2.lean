/- The exact laws' helpers for devices, further (under way): toBlockS. -/
import Derived.Test.YtbhbbfpafonaiaaExactDev
namespace Go.Proofs.Ytbhbbfpafonaiaa
open Go.ChangeShapes Go.WideShapes Go.ChangeAt Go.RowKit

/-- A block that is not laid yet. -/
def bz : Bk := ⟨0, none, 0, []⟩
theorem bv_zero (n : Nat) : bv (List.replicate n bz) = (List.replicate n [Value.int .i64 0, .slice none 0 0]).flatten := by
  induction n with
  | zero => rfl
  | succ n ih => simp only [List.replicate_succ, bv, ih, List.flatten_cons]; rfl
theorem bv_made (n : Nat) : (madeCells #[.int .i64 0, .slice none 0 0] (n * 2)).toList = bv (List.replicate n bz) := by
  apply List.ext_getElem?
  intro j
  by_cases hj : j < n * 2
  · have hi : (List.replicate n bz)[j / 2]? = some bz := by rw [List.getElem?_replicate]; simp; omega
    obtain ⟨h0, h1⟩ := bv_at _ _ _ hi
    have hm : j % 2 < 2 := Nat.mod_lt _ (by omega)
    have hd : j / 2 * 2 + j % 2 = j := by omega
    have hL : (madeCells #[.int .i64 0, .slice none 0 0] (n * 2)).toList[j]? = (#[Value.int .i64 0, .slice none 0 0] : Array Value)[j % 2]? := by
      simp only [madeCells, Array.toList_map, Array.toList_range, List.getElem?_map]
      rw [List.getElem?_range hj]
      have hs : (#[Value.int .i64 0, .slice none 0 0] : Array Value).size = 2 := rfl
      rw [hs, Option.map_some]
      revert hm
      generalize j % 2 = r
      intro hm
      match r, hm with
      | 0, _ => rfl
      | 1, _ => rfl
    rw [hL]
    match hr : j % 2, hm with
    | 0, _ => rw [hr] at hd; rw [← hd, Nat.add_zero, h0]; simp [bz]
    | 1, _ => rw [hr] at hd; rw [← hd, h1]; simp [bz, Bk.row]
  · rw [List.getElem?_eq_none (by simp [madeCells]; omega), List.getElem?_eq_none (by rw [bv_length]; simp; omega)]
theorem dev_made (w : World) (base n : Nat) (hb : base ≤ w.heap.size) (hn : n ≤ maxLen) :
    DOwn (w.alloc (.cells (madeCells #[.int .i64 0, .slice none 0 0] (n * 2)) 28)) base (.slice (some ⟨w.heap.size, 0, none⟩) n n) (List.replicate n bz) := by
  refine ⟨?_, fun b hm => ?_, fun i j b b' a a' _ hi _ ha => ?_⟩
  · have h := World.ownsRow_lit (e := 28) (size := 2) w (madeCells #[.int .i64 0, .slice none 0 0] (n * 2)) n hb hn (by simp [madeCells])
    rw [bv_made] at h
    simpa using h
  · rw [List.eq_of_mem_replicate hm]
    exact World.ownsRow_nil _ _ _ _
  · rw [List.eq_of_mem_replicate (List.mem_of_getElem? hi)] at ha
    cases ha
theorem make_blocks (w : World) (n : Nat) (hn : n ≤ 1048576) :
    (Instr.makeSlice 23 (.int .i64 (n : Int)) (.int .i64 (n : Int))).run Try.prog w =
      .ok (.slice (some ⟨w.heap.size, 0, none⟩) n n) (w.alloc (.cells (madeCells #[.int .i64 0, .slice none 0 0] (n * 2)) 28)) := by
  obtain ⟨i, hi, hz, hs, hb⟩ := info_parts block_info
  have hr := run_make (P := Try.prog) w 23 28 i _ Try.underlying23 hi hz .i64 .i64 n n (by omega) (by omega) (by rw [hb]; omega) (by omega)
  simp only [Int.toNat_natCast, hs] at hr
  exact hr
theorem to_step {bs cs : List Bk} {n k : Nat} {m : Int} {Ab A1 : Option Addr} {cb d1 : Nat} {ps : List Pg} (hl : cs.length = n) (hk : k < n) (hcs : (cs.take k).map Bk.is = (bs.take k).map Bk.is) (hcz : ∀ (j : Nat) (b : Bk), k ≤ j → cs[j]? = some b → b = bz) (hb : bs[k]? = some ⟨m, Ab, cb, ps⟩) :
    (cs.set k ⟨m, A1, d1, ps⟩).length = n ∧ ((cs.set k ⟨m, A1, d1, ps⟩).take (k + 1)).map Bk.is = (bs.take (k + 1)).map Bk.is ∧ ∀ (j : Nat) (b : Bk), k + 1 ≤ j → (cs.set k ⟨m, A1, d1, ps⟩)[j]? = some b → b = bz := by
  refine ⟨by simpa using hl, ?_, fun j b hj h => ?_⟩
  · rw [List.take_add_one, List.take_add_one, List.take_set_of_le (Nat.le_refl _), List.getElem?_set_self (by omega), hb, List.map_append, List.map_append, hcs]
    rfl
  · rw [List.getElem?_set_ne (by omega)] at h
    exact hcz j b (by omega) h
/-- The loop that takes blocks over, at block k. -/
def ToRel (w : World) (bs : List Bk) (n k : Nat) (wr : World) : Prop :=
  k ≤ n ∧ w.grownBy wr none ∧ ∃ cs : List Bk, cs.length = n ∧ (cs.take k).map Bk.is = (bs.take k).map Bk.is ∧ (∀ (j : Nat) (b : Bk), k ≤ j → cs[j]? = some b → b = bz) ∧ DOwn wr w.heap.size (.slice (some ⟨w.heap.size, 0, none⟩) n n) cs
end Go.Proofs.Ytbhbbfpafonaiaa
