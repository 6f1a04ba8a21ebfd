/- What the program's functions of chapter 5 answer: DeviceValid, FreePages.
   What the program's functions of chapter 5 answer, further: ReadPage.
   What the model's FreePages answers; counts of pages by their numbers.
   What the program's functions of chapter 5 answer, further: copyDevice, NewDevice.
   What chapter 5 answers, further: EraseAt of both.
   What chapter 5 answers, further: Program of the program.
   What chapter 5 answers, further: Program of the model.
   What chapter 5 answers, further: Program of other arguments. -/
import Derived.Test.YtlldmbocaloogaaDevices
import Derived.Test.YtlldmbocaloogaaAggRows
namespace Go.Proofs.Ytlldmbocaloogaa
open Go.ChangeShapes Go.WideShapes Go.ChangeAt Go.RowKit

def allB (bs : List Bk) : Bool := bs.all fun b => blockB b.m b.ps
theorem all_no {bs : List Bk} {k : Nat} {b : Bk} (hp : bs[k]? = some b) (h : blockB b.m b.ps = false) : allB bs = false := by
  unfold allB
  rw [List.all_eq_false]
  exact ⟨b, List.mem_of_getElem? hp, by simp [h]⟩
theorem all_yes {bs : List Bk} (h : ∀ (j : Nat) (b : Bk), bs[j]? = some b → blockB b.m b.ps = true) : allB bs = true := by
  unfold allB
  rw [List.all_eq_true]
  intro b hb
  obtain ⟨j, hj⟩ := List.getElem?_of_mem hb
  exact h j b hj
/-- How many pages are not written. -/
def freeV (bs : List Bk) : Nat := (bs.map fun b => 4 - cntF b.ps).sum
theorem free_take {bs : List Bk} {k : Nat} {b : Bk} (h : bs[k]? = some b) : freeV (bs.take (k + 1)) = freeV (bs.take k) + (4 - cntF b.ps) := by
  unfold freeV
  rw [List.take_add_one, h, List.map_append, List.sum_append]
  simp
theorem free_le (bs : List Bk) : freeV bs ≤ 4 * bs.length := by
  induction bs with
  | nil => simp [freeV]
  | cons p r ih =>
    simp only [freeV, List.map_cons, List.sum_cons, List.length_cons] at ih ⊢
    omega
end Go.Proofs.Ytlldmbocaloogaa
namespace Go.Proofs.Ytlldmbocaloogaa
open Go.ChangeShapes Go.WideShapes Go.ChangeAt Go.RowKit

/-- There is such a page. -/
def hasP (n : Nat) (a : Int) : Bool := decide (0 ≤ a) && decide (a < 4 * (n : Int))
end Go.Proofs.Ytlldmbocaloogaa
namespace Go.Proofs.Ytlldmbocaloogaa
open Go.ChangeShapes Go.WideShapes Go.ChangeAt Go.RowKit

/-- All pages of a device, in order. -/
def allP (bs : List Bk) : List Pg := bs.flatMap fun b => b.ps
theorem allP_at {bs : List Bk} (h : ∀ b, b ∈ bs → b.ps.length = 4) (a : Nat) : (allP bs)[a]? = pageAt bs a := by
  induction bs generalizing a with
  | nil => simp [allP, pageAt]
  | cons b r ih =>
    have hb : b.ps.length = 4 := h b (by simp)
    have e : allP (b :: r) = b.ps ++ allP r := by simp [allP]
    rw [e]
    rcases Nat.lt_or_ge a 4 with h4 | h4
    · rw [List.getElem?_append_left (by omega)]
      have e1 : a / 4 = 0 := by omega
      have e2 : a % 4 = a := by omega
      simp [pageAt, e1, e2]
    · rw [List.getElem?_append_right (by omega), hb, ih (fun b hm => h b (by simp [hm]))]
      have e1 : a / 4 = (a - 4) / 4 + 1 := by omega
      have e2 : a % 4 = (a - 4) % 4 := by omega
      simp only [pageAt, e1, e2, List.getElem?_cons_succ]
theorem allP_length {bs : List Bk} (h : ∀ b, b ∈ bs → b.ps.length = 4) : (allP bs).length = 4 * bs.length := by
  induction bs with
  | nil => rfl
  | cons b r ih =>
    have hb : b.ps.length = 4 := h b (by simp)
    have := ih (fun b hm => h b (by simp [hm]))
    simp only [allP, List.flatMap_cons, List.length_append, List.length_cons] at this ⊢
    omega
/-- How many of the pages before number a are not written; and are. -/
def freeTo (bs : List Bk) (a : Nat) : Nat := ((allP bs).take a).countP fun p => !p.f
def fullTo (bs : List Bk) (a : Nat) : Nat := cntF ((allP bs).take a)
theorem freeTo_step {bs : List Bk} (h : ∀ b, b ∈ bs → b.ps.length = 4) {a : Nat} {p : Pg} (hp : pageAt bs a = some p) : freeTo bs (a + 1) = freeTo bs a + if p.f then 0 else 1 := by
  rw [← allP_at h] at hp
  unfold freeTo
  rw [List.take_add_one, hp, List.countP_append]
  cases hf : p.f <;> simp [hf]
theorem fullTo_step {bs : List Bk} (h : ∀ b, b ∈ bs → b.ps.length = 4) {a : Nat} {p : Pg} (hp : pageAt bs a = some p) : fullTo bs (a + 1) = fullTo bs a + if p.f then 1 else 0 := by
  rw [← allP_at h] at hp
  exact cnt_take hp
theorem freeTo_le (bs : List Bk) (a : Nat) : freeTo bs a ≤ a := Nat.le_trans List.countP_le_length (by rw [List.length_take]; exact Nat.min_le_left _ _)
theorem fullTo_le (bs : List Bk) (a : Nat) : fullTo bs a ≤ a := Nat.le_trans List.countP_le_length (by rw [List.length_take]; exact Nat.min_le_left _ _)
theorem free_cnt (ps : List Pg) : (ps.countP fun p => !p.f) + cntF ps = ps.length := by
  unfold cntF
  induction ps with
  | nil => rfl
  | cons p r ih => cases hf : p.f <;> simp [hf] <;> omega
theorem freeTo_end {bs : List Bk} (h : ∀ b, b ∈ bs → b.ps.length = 4) : freeTo bs (4 * bs.length) = freeV bs := by
  unfold freeTo
  rw [List.take_of_length_le (by rw [allP_length h]; omega)]
  induction bs with
  | nil => rfl
  | cons b r ih =>
    have hb : b.ps.length = 4 := h b (by simp)
    have h1 := ih (fun b hm => h b (by simp [hm]))
    have h2 := free_cnt b.ps
    simp only [allP, freeV, List.flatMap_cons, List.countP_append, List.map_cons, List.sum_cons] at h1 ⊢
    omega
theorem both_end {bs : List Bk} (h : ∀ b, b ∈ bs → b.ps.length = 4) : freeV bs + fullTo bs (4 * bs.length) = 4 * bs.length := by
  rw [← freeTo_end h]
  unfold freeTo fullTo
  rw [List.take_of_length_le (by rw [allP_length h]; omega), free_cnt, allP_length h]
theorem page_some {bs : List Bk} (h : ∀ b, b ∈ bs → b.ps.length = 4) {a : Nat} (ha : a < 4 * bs.length) : ∃ p, pageAt bs a = some p := by
  rw [← allP_at h]
  exact ⟨_, List.getElem?_eq_getElem (by rw [allP_length h]; omega)⟩
end Go.Proofs.Ytlldmbocaloogaa
namespace Go.Proofs.Ytlldmbocaloogaa
open Go.ChangeShapes Go.WideShapes Go.ChangeAt Go.RowKit

/-- A new device of n blocks. -/
def zs (n : Nat) : List Bk := List.replicate n ⟨0, none, 0, [pz, pz, pz, pz]⟩
theorem zs_at {n k : Nat} (h : k < n) : (zs n)[k]? = some ⟨0, none, 0, [pz, pz, pz, pz]⟩ := by simp [zs, h]
theorem zs_length (n : Nat) : (zs n).length = n := by simp [zs]
end Go.Proofs.Ytlldmbocaloogaa
namespace Go.Proofs.Ytlldmbocaloogaa
open Go.ChangeShapes Go.WideShapes Go.ChangeAt Go.RowKit

/-- There is such a block. -/
def hasB (n : Nat) (a : Int) : Bool := decide (0 ≤ a) && decide (a < (n : Int))
theorem hasB_in {n : Nat} {a : Int} (h : hasB n a = false) : inB a 0 ((n : Int) - 1) = false := by
  cases h2 : inB a 0 ((n : Int) - 1)
  · rfl
  · obtain ⟨h3, h4⟩ := inB_iff.1 h2
    simp [hasB] at h
    omega
end Go.Proofs.Ytlldmbocaloogaa
namespace Go.Proofs.Ytlldmbocaloogaa
open Go.ChangeShapes Go.WideShapes Go.ChangeAt Go.RowKit

/-- Block k of a device, of four pages. -/
def BAt (bs : List Bk) (k : Nat) (m : Int) (Ab : Option Addr) (cb : Nat) (ps : List Pg) : Prop := bs[k]? = some ⟨m, Ab, cb, ps⟩ ∧ ps.length = 4
section
variable {w wr w' : World} {A : Option Addr} {bs : List Bk} {x1 x2 x3 x4 : Int}
end
theorem write_len {m : Int} {ps ps1 : List Pg} {x1 x2 x3 x4 r : Int} (h : WriteIs m ps true x1 x2 x3 x4 m 4 ps1 r) (hp : ps.length = 4) : ps1.length = 4 := by
  rcases h with ⟨_, _, h4, _⟩ | ⟨_, _, _, _, _, _, rfl, _⟩ | ⟨k, _, _, _, _, _, _, _, rfl, _⟩
  · omega
  · exact hp
  · rw [List.length_set]; exact hp
/-- The number that Program tells. -/
def progV (k : Nat) (r : Int) : Int := if r < 0 then -1 else (k : Int) * 4 + r
theorem progV_pos (k : Nat) {r : Int} (h : 0 ≤ r) : progV k r = (k : Int) * 4 + r := by
  unfold progV
  rw [if_neg (by omega)]
end Go.Proofs.Ytlldmbocaloogaa
namespace Go.Proofs.Ytlldmbocaloogaa
open Go.ChangeShapes Go.WideShapes Go.ChangeAt Go.RowKit

end Go.Proofs.Ytlldmbocaloogaa
namespace Go.Proofs.Ytlldmbocaloogaa
open Go.ChangeShapes Go.WideShapes Go.ChangeAt Go.RowKit

theorem hasB_iff {n : Nat} {a : Int} (h : hasB n a = true) : 0 ≤ a ∧ a ≤ (n : Int) - 1 := by
  simp [hasB] at h
  omega
end Go.Proofs.Ytlldmbocaloogaa
