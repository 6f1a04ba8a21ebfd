/- What the laws of chapter 5 ask besides: a device behind an empty block, its first block, pages and free pages of a device with a block written. -/
import Derived.Test.YtbhbbfpafonaiaaDrawDev5
namespace Go.Proofs.Ytbhbbfpafonaiaa
open Go.ChangeShapes Go.WideShapes Go.ChangeAt Go.RowKit

/-- append([]Block{{}}, d...). -/
theorem behind_zero {w wr : World} {ad : Addr} {n c : Nat} {bs : List Bk} (hl : bs.length = n) (hn : n ≤ 1000) (H : LD w (some ad) bs wr) :
    ∃ v' w', (∀ ty, (Builtin.append_ #[23, 23] ty #[.slice (some ⟨wr.heap.size, 0, none⟩) 1 1, .slice (some ad) n c]).run Try.prog (wr.alloc (.cells #[.int .i64 0, .slice none 0 0] 28)) = .ok v' w') ∧
      ∃ A' c', v' = .slice A' (1 + n) c' ∧ DRow w' w'.heap.size A' (⟨0, none, 0, []⟩ :: bs) ∧ LD w (some ad) bs w' := by
  obtain ⟨i, hi, hzz, hsz, hby⟩ := info_parts block_info
  have hown : (wr.alloc (.cells #[.int .i64 0, .slice none 0 0] 28)).ownsRow wr.heap.size 28 2 (.slice (some ⟨wr.heap.size, 0, none⟩) 1 1) 1 [.int .i64 0, .slice none 0 0] :=
    World.ownsRow_lit (e := 28) (size := 2) wr #[.int .i64 0, .slice none 0 0] 1 (Nat.le_refl _) (by simp [maxLen]) rfl
  have HA := H.alloc (.cells #[.int .i64 0, .slice none 0 0] 28)
  obtain ⟨v', w', hrun, h2, h3, _, h5⟩ := run_append_own_at (P := Try.prog) (wr.alloc (.cells #[.int .i64 0, .slice none 0 0] 28)) wr.heap.size 23 0 28 i _ 2 32 Try.underlying23 hi hzz hsz hby rfl (by omega) _ 1 _ hown ad n c (bv bs)
    (by rw [bv_length, hl]) HA.1.cell_at (bv_one bs) (by simp only [maxLen]; omega) (by omega) (by simp only [size_alloc1]; omega)
  have hb : (Value.slice (some ⟨wr.heap.size, 0, none⟩) 1 1).ownBlock = some wr.heap.size := rfl
  rw [hb] at h3
  have hz3 := h3.size
  simp only [size_alloc1] at hz3
  have hD : DRow w' wr.heap.size (some ad) bs := (H.1.alloc _).grown h3 (fun g e => by injection e with e; omega)
  have hBl : Below w.heap.size w w' := (H.2.alloc H.2.size _).trans (Below.of_grown h3 H.2.size (by have := H.2.size; simp only [size_alloc1]; omega))
  refine ⟨v', w', fun ty => hrun, ?_⟩
  have hlen : ((⟨0, none, 0, []⟩ : Bk) :: bs).length = 1 + n := by simp; omega
  have ho : w'.ownsRow wr.heap.size 28 2 v' ((⟨0, none, 0, []⟩ : Bk) :: bs).length (bv (⟨0, none, 0, []⟩ :: bs)) := by
    rw [hlen]
    exact h2
  rcases h2.2 with ⟨_, e0⟩ | ⟨g', cap, cur, e, _⟩
  · omega
  · subst e
    refine ⟨_, _, rfl, drow_of ho hlen fun q hq => ?_, hD.here, hBl⟩
    rcases List.mem_cons.1 hq with rfl | hq
    · exact Row.nil
    · exact (hD.2 q hq).here
theorem DRow.take {w : World} {B : Nat} {A : Option Addr} {bs : List Bk} (h : DRow w B A bs) (k : Nat) : DRow w B A (bs.take k) := by
  refine ⟨fun hn => ?_, fun q hq => h.2 q (List.mem_of_mem_take hq)⟩
  rw [List.length_take] at hn
  obtain ⟨g, off, e, hb, hz, hc⟩ := h.1 (by omega)
  refine ⟨g, off, e, hb, hz, fun i q hq => hc i q ?_⟩
  rw [List.getElem?_take] at hq
  split at hq
  · exact hq
  · cases hq
/-- The first block of a valid device is a valid device. -/
theorem dev_one {bs : List Bk} (h : devB bs = true) : devB (bs.take 1) = true := by
  obtain ⟨⟨h1, _⟩, hall⟩ := dev_parts h
  rw [dev_yes (fun j b hb => hall b (List.mem_of_mem_take (List.mem_of_getElem? hb)))]
  rw [List.length_take, Nat.min_eq_left h1]
  rfl
theorem hasP_no {n : Nat} {a : Int} (h : hasP n a = false) : inB a 0 (4 * n - 1) = false := by
  cases h2 : inB a 0 (4 * n - 1)
  · rfl
  · obtain ⟨h3, h4⟩ := inB_iff.1 h2
    simp [hasP] at h
    omega
/-- Pages and free pages, told by what the blocks are. -/
def pageL (l : List (Int × List Pg)) (a : Nat) : Option Pg := (l[a / 4]?).bind fun q => q.2[a % 4]?
theorem page_list {bs : List Bk} {l : List (Int × List Pg)} (h : bs.map Bk.is = l) (a : Nat) : pageAt bs a = pageL l a := by
  subst h
  unfold pageAt pageL
  rw [List.getElem?_map]
  cases bs[a / 4]? <;> rfl
def freeL (l : List (Int × List Pg)) : Nat := (l.map fun q => 4 - cntF q.2).sum
theorem free_list {bs : List Bk} {l : List (Int × List Pg)} (h : bs.map Bk.is = l) : freeV bs = freeL l := by
  subst h
  simp [freeV, freeL, Bk.is, List.map_map, Function.comp_def]
theorem pageL_at {l : List (Int × List Pg)} {k j : Nat} {m : Int} {ps : List Pg} {p : Pg} (hk : l[k]? = some (m, ps)) (hj : j < 4) (hp : ps.length = 4) : pageL (l.set k (m, ps.set j p)) (k * 4 + j) = some p := by
  have e1 : (k * 4 + j) / 4 = k := by omega
  have e2 : (k * 4 + j) % 4 = j := by omega
  have hlt : k < l.length := (List.getElem?_eq_some_iff.1 hk).1
  unfold pageL
  rw [e1, e2, List.getElem?_set_self hlt]
  show (ps.set j p)[j]? = some p
  rw [List.getElem?_set_self (by omega)]
theorem pageL_old {l : List (Int × List Pg)} {k j : Nat} {m : Int} {ps : List Pg} (hk : l[k]? = some (m, ps)) (hj : j < 4) : pageL l (k * 4 + j) = ps[j]? := by
  have e1 : (k * 4 + j) / 4 = k := by omega
  have e2 : (k * 4 + j) % 4 = j := by omega
  unfold pageL
  rw [e1, e2, hk]
  rfl
theorem pageL_ne {l : List (Int × List Pg)} {k j a : Nat} {m : Int} {ps : List Pg} {p : Pg} (hk : l[k]? = some (m, ps)) (ha : a ≠ k * 4 + j) : pageL (l.set k (m, ps.set j p)) a = pageL l a := by
  unfold pageL
  by_cases h : a / 4 = k
  · have hlt : k < l.length := (List.getElem?_eq_some_iff.1 hk).1
    rw [h, List.getElem?_set_self hlt, hk]
    show (ps.set j p)[a % 4]? = ps[a % 4]?
    rw [List.getElem?_set_ne (by omega)]
  · rw [List.getElem?_set_ne (fun e => h e.symm)]
theorem cnt_set {ps : List Pg} {j : Nat} {q p : Pg} (h : ps[j]? = some q) (hq : q.f = false) (hp : p.f = true) : cntF (ps.set j p) = cntF ps + 1 := by
  induction ps generalizing j with
  | nil => simp at h
  | cons x r ih =>
    cases j with
    | zero => simp at h; subst h; simp [cntF, hq, hp]
    | succ j =>
      have := ih (j := j) (by simpa using h)
      simp only [cntF, List.set_cons_succ, List.countP_cons] at this ⊢
      omega
/-- The page that is written next is not written, and is the zero value. -/
theorem next_zero {m : Int} {ps : List Pg} {j : Nat} (hv : blockB m ps = true) (hn : nextV m ps = (j : Int)) (h4 : j < 4) : ps[j]? = some pz := by
  obtain ⟨_, hl, ho⟩ := block_parts hv
  obtain ⟨a, b, c, d, rfl⟩ := four hl
  unfold nextV at hn
  rw [if_pos hv] at hn
  rw [ord4] at ho
  have hz : ∀ q : Pg, pgB q = true → q.f = false → q = pz := fun q hq hf => by
    obtain ⟨f, x1, x2, x3, x4⟩ := q
    simp only at hf
    subst hf
    simp [pgB, pageB] at hq
    simp [pz]
    omega
  simp only [Bool.and_eq_true] at ho
  match j, h4 with
  | 0, _ =>
    have hf : a.f = false := by cases ha : a.f <;> cases hb : b.f <;> cases hc : c.f <;> cases hd : d.f <;> simp [cntF, ha, hb, hc, hd] at hn ho ⊢
    rw [hz a ho.1.1.1 hf]; rfl
  | 1, _ =>
    have hf : b.f = false := by cases ha : a.f <;> cases hb : b.f <;> cases hc : c.f <;> cases hd : d.f <;> simp [cntF, ha, hb, hc, hd] at hn ho ⊢
    rw [hz b ho.1.1.2.1 hf]; rfl
  | 2, _ =>
    have hf : c.f = false := by cases ha : a.f <;> cases hb : b.f <;> cases hc : c.f <;> cases hd : d.f <;> simp [cntF, ha, hb, hc, hd] at hn ho ⊢
    rw [hz c ho.1.2.1 hf]; rfl
  | 3, _ =>
    have hf : d.f = false := by cases ha : a.f <;> cases hb : b.f <;> cases hc : c.f <;> cases hd : d.f <;> simp [cntF, ha, hb, hc, hd] at hn ho ⊢
    rw [hz d ho.2.1 hf]; rfl
theorem freeL_set {l : List (Int × List Pg)} {k : Nat} {m m1 : Int} {ps ps1 : List Pg} (hk : l[k]? = some (m, ps)) (hc : cntF ps1 = cntF ps + 1) (h4 : cntF ps1 ≤ 4) : freeL (l.set k (m1, ps1)) + 1 = freeL l := by
  induction l generalizing k with
  | nil => simp at hk
  | cons q r ih =>
    cases k with
    | zero =>
      simp at hk
      subst hk
      simp only [freeL, List.set_cons_zero, List.map_cons, List.sum_cons]
      omega
    | succ k =>
      have h := ih (k := k) (by simpa using hk)
      simp only [freeL, List.set_cons_succ, List.map_cons, List.sum_cons] at h ⊢
      omega
end Go.Proofs.Ytbhbbfpafonaiaa
