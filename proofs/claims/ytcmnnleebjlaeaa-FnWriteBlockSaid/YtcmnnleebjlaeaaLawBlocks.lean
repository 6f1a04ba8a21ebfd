/- What the laws of chapter 4 carry along: a drawn block in its variable. -/
import Derived.Test.YtcmnnleebjlaeaaDrawBlocks4
import Derived.Test.YtcmnnleebjlaeaaSame
namespace Go.Proofs.Ytcmnnleebjlaeaa
open Go.ChangeShapes Go.WideShapes Go.ChangeAt Go.RowKit

/-- The variable's block V holds a block whose pages can be read. -/
def LB (w : World) (V : Nat) (m : Int) (A : Option Addr) (n c : Nat) (ps : List Pg) (wr : World) : Prop :=
  Blk wr V 25 #[.int .i64 m, .slice A n c] ∧ Row wr wr.heap.size A ps ∧ Below w.heap.size w wr ∧ w.heap.size ≤ V
theorem LB.start {w wa : World} {m : Int} {A : Option Addr} {n c : Nat} {ps : List Pg} (hr : Row wa wa.heap.size A ps) (hb : Below w.heap.size w wa) : LB w wa.heap.size m A n c ps (wa.alloc (.cells #[.int .i64 m, .slice A n c] 25)) :=
  ⟨Blk.new wa _ _, (hr.alloc _).here, hb.alloc hb.size _, hb.size⟩
theorem LB.keep {w wr w' : World} {V : Nat} {m : Int} {A : Option Addr} {n c : Nat} {ps : List Pg} (h : LB w V m A n c ps wr) (k : wr.grownBy w' none) : LB w V m A n c ps w' :=
  ⟨h.1.keep k, (h.2.1.kept k).here, h.2.2.1.trans (Below.of_kept k h.2.2.1.size), h.2.2.2⟩
theorem LB.cells {w wr : World} {V : Nat} {m : Int} {A : Option Addr} {n c : Nat} {ps : List Pg} (h : LB w V m A n c ps wr) :
    wr.cell? ⟨V, 0, none⟩ = some (.int .i64 m) ∧ wr.cell? ⟨V, 1, none⟩ = some (.slice A n c) ∧ V < wr.heap.size := ⟨h.1.cell 0, h.1.cell 1, h.1.lt⟩
theorem inB_no {n lo hi : Int} (h : inB n lo hi = false) : n < lo ∨ hi < n := by
  simp only [inB, Bool.and_eq_false_iff, decide_eq_false_iff_not] at h
  omega
theorem blockB_nil (m : Int) : blockB m [] = false := by simp [blockB]
theorem blockB_zero {m : Int} {ps : List Pg} (h : blockB m ps = true) : blockB 0 ps = true := by
  obtain ⟨_, h4, ho⟩ := block_parts h
  simp [blockB, inB, h4, ho]
theorem next_new {m : Int} (h : inB m 0 100 = true) : nextV m [pz, pz, pz, pz] = 0 :=
  next_first (new_valid h) (k := 0) (p := pz) rfl rfl (fun j _ hj => absurd hj (by omega))
theorem Own.capn {w : World} {base n c : Nat} {A : Option Addr} {ps : List Pg} (h : Own w base (.slice A n c) ps) (hl : ps.length = n) : n ≤ c ∧ c ≤ maxLen := by
  rcases h.form with ⟨e, rfl⟩ | ⟨g, cap, e, _, _, h1, h2⟩
  · injection e with e1 e2 e3
    subst e2; subst e3
    exact ⟨Nat.le_refl _, Nat.zero_le _⟩
  · injection e with e1 e2 e3
    subst e3
    omega
theorem Row.take {w : World} {B : Nat} {A : Option Addr} {ps : List Pg} (h : Row w B A ps) (k : Nat) : Row w B A (ps.take k) := fun hn => by
  rw [List.length_take] at hn
  obtain ⟨g, off, e, hb, hz, hc⟩ := h (by omega)
  refine ⟨g, off, e, hb, hz, fun i p hp => hc i p ?_⟩
  rw [List.getElem?_take] at hp
  split at hp
  · exact hp
  · cases hp
theorem set_take {ps : List Pg} {k : Nat} {p : Pg} : (ps.set k p).take k = ps.take k := by
  rw [List.take_set_of_le (Nat.le_refl _)]
/-- What is next behind a page that was written. -/
theorem next_after {m : Int} {ps : List Pg} (h : blockB m ps = true) {k : Nat} (hk : nextV m ps = (k : Int)) (h4 : k < 4) {p : Pg} (hp : pgB p = true) (hf : p.f = true) :
    nextV m (ps.set k p) = if k = 3 then -1 else (k : Int) + 1 := by
  have hv := write_valid h hk h4 hp
  obtain ⟨_, hl, ho⟩ := block_parts h
  obtain ⟨a, b, c, d, rfl⟩ := four hl
  unfold nextV at hk ⊢
  rw [if_pos h] at hk
  rw [if_pos hv]
  rw [ord4] at ho
  match k, h4 with
  | 0, _ =>
    show (if cntF [p, b, c, d] = 4 then (-1 : Int) else (cntF [p, b, c, d] : Int)) = _
    cases ha : a.f <;> cases hb : b.f <;> cases hc : c.f <;> cases hd : d.f <;> simp [cntF, ha, hb, hc, hd, hf] at hk ho ⊢
  | 1, _ =>
    show (if cntF [a, p, c, d] = 4 then (-1 : Int) else (cntF [a, p, c, d] : Int)) = _
    cases ha : a.f <;> cases hb : b.f <;> cases hc : c.f <;> cases hd : d.f <;> simp [cntF, ha, hb, hc, hd, hf] at hk ho ⊢
  | 2, _ =>
    show (if cntF [a, b, p, d] = 4 then (-1 : Int) else (cntF [a, b, p, d] : Int)) = _
    cases ha : a.f <;> cases hb : b.f <;> cases hc : c.f <;> cases hd : d.f <;> simp [cntF, ha, hb, hc, hd, hf] at hk ho ⊢
  | 3, _ =>
    show (if cntF [a, b, c, p] = 4 then (-1 : Int) else (cntF [a, b, c, p] : Int)) = _
    cases ha : a.f <;> cases hb : b.f <;> cases hc : c.f <;> cases hd : d.f <;> simp [cntF, ha, hb, hc, hd, hf] at hk ho ⊢
/-- What the number of the next page says of each page. -/
def NextAll (ps : List Pg) (r : Int) : Prop := r < 4 ∧ ∀ (k : Nat) (p : Pg), ps[k]? = some p → p.f = if r < 0 then true else decide ((k : Int) < r)
theorem next_is {m : Int} {ps : List Pg} (h : blockB m ps = true) : ∃ r : Int, nextV m ps = r ∧ NextAll ps r := by
  refine ⟨_, rfl, ?_⟩
  obtain ⟨_, hl, ho⟩ := block_parts h
  obtain ⟨a, b, c, d, rfl⟩ := four hl
  rw [ord4] at ho
  unfold nextV
  rw [if_pos h]
  cases ha : a.f <;> cases hb : b.f <;> cases hc : c.f <;> cases hd : d.f <;> simp [ha, hb, hc, hd] at ho
  all_goals
    simp only [cntF, List.countP_cons, List.countP_nil, ha, hb, hc, hd]
    refine ⟨by decide, fun k p hp => ?_⟩
    match k, hp with
    | 0, hp => simp at hp; subst hp; simp [ha]
    | 1, hp => simp at hp; subst hp; simp [hb]
    | 2, hp => simp at hp; subst hp; simp [hc]
    | 3, hp => simp at hp; subst hp; simp [hd]
    | k + 4, hp => simp at hp
end Go.Proofs.Ytcmnnleebjlaeaa
