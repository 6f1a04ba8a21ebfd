/- Pages in a row of memory: a slice of pages that is read (Row), one that is the call's own (Own); plain facts of chapter 4.
   What the functions of chapter 4 answer, of the program and of the model, for every block.
   Chapter 4, further: BlockValid of the model, BlockNext of both.
   Chapter 4, further: BlockNext, copies and new blocks of both.
   Chapter 4, further: copies and new blocks of both.
   Chapter 4, further: the model's copy.
   Chapter 4, further: WriteBlock and EraseBlock of both.
   Chapter 4, further: WriteBlock where a page is written.
   Chapter 4, further: EraseBlock of both. -/
import Derived.Test.YtlldmbocaloogaaRows
import Derived.Test.YtlldmbocaloogaaBits
import Derived.Test.YtlldmbocaloogaaDraw
import Derived.Test.YtlldmbocaloogaaPages
import Derived.Test.YtlldmbocaloogaaDrawPages
import Derived.Test.YtlldmbocaloogaaHand
import Derived.Laws.OwnMore
import Derived.Laws.MakeOwn
import Derived.Laws.CopyRow
import Derived.Laws.Entries
import Derived.Maps.AppendAt
import Derived.Deep.RegionHeld3
import Derived.Deep.DeepCutAuto
import Derived.Outline
namespace Go.Proofs.Ytlldmbocaloogaa
open Go.ChangeShapes Go.WideShapes Go.ChangeAt Go.RowKit

def pz : Pg := ⟨false, 0, 0, 0, 0⟩
def Pg.val (p : Pg) : Value := .agg #[.bool p.f, .int .i64 p.a, .int .i64 p.b, .int .i64 p.c, .int .i64 p.d]
def pgB (p : Pg) : Bool := pageB p.f p.a p.b p.c p.d
/-- The cells of a row of pages. -/
def pv : List Pg → List Value
  | [] => []
  | p :: r => .bool p.f :: .int .i64 p.a :: .int .i64 p.b :: .int .i64 p.c :: .int .i64 p.d :: pv r
theorem pv_length (ps : List Pg) : (pv ps).length = ps.length * 5 := by
  induction ps with
  | nil => rfl
  | cons p r ih => simp only [pv, List.length_cons, ih]; omega
theorem pv_append (a b : List Pg) : pv (a ++ b) = pv a ++ pv b := by
  induction a with
  | nil => rfl
  | cons p r ih => simp only [List.cons_append, pv, ih]
theorem pv_one (ps : List Pg) : ∀ u ∈ pv ps, u.oneCell' = true := by
  induction ps with
  | nil => intro u hu; simp [pv] at hu
  | cons p r ih =>
    intro u hu
    simp only [pv, List.mem_cons] at hu
    rcases hu with rfl | rfl | rfl | rfl | rfl | hu
    · rfl
    · rfl
    · rfl
    · rfl
    · rfl
    · exact ih u hu
theorem pv_at (ps : List Pg) (i : Nat) (p : Pg) (h : ps[i]? = some p) :
    (pv ps)[i * 5]? = some (.bool p.f) ∧ (pv ps)[i * 5 + 1]? = some (.int .i64 p.a) ∧ (pv ps)[i * 5 + 2]? = some (.int .i64 p.b) ∧ (pv ps)[i * 5 + 3]? = some (.int .i64 p.c) ∧ (pv ps)[i * 5 + 4]? = some (.int .i64 p.d) := by
  induction ps generalizing i with
  | nil => simp at h
  | cons q r ih =>
    cases i with
    | zero => simp at h; subst h; exact ⟨rfl, rfl, rfl, rfl, rfl⟩
    | succ i =>
      have hh := ih i (by simpa using h)
      have e : ∀ j, (pv (q :: r))[(i + 1) * 5 + j]? = (pv r)[i * 5 + j]? := fun j => by
        rw [show (i + 1) * 5 + j = i * 5 + j + 1 + 1 + 1 + 1 + 1 by omega]
        simp only [pv, List.getElem?_cons_succ]
      exact ⟨(e 0).trans hh.1, (e 1).trans hh.2.1, (e 2).trans hh.2.2.1, (e 3).trans hh.2.2.2.1, (e 4).trans hh.2.2.2.2⟩
theorem pv_set (ps : List Pg) (i : Nat) (p : Pg) :
    pv (ps.set i p) = (((((pv ps).set (i * 5) (.bool p.f)).set (i * 5 + 1) (.int .i64 p.a)).set (i * 5 + 2) (.int .i64 p.b)).set (i * 5 + 3) (.int .i64 p.c)).set (i * 5 + 4) (.int .i64 p.d) := by
  induction ps generalizing i with
  | nil => simp [pv]
  | cons q r ih =>
    cases i with
    | zero => simp [pv]
    | succ i =>
      rw [show (i + 1) * 5 = i * 5 + 1 + 1 + 1 + 1 + 1 by omega, show i * 5 + 1 + 1 + 1 + 1 + 1 + 1 = i * 5 + 1 + 1 + 1 + 1 + 1 + 1 from rfl]
      have e2 : i * 5 + 1 + 1 + 1 + 1 + 1 + 2 = (i * 5 + 2) + 1 + 1 + 1 + 1 + 1 := by omega
      have e3 : i * 5 + 1 + 1 + 1 + 1 + 1 + 3 = (i * 5 + 3) + 1 + 1 + 1 + 1 + 1 := by omega
      have e4 : i * 5 + 1 + 1 + 1 + 1 + 1 + 4 = (i * 5 + 4) + 1 + 1 + 1 + 1 + 1 := by omega
      rw [e2, e3, e4]
      simp only [pv, List.set_cons_succ, ih]
theorem pv_made (n : Nat) : (madeCells #[.bool false, .int .i64 0, .int .i64 0, .int .i64 0, .int .i64 0] (n * 5)).toList = pv (List.replicate n pz) := by
  apply List.ext_getElem?
  intro j
  by_cases hj : j < n * 5
  · have hi : (List.replicate n pz)[j / 5]? = some pz := by rw [List.getElem?_replicate]; simp; omega
    obtain ⟨h0, h1, h2, h3, h4⟩ := pv_at _ _ _ hi
    have hm : j % 5 < 5 := Nat.mod_lt _ (by omega)
    have hd : j / 5 * 5 + j % 5 = j := by omega
    have hL : (madeCells #[.bool false, .int .i64 0, .int .i64 0, .int .i64 0, .int .i64 0] (n * 5)).toList[j]? = (#[Value.bool false, .int .i64 0, .int .i64 0, .int .i64 0, .int .i64 0] : Array Value)[j % 5]? := by
      simp only [madeCells, Array.toList_map, Array.toList_range, List.getElem?_map]
      rw [List.getElem?_range hj]
      have hs : (#[Value.bool false, .int .i64 0, .int .i64 0, .int .i64 0, .int .i64 0] : Array Value).size = 5 := rfl
      rw [hs, Option.map_some]
      revert hm
      generalize j % 5 = r
      intro hm
      match r, hm with
      | 0, _ => rfl
      | 1, _ => rfl
      | 2, _ => rfl
      | 3, _ => rfl
      | 4, _ => rfl
    rw [hL]
    match hr : j % 5, hm with
    | 0, _ => rw [hr] at hd; rw [← hd, Nat.add_zero, h0]; simp [pz]
    | 1, _ => rw [hr] at hd; rw [← hd, h1]; simp [pz]
    | 2, _ => rw [hr] at hd; rw [← hd, h2]; simp [pz]
    | 3, _ => rw [hr] at hd; rw [← hd, h3]; simp [pz]
    | 4, _ => rw [hr] at hd; rw [← hd, h4]; simp [pz]
  · rw [List.getElem?_eq_none (by simp [madeCells]; omega), List.getElem?_eq_none (by rw [pv_length]; simp; omega)]

theorem grown_join {a b c : World} {g : Nat} (h : a.grownBy b none) (k : b.grownBy c (some g)) (hg : a.heap.size ≤ g) : a.grownBy c none :=
  ⟨k.os.trans h.os, k.tape.trans h.tape, k.output.trans h.output, Nat.le_trans h.size k.size, fun i hi hne => (k.block i (Nat.lt_of_lt_of_le hi h.size) (by intro e; injection e with e; omega)).trans (h.block i hi hne)⟩
/-- One page in memory. -/
def P5 (w : World) (g o : Nat) (p : Pg) : Prop :=
  w.cell? ⟨g, o, none⟩ = some (.bool p.f) ∧ w.cell? ⟨g, o + 1, none⟩ = some (.int .i64 p.a) ∧ w.cell? ⟨g, o + 2, none⟩ = some (.int .i64 p.b) ∧ w.cell? ⟨g, o + 3, none⟩ = some (.int .i64 p.c) ∧ w.cell? ⟨g, o + 4, none⟩ = some (.int .i64 p.d)
theorem P5.lt {w : World} {g o : Nat} {p : Pg} (h : P5 w g o p) : g < w.heap.size := World.block_lt_of_cell? w _ h.1
theorem P5.keep {w w' : World} {g o : Nat} {p : Pg} (h : P5 w g o p) (hk : ∀ q : Addr, q.block = g → w'.cell? q = w.cell? q) : P5 w' g o p :=
  ⟨(hk _ rfl).trans h.1, (hk _ rfl).trans h.2.1, (hk _ rfl).trans h.2.2.1, (hk _ rfl).trans h.2.2.2.1, (hk _ rfl).trans h.2.2.2.2⟩
theorem P5.kept {w w' : World} {g o : Nat} {p : Pg} (h : P5 w g o p) (hk : w.grownBy w' none) : P5 w' g o p :=
  h.keep fun q hq => World.cell?_of_block (hk.block q.block (by have := h.lt; omega) (by simp))
/-- A slice of pages that lies below block B. -/
def Row (w : World) (B : Nat) (A : Option Addr) (ps : List Pg) : Prop :=
  0 < ps.length → ∃ g off, A = some ⟨g, off, none⟩ ∧ g < B ∧ g < w.heap.size ∧ ∀ i p, ps[i]? = some p → P5 w g (off + i * 5) p
section
variable {w w' : World} {B B' : Nat} {A : Option Addr} {ps : List Pg}
theorem Row.nil : Row w B A [] := fun h => absurd h (by simp)
theorem Row.more (h : Row w B A ps) (hB : B ≤ B') : Row w B' A ps := fun hn => by
  obtain ⟨g, off, e, hb, hz, hc⟩ := h hn
  exact ⟨g, off, e, by omega, hz, hc⟩
theorem Row.keep (h : Row w B A ps) (hz : w.heap.size ≤ w'.heap.size) (hk : ∀ q : Addr, q.block < B → q.block < w.heap.size → w'.cell? q = w.cell? q) : Row w' B A ps := fun hn => by
  obtain ⟨g, off, e, hb, hz', hc⟩ := h hn
  exact ⟨g, off, e, hb, by omega, fun i p hp => (hc i p hp).keep fun q hq => hk q (by omega) (by omega)⟩
theorem Row.kept (h : Row w B A ps) (hg : w.grownBy w' none) : Row w' B A ps := h.keep hg.size fun q _ hq => World.cell?_of_block (hg.block q.block hq (by simp))
theorem Row.grown (h : Row w B A ps) {row : Option Nat} (hg : w.grownBy w' row) (hr : ∀ g, row = some g → B ≤ g) : Row w' B A ps :=
  h.keep hg.size fun q hB hq => World.cell?_of_block (hg.block q.block hq (fun e => by have := hr _ e.symm; omega))
theorem Row.below (h : Row w B A ps) (hb : Below B w w') : Row w' B A ps := h.keep hb.size fun _ hB _ => hb.cell hB
theorem Row.alloc (h : Row w B A ps) (o : Obj) : Row (w.alloc o) B A ps := h.kept (grown_alloc (grown_refl _ _) o)
theorem Row.drew (h : Row w B A ps) : Row w.drew B A ps := h
theorem Row.drewN (h : Row w B A ps) (k : Nat) : Row (w.drewN k) B A ps := h
theorem Row.setCell (h : Row w B A ps) {p : Addr} (hB : B ≤ p.block) (u : Value) : Row (w.setCell p u) B A ps :=
  h.keep (by simp [World.setCell]) fun q hq _ => World.cell?_setCell_other w p q u (fun e => by subst e; omega)
end
section
variable {w w' : World} {base : Nat} {v : Value} {ps : List Pg}
end
/-- copy of elements of any size, onto the head of a row of the call's own, all of it. -/
theorem run_copy_rowN {P : Program} (w : World) (dT sT ty elem : TypeId) (size : Nat) (g o n dCap : Nat) (a : Addr) (sCap : Nat) (cur : Array Value) (t : TypeId) (cs : List Value)
    (hu : P.underlying dT = some (.slice elem)) (hs : (P.info? elem).map (·.size) = some size)
    (hg : w.heap[g]? = some (.cells cur t (0, 0))) (hn : cs.length = n * size)
    (hsrc : ∀ j v, cs[j]? = some v → w.cell? (a.add j) = some v) (hfit : o + cs.length ≤ cur.size) (h1 : ∀ v ∈ cs, v.oneCell' = true) :
    (Builtin.copy_ #[dT, sT] ty #[.slice (some ⟨g, o, none⟩) n dCap, .slice (some a) n sCap]).run P w =
      .ok (goInt n) (w.setRow g (cur.toList.take o ++ cs ++ cur.toList.drop (o + cs.length)).toArray) := by
  have hst := run_storeCells_at P g o t cs 0 cur w hg (by simpa using hfit) h1
  have hf := run_firstCells_some (P := P) w size n a n sCap cs hn hsrc
  cases hq : P.info? elem with
  | none => simp [hq] at hs
  | some i =>
    have hi : i.size = size := by simpa [hq] using hs
    simp [Builtin.copy_, run_underlying hu, Builtin.lenOf, sizeOf, typeInfo, hq, hi, hf, hst]
end Go.Proofs.Ytlldmbocaloogaa
namespace Go.Proofs.Ytlldmbocaloogaa
open Go.ChangeShapes Go.WideShapes Go.ChangeAt Go.RowKit

/-- Page k is valid, and not written after one that is not. -/
def okAt (ps : List Pg) (k : Nat) : Bool := pgB (ps.getD k pz) && (decide (k = 0) || !(ps.getD k pz).f || (ps.getD (k - 1) pz).f)
def ordB (ps : List Pg) : Bool := (List.range ps.length).all (okAt ps)
def blockB (wear : Int) (ps : List Pg) : Bool := inB wear 0 100 && decide (ps.length = 4) && ordB ps
theorem ord_no {ps : List Pg} {k : Nat} (hk : k < ps.length) (h : okAt ps k = false) : ordB ps = false := by
  unfold ordB
  rw [List.all_eq_false]
  exact ⟨k, by simpa using hk, by simp [h]⟩
theorem ord_yes {ps : List Pg} (h : ∀ j, j < ps.length → okAt ps j = true) : ordB ps = true := by
  unfold ordB
  rw [List.all_eq_true]
  exact fun j hj => h j (by simpa using hj)
theorem okAt_of {ps : List Pg} {k : Nat} {p : Pg} (h : ps[k]? = some p) : okAt ps k = (pgB p && (decide (k = 0) || !p.f || (ps.getD (k - 1) pz).f)) := by
  unfold okAt
  rw [List.getD_eq_getElem?_getD, h]
  rfl
theorem okAt_zero {ps : List Pg} {p : Pg} (h : ps[0]? = some p) : okAt ps 0 = pgB p := by rw [okAt_of h]; simp
theorem okAt_succ {ps : List Pg} {j : Nat} {p q : Pg} (h : ps[j + 1]? = some p) (h' : ps[j]? = some q) : okAt ps (j + 1) = (pgB p && (!p.f || q.f)) := by
  rw [okAt_of h, Nat.add_sub_cancel, List.getD_eq_getElem?_getD, h']; simp
theorem ok_step {ps : List Pg} {k : Nat} (h : ∀ j, j < k → okAt ps j = true) (hk : okAt ps k = true) : ∀ j, j < k + 1 → okAt ps j = true := fun j hj => by
  rcases Nat.lt_or_ge j k with h1 | h1
  · exact h j h1
  · obtain rfl : j = k := by omega
    exact hk
theorem getD_at {ps : List Pg} {k : Nat} (h : k < ps.length) : ∃ p, ps[k]? = some p := ⟨_, List.getElem?_eq_getElem h⟩

/-- The loop over the pages, at page k. -/
def OrdRel (w : World) (ps : List Pg) (k : Nat) (wr : World) : Prop := k ≤ ps.length ∧ (∀ j, j < k → okAt ps j = true) ∧ w.grownBy wr none

end Go.Proofs.Ytlldmbocaloogaa
namespace Go.Proofs.Ytlldmbocaloogaa
open Go.ChangeShapes Go.WideShapes Go.ChangeAt Go.RowKit

/-- How many pages are written; BlockNext. -/
def cntF (ps : List Pg) : Nat := ps.countP (·.f)
def nextV (m : Int) (ps : List Pg) : Int := if blockB m ps then (if cntF ps = 4 then -1 else (cntF ps : Int)) else -1
theorem pcnt_le (ps : List Pg) : cntF ps ≤ ps.length := List.countP_le_length
theorem cnt_take {ps : List Pg} {k : Nat} {p : Pg} (h : ps[k]? = some p) : cntF (ps.take (k + 1)) = cntF (ps.take k) + if p.f then 1 else 0 := by
  unfold cntF
  rw [List.take_add_one, h, List.countP_append]
  cases hf : p.f <;> simp [hf]
theorem four {ps : List Pg} (h : ps.length = 4) : ∃ a b c d, ps = [a, b, c, d] := by
  match ps, h with
  | [a, b, c, d], _ => exact ⟨a, b, c, d, rfl⟩
theorem ord4 (a b c d : Pg) : ordB [a, b, c, d] = (pgB a && (pgB b && (!b.f || a.f)) && (pgB c && (!c.f || b.f)) && (pgB d && (!d.f || c.f))) := by
  simp [ordB, okAt, List.range_succ, Bool.and_assoc]
theorem block_parts {m : Int} {ps : List Pg} (h : blockB m ps = true) : inB m 0 100 = true ∧ ps.length = 4 ∧ ordB ps = true := by
  simp only [blockB, Bool.and_eq_true, decide_eq_true_eq] at h
  exact ⟨h.1.1, h.1.2, h.2⟩
/-- The first page that is not written is counted by those before it. -/
theorem next_first {m : Int} {ps : List Pg} (h : blockB m ps = true) {k : Nat} {p : Pg} (hp : ps[k]? = some p) (hf : p.f = false) (hj : ∀ j q, j < k → ps[j]? = some q → q.f = true) : nextV m ps = k := by
  obtain ⟨_, h4, ho⟩ := block_parts h
  obtain ⟨a, b, c, d, rfl⟩ := four h4
  rw [ord4] at ho
  unfold nextV
  rw [if_pos h]
  unfold cntF
  have hk : k < 4 := (List.getElem?_eq_some_iff.1 hp).1
  match k, hk with
  | 0, _ => simp at hp; subst hp; cases hb : b.f <;> cases hc : c.f <;> cases hd : d.f <;> simp [hf, hb, hc, hd] at ho ⊢
  | 1, _ => simp at hp; subst hp; have ha := hj 0 a (by omega) rfl; cases hc : c.f <;> cases hd : d.f <;> simp [hf, ha, hc, hd] at ho ⊢
  | 2, _ => simp at hp; subst hp; have ha := hj 0 a (by omega) rfl; have hb := hj 1 b (by omega) rfl; cases hd : d.f <;> simp [hf, ha, hb, hd] at ho ⊢
  | 3, _ => simp at hp; subst hp; have ha := hj 0 a (by omega) rfl; have hb := hj 1 b (by omega) rfl; have hc := hj 2 c (by omega) rfl; simp [hf, ha, hb, hc]
theorem next_all {m : Int} {ps : List Pg} (h : blockB m ps = true) (hj : ∀ (j : Nat) (q : Pg), ps[j]? = some q → q.f = true) : nextV m ps = -1 := by
  obtain ⟨_, h4, ho⟩ := block_parts h
  obtain ⟨a, b, c, d, rfl⟩ := four h4
  unfold nextV
  rw [if_pos h]
  have ha := hj 0 a rfl; have hb := hj 1 b rfl; have hc := hj 2 c rfl; have hd := hj 3 d rfl
  simp [cntF, ha, hb, hc, hd]
theorem next_no {m : Int} {ps : List Pg} (h : blockB m ps = false) : nextV m ps = -1 := by simp [nextV, h]

end Go.Proofs.Ytlldmbocaloogaa
namespace Go.Proofs.Ytlldmbocaloogaa
open Go.ChangeShapes Go.WideShapes Go.ChangeAt Go.RowKit

/-- The model's loop for the next page, at page k. -/
def NextRel (w : World) (ps : List Pg) (k : Nat) (wr : World) : Prop := k ≤ ps.length ∧ (∀ (j : Nat) (q : Pg), j < k → ps[j]? = some q → q.f = true) ∧ w.grownBy wr none
theorem next_step {ps : List Pg} {k : Nat} {p : Pg} (h : ∀ (j : Nat) (q : Pg), j < k → ps[j]? = some q → q.f = true) (hp : ps[k]? = some p) (hf : p.f = true) : ∀ (j : Nat) (q : Pg), j < k + 1 → ps[j]? = some q → q.f = true := fun j q hj hq => by
  rcases Nat.lt_or_ge j k with h1 | h1
  · exact h j q h1 hq
  · obtain rfl : j = k := by omega
    rw [hp] at hq
    injection hq with hq
    rw [← hq]; exact hf
end Go.Proofs.Ytlldmbocaloogaa
namespace Go.Proofs.Ytlldmbocaloogaa
open Go.ChangeShapes Go.WideShapes Go.ChangeAt Go.RowKit

end Go.Proofs.Ytlldmbocaloogaa
namespace Go.Proofs.Ytlldmbocaloogaa
open Go.ChangeShapes Go.WideShapes Go.ChangeAt Go.RowKit

theorem wp_append_run {P : Program} (w : World) {o : Oper} {a : Act} {K : Act → World → Prop} {Q : Exit → Act → World → Prop} (d s : Operand) (t t' : TypeId)
    (ho : o.op = .call { callee := .builtin .append, args := #[d, s], argTypes := #[t, t'] }) (v u : Value) (hd : a.eval d = v) (hs : a.eval s = u) {v' : Value} {w' : World}
    (hr : ∀ ty, (Builtin.append_ #[t, t'] ty #[v, u]).run P w = .ok v' w') (h : K (a.put o.dst v') w') : o.wp P a w K Q := by
  unfold Oper.wp execOp
  simp only [ho, resolve, invoke, builtin, Sem.run_bind, Sem.run_pure, Result.andThen_ok, List.map_toArray, List.map_cons, List.map_nil, hd, hs, hr]
  exact h
theorem step_append_run {P : Program} (w : World) {ops : Array Oper} {o : Oper} {a : Act} {K : Act → World → Prop} {Q : Exit → Act → World → Prop} {E : Prop} (hgd : o.guard = none) (d s : Operand) (t t' : TypeId)
    (ho : o.op = .call { callee := .builtin .append, args := #[d, s], argTypes := #[t, t'] }) (v u : Value) (hd : a.eval d = v) (hs : a.eval s = u) {v' : Value} {w' : World}
    (hr : ∀ ty, (Builtin.append_ #[t, t'] ty #[v, u]).run P w = .ok v' w') (h : K (a.put o.dst v') w') : if Region.wanted o (yielded ops a.tmps) = true then o.wp P a w K Q else E := by
  have hw : Region.wanted o (yielded ops a.tmps) = true := by simp [Region.wanted, hgd]
  rw [if_pos hw]
  exact wp_append_run w d s t t' ho v u hd hs hr h
end Go.Proofs.Ytlldmbocaloogaa
namespace Go.Proofs.Ytlldmbocaloogaa
open Go.ChangeShapes Go.WideShapes Go.ChangeAt Go.RowKit

theorem le2 (n : Nat) : n ≤ n + 1 + 1 := by omega
theorem Row.here {w : World} {B : Nat} {A : Option Addr} {ps : List Pg} (h : Row w B A ps) : Row w w.heap.size A ps := fun hn => by
  obtain ⟨g, off, e, _, hz, hc⟩ := h hn
  exact ⟨g, off, e, hz, hz, hc⟩
end Go.Proofs.Ytlldmbocaloogaa
namespace Go.Proofs.Ytlldmbocaloogaa
open Go.ChangeShapes Go.WideShapes Go.ChangeAt Go.RowKit

theorem grown_putO {a w : World} {k o : Nat} (h : a.grownBy w none) (hk : a.heap.size ≤ k) (u0 u1 u2 u3 u4 : Value) :
    a.grownBy (((((w.setCell ⟨k, o, none⟩ u0).setCell ⟨k, o + 1, none⟩ u1).setCell ⟨k, o + 2, none⟩ u2).setCell ⟨k, o + 3, none⟩ u3).setCell ⟨k, o + 4, none⟩ u4) none :=
  grown_put (grown_put (grown_put (grown_put (grown_put h hk u0) hk u1) hk u2) hk u3) hk u4
end Go.Proofs.Ytlldmbocaloogaa
namespace Go.Proofs.Ytlldmbocaloogaa
open Go.ChangeShapes Go.WideShapes Go.ChangeAt Go.RowKit

theorem inB_iff {n lo hi : Int} : inB n lo hi = true ↔ lo ≤ n ∧ n ≤ hi := by simp [inB]
end Go.Proofs.Ytlldmbocaloogaa
