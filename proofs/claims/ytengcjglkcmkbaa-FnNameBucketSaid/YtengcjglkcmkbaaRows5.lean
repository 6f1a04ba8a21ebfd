/- Pages in a row of memory: a slice of pages that is read (Row), one that is the call's own (Own); plain facts of chapter 4. -/
import Derived.Test.YtengcjglkcmkbaaRows
import Derived.Test.YtengcjglkcmkbaaBits
import Derived.Test.YtengcjglkcmkbaaDraw
import Derived.Test.YtengcjglkcmkbaaPages
import Derived.Laws.OwnMore
import Derived.Laws.MakeOwn
import Derived.Laws.CopyRow
import Derived.Laws.Entries
import Derived.Maps.AppendAt
namespace Go.Proofs.Ytengcjglkcmkbaa
open Go.ChangeShapes Go.WideShapes Go.ChangeAt Go.RowKit

def pz : Pg := ⟨false, 0, 0, 0, 0⟩
def Pg.val (p : Pg) : Value := .agg #[.bool p.f, .int .i64 p.a, .int .i64 p.b, .int .i64 p.c, .int .i64 p.d]
def pgB (p : Pg) : Bool := pageB p.f p.a p.b p.c p.d
/-- The cells of a row of pages. -/
def pv : List Pg → List Value
  | [] => []
  | p :: r => .bool p.f :: .int .i64 p.a :: .int .i64 p.b :: .int .i64 p.c :: .int .i64 p.d :: pv r
theorem pv_length (ps : List Pg) : (pv ps).length = ps.length * 5 := by
  induction ps with
  | nil => rfl
  | cons p r ih => simp only [pv, List.length_cons, ih]; omega
theorem pv_append (a b : List Pg) : pv (a ++ b) = pv a ++ pv b := by
  induction a with
  | nil => rfl
  | cons p r ih => simp only [List.cons_append, pv, ih]
theorem pv_one (ps : List Pg) : ∀ u ∈ pv ps, u.oneCell' = true := by
  induction ps with
  | nil => intro u hu; simp [pv] at hu
  | cons p r ih =>
    intro u hu
    simp only [pv, List.mem_cons] at hu
    rcases hu with rfl | rfl | rfl | rfl | rfl | hu
    · rfl
    · rfl
    · rfl
    · rfl
    · rfl
    · exact ih u hu
theorem pv_at (ps : List Pg) (i : Nat) (p : Pg) (h : ps[i]? = some p) :
    (pv ps)[i * 5]? = some (.bool p.f) ∧ (pv ps)[i * 5 + 1]? = some (.int .i64 p.a) ∧ (pv ps)[i * 5 + 2]? = some (.int .i64 p.b) ∧ (pv ps)[i * 5 + 3]? = some (.int .i64 p.c) ∧ (pv ps)[i * 5 + 4]? = some (.int .i64 p.d) := by
  induction ps generalizing i with
  | nil => simp at h
  | cons q r ih =>
    cases i with
    | zero => simp at h; subst h; exact ⟨rfl, rfl, rfl, rfl, rfl⟩
    | succ i =>
      have hh := ih i (by simpa using h)
      have e : ∀ j, (pv (q :: r))[(i + 1) * 5 + j]? = (pv r)[i * 5 + j]? := fun j => by
        rw [show (i + 1) * 5 + j = i * 5 + j + 1 + 1 + 1 + 1 + 1 by omega]
        simp only [pv, List.getElem?_cons_succ]
      exact ⟨(e 0).trans hh.1, (e 1).trans hh.2.1, (e 2).trans hh.2.2.1, (e 3).trans hh.2.2.2.1, (e 4).trans hh.2.2.2.2⟩
theorem pv_set (ps : List Pg) (i : Nat) (p : Pg) :
    pv (ps.set i p) = (((((pv ps).set (i * 5) (.bool p.f)).set (i * 5 + 1) (.int .i64 p.a)).set (i * 5 + 2) (.int .i64 p.b)).set (i * 5 + 3) (.int .i64 p.c)).set (i * 5 + 4) (.int .i64 p.d) := by
  induction ps generalizing i with
  | nil => simp [pv]
  | cons q r ih =>
    cases i with
    | zero => simp [pv]
    | succ i =>
      rw [show (i + 1) * 5 = i * 5 + 1 + 1 + 1 + 1 + 1 by omega, show i * 5 + 1 + 1 + 1 + 1 + 1 + 1 = i * 5 + 1 + 1 + 1 + 1 + 1 + 1 from rfl]
      have e2 : i * 5 + 1 + 1 + 1 + 1 + 1 + 2 = (i * 5 + 2) + 1 + 1 + 1 + 1 + 1 := by omega
      have e3 : i * 5 + 1 + 1 + 1 + 1 + 1 + 3 = (i * 5 + 3) + 1 + 1 + 1 + 1 + 1 := by omega
      have e4 : i * 5 + 1 + 1 + 1 + 1 + 1 + 4 = (i * 5 + 4) + 1 + 1 + 1 + 1 + 1 := by omega
      rw [e2, e3, e4]
      simp only [pv, List.set_cons_succ, ih]
theorem pv_made (n : Nat) : (madeCells #[.bool false, .int .i64 0, .int .i64 0, .int .i64 0, .int .i64 0] (n * 5)).toList = pv (List.replicate n pz) := by
  apply List.ext_getElem?
  intro j
  by_cases hj : j < n * 5
  · have hi : (List.replicate n pz)[j / 5]? = some pz := by rw [List.getElem?_replicate]; simp; omega
    obtain ⟨h0, h1, h2, h3, h4⟩ := pv_at _ _ _ hi
    have hm : j % 5 < 5 := Nat.mod_lt _ (by omega)
    have hd : j / 5 * 5 + j % 5 = j := by omega
    have hL : (madeCells #[.bool false, .int .i64 0, .int .i64 0, .int .i64 0, .int .i64 0] (n * 5)).toList[j]? = (#[Value.bool false, .int .i64 0, .int .i64 0, .int .i64 0, .int .i64 0] : Array Value)[j % 5]? := by
      simp only [madeCells, Array.toList_map, Array.toList_range, List.getElem?_map]
      rw [List.getElem?_range hj]
      have hs : (#[Value.bool false, .int .i64 0, .int .i64 0, .int .i64 0, .int .i64 0] : Array Value).size = 5 := rfl
      rw [hs, Option.map_some]
      revert hm
      generalize j % 5 = r
      intro hm
      match r, hm with
      | 0, _ => rfl
      | 1, _ => rfl
      | 2, _ => rfl
      | 3, _ => rfl
      | 4, _ => rfl
    rw [hL]
    match hr : j % 5, hm with
    | 0, _ => rw [hr] at hd; rw [← hd, Nat.add_zero, h0]; simp [pz]
    | 1, _ => rw [hr] at hd; rw [← hd, h1]; simp [pz]
    | 2, _ => rw [hr] at hd; rw [← hd, h2]; simp [pz]
    | 3, _ => rw [hr] at hd; rw [← hd, h3]; simp [pz]
    | 4, _ => rw [hr] at hd; rw [← hd, h4]; simp [pz]
  · rw [List.getElem?_eq_none (by simp [madeCells]; omega), List.getElem?_eq_none (by rw [pv_length]; simp; omega)]

theorem grown_join {a b c : World} {g : Nat} (h : a.grownBy b none) (k : b.grownBy c (some g)) (hg : a.heap.size ≤ g) : a.grownBy c none :=
  ⟨k.os.trans h.os, k.tape.trans h.tape, k.output.trans h.output, Nat.le_trans h.size k.size, fun i hi hne => (k.block i (Nat.lt_of_lt_of_le hi h.size) (by intro e; injection e with e; omega)).trans (h.block i hi hne)⟩
/-- One page in memory. -/
def P5 (w : World) (g o : Nat) (p : Pg) : Prop :=
  w.cell? ⟨g, o, none⟩ = some (.bool p.f) ∧ w.cell? ⟨g, o + 1, none⟩ = some (.int .i64 p.a) ∧ w.cell? ⟨g, o + 2, none⟩ = some (.int .i64 p.b) ∧ w.cell? ⟨g, o + 3, none⟩ = some (.int .i64 p.c) ∧ w.cell? ⟨g, o + 4, none⟩ = some (.int .i64 p.d)
theorem P5.lt {w : World} {g o : Nat} {p : Pg} (h : P5 w g o p) : g < w.heap.size := World.block_lt_of_cell? w _ h.1
theorem P5.keep {w w' : World} {g o : Nat} {p : Pg} (h : P5 w g o p) (hk : ∀ q : Addr, q.block = g → w'.cell? q = w.cell? q) : P5 w' g o p :=
  ⟨(hk _ rfl).trans h.1, (hk _ rfl).trans h.2.1, (hk _ rfl).trans h.2.2.1, (hk _ rfl).trans h.2.2.2.1, (hk _ rfl).trans h.2.2.2.2⟩
theorem P5.kept {w w' : World} {g o : Nat} {p : Pg} (h : P5 w g o p) (hk : w.grownBy w' none) : P5 w' g o p :=
  h.keep fun q hq => World.cell?_of_block (hk.block q.block (by have := h.lt; omega) (by simp))
/-- A slice of pages that lies below block B. -/
def Row (w : World) (B : Nat) (A : Option Addr) (ps : List Pg) : Prop :=
  0 < ps.length → ∃ g off, A = some ⟨g, off, none⟩ ∧ g < B ∧ g < w.heap.size ∧ ∀ i p, ps[i]? = some p → P5 w g (off + i * 5) p
section
variable {w w' : World} {B B' : Nat} {A : Option Addr} {ps : List Pg}
theorem Row.nil : Row w B A [] := fun h => absurd h (by simp)
theorem Row.more (h : Row w B A ps) (hB : B ≤ B') : Row w B' A ps := fun hn => by
  obtain ⟨g, off, e, hb, hz, hc⟩ := h hn
  exact ⟨g, off, e, by omega, hz, hc⟩
theorem Row.keep (h : Row w B A ps) (hz : w.heap.size ≤ w'.heap.size) (hk : ∀ q : Addr, q.block < B → q.block < w.heap.size → w'.cell? q = w.cell? q) : Row w' B A ps := fun hn => by
  obtain ⟨g, off, e, hb, hz', hc⟩ := h hn
  exact ⟨g, off, e, hb, by omega, fun i p hp => (hc i p hp).keep fun q hq => hk q (by omega) (by omega)⟩
theorem Row.kept (h : Row w B A ps) (hg : w.grownBy w' none) : Row w' B A ps := h.keep hg.size fun q _ hq => World.cell?_of_block (hg.block q.block hq (by simp))
theorem Row.grown (h : Row w B A ps) {row : Option Nat} (hg : w.grownBy w' row) (hr : ∀ g, row = some g → B ≤ g) : Row w' B A ps :=
  h.keep hg.size fun q hB hq => World.cell?_of_block (hg.block q.block hq (fun e => by have := hr _ e.symm; omega))
theorem Row.below (h : Row w B A ps) (hb : Below B w w') : Row w' B A ps := h.keep hb.size fun _ hB _ => hb.cell hB
theorem Row.alloc (h : Row w B A ps) (o : Obj) : Row (w.alloc o) B A ps := h.kept (grown_alloc (grown_refl _ _) o)
theorem Row.drew (h : Row w B A ps) : Row w.drew B A ps := h
theorem Row.drewN (h : Row w B A ps) (k : Nat) : Row (w.drewN k) B A ps := h
theorem Row.setCell (h : Row w B A ps) {p : Addr} (hB : B ≤ p.block) (u : Value) : Row (w.setCell p u) B A ps :=
  h.keep (by simp [World.setCell]) fun q hq _ => World.cell?_setCell_other w p q u (fun e => by subst e; omega)
end
section
variable {w w' : World} {base : Nat} {v : Value} {ps : List Pg}
end
/-- copy of elements of any size, onto the head of a row of the call's own, all of it. -/
theorem run_copy_rowN {P : Program} (w : World) (dT sT ty elem : TypeId) (size : Nat) (g o n dCap : Nat) (a : Addr) (sCap : Nat) (cur : Array Value) (t : TypeId) (cs : List Value)
    (hu : P.underlying dT = some (.slice elem)) (hs : (P.info? elem).map (·.size) = some size)
    (hg : w.heap[g]? = some (.cells cur t (0, 0))) (hn : cs.length = n * size)
    (hsrc : ∀ j v, cs[j]? = some v → w.cell? (a.add j) = some v) (hfit : o + cs.length ≤ cur.size) (h1 : ∀ v ∈ cs, v.oneCell' = true) :
    (Builtin.copy_ #[dT, sT] ty #[.slice (some ⟨g, o, none⟩) n dCap, .slice (some a) n sCap]).run P w =
      .ok (goInt n) (w.setRow g (cur.toList.take o ++ cs ++ cur.toList.drop (o + cs.length)).toArray) := by
  have hst := run_storeCells_at P g o t cs 0 cur w hg (by simpa using hfit) h1
  have hf := run_firstCells_some (P := P) w size n a n sCap cs hn hsrc
  cases hq : P.info? elem with
  | none => simp [hq] at hs
  | some i =>
    have hi : i.size = size := by simpa [hq] using hs
    simp [Builtin.copy_, run_underlying hu, Builtin.lenOf, sizeOf, typeInfo, hq, hi, hf, hst]
end Go.Proofs.Ytengcjglkcmkbaa
