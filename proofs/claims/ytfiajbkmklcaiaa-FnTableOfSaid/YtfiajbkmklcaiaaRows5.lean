/- Pages in a row of memory: a slice of pages that is read (Row), one that is the call's own (Own); plain facts of chapter 4. -/
import Derived.Test.YtfiajbkmklcaiaaRows
import Derived.Test.YtfiajbkmklcaiaaBits
import Derived.Test.YtfiajbkmklcaiaaDraw
import Derived.Test.YtfiajbkmklcaiaaPages
import Derived.Laws.OwnMore
import Derived.Laws.MakeOwn
import Derived.Laws.CopyRow
import Derived.Laws.Entries
import Derived.Maps.AppendAt
namespace Go.Proofs.Ytfiajbkmklcaiaa
open Go.ChangeShapes Go.WideShapes Go.ChangeAt Go.RowKit

def pz : Pg := ⟨false, 0, 0, 0, 0⟩
def Pg.val (p : Pg) : Value := .agg #[.bool p.f, .int .i64 p.a, .int .i64 p.b, .int .i64 p.c, .int .i64 p.d]
def pgB (p : Pg) : Bool := pageB p.f p.a p.b p.c p.d
/-- The cells of a row of pages. -/
def pv : List Pg → List Value
  | [] => []
  | p :: r => .bool p.f :: .int .i64 p.a :: .int .i64 p.b :: .int .i64 p.c :: .int .i64 p.d :: pv r
theorem pv_length (ps : List Pg) : (pv ps).length = ps.length * 5 := by
  induction ps with
  | nil => rfl
  | cons p r ih => simp only [pv, List.length_cons, ih]; omega
theorem pv_append (a b : List Pg) : pv (a ++ b) = pv a ++ pv b := by
  induction a with
  | nil => rfl
  | cons p r ih => simp only [List.cons_append, pv, ih]
theorem pv_one (ps : List Pg) : ∀ u ∈ pv ps, u.oneCell' = true := by
  induction ps with
  | nil => intro u hu; simp [pv] at hu
  | cons p r ih =>
    intro u hu
    simp only [pv, List.mem_cons] at hu
    rcases hu with rfl | rfl | rfl | rfl | rfl | hu
    · rfl
    · rfl
    · rfl
    · rfl
    · rfl
    · exact ih u hu
theorem pv_at (ps : List Pg) (i : Nat) (p : Pg) (h : ps[i]? = some p) :
    (pv ps)[i * 5]? = some (.bool p.f) ∧ (pv ps)[i * 5 + 1]? = some (.int .i64 p.a) ∧ (pv ps)[i * 5 + 2]? = some (.int .i64 p.b) ∧ (pv ps)[i * 5 + 3]? = some (.int .i64 p.c) ∧ (pv ps)[i * 5 + 4]? = some (.int .i64 p.d) := by
  induction ps generalizing i with
  | nil => simp at h
  | cons q r ih =>
    cases i with
    | zero => simp at h; subst h; exact ⟨rfl, rfl, rfl, rfl, rfl⟩
    | succ i =>
      have hh := ih i (by simpa using h)
      have e : ∀ j, (pv (q :: r))[(i + 1) * 5 + j]? = (pv r)[i * 5 + j]? := fun j => by
        rw [show (i + 1) * 5 + j = i * 5 + j + 1 + 1 + 1 + 1 + 1 by omega]
        simp only [pv, List.getElem?_cons_succ]
      exact ⟨(e 0).trans hh.1, (e 1).trans hh.2.1, (e 2).trans hh.2.2.1, (e 3).trans hh.2.2.2.1, (e 4).trans hh.2.2.2.2⟩
theorem pv_set (ps : List Pg) (i : Nat) (p : Pg) :
    pv (ps.set i p) = (((((pv ps).set (i * 5) (.bool p.f)).set (i * 5 + 1) (.int .i64 p.a)).set (i * 5 + 2) (.int .i64 p.b)).set (i * 5 + 3) (.int .i64 p.c)).set (i * 5 + 4) (.int .i64 p.d) := by
  induction ps generalizing i with
  | nil => simp [pv]
  | cons q r ih =>
    cases i with
    | zero => simp [pv]
    | succ i =>
      rw [show (i + 1) * 5 = i * 5 + 1 + 1 + 1 + 1 + 1 by omega, show i * 5 + 1 + 1 + 1 + 1 + 1 + 1 = i * 5 + 1 + 1 + 1 + 1 + 1 + 1 from rfl]
      have e2 : i * 5 + 1 + 1 + 1 + 1 + 1 + 2 = (i * 5 + 2) + 1 + 1 + 1 + 1 + 1 := by omega
      have e3 : i * 5 + 1 + 1 + 1 + 1 + 1 + 3 = (i * 5 + 3) + 1 + 1 + 1 + 1 + 1 := by omega
      have e4 : i * 5 + 1 + 1 + 1 + 1 + 1 + 4 = (i * 5 + 4) + 1 + 1 + 1 + 1 + 1 := by omega
      rw [e2, e3, e4]
      simp only [pv, List.set_cons_succ, ih]
theorem pv_made (n : Nat) : (madeCells #[.bool false, .int .i64 0, .int .i64 0, .int .i64 0, .int .i64 0] (n * 5)).toList = pv (List.replicate n pz) := by
  apply List.ext_getElem?
  intro j
  by_cases hj : j < n * 5
  · have hi : (List.replicate n pz)[j / 5]? = some pz := by rw [List.getElem?_replicate]; simp; omega
    obtain ⟨h0, h1, h2, h3, h4⟩ := pv_at _ _ _ hi
    have hm : j % 5 < 5 := Nat.mod_lt _ (by omega)
    have hd : j / 5 * 5 + j % 5 = j := by omega
    have hL : (madeCells #[.bool false, .int .i64 0, .int .i64 0, .int .i64 0, .int .i64 0] (n * 5)).toList[j]? = (#[Value.bool false, .int .i64 0, .int .i64 0, .int .i64 0, .int .i64 0] : Array Value)[j % 5]? := by
      simp only [madeCells, Array.toList_map, Array.toList_range, List.getElem?_map]
      rw [List.getElem?_range hj]
      have hs : (#[Value.bool false, .int .i64 0, .int .i64 0, .int .i64 0, .int .i64 0] : Array Value).size = 5 := rfl
      rw [hs, Option.map_some]
      revert hm
      generalize j % 5 = r
      intro hm
      match r, hm with
      | 0, _ => rfl
      | 1, _ => rfl
      | 2, _ => rfl
      | 3, _ => rfl
      | 4, _ => rfl
    rw [hL]
    match hr : j % 5, hm with
    | 0, _ => rw [hr] at hd; rw [← hd, Nat.add_zero, h0]; simp [pz]
    | 1, _ => rw [hr] at hd; rw [← hd, h1]; simp [pz]
    | 2, _ => rw [hr] at hd; rw [← hd, h2]; simp [pz]
    | 3, _ => rw [hr] at hd; rw [← hd, h3]; simp [pz]
    | 4, _ => rw [hr] at hd; rw [← hd, h4]; simp [pz]
  · rw [List.getElem?_eq_none (by simp [madeCells]; omega), List.getElem?_eq_none (by rw [pv_length]; simp; omega)]

theorem grown_join {a b c : World} {g : Nat} (h : a.grownBy b none) (k : b.grownBy c (some g)) (hg : a.heap.size ≤ g) : a.grownBy c none :=
  ⟨k.os.trans h.os, k.tape.trans h.tape, k.output.trans h.output, Nat.le_trans h.size k.size, fun i hi hne => (k.block i (Nat.lt_of_lt_of_le hi h.size) (by intro e; injection e with e; omega)).trans (h.block i hi hne)⟩
/-- One page in memory. -/
def P5 (w : World) (g o : Nat) (p : Pg) : Prop :=
  w.cell? ⟨g, o, none⟩ = some (.bool p.f) ∧ w.cell? ⟨g, o + 1, none⟩ = some (.int .i64 p.a) ∧ w.cell? ⟨g, o + 2, none⟩ = some (.int .i64 p.b) ∧ w.cell? ⟨g, o + 3, none⟩ = some (.int .i64 p.c) ∧ w.cell? ⟨g, o + 4, none⟩ = some (.int .i64 p.d)
theorem P5.lt {w : World} {g o : Nat} {p : Pg} (h : P5 w g o p) : g < w.heap.size := World.block_lt_of_cell? w _ h.1
theorem P5.keep {w w' : World} {g o : Nat} {p : Pg} (h : P5 w g o p) (hk : ∀ q : Addr, q.block = g → w'.cell? q = w.cell? q) : P5 w' g o p :=
  ⟨(hk _ rfl).trans h.1, (hk _ rfl).trans h.2.1, (hk _ rfl).trans h.2.2.1, (hk _ rfl).trans h.2.2.2.1, (hk _ rfl).trans h.2.2.2.2⟩
theorem P5.kept {w w' : World} {g o : Nat} {p : Pg} (h : P5 w g o p) (hk : w.grownBy w' none) : P5 w' g o p :=
  h.keep fun q hq => World.cell?_of_block (hk.block q.block (by have := h.lt; omega) (by simp))
/-- A slice of pages that lies below block B. -/
def Row (w : World) (B : Nat) (A : Option Addr) (ps : List Pg) : Prop :=
  0 < ps.length → ∃ g off, A = some ⟨g, off, none⟩ ∧ g < B ∧ g < w.heap.size ∧ ∀ i p, ps[i]? = some p → P5 w g (off + i * 5) p
section
variable {w w' : World} {B B' : Nat} {A : Option Addr} {ps : List Pg}
theorem Row.nil : Row w B A [] := fun h => absurd h (by simp)
theorem Row.more (h : Row w B A ps) (hB : B ≤ B') : Row w B' A ps := fun hn => by
  obtain ⟨g, off, e, hb, hz, hc⟩ := h hn
  exact ⟨g, off, e, by omega, hz, hc⟩
theorem Row.keep (h : Row w B A ps) (hz : w.heap.size ≤ w'.heap.size) (hk : ∀ q : Addr, q.block < B → q.block < w.heap.size → w'.cell? q = w.cell? q) : Row w' B A ps := fun hn => by
  obtain ⟨g, off, e, hb, hz', hc⟩ := h hn
  exact ⟨g, off, e, hb, by omega, fun i p hp => (hc i p hp).keep fun q hq => hk q (by omega) (by omega)⟩
theorem Row.kept (h : Row w B A ps) (hg : w.grownBy w' none) : Row w' B A ps := h.keep hg.size fun q _ hq => World.cell?_of_block (hg.block q.block hq (by simp))
theorem Row.grown (h : Row w B A ps) {row : Option Nat} (hg : w.grownBy w' row) (hr : ∀ g, row = some g → B ≤ g) : Row w' B A ps :=
  h.keep hg.size fun q hB hq => World.cell?_of_block (hg.block q.block hq (fun e => by have := hr _ e.symm; omega))
theorem Row.below (h : Row w B A ps) (hb : Below B w w') : Row w' B A ps := h.keep hb.size fun _ hB _ => hb.cell hB
theorem Row.alloc (h : Row w B A ps) (o : Obj) : Row (w.alloc o) B A ps := h.kept (grown_alloc (grown_refl _ _) o)
theorem Row.drew (h : Row w B A ps) : Row w.drew B A ps := h
theorem Row.drewN (h : Row w B A ps) (k : Nat) : Row (w.drewN k) B A ps := h
theorem Row.setCell (h : Row w B A ps) {p : Addr} (hB : B ≤ p.block) (u : Value) : Row (w.setCell p u) B A ps :=
  h.keep (by simp [World.setCell]) fun q hq _ => World.cell?_setCell_other w p q u (fun e => by subst e; omega)
end
/-- A slice of pages that is the call's own: nil, or the head of a block from base on that can be written. -/
def Own (w : World) (base : Nat) (v : Value) (ps : List Pg) : Prop := w.ownsRow base 37 5 v ps.length (pv ps)
section
variable {w w' : World} {base : Nat} {v : Value} {ps : List Pg}
theorem Own.kept {row : Option Nat} (h : Own w base v ps) (hg : w.grownBy w' row) (hne : v.ownBlock = none ∨ v.ownBlock ≠ row) : Own w' base v ps := World.ownsRow.kept h hg hne
theorem Own.keep (h : Own w base v ps) (hg : w.grownBy w' none) : Own w' base v ps := World.ownsRow.kept h hg (by cases v.ownBlock <;> simp)
/-- What an own slice is. -/
theorem Own.form (h : Own w base v ps) : (v = .slice none 0 0 ∧ ps = []) ∨ ∃ g cap, v = .slice (some ⟨g, 0, none⟩) ps.length cap ∧ base ≤ g ∧ g < w.heap.size ∧ ps.length ≤ cap ∧ cap ≤ maxLen := by
  rcases h.2 with ⟨e, hn⟩ | ⟨g, cap, cur, e, hb, hg, hc, hm, _⟩
  · exact .inl ⟨e, List.eq_nil_of_length_eq_zero hn⟩
  · exact .inr ⟨g, cap, e, hb, (Array.getElem?_eq_some_iff.1 hg).1, hc, hm⟩
theorem Own.at_ {g cap n : Nat} (h : Own w base (.slice (some ⟨g, 0, none⟩) n cap) ps) (hn : ps.length = n) {i : Nat} {p : Pg} (hp : ps[i]? = some p) : P5 w g (i * 5) p := by
  subst hn
  have hl : i < ps.length := (List.getElem?_eq_some_iff.1 hp).1
  obtain ⟨h0, h1, h2, h3, h4⟩ := pv_at _ _ _ hp
  exact ⟨(World.ownsRow.cellAt h _ (by omega)).trans h0, (World.ownsRow.cellAt h _ (by omega)).trans h1, (World.ownsRow.cellAt h _ (by omega)).trans h2, (World.ownsRow.cellAt h _ (by omega)).trans h3, (World.ownsRow.cellAt h _ (by omega)).trans h4⟩
theorem Own.frozen {g cap n : Nat} (h : Own w base (.slice (some ⟨g, 0, none⟩) n cap) ps) (hn : ps.length = n) (j : Nat) : w.frozen? ⟨g, j, none⟩ = false := by
  subst hn
  exact World.ownsRow.frozenAt h j
theorem Own.row {A : Option Addr} {n c : Nat} (h : Own w base (.slice A n c) ps) : Row w w.heap.size A ps := fun hpos => by
  rcases h.form with ⟨_, rfl⟩ | ⟨g, cap, e, hb, hlt, _, _⟩
  · simp at hpos
  · injection e with e1 e2 e3
    subst e1; subst e2; subst e3
    exact ⟨g, 0, rfl, hlt, hlt, fun i p hp => by rw [Nat.zero_add]; exact Own.at_ h rfl hp⟩
/-- A page put at an index. -/
theorem Own.set5 {g cap n : Nat} (h : Own w base (.slice (some ⟨g, 0, none⟩) n cap) ps) (hn : ps.length = n) (i : Nat) (p : Pg) :
    Own (((((w.setCell ⟨g, i * 5, none⟩ (.bool p.f)).setCell ⟨g, i * 5 + 1, none⟩ (.int .i64 p.a)).setCell ⟨g, i * 5 + 2, none⟩ (.int .i64 p.b)).setCell ⟨g, i * 5 + 3, none⟩ (.int .i64 p.c)).setCell ⟨g, i * 5 + 4, none⟩ (.int .i64 p.d)) base (.slice (some ⟨g, 0, none⟩) n cap) (ps.set i p) := by
  subst hn
  unfold Own
  rw [List.length_set, pv_set]
  have h0 := (World.ownsRow.stored h (i * 5) (.bool p.f)).1
  have h1 := (World.ownsRow.stored h0 (i * 5 + 1) (.int .i64 p.a)).1
  have h2 := (World.ownsRow.stored h1 (i * 5 + 2) (.int .i64 p.b)).1
  have h3 := (World.ownsRow.stored h2 (i * 5 + 3) (.int .i64 p.c)).1
  exact (World.ownsRow.stored h3 (i * 5 + 4) (.int .i64 p.d)).1
end
/-- A new row of n pages that are not written. -/
theorem own_made (w : World) (base n : Nat) (hb : base ≤ w.heap.size) (hn : n ≤ maxLen) :
    Own (w.alloc (.cells (madeCells #[.bool false, .int .i64 0, .int .i64 0, .int .i64 0, .int .i64 0] (n * 5)) 37)) base (.slice (some ⟨w.heap.size, 0, none⟩) n n) (List.replicate n pz) := by
  have h := World.ownsRow_lit (e := 37) (size := 5) w (madeCells #[.bool false, .int .i64 0, .int .i64 0, .int .i64 0, .int .i64 0] (n * 5)) n hb hn (by simp [madeCells])
  rw [pv_made] at h
  unfold Own
  simpa using h
theorem page_info : (Try.prog.info? 37).map (fun i => (i.zero, i.size, i.bytes)) = some (some (.agg #[.bool false, .int .i64 0, .int .i64 0, .int .i64 0, .int .i64 0]), 5, 40) := by kernel_rfl
theorem make_pages (w : World) (n : Nat) (hn : n ≤ 1048576) :
    (Instr.makeSlice 94 (.int .i64 (n : Int)) (.int .i64 (n : Int))).run Try.prog w =
      .ok (.slice (some ⟨w.heap.size, 0, none⟩) n n) (w.alloc (.cells (madeCells #[.bool false, .int .i64 0, .int .i64 0, .int .i64 0, .int .i64 0] (n * 5)) 37)) := by
  obtain ⟨i, hi, hz, hs, hb⟩ := info_parts page_info
  have hr := run_make (P := Try.prog) w 94 37 i _ Try.underlying94 hi hz .i64 .i64 n n (by omega) (by omega) (by rw [hb]; omega) (by omega)
  simp only [Int.toNat_natCast, hs] at hr
  exact hr

theorem own_made4 (w : World) (base : Nat) (hb : base ≤ w.heap.size) :
    Own (w.alloc (.cells (madeCells #[.bool false, .int .i64 0, .int .i64 0, .int .i64 0, .int .i64 0] 20) 37)) base (.slice (some ⟨w.heap.size, 0, none⟩) 4 4) [pz, pz, pz, pz] :=
  own_made w base 4 hb (by simp [maxLen])
theorem make_pages4 (w : World) :
    (Instr.makeSlice 94 (.int .i64 4) (.int .i64 4)).run Try.prog w =
      .ok (.slice (some ⟨w.heap.size, 0, none⟩) 4 4) (w.alloc (.cells (madeCells #[.bool false, .int .i64 0, .int .i64 0, .int .i64 0, .int .i64 0] 20) 37)) :=
  make_pages w 4 (by omega)
/-- copy of elements of any size, onto the head of a row of the call's own, all of it. -/
theorem run_copy_rowN {P : Program} (w : World) (dT sT ty elem : TypeId) (size : Nat) (g o n dCap : Nat) (a : Addr) (sCap : Nat) (cur : Array Value) (t : TypeId) (cs : List Value)
    (hu : P.underlying dT = some (.slice elem)) (hs : (P.info? elem).map (·.size) = some size)
    (hg : w.heap[g]? = some (.cells cur t (0, 0))) (hn : cs.length = n * size)
    (hsrc : ∀ j v, cs[j]? = some v → w.cell? (a.add j) = some v) (hfit : o + cs.length ≤ cur.size) (h1 : ∀ v ∈ cs, v.oneCell' = true) :
    (Builtin.copy_ #[dT, sT] ty #[.slice (some ⟨g, o, none⟩) n dCap, .slice (some a) n sCap]).run P w =
      .ok (goInt n) (w.setRow g (cur.toList.take o ++ cs ++ cur.toList.drop (o + cs.length)).toArray) := by
  have hst := run_storeCells_at P g o t cs 0 cur w hg (by simpa using hfit) h1
  have hf := run_firstCells_some (P := P) w size n a n sCap cs hn hsrc
  cases hq : P.info? elem with
  | none => simp [hq] at hs
  | some i =>
    have hi : i.size = size := by simpa [hq] using hs
    simp [Builtin.copy_, run_underlying hu, Builtin.lenOf, sizeOf, typeInfo, hq, hi, hf, hst]
/-- copy(d, s) where both have the pages ps. -/
theorem copy_pages (w : World) (base g dCap sCap : Nat) (A : Option Addr) (B n : Nat) (qs ps : List Pg) (hq : qs.length = n) (hp : ps.length = n) (hpos : 0 < n)
    (ho : Own w base (.slice (some ⟨g, 0, none⟩) n dCap) qs) (hr : Row w B A ps) :
    ∃ w', (∀ ty, (Builtin.copy_ #[94, 94] ty #[.slice (some ⟨g, 0, none⟩) n dCap, .slice A n sCap]).run Try.prog w = .ok (.int .i64 (n : Int)) w') ∧ Own w' base (.slice (some ⟨g, 0, none⟩) n dCap) ps ∧ w.grownBy w' (some g) := by
  obtain ⟨ga, off, rfl, _, hz, hc⟩ := hr (by omega)
  rcases ho.2 with ⟨e, hn0⟩ | ⟨g', cap, cur, e, hb, hg, hcap, hm, hsz, htk⟩
  · cases e
  · injection e with e1 e2 e3
    injection e1 with e1
    injection e1 with e1
    subst e1; subst e3
    obtain ⟨i, hi, hzz, hs, hby⟩ := info_parts page_info
    have hlen : (pv ps).length = n * 5 := by rw [pv_length, hp]
    have hsrc : ∀ j v, (pv ps)[j]? = some v → w.cell? ((⟨ga, off, none⟩ : Addr).add j) = some v := by
      intro j v hv
      have hj : j < ps.length * 5 := by rw [← pv_length]; exact (List.getElem?_eq_some_iff.1 hv).1
      have hi : j / 5 < ps.length := by omega
      obtain ⟨c0, c1, c2, c3, c4⟩ := hc _ _ (List.getElem?_eq_getElem hi)
      obtain ⟨h0, h1, h2, h3, h4⟩ := pv_at _ _ _ (List.getElem?_eq_getElem hi)
      have hm : j % 5 < 5 := Nat.mod_lt _ (by omega)
      have hd : j / 5 * 5 + j % 5 = j := by omega
      have hadd : (⟨ga, off, none⟩ : Addr).add j = ⟨ga, off + j, none⟩ := by unfold Addr.add; split <;> simp_all
      rw [hadd]
      match hr : j % 5, hm with
      | 0, _ => rw [hr, Nat.add_zero] at hd; rw [hd] at h0 c0; rw [c0, ← h0, hv]
      | 1, _ => rw [hr] at hd; rw [Nat.add_assoc] at c1; rw [hd] at h1 c1; rw [c1, ← h1, hv]
      | 2, _ => rw [hr] at hd; rw [Nat.add_assoc] at c2; rw [hd] at h2 c2; rw [c2, ← h2, hv]
      | 3, _ => rw [hr] at hd; rw [Nat.add_assoc] at c3; rw [hd] at h3 c3; rw [c3, ← h3, hv]
      | 4, _ => rw [hr] at hd; rw [Nat.add_assoc] at c4; rw [hd] at h4 c4; rw [c4, ← h4, hv]
    have hrun := fun ty => run_copy_rowN (P := Try.prog) w 94 94 ty 37 5 g 0 n dCap ⟨ga, off, none⟩ sCap cur 37 (pv ps) Try.underlying94 (by rw [hi]; simp [hs]) hg hlen hsrc (by rw [hlen, hsz]; omega) (pv_one ps)
    refine ⟨_, hrun, ⟨by rw [hlen, hp], .inr ⟨g, dCap, _, by rw [hp], hb, setRow_heap w g cur _ _ _ hg, by omega, hm, ?_, ?_⟩⟩, ⟨rfl, rfl, rfl, by simp [World.setRow], fun k _ hk => setRow_other w g k _ (by intro e; exact hk (by rw [e]))⟩⟩
    · simp [hlen, hsz]; omega
    · simp [hp, ← hlen]
/-- append([]Page{}, s...): onto a row of the call's own without a page. -/
theorem append_pages (w : World) (base g cap c : Nat) (A : Option Addr) (B n : Nat) (ps : List Pg) (hp : ps.length = n) (hpos : 0 < n) (hn : n ≤ 1048576)
    (ho : Own w base (.slice (some ⟨g, 0, none⟩) 0 cap) []) (hr : Row w B A ps) (hbase : base ≤ w.heap.size) :
    ∃ v' w', (∀ ty, (Builtin.append_ #[94, 94] ty #[.slice (some ⟨g, 0, none⟩) 0 cap, .slice A n c]).run Try.prog w = .ok v' w') ∧ Own w' base v' ps ∧ w.grownBy w' (some g) := by
  obtain ⟨ga, off, rfl, _, hz, hc⟩ := hr (by omega)
  obtain ⟨i, hi, hzz, hs, hby⟩ := info_parts page_info
  have hsrc : ∀ j v, (pv ps)[j]? = some v → w.cell? ((⟨ga, off, none⟩ : Addr).add j) = some v := by
    intro j v hv
    have hj : j < ps.length * 5 := by rw [← pv_length]; exact (List.getElem?_eq_some_iff.1 hv).1
    have hi : j / 5 < ps.length := by omega
    obtain ⟨c0, c1, c2, c3, c4⟩ := hc _ _ (List.getElem?_eq_getElem hi)
    obtain ⟨h0, h1, h2, h3, h4⟩ := pv_at _ _ _ (List.getElem?_eq_getElem hi)
    have hm : j % 5 < 5 := Nat.mod_lt _ (by omega)
    have hd : j / 5 * 5 + j % 5 = j := by omega
    have hadd : (⟨ga, off, none⟩ : Addr).add j = ⟨ga, off + j, none⟩ := by unfold Addr.add; split <;> simp_all
    rw [hadd]
    match hr : j % 5, hm with
    | 0, _ => rw [hr, Nat.add_zero] at hd; rw [hd] at h0 c0; rw [c0, ← h0, hv]
    | 1, _ => rw [hr] at hd; rw [Nat.add_assoc] at c1; rw [hd] at h1 c1; rw [c1, ← h1, hv]
    | 2, _ => rw [hr] at hd; rw [Nat.add_assoc] at c2; rw [hd] at h2 c2; rw [c2, ← h2, hv]
    | 3, _ => rw [hr] at hd; rw [Nat.add_assoc] at c3; rw [hd] at h3 c3; rw [c3, ← h3, hv]
    | 4, _ => rw [hr] at hd; rw [Nat.add_assoc] at c4; rw [hd] at h4 c4; rw [c4, ← h4, hv]
  obtain ⟨v', w', hrun, h2, h3, _, _⟩ := run_append_own_at (P := Try.prog) w base 94 0 37 i _ 5 40 Try.underlying94 hi hzz hs hby rfl (by omega) _ 0 [] ho ⟨ga, off, none⟩ n c (pv ps) (by rw [pv_length, hp]) hsrc (pv_one ps) (by simp only [maxLen]; omega) (by omega) hbase
  refine ⟨v', w', fun _ => hrun, ?_, h3⟩
  unfold Own
  rw [hp]
  simpa using h2
end Go.Proofs.Ytfiajbkmklcaiaa
