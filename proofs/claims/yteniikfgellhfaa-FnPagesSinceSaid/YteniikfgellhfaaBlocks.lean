/- Pages in a row of memory: a slice of pages that is read (Row), one that is the call's own (Own); plain facts of chapter 4.
   What the functions of chapter 4 answer, of the program and of the model, for every block.
   Chapter 4, further: BlockValid of the model, BlockNext of both.
   Chapter 4, further: BlockNext, copies and new blocks of both.
   Chapter 4, further: copies and new blocks of both.
   Chapter 4, further: the model's copy.
   Chapter 4, further: WriteBlock and EraseBlock of both.
   Chapter 4, further: WriteBlock where a page is written.
   Chapter 4, further: EraseBlock of both. -/
import Derived.Test.YteniikfgellhfaaRows
import Derived.Test.YteniikfgellhfaaBits
import Derived.Test.YteniikfgellhfaaDraw
import Derived.Test.YteniikfgellhfaaPages
import Derived.Test.YteniikfgellhfaaDrawPages
import Derived.Test.YteniikfgellhfaaHand
import Derived.Laws.OwnMore
import Derived.Laws.MakeOwn
import Derived.Laws.CopyRow
import Derived.Laws.Entries
import Derived.Maps.AppendAt
import Derived.Deep.RegionHeld3
import Derived.Deep.DeepCutAuto
import Derived.Outline
namespace Go.Proofs.Yteniikfgellhfaa
open Go.ChangeShapes Go.WideShapes Go.ChangeAt Go.RowKit

def pz : Pg := ⟨false, 0, 0, 0, 0⟩
def Pg.val (p : Pg) : Value := .agg #[.bool p.f, .int .i64 p.a, .int .i64 p.b, .int .i64 p.c, .int .i64 p.d]
def pgB (p : Pg) : Bool := pageB p.f p.a p.b p.c p.d
/-- The cells of a row of pages. -/
def pv : List Pg → List Value
  | [] => []
  | p :: r => .bool p.f :: .int .i64 p.a :: .int .i64 p.b :: .int .i64 p.c :: .int .i64 p.d :: pv r
theorem pv_length (ps : List Pg) : (pv ps).length = ps.length * 5 := by
  induction ps with
  | nil => rfl
  | cons p r ih => simp only [pv, List.length_cons, ih]; omega
theorem pv_append (a b : List Pg) : pv (a ++ b) = pv a ++ pv b := by
  induction a with
  | nil => rfl
  | cons p r ih => simp only [List.cons_append, pv, ih]
theorem pv_one (ps : List Pg) : ∀ u ∈ pv ps, u.oneCell' = true := by
  induction ps with
  | nil => intro u hu; simp [pv] at hu
  | cons p r ih =>
    intro u hu
    simp only [pv, List.mem_cons] at hu
    rcases hu with rfl | rfl | rfl | rfl | rfl | hu
    · rfl
    · rfl
    · rfl
    · rfl
    · rfl
    · exact ih u hu
theorem pv_at (ps : List Pg) (i : Nat) (p : Pg) (h : ps[i]? = some p) :
    (pv ps)[i * 5]? = some (.bool p.f) ∧ (pv ps)[i * 5 + 1]? = some (.int .i64 p.a) ∧ (pv ps)[i * 5 + 2]? = some (.int .i64 p.b) ∧ (pv ps)[i * 5 + 3]? = some (.int .i64 p.c) ∧ (pv ps)[i * 5 + 4]? = some (.int .i64 p.d) := by
  induction ps generalizing i with
  | nil => simp at h
  | cons q r ih =>
    cases i with
    | zero => simp at h; subst h; exact ⟨rfl, rfl, rfl, rfl, rfl⟩
    | succ i =>
      have hh := ih i (by simpa using h)
      have e : ∀ j, (pv (q :: r))[(i + 1) * 5 + j]? = (pv r)[i * 5 + j]? := fun j => by
        rw [show (i + 1) * 5 + j = i * 5 + j + 1 + 1 + 1 + 1 + 1 by omega]
        simp only [pv, List.getElem?_cons_succ]
      exact ⟨(e 0).trans hh.1, (e 1).trans hh.2.1, (e 2).trans hh.2.2.1, (e 3).trans hh.2.2.2.1, (e 4).trans hh.2.2.2.2⟩
theorem pv_set (ps : List Pg) (i : Nat) (p : Pg) :
    pv (ps.set i p) = (((((pv ps).set (i * 5) (.bool p.f)).set (i * 5 + 1) (.int .i64 p.a)).set (i * 5 + 2) (.int .i64 p.b)).set (i * 5 + 3) (.int .i64 p.c)).set (i * 5 + 4) (.int .i64 p.d) := by
  induction ps generalizing i with
  | nil => simp [pv]
  | cons q r ih =>
    cases i with
    | zero => simp [pv]
    | succ i =>
      rw [show (i + 1) * 5 = i * 5 + 1 + 1 + 1 + 1 + 1 by omega, show i * 5 + 1 + 1 + 1 + 1 + 1 + 1 = i * 5 + 1 + 1 + 1 + 1 + 1 + 1 from rfl]
      have e2 : i * 5 + 1 + 1 + 1 + 1 + 1 + 2 = (i * 5 + 2) + 1 + 1 + 1 + 1 + 1 := by omega
      have e3 : i * 5 + 1 + 1 + 1 + 1 + 1 + 3 = (i * 5 + 3) + 1 + 1 + 1 + 1 + 1 := by omega
      have e4 : i * 5 + 1 + 1 + 1 + 1 + 1 + 4 = (i * 5 + 4) + 1 + 1 + 1 + 1 + 1 := by omega
      rw [e2, e3, e4]
      simp only [pv, List.set_cons_succ, ih]
theorem pv_made (n : Nat) : (madeCells #[.bool false, .int .i64 0, .int .i64 0, .int .i64 0, .int .i64 0] (n * 5)).toList = pv (List.replicate n pz) := by
  apply List.ext_getElem?
  intro j
  by_cases hj : j < n * 5
  · have hi : (List.replicate n pz)[j / 5]? = some pz := by rw [List.getElem?_replicate]; simp; omega
    obtain ⟨h0, h1, h2, h3, h4⟩ := pv_at _ _ _ hi
    have hm : j % 5 < 5 := Nat.mod_lt _ (by omega)
    have hd : j / 5 * 5 + j % 5 = j := by omega
    have hL : (madeCells #[.bool false, .int .i64 0, .int .i64 0, .int .i64 0, .int .i64 0] (n * 5)).toList[j]? = (#[Value.bool false, .int .i64 0, .int .i64 0, .int .i64 0, .int .i64 0] : Array Value)[j % 5]? := by
      simp only [madeCells, Array.toList_map, Array.toList_range, List.getElem?_map]
      rw [List.getElem?_range hj]
      have hs : (#[Value.bool false, .int .i64 0, .int .i64 0, .int .i64 0, .int .i64 0] : Array Value).size = 5 := rfl
      rw [hs, Option.map_some]
      revert hm
      generalize j % 5 = r
      intro hm
      match r, hm with
      | 0, _ => rfl
      | 1, _ => rfl
      | 2, _ => rfl
      | 3, _ => rfl
      | 4, _ => rfl
    rw [hL]
    match hr : j % 5, hm with
    | 0, _ => rw [hr] at hd; rw [← hd, Nat.add_zero, h0]; simp [pz]
    | 1, _ => rw [hr] at hd; rw [← hd, h1]; simp [pz]
    | 2, _ => rw [hr] at hd; rw [← hd, h2]; simp [pz]
    | 3, _ => rw [hr] at hd; rw [← hd, h3]; simp [pz]
    | 4, _ => rw [hr] at hd; rw [← hd, h4]; simp [pz]
  · rw [List.getElem?_eq_none (by simp [madeCells]; omega), List.getElem?_eq_none (by rw [pv_length]; simp; omega)]

theorem grown_join {a b c : World} {g : Nat} (h : a.grownBy b none) (k : b.grownBy c (some g)) (hg : a.heap.size ≤ g) : a.grownBy c none :=
  ⟨k.os.trans h.os, k.tape.trans h.tape, k.output.trans h.output, Nat.le_trans h.size k.size, fun i hi hne => (k.block i (Nat.lt_of_lt_of_le hi h.size) (by intro e; injection e with e; omega)).trans (h.block i hi hne)⟩
/-- One page in memory. -/
def P5 (w : World) (g o : Nat) (p : Pg) : Prop :=
  w.cell? ⟨g, o, none⟩ = some (.bool p.f) ∧ w.cell? ⟨g, o + 1, none⟩ = some (.int .i64 p.a) ∧ w.cell? ⟨g, o + 2, none⟩ = some (.int .i64 p.b) ∧ w.cell? ⟨g, o + 3, none⟩ = some (.int .i64 p.c) ∧ w.cell? ⟨g, o + 4, none⟩ = some (.int .i64 p.d)
theorem P5.lt {w : World} {g o : Nat} {p : Pg} (h : P5 w g o p) : g < w.heap.size := World.block_lt_of_cell? w _ h.1
theorem P5.keep {w w' : World} {g o : Nat} {p : Pg} (h : P5 w g o p) (hk : ∀ q : Addr, q.block = g → w'.cell? q = w.cell? q) : P5 w' g o p :=
  ⟨(hk _ rfl).trans h.1, (hk _ rfl).trans h.2.1, (hk _ rfl).trans h.2.2.1, (hk _ rfl).trans h.2.2.2.1, (hk _ rfl).trans h.2.2.2.2⟩
theorem P5.kept {w w' : World} {g o : Nat} {p : Pg} (h : P5 w g o p) (hk : w.grownBy w' none) : P5 w' g o p :=
  h.keep fun q hq => World.cell?_of_block (hk.block q.block (by have := h.lt; omega) (by simp))
/-- A slice of pages that lies below block B. -/
def Row (w : World) (B : Nat) (A : Option Addr) (ps : List Pg) : Prop :=
  0 < ps.length → ∃ g off, A = some ⟨g, off, none⟩ ∧ g < B ∧ g < w.heap.size ∧ ∀ i p, ps[i]? = some p → P5 w g (off + i * 5) p
section
variable {w w' : World} {B B' : Nat} {A : Option Addr} {ps : List Pg}
theorem Row.nil : Row w B A [] := fun h => absurd h (by simp)
theorem Row.more (h : Row w B A ps) (hB : B ≤ B') : Row w B' A ps := fun hn => by
  obtain ⟨g, off, e, hb, hz, hc⟩ := h hn
  exact ⟨g, off, e, by omega, hz, hc⟩
theorem Row.keep (h : Row w B A ps) (hz : w.heap.size ≤ w'.heap.size) (hk : ∀ q : Addr, q.block < B → q.block < w.heap.size → w'.cell? q = w.cell? q) : Row w' B A ps := fun hn => by
  obtain ⟨g, off, e, hb, hz', hc⟩ := h hn
  exact ⟨g, off, e, hb, by omega, fun i p hp => (hc i p hp).keep fun q hq => hk q (by omega) (by omega)⟩
theorem Row.kept (h : Row w B A ps) (hg : w.grownBy w' none) : Row w' B A ps := h.keep hg.size fun q _ hq => World.cell?_of_block (hg.block q.block hq (by simp))
theorem Row.grown (h : Row w B A ps) {row : Option Nat} (hg : w.grownBy w' row) (hr : ∀ g, row = some g → B ≤ g) : Row w' B A ps :=
  h.keep hg.size fun q hB hq => World.cell?_of_block (hg.block q.block hq (fun e => by have := hr _ e.symm; omega))
theorem Row.below (h : Row w B A ps) (hb : Below B w w') : Row w' B A ps := h.keep hb.size fun _ hB _ => hb.cell hB
theorem Row.alloc (h : Row w B A ps) (o : Obj) : Row (w.alloc o) B A ps := h.kept (grown_alloc (grown_refl _ _) o)
theorem Row.drew (h : Row w B A ps) : Row w.drew B A ps := h
theorem Row.drewN (h : Row w B A ps) (k : Nat) : Row (w.drewN k) B A ps := h
theorem Row.setCell (h : Row w B A ps) {p : Addr} (hB : B ≤ p.block) (u : Value) : Row (w.setCell p u) B A ps :=
  h.keep (by simp [World.setCell]) fun q hq _ => World.cell?_setCell_other w p q u (fun e => by subst e; omega)
end
/-- A slice of pages that is the call's own: nil, or the head of a block from base on that can be written. -/
def Own (w : World) (base : Nat) (v : Value) (ps : List Pg) : Prop := w.ownsRow base 30 5 v ps.length (pv ps)
section
variable {w w' : World} {base : Nat} {v : Value} {ps : List Pg}
theorem Own.kept {row : Option Nat} (h : Own w base v ps) (hg : w.grownBy w' row) (hne : v.ownBlock = none ∨ v.ownBlock ≠ row) : Own w' base v ps := World.ownsRow.kept h hg hne
theorem Own.keep (h : Own w base v ps) (hg : w.grownBy w' none) : Own w' base v ps := World.ownsRow.kept h hg (by cases v.ownBlock <;> simp)
/-- What an own slice is. -/
theorem Own.form (h : Own w base v ps) : (v = .slice none 0 0 ∧ ps = []) ∨ ∃ g cap, v = .slice (some ⟨g, 0, none⟩) ps.length cap ∧ base ≤ g ∧ g < w.heap.size ∧ ps.length ≤ cap ∧ cap ≤ maxLen := by
  rcases h.2 with ⟨e, hn⟩ | ⟨g, cap, cur, e, hb, hg, hc, hm, _⟩
  · exact .inl ⟨e, List.eq_nil_of_length_eq_zero hn⟩
  · exact .inr ⟨g, cap, e, hb, (Array.getElem?_eq_some_iff.1 hg).1, hc, hm⟩
theorem Own.at_ {g cap n : Nat} (h : Own w base (.slice (some ⟨g, 0, none⟩) n cap) ps) (hn : ps.length = n) {i : Nat} {p : Pg} (hp : ps[i]? = some p) : P5 w g (i * 5) p := by
  subst hn
  have hl : i < ps.length := (List.getElem?_eq_some_iff.1 hp).1
  obtain ⟨h0, h1, h2, h3, h4⟩ := pv_at _ _ _ hp
  exact ⟨(World.ownsRow.cellAt h _ (by omega)).trans h0, (World.ownsRow.cellAt h _ (by omega)).trans h1, (World.ownsRow.cellAt h _ (by omega)).trans h2, (World.ownsRow.cellAt h _ (by omega)).trans h3, (World.ownsRow.cellAt h _ (by omega)).trans h4⟩
theorem Own.frozen {g cap n : Nat} (h : Own w base (.slice (some ⟨g, 0, none⟩) n cap) ps) (hn : ps.length = n) (j : Nat) : w.frozen? ⟨g, j, none⟩ = false := by
  subst hn
  exact World.ownsRow.frozenAt h j
theorem Own.row {A : Option Addr} {n c : Nat} (h : Own w base (.slice A n c) ps) : Row w w.heap.size A ps := fun hpos => by
  rcases h.form with ⟨_, rfl⟩ | ⟨g, cap, e, hb, hlt, _, _⟩
  · simp at hpos
  · injection e with e1 e2 e3
    subst e1; subst e2; subst e3
    exact ⟨g, 0, rfl, hlt, hlt, fun i p hp => by rw [Nat.zero_add]; exact Own.at_ h rfl hp⟩
/-- A page put at an index. -/
theorem Own.set5 {g cap n : Nat} (h : Own w base (.slice (some ⟨g, 0, none⟩) n cap) ps) (hn : ps.length = n) (i : Nat) (p : Pg) :
    Own (((((w.setCell ⟨g, i * 5, none⟩ (.bool p.f)).setCell ⟨g, i * 5 + 1, none⟩ (.int .i64 p.a)).setCell ⟨g, i * 5 + 2, none⟩ (.int .i64 p.b)).setCell ⟨g, i * 5 + 3, none⟩ (.int .i64 p.c)).setCell ⟨g, i * 5 + 4, none⟩ (.int .i64 p.d)) base (.slice (some ⟨g, 0, none⟩) n cap) (ps.set i p) := by
  subst hn
  unfold Own
  rw [List.length_set, pv_set]
  have h0 := (World.ownsRow.stored h (i * 5) (.bool p.f)).1
  have h1 := (World.ownsRow.stored h0 (i * 5 + 1) (.int .i64 p.a)).1
  have h2 := (World.ownsRow.stored h1 (i * 5 + 2) (.int .i64 p.b)).1
  have h3 := (World.ownsRow.stored h2 (i * 5 + 3) (.int .i64 p.c)).1
  exact (World.ownsRow.stored h3 (i * 5 + 4) (.int .i64 p.d)).1
end
/-- A new row of n pages that are not written. -/
theorem own_made (w : World) (base n : Nat) (hb : base ≤ w.heap.size) (hn : n ≤ maxLen) :
    Own (w.alloc (.cells (madeCells #[.bool false, .int .i64 0, .int .i64 0, .int .i64 0, .int .i64 0] (n * 5)) 30)) base (.slice (some ⟨w.heap.size, 0, none⟩) n n) (List.replicate n pz) := by
  have h := World.ownsRow_lit (e := 30) (size := 5) w (madeCells #[.bool false, .int .i64 0, .int .i64 0, .int .i64 0, .int .i64 0] (n * 5)) n hb hn (by simp [madeCells])
  rw [pv_made] at h
  unfold Own
  simpa using h
theorem page_info : (Try.prog.info? 30).map (fun i => (i.zero, i.size, i.bytes)) = some (some (.agg #[.bool false, .int .i64 0, .int .i64 0, .int .i64 0, .int .i64 0]), 5, 40) := by kernel_rfl
theorem make_pages (w : World) (n : Nat) (hn : n ≤ 1048576) :
    (Instr.makeSlice 85 (.int .i64 (n : Int)) (.int .i64 (n : Int))).run Try.prog w =
      .ok (.slice (some ⟨w.heap.size, 0, none⟩) n n) (w.alloc (.cells (madeCells #[.bool false, .int .i64 0, .int .i64 0, .int .i64 0, .int .i64 0] (n * 5)) 30)) := by
  obtain ⟨i, hi, hz, hs, hb⟩ := info_parts page_info
  have hr := run_make (P := Try.prog) w 85 30 i _ Try.underlying85 hi hz .i64 .i64 n n (by omega) (by omega) (by rw [hb]; omega) (by omega)
  simp only [Int.toNat_natCast, hs] at hr
  exact hr

theorem own_made4 (w : World) (base : Nat) (hb : base ≤ w.heap.size) :
    Own (w.alloc (.cells (madeCells #[.bool false, .int .i64 0, .int .i64 0, .int .i64 0, .int .i64 0] 20) 30)) base (.slice (some ⟨w.heap.size, 0, none⟩) 4 4) [pz, pz, pz, pz] :=
  own_made w base 4 hb (by simp [maxLen])
theorem make_pages4 (w : World) :
    (Instr.makeSlice 85 (.int .i64 4) (.int .i64 4)).run Try.prog w =
      .ok (.slice (some ⟨w.heap.size, 0, none⟩) 4 4) (w.alloc (.cells (madeCells #[.bool false, .int .i64 0, .int .i64 0, .int .i64 0, .int .i64 0] 20) 30)) :=
  make_pages w 4 (by omega)
/-- copy of elements of any size, onto the head of a row of the call's own, all of it. -/
theorem run_copy_rowN {P : Program} (w : World) (dT sT ty elem : TypeId) (size : Nat) (g o n dCap : Nat) (a : Addr) (sCap : Nat) (cur : Array Value) (t : TypeId) (cs : List Value)
    (hu : P.underlying dT = some (.slice elem)) (hs : (P.info? elem).map (·.size) = some size)
    (hg : w.heap[g]? = some (.cells cur t (0, 0))) (hn : cs.length = n * size)
    (hsrc : ∀ j v, cs[j]? = some v → w.cell? (a.add j) = some v) (hfit : o + cs.length ≤ cur.size) (h1 : ∀ v ∈ cs, v.oneCell' = true) :
    (Builtin.copy_ #[dT, sT] ty #[.slice (some ⟨g, o, none⟩) n dCap, .slice (some a) n sCap]).run P w =
      .ok (goInt n) (w.setRow g (cur.toList.take o ++ cs ++ cur.toList.drop (o + cs.length)).toArray) := by
  have hst := run_storeCells_at P g o t cs 0 cur w hg (by simpa using hfit) h1
  have hf := run_firstCells_some (P := P) w size n a n sCap cs hn hsrc
  cases hq : P.info? elem with
  | none => simp [hq] at hs
  | some i =>
    have hi : i.size = size := by simpa [hq] using hs
    simp [Builtin.copy_, run_underlying hu, Builtin.lenOf, sizeOf, typeInfo, hq, hi, hf, hst]
/-- copy(d, s) where both have the pages ps. -/
theorem copy_pages (w : World) (base g dCap sCap : Nat) (A : Option Addr) (B n : Nat) (qs ps : List Pg) (hq : qs.length = n) (hp : ps.length = n) (hpos : 0 < n)
    (ho : Own w base (.slice (some ⟨g, 0, none⟩) n dCap) qs) (hr : Row w B A ps) :
    ∃ w', (∀ ty, (Builtin.copy_ #[85, 85] ty #[.slice (some ⟨g, 0, none⟩) n dCap, .slice A n sCap]).run Try.prog w = .ok (.int .i64 (n : Int)) w') ∧ Own w' base (.slice (some ⟨g, 0, none⟩) n dCap) ps ∧ w.grownBy w' (some g) := by
  obtain ⟨ga, off, rfl, _, hz, hc⟩ := hr (by omega)
  rcases ho.2 with ⟨e, hn0⟩ | ⟨g', cap, cur, e, hb, hg, hcap, hm, hsz, htk⟩
  · cases e
  · injection e with e1 e2 e3
    injection e1 with e1
    injection e1 with e1
    subst e1; subst e3
    obtain ⟨i, hi, hzz, hs, hby⟩ := info_parts page_info
    have hlen : (pv ps).length = n * 5 := by rw [pv_length, hp]
    have hsrc : ∀ j v, (pv ps)[j]? = some v → w.cell? ((⟨ga, off, none⟩ : Addr).add j) = some v := by
      intro j v hv
      have hj : j < ps.length * 5 := by rw [← pv_length]; exact (List.getElem?_eq_some_iff.1 hv).1
      have hi : j / 5 < ps.length := by omega
      obtain ⟨c0, c1, c2, c3, c4⟩ := hc _ _ (List.getElem?_eq_getElem hi)
      obtain ⟨h0, h1, h2, h3, h4⟩ := pv_at _ _ _ (List.getElem?_eq_getElem hi)
      have hm : j % 5 < 5 := Nat.mod_lt _ (by omega)
      have hd : j / 5 * 5 + j % 5 = j := by omega
      have hadd : (⟨ga, off, none⟩ : Addr).add j = ⟨ga, off + j, none⟩ := by unfold Addr.add; split <;> simp_all
      rw [hadd]
      match hr : j % 5, hm with
      | 0, _ => rw [hr, Nat.add_zero] at hd; rw [hd] at h0 c0; rw [c0, ← h0, hv]
      | 1, _ => rw [hr] at hd; rw [Nat.add_assoc] at c1; rw [hd] at h1 c1; rw [c1, ← h1, hv]
      | 2, _ => rw [hr] at hd; rw [Nat.add_assoc] at c2; rw [hd] at h2 c2; rw [c2, ← h2, hv]
      | 3, _ => rw [hr] at hd; rw [Nat.add_assoc] at c3; rw [hd] at h3 c3; rw [c3, ← h3, hv]
      | 4, _ => rw [hr] at hd; rw [Nat.add_assoc] at c4; rw [hd] at h4 c4; rw [c4, ← h4, hv]
    have hrun := fun ty => run_copy_rowN (P := Try.prog) w 85 85 ty 30 5 g 0 n dCap ⟨ga, off, none⟩ sCap cur 30 (pv ps) Try.underlying85 (by rw [hi]; simp [hs]) hg hlen hsrc (by rw [hlen, hsz]; omega) (pv_one ps)
    refine ⟨_, hrun, ⟨by rw [hlen, hp], .inr ⟨g, dCap, _, by rw [hp], hb, setRow_heap w g cur _ _ _ hg, by omega, hm, ?_, ?_⟩⟩, ⟨rfl, rfl, rfl, by simp [World.setRow], fun k _ hk => setRow_other w g k _ (by intro e; exact hk (by rw [e]))⟩⟩
    · simp [hlen, hsz]; omega
    · simp [hp, ← hlen]
/-- append([]Page{}, s...): onto a row of the call's own without a page. -/
theorem append_pages (w : World) (base g cap c : Nat) (A : Option Addr) (B n : Nat) (ps : List Pg) (hp : ps.length = n) (hpos : 0 < n) (hn : n ≤ 1048576)
    (ho : Own w base (.slice (some ⟨g, 0, none⟩) 0 cap) []) (hr : Row w B A ps) (hbase : base ≤ w.heap.size) :
    ∃ v' w', (∀ ty, (Builtin.append_ #[85, 85] ty #[.slice (some ⟨g, 0, none⟩) 0 cap, .slice A n c]).run Try.prog w = .ok v' w') ∧ Own w' base v' ps ∧ w.grownBy w' (some g) := by
  obtain ⟨ga, off, rfl, _, hz, hc⟩ := hr (by omega)
  obtain ⟨i, hi, hzz, hs, hby⟩ := info_parts page_info
  have hsrc : ∀ j v, (pv ps)[j]? = some v → w.cell? ((⟨ga, off, none⟩ : Addr).add j) = some v := by
    intro j v hv
    have hj : j < ps.length * 5 := by rw [← pv_length]; exact (List.getElem?_eq_some_iff.1 hv).1
    have hi : j / 5 < ps.length := by omega
    obtain ⟨c0, c1, c2, c3, c4⟩ := hc _ _ (List.getElem?_eq_getElem hi)
    obtain ⟨h0, h1, h2, h3, h4⟩ := pv_at _ _ _ (List.getElem?_eq_getElem hi)
    have hm : j % 5 < 5 := Nat.mod_lt _ (by omega)
    have hd : j / 5 * 5 + j % 5 = j := by omega
    have hadd : (⟨ga, off, none⟩ : Addr).add j = ⟨ga, off + j, none⟩ := by unfold Addr.add; split <;> simp_all
    rw [hadd]
    match hr : j % 5, hm with
    | 0, _ => rw [hr, Nat.add_zero] at hd; rw [hd] at h0 c0; rw [c0, ← h0, hv]
    | 1, _ => rw [hr] at hd; rw [Nat.add_assoc] at c1; rw [hd] at h1 c1; rw [c1, ← h1, hv]
    | 2, _ => rw [hr] at hd; rw [Nat.add_assoc] at c2; rw [hd] at h2 c2; rw [c2, ← h2, hv]
    | 3, _ => rw [hr] at hd; rw [Nat.add_assoc] at c3; rw [hd] at h3 c3; rw [c3, ← h3, hv]
    | 4, _ => rw [hr] at hd; rw [Nat.add_assoc] at c4; rw [hd] at h4 c4; rw [c4, ← h4, hv]
  obtain ⟨v', w', hrun, h2, h3, _, _⟩ := run_append_own_at (P := Try.prog) w base 85 0 30 i _ 5 40 Try.underlying85 hi hzz hs hby rfl (by omega) _ 0 [] ho ⟨ga, off, none⟩ n c (pv ps) (by rw [pv_length, hp]) hsrc (pv_one ps) (by simp only [maxLen]; omega) (by omega) hbase
  refine ⟨v', w', fun _ => hrun, ?_, h3⟩
  unfold Own
  rw [hp]
  simpa using h2
end Go.Proofs.Yteniikfgellhfaa
namespace Go.Proofs.Yteniikfgellhfaa
open Go.ChangeShapes Go.WideShapes Go.ChangeAt Go.RowKit

/-- Page k is valid, and not written after one that is not. -/
def okAt (ps : List Pg) (k : Nat) : Bool := pgB (ps.getD k pz) && (decide (k = 0) || !(ps.getD k pz).f || (ps.getD (k - 1) pz).f)
def ordB (ps : List Pg) : Bool := (List.range ps.length).all (okAt ps)
def blockB (wear : Int) (ps : List Pg) : Bool := inB wear 0 100 && decide (ps.length = 4) && ordB ps
theorem ord_no {ps : List Pg} {k : Nat} (hk : k < ps.length) (h : okAt ps k = false) : ordB ps = false := by
  unfold ordB
  rw [List.all_eq_false]
  exact ⟨k, by simpa using hk, by simp [h]⟩
theorem ord_yes {ps : List Pg} (h : ∀ j, j < ps.length → okAt ps j = true) : ordB ps = true := by
  unfold ordB
  rw [List.all_eq_true]
  exact fun j hj => h j (by simpa using hj)
theorem okAt_of {ps : List Pg} {k : Nat} {p : Pg} (h : ps[k]? = some p) : okAt ps k = (pgB p && (decide (k = 0) || !p.f || (ps.getD (k - 1) pz).f)) := by
  unfold okAt
  rw [List.getD_eq_getElem?_getD, h]
  rfl
theorem okAt_zero {ps : List Pg} {p : Pg} (h : ps[0]? = some p) : okAt ps 0 = pgB p := by rw [okAt_of h]; simp
theorem okAt_succ {ps : List Pg} {j : Nat} {p q : Pg} (h : ps[j + 1]? = some p) (h' : ps[j]? = some q) : okAt ps (j + 1) = (pgB p && (!p.f || q.f)) := by
  rw [okAt_of h, Nat.add_sub_cancel, List.getD_eq_getElem?_getD, h']; simp
theorem ok_step {ps : List Pg} {k : Nat} (h : ∀ j, j < k → okAt ps j = true) (hk : okAt ps k = true) : ∀ j, j < k + 1 → okAt ps j = true := fun j hj => by
  rcases Nat.lt_or_ge j k with h1 | h1
  · exact h j h1
  · obtain rfl : j = k := by omega
    exact hk
theorem getD_at {ps : List Pg} {k : Nat} (h : k < ps.length) : ∃ p, ps[k]? = some p := ⟨_, List.getElem?_eq_getElem h⟩

/-- The loop over the pages, at page k. -/
def OrdRel (w : World) (ps : List Pg) (k : Nat) (wr : World) : Prop := k ≤ ps.length ∧ (∀ j, j < k → okAt ps j = true) ∧ w.grownBy wr none

theorem isWear_any (n : Int) (w : World) :
    Calls Try.prog 121 #[.int .i64 n] w fun e w' => e = .returned (.bool (inB n 0 100)) ∧ w = w' := by
  go_enter Try.func121, Try.ntmps121
  go_wp2
  all_goals (go_ret; refine ⟨retB ?_, rfl⟩; rw [Bool.eq_iff_iff]; simp [inB]; omega)
theorem order_any (A : Option Addr) (c : Nat) (ps : List Pg) (w : World) (hr : Row w w.heap.size A ps) (hn : ps.length ≤ 1048576) :
    Calls Try.prog 122 #[.slice A ps.length c] w (KeptV (.bool (ordB ps)) w) := by
  have HR := Lib.hid hr
  clear hr
  go_enter Try.func122, Try.ntmps122
  go_wp2
  go_loopw [3] (fun i wr => ∃ k : Nat, i = .int .i64 k ∧ OrdRel w ps k wr) (fun i _ => ps.length - (intOf i).toNat)
  case atStart => exact ⟨0, rfl, Nat.zero_le _, fun j hj => absurd hj (by omega), grown_refl _ _⟩
  case round =>
    obtain ⟨k, rfl, hk, hj, hg⟩ := hrel
    by_cases hlt : k < ps.length
    · obtain ⟨g, off, rfl, hgB, hgw, hp5⟩ := HR.out.kept hg (by omega)
      obtain ⟨⟨f, x1, x2, x3, x4⟩, hp⟩ := getD_at hlt
      obtain ⟨c0, c1, c2, c3, c4⟩ := hp5 _ _ hp
      have n1 : g ≠ wr.heap.size := by omega
      have n2 : wr.heap.size ≠ g := by omega
      cases hv : pageB f x1 x2 x3 x4
      · have HX := Lib.hid (And.intro hg (ord_no hlt (by rw [okAt_of hp]; simp [pgB, hv])))
        have HV := Lib.hid hv
        clear hv hp hg hj hp5
        go_wp2_with (go_at_call 132; refine (valid_val HV.out _).mono ?_; rintro e w' ⟨rfl, hkp⟩)
        go_ret
        exact ⟨retB HX.out.2.symm, grown_trans HX.out.1 hkp⟩
      · rcases Nat.eq_zero_or_pos k with h0 | h0
        · have t1 : decide (0 < k) = false := decide_eq_false (by omega)
          have HX := Lib.hid (And.intro hg (ok_step hj (by rw [okAt_of hp]; simp [pgB, hv, h0])))
          have HV := Lib.hid hv
          clear hv hp hg hj hp5 h0
          go_wp2_with (go_at_call 132; refine (valid_val HV.out _).mono ?_; rintro e w' ⟨rfl, hkp⟩)
          go_roundw
          case rel => exact ⟨k + 1, by go_num, by omega, HX.out.2, grown_trans HX.out.1 hkp⟩
          case measure => simp [intOf]; omega
        · obtain ⟨j, rfl⟩ : ∃ j, k = j + 1 := ⟨k - 1, by omega⟩
          obtain ⟨⟨f', y1, y2, y3, y4⟩, hp'⟩ := getD_at (show j < ps.length by omega)
          have HP := Lib.hid (And.intro (hp5 _ _ hp) (hp5 _ _ hp'))
          have HX := Lib.hid (And.intro hg (And.intro hj (okAt_succ hp hp')))
          have HV := Lib.hid hv
          clear hv hp hg hp5 hp' hj
          cases f <;> cases f'
          all_goals
            go_wp2_with (go_at_call 132; refine (valid_val HV.out _).mono ?_; rintro e w' ⟨rfl, hkp⟩; clear c0 c1 c2 c3 c4; obtain ⟨c0, _, _, _, _⟩ := HP.out.1.kept hkp; obtain ⟨d0, _, _, _, _⟩ := HP.out.2.kept hkp; have HK := Lib.hid hkp; clear hkp)
            first
              | (go_ret; exact ⟨retB (ord_no hlt (by rw [HX.out.2.2]; simp [pgB, HV.out])).symm, grown_trans HX.out.1 HK.out⟩)
              | (go_roundw
                 case rel => exact ⟨j + 1 + 1, by go_num, by omega, ok_step HX.out.2.1 (by rw [HX.out.2.2]; simp [pgB, HV.out]), grown_trans HX.out.1 HK.out⟩
                 case measure => simp [intOf]; omega)
    · have HX := Lib.hid (And.intro hg (ord_yes (fun i hi => hj i (by omega))))
      clear hg hj
      go_wp2
      go_ret
      exact ⟨retB HX.out.2.symm, HX.out.1⟩
theorem blockValid_any (m : Int) (A : Option Addr) (c : Nat) (ps : List Pg) (w : World) (hr : Row w w.heap.size A ps) (hn : ps.length ≤ 1048576) :
    Calls Try.prog 96 #[.agg #[.int .i64 m, .slice A ps.length c]] w (KeptV (.bool (blockB m ps)) w) := by
  have HR := Lib.hid (hr.alloc (.cells #[.int .i64 m, .slice A ps.length c] 87))
  clear hr
  by_cases h4 : ps.length = 4
  · have t1 : ((ps.length : Int) == 4) = true := by simp [h4]
    cases h1 : inB m 0 100
    · have H1 := Lib.hid h1
      clear h4 h1
      go_enter Try.func96, Try.ntmps96
      go_wp2_with (first | (go_at_call 121; refine (isWear_any _ _).mono ?_; rintro e w' ⟨rfl, rfl⟩; try rw [H1.out]) | (go_at_call 122; refine (order_any _ _ _ _ (HR.out.more (by simp)) hn).mono ?_; rintro e w' ⟨rfl, hk⟩))
      go_ret
      exact ⟨retB (by simp [blockB, H1.out]), grown_alloc (grown_refl _ _) _⟩
    · have H1 := Lib.hid h1
      have H4 := Lib.hid h4
      clear h4 h1
      go_enter Try.func96, Try.ntmps96
      go_wp2_with (first | (go_at_call 121; refine (isWear_any _ _).mono ?_; rintro e w' ⟨rfl, rfl⟩; try rw [H1.out]) | (go_at_call 122; refine (order_any _ _ _ _ (HR.out.more (by simp)) hn).mono ?_; rintro e w' ⟨rfl, hk⟩))
      go_ret
      exact ⟨retB (by simp [blockB, H1.out, H4.out]), grown_trans (grown_alloc (grown_refl _ _) _) hk⟩
  · have t1 : ((ps.length : Int) == 4) = false := by simp; omega
    have H4 := Lib.hid h4
    clear h4
    cases h1 : inB m 0 100
    all_goals
      have H1 := Lib.hid h1
      clear h1
      go_enter Try.func96, Try.ntmps96
      go_wp2_with (go_at_call 121; refine (isWear_any _ _).mono ?_; rintro e w' ⟨rfl, rfl⟩; try rw [H1.out])
      go_ret
      exact ⟨retB (by simp [blockB, H1.out, H4.out]), grown_alloc (grown_refl _ _) _⟩
end Go.Proofs.Yteniikfgellhfaa
namespace Go.Proofs.Yteniikfgellhfaa
open Go.ChangeShapes Go.WideShapes Go.ChangeAt Go.RowKit

theorem specValid_val {f : Bool} {a b c d : Int} {v : Bool} (h : pageB f a b c d = v) (w : World) :
    Calls Try.prog 112 #[.agg #[.bool f, .int .i64 a, .int .i64 b, .int .i64 c, .int .i64 d]] w (KeptV (.bool v) w) := h ▸ specValid_any f a b c d w
theorem specBlockValid_any (m : Int) (A : Option Addr) (c : Nat) (ps : List Pg) (w : World) (hr : Row w w.heap.size A ps) (hn : ps.length ≤ 1048576) :
    Calls Try.prog 94 #[.agg #[.int .i64 m, .slice A ps.length c]] w (KeptV (.bool (blockB m ps)) w) := by
  have HR := Lib.hid (hr.alloc (.cells #[.int .i64 m, .slice A ps.length c] 87))
  have HB := Lib.hid (Blk.new w 87 #[.int .i64 m, .slice A ps.length c])
  clear hr
  go_enter Try.func94, Try.ntmps94
  go_wp2
  go_loopw [3] (fun i wr => ∃ k : Nat, i = .int .i64 k ∧ OrdRel (w.alloc (.cells #[.int .i64 m, .slice A ps.length c] 87)) ps k wr) (fun i _ => ps.length - (intOf i).toNat)
  case atStart => exact ⟨0, rfl, Nat.zero_le _, fun j hj => absurd hj (by omega), grown_refl _ _⟩
  case round =>
    obtain ⟨k, rfl, hk, hj, hg⟩ := hrel
    have hB := HB.out.keep hg
    have b0 : wr.cell? ⟨w.heap.size, 0, none⟩ = some (.int .i64 m) := hB.cell 0
    have b1 : wr.cell? ⟨w.heap.size, 1, none⟩ = some (.slice A ps.length c) := hB.cell 1
    by_cases hlt : k < ps.length
    · obtain ⟨g, off, rfl, hgB, hgw, hp5⟩ := HR.out.kept hg (by omega)
      obtain ⟨⟨f, x1, x2, x3, x4⟩, hp⟩ := getD_at hlt
      obtain ⟨c0, c1, c2, c3, c4⟩ := hp5 _ _ hp
      cases hv : pageB f x1 x2 x3 x4
      · have HX := Lib.hid (And.intro hg (ord_no hlt (by rw [okAt_of hp]; simp [pgB, hv])))
        have HV := Lib.hid hv
        clear hv hp hg hj hp5 hB
        go_wp2_with (go_at_call 112; refine (specValid_val HV.out _).mono ?_; rintro e w' ⟨rfl, hkp⟩)
        go_ret
        exact ⟨retB (by simp [blockB, HX.out.2]), grown_trans (grown_alloc (grown_refl _ _) _) (grown_trans HX.out.1 hkp)⟩
      · rcases Nat.eq_zero_or_pos k with h0 | h0
        · have t1 : decide (0 < k) = false := decide_eq_false (by omega)
          have HX := Lib.hid (And.intro hg (And.intro (ok_step hj (by rw [okAt_of hp]; simp [pgB, hv, h0])) hB))
          have HV := Lib.hid hv
          clear hv hp hg hj hp5 h0 hB
          go_wp2_with (go_at_call 112; refine (specValid_val HV.out _).mono ?_; rintro e w' ⟨rfl, hkp⟩; clear b0 b1; have b1 : w'.cell? ⟨w.heap.size, 1, none⟩ = some (.slice (some ⟨g, off, none⟩) ps.length c) := (HX.out.2.2.keep hkp).cell 1; have HK := Lib.hid hkp; clear hkp)
          go_roundw
          case rel => exact ⟨k + 1, by go_num, by omega, HX.out.2.1, grown_trans HX.out.1 HK.out⟩
          case measure => simp [intOf]; omega
        · obtain ⟨j, rfl⟩ : ∃ j, k = j + 1 := ⟨k - 1, by omega⟩
          obtain ⟨⟨f', y1, y2, y3, y4⟩, hp'⟩ := getD_at (show j < ps.length by omega)
          have HP := Lib.hid (And.intro (hp5 _ _ hp) (hp5 _ _ hp'))
          have HX := Lib.hid (And.intro hg (And.intro hj (And.intro (okAt_succ hp hp') hB)))
          have HV := Lib.hid hv
          clear hv hp hg hp5 hp' hj hB
          cases f <;> cases f'
          all_goals
            go_wp2_with (go_at_call 112; refine (specValid_val HV.out _).mono ?_; rintro e w' ⟨rfl, hkp⟩; clear c0 c1 c2 c3 c4 b0 b1; obtain ⟨c0, _, _, _, _⟩ := HP.out.1.kept hkp; obtain ⟨d0, _, _, _, _⟩ := HP.out.2.kept hkp; have b1 : w'.cell? ⟨w.heap.size, 1, none⟩ = some (.slice (some ⟨g, off, none⟩) ps.length c) := (HX.out.2.2.2.keep hkp).cell 1; have HK := Lib.hid hkp; clear hkp)
            first
              | (go_ret; exact ⟨retB (by simp [blockB, ord_no hlt (by rw [HX.out.2.2.1]; simp [pgB, HV.out])]), grown_trans (grown_alloc (grown_refl _ _) _) (grown_trans HX.out.1 HK.out)⟩)
              | (go_roundw
                 case rel => exact ⟨j + 1 + 1, by go_num, by omega, ok_step HX.out.2.1 (by rw [HX.out.2.2.1]; simp [pgB, HV.out]), grown_trans HX.out.1 HK.out⟩
                 case measure => simp [intOf]; omega)
    · have HX := Lib.hid (And.intro hg (ord_yes (fun i hi => hj i (by omega))))
      clear hg hj hB
      by_cases h4 : ps.length = 4
      · have t1 : ((ps.length : Int) == 4) = true := by simp [h4]
        have H4 := Lib.hid h4
        clear h4
        cases h1 : inB m 0 100
        all_goals
          have H1 := Lib.hid h1
          clear h1
          go_wp2_with (go_at_call 95; refine (in_any _ _ _ _).mono ?_; rintro e w' ⟨rfl, rfl⟩; try rw [H1.out])
          go_ret
          exact ⟨retB (by simp [blockB, HX.out.2, H1.out, H4.out]), grown_trans (grown_alloc (grown_refl _ _) _) HX.out.1⟩
      · have t1 : ((ps.length : Int) == 4) = false := by simp; omega
        have H4 := Lib.hid h4
        clear h4
        cases h1 : inB m 0 100
        all_goals
          have H1 := Lib.hid h1
          clear h1
          go_wp2_with (go_at_call 95; refine (in_any _ _ _ _).mono ?_; rintro e w' ⟨rfl, rfl⟩; try rw [H1.out])
          go_ret
          exact ⟨retB (by simp [blockB, HX.out.2, H1.out, H4.out]), grown_trans (grown_alloc (grown_refl _ _) _) HX.out.1⟩
theorem specBlockValid_val {m : Int} {A : Option Addr} {c n : Nat} {ps : List Pg} {V : Bool} (hl : ps.length = n) (h : blockB m ps = V) (w : World) (hr : Row w w.heap.size A ps) (hn : n ≤ 1048576) :
    Calls Try.prog 94 #[.agg #[.int .i64 m, .slice A n c]] w (KeptV (.bool V) w) := by subst hl; exact h ▸ specBlockValid_any m A c ps w hr hn
theorem blockValid_val {m : Int} {A : Option Addr} {c n : Nat} {ps : List Pg} {V : Bool} (hl : ps.length = n) (h : blockB m ps = V) (w : World) (hr : Row w w.heap.size A ps) (hn : n ≤ 1048576) :
    Calls Try.prog 96 #[.agg #[.int .i64 m, .slice A n c]] w (KeptV (.bool V) w) := by subst hl; exact h ▸ blockValid_any m A c ps w hr hn

/-- How many pages are written; BlockNext. -/
def cntF (ps : List Pg) : Nat := ps.countP (·.f)
def nextV (m : Int) (ps : List Pg) : Int := if blockB m ps then (if cntF ps = 4 then -1 else (cntF ps : Int)) else -1
theorem pcnt_le (ps : List Pg) : cntF ps ≤ ps.length := List.countP_le_length
theorem cnt_take {ps : List Pg} {k : Nat} {p : Pg} (h : ps[k]? = some p) : cntF (ps.take (k + 1)) = cntF (ps.take k) + if p.f then 1 else 0 := by
  unfold cntF
  rw [List.take_add_one, h, List.countP_append]
  cases hf : p.f <;> simp [hf]
theorem four {ps : List Pg} (h : ps.length = 4) : ∃ a b c d, ps = [a, b, c, d] := by
  match ps, h with
  | [a, b, c, d], _ => exact ⟨a, b, c, d, rfl⟩
theorem ord4 (a b c d : Pg) : ordB [a, b, c, d] = (pgB a && (pgB b && (!b.f || a.f)) && (pgB c && (!c.f || b.f)) && (pgB d && (!d.f || c.f))) := by
  simp [ordB, okAt, List.range_succ, Bool.and_assoc]
theorem block_parts {m : Int} {ps : List Pg} (h : blockB m ps = true) : inB m 0 100 = true ∧ ps.length = 4 ∧ ordB ps = true := by
  simp only [blockB, Bool.and_eq_true, decide_eq_true_eq] at h
  exact ⟨h.1.1, h.1.2, h.2⟩
/-- The first page that is not written is counted by those before it. -/
theorem next_first {m : Int} {ps : List Pg} (h : blockB m ps = true) {k : Nat} {p : Pg} (hp : ps[k]? = some p) (hf : p.f = false) (hj : ∀ j q, j < k → ps[j]? = some q → q.f = true) : nextV m ps = k := by
  obtain ⟨_, h4, ho⟩ := block_parts h
  obtain ⟨a, b, c, d, rfl⟩ := four h4
  rw [ord4] at ho
  unfold nextV
  rw [if_pos h]
  unfold cntF
  have hk : k < 4 := (List.getElem?_eq_some_iff.1 hp).1
  match k, hk with
  | 0, _ => simp at hp; subst hp; cases hb : b.f <;> cases hc : c.f <;> cases hd : d.f <;> simp [hf, hb, hc, hd] at ho ⊢
  | 1, _ => simp at hp; subst hp; have ha := hj 0 a (by omega) rfl; cases hc : c.f <;> cases hd : d.f <;> simp [hf, ha, hc, hd] at ho ⊢
  | 2, _ => simp at hp; subst hp; have ha := hj 0 a (by omega) rfl; have hb := hj 1 b (by omega) rfl; cases hd : d.f <;> simp [hf, ha, hb, hd] at ho ⊢
  | 3, _ => simp at hp; subst hp; have ha := hj 0 a (by omega) rfl; have hb := hj 1 b (by omega) rfl; have hc := hj 2 c (by omega) rfl; simp [hf, ha, hb, hc]
theorem next_all {m : Int} {ps : List Pg} (h : blockB m ps = true) (hj : ∀ (j : Nat) (q : Pg), ps[j]? = some q → q.f = true) : nextV m ps = -1 := by
  obtain ⟨_, h4, ho⟩ := block_parts h
  obtain ⟨a, b, c, d, rfl⟩ := four h4
  unfold nextV
  rw [if_pos h]
  have ha := hj 0 a rfl; have hb := hj 1 b rfl; have hc := hj 2 c rfl; have hd := hj 3 d rfl
  simp [cntF, ha, hb, hc, hd]
theorem next_no {m : Int} {ps : List Pg} (h : blockB m ps = false) : nextV m ps = -1 := by simp [nextV, h]

theorem written_any (A : Option Addr) (c : Nat) (ps : List Pg) (w : World) (hr : Row w w.heap.size A ps) (hn : ps.length ≤ 1048576) :
    Calls Try.prog 59 #[.slice A ps.length c] w (KeptV (.int .i64 (cntF ps)) w) := by
  have HR := Lib.hid hr
  clear hr
  go_enter Try.func59, Try.ntmps59
  go_wp2
  go_loopw [3, 8] (fun s i wr => ∃ k : Nat, k ≤ ps.length ∧ i = .int .i64 k ∧ s = .int .i64 (cntF (ps.take k) : Nat) ∧ w.grownBy wr none) (fun _ i _ => ps.length - (intOf i).toNat)
  case atStart => exact ⟨0, Nat.zero_le _, rfl, rfl, grown_refl _ _⟩
  case round =>
    obtain ⟨k, hk, rfl, rfl, hg⟩ := hrel
    by_cases hlt : k < ps.length
    · obtain ⟨g, off, rfl, hgB, hgw, hp5⟩ := HR.out.kept hg (by omega)
      obtain ⟨⟨f, x1, x2, x3, x4⟩, hp⟩ := getD_at hlt
      obtain ⟨c0, c1, c2, c3, c4⟩ := hp5 _ _ hp
      have hle := Nat.le_trans (pcnt_le (ps.take k)) (by rw [List.length_take]; exact Nat.min_le_left k _)
      have n1 : g ≠ wr.heap.size := by omega
      have n2 : wr.heap.size ≠ g := by omega
      have HG := Lib.hid (And.intro trivial hg)
      have HC := Lib.hid (cnt_take hp)
      clear hp hp5 hg
      cases f
      all_goals
        go_wp2
        go_roundw
        case rel => exact ⟨k + 1, by omega, by go_num, by rw [HC.out]; simp, grown_alloc HG.out.2 _⟩
        case measure => simp [intOf]; omega
    · obtain rfl : k = ps.length := by omega
      have HX := Lib.hid (And.intro hg (show cntF (ps.take ps.length) = cntF ps by rw [List.take_length]))
      clear hg
      go_wp2
      go_ret
      exact ⟨retI (by rw [HX.out.2]), HX.out.1⟩
end Go.Proofs.Yteniikfgellhfaa
namespace Go.Proofs.Yteniikfgellhfaa
open Go.ChangeShapes Go.WideShapes Go.ChangeAt Go.RowKit

/-- The model's loop for the next page, at page k. -/
def NextRel (w : World) (ps : List Pg) (k : Nat) (wr : World) : Prop := k ≤ ps.length ∧ (∀ (j : Nat) (q : Pg), j < k → ps[j]? = some q → q.f = true) ∧ w.grownBy wr none
theorem next_step {ps : List Pg} {k : Nat} {p : Pg} (h : ∀ (j : Nat) (q : Pg), j < k → ps[j]? = some q → q.f = true) (hp : ps[k]? = some p) (hf : p.f = true) : ∀ (j : Nat) (q : Pg), j < k + 1 → ps[j]? = some q → q.f = true := fun j q hj hq => by
  rcases Nat.lt_or_ge j k with h1 | h1
  · exact h j q h1 hq
  · obtain rfl : j = k := by omega
    rw [hp] at hq
    injection hq with hq
    rw [← hq]; exact hf
theorem specNext_any (m : Int) (A : Option Addr) (c : Nat) (ps : List Pg) (w : World) (hr : Row w w.heap.size A ps) (hn : ps.length ≤ 1048576) :
    Calls Try.prog 114 #[.agg #[.int .i64 m, .slice A ps.length c]] w (KeptV (.int .i64 (nextV m ps)) w) := by
  have HR := Lib.hid (hr.alloc (.cells #[.int .i64 m, .slice A ps.length c] 87))
  have HB := Lib.hid (Blk.new w 87 #[.int .i64 m, .slice A ps.length c])
  clear hr
  cases hv : blockB m ps
  · have HV := Lib.hid (And.intro hv (next_no hv))
    clear hv
    by_cases hz : 0 < ps.length
    · have t1 : decide (0 < ps.length) = true := decide_eq_true hz
      go_enter Try.func114, Try.ntmps114
      go_wp2
      go_loopw [3] (fun i wr => i = .int .i64 0 ∧ wr = w.alloc (.cells #[.int .i64 m, .slice A ps.length c] 87)) (fun i _ => ps.length - (intOf i).toNat)
      case atStart => exact ⟨rfl, rfl⟩
      case round =>
        obtain ⟨rfl, rfl⟩ := hrel
        go_wp2_with (go_at_call 94; refine (specBlockValid_val rfl HV.out.1 _ (HR.out.more (by simp)) hn).mono ?_; rintro e w1 ⟨rfl, hk⟩)
        go_ret
        exact ⟨retI HV.out.2.symm, grown_trans (grown_alloc (grown_refl _ _) _) hk⟩
    · have t1 : decide (0 < ps.length) = false := decide_eq_false hz
      go_enter Try.func114, Try.ntmps114
      go_wp2
      go_loopw [3] (fun i wr => i = .int .i64 0 ∧ wr = w.alloc (.cells #[.int .i64 m, .slice A ps.length c] 87)) (fun i _ => ps.length - (intOf i).toNat)
      case atStart => exact ⟨rfl, rfl⟩
      case round =>
        obtain ⟨rfl, rfl⟩ := hrel
        go_wp2
        go_ret
        exact ⟨retI HV.out.2.symm, grown_alloc (grown_refl _ _) _⟩
  · have HV := Lib.hid hv
    clear hv
    go_enter Try.func114, Try.ntmps114
    go_wp2
    go_loopw [3] (fun i wr => ∃ k : Nat, i = .int .i64 k ∧ NextRel (w.alloc (.cells #[.int .i64 m, .slice A ps.length c] 87)) ps k wr) (fun i _ => ps.length - (intOf i).toNat)
    case atStart => exact ⟨0, rfl, Nat.zero_le _, fun j _ hj => absurd hj (by omega), grown_refl _ _⟩
    case round =>
      obtain ⟨k, rfl, hk, hj, hg⟩ := hrel
      have hB := HB.out.keep hg
      have b0 : wr.cell? ⟨w.heap.size, 0, none⟩ = some (.int .i64 m) := hB.cell 0
      have b1 : wr.cell? ⟨w.heap.size, 1, none⟩ = some (.slice A ps.length c) := hB.cell 1
      by_cases hlt : k < ps.length
      · obtain ⟨g, off, rfl, hgB, hgw, hp5⟩ := HR.out.kept hg (by omega)
        obtain ⟨⟨f, x1, x2, x3, x4⟩, hp⟩ := getD_at hlt
        have HX := Lib.hid (And.intro hg (And.intro hB (hp5 _ _ hp)))
        have HP := Lib.hid (And.intro hp hj)
        clear hp hp5 hg hB hj
        cases f
        all_goals
          go_wp2_with (go_at_call 94; refine (specBlockValid_val rfl HV.out _ ((HR.out.kept HX.out.1).more (Nat.le_trans (by simp) HX.out.1.size)) hn).mono ?_; rintro e w1 ⟨rfl, hk1⟩; clear b0 b1; have b1 : w1.cell? ⟨w.heap.size, 1, none⟩ = some (.slice (some ⟨g, off, none⟩) ps.length c) := (HX.out.2.1.keep hk1).cell 1; obtain ⟨c0, _, _, _, _⟩ := HX.out.2.2.kept hk1; have HK := Lib.hid hk1; clear hk1)
          first
            | (go_ret; exact ⟨retI (next_first HV.out HP.out.1 rfl HP.out.2).symm, grown_trans (grown_alloc (grown_refl _ _) _) (grown_trans HX.out.1 HK.out)⟩)
            | (go_roundw
               case rel => exact ⟨k + 1, by go_num, by omega, next_step HP.out.2 HP.out.1 rfl, grown_trans HX.out.1 HK.out⟩
               case measure => simp [intOf]; omega)
      · have HX := Lib.hid (And.intro hg (next_all HV.out (fun j q hq => hj j q (by have := (List.getElem?_eq_some_iff.1 hq).1; omega) hq)))
        clear hg hj hB
        go_wp2
        go_ret
        exact ⟨retI HX.out.2.symm, grown_trans (grown_alloc (grown_refl _ _) _) HX.out.1⟩

end Go.Proofs.Yteniikfgellhfaa
namespace Go.Proofs.Yteniikfgellhfaa
open Go.ChangeShapes Go.WideShapes Go.ChangeAt Go.RowKit

/-- A block is returned whose n pages lie in memory of its own. -/
def Made (m : Int) (n : Nat) (ps : List Pg) (w : World) (e : Ending) (w' : World) : Prop :=
  ∃ A c, e = .returned (.agg #[.int .i64 m, .slice A n c]) ∧ ps.length = n ∧ Own w' w.heap.size (.slice A n c) ps ∧ w.grownBy w' none
/-- The zero value is returned. -/
theorem made_zero {w w' : World} (h : w.grownBy w' none) : Made 0 0 [] w (.returned (.agg #[.int .i64 0, .slice none 0 0])) w' := ⟨none, 0, rfl, rfl, World.ownsRow_nil _ _ _ _, h⟩
theorem Own.to_put {w : World} {base g k : Nat} {v : Value} {ps : List Pg} (h : Own w base v ps) (hv : v.ownBlock ≠ some g) (u : Value) : Own (w.setCell ⟨g, k, none⟩ u) base v ps :=
  h.kept (grown_set (g := g) (grown_refl _ _) (.inl rfl) u) (.inr hv)

theorem specNewBlock_any (m : Int) (w : World) (h : inB m 0 100 = true) :
    Calls Try.prog 93 #[.int .i64 m] w (Made m 4 [pz, pz, pz, pz] w) := by
  have hO := own_made4 (w.alloc (.cells #[.int .i64 m, .slice (some ⟨w.heap.size + 1, 0, none⟩) 4 4] 87)) w.heap.size (by simp)
  simp only [size_alloc1] at hO
  have hmk := fun W => make_pages4 W
  have HX := Lib.hid (And.intro h hO)
  clear h hO
  go_enter Try.func93, Try.ntmps93
  go_wp2_with (go_at_call 95; refine (in_any _ _ _ _).mono ?_; rintro e w' ⟨rfl, rfl⟩; rw [HX.out.1])
  exact bodyPost_ret (v := .agg #[.int .i64 m, .slice (some ⟨w.heap.size + 1, 0, none⟩) 4 4]) (by simp [results, Try.results93, go_sem, *]) rfl
    ⟨_, _, rfl, rfl, HX.out.2, by repeat (first | exact grown_refl _ _ | refine grown_put ?_ (by simp) _ | refine grown_alloc ?_ _)⟩
theorem specNewBlock_no (m : Int) (w : World) (h : inB m 0 100 = false) :
    Calls Try.prog 93 #[.int .i64 m] w (Made 0 0 [] w) := by
  have HX := Lib.hid h
  clear h
  go_enter Try.func93, Try.ntmps93
  go_wp2_with (go_at_call 95; refine (in_any _ _ _ _).mono ?_; rintro e w' ⟨rfl, rfl⟩; rw [HX.out])
  exact bodyPost_ret (v := .agg #[.int .i64 0, .slice none 0 0]) (by simp [results, Try.results93, go_sem]) rfl (made_zero (by repeat (first | exact grown_refl _ _ | refine grown_put ?_ (by simp) _ | refine grown_alloc ?_ _)))
end Go.Proofs.Yteniikfgellhfaa
namespace Go.Proofs.Yteniikfgellhfaa
open Go.ChangeShapes Go.WideShapes Go.ChangeAt Go.RowKit

theorem wp_append_run {P : Program} (w : World) {o : Oper} {a : Act} {K : Act → World → Prop} {Q : Exit → Act → World → Prop} (d s : Operand) (t t' : TypeId)
    (ho : o.op = .call { callee := .builtin .append, args := #[d, s], argTypes := #[t, t'] }) (v u : Value) (hd : a.eval d = v) (hs : a.eval s = u) {v' : Value} {w' : World}
    (hr : ∀ ty, (Builtin.append_ #[t, t'] ty #[v, u]).run P w = .ok v' w') (h : K (a.put o.dst v') w') : o.wp P a w K Q := by
  unfold Oper.wp execOp
  simp only [ho, resolve, invoke, builtin, Sem.run_bind, Sem.run_pure, Result.andThen_ok, List.map_toArray, List.map_cons, List.map_nil, hd, hs, hr]
  exact h
theorem step_append_run {P : Program} (w : World) {ops : Array Oper} {o : Oper} {a : Act} {K : Act → World → Prop} {Q : Exit → Act → World → Prop} {E : Prop} (hgd : o.guard = none) (d s : Operand) (t t' : TypeId)
    (ho : o.op = .call { callee := .builtin .append, args := #[d, s], argTypes := #[t, t'] }) (v u : Value) (hd : a.eval d = v) (hs : a.eval s = u) {v' : Value} {w' : World}
    (hr : ∀ ty, (Builtin.append_ #[t, t'] ty #[v, u]).run P w = .ok v' w') (h : K (a.put o.dst v') w') : if Region.wanted o (yielded ops a.tmps) = true then o.wp P a w K Q else E := by
  have hw : Region.wanted o (yielded ops a.tmps) = true := by simp [Region.wanted, hgd]
  rw [if_pos hw]
  exact wp_append_run w d s t t' ho v u hd hs hr h
theorem specCopy_any (m : Int) (A : Option Addr) (c n : Nat) (ps : List Pg) (w : World) (hl : ps.length = n) (hr : Row w w.heap.size A ps) (hpos : 0 < n) (hn : n ≤ 1048576) :
    Calls Try.prog 131 #[.agg #[.int .i64 m, .slice A n c]] w (Made m n ps w) := by
  have hR := (((hr.alloc (.cells #[.int .i64 m, .slice A n c] 87)).alloc (.cells #[.int .i64 0, .slice none 0 0] 87)).alloc (.cells #[] 30)).drew
  have hO : Own (((w.alloc (.cells #[.int .i64 m, .slice A n c] 87)).alloc (.cells #[.int .i64 0, .slice none 0 0] 87)).alloc (.cells #[] 30)).drew w.heap.size (.slice (some ⟨w.heap.size + 1 + 1, 0, none⟩) 0 0) [] := by
    have h := World.ownsRow_lit (base := w.heap.size) (e := 30) (size := 5) ((w.alloc (.cells #[.int .i64 m, .slice A n c] 87)).alloc (.cells #[.int .i64 0, .slice none 0 0] 87)) #[] 0 (by simp only [size_alloc1]; omega) (by simp) rfl
    simp only [size_alloc1] at h
    exact h
  obtain ⟨v3, w3, hrun, hown, hg3⟩ := append_pages _ _ _ _ c _ _ n ps hl hpos hn hO hR (by simp only [World.drew, size_alloc1]; omega)
  have hB := (((Blk.new w 87 #[.int .i64 m, .slice A n c]).alloc (.cells #[.int .i64 0, .slice none 0 0] 87)).alloc (.cells #[] 30)).drew.grown hg3 (by intro e; injection e with e; omega)
  have hC := ((Blk.new (w.alloc (.cells #[.int .i64 m, .slice A n c] 87)) 87 #[.int .i64 0, .slice none 0 0]).alloc (.cells #[] 30)).drew.grown hg3 (by intro e; injection e with e; simp only [size_alloc1] at e; omega)
  simp only [size_alloc1] at hC
  have hG := grown_join (grown_drew (grown_alloc (grown_alloc (grown_alloc (grown_refl w none) (.cells #[.int .i64 m, .slice A n c] 87)) (.cells #[.int .i64 0, .slice none 0 0] 87)) (.cells #[] 30))) hg3 (by omega)
  have b0 : w3.cell? ⟨w.heap.size, 0, none⟩ = some (.int .i64 m) := hB.cell 0
  have b1 : w3.cell? ⟨w.heap.size, 1, none⟩ = some (.slice A n c) := hB.cell 1
  have r0 : w3.cell? ⟨w.heap.size + 1, 0, none⟩ = some (.int .i64 0) := hC.cell 0
  have r1 : w3.cell? ⟨w.heap.size + 1, 1, none⟩ = some (.slice none 0 0) := hC.cell 1
  have q0 : w3.frozen? ⟨w.heap.size + 1, 0, none⟩ = false := hC.frozen 0
  have q1 : w3.frozen? ⟨w.heap.size + 1, 1, none⟩ = false := hC.frozen 1
  rcases hown.form with ⟨_, rfl⟩ | ⟨g3, c3, rfl, hb3, _, _, _⟩
  · exact absurd hl (by simp; omega)
  have hne : g3 ≠ w.heap.size + 1 := by
    rcases hown.2 with ⟨e, _⟩ | ⟨g', cap, cur, e, _, hh, _⟩
    · cases e
    · injection e with e; injection e with e; injection e with e; subst e
      rintro rfl
      unfold Blk at hC
      rw [hh] at hC
      injection hC with hC
      injection hC with _ ht
      exact absurd ht (by decide)
  rw [hl] at hrun hown
  have HX := Lib.hid (And.intro hl (And.intro hown (And.intro hG hne)))
  clear hR hO hown hg3 hB hC hG hl hr hb3 hne
  go_enter Try.func131, Try.ntmps131
  go_wp2_with fail
  refine wp_region_held_drew (S := (fun w' => w'.cell? ⟨w.heap.size, 0, none⟩ = some (.int .i64 m) ∧ w'.cell? ⟨w.heap.size, 1, none⟩ = some (.slice A n c))) (by kernel_rfl) ?_ (fun hHeld => ?_)
  · first | go_keep | exact ⟨b0, b1⟩
  refine heldY 0 3 ?_
  refine heldY 1 4 ?_
  refine heldY 3 6 ?_
  refine heldY 4 7 ?_
  refine wpAnyH_ready (rs := [2]) (by kernel_rfl) (by simp) ?_
  refine AllReadyH.cons rfl (fun K hK => ?_) AllReadyH.nil
  go_simp
  skip
  refine hK.out _ _ ?_ (fun hHeld => ?_)
  · first | go_keep | exact ⟨b0, b1⟩
  clear hK K
  try simp only [Act.put, List.setIfInBounds_toArray, List.set_cons_zero, List.set_cons_succ]
  refine wpAnyH_ready (rs := [5]) (by kernel_rfl) (by simp) ?_
  refine AllReadyH.cons rfl (fun K hK => ?_) AllReadyH.nil
  refine step_append_run _ rfl (.tmp 5) (.tmp 7) 85 85 rfl _ _ rfl rfl hrun ?_
  refine hK.out _ _ ?_ (fun hHeld => ?_)
  · first | go_keep | exact ⟨b0, b1⟩
  clear hK K
  try simp only [Act.put, List.setIfInBounds_toArray]
  refine held_yes (i := 6) (d := some 9) (v := ?_) rfl rfl (by kernel_rfl) (by kernel_rfl) (by kernel_rfl) (fun _ _ _ h => h) (by rfl) ?_ (by assumption) ?_
  rotate_left
  · (intro w hSw; (try dsimp only at hSw); go_simp; (first | done | with_reducible rfl))
  try simp only [Act.put]
  refine wpAnyH_ready (rs := [7]) (by kernel_rfl) (by simp) ?_
  refine AllReadyH.cons rfl (fun K hK => ?_) AllReadyH.nil
  go_simp
  skip
  refine hK.out _ _ ?_ (fun hHeld => ?_)
  · first | go_keep | exact ⟨b0, b1⟩
  clear hK K
  try simp only [Act.put]
  refine wpAnyH_done (by kernel_rfl) ?_ _
  all_goals
    go_wp2
    exact bodyPost_ret (v := .agg #[.int .i64 m, .slice (some ⟨g3, 0, none⟩) n c3]) (by simp [results, Try.results131, go_sem, *]) rfl
      ⟨_, _, rfl, HX.out.1, (HX.out.2.1.to_put (by simpa [Value.ownBlock] using HX.out.2.2.2) _).to_put (by simpa [Value.ownBlock] using HX.out.2.2.2) _, grown_put (grown_put HX.out.2.2.1 (by simp) _) (by simp) _⟩
end Go.Proofs.Yteniikfgellhfaa
namespace Go.Proofs.Yteniikfgellhfaa
open Go.ChangeShapes Go.WideShapes Go.ChangeAt Go.RowKit

/-- A block with n pages in memory of its own, and another result. -/
def Made2 (m : Int) (n : Nat) (ps : List Pg) (r : Value) (w : World) (e : Ending) (w' : World) : Prop :=
  ∃ A c, e = .returned (.tuple #[.agg #[.int .i64 m, .slice A n c], r]) ∧ ps.length = n ∧ Own w' w.heap.size (.slice A n c) ps ∧ w.grownBy w' none
theorem made2_zero {w w' : World} {r : Value} (h : w.grownBy w' none) : Made2 0 0 [] r w (.returned (.tuple #[.agg #[.int .i64 0, .slice none 0 0], r])) w' := ⟨none, 0, rfl, rfl, World.ownsRow_nil _ _ _ _, h⟩
theorem specNext_val {m : Int} {A : Option Addr} {c n : Nat} {ps : List Pg} {V : Int} (hl : ps.length = n) (h : nextV m ps = V) (w : World) (hr : Row w w.heap.size A ps) (hn : n ≤ 1048576) :
    Calls Try.prog 114 #[.agg #[.int .i64 m, .slice A n c]] w (KeptV (.int .i64 V) w) := by subst hl; exact h ▸ specNext_any m A c ps w hr hn
theorem le2 (n : Nat) : n ≤ n + 1 + 1 := by omega
theorem Row.here {w : World} {B : Nat} {A : Option Addr} {ps : List Pg} (h : Row w B A ps) : Row w w.heap.size A ps := fun hn => by
  obtain ⟨g, off, e, _, hz, hc⟩ := h hn
  exact ⟨g, off, e, hz, hz, hc⟩
theorem Own.base_le {w : World} {base base' : Nat} {v : Value} {ps : List Pg} (h : Own w base v ps) (hb : base' ≤ base) : Own w base' v ps := by
  refine ⟨h.1, ?_⟩
  rcases h.2 with hn | ⟨g, cap, cur, e, hg, rest⟩
  · exact .inl hn
  · exact .inr ⟨g, cap, cur, e, Nat.le_trans hb hg, rest⟩
/-- The two boxed arguments and the result's cell, and the pages that came in. -/
def Frame4 (B : Nat) (m : Int) (A : Option Addr) (n c : Nat) (f : Bool) (x1 x2 x3 x4 : Int) (ps : List Pg) (w wr : World) : Prop :=
  Blk wr B 87 #[.int .i64 m, .slice A n c] ∧ Blk wr (B + 1) 30 #[.bool f, .int .i64 x1, .int .i64 x2, .int .i64 x3, .int .i64 x4] ∧ Blk wr (B + 1 + 1) 87 #[.int .i64 0, .slice none 0 0] ∧ Row wr B A ps ∧ w.grownBy wr none
theorem frame4_start (m : Int) (A : Option Addr) (n c : Nat) (f : Bool) (x1 x2 x3 x4 : Int) (ps : List Pg) (w : World) (hr : Row w w.heap.size A ps) :
    Frame4 w.heap.size m A n c f x1 x2 x3 x4 ps w (((w.alloc (.cells #[.int .i64 m, .slice A n c] 87)).alloc (.cells #[.bool f, .int .i64 x1, .int .i64 x2, .int .i64 x3, .int .i64 x4] 30)).alloc (.cells #[.int .i64 0, .slice none 0 0] 87)) := by
  refine ⟨((Blk.new w _ _).alloc _).alloc _, ?_, ?_, ((hr.alloc _).alloc _).alloc _, grown_alloc (grown_alloc (grown_alloc (grown_refl _ _) _) _) _⟩
  · have h := (Blk.new (w.alloc (.cells #[.int .i64 m, .slice A n c] 87)) 30 #[.bool f, .int .i64 x1, .int .i64 x2, .int .i64 x3, .int .i64 x4]).alloc (.cells #[.int .i64 0, .slice none 0 0] 87)
    simpa only [size_alloc1] using h
  · have h := Blk.new ((w.alloc (.cells #[.int .i64 m, .slice A n c] 87)).alloc (.cells #[.bool f, .int .i64 x1, .int .i64 x2, .int .i64 x3, .int .i64 x4] 30)) 87 #[.int .i64 0, .slice none 0 0]
    simpa only [size_alloc1] using h
theorem Frame4.keep {B : Nat} {m : Int} {A : Option Addr} {n c : Nat} {f : Bool} {x1 x2 x3 x4 : Int} {ps : List Pg} {w wr w' : World} (h : Frame4 B m A n c f x1 x2 x3 x4 ps w wr) (k : wr.grownBy w' none) : Frame4 B m A n c f x1 x2 x3 x4 ps w w' :=
  ⟨h.1.keep k, h.2.1.keep k, h.2.2.1.keep k, h.2.2.2.1.kept k, grown_trans h.2.2.2.2 k⟩
/-- The same as facts of cells. -/
theorem Frame4.cells {B : Nat} {m : Int} {A : Option Addr} {n c : Nat} {f : Bool} {x1 x2 x3 x4 : Int} {ps : List Pg} {w wr : World} (h : Frame4 B m A n c f x1 x2 x3 x4 ps w wr) :
    wr.cell? ⟨B, 0, none⟩ = some (.int .i64 m) ∧ wr.cell? ⟨B, 1, none⟩ = some (.slice A n c) ∧ wr.cell? ⟨B + 1, 0, none⟩ = some (.bool f) ∧ wr.cell? ⟨B + 1, 1, none⟩ = some (.int .i64 x1) ∧ wr.cell? ⟨B + 1, 2, none⟩ = some (.int .i64 x2) ∧
    wr.cell? ⟨B + 1, 3, none⟩ = some (.int .i64 x3) ∧ wr.cell? ⟨B + 1, 4, none⟩ = some (.int .i64 x4) ∧ wr.cell? ⟨B + 1 + 1, 0, none⟩ = some (.int .i64 0) ∧ wr.cell? ⟨B + 1 + 1, 1, none⟩ = some (.slice none 0 0) ∧
    wr.frozen? ⟨B + 1 + 1, 0, none⟩ = false ∧ wr.frozen? ⟨B + 1 + 1, 1, none⟩ = false :=
  ⟨h.1.cell 0, h.1.cell 1, h.2.1.cell 0, h.2.1.cell 1, h.2.1.cell 2, h.2.1.cell 3, h.2.1.cell 4, h.2.2.1.cell 0, h.2.2.1.cell 1, h.2.2.1.frozen 0, h.2.2.1.frozen 1⟩
theorem specWrite_bad (m : Int) (A : Option Addr) (n c : Nat) (f : Bool) (x1 x2 x3 x4 : Int) (ps : List Pg) (w : World) (hl : ps.length = n) (hr : Row w w.heap.size A ps) (hn : n ≤ 1048576) (hv : blockB m ps = false) :
    Calls Try.prog 119 #[.agg #[.int .i64 m, .slice A n c], .agg #[.bool f, .int .i64 x1, .int .i64 x2, .int .i64 x3, .int .i64 x4]] w (Made2 0 0 [] (.int .i64 (-1)) w) := by
  have HV := Lib.hid (And.intro hl hv)
  clear hv hl
  have HF := Lib.hid (frame4_start m A n c f x1 x2 x3 x4 ps w hr)
  clear hr
  go_enter Try.func119, Try.ntmps119
  go_wp2_with fail
  refine (specBlockValid_val HV.out.1 HV.out.2 _ HF.out.2.2.2.1.here hn).mono ?_
  rintro e w1 ⟨rfl, hk⟩
  replace HF := Lib.hid (HF.out.keep hk)
  clear hk
  obtain ⟨b0, b1, p0, p1, p2, p3, p4, r0, r1, q0, q1⟩ := HF.out.cells
  go_wp2
  exact bodyPost_ret (v := .tuple #[.agg #[.int .i64 0, .slice none 0 0], .int .i64 (-1)]) (by simp [results, Try.results119, go_sem, *]) rfl (made2_zero (grown_put (grown_put HF.out.2.2.2.2 (le2 _) _) (le2 _) _))
theorem specWrite_page (m : Int) (A : Option Addr) (n c : Nat) (f : Bool) (x1 x2 x3 x4 : Int) (ps : List Pg) (w : World) (hl : ps.length = n) (hr : Row w w.heap.size A ps) (hn : n ≤ 1048576) (hv : blockB m ps = true) (hp : (f && pageB f x1 x2 x3 x4) = false) :
    Calls Try.prog 119 #[.agg #[.int .i64 m, .slice A n c], .agg #[.bool f, .int .i64 x1, .int .i64 x2, .int .i64 x3, .int .i64 x4]] w (Made2 0 0 [] (.int .i64 (-1)) w) := by
  cases hp2 : pageB f x1 x2 x3 x4
  · have HV := Lib.hid (And.intro hl (And.intro hv hp2))
    clear hv hl hp hp2
    have HF := Lib.hid (frame4_start m A n c f x1 x2 x3 x4 ps w hr)
    clear hr
    go_enter Try.func119, Try.ntmps119
    go_wp2_with fail
    refine (specBlockValid_val HV.out.1 HV.out.2.1 _ HF.out.2.2.2.1.here hn).mono ?_
    rintro e w1 ⟨rfl, hk⟩
    replace HF := Lib.hid (HF.out.keep hk)
    clear hk
    obtain ⟨b0, b1, p0, p1, p2, p3, p4, r0, r1, q0, q1⟩ := HF.out.cells
    go_wp2_with fail
    clear b0 b1 p0 p1 p2 p3 p4 r0 r1 q0 q1
    refine (specValid_val HV.out.2.2 _).mono ?_
    rintro e w1 ⟨rfl, hk⟩
    replace HF := Lib.hid (HF.out.keep hk)
    clear hk
    obtain ⟨b0, b1, p0, p1, p2, p3, p4, r0, r1, q0, q1⟩ := HF.out.cells
    go_wp2
    exact bodyPost_ret (v := .tuple #[.agg #[.int .i64 0, .slice none 0 0], .int .i64 (-1)]) (by simp [results, Try.results119, go_sem, *]) rfl (made2_zero (grown_put (grown_put HF.out.2.2.2.2 (le2 _) _) (le2 _) _))
  · obtain rfl : f = false := by simpa [hp2] using hp
    have HV := Lib.hid (And.intro hl (And.intro hv hp2))
    clear hv hl hp hp2
    have HF := Lib.hid (frame4_start m A n c false x1 x2 x3 x4 ps w hr)
    clear hr
    go_enter Try.func119, Try.ntmps119
    go_wp2_with fail
    refine (specBlockValid_val HV.out.1 HV.out.2.1 _ HF.out.2.2.2.1.here hn).mono ?_
    rintro e w1 ⟨rfl, hk⟩
    replace HF := Lib.hid (HF.out.keep hk)
    clear hk
    obtain ⟨b0, b1, p0, p1, p2, p3, p4, r0, r1, q0, q1⟩ := HF.out.cells
    go_wp2_with fail
    clear b0 b1 p0 p1 p2 p3 p4 r0 r1 q0 q1
    refine (specValid_val HV.out.2.2 _).mono ?_
    rintro e w1 ⟨rfl, hk⟩
    replace HF := Lib.hid (HF.out.keep hk)
    clear hk
    obtain ⟨b0, b1, p0, p1, p2, p3, p4, r0, r1, q0, q1⟩ := HF.out.cells
    go_wp2
    exact bodyPost_ret (v := .tuple #[.agg #[.int .i64 0, .slice none 0 0], .int .i64 (-1)]) (by simp [results, Try.results119, go_sem, *]) rfl (made2_zero (grown_put (grown_put HF.out.2.2.2.2 (le2 _) _) (le2 _) _))
theorem specWrite_full (m : Int) (A : Option Addr) (c : Nat) (x1 x2 x3 x4 : Int) (ps : List Pg) (w : World) (hr : Row w w.heap.size A ps) (hv : blockB m ps = true) (hp : pageB true x1 x2 x3 x4 = true) (hx : nextV m ps = -1) :
    Calls Try.prog 119 #[.agg #[.int .i64 m, .slice A 4 c], .agg #[.bool true, .int .i64 x1, .int .i64 x2, .int .i64 x3, .int .i64 x4]] w (Made2 m 4 ps (.int .i64 (-1)) w) := by
  have hl := (block_parts hv).2.1
  have HV := Lib.hid (And.intro hl (And.intro hv (hp)))
  have HN := Lib.hid hx
  clear hv hl hp hx
  have HF := Lib.hid (frame4_start m A 4 c true x1 x2 x3 x4 ps w hr)
  clear hr
  go_enter Try.func119, Try.ntmps119
  go_wp2_with fail
  refine (specBlockValid_val HV.out.1 HV.out.2.1 _ HF.out.2.2.2.1.here (by omega)).mono ?_
  rintro e w1 ⟨rfl, hk⟩
  replace HF := Lib.hid (HF.out.keep hk)
  clear hk
  obtain ⟨b0, b1, p0, p1, p2, p3, p4, r0, r1, q0, q1⟩ := HF.out.cells
  go_wp2_with fail
  clear b0 b1 p0 p1 p2 p3 p4 r0 r1 q0 q1
  refine (specValid_val HV.out.2.2 _).mono ?_
  rintro e w1 ⟨rfl, hk⟩
  replace HF := Lib.hid (HF.out.keep hk)
  clear hk
  obtain ⟨b0, b1, p0, p1, p2, p3, p4, r0, r1, q0, q1⟩ := HF.out.cells
  go_wp2_with fail
  clear b0 b1 p0 p1 p2 p3 p4 r0 r1 q0 q1
  refine (specCopy_any _ _ _ _ _ _ HV.out.1 HF.out.2.2.2.1.here (by omega) (by omega)).mono ?_
  rintro e w2 ⟨A2, c2, rfl, _, hown, hk⟩
  have hlt := HF.out.2.2.1.lt
  have hsz := hk.size
  have hm2 := HF.out.2.2.2.2.size
  replace HF := Lib.hid (HF.out.keep hk)
  clear hk
  rcases hown.form with ⟨_, e0⟩ | ⟨g2, c2', e2, hb2, hg2, _, _⟩
  · exact absurd (HV.out.1.symm.trans (congrArg List.length e0)) (by simp)
  injection e2 with e2 e3 e4
  subst e2; subst e4
  clear e3
  have HO := Lib.hid (hown.base_le (Nat.le_trans hm2 (Nat.le_refl _)))
  have HT := Lib.hid (Blk.new w2 87 #[.int .i64 m, .slice (some ⟨g2, 0, none⟩) 4 c2])
  have HF2 := Lib.hid (HF.out.keep (grown_alloc (grown_refl w2 none) (.cells #[.int .i64 m, .slice (some ⟨g2, 0, none⟩) 4 c2] 87)))
  have HO2 := Lib.hid (HO.out.keep (grown_alloc (grown_refl w2 none) (.cells #[.int .i64 m, .slice (some ⟨g2, 0, none⟩) 4 c2] 87)))
  clear hown
  obtain ⟨b0, b1, p0, p1, p2, p3, p4, r0, r1, q0, q1⟩ := HF.out.cells
  have n1 : g2 ≠ w2.heap.size := by omega
  have n2 : w2.heap.size ≠ g2 := by omega
  have l0 : w.heap.size < w2.heap.size := by omega
  have l1 : w.heap.size + 1 < w2.heap.size := by omega
  have l2 : w.heap.size + 1 + 1 < w2.heap.size := by omega
  have n3 : w2.heap.size ≠ w.heap.size := by omega
  have n4 : w2.heap.size ≠ w.heap.size + 1 := by omega
  have n5 : w2.heap.size ≠ w.heap.size + 1 + 1 := by omega
  have n6 : w.heap.size ≠ w2.heap.size := by omega
  have n7 : w.heap.size + 1 ≠ w2.heap.size := by omega
  have n8 : w.heap.size + 1 + 1 ≠ w2.heap.size := by omega
  go_wp2_with fail
  clear b0 b1 p0 p1 p2 p3 p4 r0 r1 q0 q1
  refine (specNext_val HV.out.1 HN.out _ HF2.out.2.2.2.1.here (by omega)).mono ?_
  rintro e w3 ⟨rfl, hk⟩
  have hs3 := hk.size
  simp only [size_alloc1] at hs3
  replace HF := Lib.hid (HF2.out.keep hk)
  have ht := HT.out.keep hk
  have HO3 := Lib.hid (HO2.out.keep hk)
  clear hk HF2 HO2
  obtain ⟨b0, b1, p0, p1, p2, p3, p4, r0, r1, q0, q1⟩ := HF.out.cells
  have t0 : w3.cell? ⟨w2.heap.size, 0, none⟩ = some (.int .i64 m) := ht.cell 0
  have t1 : w3.cell? ⟨w2.heap.size, 1, none⟩ = some (.slice (some ⟨g2, 0, none⟩) 4 c2) := ht.cell 1
  clear ht
  go_wp2
  exact bodyPost_ret (v := .tuple #[.agg #[.int .i64 m, .slice (some ⟨g2, 0, none⟩) 4 c2], .int .i64 (-1)]) (by simp [results, Try.results119, go_sem, *]) rfl
    ⟨_, _, rfl, HV.out.1, (HO3.out.to_put (by simp [Value.ownBlock]; omega) _).to_put (by simp [Value.ownBlock]; omega) _, grown_put (grown_put HF.out.2.2.2.2 (le2 _) _) (le2 _) _⟩
end Go.Proofs.Yteniikfgellhfaa
namespace Go.Proofs.Yteniikfgellhfaa
open Go.ChangeShapes Go.WideShapes Go.ChangeAt Go.RowKit

theorem grown_putO {a w : World} {k o : Nat} (h : a.grownBy w none) (hk : a.heap.size ≤ k) (u0 u1 u2 u3 u4 : Value) :
    a.grownBy (((((w.setCell ⟨k, o, none⟩ u0).setCell ⟨k, o + 1, none⟩ u1).setCell ⟨k, o + 2, none⟩ u2).setCell ⟨k, o + 3, none⟩ u3).setCell ⟨k, o + 4, none⟩ u4) none :=
  grown_put (grown_put (grown_put (grown_put (grown_put h hk u0) hk u1) hk u2) hk u3) hk u4
theorem specWrite_at (m : Int) (A : Option Addr) (c : Nat) (x1 x2 x3 x4 : Int) (ps : List Pg) (w : World) (hr : Row w w.heap.size A ps) (hv : blockB m ps = true) (hp : pageB true x1 x2 x3 x4 = true) {k : Nat} (hx : nextV m ps = (k : Int)) (hk4 : k < 4) :
    Calls Try.prog 119 #[.agg #[.int .i64 m, .slice A 4 c], .agg #[.bool true, .int .i64 x1, .int .i64 x2, .int .i64 x3, .int .i64 x4]] w (Made2 m 4 (ps.set k ⟨true, x1, x2, x3, x4⟩) (.int .i64 k) w) := by
  have hl := (block_parts hv).2.1
  have HV := Lib.hid (And.intro hl (And.intro hv (hp)))
  have HN := Lib.hid hx
  obtain ⟨⟨qf, y1, y2, y3, y4⟩, hq⟩ := getD_at (show k < ps.length by omega)
  have HQ := Lib.hid hq
  clear hq
  clear hv hl hp hx
  have HF := Lib.hid (frame4_start m A 4 c true x1 x2 x3 x4 ps w hr)
  clear hr
  go_enter Try.func119, Try.ntmps119
  go_wp2_with fail
  refine (specBlockValid_val HV.out.1 HV.out.2.1 _ HF.out.2.2.2.1.here (by omega)).mono ?_
  rintro e w1 ⟨rfl, hk⟩
  replace HF := Lib.hid (HF.out.keep hk)
  clear hk
  obtain ⟨b0, b1, p0, p1, p2, p3, p4, r0, r1, q0, q1⟩ := HF.out.cells
  go_wp2_with fail
  clear b0 b1 p0 p1 p2 p3 p4 r0 r1 q0 q1
  refine (specValid_val HV.out.2.2 _).mono ?_
  rintro e w1 ⟨rfl, hk⟩
  replace HF := Lib.hid (HF.out.keep hk)
  clear hk
  obtain ⟨b0, b1, p0, p1, p2, p3, p4, r0, r1, q0, q1⟩ := HF.out.cells
  go_wp2_with fail
  clear b0 b1 p0 p1 p2 p3 p4 r0 r1 q0 q1
  refine (specCopy_any _ _ _ _ _ _ HV.out.1 HF.out.2.2.2.1.here (by omega) (by omega)).mono ?_
  rintro e w2 ⟨A2, c2, rfl, _, hown, hk⟩
  have hlt := HF.out.2.2.1.lt
  have hsz := hk.size
  have hm2 := HF.out.2.2.2.2.size
  replace HF := Lib.hid (HF.out.keep hk)
  clear hk
  rcases hown.form with ⟨_, e0⟩ | ⟨g2, c2', e2, hb2, hg2, _, _⟩
  · exact absurd (HV.out.1.symm.trans (congrArg List.length e0)) (by simp)
  injection e2 with e2 e3 e4
  subst e2; subst e4
  clear e3
  have HO := Lib.hid (hown.base_le (Nat.le_trans hm2 (Nat.le_refl _)))
  have HT := Lib.hid (Blk.new w2 87 #[.int .i64 m, .slice (some ⟨g2, 0, none⟩) 4 c2])
  have HF2 := Lib.hid (HF.out.keep (grown_alloc (grown_refl w2 none) (.cells #[.int .i64 m, .slice (some ⟨g2, 0, none⟩) 4 c2] 87)))
  have HO2 := Lib.hid (HO.out.keep (grown_alloc (grown_refl w2 none) (.cells #[.int .i64 m, .slice (some ⟨g2, 0, none⟩) 4 c2] 87)))
  clear hown
  obtain ⟨b0, b1, p0, p1, p2, p3, p4, r0, r1, q0, q1⟩ := HF.out.cells
  have n1 : g2 ≠ w2.heap.size := by omega
  have n2 : w2.heap.size ≠ g2 := by omega
  have l0 : w.heap.size < w2.heap.size := by omega
  have l1 : w.heap.size + 1 < w2.heap.size := by omega
  have l2 : w.heap.size + 1 + 1 < w2.heap.size := by omega
  have n3 : w2.heap.size ≠ w.heap.size := by omega
  have n4 : w2.heap.size ≠ w.heap.size + 1 := by omega
  have n5 : w2.heap.size ≠ w.heap.size + 1 + 1 := by omega
  have n6 : w.heap.size ≠ w2.heap.size := by omega
  have n7 : w.heap.size + 1 ≠ w2.heap.size := by omega
  have n8 : w.heap.size + 1 + 1 ≠ w2.heap.size := by omega
  go_wp2_with fail
  clear b0 b1 p0 p1 p2 p3 p4 r0 r1 q0 q1
  refine (specNext_val HV.out.1 HN.out _ HF2.out.2.2.2.1.here (by omega)).mono ?_
  rintro e w3 ⟨rfl, hk⟩
  have hs3 := hk.size
  simp only [size_alloc1] at hs3
  replace HF := Lib.hid (HF2.out.keep hk)
  have ht := HT.out.keep hk
  have HO3 := Lib.hid (HO2.out.keep hk)
  clear hk HF2 HO2
  obtain ⟨b0, b1, p0, p1, p2, p3, p4, r0, r1, q0, q1⟩ := HF.out.cells
  have t0 : w3.cell? ⟨w2.heap.size, 0, none⟩ = some (.int .i64 m) := ht.cell 0
  have t1 : w3.cell? ⟨w2.heap.size, 1, none⟩ = some (.slice (some ⟨g2, 0, none⟩) 4 c2) := ht.cell 1
  clear ht
  obtain ⟨d0, d1, d2, d3, d4⟩ := HO3.out.at_ HV.out.1 HQ.out
  have f0 := HO3.out.frozen HV.out.1 (k * 5)
  have f1 := HO3.out.frozen HV.out.1 (k * 5 + 1)
  have f2 := HO3.out.frozen HV.out.1 (k * 5 + 2)
  have f3 := HO3.out.frozen HV.out.1 (k * 5 + 3)
  have f4 := HO3.out.frozen HV.out.1 (k * 5 + 4)
  have m1 : g2 ≠ w.heap.size := by omega
  have m2 : g2 ≠ w.heap.size + 1 := by omega
  have m3 : g2 ≠ w.heap.size + 1 + 1 := by omega
  have m4 : w.heap.size ≠ g2 := by omega
  have m5 : w.heap.size + 1 ≠ g2 := by omega
  have m6 : w.heap.size + 1 + 1 ≠ g2 := by omega
  go_wp2
  exact bodyPost_ret (v := .tuple #[.agg #[.int .i64 m, .slice (some ⟨g2, 0, none⟩) 4 c2], .int .i64 k]) (by simp [results, Try.results119, go_sem, *]) rfl
    ⟨_, _, rfl, by rw [List.length_set]; exact HV.out.1, ((HO3.out.set5 HV.out.1 k ⟨true, x1, x2, x3, x4⟩).to_put (by simp [Value.ownBlock]; omega) _).to_put (by simp [Value.ownBlock]; omega) _, grown_put (grown_put (grown_putO HF.out.2.2.2.2 (by omega) _ _ _ _ _) (le2 _) _) (le2 _) _⟩
end Go.Proofs.Yteniikfgellhfaa
namespace Go.Proofs.Yteniikfgellhfaa
open Go.ChangeShapes Go.WideShapes Go.ChangeAt Go.RowKit

theorem inB_iff {n lo hi : Int} : inB n lo hi = true ↔ lo ≤ n ∧ n ≤ hi := by simp [inB]
/-- The boxed argument, the result's cell, and the pages that came in. -/
def Frame2 (B : Nat) (m : Int) (A : Option Addr) (n c : Nat) (ps : List Pg) (w wr : World) : Prop :=
  Blk wr B 87 #[.int .i64 m, .slice A n c] ∧ Blk wr (B + 1) 87 #[.int .i64 0, .slice none 0 0] ∧ Row wr B A ps ∧ w.grownBy wr none
theorem frame2_start (m : Int) (A : Option Addr) (n c : Nat) (ps : List Pg) (w : World) (hr : Row w w.heap.size A ps) : Frame2 w.heap.size m A n c ps w ((w.alloc (.cells #[.int .i64 m, .slice A n c] 87)).alloc (.cells #[.int .i64 0, .slice none 0 0] 87)) := by
  refine ⟨(Blk.new w _ _).alloc _, ?_, (hr.alloc _).alloc _, grown_alloc (grown_alloc (grown_refl _ _) _) _⟩
  have h := Blk.new (w.alloc (.cells #[.int .i64 m, .slice A n c] 87)) 87 #[.int .i64 0, .slice none 0 0]
  simpa only [size_alloc1] using h
theorem Frame2.keep {B : Nat} {m : Int} {A : Option Addr} {n c : Nat} {ps : List Pg} {w wr w' : World} (h : Frame2 B m A n c ps w wr) (k : wr.grownBy w' none) : Frame2 B m A n c ps w w' :=
  ⟨h.1.keep k, h.2.1.keep k, h.2.2.1.kept k, grown_trans h.2.2.2 k⟩
theorem Frame2.cells {B : Nat} {m : Int} {A : Option Addr} {n c : Nat} {ps : List Pg} {w wr : World} (h : Frame2 B m A n c ps w wr) :
    wr.cell? ⟨B, 0, none⟩ = some (.int .i64 m) ∧ wr.cell? ⟨B, 1, none⟩ = some (.slice A n c) ∧ wr.cell? ⟨B + 1, 0, none⟩ = some (.int .i64 0) ∧ wr.cell? ⟨B + 1, 1, none⟩ = some (.slice none 0 0) ∧
    wr.frozen? ⟨B + 1, 0, none⟩ = false ∧ wr.frozen? ⟨B + 1, 1, none⟩ = false :=
  ⟨h.1.cell 0, h.1.cell 1, h.2.1.cell 0, h.2.1.cell 1, h.2.1.frozen 0, h.2.1.frozen 1⟩
end Go.Proofs.Yteniikfgellhfaa
