/- Rows of pairs of numbers (extents, links, spans, runs, ..): a slice that is read (PRow), one that is the call's own (POwn), whatever the pairs' type. -/
import Derived.Test.YteniikfgellhfaaInts
namespace Go.Proofs.Yteniikfgellhfaa
open Go.ChangeShapes Go.WideShapes Go.ChangeAt Go.RowKit

/-- Two numbers. -/
structure Pr where
  a : Int
  b : Int
/-- The cells of a row of pairs. -/
def rv : List Pr → List Value
  | [] => []
  | p :: r => .int .i64 p.a :: .int .i64 p.b :: rv r
theorem rv_length (ps : List Pr) : (rv ps).length = ps.length * 2 := by
  induction ps with
  | nil => rfl
  | cons p r ih => simp only [rv, List.length_cons, ih]; omega
theorem rv_append (a b : List Pr) : rv (a ++ b) = rv a ++ rv b := by
  induction a with
  | nil => rfl
  | cons p r ih => simp only [List.cons_append, rv, ih]
theorem rv_one (ps : List Pr) : ∀ u ∈ rv ps, u.oneCell' = true := by
  induction ps with
  | nil => intro u hu; simp [rv] at hu
  | cons p r ih =>
    intro u hu
    simp only [rv, List.mem_cons] at hu
    rcases hu with rfl | rfl | hu
    · rfl
    · rfl
    · exact ih u hu
theorem rv_at {ps : List Pr} {i : Nat} {p : Pr} (h : ps[i]? = some p) : (rv ps)[i * 2]? = some (.int .i64 p.a) ∧ (rv ps)[i * 2 + 1]? = some (.int .i64 p.b) := by
  induction ps generalizing i with
  | nil => simp at h
  | cons q r ih =>
    cases i with
    | zero => simp at h; subst h; exact ⟨rfl, rfl⟩
    | succ i =>
      have hh := ih (i := i) (by simpa using h)
      have e : ∀ j, (rv (q :: r))[(i + 1) * 2 + j]? = (rv r)[i * 2 + j]? := fun j => by
        rw [show (i + 1) * 2 + j = i * 2 + j + 1 + 1 by omega]
        simp only [rv, List.getElem?_cons_succ]
      exact ⟨(e 0).trans hh.1, (e 1).trans hh.2⟩
theorem rv_set (ps : List Pr) (i : Nat) (p : Pr) : rv (ps.set i p) = ((rv ps).set (i * 2) (.int .i64 p.a)).set (i * 2 + 1) (.int .i64 p.b) := by
  induction ps generalizing i with
  | nil => simp [rv]
  | cons q r ih =>
    cases i with
    | zero => simp [rv]
    | succ i =>
      rw [show (i + 1) * 2 = i * 2 + 1 + 1 by omega, show i * 2 + 1 + 1 + 1 = (i * 2 + 1) + 1 + 1 from rfl]
      simp only [rv, List.set_cons_succ, ih]
theorem rv_set_b {ps : List Pr} {i : Nat} {p : Pr} (h : ps[i]? = some p) (y : Int) : (rv ps).set (i * 2 + 1) (.int .i64 y) = rv (ps.set i ⟨p.a, y⟩) := by
  rw [rv_set]
  congr 1
  have h0 := (rv_at h).1
  obtain ⟨hl, e⟩ := List.getElem?_eq_some_iff.1 h0
  show rv ps = (rv ps).set (i * 2) (Value.int .i64 p.a)
  rw [← e]
  exact (List.set_getElem_self hl).symm
theorem rv_set_a {ps : List Pr} {i : Nat} {p : Pr} (h : ps[i]? = some p) (y : Int) : (rv ps).set (i * 2) (.int .i64 y) = rv (ps.set i ⟨y, p.b⟩) := by
  rw [rv_set]
  have h0 := (rv_at h).2
  have h1 : ((rv ps).set (i * 2) (Value.int .i64 y))[i * 2 + 1]? = some (.int .i64 p.b) := by rw [List.getElem?_set_ne (by omega)]; exact h0
  obtain ⟨hl, e⟩ := List.getElem?_eq_some_iff.1 h1
  show (rv ps).set (i * 2) (Value.int .i64 y) = ((rv ps).set (i * 2) (.int .i64 y)).set (i * 2 + 1) (Value.int .i64 p.b)
  rw [← e]
  exact (List.set_getElem_self hl).symm
theorem rv_made (n : Nat) : (madeCells #[.int .i64 0, .int .i64 0] (n * 2)).toList = rv (List.replicate n ⟨0, 0⟩) := by
  have h : ∀ (cs : List Value), (∀ u ∈ cs, u = .int .i64 0) → cs = List.replicate cs.length (.int .i64 0) := fun cs hc => List.eq_replicate_of_mem hc
  have l1 : (madeCells #[Value.int .i64 0, .int .i64 0] (n * 2)).toList.length = n * 2 := by simp [madeCells]
  have l2 : (rv (List.replicate n ⟨0, 0⟩)).length = n * 2 := by rw [rv_length]; simp
  rw [h (madeCells #[Value.int .i64 0, .int .i64 0] (n * 2)).toList, h (rv (List.replicate n ⟨0, 0⟩)), l1, l2]
  · intro u hu
    have : ∀ (m : Nat), ∀ u ∈ rv (List.replicate m ⟨0, 0⟩), u = Value.int .i64 0 := by
      intro m
      induction m with
      | zero => intro u hu; simp [rv] at hu
      | succ m ih =>
        intro u hu
        simp only [List.replicate_succ, rv, List.mem_cons] at hu
        rcases hu with rfl | rfl | hu
        · rfl
        · rfl
        · exact ih u hu
    exact this n u hu
  · intro u hu
    simp only [madeCells, Array.toList_map, Array.toList_range, List.mem_map] at hu
    obtain ⟨j, _, rfl⟩ := hu
    have hm : j % (#[Value.int .i64 0, .int .i64 0] : Array Value).size < 2 := Nat.mod_lt _ (by decide)
    revert hm
    generalize j % (#[Value.int .i64 0, .int .i64 0] : Array Value).size = r
    intro hm
    match r, hm with
    | 0, _ => rfl
    | 1, _ => rfl
/-- A slice of pairs that is read. -/
def PRow (w : World) (B : Nat) (A : Option Addr) (ps : List Pr) : Prop := VRow w B A (rv ps)
/-- A slice of pairs of a type t that is the call's own. -/
def POwn (w : World) (base : Nat) (t : TypeId) (v : Value) (ps : List Pr) : Prop := w.ownsRow base t 2 v ps.length (rv ps)
section
variable {w w' : World} {B B' base base' : Nat} {A : Option Addr} {ps : List Pr} {t t' : TypeId} {v v' : Value}
theorem PRow.nil : PRow w B A [] := VRow.nil
theorem PRow.more (h : PRow w B A ps) (hB : B ≤ B') : PRow w B' A ps := VRow.more h hB
theorem PRow.kept (h : PRow w B A ps) (hg : w.grownBy w' none) : PRow w' B A ps := VRow.kept h hg
theorem PRow.grown (h : PRow w B A ps) {row : Option Nat} (hg : w.grownBy w' row) (hr : ∀ g, row = some g → B ≤ g) : PRow w' B A ps := VRow.grown h hg hr
theorem PRow.below (h : PRow w B A ps) (hb : Below B w w') : PRow w' B A ps := VRow.below h hb
theorem PRow.alloc (h : PRow w B A ps) (o : Obj) : PRow (w.alloc o) B A ps := VRow.alloc h o
theorem PRow.put (h : PRow w B A ps) {p : Addr} (hB : B ≤ p.block) (u : Value) : PRow (w.setCell p u) B A ps := VRow.setCell h hB u
theorem PRow.here (h : PRow w B A ps) : PRow w w.heap.size A ps := VRow.here h
theorem PRow.keepN (h : PRow w w.heap.size A ps) (k : w.grownBy w' none) : PRow w' w'.heap.size A ps := VRow.here (VRow.kept h k)
theorem PRow.pos (h : PRow w B A ps) (hp : 0 < ps.length) : ∃ g off, A = some ⟨g, off, none⟩ ∧ g < B := by
  obtain ⟨g, off, e, hb, _⟩ := h (by rw [rv_length]; omega)
  exact ⟨g, off, e, hb⟩
theorem PRow.cellf {g off i : Nat} {p : Pr} (h : PRow w B (some ⟨g, off, none⟩) ps) (hp : ps[i]? = some p) : w.cell? ⟨g, off + i * 2, none⟩ = some (.int .i64 p.a) ∧ w.cell? ⟨g, off + i * 2 + 1, none⟩ = some (.int .i64 p.b) := by
  have hl := (List.getElem?_eq_some_iff.1 hp).1
  obtain ⟨g', off', e, _, _, hc⟩ := h (by rw [rv_length]; omega)
  injection e with e
  injection e with e1 e2
  subst e1; subst e2
  obtain ⟨h0, h1⟩ := rv_at hp
  exact ⟨hc _ _ h0, by have := hc _ _ h1; rwa [← Nat.add_assoc] at this⟩
theorem POwn.kept {row : Option Nat} (h : POwn w base t v ps) (hg : w.grownBy w' row) (hne : v.ownBlock = none ∨ v.ownBlock ≠ row) : POwn w' base t v ps := World.ownsRow.kept h hg hne
theorem POwn.keep (h : POwn w base t v ps) (hg : w.grownBy w' none) : POwn w' base t v ps := World.ownsRow.kept h hg (by cases v.ownBlock <;> simp)
theorem POwn.form (h : POwn w base t v ps) : (v = .slice none 0 0 ∧ ps = []) ∨ ∃ g cap, v = .slice (some ⟨g, 0, none⟩) ps.length cap ∧ base ≤ g ∧ g < w.heap.size ∧ ps.length ≤ cap ∧ cap ≤ maxLen := by
  rcases h.2 with ⟨e, hn⟩ | ⟨g, cap, cur, e, hb, hg, hc, hm, _⟩
  · exact .inl ⟨e, List.eq_nil_of_length_eq_zero hn⟩
  · exact .inr ⟨g, cap, e, hb, (Array.getElem?_eq_some_iff.1 hg).1, hc, hm⟩
theorem POwn.slice (h : POwn w base t v ps) : ∃ A c, v = .slice A ps.length c := by
  rcases h.form with ⟨rfl, rfl⟩ | ⟨g, cap, e, _⟩
  · exact ⟨none, 0, rfl⟩
  · exact ⟨_, _, e⟩
theorem POwn.at_ {g cap n i : Nat} {p : Pr} (h : POwn w base t (.slice (some ⟨g, 0, none⟩) n cap) ps) (hn : ps.length = n) (hp : ps[i]? = some p) : w.cell? ⟨g, i * 2, none⟩ = some (.int .i64 p.a) ∧ w.cell? ⟨g, i * 2 + 1, none⟩ = some (.int .i64 p.b) := by
  subst hn
  have hl := (List.getElem?_eq_some_iff.1 hp).1
  obtain ⟨h0, h1⟩ := rv_at hp
  exact ⟨(World.ownsRow.cellAt h _ (by omega)).trans h0, (World.ownsRow.cellAt h _ (by omega)).trans h1⟩
theorem POwn.frozen {g cap n : Nat} (h : POwn w base t (.slice (some ⟨g, 0, none⟩) n cap) ps) (hn : ps.length = n) (j : Nat) : w.frozen? ⟨g, j, none⟩ = false := by
  subst hn
  exact World.ownsRow.frozenAt h j
theorem POwn.row {n c : Nat} (h : POwn w base t (.slice A n c) ps) : PRow w w.heap.size A ps := fun hpos => by
  rcases h.form with ⟨_, rfl⟩ | ⟨g, cap, e, hb, hlt, _, _⟩
  · simp [rv] at hpos
  · injection e with e1 e2 e3
    subst e1; subst e2; subst e3
    refine ⟨g, 0, rfl, hlt, hlt, fun i u hu => ?_⟩
    have hi := (List.getElem?_eq_some_iff.1 hu).1
    rw [rv_length] at hi
    rw [Nat.zero_add]
    exact (World.ownsRow.cellAt h i hi).trans hu
/-- The second, or the first number of pair i is written. -/
theorem POwn.setB {g cap n i : Nat} {p : Pr} (h : POwn w base t (.slice (some ⟨g, 0, none⟩) n cap) ps) (hn : ps.length = n) (hp : ps[i]? = some p) (y : Int) : POwn (w.setCell ⟨g, i * 2 + 1, none⟩ (.int .i64 y)) base t (.slice (some ⟨g, 0, none⟩) n cap) (ps.set i ⟨p.a, y⟩) := by
  subst hn
  unfold POwn
  rw [List.length_set, ← rv_set_b hp]
  exact (World.ownsRow.stored h _ _).1
theorem POwn.setA {g cap n i : Nat} {p : Pr} (h : POwn w base t (.slice (some ⟨g, 0, none⟩) n cap) ps) (hn : ps.length = n) (hp : ps[i]? = some p) (y : Int) : POwn (w.setCell ⟨g, i * 2, none⟩ (.int .i64 y)) base t (.slice (some ⟨g, 0, none⟩) n cap) (ps.set i ⟨y, p.b⟩) := by
  subst hn
  unfold POwn
  rw [List.length_set, ← rv_set_a hp]
  exact (World.ownsRow.stored h _ _).1
/-- Both numbers are written. -/
theorem POwn.set2 {g cap n i : Nat} {p : Pr} (h : POwn w base t (.slice (some ⟨g, 0, none⟩) n cap) ps) (hn : ps.length = n) (hp : ps[i]? = some p) (q : Pr) : POwn ((w.setCell ⟨g, i * 2, none⟩ (.int .i64 q.a)).setCell ⟨g, i * 2 + 1, none⟩ (.int .i64 q.b)) base t (.slice (some ⟨g, 0, none⟩) n cap) (ps.set i q) := by
  have h1 := h.setA hn hp q.a
  have hl := (List.getElem?_eq_some_iff.1 hp).1
  have h2 := h1.setB (by rw [List.length_set]; exact hn) (List.getElem?_set_self hl) q.b
  rw [List.set_set] at h2
  exact h2
theorem POwn.base_le (h : POwn w base t v ps) (hb : base' ≤ base) : POwn w base' t v ps := by
  refine ⟨h.1, ?_⟩
  rcases h.2 with h2 | ⟨g, cap, cur, e, hg, hr⟩
  · exact .inl h2
  · exact .inr ⟨g, cap, cur, e, by omega, hr⟩
theorem POwn.to_put {p : Addr} (h : POwn w base t v ps) (hv : v.ownBlock ≠ some p.block) (u : Value) : POwn (w.setCell p u) base t v ps :=
  World.ownsRow.kept h (grown_set (grown_refl w (some p.block)) (.inl rfl) u) (.inr hv)
theorem POwn.lt (h : POwn w base t v ps) : ∀ g, v.ownBlock = some g → base ≤ g ∧ g < w.heap.size := World.ownsRow.lt h
theorem POwn.ne (h : POwn w base t v ps) {size n : Nat} {xs : List Value} (h' : w.ownsRow base' t' size v' n xs) (ht : t ≠ t') : v.ownBlock = none ∨ v.ownBlock ≠ v'.ownBlock := by
  rcases h.2 with ⟨rfl, _⟩ | ⟨g, cap, cur, rfl, _, hh, _⟩
  · exact .inl rfl
  · refine .inr fun e => ?_
    rcases h'.2 with ⟨rfl, _⟩ | ⟨g', cap', cur', rfl, _, hh', _⟩
    · simp [Value.ownBlock] at e
    · simp only [Value.ownBlock, Option.some.injEq] at e
      rw [e, hh'] at hh
      injection hh with hh
      injection hh with _ ht'
      exact absurd ht'.symm ht
theorem POwn.ne_blk {g n c : Nat} {V : Nat} {cc : Array Value} (h : POwn w base t (.slice (some ⟨g, 0, none⟩) n c) ps) (hb : Blk w V t' cc) (ht : t ≠ t') : g ≠ V := by
  rcases h.2 with ⟨e, _⟩ | ⟨g', cap, cur, e, _, hh, _⟩
  · cases e
  · injection e with e1 e2 e3
    injection e1 with e1
    injection e1 with e1
    subst e1
    rintro rfl
    unfold Blk at hb
    rw [hh] at hb
    injection hb with hb
    injection hb with _ ht'
    exact ht ht'
theorem POwn.capn {n c : Nat} (h : POwn w base t (.slice A n c) ps) (hl : ps.length = n) : n ≤ c ∧ c ≤ maxLen := by
  rcases h.form with ⟨e, rfl⟩ | ⟨g', cap, e, _, _, h1, h2⟩
  · injection e with e1 e2 e3
    subst e2; subst e3
    exact ⟨Nat.le_refl _, by simp [maxLen]⟩
  · injection e with e1 e2 e3
    subst e3
    exact ⟨by omega, h2⟩
theorem pown_nil (w : World) (base : Nat) (t : TypeId) : POwn w base t (.slice none 0 0) [] := World.ownsRow_nil _ _ _ _
end
theorem pown_lit0 (w : World) (base : Nat) (t : TypeId) (hb : base ≤ w.heap.size) : POwn (w.alloc (.cells #[] t)) base t (.slice (some ⟨w.heap.size, 0, none⟩) 0 0) [] := by
  have h := World.ownsRow_lit (e := t) (size := 2) w #[] 0 hb (by simp [maxLen]) (by simp)
  exact h
theorem pown_lit1 (w : World) (base : Nat) (t : TypeId) (a b : Int) (hb : base ≤ w.heap.size) : POwn (w.alloc (.cells #[.int .i64 a, .int .i64 b] t)) base t (.slice (some ⟨w.heap.size, 0, none⟩) 1 1) [⟨a, b⟩] := by
  have h := World.ownsRow_lit (e := t) (size := 2) w #[.int .i64 a, .int .i64 b] 1 hb (by simp [maxLen]) (by simp)
  exact h
theorem pown_made (w : World) (base n : Nat) (t : TypeId) (hb : base ≤ w.heap.size) (hn : n ≤ maxLen) : POwn (w.alloc (.cells (madeCells #[.int .i64 0, .int .i64 0] (n * 2)) t)) base t (.slice (some ⟨w.heap.size, 0, none⟩) n n) (List.replicate n ⟨0, 0⟩) := by
  have h := World.ownsRow_lit (e := t) (size := 2) w (madeCells #[.int .i64 0, .int .i64 0] (n * 2)) n hb hn (by simp [madeCells])
  rw [rv_made] at h
  unfold POwn
  rw [List.length_replicate]
  exact h
theorem prow_one (w : World) (t : TypeId) (a b : Int) : PRow (w.alloc (.cells #[.int .i64 a, .int .i64 b] t)) (w.heap.size + 1) (some ⟨w.heap.size, 0, none⟩) [⟨a, b⟩] := fun _ => by
  refine ⟨w.heap.size, 0, rfl, Nat.lt_succ_self _, by simp, fun i u hu => ?_⟩
  match i, hu with
  | 0, hu => simp [rv] at hu; subst hu; exact (Blk.new w t #[.int .i64 a, .int .i64 b]).cell 0
  | 1, hu => simp [rv] at hu; subst hu; exact (Blk.new w t #[.int .i64 a, .int .i64 b]).cell 1
  | i + 2, hu => simp [rv] at hu
/-- The first k pairs taken over, the rest zero. -/
def pfill (ps : List Pr) (n k : Nat) : List Pr := ps.take k ++ List.replicate (n - k) ⟨0, 0⟩
theorem pfill_zero (ps : List Pr) (n : Nat) : pfill ps n 0 = List.replicate n ⟨0, 0⟩ := by simp [pfill]
theorem pfill_end {ps : List Pr} {n : Nat} (h : ps.length = n) : pfill ps n n = ps := by subst h; simp [pfill]
theorem pfill_length {ps : List Pr} {n k : Nat} (h : ps.length = n) (hk : k ≤ n) : (pfill ps n k).length = n := by
  simp only [pfill, List.length_append, List.length_take, List.length_replicate]; omega
theorem pfill_step {ps : List Pr} {n k : Nat} {p : Pr} (h : ps.length = n) (hp : ps[k]? = some p) : (pfill ps n k).set k p = pfill ps n (k + 1) := by
  have hk : k < ps.length := (List.getElem?_eq_some_iff.1 hp).1
  have e : n - k = (n - (k + 1)) + 1 := by omega
  have ht : (ps.take k).length = k := by rw [List.length_take]; omega
  unfold pfill
  rw [e, List.replicate_succ, List.set_append_right _ _ (by omega), ht, Nat.sub_self, List.set_cons_zero, List.take_add_one, hp]
  simp
/-- What a mark writes from number k0 on; n pairs of it; in front of what was there. -/
def pmarks (k0 n : Nat) : List Pr := (List.range n).map fun j => ⟨((k0 + 2 * j : Nat) : Int), ((k0 + 2 * j : Nat) : Int) + 1⟩
def pmarkTo (k0 : Nat) (ps : List Pr) (i : Nat) : List Pr := pmarks k0 i ++ ps.drop i
theorem pmarks_length (k0 n : Nat) : (pmarks k0 n).length = n := by simp [pmarks]
theorem pmarks_at {k0 n i : Nat} (h : i < n) : (pmarks k0 n)[i]? = some ⟨((k0 + 2 * i : Nat) : Int), ((k0 + 2 * i : Nat) : Int) + 1⟩ := by simp [pmarks, h]
theorem pmarkTo_length {k0 i : Nat} {ps : List Pr} (h : i ≤ ps.length) : (pmarkTo k0 ps i).length = ps.length := by
  simp only [pmarkTo, List.length_append, pmarks_length, List.length_drop]; omega
theorem pmarkTo_zero (k0 : Nat) (ps : List Pr) : pmarkTo k0 ps 0 = ps := by simp [pmarkTo, pmarks]
theorem pmarkTo_end (k0 : Nat) (ps : List Pr) : pmarkTo k0 ps ps.length = pmarks k0 ps.length := by simp [pmarkTo]
theorem pmarkTo_step {k0 i : Nat} {ps : List Pr} (h : i < ps.length) : (pmarkTo k0 ps i).set i ⟨((k0 + 2 * i : Nat) : Int), ((k0 + 2 * i : Nat) : Int) + 1⟩ = pmarkTo k0 ps (i + 1) := by
  unfold pmarkTo
  rw [List.set_append_right _ _ (by rw [pmarks_length]; omega), pmarks_length, Nat.sub_self]
  have e : pmarks k0 (i + 1) = pmarks k0 i ++ [⟨((k0 + 2 * i : Nat) : Int), ((k0 + 2 * i : Nat) : Int) + 1⟩] := by simp [pmarks, List.range_succ]
  rw [e, List.append_assoc]
  congr 1
  rw [List.drop_eq_getElem_cons h]
  rfl
/-- What a walk is told of a slice of pairs that came in. -/
def IsPrs (w : World) (A : Option Addr) (n c : Nat) (ps : List Pr) : Prop := ps.length = n ∧ n ≤ c ∧ c ≤ maxLen ∧ PRow w w.heap.size A ps
theorem all_ofP {Q : Nat → Pr → Prop} (n : Nat) (h : ∀ i, i < n → ∃ p, Q i p) : ∃ ps : List Pr, ps.length = n ∧ ∀ i p, ps[i]? = some p → Q i p := by
  induction n with
  | zero => exact ⟨[], rfl, fun i p hp => by simp at hp⟩
  | succ n ih =>
    obtain ⟨ps, hl, hq⟩ := ih fun i hi => h i (by omega)
    obtain ⟨p, hp⟩ := h n (by omega)
    refine ⟨ps ++ [p], by simp [hl], fun i q hi => ?_⟩
    rcases Nat.lt_trichotomy i n with h1 | h1 | h1
    · rw [List.getElem?_append_left (by omega)] at hi
      exact hq i q hi
    · subst h1
      rw [List.getElem?_append_right (by omega), hl, Nat.sub_self] at hi
      simp at hi
      rw [← hi]; exact hp
    · rw [List.getElem?_eq_none (by simp; omega)] at hi
      cases hi
/-- A cell of a row, out of its pair. -/
theorem rv_get {ps : List Pr} {i : Nat} {u : Value} (h : (rv ps)[i]? = some u) : ∃ p, ps[i / 2]? = some p ∧ ((i % 2 = 0 ∧ u = .int .i64 p.a) ∨ (i % 2 = 1 ∧ u = .int .i64 p.b)) := by
  have hl := (List.getElem?_eq_some_iff.1 h).1
  rw [rv_length] at hl
  obtain ⟨p, hp⟩ : ∃ p, ps[i / 2]? = some p := ⟨_, List.getElem?_eq_getElem (by omega)⟩
  obtain ⟨h0, h1⟩ := rv_at hp
  refine ⟨p, hp, ?_⟩
  rcases Nat.mod_two_eq_zero_or_one i with e | e
  · rw [show i / 2 * 2 = i by omega, h] at h0
    injection h0 with h0
    exact .inl ⟨e, h0⟩
  · rw [show i / 2 * 2 + 1 = i by omega, h] at h1
    injection h1 with h1
    exact .inr ⟨e, h1⟩
end Go.Proofs.Yteniikfgellhfaa
