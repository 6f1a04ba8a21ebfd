/- Rows of a text and a number (names): a slice that is read (NRow), one that is the call's own (NOwn). Written by mk/names_of.py. -/
import Derived.Test.YtengcjglkcmkbaaInts
namespace Go.Proofs.Ytengcjglkcmkbaa
open Go.ChangeShapes Go.WideShapes Go.ChangeAt Go.RowKit

/-- A text and a number. -/
structure Nm where
  a : ByteArray
  b : Int
/-- The cells of a row of pairs. -/
def nv : List Nm → List Value
  | [] => []
  | p :: r => .string p.a :: .int .i64 p.b :: nv r
theorem nv_length (ps : List Nm) : (nv ps).length = ps.length * 2 := by
  induction ps with
  | nil => rfl
  | cons p r ih => simp only [nv, List.length_cons, ih]; omega
theorem nv_append (a b : List Nm) : nv (a ++ b) = nv a ++ nv b := by
  induction a with
  | nil => rfl
  | cons p r ih => simp only [List.cons_append, nv, ih]
theorem nv_one (ps : List Nm) : ∀ u ∈ nv ps, u.oneCell' = true := by
  induction ps with
  | nil => intro u hu; simp [nv] at hu
  | cons p r ih =>
    intro u hu
    simp only [nv, List.mem_cons] at hu
    rcases hu with rfl | rfl | hu
    · rfl
    · rfl
    · exact ih u hu
theorem nv_at {ps : List Nm} {i : Nat} {p : Nm} (h : ps[i]? = some p) : (nv ps)[i * 2]? = some (.string p.a) ∧ (nv ps)[i * 2 + 1]? = some (.int .i64 p.b) := by
  induction ps generalizing i with
  | nil => simp at h
  | cons q r ih =>
    cases i with
    | zero => simp at h; subst h; exact ⟨rfl, rfl⟩
    | succ i =>
      have hh := ih (i := i) (by simpa using h)
      have e : ∀ j, (nv (q :: r))[(i + 1) * 2 + j]? = (nv r)[i * 2 + j]? := fun j => by
        rw [show (i + 1) * 2 + j = i * 2 + j + 1 + 1 by omega]
        simp only [nv, List.getElem?_cons_succ]
      exact ⟨(e 0).trans hh.1, (e 1).trans hh.2⟩
theorem nv_set (ps : List Nm) (i : Nat) (p : Nm) : nv (ps.set i p) = ((nv ps).set (i * 2) (.string p.a)).set (i * 2 + 1) (.int .i64 p.b) := by
  induction ps generalizing i with
  | nil => simp [nv]
  | cons q r ih =>
    cases i with
    | zero => simp [nv]
    | succ i =>
      rw [show (i + 1) * 2 = i * 2 + 1 + 1 by omega, show i * 2 + 1 + 1 + 1 = (i * 2 + 1) + 1 + 1 from rfl]
      simp only [nv, List.set_cons_succ, ih]
theorem nv_set_b {ps : List Nm} {i : Nat} {p : Nm} (h : ps[i]? = some p) (y : Int) : (nv ps).set (i * 2 + 1) (.int .i64 y) = nv (ps.set i ⟨p.a, y⟩) := by
  rw [nv_set]
  congr 1
  have h0 := (nv_at h).1
  obtain ⟨hl, e⟩ := List.getElem?_eq_some_iff.1 h0
  show nv ps = (nv ps).set (i * 2) (Value.string p.a)
  rw [← e]
  exact (List.set_getElem_self hl).symm
theorem nv_set_a {ps : List Nm} {i : Nat} {p : Nm} (h : ps[i]? = some p) (y : ByteArray) : (nv ps).set (i * 2) (.string y) = nv (ps.set i ⟨y, p.b⟩) := by
  rw [nv_set]
  have h0 := (nv_at h).2
  have h1 : ((nv ps).set (i * 2) (Value.string y))[i * 2 + 1]? = some (.int .i64 p.b) := by rw [List.getElem?_set_ne (by omega)]; exact h0
  obtain ⟨hl, e⟩ := List.getElem?_eq_some_iff.1 h1
  show (nv ps).set (i * 2) (Value.string y) = ((nv ps).set (i * 2) (.string y)).set (i * 2 + 1) (Value.int .i64 p.b)
  rw [← e]
  exact (List.set_getElem_self hl).symm
theorem nv_made (n : Nat) : (madeCells #[.string ⟨#[]⟩, .int .i64 0] (n * 2)).toList = nv (List.replicate n ⟨⟨#[]⟩, 0⟩) := by
  refine List.ext_getElem? fun i => ?_
  by_cases hi : i < n * 2
  · have hp : (List.replicate n (⟨⟨#[]⟩, 0⟩ : Nm))[i / 2]? = some ⟨⟨#[]⟩, 0⟩ := by rw [List.getElem?_replicate, if_pos (by omega)]
    obtain ⟨h0, h1⟩ := nv_at hp
    have hm : (madeCells #[Value.string ⟨#[]⟩, .int .i64 0] (n * 2)).toList[i]? = some (#[Value.string ⟨#[]⟩, .int .i64 0][i % 2]!) := by simp [madeCells, hi]
    rw [hm]
    rcases Nat.mod_two_eq_zero_or_one i with e | e
    · rw [show i / 2 * 2 = i by omega] at h0
      rw [e, h0]; rfl
    · rw [show i / 2 * 2 + 1 = i by omega] at h1
      rw [e, h1]; rfl
  · rw [List.getElem?_eq_none (by simp [madeCells]; omega), List.getElem?_eq_none (by rw [nv_length]; simp; omega)]
/-- A slice of pairs that is read. -/
def NRow (w : World) (B : Nat) (A : Option Addr) (ps : List Nm) : Prop := VRow w B A (nv ps)
/-- A slice of pairs of a type t that is the call's own. -/
def NOwn (w : World) (base : Nat) (t : TypeId) (v : Value) (ps : List Nm) : Prop := w.ownsRow base t 2 v ps.length (nv ps)
section
variable {w w' : World} {B B' base base' : Nat} {A : Option Addr} {ps : List Nm} {t t' : TypeId} {v v' : Value}
theorem NRow.nil : NRow w B A [] := VRow.nil
theorem NRow.more (h : NRow w B A ps) (hB : B ≤ B') : NRow w B' A ps := VRow.more h hB
theorem NRow.kept (h : NRow w B A ps) (hg : w.grownBy w' none) : NRow w' B A ps := VRow.kept h hg
theorem NRow.grown (h : NRow w B A ps) {row : Option Nat} (hg : w.grownBy w' row) (hr : ∀ g, row = some g → B ≤ g) : NRow w' B A ps := VRow.grown h hg hr
theorem NRow.below (h : NRow w B A ps) (hb : Below B w w') : NRow w' B A ps := VRow.below h hb
theorem NRow.alloc (h : NRow w B A ps) (o : Obj) : NRow (w.alloc o) B A ps := VRow.alloc h o
theorem NRow.put (h : NRow w B A ps) {p : Addr} (hB : B ≤ p.block) (u : Value) : NRow (w.setCell p u) B A ps := VRow.setCell h hB u
theorem NRow.here (h : NRow w B A ps) : NRow w w.heap.size A ps := VRow.here h
theorem NRow.keepN (h : NRow w w.heap.size A ps) (k : w.grownBy w' none) : NRow w' w'.heap.size A ps := VRow.here (VRow.kept h k)
theorem NRow.pos (h : NRow w B A ps) (hp : 0 < ps.length) : ∃ g off, A = some ⟨g, off, none⟩ ∧ g < B := by
  obtain ⟨g, off, e, hb, _⟩ := h (by rw [nv_length]; omega)
  exact ⟨g, off, e, hb⟩
theorem NRow.cellf {g off i : Nat} {p : Nm} (h : NRow w B (some ⟨g, off, none⟩) ps) (hp : ps[i]? = some p) : w.cell? ⟨g, off + i * 2, none⟩ = some (.string p.a) ∧ w.cell? ⟨g, off + i * 2 + 1, none⟩ = some (.int .i64 p.b) := by
  have hl := (List.getElem?_eq_some_iff.1 hp).1
  obtain ⟨g', off', e, _, _, hc⟩ := h (by rw [nv_length]; omega)
  injection e with e
  injection e with e1 e2
  subst e1; subst e2
  obtain ⟨h0, h1⟩ := nv_at hp
  exact ⟨hc _ _ h0, by have := hc _ _ h1; rwa [← Nat.add_assoc] at this⟩
theorem NOwn.kept {row : Option Nat} (h : NOwn w base t v ps) (hg : w.grownBy w' row) (hne : v.ownBlock = none ∨ v.ownBlock ≠ row) : NOwn w' base t v ps := World.ownsRow.kept h hg hne
theorem NOwn.keep (h : NOwn w base t v ps) (hg : w.grownBy w' none) : NOwn w' base t v ps := World.ownsRow.kept h hg (by cases v.ownBlock <;> simp)
theorem NOwn.form (h : NOwn w base t v ps) : (v = .slice none 0 0 ∧ ps = []) ∨ ∃ g cap, v = .slice (some ⟨g, 0, none⟩) ps.length cap ∧ base ≤ g ∧ g < w.heap.size ∧ ps.length ≤ cap ∧ cap ≤ maxLen := by
  rcases h.2 with ⟨e, hn⟩ | ⟨g, cap, cur, e, hb, hg, hc, hm, _⟩
  · exact .inl ⟨e, List.eq_nil_of_length_eq_zero hn⟩
  · exact .inr ⟨g, cap, e, hb, (Array.getElem?_eq_some_iff.1 hg).1, hc, hm⟩
theorem NOwn.slice (h : NOwn w base t v ps) : ∃ A c, v = .slice A ps.length c := by
  rcases h.form with ⟨rfl, rfl⟩ | ⟨g, cap, e, _⟩
  · exact ⟨none, 0, rfl⟩
  · exact ⟨_, _, e⟩
theorem NOwn.at_ {g cap n i : Nat} {p : Nm} (h : NOwn w base t (.slice (some ⟨g, 0, none⟩) n cap) ps) (hn : ps.length = n) (hp : ps[i]? = some p) : w.cell? ⟨g, i * 2, none⟩ = some (.string p.a) ∧ w.cell? ⟨g, i * 2 + 1, none⟩ = some (.int .i64 p.b) := by
  subst hn
  have hl := (List.getElem?_eq_some_iff.1 hp).1
  obtain ⟨h0, h1⟩ := nv_at hp
  exact ⟨(World.ownsRow.cellAt h _ (by omega)).trans h0, (World.ownsRow.cellAt h _ (by omega)).trans h1⟩
theorem NOwn.frozen {g cap n : Nat} (h : NOwn w base t (.slice (some ⟨g, 0, none⟩) n cap) ps) (hn : ps.length = n) (j : Nat) : w.frozen? ⟨g, j, none⟩ = false := by
  subst hn
  exact World.ownsRow.frozenAt h j
theorem NOwn.row {n c : Nat} (h : NOwn w base t (.slice A n c) ps) : NRow w w.heap.size A ps := fun hpos => by
  rcases h.form with ⟨_, rfl⟩ | ⟨g, cap, e, hb, hlt, _, _⟩
  · simp [nv] at hpos
  · injection e with e1 e2 e3
    subst e1; subst e2; subst e3
    refine ⟨g, 0, rfl, hlt, hlt, fun i u hu => ?_⟩
    have hi := (List.getElem?_eq_some_iff.1 hu).1
    rw [nv_length] at hi
    rw [Nat.zero_add]
    exact (World.ownsRow.cellAt h i hi).trans hu
/-- The second, or the first number of pair i is written. -/
theorem NOwn.setB {g cap n i : Nat} {p : Nm} (h : NOwn w base t (.slice (some ⟨g, 0, none⟩) n cap) ps) (hn : ps.length = n) (hp : ps[i]? = some p) (y : Int) : NOwn (w.setCell ⟨g, i * 2 + 1, none⟩ (.int .i64 y)) base t (.slice (some ⟨g, 0, none⟩) n cap) (ps.set i ⟨p.a, y⟩) := by
  subst hn
  unfold NOwn
  rw [List.length_set, ← nv_set_b hp]
  exact (World.ownsRow.stored h _ _).1
theorem NOwn.setA {g cap n i : Nat} {p : Nm} (h : NOwn w base t (.slice (some ⟨g, 0, none⟩) n cap) ps) (hn : ps.length = n) (hp : ps[i]? = some p) (y : ByteArray) : NOwn (w.setCell ⟨g, i * 2, none⟩ (.string y)) base t (.slice (some ⟨g, 0, none⟩) n cap) (ps.set i ⟨y, p.b⟩) := by
  subst hn
  unfold NOwn
  rw [List.length_set, ← nv_set_a hp]
  exact (World.ownsRow.stored h _ _).1
/-- Both numbers are written. -/
theorem NOwn.set2 {g cap n i : Nat} {p : Nm} (h : NOwn w base t (.slice (some ⟨g, 0, none⟩) n cap) ps) (hn : ps.length = n) (hp : ps[i]? = some p) (q : Nm) : NOwn ((w.setCell ⟨g, i * 2, none⟩ (.string q.a)).setCell ⟨g, i * 2 + 1, none⟩ (.int .i64 q.b)) base t (.slice (some ⟨g, 0, none⟩) n cap) (ps.set i q) := by
  have h1 := h.setA hn hp q.a
  have hl := (List.getElem?_eq_some_iff.1 hp).1
  have h2 := h1.setB (by rw [List.length_set]; exact hn) (List.getElem?_set_self hl) q.b
  rw [List.set_set] at h2
  exact h2
theorem NOwn.base_le (h : NOwn w base t v ps) (hb : base' ≤ base) : NOwn w base' t v ps := by
  refine ⟨h.1, ?_⟩
  rcases h.2 with h2 | ⟨g, cap, cur, e, hg, hr⟩
  · exact .inl h2
  · exact .inr ⟨g, cap, cur, e, by omega, hr⟩
theorem NOwn.to_put {p : Addr} (h : NOwn w base t v ps) (hv : v.ownBlock ≠ some p.block) (u : Value) : NOwn (w.setCell p u) base t v ps :=
  World.ownsRow.kept h (grown_set (grown_refl w (some p.block)) (.inl rfl) u) (.inr hv)
theorem NOwn.lt (h : NOwn w base t v ps) : ∀ g, v.ownBlock = some g → base ≤ g ∧ g < w.heap.size := World.ownsRow.lt h
theorem NOwn.ne (h : NOwn w base t v ps) {size n : Nat} {xs : List Value} (h' : w.ownsRow base' t' size v' n xs) (ht : t ≠ t') : v.ownBlock = none ∨ v.ownBlock ≠ v'.ownBlock := by
  rcases h.2 with ⟨rfl, _⟩ | ⟨g, cap, cur, rfl, _, hh, _⟩
  · exact .inl rfl
  · refine .inr fun e => ?_
    rcases h'.2 with ⟨rfl, _⟩ | ⟨g', cap', cur', rfl, _, hh', _⟩
    · simp [Value.ownBlock] at e
    · simp only [Value.ownBlock, Option.some.injEq] at e
      rw [e, hh'] at hh
      injection hh with hh
      injection hh with _ ht'
      exact absurd ht'.symm ht
theorem NOwn.ne_blk {g n c : Nat} {V : Nat} {cc : Array Value} (h : NOwn w base t (.slice (some ⟨g, 0, none⟩) n c) ps) (hb : Blk w V t' cc) (ht : t ≠ t') : g ≠ V := by
  rcases h.2 with ⟨e, _⟩ | ⟨g', cap, cur, e, _, hh, _⟩
  · cases e
  · injection e with e1 e2 e3
    injection e1 with e1
    injection e1 with e1
    subst e1
    rintro rfl
    unfold Blk at hb
    rw [hh] at hb
    injection hb with hb
    injection hb with _ ht'
    exact ht ht'
theorem NOwn.capn {n c : Nat} (h : NOwn w base t (.slice A n c) ps) (hl : ps.length = n) : n ≤ c ∧ c ≤ maxLen := by
  rcases h.form with ⟨e, rfl⟩ | ⟨g', cap, e, _, _, h1, h2⟩
  · injection e with e1 e2 e3
    subst e2; subst e3
    exact ⟨Nat.le_refl _, by simp [maxLen]⟩
  · injection e with e1 e2 e3
    subst e3
    exact ⟨by omega, h2⟩
theorem nown_nil (w : World) (base : Nat) (t : TypeId) : NOwn w base t (.slice none 0 0) [] := World.ownsRow_nil _ _ _ _
end
theorem nown_lit0 (w : World) (base : Nat) (t : TypeId) (hb : base ≤ w.heap.size) : NOwn (w.alloc (.cells #[] t)) base t (.slice (some ⟨w.heap.size, 0, none⟩) 0 0) [] := by
  have h := World.ownsRow_lit (e := t) (size := 2) w #[] 0 hb (by simp [maxLen]) (by simp)
  exact h
theorem nown_lit1 (w : World) (base : Nat) (t : TypeId) (a : ByteArray) (b : Int) (hb : base ≤ w.heap.size) : NOwn (w.alloc (.cells #[.string a, .int .i64 b] t)) base t (.slice (some ⟨w.heap.size, 0, none⟩) 1 1) [⟨a, b⟩] := by
  have h := World.ownsRow_lit (e := t) (size := 2) w #[.string a, .int .i64 b] 1 hb (by simp [maxLen]) (by simp)
  exact h
theorem nown_made (w : World) (base n : Nat) (t : TypeId) (hb : base ≤ w.heap.size) (hn : n ≤ maxLen) : NOwn (w.alloc (.cells (madeCells #[.string ⟨#[]⟩, .int .i64 0] (n * 2)) t)) base t (.slice (some ⟨w.heap.size, 0, none⟩) n n) (List.replicate n ⟨⟨#[]⟩, 0⟩) := by
  have h := World.ownsRow_lit (e := t) (size := 2) w (madeCells #[.string ⟨#[]⟩, .int .i64 0] (n * 2)) n hb hn (by simp [madeCells])
  rw [nv_made] at h
  unfold NOwn
  rw [List.length_replicate]
  exact h
theorem nrow_one (w : World) (t : TypeId) (a : ByteArray) (b : Int) : NRow (w.alloc (.cells #[.string a, .int .i64 b] t)) (w.heap.size + 1) (some ⟨w.heap.size, 0, none⟩) [⟨a, b⟩] := fun _ => by
  refine ⟨w.heap.size, 0, rfl, Nat.lt_succ_self _, by simp, fun i u hu => ?_⟩
  match i, hu with
  | 0, hu => simp [nv] at hu; subst hu; exact (Blk.new w t #[.string a, .int .i64 b]).cell 0
  | 1, hu => simp [nv] at hu; subst hu; exact (Blk.new w t #[.string a, .int .i64 b]).cell 1
  | i + 2, hu => simp [nv] at hu
/-- The first k pairs taken over, the rest zero. -/
def nfill (ps : List Nm) (n k : Nat) : List Nm := ps.take k ++ List.replicate (n - k) ⟨⟨#[]⟩, 0⟩
theorem nfill_zero (ps : List Nm) (n : Nat) : nfill ps n 0 = List.replicate n ⟨⟨#[]⟩, 0⟩ := by simp [nfill]
theorem nfill_end {ps : List Nm} {n : Nat} (h : ps.length = n) : nfill ps n n = ps := by subst h; simp [nfill]
theorem nfill_length {ps : List Nm} {n k : Nat} (h : ps.length = n) (hk : k ≤ n) : (nfill ps n k).length = n := by
  simp only [nfill, List.length_append, List.length_take, List.length_replicate]; omega
theorem nfill_step {ps : List Nm} {n k : Nat} {p : Nm} (h : ps.length = n) (hp : ps[k]? = some p) : (nfill ps n k).set k p = nfill ps n (k + 1) := by
  have hk : k < ps.length := (List.getElem?_eq_some_iff.1 hp).1
  have e : n - k = (n - (k + 1)) + 1 := by omega
  have ht : (ps.take k).length = k := by rw [List.length_take]; omega
  unfold nfill
  rw [e, List.replicate_succ, List.set_append_right _ _ (by omega), ht, Nat.sub_self, List.set_cons_zero, List.take_add_one, hp]
  simp
/-- What a walk is told of a slice of pairs that came in. -/
def IsNms (w : World) (A : Option Addr) (n c : Nat) (ps : List Nm) : Prop := ps.length = n ∧ n ≤ c ∧ c ≤ maxLen ∧ NRow w w.heap.size A ps
theorem all_ofN {Q : Nat → Nm → Prop} (n : Nat) (h : ∀ i, i < n → ∃ p, Q i p) : ∃ ps : List Nm, ps.length = n ∧ ∀ i p, ps[i]? = some p → Q i p := by
  induction n with
  | zero => exact ⟨[], rfl, fun i p hp => by simp at hp⟩
  | succ n ih =>
    obtain ⟨ps, hl, hq⟩ := ih fun i hi => h i (by omega)
    obtain ⟨p, hp⟩ := h n (by omega)
    refine ⟨ps ++ [p], by simp [hl], fun i q hi => ?_⟩
    rcases Nat.lt_trichotomy i n with h1 | h1 | h1
    · rw [List.getElem?_append_left (by omega)] at hi
      exact hq i q hi
    · subst h1
      rw [List.getElem?_append_right (by omega), hl, Nat.sub_self] at hi
      simp at hi
      rw [← hi]; exact hp
    · rw [List.getElem?_eq_none (by simp; omega)] at hi
      cases hi
/-- A cell of a row, out of its pair. -/
theorem nv_get {ps : List Nm} {i : Nat} {u : Value} (h : (nv ps)[i]? = some u) : ∃ p, ps[i / 2]? = some p ∧ ((i % 2 = 0 ∧ u = .string p.a) ∨ (i % 2 = 1 ∧ u = .int .i64 p.b)) := by
  have hl := (List.getElem?_eq_some_iff.1 h).1
  rw [nv_length] at hl
  obtain ⟨p, hp⟩ : ∃ p, ps[i / 2]? = some p := ⟨_, List.getElem?_eq_getElem (by omega)⟩
  obtain ⟨h0, h1⟩ := nv_at hp
  refine ⟨p, hp, ?_⟩
  rcases Nat.mod_two_eq_zero_or_one i with e | e
  · rw [show i / 2 * 2 = i by omega, h] at h0
    injection h0 with h0
    exact .inl ⟨e, h0⟩
  · rw [show i / 2 * 2 + 1 = i by omega, h] at h1
    injection h1 with h1
    exact .inr ⟨e, h1⟩
end Go.Proofs.Ytengcjglkcmkbaa
