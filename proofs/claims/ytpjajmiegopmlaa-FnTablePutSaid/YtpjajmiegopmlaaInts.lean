/- Rows of one-cell values in memory: a slice that is read (VRow), one that is the call's own (VOwn); rows of numbers. -/
import Derived.Test.YtpjajmiegopmlaaDevices
import Derived.Deep.OwnRows
namespace Go.Proofs.Ytpjajmiegopmlaa
open Go.ChangeShapes Go.WideShapes Go.ChangeAt Go.RowKit

/-- A slice of one-cell values that lies below block B. -/
def VRow (w : World) (B : Nat) (A : Option Addr) (cs : List Value) : Prop :=
  0 < cs.length → ∃ g off, A = some ⟨g, off, none⟩ ∧ g < B ∧ g < w.heap.size ∧ ∀ i u, cs[i]? = some u → w.cell? ⟨g, off + i, none⟩ = some u
section
variable {w w' : World} {B B' : Nat} {A : Option Addr} {cs : List Value}
theorem VRow.nil : VRow w B A [] := fun h => absurd h (by simp)
theorem VRow.more (h : VRow w B A cs) (hB : B ≤ B') : VRow w B' A cs := fun hn => by
  obtain ⟨g, off, e, hb, hz, hc⟩ := h hn
  exact ⟨g, off, e, by omega, hz, hc⟩
theorem VRow.keep (h : VRow w B A cs) (hz : w.heap.size ≤ w'.heap.size) (hk : ∀ q : Addr, q.block < B → q.block < w.heap.size → w'.cell? q = w.cell? q) : VRow w' B A cs := fun hn => by
  obtain ⟨g, off, e, hb, hz', hc⟩ := h hn
  exact ⟨g, off, e, hb, by omega, fun i u hu => (hk ⟨g, off + i, none⟩ hb hz').trans (hc i u hu)⟩
theorem VRow.kept (h : VRow w B A cs) (hg : w.grownBy w' none) : VRow w' B A cs := h.keep hg.size fun q _ hq => World.cell?_of_block (hg.block q.block hq (by simp))
theorem VRow.grown (h : VRow w B A cs) {row : Option Nat} (hg : w.grownBy w' row) (hr : ∀ g, row = some g → B ≤ g) : VRow w' B A cs :=
  h.keep hg.size fun q hB hq => World.cell?_of_block (hg.block q.block hq (fun e => by have := hr _ e.symm; omega))
theorem VRow.below (h : VRow w B A cs) (hb : Below B w w') : VRow w' B A cs := h.keep hb.size fun _ hB _ => hb.cell hB
theorem VRow.alloc (h : VRow w B A cs) (o : Obj) : VRow (w.alloc o) B A cs := h.kept (grown_alloc (grown_refl _ _) o)
theorem VRow.drew (h : VRow w B A cs) : VRow w.drew B A cs := h
theorem VRow.drewN (h : VRow w B A cs) (k : Nat) : VRow (w.drewN k) B A cs := h
theorem VRow.setCell (h : VRow w B A cs) {p : Addr} (hB : B ≤ p.block) (u : Value) : VRow (w.setCell p u) B A cs :=
  h.keep (by simp [World.setCell]) fun q hq _ => World.cell?_setCell_other w p q u (fun e => by subst e; omega)
theorem VRow.here (h : VRow w B A cs) : VRow w w.heap.size A cs := fun hn => by
  obtain ⟨g, off, e, _, hz, hc⟩ := h hn
  exact ⟨g, off, e, hz, hz, hc⟩
end
/-- A slice of one-cell values of type t that is the call's own: nil, or the head of a block from base on that can be written. -/
def VOwn (w : World) (base : Nat) (t : TypeId) (v : Value) (cs : List Value) : Prop := w.ownsRow base t 1 v cs.length cs
section
variable {w w' : World} {base base' : Nat} {t t' : TypeId} {v v' : Value} {cs cs' : List Value}
theorem VOwn.kept {row : Option Nat} (h : VOwn w base t v cs) (hg : w.grownBy w' row) (hne : v.ownBlock = none ∨ v.ownBlock ≠ row) : VOwn w' base t v cs := World.ownsRow.kept h hg hne
theorem VOwn.keep (h : VOwn w base t v cs) (hg : w.grownBy w' none) : VOwn w' base t v cs := World.ownsRow.kept h hg (by cases v.ownBlock <;> simp)
theorem VOwn.form (h : VOwn w base t v cs) : (v = .slice none 0 0 ∧ cs = []) ∨ ∃ g cap, v = .slice (some ⟨g, 0, none⟩) cs.length cap ∧ base ≤ g ∧ g < w.heap.size ∧ cs.length ≤ cap ∧ cap ≤ maxLen := by
  rcases h.2 with ⟨e, hn⟩ | ⟨g, cap, cur, e, hb, hg, hc, hm, _⟩
  · exact .inl ⟨e, List.eq_nil_of_length_eq_zero hn⟩
  · exact .inr ⟨g, cap, e, hb, (Array.getElem?_eq_some_iff.1 hg).1, hc, hm⟩
theorem VOwn.at_ {g cap n : Nat} (h : VOwn w base t (.slice (some ⟨g, 0, none⟩) n cap) cs) (hn : cs.length = n) {i : Nat} {u : Value} (hp : cs[i]? = some u) : w.cell? ⟨g, i, none⟩ = some u := by
  subst hn
  have hl : i < cs.length := (List.getElem?_eq_some_iff.1 hp).1
  exact (World.ownsRow.cellAt h i (by omega)).trans hp
theorem VOwn.frozen {g cap n : Nat} (h : VOwn w base t (.slice (some ⟨g, 0, none⟩) n cap) cs) (hn : cs.length = n) (j : Nat) : w.frozen? ⟨g, j, none⟩ = false := by
  subst hn
  exact World.ownsRow.frozenAt h j
theorem VOwn.row {A : Option Addr} {n c : Nat} (h : VOwn w base t (.slice A n c) cs) : VRow w w.heap.size A cs := fun hpos => by
  rcases h.form with ⟨_, rfl⟩ | ⟨g, cap, e, hb, hlt, _, _⟩
  · simp at hpos
  · injection e with e1 e2 e3
    subst e1; subst e2; subst e3
    exact ⟨g, 0, rfl, hlt, hlt, fun i u hu => by rw [Nat.zero_add]; exact VOwn.at_ h rfl hu⟩
theorem VOwn.set {g cap n : Nat} (h : VOwn w base t (.slice (some ⟨g, 0, none⟩) n cap) cs) (hn : cs.length = n) (i : Nat) (u : Value) :
    VOwn (w.setCell ⟨g, i, none⟩ u) base t (.slice (some ⟨g, 0, none⟩) n cap) (cs.set i u) := by
  subst hn
  unfold VOwn
  rw [List.length_set]
  exact (World.ownsRow.stored h i u).1
theorem VOwn.base_le (h : VOwn w base t v cs) (hb : base' ≤ base) : VOwn w base' t v cs := by
  refine ⟨h.1, ?_⟩
  rcases h.2 with h2 | ⟨g, cap, cur, e, hg, hr⟩
  · exact .inl h2
  · exact .inr ⟨g, cap, cur, e, by omega, hr⟩
theorem VOwn.to_put {p : Addr} (h : VOwn w base t v cs) (hv : v.ownBlock ≠ some p.block) (u : Value) : VOwn (w.setCell p u) base t v cs :=
  World.ownsRow.kept h (grown_set (grown_refl w (some p.block)) (.inl rfl) u) (.inr hv)
/-- Rows of different types never share a block of memory. -/
theorem VOwn.ne (h : VOwn w base t v cs) {size n : Nat} {xs : List Value} (h' : w.ownsRow base' t' size v' n xs) (ht : t ≠ t') : v.ownBlock = none ∨ v.ownBlock ≠ v'.ownBlock := by
  rcases h.2 with ⟨rfl, _⟩ | ⟨g, cap, cur, rfl, _, hh, _⟩
  · exact .inl rfl
  · refine .inr fun e => ?_
    rcases h'.2 with ⟨rfl, _⟩ | ⟨g', cap', cur', rfl, _, hh', _⟩
    · simp [Value.ownBlock] at e
    · simp only [Value.ownBlock, Option.some.injEq] at e
      rw [e, hh'] at hh
      injection hh with hh
      injection hh with _ ht'
      exact absurd ht'.symm ht
theorem VOwn.ne_blk {g n c : Nat} {V : Nat} {cc : Array Value} (h : VOwn w base t (.slice (some ⟨g, 0, none⟩) n c) cs) (hb : Blk w V t' cc) (ht : t ≠ t') : g ≠ V := by
  rcases h.2 with ⟨e, _⟩ | ⟨g', cap, cur, e, _, hh, _⟩
  · cases e
  · injection e with e; injection e with e; injection e with e; subst e
    rintro rfl
    unfold Blk at hb
    rw [hh] at hb
    injection hb with hb
    injection hb with _ ht'
    exact absurd ht' ht
theorem VOwn.lt (h : VOwn w base t v cs) : ∀ g, v.ownBlock = some g → base ≤ g ∧ g < w.heap.size := World.ownsRow.lt h
theorem VOwn.capn {n c : Nat} {A : Option Addr} (h : VOwn w base t (.slice A n c) cs) (hl : cs.length = n) : n ≤ c ∧ c ≤ maxLen := by
  rcases h.form with ⟨e, rfl⟩ | ⟨g, cap, e, _, _, h1, h2⟩
  · injection e with e1 e2 e3
    subst e2; subst e3
    exact ⟨Nat.le_refl _, by simp [maxLen]⟩
  · injection e with e1 e2 e3
    subst e3
    exact ⟨by omega, h2⟩
end
/-- A literal that is a row. -/
theorem vown_lit (w : World) (base : Nat) (t : TypeId) (cs : List Value) (hb : base ≤ w.heap.size) (hm : cs.length ≤ maxLen) : VOwn (w.alloc (.cells cs.toArray t)) base t (.slice (some ⟨w.heap.size, 0, none⟩) cs.length cs.length) cs := by
  have h := World.ownsRow_lit (e := t) (size := 1) w cs.toArray cs.length hb hm (by simp)
  simpa [VOwn] using h

/-- The cells of a row of numbers. -/
def iv (xs : List Int) : List Value := xs.map (Value.int .i64)
theorem iv_length (xs : List Int) : (iv xs).length = xs.length := by simp [iv]
theorem iv_at {xs : List Int} {i : Nat} {x : Int} (h : xs[i]? = some x) : (iv xs)[i]? = some (.int .i64 x) := by simp [iv, h]
theorem iv_get {xs : List Int} {i : Nat} {u : Value} (h : (iv xs)[i]? = some u) : ∃ x, xs[i]? = some x ∧ u = .int .i64 x := by
  simp only [iv, List.getElem?_map, Option.map_eq_some_iff] at h
  obtain ⟨x, hx, rfl⟩ := h
  exact ⟨x, hx, rfl⟩
theorem iv_append (a b : List Int) : iv (a ++ b) = iv a ++ iv b := by simp [iv]
theorem iv_set (xs : List Int) (i : Nat) (x : Int) : iv (xs.set i x) = (iv xs).set i (.int .i64 x) := by simp [iv, List.map_set]
theorem iv_one (xs : List Int) : ∀ u ∈ iv xs, u.oneCell' = true := by
  intro u hu
  simp only [iv, List.mem_map] at hu
  obtain ⟨x, _, rfl⟩ := hu
  rfl
/-- A slice of numbers that is read. -/
def IRow (w : World) (B : Nat) (A : Option Addr) (xs : List Int) : Prop := VRow w B A (iv xs)
/-- A slice of numbers that is the call's own. -/
def IOwn (w : World) (base : Nat) (v : Value) (xs : List Int) : Prop := VOwn w base 3 v (iv xs)
section
variable {w w' : World} {B B' : Nat} {A : Option Addr} {xs : List Int}
theorem IRow.at_ (h : IRow w B A xs) {i : Nat} (hi : i < xs.length) : ∃ (g off : Nat) (x : Int), A = some ⟨g, off, none⟩ ∧ g < B ∧ g < w.heap.size ∧ xs[i]? = some x ∧ w.cell? ⟨g, off + i, none⟩ = some (.int .i64 x) := by
  obtain ⟨g, off, e, hb, hz, hc⟩ := h (by rw [iv_length]; omega)
  have he := List.getElem?_eq_getElem hi
  exact ⟨g, off, xs[i], e, hb, hz, he, hc _ _ (iv_at he)⟩
end
theorem int_info : (Try.prog.info? 3).map (fun i => (i.zero, i.size, i.bytes)) = some (some (.int .i64 0), 1, 8) := by kernel_rfl
/-- append(v, s...): the numbers of a row that is read (not empty), onto a row of the call's own. -/
theorem append_ints (w : World) (base : Nat) (v : Value) (n : Nat) (A : Option Addr) (B m c : Nat) (xs : List Int) (cs : List Value) (hown : w.ownsRow base 3 1 v n cs) (hr : IRow w B A xs) (hl : xs.length = m) (hpos : 0 < m)
    (hn : n + m ≤ 1048576) (hbase : base ≤ w.heap.size) :
    ∃ v' w', (∀ ty, (Builtin.append_ #[56, 56] ty #[v, .slice A m c]).run Try.prog w = .ok v' w') ∧ w'.ownsRow base 3 1 v' (n + m) (cs ++ iv xs) ∧ w.grownBy w' v.ownBlock ∧
      (v'.ownBlock = v.ownBlock ∨ v'.ownBlock = some w.heap.size) := by
  obtain ⟨g, off, rfl, _, hz, hc⟩ := hr (by rw [iv_length]; omega)
  obtain ⟨i, hi, hzz, hs, hby⟩ := info_parts int_info
  have hsrc : ∀ j u, (iv xs)[j]? = some u → w.cell? ((⟨g, off, none⟩ : Addr).add j) = some u := by
    intro j u hu
    have hadd : (⟨g, off, none⟩ : Addr).add j = ⟨g, off + j, none⟩ := by unfold Addr.add; split <;> simp_all
    rw [hadd]
    exact hc j u hu
  obtain ⟨v', w', hrun, h2, h3, _, h5⟩ := run_append_own_at (P := Try.prog) w base 56 0 3 i _ 1 8 Try.underlying56 hi hzz hs hby rfl (by omega) v n cs hown ⟨g, off, none⟩ m c (iv xs) (by rw [iv_length, hl]; omega) hsrc (iv_one xs)
    (by simp only [maxLen]; omega) (by omega) hbase
  exact ⟨v', w', fun _ => hrun, h2, h3, h5⟩
/-- append(v, s...) where s has no element: nothing changes. -/
theorem appendInts_none (w : World) (base : Nat) (v : Value) (n : Nat) (A : Option Addr) (c : Nat) (cs : List Value) (hown : w.ownsRow base 3 1 v n cs) :
    ∀ ty, (Builtin.append_ #[56, 56] ty #[v, .slice A 0 c]).run Try.prog w = .ok v w := by
  intro ty
  obtain ⟨i, hi, hzz, hs, hby⟩ := info_parts int_info
  have hf : ∀ a : Addr, _ := fun a => run_firstCells_some (P := Try.prog) w 1 0 a 0 c [] rfl (by simp)
  rcases hown.2 with ⟨rfl, rfl⟩ | ⟨g, cap, cur, rfl, _, _, hnc, _⟩
  · cases A with
    | none => simp [Builtin.append_, run_underlying Try.underlying56, sizeOf, typeInfo, hi, Builtin.lenOf, Builtin.firstCells]
    | some a => simp [Builtin.append_, run_underlying Try.underlying56, sizeOf, typeInfo, hi, hs, Builtin.lenOf, hf]
  · cases A with
    | none => simp [Builtin.append_, run_underlying Try.underlying56, sizeOf, typeInfo, hi, Builtin.lenOf, Builtin.firstCells, hnc, storeCells]
    | some a => simp [Builtin.append_, run_underlying Try.underlying56, sizeOf, typeInfo, hi, hs, Builtin.lenOf, hf, hnc, storeCells]
end Go.Proofs.Ytpjajmiegopmlaa
