/- Rows of one-cell values in memory: a slice that is read (VRow), one that is the call's own (VOwn); rows of numbers.
   Tables in memory: a slice of slices of numbers that is read (TRow), one that is the call's own (TOwn); what a valid table is.
   What the model's TableValid answers. -/
import Derived.Test.YteniikfgellhfaaDevices
import Derived.Deep.OwnRows
namespace Go.Proofs.Yteniikfgellhfaa
open Go.ChangeShapes Go.WideShapes Go.ChangeAt Go.RowKit

/-- A slice of one-cell values that lies below block B. -/
def VRow (w : World) (B : Nat) (A : Option Addr) (cs : List Value) : Prop :=
  0 < cs.length → ∃ g off, A = some ⟨g, off, none⟩ ∧ g < B ∧ g < w.heap.size ∧ ∀ i u, cs[i]? = some u → w.cell? ⟨g, off + i, none⟩ = some u
section
variable {w w' : World} {B B' : Nat} {A : Option Addr} {cs : List Value}
theorem VRow.nil : VRow w B A [] := fun h => absurd h (by simp)
theorem VRow.more (h : VRow w B A cs) (hB : B ≤ B') : VRow w B' A cs := fun hn => by
  obtain ⟨g, off, e, hb, hz, hc⟩ := h hn
  exact ⟨g, off, e, by omega, hz, hc⟩
theorem VRow.keep (h : VRow w B A cs) (hz : w.heap.size ≤ w'.heap.size) (hk : ∀ q : Addr, q.block < B → q.block < w.heap.size → w'.cell? q = w.cell? q) : VRow w' B A cs := fun hn => by
  obtain ⟨g, off, e, hb, hz', hc⟩ := h hn
  exact ⟨g, off, e, hb, by omega, fun i u hu => (hk ⟨g, off + i, none⟩ hb hz').trans (hc i u hu)⟩
theorem VRow.kept (h : VRow w B A cs) (hg : w.grownBy w' none) : VRow w' B A cs := h.keep hg.size fun q _ hq => World.cell?_of_block (hg.block q.block hq (by simp))
theorem VRow.grown (h : VRow w B A cs) {row : Option Nat} (hg : w.grownBy w' row) (hr : ∀ g, row = some g → B ≤ g) : VRow w' B A cs :=
  h.keep hg.size fun q hB hq => World.cell?_of_block (hg.block q.block hq (fun e => by have := hr _ e.symm; omega))
theorem VRow.below (h : VRow w B A cs) (hb : Below B w w') : VRow w' B A cs := h.keep hb.size fun _ hB _ => hb.cell hB
theorem VRow.alloc (h : VRow w B A cs) (o : Obj) : VRow (w.alloc o) B A cs := h.kept (grown_alloc (grown_refl _ _) o)
theorem VRow.drew (h : VRow w B A cs) : VRow w.drew B A cs := h
theorem VRow.drewN (h : VRow w B A cs) (k : Nat) : VRow (w.drewN k) B A cs := h
theorem VRow.setCell (h : VRow w B A cs) {p : Addr} (hB : B ≤ p.block) (u : Value) : VRow (w.setCell p u) B A cs :=
  h.keep (by simp [World.setCell]) fun q hq _ => World.cell?_setCell_other w p q u (fun e => by subst e; omega)
theorem VRow.here (h : VRow w B A cs) : VRow w w.heap.size A cs := fun hn => by
  obtain ⟨g, off, e, _, hz, hc⟩ := h hn
  exact ⟨g, off, e, hz, hz, hc⟩
end
/-- A slice of one-cell values of type t that is the call's own: nil, or the head of a block from base on that can be written. -/
def VOwn (w : World) (base : Nat) (t : TypeId) (v : Value) (cs : List Value) : Prop := w.ownsRow base t 1 v cs.length cs
section
variable {w w' : World} {base base' : Nat} {t t' : TypeId} {v v' : Value} {cs cs' : List Value}
theorem VOwn.kept {row : Option Nat} (h : VOwn w base t v cs) (hg : w.grownBy w' row) (hne : v.ownBlock = none ∨ v.ownBlock ≠ row) : VOwn w' base t v cs := World.ownsRow.kept h hg hne
theorem VOwn.keep (h : VOwn w base t v cs) (hg : w.grownBy w' none) : VOwn w' base t v cs := World.ownsRow.kept h hg (by cases v.ownBlock <;> simp)
theorem VOwn.form (h : VOwn w base t v cs) : (v = .slice none 0 0 ∧ cs = []) ∨ ∃ g cap, v = .slice (some ⟨g, 0, none⟩) cs.length cap ∧ base ≤ g ∧ g < w.heap.size ∧ cs.length ≤ cap ∧ cap ≤ maxLen := by
  rcases h.2 with ⟨e, hn⟩ | ⟨g, cap, cur, e, hb, hg, hc, hm, _⟩
  · exact .inl ⟨e, List.eq_nil_of_length_eq_zero hn⟩
  · exact .inr ⟨g, cap, e, hb, (Array.getElem?_eq_some_iff.1 hg).1, hc, hm⟩
theorem VOwn.at_ {g cap n : Nat} (h : VOwn w base t (.slice (some ⟨g, 0, none⟩) n cap) cs) (hn : cs.length = n) {i : Nat} {u : Value} (hp : cs[i]? = some u) : w.cell? ⟨g, i, none⟩ = some u := by
  subst hn
  have hl : i < cs.length := (List.getElem?_eq_some_iff.1 hp).1
  exact (World.ownsRow.cellAt h i (by omega)).trans hp
theorem VOwn.frozen {g cap n : Nat} (h : VOwn w base t (.slice (some ⟨g, 0, none⟩) n cap) cs) (hn : cs.length = n) (j : Nat) : w.frozen? ⟨g, j, none⟩ = false := by
  subst hn
  exact World.ownsRow.frozenAt h j
theorem VOwn.row {A : Option Addr} {n c : Nat} (h : VOwn w base t (.slice A n c) cs) : VRow w w.heap.size A cs := fun hpos => by
  rcases h.form with ⟨_, rfl⟩ | ⟨g, cap, e, hb, hlt, _, _⟩
  · simp at hpos
  · injection e with e1 e2 e3
    subst e1; subst e2; subst e3
    exact ⟨g, 0, rfl, hlt, hlt, fun i u hu => by rw [Nat.zero_add]; exact VOwn.at_ h rfl hu⟩
theorem VOwn.set {g cap n : Nat} (h : VOwn w base t (.slice (some ⟨g, 0, none⟩) n cap) cs) (hn : cs.length = n) (i : Nat) (u : Value) :
    VOwn (w.setCell ⟨g, i, none⟩ u) base t (.slice (some ⟨g, 0, none⟩) n cap) (cs.set i u) := by
  subst hn
  unfold VOwn
  rw [List.length_set]
  exact (World.ownsRow.stored h i u).1
theorem VOwn.base_le (h : VOwn w base t v cs) (hb : base' ≤ base) : VOwn w base' t v cs := by
  refine ⟨h.1, ?_⟩
  rcases h.2 with h2 | ⟨g, cap, cur, e, hg, hr⟩
  · exact .inl h2
  · exact .inr ⟨g, cap, cur, e, by omega, hr⟩
theorem VOwn.to_put {p : Addr} (h : VOwn w base t v cs) (hv : v.ownBlock ≠ some p.block) (u : Value) : VOwn (w.setCell p u) base t v cs :=
  World.ownsRow.kept h (grown_set (grown_refl w (some p.block)) (.inl rfl) u) (.inr hv)
/-- Rows of different types never share a block of memory. -/
theorem VOwn.ne (h : VOwn w base t v cs) {size n : Nat} {xs : List Value} (h' : w.ownsRow base' t' size v' n xs) (ht : t ≠ t') : v.ownBlock = none ∨ v.ownBlock ≠ v'.ownBlock := by
  rcases h.2 with ⟨rfl, _⟩ | ⟨g, cap, cur, rfl, _, hh, _⟩
  · exact .inl rfl
  · refine .inr fun e => ?_
    rcases h'.2 with ⟨rfl, _⟩ | ⟨g', cap', cur', rfl, _, hh', _⟩
    · simp [Value.ownBlock] at e
    · simp only [Value.ownBlock, Option.some.injEq] at e
      rw [e, hh'] at hh
      injection hh with hh
      injection hh with _ ht'
      exact absurd ht'.symm ht
theorem VOwn.ne_blk {g n c : Nat} {V : Nat} {cc : Array Value} (h : VOwn w base t (.slice (some ⟨g, 0, none⟩) n c) cs) (hb : Blk w V t' cc) (ht : t ≠ t') : g ≠ V := by
  rcases h.2 with ⟨e, _⟩ | ⟨g', cap, cur, e, _, hh, _⟩
  · cases e
  · injection e with e; injection e with e; injection e with e; subst e
    rintro rfl
    unfold Blk at hb
    rw [hh] at hb
    injection hb with hb
    injection hb with _ ht'
    exact absurd ht' ht
theorem VOwn.lt (h : VOwn w base t v cs) : ∀ g, v.ownBlock = some g → base ≤ g ∧ g < w.heap.size := World.ownsRow.lt h
theorem VOwn.capn {n c : Nat} {A : Option Addr} (h : VOwn w base t (.slice A n c) cs) (hl : cs.length = n) : n ≤ c ∧ c ≤ maxLen := by
  rcases h.form with ⟨e, rfl⟩ | ⟨g, cap, e, _, _, h1, h2⟩
  · injection e with e1 e2 e3
    subst e2; subst e3
    exact ⟨Nat.le_refl _, by simp [maxLen]⟩
  · injection e with e1 e2 e3
    subst e3
    exact ⟨by omega, h2⟩
end
/-- A literal that is a row. -/
theorem vown_lit (w : World) (base : Nat) (t : TypeId) (cs : List Value) (hb : base ≤ w.heap.size) (hm : cs.length ≤ maxLen) : VOwn (w.alloc (.cells cs.toArray t)) base t (.slice (some ⟨w.heap.size, 0, none⟩) cs.length cs.length) cs := by
  have h := World.ownsRow_lit (e := t) (size := 1) w cs.toArray cs.length hb hm (by simp)
  simpa [VOwn] using h

/-- The cells of a row of numbers. -/
def iv (xs : List Int) : List Value := xs.map (Value.int .i64)
theorem iv_length (xs : List Int) : (iv xs).length = xs.length := by simp [iv]
theorem iv_at {xs : List Int} {i : Nat} {x : Int} (h : xs[i]? = some x) : (iv xs)[i]? = some (.int .i64 x) := by simp [iv, h]
theorem iv_get {xs : List Int} {i : Nat} {u : Value} (h : (iv xs)[i]? = some u) : ∃ x, xs[i]? = some x ∧ u = .int .i64 x := by
  simp only [iv, List.getElem?_map, Option.map_eq_some_iff] at h
  obtain ⟨x, hx, rfl⟩ := h
  exact ⟨x, hx, rfl⟩
theorem iv_append (a b : List Int) : iv (a ++ b) = iv a ++ iv b := by simp [iv]
theorem iv_set (xs : List Int) (i : Nat) (x : Int) : iv (xs.set i x) = (iv xs).set i (.int .i64 x) := by simp [iv, List.map_set]
theorem iv_one (xs : List Int) : ∀ u ∈ iv xs, u.oneCell' = true := by
  intro u hu
  simp only [iv, List.mem_map] at hu
  obtain ⟨x, _, rfl⟩ := hu
  rfl
/-- A slice of numbers that is read. -/
def IRow (w : World) (B : Nat) (A : Option Addr) (xs : List Int) : Prop := VRow w B A (iv xs)
/-- A slice of numbers that is the call's own. -/
def IOwn (w : World) (base : Nat) (v : Value) (xs : List Int) : Prop := VOwn w base 3 v (iv xs)
section
variable {w w' : World} {B B' : Nat} {A : Option Addr} {xs : List Int}
theorem IRow.at_ (h : IRow w B A xs) {i : Nat} (hi : i < xs.length) : ∃ (g off : Nat) (x : Int), A = some ⟨g, off, none⟩ ∧ g < B ∧ g < w.heap.size ∧ xs[i]? = some x ∧ w.cell? ⟨g, off + i, none⟩ = some (.int .i64 x) := by
  obtain ⟨g, off, e, hb, hz, hc⟩ := h (by rw [iv_length]; omega)
  have he := List.getElem?_eq_getElem hi
  exact ⟨g, off, xs[i], e, hb, hz, he, hc _ _ (iv_at he)⟩
end
theorem IRow.keepN {w w' : World} {A : Option Addr} {xs : List Int} (h : IRow w w.heap.size A xs) (k : w.grownBy w' none) : IRow w' w'.heap.size A xs := VRow.here (VRow.kept h k)
theorem int_info : (Try.prog.info? 3).map (fun i => (i.zero, i.size, i.bytes)) = some (some (.int .i64 0), 1, 8) := by kernel_rfl
/-- append(v, s...): the numbers of a row that is read (not empty), onto a row of the call's own. -/
theorem append_ints (w : World) (base : Nat) (v : Value) (n : Nat) (A : Option Addr) (B m c : Nat) (xs : List Int) (cs : List Value) (hown : w.ownsRow base 3 1 v n cs) (hr : IRow w B A xs) (hl : xs.length = m) (hpos : 0 < m)
    (hn : n + m ≤ 1048576) (hbase : base ≤ w.heap.size) :
    ∃ v' w', (∀ ty, (Builtin.append_ #[26, 26] ty #[v, .slice A m c]).run Try.prog w = .ok v' w') ∧ w'.ownsRow base 3 1 v' (n + m) (cs ++ iv xs) ∧ w.grownBy w' v.ownBlock ∧
      (v'.ownBlock = v.ownBlock ∨ v'.ownBlock = some w.heap.size) := by
  obtain ⟨g, off, rfl, _, hz, hc⟩ := hr (by rw [iv_length]; omega)
  obtain ⟨i, hi, hzz, hs, hby⟩ := info_parts int_info
  have hsrc : ∀ j u, (iv xs)[j]? = some u → w.cell? ((⟨g, off, none⟩ : Addr).add j) = some u := by
    intro j u hu
    have hadd : (⟨g, off, none⟩ : Addr).add j = ⟨g, off + j, none⟩ := by unfold Addr.add; split <;> simp_all
    rw [hadd]
    exact hc j u hu
  obtain ⟨v', w', hrun, h2, h3, _, h5⟩ := run_append_own_at (P := Try.prog) w base 26 0 3 i _ 1 8 Try.underlying26 hi hzz hs hby rfl (by omega) v n cs hown ⟨g, off, none⟩ m c (iv xs) (by rw [iv_length, hl]; omega) hsrc (iv_one xs)
    (by simp only [maxLen]; omega) (by omega) hbase
  exact ⟨v', w', fun _ => hrun, h2, h3, h5⟩
/-- append(v, s...) where s has no element: nothing changes. -/
theorem appendInts_none (w : World) (base : Nat) (v : Value) (n : Nat) (A : Option Addr) (c : Nat) (cs : List Value) (hown : w.ownsRow base 3 1 v n cs) :
    ∀ ty, (Builtin.append_ #[26, 26] ty #[v, .slice A 0 c]).run Try.prog w = .ok v w := by
  intro ty
  obtain ⟨i, hi, hzz, hs, hby⟩ := info_parts int_info
  have hf : ∀ a : Addr, _ := fun a => run_firstCells_some (P := Try.prog) w 1 0 a 0 c [] rfl (by simp)
  rcases hown.2 with ⟨rfl, rfl⟩ | ⟨g, cap, cur, rfl, _, _, hnc, _⟩
  · cases A with
    | none => simp [Builtin.append_, run_underlying Try.underlying26, sizeOf, typeInfo, hi, Builtin.lenOf, Builtin.firstCells]
    | some a => simp [Builtin.append_, run_underlying Try.underlying26, sizeOf, typeInfo, hi, hs, Builtin.lenOf, hf]
  · cases A with
    | none => simp [Builtin.append_, run_underlying Try.underlying26, sizeOf, typeInfo, hi, Builtin.lenOf, Builtin.firstCells, hnc, storeCells]
    | some a => simp [Builtin.append_, run_underlying Try.underlying26, sizeOf, typeInfo, hi, hs, Builtin.lenOf, hf, hnc, storeCells]
end Go.Proofs.Yteniikfgellhfaa
namespace Go.Proofs.Yteniikfgellhfaa
open Go.ChangeShapes Go.WideShapes Go.ChangeAt Go.RowKit

/-- A list of numbers as it lies in a row: where, its capacity, its numbers. -/
structure Li where
  A : Option Addr
  c : Nat
  xs : List Int
def Li.row (l : Li) : Value := .slice l.A l.xs.length l.c
/-- The cells of a row of lists. -/
def lv (ls : List Li) : List Value := ls.map Li.row
/-- The lists themselves. -/
def ll (ls : List Li) : List (List Int) := ls.map Li.xs
theorem lv_length (ls : List Li) : (lv ls).length = ls.length := by simp [lv]
theorem ll_length (ls : List Li) : (ll ls).length = ls.length := by simp [ll]
theorem lv_at {ls : List Li} {i : Nat} {l : Li} (h : ls[i]? = some l) : (lv ls)[i]? = some l.row := by simp [lv, h]
theorem ll_at {ls : List Li} {i : Nat} {l : Li} (h : ls[i]? = some l) : (ll ls)[i]? = some l.xs := by simp [ll, h]
theorem lv_append (a b : List Li) : lv (a ++ b) = lv a ++ lv b := by simp [lv]
theorem ll_append (a b : List Li) : ll (a ++ b) = ll a ++ ll b := by simp [ll]
theorem lv_set (ls : List Li) (i : Nat) (l : Li) : lv (ls.set i l) = (lv ls).set i l.row := by simp [lv, List.map_set]
theorem ll_set (ls : List Li) (i : Nat) (l : Li) : ll (ls.set i l) = (ll ls).set i l.xs := by simp [ll, List.map_set]
theorem lv_one (ls : List Li) : ∀ u ∈ lv ls, u.oneCell' = true := by
  intro u hu
  simp only [lv, List.mem_map] at hu
  obtain ⟨l, _, rfl⟩ := hu
  rfl
/-- A slice of lists that is read: it and all its lists lie below block B. -/
def TRow (w : World) (B : Nat) (A : Option Addr) (ls : List Li) : Prop := VRow w B A (lv ls) ∧ ∀ l, l ∈ ls → IRow w B l.A l.xs
section
variable {w w' : World} {B B' : Nat} {A : Option Addr} {ls : List Li}
theorem TRow.nil : TRow w B A [] := ⟨VRow.nil, fun l hl => by simp at hl⟩
theorem TRow.more (h : TRow w B A ls) (hB : B ≤ B') : TRow w B' A ls := ⟨h.1.more hB, fun l hl => VRow.more (h.2 l hl) hB⟩
theorem TRow.keep (h : TRow w B A ls) (hz : w.heap.size ≤ w'.heap.size) (hk : ∀ q : Addr, q.block < B → q.block < w.heap.size → w'.cell? q = w.cell? q) : TRow w' B A ls := ⟨h.1.keep hz hk, fun l hl => VRow.keep (h.2 l hl) hz hk⟩
theorem TRow.kept (h : TRow w B A ls) (hg : w.grownBy w' none) : TRow w' B A ls := ⟨h.1.kept hg, fun l hl => VRow.kept (h.2 l hl) hg⟩
theorem TRow.grown (h : TRow w B A ls) {row : Option Nat} (hg : w.grownBy w' row) (hr : ∀ g, row = some g → B ≤ g) : TRow w' B A ls := ⟨h.1.grown hg hr, fun l hl => VRow.grown (h.2 l hl) hg hr⟩
theorem TRow.below (h : TRow w B A ls) (hb : Below B w w') : TRow w' B A ls := ⟨h.1.below hb, fun l hl => VRow.below (h.2 l hl) hb⟩
theorem TRow.alloc (h : TRow w B A ls) (o : Obj) : TRow (w.alloc o) B A ls := h.kept (grown_alloc (grown_refl _ _) o)
theorem TRow.drew (h : TRow w B A ls) : TRow w.drew B A ls := h
theorem TRow.drewN (h : TRow w B A ls) (k : Nat) : TRow (w.drewN k) B A ls := h
theorem TRow.here (h : TRow w B A ls) : TRow w w.heap.size A ls := ⟨h.1.here, fun l hl => VRow.here (h.2 l hl)⟩
/-- List i of a table that is read. -/
theorem TRow.at_ (h : TRow w B A ls) {i : Nat} (hi : i < ls.length) : ∃ (g off : Nat) (Al : Option Addr) (c : Nat) (xs : List Int), A = some ⟨g, off, none⟩ ∧ g < B ∧ g < w.heap.size ∧ ls[i]? = some ⟨Al, c, xs⟩ ∧
    w.cell? ⟨g, off + i, none⟩ = some (.slice Al xs.length c) ∧ IRow w B Al xs := by
  obtain ⟨g, off, e, hb, hz, hc⟩ := h.1 (by rw [lv_length]; omega)
  have he := List.getElem?_eq_getElem hi
  exact ⟨g, off, ls[i].A, ls[i].c, ls[i].xs, e, hb, hz, he, hc _ _ (lv_at he), h.2 _ (List.getElem_mem hi)⟩
end
/-- No two of the lists lie in one block of memory. -/
def tapart (ls : List Li) : Prop := ∀ (i j : Nat) (l l' : Li) (a a' : Addr), i ≠ j → ls[i]? = some l → ls[j]? = some l' → l.A = some a → l'.A = some a' → a.block ≠ a'.block
/-- A slice of lists that is the call's own, with all of them. -/
def TOwn (w : World) (base : Nat) (v : Value) (ls : List Li) : Prop := VOwn w base 26 v (lv ls) ∧ (∀ l, l ∈ ls → IOwn w base l.row l.xs) ∧ tapart ls
theorem int_ne : (3 : TypeId) ≠ 26 := by decide
section
variable {w w' : World} {base base' : Nat} {v v' : Value} {ls : List Li}
theorem TOwn.keep (h : TOwn w base v ls) (hg : w.grownBy w' none) : TOwn w' base v ls := ⟨h.1.keep hg, fun l hl => VOwn.keep (h.2.1 l hl) hg, h.2.2⟩
theorem TOwn.base_le (h : TOwn w base v ls) (hb : base' ≤ base) : TOwn w base' v ls := ⟨h.1.base_le hb, fun l hl => VOwn.base_le (h.2.1 l hl) hb, h.2.2⟩
theorem TOwn.form (h : TOwn w base v ls) : (v = .slice none 0 0 ∧ ls = []) ∨ ∃ g cap, v = .slice (some ⟨g, 0, none⟩) ls.length cap ∧ base ≤ g ∧ g < w.heap.size ∧ ls.length ≤ cap ∧ cap ≤ maxLen := by
  rcases h.1.form with ⟨e, h0⟩ | ⟨g, cap, e, h1⟩
  · exact .inl ⟨e, by simpa [lv] using h0⟩
  · rw [lv_length] at e h1
    exact .inr ⟨g, cap, e, h1⟩
theorem TOwn.at_ {g cap n : Nat} (h : TOwn w base (.slice (some ⟨g, 0, none⟩) n cap) ls) (hn : ls.length = n) {i : Nat} {l : Li} (hp : ls[i]? = some l) : w.cell? ⟨g, i, none⟩ = some (.slice l.A l.xs.length l.c) :=
  h.1.at_ (by rw [lv_length]; exact hn) (lv_at hp)
theorem TOwn.frozen {g cap n : Nat} (h : TOwn w base (.slice (some ⟨g, 0, none⟩) n cap) ls) (hn : ls.length = n) (j : Nat) : w.frozen? ⟨g, j, none⟩ = false := h.1.frozen (by rw [lv_length]; exact hn) j
theorem TOwn.row {A : Option Addr} {n c : Nat} (h : TOwn w base (.slice A n c) ls) : TRow w w.heap.size A ls := ⟨h.1.row, fun l hl => VOwn.row (h.2.1 l hl)⟩
/-- Another block of memory is written to. -/
theorem TOwn.grown {row : Option Nat} (h : TOwn w base v ls) (hg : w.grownBy w' row) (hv : v.ownBlock = none ∨ v.ownBlock ≠ row) (hb : ∀ l a, l ∈ ls → l.A = some a → row ≠ some a.block) : TOwn w' base v ls := by
  refine ⟨h.1.kept hg hv, fun l hm => VOwn.kept (h.2.1 l hm) hg ?_, h.2.2⟩
  cases hA : l.A with
  | none => exact .inl (by simp [Li.row, hA, Value.ownBlock])
  | some a => exact .inr (by have := hb l a hm hA; simp [Li.row, hA, Value.ownBlock]; exact fun e => this e.symm)
theorem TOwn.inner_ne (h : TOwn w base v ls) {l : Li} (hl : l ∈ ls) : l.row.ownBlock = none ∨ l.row.ownBlock ≠ v.ownBlock := VOwn.ne (h.2.1 l hl) h.1 int_ne
/-- One list more in a table of the call's own. -/
theorem TOwn.push {wr w1 w3 : World} {cs : List Li} {A : Option Addr} {c : Nat} {xs : List Int} (h : TOwn wr base v cs) (hk : wr.grownBy w1 none) (hp : IOwn w1 wr.heap.size (.slice A xs.length c) xs) (hb : base ≤ wr.heap.size)
    (ho : VOwn w3 base 26 v' (lv cs ++ [.slice A xs.length c])) (hg : w1.grownBy w3 v.ownBlock) : TOwn w3 base v' (cs ++ [⟨A, c, xs⟩]) := by
  have h1 := h.keep hk
  refine ⟨?_, fun b hm => ?_, fun i j b b' a a' hij hi hj ha ha' => ?_⟩
  · rw [lv_append]
    exact ho
  · rcases List.mem_append.1 hm with hm | hm
    · exact VOwn.kept (h1.2.1 b hm) hg (h1.inner_ne hm)
    · simp at hm
      subst hm
      exact VOwn.base_le (VOwn.kept hp hg (VOwn.ne hp h1.1 int_ne)) hb
  · have lt : ∀ {b : Li} {a : Addr}, b ∈ cs → b.A = some a → a.block < wr.heap.size := fun {b a} hm e => (VOwn.lt (h.2.1 b hm) a.block (by simp [Li.row, e, Value.ownBlock])).2
    have ge : ∀ {a : Addr}, A = some a → wr.heap.size ≤ a.block := fun {a} e => (VOwn.lt hp a.block (by simp [e, Value.ownBlock])).1
    rcases Nat.lt_or_ge i cs.length with hi1 | hi1 <;> rcases Nat.lt_or_ge j cs.length with hj1 | hj1
    · rw [List.getElem?_append_left hi1] at hi
      rw [List.getElem?_append_left hj1] at hj
      exact h.2.2 i j b b' a a' hij hi hj ha ha'
    · rw [List.getElem?_append_left hi1] at hi
      rw [List.getElem?_append_right hj1] at hj
      have hj0 : j - cs.length = 0 := by have := (List.getElem?_eq_some_iff.1 hj).1; simp at this; omega
      rw [hj0] at hj
      simp at hj
      subst hj
      have := lt (List.mem_of_getElem? hi) ha
      have := ge ha'
      omega
    · rw [List.getElem?_append_right hi1] at hi
      rw [List.getElem?_append_left hj1] at hj
      have hi0 : i - cs.length = 0 := by have := (List.getElem?_eq_some_iff.1 hi).1; simp at this; omega
      rw [hi0] at hi
      simp at hi
      subst hi
      have := lt (List.mem_of_getElem? hj) ha'
      have := ge ha
      omega
    · have hi0 : i < cs.length + 1 := by have := (List.getElem?_eq_some_iff.1 hi).1; simpa using this
      have hj0 : j < cs.length + 1 := by have := (List.getElem?_eq_some_iff.1 hj).1; simpa using this
      omega
/-- A number put into a list of a table of the call's own. -/
theorem TOwn.set {g c : Nat} {xs : List Int} {f : Nat} (h : TOwn w base v ls) (hl : ls[f]? = some ⟨some ⟨g, 0, none⟩, c, xs⟩) (i : Nat) (x : Int) :
    TOwn (w.setCell ⟨g, i, none⟩ (.int .i64 x)) base v (ls.set f ⟨some ⟨g, 0, none⟩, c, xs.set i x⟩) := by
  have hm := List.mem_of_getElem? hl
  have hlt : f < ls.length := (List.getElem?_eq_some_iff.1 hl).1
  have hrow : lv (ls.set f ⟨some ⟨g, 0, none⟩, c, xs.set i x⟩) = lv ls := by
    rw [lv_set]
    have e := lv_at hl
    simp only [Li.row, List.length_set] at e ⊢
    obtain ⟨hl', e2⟩ := List.getElem?_eq_some_iff.1 e
    rw [← e2]
    exact List.set_getElem_self hl'
  refine ⟨?_, fun l hm' => ?_, fun j k l1 l2 a1 a2 hjk hj hk h1 h2 => ?_⟩
  · rw [hrow]
    refine VOwn.to_put h.1 ?_ _
    rcases h.inner_ne hm with e | e
    · simp [Li.row, Value.ownBlock] at e
    · exact fun e' => e (Eq.trans rfl e'.symm)
  · rcases List.mem_iff_getElem?.1 hm' with ⟨j, hj⟩
    rw [List.getElem?_set] at hj
    by_cases hjf : f = j
    · rw [if_pos hjf, if_pos (by omega)] at hj
      injection hj with hj
      subst hj
      have h0 := VOwn.set (h.2.1 _ hm) (iv_length xs) i (.int .i64 x)
      rw [← iv_set] at h0
      show IOwn _ base (.slice (some ⟨g, 0, none⟩) (xs.set i x).length c) (xs.set i x)
      rw [List.length_set]
      exact h0
    · rw [if_neg hjf] at hj
      refine VOwn.to_put (h.2.1 _ (List.mem_of_getElem? hj)) ?_ _
      cases hA : l.A with
      | none => simp [Li.row, hA, Value.ownBlock]
      | some a =>
        have := h.2.2 j f l _ a ⟨g, 0, none⟩ (fun e => hjf e.symm) hj hl hA rfl
        simpa [Li.row, hA, Value.ownBlock] using this
  · rw [List.getElem?_set] at hj hk
    by_cases hjf : f = j
    · by_cases hkf : f = k
      · omega
      · rw [if_pos hjf, if_pos (by omega)] at hj
        rw [if_neg hkf] at hk
        injection hj with hj; subst hj
        exact h.2.2 f k _ l2 a1 a2 (by omega) hl hk h1 h2
    · rw [if_neg hjf] at hj
      by_cases hkf : f = k
      · rw [if_pos hkf, if_pos (by omega)] at hk
        injection hk with hk; subst hk
        exact h.2.2 j f l1 _ a1 a2 (by omega) hj hl h1 h2
      · rw [if_neg hkf] at hk
        exact h.2.2 j k l1 l2 a1 a2 hjk hj hk h1 h2
end

/-- Each in its bounds, none but -1 among those before. -/
def flatB : List Int → List Int → Bool
  | _, [] => true
  | P, x :: r => (inB x (-1) 47 && !(decide (0 ≤ x) && P.contains x)) && flatB (x :: P) r
/-- A valid table. -/
def tabB (xss : List (List Int)) : Bool := decide (xss.length = 8) && xss.all (fun l => decide (l.length = 6)) && flatB [] xss.flatten
end Go.Proofs.Yteniikfgellhfaa
namespace Go.Proofs.Yteniikfgellhfaa
open Go.ChangeShapes Go.WideShapes Go.ChangeAt Go.RowKit

theorem flat_out {P r : List Int} {x : Int} (h : inB x (-1) 47 = false) : flatB P (x :: r) = false := by simp [flatB, h]
theorem flat_twice {P r : List Int} {x : Int} (h : P.contains x = true) (h0 : 0 ≤ x) : flatB P (x :: r) = false := by simp only [flatB, h]; simp [h0]
theorem flat_neg {P r : List Int} {x : Int} (h : inB x (-1) 47 = true) (h0 : ¬ 0 ≤ x) : flatB P (x :: r) = flatB (x :: P) r := by simp [flatB, h, h0]
theorem flat_new {P r : List Int} {x : Int} (h : inB x (-1) 47 = true) (h0 : P.contains x = false) : flatB P (x :: r) = flatB (x :: P) r := by simp only [flatB, h, h0]; simp
theorem flatten_at {xss : List (List Int)} {f : Nat} {xs : List Int} (h : xss[f]? = some xs) : (xss.drop f).flatten = xs.drop 0 ++ (xss.drop (f + 1)).flatten := by
  obtain ⟨hl, e⟩ := List.getElem?_eq_some_iff.1 h
  rw [List.drop_eq_getElem_cons hl, e, List.drop_zero, List.flatten_cons]
theorem drop_cons {xs : List Int} {k : Nat} {x : Int} (h : xs[k]? = some x) (r : List Int) : xs.drop k ++ r = x :: (xs.drop (k + 1) ++ r) := by
  obtain ⟨hl, e⟩ := List.getElem?_eq_some_iff.1 h
  rw [List.drop_eq_getElem_cons hl, e, List.cons_append]
theorem tab_no {xss : List (List Int)} (h : flatB [] xss.flatten = false) : tabB xss = false := by simp [tabB, h]
theorem tab_len {xss : List (List Int)} {f : Nat} {xs : List Int} (h : xss[f]? = some xs) (h6 : xs.length ≠ 6) : tabB xss = false := by
  have : xss.all (fun l => decide (l.length = 6)) = false := by
    rw [List.all_eq_false]
    exact ⟨xs, List.mem_of_getElem? h, by simp [h6]⟩
  simp [tabB, this]
theorem tab_yes {xss : List (List Int)} (h : ∀ (j : Nat) (xs : List Int), xss[j]? = some xs → xs.length = 6) (hf : flatB [] xss.flatten = true) : tabB xss = decide (xss.length = 8) := by
  have : xss.all (fun l => decide (l.length = 6)) = true := by
    rw [List.all_eq_true]
    intro xs hx
    obtain ⟨j, hj⟩ := List.getElem?_of_mem hx
    simp [h j xs hj]
  simp [tabB, this, hf]
/-- The numbers that were seen. -/
def Seen (w : World) (g : Nat) (P : List Int) : Prop := w.rowIs g 4 48 (fun i => .bool (P.contains (i : Int)))
theorem Seen.new (w : World) : Seen (w.alloc (.cells (madeCells #[.bool false] 48) 4)) w.heap.size [] := (World.rowIs_made w (.bool false) 48 4).congr fun i _ => by simp
theorem Seen.put {w : World} {g v : Nat} {P : List Int} (h : Seen w g P) : Seen (w.setCell ⟨g, v, none⟩ (.bool true)) g ((v : Int) :: P) := (World.rowIs.set h v (.bool true)).congr fun i _ => by
  by_cases e : i = v
  · subst e; simp
  · have : ((i : Int) == (v : Int)) = false := by simp; omega
    simp only [if_neg e, List.contains_cons, this, Bool.false_or]
theorem Seen.neg {w : World} {g : Nat} {P : List Int} {x : Int} (h : Seen w g P) (hx : ¬ 0 ≤ x) : Seen w g (x :: P) := World.rowIs.congr h fun i _ => by
  have : ((i : Int) == x) = false := by simp; omega
  simp only [List.contains_cons, this, Bool.false_or]
theorem make_seen (w : World) :
    (Instr.makeSlice 123 (.int .i64 48) (.int .i64 48)).run Try.prog w = .ok (.slice (some ⟨w.heap.size, 0, none⟩) 48 48) (w.alloc (.cells (madeCells #[.bool false] 48) 4)) := by
  have bool_info : (Try.prog.info? 4).map (fun i => (i.zero, i.size, i.bytes)) = some (some (.bool false), 1, 1) := by kernel_rfl
  obtain ⟨i, hi, hz, hs, hb⟩ := info_parts bool_info
  have hr := run_make (P := Try.prog) w 123 4 i _ Try.underlying123 hi hz .i64 .i64 48 48 (by omega) (by omega) (by rw [hb]; omega) (by omega)
  simp only [hs] at hr
  exact hr
/-- The loop over the lists, at list f: all before are right. -/
def ValRel (w : World) (A : Option Addr) (c : Nat) (ls : List Li) (f : Nat) (wr : World) : Prop :=
  f ≤ ls.length ∧ (∀ (j : Nat) (l : Li), j < f → ls[j]? = some l → l.xs.length = 6) ∧ (∃ P, flatB [] (ll ls).flatten = flatB P ((ll ls).drop f).flatten ∧ Seen wr (w.heap.size + 1) P) ∧ Blk wr w.heap.size 40 #[.slice A ls.length c] ∧ w.grownBy wr none
/-- The loop over the numbers of list f, at number k. -/
def ValRel2 (w : World) (A : Option Addr) (c : Nat) (ls : List Li) (f : Nat) (xs : List Int) (k : Nat) (wr : World) : Prop :=
  k ≤ xs.length ∧ (∃ P, flatB [] (ll ls).flatten = flatB P (xs.drop k ++ ((ll ls).drop (f + 1)).flatten) ∧ Seen wr (w.heap.size + 1) P) ∧ Blk wr w.heap.size 40 #[.slice A ls.length c] ∧ w.grownBy wr none
theorem specTableValid_any (A : Option Addr) (n c : Nat) (ls : List Li) (w : World) (hl : ls.length = n) (hr : TRow w w.heap.size A ls) (hn : n ≤ 1048576) (hp : ∀ l, l ∈ ls → l.xs.length ≤ 1048576) :
    Calls Try.prog 64 #[.agg #[.slice A n c]] w (KeptV (.bool (tabB (ll ls))) w) := by
  subst hl
  have HR := Lib.hid (And.intro hr hp)
  have hmk := make_seen (w.alloc (.cells #[.slice A ls.length c] 40))
  have hb0 := (Blk.new w 40 #[.slice A ls.length c]).alloc (.cells (madeCells #[.bool false] 48) 4)
  have hs0 := Seen.new (w.alloc (.cells #[.slice A ls.length c] 40))
  simp only [size_alloc1] at hs0 hmk
  have HS := Lib.hid (And.intro hb0 hs0)
  clear hr hp hb0 hs0
  go_enter Try.func64, Try.ntmps64
  go_wp2
  go_loopw [4] (fun i wr => ∃ f : Nat, i = .int .i64 f ∧ ValRel w A c ls f wr) (fun i _ => ls.length - (intOf i).toNat)
  case atStart => exact ⟨0, rfl, Nat.zero_le _, fun j _ hj => absurd hj (by omega), ⟨[], rfl, HS.out.2⟩, HS.out.1, grown_alloc (grown_alloc (grown_refl _ _) _) _⟩
  case round =>
    clear HS hmk
    obtain ⟨f, rfl, hf, hj, ⟨P, hP, hs⟩, hb, hg⟩ := hrel
    have b0 : wr.cell? ⟨w.heap.size, 0, none⟩ = some (.slice A ls.length c) := hb.cell 0
    by_cases hlt : f < ls.length
    · obtain ⟨g, off, Al, cl, xs, rfl, _, _, hfl, c0, hrow⟩ := (HR.out.1.kept hg).at_ hlt
      have hpl := HR.out.2 _ (List.mem_of_getElem? hfl)
      have h0 := flatten_at (ll_at hfl)
      rw [h0] at hP
      have HX := Lib.hid (And.intro hj (And.intro hfl hrow))
      have HS := Lib.hid (show ValRel2 w (some ⟨g, off, none⟩) c ls f xs 0 wr from ⟨Nat.zero_le _, ⟨P, hP, hs⟩, hb, hg⟩)
      clear hj hfl hrow hP hs hb hg h0
      go_wp2
      go_loopw [5] (fun i wr => ∃ k : Nat, i = .int .i64 k ∧ ValRel2 w (some ⟨g, off, none⟩) c ls f xs k wr) (fun i _ => xs.length - (intOf i).toNat)
      case atStart => exact ⟨0, rfl, HS.out⟩
      case round =>
        clear HS b0 c0
        obtain ⟨k, rfl, hk, ⟨Q, hQ, hs⟩, hb, hg⟩ := hrel
        obtain ⟨g1, off1, Al1, cl1, xs1, e1, _, _, e2, c0, hrow⟩ := (HR.out.1.kept hg).at_ hlt
        injection e1 with e1
        injection e1 with e1 e3
        subst e1; subst e3
        rw [HX.out.2.1] at e2
        injection e2 with e2
        injection e2 with e1 e3 e4
        subst e1; subst e3; subst e4
        have b0 : wr.cell? ⟨w.heap.size, 0, none⟩ = some (.slice (some ⟨g, off, none⟩) ls.length c) := hb.cell 0
        by_cases hkl : k < xs.length
        · obtain ⟨gx, ox, x, rfl, _, _, hx, d0⟩ := hrow.at_ hkl
          rw [drop_cons hx ((ll ls).drop (f + 1)).flatten] at hQ
          clear hrow
          cases hin : inB x (-1) 47
          · have HZ := Lib.hid (And.intro (tab_no (hQ.trans (flat_out hin))) hg)
            clear hQ hg hs hb
            go_wp2_with (go_at_call 95; refine (in_any _ _ _ _).mono ?_; rintro e w' ⟨rfl, rfl⟩)
            go_ret
            exact ⟨retB HZ.out.1.symm, HZ.out.2⟩
          · by_cases hx0 : 0 ≤ x
            · obtain ⟨v, rfl⟩ := Int.eq_ofNat_of_zero_le hx0
              have hv : v < 48 := by have := inB_iff.1 hin; omega
              have s0 : wr.cell? ⟨w.heap.size + 1, v, none⟩ = some (.bool (Q.contains (v : Int))) := World.rowIs.cell hs hv
              cases hc : Q.contains (v : Int)
              · rw [hc] at s0
                have f0 : wr.frozen? ⟨w.heap.size + 1, v, none⟩ = false := World.rowIs.frozen hs v
                have HZ := Lib.hid (And.intro (hQ.trans (flat_new hin hc)) (And.intro (hs.put (v := v)) (And.intro (hb.far (p := ⟨w.heap.size + 1, v, none⟩) (by simp) (.bool true)) (grown_put hg (p := ⟨w.heap.size + 1, v, none⟩) (by simp) (.bool true)))))
                clear hQ hg hs hb hc
                go_wp2_with (go_at_call 95; refine (in_any _ _ _ _).mono ?_; rintro e w' ⟨rfl, rfl⟩)
                go_roundw
                case rel => exact ⟨k + 1, by go_num, by omega, ⟨_, HZ.out.1, HZ.out.2.1⟩, HZ.out.2.2⟩
                case measure => simp [intOf]; omega
              · rw [hc] at s0
                have HZ := Lib.hid (And.intro (tab_no (hQ.trans (flat_twice hc hx0))) hg)
                clear hQ hg hs hb hc
                go_wp2_with (go_at_call 95; refine (in_any _ _ _ _).mono ?_; rintro e w' ⟨rfl, rfl⟩)
                go_ret
                exact ⟨retB HZ.out.1.symm, HZ.out.2⟩
            · have HZ := Lib.hid (And.intro (hQ.trans (flat_neg hin hx0)) (And.intro (hs.neg hx0) (And.intro hb hg)))
              clear hQ hg hs hb
              go_wp2_with (go_at_call 95; refine (in_any _ _ _ _).mono ?_; rintro e w' ⟨rfl, rfl⟩)
              go_roundw
              case rel => exact ⟨k + 1, by go_num, by omega, ⟨_, HZ.out.1, HZ.out.2.1⟩, HZ.out.2.2⟩
              case measure => simp [intOf]; omega
        · obtain rfl : k = xs.length := by omega
          rw [List.drop_length, List.nil_append] at hQ
          clear hrow
          by_cases h6 : xs.length = 6
          · have HZ := Lib.hid (And.intro hQ (And.intro hs (And.intro hb (And.intro hg h6))))
            have t6 : ((xs.length : Int) != 6) = false := by simp; omega
            clear hQ hg hs hb h6
            go_wp2
            go_roundw
            case rel =>
              refine ⟨f + 1, by go_num, by omega, fun j l hj hl => ?_, ⟨_, HZ.out.1, HZ.out.2.1⟩, HZ.out.2.2.1, HZ.out.2.2.2.1⟩
              rcases Nat.lt_or_ge j f with h1 | h1
              · exact HX.out.1 j l h1 hl
              · obtain rfl : j = f := by omega
                rw [HX.out.2.1] at hl
                injection hl with hl
                subst hl
                exact HZ.out.2.2.2.2
            case measure => simp [intOf]; omega
          · have HZ := Lib.hid (And.intro (tab_len (ll_at HX.out.2.1) h6) hg)
            have t6 : ((xs.length : Int) != 6) = true := by simp; omega
            clear hQ hg hs hb h6
            go_wp2
            go_ret
            exact ⟨retB HZ.out.1.symm, HZ.out.2⟩
    · obtain rfl : f = ls.length := by omega
      have e : (ll ls).drop ls.length = [] := by rw [← ll_length, List.drop_length]
      rw [e] at hP
      have HZ := Lib.hid (And.intro (tab_yes (xss := ll ls) (fun j xs hx => by
        simp only [ll, List.getElem?_map, Option.map_eq_some_iff] at hx
        obtain ⟨l, hl, rfl⟩ := hx
        exact hj j l (List.getElem?_eq_some_iff.1 hl).1 hl) hP) hg)
      have hsp : ls.length = 8 ∨ ls.length ≠ 8 := by omega
      clear hj hP hs hb hg e
      go_wp2
      go_ret
      refine ⟨retB ?_, HZ.out.2⟩
      rw [HZ.out.1, ll_length, Bool.eq_iff_iff]
      simp
      omega
end Go.Proofs.Yteniikfgellhfaa
