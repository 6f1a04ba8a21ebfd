/- Blocks in a row of memory (a device): a slice of blocks that is read (DRow), one that is the call's own (DOwn). -/
import Derived.Test.YtbhbbfpafonaiaaBlocks8
namespace Go.Proofs.Ytbhbbfpafonaiaa
open Go.ChangeShapes Go.WideShapes Go.ChangeAt Go.RowKit

/-- A block as it lies in a row: its wear, the slice of its pages, and those pages. -/
structure Bk where
  m : Int
  A : Option Addr
  c : Nat
  ps : List Pg
def Bk.row (b : Bk) : Value := .slice b.A b.ps.length b.c
/-- What a block is, wherever its pages lie. -/
def Bk.is (b : Bk) : Int × List Pg := (b.m, b.ps)
/-- The cells of a row of blocks. -/
def bv : List Bk → List Value
  | [] => []
  | b :: r => .int .i64 b.m :: b.row :: bv r
theorem bv_length (bs : List Bk) : (bv bs).length = bs.length * 2 := by
  induction bs with
  | nil => rfl
  | cons p r ih => simp only [bv, List.length_cons, ih]; omega
theorem bv_append (a b : List Bk) : bv (a ++ b) = bv a ++ bv b := by
  induction a with
  | nil => rfl
  | cons p r ih => simp only [List.cons_append, bv, ih]
theorem bv_one (bs : List Bk) : ∀ u ∈ bv bs, u.oneCell' = true := by
  induction bs with
  | nil => intro u hu; simp [bv] at hu
  | cons p r ih =>
    intro u hu
    simp only [bv, List.mem_cons] at hu
    rcases hu with rfl | rfl | hu
    · rfl
    · rfl
    · exact ih u hu
theorem bv_at (bs : List Bk) (i : Nat) (b : Bk) (h : bs[i]? = some b) : (bv bs)[i * 2]? = some (.int .i64 b.m) ∧ (bv bs)[i * 2 + 1]? = some b.row := by
  induction bs generalizing i with
  | nil => simp at h
  | cons q r ih =>
    cases i with
    | zero => simp at h; subst h; exact ⟨rfl, rfl⟩
    | succ i =>
      have hh := ih i (by simpa using h)
      have e : ∀ j, (bv (q :: r))[(i + 1) * 2 + j]? = (bv r)[i * 2 + j]? := fun j => by
        rw [show (i + 1) * 2 + j = i * 2 + j + 1 + 1 by omega]
        simp only [bv, List.getElem?_cons_succ]
      exact ⟨(e 0).trans hh.1, (e 1).trans hh.2⟩
theorem bv_set (bs : List Bk) (i : Nat) (b : Bk) : bv (bs.set i b) = ((bv bs).set (i * 2) (.int .i64 b.m)).set (i * 2 + 1) b.row := by
  induction bs generalizing i with
  | nil => simp [bv]
  | cons q r ih =>
    cases i with
    | zero => simp [bv]
    | succ i =>
      rw [show (i + 1) * 2 = i * 2 + 1 + 1 by omega, show i * 2 + 1 + 1 + 1 = (i * 2 + 1) + 1 + 1 from rfl]
      simp only [bv, List.set_cons_succ, ih]

/-- One block in memory, without its pages. -/
def D2 (w : World) (g o : Nat) (b : Bk) : Prop := w.cell? ⟨g, o, none⟩ = some (.int .i64 b.m) ∧ w.cell? ⟨g, o + 1, none⟩ = some (.slice b.A b.ps.length b.c)
theorem D2.lt {w : World} {g o : Nat} {b : Bk} (h : D2 w g o b) : g < w.heap.size := World.block_lt_of_cell? w _ h.1
theorem D2.keep {w w' : World} {g o : Nat} {b : Bk} (h : D2 w g o b) (hk : ∀ q : Addr, q.block = g → w'.cell? q = w.cell? q) : D2 w' g o b := ⟨(hk _ rfl).trans h.1, (hk _ rfl).trans h.2⟩
/-- A slice of blocks that is read: it and all their pages lie below block B. -/
def DRow (w : World) (B : Nat) (A : Option Addr) (bs : List Bk) : Prop :=
  (0 < bs.length → ∃ g off, A = some ⟨g, off, none⟩ ∧ g < B ∧ g < w.heap.size ∧ ∀ i b, bs[i]? = some b → D2 w g (off + i * 2) b) ∧ ∀ b, b ∈ bs → Row w B b.A b.ps
section
variable {w w' : World} {B B' : Nat} {A : Option Addr} {bs : List Bk}
theorem DRow.nil : DRow w B A [] := ⟨fun h => absurd h (by simp), fun b hb => by simp at hb⟩
theorem DRow.more (h : DRow w B A bs) (hB : B ≤ B') : DRow w B' A bs :=
  ⟨fun hn => by
    obtain ⟨g, off, e, hb, hz, hc⟩ := h.1 hn
    exact ⟨g, off, e, by omega, hz, hc⟩, fun b hb => (h.2 b hb).more hB⟩
theorem DRow.keep (h : DRow w B A bs) (hz : w.heap.size ≤ w'.heap.size) (hk : ∀ q : Addr, q.block < B → q.block < w.heap.size → w'.cell? q = w.cell? q) : DRow w' B A bs :=
  ⟨fun hn => by
    obtain ⟨g, off, e, hb, hz', hc⟩ := h.1 hn
    exact ⟨g, off, e, hb, by omega, fun i p hp => (hc i p hp).keep fun q hq => hk q (by omega) (by omega)⟩, fun b hb => (h.2 b hb).keep hz hk⟩
theorem DRow.kept (h : DRow w B A bs) (hg : w.grownBy w' none) : DRow w' B A bs := h.keep hg.size fun q _ hq => World.cell?_of_block (hg.block q.block hq (by simp))
theorem DRow.grown (h : DRow w B A bs) {row : Option Nat} (hg : w.grownBy w' row) (hr : ∀ g, row = some g → B ≤ g) : DRow w' B A bs :=
  h.keep hg.size fun q hB hq => World.cell?_of_block (hg.block q.block hq (fun e => by have := hr _ e.symm; omega))
theorem DRow.below (h : DRow w B A bs) (hb : Below B w w') : DRow w' B A bs := h.keep hb.size fun _ hB _ => hb.cell hB
theorem DRow.alloc (h : DRow w B A bs) (o : Obj) : DRow (w.alloc o) B A bs := h.kept (grown_alloc (grown_refl _ _) o)
theorem DRow.drew (h : DRow w B A bs) : DRow w.drew B A bs := h
theorem DRow.drewN (h : DRow w B A bs) (k : Nat) : DRow (w.drewN k) B A bs := h
theorem DRow.here (h : DRow w B A bs) : DRow w w.heap.size A bs :=
  ⟨fun hn => by
    obtain ⟨g, off, e, _, hz, hc⟩ := h.1 hn
    exact ⟨g, off, e, hz, hz, hc⟩, fun b hb => (h.2 b hb).here⟩
/-- Block i of a slice that is read. -/
theorem DRow.at_ (h : DRow w B A bs) {i : Nat} (hi : i < bs.length) : ∃ (g off : Nat) (m : Int) (Ab : Option Addr) (c : Nat) (ps : List Pg), A = some ⟨g, off, none⟩ ∧ g < B ∧ g < w.heap.size ∧ bs[i]? = some ⟨m, Ab, c, ps⟩ ∧
    w.cell? ⟨g, off + i * 2, none⟩ = some (.int .i64 m) ∧ w.cell? ⟨g, off + i * 2 + 1, none⟩ = some (.slice Ab ps.length c) ∧ Row w B Ab ps := by
  obtain ⟨g, off, e, hb, hz, hc⟩ := h.1 (by omega)
  have he := List.getElem?_eq_getElem hi
  have hd := hc _ _ he
  exact ⟨g, off, bs[i].m, bs[i].A, bs[i].c, bs[i].ps, e, hb, hz, he, hd.1, hd.2, h.2 _ (List.getElem_mem hi)⟩
end
/-- No two of the blocks have their pages in one block of memory. -/
def apart (bs : List Bk) : Prop := ∀ (i j : Nat) (b b' : Bk) (a a' : Addr), i ≠ j → bs[i]? = some b → bs[j]? = some b' → b.A = some a → b'.A = some a' → a.block ≠ a'.block
/-- A slice of blocks that is the call's own, with all their pages. -/
def DOwn (w : World) (base : Nat) (v : Value) (bs : List Bk) : Prop :=
  w.ownsRow base 28 2 v bs.length (bv bs) ∧ (∀ b, b ∈ bs → Own w base b.row b.ps) ∧ apart bs
section
variable {w w' : World} {base : Nat} {v : Value} {bs : List Bk}
theorem DOwn.keep (h : DOwn w base v bs) (hg : w.grownBy w' none) : DOwn w' base v bs :=
  ⟨World.ownsRow.kept h.1 hg (by cases v.ownBlock <;> simp), fun b hb => (h.2.1 b hb).keep hg, h.2.2⟩
theorem DOwn.form (h : DOwn w base v bs) : (v = .slice none 0 0 ∧ bs = []) ∨ ∃ g cap, v = .slice (some ⟨g, 0, none⟩) bs.length cap ∧ base ≤ g ∧ g < w.heap.size ∧ bs.length ≤ cap ∧ cap ≤ maxLen := by
  rcases h.1.2 with ⟨e, hn⟩ | ⟨g, cap, cur, e, hb, hg, hc, hm, _⟩
  · exact .inl ⟨e, List.eq_nil_of_length_eq_zero hn⟩
  · exact .inr ⟨g, cap, e, hb, (Array.getElem?_eq_some_iff.1 hg).1, hc, hm⟩
theorem DOwn.at_ {g cap n : Nat} (h : DOwn w base (.slice (some ⟨g, 0, none⟩) n cap) bs) (hn : bs.length = n) {i : Nat} {b : Bk} (hp : bs[i]? = some b) : D2 w g (i * 2) b := by
  subst hn
  have hl : i < bs.length := (List.getElem?_eq_some_iff.1 hp).1
  obtain ⟨h0, h1⟩ := bv_at _ _ _ hp
  exact ⟨(World.ownsRow.cellAt h.1 _ (by omega)).trans h0, (World.ownsRow.cellAt h.1 _ (by omega)).trans h1⟩
theorem DOwn.frozen {g cap n : Nat} (h : DOwn w base (.slice (some ⟨g, 0, none⟩) n cap) bs) (hn : bs.length = n) (j : Nat) : w.frozen? ⟨g, j, none⟩ = false := by
  subst hn
  exact World.ownsRow.frozenAt h.1 j
theorem DOwn.row {A : Option Addr} {n c : Nat} (h : DOwn w base (.slice A n c) bs) : DRow w w.heap.size A bs := by
  refine ⟨fun hpos => ?_, fun b hb => (h.2.1 b hb).row⟩
  rcases h.form with ⟨_, rfl⟩ | ⟨g, cap, e, hb, hlt, _, _⟩
  · simp at hpos
  · injection e with e1 e2 e3
    subst e1; subst e2; subst e3
    exact ⟨g, 0, rfl, hlt, hlt, fun i p hp => by rw [Nat.zero_add]; exact h.at_ rfl hp⟩
/-- Another block of memory is written to. -/
theorem DOwn.grown {row : Option Nat} (h : DOwn w base v bs) (hg : w.grownBy w' row) (hv : v.ownBlock = none ∨ v.ownBlock ≠ row) (hb : ∀ b a, b ∈ bs → b.A = some a → row ≠ some a.block) : DOwn w' base v bs := by
  refine ⟨World.ownsRow.kept h.1 hg hv, fun b hm => (h.2.1 b hm).kept hg ?_, h.2.2⟩
  cases hA : b.A with
  | none => exact .inl (by simp [Bk.row, hA, Value.ownBlock])
  | some a => exact .inr (by have := hb b a hm hA; simp [Bk.row, hA, Value.ownBlock]; exact fun e => this e.symm)
end
end Go.Proofs.Ytbhbbfpafonaiaa
