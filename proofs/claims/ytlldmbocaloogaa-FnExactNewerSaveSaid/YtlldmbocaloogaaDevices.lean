/- Blocks in a row of memory (a device): a slice of blocks that is read (DRow), one that is the call's own (DOwn).
   What the model's functions of chapter 5 answer (under way).
   What the model's functions of chapter 5 answer, further: the copy of a device (under way).
   What the model's functions of chapter 5 answer, further: ReadPage (under way).
   What the model's functions of chapter 5 answer, further: ReadPage where there is the page (under way).
   What the model's functions of chapter 5 answer, further: EraseAt (under way).
   The exact laws' helpers for devices (under way): eqBlockS, toBlockS.
   The exact laws' helpers for devices, further (under way): toBlockS. -/
import Derived.Test.YtlldmbocaloogaaBlocks
import Derived.Test.YtlldmbocaloogaaHand
import Derived.Test.YtlldmbocaloogaaAggRows
namespace Go.Proofs.Ytlldmbocaloogaa
open Go.ChangeShapes Go.WideShapes Go.ChangeAt Go.RowKit

/-- A block as it lies in a row: its wear, the slice of its pages, and those pages. -/
structure Bk where
  m : Int
  A : Option Addr
  c : Nat
  ps : List Pg
def Bk.row (b : Bk) : Value := .slice b.A b.ps.length b.c
/-- What a block is, wherever its pages lie. -/
def Bk.is (b : Bk) : Int × List Pg := (b.m, b.ps)
/-- The cells of a row of blocks. -/
def bv : List Bk → List Value
  | [] => []
  | b :: r => .int .i64 b.m :: b.row :: bv r
theorem bv_length (bs : List Bk) : (bv bs).length = bs.length * 2 := by
  induction bs with
  | nil => rfl
  | cons p r ih => simp only [bv, List.length_cons, ih]; omega
theorem bv_append (a b : List Bk) : bv (a ++ b) = bv a ++ bv b := by
  induction a with
  | nil => rfl
  | cons p r ih => simp only [List.cons_append, bv, ih]
theorem bv_one (bs : List Bk) : ∀ u ∈ bv bs, u.oneCell' = true := by
  induction bs with
  | nil => intro u hu; simp [bv] at hu
  | cons p r ih =>
    intro u hu
    simp only [bv, List.mem_cons] at hu
    rcases hu with rfl | rfl | hu
    · rfl
    · rfl
    · exact ih u hu
theorem bv_at (bs : List Bk) (i : Nat) (b : Bk) (h : bs[i]? = some b) : (bv bs)[i * 2]? = some (.int .i64 b.m) ∧ (bv bs)[i * 2 + 1]? = some b.row := by
  induction bs generalizing i with
  | nil => simp at h
  | cons q r ih =>
    cases i with
    | zero => simp at h; subst h; exact ⟨rfl, rfl⟩
    | succ i =>
      have hh := ih i (by simpa using h)
      have e : ∀ j, (bv (q :: r))[(i + 1) * 2 + j]? = (bv r)[i * 2 + j]? := fun j => by
        rw [show (i + 1) * 2 + j = i * 2 + j + 1 + 1 by omega]
        simp only [bv, List.getElem?_cons_succ]
      exact ⟨(e 0).trans hh.1, (e 1).trans hh.2⟩
theorem bv_set (bs : List Bk) (i : Nat) (b : Bk) : bv (bs.set i b) = ((bv bs).set (i * 2) (.int .i64 b.m)).set (i * 2 + 1) b.row := by
  induction bs generalizing i with
  | nil => simp [bv]
  | cons q r ih =>
    cases i with
    | zero => simp [bv]
    | succ i =>
      rw [show (i + 1) * 2 = i * 2 + 1 + 1 by omega, show i * 2 + 1 + 1 + 1 = (i * 2 + 1) + 1 + 1 from rfl]
      simp only [bv, List.set_cons_succ, ih]

/-- One block in memory, without its pages. -/
def D2 (w : World) (g o : Nat) (b : Bk) : Prop := w.cell? ⟨g, o, none⟩ = some (.int .i64 b.m) ∧ w.cell? ⟨g, o + 1, none⟩ = some (.slice b.A b.ps.length b.c)
theorem D2.lt {w : World} {g o : Nat} {b : Bk} (h : D2 w g o b) : g < w.heap.size := World.block_lt_of_cell? w _ h.1
theorem D2.keep {w w' : World} {g o : Nat} {b : Bk} (h : D2 w g o b) (hk : ∀ q : Addr, q.block = g → w'.cell? q = w.cell? q) : D2 w' g o b := ⟨(hk _ rfl).trans h.1, (hk _ rfl).trans h.2⟩
/-- A slice of blocks that is read: it and all their pages lie below block B. -/
def DRow (w : World) (B : Nat) (A : Option Addr) (bs : List Bk) : Prop :=
  (0 < bs.length → ∃ g off, A = some ⟨g, off, none⟩ ∧ g < B ∧ g < w.heap.size ∧ ∀ i b, bs[i]? = some b → D2 w g (off + i * 2) b) ∧ ∀ b, b ∈ bs → Row w B b.A b.ps
section
variable {w w' : World} {B B' : Nat} {A : Option Addr} {bs : List Bk}
theorem DRow.nil : DRow w B A [] := ⟨fun h => absurd h (by simp), fun b hb => by simp at hb⟩
theorem DRow.more (h : DRow w B A bs) (hB : B ≤ B') : DRow w B' A bs :=
  ⟨fun hn => by
    obtain ⟨g, off, e, hb, hz, hc⟩ := h.1 hn
    exact ⟨g, off, e, by omega, hz, hc⟩, fun b hb => (h.2 b hb).more hB⟩
theorem DRow.keep (h : DRow w B A bs) (hz : w.heap.size ≤ w'.heap.size) (hk : ∀ q : Addr, q.block < B → q.block < w.heap.size → w'.cell? q = w.cell? q) : DRow w' B A bs :=
  ⟨fun hn => by
    obtain ⟨g, off, e, hb, hz', hc⟩ := h.1 hn
    exact ⟨g, off, e, hb, by omega, fun i p hp => (hc i p hp).keep fun q hq => hk q (by omega) (by omega)⟩, fun b hb => (h.2 b hb).keep hz hk⟩
theorem DRow.kept (h : DRow w B A bs) (hg : w.grownBy w' none) : DRow w' B A bs := h.keep hg.size fun q _ hq => World.cell?_of_block (hg.block q.block hq (by simp))
theorem DRow.grown (h : DRow w B A bs) {row : Option Nat} (hg : w.grownBy w' row) (hr : ∀ g, row = some g → B ≤ g) : DRow w' B A bs :=
  h.keep hg.size fun q hB hq => World.cell?_of_block (hg.block q.block hq (fun e => by have := hr _ e.symm; omega))
theorem DRow.below (h : DRow w B A bs) (hb : Below B w w') : DRow w' B A bs := h.keep hb.size fun _ hB _ => hb.cell hB
theorem DRow.alloc (h : DRow w B A bs) (o : Obj) : DRow (w.alloc o) B A bs := h.kept (grown_alloc (grown_refl _ _) o)
theorem DRow.drew (h : DRow w B A bs) : DRow w.drew B A bs := h
theorem DRow.drewN (h : DRow w B A bs) (k : Nat) : DRow (w.drewN k) B A bs := h
theorem DRow.here (h : DRow w B A bs) : DRow w w.heap.size A bs :=
  ⟨fun hn => by
    obtain ⟨g, off, e, _, hz, hc⟩ := h.1 hn
    exact ⟨g, off, e, hz, hz, hc⟩, fun b hb => (h.2 b hb).here⟩
/-- Block i of a slice that is read. -/
theorem DRow.at_ (h : DRow w B A bs) {i : Nat} (hi : i < bs.length) : ∃ (g off : Nat) (m : Int) (Ab : Option Addr) (c : Nat) (ps : List Pg), A = some ⟨g, off, none⟩ ∧ g < B ∧ g < w.heap.size ∧ bs[i]? = some ⟨m, Ab, c, ps⟩ ∧
    w.cell? ⟨g, off + i * 2, none⟩ = some (.int .i64 m) ∧ w.cell? ⟨g, off + i * 2 + 1, none⟩ = some (.slice Ab ps.length c) ∧ Row w B Ab ps := by
  obtain ⟨g, off, e, hb, hz, hc⟩ := h.1 (by omega)
  have he := List.getElem?_eq_getElem hi
  have hd := hc _ _ he
  exact ⟨g, off, bs[i].m, bs[i].A, bs[i].c, bs[i].ps, e, hb, hz, he, hd.1, hd.2, h.2 _ (List.getElem_mem hi)⟩
end
/-- No two of the blocks have their pages in one block of memory. -/
def apart (bs : List Bk) : Prop := ∀ (i j : Nat) (b b' : Bk) (a a' : Addr), i ≠ j → bs[i]? = some b → bs[j]? = some b' → b.A = some a → b'.A = some a' → a.block ≠ a'.block
section
variable {w w' : World} {base : Nat} {v : Value} {bs : List Bk}
end
end Go.Proofs.Ytlldmbocaloogaa
namespace Go.Proofs.Ytlldmbocaloogaa
open Go.ChangeShapes Go.WideShapes Go.ChangeAt Go.RowKit

/-- A valid device. -/
def devB (bs : List Bk) : Bool := inB bs.length 1 12 && bs.all (fun b => blockB b.m b.ps)
theorem dev_no {bs : List Bk} {k : Nat} {b : Bk} (hp : bs[k]? = some b) (h : blockB b.m b.ps = false) : devB bs = false := by
  have : bs.all (fun b => blockB b.m b.ps) = false := by
    rw [List.all_eq_false]
    exact ⟨b, List.mem_of_getElem? hp, by simp [h]⟩
  simp [devB, this]
theorem dev_yes {bs : List Bk} (h : ∀ (j : Nat) (b : Bk), bs[j]? = some b → blockB b.m b.ps = true) : devB bs = inB bs.length 1 12 := by
  have : bs.all (fun b => blockB b.m b.ps) = true := by
    rw [List.all_eq_true]
    intro b hb
    obtain ⟨j, hj⟩ := List.getElem?_of_mem hb
    exact h j b hj
  simp [devB, this]
/-- The loop over the blocks, at block k: all before are valid. -/
def DevRel (w : World) (bs : List Bk) (k : Nat) (wr : World) : Prop := k ≤ bs.length ∧ (∀ (j : Nat) (b : Bk), j < k → bs[j]? = some b → blockB b.m b.ps = true) ∧ w.grownBy wr none
theorem dev_step {bs : List Bk} {k : Nat} {p : Bk} (h : ∀ (j : Nat) (b : Bk), j < k → bs[j]? = some b → blockB b.m b.ps = true) (hp : bs[k]? = some p) (hf : blockB p.m p.ps = true) : ∀ (j : Nat) (b : Bk), j < k + 1 → bs[j]? = some b → blockB b.m b.ps = true := fun j q hj hq => by
  rcases Nat.lt_or_ge j k with h1 | h1
  · exact h j q h1 hq
  · obtain rfl : j = k := by omega
    rw [hp] at hq
    injection hq with hq
    rw [← hq]; exact hf
end Go.Proofs.Ytlldmbocaloogaa
namespace Go.Proofs.Ytlldmbocaloogaa
open Go.ChangeShapes Go.WideShapes Go.ChangeAt Go.RowKit

theorem wpList_append_run {P : Program} (w : World) {ops : Array Oper} {rest : List Oper} {o : Oper} {a : Act} {Q : Exit → Act → World → Prop} (hgd : o.guard = none) (d s : Operand) (t t' : TypeId)
    (ho : o.op = .call { callee := .builtin .append, args := #[d, s], argTypes := #[t, t'] }) (v u : Value) (hd : a.eval d = v) (hs : a.eval s = u) {v' : Value} {w' : World}
    (hr : ∀ ty, (Builtin.append_ #[t, t'] ty #[v, u]).run P w = .ok v' w') (h : wpList P ops Q rest (a.put o.dst v') w') : wpList P ops Q (o :: rest) a w :=
  wpList_plain hgd fun _ hK => wp_append_run w d s t t' ho v u hd hs hr (hK _ _ h)
theorem grown_joinR {a b c : World} {row : Option Nat} (h : a.grownBy b none) (k : b.grownBy c row) (hg : ∀ g, row = some g → a.heap.size ≤ g) : a.grownBy c none :=
  ⟨k.os.trans h.os, k.tape.trans h.tape, k.output.trans h.output, Nat.le_trans h.size k.size, fun i hi _ => (k.block i (Nat.lt_of_lt_of_le hi h.size) (by intro e; have := hg i e.symm; omega)).trans (h.block i hi (by simp))⟩
end Go.Proofs.Ytlldmbocaloogaa
namespace Go.Proofs.Ytlldmbocaloogaa
open Go.ChangeShapes Go.WideShapes Go.ChangeAt Go.RowKit

/-- The page with number a of a device. -/
def pageAt (bs : List Bk) (a : Nat) : Option Pg := (bs[a / 4]?).bind fun b => b.ps[a % 4]?
theorem dev_parts {bs : List Bk} (h : devB bs = true) : (1 ≤ bs.length ∧ bs.length ≤ 12) ∧ ∀ b, b ∈ bs → blockB b.m b.ps = true := by
  simp only [devB, Bool.and_eq_true, List.all_eq_true] at h
  have h1 := inB_iff.1 h.1
  exact ⟨⟨by omega, by omega⟩, h.2⟩
/-- What ReadPage answers where there is such a page. -/
def PageRead (p : Pg) (w : World) (e : Ending) (w' : World) : Prop := e = .returned (.tuple #[.agg #[.bool p.f, .int .i64 p.a, .int .i64 p.b, .int .i64 p.c, .int .i64 p.d], .bool p.f]) ∧ w.grownBy w' none
end Go.Proofs.Ytlldmbocaloogaa
namespace Go.Proofs.Ytlldmbocaloogaa
open Go.ChangeShapes Go.WideShapes Go.ChangeAt Go.RowKit

end Go.Proofs.Ytlldmbocaloogaa
namespace Go.Proofs.Ytlldmbocaloogaa
open Go.ChangeShapes Go.WideShapes Go.ChangeAt Go.RowKit

/-- What EraseBlock answers of a valid block. -/
def eraseIs (m : Int) (ps : List Pg) : Int × List Pg := if m = 100 then (m, ps) else (m + 1, [pz, pz, pz, pz])
end Go.Proofs.Ytlldmbocaloogaa
namespace Go.Proofs.Ytlldmbocaloogaa
open Go.ChangeShapes Go.WideShapes Go.ChangeAt Go.RowKit

theorem D2.kept {w w' : World} {g o : Nat} {b : Bk} (h : D2 w g o b) (hk : w.grownBy w' none) : D2 w' g o b :=
  h.keep fun q hq => World.cell?_of_block (hk.block q.block (by have := h.lt; omega) (by simp))
theorem is_at {bs cs : List Bk} (h : bs.map Bk.is = cs.map Bk.is) {i : Nat} {m : Int} {A : Option Addr} {c : Nat} {ps : List Pg} (hi : bs[i]? = some ⟨m, A, c, ps⟩) : ∃ A' c', cs[i]? = some ⟨m, A', c', ps⟩ := by
  have e : (bs.map Bk.is)[i]? = (cs.map Bk.is)[i]? := by rw [h]
  rw [List.getElem?_map, List.getElem?_map, hi] at e
  cases hc : cs[i]? with
  | none => rw [hc] at e; simp at e
  | some b =>
    rw [hc] at e
    obtain ⟨m', A', c', ps'⟩ := b
    simp [Bk.is] at e
    obtain ⟨rfl, rfl⟩ := e
    exact ⟨A', c', rfl⟩
theorem is_length {bs cs : List Bk} (h : bs.map Bk.is = cs.map Bk.is) : bs.length = cs.length := by
  have := congrArg List.length h
  simpa using this
end Go.Proofs.Ytlldmbocaloogaa
namespace Go.Proofs.Ytlldmbocaloogaa
open Go.ChangeShapes Go.WideShapes Go.ChangeAt Go.RowKit

/-- A block that is not laid yet. -/
def bz : Bk := ⟨0, none, 0, []⟩
theorem bv_zero (n : Nat) : bv (List.replicate n bz) = (List.replicate n [Value.int .i64 0, .slice none 0 0]).flatten := by
  induction n with
  | zero => rfl
  | succ n ih => simp only [List.replicate_succ, bv, ih, List.flatten_cons]; rfl
theorem bv_made (n : Nat) : (madeCells #[.int .i64 0, .slice none 0 0] (n * 2)).toList = bv (List.replicate n bz) := by
  apply List.ext_getElem?
  intro j
  by_cases hj : j < n * 2
  · have hi : (List.replicate n bz)[j / 2]? = some bz := by rw [List.getElem?_replicate]; simp; omega
    obtain ⟨h0, h1⟩ := bv_at _ _ _ hi
    have hm : j % 2 < 2 := Nat.mod_lt _ (by omega)
    have hd : j / 2 * 2 + j % 2 = j := by omega
    have hL : (madeCells #[.int .i64 0, .slice none 0 0] (n * 2)).toList[j]? = (#[Value.int .i64 0, .slice none 0 0] : Array Value)[j % 2]? := by
      simp only [madeCells, Array.toList_map, Array.toList_range, List.getElem?_map]
      rw [List.getElem?_range hj]
      have hs : (#[Value.int .i64 0, .slice none 0 0] : Array Value).size = 2 := rfl
      rw [hs, Option.map_some]
      revert hm
      generalize j % 2 = r
      intro hm
      match r, hm with
      | 0, _ => rfl
      | 1, _ => rfl
    rw [hL]
    match hr : j % 2, hm with
    | 0, _ => rw [hr] at hd; rw [← hd, Nat.add_zero, h0]; simp [bz]
    | 1, _ => rw [hr] at hd; rw [← hd, h1]; simp [bz, Bk.row]
  · rw [List.getElem?_eq_none (by simp [madeCells]; omega), List.getElem?_eq_none (by rw [bv_length]; simp; omega)]
theorem to_step {bs cs : List Bk} {n k : Nat} {m : Int} {Ab A1 : Option Addr} {cb d1 : Nat} {ps : List Pg} (hl : cs.length = n) (hk : k < n) (hcs : (cs.take k).map Bk.is = (bs.take k).map Bk.is) (hcz : ∀ (j : Nat) (b : Bk), k ≤ j → cs[j]? = some b → b = bz) (hb : bs[k]? = some ⟨m, Ab, cb, ps⟩) :
    (cs.set k ⟨m, A1, d1, ps⟩).length = n ∧ ((cs.set k ⟨m, A1, d1, ps⟩).take (k + 1)).map Bk.is = (bs.take (k + 1)).map Bk.is ∧ ∀ (j : Nat) (b : Bk), k + 1 ≤ j → (cs.set k ⟨m, A1, d1, ps⟩)[j]? = some b → b = bz := by
  refine ⟨by simpa using hl, ?_, fun j b hj h => ?_⟩
  · rw [List.take_add_one, List.take_add_one, List.take_set_of_le (Nat.le_refl _), List.getElem?_set_self (by omega), hb, List.map_append, List.map_append, hcs]
    rfl
  · rw [List.getElem?_set_ne (by omega)] at h
    exact hcz j b (by omega) h
end Go.Proofs.Ytlldmbocaloogaa
