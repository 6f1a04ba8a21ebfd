/- What the model draws for chapter 8, further: a device, a table and heads that belong together: the state of l20Both. -/
import Derived.Test.YtfiajbkmklcaiaaDrawHeads
import Derived.Test.YtfiajbkmklcaiaaDrawFiles
import Derived.Test.YtfiajbkmklcaiaaTables10
import Derived.Test.YtfiajbkmklcaiaaFileFacts
namespace Go.Proofs.Ytfiajbkmklcaiaa
open Go.ChangeShapes Go.WideShapes Go.ChangeAt Go.RowKit
set_option linter.unusedVariables false

/-- A device all of whose memory lies in blocks lo .. hi - 1. -/
def DZ (lo hi : Nat) (D : Option Addr) (bs : List Bk) (wr : World) : Prop := DRow wr hi D bs ∧ (∀ ad, D = some ad → lo ≤ ad.block) ∧ ∀ (q : Bk) (ad : Addr), q ∈ bs → q.A = some ad → lo ≤ ad.block
theorem DZ.grown {lo hi : Nat} {D : Option Addr} {bs : List Bk} {wr w' : World} {row : Option Nat} (h : DZ lo hi D bs wr) (hg : wr.grownBy w' row) (hr : ∀ g, row = some g → g < lo ∨ hi ≤ g) : DZ lo hi D bs w' := by
  refine ⟨?_, h.2⟩
  cases row with
  | none => exact h.1.kept hg
  | some g =>
    rcases hr g rfl with h1 | h1
    · refine h.1.grown2 hg (fun ad e e2 => ?_) (fun q ad hq e e2 => ?_)
      · have := h.2.1 ad e; injection e2 with e2; omega
      · have := h.2.2 q ad hq e; injection e2 with e2; omega
    · exact h.1.grown hg (fun k e => by injection e with e; omega)
theorem DZ.put {lo hi : Nat} {D : Option Addr} {bs : List Bk} {wr : World} (h : DZ lo hi D bs wr) {p : Addr} (hp : p.block < lo ∨ hi ≤ p.block) (u : Value) : DZ lo hi D bs (wr.setCell p u) :=
  h.grown (grown_set (grown_refl wr (some p.block)) (.inl rfl) u) (fun g e => by injection e with e; omega)
/-- No part of a table lies in block V, nor before block lo. -/
def TOff (lo V : Nat) (A : Option Addr) (ls : List Li) : Prop := (∀ ad, A = some ad → lo ≤ ad.block ∧ ad.block ≠ V) ∧ ∀ (l : Li) (ad : Addr), l ∈ ls → l.A = some ad → lo ≤ ad.block ∧ ad.block ≠ V
theorem TOff.far {lo V : Nat} {A : Option Addr} {ls : List Li} (h : TOff lo V A ls) : TFar lo A ls := ⟨fun ad e => (h.1 ad e).1, fun l ad hm e => (h.2 l ad hm e).1⟩
theorem TRow.offPut {w : World} {B lo V : Nat} {A : Option Addr} {ls : List Li} (h : TRow w B A ls) (f : TOff lo V A ls) (i : Nat) (u : Value) : TRow (w.setCell ⟨V, i, none⟩ u) B A ls :=
  ⟨VRow.away h.1 (by simp [World.setCell]) fun ad q e e2 hq => World.cell?_setCell_other w ⟨V, i, none⟩ q u (fun e3 => (f.1 ad e).2 (by rw [← e2, ← e3])),
   fun l hl => VRow.away (h.2 l hl) (by simp [World.setCell]) fun ad q e e2 hq => World.cell?_setCell_other w ⟨V, i, none⟩ q u (fun e3 => (f.2 l ad hl e).2 (by rw [← e2, ← e3]))⟩
/-- A table of the call's own is off every block that was there before. -/
theorem TOwn.off {w : World} {base n c lo V : Nat} {A : Option Addr} {ls : List Li} (h : TOwn w base (.slice A n c) ls) (hV : V < base) (hlo : lo ≤ base) : TOff lo V A ls :=
  ⟨fun ad e => by have := h.tfar.1 ad e; omega, fun l ad hm e => by have := h.tfar.2 l ad hm e; omega⟩
theorem TOwn.offB {w : World} {base n c lo V : Nat} {A : Option Addr} {ls : List Li} (h : TOwn w base (.slice A n c) ls) (hV : w.heap.size ≤ V) (hlo : lo ≤ base) : TOff lo V A ls :=
  ⟨fun ad e => by have h1 := VOwn.lt h.1 ad.block (by subst e; rfl); omega, fun l ad hm e => by have h1 := VOwn.lt (h.2.1 l hm) ad.block (by simp [Li.row, e, Value.ownBlock]); omega⟩
/-- l20Both under way: the heads in variable V, the table in variable T, the results' cells in blocks w.heap.size and the next one. -/
def BSt (w : World) (B g Q V T : Nat) (D : Option Addr) (nd cd : Nat) (bs : List Bk) (a b h : Int) (A : Option Addr) (n c : Nat) (ls : List Li) (wr : World) : Prop :=
  (DZ (w.heap.size + 2) V D bs wr ∧ bs.length = nd ∧ nd ≤ 13 ∧ ∀ q, q ∈ bs → q.ps.length ≤ 4) ∧ (TRow wr wr.heap.size A ls ∧ TOff (w.heap.size + 2) T A ls ∧ ls.length = n ∧ n ≤ 8 ∧ ∀ l, l ∈ ls → l.xs.length ≤ 6) ∧
  (Blk wr w.heap.size 25 #[.slice none 0 0] ∧ Blk wr (w.heap.size + 1) 76 #[.int .i64 0, .int .i64 0, .int .i64 0] ∧ Blk wr V 76 #[.int .i64 a, .int .i64 b, .int .i64 h] ∧ Blk wr T 25 #[.slice A n c]) ∧
  Rd wr B g Q ∧ w.grownBy wr (some g) ∧ g < w.heap.size ∧ w.heap.size + 2 ≤ V ∧ V < T
section
variable {w wr w' w1 : World} {B g Q Q' V T nd cd n c n' c' : Nat} {D A A' : Option Addr} {bs : List Bk} {a b h : Int} {ls cs : List Li}
theorem BSt.grown (H : BSt w B g Q V T D nd cd bs a b h A n c ls wr) (hg : wr.grownBy w' (some g)) (hr : Rd w' B g Q') : BSt w B g Q' V T D nd cd bs a b h A n c ls w' := by
  obtain ⟨⟨h1, h1b⟩, ⟨h2, h2b, h2c⟩, ⟨h3, h4, h5, h6⟩, h7, h8, h9, h10, h11⟩ := H
  have ne : ∀ {X : Nat}, g < X → some X ≠ some g := fun hx e => by injection e with e; omega
  exact ⟨⟨h1.grown hg (fun k e => by injection e with e; omega), h1b⟩, ⟨(h2.grownLo h2b.far hg (by omega)).here, h2b, h2c⟩, ⟨h3.grown hg (ne (by omega)), h4.grown hg (ne (by omega)), h5.grown hg (ne (by omega)), h6.grown hg (ne (by omega))⟩, hr, grown_trans h8 hg, h9, h10, h11⟩
theorem BSt.kept (H : BSt w B g Q V T D nd cd bs a b h A n c ls wr) (hk : wr.grownBy w' none) : BSt w B g Q V T D nd cd bs a b h A n c ls w' := H.grown (grown_some hk) (H.2.2.2.1.grown hk (by intro k e; cases e))
theorem BSt.drew (H : BSt w B g Q V T D nd cd bs a b h A n c ls wr) : BSt w B g Q V T D nd cd bs a b h A n c ls wr.drew := H.kept (grown_drew (grown_refl _ _))
theorem BSt.more (H : BSt w B g Q V T D nd cd bs a b h A n c ls wr) (hq : Q ≤ Q') : BSt w B g Q' V T D nd cd bs a b h A n c ls wr := H.grown (grown_refl _ _) (H.2.2.2.1.more hq)
theorem BSt.cellT (H : BSt w B g Q V T D nd cd bs a b h A n c ls wr) : wr.cell? ⟨T, 0, none⟩ = some (.slice A n c) := H.2.2.1.2.2.2.cell 0
theorem BSt.frozenT (H : BSt w B g Q V T D nd cd bs a b h A n c ls wr) : wr.frozen? ⟨T, 0, none⟩ = false := H.2.2.1.2.2.2.frozen 0
theorem BSt.small (H : BSt w B g Q V T D nd cd bs a b h A n c ls wr) : ls.length = n ∧ TRow wr wr.heap.size A ls ∧ n ≤ 1048576 ∧ ∀ l, l ∈ ls → l.xs.length ≤ 1048576 :=
  ⟨H.2.1.2.2.1, H.2.1.1, by have := H.2.1.2.2.2.1; omega, fun l hl => by have := H.2.1.2.2.2.2 l hl; omega⟩
/-- Another table, made since, is put into the variable. -/
theorem BSt.table (H : BSt w B g Q V T D nd cd bs a b h A n c ls wr) (hk : wr.grownBy w1 none) (ho : TOwn w1 wr.heap.size (.slice A' n' c') cs) (hl : cs.length = n') (h8 : n' ≤ 8) (h6 : ∀ l, l ∈ cs → l.xs.length ≤ 6) :
    BSt w B g Q V T D nd cd bs a b h A' n' c' cs (w1.setCell ⟨T, 0, none⟩ (.slice A' n' c')) := by
  have hT := H.2.2.1.2.2.2.lt
  obtain ⟨⟨k1, k1b⟩, _, ⟨k3, k4, k5, k6⟩, k7, k8, k9, k10, k11⟩ := H.kept hk
  have hs : (w1.setCell ⟨T, 0, none⟩ (.slice A' n' c')).heap.size = w1.heap.size := by simp [World.setCell]
  have hw := H.2.2.2.2.1.size
  have hB := k7.le
  refine ⟨⟨k1.put (.inr (by dsimp only; omega)) _, k1b⟩, ⟨?_, ho.off hT (by omega), hl, h8, h6⟩, ⟨k3.far (by dsimp only; omega) _, k4.far (by dsimp only; omega) _, k5.far (by dsimp only; omega) _, ?_⟩, k7.far (by dsimp only; omega) (by dsimp only; omega) _, grown_set k8 (.inr (by dsimp only; omega)) _, k9, k10, k11⟩
  · rw [hs]
    exact ho.row.offPut (ho.off hT (Nat.le_refl _)) 0 _
  · have := k6.put 0 (.slice A' n' c')
    simpa using this
/-- A device, a table and heads are drawn. -/
def DrewBoth (w : World) (B g P : Nat) (e : Ending) (w' : World) : Prop :=
  ∃ (D : Option Addr) (nd cd : Nat) (bs : List Bk) (A : Option Addr) (n c : Nat) (ls : List Li) (a b h : Int), e = .returned (.tuple #[.slice D nd cd, .agg #[.slice A n c], .agg #[.int .i64 a, .int .i64 b, .int .i64 h]]) ∧
    (bs.length = nd ∧ nd ≤ 13 ∧ ∀ q, q ∈ bs → q.ps.length ≤ 4) ∧ DZ w.heap.size w'.heap.size D bs w' ∧ (ls.length = n ∧ n ≤ 8 ∧ ∀ l, l ∈ ls → l.xs.length ≤ 6) ∧ TRow w' w'.heap.size A ls ∧ TFar w.heap.size A ls ∧ Rd w' B g P ∧ w.grownBy w' (some g)
/-- The results' cells are written: a table X, whatever it is. -/
theorem BSt.out (H : BSt w B g Q V T D nd cd bs a b h A n c ls wr) (hq : Q ≤ Q') {X : Option Addr} {m k : Nat} {ms : List Li} (hX : TRow wr wr.heap.size X ms) (hf : TFar (w.heap.size + 2) X ms) (hl : ms.length = m) (h8 : m ≤ 8) (h6 : ∀ l, l ∈ ms → l.xs.length ≤ 6) :
    DrewBoth w B g Q' (.returned (.tuple #[.slice D nd cd, .agg #[.slice X m k], .agg #[.int .i64 a, .int .i64 b, .int .i64 h]]))
      ((((wr.setCell ⟨w.heap.size, 0, none⟩ (.slice X m k)).setCell ⟨w.heap.size + 1, 0, none⟩ (.int .i64 a)).setCell ⟨w.heap.size + 1, 1, none⟩ (.int .i64 b)).setCell ⟨w.heap.size + 1, 2, none⟩ (.int .i64 h)) := by
  have hV := H.2.2.1.2.2.1.lt
  obtain ⟨⟨k1, k1b⟩, _, _, k7, k8, k9, k10, k11⟩ := H
  have hB := k7.le
  have hs : ((((wr.setCell ⟨w.heap.size, 0, none⟩ (.slice X m k)).setCell ⟨w.heap.size + 1, 0, none⟩ (.int .i64 a)).setCell ⟨w.heap.size + 1, 1, none⟩ (.int .i64 b)).setCell ⟨w.heap.size + 1, 2, none⟩ (.int .i64 h)).heap.size = wr.heap.size := by simp [World.setCell]
  refine ⟨D, nd, cd, bs, X, m, k, ms, a, b, h, rfl, k1b, ?_, ⟨hl, h8, h6⟩, ?_, ⟨fun ad e => by have := hf.1 ad e; omega, fun l ad hm e => by have := hf.2 l ad hm e; omega⟩, ?_, ?_⟩
  · rw [hs]
    have k2 := (((k1.put (p := ⟨w.heap.size, 0, none⟩) (.inl (by dsimp only; omega)) (.slice X m k)).put (p := ⟨w.heap.size + 1, 0, none⟩) (.inl (by dsimp only; omega)) (.int .i64 a)).put (p := ⟨w.heap.size + 1, 1, none⟩) (.inl (by dsimp only; omega)) (.int .i64 b)).put (p := ⟨w.heap.size + 1, 2, none⟩) (.inl (by dsimp only; omega)) (.int .i64 h)
    exact ⟨k2.1.more (by omega), fun ad e => by have := k2.2.1 ad e; omega, fun q ad hq e => by have := k2.2.2 q ad hq e; omega⟩
  · rw [hs]
    exact (((hX.putLo hf (p := ⟨w.heap.size, 0, none⟩) (by dsimp only; omega) _).putLo hf (p := ⟨w.heap.size + 1, 0, none⟩) (by dsimp only; omega) _).putLo hf (p := ⟨w.heap.size + 1, 1, none⟩) (by dsimp only; omega) _).putLo hf (p := ⟨w.heap.size + 1, 2, none⟩) (by dsimp only; omega) _
  · exact ((((k7.far (by dsimp only; omega) (by dsimp only; omega) _).far (by dsimp only; omega) (by dsimp only; omega) _).far (by dsimp only; omega) (by dsimp only; omega) _).far (by dsimp only; omega) (by dsimp only; omega) _).more hq
  · exact grown_set (grown_set (grown_set (grown_set k8 (.inr (by dsimp only; omega)) _) (.inr (by dsimp only; omega)) _) (.inr (by dsimp only; omega)) _) (.inr (by dsimp only; omega)) _
theorem DrewBoth.drew {e : Ending} (H : DrewBoth w B g Q e wr) : DrewBoth w B g Q e wr.drew := by
  obtain ⟨D, nd, cd, bs, A, n, c, ls, a, b, h, e0, e1, e2, e3, e4, e5, e6, e7⟩ := H
  exact ⟨D, nd, cd, bs, A, n, c, ls, a, b, h, e0, e1, e2, e3, e4, e5, e6.drew, grown_drew e7⟩
end
end Go.Proofs.Ytfiajbkmklcaiaa
