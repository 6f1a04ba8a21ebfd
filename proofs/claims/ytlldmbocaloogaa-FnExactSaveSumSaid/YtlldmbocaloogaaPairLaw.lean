/- What the exact laws of slices of pairs carry along: pairs that came in, pairs of the call's own, numbers that came in. -/
import Derived.Test.YtlldmbocaloogaaPairs
import Derived.Test.YtlldmbocaloogaaLawFiles
namespace Go.Proofs.Ytlldmbocaloogaa
open Go.ChangeShapes Go.WideShapes Go.ChangeAt Go.RowKit
set_option linter.unusedVariables false

theorem ownsRow_outK {base lo hi n size : Nat} {t : TypeId} {w w' : World} {v : Value} {xs : List Value} (h : w.ownsRow base t size v n xs) (k : Out lo hi w w') (hv : ∀ g, v.ownBlock = some g → g < lo ∨ hi ≤ g) : w'.ownsRow base t size v n xs := by
  refine ⟨h.1, ?_⟩
  rcases h.2 with h2 | ⟨g, cap, cur, rfl, hb, hg, hc, hm, hs, htk⟩
  · exact .inl h2
  · have hlt : g < w.heap.size := (Array.getElem?_eq_some_iff.1 hg).1
    exact .inr ⟨g, cap, cur, rfl, hb, (k.block g hlt (hv g rfl)).trans hg, hc, hm, hs, htk⟩
/-- Pairs that came in. -/
def LPA (w : World) (A : Option Addr) (ps : List Pr) (wr : World) : Prop := PRow wr w.heap.size A ps ∧ w.grownBy wr none
/-- Numbers that came in. -/
def LIA (w : World) (A : Option Addr) (xs : List Int) (wr : World) : Prop := IRow wr w.heap.size A xs ∧ w.grownBy wr none
/-- Pairs of the call's own: all their memory lies in blocks lo .. hi - 1. -/
def VP (w : World) (t : TypeId) (A : Option Addr) (n c : Nat) (xs : List Pr) (lo hi : Nat) (wr : World) : Prop :=
  POwn wr lo t (.slice A n c) xs ∧ xs.length = n ∧ (∀ a, A = some a → a.block < hi) ∧ hi ≤ wr.heap.size ∧ w.heap.size ≤ lo ∧ w.grownBy wr none
section
variable {w wr w' : World} {A : Option Addr} {n c lo hi lox hix : Nat} {xs : List Pr} {ys : List Int} {t : TypeId}
theorem LPA.start (h : PRow w w.heap.size A xs) : LPA w A xs w := ⟨h, grown_refl _ _⟩
theorem LPA.keep (h : LPA w A xs wr) (k : wr.grownBy w' none) : LPA w A xs w' := ⟨h.1.kept k, grown_trans h.2 k⟩
theorem LPA.row (h : LPA w A xs wr) : PRow wr wr.heap.size A xs := h.1.here
theorem LPA.marked (h : LPA w A xs wr) (hlo : w.heap.size ≤ lox) (k : Out lox hix wr w') : LPA w A xs w' :=
  ⟨VRow.keep h.1 k.size fun q hq hz => World.cell?_of_block (k.block q.block hz (.inl (by omega))), k.grown h.2 hlo⟩
theorem LIA.start (h : IRow w w.heap.size A ys) : LIA w A ys w := ⟨h, grown_refl _ _⟩
theorem LIA.keep (h : LIA w A ys wr) (k : wr.grownBy w' none) : LIA w A ys w' := ⟨VRow.kept h.1 k, grown_trans h.2 k⟩
theorem LIA.row (h : LIA w A ys wr) : IRow wr wr.heap.size A ys := VRow.here h.1
theorem LIA.marked (h : LIA w A ys wr) (hlo : w.heap.size ≤ lox) (k : Out lox hix wr w') : LIA w A ys w' :=
  ⟨VRow.keep h.1 k.size fun q hq hz => World.cell?_of_block (k.block q.block hz (.inl (by omega))), k.grown h.2 hlo⟩
theorem VP.keep (h : VP w t A n c xs lo hi wr) (k : wr.grownBy w' none) : VP w t A n c xs lo hi w' := ⟨h.1.keep k, h.2.1, h.2.2.1, Nat.le_trans h.2.2.2.1 k.size, h.2.2.2.2.1, grown_trans h.2.2.2.2.2 k⟩
theorem VP.row (h : VP w t A n c xs lo hi wr) : PRow wr wr.heap.size A xs := h.1.row
theorem VP.made (hG : w.grownBy wr none) (hl : xs.length = n) (ho : POwn w' wr.heap.size t (.slice A n c) xs) (hk : wr.grownBy w' none) : VP w t A n c xs wr.heap.size w'.heap.size w' :=
  ⟨ho, hl, fun a e => (POwn.lt ho a.block (by subst e; rfl)).2, Nat.le_refl _, hG.size, grown_trans hG hk⟩
theorem VP.at_ (h : VP w t A n c xs lo hi wr) {g : Nat} (e : (Value.slice A n c).ownBlock = some g) : lo ≤ g ∧ g < hi := by
  refine ⟨(POwn.lt h.1 g e).1, ?_⟩
  cases hA : A with
  | none => rw [hA] at e; simp [Value.ownBlock] at e
  | some a =>
    have := h.2.2.1 a hA
    rw [hA] at e
    simp only [Value.ownBlock, Option.some.injEq] at e
    omega
theorem VP.marked (h : VP w t A n c xs lo hi wr) (hd : hi ≤ lox ∨ hix ≤ lo) (hlo : w.heap.size ≤ lox) (k : Out lox hix wr w') : VP w t A n c xs lo hi w' :=
  ⟨ownsRow_outK h.1 k fun g e => by have := h.at_ e; omega, h.2.1, h.2.2.1, Nat.le_trans h.2.2.2.1 k.size, h.2.2.2.2.1, k.grown h.2.2.2.2.2 hlo⟩
theorem VP.self (h : VP w t A n c xs lo hi wr) (ho : POwn w' lo t (.slice A n c) (pmarks 1 n)) (k : Out lo hi wr w') : VP w t A n c (pmarks 1 n) lo hi w' :=
  ⟨ho, pmarks_length 1 n, h.2.2.1, Nat.le_trans h.2.2.2.1 k.size, h.2.2.2.2.1, k.grown h.2.2.2.2.2 h.2.2.2.2.1⟩
theorem VP.out (h : VP w t A n c xs lo hi wr) (hk : wr.grownBy w' (Value.slice A n c).ownBlock) : Out lo hi wr w' := Out.of_grown hk fun g e => h.at_ e
end
theorem ints_of {w : World} {a : Option Addr} {len cap : Nat} {zs : List Int}
    (h : (a = none ∧ len = 0 ∧ cap = 0 ∧ zs = []) ∨ ∃ x, a = some x ∧ len ≤ cap ∧ cap ≤ maxLen ∧ zs.length = cap ∧ (∀ i, i < zs.length → w.cell? (x.add i) = some (.int .i64 (zs.getD i 0))) ∧ ∀ n ∈ zs, (Lit.int .i64 n).wf = true) :
    ∃ xs : List Int, xs.length = len ∧ len ≤ cap ∧ cap ≤ maxLen ∧ IRow w w.heap.size a xs ∧ ∀ x, x ∈ xs → -9223372036854775808 ≤ x ∧ x ≤ 9223372036854775807 := by
  rcases h with ⟨rfl, rfl, rfl, rfl⟩ | ⟨x, rfl, h1, h2, h3, h4, h5⟩
  · exact ⟨[], rfl, Nat.le_refl _, Nat.zero_le _, VRow.nil, fun x hx => by simp at hx⟩
  · refine ⟨zs.take len, by rw [List.length_take]; omega, h1, h2, fun hn => ?_, fun y hy => ?_⟩
    · rw [iv_length, List.length_take] at hn
      have h0 := h4 0 (by omega)
      obtain ⟨g, off, spot⟩ := x
      have hspot : spot = none := by simpa [Addr.add] using World.cell?_spot h0
      subst hspot
      have hb : g < w.heap.size := World.block_lt_of_cell? w ⟨g, off, none⟩ (by simpa [Addr.add] using h0)
      refine ⟨g, off, rfl, hb, hb, fun i u hu => ?_⟩
      obtain ⟨v, hv, rfl⟩ := iv_get hu
      rw [List.getElem?_take] at hv
      split at hv
      · have hi := (List.getElem?_eq_some_iff.1 hv).1
        have h6 := h4 i hi
        rw [List.getD_eq_getElem?_getD, hv, Option.getD_some] at h6
        simpa [Go.WideShapes.add_plain] using h6
      · cases hv
    · have := h5 y (List.mem_of_mem_take hy)
      simpa [Lit.wf, IntKind.min, IntKind.signed, IntKind.bits] using this
end Go.Proofs.Ytlldmbocaloogaa
