/- What the model draws for chapter 7: l20Table. -/
import Derived.Test.YtofolifmgpgkoaaTables2
import Derived.Test.YtofolifmgpgkoaaDrawPages
import Derived.Test.YtofolifmgpgkoaaHand
namespace Go.Proofs.Ytofolifmgpgkoaa
open Go.ChangeShapes Go.WideShapes Go.ChangeAt Go.RowKit
set_option linter.unusedVariables false
set_option linter.unusedSimpArgs false

/-- The slice and all its lists lie in block lo or behind it. -/
def TFar (lo : Nat) (A : Option Addr) (ls : List Li) : Prop := (∀ ad, A = some ad → lo ≤ ad.block) ∧ ∀ (l : Li) (ad : Addr), l ∈ ls → l.A = some ad → lo ≤ ad.block
theorem TFar.more {lo lo' : Nat} {A : Option Addr} {ls : List Li} (h : TFar lo A ls) (hl : lo' ≤ lo) : TFar lo' A ls := ⟨fun ad e => Nat.le_trans hl (h.1 ad e), fun l ad hm e => Nat.le_trans hl (h.2 l ad hm e)⟩
theorem VRow.away {w w' : World} {B : Nat} {A : Option Addr} {cs : List Value} (h : VRow w B A cs) (hz : w.heap.size ≤ w'.heap.size) (hk : ∀ (ad q : Addr), A = some ad → q.block = ad.block → q.block < w.heap.size → w'.cell? q = w.cell? q) : VRow w' B A cs := fun hn => by
  obtain ⟨g, off, rfl, hb, hz', hc⟩ := h hn
  exact ⟨g, off, rfl, hb, by omega, fun i u hu => (hk ⟨g, off, none⟩ ⟨g, off + i, none⟩ rfl rfl hz').trans (hc i u hu)⟩
/-- What lies before block lo has changed. -/
theorem TRow.away {w w' : World} {B lo : Nat} {A : Option Addr} {ls : List Li} (h : TRow w B A ls) (f : TFar lo A ls) (hz : w.heap.size ≤ w'.heap.size) (hk : ∀ q : Addr, lo ≤ q.block → q.block < w.heap.size → w'.cell? q = w.cell? q) : TRow w' B A ls :=
  ⟨VRow.away h.1 hz fun ad q e e2 hq => hk q (by have := f.1 ad e; omega) hq, fun l hl => VRow.away (h.2 l hl) hz fun ad q e e2 hq => hk q (by have := f.2 l ad hl e; omega) hq⟩
theorem TRow.grownLo {w w' : World} {B lo g : Nat} {A : Option Addr} {ls : List Li} (h : TRow w B A ls) (f : TFar lo A ls) (hg : w.grownBy w' (some g)) (hlt : g < lo) : TRow w' B A ls :=
  h.away f hg.size fun q hq hz => World.cell?_of_block (hg.block q.block hz (fun e => by injection e with e; omega))
theorem TRow.putLo {w : World} {B lo : Nat} {A : Option Addr} {ls : List Li} (h : TRow w B A ls) (f : TFar lo A ls) {p : Addr} (hp : p.block < lo) (u : Value) : TRow (w.setCell p u) B A ls :=
  h.away f (by simp [World.setCell]) fun q hq _ => World.cell?_setCell_other w p q u (fun e => by subst e; omega)
theorem TOwn.tfar {w : World} {base n c : Nat} {A : Option Addr} {ls : List Li} (h : TOwn w base (.slice A n c) ls) : TFar base A ls :=
  ⟨fun ad e => (VOwn.lt h.1 ad.block (by subst e; rfl)).1, fun l ad hm e => (VOwn.lt (h.2.1 l hm) ad.block (by simp [Li.row, e, Value.ownBlock])).1⟩
theorem TOwn.far_row {w w' : World} {base g : Nat} {v : Value} {ls : List Li} (h : TOwn w base v ls) (hg : w.grownBy w' (some g)) (hlt : g < base) : TOwn w' base v ls := by
  refine h.grown hg (.inr fun e => ?_) fun b a hb ha e => ?_
  · have := (VOwn.lt h.1 g e).1
    omega
  · injection e with e
    have := (VOwn.lt (h.2.1 b hb) a.block (by simp [Li.row, ha, Value.ownBlock])).1
    omega
/-- A table is drawn. -/
def DrewTab (w : World) (B g P : Nat) (e : Ending) (w' : World) : Prop :=
  ∃ (A : Option Addr) (n c : Nat) (ls : List Li), e = .returned (.agg #[.slice A n c]) ∧ ls.length = n ∧ n ≤ 8 ∧ (∀ l, l ∈ ls → l.xs.length ≤ 6) ∧ TRow w' w'.heap.size A ls ∧ TFar w.heap.size A ls ∧ Rd w' B g P ∧ w.grownBy w' (some g)
theorem DrewTab.kept {w wr w' : World} {B g Q : Nat} {e : Ending} (H : DrewTab w B g Q e wr) (hk : wr.grownBy w' none) : DrewTab w B g Q e w' := by
  obtain ⟨A, n, c, ls, e0, e1, e2, e3, e4, e5, e6, e7⟩ := H
  exact ⟨A, n, c, ls, e0, e1, e2, e3, (e4.kept hk).here, e5, e6.grown hk (by intro k e; cases e), grown_trans e7 (grown_some hk)⟩
section
variable {w wr w' : World} {B g Q Q' V gt ct : Nat} {ls : List Li}
theorem six_of {ls : List Li} (hv : tabB (ll ls) = true) : ∀ l, l ∈ ls → l.xs.length ≤ 6 := fun l hl => by
  have h6 := ((tabB_iff _).1 hv).six l.xs (List.mem_map_of_mem hl)
  omega
end
/-- A drawn put: the table stays valid. -/
def PutDrawn (w : World) (e : Ending) (w' : World) : Prop :=
  ∃ (gt ct : Nat) (cs : List Li) (b : Bool), e = .returned (.tuple #[.agg #[.slice (some ⟨gt, 0, none⟩) 8 ct], .bool b]) ∧ cs.length = 8 ∧ tabB (ll cs) = true ∧ TOwn w' w.heap.size (.slice (some ⟨gt, 0, none⟩) 8 ct) cs ∧ w.grownBy w' none
section
variable {w wr w' : World} {B g Q Q' V gt ct : Nat} {ls : List Li}
end
theorem noTab_valid : tabB noTab = true := by decide
end Go.Proofs.Ytofolifmgpgkoaa
