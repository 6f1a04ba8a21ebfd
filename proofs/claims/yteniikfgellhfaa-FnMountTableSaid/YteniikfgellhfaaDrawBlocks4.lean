/- What the draws of chapter 4 answer: blocks, pages, numbers, and nothing that was there is written. -/
import Derived.Test.YteniikfgellhfaaDrawBlocks3
namespace Go.Proofs.Yteniikfgellhfaa
open Go.ChangeShapes Go.WideShapes Go.ChangeAt Go.RowKit

theorem Row.grownNe {w w' : World} {B : Nat} {A : Option Addr} {ps : List Pg} {row : Option Nat} (h : Row w B A ps) (hg : w.grownBy w' row) (hne : ∀ ad, A = some ad → row ≠ some ad.block) : Row w' B A ps := fun hn => by
  obtain ⟨g, off, rfl, hb, hz, hc⟩ := h hn
  have h1 := hne _ rfl
  exact ⟨g, off, rfl, hb, Nat.lt_of_lt_of_le hz hg.size, fun i q hq => (hc i q hq).keep fun r hr => World.cell?_of_block (hg.block r.block (by omega) (fun e => h1 (by rw [← e, hr])))⟩
theorem pair2 {w : World} {g : Nat} {t : TypeId} {u0 u1 : Value} (h : Blk w g t #[u0, u1]) : w.cell? ⟨g, 0, none⟩ = some u0 ∧ w.cell? ⟨g, 1, none⟩ = some u1 := ⟨h.cell 0, h.cell 1⟩
theorem far0 {A : Option Addr} {lo k o : Nat} (h : ∀ ad, A = some ad → lo ≤ ad.block) (hk : k < lo) : ∀ ad, A = some ad → ad.block ≠ (⟨k, o, none⟩ : Addr).block := fun ad e => by
  have := h ad e
  show ad.block ≠ k
  omega
/-- A block is drawn out of a code: nothing that was there is written. -/
def BlockDrawn (w : World) (e : Ending) (w' : World) : Prop :=
  ∃ (m : Int) (A : Option Addr) (n c : Nat) (ps : List Pg), e = .returned (.agg #[.int .i64 m, .slice A n c]) ∧ ps.length = n ∧ n ≤ 4 ∧ n ≤ c ∧ c ≤ maxLen ∧ Row w' w'.heap.size A ps ∧ Below w.heap.size w w'
/-- A number is drawn. -/
def NumDrawn (w : World) (e : Ending) (w' : World) : Prop := ∃ m : Int, e = .returned (.int .i64 m) ∧ Below w.heap.size w w'
/-- A block and a page are drawn. -/
def BlockPageDrawn (w : World) (e : Ending) (w' : World) : Prop :=
  ∃ (m : Int) (A : Option Addr) (n c : Nat) (ps : List Pg) (p : Pg), e = .returned (.tuple #[.agg #[.int .i64 m, .slice A n c], .agg #[.bool p.f, .int .i64 p.a, .int .i64 p.b, .int .i64 p.c, .int .i64 p.d]]) ∧ ps.length = n ∧ n ≤ 4 ∧ n ≤ c ∧ c ≤ maxLen ∧ Row w' w'.heap.size A ps ∧ Below w.heap.size w w'
end Go.Proofs.Yteniikfgellhfaa
