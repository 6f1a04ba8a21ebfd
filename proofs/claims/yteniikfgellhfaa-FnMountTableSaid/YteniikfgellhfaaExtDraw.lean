/- What the model draws for chapter 9: numbers that often follow each other, extents. -/
import Derived.Test.YteniikfgellhfaaExts
import Derived.Test.YteniikfgellhfaaFiles
namespace Go.Proofs.Yteniikfgellhfaa
open Go.ChangeShapes Go.WideShapes Go.ChangeAt Go.RowKit
set_option linter.unusedVariables false
set_option linter.unusedSimpArgs false

theorem grown_joinG {a b c : World} {g : Nat} {row : Option Nat} (h : a.grownBy b (some g)) (k : b.grownBy c row) (hr : ∀ i, row = some i → a.heap.size ≤ i) : a.grownBy c (some g) :=
  ⟨k.os.trans h.os, k.tape.trans h.tape, k.output.trans h.output, Nat.le_trans h.size k.size, fun i hi hne => (k.block i (Nat.lt_of_lt_of_le hi h.size) (by intro e; have := hr i e.symm; omega)).trans (h.block i hi hne)⟩
/-- Numbers of the call's own while a reader in block g is read. -/
def NSt (w : World) (B g Q : Nat) (xs : List Int) (u : Value) (wr : World) : Prop := IOwn wr w.heap.size u xs ∧ Rd wr B g Q ∧ w.grownBy wr (some g) ∧ g < w.heap.size
section
variable {w wr w' : World} {B g Q Q' : Nat} {xs : List Int} {u : Value}
theorem NSt.grown (H : NSt w B g Q xs u wr) (hg : wr.grownBy w' (some g)) (hr : Rd w' B g Q') : NSt w B g Q' xs u w' :=
  ⟨VOwn.kept H.1 hg (by
    cases h : u.ownBlock with
    | none => exact .inl rfl
    | some k => refine .inr fun e => ?_; have h1 := (VOwn.lt H.1 k h).1; have h2 := H.2.2.2; injection e with e; omega), hr, grown_trans H.2.2.1 hg, H.2.2.2⟩
theorem NSt.kept (H : NSt w B g Q xs u wr) (hk : wr.grownBy w' none) : NSt w B g Q xs u w' := H.grown (grown_some hk) (H.2.1.grown hk (by intro k e; cases e))
theorem NSt.push (x : Int) (H : NSt w B g Q xs u wr) (hn : xs.length ≤ 1000000) :
    ∃ u' w', (∀ ty, (Builtin.append_ #[26, 26] ty #[u, .slice (some ⟨wr.heap.size, 0, none⟩) 1 1]).run Try.prog (wr.alloc (.cells #[.int .i64 x] 3)) = .ok u' w') ∧ NSt w B g Q (xs ++ [x]) u' w' := by
  obtain ⟨u', w2, hrun, h2, hg2⟩ := push_int (wr := w) x H.1 H.2.2.1.size hn
  have K1 := grown_alloc (grown_refl wr none) (.cells #[.int .i64 x] 3)
  have hB := H.2.1.le
  exact ⟨u', w2, hrun, h2, (H.2.1.grown K1 (by intro k e; cases e)).grown hg2 (fun k e => by have h1 := (VOwn.lt H.1 k e).1; have h2 := H.2.2.2; omega), grown_joinG (grown_trans H.2.2.1 (grown_some K1)) hg2 (fun k e => (VOwn.lt H.1 k e).1), H.2.2.2⟩
end
/-- Numbers are drawn. -/
def DrewInts (w : World) (B g P : Nat) (e : Ending) (w' : World) : Prop :=
  ∃ (A : Option Addr) (n c : Nat) (xs : List Int), e = .returned (.slice A n c) ∧ xs.length = n ∧ n ≤ 14 ∧ (∀ x, x ∈ xs → -1 ≤ x ∧ x ≤ 1000001) ∧ IOwn w' w.heap.size (.slice A n c) xs ∧ Rd w' B g P ∧ w.grownBy w' (some g)
theorem lit2 (z : Nat) (h : z < 2) (a b : Int) : ∃ v : Int, (#[Value.int .i64 a, .int .i64 b] : Array Value)[z]? = some (.int .i64 v) ∧ (v = a ∨ v = b) := by
  match z, h with
  | 0, _ => exact ⟨a, rfl, .inl rfl⟩
  | 1, _ => exact ⟨b, rfl, .inr rfl⟩
section
variable {w wr w' : World} {B g Q Q' : Nat} {ps : List Pr} {u : Value}
end
theorem lit44 (z : Nat) (h : z < 4) : ∃ a b : Int, (#[Value.int .i64 0, .int .i64 0, .int .i64 (-1), .int .i64 1, .int .i64 5, .int .i64 41, .int .i64 1000001, .int .i64 1] : Array Value)[z * 2]? = some (.int .i64 a) ∧ (#[Value.int .i64 0, .int .i64 0, .int .i64 (-1), .int .i64 1, .int .i64 5, .int .i64 41, .int .i64 1000001, .int .i64 1] : Array Value)[z * 2 + 1]? = some (.int .i64 b) := by
  match z, h with
  | 0, _ => exact ⟨0, 0, rfl, rfl⟩
  | 1, _ => exact ⟨-1, 1, rfl, rfl⟩
  | 2, _ => exact ⟨5, 41, rfl, rfl⟩
  | 3, _ => exact ⟨1000001, 1, rfl, rfl⟩
/-- Extents that were drawn out of a code, while a law walks on. -/
def LE (w : World) (A : Option Addr) (ps : List Pr) (wr : World) : Prop := PRow wr wr.heap.size A ps ∧ Below w.heap.size w wr
theorem LE.keep {w wr w' : World} {A : Option Addr} {ps : List Pr} (h : LE w A ps wr) (k : wr.grownBy w' none) : LE w A ps w' := ⟨h.1.keepN k, Below.and_kept h.2 k⟩
def ExtsDrawn (w : World) (e : Ending) (w' : World) : Prop := ∃ (A : Option Addr) (n c : Nat) (ps : List Pr), e = .returned (.slice A n c) ∧ ps.length = n ∧ n ≤ 9 ∧ n ≤ c ∧ c ≤ maxLen ∧ LE w A ps w'
def NumsDrawn (w : World) (e : Ending) (w' : World) : Prop := ∃ (A : Option Addr) (n c : Nat) (xs : List Int), e = .returned (.slice A n c) ∧ xs.length = n ∧ n ≤ 14 ∧ (∀ x, x ∈ xs → -1 ≤ x ∧ x ≤ 1000001) ∧ IRow w' w'.heap.size A xs ∧ Below w.heap.size w w'
/-- Extents and a number are drawn. -/
def ExtAtDrawn (w : World) (e : Ending) (w' : World) : Prop := ∃ (A : Option Addr) (n c : Nat) (ps : List Pr) (x : Int), e = .returned (.tuple #[.slice A n c, .int .i64 x]) ∧ ps.length = n ∧ n ≤ 9 ∧ -20 ≤ x ∧ x ≤ 20 ∧ LE w A ps w'
end Go.Proofs.Yteniikfgellhfaa
