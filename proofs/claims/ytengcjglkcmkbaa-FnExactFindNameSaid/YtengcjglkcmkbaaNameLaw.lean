/- What the laws of names carry along: names that came in, names of the call's own; the contracts of chapter 10 told by letters. -/
import Derived.Test.YtengcjglkcmkbaaNamesSpec2
import Derived.Test.YtengcjglkcmkbaaMarkText
import Derived.Test.YtengcjglkcmkbaaPairLaw
namespace Go.Proofs.Ytengcjglkcmkbaa
open Go.ChangeShapes Go.WideShapes Go.ChangeAt Go.RowKit
set_option linter.unusedVariables false

/-- Names that came in, with the sizes of their texts. -/
def IsNmz (w : World) (A : Option Addr) (n c : Nat) (ps : List Nm) : Prop := IsNms w A n c ps ∧ ∀ (k : Nat) p, ps[k]? = some p → p.a.size ≤ maxLen
/-- Names that came in. -/
def LNA (w : World) (A : Option Addr) (ps : List Nm) (wr : World) : Prop := NRow wr w.heap.size A ps ∧ w.grownBy wr none
/-- Names of the call's own: all their memory lies in blocks lo .. hi - 1. -/
def VNm (w : World) (A : Option Addr) (n c : Nat) (xs : List Nm) (lo hi : Nat) (wr : World) : Prop :=
  NOwn wr lo 32 (.slice A n c) xs ∧ xs.length = n ∧ (∀ a, A = some a → a.block < hi) ∧ hi ≤ wr.heap.size ∧ w.heap.size ≤ lo ∧ w.grownBy wr none
section
variable {w wr w' : World} {A : Option Addr} {n c lo hi lox hix : Nat} {xs : List Nm}
theorem LNA.start (h : NRow w w.heap.size A xs) : LNA w A xs w := ⟨h, grown_refl _ _⟩
theorem LNA.keep (h : LNA w A xs wr) (k : wr.grownBy w' none) : LNA w A xs w' := ⟨h.1.kept k, grown_trans h.2 k⟩
theorem LNA.row (h : LNA w A xs wr) : NRow wr wr.heap.size A xs := h.1.here
theorem LNA.marked (h : LNA w A xs wr) (hlo : w.heap.size ≤ lox) (k : Out lox hix wr w') : LNA w A xs w' :=
  ⟨VRow.keep h.1 k.size fun q hq hz => World.cell?_of_block (k.block q.block hz (.inl (by omega))), k.grown h.2 hlo⟩
theorem VNm.keep (h : VNm w A n c xs lo hi wr) (k : wr.grownBy w' none) : VNm w A n c xs lo hi w' := ⟨h.1.keep k, h.2.1, h.2.2.1, Nat.le_trans h.2.2.2.1 k.size, h.2.2.2.2.1, grown_trans h.2.2.2.2.2 k⟩
theorem VNm.row (h : VNm w A n c xs lo hi wr) : NRow wr wr.heap.size A xs := h.1.row
theorem VNm.cap (h : VNm w A n c xs lo hi wr) : n ≤ c ∧ c ≤ maxLen := h.1.capn h.2.1
theorem VNm.made (hG : w.grownBy wr none) (hl : xs.length = n) (ho : NOwn w' wr.heap.size 32 (.slice A n c) xs) (hk : wr.grownBy w' none) : VNm w A n c xs wr.heap.size w'.heap.size w' :=
  ⟨ho, hl, fun a e => (NOwn.lt ho a.block (by subst e; rfl)).2, Nat.le_refl _, hG.size, grown_trans hG hk⟩
theorem VNm.at_ (h : VNm w A n c xs lo hi wr) {g : Nat} (e : (Value.slice A n c).ownBlock = some g) : lo ≤ g ∧ g < hi := by
  refine ⟨(NOwn.lt h.1 g e).1, ?_⟩
  cases hA : A with
  | none => rw [hA] at e; simp [Value.ownBlock] at e
  | some a =>
    have := h.2.2.1 a hA
    rw [hA] at e
    simp only [Value.ownBlock, Option.some.injEq] at e
    omega
theorem VNm.marked (h : VNm w A n c xs lo hi wr) (hd : hi ≤ lox ∨ hix ≤ lo) (hlo : w.heap.size ≤ lox) (k : Out lox hix wr w') : VNm w A n c xs lo hi w' :=
  ⟨ownsRow_outK h.1 k fun g e => by have := h.at_ e; omega, h.2.1, h.2.2.1, Nat.le_trans h.2.2.2.1 k.size, h.2.2.2.2.1, k.grown h.2.2.2.2.2 hlo⟩
theorem VNm.self (h : VNm w A n c xs lo hi wr) (ho : NOwn w' lo 32 (.slice A n c) (nmarks 1 n)) (k : Out lo hi wr w') : VNm w A n c (nmarks 1 n) lo hi w' :=
  ⟨ho, nmarks_length 1 n, h.2.2.1, Nat.le_trans h.2.2.2.1 k.size, h.2.2.2.2.1, k.grown h.2.2.2.2.2 h.2.2.2.2.1⟩
theorem VNm.out (h : VNm w A n c xs lo hi wr) (hk : wr.grownBy w' (Value.slice A n c).ownBlock) : Out lo hi wr w' := Out.of_grown hk fun g e => h.at_ e
end
theorem blk_out {g lox hix : Nat} {t : TypeId} {cs : Array Value} {wr w' : World} (h : Blk wr g t cs) (hg : g < lox) (k : Out lox hix wr w') : Blk w' g t cs := (k.block g h.lt (.inl hg)).trans h
theorem putNm_le (ps : List Nm) (n : Nm) : (putNms ps n).length ≤ 9 := by
  unfold putNms
  split
  · next h =>
    split
    · next h2 => exact nm_le h2
    · exact nm_le h
  · simp
theorem dropNm_le (ps : List Nm) (s : ByteArray) : (dropNms ps s).length ≤ 9 := by
  unfold dropNms
  split
  · next h => exact Nat.le_trans (outN_length ps s) (nm_le h)
  · simp
theorem markName_val {w wr : World} {A : Option Addr} {n c lo hi : Nat} {xs : List Nm} {v : Int} (hv : v = ((1 + 2 * n : Nat) : Int)) (h : VNm w A n c xs lo hi wr) (hn : n ≤ 1048576) :
    Calls Try.prog 40 #[.slice A n c, .int .i64 1] wr fun e w' => e = .returned (.int .i64 v) ∧ NOwn w' lo 32 (.slice A n c) (nmarks 1 n) ∧ Out lo hi wr w' := by
  subst hv
  refine (markNameS_any A n c 1 lo xs wr h.2.1 h.1 hn (by omega)).mono ?_
  rintro e w' ⟨rfl, ho, hk⟩
  exact ⟨rfl, ho, h.out hk⟩
theorem heldName_val {w wr : World} {A : Option Addr} {n c lo hi : Nat} {v : Int} (hv : v = ((1 + 2 * n : Nat) : Int)) (h : VNm w A n c (nmarks 1 n) lo hi wr) (hn : n ≤ 1048576) :
    Calls Try.prog 41 #[.slice A n c, .int .i64 1] wr (KeptV (.int .i64 v) wr) := by
  subst hv
  exact heldNameS_any A n c 1 wr h.row hn (by omega)
/-- So many names, in memory of their own, and whether it is possible. -/
def MadeNameN2 (X : List Nm) (m : Nat) (r : Bool) (w : World) (e : Ending) (w' : World) : Prop := ∃ (A : Option Addr) (c : Nat), e = .returned (.tuple #[.slice A m c, .bool r]) ∧ X.length = m ∧ NOwn w' w.heap.size 32 (.slice A m c) X ∧ w.grownBy w' none
theorem MadeName2.to {X : List Nm} {m : Nat} {r : Bool} {w w' : World} {e : Ending} (h : MadeName2 X r w e w') (hl : X.length = m) : MadeNameN2 X m r w e w' := by
  obtain ⟨A, n, c, h1, h2, h3⟩ := h
  obtain rfl : n = m := by rw [← h2, ← hl]
  exact ⟨A, c, h1, h2, h3⟩
section
variable {A : Option Addr} {n c m : Nat} {ps X : List Nm} {s a : ByteArray} {b V : Int} {r : Bool} {w : World}
theorem specFind_val (h : findV ps s = V) (hl : ps.length = n) (hr : NRow w w.heap.size A ps) (hn : n ≤ 1048576) (hs : ∀ (k : Nat) p, ps[k]? = some p → p.a.size ≤ 9223372036854775807) :
    Calls Try.prog 27 #[.slice A n c, .string s] w (KeptV (.int .i64 V) w) := h ▸ specFind_any A n c ps s w hl hr hn hs
theorem findName_val (h : findV ps s = V) (hl : ps.length = n) (hr : NRow w w.heap.size A ps) (hn : n ≤ 1048576) (hs : ∀ (k : Nat) p, ps[k]? = some p → p.a.size ≤ 9223372036854775807) :
    Calls Try.prog 26 #[.slice A n c, .string s] w (KeptV (.int .i64 V) w) := h ▸ findName_any A n c ps s w hl hr (by omega) hs
theorem specPut_val (h : putNms ps ⟨a, b⟩ = X) (h2 : putNok ps ⟨a, b⟩ = r) (hX : X.length = m) (hl : ps.length = n) (hr : NRow w w.heap.size A ps) (hn : n ≤ 1048576) (hs : ∀ (k : Nat) p, ps[k]? = some p → p.a.size ≤ 9223372036854775807) (hz : a.size ≤ 9223372036854775807) (hc : n ≤ c ∧ c ≤ maxLen) :
    Calls Try.prog 30 #[.slice A n c, .agg #[.string a, .int .i64 b]] w (MadeNameN2 X m r w) := (specPut_any A n c ps a b w hl hr hn hc.1 hc.2 hs hz).mono fun _ _ q => by rw [h, h2] at q; exact q.to hX
theorem putName_val (h : putNms ps ⟨a, b⟩ = X) (h2 : putNok ps ⟨a, b⟩ = r) (hX : X.length = m) (hl : ps.length = n) (hr : NRow w w.heap.size A ps) (hn : n ≤ 1048576) (hs : ∀ (k : Nat) p, ps[k]? = some p → p.a.size ≤ 9223372036854775807) (hz : a.size ≤ 9223372036854775807) :
    Calls Try.prog 29 #[.slice A n c, .agg #[.string a, .int .i64 b]] w (MadeNameN2 X m r w) := (putName_any A n c ps a b w hl hr (by omega) hs hz).mono fun _ _ q => by rw [h, h2] at q; exact q.to hX
theorem specDrop_val (h : dropNms ps s = X) (h2 : dropNok ps s = r) (hX : X.length = m) (hl : ps.length = n) (hr : NRow w w.heap.size A ps) (hn : n ≤ 1048576) (hs : ∀ (k : Nat) p, ps[k]? = some p → p.a.size ≤ 9223372036854775807) :
    Calls Try.prog 34 #[.slice A n c, .string s] w (MadeNameN2 X m r w) := (specDrop_any A n c ps s w hl hr hn hs).mono fun _ _ q => by rw [h, h2] at q; exact q.to hX
theorem dropName_val (h : dropNms ps s = X) (h2 : dropNok ps s = r) (hX : X.length = m) (hl : ps.length = n) (hr : NRow w w.heap.size A ps) (hn : n ≤ 1048576) (hs : ∀ (k : Nat) p, ps[k]? = some p → p.a.size ≤ 9223372036854775807) :
    Calls Try.prog 32 #[.slice A n c, .string s] w (MadeNameN2 X m r w) := (dropName_any A n c ps s w hl hr (by omega) hs).mono fun _ _ q => by rw [h, h2] at q; exact q.to hX
end
end Go.Proofs.Ytengcjglkcmkbaa
