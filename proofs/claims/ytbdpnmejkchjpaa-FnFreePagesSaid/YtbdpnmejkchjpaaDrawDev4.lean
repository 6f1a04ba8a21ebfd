/- What the model draws for chapter 5: DrawFreePages; a drawn device while a law walks. -/
import Derived.Test.YtbdpnmejkchjpaaDrawDev3
namespace Go.Proofs.Ytbdpnmejkchjpaa
open Go.ChangeShapes Go.WideShapes Go.ChangeAt Go.RowKit

/-- A device is drawn out of a code: nothing that was there is written. -/
def DevDrawn (w : World) (e : Ending) (w' : World) : Prop :=
  ∃ (A : Option Addr) (n c : Nat) (bs : List Bk), e = .returned (.slice A n c) ∧ bs.length = n ∧ n ≤ 13 ∧ (∀ q, q ∈ bs → q.ps.length ≤ 4) ∧ DRow w' w'.heap.size A bs ∧ Below w.heap.size w w'
theorem drawFree_any (w : World) (A : Option Addr) (n c : Nat) (hn : n ≤ c) (hc : c ≤ 9223372036854775807) (h : Bytes w w.heap.size A n) :
    Calls Try.prog 10 #[.slice A n c] w (DevDrawn w) := by
  go_enter Try.func10, Try.ntmps10
  go_wp2_with fail
  refine (open_any _ A n c hn hc h).mono ?_
  rintro e w1 ⟨rfl, h1, hb1⟩
  go_wp2_with fail
  refine (device_any _ _ _ _ _ h1 (by omega) (by omega) (by omega)).mono ?_
  rintro e w2 ⟨A2, n2, c2, bs, a, b, h9, rfl, hl, h13, hnc, hcm, hs, _, hrow, h2, hg2⟩
  have HF := Lib.hid (hb1.trans (Below.of_grown hg2 (by omega) hb1.size))
  have HX := Lib.hid (And.intro hl (And.intro h13 (And.intro hs hrow)))
  clear h h1 h2 hb1 hg2 hrow hl hs
  go_wp2
  go_ret
  exact ⟨_, _, _, _, rfl, HX.out.1, HX.out.2.1, HX.out.2.2.1, (HX.out.2.2.2.alloc _).here, HF.out.alloc (by have := HF.out.size; exact this) _⟩
theorem specFree_val {A : Option Addr} {n c V : Nat} {cs : List Bk} {w : World} (hl : cs.length = n) (hr : DRow w w.heap.size A cs) (hd : devB cs = true) (hV : freeV cs = V) :
    Calls Try.prog 12 #[.slice A n c] w (KeptV (.int .i64 V) w) := by
  subst hV
  exact specFreePages_yes A n c cs w hl hr hd
theorem free_val {A : Option Addr} {n c V : Nat} {cs : List Bk} {w : World} (hl : cs.length = n) (hr : DRow w w.heap.size A cs) (hd : devB cs = true) (hV : freeV cs = V) :
    Calls Try.prog 11 #[.slice A n c] w (KeptV (.int .i64 V) w) := by
  subst hV
  exact freePages_yes A n c cs w hl hr hd
/-- A drawn device while the law walks on. -/
def LD (w : World) (A : Option Addr) (bs : List Bk) (wr : World) : Prop := DRow wr wr.heap.size A bs ∧ Below w.heap.size w wr
theorem LD.keep {w wr w' : World} {A : Option Addr} {bs : List Bk} (h : LD w A bs wr) (k : wr.grownBy w' none) : LD w A bs w' := ⟨(h.1.kept k).here, Below.and_kept h.2 k⟩
theorem LD.alloc {w wr : World} {A : Option Addr} {bs : List Bk} (h : LD w A bs wr) (o : Obj) : LD w A bs (wr.alloc o) := h.keep (grown_alloc (grown_refl _ _) o)
end Go.Proofs.Ytbdpnmejkchjpaa
