/- What the model's functions of chapter 5 answer, further: ReadPage (under way).
   What the model's functions of chapter 5 answer, further: ReadPage where there is the page (under way).
   What the model's functions of chapter 5 answer, further: EraseAt (under way). -/
import Derived.Test.YtpnkkpkgoneikaaDevices
import Derived.Test.YtpnkkpkgoneikaaHand
namespace Go.Proofs.Ytpnkkpkgoneikaa
open Go.ChangeShapes Go.WideShapes Go.ChangeAt Go.RowKit

theorem specDeviceValid_val {A : Option Addr} {n c : Nat} {bs : List Bk} {V : Bool} (hl : bs.length = n) (h : devB bs = V) (w : World) (hr : DRow w w.heap.size A bs) (hn : n ≤ 1048576) (hp : ∀ b, b ∈ bs → b.ps.length ≤ 1048576) :
    Calls Try.prog 42 #[.slice A n c] w (KeptV (.bool V) w) := h ▸ specDeviceValid_any A n c bs w hl hr hn hp
/-- The page with number a of a device. -/
def pageAt (bs : List Bk) (a : Nat) : Option Pg := (bs[a / 4]?).bind fun b => b.ps[a % 4]?
theorem dev_parts {bs : List Bk} (h : devB bs = true) : (1 ≤ bs.length ∧ bs.length ≤ 12) ∧ ∀ b, b ∈ bs → blockB b.m b.ps = true := by
  simp only [devB, Bool.and_eq_true, List.all_eq_true] at h
  have h1 := inB_iff.1 h.1
  exact ⟨⟨by omega, by omega⟩, h.2⟩
/-- What ReadPage answers where there is such a page. -/
def PageRead (p : Pg) (w : World) (e : Ending) (w' : World) : Prop := e = .returned (.tuple #[.agg #[.bool p.f, .int .i64 p.a, .int .i64 p.b, .int .i64 p.c, .int .i64 p.d], .bool p.f]) ∧ w.grownBy w' none
end Go.Proofs.Ytpnkkpkgoneikaa
namespace Go.Proofs.Ytpnkkpkgoneikaa
open Go.ChangeShapes Go.WideShapes Go.ChangeAt Go.RowKit

end Go.Proofs.Ytpnkkpkgoneikaa
namespace Go.Proofs.Ytpnkkpkgoneikaa
open Go.ChangeShapes Go.WideShapes Go.ChangeAt Go.RowKit

/-- What EraseBlock answers of a valid block. -/
def eraseIs (m : Int) (ps : List Pg) : Int × List Pg := if m = 100 then (m, ps) else (m + 1, [pz, pz, pz, pz])
theorem DOwn.base_le {w : World} {base base' : Nat} {v : Value} {bs : List Bk} (h : DOwn w base v bs) (hb : base' ≤ base) : DOwn w base' v bs := by
  refine ⟨⟨h.1.1, ?_⟩, fun b hm => (h.2.1 b hm).base_le hb, h.2.2⟩
  rcases h.1.2 with hn | ⟨g, cap, cur, e, hg, rest⟩
  · exact .inl hn
  · exact .inr ⟨g, cap, cur, e, Nat.le_trans hb hg, rest⟩
/-- A device in memory of its own is returned, and another result. -/
def DevMade2 (l : List (Int × List Pg)) (n : Nat) (r : Value) (w : World) (e : Ending) (w' : World) : Prop :=
  ∃ (A : Option Addr) (c : Nat) (cs : List Bk), e = .returned (.tuple #[.slice A n c, r]) ∧ cs.length = n ∧ cs.map Bk.is = l ∧ DOwn w' w.heap.size (.slice A n c) cs ∧ w.grownBy w' none
end Go.Proofs.Ytpnkkpkgoneikaa
