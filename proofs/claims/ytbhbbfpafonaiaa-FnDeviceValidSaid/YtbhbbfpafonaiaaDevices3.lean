/- What the model's functions of chapter 5 answer, further: ReadPage (under way). -/
import Derived.Test.YtbhbbfpafonaiaaDevices2
import Derived.Test.YtbhbbfpafonaiaaHand
namespace Go.Proofs.Ytbhbbfpafonaiaa
open Go.ChangeShapes Go.WideShapes Go.ChangeAt Go.RowKit

theorem specDeviceValid_val {A : Option Addr} {n c : Nat} {bs : List Bk} {V : Bool} (hl : bs.length = n) (h : devB bs = V) (w : World) (hr : DRow w w.heap.size A bs) (hn : n ≤ 1048576) (hp : ∀ b, b ∈ bs → b.ps.length ≤ 1048576) :
    Calls Try.prog 8 #[.slice A n c] w (KeptV (.bool V) w) := h ▸ specDeviceValid_any A n c bs w hl hr hn hp
/-- The page with number a of a device. -/
def pageAt (bs : List Bk) (a : Nat) : Option Pg := (bs[a / 4]?).bind fun b => b.ps[a % 4]?
theorem dev_parts {bs : List Bk} (h : devB bs = true) : (1 ≤ bs.length ∧ bs.length ≤ 12) ∧ ∀ b, b ∈ bs → blockB b.m b.ps = true := by
  simp only [devB, Bool.and_eq_true, List.all_eq_true] at h
  have h1 := inB_iff.1 h.1
  exact ⟨⟨by omega, by omega⟩, h.2⟩
/-- What ReadPage answers where there is such a page. -/
def PageRead (p : Pg) (w : World) (e : Ending) (w' : World) : Prop := e = .returned (.tuple #[.agg #[.bool p.f, .int .i64 p.a, .int .i64 p.b, .int .i64 p.c, .int .i64 p.d], .bool p.f]) ∧ w.grownBy w' none
theorem specReadPage_no (A : Option Addr) (n c : Nat) (bs : List Bk) (at' : Int) (w : World) (hl : bs.length = n) (hr : DRow w w.heap.size A bs) (hn : n ≤ 1048576) (hp : ∀ b, b ∈ bs → b.ps.length ≤ 1048576) (hd : devB bs = false) :
    Calls Try.prog 12 #[.slice A n c, .int .i64 at'] w (PageRead pz w) := by
  have HD := Lib.hid (And.intro hl (And.intro hd (And.intro hp (hr.alloc (.cells #[.bool false, .int .i64 0, .int .i64 0, .int .i64 0, .int .i64 0] 34)))))
  clear hl hd hp hr
  go_enter Try.func12, Try.ntmps12
  go_wp2_with fail
  refine (specDeviceValid_val HD.out.1 HD.out.2.1 _ HD.out.2.2.2.here hn HD.out.2.2.1).mono ?_
  rintro e w1 ⟨rfl, hk⟩
  have hb := (Blk.new w 34 #[.bool false, .int .i64 0, .int .i64 0, .int .i64 0, .int .i64 0]).keep hk
  have HG := Lib.hid (grown_trans (grown_alloc (grown_refl w none) _) hk)
  obtain ⟨r0, r1, r2, r3, r4⟩ := cells5 hb
  have q0 := hb.frozen 0
  have q1 := hb.frozen 1
  have q2 := hb.frozen 2
  have q3 := hb.frozen 3
  have q4 := hb.frozen 4
  clear hb hk
  go_wp2
  exact bodyPost_ret (v := .tuple #[.agg #[.bool false, .int .i64 0, .int .i64 0, .int .i64 0, .int .i64 0], .bool false]) (by simp [results, Try.results12, go_sem, *]) rfl ⟨rfl, grown_put5n HG.out (Nat.le_refl _) _ _ _ _ _⟩
theorem specReadPage_out (A : Option Addr) (n c : Nat) (bs : List Bk) (at' : Int) (w : World) (hl : bs.length = n) (hr : DRow w w.heap.size A bs) (hn : n ≤ 1048576) (hp : ∀ b, b ∈ bs → b.ps.length ≤ 1048576) (hd : devB bs = true) (ha : inB at' 0 (4 * n - 1) = false) :
    Calls Try.prog 12 #[.slice A n c, .int .i64 at'] w (PageRead pz w) := by
  have HD := Lib.hid (And.intro hl (And.intro hd (And.intro hp (And.intro (hr.alloc (.cells #[.bool false, .int .i64 0, .int .i64 0, .int .i64 0, .int .i64 0] 34)) ha))))
  clear hl hd hp hr ha
  go_enter Try.func12, Try.ntmps12
  go_wp2_with fail
  refine (specDeviceValid_val HD.out.1 HD.out.2.1 _ HD.out.2.2.2.1.here hn HD.out.2.2.1).mono ?_
  rintro e w1 ⟨rfl, hk⟩
  have hb := (Blk.new w 34 #[.bool false, .int .i64 0, .int .i64 0, .int .i64 0, .int .i64 0]).keep hk
  have HG := Lib.hid (grown_trans (grown_alloc (grown_refl w none) _) hk)
  obtain ⟨r0, r1, r2, r3, r4⟩ := cells5 hb
  have q0 := hb.frozen 0
  have q1 := hb.frozen 1
  have q2 := hb.frozen 2
  have q3 := hb.frozen 3
  have q4 := hb.frozen 4
  clear hb hk
  go_wp2_with (go_at_call 23; refine (in_any _ _ _ _).mono ?_; rintro e w' ⟨rfl, rfl⟩; rw [HD.out.2.2.2.2])
  exact bodyPost_ret (v := .tuple #[.agg #[.bool false, .int .i64 0, .int .i64 0, .int .i64 0, .int .i64 0], .bool false]) (by simp [results, Try.results12, go_sem, *]) rfl ⟨rfl, grown_put5n HG.out (Nat.le_refl _) _ _ _ _ _⟩
end Go.Proofs.Ytbhbbfpafonaiaa
