/- What the model's functions of chapter 6 answer, further: HeadOf, l6Set. -/
import Derived.Test.YtbhbbfpafonaiaaHeads1
namespace Go.Proofs.Ytbhbbfpafonaiaa
open Go.ChangeShapes Go.WideShapes Go.ChangeAt Go.RowKit

theorem cells3 {w : World} {g : Nat} {t : TypeId} {u0 u1 u2 : Value} (h : Blk w g t #[u0, u1, u2]) :
    w.cell? ⟨g, 0, none⟩ = some u0 ∧ w.cell? ⟨g, 1, none⟩ = some u1 ∧ w.cell? ⟨g, 2, none⟩ = some u2 := ⟨h.cell 0, h.cell 1, h.cell 2⟩
theorem frozen3 {w : World} {g : Nat} {t : TypeId} {u0 u1 u2 : Value} (h : Blk w g t #[u0, u1, u2]) :
    w.frozen? ⟨g, 0, none⟩ = false ∧ w.frozen? ⟨g, 1, none⟩ = false ∧ w.frozen? ⟨g, 2, none⟩ = false := ⟨h.frozen 0, h.frozen 1, h.frozen 2⟩
theorem grown_put3 {a w : World} {k : Nat} (h : a.grownBy w none) (hk : a.heap.size ≤ k) (u0 u1 u2 : Value) : a.grownBy (((w.setCell ⟨k, 0, none⟩ u0).setCell ⟨k, 1, none⟩ u1).setCell ⟨k, 2, none⟩ u2) none := grown_put (grown_put (grown_put h hk _) hk _) hk _
/-- The boxed heads, and the device that came in. -/
def FIn (w : World) (A : Option Addr) (bs : List Bk) (a b h : Int) (wr : World) : Prop :=
  Blk wr w.heap.size 43 #[.int .i64 a, .int .i64 b, .int .i64 h] ∧ DRow wr w.heap.size A bs ∧ w.grownBy wr none
section
variable {w wr w' : World} {A : Option Addr} {bs : List Bk} {a b h : Int}
theorem FIn.start (hr : DRow w w.heap.size A bs) : FIn w A bs a b h (w.alloc (.cells #[.int .i64 a, .int .i64 b, .int .i64 h] 43)) := ⟨Blk.new w _ _, hr.alloc _, grown_alloc (grown_refl _ _) _⟩
theorem FIn.keep (H : FIn w A bs a b h wr) (k : wr.grownBy w' none) : FIn w A bs a b h w' := ⟨H.1.keep k, H.2.1.kept k, grown_trans H.2.2 k⟩
end
theorem blk_at3 {w : World} {L : Nat} {t : TypeId} {a b h : Int} (H : Blk w L t #[.int .i64 a, .int .i64 b, .int .i64 h]) {k : Nat} (hk : k < 3) : w.cell? ⟨L, k, none⟩ = some (.int .i64 (hd a b h k)) := by
  match k, hk with
  | 0, _ => exact H.cell 0
  | 1, _ => exact H.cell 1
  | 2, _ => exact H.cell 2
theorem specHeadOf_ok (A : Option Addr) (n c : Nat) (bs : List Bk) (a b h : Int) (j : Nat) (w : World) (hj : j < 3) (hv : (headsB n a b h && devB bs) = true) (hl : bs.length = n) (hr : DRow w w.heap.size A bs) (hn : n ≤ 1048576) (hp : ∀ b, b ∈ bs → b.ps.length ≤ 1048576) :
    Calls Try.prog 53 #[.slice A n c, .agg #[.int .i64 a, .int .i64 b, .int .i64 h], .int .i64 j] w (KeptV (.int .i64 (hd a b h j)) w) := by
  have HD := Lib.hid (And.intro hv (And.intro hl hp))
  have HF := Lib.hid (FIn.start (a := a) (b := b) (h := h) hr)
  have HJ : RowKit.Hid (inB (j : Int) 0 2 = true) := Lib.hid (inB_iff.2 ⟨by omega, by omega⟩)
  clear hv hl hr hp
  go_enter Try.func53, Try.ntmps53
  go_wp2_with fail
  refine (specHeads_val HD.out.1 HD.out.2.1 HF.out.2.1.here hn HD.out.2.2).mono ?_
  rintro e w1 ⟨rfl, hk⟩
  replace HF := Lib.hid (HF.out.keep hk)
  clear hk
  obtain ⟨h0, h1, h2⟩ := cells3 HF.out.1
  have hc : (w1.alloc (.cells #[.int .i64 a, .int .i64 b, .int .i64 h] 3)).cell? ⟨w1.heap.size, j, none⟩ = some (.int .i64 (hd a b h j)) := by
    exact blk_at3 (Blk.new w1 3 #[.int .i64 a, .int .i64 b, .int .i64 h]) hj
  have j3 : (j : Int) < 3 := by omega
  go_wp2_with (go_at_call 23; refine (in_any _ _ _ _).mono ?_; rintro e w' ⟨rfl, rfl⟩; rw [HJ.out])
  go_ret
  exact ⟨rfl, grown_alloc HF.out.2.2 _⟩
/-- The heads with another block for a kind of heat. -/
def hset (a b h : Int) (j : Nat) (v : Int) : Int × Int × Int := match j with
  | 0 => (v, b, h)
  | 1 => (a, v, h)
  | _ => (a, b, v)
def SetMade (a b h : Int) (w : World) (e : Ending) (w' : World) : Prop := e = .returned (.agg #[.int .i64 a, .int .i64 b, .int .i64 h]) ∧ w.grownBy w' none
theorem specSet_any (a b h v a1 b1 h1 : Int) (j : Nat) (w : World) (hj : j < 3) (hs : hset a b h j v = (a1, b1, h1)) :
    Calls Try.prog 55 #[.agg #[.int .i64 a, .int .i64 b, .int .i64 h], .int .i64 j, .int .i64 v] w (SetMade a1 b1 h1 w) := by
  have hj3 : j = 0 ∨ j = 1 ∨ j = 2 := by omega
  rcases hj3 with rfl | rfl | rfl
  · simp only [hset, Prod.mk.injEq] at hs
    obtain ⟨rfl, rfl, rfl⟩ := hs
    go_enter Try.func55, Try.ntmps55
    go_wp2
    exact bodyPost_ret (v := .agg #[.int .i64 v, .int .i64 b, .int .i64 h]) (by simp [results, Try.results55, go_sem, *]) rfl ⟨rfl, grown_alloc (grown_alloc (grown_refl _ _) _) _⟩
  · simp only [hset, Prod.mk.injEq] at hs
    obtain ⟨rfl, rfl, rfl⟩ := hs
    go_enter Try.func55, Try.ntmps55
    go_wp2
    exact bodyPost_ret (v := .agg #[.int .i64 a, .int .i64 v, .int .i64 h]) (by simp [results, Try.results55, go_sem, *]) rfl ⟨rfl, grown_alloc (grown_alloc (grown_refl _ _) _) _⟩
  · simp only [hset, Prod.mk.injEq] at hs
    obtain ⟨rfl, rfl, rfl⟩ := hs
    go_enter Try.func55, Try.ntmps55
    go_wp2
    exact bodyPost_ret (v := .agg #[.int .i64 a, .int .i64 b, .int .i64 v]) (by simp [results, Try.results55, go_sem, *]) rfl ⟨rfl, grown_alloc (grown_alloc (grown_refl _ _) _) _⟩
end Go.Proofs.Ytbhbbfpafonaiaa
