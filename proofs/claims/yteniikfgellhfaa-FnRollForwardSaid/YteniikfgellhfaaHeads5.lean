/- What the model's functions of chapter 6 answer of other arguments: HeadOf, FreshBlock, AppendPage. -/
import Derived.Test.YteniikfgellhfaaHeads4
namespace Go.Proofs.Yteniikfgellhfaa
open Go.ChangeShapes Go.WideShapes Go.ChangeAt Go.RowKit

theorem specHeadOf_no (A : Option Addr) (n c : Nat) (bs : List Bk) (a b h j : Int) (w : World) (hv : (headsB n a b h && devB bs) = false) (hl : bs.length = n) (hr : DRow w w.heap.size A bs) (hn : n ≤ 1048576) (hp : ∀ b, b ∈ bs → b.ps.length ≤ 1048576) :
    Calls Try.prog 113 #[.slice A n c, .agg #[.int .i64 a, .int .i64 b, .int .i64 h], .int .i64 j] w (KeptV (.int .i64 (-1)) w) := by
  have HD := Lib.hid (And.intro hv (And.intro hl hp))
  have HF := Lib.hid (FIn.start (a := a) (b := b) (h := h) hr)
  clear hv hl hr hp
  go_enter Try.func113, Try.ntmps113
  go_wp2_with fail
  refine (specHeads_val HD.out.1 HD.out.2.1 HF.out.2.1.here hn HD.out.2.2).mono ?_
  rintro e w1 ⟨rfl, hk⟩
  replace HF := Lib.hid (HF.out.keep hk)
  clear hk
  go_wp2
  go_ret
  exact ⟨rfl, HF.out.2.2⟩
theorem specHeadOf_heat (A : Option Addr) (n c : Nat) (bs : List Bk) (a b h j : Int) (w : World) (hv : (headsB n a b h && devB bs) = true) (hj : inB j 0 2 = false) (hl : bs.length = n) (hr : DRow w w.heap.size A bs) (hn : n ≤ 1048576) (hp : ∀ b, b ∈ bs → b.ps.length ≤ 1048576) :
    Calls Try.prog 113 #[.slice A n c, .agg #[.int .i64 a, .int .i64 b, .int .i64 h], .int .i64 j] w (KeptV (.int .i64 (-1)) w) := by
  have HD := Lib.hid (And.intro hv (And.intro hl (And.intro hp hj)))
  have HF := Lib.hid (FIn.start (a := a) (b := b) (h := h) hr)
  clear hv hl hr hp hj
  go_enter Try.func113, Try.ntmps113
  go_wp2_with fail
  refine (specHeads_val HD.out.1 HD.out.2.1 HF.out.2.1.here hn HD.out.2.2.1).mono ?_
  rintro e w1 ⟨rfl, hk⟩
  replace HF := Lib.hid (HF.out.keep hk)
  clear hk
  go_wp2_with (go_at_call 95; refine (in_any _ _ _ _).mono ?_; rintro e w' ⟨rfl, rfl⟩; rw [HD.out.2.2.2])
  go_ret
  exact ⟨rfl, HF.out.2.2⟩
theorem specFresh_no (A : Option Addr) (n c : Nat) (bs : List Bk) (a b h : Int) (w : World) (hv : (headsB n a b h && devB bs) = false) (hl : bs.length = n) (hr : DRow w w.heap.size A bs) (hn : n ≤ 1048576) (hp : ∀ b, b ∈ bs → b.ps.length ≤ 1048576) :
    Calls Try.prog 115 #[.slice A n c, .agg #[.int .i64 a, .int .i64 b, .int .i64 h]] w (KeptV (.int .i64 (-1)) w) := by
  have HD := Lib.hid (And.intro hv (And.intro hl hp))
  have HF := Lib.hid (FIn.start (a := a) (b := b) (h := h) hr)
  clear hv hl hr hp
  go_enter Try.func115, Try.ntmps115
  go_wp2
  go_loopw [5, 6] (fun v i wr => v = .int .i64 (-1) ∧ i = .int .i64 0 ∧ FIn w A bs a b h wr) (fun _ _ _ => 0)
  case atStart => exact ⟨rfl, rfl, HF.out⟩
  case round =>
    obtain ⟨rfl, rfl, hF⟩ := hrel
    clear HF
    have HF := Lib.hid hF
    clear hF
    obtain ⟨h0, h1, h2⟩ := cells3 HF.out.1
    by_cases hpos : 0 < n
    · have hi : (0 : Int) < n := by omega
      go_wp2_with fail
      refine (specHeads_val HD.out.1 HD.out.2.1 HF.out.2.1.here hn HD.out.2.2).mono ?_
      rintro e w1 ⟨rfl, hk⟩
      replace HF := Lib.hid (HF.out.keep hk)
      clear hk h0 h1 h2
      go_wp2
      go_ret
      exact ⟨rfl, HF.out.2.2⟩
    · obtain rfl : n = 0 := by omega
      go_wp2
      go_ret
      exact ⟨rfl, HF.out.2.2⟩
/-- The frame of AppendPage for any page. -/
def BIn (w : World) (A : Option Addr) (bs : List Bk) (a b h : Int) (f : Bool) (x1 x2 x3 x4 : Int) (wr : World) : Prop :=
  Blk wr w.heap.size 77 #[.int .i64 a, .int .i64 b, .int .i64 h] ∧ Blk wr (w.heap.size + 1) 30 #[.bool f, .int .i64 x1, .int .i64 x2, .int .i64 x3, .int .i64 x4] ∧ Blk wr (w.heap.size + 1 + 1) 77 #[.int .i64 0, .int .i64 0, .int .i64 0] ∧ DRow wr w.heap.size A bs ∧ w.grownBy wr none
section
variable {w wr w' : World} {A : Option Addr} {bs : List Bk} {a b h x1 x2 x3 x4 : Int} {f : Bool}
theorem BIn.start (hr : DRow w w.heap.size A bs) : BIn w A bs a b h f x1 x2 x3 x4 (((w.alloc (.cells #[.int .i64 a, .int .i64 b, .int .i64 h] 77)).alloc (.cells #[.bool f, .int .i64 x1, .int .i64 x2, .int .i64 x3, .int .i64 x4] 30)).alloc (.cells #[.int .i64 0, .int .i64 0, .int .i64 0] 77)) := by
  refine ⟨((Blk.new w _ _).alloc _).alloc _, ?_, ?_, ((hr.alloc _).alloc _).alloc _, grown_alloc (grown_alloc (grown_alloc (grown_refl _ _) _) _) _⟩
  · have H := (Blk.new (w.alloc (.cells #[.int .i64 a, .int .i64 b, .int .i64 h] 77)) 30 #[.bool f, .int .i64 x1, .int .i64 x2, .int .i64 x3, .int .i64 x4]).alloc (.cells #[.int .i64 0, .int .i64 0, .int .i64 0] 77)
    simpa only [size_alloc1] using H
  · have H := Blk.new ((w.alloc (.cells #[.int .i64 a, .int .i64 b, .int .i64 h] 77)).alloc (.cells #[.bool f, .int .i64 x1, .int .i64 x2, .int .i64 x3, .int .i64 x4] 30)) 77 #[.int .i64 0, .int .i64 0, .int .i64 0]
    simpa only [size_alloc1] using H
theorem BIn.keep (H : BIn w A bs a b h f x1 x2 x3 x4 wr) (k : wr.grownBy w' none) : BIn w A bs a b h f x1 x2 x3 x4 w' := ⟨H.1.keep k, H.2.1.keep k, H.2.2.1.keep k, H.2.2.2.1.kept k, grown_trans H.2.2.2.2 k⟩
end
/-- What of other arguments is returned: no device, no heads, -1. -/
theorem appMade_empty {w wr : World} (h : w.grownBy wr none) {D : Nat} (hw : w.heap.size ≤ D) (u0 u1 u2 : Value) :
    AppMade [] 0 0 0 0 (-1) w (.returned (.tuple #[.slice (some ⟨wr.heap.size, 0, none⟩) 0 0, .agg #[.int .i64 0, .int .i64 0, .int .i64 0], .int .i64 (-1)])) ((((wr.setCell ⟨D, 0, none⟩ u0).setCell ⟨D, 1, none⟩ u1).setCell ⟨D, 2, none⟩ u2).alloc (.cells #[] 87)) := by
  have hg := grown_put3 h hw u0 u1 u2
  have e : (((wr.setCell ⟨D, 0, none⟩ u0).setCell ⟨D, 1, none⟩ u1).setCell ⟨D, 2, none⟩ u2).heap.size = wr.heap.size := by simp [World.setCell]
  have hd := dev_empty (((wr.setCell ⟨D, 0, none⟩ u0).setCell ⟨D, 1, none⟩ u1).setCell ⟨D, 2, none⟩ u2)
  rw [e] at hd
  exact ⟨_, _, [], rfl, rfl, rfl, hd.base_le h.size, grown_alloc hg _⟩
set_option maxHeartbeats 1000000 in
theorem specAppend_no (A : Option Addr) (n c : Nat) (bs : List Bk) (a b h j : Int) (f : Bool) (x1 x2 x3 x4 : Int) (w : World) (hv : (headsB n a b h && devB bs) = false) (hl : bs.length = n) (hr : DRow w w.heap.size A bs) (hn : n ≤ 1048576) (hp : ∀ b, b ∈ bs → b.ps.length ≤ 1048576) :
    Calls Try.prog 89 #[.slice A n c, .agg #[.int .i64 a, .int .i64 b, .int .i64 h], .int .i64 j, .agg #[.bool f, .int .i64 x1, .int .i64 x2, .int .i64 x3, .int .i64 x4]] w (AppMade [] 0 0 0 0 (-1) w) := by
  have HD := Lib.hid (And.intro hv (And.intro hl (And.intro hp trivial)))
  have HF := Lib.hid (BIn.start (a := a) (b := b) (h := h) (f := f) (x1 := x1) (x2 := x2) (x3 := x3) (x4 := x4) hr)
  clear hv hl hr hp
  go_enter Try.func89, Try.ntmps89
  obtain ⟨h0, h1, h2⟩ := cells3 HF.out.1
  go_wp2_with fail
  refine (specHeads_val HD.out.1 HD.out.2.1 HF.out.2.2.2.1.here hn HD.out.2.2.1).mono ?_
  rintro e w1 ⟨rfl, hk⟩
  replace HF := Lib.hid (HF.out.keep hk)
  clear hk h0 h1 h2
  have dl := HF.out.2.2.1.lt
  obtain ⟨d0, d1, d2⟩ := cells3 HF.out.2.2.1
  obtain ⟨f0, f1, f2⟩ := frozen3 HF.out.2.2.1
  go_wp2
  exact bodyPost_ret (v := .tuple #[.slice (some ⟨w1.heap.size, 0, none⟩) 0 0, .agg #[.int .i64 0, .int .i64 0, .int .i64 0], .int .i64 (-1)]) (by simp [results, Try.results89, go_sem, *]) rfl (appMade_empty HF.out.2.2.2.2 (le2 _) _ _ _)
set_option maxHeartbeats 1000000 in
theorem specAppend_heat (A : Option Addr) (n c : Nat) (bs : List Bk) (a b h j : Int) (f : Bool) (x1 x2 x3 x4 : Int) (w : World) (hv : (headsB n a b h && devB bs) = true) (hj : inB j 0 2 = false) (hl : bs.length = n) (hr : DRow w w.heap.size A bs) (hn : n ≤ 1048576) (hp : ∀ b, b ∈ bs → b.ps.length ≤ 1048576) :
    Calls Try.prog 89 #[.slice A n c, .agg #[.int .i64 a, .int .i64 b, .int .i64 h], .int .i64 j, .agg #[.bool f, .int .i64 x1, .int .i64 x2, .int .i64 x3, .int .i64 x4]] w (AppMade [] 0 0 0 0 (-1) w) := by
  have HD := Lib.hid (And.intro hv (And.intro hl (And.intro hp hj)))
  have HF := Lib.hid (BIn.start (a := a) (b := b) (h := h) (f := f) (x1 := x1) (x2 := x2) (x3 := x3) (x4 := x4) hr)
  clear hv hl hr hp hj
  go_enter Try.func89, Try.ntmps89
  obtain ⟨h0, h1, h2⟩ := cells3 HF.out.1
  go_wp2_with fail
  refine (specHeads_val HD.out.1 HD.out.2.1 HF.out.2.2.2.1.here hn HD.out.2.2.1).mono ?_
  rintro e w1 ⟨rfl, hk⟩
  replace HF := Lib.hid (HF.out.keep hk)
  clear hk h0 h1 h2
  have dl := HF.out.2.2.1.lt
  obtain ⟨d0, d1, d2⟩ := cells3 HF.out.2.2.1
  obtain ⟨f0, f1, f2⟩ := frozen3 HF.out.2.2.1
  go_wp2_with (go_at_call 95; refine (in_any _ _ _ _).mono ?_; rintro e w' ⟨rfl, rfl⟩; rw [HD.out.2.2.2])
  exact bodyPost_ret (v := .tuple #[.slice (some ⟨w1.heap.size, 0, none⟩) 0 0, .agg #[.int .i64 0, .int .i64 0, .int .i64 0], .int .i64 (-1)]) (by simp [results, Try.results89, go_sem, *]) rfl (appMade_empty HF.out.2.2.2.2 (le2 _) _ _ _)
set_option maxHeartbeats 1000000 in
theorem specAppend_page (A : Option Addr) (n c : Nat) (bs : List Bk) (a b h j : Int) (f : Bool) (x1 x2 x3 x4 : Int) (w : World) (hv : (headsB n a b h && devB bs) = true) (hj : inB j 0 2 = true) (hg : (f && pageB f x1 x2 x3 x4) = false) (hl : bs.length = n) (hr : DRow w w.heap.size A bs) (hn : n ≤ 1048576) (hp : ∀ b, b ∈ bs → b.ps.length ≤ 1048576) :
    Calls Try.prog 89 #[.slice A n c, .agg #[.int .i64 a, .int .i64 b, .int .i64 h], .int .i64 j, .agg #[.bool f, .int .i64 x1, .int .i64 x2, .int .i64 x3, .int .i64 x4]] w (AppMade [] 0 0 0 0 (-1) w) := by
  cases hv2 : pageB f x1 x2 x3 x4
  · have HG := Lib.hid hv2
    clear hg hv2
    have HD := Lib.hid (And.intro hv (And.intro hl (And.intro hp hj)))
    have HF := Lib.hid (BIn.start (a := a) (b := b) (h := h) (f := f) (x1 := x1) (x2 := x2) (x3 := x3) (x4 := x4) hr)
    clear hv hl hr hp hj
    go_enter Try.func89, Try.ntmps89
    obtain ⟨h0, h1, h2⟩ := cells3 HF.out.1
    go_wp2_with fail
    refine (specHeads_val HD.out.1 HD.out.2.1 HF.out.2.2.2.1.here hn HD.out.2.2.1).mono ?_
    rintro e w1 ⟨rfl, hk⟩
    replace HF := Lib.hid (HF.out.keep hk)
    clear hk h0 h1 h2
    obtain ⟨p0, p1, p2, p3, p4⟩ := cells5 HF.out.2.1
    go_wp2_with (first | (go_at_call 95; refine (in_any _ _ _ _).mono ?_; rintro e w' ⟨rfl, rfl⟩; rw [HD.out.2.2.2]) | fail)
    refine (specValid_val HG.out _).mono ?_
    rintro e w2 ⟨rfl, hk⟩
    replace HF := Lib.hid (HF.out.keep hk)
    clear hk p0 p1 p2 p3 p4
    obtain ⟨p0, p1, p2, p3, p4⟩ := cells5 HF.out.2.1
    have dl := HF.out.2.2.1.lt
    obtain ⟨d0, d1, d2⟩ := cells3 HF.out.2.2.1
    obtain ⟨f0, f1, f2⟩ := frozen3 HF.out.2.2.1
    go_wp2
    exact bodyPost_ret (v := .tuple #[.slice (some ⟨w2.heap.size, 0, none⟩) 0 0, .agg #[.int .i64 0, .int .i64 0, .int .i64 0], .int .i64 (-1)]) (by simp [results, Try.results89, go_sem, *]) rfl (appMade_empty HF.out.2.2.2.2 (le2 _) _ _ _)
  · have hf : f = false := by cases f <;> simp_all
    subst hf
    have HG := Lib.hid hv2
    clear hg hv2
    have HD := Lib.hid (And.intro hv (And.intro hl (And.intro hp hj)))
    have HF := Lib.hid (BIn.start (a := a) (b := b) (h := h) (f := false) (x1 := x1) (x2 := x2) (x3 := x3) (x4 := x4) hr)
    clear hv hl hr hp hj
    go_enter Try.func89, Try.ntmps89
    obtain ⟨h0, h1, h2⟩ := cells3 HF.out.1
    go_wp2_with fail
    refine (specHeads_val HD.out.1 HD.out.2.1 HF.out.2.2.2.1.here hn HD.out.2.2.1).mono ?_
    rintro e w1 ⟨rfl, hk⟩
    replace HF := Lib.hid (HF.out.keep hk)
    clear hk h0 h1 h2
    obtain ⟨p0, p1, p2, p3, p4⟩ := cells5 HF.out.2.1
    go_wp2_with (first | (go_at_call 95; refine (in_any _ _ _ _).mono ?_; rintro e w' ⟨rfl, rfl⟩; rw [HD.out.2.2.2]) | fail)
    refine (specValid_val HG.out _).mono ?_
    rintro e w2 ⟨rfl, hk⟩
    replace HF := Lib.hid (HF.out.keep hk)
    clear hk p0 p1 p2 p3 p4
    obtain ⟨p0, p1, p2, p3, p4⟩ := cells5 HF.out.2.1
    have dl := HF.out.2.2.1.lt
    obtain ⟨d0, d1, d2⟩ := cells3 HF.out.2.2.1
    obtain ⟨f0, f1, f2⟩ := frozen3 HF.out.2.2.1
    go_wp2
    exact bodyPost_ret (v := .tuple #[.slice (some ⟨w2.heap.size, 0, none⟩) 0 0, .agg #[.int .i64 0, .int .i64 0, .int .i64 0], .int .i64 (-1)]) (by simp [results, Try.results89, go_sem, *]) rfl (appMade_empty HF.out.2.2.2.2 (le2 _) _ _ _)
end Go.Proofs.Yteniikfgellhfaa
