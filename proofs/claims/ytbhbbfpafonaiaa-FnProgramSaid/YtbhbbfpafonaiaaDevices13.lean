/- What chapter 5 answers, further: Program of other arguments. -/
import Derived.Test.YtbhbbfpafonaiaaDevices12
namespace Go.Proofs.Ytbhbbfpafonaiaa
open Go.ChangeShapes Go.WideShapes Go.ChangeAt Go.RowKit

theorem program_no (A : Option Addr) (n c : Nat) (bs : List Bk) (a : Int) (f : Bool) (x1 x2 x3 x4 : Int) (w : World) (hl : bs.length = n) (hr : DRow w w.heap.size A bs) (hn : n ≤ 1048576) (hp : ∀ b, b ∈ bs → b.ps.length ≤ 1048576) (hd : devB bs = false) :
    Calls Try.prog 14 #[.slice A n c, .int .i64 a, .agg #[.bool f, .int .i64 x1, .int .i64 x2, .int .i64 x3, .int .i64 x4]] w (DevMade2 [] 0 (.int .i64 (-1)) w) := by
  have HD := Lib.hid (And.intro hl (And.intro hd (And.intro hp (And.intro (hr.alloc (.cells #[.bool f, .int .i64 x1, .int .i64 x2, .int .i64 x3, .int .i64 x4] 34)) trivial))))
  clear hl hd hp hr
  go_enter Try.func14, Try.ntmps14
  go_wp2_with fail
  refine (deviceValid_val HD.out.1 HD.out.2.1 _ HD.out.2.2.2.1.here hn HD.out.2.2.1).mono ?_
  rintro e w1 ⟨rfl, hk⟩
  have HG := Lib.hid (grown_trans (grown_alloc (grown_refl w none) (.cells #[.bool f, .int .i64 x1, .int .i64 x2, .int .i64 x3, .int .i64 x4] 34)) hk)
  clear hk
  go_wp2
  go_ret2
  exact devMade2_nil HG.out
theorem program_out (A : Option Addr) (n c : Nat) (bs : List Bk) (a : Int) (f : Bool) (x1 x2 x3 x4 : Int) (w : World) (hl : bs.length = n) (hr : DRow w w.heap.size A bs) (hn : n ≤ 1048576) (hp : ∀ b, b ∈ bs → b.ps.length ≤ 1048576) (hd : devB bs = true) (ha : hasB n a = false) :
    Calls Try.prog 14 #[.slice A n c, .int .i64 a, .agg #[.bool f, .int .i64 x1, .int .i64 x2, .int .i64 x3, .int .i64 x4]] w (DevMade2 [] 0 (.int .i64 (-1)) w) := by
  have HD := Lib.hid (And.intro hl (And.intro hd (And.intro hp (And.intro (hr.alloc (.cells #[.bool f, .int .i64 x1, .int .i64 x2, .int .i64 x3, .int .i64 x4] 34)) ha))))
  clear hl hd hp hr ha
  go_enter Try.func14, Try.ntmps14
  go_wp2_with fail
  refine (deviceValid_val HD.out.1 HD.out.2.1 _ HD.out.2.2.2.1.here hn HD.out.2.2.1).mono ?_
  rintro e w1 ⟨rfl, hk⟩
  have HG := Lib.hid (grown_trans (grown_alloc (grown_refl w none) (.cells #[.bool f, .int .i64 x1, .int .i64 x2, .int .i64 x3, .int .i64 x4] 34)) hk)
  clear hk
  go_wp2_with (go_at_call 28; refine (hasBlock_val HD.out.2.2.2.2 _ _ _).mono ?_; rintro e w' ⟨rfl, rfl⟩)
  go_ret2
  exact devMade2_nil HG.out
theorem program_page (A : Option Addr) (n c : Nat) (bs : List Bk) (a : Int) (f : Bool) (x1 x2 x3 x4 : Int) (w : World) (hl : bs.length = n) (hr : DRow w w.heap.size A bs) (hn : n ≤ 1048576) (hp : ∀ b, b ∈ bs → b.ps.length ≤ 1048576) (hd : devB bs = true) (ha : hasB n a = true) (hg : (f && pageB f x1 x2 x3 x4) = false) :
    Calls Try.prog 14 #[.slice A n c, .int .i64 a, .agg #[.bool f, .int .i64 x1, .int .i64 x2, .int .i64 x3, .int .i64 x4]] w (DevMade2 [] 0 (.int .i64 (-1)) w) := by
  have HPG := Lib.hid hg
  clear hg
  have HD := Lib.hid (And.intro hl (And.intro hd (And.intro hp (And.intro (hr.alloc (.cells #[.bool f, .int .i64 x1, .int .i64 x2, .int .i64 x3, .int .i64 x4] 34)) ha))))
  clear hl hd hp hr ha
  go_enter Try.func14, Try.ntmps14
  go_wp2_with fail
  refine (deviceValid_val HD.out.1 HD.out.2.1 _ HD.out.2.2.2.1.here hn HD.out.2.2.1).mono ?_
  rintro e w1 ⟨rfl, hk⟩
  have HB := Lib.hid ((Blk.new w 34 #[.bool f, .int .i64 x1, .int .i64 x2, .int .i64 x3, .int .i64 x4]).keep hk)
  have HG := Lib.hid (grown_trans (grown_alloc (grown_refl w none) (.cells #[.bool f, .int .i64 x1, .int .i64 x2, .int .i64 x3, .int .i64 x4] 34)) hk)
  clear hk
  obtain ⟨p0, p1, p2, p3, p4⟩ := cells5 HB.out
  go_wp2_with (first | (go_at_call 28; refine (hasBlock_val HD.out.2.2.2.2 _ _ _).mono ?_; rintro e w' ⟨rfl, rfl⟩) | fail)
  refine (isWritten_val HPG.out _).mono ?_
  rintro e w2 ⟨rfl, hk⟩
  replace HG := Lib.hid (grown_trans HG.out hk)
  clear hk p0 p1 p2 p3 p4
  go_wp2
  go_ret2
  exact devMade2_nil HG.out
theorem specProgram_no (A : Option Addr) (n c : Nat) (bs : List Bk) (a : Int) (f : Bool) (x1 x2 x3 x4 : Int) (w : World) (hl : bs.length = n) (hr : DRow w w.heap.size A bs) (hn : n ≤ 1048576) (hp : ∀ b, b ∈ bs → b.ps.length ≤ 1048576) (hd : devB bs = false) :
    Calls Try.prog 15 #[.slice A n c, .int .i64 a, .agg #[.bool f, .int .i64 x1, .int .i64 x2, .int .i64 x3, .int .i64 x4]] w (DevMade2 [] 0 (.int .i64 (-1)) w) := by
  have HD := Lib.hid (And.intro hl (And.intro hd (And.intro hp (And.intro (hr.alloc (.cells #[.bool f, .int .i64 x1, .int .i64 x2, .int .i64 x3, .int .i64 x4] 34)) trivial))))
  clear hl hd hp hr
  go_enter Try.func15, Try.ntmps15
  go_wp2_with fail
  refine (specDeviceValid_val HD.out.1 HD.out.2.1 _ HD.out.2.2.2.1.here hn HD.out.2.2.1).mono ?_
  rintro e w1 ⟨rfl, hk⟩
  have HG := Lib.hid (grown_trans (grown_alloc (grown_refl w none) (.cells #[.bool f, .int .i64 x1, .int .i64 x2, .int .i64 x3, .int .i64 x4] 34)) hk)
  clear hk
  go_wp2
  go_ret2
  exact devMade2_empty HG.out
theorem specProgram_out (A : Option Addr) (n c : Nat) (bs : List Bk) (a : Int) (f : Bool) (x1 x2 x3 x4 : Int) (w : World) (hl : bs.length = n) (hr : DRow w w.heap.size A bs) (hn : n ≤ 1048576) (hp : ∀ b, b ∈ bs → b.ps.length ≤ 1048576) (hd : devB bs = true) (ha : hasB n a = false) :
    Calls Try.prog 15 #[.slice A n c, .int .i64 a, .agg #[.bool f, .int .i64 x1, .int .i64 x2, .int .i64 x3, .int .i64 x4]] w (DevMade2 [] 0 (.int .i64 (-1)) w) := by
  have HD := Lib.hid (And.intro hl (And.intro hd (And.intro hp (And.intro (hr.alloc (.cells #[.bool f, .int .i64 x1, .int .i64 x2, .int .i64 x3, .int .i64 x4] 34)) (hasB_in ha)))))
  clear hl hd hp hr ha
  go_enter Try.func15, Try.ntmps15
  go_wp2_with fail
  refine (specDeviceValid_val HD.out.1 HD.out.2.1 _ HD.out.2.2.2.1.here hn HD.out.2.2.1).mono ?_
  rintro e w1 ⟨rfl, hk⟩
  have HG := Lib.hid (grown_trans (grown_alloc (grown_refl w none) (.cells #[.bool f, .int .i64 x1, .int .i64 x2, .int .i64 x3, .int .i64 x4] 34)) hk)
  clear hk
  go_wp2_with (go_at_call 23; refine (in_any _ _ _ _).mono ?_; rintro e w' ⟨rfl, rfl⟩; rw [HD.out.2.2.2.2])
  go_ret2
  exact devMade2_empty HG.out
theorem hasB_iff {n : Nat} {a : Int} (h : hasB n a = true) : 0 ≤ a ∧ a ≤ (n : Int) - 1 := by
  simp [hasB] at h
  omega
theorem specProgram_page (A : Option Addr) (n c : Nat) (bs : List Bk) (a : Int) (f : Bool) (x1 x2 x3 x4 : Int) (w : World) (hl : bs.length = n) (hr : DRow w w.heap.size A bs) (hn : n ≤ 1048576) (hp : ∀ b, b ∈ bs → b.ps.length ≤ 1048576) (hd : devB bs = true) (ha : hasB n a = true) (hg : (f && pageB f x1 x2 x3 x4) = false) :
    Calls Try.prog 15 #[.slice A n c, .int .i64 a, .agg #[.bool f, .int .i64 x1, .int .i64 x2, .int .i64 x3, .int .i64 x4]] w (DevMade2 [] 0 (.int .i64 (-1)) w) := by
  cases hv : pageB f x1 x2 x3 x4
  · have HPG := Lib.hid hv
    clear hg hv
    have HD := Lib.hid (And.intro hl (And.intro hd (And.intro hp (And.intro (hr.alloc (.cells #[.bool f, .int .i64 x1, .int .i64 x2, .int .i64 x3, .int .i64 x4] 34)) (inB_iff.2 (hasB_iff ha) : inB a 0 ((n : Int) - 1) = true)))))
    clear hl hd hp hr ha
    go_enter Try.func15, Try.ntmps15
    go_wp2_with fail
    refine (specDeviceValid_val HD.out.1 HD.out.2.1 _ HD.out.2.2.2.1.here hn HD.out.2.2.1).mono ?_
    rintro e w1 ⟨rfl, hk⟩
    have HB := Lib.hid ((Blk.new w 34 #[.bool f, .int .i64 x1, .int .i64 x2, .int .i64 x3, .int .i64 x4]).keep hk)
    have HG := Lib.hid (grown_trans (grown_alloc (grown_refl w none) (.cells #[.bool f, .int .i64 x1, .int .i64 x2, .int .i64 x3, .int .i64 x4] 34)) hk)
    clear hk
    obtain ⟨p0, p1, p2, p3, p4⟩ := cells5 HB.out
    go_wp2_with (first | (go_at_call 23; refine (in_any _ _ _ _).mono ?_; rintro e w' ⟨rfl, rfl⟩; rw [HD.out.2.2.2.2]) | fail)
    refine (specValid_val HPG.out _).mono ?_
    rintro e w2 ⟨rfl, hk⟩
    replace HG := Lib.hid (grown_trans HG.out hk)
    replace HB := Lib.hid (HB.out.keep hk)
    clear hk p0 p1 p2 p3 p4
    obtain ⟨p0, p1, p2, p3, p4⟩ := cells5 HB.out
    go_wp2
    go_ret2
    exact devMade2_empty HG.out
  · have hf : f = false := by cases f <;> simp_all
    subst hf
    have HPG := Lib.hid hv
    clear hg hv
    have HD := Lib.hid (And.intro hl (And.intro hd (And.intro hp (And.intro (hr.alloc (.cells #[.bool false, .int .i64 x1, .int .i64 x2, .int .i64 x3, .int .i64 x4] 34)) (inB_iff.2 (hasB_iff ha) : inB a 0 ((n : Int) - 1) = true)))))
    clear hl hd hp hr ha
    go_enter Try.func15, Try.ntmps15
    go_wp2_with fail
    refine (specDeviceValid_val HD.out.1 HD.out.2.1 _ HD.out.2.2.2.1.here hn HD.out.2.2.1).mono ?_
    rintro e w1 ⟨rfl, hk⟩
    have HB := Lib.hid ((Blk.new w 34 #[.bool false, .int .i64 x1, .int .i64 x2, .int .i64 x3, .int .i64 x4]).keep hk)
    have HG := Lib.hid (grown_trans (grown_alloc (grown_refl w none) (.cells #[.bool false, .int .i64 x1, .int .i64 x2, .int .i64 x3, .int .i64 x4] 34)) hk)
    clear hk
    obtain ⟨p0, p1, p2, p3, p4⟩ := cells5 HB.out
    go_wp2_with (first | (go_at_call 23; refine (in_any _ _ _ _).mono ?_; rintro e w' ⟨rfl, rfl⟩; rw [HD.out.2.2.2.2]) | fail)
    refine (specValid_val HPG.out _).mono ?_
    rintro e w2 ⟨rfl, hk⟩
    replace HG := Lib.hid (grown_trans HG.out hk)
    replace HB := Lib.hid (HB.out.keep hk)
    clear hk p0 p1 p2 p3 p4
    obtain ⟨p0, p1, p2, p3, p4⟩ := cells5 HB.out
    go_wp2
    go_ret2
    exact devMade2_empty HG.out
end Go.Proofs.Ytbhbbfpafonaiaa
