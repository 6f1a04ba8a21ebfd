/- What the program's functions of chapter 6 answer: HeadsValid, HeadOf, and what they call.
   What the program's functions of chapter 6 answer, further: FreshBlock and the block with the least wear.
   What the program's functions of chapter 6 answer, further: blockToAppend, AppendPage. -/
import Derived.Test.YtolpnloghogjjaaGreatZHeads6
import Derived.Test.YtolpnloghogjjaaGreatZWearPlain
namespace Go.Proofs.YtolpnloghogjjaaGreat
open Go.ChangeShapes Go.WideShapes Go.ChangeAt Go.RowKit

/-- A number of a block, or none. -/
def isHeadB (n : Nat) (a : Int) : Bool := (a == -1) || hasB n a
theorem isHead_any (A : Option Addr) (n c : Nat) (a : Int) (w : World) :
    Calls Tryz.prog 55 #[.slice A n c, .int .i64 a] w fun e w' => e = .returned (.bool (isHeadB n a)) ∧ w = w' := by
  cases h1 : (a == -1)
  · cases h2 : hasB n a
    all_goals
      have HV := Lib.hid (And.intro (show isHeadB n a = _ from by unfold isHeadB; rw [h1, h2]) h2)
      clear h2
      go_enter Tryz.func55, Tryz.ntmps55
      go_wp2_with (go_at_call 31; refine (hasBlock_val HV.out.2 _ _ _).mono ?_; rintro e w' ⟨rfl, rfl⟩)
      go_ret
      exact ⟨retB (by rw [HV.out.1]; rfl), rfl⟩
  · have HV := Lib.hid (show isHeadB n a = true from by unfold isHeadB; rw [h1]; rfl)
    go_enter Tryz.func55, Tryz.ntmps55
    go_wp2
    go_ret
    exact ⟨retB (by rw [HV.out]), rfl⟩
theorem isHead_val {n : Nat} {a : Int} {V : Bool} (h : isHeadB n a = V) (A : Option Addr) (c : Nat) (w : World) :
    Calls Tryz.prog 55 #[.slice A n c, .int .i64 a] w fun e w' => e = .returned (.bool V) ∧ w = w' := h ▸ isHead_any A n c a w
/-- Not the same block. -/
def apartB (a b : Int) : Bool := (a != b) || (a == -1)
theorem areApart_any (a b : Int) (w : World) :
    Calls Tryz.prog 99 #[.int .i64 a, .int .i64 b] w fun e w' => e = .returned (.bool (apartB a b)) ∧ w = w' := by
  cases h1 : (a != b)
  · cases h2 : (a == -1)
    all_goals
      have HV := Lib.hid (show apartB a b = _ from by unfold apartB; rw [h1, h2])
      go_enter Tryz.func99, Tryz.ntmps99
      go_wp2
      go_ret
      exact ⟨retB (by rw [HV.out]; rfl), rfl⟩
  · have HV := Lib.hid (show apartB a b = true from by unfold apartB; rw [h1]; rfl)
    go_enter Tryz.func99, Tryz.ntmps99
    go_wp2
    go_ret
    exact ⟨retB (by rw [HV.out]), rfl⟩
theorem areApart_val {a b : Int} {V : Bool} (h : apartB a b = V) (w : World) :
    Calls Tryz.prog 99 #[.int .i64 a, .int .i64 b] w fun e w' => e = .returned (.bool V) ∧ w = w' := h ▸ areApart_any a b w
def apart3 (a b h : Int) : Bool := apartB a b && apartB a h && apartB b h
theorem headsApart_any (a b h : Int) (w : World) :
    Calls Tryz.prog 56 #[.agg #[.int .i64 a, .int .i64 b, .int .i64 h]] w (KeptV (.bool (apart3 a b h)) w) := by
  cases h1 : apartB a b
  · have HV := Lib.hid (And.intro (show apart3 a b h = false from by unfold apart3; rw [h1]; rfl) h1)
    clear h1
    go_enter Tryz.func56, Tryz.ntmps56
    go_wp2_with (go_at_call 99; refine (areApart_val HV.out.2 _).mono ?_; rintro e w' ⟨rfl, rfl⟩)
    go_ret
    exact ⟨retB (by rw [HV.out.1]), grown_alloc (grown_refl _ _) _⟩
  · cases h2 : apartB a h
    · have HV := Lib.hid (And.intro (show apart3 a b h = false from by unfold apart3; rw [h1, h2]; rfl) (And.intro h1 h2))
      clear h1 h2
      go_enter Tryz.func56, Tryz.ntmps56
      go_wp2_with (go_at_call 99; first | (with_reducible refine (areApart_val HV.out.2.1 _).mono ?_; rintro e w' ⟨rfl, rfl⟩) | (with_reducible refine (areApart_val HV.out.2.2 _).mono ?_; rintro e w' ⟨rfl, rfl⟩))
      go_ret
      exact ⟨retB (by rw [HV.out.1]), grown_alloc (grown_refl _ _) _⟩
    · cases h3 : apartB b h
      all_goals
        have HV := Lib.hid (And.intro (show apart3 a b h = _ from by unfold apart3; rw [h1, h2, h3]) (And.intro h1 (And.intro h2 h3)))
        clear h1 h2 h3
        go_enter Tryz.func56, Tryz.ntmps56
        go_wp2_with (go_at_call 99; first | (with_reducible refine (areApart_val HV.out.2.1 _).mono ?_; rintro e w' ⟨rfl, rfl⟩) | (with_reducible refine (areApart_val HV.out.2.2.1 _).mono ?_; rintro e w' ⟨rfl, rfl⟩) | (with_reducible refine (areApart_val HV.out.2.2.2 _).mono ?_; rintro e w' ⟨rfl, rfl⟩))
        go_ret
        exact ⟨retB (by rw [HV.out.1]; rfl), grown_alloc (grown_refl _ _) _⟩
theorem headsApart_val {a b h : Int} {V : Bool} (hv : apart3 a b h = V) (w : World) :
    Calls Tryz.prog 56 #[.agg #[.int .i64 a, .int .i64 b, .int .i64 h]] w (KeptV (.bool V) w) := hv ▸ headsApart_any a b h w
theorem heads_eq (n : Nat) (a b h : Int) : headsB n a b h = (isHeadB n a && isHeadB n b && isHeadB n h && apart3 a b h) := by
  rw [Bool.eq_iff_iff]
  simp [headsB, inB, pairB, isHeadB, hasB, apart3, apartB]
  omega
theorem isKind_any (j : Int) (w : World) :
    Calls Tryz.prog 128 #[.int .i64 j] w fun e w' => e = .returned (.bool (inB j 0 2)) ∧ w = w' := by
  go_enter Tryz.func128, Tryz.ntmps128
  go_wp2
  all_goals (go_ret; refine ⟨retB ?_, rfl⟩; rw [Bool.eq_iff_iff]; simp [inB]; omega)
theorem isKind_val {j : Int} {V : Bool} (h : inB j 0 2 = V) (w : World) :
    Calls Tryz.prog 128 #[.int .i64 j] w fun e w' => e = .returned (.bool V) ∧ w = w' := h ▸ isKind_any j w
theorem headOfKind_any (a b h : Int) (k : Nat) (hk : k < 3) (w : World) :
    Calls Tryz.prog 138 #[.agg #[.int .i64 a, .int .i64 b, .int .i64 h], .int .i64 k] w (KeptV (.int .i64 (hd a b h k)) w) := by
  have hk3 : k = 0 ∨ k = 1 ∨ k = 2 := by omega
  rcases hk3 with rfl | rfl | rfl
  all_goals
    go_enter Tryz.func138, Tryz.ntmps138
    go_wp2
    go_ret
    exact ⟨rfl, grown_alloc (grown_refl _ _) _⟩
theorem isOne_any (a b h j : Int) (w : World) :
    Calls Tryz.prog 74 #[.agg #[.int .i64 a, .int .i64 b, .int .i64 h], .int .i64 j] w (KeptV (.bool ((j == a) || (j == b) || (j == h))) w) := by
  cases h1 : (j == a)
  · cases h2 : (j == b)
    · cases h3 : (j == h)
      all_goals
        go_enter Tryz.func74, Tryz.ntmps74
        go_wp2
        go_ret
        exact ⟨rfl, grown_alloc (grown_refl _ _) _⟩
    · go_enter Tryz.func74, Tryz.ntmps74
      go_wp2
      go_ret
      exact ⟨rfl, grown_alloc (grown_refl _ _) _⟩
  · go_enter Tryz.func74, Tryz.ntmps74
    go_wp2
    go_ret
    exact ⟨rfl, grown_alloc (grown_refl _ _) _⟩
theorem isOne_val {a b h j : Int} {V : Bool} (hv : ((j == a) || (j == b) || (j == h)) = V) (w : World) :
    Calls Tryz.prog 74 #[.agg #[.int .i64 a, .int .i64 b, .int .i64 h], .int .i64 j] w (KeptV (.bool V) w) := hv ▸ isOne_any a b h j w
theorem withHead_any (a b h v a1 b1 h1 : Int) (j : Nat) (w : World) (hj : j < 3) (hs : hset a b h j v = (a1, b1, h1)) :
    Calls Tryz.prog 132 #[.agg #[.int .i64 a, .int .i64 b, .int .i64 h], .int .i64 j, .int .i64 v] w (SetMade a1 b1 h1 w) := by
  have hj3 : j = 0 ∨ j = 1 ∨ j = 2 := by omega
  rcases hj3 with rfl | rfl | rfl
  · simp only [hset, Prod.mk.injEq] at hs
    obtain ⟨rfl, rfl, rfl⟩ := hs
    go_enter Tryz.func132, Tryz.ntmps132
    go_wp2
    exact bodyPost_ret (v := .agg #[.int .i64 v, .int .i64 b, .int .i64 h]) (by simp [results, Tryz.results132, go_sem, *]) rfl ⟨rfl, grown_alloc (grown_alloc (grown_refl _ _) _) _⟩
  · simp only [hset, Prod.mk.injEq] at hs
    obtain ⟨rfl, rfl, rfl⟩ := hs
    go_enter Tryz.func132, Tryz.ntmps132
    go_wp2
    exact bodyPost_ret (v := .agg #[.int .i64 a, .int .i64 v, .int .i64 h]) (by simp [results, Tryz.results132, go_sem, *]) rfl ⟨rfl, grown_alloc (grown_alloc (grown_refl _ _) _) _⟩
  · simp only [hset, Prod.mk.injEq] at hs
    obtain ⟨rfl, rfl, rfl⟩ := hs
    go_enter Tryz.func132, Tryz.ntmps132
    go_wp2
    exact bodyPost_ret (v := .agg #[.int .i64 a, .int .i64 b, .int .i64 v]) (by simp [results, Tryz.results132, go_sem, *]) rfl ⟨rfl, grown_alloc (grown_alloc (grown_refl _ _) _) _⟩
/-- The boxed heads stay, and the device. -/
theorem headsValid_any (A : Option Addr) (n c : Nat) (bs : List Bk) (a b h : Int) (w : World) (hl : bs.length = n) (hr : DRow w w.heap.size A bs) (hn : n ≤ 1048576) (hp : ∀ b, b ∈ bs → b.ps.length ≤ 1048576) :
    Calls Tryz.prog 14 #[.slice A n c, .agg #[.int .i64 a, .int .i64 b, .int .i64 h]] w (KeptV (.bool (headsB n a b h && devB bs)) w) := by
  have HF := Lib.hid (FIn.start (a := a) (b := b) (h := h) hr)
  have HD := Lib.hid (And.intro hl hp)
  have e0 := heads_eq n a b h
  clear hr hl hp
  cases h0 : devB bs
  · have HV := Lib.hid (And.intro h0 (show (headsB n a b h && false) = false by simp))
    clear h0 e0
    go_enter Tryz.func14, Tryz.ntmps14
    go_wp2_with fail
    refine (deviceValid_val HD.out.1 HV.out.1 _ HF.out.2.1.here hn HD.out.2).mono ?_
    rintro e w1 ⟨rfl, hk⟩
    replace HF := Lib.hid (HF.out.keep hk)
    clear hk
    go_wp2
    go_ret
    exact ⟨retB (by rw [HV.out.2]), HF.out.2.2⟩
  · cases h1 : isHeadB n a
    · have HV := Lib.hid (And.intro h0 (And.intro (show (headsB n a b h && true) = false by rw [e0, h1]; rfl) h1))
      clear h0 e0 h1
      go_enter Tryz.func14, Tryz.ntmps14
      go_wp2_with fail
      refine (deviceValid_val HD.out.1 HV.out.1 _ HF.out.2.1.here hn HD.out.2).mono ?_
      rintro e w1 ⟨rfl, hk⟩
      replace HF := Lib.hid (HF.out.keep hk)
      clear hk
      obtain ⟨p0, p1, p2⟩ := cells3 HF.out.1
      go_wp2_with (go_at_call 55; refine (isHead_val HV.out.2.2 _ _ _).mono ?_; rintro e w' ⟨rfl, rfl⟩)
      go_ret
      exact ⟨retB (by rw [HV.out.2.1]), HF.out.2.2⟩
    · cases h2 : isHeadB n b
      · have HV := Lib.hid (And.intro h0 (And.intro (show (headsB n a b h && true) = false by rw [e0, h1, h2]; rfl) (And.intro h1 h2)))
        clear h0 e0 h1 h2
        go_enter Tryz.func14, Tryz.ntmps14
        go_wp2_with fail
        refine (deviceValid_val HD.out.1 HV.out.1 _ HF.out.2.1.here hn HD.out.2).mono ?_
        rintro e w1 ⟨rfl, hk⟩
        replace HF := Lib.hid (HF.out.keep hk)
        clear hk
        obtain ⟨p0, p1, p2⟩ := cells3 HF.out.1
        go_wp2_with (go_at_call 55; first | (with_reducible refine (isHead_val HV.out.2.2.1 _ _ _).mono ?_; rintro e w' ⟨rfl, rfl⟩) | (with_reducible refine (isHead_val HV.out.2.2.2 _ _ _).mono ?_; rintro e w' ⟨rfl, rfl⟩))
        go_ret
        exact ⟨retB (by rw [HV.out.2.1]), HF.out.2.2⟩
      · cases h3 : isHeadB n h
        · have HV := Lib.hid (And.intro h0 (And.intro (show (headsB n a b h && true) = false by rw [e0, h1, h2, h3]; rfl) (And.intro h1 (And.intro h2 h3))))
          clear h0 e0 h1 h2 h3
          go_enter Tryz.func14, Tryz.ntmps14
          go_wp2_with fail
          refine (deviceValid_val HD.out.1 HV.out.1 _ HF.out.2.1.here hn HD.out.2).mono ?_
          rintro e w1 ⟨rfl, hk⟩
          replace HF := Lib.hid (HF.out.keep hk)
          clear hk
          obtain ⟨p0, p1, p2⟩ := cells3 HF.out.1
          go_wp2_with (go_at_call 55; first | (with_reducible refine (isHead_val HV.out.2.2.1 _ _ _).mono ?_; rintro e w' ⟨rfl, rfl⟩) | (with_reducible refine (isHead_val HV.out.2.2.2.1 _ _ _).mono ?_; rintro e w' ⟨rfl, rfl⟩) | (with_reducible refine (isHead_val HV.out.2.2.2.2 _ _ _).mono ?_; rintro e w' ⟨rfl, rfl⟩))
          go_ret
          exact ⟨retB (by rw [HV.out.2.1]), HF.out.2.2⟩
        · cases h4 : apart3 a b h
          all_goals
            have HV := Lib.hid (And.intro h0 (And.intro (show (headsB n a b h && true) = _ by rw [e0, h1, h2, h3, h4]) (And.intro h1 (And.intro h2 (And.intro h3 h4)))))
            clear h0 e0 h1 h2 h3 h4
            go_enter Tryz.func14, Tryz.ntmps14
            go_wp2_with fail
            refine (deviceValid_val HD.out.1 HV.out.1 _ HF.out.2.1.here hn HD.out.2).mono ?_
            rintro e w1 ⟨rfl, hk⟩
            replace HF := Lib.hid (HF.out.keep hk)
            clear hk
            obtain ⟨p0, p1, p2⟩ := cells3 HF.out.1
            go_wp2_with (first | (go_at_call 55; first | (with_reducible refine (isHead_val HV.out.2.2.1 _ _ _).mono ?_; rintro e w' ⟨rfl, rfl⟩) | (with_reducible refine (isHead_val HV.out.2.2.2.1 _ _ _).mono ?_; rintro e w' ⟨rfl, rfl⟩) | (with_reducible refine (isHead_val HV.out.2.2.2.2.1 _ _ _).mono ?_; rintro e w' ⟨rfl, rfl⟩)) | fail)
            refine (headsApart_val HV.out.2.2.2.2.2 _).mono ?_
            rintro e w2 ⟨rfl, hk⟩
            replace HF := Lib.hid (HF.out.keep hk)
            clear hk p0 p1 p2
            go_wp2
            go_ret
            exact ⟨retB (by rw [HV.out.2.1]; rfl), HF.out.2.2⟩
theorem headsValid_val {A : Option Addr} {n c : Nat} {bs : List Bk} {a b h : Int} {V : Bool} {w : World} (hV : (headsB n a b h && devB bs) = V) (hl : bs.length = n) (hr : DRow w w.heap.size A bs) (hn : n ≤ 1048576) (hp : ∀ b, b ∈ bs → b.ps.length ≤ 1048576) :
    Calls Tryz.prog 14 #[.slice A n c, .agg #[.int .i64 a, .int .i64 b, .int .i64 h]] w (KeptV (.bool V) w) := hV ▸ headsValid_any A n c bs a b h w hl hr hn hp
end Go.Proofs.YtolpnloghogjjaaGreat
namespace Go.Proofs.YtolpnloghogjjaaGreat
open Go.ChangeShapes Go.WideShapes Go.ChangeAt Go.RowKit

theorem next_count {m : Int} {ps : List Pg} (h : blockB m ps = true) : (nextV m ps == 0) = decide (((cntF ps : Nat) : Int) ≤ 0) := by
  unfold nextV
  rw [if_pos h, Bool.eq_iff_iff]
  by_cases h4 : cntF ps = 4
  · rw [if_pos h4]; simp; omega
  · rw [if_neg h4]; simp
theorem next_wrote {m : Int} {ps : List Pg} (h : blockB m ps = true) : (nextV m ps != 0) = decide (0 < ((cntF ps : Nat) : Int)) := by
  have e := next_count h
  rw [bne, e, Bool.eq_iff_iff]
  simp
  omega
theorem hasWritten_val {m : Int} {Ab : Option Addr} {cb : Nat} {ps : List Pg} {V : Bool} {w : World} (hV : decide (0 < ((cntF ps : Nat) : Int)) = V) (hr : Row w w.heap.size Ab ps) (hn : ps.length ≤ 1048576) :
    Calls Tryz.prog 142 #[.agg #[.int .i64 m, .slice Ab ps.length cb]] w (KeptV (.bool V) w) := by
  have HB := Lib.hid (Blk.new w 45 #[.int .i64 m, .slice Ab ps.length cb])
  have HR := Lib.hid (And.intro (hr.alloc (.cells #[.int .i64 m, .slice Ab ps.length cb] 45)) hn)
  have HG := Lib.hid (grown_alloc (grown_refl w none) (.cells #[.int .i64 m, .slice Ab ps.length cb] 45))
  obtain ⟨r, hr0⟩ : ∃ r : Int, ((cntF ps : Nat) : Int) = r := ⟨_, rfl⟩
  rw [hr0] at hV
  have HV := Lib.hid hr0
  clear hr hn hr0
  cases V
  all_goals
    go_enter Tryz.func142, Tryz.ntmps142
    obtain ⟨c1, _⟩ : (w.alloc (.cells #[.int .i64 m, .slice Ab ps.length cb] 45)).cell? ⟨w.heap.size, 1, none⟩ = some (.slice Ab ps.length cb) ∧ True := ⟨HB.out.cell 1, trivial⟩
    go_wp2_with fail
    refine (written_any _ _ _ _ HR.out.1.here HR.out.2).mono ?_
    rintro e w1 ⟨rfl, hk⟩
    rw [HV.out]
    replace HG := Lib.hid (grown_trans HG.out hk)
    clear hk c1
    go_wp2
    go_ret
    exact ⟨rfl, HG.out⟩
/-- The loop at block k. -/
def WornRun (W : Bool) (w : World) (A : Option Addr) (bs : List Bk) (a b h : Int) (k : Nat) (x : Int) (wr : World) : Prop := k ≤ bs.length ∧ wornTo W bs a b h k = x ∧ FIn w A bs a b h wr
set_option maxHeartbeats 4000000 in
theorem leastWorn_any (W : Bool) (A : Option Addr) (n c : Nat) (bs : List Bk) (a b h : Int) (w : World) (hdv : devB bs = true) (hl : bs.length = n) (hr : DRow w w.heap.size A bs) (hn : n ≤ 1048576) (hp : ∀ b, b ∈ bs → b.ps.length ≤ 1048576) :
    Calls Tryz.prog 141 #[.slice A n c, .agg #[.int .i64 a, .int .i64 b, .int .i64 h], .bool W] w (KeptV (.int .i64 (wornV W bs a b h)) w) := by
  have HD := Lib.hid (And.intro True.intro (And.intro hl (And.intro hp (dev_parts hdv).2)))
  have HF := Lib.hid (FIn.start (a := a) (b := b) (h := h) hr)
  clear hr hp hdv
  go_enter Tryz.func141, Tryz.ntmps141
  go_wp2_with fail
  go_loopw [7, 12] (fun v i wr => ∃ (k : Nat) (x : Int), i = .int .i64 k ∧ v = .int .i64 x ∧ WornRun W w A bs a b h k x wr) (fun _ i _ => n - (intOf i).toNat)
  case atStart => exact ⟨0, -1, rfl, rfl, Nat.zero_le _, rfl, HF.out⟩
  case round =>
    obtain ⟨k, x, rfl, rfl, hk, hx, hF⟩ := hrel
    clear HF
    have HF := Lib.hid hF
    clear hF
    by_cases hlt : k < n
    · have HX0 := Lib.hid hx
      clear hx
      obtain ⟨g, off, m, Ab, cb, ps, rfl, hgw, hgr, hb, c0, c1, hrow⟩ := HF.out.2.1.at_ (show k < bs.length by omega)
      have hmem := List.mem_of_getElem? hb
      have hpl := HD.out.2.2.1 _ hmem
      have hvb := HD.out.2.2.2 _ hmem
      have hfr := worn_at (W := W) (a := a) (b := b) (h := h) (best := x) hb
      rw [next_wrote hvb] at hfr
      obtain ⟨U, hU⟩ : ∃ U : Bool, decide (0 < ((cntF ps : Nat) : Int)) = U := ⟨_, rfl⟩
      rw [hU] at hfr
      have n1 : g ≠ wr.heap.size := by omega
      have n2 : wr.heap.size ≠ g := by omega
      have HR := Lib.hid (And.intro hU (And.intro (hrow.alloc (.cells #[.int .i64 m, .slice Ab ps.length cb] 45)) hpl))
      have HV := Lib.hid (Blk.new wr 45 #[.int .i64 m, .slice Ab ps.length cb])
      replace HF := Lib.hid (HF.out.keep (grown_alloc (grown_refl wr none) (.cells #[.int .i64 m, .slice Ab ps.length cb] 45)))
      have k3 : (k : Int) < n := by omega
      have HFR := Lib.hid hfr
      clear hU hrow hpl hmem hvb hfr
      obtain ⟨v0, v1⟩ : (wr.alloc (.cells #[.int .i64 m, .slice Ab ps.length cb] 45)).cell? ⟨wr.heap.size, 0, none⟩ = some (.int .i64 m) ∧ (wr.alloc (.cells #[.int .i64 m, .slice Ab ps.length cb] 45)).cell? ⟨wr.heap.size, 1, none⟩ = some (.slice Ab ps.length cb) := ⟨HV.out.cell 0, HV.out.cell 1⟩
      go_wp2_with fail
      refine (hasWritten_val HR.out.1 HR.out.2.1.here HR.out.2.2).mono ?_
      rintro e w2 ⟨rfl, hk1⟩
      replace HF := Lib.hid (HF.out.keep hk1)
      replace HV := Lib.hid (HV.out.keep hk1)
      clear hk1 c0 c1 v0 v1
      obtain ⟨p0, p1, p2⟩ := cells3 HF.out.1
      obtain ⟨v0, _⟩ : w2.cell? ⟨wr.heap.size, 0, none⟩ = some (.int .i64 m) ∧ True := ⟨HV.out.cell 0, trivial⟩
      cases t0 : (U != W)
      · have hUW : (U == W) = true := by cases U <;> cases W <;> simp at t0 ⊢
        have hE : W = U := by cases U <;> cases W <;> simp at t0 ⊢
        subst hE
        clear t0
        cases t1 : (((k : Int) == a) || ((k : Int) == b) || ((k : Int) == h))
        · have hfr2 : wornOk W bs a b h x k = (decide (x < 0) || decide (m < wearAt bs x)) := by
            rw [HFR.out]
            simp only [Bool.or_eq_false_iff] at t1
            rw [t1.1.1, t1.1.2, t1.2, hUW]; rfl
          have HO := Lib.hid t1
          clear t1 hUW
          go_wp2_with fail
          refine (isOne_val HO.out _).mono ?_
          rintro e w3 ⟨rfl, hk1⟩
          replace HF := Lib.hid (HF.out.keep hk1)
          replace HV := Lib.hid (HV.out.keep hk1)
          clear hk1 p0 p1 p2 v0
          obtain ⟨v0, _⟩ : w3.cell? ⟨wr.heap.size, 0, none⟩ = some (.int .i64 m) ∧ True := ⟨HV.out.cell 0, trivial⟩
          by_cases hx0 : x < 0
          · have hno : wornOk W bs a b h x k = true := by rw [hfr2]; simp [hx0]
            have HN := Lib.hid (worn_yes HX0.out hno)
            have t4 := decide_eq_true hx0
            clear hno hfr2
            go_wp2_with fail
            refine wp_region_held_drew (S := (fun _ => True)) (by kernel_rfl) ?_ (fun hHeld => ?_)
            · trivial
            refine heldY 0 26 ?_
            refine heldY 1 27 ?_
            refine heldY 2 28 ?_
            refine heldN 3 29 ?_
            refine heldN 4 30 ?_
            refine heldN 5 31 ?_
            refine heldN 6 32 ?_
            refine heldN 7 33 ?_
            refine heldN 8 34 ?_
            refine heldN 9 35 ?_
            refine heldN 10 36 ?_
            refine heldY 11 37 ?_
            refine wpAnyH_done (by kernel_rfl) ?_ _
            go_wp2
            go_roundw
            case rel => exact ⟨k + 1, k, by go_num, rfl, by omega, HN.out, HF.out.keep (grown_drew (grown_refl _ _))⟩
            case measure => simp [intOf]; omega
          · have t4 := decide_eq_false hx0
            obtain ⟨i, hi, hik⟩ : ∃ i : Nat, x = (i : Int) ∧ i < k := by
              rcases worn_facts W bs a b h k with h5 | ⟨i, h5, h6⟩
              · rw [HX0.out] at h5; omega
              · rw [HX0.out] at h5; exact ⟨i, h5, h6⟩
            subst hi
            obtain ⟨g', off', m2, Ac, cc, qs, e0, _, _, hc, b0, _, _⟩ := HF.out.2.1.at_ (show i < bs.length by omega)
            injection e0 with e0
            injection e0 with e3 e4
            subst e3; subst e4
            have hw : wearAt bs (i : Int) = m2 := by simp [wearAt, hc]
            rw [hw, t4] at hfr2
            have i3 : (i : Int) < n := by omega
            clear hw hc
            cases t5 : decide (m < m2)
            · have hno : wornOk W bs a b h (i : Int) k = false := by rw [hfr2, t5]; rfl
              have HN := Lib.hid (worn_no HX0.out hno)
              clear hno hfr2
              go_wp2_with fail
              refine wp_region_held_drew (S := (fun w' => w'.cell? ⟨wr.heap.size, 0, none⟩ = some (.int .i64 m) ∧ w'.cell? ⟨g, off + i * 2, none⟩ = some (.int .i64 m2))) (by kernel_rfl) ?_ (fun hHeld => ?_)
              · exact ⟨v0, b0⟩
              refine heldY 0 26 ?_
              refine heldY 1 27 ?_
              refine heldY 2 28 ?_
              refine heldY 3 29 ?_
              refine heldY 4 30 ?_
              refine heldY 5 31 ?_
              refine heldY 6 32 ?_
              refine heldY 7 33 ?_
              refine heldY 8 34 ?_
              refine heldY 9 35 ?_
              refine heldY 10 36 ?_
              refine heldY 11 37 ?_
              refine wpAnyH_done (by kernel_rfl) ?_ _
              go_wp2
              go_roundw
              case rel => exact ⟨k + 1, i, by go_num, rfl, by omega, HN.out, HF.out.keep (grown_drew (grown_refl _ _))⟩
              case measure => simp [intOf]; omega
            · have hno : wornOk W bs a b h (i : Int) k = true := by rw [hfr2, t5]; rfl
              have HN := Lib.hid (worn_yes HX0.out hno)
              clear hno hfr2
              go_wp2_with fail
              refine wp_region_held_drew (S := (fun w' => w'.cell? ⟨wr.heap.size, 0, none⟩ = some (.int .i64 m) ∧ w'.cell? ⟨g, off + i * 2, none⟩ = some (.int .i64 m2))) (by kernel_rfl) ?_ (fun hHeld => ?_)
              · exact ⟨v0, b0⟩
              refine heldY 0 26 ?_
              refine heldY 1 27 ?_
              refine heldY 2 28 ?_
              refine heldY 3 29 ?_
              refine heldY 4 30 ?_
              refine heldY 5 31 ?_
              refine heldY 6 32 ?_
              refine heldY 7 33 ?_
              refine heldY 8 34 ?_
              refine heldY 9 35 ?_
              refine heldY 10 36 ?_
              refine heldY 11 37 ?_
              refine wpAnyH_done (by kernel_rfl) ?_ _
              go_wp2
              go_roundw
              case rel => exact ⟨k + 1, k, by go_num, rfl, by omega, HN.out, HF.out.keep (grown_drew (grown_refl _ _))⟩
              case measure => simp [intOf]; omega
        · have hno : wornOk W bs a b h x k = false := by
            rw [HFR.out]
            simp only [Bool.or_eq_true] at t1
            rcases t1 with (t1 | t1) | t1 <;> simp [t1]
          have HN := Lib.hid (worn_no HX0.out hno)
          have HO := Lib.hid t1
          clear hno t1 hUW
          go_wp2_with fail
          refine (isOne_val HO.out _).mono ?_
          rintro e w3 ⟨rfl, hk1⟩
          replace HF := Lib.hid (HF.out.keep hk1)
          clear hk1 p0 p1 p2 v0
          go_wp2_with fail
          go_roundw
          case rel => exact ⟨k + 1, x, by go_num, rfl, by omega, HN.out, HF.out⟩
          case measure => simp [intOf]; omega
      · have hUW : (U == W) = false := by cases U <;> cases W <;> simp at t0 ⊢
        have hno : wornOk W bs a b h x k = false := by rw [HFR.out, hUW]; rfl
        have HN := Lib.hid (worn_no HX0.out hno)
        clear hno hUW HFR HR
        cases U
        · cases W
          · cases t0
          · go_wp2_with fail
            go_roundw
            case rel => exact ⟨k + 1, x, by go_num, rfl, by omega, HN.out, HF.out⟩
            case measure => simp [intOf]; omega
        · cases W
          · go_wp2_with fail
            go_roundw
            case rel => exact ⟨k + 1, x, by go_num, rfl, by omega, HN.out, HF.out⟩
            case measure => simp [intOf]; omega
          · cases t0
    · obtain rfl : k = n := by omega
      have HX0 := Lib.hid (show wornV W bs a b h = x by unfold wornV; rw [hl]; exact hx)
      clear hx
      go_wp2
      go_ret
      exact ⟨retI (by rw [HX0.out]), HF.out.2.2⟩
theorem leastWorn_val {W : Bool} {A : Option Addr} {n c : Nat} {bs : List Bk} {a b h V : Int} {w : World} (hV : wornV W bs a b h = V) (hdv : devB bs = true) (hl : bs.length = n) (hr : DRow w w.heap.size A bs) (hn : n ≤ 1048576) (hp : ∀ b, b ∈ bs → b.ps.length ≤ 1048576) :
    Calls Tryz.prog 141 #[.slice A n c, .agg #[.int .i64 a, .int .i64 b, .int .i64 h], .bool W] w (KeptV (.int .i64 V) w) := hV ▸ leastWorn_any W A n c bs a b h w hdv hl hr hn hp
theorem freshImp_yes (A : Option Addr) (n c : Nat) (bs : List Bk) (a b h : Int) (w : World) (hv : (headsB n a b h && devB bs) = true) (hl : bs.length = n) (hr : DRow w w.heap.size A bs) (hn : n ≤ 1048576) (hp : ∀ b, b ∈ bs → b.ps.length ≤ 1048576) :
    Calls Tryz.prog 139 #[.slice A n c, .agg #[.int .i64 a, .int .i64 b, .int .i64 h]] w (KeptV (.int .i64 (freshV bs a b h)) w) := by
  have hdv : devB bs = true := by simp only [Bool.and_eq_true] at hv; exact hv.2
  have HD := Lib.hid (And.intro hv (And.intro hl (And.intro hp hdv)))
  have HF := Lib.hid (FIn.start (a := a) (b := b) (h := h) hr)
  clear hv hr hp hdv hl
  go_enter Tryz.func139, Tryz.ntmps139
  obtain ⟨p0, p1, p2⟩ := cells3 HF.out.1
  go_wp2_with fail
  refine (headsValid_val HD.out.1 HD.out.2.1 HF.out.2.1.here hn HD.out.2.2.1).mono ?_
  rintro e w1 ⟨rfl, hk⟩
  replace HF := Lib.hid (HF.out.keep hk)
  clear hk p0 p1 p2
  obtain ⟨p0, p1, p2⟩ := cells3 HF.out.1
  go_wp2_with fail
  refine (leastWorn_val (worn_fresh bs a b h) HD.out.2.2.2 HD.out.2.1 HF.out.2.1.here hn HD.out.2.2.1).mono ?_
  rintro e w2 ⟨rfl, hk⟩
  replace HF := Lib.hid (HF.out.keep hk)
  clear hk p0 p1 p2
  go_wp2
  go_ret
  exact ⟨rfl, HF.out.2.2⟩
end Go.Proofs.YtolpnloghogjjaaGreat
namespace Go.Proofs.YtolpnloghogjjaaGreat
open Go.ChangeShapes Go.WideShapes Go.ChangeAt Go.RowKit

/-- Which block is appended to. -/
def ToIs (bs : List Bk) (a b h : Int) (j : Nat) (r : Int) : Prop := (∃ (k : Nat) (m : Int) (ps : List Pg), hd a b h j = (k : Int) ∧ (bs.map Bk.is)[k]? = some (m, ps) ∧ 0 ≤ nextV m ps ∧ r = (k : Int)) ∨ (FullHead bs a b h j ∧ r = freshV bs a b h)
theorem ToIs.of {bs cs : List Bk} {a b h : Int} {j : Nat} {r : Int} (H : ToIs bs a b h j r) (hc : cs.map Bk.is = bs.map Bk.is) : ToIs cs a b h j r := by
  unfold ToIs FullHead
  rw [hc, fresh_same hc]
  exact H
theorem hset_same {a b h v : Int} {j : Nat} (hx : hd a b h j = v) : hset a b h j v = (a, b, h) := by
  subst hx
  match j with
  | 0 => rfl
  | 1 => rfl
  | j + 2 => rfl
set_option maxHeartbeats 1000000 in
theorem blockTo_val {A : Option Addr} {n c j : Nat} {bs : List Bk} {a b h r : Int} {w : World} (hj : j < 3) (hv : (headsB n a b h && devB bs) = true) (H : ToIs bs a b h j r) (hl : bs.length = n) (hr : DRow w w.heap.size A bs) (hn : n ≤ 1048576) (hp : ∀ b, b ∈ bs → b.ps.length ≤ 1048576) :
    Calls Tryz.prog 130 #[.slice A n c, .agg #[.int .i64 a, .int .i64 b, .int .i64 h], .int .i64 j] w (KeptV (.int .i64 r) w) := by
  have HF := Lib.hid (FIn.start (a := a) (b := b) (h := h) hr)
  have HD := Lib.hid (And.intro hl (And.intro hp (And.intro hv hj)))
  clear hr hl hp hv hj
  rcases H with ⟨k, m, ps, hx, hi, h0, rfl⟩ | ⟨hx | ⟨i, mq, pq, hx, hi, hqn⟩, rfl⟩
  · obtain ⟨Ab, cb, hb⟩ := is_some hi
    have hkn : k < n := by have := (List.getElem?_eq_some_iff.1 hb).1; have := HD.out.1; omega
    have hkn3 : (k : Int) < n := by omega
    obtain ⟨nx, hnx⟩ : ∃ nx, nextV m ps = nx := ⟨_, rfl⟩
    rw [hnx] at h0
    have tn : decide (0 ≤ nx) = true := decide_eq_true h0
    have HX := Lib.hid hx
    have HK := Lib.hid (And.intro hb hnx)
    clear hi hb hx hnx h0
    go_enter Tryz.func130, Tryz.ntmps130
    obtain ⟨p0, p1, p2⟩ := cells3 HF.out.1
    go_wp2_with fail
    refine (headOfKind_any _ _ _ _ HD.out.2.2.2 _).mono ?_
    rintro e w1 ⟨rfl, hk1⟩
    replace HF := Lib.hid (HF.out.keep hk1)
    clear hk1 p0 p1 p2
    rw [HX.out]
    obtain ⟨g, off, m', Ab', cb', ps', rfl, _, _, hb', c0, c1, hrow⟩ := HF.out.2.1.at_ (show k < bs.length by have := HD.out.1; omega)
    rw [HK.out.1] at hb'
    injection hb' with hb'
    injection hb' with e5 e6 e7 e8
    subst e5; subst e6; subst e7; subst e8
    have HRW := Lib.hid hrow
    clear hrow
    go_wp2_with fail
    refine (next_val rfl HK.out.2 _ HRW.out.here (by have := HD.out.2.1 _ (List.mem_of_getElem? HK.out.1); exact this)).mono ?_
    rintro e w2 ⟨rfl, hk1⟩
    replace HF := Lib.hid (HF.out.keep hk1)
    clear hk1 c0 c1 HRW
    go_wp2
    go_ret
    exact ⟨rfl, HF.out.2.2⟩
  · have HX := Lib.hid hx
    clear hx
    go_enter Tryz.func130, Tryz.ntmps130
    obtain ⟨p0, p1, p2⟩ := cells3 HF.out.1
    go_wp2_with fail
    refine (headOfKind_any _ _ _ _ HD.out.2.2.2 _).mono ?_
    rintro e w1 ⟨rfl, hk1⟩
    replace HF := Lib.hid (HF.out.keep hk1)
    clear hk1 p0 p1 p2
    rw [HX.out]
    obtain ⟨p0, p1, p2⟩ := cells3 HF.out.1
    go_wp2_with fail
    refine (freshImp_yes _ _ _ _ _ _ _ _ HD.out.2.2.1 HD.out.1 HF.out.2.1.here hn HD.out.2.1).mono ?_
    rintro e w3 ⟨rfl, hk1⟩
    replace HF := Lib.hid (HF.out.keep hk1)
    clear hk1 p0 p1 p2
    go_wp2
    go_ret
    exact ⟨rfl, HF.out.2.2⟩
  · obtain ⟨Aq, cq, hqi⟩ := is_some hi
    have HX := Lib.hid hx
    have HQ := Lib.hid (And.intro hqi hqn)
    have hin : i < n := by have := (List.getElem?_eq_some_iff.1 hqi).1; have := HD.out.1; omega
    have hin3 : (i : Int) < n := by omega
    clear hx hqi hqn hi
    go_enter Tryz.func130, Tryz.ntmps130
    obtain ⟨p0, p1, p2⟩ := cells3 HF.out.1
    go_wp2_with fail
    refine (headOfKind_any _ _ _ _ HD.out.2.2.2 _).mono ?_
    rintro e w1 ⟨rfl, hk1⟩
    replace HF := Lib.hid (HF.out.keep hk1)
    clear hk1 p0 p1 p2
    rw [HX.out]
    obtain ⟨g, off, m', Ab', cb', ps', rfl, _, _, hb', c0, c1, hrow⟩ := HF.out.2.1.at_ (show i < bs.length by have := HD.out.1; omega)
    rw [HQ.out.1] at hb'
    injection hb' with hb'
    injection hb' with e5 e6 e7 e8
    subst e5; subst e6; subst e7; subst e8
    have HRW := Lib.hid hrow
    clear hrow
    go_wp2_with fail
    refine (next_val rfl HQ.out.2 _ HRW.out.here (by have := HD.out.2.1 _ (List.mem_of_getElem? HQ.out.1); exact this)).mono ?_
    rintro e w2 ⟨rfl, hk1⟩
    replace HF := Lib.hid (HF.out.keep hk1)
    clear hk1 c0 c1 HRW
    obtain ⟨p0, p1, p2⟩ := cells3 HF.out.1
    go_wp2_with fail
    refine (freshImp_yes _ _ _ _ _ _ _ _ HD.out.2.2.1 HD.out.1 HF.out.2.1.here hn HD.out.2.1).mono ?_
    rintro e w3 ⟨rfl, hk1⟩
    replace HF := Lib.hid (HF.out.keep hk1)
    clear hk1 p0 p1 p2
    go_wp2
    go_ret
    exact ⟨rfl, HF.out.2.2⟩
set_option maxHeartbeats 2000000 in
theorem append_yes (A : Option Addr) (n c j : Nat) (bs : List Bk) (a b h x1 x2 x3 x4 : Int) (w : World) (hj : j < 3) (hl : bs.length = n) (hr : DRow w w.heap.size A bs) (hv : headsB n a b h = true) (hd0 : devB bs = true) (hpg : pageB true x1 x2 x3 x4 = true) (k : Nat) (m : Int) (Ab : Option Addr) (cb : Nat) (ps ps1 : List Pg) (r0 a1 b1 h1 : Int) (ht : ToIs bs a b h j (k : Int)) (hk : bs[k]? = some ⟨m, Ab, cb, ps⟩)
    (hw : WriteIs m ps true x1 x2 x3 x4 m 4 ps1 r0) (hr4 : -1 ≤ r0 ∧ r0 < 4) (hs : hset a b h j k = (a1, b1, h1)) :
    Calls Tryz.prog 113 #[.slice A n c, .agg #[.int .i64 a, .int .i64 b, .int .i64 h], .int .i64 j, .agg #[.bool true, .int .i64 x1, .int .i64 x2, .int .i64 x3, .int .i64 x4]] w (AppMade ((bs.map Bk.is).set k (m, ps1)) n a1 b1 h1 (progV k r0) w) := by
  obtain ⟨⟨_, h12⟩, hall⟩ := dev_parts hd0
  have hn12 : n ≤ 12 := by omega
  have hall4 : ∀ b, b ∈ bs → b.ps.length = 4 := fun b hm => (block_parts (hall b hm)).2.1
  have hsm : ∀ b, b ∈ bs → b.ps.length ≤ 1048576 := fun b hm => by have := hall4 b hm; omega
  have hhv : (headsB n a b h && devB bs) = true := by rw [hv, hd0]; rfl
  have HD := Lib.hid (And.intro hhv (And.intro hl (And.intro hsm (And.intro hd0 (And.intro hall4 (And.intro hpg (show (true && pageB true x1 x2 x3 x4) = true by rw [hpg]; rfl)))))))
  have HF := Lib.hid (AIn.start (a := a) (b := b) (h := h) (x1 := x1) (x2 := x2) (x3 := x3) (x4 := x4) hr)
  have HJ := Lib.hid (show inB (j : Int) 0 2 = true from inB_iff.2 ⟨by omega, by omega⟩)
  have HI := Lib.hid (And.intro hj hall)
  have hkn : k < n := by have := (List.getElem?_eq_some_iff.1 hk).1; omega
  have hkn3 : (k : Int) < n := by omega
  have HK := Lib.hid (And.intro hk (And.intro hw (And.intro hr4 hs)))
  have HT := Lib.hid ht
  clear hk hw hr4 ht hs
  clear hl hr hv hd0 hpg hall hall4 hsm hhv h12 hj
  go_enter Tryz.func113, Tryz.ntmps113
  obtain ⟨h0, h1, h2⟩ := HF.out.cells
  go_wp2_with fail
  refine (headsValid_val HD.out.1 HD.out.2.1 HF.out.2.2.2.1.here (by omega) HD.out.2.2.1).mono ?_
  rintro e w1 ⟨rfl, hk⟩
  replace HF := Lib.hid (HF.out.keep hk)
  clear hk h0 h1 h2
  obtain ⟨p0, p1, p2, p3, p4⟩ := cells5 HF.out.2.1
  go_wp2_with (first | (go_at_call 128; refine (isKind_val HJ.out _).mono ?_; rintro e w' ⟨rfl, rfl⟩) | fail)
  refine (isWritten_val HD.out.2.2.2.2.2.2 _).mono ?_
  rintro e w2 ⟨rfl, hk⟩
  replace HF := Lib.hid (HF.out.keep hk)
  clear hk p0 p1 p2 p3 p4
  obtain ⟨h0, h1, h2⟩ := HF.out.cells
  go_wp2_with fail
  clear h0 h1 h2
  refine (blockTo_val HI.out.1 HD.out.1 HT.out HD.out.2.1 HF.out.2.2.2.1.here (by omega) HD.out.2.2.1).mono ?_
  rintro e w3 ⟨rfl, hk⟩
  replace HF := Lib.hid (HF.out.keep hk)
  clear hk
  obtain ⟨p0, p1, p2, p3, p4⟩ := cells5 HF.out.2.1
  go_wp2_with fail
  clear p0 p1 p2 p3 p4
  have hgs := HF.out.2.2.2.2.size
  refine (program_at _ _ _ _ _ _ _ _ _ _ _ _ _ _ _ _ HD.out.2.1 HF.out.2.2.2.1.here HD.out.2.2.2.1 HK.out.1 HD.out.2.2.2.2.2.1 HK.out.2.1 HK.out.2.2.1).mono ?_
  rintro e w5 ⟨A5, c5, cs, rfl, hcl, hcs, ho5, hk⟩
  have HS := Lib.hid (And.intro hcl hcs)
  have HO := Lib.hid (ho5.base_le hgs)
  replace HF := Lib.hid (HF.out.keep hk)
  clear hcl hcs ho5 hk hgs
  obtain ⟨z0, z1, z2⟩ := HF.out.cells
  go_wp2_with fail
  refine (withHead_any _ _ _ _ _ _ _ _ _ HI.out.1 HK.out.2.2.2).mono ?_
  rintro e w6 ⟨rfl, hk⟩
  replace HF := Lib.hid (HF.out.keep hk)
  replace HO := Lib.hid (HO.out.keep hk)
  clear hk z0 z1 z2
  obtain ⟨d0, d1, d2⟩ := cells3 HF.out.2.2.1
  obtain ⟨f0, f1, f2⟩ := frozen3 HF.out.2.2.1
  have na : w.heap.size ≠ w.heap.size + 1 + 1 := by omega
  have nb : w.heap.size + 1 + 1 ≠ w.heap.size := by omega
  go_wp2
  exact bodyPost_ret (v := .tuple #[.slice A5 n c5, .agg #[.int .i64 a1, .int .i64 b1, .int .i64 h1], .int .i64 (progV k r0)]) (by simp [results, Tryz.results113, go_sem, *]) rfl
    ⟨_, _, cs, rfl, HS.out.1, HS.out.2, HO.out.heads HF.out.2.2.1 _ _ _, HF.out.fin _ _ _⟩
set_option maxHeartbeats 2000000 in
theorem append_none (A : Option Addr) (n c j : Nat) (bs : List Bk) (a b h x1 x2 x3 x4 : Int) (w : World) (hj : j < 3) (hl : bs.length = n) (hr : DRow w w.heap.size A bs) (hv : headsB n a b h = true) (hd0 : devB bs = true) (hpg : pageB true x1 x2 x3 x4 = true) (ht : ToIs bs a b h j (-1)) :
    Calls Tryz.prog 113 #[.slice A n c, .agg #[.int .i64 a, .int .i64 b, .int .i64 h], .int .i64 j, .agg #[.bool true, .int .i64 x1, .int .i64 x2, .int .i64 x3, .int .i64 x4]] w (AppMade (bs.map Bk.is) n a b h (-1) w) := by
  obtain ⟨⟨_, h12⟩, hall⟩ := dev_parts hd0
  have hn12 : n ≤ 12 := by omega
  have hall4 : ∀ b, b ∈ bs → b.ps.length = 4 := fun b hm => (block_parts (hall b hm)).2.1
  have hsm : ∀ b, b ∈ bs → b.ps.length ≤ 1048576 := fun b hm => by have := hall4 b hm; omega
  have hhv : (headsB n a b h && devB bs) = true := by rw [hv, hd0]; rfl
  have HD := Lib.hid (And.intro hhv (And.intro hl (And.intro hsm (And.intro hd0 (And.intro hall4 (And.intro hpg (show (true && pageB true x1 x2 x3 x4) = true by rw [hpg]; rfl)))))))
  have HF := Lib.hid (AIn.start (a := a) (b := b) (h := h) (x1 := x1) (x2 := x2) (x3 := x3) (x4 := x4) hr)
  have HJ := Lib.hid (show inB (j : Int) 0 2 = true from inB_iff.2 ⟨by omega, by omega⟩)
  have HI := Lib.hid (And.intro hj hall)
  have HT := Lib.hid ht
  clear ht
  clear hl hr hv hd0 hpg hall hall4 hsm hhv h12 hj
  go_enter Tryz.func113, Tryz.ntmps113
  obtain ⟨h0, h1, h2⟩ := HF.out.cells
  go_wp2_with fail
  refine (headsValid_val HD.out.1 HD.out.2.1 HF.out.2.2.2.1.here (by omega) HD.out.2.2.1).mono ?_
  rintro e w1 ⟨rfl, hk⟩
  replace HF := Lib.hid (HF.out.keep hk)
  clear hk h0 h1 h2
  obtain ⟨p0, p1, p2, p3, p4⟩ := cells5 HF.out.2.1
  go_wp2_with (first | (go_at_call 128; refine (isKind_val HJ.out _).mono ?_; rintro e w' ⟨rfl, rfl⟩) | fail)
  refine (isWritten_val HD.out.2.2.2.2.2.2 _).mono ?_
  rintro e w2 ⟨rfl, hk⟩
  replace HF := Lib.hid (HF.out.keep hk)
  clear hk p0 p1 p2 p3 p4
  obtain ⟨h0, h1, h2⟩ := HF.out.cells
  go_wp2_with fail
  clear h0 h1 h2
  refine (blockTo_val HI.out.1 HD.out.1 HT.out HD.out.2.1 HF.out.2.2.2.1.here (by omega) HD.out.2.2.1).mono ?_
  rintro e w3 ⟨rfl, hk⟩
  replace HF := Lib.hid (HF.out.keep hk)
  clear hk
  obtain ⟨z0, z1, z2⟩ := HF.out.cells
  go_wp2_with fail
  refine wp_region_held_drew (S := (fun w' => w'.cell? ⟨w.heap.size, 0, none⟩ = some (.int .i64 a) ∧ w'.cell? ⟨w.heap.size, 1, none⟩ = some (.int .i64 b) ∧ w'.cell? ⟨w.heap.size, 2, none⟩ = some (.int .i64 h))) (by kernel_rfl) ?_ (fun hHeld => ?_)
  · exact ⟨z0, z1, z2⟩
  replace HF := Lib.hid (HF.out.keep (grown_drew (grown_refl _ none)))
  clear z0 z1 z2
  obtain ⟨z0, z1, z2⟩ := HF.out.cells
  refine heldY 0 35 ?_
  refine heldY 2 37 ?_
  refine wpAnyH_ready (rs := [1]) (by kernel_rfl) (by simp) ?_
  refine AllReadyH.cons rfl (fun K hK => ?_) AllReadyH.nil
  go_simp
  go_at_call 35
  have hgs := HF.out.2.2.2.2.size
  refine (copyDev_any _ _ _ _ _ HD.out.2.1 HF.out.2.2.2.1.here (by omega) HD.out.2.2.2.2.1).mono ?_
  rintro e w5 ⟨A5, c5, cs, rfl, hcl, hcs, ho5, hk⟩
  have HS := Lib.hid (And.intro hcl hcs)
  have HO := Lib.hid (ho5.base_le hgs)
  replace HF := Lib.hid (HF.out.keep hk)
  clear hcl hcs ho5 hk hgs z0 z1 z2
  obtain ⟨z0, z1, z2⟩ := HF.out.cells
  refine hK.out _ _ ?_ (fun hHeld => ?_)
  · exact ⟨z0, z1, z2⟩
  clear hK K
  try simp only [Act.put, List.setIfInBounds_toArray, List.set_cons_zero, List.set_cons_succ]
  obtain ⟨d0, d1, d2⟩ := cells3 HF.out.2.2.1
  obtain ⟨f0, f1, f2⟩ := frozen3 HF.out.2.2.1
  have na : w.heap.size ≠ w.heap.size + 1 + 1 := by omega
  have nb : w.heap.size + 1 + 1 ≠ w.heap.size := by omega
  refine wpAnyH_ready (rs := [3]) (by kernel_rfl) (by simp) ?_
  refine AllReadyH.cons rfl (fun K hK => ?_) AllReadyH.nil
  go_simp
  refine hK.out _ _ ?_ (fun hHeld => ?_)
  · first | assumption | go_keep
  clear hK K
  try simp only [Act.put, List.setIfInBounds_toArray, List.set_cons_zero, List.set_cons_succ]
  refine wpAnyH_ready (rs := [4]) (by kernel_rfl) (by simp) ?_
  refine AllReadyH.cons rfl (fun K hK => ?_) AllReadyH.nil
  go_simp
  refine hK.out _ _ ?_ (fun hHeld => ?_)
  · first | assumption | go_keep
  clear hK K
  try simp only [Act.put, List.setIfInBounds_toArray, List.set_cons_zero, List.set_cons_succ]
  refine wpAnyH_ready (rs := [5]) (by kernel_rfl) (by simp) ?_
  refine AllReadyH.cons rfl (fun K hK => ?_) AllReadyH.nil
  go_simp
  refine hK.out _ _ ?_ (fun hHeld => ?_)
  · first | assumption | go_keep
  clear hK K
  try simp only [Act.put, List.setIfInBounds_toArray, List.set_cons_zero, List.set_cons_succ]
  refine wpAnyH_done (by kernel_rfl) ?_ _
  go_wp2
  exact bodyPost_ret (v := .tuple #[.slice A5 n c5, .agg #[.int .i64 a, .int .i64 b, .int .i64 h], .int .i64 (-1)]) (by simp [results, Tryz.results113, go_sem, *]) rfl
    ⟨_, _, cs, rfl, HS.out.1, HS.out.2, HO.out.heads HF.out.2.2.1 _ _ _, HF.out.fin _ _ _⟩
/-- What of other arguments is returned: no device, no heads, -1. -/
theorem appMade_nil {w wr : World} (h : w.grownBy wr none) {D : Nat} (hw : w.heap.size ≤ D) (u0 u1 u2 : Value) :
    AppMade [] 0 0 0 0 (-1) w (.returned (.tuple #[.slice none 0 0, .agg #[.int .i64 0, .int .i64 0, .int .i64 0], .int .i64 (-1)])) (((wr.setCell ⟨D, 0, none⟩ u0).setCell ⟨D, 1, none⟩ u1).setCell ⟨D, 2, none⟩ u2) :=
  ⟨none, 0, [], rfl, rfl, rfl, ⟨World.ownsRow_nil _ _ _ _, fun b hb => by simp at hb, fun i j b b' a a' _ hi => by simp at hi⟩, grown_put3 h hw u0 u1 u2⟩
set_option maxHeartbeats 1000000 in
theorem append_no (A : Option Addr) (n c : Nat) (bs : List Bk) (a b h j : Int) (f : Bool) (x1 x2 x3 x4 : Int) (w : World) (hv : (headsB n a b h && devB bs) = false) (hl : bs.length = n) (hr : DRow w w.heap.size A bs) (hn : n ≤ 1048576) (hp : ∀ b, b ∈ bs → b.ps.length ≤ 1048576) :
    Calls Tryz.prog 113 #[.slice A n c, .agg #[.int .i64 a, .int .i64 b, .int .i64 h], .int .i64 j, .agg #[.bool f, .int .i64 x1, .int .i64 x2, .int .i64 x3, .int .i64 x4]] w (AppMade [] 0 0 0 0 (-1) w) := by
  have HF := Lib.hid (BIn.start (a := a) (b := b) (h := h) (f := f) (x1 := x1) (x2 := x2) (x3 := x3) (x4 := x4) hr)
  have HD := Lib.hid (And.intro hv (And.intro hl (And.intro hp trivial)))
  clear hv hl hr hp
  go_enter Tryz.func113, Tryz.ntmps113
  obtain ⟨h0, h1, h2⟩ := cells3 HF.out.1
  go_wp2_with fail
  refine (headsValid_val HD.out.1 HD.out.2.1 HF.out.2.2.2.1.here hn HD.out.2.2.1).mono ?_
  rintro e w1 ⟨rfl, hk⟩
  replace HF := Lib.hid (HF.out.keep hk)
  clear hk h0 h1 h2
  obtain ⟨d0, d1, d2⟩ := cells3 HF.out.2.2.1
  obtain ⟨f0, f1, f2⟩ := frozen3 HF.out.2.2.1
  go_wp2
  exact bodyPost_ret (v := .tuple #[.slice none 0 0, .agg #[.int .i64 0, .int .i64 0, .int .i64 0], .int .i64 (-1)]) (by simp [results, Tryz.results113, go_sem, *]) rfl (appMade_nil HF.out.2.2.2.2 (le2 _) _ _ _)
set_option maxHeartbeats 1000000 in
theorem append_heat (A : Option Addr) (n c : Nat) (bs : List Bk) (a b h j : Int) (f : Bool) (x1 x2 x3 x4 : Int) (w : World) (hv : (headsB n a b h && devB bs) = true) (hj : inB j 0 2 = false) (hl : bs.length = n) (hr : DRow w w.heap.size A bs) (hn : n ≤ 1048576) (hp : ∀ b, b ∈ bs → b.ps.length ≤ 1048576) :
    Calls Tryz.prog 113 #[.slice A n c, .agg #[.int .i64 a, .int .i64 b, .int .i64 h], .int .i64 j, .agg #[.bool f, .int .i64 x1, .int .i64 x2, .int .i64 x3, .int .i64 x4]] w (AppMade [] 0 0 0 0 (-1) w) := by
  have HF := Lib.hid (BIn.start (a := a) (b := b) (h := h) (f := f) (x1 := x1) (x2 := x2) (x3 := x3) (x4 := x4) hr)
  have HD := Lib.hid (And.intro hv (And.intro hl (And.intro hp hj)))
  clear hv hl hr hp hj
  go_enter Tryz.func113, Tryz.ntmps113
  obtain ⟨h0, h1, h2⟩ := cells3 HF.out.1
  go_wp2_with fail
  refine (headsValid_val HD.out.1 HD.out.2.1 HF.out.2.2.2.1.here hn HD.out.2.2.1).mono ?_
  rintro e w1 ⟨rfl, hk⟩
  replace HF := Lib.hid (HF.out.keep hk)
  clear hk h0 h1 h2
  obtain ⟨d0, d1, d2⟩ := cells3 HF.out.2.2.1
  obtain ⟨f0, f1, f2⟩ := frozen3 HF.out.2.2.1
  go_wp2_with (go_at_call 128; refine (isKind_val HD.out.2.2.2 _).mono ?_; rintro e w' ⟨rfl, rfl⟩)
  exact bodyPost_ret (v := .tuple #[.slice none 0 0, .agg #[.int .i64 0, .int .i64 0, .int .i64 0], .int .i64 (-1)]) (by simp [results, Tryz.results113, go_sem, *]) rfl (appMade_nil HF.out.2.2.2.2 (le2 _) _ _ _)
set_option maxHeartbeats 1000000 in
theorem append_page (A : Option Addr) (n c : Nat) (bs : List Bk) (a b h j : Int) (f : Bool) (x1 x2 x3 x4 : Int) (w : World) (hv : (headsB n a b h && devB bs) = true) (hj : inB j 0 2 = true) (hg : (f && pageB f x1 x2 x3 x4) = false) (hl : bs.length = n) (hr : DRow w w.heap.size A bs) (hn : n ≤ 1048576) (hp : ∀ b, b ∈ bs → b.ps.length ≤ 1048576) :
    Calls Tryz.prog 113 #[.slice A n c, .agg #[.int .i64 a, .int .i64 b, .int .i64 h], .int .i64 j, .agg #[.bool f, .int .i64 x1, .int .i64 x2, .int .i64 x3, .int .i64 x4]] w (AppMade [] 0 0 0 0 (-1) w) := by
  have HF := Lib.hid (BIn.start (a := a) (b := b) (h := h) (f := f) (x1 := x1) (x2 := x2) (x3 := x3) (x4 := x4) hr)
  have HD := Lib.hid (And.intro hv (And.intro hl (And.intro hp (And.intro hj hg))))
  clear hv hl hr hp hj hg
  go_enter Tryz.func113, Tryz.ntmps113
  obtain ⟨h0, h1, h2⟩ := cells3 HF.out.1
  go_wp2_with fail
  refine (headsValid_val HD.out.1 HD.out.2.1 HF.out.2.2.2.1.here hn HD.out.2.2.1).mono ?_
  rintro e w1 ⟨rfl, hk⟩
  replace HF := Lib.hid (HF.out.keep hk)
  clear hk h0 h1 h2
  obtain ⟨p0, p1, p2, p3, p4⟩ := cells5 HF.out.2.1
  go_wp2_with (first | (go_at_call 128; refine (isKind_val HD.out.2.2.2.1 _).mono ?_; rintro e w' ⟨rfl, rfl⟩) | fail)
  refine (isWritten_val HD.out.2.2.2.2 _).mono ?_
  rintro e w2 ⟨rfl, hk⟩
  replace HF := Lib.hid (HF.out.keep hk)
  clear hk p0 p1 p2 p3 p4
  obtain ⟨d0, d1, d2⟩ := cells3 HF.out.2.2.1
  obtain ⟨f0, f1, f2⟩ := frozen3 HF.out.2.2.1
  go_wp2
  exact bodyPost_ret (v := .tuple #[.slice none 0 0, .agg #[.int .i64 0, .int .i64 0, .int .i64 0], .int .i64 (-1)]) (by simp [results, Tryz.results113, go_sem, *]) rfl (appMade_nil HF.out.2.2.2.2 (le2 _) _ _ _)
theorem append_val {A : Option Addr} {n c n1 : Nat} {cs : List Bk} {a b h j : Int} {f : Bool} {x1 x2 x3 x4 a1 b1 h1 r : Int} {l1 : List (Int × List Pg)} {w : World} (H : AppendIs n cs a b h j f x1 x2 x3 x4 n1 l1 a1 b1 h1 r) (hl : cs.length = n) (hr : DRow w w.heap.size A cs) (hn : n ≤ 1048576) (hp : ∀ b, b ∈ cs → b.ps.length ≤ 1048576) :
    Calls Tryz.prog 113 #[.slice A n c, .agg #[.int .i64 a, .int .i64 b, .int .i64 h], .int .i64 j, .agg #[.bool f, .int .i64 x1, .int .i64 x2, .int .i64 x3, .int .i64 x4]] w (AppMade l1 n1 a1 b1 h1 r w) := by
  rcases H with ⟨h0 | ⟨h0, h2⟩ | ⟨h0, h2, h3⟩, rfl, rfl, rfl, rfl, rfl, rfl⟩ | ⟨j0, rfl, hj, hh, hd0, rfl, hpg, rfl, H⟩
  · exact append_no A n c cs a b h j f x1 x2 x3 x4 w h0 hl hr hn hp
  · exact append_heat A n c cs a b h j f x1 x2 x3 x4 w h0 h2 hl hr hn hp
  · exact append_page A n c cs a b h j f x1 x2 x3 x4 w h0 h2 h3 hl hr hn hp
  · rcases H with ⟨k, m, ps, ps1, r0, hx, hi, h0, hw, hr4, rfl, rfl, rfl, rfl, rfl⟩ | ⟨hf, k, m, ps, ps1, r0, hy, hi, hw, hr4, rfl, hs, rfl⟩ | ⟨hf, hy, rfl, rfl, rfl, rfl, rfl⟩
    · obtain ⟨Ab, cb, hb⟩ := is_some hi
      exact append_yes A n1 c j0 cs a1 b1 h1 x1 x2 x3 x4 w hj hl hr hh hd0 hpg k m Ab cb ps ps1 r0 a1 b1 h1 (.inl ⟨k, m, ps, hx, hi, h0, rfl⟩) hb hw hr4 (hset_same hx)
    · obtain ⟨Ab, cb, hb⟩ := is_some hi
      exact append_yes A n1 c j0 cs a b h x1 x2 x3 x4 w hj hl hr hh hd0 hpg k m Ab cb ps ps1 r0 a1 b1 h1 (.inr ⟨hf, hy.symm⟩) hb hw hr4 hs
    · exact append_none A n1 c j0 cs a1 b1 h1 x1 x2 x3 x4 w hj hl hr hh hd0 hpg (.inr ⟨hf, hy.symm⟩)
end Go.Proofs.YtolpnloghogjjaaGreat
