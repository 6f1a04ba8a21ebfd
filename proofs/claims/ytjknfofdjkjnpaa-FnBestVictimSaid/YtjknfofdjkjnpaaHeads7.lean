/- What the program's functions of chapter 6 answer: HeadsValid, HeadOf, and what they call.
   What the program's functions of chapter 6 answer, further: FreshBlock, blockToAppend.
   What the program's functions of chapter 6 answer, further: blockToAppend, AppendPage. -/
import Derived.Test.YtjknfofdjkjnpaaHeads6
namespace Go.Proofs.Ytjknfofdjkjnpaa
open Go.ChangeShapes Go.WideShapes Go.ChangeAt Go.RowKit

/-- A number of a block, or none. -/
def isHeadB (n : Nat) (a : Int) : Bool := (a == -1) || hasB n a
theorem isHead_any (A : Option Addr) (n c : Nat) (a : Int) (w : World) :
    Calls Try.prog 40 #[.slice A n c, .int .i64 a] w fun e w' => e = .returned (.bool (isHeadB n a)) ∧ w = w' := by
  cases h1 : (a == -1)
  · cases h2 : hasB n a
    all_goals
      have HV := Lib.hid (And.intro (show isHeadB n a = _ from by unfold isHeadB; rw [h1, h2]) h2)
      clear h2
      go_enter Try.func40, Try.ntmps40
      go_wp2_with (go_at_call 73; refine (hasBlock_val HV.out.2 _ _ _).mono ?_; rintro e w' ⟨rfl, rfl⟩)
      go_ret
      exact ⟨retB (by rw [HV.out.1]; rfl), rfl⟩
  · have HV := Lib.hid (show isHeadB n a = true from by unfold isHeadB; rw [h1]; rfl)
    go_enter Try.func40, Try.ntmps40
    go_wp2
    go_ret
    exact ⟨retB (by rw [HV.out]), rfl⟩
theorem isHead_val {n : Nat} {a : Int} {V : Bool} (h : isHeadB n a = V) (A : Option Addr) (c : Nat) (w : World) :
    Calls Try.prog 40 #[.slice A n c, .int .i64 a] w fun e w' => e = .returned (.bool V) ∧ w = w' := h ▸ isHead_any A n c a w
/-- Not the same block. -/
def apartB (a b : Int) : Bool := (a != b) || (a == -1)
theorem areApart_any (a b : Int) (w : World) :
    Calls Try.prog 74 #[.int .i64 a, .int .i64 b] w fun e w' => e = .returned (.bool (apartB a b)) ∧ w = w' := by
  cases h1 : (a != b)
  · cases h2 : (a == -1)
    all_goals
      have HV := Lib.hid (show apartB a b = _ from by unfold apartB; rw [h1, h2])
      go_enter Try.func74, Try.ntmps74
      go_wp2
      go_ret
      exact ⟨retB (by rw [HV.out]; rfl), rfl⟩
  · have HV := Lib.hid (show apartB a b = true from by unfold apartB; rw [h1]; rfl)
    go_enter Try.func74, Try.ntmps74
    go_wp2
    go_ret
    exact ⟨retB (by rw [HV.out]), rfl⟩
theorem areApart_val {a b : Int} {V : Bool} (h : apartB a b = V) (w : World) :
    Calls Try.prog 74 #[.int .i64 a, .int .i64 b] w fun e w' => e = .returned (.bool V) ∧ w = w' := h ▸ areApart_any a b w
def apart3 (a b h : Int) : Bool := apartB a b && apartB a h && apartB b h
theorem headsApart_any (a b h : Int) (w : World) :
    Calls Try.prog 41 #[.agg #[.int .i64 a, .int .i64 b, .int .i64 h]] w (KeptV (.bool (apart3 a b h)) w) := by
  cases h1 : apartB a b
  · have HV := Lib.hid (And.intro (show apart3 a b h = false from by unfold apart3; rw [h1]; rfl) h1)
    clear h1
    go_enter Try.func41, Try.ntmps41
    go_wp2_with (go_at_call 74; refine (areApart_val HV.out.2 _).mono ?_; rintro e w' ⟨rfl, rfl⟩)
    go_ret
    exact ⟨retB (by rw [HV.out.1]), grown_alloc (grown_refl _ _) _⟩
  · cases h2 : apartB a h
    · have HV := Lib.hid (And.intro (show apart3 a b h = false from by unfold apart3; rw [h1, h2]; rfl) (And.intro h1 h2))
      clear h1 h2
      go_enter Try.func41, Try.ntmps41
      go_wp2_with (go_at_call 74; first | (with_reducible refine (areApart_val HV.out.2.1 _).mono ?_; rintro e w' ⟨rfl, rfl⟩) | (with_reducible refine (areApart_val HV.out.2.2 _).mono ?_; rintro e w' ⟨rfl, rfl⟩))
      go_ret
      exact ⟨retB (by rw [HV.out.1]), grown_alloc (grown_refl _ _) _⟩
    · cases h3 : apartB b h
      all_goals
        have HV := Lib.hid (And.intro (show apart3 a b h = _ from by unfold apart3; rw [h1, h2, h3]) (And.intro h1 (And.intro h2 h3)))
        clear h1 h2 h3
        go_enter Try.func41, Try.ntmps41
        go_wp2_with (go_at_call 74; first | (with_reducible refine (areApart_val HV.out.2.1 _).mono ?_; rintro e w' ⟨rfl, rfl⟩) | (with_reducible refine (areApart_val HV.out.2.2.1 _).mono ?_; rintro e w' ⟨rfl, rfl⟩) | (with_reducible refine (areApart_val HV.out.2.2.2 _).mono ?_; rintro e w' ⟨rfl, rfl⟩))
        go_ret
        exact ⟨retB (by rw [HV.out.1]; rfl), grown_alloc (grown_refl _ _) _⟩
theorem headsApart_val {a b h : Int} {V : Bool} (hv : apart3 a b h = V) (w : World) :
    Calls Try.prog 41 #[.agg #[.int .i64 a, .int .i64 b, .int .i64 h]] w (KeptV (.bool V) w) := hv ▸ headsApart_any a b h w
theorem heads_eq (n : Nat) (a b h : Int) : headsB n a b h = (isHeadB n a && isHeadB n b && isHeadB n h && apart3 a b h) := by
  rw [Bool.eq_iff_iff]
  simp [headsB, inB, pairB, isHeadB, hasB, apart3, apartB]
  omega
theorem isOne_any (a b h j : Int) (w : World) :
    Calls Try.prog 63 #[.agg #[.int .i64 a, .int .i64 b, .int .i64 h], .int .i64 j] w (KeptV (.bool ((j == a) || (j == b) || (j == h))) w) := by
  cases h1 : (j == a)
  · cases h2 : (j == b)
    · cases h3 : (j == h)
      all_goals
        go_enter Try.func63, Try.ntmps63
        go_wp2
        go_ret
        exact ⟨rfl, grown_alloc (grown_refl _ _) _⟩
    · go_enter Try.func63, Try.ntmps63
      go_wp2
      go_ret
      exact ⟨rfl, grown_alloc (grown_refl _ _) _⟩
  · go_enter Try.func63, Try.ntmps63
    go_wp2
    go_ret
    exact ⟨rfl, grown_alloc (grown_refl _ _) _⟩
theorem isOne_val {a b h j : Int} {V : Bool} (hv : ((j == a) || (j == b) || (j == h)) = V) (w : World) :
    Calls Try.prog 63 #[.agg #[.int .i64 a, .int .i64 b, .int .i64 h], .int .i64 j] w (KeptV (.bool V) w) := hv ▸ isOne_any a b h j w
/-- The boxed heads stay, and the device. -/
theorem headsValid_any (A : Option Addr) (n c : Nat) (bs : List Bk) (a b h : Int) (w : World) (hl : bs.length = n) (hr : DRow w w.heap.size A bs) (hn : n ≤ 1048576) (hp : ∀ b, b ∈ bs → b.ps.length ≤ 1048576) :
    Calls Try.prog 13 #[.slice A n c, .agg #[.int .i64 a, .int .i64 b, .int .i64 h]] w (KeptV (.bool (headsB n a b h && devB bs)) w) := by
  have HF := Lib.hid (FIn.start (a := a) (b := b) (h := h) hr)
  have HD := Lib.hid (And.intro hl hp)
  have e0 := heads_eq n a b h
  clear hr hl hp
  cases h0 : devB bs
  · have HV := Lib.hid (And.intro h0 (show (headsB n a b h && false) = false by simp))
    clear h0 e0
    go_enter Try.func13, Try.ntmps13
    go_wp2_with fail
    refine (deviceValid_val HD.out.1 HV.out.1 _ HF.out.2.1.here hn HD.out.2).mono ?_
    rintro e w1 ⟨rfl, hk⟩
    replace HF := Lib.hid (HF.out.keep hk)
    clear hk
    go_wp2
    go_ret
    exact ⟨retB (by rw [HV.out.2]), HF.out.2.2⟩
  · cases h1 : isHeadB n a
    · have HV := Lib.hid (And.intro h0 (And.intro (show (headsB n a b h && true) = false by rw [e0, h1]; rfl) h1))
      clear h0 e0 h1
      go_enter Try.func13, Try.ntmps13
      go_wp2_with fail
      refine (deviceValid_val HD.out.1 HV.out.1 _ HF.out.2.1.here hn HD.out.2).mono ?_
      rintro e w1 ⟨rfl, hk⟩
      replace HF := Lib.hid (HF.out.keep hk)
      clear hk
      obtain ⟨p0, p1, p2⟩ := cells3 HF.out.1
      go_wp2_with (go_at_call 40; refine (isHead_val HV.out.2.2 _ _ _).mono ?_; rintro e w' ⟨rfl, rfl⟩)
      go_ret
      exact ⟨retB (by rw [HV.out.2.1]), HF.out.2.2⟩
    · cases h2 : isHeadB n b
      · have HV := Lib.hid (And.intro h0 (And.intro (show (headsB n a b h && true) = false by rw [e0, h1, h2]; rfl) (And.intro h1 h2)))
        clear h0 e0 h1 h2
        go_enter Try.func13, Try.ntmps13
        go_wp2_with fail
        refine (deviceValid_val HD.out.1 HV.out.1 _ HF.out.2.1.here hn HD.out.2).mono ?_
        rintro e w1 ⟨rfl, hk⟩
        replace HF := Lib.hid (HF.out.keep hk)
        clear hk
        obtain ⟨p0, p1, p2⟩ := cells3 HF.out.1
        go_wp2_with (go_at_call 40; first | (with_reducible refine (isHead_val HV.out.2.2.1 _ _ _).mono ?_; rintro e w' ⟨rfl, rfl⟩) | (with_reducible refine (isHead_val HV.out.2.2.2 _ _ _).mono ?_; rintro e w' ⟨rfl, rfl⟩))
        go_ret
        exact ⟨retB (by rw [HV.out.2.1]), HF.out.2.2⟩
      · cases h3 : isHeadB n h
        · have HV := Lib.hid (And.intro h0 (And.intro (show (headsB n a b h && true) = false by rw [e0, h1, h2, h3]; rfl) (And.intro h1 (And.intro h2 h3))))
          clear h0 e0 h1 h2 h3
          go_enter Try.func13, Try.ntmps13
          go_wp2_with fail
          refine (deviceValid_val HD.out.1 HV.out.1 _ HF.out.2.1.here hn HD.out.2).mono ?_
          rintro e w1 ⟨rfl, hk⟩
          replace HF := Lib.hid (HF.out.keep hk)
          clear hk
          obtain ⟨p0, p1, p2⟩ := cells3 HF.out.1
          go_wp2_with (go_at_call 40; first | (with_reducible refine (isHead_val HV.out.2.2.1 _ _ _).mono ?_; rintro e w' ⟨rfl, rfl⟩) | (with_reducible refine (isHead_val HV.out.2.2.2.1 _ _ _).mono ?_; rintro e w' ⟨rfl, rfl⟩) | (with_reducible refine (isHead_val HV.out.2.2.2.2 _ _ _).mono ?_; rintro e w' ⟨rfl, rfl⟩))
          go_ret
          exact ⟨retB (by rw [HV.out.2.1]), HF.out.2.2⟩
        · cases h4 : apart3 a b h
          all_goals
            have HV := Lib.hid (And.intro h0 (And.intro (show (headsB n a b h && true) = _ by rw [e0, h1, h2, h3, h4]) (And.intro h1 (And.intro h2 (And.intro h3 h4)))))
            clear h0 e0 h1 h2 h3 h4
            go_enter Try.func13, Try.ntmps13
            go_wp2_with fail
            refine (deviceValid_val HD.out.1 HV.out.1 _ HF.out.2.1.here hn HD.out.2).mono ?_
            rintro e w1 ⟨rfl, hk⟩
            replace HF := Lib.hid (HF.out.keep hk)
            clear hk
            obtain ⟨p0, p1, p2⟩ := cells3 HF.out.1
            go_wp2_with (first | (go_at_call 40; first | (with_reducible refine (isHead_val HV.out.2.2.1 _ _ _).mono ?_; rintro e w' ⟨rfl, rfl⟩) | (with_reducible refine (isHead_val HV.out.2.2.2.1 _ _ _).mono ?_; rintro e w' ⟨rfl, rfl⟩) | (with_reducible refine (isHead_val HV.out.2.2.2.2.1 _ _ _).mono ?_; rintro e w' ⟨rfl, rfl⟩)) | fail)
            refine (headsApart_val HV.out.2.2.2.2.2 _).mono ?_
            rintro e w2 ⟨rfl, hk⟩
            replace HF := Lib.hid (HF.out.keep hk)
            clear hk p0 p1 p2
            go_wp2
            go_ret
            exact ⟨retB (by rw [HV.out.2.1]; rfl), HF.out.2.2⟩
theorem headsValid_val {A : Option Addr} {n c : Nat} {bs : List Bk} {a b h : Int} {V : Bool} {w : World} (hV : (headsB n a b h && devB bs) = V) (hl : bs.length = n) (hr : DRow w w.heap.size A bs) (hn : n ≤ 1048576) (hp : ∀ b, b ∈ bs → b.ps.length ≤ 1048576) :
    Calls Try.prog 13 #[.slice A n c, .agg #[.int .i64 a, .int .i64 b, .int .i64 h]] w (KeptV (.bool V) w) := hV ▸ headsValid_any A n c bs a b h w hl hr hn hp
end Go.Proofs.Ytjknfofdjkjnpaa
namespace Go.Proofs.Ytjknfofdjkjnpaa
open Go.ChangeShapes Go.WideShapes Go.ChangeAt Go.RowKit

theorem next_count {m : Int} {ps : List Pg} (h : blockB m ps = true) : (nextV m ps == 0) = decide (((cntF ps : Nat) : Int) ≤ 0) := by
  unfold nextV
  rw [if_pos h, Bool.eq_iff_iff]
  by_cases h4 : cntF ps = 4
  · rw [if_pos h4]; simp; omega
  · rw [if_neg h4]; simp
end Go.Proofs.Ytjknfofdjkjnpaa
namespace Go.Proofs.Ytjknfofdjkjnpaa
open Go.ChangeShapes Go.WideShapes Go.ChangeAt Go.RowKit

/-- Which block is appended to. -/
def ToIs (bs : List Bk) (a b h : Int) (j : Nat) (r : Int) : Prop := (∃ (k : Nat) (m : Int) (ps : List Pg), hd a b h j = (k : Int) ∧ (bs.map Bk.is)[k]? = some (m, ps) ∧ 0 ≤ nextV m ps ∧ r = (k : Int)) ∨ (FullHead bs a b h j ∧ r = freshV bs a b h)
theorem ToIs.of {bs cs : List Bk} {a b h : Int} {j : Nat} {r : Int} (H : ToIs bs a b h j r) (hc : cs.map Bk.is = bs.map Bk.is) : ToIs cs a b h j r := by
  unfold ToIs FullHead
  rw [hc, fresh_same hc]
  exact H
theorem hset_same {a b h v : Int} {j : Nat} (hx : hd a b h j = v) : hset a b h j v = (a, b, h) := by
  subst hx
  match j with
  | 0 => rfl
  | 1 => rfl
  | j + 2 => rfl
/-- What of other arguments is returned: no device, no heads, -1. -/
theorem appMade_nil {w wr : World} (h : w.grownBy wr none) {D : Nat} (hw : w.heap.size ≤ D) (u0 u1 u2 : Value) :
    AppMade [] 0 0 0 0 (-1) w (.returned (.tuple #[.slice none 0 0, .agg #[.int .i64 0, .int .i64 0, .int .i64 0], .int .i64 (-1)])) (((wr.setCell ⟨D, 0, none⟩ u0).setCell ⟨D, 1, none⟩ u1).setCell ⟨D, 2, none⟩ u2) :=
  ⟨none, 0, [], rfl, rfl, rfl, ⟨World.ownsRow_nil _ _ _ _, fun b hb => by simp at hb, fun i j b b' a a' _ hi => by simp at hi⟩, grown_put3 h hw u0 u1 u2⟩
end Go.Proofs.Ytjknfofdjkjnpaa
