/- What the model draws for chapter 18: DrawLastStamp, DrawPagesSince. Written by mk/draw_roll.py. -/
import Derived.Test.YteniikfgellhfaaDrawDev4
namespace Go.Proofs.Yteniikfgellhfaa
open Go.ChangeShapes Go.WideShapes Go.ChangeAt Go.RowKit
set_option linter.unusedVariables false
set_option linter.unusedSimpArgs false

theorem drawLastStamp_any (w : World) (A : Option Addr) (n c : Nat) (hn : n ≤ c) (hc : c ≤ 9223372036854775807) (h : Bytes w w.heap.size A n) :
    Calls Try.prog 26 #[.slice A n c] w (DevDrawn w) := by
  go_enter Try.func26, Try.ntmps26
  go_wp2_with fail
  refine (open_any _ A n c hn hc h).mono ?_
  rintro e w1 ⟨rfl, h1, hb1⟩
  go_wp2_with fail
  refine (device_any _ _ _ _ _ h1 (by omega) (by omega) (by omega)).mono ?_
  rintro e w2 ⟨A2, n2, c2, bs, a, b, h9, rfl, hl, h13, hnc, hcm, hs, _, hrow, h2, hg2, _, _⟩
  have HF := Lib.hid (hb1.trans (Below.of_grown hg2 (by omega) hb1.size))
  have HX := Lib.hid (And.intro hl (And.intro h13 (And.intro hs hrow)))
  clear h h1 h2 hb1 hg2 hrow hl hs
  go_wp2
  go_ret
  exact ⟨_, _, _, _, rfl, HX.out.1, HX.out.2.1, HX.out.2.2.1, (HX.out.2.2.2.alloc _).here, HF.out.alloc (by have := HF.out.size; exact this) _⟩
theorem drawPagesSince_any (w : World) (A : Option Addr) (n c : Nat) (hn : n ≤ c) (hc : c ≤ 9223372036854775807) (h : Bytes w w.heap.size A n) :
    Calls Try.prog 11 #[.slice A n c] w (DevNumDrawn w) := by
  go_enter Try.func11, Try.ntmps11
  go_wp2_with fail
  refine (open_any _ A n c hn hc h).mono ?_
  rintro e w1 ⟨rfl, h1, hb1⟩
  have hg1 := h1.lt
  go_wp2_with fail
  refine (device_any _ _ _ _ _ h1 (by omega) (by omega) (by omega)).mono ?_
  rintro e w2 ⟨A2, n2, c2, bs, a, b, h9, rfl, hl, h13, hnc, hcm, hs, hA, hrow, h2, hg2, hex, hP⟩
  have nA : ∀ ad, A2 = some ad → (some w.heap.size : Option Nat) ≠ some ad.block := fun ad e e2 => by have := hA ad e; injection e2 with e2; omega
  have nP : ∀ (q : Bk) (ad : Addr), q ∈ bs → q.A = some ad → (some w.heap.size : Option Nat) ≠ some ad.block := fun q ad hq e e2 => by have := hP q ad hq e; injection e2 with e2; omega
  have hz1 := hb1.size
  have hz2 := hg2.size
  have HX := Lib.hid (And.intro hl (And.intro hs (And.intro ((hrow.alloc (.cells #[.int .i64 a, .int .i64 b, .int .i64 h9] 77)).here) (And.intro (h2.alloc (.cells #[.int .i64 a, .int .i64 b, .int .i64 h9] 77)) (And.intro ((hb1.trans (Below.of_grown hg2 (by omega) hb1.size)).alloc (by omega) (.cells #[.int .i64 a, .int .i64 b, .int .i64 h9] 77)) (And.intro nA nP))))))
  clear h h1 h2 hb1 hg2 hrow hl hs hnc hcm hex hA hP nA nP
  go_wp2_with fail
  refine (pick_lt _ _ _ _ _ HX.out.2.2.2.1 (by omega) (by omega)).mono ?_
  rintro e w3 ⟨x3, rfl, u3, v3, h3, hg3⟩
  have HZ := Lib.hid (And.intro ((HX.out.2.2.1.grownNe hg3 HX.out.2.2.2.2.2.1 HX.out.2.2.2.2.2.2).here) (HX.out.2.2.2.2.1.trans (Below.of_grown hg3 (Nat.le_refl _) (by simp only [size_alloc1]; omega))))
  clear h3 hg3
  go_wp2
  go_ret2
  exact ⟨_, _, _, _, _, rfl, HX.out.1, by omega, HX.out.2.1, HZ.out.1, HZ.out.2⟩
end Go.Proofs.Yteniikfgellhfaa
