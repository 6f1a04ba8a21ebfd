/- What the model draws for chapter 16. -/
import Derived.Test.YtpdkfgihpchkiaaDrawHeads2
import Derived.Test.YtpdkfgihpchkiaaDrawDev4
import Derived.Test.YtpdkfgihpchkiaaDrawBlocks4
namespace Go.Proofs.Ytpdkfgihpchkiaa
open Go.ChangeShapes Go.WideShapes Go.ChangeAt Go.RowKit

theorem drawWearSpread_any (w : World) (A : Option Addr) (n c : Nat) (hn : n ≤ c) (hc : c ≤ 9223372036854775807) (h : Bytes w w.heap.size A n) :
    Calls Try.prog 28 #[.slice A n c] w (DevDrawn2 w) := by
  go_enter Try.func28, Try.ntmps28
  go_wp2_with fail
  refine (open_any _ A n c hn hc h).mono ?_
  rintro e w1 ⟨rfl, h1, hb1⟩
  go_wp2_with fail
  refine (device_any _ _ _ _ _ h1 (by omega) (by omega) (by omega)).mono ?_
  rintro e w2 ⟨A2, n2, c2, bs, a, b, h9, rfl, hl, h13, hnc, hcm, hs, _, hrow, h2, hg2, hex, _⟩
  have HF := Lib.hid (hb1.trans (Below.of_grown hg2 (by omega) hb1.size))
  have HX := Lib.hid (And.intro hl (And.intro h13 (And.intro hs (And.intro hrow (And.intro hnc (And.intro hcm hex))))))
  clear h h1 h2 hb1 hg2 hrow hl hs hnc hcm hex
  go_wp2
  go_ret
  exact ⟨_, _, _, _, rfl, HX.out.1, HX.out.2.1, HX.out.2.2.2.2.1, HX.out.2.2.2.2.2.1, HX.out.2.2.1, (HX.out.2.2.2.1.alloc _).here, HF.out.alloc (by have := HF.out.size; exact this) _, HX.out.2.2.2.2.2.2⟩
theorem drawWearTotal_any (w : World) (A : Option Addr) (n c : Nat) (hn : n ≤ c) (hc : c ≤ 9223372036854775807) (h : Bytes w w.heap.size A n) :
    Calls Try.prog 31 #[.slice A n c] w (DevDrawn2 w) := by
  go_enter Try.func31, Try.ntmps31
  go_wp2_with fail
  refine (open_any _ A n c hn hc h).mono ?_
  rintro e w1 ⟨rfl, h1, hb1⟩
  go_wp2_with fail
  refine (device_any _ _ _ _ _ h1 (by omega) (by omega) (by omega)).mono ?_
  rintro e w2 ⟨A2, n2, c2, bs, a, b, h9, rfl, hl, h13, hnc, hcm, hs, _, hrow, h2, hg2, hex, _⟩
  have HF := Lib.hid (hb1.trans (Below.of_grown hg2 (by omega) hb1.size))
  have HX := Lib.hid (And.intro hl (And.intro h13 (And.intro hs (And.intro hrow (And.intro hnc (And.intro hcm hex))))))
  clear h h1 h2 hb1 hg2 hrow hl hs hnc hcm hex
  go_wp2
  go_ret
  exact ⟨_, _, _, _, rfl, HX.out.1, HX.out.2.1, HX.out.2.2.2.2.1, HX.out.2.2.2.2.2.1, HX.out.2.2.1, (HX.out.2.2.2.1.alloc _).here, HF.out.alloc (by have := HF.out.size; exact this) _, HX.out.2.2.2.2.2.2⟩
theorem drawWearVictim_any (w : World) (A : Option Addr) (n c : Nat) (hn : n ≤ c) (hc : c ≤ 9223372036854775807) (h : Bytes w w.heap.size A n) :
    Calls Try.prog 34 #[.slice A n c] w (DevHeadsDrawn w) := by
  have h0 := h.alloc (.cells #[.int .i64 0, .int .i64 0, .int .i64 0] 25)
  go_enter Try.func34, Try.ntmps34
  go_wp2_with fail
  refine (open_any _ A n c hn hc h0).mono ?_
  rintro e w1 ⟨rfl, h1, hb1⟩
  (try simp only [size_of_alloc] at h1 hb1)
  have hr1 := (Blk.new w 25 #[.int .i64 0, .int .i64 0, .int .i64 0]).below hb1 (by omega)
  have hg1 := h1.lt
  have hz1 := hb1.size
  (try simp only [size_of_alloc] at hz1)
  go_wp2_with fail
  refine (heads_any _ _ _ _ _ h1 (by omega) (by omega) (by omega)).mono ?_
  rintro e w2 ⟨A2, n2, c2, bs, a, b, h9, rfl, hl, h13, hnc, hcm, hs, hA, hrow, h2, hg2, hex, hP⟩
  have hz2 := hg2.size
  have nA : ∀ ad, A2 = some ad → w.heap.size + 1 < ad.block := fun ad e => by have := hA ad e; omega
  have nP : ∀ (q : Bk) (ad : Addr), q ∈ bs → q.A = some ad → w.heap.size + 1 < ad.block := fun q ad hq e => by have := hP q ad hq e; omega
  have hbl := (((Below.refl w.heap.size w).alloc (Nat.le_refl _) (.cells #[.int .i64 0, .int .i64 0, .int .i64 0] 25)).trans (hb1.mono (by omega))).trans (Below.of_grown hg2 (by omega) (by omega))
  have hr2 := hr1.grown hg2 (by intro e; injection e with e; omega)
  have HN := Lib.hid (And.intro hl (And.intro hs h13))
  have HQ := Lib.hid hr2
  have HX := Lib.hid (And.intro nA nP)
  have HL : RowKit.Hid (LD w A2 bs w2) := Lib.hid ⟨hrow, hbl⟩
  obtain ⟨d0, d1, d2⟩ := cells3 hr2
  obtain ⟨f0, f1, f2⟩ := frozen3 hr2
  clear h h0 h1 h2 hb1 hr1 hg2 hrow hl hs hnc hcm hex hA hP nA nP hbl hr2
  go_wp2
  exact bodyPost_ret (v := .tuple #[.slice A2 n2 c2, .agg #[.int .i64 a, .int .i64 b, .int .i64 h9]]) (by simp [results, Try.results34, go_sem, *]) rfl
    ⟨_, _, _, _, _, _, _, rfl, HN.out.1, HN.out.2.2, HN.out.2.1, ((HL.out.far HX.out.1 HX.out.2 (Nat.le_succ _) (Nat.le_refl _) _).far HX.out.1 HX.out.2 (Nat.le_succ _) (Nat.le_refl _) _).far HX.out.1 HX.out.2 (Nat.le_succ _) (Nat.le_refl _) _⟩
theorem drawEraseAt_any (w : World) (A : Option Addr) (n c : Nat) (hn : n ≤ c) (hc : c ≤ 9223372036854775807) (h : Bytes w w.heap.size A n) :
    Calls Try.prog 49 #[.slice A n c] w (DevNumDrawn w) := by
  go_enter Try.func49, Try.ntmps49
  go_wp2_with fail
  refine (open_any _ A n c hn hc h).mono ?_
  rintro e w1 ⟨rfl, h1, hb1⟩
  have hg1 := h1.lt
  go_wp2_with fail
  refine (device_any _ _ _ _ _ h1 (by omega) (by omega) (by omega)).mono ?_
  rintro e w2 ⟨A2, n2, c2, bs, a, b, h9, rfl, hl, h13, hnc, hcm, hs, hA, hrow, h2, hg2, hex, hP⟩
  have nA : ∀ ad, A2 = some ad → (some w.heap.size : Option Nat) ≠ some ad.block := fun ad e e2 => by have := hA ad e; injection e2 with e2; omega
  have nP : ∀ (q : Bk) (ad : Addr), q ∈ bs → q.A = some ad → (some w.heap.size : Option Nat) ≠ some ad.block := fun q ad hq e e2 => by have := hP q ad hq e; injection e2 with e2; omega
  have hz1 := hb1.size
  have hz2 := hg2.size
  have HX := Lib.hid (And.intro hl (And.intro hs (And.intro ((hrow.alloc (.cells #[.int .i64 a, .int .i64 b, .int .i64 h9] 25)).here) (And.intro (h2.alloc (.cells #[.int .i64 a, .int .i64 b, .int .i64 h9] 25)) (And.intro ((hb1.trans (Below.of_grown hg2 (by omega) hb1.size)).alloc (by omega) (.cells #[.int .i64 a, .int .i64 b, .int .i64 h9] 25)) (And.intro nA nP))))))
  clear h h1 h2 hb1 hg2 hrow hl hs hnc hcm hex hA hP nA nP
  go_wp2_with fail
  refine (pick_lt _ _ _ _ _ HX.out.2.2.2.1 (by omega) (by omega)).mono ?_
  rintro e w3 ⟨x3, rfl, u3, v3, h3, hg3⟩
  have HY := Lib.hid (And.intro ((HX.out.2.2.1.grownNe hg3 HX.out.2.2.2.2.2.1 HX.out.2.2.2.2.2.2).here) (And.intro h3 (HX.out.2.2.2.2.1.trans (Below.of_grown hg3 (Nat.le_refl _) (by simp only [size_alloc1]; omega)))))
  clear h3 hg3
  go_wp2_with fail
  refine (pick_lt _ _ _ _ _ HY.out.2.1 (by omega) (by omega)).mono ?_
  rintro e w4 ⟨x4, rfl, u4, v4, h4, hg4⟩
  have HZ := Lib.hid (And.intro ((HY.out.1.grownNe hg4 HX.out.2.2.2.2.2.1 HX.out.2.2.2.2.2.2).here) (HY.out.2.2.trans (Below.of_grown hg4 (Nat.le_refl _) HY.out.2.2.size)))
  clear h4 hg4
  go_wp2
  go_ret2
  exact ⟨_, _, _, _, _, rfl, HX.out.1, by omega, HX.out.2.1, HZ.out.1, HZ.out.2⟩
theorem drawNewDevice_any (w : World) (A : Option Addr) (n c : Nat) (hn : n ≤ c) (hc : c ≤ 9223372036854775807) (h : Bytes w w.heap.size A n) :
    Calls Try.prog 45 #[.slice A n c] w (NumDrawn w) := by
  go_enter Try.func45, Try.ntmps45
  go_wp2_with fail
  refine (open_any _ A n c hn hc h).mono ?_
  rintro e w1 ⟨rfl, h1, hb1⟩
  go_wp2_with fail
  refine (pick_lt _ _ _ _ _ h1 (by omega) (by omega)).mono ?_
  rintro e w2 ⟨x1, rfl, u1, v1, h2, hg2⟩
  have HB := Lib.hid (hb1.trans (Below.of_grown hg2 (Nat.le_refl _) hb1.size))
  clear h h1 h2 hb1 hg2
  go_wp2
  go_ret
  exact ⟨_, rfl, HB.out⟩
end Go.Proofs.Ytpdkfgihpchkiaa
