/- For a region that draws its order and makes memory: states that several orders lead to are walked once.
   What the model draws for chapter 13: a device, a table and heads.
   What the model draws for chapter 13, further: numbers of used pages and ages; a device, a table, heads and a time.
   What the model draws for chapter 13, further: a device, a table, heads and a time.
   Plain facts that the laws of chapter 13 ask. -/
import Derived.Test.YtjknfofdjkjnpaaHand
import Derived.Test.YtjknfofdjkjnpaaBlocks
import Derived.Test.YtjknfofdjkjnpaaDrawCounts
import Derived.Test.YtjknfofdjkjnpaaVicts
import Derived.Test.YtjknfofdjkjnpaaCountFacts
namespace Go.Proofs.Ytjknfofdjkjnpaa
open Go.ChangeShapes Go.WideShapes Go.ChangeAt Go.RowKit

/-- Something that is shown later, once. -/
theorem mrg {G R : Prop} (h : RowKit.Hid G → R) (g : G) : R := h (Lib.hid g)
section
variable {P : Program} {ops : Array Oper} {Q : Exit → Act → World → Prop} {md : Region.Mode} {S S' : World → Prop}
/-- More may be kept than is asked. -/
theorem wpAnyH_to (hS : ∀ w, S' w → S w) : ∀ (fuel : Nat) (listed : Array Bool) (a : Act) (w : World), wpAnyH P md ops Q S' fuel listed a w → wpAnyH P md ops Q S fuel listed a w
  | 0, _, _, _, h => h
  | fuel + 1, _, _, _, h => ⟨h.1, fun i hi => wpOp_mono (fun a' w' h' => ⟨hS w' h'.1, wpAnyH_to hS fuel _ a' w' h'.2⟩) (h.2 i hi)⟩
end
end Go.Proofs.Ytjknfofdjkjnpaa
namespace Go.Proofs.Ytjknfofdjkjnpaa
open Go.ChangeShapes Go.WideShapes Go.ChangeAt Go.RowKit
set_option linter.unusedVariables false
set_option linter.unusedSimpArgs false

/-- A reader that was opened, nothing that was there is written. -/
def OSt (w : World) (B g Q : Nat) (wr : World) : Prop := Rd wr B g Q ∧ Below w.heap.size w wr ∧ B ≤ w.heap.size ∧ w.heap.size ≤ g
section
variable {w wr w' : World} {B g Q Q' : Nat}
theorem OSt.rd (H : OSt w B g Q wr) : Rd wr B g Q := H.1
theorem OSt.grown (H : OSt w B g Q wr) (hg : wr.grownBy w' (some g)) (hr : Rd w' B g Q') : OSt w B g Q' w' := ⟨hr, H.2.1.trans (Below.of_grown hg H.2.2.2 H.2.1.size), H.2.2⟩
theorem OSt.kept (H : OSt w B g Q wr) (hg : wr.grownBy w' none) : OSt w B g Q w' := ⟨H.1.grown hg (by intro k e; cases e), Below.and_kept H.2.1 hg, H.2.2⟩
theorem OSt.fresh (H : OSt w B g Q wr) : wr.heap.size ≠ g ∧ w.heap.size ≤ wr.heap.size := ⟨by have := H.1.lt; omega, H.2.1.size⟩
theorem OSt.far (H : OSt w B g Q wr) : w.heap.size ≤ g := H.2.2.2
end
/-- A device and a table in blocks from lo on, a reader (v: that still reads) behind the first blocks of the call, and nothing that was there is written. -/
def BV (w : World) (B g Q : Nat) (v : Bool) (lo : Nat) (D : Option Addr) (nd : Nat) (bs : List Bk) (A : Option Addr) (n : Nat) (ls : List Li) (wr : World) : Prop :=
  (bs.length = nd ∧ nd ≤ 13 ∧ ∀ q, q ∈ bs → q.ps.length ≤ 4) ∧ (ls.length = n ∧ n ≤ 8 ∧ ∀ l, l ∈ ls → l.xs.length ≤ 6) ∧ (DZ lo wr.heap.size D bs wr ∧ TRow wr wr.heap.size A ls ∧ TFar lo A ls) ∧ Below w.heap.size w wr ∧ (v = true → Rd wr B g Q) ∧ w.heap.size + 2 ≤ g ∧ g < lo ∧ lo ≤ wr.heap.size
section
variable {w wr w' : World} {B g Q Q' lo nd n : Nat} {v : Bool} {D A : Option Addr} {bs : List Bk} {ls : List Li}
theorem BV.rd (H : BV w B g Q true lo D nd bs A n ls wr) : Rd wr B g Q := H.2.2.2.2.1 rfl
theorem BV.far (H : BV w B g Q v lo D nd bs A n ls wr) : w.heap.size + 2 ≤ g := H.2.2.2.2.2.1
theorem BV.fresh (H : BV w B g Q v lo D nd bs A n ls wr) : wr.heap.size ≠ g ∧ w.heap.size + 2 ≤ wr.heap.size := by
  obtain ⟨_, _, _, _, _, h9, h10, h11⟩ := H
  exact ⟨by omega, by omega⟩
theorem DZ.moreHi {lo hi hi' : Nat} (h : DZ lo hi D bs wr) (hh : hi ≤ hi') : DZ lo hi' D bs wr := ⟨h.1.more hh, h.2⟩
theorem BV.grown (H : BV w B g Q v lo D nd bs A n ls wr) (hg : wr.grownBy w' (some g)) (hr : Rd w' B g Q') : BV w B g Q' v lo D nd bs A n ls w' := by
  obtain ⟨h1, h2, ⟨h3, h4, h5⟩, h6, h7, h9, h10, h11⟩ := H
  have hz := hg.size
  exact ⟨h1, h2, ⟨(h3.grown hg (fun k e => by injection e with e; omega)).moreHi hz, (h4.grownLo h5 hg h10).here, h5⟩, h6.trans (Below.of_grown hg (by omega) h6.size), fun _ => hr, h9, h10, by omega⟩
theorem BV.kept (H : BV w B g Q v lo D nd bs A n ls wr) (hg : wr.grownBy w' none) : BV w B g Q v lo D nd bs A n ls w' := by
  obtain ⟨h1, h2, ⟨h3, h4, h5⟩, h6, h7, h9, h10, h11⟩ := H
  have hz := hg.size
  exact ⟨h1, h2, ⟨(h3.grown hg (fun k e => by cases e)).moreHi hz, (h4.kept hg).here, h5⟩, Below.and_kept h6 hg, fun e => (h7 e).grown hg (by intro k e; cases e), h9, h10, by omega⟩
theorem BV.put (H : BV w B g Q v lo D nd bs A n ls wr) {p : Addr} (hp : p.block = w.heap.size ∨ p.block = w.heap.size + 1) (u : Value) : BV w B g Q false lo D nd bs A n ls (wr.setCell p u) := by
  obtain ⟨h1, h2, ⟨h3, h4, h5⟩, h6, h7, h9, h10, h11⟩ := H
  have hs : (wr.setCell p u).heap.size = wr.heap.size := by simp [World.setCell]
  refine ⟨h1, h2, ⟨?_, ?_, h5⟩, h6.setCell (by omega) u, fun e => (by cases e), h9, h10, by rw [hs]; exact h11⟩
  · rw [hs]; exact h3.put (.inl (by omega)) u
  · rw [hs]; exact h4.putLo h5 (by omega) u
theorem BV.pair (H : BV w B g Q v lo D nd bs A n ls wr) : Pair12 w D nd bs A n ls wr := by
  obtain ⟨h1, h2, ⟨h3, h4, h5⟩, h6, h7, h9, h10, h11⟩ := H
  exact ⟨h1, h2, ⟨h3.1, fun ad e => by have := h3.2.1 ad e; omega, fun q ad hq e => by have := h3.2.2 q ad hq e; omega⟩, h4, h5.more (by omega), h6⟩
/-- What l20Both has drawn, with the blocks ahead of it. -/
theorem BV.start {w1 w2 : World} (hb : Below w.heap.size w w1) (h0 : w.heap.size + 2 ≤ g) (hgl : g < w1.heap.size) (h1 : bs.length = nd ∧ nd ≤ 13 ∧ ∀ q, q ∈ bs → q.ps.length ≤ 4) (h2 : DZ w1.heap.size w2.heap.size D bs w2) (h3 : ls.length = n ∧ n ≤ 8 ∧ ∀ l, l ∈ ls → l.xs.length ≤ 6) (h4 : TRow w2 w2.heap.size A ls) (h5 : TFar w1.heap.size A ls) (h6 : Rd w2 B g Q) (h7 : w1.grownBy w2 (some g)) :
    BV w B g Q true w1.heap.size D nd bs A n ls w2 :=
  ⟨h1, h3, ⟨h2, h4, h5⟩, hb.trans (Below.of_grown h7 (by omega) hb.size), fun _ => h6, h0, hgl, h7.size⟩
end
/-- A device, a table and heads are drawn. -/
def VictDrawn (w : World) (e : Ending) (w' : World) : Prop :=
  ∃ (D : Option Addr) (nd cd : Nat) (bs : List Bk) (A : Option Addr) (n c : Nat) (ls : List Li) (a b h : Int), e = .returned (.tuple #[.slice D nd cd, .agg #[.slice A n c], .agg #[.int .i64 a, .int .i64 b, .int .i64 h]]) ∧ Pair12 w D nd bs A n ls w'
set_option maxRecDepth 8000 in
set_option maxHeartbeats 4000000 in
theorem drawGreedy_any (w : World) (A : Option Addr) (n c : Nat) (hn : n ≤ c) (hc : c ≤ 9223372036854775807) (h : Bytes w w.heap.size A n) :
    Calls Try.prog 9 #[.slice A n c] w (VictDrawn w) := by
  have h0 := (h.alloc (.cells #[.slice none 0 0] 26)).alloc (.cells #[.int .i64 0, .int .i64 0, .int .i64 0] 28)
  go_enter Try.func9, Try.ntmps9
  go_wp2_with fail
  refine (open_any _ A n c hn hc h0).mono ?_
  rintro e w1 ⟨rfl, h1, hb1⟩
  (try simp only [size_of_alloc] at h1 hb1)
  have hr0 := ((Blk.new w 26 #[.slice none 0 0]).alloc (.cells #[.int .i64 0, .int .i64 0, .int .i64 0] 28)).below hb1 (by omega)
  have hr1 : Blk w1 (w.heap.size + 1) 28 #[.int .i64 0, .int .i64 0, .int .i64 0] := by
    have h9 := Blk.new (w.alloc (.cells #[.slice none 0 0] 26)) 28 #[.int .i64 0, .int .i64 0, .int .i64 0]
    rw [size_alloc1] at h9
    exact h9.below hb1 (by omega)
  have hg1 := h1.lt
  have hz1 := hb1.size
  (try simp only [size_of_alloc] at hz1)
  have hbw : Below w.heap.size w w1 := (((Below.refl w.heap.size w).alloc (Nat.le_refl _) (.cells #[.slice none 0 0] 26)).alloc (by simp) (.cells #[.int .i64 0, .int .i64 0, .int .i64 0] 28)).trans (hb1.mono (by omega))
  go_wp2_with fail
  refine (both_any _ _ _ _ 14 h1 (by omega) (by omega) (by omega)).mono ?_
  rintro e w2 ⟨D, nd, cd, bs, A2, n2, c2, ls, a, b, h9, rfl, hbs, hDZ, hls, hrow, hfar, h2, hg2⟩
  have HS := Lib.hid (BV.start hbw (by omega) hg1 hbs hDZ hls hrow hfar h2 hg2)
  have HR0 := Lib.hid (hr0.grown hg2 (by intro e; injection e with e; omega))
  have HR1 := Lib.hid (hr1.grown hg2 (by intro e; injection e with e; omega))
  clear h h0 h1 h2 hb1 hr0 hr1 hg1 hz1 hbw hbs hDZ hls hrow hfar hg2
  have r0 := HR0.out.cell 0
  have r1 := HR0.out.frozen 0
  have q0 := HR1.out.cell 0
  have q1 := HR1.out.cell 1
  have q2 := HR1.out.cell 2
  have f0 := HR1.out.frozen 0
  have f1 := HR1.out.frozen 1
  have f2 := HR1.out.frozen 2
  go_wp2
  have HO := Lib.hid ((((HS.out.put (p := ⟨w.heap.size, 0, none⟩) (.inl rfl) (.slice A2 n2 c2)).put (p := ⟨w.heap.size + 1, 0, none⟩) (.inr rfl) (.int .i64 a)).put (p := ⟨w.heap.size + 1, 1, none⟩) (.inr rfl) (.int .i64 b)).put (p := ⟨w.heap.size + 1, 2, none⟩) (.inr rfl) (.int .i64 h9)).pair
  exact bodyPost_ret (v := .tuple #[.slice D nd cd, .agg #[.slice A2 n2 c2], .agg #[.int .i64 a, .int .i64 b, .int .i64 h9]]) (by simp [results, Try.results9, go_sem, *]) rfl ⟨_, _, _, _, _, _, _, _, _, _, _, rfl, HO.out⟩
end Go.Proofs.Ytjknfofdjkjnpaa
namespace Go.Proofs.Ytjknfofdjkjnpaa
open Go.ChangeShapes Go.WideShapes Go.ChangeAt Go.RowKit
set_option linter.unusedVariables false
set_option linter.unusedSimpArgs false

/-- Two numbers are drawn. -/
def ScoreDrawn (w : World) (e : Ending) (w' : World) : Prop := ∃ u v : Int, e = .returned (.tuple #[.int .i64 u, .int .i64 v]) ∧ Below w.heap.size w w'
theorem litV7 (y : Nat) (h : y < 7) : ∃ z : Nat, z < 4 ∧ (#[Value.int .i64 0, .int .i64 0, .int .i64 0, .int .i64 0, .int .i64 1, .int .i64 2, .int .i64 3] : Array Value)[y]? = some (.int .i64 (z : Int)) := by
  have h1 : y = 0 ∨ y = 1 ∨ y = 2 ∨ y = 3 ∨ y = 4 ∨ y = 5 ∨ y = 6 := by omega
  rcases h1 with rfl | rfl | rfl | rfl | rfl | rfl | rfl
  · exact ⟨0, by omega, rfl⟩
  · exact ⟨0, by omega, rfl⟩
  · exact ⟨0, by omega, rfl⟩
  · exact ⟨0, by omega, rfl⟩
  · exact ⟨1, by omega, rfl⟩
  · exact ⟨2, by omega, rfl⟩
  · exact ⟨3, by omega, rfl⟩
theorem litV4 (z : Nat) (h : z < 4) (a b d e : Int) : ∃ v : Int, (#[Value.int .i64 a, .int .i64 b, .int .i64 d, .int .i64 e] : Array Value)[z]? = some (.int .i64 v) := by
  have h1 : z = 0 ∨ z = 1 ∨ z = 2 ∨ z = 3 := by omega
  rcases h1 with rfl | rfl | rfl | rfl
  · exact ⟨a, rfl⟩
  · exact ⟨b, rfl⟩
  · exact ⟨d, rfl⟩
  · exact ⟨e, rfl⟩
set_option maxRecDepth 8000 in
set_option maxHeartbeats 4000000 in
theorem drawScore_any (w : World) (A : Option Addr) (n c : Nat) (hn : n ≤ c) (hc : c ≤ 9223372036854775807) (h : Bytes w w.heap.size A n) :
    Calls Try.prog 16 #[.slice A n c] w (ScoreDrawn w) := by
  go_enter Try.func16, Try.ntmps16
  go_wp2_with fail
  refine (open_any w A n c hn hc h).mono ?_
  rintro e w1 ⟨rfl, h1, hb1⟩
  have HS := Lib.hid (show OSt w w.heap.size w.heap.size _ w1 from ⟨h1, hb1, Nat.le_refl _, Nat.le_refl _⟩)
  clear h h1 hb1
  go_wp2_with fail
  refine (pick_lt _ _ _ _ _ HS.out.rd (by omega) (by omega)).mono ?_
  rintro e w2 ⟨x, rfl, x0, x1, h2, hg2⟩
  replace HS := Lib.hid (HS.out.grown hg2 h2)
  clear h2 hg2
  go_wp2_with fail
  refine (pick_lt _ _ _ _ _ HS.out.rd (by omega) (by omega)).mono ?_
  rintro e w3 ⟨y, rfl, y0, y1, h3, hg3⟩
  replace HS := Lib.hid (HS.out.grown hg3 h3)
  clear h3 hg3
  obtain ⟨u, hu⟩ : ∃ u, x - y.tdiv 13 = u := ⟨_, rfl⟩
  go_wp2_with fail
  apply mrg
  intro key9
  apply mrg
  intro key8
  apply mrg
  intro key7
  apply mrg
  intro key6
  apply mrg
  intro key5
  apply mrg
  intro key4
  apply mrg
  intro key3
  apply mrg
  intro key2
  apply mrg
  intro key1
  apply mrg
  intro key0
  · have HS := Lib.hid (HS.out.kept (grown_drew (grown_refl w3 none)))
    have hS0 : True := trivial
    refine wp_region_held_drew (S := (fun w' => True)) (by kernel_rfl) ?_ (fun hX => ?_)
    · exact hS0
    have hHeld := hS0
    clear hS0 hX
    refine heldY 0 14 ?_
    refine heldY 1 15 ?_
    refine heldY 5 19 ?_
    generalize (World.drew w3) = wn at hHeld HS ⊢
    revert HS
    revert hHeld
    revert wn
    exact key0.out
  · intro wz hHeld HS
    refine wpAnyH_ready (rs := [2, 4]) (by kernel_rfl) (by simp) ?_
    refine AllReadyH.cons rfl (fun K hK => ?_) (AllReadyH.cons rfl (fun K hK => ?_) AllReadyH.nil)
    · go_simp
      go_at_call 45
      refine (pick_lt _ _ _ _ _ HS.out.rd (by omega) (by omega)).mono ?_
      rintro e wn ⟨x2, rfl, hu, hv, h4, hg4⟩
      have HB2 := Lib.hid (And.intro hu hv)
      have hS1 : True := trivial
      replace HS := Lib.hid (HS.out.grown hg4 h4)
      clear hHeld
      clear hu hv h4 hg4
      refine hK.out _ _ hS1 (fun hX => ?_)
      clear hK K hX
      try simp only [Act.put, List.setIfInBounds_toArray, List.set_cons_zero, List.set_cons_succ]
      have hHeld := hS1
      clear hS1
      revert HB2
      revert HS
      revert hHeld
      revert x2
      revert wn
      exact key1.out
    · go_simp
      have HP4 := Lib.hid HS.out.fresh
      have hB0 := Blk.new wz 3 #[.int .i64 0, .int .i64 0, .int .i64 0, .int .i64 0, .int .i64 1, .int .i64 2, .int .i64 3]
      have hS1 : True := trivial
      replace HS := Lib.hid (HS.out.kept (grown_alloc (grown_refl wz none) (.cells #[.int .i64 0, .int .i64 0, .int .i64 0, .int .i64 0, .int .i64 1, .int .i64 2, .int .i64 3] 3)))
      clear hHeld
      refine hK.out _ _ hS1 (fun hX => ?_)
      clear hK K hX
      try simp only [Act.put, List.setIfInBounds_toArray, List.set_cons_zero, List.set_cons_succ]
      generalize wz.heap.size = p4 at HP4 hB0 ⊢
      generalize (World.alloc wz (.cells #[.int .i64 0, .int .i64 0, .int .i64 0, .int .i64 0, .int .i64 1, .int .i64 2, .int .i64 3] 3)) = wn at hS1 HS hB0 ⊢
      refine wpAnyH_to (S' := (fun w' => Blk w' p4 3 #[.int .i64 0, .int .i64 0, .int .i64 0, .int .i64 0, .int .i64 1, .int .i64 2, .int .i64 3])) (fun w' h => trivial) _ _ _ _ ?_
      have hHeld : Blk wn p4 3 #[.int .i64 0, .int .i64 0, .int .i64 0, .int .i64 0, .int .i64 1, .int .i64 2, .int .i64 3] := hB0
      clear hS1 hB0
      revert HP4
      revert HS
      revert hHeld
      revert p4
      revert wn
      exact key2.out
  · intro wz x2 hHeld HS HB2
    refine wpAnyH_ready (rs := [3, 4, 6]) (by kernel_rfl) (by simp) ?_
    refine AllReadyH.cons rfl (fun K hK => ?_) (AllReadyH.cons rfl (fun K hK => ?_) (AllReadyH.cons rfl (fun K hK => ?_) AllReadyH.nil))
    · go_simp
      have HP3 := Lib.hid HS.out.fresh
      have hB0 := Blk.new wz 3 #[.int .i64 x2, .int .i64 1000000, .int .i64 1000001, .int .i64 (-1)]
      have hS1 : True := trivial
      replace HS := Lib.hid (HS.out.kept (grown_alloc (grown_refl wz none) (.cells #[.int .i64 x2, .int .i64 1000000, .int .i64 1000001, .int .i64 (-1)] 3)))
      clear hHeld
      refine hK.out _ _ hS1 (fun hX => ?_)
      clear hK K hX
      try simp only [Act.put, List.setIfInBounds_toArray, List.set_cons_zero, List.set_cons_succ]
      generalize wz.heap.size = p3 at HP3 hB0 ⊢
      generalize (World.alloc wz (.cells #[.int .i64 x2, .int .i64 1000000, .int .i64 1000001, .int .i64 (-1)] 3)) = wn at hS1 HS hB0 ⊢
      refine wpAnyH_to (S' := (fun w' => Blk w' p3 3 #[.int .i64 x2, .int .i64 1000000, .int .i64 1000001, .int .i64 (-1)])) (fun w' h => trivial) _ _ _ _ ?_
      have hHeld : Blk wn p3 3 #[.int .i64 x2, .int .i64 1000000, .int .i64 1000001, .int .i64 (-1)] := hB0
      clear hS1 hB0
      revert HP3
      revert HB2
      revert HS
      revert hHeld
      revert p3
      revert x2
      revert wn
      exact key3.out
    · go_simp
      have HP4 := Lib.hid HS.out.fresh
      have hB0 := Blk.new wz 3 #[.int .i64 0, .int .i64 0, .int .i64 0, .int .i64 0, .int .i64 1, .int .i64 2, .int .i64 3]
      have hS1 : True := trivial
      replace HS := Lib.hid (HS.out.kept (grown_alloc (grown_refl wz none) (.cells #[.int .i64 0, .int .i64 0, .int .i64 0, .int .i64 0, .int .i64 1, .int .i64 2, .int .i64 3] 3)))
      clear hHeld
      refine hK.out _ _ hS1 (fun hX => ?_)
      clear hK K hX
      try simp only [Act.put, List.setIfInBounds_toArray, List.set_cons_zero, List.set_cons_succ]
      generalize wz.heap.size = p4 at HP4 hB0 ⊢
      generalize (World.alloc wz (.cells #[.int .i64 0, .int .i64 0, .int .i64 0, .int .i64 0, .int .i64 1, .int .i64 2, .int .i64 3] 3)) = wn at hS1 HS hB0 ⊢
      refine wpAnyH_to (S' := (fun w' => Blk w' p4 3 #[.int .i64 0, .int .i64 0, .int .i64 0, .int .i64 0, .int .i64 1, .int .i64 2, .int .i64 3])) (fun w' h => trivial) _ _ _ _ ?_
      have hHeld : Blk wn p4 3 #[.int .i64 0, .int .i64 0, .int .i64 0, .int .i64 0, .int .i64 1, .int .i64 2, .int .i64 3] := hB0
      clear hS1 hB0
      revert HP4
      revert HB2
      revert HS
      revert hHeld
      revert p4
      revert x2
      revert wn
      exact key4.out
    · go_simp
      go_at_call 45
      refine (pick_lt _ _ _ _ _ HS.out.rd (by omega) (by omega)).mono ?_
      rintro e wn ⟨x0, rfl, hu, hv, h4, hg4⟩
      obtain ⟨y6, rfl⟩ := Int.eq_ofNat_of_zero_le hu
      have HB6 := Lib.hid (show y6 < 7 by omega)
      have hS1 : True := trivial
      replace HS := Lib.hid (HS.out.grown hg4 h4)
      clear hHeld
      clear hu hv h4 hg4
      refine hK.out _ _ hS1 (fun hX => ?_)
      clear hK K hX
      try simp only [Act.put, List.setIfInBounds_toArray, List.set_cons_zero, List.set_cons_succ]
      have hHeld := hS1
      clear hS1
      refine heldY 11 2 ?_
      revert HB6
      revert HB2
      revert HS
      revert hHeld
      revert y6
      revert x2
      revert wn
      exact key5.out
  · intro wz p4 hHeld HS HP4
    refine wpAnyH_ready (rs := [2]) (by kernel_rfl) (by simp) ?_
    refine AllReadyH.cons rfl (fun K hK => ?_) AllReadyH.nil
    go_simp
    go_at_call 45
    refine (pick_lt _ _ _ _ _ HS.out.rd (by omega) (by omega)).mono ?_
    rintro e wn ⟨x2, rfl, hu, hv, h4, hg4⟩
    have HB2 := Lib.hid (And.intro hu hv)
    have hS1 : Blk wn p4 3 #[.int .i64 0, .int .i64 0, .int .i64 0, .int .i64 0, .int .i64 1, .int .i64 2, .int .i64 3] := Blk.grown (hHeld) hg4 (fun e => HP4.out.1 (Option.some.inj e))
    replace HS := Lib.hid (HS.out.grown hg4 h4)
    clear hHeld
    clear hu hv h4 hg4
    refine hK.out _ _ hS1 (fun hX => ?_)
    clear hK K hX
    try simp only [Act.put, List.setIfInBounds_toArray, List.set_cons_zero, List.set_cons_succ]
    have hHeld := hS1
    clear hS1
    revert HP4
    revert HB2
    revert HS
    revert hHeld
    revert p4
    revert x2
    revert wn
    exact key4.out
  · intro wz x2 p3 hHeld HS HB2 HP3
    refine wpAnyH_ready (rs := [4, 6]) (by kernel_rfl) (by simp) ?_
    refine AllReadyH.cons rfl (fun K hK => ?_) (AllReadyH.cons rfl (fun K hK => ?_) AllReadyH.nil)
    · go_simp
      have HP4 := Lib.hid HS.out.fresh
      have hB0 := Blk.new wz 3 #[.int .i64 0, .int .i64 0, .int .i64 0, .int .i64 0, .int .i64 1, .int .i64 2, .int .i64 3]
      have hS1 : Blk (World.alloc wz (.cells #[.int .i64 0, .int .i64 0, .int .i64 0, .int .i64 0, .int .i64 1, .int .i64 2, .int .i64 3] 3)) p3 3 #[.int .i64 x2, .int .i64 1000000, .int .i64 1000001, .int .i64 (-1)] := (hHeld).alloc (.cells #[.int .i64 0, .int .i64 0, .int .i64 0, .int .i64 0, .int .i64 1, .int .i64 2, .int .i64 3] 3)
      replace HS := Lib.hid (HS.out.kept (grown_alloc (grown_refl wz none) (.cells #[.int .i64 0, .int .i64 0, .int .i64 0, .int .i64 0, .int .i64 1, .int .i64 2, .int .i64 3] 3)))
      clear hHeld
      refine hK.out _ _ hS1 (fun hX => ?_)
      clear hK K hX
      try simp only [Act.put, List.setIfInBounds_toArray, List.set_cons_zero, List.set_cons_succ]
      generalize wz.heap.size = p4 at HP4 hB0 ⊢
      generalize (World.alloc wz (.cells #[.int .i64 0, .int .i64 0, .int .i64 0, .int .i64 0, .int .i64 1, .int .i64 2, .int .i64 3] 3)) = wn at hS1 HS hB0 ⊢
      refine wpAnyH_to (S' := (fun w' => Blk w' p3 3 #[.int .i64 x2, .int .i64 1000000, .int .i64 1000001, .int .i64 (-1)] ∧ Blk w' p4 3 #[.int .i64 0, .int .i64 0, .int .i64 0, .int .i64 0, .int .i64 1, .int .i64 2, .int .i64 3])) (fun w' h => h.1) _ _ _ _ ?_
      have hHeld : Blk wn p3 3 #[.int .i64 x2, .int .i64 1000000, .int .i64 1000001, .int .i64 (-1)] ∧ Blk wn p4 3 #[.int .i64 0, .int .i64 0, .int .i64 0, .int .i64 0, .int .i64 1, .int .i64 2, .int .i64 3] := ⟨hS1, hB0⟩
      clear hS1 hB0
      revert HP4
      revert HP3
      revert HB2
      revert HS
      revert hHeld
      revert p4
      revert p3
      revert x2
      revert wn
      exact key6.out
    · go_simp
      go_at_call 45
      refine (pick_lt _ _ _ _ _ HS.out.rd (by omega) (by omega)).mono ?_
      rintro e wn ⟨x0, rfl, hu, hv, h4, hg4⟩
      obtain ⟨y6, rfl⟩ := Int.eq_ofNat_of_zero_le hu
      have HB6 := Lib.hid (show y6 < 7 by omega)
      have hS1 : Blk wn p3 3 #[.int .i64 x2, .int .i64 1000000, .int .i64 1000001, .int .i64 (-1)] := Blk.grown (hHeld) hg4 (fun e => HP3.out.1 (Option.some.inj e))
      replace HS := Lib.hid (HS.out.grown hg4 h4)
      clear hHeld
      clear hu hv h4 hg4
      refine hK.out _ _ hS1 (fun hX => ?_)
      clear hK K hX
      try simp only [Act.put, List.setIfInBounds_toArray, List.set_cons_zero, List.set_cons_succ]
      have hHeld := hS1
      clear hS1
      refine heldY 11 2 ?_
      revert HP3
      revert HB6
      revert HB2
      revert HS
      revert hHeld
      revert p3
      revert y6
      revert x2
      revert wn
      exact key7.out
  · intro wz x2 p4 hHeld HS HB2 HP4
    refine wpAnyH_ready (rs := [3, 6]) (by kernel_rfl) (by simp) ?_
    refine AllReadyH.cons rfl (fun K hK => ?_) (AllReadyH.cons rfl (fun K hK => ?_) AllReadyH.nil)
    · go_simp
      have HP3 := Lib.hid HS.out.fresh
      have hB0 := Blk.new wz 3 #[.int .i64 x2, .int .i64 1000000, .int .i64 1000001, .int .i64 (-1)]
      have hS1 : Blk (World.alloc wz (.cells #[.int .i64 x2, .int .i64 1000000, .int .i64 1000001, .int .i64 (-1)] 3)) p4 3 #[.int .i64 0, .int .i64 0, .int .i64 0, .int .i64 0, .int .i64 1, .int .i64 2, .int .i64 3] := (hHeld).alloc (.cells #[.int .i64 x2, .int .i64 1000000, .int .i64 1000001, .int .i64 (-1)] 3)
      replace HS := Lib.hid (HS.out.kept (grown_alloc (grown_refl wz none) (.cells #[.int .i64 x2, .int .i64 1000000, .int .i64 1000001, .int .i64 (-1)] 3)))
      clear hHeld
      refine hK.out _ _ hS1 (fun hX => ?_)
      clear hK K hX
      try simp only [Act.put, List.setIfInBounds_toArray, List.set_cons_zero, List.set_cons_succ]
      generalize wz.heap.size = p3 at HP3 hB0 ⊢
      generalize (World.alloc wz (.cells #[.int .i64 x2, .int .i64 1000000, .int .i64 1000001, .int .i64 (-1)] 3)) = wn at hS1 HS hB0 ⊢
      refine wpAnyH_to (S' := (fun w' => Blk w' p3 3 #[.int .i64 x2, .int .i64 1000000, .int .i64 1000001, .int .i64 (-1)] ∧ Blk w' p4 3 #[.int .i64 0, .int .i64 0, .int .i64 0, .int .i64 0, .int .i64 1, .int .i64 2, .int .i64 3])) (fun w' h => h.2) _ _ _ _ ?_
      have hHeld : Blk wn p3 3 #[.int .i64 x2, .int .i64 1000000, .int .i64 1000001, .int .i64 (-1)] ∧ Blk wn p4 3 #[.int .i64 0, .int .i64 0, .int .i64 0, .int .i64 0, .int .i64 1, .int .i64 2, .int .i64 3] := ⟨hB0, hS1⟩
      clear hS1 hB0
      revert HP4
      revert HP3
      revert HB2
      revert HS
      revert hHeld
      revert p4
      revert p3
      revert x2
      revert wn
      exact key6.out
    · go_simp
      go_at_call 45
      refine (pick_lt _ _ _ _ _ HS.out.rd (by omega) (by omega)).mono ?_
      rintro e wn ⟨x0, rfl, hu, hv, h4, hg4⟩
      obtain ⟨y6, rfl⟩ := Int.eq_ofNat_of_zero_le hu
      have HB6 := Lib.hid (show y6 < 7 by omega)
      have hS1 : Blk wn p4 3 #[.int .i64 0, .int .i64 0, .int .i64 0, .int .i64 0, .int .i64 1, .int .i64 2, .int .i64 3] := Blk.grown (hHeld) hg4 (fun e => HP4.out.1 (Option.some.inj e))
      replace HS := Lib.hid (HS.out.grown hg4 h4)
      clear hHeld
      clear hu hv h4 hg4
      refine hK.out _ _ hS1 (fun hX => ?_)
      clear hK K hX
      try simp only [Act.put, List.setIfInBounds_toArray, List.set_cons_zero, List.set_cons_succ]
      have hHeld := hS1
      clear hS1
      have y0 : decide ((0 : Int) ≤ y6) = true := decide_eq_true (by omega)
      have y1 : (y6 : Int) < 7 := by have := HB6.out; omega
      refine heldY 7 21 ?_
      clear y0 y1
      obtain ⟨z8, hz8, hy8⟩ := litV7 y6 HB6.out
      have HZ8 := Lib.hid (And.intro hz8 hy8)
      clear hz8 hy8
      refine held_yes (i := 8) (d := some 22) (v := ?_) rfl rfl (by kernel_rfl) (by kernel_rfl) (by kernel_rfl) (fun _ _ _ h => h) (by rfl) ?_ (by assumption) ?_
      rotate_left
      · (intro w hSw; (try dsimp only at hSw); have e8 := (hSw.cell y6).trans HZ8.out.2; go_simp; (first | done | with_reducible rfl))
      try simp only [Act.put, List.setIfInBounds_toArray, List.set_cons_zero, List.set_cons_succ]
      refine heldY 11 2 ?_
      revert HZ8
      revert HP4
      revert HB6
      revert HB2
      revert HS
      revert hHeld
      revert z8
      revert p4
      revert y6
      revert x2
      revert wn
      exact key8.out
  · intro wz x2 y6 hHeld HS HB2 HB6
    refine wpAnyH_ready (rs := [3, 4]) (by kernel_rfl) (by simp) ?_
    refine AllReadyH.cons rfl (fun K hK => ?_) (AllReadyH.cons rfl (fun K hK => ?_) AllReadyH.nil)
    · go_simp
      have HP3 := Lib.hid HS.out.fresh
      have hB0 := Blk.new wz 3 #[.int .i64 x2, .int .i64 1000000, .int .i64 1000001, .int .i64 (-1)]
      have hS1 : True := trivial
      replace HS := Lib.hid (HS.out.kept (grown_alloc (grown_refl wz none) (.cells #[.int .i64 x2, .int .i64 1000000, .int .i64 1000001, .int .i64 (-1)] 3)))
      clear hHeld
      refine hK.out _ _ hS1 (fun hX => ?_)
      clear hK K hX
      try simp only [Act.put, List.setIfInBounds_toArray, List.set_cons_zero, List.set_cons_succ]
      generalize wz.heap.size = p3 at HP3 hB0 ⊢
      generalize (World.alloc wz (.cells #[.int .i64 x2, .int .i64 1000000, .int .i64 1000001, .int .i64 (-1)] 3)) = wn at hS1 HS hB0 ⊢
      refine wpAnyH_to (S' := (fun w' => Blk w' p3 3 #[.int .i64 x2, .int .i64 1000000, .int .i64 1000001, .int .i64 (-1)])) (fun w' h => trivial) _ _ _ _ ?_
      have hHeld : Blk wn p3 3 #[.int .i64 x2, .int .i64 1000000, .int .i64 1000001, .int .i64 (-1)] := hB0
      clear hS1 hB0
      revert HP3
      revert HB6
      revert HB2
      revert HS
      revert hHeld
      revert p3
      revert y6
      revert x2
      revert wn
      exact key7.out
    · go_simp
      have HP4 := Lib.hid HS.out.fresh
      have hB0 := Blk.new wz 3 #[.int .i64 0, .int .i64 0, .int .i64 0, .int .i64 0, .int .i64 1, .int .i64 2, .int .i64 3]
      have hS1 : True := trivial
      replace HS := Lib.hid (HS.out.kept (grown_alloc (grown_refl wz none) (.cells #[.int .i64 0, .int .i64 0, .int .i64 0, .int .i64 0, .int .i64 1, .int .i64 2, .int .i64 3] 3)))
      clear hHeld
      refine hK.out _ _ hS1 (fun hX => ?_)
      clear hK K hX
      try simp only [Act.put, List.setIfInBounds_toArray, List.set_cons_zero, List.set_cons_succ]
      generalize wz.heap.size = p4 at HP4 hB0 ⊢
      generalize (World.alloc wz (.cells #[.int .i64 0, .int .i64 0, .int .i64 0, .int .i64 0, .int .i64 1, .int .i64 2, .int .i64 3] 3)) = wn at hS1 HS hB0 ⊢
      refine wpAnyH_to (S' := (fun w' => Blk w' p4 3 #[.int .i64 0, .int .i64 0, .int .i64 0, .int .i64 0, .int .i64 1, .int .i64 2, .int .i64 3])) (fun w' h => trivial) _ _ _ _ ?_
      have hHeld : Blk wn p4 3 #[.int .i64 0, .int .i64 0, .int .i64 0, .int .i64 0, .int .i64 1, .int .i64 2, .int .i64 3] := hB0
      clear hS1 hB0
      have y0 : decide ((0 : Int) ≤ y6) = true := decide_eq_true (by omega)
      have y1 : (y6 : Int) < 7 := by have := HB6.out; omega
      refine heldY 7 21 ?_
      clear y0 y1
      obtain ⟨z8, hz8, hy8⟩ := litV7 y6 HB6.out
      have HZ8 := Lib.hid (And.intro hz8 hy8)
      clear hz8 hy8
      refine held_yes (i := 8) (d := some 22) (v := ?_) rfl rfl (by kernel_rfl) (by kernel_rfl) (by kernel_rfl) (fun _ _ _ h => h) (by rfl) ?_ (by assumption) ?_
      rotate_left
      · (intro w hSw; (try dsimp only at hSw); have e8 := (hSw.cell y6).trans HZ8.out.2; go_simp; (first | done | with_reducible rfl))
      try simp only [Act.put, List.setIfInBounds_toArray, List.set_cons_zero, List.set_cons_succ]
      revert HZ8
      revert HP4
      revert HB6
      revert HB2
      revert HS
      revert hHeld
      revert z8
      revert p4
      revert y6
      revert x2
      revert wn
      exact key8.out
  · intro wz x2 p3 p4 hHeld HS HB2 HP3 HP4
    refine wpAnyH_ready (rs := [6]) (by kernel_rfl) (by simp) ?_
    refine AllReadyH.cons rfl (fun K hK => ?_) AllReadyH.nil
    go_simp
    go_at_call 45
    refine (pick_lt _ _ _ _ _ HS.out.rd (by omega) (by omega)).mono ?_
    rintro e wn ⟨x0, rfl, hu, hv, h4, hg4⟩
    obtain ⟨y6, rfl⟩ := Int.eq_ofNat_of_zero_le hu
    have HB6 := Lib.hid (show y6 < 7 by omega)
    have hS1 : Blk wn p3 3 #[.int .i64 x2, .int .i64 1000000, .int .i64 1000001, .int .i64 (-1)] ∧ Blk wn p4 3 #[.int .i64 0, .int .i64 0, .int .i64 0, .int .i64 0, .int .i64 1, .int .i64 2, .int .i64 3] := ⟨Blk.grown (hHeld.1) hg4 (fun e => HP3.out.1 (Option.some.inj e)), Blk.grown (hHeld.2) hg4 (fun e => HP4.out.1 (Option.some.inj e))⟩
    replace HS := Lib.hid (HS.out.grown hg4 h4)
    clear hHeld
    clear hu hv h4 hg4
    refine hK.out _ _ hS1 (fun hX => ?_)
    clear hK K hX
    try simp only [Act.put, List.setIfInBounds_toArray, List.set_cons_zero, List.set_cons_succ]
    have hHeld := hS1
    clear hS1
    have y0 : decide ((0 : Int) ≤ y6) = true := decide_eq_true (by omega)
    have y1 : (y6 : Int) < 7 := by have := HB6.out; omega
    refine heldY 7 21 ?_
    clear y0 y1
    obtain ⟨z8, hz8, hy8⟩ := litV7 y6 HB6.out
    have HZ8 := Lib.hid (And.intro hz8 hy8)
    clear hz8 hy8
    refine held_yes (i := 8) (d := some 22) (v := ?_) rfl rfl (by kernel_rfl) (by kernel_rfl) (by kernel_rfl) (fun _ _ _ h => h) (by rfl) ?_ (by assumption) ?_
    rotate_left
    · (intro w hSw; (try dsimp only at hSw); have e8 := (hSw.2.cell y6).trans HZ8.out.2; go_simp; (first | done | with_reducible rfl))
    try simp only [Act.put, List.setIfInBounds_toArray, List.set_cons_zero, List.set_cons_succ]
    have y0 : decide ((0 : Int) ≤ z8) = true := decide_eq_true (by omega)
    have y1 : (z8 : Int) < 4 := by have := HZ8.out.1; omega
    refine heldY 9 23 ?_
    clear y0 y1
    obtain ⟨v10, hv10⟩ := litV4 z8 HZ8.out.1 x2 1000000 1000001 (-1)
    have HZ10 := Lib.hid hv10
    clear hv10
    refine held_yes (i := 10) (d := some 24) (v := ?_) rfl rfl (by kernel_rfl) (by kernel_rfl) (by kernel_rfl) (fun _ _ _ h => h) (by rfl) ?_ (by assumption) ?_
    rotate_left
    · (intro w hSw; (try dsimp only at hSw); have e8 := (hSw.1.cell z8).trans HZ10.out; go_simp; (first | done | with_reducible rfl))
    try simp only [Act.put, List.setIfInBounds_toArray, List.set_cons_zero, List.set_cons_succ]
    refine heldY 11 2 ?_
    refine heldY 12 3 ?_
    revert HZ10
    revert HZ8
    revert HP4
    revert HP3
    revert HB6
    revert HB2
    revert HS
    revert hHeld
    revert v10
    revert z8
    revert p4
    revert p3
    revert y6
    revert x2
    revert wn
    exact key9.out
  · intro wz x2 y6 p3 hHeld HS HB2 HB6 HP3
    refine wpAnyH_ready (rs := [4]) (by kernel_rfl) (by simp) ?_
    refine AllReadyH.cons rfl (fun K hK => ?_) AllReadyH.nil
    go_simp
    have HP4 := Lib.hid HS.out.fresh
    have hB0 := Blk.new wz 3 #[.int .i64 0, .int .i64 0, .int .i64 0, .int .i64 0, .int .i64 1, .int .i64 2, .int .i64 3]
    have hS1 : Blk (World.alloc wz (.cells #[.int .i64 0, .int .i64 0, .int .i64 0, .int .i64 0, .int .i64 1, .int .i64 2, .int .i64 3] 3)) p3 3 #[.int .i64 x2, .int .i64 1000000, .int .i64 1000001, .int .i64 (-1)] := (hHeld).alloc (.cells #[.int .i64 0, .int .i64 0, .int .i64 0, .int .i64 0, .int .i64 1, .int .i64 2, .int .i64 3] 3)
    replace HS := Lib.hid (HS.out.kept (grown_alloc (grown_refl wz none) (.cells #[.int .i64 0, .int .i64 0, .int .i64 0, .int .i64 0, .int .i64 1, .int .i64 2, .int .i64 3] 3)))
    clear hHeld
    refine hK.out _ _ hS1 (fun hX => ?_)
    clear hK K hX
    try simp only [Act.put, List.setIfInBounds_toArray, List.set_cons_zero, List.set_cons_succ]
    generalize wz.heap.size = p4 at HP4 hB0 ⊢
    generalize (World.alloc wz (.cells #[.int .i64 0, .int .i64 0, .int .i64 0, .int .i64 0, .int .i64 1, .int .i64 2, .int .i64 3] 3)) = wn at hS1 HS hB0 ⊢
    refine wpAnyH_to (S' := (fun w' => Blk w' p3 3 #[.int .i64 x2, .int .i64 1000000, .int .i64 1000001, .int .i64 (-1)] ∧ Blk w' p4 3 #[.int .i64 0, .int .i64 0, .int .i64 0, .int .i64 0, .int .i64 1, .int .i64 2, .int .i64 3])) (fun w' h => h.1) _ _ _ _ ?_
    have hHeld : Blk wn p3 3 #[.int .i64 x2, .int .i64 1000000, .int .i64 1000001, .int .i64 (-1)] ∧ Blk wn p4 3 #[.int .i64 0, .int .i64 0, .int .i64 0, .int .i64 0, .int .i64 1, .int .i64 2, .int .i64 3] := ⟨hS1, hB0⟩
    clear hS1 hB0
    have y0 : decide ((0 : Int) ≤ y6) = true := decide_eq_true (by omega)
    have y1 : (y6 : Int) < 7 := by have := HB6.out; omega
    refine heldY 7 21 ?_
    clear y0 y1
    obtain ⟨z8, hz8, hy8⟩ := litV7 y6 HB6.out
    have HZ8 := Lib.hid (And.intro hz8 hy8)
    clear hz8 hy8
    refine held_yes (i := 8) (d := some 22) (v := ?_) rfl rfl (by kernel_rfl) (by kernel_rfl) (by kernel_rfl) (fun _ _ _ h => h) (by rfl) ?_ (by assumption) ?_
    rotate_left
    · (intro w hSw; (try dsimp only at hSw); have e8 := (hSw.2.cell y6).trans HZ8.out.2; go_simp; (first | done | with_reducible rfl))
    try simp only [Act.put, List.setIfInBounds_toArray, List.set_cons_zero, List.set_cons_succ]
    have y0 : decide ((0 : Int) ≤ z8) = true := decide_eq_true (by omega)
    have y1 : (z8 : Int) < 4 := by have := HZ8.out.1; omega
    refine heldY 9 23 ?_
    clear y0 y1
    obtain ⟨v10, hv10⟩ := litV4 z8 HZ8.out.1 x2 1000000 1000001 (-1)
    have HZ10 := Lib.hid hv10
    clear hv10
    refine held_yes (i := 10) (d := some 24) (v := ?_) rfl rfl (by kernel_rfl) (by kernel_rfl) (by kernel_rfl) (fun _ _ _ h => h) (by rfl) ?_ (by assumption) ?_
    rotate_left
    · (intro w hSw; (try dsimp only at hSw); have e8 := (hSw.1.cell z8).trans HZ10.out; go_simp; (first | done | with_reducible rfl))
    try simp only [Act.put, List.setIfInBounds_toArray, List.set_cons_zero, List.set_cons_succ]
    refine heldY 12 3 ?_
    revert HZ10
    revert HZ8
    revert HP4
    revert HP3
    revert HB6
    revert HB2
    revert HS
    revert hHeld
    revert v10
    revert z8
    revert p4
    revert p3
    revert y6
    revert x2
    revert wn
    exact key9.out
  · intro wz x2 y6 p4 z8 hHeld HS HB2 HB6 HP4 HZ8
    refine wpAnyH_ready (rs := [3]) (by kernel_rfl) (by simp) ?_
    refine AllReadyH.cons rfl (fun K hK => ?_) AllReadyH.nil
    go_simp
    have HP3 := Lib.hid HS.out.fresh
    have hB0 := Blk.new wz 3 #[.int .i64 x2, .int .i64 1000000, .int .i64 1000001, .int .i64 (-1)]
    have hS1 : Blk (World.alloc wz (.cells #[.int .i64 x2, .int .i64 1000000, .int .i64 1000001, .int .i64 (-1)] 3)) p4 3 #[.int .i64 0, .int .i64 0, .int .i64 0, .int .i64 0, .int .i64 1, .int .i64 2, .int .i64 3] := (hHeld).alloc (.cells #[.int .i64 x2, .int .i64 1000000, .int .i64 1000001, .int .i64 (-1)] 3)
    replace HS := Lib.hid (HS.out.kept (grown_alloc (grown_refl wz none) (.cells #[.int .i64 x2, .int .i64 1000000, .int .i64 1000001, .int .i64 (-1)] 3)))
    clear hHeld
    refine hK.out _ _ hS1 (fun hX => ?_)
    clear hK K hX
    try simp only [Act.put, List.setIfInBounds_toArray, List.set_cons_zero, List.set_cons_succ]
    generalize wz.heap.size = p3 at HP3 hB0 ⊢
    generalize (World.alloc wz (.cells #[.int .i64 x2, .int .i64 1000000, .int .i64 1000001, .int .i64 (-1)] 3)) = wn at hS1 HS hB0 ⊢
    refine wpAnyH_to (S' := (fun w' => Blk w' p3 3 #[.int .i64 x2, .int .i64 1000000, .int .i64 1000001, .int .i64 (-1)] ∧ Blk w' p4 3 #[.int .i64 0, .int .i64 0, .int .i64 0, .int .i64 0, .int .i64 1, .int .i64 2, .int .i64 3])) (fun w' h => h.2) _ _ _ _ ?_
    have hHeld : Blk wn p3 3 #[.int .i64 x2, .int .i64 1000000, .int .i64 1000001, .int .i64 (-1)] ∧ Blk wn p4 3 #[.int .i64 0, .int .i64 0, .int .i64 0, .int .i64 0, .int .i64 1, .int .i64 2, .int .i64 3] := ⟨hB0, hS1⟩
    clear hS1 hB0
    have y0 : decide ((0 : Int) ≤ z8) = true := decide_eq_true (by omega)
    have y1 : (z8 : Int) < 4 := by have := HZ8.out.1; omega
    refine heldY 9 23 ?_
    clear y0 y1
    obtain ⟨v10, hv10⟩ := litV4 z8 HZ8.out.1 x2 1000000 1000001 (-1)
    have HZ10 := Lib.hid hv10
    clear hv10
    refine held_yes (i := 10) (d := some 24) (v := ?_) rfl rfl (by kernel_rfl) (by kernel_rfl) (by kernel_rfl) (fun _ _ _ h => h) (by rfl) ?_ (by assumption) ?_
    rotate_left
    · (intro w hSw; (try dsimp only at hSw); have e8 := (hSw.1.cell z8).trans HZ10.out; go_simp; (first | done | with_reducible rfl))
    try simp only [Act.put, List.setIfInBounds_toArray, List.set_cons_zero, List.set_cons_succ]
    refine heldY 12 3 ?_
    revert HZ10
    revert HZ8
    revert HP4
    revert HP3
    revert HB6
    revert HB2
    revert HS
    revert hHeld
    revert v10
    revert z8
    revert p4
    revert p3
    revert y6
    revert x2
    revert wn
    exact key9.out
  · intro wz x2 y6 p3 p4 z8 v10 hHeld HS HB2 HB6 HP3 HP4 HZ8 HZ10
    refine wpAnyH_done (by kernel_rfl) ?_ _
    go_wp2
    go_ret2
    exact ⟨_, _, rfl, HS.out.2.1⟩
end Go.Proofs.Ytjknfofdjkjnpaa
namespace Go.Proofs.Ytjknfofdjkjnpaa
open Go.ChangeShapes Go.WideShapes Go.ChangeAt Go.RowKit
set_option linter.unusedVariables false
set_option linter.unusedSimpArgs false

/-- A device, a table, heads and a time are drawn. -/
def BestDrawn (w : World) (e : Ending) (w' : World) : Prop :=
  ∃ (D : Option Addr) (nd cd : Nat) (bs : List Bk) (A : Option Addr) (n c : Nat) (ls : List Li) (a b h now : Int), e = .returned (.tuple #[.slice D nd cd, .agg #[.slice A n c], .agg #[.int .i64 a, .int .i64 b, .int .i64 h], .int .i64 now]) ∧ Pair12 w D nd bs A n ls w'
set_option maxRecDepth 8000 in
set_option maxHeartbeats 8000000 in
theorem drawBest_any (w : World) (A : Option Addr) (n c : Nat) (hn : n ≤ c) (hc : c ≤ 9223372036854775807) (h : Bytes w w.heap.size A n) :
    Calls Try.prog 19 #[.slice A n c] w (BestDrawn w) := by
  have h0 := (h.alloc (.cells #[.slice none 0 0] 26)).alloc (.cells #[.int .i64 0, .int .i64 0, .int .i64 0] 28)
  go_enter Try.func19, Try.ntmps19
  go_wp2_with fail
  refine (open_any _ A n c hn hc h0).mono ?_
  rintro e w1 ⟨rfl, h1, hb1⟩
  (try simp only [size_of_alloc] at h1 hb1)
  have hr0 := ((Blk.new w 26 #[.slice none 0 0]).alloc (.cells #[.int .i64 0, .int .i64 0, .int .i64 0] 28)).below hb1 (by omega)
  have hr1 : Blk w1 (w.heap.size + 1) 28 #[.int .i64 0, .int .i64 0, .int .i64 0] := by
    have h9 := Blk.new (w.alloc (.cells #[.slice none 0 0] 26)) 28 #[.int .i64 0, .int .i64 0, .int .i64 0]
    rw [size_alloc1] at h9
    exact h9.below hb1 (by omega)
  have hg1 := h1.lt
  have hz1 := hb1.size
  (try simp only [size_of_alloc] at hz1)
  have hbw : Below w.heap.size w w1 := (((Below.refl w.heap.size w).alloc (Nat.le_refl _) (.cells #[.slice none 0 0] 26)).alloc (by simp) (.cells #[.int .i64 0, .int .i64 0, .int .i64 0] 28)).trans (hb1.mono (by omega))
  go_wp2_with fail
  refine (both_any _ _ _ _ 14 h1 (by omega) (by omega) (by omega)).mono ?_
  rintro e w2 ⟨D, nd, cd, bs, A2, n2, c2, ls, a, b, h9, rfl, hbs, hDZ, hls, hrow, hfar, h2, hg2⟩
  have HS := Lib.hid (BV.start hbw (by omega) hg1 hbs hDZ hls hrow hfar h2 hg2)
  have hlt2 := hg2.size
  have HR0 := Lib.hid (hr0.grown hg2 (by intro e; injection e with e; omega))
  have HR1 := Lib.hid (hr1.grown hg2 (by intro e; injection e with e; omega))
  have HV0 := Lib.hid (show w2.heap.size ≠ w.heap.size + 1 + 1 ∧ w2.heap.size + 1 ≠ w.heap.size + 1 + 1 ∧ w.heap.size + 2 ≤ w2.heap.size by have := HS.out.fresh; omega)
  clear hlt2 h h0 h1 h2 hb1 hr0 hr1 hg1 hz1 hbw hbs hDZ hls hrow hfar hg2
  go_wp2_with fail
  apply mrg
  intro key17
  apply mrg
  intro key16
  apply mrg
  intro key15
  apply mrg
  intro key14
  apply mrg
  intro key13
  apply mrg
  intro key12
  apply mrg
  intro key11
  apply mrg
  intro key10
  apply mrg
  intro key9
  apply mrg
  intro key8
  apply mrg
  intro key7
  apply mrg
  intro key6
  apply mrg
  intro key5
  apply mrg
  intro key4
  apply mrg
  intro key3
  apply mrg
  intro key2
  apply mrg
  intro key1
  apply mrg
  intro key0
  · have HS := Lib.hid (HS.out.kept (grown_drew (grown_alloc (grown_alloc (grown_refl w2 none) (.cells #[.slice A2 n2 c2] 26)) (.cells #[.int .i64 a, .int .i64 b, .int .i64 h9] 28))))
    have HR0 := Lib.hid (HR0.out.keep (grown_drew (grown_alloc (grown_alloc (grown_refl w2 none) (.cells #[.slice A2 n2 c2] 26)) (.cells #[.int .i64 a, .int .i64 b, .int .i64 h9] 28))))
    have HR1 := Lib.hid (HR1.out.keep (grown_drew (grown_alloc (grown_alloc (grown_refl w2 none) (.cells #[.slice A2 n2 c2] 26)) (.cells #[.int .i64 a, .int .i64 b, .int .i64 h9] 28))))
    have hS0 : Blk (World.drew (World.alloc (World.alloc w2 (.cells #[.slice A2 n2 c2] 26)) (.cells #[.int .i64 a, .int .i64 b, .int .i64 h9] 28))) w2.heap.size 26 #[.slice A2 n2 c2] ∧ Blk (World.drew (World.alloc (World.alloc w2 (.cells #[.slice A2 n2 c2] 26)) (.cells #[.int .i64 a, .int .i64 b, .int .i64 h9] 28))) (w2.heap.size + 1) 28 #[.int .i64 a, .int .i64 b, .int .i64 h9] := ⟨((Blk.new w2 26 #[.slice A2 n2 c2]).alloc (.cells #[.int .i64 a, .int .i64 b, .int .i64 h9] 28)).drew, by have h8 := (Blk.new (World.alloc w2 (.cells #[.slice A2 n2 c2] 26)) 28 #[.int .i64 a, .int .i64 b, .int .i64 h9]).drew; (try simp only [size_alloc1] at h8); exact h8⟩
    refine wp_region_held_drew (S := (fun w' => Blk w' w2.heap.size 26 #[.slice A2 n2 c2] ∧ Blk w' (w2.heap.size + 1) 28 #[.int .i64 a, .int .i64 b, .int .i64 h9])) (by kernel_rfl) ?_ (fun hX => ?_)
    · exact hS0
    have hHeld := hS0
    clear hS0 hX
    refine heldY 0 18 ?_
    refine held_yes (i := 1) (d := some 19) (v := ?_) rfl rfl (by kernel_rfl) (by kernel_rfl) (by kernel_rfl) (fun _ _ _ h => h) (by rfl) ?_ (by assumption) ?_
    rotate_left
    · (intro w hSw; (try dsimp only at hSw); have e8 := hSw.1.cell 0; go_simp; (first | done | with_reducible rfl))
    try simp only [Act.put, List.setIfInBounds_toArray, List.set_cons_zero, List.set_cons_succ]
    refine held_yes (i := 2) (d := some 20) (v := ?_) rfl rfl (by kernel_rfl) (by kernel_rfl) (by kernel_rfl) (fun _ _ _ h => h) (by rfl) ?_ (by assumption) ?_
    rotate_left
    · (intro w hSw; (try dsimp only at hSw); have e0 := hSw.2.cell 0; have e1 := hSw.2.cell 1; have e2 := hSw.2.cell 2; go_simp; (first | done | with_reducible rfl))
    try simp only [Act.put, List.setIfInBounds_toArray, List.set_cons_zero, List.set_cons_succ]
    refine heldY 3 21 ?_
    refine heldY 7 25 ?_
    generalize (World.drew (World.alloc (World.alloc w2 (.cells #[.slice A2 n2 c2] 26)) (.cells #[.int .i64 a, .int .i64 b, .int .i64 h9] 28))) = wn at hHeld HS HR0 HR1 ⊢
    revert HR1
    revert HR0
    revert HS
    revert hHeld
    revert wn
    exact key0.out
  · intro wz hHeld HS HR0 HR1
    refine wpAnyH_ready (rs := [4, 6]) (by kernel_rfl) (by simp) ?_
    refine AllReadyH.cons rfl (fun K hK => ?_) (AllReadyH.cons rfl (fun K hK => ?_) AllReadyH.nil)
    · go_simp
      go_at_call 45
      refine (pick_lt _ _ _ _ _ HS.out.rd (by omega) (by omega)).mono ?_
      rintro e wn ⟨x4, rfl, hu, hv, h4, hg4⟩
      have HB4 := Lib.hid (And.intro hu hv)
      have hS1 : Blk wn w2.heap.size 26 #[.slice A2 n2 c2] ∧ Blk wn (w2.heap.size + 1) 28 #[.int .i64 a, .int .i64 b, .int .i64 h9] := ⟨Blk.grown (hHeld.1) hg4 (fun e => HV0.out.1 (Option.some.inj e)), Blk.grown (hHeld.2) hg4 (fun e => HV0.out.2.1 (Option.some.inj e))⟩
      replace HS := Lib.hid (HS.out.grown hg4 h4)
      replace HR0 := Lib.hid (Blk.grown HR0.out hg4 (fun e => by have := HS.out.far; have := Option.some.inj e; omega))
      replace HR1 := Lib.hid (Blk.grown HR1.out hg4 (fun e => by have := HS.out.far; have := Option.some.inj e; omega))
      clear hHeld
      clear hu hv h4 hg4
      refine hK.out _ _ hS1 (fun hX => ?_)
      clear hK K hX
      try simp only [Act.put, List.setIfInBounds_toArray, List.set_cons_zero, List.set_cons_succ]
      have hHeld := hS1
      clear hS1
      revert HR1
      revert HR0
      revert HB4
      revert HS
      revert hHeld
      revert x4
      revert wn
      exact key1.out
    · go_simp
      have HP6 := Lib.hid HS.out.fresh
      have hB0 := Blk.new wz 3 #[.int .i64 0, .int .i64 0, .int .i64 0, .int .i64 0, .int .i64 1, .int .i64 2, .int .i64 3]
      have hS1 : Blk (World.alloc wz (.cells #[.int .i64 0, .int .i64 0, .int .i64 0, .int .i64 0, .int .i64 1, .int .i64 2, .int .i64 3] 3)) w2.heap.size 26 #[.slice A2 n2 c2] ∧ Blk (World.alloc wz (.cells #[.int .i64 0, .int .i64 0, .int .i64 0, .int .i64 0, .int .i64 1, .int .i64 2, .int .i64 3] 3)) (w2.heap.size + 1) 28 #[.int .i64 a, .int .i64 b, .int .i64 h9] := ⟨(hHeld.1).alloc (.cells #[.int .i64 0, .int .i64 0, .int .i64 0, .int .i64 0, .int .i64 1, .int .i64 2, .int .i64 3] 3), (hHeld.2).alloc (.cells #[.int .i64 0, .int .i64 0, .int .i64 0, .int .i64 0, .int .i64 1, .int .i64 2, .int .i64 3] 3)⟩
      replace HS := Lib.hid (HS.out.kept (grown_alloc (grown_refl wz none) (.cells #[.int .i64 0, .int .i64 0, .int .i64 0, .int .i64 0, .int .i64 1, .int .i64 2, .int .i64 3] 3)))
      replace HR0 := Lib.hid (HR0.out.alloc (.cells #[.int .i64 0, .int .i64 0, .int .i64 0, .int .i64 0, .int .i64 1, .int .i64 2, .int .i64 3] 3))
      replace HR1 := Lib.hid (HR1.out.alloc (.cells #[.int .i64 0, .int .i64 0, .int .i64 0, .int .i64 0, .int .i64 1, .int .i64 2, .int .i64 3] 3))
      clear hHeld
      refine hK.out _ _ hS1 (fun hX => ?_)
      clear hK K hX
      try simp only [Act.put, List.setIfInBounds_toArray, List.set_cons_zero, List.set_cons_succ]
      generalize wz.heap.size = p6 at HP6 hB0 ⊢
      generalize (World.alloc wz (.cells #[.int .i64 0, .int .i64 0, .int .i64 0, .int .i64 0, .int .i64 1, .int .i64 2, .int .i64 3] 3)) = wn at hS1 HS hB0 HR0 HR1 ⊢
      refine wpAnyH_to (S' := (fun w' => Blk w' w2.heap.size 26 #[.slice A2 n2 c2] ∧ Blk w' (w2.heap.size + 1) 28 #[.int .i64 a, .int .i64 b, .int .i64 h9] ∧ Blk w' p6 3 #[.int .i64 0, .int .i64 0, .int .i64 0, .int .i64 0, .int .i64 1, .int .i64 2, .int .i64 3])) (fun w' h => ⟨h.1, h.2.1⟩) _ _ _ _ ?_
      have hHeld : Blk wn w2.heap.size 26 #[.slice A2 n2 c2] ∧ Blk wn (w2.heap.size + 1) 28 #[.int .i64 a, .int .i64 b, .int .i64 h9] ∧ Blk wn p6 3 #[.int .i64 0, .int .i64 0, .int .i64 0, .int .i64 0, .int .i64 1, .int .i64 2, .int .i64 3] := ⟨hS1.1, hS1.2, hB0⟩
      clear hS1 hB0
      revert HR1
      revert HR0
      revert HP6
      revert HS
      revert hHeld
      revert p6
      revert wn
      exact key2.out
  · intro wz x4 hHeld HS HB4 HR0 HR1
    refine wpAnyH_ready (rs := [5, 6, 8]) (by kernel_rfl) (by simp) ?_
    refine AllReadyH.cons rfl (fun K hK => ?_) (AllReadyH.cons rfl (fun K hK => ?_) (AllReadyH.cons rfl (fun K hK => ?_) AllReadyH.nil))
    · go_simp
      have HP5 := Lib.hid HS.out.fresh
      have hB0 := Blk.new wz 3 #[.int .i64 x4, .int .i64 1000000, .int .i64 1000001, .int .i64 (-1)]
      have hS1 : Blk (World.alloc wz (.cells #[.int .i64 x4, .int .i64 1000000, .int .i64 1000001, .int .i64 (-1)] 3)) w2.heap.size 26 #[.slice A2 n2 c2] ∧ Blk (World.alloc wz (.cells #[.int .i64 x4, .int .i64 1000000, .int .i64 1000001, .int .i64 (-1)] 3)) (w2.heap.size + 1) 28 #[.int .i64 a, .int .i64 b, .int .i64 h9] := ⟨(hHeld.1).alloc (.cells #[.int .i64 x4, .int .i64 1000000, .int .i64 1000001, .int .i64 (-1)] 3), (hHeld.2).alloc (.cells #[.int .i64 x4, .int .i64 1000000, .int .i64 1000001, .int .i64 (-1)] 3)⟩
      replace HS := Lib.hid (HS.out.kept (grown_alloc (grown_refl wz none) (.cells #[.int .i64 x4, .int .i64 1000000, .int .i64 1000001, .int .i64 (-1)] 3)))
      replace HR0 := Lib.hid (HR0.out.alloc (.cells #[.int .i64 x4, .int .i64 1000000, .int .i64 1000001, .int .i64 (-1)] 3))
      replace HR1 := Lib.hid (HR1.out.alloc (.cells #[.int .i64 x4, .int .i64 1000000, .int .i64 1000001, .int .i64 (-1)] 3))
      clear hHeld
      refine hK.out _ _ hS1 (fun hX => ?_)
      clear hK K hX
      try simp only [Act.put, List.setIfInBounds_toArray, List.set_cons_zero, List.set_cons_succ]
      generalize wz.heap.size = p5 at HP5 hB0 ⊢
      generalize (World.alloc wz (.cells #[.int .i64 x4, .int .i64 1000000, .int .i64 1000001, .int .i64 (-1)] 3)) = wn at hS1 HS hB0 HR0 HR1 ⊢
      refine wpAnyH_to (S' := (fun w' => Blk w' w2.heap.size 26 #[.slice A2 n2 c2] ∧ Blk w' (w2.heap.size + 1) 28 #[.int .i64 a, .int .i64 b, .int .i64 h9] ∧ Blk w' p5 3 #[.int .i64 x4, .int .i64 1000000, .int .i64 1000001, .int .i64 (-1)])) (fun w' h => ⟨h.1, h.2.1⟩) _ _ _ _ ?_
      have hHeld : Blk wn w2.heap.size 26 #[.slice A2 n2 c2] ∧ Blk wn (w2.heap.size + 1) 28 #[.int .i64 a, .int .i64 b, .int .i64 h9] ∧ Blk wn p5 3 #[.int .i64 x4, .int .i64 1000000, .int .i64 1000001, .int .i64 (-1)] := ⟨hS1.1, hS1.2, hB0⟩
      clear hS1 hB0
      revert HR1
      revert HR0
      revert HP5
      revert HB4
      revert HS
      revert hHeld
      revert p5
      revert x4
      revert wn
      exact key3.out
    · go_simp
      have HP6 := Lib.hid HS.out.fresh
      have hB0 := Blk.new wz 3 #[.int .i64 0, .int .i64 0, .int .i64 0, .int .i64 0, .int .i64 1, .int .i64 2, .int .i64 3]
      have hS1 : Blk (World.alloc wz (.cells #[.int .i64 0, .int .i64 0, .int .i64 0, .int .i64 0, .int .i64 1, .int .i64 2, .int .i64 3] 3)) w2.heap.size 26 #[.slice A2 n2 c2] ∧ Blk (World.alloc wz (.cells #[.int .i64 0, .int .i64 0, .int .i64 0, .int .i64 0, .int .i64 1, .int .i64 2, .int .i64 3] 3)) (w2.heap.size + 1) 28 #[.int .i64 a, .int .i64 b, .int .i64 h9] := ⟨(hHeld.1).alloc (.cells #[.int .i64 0, .int .i64 0, .int .i64 0, .int .i64 0, .int .i64 1, .int .i64 2, .int .i64 3] 3), (hHeld.2).alloc (.cells #[.int .i64 0, .int .i64 0, .int .i64 0, .int .i64 0, .int .i64 1, .int .i64 2, .int .i64 3] 3)⟩
      replace HS := Lib.hid (HS.out.kept (grown_alloc (grown_refl wz none) (.cells #[.int .i64 0, .int .i64 0, .int .i64 0, .int .i64 0, .int .i64 1, .int .i64 2, .int .i64 3] 3)))
      replace HR0 := Lib.hid (HR0.out.alloc (.cells #[.int .i64 0, .int .i64 0, .int .i64 0, .int .i64 0, .int .i64 1, .int .i64 2, .int .i64 3] 3))
      replace HR1 := Lib.hid (HR1.out.alloc (.cells #[.int .i64 0, .int .i64 0, .int .i64 0, .int .i64 0, .int .i64 1, .int .i64 2, .int .i64 3] 3))
      clear hHeld
      refine hK.out _ _ hS1 (fun hX => ?_)
      clear hK K hX
      try simp only [Act.put, List.setIfInBounds_toArray, List.set_cons_zero, List.set_cons_succ]
      generalize wz.heap.size = p6 at HP6 hB0 ⊢
      generalize (World.alloc wz (.cells #[.int .i64 0, .int .i64 0, .int .i64 0, .int .i64 0, .int .i64 1, .int .i64 2, .int .i64 3] 3)) = wn at hS1 HS hB0 HR0 HR1 ⊢
      refine wpAnyH_to (S' := (fun w' => Blk w' w2.heap.size 26 #[.slice A2 n2 c2] ∧ Blk w' (w2.heap.size + 1) 28 #[.int .i64 a, .int .i64 b, .int .i64 h9] ∧ Blk w' p6 3 #[.int .i64 0, .int .i64 0, .int .i64 0, .int .i64 0, .int .i64 1, .int .i64 2, .int .i64 3])) (fun w' h => ⟨h.1, h.2.1⟩) _ _ _ _ ?_
      have hHeld : Blk wn w2.heap.size 26 #[.slice A2 n2 c2] ∧ Blk wn (w2.heap.size + 1) 28 #[.int .i64 a, .int .i64 b, .int .i64 h9] ∧ Blk wn p6 3 #[.int .i64 0, .int .i64 0, .int .i64 0, .int .i64 0, .int .i64 1, .int .i64 2, .int .i64 3] := ⟨hS1.1, hS1.2, hB0⟩
      clear hS1 hB0
      revert HR1
      revert HR0
      revert HP6
      revert HB4
      revert HS
      revert hHeld
      revert p6
      revert x4
      revert wn
      exact key4.out
    · go_simp
      go_at_call 45
      refine (pick_lt _ _ _ _ _ HS.out.rd (by omega) (by omega)).mono ?_
      rintro e wn ⟨x0, rfl, hu, hv, h4, hg4⟩
      obtain ⟨y8, rfl⟩ := Int.eq_ofNat_of_zero_le hu
      have HB8 := Lib.hid (show y8 < 7 by omega)
      have hS1 : Blk wn w2.heap.size 26 #[.slice A2 n2 c2] ∧ Blk wn (w2.heap.size + 1) 28 #[.int .i64 a, .int .i64 b, .int .i64 h9] := ⟨Blk.grown (hHeld.1) hg4 (fun e => HV0.out.1 (Option.some.inj e)), Blk.grown (hHeld.2) hg4 (fun e => HV0.out.2.1 (Option.some.inj e))⟩
      replace HS := Lib.hid (HS.out.grown hg4 h4)
      replace HR0 := Lib.hid (Blk.grown HR0.out hg4 (fun e => by have := HS.out.far; have := Option.some.inj e; omega))
      replace HR1 := Lib.hid (Blk.grown HR1.out hg4 (fun e => by have := HS.out.far; have := Option.some.inj e; omega))
      clear hHeld
      clear hu hv h4 hg4
      refine hK.out _ _ hS1 (fun hX => ?_)
      clear hK K hX
      try simp only [Act.put, List.setIfInBounds_toArray, List.set_cons_zero, List.set_cons_succ]
      have hHeld := hS1
      clear hS1
      refine heldY 13 2 ?_
      revert HR1
      revert HR0
      revert HB8
      revert HB4
      revert HS
      revert hHeld
      revert y8
      revert x4
      revert wn
      exact key5.out
  · intro wz p6 hHeld HS HP6 HR0 HR1
    refine wpAnyH_ready (rs := [4]) (by kernel_rfl) (by simp) ?_
    refine AllReadyH.cons rfl (fun K hK => ?_) AllReadyH.nil
    go_simp
    go_at_call 45
    refine (pick_lt _ _ _ _ _ HS.out.rd (by omega) (by omega)).mono ?_
    rintro e wn ⟨x4, rfl, hu, hv, h4, hg4⟩
    have HB4 := Lib.hid (And.intro hu hv)
    have hS1 : Blk wn w2.heap.size 26 #[.slice A2 n2 c2] ∧ Blk wn (w2.heap.size + 1) 28 #[.int .i64 a, .int .i64 b, .int .i64 h9] ∧ Blk wn p6 3 #[.int .i64 0, .int .i64 0, .int .i64 0, .int .i64 0, .int .i64 1, .int .i64 2, .int .i64 3] := ⟨Blk.grown (hHeld.1) hg4 (fun e => HV0.out.1 (Option.some.inj e)), Blk.grown (hHeld.2.1) hg4 (fun e => HV0.out.2.1 (Option.some.inj e)), Blk.grown (hHeld.2.2) hg4 (fun e => HP6.out.1 (Option.some.inj e))⟩
    replace HS := Lib.hid (HS.out.grown hg4 h4)
    replace HR0 := Lib.hid (Blk.grown HR0.out hg4 (fun e => by have := HS.out.far; have := Option.some.inj e; omega))
    replace HR1 := Lib.hid (Blk.grown HR1.out hg4 (fun e => by have := HS.out.far; have := Option.some.inj e; omega))
    clear hHeld
    clear hu hv h4 hg4
    refine hK.out _ _ hS1 (fun hX => ?_)
    clear hK K hX
    try simp only [Act.put, List.setIfInBounds_toArray, List.set_cons_zero, List.set_cons_succ]
    have hHeld := hS1
    clear hS1
    revert HR1
    revert HR0
    revert HP6
    revert HB4
    revert HS
    revert hHeld
    revert p6
    revert x4
    revert wn
    exact key4.out
  · intro wz x4 p5 hHeld HS HB4 HP5 HR0 HR1
    refine wpAnyH_ready (rs := [6, 8]) (by kernel_rfl) (by simp) ?_
    refine AllReadyH.cons rfl (fun K hK => ?_) (AllReadyH.cons rfl (fun K hK => ?_) AllReadyH.nil)
    · go_simp
      have HP6 := Lib.hid HS.out.fresh
      have hB0 := Blk.new wz 3 #[.int .i64 0, .int .i64 0, .int .i64 0, .int .i64 0, .int .i64 1, .int .i64 2, .int .i64 3]
      have hS1 : Blk (World.alloc wz (.cells #[.int .i64 0, .int .i64 0, .int .i64 0, .int .i64 0, .int .i64 1, .int .i64 2, .int .i64 3] 3)) w2.heap.size 26 #[.slice A2 n2 c2] ∧ Blk (World.alloc wz (.cells #[.int .i64 0, .int .i64 0, .int .i64 0, .int .i64 0, .int .i64 1, .int .i64 2, .int .i64 3] 3)) (w2.heap.size + 1) 28 #[.int .i64 a, .int .i64 b, .int .i64 h9] ∧ Blk (World.alloc wz (.cells #[.int .i64 0, .int .i64 0, .int .i64 0, .int .i64 0, .int .i64 1, .int .i64 2, .int .i64 3] 3)) p5 3 #[.int .i64 x4, .int .i64 1000000, .int .i64 1000001, .int .i64 (-1)] := ⟨(hHeld.1).alloc (.cells #[.int .i64 0, .int .i64 0, .int .i64 0, .int .i64 0, .int .i64 1, .int .i64 2, .int .i64 3] 3), (hHeld.2.1).alloc (.cells #[.int .i64 0, .int .i64 0, .int .i64 0, .int .i64 0, .int .i64 1, .int .i64 2, .int .i64 3] 3), (hHeld.2.2).alloc (.cells #[.int .i64 0, .int .i64 0, .int .i64 0, .int .i64 0, .int .i64 1, .int .i64 2, .int .i64 3] 3)⟩
      replace HS := Lib.hid (HS.out.kept (grown_alloc (grown_refl wz none) (.cells #[.int .i64 0, .int .i64 0, .int .i64 0, .int .i64 0, .int .i64 1, .int .i64 2, .int .i64 3] 3)))
      replace HR0 := Lib.hid (HR0.out.alloc (.cells #[.int .i64 0, .int .i64 0, .int .i64 0, .int .i64 0, .int .i64 1, .int .i64 2, .int .i64 3] 3))
      replace HR1 := Lib.hid (HR1.out.alloc (.cells #[.int .i64 0, .int .i64 0, .int .i64 0, .int .i64 0, .int .i64 1, .int .i64 2, .int .i64 3] 3))
      clear hHeld
      refine hK.out _ _ hS1 (fun hX => ?_)
      clear hK K hX
      try simp only [Act.put, List.setIfInBounds_toArray, List.set_cons_zero, List.set_cons_succ]
      generalize wz.heap.size = p6 at HP6 hB0 ⊢
      generalize (World.alloc wz (.cells #[.int .i64 0, .int .i64 0, .int .i64 0, .int .i64 0, .int .i64 1, .int .i64 2, .int .i64 3] 3)) = wn at hS1 HS hB0 HR0 HR1 ⊢
      refine wpAnyH_to (S' := (fun w' => Blk w' w2.heap.size 26 #[.slice A2 n2 c2] ∧ Blk w' (w2.heap.size + 1) 28 #[.int .i64 a, .int .i64 b, .int .i64 h9] ∧ Blk w' p5 3 #[.int .i64 x4, .int .i64 1000000, .int .i64 1000001, .int .i64 (-1)] ∧ Blk w' p6 3 #[.int .i64 0, .int .i64 0, .int .i64 0, .int .i64 0, .int .i64 1, .int .i64 2, .int .i64 3])) (fun w' h => ⟨h.1, h.2.1, h.2.2.1⟩) _ _ _ _ ?_
      have hHeld : Blk wn w2.heap.size 26 #[.slice A2 n2 c2] ∧ Blk wn (w2.heap.size + 1) 28 #[.int .i64 a, .int .i64 b, .int .i64 h9] ∧ Blk wn p5 3 #[.int .i64 x4, .int .i64 1000000, .int .i64 1000001, .int .i64 (-1)] ∧ Blk wn p6 3 #[.int .i64 0, .int .i64 0, .int .i64 0, .int .i64 0, .int .i64 1, .int .i64 2, .int .i64 3] := ⟨hS1.1, hS1.2.1, hS1.2.2, hB0⟩
      clear hS1 hB0
      revert HR1
      revert HR0
      revert HP6
      revert HP5
      revert HB4
      revert HS
      revert hHeld
      revert p6
      revert p5
      revert x4
      revert wn
      exact key6.out
    · go_simp
      go_at_call 45
      refine (pick_lt _ _ _ _ _ HS.out.rd (by omega) (by omega)).mono ?_
      rintro e wn ⟨x0, rfl, hu, hv, h4, hg4⟩
      obtain ⟨y8, rfl⟩ := Int.eq_ofNat_of_zero_le hu
      have HB8 := Lib.hid (show y8 < 7 by omega)
      have hS1 : Blk wn w2.heap.size 26 #[.slice A2 n2 c2] ∧ Blk wn (w2.heap.size + 1) 28 #[.int .i64 a, .int .i64 b, .int .i64 h9] ∧ Blk wn p5 3 #[.int .i64 x4, .int .i64 1000000, .int .i64 1000001, .int .i64 (-1)] := ⟨Blk.grown (hHeld.1) hg4 (fun e => HV0.out.1 (Option.some.inj e)), Blk.grown (hHeld.2.1) hg4 (fun e => HV0.out.2.1 (Option.some.inj e)), Blk.grown (hHeld.2.2) hg4 (fun e => HP5.out.1 (Option.some.inj e))⟩
      replace HS := Lib.hid (HS.out.grown hg4 h4)
      replace HR0 := Lib.hid (Blk.grown HR0.out hg4 (fun e => by have := HS.out.far; have := Option.some.inj e; omega))
      replace HR1 := Lib.hid (Blk.grown HR1.out hg4 (fun e => by have := HS.out.far; have := Option.some.inj e; omega))
      clear hHeld
      clear hu hv h4 hg4
      refine hK.out _ _ hS1 (fun hX => ?_)
      clear hK K hX
      try simp only [Act.put, List.setIfInBounds_toArray, List.set_cons_zero, List.set_cons_succ]
      have hHeld := hS1
      clear hS1
      refine heldY 13 2 ?_
      revert HR1
      revert HR0
      revert HP5
      revert HB8
      revert HB4
      revert HS
      revert hHeld
      revert p5
      revert y8
      revert x4
      revert wn
      exact key7.out
  · intro wz x4 p6 hHeld HS HB4 HP6 HR0 HR1
    refine wpAnyH_ready (rs := [5, 8]) (by kernel_rfl) (by simp) ?_
    refine AllReadyH.cons rfl (fun K hK => ?_) (AllReadyH.cons rfl (fun K hK => ?_) AllReadyH.nil)
    · go_simp
      have HP5 := Lib.hid HS.out.fresh
      have hB0 := Blk.new wz 3 #[.int .i64 x4, .int .i64 1000000, .int .i64 1000001, .int .i64 (-1)]
      have hS1 : Blk (World.alloc wz (.cells #[.int .i64 x4, .int .i64 1000000, .int .i64 1000001, .int .i64 (-1)] 3)) w2.heap.size 26 #[.slice A2 n2 c2] ∧ Blk (World.alloc wz (.cells #[.int .i64 x4, .int .i64 1000000, .int .i64 1000001, .int .i64 (-1)] 3)) (w2.heap.size + 1) 28 #[.int .i64 a, .int .i64 b, .int .i64 h9] ∧ Blk (World.alloc wz (.cells #[.int .i64 x4, .int .i64 1000000, .int .i64 1000001, .int .i64 (-1)] 3)) p6 3 #[.int .i64 0, .int .i64 0, .int .i64 0, .int .i64 0, .int .i64 1, .int .i64 2, .int .i64 3] := ⟨(hHeld.1).alloc (.cells #[.int .i64 x4, .int .i64 1000000, .int .i64 1000001, .int .i64 (-1)] 3), (hHeld.2.1).alloc (.cells #[.int .i64 x4, .int .i64 1000000, .int .i64 1000001, .int .i64 (-1)] 3), (hHeld.2.2).alloc (.cells #[.int .i64 x4, .int .i64 1000000, .int .i64 1000001, .int .i64 (-1)] 3)⟩
      replace HS := Lib.hid (HS.out.kept (grown_alloc (grown_refl wz none) (.cells #[.int .i64 x4, .int .i64 1000000, .int .i64 1000001, .int .i64 (-1)] 3)))
      replace HR0 := Lib.hid (HR0.out.alloc (.cells #[.int .i64 x4, .int .i64 1000000, .int .i64 1000001, .int .i64 (-1)] 3))
      replace HR1 := Lib.hid (HR1.out.alloc (.cells #[.int .i64 x4, .int .i64 1000000, .int .i64 1000001, .int .i64 (-1)] 3))
      clear hHeld
      refine hK.out _ _ hS1 (fun hX => ?_)
      clear hK K hX
      try simp only [Act.put, List.setIfInBounds_toArray, List.set_cons_zero, List.set_cons_succ]
      generalize wz.heap.size = p5 at HP5 hB0 ⊢
      generalize (World.alloc wz (.cells #[.int .i64 x4, .int .i64 1000000, .int .i64 1000001, .int .i64 (-1)] 3)) = wn at hS1 HS hB0 HR0 HR1 ⊢
      refine wpAnyH_to (S' := (fun w' => Blk w' w2.heap.size 26 #[.slice A2 n2 c2] ∧ Blk w' (w2.heap.size + 1) 28 #[.int .i64 a, .int .i64 b, .int .i64 h9] ∧ Blk w' p5 3 #[.int .i64 x4, .int .i64 1000000, .int .i64 1000001, .int .i64 (-1)] ∧ Blk w' p6 3 #[.int .i64 0, .int .i64 0, .int .i64 0, .int .i64 0, .int .i64 1, .int .i64 2, .int .i64 3])) (fun w' h => ⟨h.1, h.2.1, h.2.2.2⟩) _ _ _ _ ?_
      have hHeld : Blk wn w2.heap.size 26 #[.slice A2 n2 c2] ∧ Blk wn (w2.heap.size + 1) 28 #[.int .i64 a, .int .i64 b, .int .i64 h9] ∧ Blk wn p5 3 #[.int .i64 x4, .int .i64 1000000, .int .i64 1000001, .int .i64 (-1)] ∧ Blk wn p6 3 #[.int .i64 0, .int .i64 0, .int .i64 0, .int .i64 0, .int .i64 1, .int .i64 2, .int .i64 3] := ⟨hS1.1, hS1.2.1, hB0, hS1.2.2⟩
      clear hS1 hB0
      revert HR1
      revert HR0
      revert HP6
      revert HP5
      revert HB4
      revert HS
      revert hHeld
      revert p6
      revert p5
      revert x4
      revert wn
      exact key6.out
    · go_simp
      go_at_call 45
      refine (pick_lt _ _ _ _ _ HS.out.rd (by omega) (by omega)).mono ?_
      rintro e wn ⟨x0, rfl, hu, hv, h4, hg4⟩
      obtain ⟨y8, rfl⟩ := Int.eq_ofNat_of_zero_le hu
      have HB8 := Lib.hid (show y8 < 7 by omega)
      have hS1 : Blk wn w2.heap.size 26 #[.slice A2 n2 c2] ∧ Blk wn (w2.heap.size + 1) 28 #[.int .i64 a, .int .i64 b, .int .i64 h9] ∧ Blk wn p6 3 #[.int .i64 0, .int .i64 0, .int .i64 0, .int .i64 0, .int .i64 1, .int .i64 2, .int .i64 3] := ⟨Blk.grown (hHeld.1) hg4 (fun e => HV0.out.1 (Option.some.inj e)), Blk.grown (hHeld.2.1) hg4 (fun e => HV0.out.2.1 (Option.some.inj e)), Blk.grown (hHeld.2.2) hg4 (fun e => HP6.out.1 (Option.some.inj e))⟩
      replace HS := Lib.hid (HS.out.grown hg4 h4)
      replace HR0 := Lib.hid (Blk.grown HR0.out hg4 (fun e => by have := HS.out.far; have := Option.some.inj e; omega))
      replace HR1 := Lib.hid (Blk.grown HR1.out hg4 (fun e => by have := HS.out.far; have := Option.some.inj e; omega))
      clear hHeld
      clear hu hv h4 hg4
      refine hK.out _ _ hS1 (fun hX => ?_)
      clear hK K hX
      try simp only [Act.put, List.setIfInBounds_toArray, List.set_cons_zero, List.set_cons_succ]
      have hHeld := hS1
      clear hS1
      have y0 : decide ((0 : Int) ≤ y8) = true := decide_eq_true (by omega)
      have y1 : (y8 : Int) < 7 := by have := HB8.out; omega
      refine heldY 9 27 ?_
      clear y0 y1
      obtain ⟨z10, hz10, hy10⟩ := litV7 y8 HB8.out
      have HZ10 := Lib.hid (And.intro hz10 hy10)
      clear hz10 hy10
      refine held_yes (i := 10) (d := some 28) (v := ?_) rfl rfl (by kernel_rfl) (by kernel_rfl) (by kernel_rfl) (fun _ _ _ h => h) (by rfl) ?_ (by assumption) ?_
      rotate_left
      · (intro w hSw; (try dsimp only at hSw); have e8 := (hSw.2.2.cell y8).trans HZ10.out.2; go_simp; (first | done | with_reducible rfl))
      try simp only [Act.put, List.setIfInBounds_toArray, List.set_cons_zero, List.set_cons_succ]
      refine heldY 13 2 ?_
      revert HR1
      revert HR0
      revert HZ10
      revert HP6
      revert HB8
      revert HB4
      revert HS
      revert hHeld
      revert z10
      revert p6
      revert y8
      revert x4
      revert wn
      exact key8.out
  · intro wz x4 y8 hHeld HS HB4 HB8 HR0 HR1
    refine wpAnyH_ready (rs := [5, 6, 14]) (by kernel_rfl) (by simp) ?_
    refine AllReadyH.cons rfl (fun K hK => ?_) (AllReadyH.cons rfl (fun K hK => ?_) (AllReadyH.cons rfl (fun K hK => ?_) AllReadyH.nil))
    · go_simp
      have HP5 := Lib.hid HS.out.fresh
      have hB0 := Blk.new wz 3 #[.int .i64 x4, .int .i64 1000000, .int .i64 1000001, .int .i64 (-1)]
      have hS1 : Blk (World.alloc wz (.cells #[.int .i64 x4, .int .i64 1000000, .int .i64 1000001, .int .i64 (-1)] 3)) w2.heap.size 26 #[.slice A2 n2 c2] ∧ Blk (World.alloc wz (.cells #[.int .i64 x4, .int .i64 1000000, .int .i64 1000001, .int .i64 (-1)] 3)) (w2.heap.size + 1) 28 #[.int .i64 a, .int .i64 b, .int .i64 h9] := ⟨(hHeld.1).alloc (.cells #[.int .i64 x4, .int .i64 1000000, .int .i64 1000001, .int .i64 (-1)] 3), (hHeld.2).alloc (.cells #[.int .i64 x4, .int .i64 1000000, .int .i64 1000001, .int .i64 (-1)] 3)⟩
      replace HS := Lib.hid (HS.out.kept (grown_alloc (grown_refl wz none) (.cells #[.int .i64 x4, .int .i64 1000000, .int .i64 1000001, .int .i64 (-1)] 3)))
      replace HR0 := Lib.hid (HR0.out.alloc (.cells #[.int .i64 x4, .int .i64 1000000, .int .i64 1000001, .int .i64 (-1)] 3))
      replace HR1 := Lib.hid (HR1.out.alloc (.cells #[.int .i64 x4, .int .i64 1000000, .int .i64 1000001, .int .i64 (-1)] 3))
      clear hHeld
      refine hK.out _ _ hS1 (fun hX => ?_)
      clear hK K hX
      try simp only [Act.put, List.setIfInBounds_toArray, List.set_cons_zero, List.set_cons_succ]
      generalize wz.heap.size = p5 at HP5 hB0 ⊢
      generalize (World.alloc wz (.cells #[.int .i64 x4, .int .i64 1000000, .int .i64 1000001, .int .i64 (-1)] 3)) = wn at hS1 HS hB0 HR0 HR1 ⊢
      refine wpAnyH_to (S' := (fun w' => Blk w' w2.heap.size 26 #[.slice A2 n2 c2] ∧ Blk w' (w2.heap.size + 1) 28 #[.int .i64 a, .int .i64 b, .int .i64 h9] ∧ Blk w' p5 3 #[.int .i64 x4, .int .i64 1000000, .int .i64 1000001, .int .i64 (-1)])) (fun w' h => ⟨h.1, h.2.1⟩) _ _ _ _ ?_
      have hHeld : Blk wn w2.heap.size 26 #[.slice A2 n2 c2] ∧ Blk wn (w2.heap.size + 1) 28 #[.int .i64 a, .int .i64 b, .int .i64 h9] ∧ Blk wn p5 3 #[.int .i64 x4, .int .i64 1000000, .int .i64 1000001, .int .i64 (-1)] := ⟨hS1.1, hS1.2, hB0⟩
      clear hS1 hB0
      revert HR1
      revert HR0
      revert HP5
      revert HB8
      revert HB4
      revert HS
      revert hHeld
      revert p5
      revert y8
      revert x4
      revert wn
      exact key7.out
    · go_simp
      have HP6 := Lib.hid HS.out.fresh
      have hB0 := Blk.new wz 3 #[.int .i64 0, .int .i64 0, .int .i64 0, .int .i64 0, .int .i64 1, .int .i64 2, .int .i64 3]
      have hS1 : Blk (World.alloc wz (.cells #[.int .i64 0, .int .i64 0, .int .i64 0, .int .i64 0, .int .i64 1, .int .i64 2, .int .i64 3] 3)) w2.heap.size 26 #[.slice A2 n2 c2] ∧ Blk (World.alloc wz (.cells #[.int .i64 0, .int .i64 0, .int .i64 0, .int .i64 0, .int .i64 1, .int .i64 2, .int .i64 3] 3)) (w2.heap.size + 1) 28 #[.int .i64 a, .int .i64 b, .int .i64 h9] := ⟨(hHeld.1).alloc (.cells #[.int .i64 0, .int .i64 0, .int .i64 0, .int .i64 0, .int .i64 1, .int .i64 2, .int .i64 3] 3), (hHeld.2).alloc (.cells #[.int .i64 0, .int .i64 0, .int .i64 0, .int .i64 0, .int .i64 1, .int .i64 2, .int .i64 3] 3)⟩
      replace HS := Lib.hid (HS.out.kept (grown_alloc (grown_refl wz none) (.cells #[.int .i64 0, .int .i64 0, .int .i64 0, .int .i64 0, .int .i64 1, .int .i64 2, .int .i64 3] 3)))
      replace HR0 := Lib.hid (HR0.out.alloc (.cells #[.int .i64 0, .int .i64 0, .int .i64 0, .int .i64 0, .int .i64 1, .int .i64 2, .int .i64 3] 3))
      replace HR1 := Lib.hid (HR1.out.alloc (.cells #[.int .i64 0, .int .i64 0, .int .i64 0, .int .i64 0, .int .i64 1, .int .i64 2, .int .i64 3] 3))
      clear hHeld
      refine hK.out _ _ hS1 (fun hX => ?_)
      clear hK K hX
      try simp only [Act.put, List.setIfInBounds_toArray, List.set_cons_zero, List.set_cons_succ]
      generalize wz.heap.size = p6 at HP6 hB0 ⊢
      generalize (World.alloc wz (.cells #[.int .i64 0, .int .i64 0, .int .i64 0, .int .i64 0, .int .i64 1, .int .i64 2, .int .i64 3] 3)) = wn at hS1 HS hB0 HR0 HR1 ⊢
      refine wpAnyH_to (S' := (fun w' => Blk w' w2.heap.size 26 #[.slice A2 n2 c2] ∧ Blk w' (w2.heap.size + 1) 28 #[.int .i64 a, .int .i64 b, .int .i64 h9] ∧ Blk w' p6 3 #[.int .i64 0, .int .i64 0, .int .i64 0, .int .i64 0, .int .i64 1, .int .i64 2, .int .i64 3])) (fun w' h => ⟨h.1, h.2.1⟩) _ _ _ _ ?_
      have hHeld : Blk wn w2.heap.size 26 #[.slice A2 n2 c2] ∧ Blk wn (w2.heap.size + 1) 28 #[.int .i64 a, .int .i64 b, .int .i64 h9] ∧ Blk wn p6 3 #[.int .i64 0, .int .i64 0, .int .i64 0, .int .i64 0, .int .i64 1, .int .i64 2, .int .i64 3] := ⟨hS1.1, hS1.2, hB0⟩
      clear hS1 hB0
      have y0 : decide ((0 : Int) ≤ y8) = true := decide_eq_true (by omega)
      have y1 : (y8 : Int) < 7 := by have := HB8.out; omega
      refine heldY 9 27 ?_
      clear y0 y1
      obtain ⟨z10, hz10, hy10⟩ := litV7 y8 HB8.out
      have HZ10 := Lib.hid (And.intro hz10 hy10)
      clear hz10 hy10
      refine held_yes (i := 10) (d := some 28) (v := ?_) rfl rfl (by kernel_rfl) (by kernel_rfl) (by kernel_rfl) (fun _ _ _ h => h) (by rfl) ?_ (by assumption) ?_
      rotate_left
      · (intro w hSw; (try dsimp only at hSw); have e8 := (hSw.2.2.cell y8).trans HZ10.out.2; go_simp; (first | done | with_reducible rfl))
      try simp only [Act.put, List.setIfInBounds_toArray, List.set_cons_zero, List.set_cons_succ]
      revert HR1
      revert HR0
      revert HZ10
      revert HP6
      revert HB8
      revert HB4
      revert HS
      revert hHeld
      revert z10
      revert p6
      revert y8
      revert x4
      revert wn
      exact key8.out
    · have r0 := HR0.out.cell 0
      have r1 := HR0.out.frozen 0
      go_simp
      have hS1 : Blk (World.setCell wz ⟨w.heap.size, 0, none⟩ (.slice A2 n2 c2)) w2.heap.size 26 #[.slice A2 n2 c2] ∧ Blk (World.setCell wz ⟨w.heap.size, 0, none⟩ (.slice A2 n2 c2)) (w2.heap.size + 1) 28 #[.int .i64 a, .int .i64 b, .int .i64 h9] := ⟨(hHeld.1.far (p := ⟨w.heap.size, 0, none⟩) (by have := HV0.out.2.2; dsimp only; omega) (.slice A2 n2 c2)), (hHeld.2.far (p := ⟨w.heap.size, 0, none⟩) (by have := HV0.out.2.2; dsimp only; omega) (.slice A2 n2 c2))⟩
      replace HS := Lib.hid (HS.out.put (p := ⟨w.heap.size, 0, none⟩) (.inl rfl) (.slice A2 n2 c2))
      replace HR0 := Lib.hid (show Blk (World.setCell wz ⟨w.heap.size, 0, none⟩ (.slice A2 n2 c2)) w.heap.size 26 #[.slice A2 n2 c2] from HR0.out.put 0 (.slice A2 n2 c2))
      replace HR1 := Lib.hid (HR1.out.far (p := ⟨w.heap.size, 0, none⟩) (by dsimp only; omega) (.slice A2 n2 c2))
      clear hHeld
      clear r0 r1
      refine hK.out _ _ hS1 (fun hX => ?_)
      clear hK K hX
      try simp only [Act.put, List.setIfInBounds_toArray, List.set_cons_zero, List.set_cons_succ]
      generalize (World.setCell wz ⟨w.heap.size, 0, none⟩ (.slice A2 n2 c2)) = wn at hS1 HS HR0 HR1 ⊢
      have hHeld := hS1
      clear hS1
      revert HR1
      revert HR0
      revert HB8
      revert HB4
      revert HS
      revert hHeld
      revert y8
      revert x4
      revert wn
      exact key9.out
  · intro wz x4 p5 p6 hHeld HS HB4 HP5 HP6 HR0 HR1
    refine wpAnyH_ready (rs := [8]) (by kernel_rfl) (by simp) ?_
    refine AllReadyH.cons rfl (fun K hK => ?_) AllReadyH.nil
    go_simp
    go_at_call 45
    refine (pick_lt _ _ _ _ _ HS.out.rd (by omega) (by omega)).mono ?_
    rintro e wn ⟨x0, rfl, hu, hv, h4, hg4⟩
    obtain ⟨y8, rfl⟩ := Int.eq_ofNat_of_zero_le hu
    have HB8 := Lib.hid (show y8 < 7 by omega)
    have hS1 : Blk wn w2.heap.size 26 #[.slice A2 n2 c2] ∧ Blk wn (w2.heap.size + 1) 28 #[.int .i64 a, .int .i64 b, .int .i64 h9] ∧ Blk wn p5 3 #[.int .i64 x4, .int .i64 1000000, .int .i64 1000001, .int .i64 (-1)] ∧ Blk wn p6 3 #[.int .i64 0, .int .i64 0, .int .i64 0, .int .i64 0, .int .i64 1, .int .i64 2, .int .i64 3] := ⟨Blk.grown (hHeld.1) hg4 (fun e => HV0.out.1 (Option.some.inj e)), Blk.grown (hHeld.2.1) hg4 (fun e => HV0.out.2.1 (Option.some.inj e)), Blk.grown (hHeld.2.2.1) hg4 (fun e => HP5.out.1 (Option.some.inj e)), Blk.grown (hHeld.2.2.2) hg4 (fun e => HP6.out.1 (Option.some.inj e))⟩
    replace HS := Lib.hid (HS.out.grown hg4 h4)
    replace HR0 := Lib.hid (Blk.grown HR0.out hg4 (fun e => by have := HS.out.far; have := Option.some.inj e; omega))
    replace HR1 := Lib.hid (Blk.grown HR1.out hg4 (fun e => by have := HS.out.far; have := Option.some.inj e; omega))
    clear hHeld
    clear hu hv h4 hg4
    refine hK.out _ _ hS1 (fun hX => ?_)
    clear hK K hX
    try simp only [Act.put, List.setIfInBounds_toArray, List.set_cons_zero, List.set_cons_succ]
    have hHeld := hS1
    clear hS1
    have y0 : decide ((0 : Int) ≤ y8) = true := decide_eq_true (by omega)
    have y1 : (y8 : Int) < 7 := by have := HB8.out; omega
    refine heldY 9 27 ?_
    clear y0 y1
    obtain ⟨z10, hz10, hy10⟩ := litV7 y8 HB8.out
    have HZ10 := Lib.hid (And.intro hz10 hy10)
    clear hz10 hy10
    refine held_yes (i := 10) (d := some 28) (v := ?_) rfl rfl (by kernel_rfl) (by kernel_rfl) (by kernel_rfl) (fun _ _ _ h => h) (by rfl) ?_ (by assumption) ?_
    rotate_left
    · (intro w hSw; (try dsimp only at hSw); have e8 := (hSw.2.2.2.cell y8).trans HZ10.out.2; go_simp; (first | done | with_reducible rfl))
    try simp only [Act.put, List.setIfInBounds_toArray, List.set_cons_zero, List.set_cons_succ]
    have y0 : decide ((0 : Int) ≤ z10) = true := decide_eq_true (by omega)
    have y1 : (z10 : Int) < 4 := by have := HZ10.out.1; omega
    refine heldY 11 29 ?_
    clear y0 y1
    obtain ⟨v12, hv12⟩ := litV4 z10 HZ10.out.1 x4 1000000 1000001 (-1)
    have HZ12 := Lib.hid hv12
    clear hv12
    refine held_yes (i := 12) (d := some 30) (v := ?_) rfl rfl (by kernel_rfl) (by kernel_rfl) (by kernel_rfl) (fun _ _ _ h => h) (by rfl) ?_ (by assumption) ?_
    rotate_left
    · (intro w hSw; (try dsimp only at hSw); have e8 := (hSw.2.2.1.cell z10).trans HZ12.out; go_simp; (first | done | with_reducible rfl))
    try simp only [Act.put, List.setIfInBounds_toArray, List.set_cons_zero, List.set_cons_succ]
    refine heldY 13 2 ?_
    revert HR1
    revert HR0
    revert HZ12
    revert HZ10
    revert HP6
    revert HP5
    revert HB8
    revert HB4
    revert HS
    revert hHeld
    revert v12
    revert z10
    revert p6
    revert p5
    revert y8
    revert x4
    revert wn
    exact key10.out
  · intro wz x4 y8 p5 hHeld HS HB4 HB8 HP5 HR0 HR1
    refine wpAnyH_ready (rs := [6, 14]) (by kernel_rfl) (by simp) ?_
    refine AllReadyH.cons rfl (fun K hK => ?_) (AllReadyH.cons rfl (fun K hK => ?_) AllReadyH.nil)
    · go_simp
      have HP6 := Lib.hid HS.out.fresh
      have hB0 := Blk.new wz 3 #[.int .i64 0, .int .i64 0, .int .i64 0, .int .i64 0, .int .i64 1, .int .i64 2, .int .i64 3]
      have hS1 : Blk (World.alloc wz (.cells #[.int .i64 0, .int .i64 0, .int .i64 0, .int .i64 0, .int .i64 1, .int .i64 2, .int .i64 3] 3)) w2.heap.size 26 #[.slice A2 n2 c2] ∧ Blk (World.alloc wz (.cells #[.int .i64 0, .int .i64 0, .int .i64 0, .int .i64 0, .int .i64 1, .int .i64 2, .int .i64 3] 3)) (w2.heap.size + 1) 28 #[.int .i64 a, .int .i64 b, .int .i64 h9] ∧ Blk (World.alloc wz (.cells #[.int .i64 0, .int .i64 0, .int .i64 0, .int .i64 0, .int .i64 1, .int .i64 2, .int .i64 3] 3)) p5 3 #[.int .i64 x4, .int .i64 1000000, .int .i64 1000001, .int .i64 (-1)] := ⟨(hHeld.1).alloc (.cells #[.int .i64 0, .int .i64 0, .int .i64 0, .int .i64 0, .int .i64 1, .int .i64 2, .int .i64 3] 3), (hHeld.2.1).alloc (.cells #[.int .i64 0, .int .i64 0, .int .i64 0, .int .i64 0, .int .i64 1, .int .i64 2, .int .i64 3] 3), (hHeld.2.2).alloc (.cells #[.int .i64 0, .int .i64 0, .int .i64 0, .int .i64 0, .int .i64 1, .int .i64 2, .int .i64 3] 3)⟩
      replace HS := Lib.hid (HS.out.kept (grown_alloc (grown_refl wz none) (.cells #[.int .i64 0, .int .i64 0, .int .i64 0, .int .i64 0, .int .i64 1, .int .i64 2, .int .i64 3] 3)))
      replace HR0 := Lib.hid (HR0.out.alloc (.cells #[.int .i64 0, .int .i64 0, .int .i64 0, .int .i64 0, .int .i64 1, .int .i64 2, .int .i64 3] 3))
      replace HR1 := Lib.hid (HR1.out.alloc (.cells #[.int .i64 0, .int .i64 0, .int .i64 0, .int .i64 0, .int .i64 1, .int .i64 2, .int .i64 3] 3))
      clear hHeld
      refine hK.out _ _ hS1 (fun hX => ?_)
      clear hK K hX
      try simp only [Act.put, List.setIfInBounds_toArray, List.set_cons_zero, List.set_cons_succ]
      generalize wz.heap.size = p6 at HP6 hB0 ⊢
      generalize (World.alloc wz (.cells #[.int .i64 0, .int .i64 0, .int .i64 0, .int .i64 0, .int .i64 1, .int .i64 2, .int .i64 3] 3)) = wn at hS1 HS hB0 HR0 HR1 ⊢
      refine wpAnyH_to (S' := (fun w' => Blk w' w2.heap.size 26 #[.slice A2 n2 c2] ∧ Blk w' (w2.heap.size + 1) 28 #[.int .i64 a, .int .i64 b, .int .i64 h9] ∧ Blk w' p5 3 #[.int .i64 x4, .int .i64 1000000, .int .i64 1000001, .int .i64 (-1)] ∧ Blk w' p6 3 #[.int .i64 0, .int .i64 0, .int .i64 0, .int .i64 0, .int .i64 1, .int .i64 2, .int .i64 3])) (fun w' h => ⟨h.1, h.2.1, h.2.2.1⟩) _ _ _ _ ?_
      have hHeld : Blk wn w2.heap.size 26 #[.slice A2 n2 c2] ∧ Blk wn (w2.heap.size + 1) 28 #[.int .i64 a, .int .i64 b, .int .i64 h9] ∧ Blk wn p5 3 #[.int .i64 x4, .int .i64 1000000, .int .i64 1000001, .int .i64 (-1)] ∧ Blk wn p6 3 #[.int .i64 0, .int .i64 0, .int .i64 0, .int .i64 0, .int .i64 1, .int .i64 2, .int .i64 3] := ⟨hS1.1, hS1.2.1, hS1.2.2, hB0⟩
      clear hS1 hB0
      have y0 : decide ((0 : Int) ≤ y8) = true := decide_eq_true (by omega)
      have y1 : (y8 : Int) < 7 := by have := HB8.out; omega
      refine heldY 9 27 ?_
      clear y0 y1
      obtain ⟨z10, hz10, hy10⟩ := litV7 y8 HB8.out
      have HZ10 := Lib.hid (And.intro hz10 hy10)
      clear hz10 hy10
      refine held_yes (i := 10) (d := some 28) (v := ?_) rfl rfl (by kernel_rfl) (by kernel_rfl) (by kernel_rfl) (fun _ _ _ h => h) (by rfl) ?_ (by assumption) ?_
      rotate_left
      · (intro w hSw; (try dsimp only at hSw); have e8 := (hSw.2.2.2.cell y8).trans HZ10.out.2; go_simp; (first | done | with_reducible rfl))
      try simp only [Act.put, List.setIfInBounds_toArray, List.set_cons_zero, List.set_cons_succ]
      have y0 : decide ((0 : Int) ≤ z10) = true := decide_eq_true (by omega)
      have y1 : (z10 : Int) < 4 := by have := HZ10.out.1; omega
      refine heldY 11 29 ?_
      clear y0 y1
      obtain ⟨v12, hv12⟩ := litV4 z10 HZ10.out.1 x4 1000000 1000001 (-1)
      have HZ12 := Lib.hid hv12
      clear hv12
      refine held_yes (i := 12) (d := some 30) (v := ?_) rfl rfl (by kernel_rfl) (by kernel_rfl) (by kernel_rfl) (fun _ _ _ h => h) (by rfl) ?_ (by assumption) ?_
      rotate_left
      · (intro w hSw; (try dsimp only at hSw); have e8 := (hSw.2.2.1.cell z10).trans HZ12.out; go_simp; (first | done | with_reducible rfl))
      try simp only [Act.put, List.setIfInBounds_toArray, List.set_cons_zero, List.set_cons_succ]
      revert HR1
      revert HR0
      revert HZ12
      revert HZ10
      revert HP6
      revert HP5
      revert HB8
      revert HB4
      revert HS
      revert hHeld
      revert v12
      revert z10
      revert p6
      revert p5
      revert y8
      revert x4
      revert wn
      exact key10.out
    · have r0 := HR0.out.cell 0
      have r1 := HR0.out.frozen 0
      go_simp
      have hS1 : Blk (World.setCell wz ⟨w.heap.size, 0, none⟩ (.slice A2 n2 c2)) w2.heap.size 26 #[.slice A2 n2 c2] ∧ Blk (World.setCell wz ⟨w.heap.size, 0, none⟩ (.slice A2 n2 c2)) (w2.heap.size + 1) 28 #[.int .i64 a, .int .i64 b, .int .i64 h9] ∧ Blk (World.setCell wz ⟨w.heap.size, 0, none⟩ (.slice A2 n2 c2)) p5 3 #[.int .i64 x4, .int .i64 1000000, .int .i64 1000001, .int .i64 (-1)] := ⟨(hHeld.1.far (p := ⟨w.heap.size, 0, none⟩) (by have := HV0.out.2.2; dsimp only; omega) (.slice A2 n2 c2)), (hHeld.2.1.far (p := ⟨w.heap.size, 0, none⟩) (by have := HV0.out.2.2; dsimp only; omega) (.slice A2 n2 c2)), (hHeld.2.2.far (p := ⟨w.heap.size, 0, none⟩) (by have := HP5.out.2; dsimp only; omega) (.slice A2 n2 c2))⟩
      replace HS := Lib.hid (HS.out.put (p := ⟨w.heap.size, 0, none⟩) (.inl rfl) (.slice A2 n2 c2))
      replace HR0 := Lib.hid (show Blk (World.setCell wz ⟨w.heap.size, 0, none⟩ (.slice A2 n2 c2)) w.heap.size 26 #[.slice A2 n2 c2] from HR0.out.put 0 (.slice A2 n2 c2))
      replace HR1 := Lib.hid (HR1.out.far (p := ⟨w.heap.size, 0, none⟩) (by dsimp only; omega) (.slice A2 n2 c2))
      clear hHeld
      clear r0 r1
      refine hK.out _ _ hS1 (fun hX => ?_)
      clear hK K hX
      try simp only [Act.put, List.setIfInBounds_toArray, List.set_cons_zero, List.set_cons_succ]
      generalize (World.setCell wz ⟨w.heap.size, 0, none⟩ (.slice A2 n2 c2)) = wn at hS1 HS HR0 HR1 ⊢
      have hHeld := hS1
      clear hS1
      revert HR1
      revert HR0
      revert HP5
      revert HB8
      revert HB4
      revert HS
      revert hHeld
      revert p5
      revert y8
      revert x4
      revert wn
      exact key11.out
  · intro wz x4 y8 p6 z10 hHeld HS HB4 HB8 HP6 HZ10 HR0 HR1
    refine wpAnyH_ready (rs := [5, 14]) (by kernel_rfl) (by simp) ?_
    refine AllReadyH.cons rfl (fun K hK => ?_) (AllReadyH.cons rfl (fun K hK => ?_) AllReadyH.nil)
    · go_simp
      have HP5 := Lib.hid HS.out.fresh
      have hB0 := Blk.new wz 3 #[.int .i64 x4, .int .i64 1000000, .int .i64 1000001, .int .i64 (-1)]
      have hS1 : Blk (World.alloc wz (.cells #[.int .i64 x4, .int .i64 1000000, .int .i64 1000001, .int .i64 (-1)] 3)) w2.heap.size 26 #[.slice A2 n2 c2] ∧ Blk (World.alloc wz (.cells #[.int .i64 x4, .int .i64 1000000, .int .i64 1000001, .int .i64 (-1)] 3)) (w2.heap.size + 1) 28 #[.int .i64 a, .int .i64 b, .int .i64 h9] ∧ Blk (World.alloc wz (.cells #[.int .i64 x4, .int .i64 1000000, .int .i64 1000001, .int .i64 (-1)] 3)) p6 3 #[.int .i64 0, .int .i64 0, .int .i64 0, .int .i64 0, .int .i64 1, .int .i64 2, .int .i64 3] := ⟨(hHeld.1).alloc (.cells #[.int .i64 x4, .int .i64 1000000, .int .i64 1000001, .int .i64 (-1)] 3), (hHeld.2.1).alloc (.cells #[.int .i64 x4, .int .i64 1000000, .int .i64 1000001, .int .i64 (-1)] 3), (hHeld.2.2).alloc (.cells #[.int .i64 x4, .int .i64 1000000, .int .i64 1000001, .int .i64 (-1)] 3)⟩
      replace HS := Lib.hid (HS.out.kept (grown_alloc (grown_refl wz none) (.cells #[.int .i64 x4, .int .i64 1000000, .int .i64 1000001, .int .i64 (-1)] 3)))
      replace HR0 := Lib.hid (HR0.out.alloc (.cells #[.int .i64 x4, .int .i64 1000000, .int .i64 1000001, .int .i64 (-1)] 3))
      replace HR1 := Lib.hid (HR1.out.alloc (.cells #[.int .i64 x4, .int .i64 1000000, .int .i64 1000001, .int .i64 (-1)] 3))
      clear hHeld
      refine hK.out _ _ hS1 (fun hX => ?_)
      clear hK K hX
      try simp only [Act.put, List.setIfInBounds_toArray, List.set_cons_zero, List.set_cons_succ]
      generalize wz.heap.size = p5 at HP5 hB0 ⊢
      generalize (World.alloc wz (.cells #[.int .i64 x4, .int .i64 1000000, .int .i64 1000001, .int .i64 (-1)] 3)) = wn at hS1 HS hB0 HR0 HR1 ⊢
      refine wpAnyH_to (S' := (fun w' => Blk w' w2.heap.size 26 #[.slice A2 n2 c2] ∧ Blk w' (w2.heap.size + 1) 28 #[.int .i64 a, .int .i64 b, .int .i64 h9] ∧ Blk w' p5 3 #[.int .i64 x4, .int .i64 1000000, .int .i64 1000001, .int .i64 (-1)] ∧ Blk w' p6 3 #[.int .i64 0, .int .i64 0, .int .i64 0, .int .i64 0, .int .i64 1, .int .i64 2, .int .i64 3])) (fun w' h => ⟨h.1, h.2.1, h.2.2.2⟩) _ _ _ _ ?_
      have hHeld : Blk wn w2.heap.size 26 #[.slice A2 n2 c2] ∧ Blk wn (w2.heap.size + 1) 28 #[.int .i64 a, .int .i64 b, .int .i64 h9] ∧ Blk wn p5 3 #[.int .i64 x4, .int .i64 1000000, .int .i64 1000001, .int .i64 (-1)] ∧ Blk wn p6 3 #[.int .i64 0, .int .i64 0, .int .i64 0, .int .i64 0, .int .i64 1, .int .i64 2, .int .i64 3] := ⟨hS1.1, hS1.2.1, hB0, hS1.2.2⟩
      clear hS1 hB0
      have y0 : decide ((0 : Int) ≤ z10) = true := decide_eq_true (by omega)
      have y1 : (z10 : Int) < 4 := by have := HZ10.out.1; omega
      refine heldY 11 29 ?_
      clear y0 y1
      obtain ⟨v12, hv12⟩ := litV4 z10 HZ10.out.1 x4 1000000 1000001 (-1)
      have HZ12 := Lib.hid hv12
      clear hv12
      refine held_yes (i := 12) (d := some 30) (v := ?_) rfl rfl (by kernel_rfl) (by kernel_rfl) (by kernel_rfl) (fun _ _ _ h => h) (by rfl) ?_ (by assumption) ?_
      rotate_left
      · (intro w hSw; (try dsimp only at hSw); have e8 := (hSw.2.2.1.cell z10).trans HZ12.out; go_simp; (first | done | with_reducible rfl))
      try simp only [Act.put, List.setIfInBounds_toArray, List.set_cons_zero, List.set_cons_succ]
      revert HR1
      revert HR0
      revert HZ12
      revert HZ10
      revert HP6
      revert HP5
      revert HB8
      revert HB4
      revert HS
      revert hHeld
      revert v12
      revert z10
      revert p6
      revert p5
      revert y8
      revert x4
      revert wn
      exact key10.out
    · have r0 := HR0.out.cell 0
      have r1 := HR0.out.frozen 0
      go_simp
      have hS1 : Blk (World.setCell wz ⟨w.heap.size, 0, none⟩ (.slice A2 n2 c2)) w2.heap.size 26 #[.slice A2 n2 c2] ∧ Blk (World.setCell wz ⟨w.heap.size, 0, none⟩ (.slice A2 n2 c2)) (w2.heap.size + 1) 28 #[.int .i64 a, .int .i64 b, .int .i64 h9] ∧ Blk (World.setCell wz ⟨w.heap.size, 0, none⟩ (.slice A2 n2 c2)) p6 3 #[.int .i64 0, .int .i64 0, .int .i64 0, .int .i64 0, .int .i64 1, .int .i64 2, .int .i64 3] := ⟨(hHeld.1.far (p := ⟨w.heap.size, 0, none⟩) (by have := HV0.out.2.2; dsimp only; omega) (.slice A2 n2 c2)), (hHeld.2.1.far (p := ⟨w.heap.size, 0, none⟩) (by have := HV0.out.2.2; dsimp only; omega) (.slice A2 n2 c2)), (hHeld.2.2.far (p := ⟨w.heap.size, 0, none⟩) (by have := HP6.out.2; dsimp only; omega) (.slice A2 n2 c2))⟩
      replace HS := Lib.hid (HS.out.put (p := ⟨w.heap.size, 0, none⟩) (.inl rfl) (.slice A2 n2 c2))
      replace HR0 := Lib.hid (show Blk (World.setCell wz ⟨w.heap.size, 0, none⟩ (.slice A2 n2 c2)) w.heap.size 26 #[.slice A2 n2 c2] from HR0.out.put 0 (.slice A2 n2 c2))
      replace HR1 := Lib.hid (HR1.out.far (p := ⟨w.heap.size, 0, none⟩) (by dsimp only; omega) (.slice A2 n2 c2))
      clear hHeld
      clear r0 r1
      refine hK.out _ _ hS1 (fun hX => ?_)
      clear hK K hX
      try simp only [Act.put, List.setIfInBounds_toArray, List.set_cons_zero, List.set_cons_succ]
      generalize (World.setCell wz ⟨w.heap.size, 0, none⟩ (.slice A2 n2 c2)) = wn at hS1 HS HR0 HR1 ⊢
      have hHeld := hS1
      clear hS1
      revert HR1
      revert HR0
      revert HZ10
      revert HP6
      revert HB8
      revert HB4
      revert HS
      revert hHeld
      revert z10
      revert p6
      revert y8
      revert x4
      revert wn
      exact key12.out
  · intro wz x4 y8 hHeld HS HB4 HB8 HR0 HR1
    refine wpAnyH_ready (rs := [5, 6, 15]) (by kernel_rfl) (by simp) ?_
    refine AllReadyH.cons rfl (fun K hK => ?_) (AllReadyH.cons rfl (fun K hK => ?_) (AllReadyH.cons rfl (fun K hK => ?_) AllReadyH.nil))
    · go_simp
      have HP5 := Lib.hid HS.out.fresh
      have hB0 := Blk.new wz 3 #[.int .i64 x4, .int .i64 1000000, .int .i64 1000001, .int .i64 (-1)]
      have hS1 : Blk (World.alloc wz (.cells #[.int .i64 x4, .int .i64 1000000, .int .i64 1000001, .int .i64 (-1)] 3)) w2.heap.size 26 #[.slice A2 n2 c2] ∧ Blk (World.alloc wz (.cells #[.int .i64 x4, .int .i64 1000000, .int .i64 1000001, .int .i64 (-1)] 3)) (w2.heap.size + 1) 28 #[.int .i64 a, .int .i64 b, .int .i64 h9] := ⟨(hHeld.1).alloc (.cells #[.int .i64 x4, .int .i64 1000000, .int .i64 1000001, .int .i64 (-1)] 3), (hHeld.2).alloc (.cells #[.int .i64 x4, .int .i64 1000000, .int .i64 1000001, .int .i64 (-1)] 3)⟩
      replace HS := Lib.hid (HS.out.kept (grown_alloc (grown_refl wz none) (.cells #[.int .i64 x4, .int .i64 1000000, .int .i64 1000001, .int .i64 (-1)] 3)))
      replace HR0 := Lib.hid (HR0.out.alloc (.cells #[.int .i64 x4, .int .i64 1000000, .int .i64 1000001, .int .i64 (-1)] 3))
      replace HR1 := Lib.hid (HR1.out.alloc (.cells #[.int .i64 x4, .int .i64 1000000, .int .i64 1000001, .int .i64 (-1)] 3))
      clear hHeld
      refine hK.out _ _ hS1 (fun hX => ?_)
      clear hK K hX
      try simp only [Act.put, List.setIfInBounds_toArray, List.set_cons_zero, List.set_cons_succ]
      generalize wz.heap.size = p5 at HP5 hB0 ⊢
      generalize (World.alloc wz (.cells #[.int .i64 x4, .int .i64 1000000, .int .i64 1000001, .int .i64 (-1)] 3)) = wn at hS1 HS hB0 HR0 HR1 ⊢
      refine wpAnyH_to (S' := (fun w' => Blk w' w2.heap.size 26 #[.slice A2 n2 c2] ∧ Blk w' (w2.heap.size + 1) 28 #[.int .i64 a, .int .i64 b, .int .i64 h9] ∧ Blk w' p5 3 #[.int .i64 x4, .int .i64 1000000, .int .i64 1000001, .int .i64 (-1)])) (fun w' h => ⟨h.1, h.2.1⟩) _ _ _ _ ?_
      have hHeld : Blk wn w2.heap.size 26 #[.slice A2 n2 c2] ∧ Blk wn (w2.heap.size + 1) 28 #[.int .i64 a, .int .i64 b, .int .i64 h9] ∧ Blk wn p5 3 #[.int .i64 x4, .int .i64 1000000, .int .i64 1000001, .int .i64 (-1)] := ⟨hS1.1, hS1.2, hB0⟩
      clear hS1 hB0
      revert HR1
      revert HR0
      revert HP5
      revert HB8
      revert HB4
      revert HS
      revert hHeld
      revert p5
      revert y8
      revert x4
      revert wn
      exact key11.out
    · go_simp
      have HP6 := Lib.hid HS.out.fresh
      have hB0 := Blk.new wz 3 #[.int .i64 0, .int .i64 0, .int .i64 0, .int .i64 0, .int .i64 1, .int .i64 2, .int .i64 3]
      have hS1 : Blk (World.alloc wz (.cells #[.int .i64 0, .int .i64 0, .int .i64 0, .int .i64 0, .int .i64 1, .int .i64 2, .int .i64 3] 3)) w2.heap.size 26 #[.slice A2 n2 c2] ∧ Blk (World.alloc wz (.cells #[.int .i64 0, .int .i64 0, .int .i64 0, .int .i64 0, .int .i64 1, .int .i64 2, .int .i64 3] 3)) (w2.heap.size + 1) 28 #[.int .i64 a, .int .i64 b, .int .i64 h9] := ⟨(hHeld.1).alloc (.cells #[.int .i64 0, .int .i64 0, .int .i64 0, .int .i64 0, .int .i64 1, .int .i64 2, .int .i64 3] 3), (hHeld.2).alloc (.cells #[.int .i64 0, .int .i64 0, .int .i64 0, .int .i64 0, .int .i64 1, .int .i64 2, .int .i64 3] 3)⟩
      replace HS := Lib.hid (HS.out.kept (grown_alloc (grown_refl wz none) (.cells #[.int .i64 0, .int .i64 0, .int .i64 0, .int .i64 0, .int .i64 1, .int .i64 2, .int .i64 3] 3)))
      replace HR0 := Lib.hid (HR0.out.alloc (.cells #[.int .i64 0, .int .i64 0, .int .i64 0, .int .i64 0, .int .i64 1, .int .i64 2, .int .i64 3] 3))
      replace HR1 := Lib.hid (HR1.out.alloc (.cells #[.int .i64 0, .int .i64 0, .int .i64 0, .int .i64 0, .int .i64 1, .int .i64 2, .int .i64 3] 3))
      clear hHeld
      refine hK.out _ _ hS1 (fun hX => ?_)
      clear hK K hX
      try simp only [Act.put, List.setIfInBounds_toArray, List.set_cons_zero, List.set_cons_succ]
      generalize wz.heap.size = p6 at HP6 hB0 ⊢
      generalize (World.alloc wz (.cells #[.int .i64 0, .int .i64 0, .int .i64 0, .int .i64 0, .int .i64 1, .int .i64 2, .int .i64 3] 3)) = wn at hS1 HS hB0 HR0 HR1 ⊢
      refine wpAnyH_to (S' := (fun w' => Blk w' w2.heap.size 26 #[.slice A2 n2 c2] ∧ Blk w' (w2.heap.size + 1) 28 #[.int .i64 a, .int .i64 b, .int .i64 h9] ∧ Blk w' p6 3 #[.int .i64 0, .int .i64 0, .int .i64 0, .int .i64 0, .int .i64 1, .int .i64 2, .int .i64 3])) (fun w' h => ⟨h.1, h.2.1⟩) _ _ _ _ ?_
      have hHeld : Blk wn w2.heap.size 26 #[.slice A2 n2 c2] ∧ Blk wn (w2.heap.size + 1) 28 #[.int .i64 a, .int .i64 b, .int .i64 h9] ∧ Blk wn p6 3 #[.int .i64 0, .int .i64 0, .int .i64 0, .int .i64 0, .int .i64 1, .int .i64 2, .int .i64 3] := ⟨hS1.1, hS1.2, hB0⟩
      clear hS1 hB0
      have y0 : decide ((0 : Int) ≤ y8) = true := decide_eq_true (by omega)
      have y1 : (y8 : Int) < 7 := by have := HB8.out; omega
      refine heldY 9 27 ?_
      clear y0 y1
      obtain ⟨z10, hz10, hy10⟩ := litV7 y8 HB8.out
      have HZ10 := Lib.hid (And.intro hz10 hy10)
      clear hz10 hy10
      refine held_yes (i := 10) (d := some 28) (v := ?_) rfl rfl (by kernel_rfl) (by kernel_rfl) (by kernel_rfl) (fun _ _ _ h => h) (by rfl) ?_ (by assumption) ?_
      rotate_left
      · (intro w hSw; (try dsimp only at hSw); have e8 := (hSw.2.2.cell y8).trans HZ10.out.2; go_simp; (first | done | with_reducible rfl))
      try simp only [Act.put, List.setIfInBounds_toArray, List.set_cons_zero, List.set_cons_succ]
      revert HR1
      revert HR0
      revert HZ10
      revert HP6
      revert HB8
      revert HB4
      revert HS
      revert hHeld
      revert z10
      revert p6
      revert y8
      revert x4
      revert wn
      exact key12.out
    · have r0 := HR1.out.cell 0
      have r1 := HR1.out.cell 1
      have r2 := HR1.out.cell 2
      have f0 := HR1.out.frozen 0
      have f1 := HR1.out.frozen 1
      have f2 := HR1.out.frozen 2
      go_simp
      have hS1 : Blk (World.setCell (World.setCell (World.setCell wz ⟨w.heap.size + 1, 0, none⟩ (.int .i64 a)) ⟨w.heap.size + 1, 1, none⟩ (.int .i64 b)) ⟨w.heap.size + 1, 2, none⟩ (.int .i64 h9)) w2.heap.size 26 #[.slice A2 n2 c2] ∧ Blk (World.setCell (World.setCell (World.setCell wz ⟨w.heap.size + 1, 0, none⟩ (.int .i64 a)) ⟨w.heap.size + 1, 1, none⟩ (.int .i64 b)) ⟨w.heap.size + 1, 2, none⟩ (.int .i64 h9)) (w2.heap.size + 1) 28 #[.int .i64 a, .int .i64 b, .int .i64 h9] := ⟨(((hHeld.1.far (p := ⟨w.heap.size + 1, 0, none⟩) (by have := HV0.out.2.2; dsimp only; omega) (.int .i64 a)).far (p := ⟨w.heap.size + 1, 1, none⟩) (by have := HV0.out.2.2; dsimp only; omega) (.int .i64 b)).far (p := ⟨w.heap.size + 1, 2, none⟩) (by have := HV0.out.2.2; dsimp only; omega) (.int .i64 h9)), (((hHeld.2.far (p := ⟨w.heap.size + 1, 0, none⟩) (by have := HV0.out.2.2; dsimp only; omega) (.int .i64 a)).far (p := ⟨w.heap.size + 1, 1, none⟩) (by have := HV0.out.2.2; dsimp only; omega) (.int .i64 b)).far (p := ⟨w.heap.size + 1, 2, none⟩) (by have := HV0.out.2.2; dsimp only; omega) (.int .i64 h9))⟩
      replace HS := Lib.hid (((HS.out.put (p := ⟨w.heap.size + 1, 0, none⟩) (.inr rfl) (.int .i64 a)).put (p := ⟨w.heap.size + 1, 1, none⟩) (.inr rfl) (.int .i64 b)).put (p := ⟨w.heap.size + 1, 2, none⟩) (.inr rfl) (.int .i64 h9))
      replace HR0 := Lib.hid (((HR0.out.far (p := ⟨w.heap.size + 1, 0, none⟩) (by dsimp only; omega) (.int .i64 a)).far (p := ⟨w.heap.size + 1, 1, none⟩) (by dsimp only; omega) (.int .i64 b)).far (p := ⟨w.heap.size + 1, 2, none⟩) (by dsimp only; omega) (.int .i64 h9))
      replace HR1 := Lib.hid (show Blk (World.setCell (World.setCell (World.setCell wz ⟨w.heap.size + 1, 0, none⟩ (.int .i64 a)) ⟨w.heap.size + 1, 1, none⟩ (.int .i64 b)) ⟨w.heap.size + 1, 2, none⟩ (.int .i64 h9)) (w.heap.size + 1) 28 #[.int .i64 a, .int .i64 b, .int .i64 h9] from ((HR1.out.put 0 (.int .i64 a)).put 1 (.int .i64 b)).put 2 (.int .i64 h9))
      clear hHeld
      clear r0 r1 r2 f0 f1 f2
      refine hK.out _ _ hS1 (fun hX => ?_)
      clear hK K hX
      try simp only [Act.put, List.setIfInBounds_toArray, List.set_cons_zero, List.set_cons_succ]
      generalize (World.setCell (World.setCell (World.setCell wz ⟨w.heap.size + 1, 0, none⟩ (.int .i64 a)) ⟨w.heap.size + 1, 1, none⟩ (.int .i64 b)) ⟨w.heap.size + 1, 2, none⟩ (.int .i64 h9)) = wn at hS1 HS HR0 HR1 ⊢
      have hHeld := hS1
      clear hS1
      revert HR1
      revert HR0
      revert HB8
      revert HB4
      revert HS
      revert hHeld
      revert y8
      revert x4
      revert wn
      exact key13.out
  · intro wz x4 y8 p5 p6 z10 v12 hHeld HS HB4 HB8 HP5 HP6 HZ10 HZ12 HR0 HR1
    refine wpAnyH_ready (rs := [14]) (by kernel_rfl) (by simp) ?_
    refine AllReadyH.cons rfl (fun K hK => ?_) AllReadyH.nil
    have r0 := HR0.out.cell 0
    have r1 := HR0.out.frozen 0
    go_simp
    have hS1 : Blk (World.setCell wz ⟨w.heap.size, 0, none⟩ (.slice A2 n2 c2)) w2.heap.size 26 #[.slice A2 n2 c2] ∧ Blk (World.setCell wz ⟨w.heap.size, 0, none⟩ (.slice A2 n2 c2)) (w2.heap.size + 1) 28 #[.int .i64 a, .int .i64 b, .int .i64 h9] ∧ Blk (World.setCell wz ⟨w.heap.size, 0, none⟩ (.slice A2 n2 c2)) p5 3 #[.int .i64 x4, .int .i64 1000000, .int .i64 1000001, .int .i64 (-1)] ∧ Blk (World.setCell wz ⟨w.heap.size, 0, none⟩ (.slice A2 n2 c2)) p6 3 #[.int .i64 0, .int .i64 0, .int .i64 0, .int .i64 0, .int .i64 1, .int .i64 2, .int .i64 3] := ⟨(hHeld.1.far (p := ⟨w.heap.size, 0, none⟩) (by have := HV0.out.2.2; dsimp only; omega) (.slice A2 n2 c2)), (hHeld.2.1.far (p := ⟨w.heap.size, 0, none⟩) (by have := HV0.out.2.2; dsimp only; omega) (.slice A2 n2 c2)), (hHeld.2.2.1.far (p := ⟨w.heap.size, 0, none⟩) (by have := HP5.out.2; dsimp only; omega) (.slice A2 n2 c2)), (hHeld.2.2.2.far (p := ⟨w.heap.size, 0, none⟩) (by have := HP6.out.2; dsimp only; omega) (.slice A2 n2 c2))⟩
    replace HS := Lib.hid (HS.out.put (p := ⟨w.heap.size, 0, none⟩) (.inl rfl) (.slice A2 n2 c2))
    replace HR0 := Lib.hid (show Blk (World.setCell wz ⟨w.heap.size, 0, none⟩ (.slice A2 n2 c2)) w.heap.size 26 #[.slice A2 n2 c2] from HR0.out.put 0 (.slice A2 n2 c2))
    replace HR1 := Lib.hid (HR1.out.far (p := ⟨w.heap.size, 0, none⟩) (by dsimp only; omega) (.slice A2 n2 c2))
    clear hHeld
    clear r0 r1
    refine hK.out _ _ hS1 (fun hX => ?_)
    clear hK K hX
    try simp only [Act.put, List.setIfInBounds_toArray, List.set_cons_zero, List.set_cons_succ]
    generalize (World.setCell wz ⟨w.heap.size, 0, none⟩ (.slice A2 n2 c2)) = wn at hS1 HS HR0 HR1 ⊢
    have hHeld := hS1
    clear hS1
    revert HR1
    revert HR0
    revert HZ12
    revert HZ10
    revert HP6
    revert HP5
    revert HB8
    revert HB4
    revert HS
    revert hHeld
    revert v12
    revert z10
    revert p6
    revert p5
    revert y8
    revert x4
    revert wn
    exact key14.out
  · intro wz x4 y8 p5 hHeld HS HB4 HB8 HP5 HR0 HR1
    refine wpAnyH_ready (rs := [6, 15]) (by kernel_rfl) (by simp) ?_
    refine AllReadyH.cons rfl (fun K hK => ?_) (AllReadyH.cons rfl (fun K hK => ?_) AllReadyH.nil)
    · go_simp
      have HP6 := Lib.hid HS.out.fresh
      have hB0 := Blk.new wz 3 #[.int .i64 0, .int .i64 0, .int .i64 0, .int .i64 0, .int .i64 1, .int .i64 2, .int .i64 3]
      have hS1 : Blk (World.alloc wz (.cells #[.int .i64 0, .int .i64 0, .int .i64 0, .int .i64 0, .int .i64 1, .int .i64 2, .int .i64 3] 3)) w2.heap.size 26 #[.slice A2 n2 c2] ∧ Blk (World.alloc wz (.cells #[.int .i64 0, .int .i64 0, .int .i64 0, .int .i64 0, .int .i64 1, .int .i64 2, .int .i64 3] 3)) (w2.heap.size + 1) 28 #[.int .i64 a, .int .i64 b, .int .i64 h9] ∧ Blk (World.alloc wz (.cells #[.int .i64 0, .int .i64 0, .int .i64 0, .int .i64 0, .int .i64 1, .int .i64 2, .int .i64 3] 3)) p5 3 #[.int .i64 x4, .int .i64 1000000, .int .i64 1000001, .int .i64 (-1)] := ⟨(hHeld.1).alloc (.cells #[.int .i64 0, .int .i64 0, .int .i64 0, .int .i64 0, .int .i64 1, .int .i64 2, .int .i64 3] 3), (hHeld.2.1).alloc (.cells #[.int .i64 0, .int .i64 0, .int .i64 0, .int .i64 0, .int .i64 1, .int .i64 2, .int .i64 3] 3), (hHeld.2.2).alloc (.cells #[.int .i64 0, .int .i64 0, .int .i64 0, .int .i64 0, .int .i64 1, .int .i64 2, .int .i64 3] 3)⟩
      replace HS := Lib.hid (HS.out.kept (grown_alloc (grown_refl wz none) (.cells #[.int .i64 0, .int .i64 0, .int .i64 0, .int .i64 0, .int .i64 1, .int .i64 2, .int .i64 3] 3)))
      replace HR0 := Lib.hid (HR0.out.alloc (.cells #[.int .i64 0, .int .i64 0, .int .i64 0, .int .i64 0, .int .i64 1, .int .i64 2, .int .i64 3] 3))
      replace HR1 := Lib.hid (HR1.out.alloc (.cells #[.int .i64 0, .int .i64 0, .int .i64 0, .int .i64 0, .int .i64 1, .int .i64 2, .int .i64 3] 3))
      clear hHeld
      refine hK.out _ _ hS1 (fun hX => ?_)
      clear hK K hX
      try simp only [Act.put, List.setIfInBounds_toArray, List.set_cons_zero, List.set_cons_succ]
      generalize wz.heap.size = p6 at HP6 hB0 ⊢
      generalize (World.alloc wz (.cells #[.int .i64 0, .int .i64 0, .int .i64 0, .int .i64 0, .int .i64 1, .int .i64 2, .int .i64 3] 3)) = wn at hS1 HS hB0 HR0 HR1 ⊢
      refine wpAnyH_to (S' := (fun w' => Blk w' w2.heap.size 26 #[.slice A2 n2 c2] ∧ Blk w' (w2.heap.size + 1) 28 #[.int .i64 a, .int .i64 b, .int .i64 h9] ∧ Blk w' p5 3 #[.int .i64 x4, .int .i64 1000000, .int .i64 1000001, .int .i64 (-1)] ∧ Blk w' p6 3 #[.int .i64 0, .int .i64 0, .int .i64 0, .int .i64 0, .int .i64 1, .int .i64 2, .int .i64 3])) (fun w' h => ⟨h.1, h.2.1, h.2.2.1⟩) _ _ _ _ ?_
      have hHeld : Blk wn w2.heap.size 26 #[.slice A2 n2 c2] ∧ Blk wn (w2.heap.size + 1) 28 #[.int .i64 a, .int .i64 b, .int .i64 h9] ∧ Blk wn p5 3 #[.int .i64 x4, .int .i64 1000000, .int .i64 1000001, .int .i64 (-1)] ∧ Blk wn p6 3 #[.int .i64 0, .int .i64 0, .int .i64 0, .int .i64 0, .int .i64 1, .int .i64 2, .int .i64 3] := ⟨hS1.1, hS1.2.1, hS1.2.2, hB0⟩
      clear hS1 hB0
      have y0 : decide ((0 : Int) ≤ y8) = true := decide_eq_true (by omega)
      have y1 : (y8 : Int) < 7 := by have := HB8.out; omega
      refine heldY 9 27 ?_
      clear y0 y1
      obtain ⟨z10, hz10, hy10⟩ := litV7 y8 HB8.out
      have HZ10 := Lib.hid (And.intro hz10 hy10)
      clear hz10 hy10
      refine held_yes (i := 10) (d := some 28) (v := ?_) rfl rfl (by kernel_rfl) (by kernel_rfl) (by kernel_rfl) (fun _ _ _ h => h) (by rfl) ?_ (by assumption) ?_
      rotate_left
      · (intro w hSw; (try dsimp only at hSw); have e8 := (hSw.2.2.2.cell y8).trans HZ10.out.2; go_simp; (first | done | with_reducible rfl))
      try simp only [Act.put, List.setIfInBounds_toArray, List.set_cons_zero, List.set_cons_succ]
      have y0 : decide ((0 : Int) ≤ z10) = true := decide_eq_true (by omega)
      have y1 : (z10 : Int) < 4 := by have := HZ10.out.1; omega
      refine heldY 11 29 ?_
      clear y0 y1
      obtain ⟨v12, hv12⟩ := litV4 z10 HZ10.out.1 x4 1000000 1000001 (-1)
      have HZ12 := Lib.hid hv12
      clear hv12
      refine held_yes (i := 12) (d := some 30) (v := ?_) rfl rfl (by kernel_rfl) (by kernel_rfl) (by kernel_rfl) (fun _ _ _ h => h) (by rfl) ?_ (by assumption) ?_
      rotate_left
      · (intro w hSw; (try dsimp only at hSw); have e8 := (hSw.2.2.1.cell z10).trans HZ12.out; go_simp; (first | done | with_reducible rfl))
      try simp only [Act.put, List.setIfInBounds_toArray, List.set_cons_zero, List.set_cons_succ]
      revert HR1
      revert HR0
      revert HZ12
      revert HZ10
      revert HP6
      revert HP5
      revert HB8
      revert HB4
      revert HS
      revert hHeld
      revert v12
      revert z10
      revert p6
      revert p5
      revert y8
      revert x4
      revert wn
      exact key14.out
    · have r0 := HR1.out.cell 0
      have r1 := HR1.out.cell 1
      have r2 := HR1.out.cell 2
      have f0 := HR1.out.frozen 0
      have f1 := HR1.out.frozen 1
      have f2 := HR1.out.frozen 2
      go_simp
      have hS1 : Blk (World.setCell (World.setCell (World.setCell wz ⟨w.heap.size + 1, 0, none⟩ (.int .i64 a)) ⟨w.heap.size + 1, 1, none⟩ (.int .i64 b)) ⟨w.heap.size + 1, 2, none⟩ (.int .i64 h9)) w2.heap.size 26 #[.slice A2 n2 c2] ∧ Blk (World.setCell (World.setCell (World.setCell wz ⟨w.heap.size + 1, 0, none⟩ (.int .i64 a)) ⟨w.heap.size + 1, 1, none⟩ (.int .i64 b)) ⟨w.heap.size + 1, 2, none⟩ (.int .i64 h9)) (w2.heap.size + 1) 28 #[.int .i64 a, .int .i64 b, .int .i64 h9] ∧ Blk (World.setCell (World.setCell (World.setCell wz ⟨w.heap.size + 1, 0, none⟩ (.int .i64 a)) ⟨w.heap.size + 1, 1, none⟩ (.int .i64 b)) ⟨w.heap.size + 1, 2, none⟩ (.int .i64 h9)) p5 3 #[.int .i64 x4, .int .i64 1000000, .int .i64 1000001, .int .i64 (-1)] := ⟨(((hHeld.1.far (p := ⟨w.heap.size + 1, 0, none⟩) (by have := HV0.out.2.2; dsimp only; omega) (.int .i64 a)).far (p := ⟨w.heap.size + 1, 1, none⟩) (by have := HV0.out.2.2; dsimp only; omega) (.int .i64 b)).far (p := ⟨w.heap.size + 1, 2, none⟩) (by have := HV0.out.2.2; dsimp only; omega) (.int .i64 h9)), (((hHeld.2.1.far (p := ⟨w.heap.size + 1, 0, none⟩) (by have := HV0.out.2.2; dsimp only; omega) (.int .i64 a)).far (p := ⟨w.heap.size + 1, 1, none⟩) (by have := HV0.out.2.2; dsimp only; omega) (.int .i64 b)).far (p := ⟨w.heap.size + 1, 2, none⟩) (by have := HV0.out.2.2; dsimp only; omega) (.int .i64 h9)), (((hHeld.2.2.far (p := ⟨w.heap.size + 1, 0, none⟩) (by have := HP5.out.2; dsimp only; omega) (.int .i64 a)).far (p := ⟨w.heap.size + 1, 1, none⟩) (by have := HP5.out.2; dsimp only; omega) (.int .i64 b)).far (p := ⟨w.heap.size + 1, 2, none⟩) (by have := HP5.out.2; dsimp only; omega) (.int .i64 h9))⟩
      replace HS := Lib.hid (((HS.out.put (p := ⟨w.heap.size + 1, 0, none⟩) (.inr rfl) (.int .i64 a)).put (p := ⟨w.heap.size + 1, 1, none⟩) (.inr rfl) (.int .i64 b)).put (p := ⟨w.heap.size + 1, 2, none⟩) (.inr rfl) (.int .i64 h9))
      replace HR0 := Lib.hid (((HR0.out.far (p := ⟨w.heap.size + 1, 0, none⟩) (by dsimp only; omega) (.int .i64 a)).far (p := ⟨w.heap.size + 1, 1, none⟩) (by dsimp only; omega) (.int .i64 b)).far (p := ⟨w.heap.size + 1, 2, none⟩) (by dsimp only; omega) (.int .i64 h9))
      replace HR1 := Lib.hid (show Blk (World.setCell (World.setCell (World.setCell wz ⟨w.heap.size + 1, 0, none⟩ (.int .i64 a)) ⟨w.heap.size + 1, 1, none⟩ (.int .i64 b)) ⟨w.heap.size + 1, 2, none⟩ (.int .i64 h9)) (w.heap.size + 1) 28 #[.int .i64 a, .int .i64 b, .int .i64 h9] from ((HR1.out.put 0 (.int .i64 a)).put 1 (.int .i64 b)).put 2 (.int .i64 h9))
      clear hHeld
      clear r0 r1 r2 f0 f1 f2
      refine hK.out _ _ hS1 (fun hX => ?_)
      clear hK K hX
      try simp only [Act.put, List.setIfInBounds_toArray, List.set_cons_zero, List.set_cons_succ]
      generalize (World.setCell (World.setCell (World.setCell wz ⟨w.heap.size + 1, 0, none⟩ (.int .i64 a)) ⟨w.heap.size + 1, 1, none⟩ (.int .i64 b)) ⟨w.heap.size + 1, 2, none⟩ (.int .i64 h9)) = wn at hS1 HS HR0 HR1 ⊢
      have hHeld := hS1
      clear hS1
      revert HR1
      revert HR0
      revert HP5
      revert HB8
      revert HB4
      revert HS
      revert hHeld
      revert p5
      revert y8
      revert x4
      revert wn
      exact key15.out
  · intro wz x4 y8 p6 z10 hHeld HS HB4 HB8 HP6 HZ10 HR0 HR1
    refine wpAnyH_ready (rs := [5, 15]) (by kernel_rfl) (by simp) ?_
    refine AllReadyH.cons rfl (fun K hK => ?_) (AllReadyH.cons rfl (fun K hK => ?_) AllReadyH.nil)
    · go_simp
      have HP5 := Lib.hid HS.out.fresh
      have hB0 := Blk.new wz 3 #[.int .i64 x4, .int .i64 1000000, .int .i64 1000001, .int .i64 (-1)]
      have hS1 : Blk (World.alloc wz (.cells #[.int .i64 x4, .int .i64 1000000, .int .i64 1000001, .int .i64 (-1)] 3)) w2.heap.size 26 #[.slice A2 n2 c2] ∧ Blk (World.alloc wz (.cells #[.int .i64 x4, .int .i64 1000000, .int .i64 1000001, .int .i64 (-1)] 3)) (w2.heap.size + 1) 28 #[.int .i64 a, .int .i64 b, .int .i64 h9] ∧ Blk (World.alloc wz (.cells #[.int .i64 x4, .int .i64 1000000, .int .i64 1000001, .int .i64 (-1)] 3)) p6 3 #[.int .i64 0, .int .i64 0, .int .i64 0, .int .i64 0, .int .i64 1, .int .i64 2, .int .i64 3] := ⟨(hHeld.1).alloc (.cells #[.int .i64 x4, .int .i64 1000000, .int .i64 1000001, .int .i64 (-1)] 3), (hHeld.2.1).alloc (.cells #[.int .i64 x4, .int .i64 1000000, .int .i64 1000001, .int .i64 (-1)] 3), (hHeld.2.2).alloc (.cells #[.int .i64 x4, .int .i64 1000000, .int .i64 1000001, .int .i64 (-1)] 3)⟩
      replace HS := Lib.hid (HS.out.kept (grown_alloc (grown_refl wz none) (.cells #[.int .i64 x4, .int .i64 1000000, .int .i64 1000001, .int .i64 (-1)] 3)))
      replace HR0 := Lib.hid (HR0.out.alloc (.cells #[.int .i64 x4, .int .i64 1000000, .int .i64 1000001, .int .i64 (-1)] 3))
      replace HR1 := Lib.hid (HR1.out.alloc (.cells #[.int .i64 x4, .int .i64 1000000, .int .i64 1000001, .int .i64 (-1)] 3))
      clear hHeld
      refine hK.out _ _ hS1 (fun hX => ?_)
      clear hK K hX
      try simp only [Act.put, List.setIfInBounds_toArray, List.set_cons_zero, List.set_cons_succ]
      generalize wz.heap.size = p5 at HP5 hB0 ⊢
      generalize (World.alloc wz (.cells #[.int .i64 x4, .int .i64 1000000, .int .i64 1000001, .int .i64 (-1)] 3)) = wn at hS1 HS hB0 HR0 HR1 ⊢
      refine wpAnyH_to (S' := (fun w' => Blk w' w2.heap.size 26 #[.slice A2 n2 c2] ∧ Blk w' (w2.heap.size + 1) 28 #[.int .i64 a, .int .i64 b, .int .i64 h9] ∧ Blk w' p5 3 #[.int .i64 x4, .int .i64 1000000, .int .i64 1000001, .int .i64 (-1)] ∧ Blk w' p6 3 #[.int .i64 0, .int .i64 0, .int .i64 0, .int .i64 0, .int .i64 1, .int .i64 2, .int .i64 3])) (fun w' h => ⟨h.1, h.2.1, h.2.2.2⟩) _ _ _ _ ?_
      have hHeld : Blk wn w2.heap.size 26 #[.slice A2 n2 c2] ∧ Blk wn (w2.heap.size + 1) 28 #[.int .i64 a, .int .i64 b, .int .i64 h9] ∧ Blk wn p5 3 #[.int .i64 x4, .int .i64 1000000, .int .i64 1000001, .int .i64 (-1)] ∧ Blk wn p6 3 #[.int .i64 0, .int .i64 0, .int .i64 0, .int .i64 0, .int .i64 1, .int .i64 2, .int .i64 3] := ⟨hS1.1, hS1.2.1, hB0, hS1.2.2⟩
      clear hS1 hB0
      have y0 : decide ((0 : Int) ≤ z10) = true := decide_eq_true (by omega)
      have y1 : (z10 : Int) < 4 := by have := HZ10.out.1; omega
      refine heldY 11 29 ?_
      clear y0 y1
      obtain ⟨v12, hv12⟩ := litV4 z10 HZ10.out.1 x4 1000000 1000001 (-1)
      have HZ12 := Lib.hid hv12
      clear hv12
      refine held_yes (i := 12) (d := some 30) (v := ?_) rfl rfl (by kernel_rfl) (by kernel_rfl) (by kernel_rfl) (fun _ _ _ h => h) (by rfl) ?_ (by assumption) ?_
      rotate_left
      · (intro w hSw; (try dsimp only at hSw); have e8 := (hSw.2.2.1.cell z10).trans HZ12.out; go_simp; (first | done | with_reducible rfl))
      try simp only [Act.put, List.setIfInBounds_toArray, List.set_cons_zero, List.set_cons_succ]
      revert HR1
      revert HR0
      revert HZ12
      revert HZ10
      revert HP6
      revert HP5
      revert HB8
      revert HB4
      revert HS
      revert hHeld
      revert v12
      revert z10
      revert p6
      revert p5
      revert y8
      revert x4
      revert wn
      exact key14.out
    · have r0 := HR1.out.cell 0
      have r1 := HR1.out.cell 1
      have r2 := HR1.out.cell 2
      have f0 := HR1.out.frozen 0
      have f1 := HR1.out.frozen 1
      have f2 := HR1.out.frozen 2
      go_simp
      have hS1 : Blk (World.setCell (World.setCell (World.setCell wz ⟨w.heap.size + 1, 0, none⟩ (.int .i64 a)) ⟨w.heap.size + 1, 1, none⟩ (.int .i64 b)) ⟨w.heap.size + 1, 2, none⟩ (.int .i64 h9)) w2.heap.size 26 #[.slice A2 n2 c2] ∧ Blk (World.setCell (World.setCell (World.setCell wz ⟨w.heap.size + 1, 0, none⟩ (.int .i64 a)) ⟨w.heap.size + 1, 1, none⟩ (.int .i64 b)) ⟨w.heap.size + 1, 2, none⟩ (.int .i64 h9)) (w2.heap.size + 1) 28 #[.int .i64 a, .int .i64 b, .int .i64 h9] ∧ Blk (World.setCell (World.setCell (World.setCell wz ⟨w.heap.size + 1, 0, none⟩ (.int .i64 a)) ⟨w.heap.size + 1, 1, none⟩ (.int .i64 b)) ⟨w.heap.size + 1, 2, none⟩ (.int .i64 h9)) p6 3 #[.int .i64 0, .int .i64 0, .int .i64 0, .int .i64 0, .int .i64 1, .int .i64 2, .int .i64 3] := ⟨(((hHeld.1.far (p := ⟨w.heap.size + 1, 0, none⟩) (by have := HV0.out.2.2; dsimp only; omega) (.int .i64 a)).far (p := ⟨w.heap.size + 1, 1, none⟩) (by have := HV0.out.2.2; dsimp only; omega) (.int .i64 b)).far (p := ⟨w.heap.size + 1, 2, none⟩) (by have := HV0.out.2.2; dsimp only; omega) (.int .i64 h9)), (((hHeld.2.1.far (p := ⟨w.heap.size + 1, 0, none⟩) (by have := HV0.out.2.2; dsimp only; omega) (.int .i64 a)).far (p := ⟨w.heap.size + 1, 1, none⟩) (by have := HV0.out.2.2; dsimp only; omega) (.int .i64 b)).far (p := ⟨w.heap.size + 1, 2, none⟩) (by have := HV0.out.2.2; dsimp only; omega) (.int .i64 h9)), (((hHeld.2.2.far (p := ⟨w.heap.size + 1, 0, none⟩) (by have := HP6.out.2; dsimp only; omega) (.int .i64 a)).far (p := ⟨w.heap.size + 1, 1, none⟩) (by have := HP6.out.2; dsimp only; omega) (.int .i64 b)).far (p := ⟨w.heap.size + 1, 2, none⟩) (by have := HP6.out.2; dsimp only; omega) (.int .i64 h9))⟩
      replace HS := Lib.hid (((HS.out.put (p := ⟨w.heap.size + 1, 0, none⟩) (.inr rfl) (.int .i64 a)).put (p := ⟨w.heap.size + 1, 1, none⟩) (.inr rfl) (.int .i64 b)).put (p := ⟨w.heap.size + 1, 2, none⟩) (.inr rfl) (.int .i64 h9))
      replace HR0 := Lib.hid (((HR0.out.far (p := ⟨w.heap.size + 1, 0, none⟩) (by dsimp only; omega) (.int .i64 a)).far (p := ⟨w.heap.size + 1, 1, none⟩) (by dsimp only; omega) (.int .i64 b)).far (p := ⟨w.heap.size + 1, 2, none⟩) (by dsimp only; omega) (.int .i64 h9))
      replace HR1 := Lib.hid (show Blk (World.setCell (World.setCell (World.setCell wz ⟨w.heap.size + 1, 0, none⟩ (.int .i64 a)) ⟨w.heap.size + 1, 1, none⟩ (.int .i64 b)) ⟨w.heap.size + 1, 2, none⟩ (.int .i64 h9)) (w.heap.size + 1) 28 #[.int .i64 a, .int .i64 b, .int .i64 h9] from ((HR1.out.put 0 (.int .i64 a)).put 1 (.int .i64 b)).put 2 (.int .i64 h9))
      clear hHeld
      clear r0 r1 r2 f0 f1 f2
      refine hK.out _ _ hS1 (fun hX => ?_)
      clear hK K hX
      try simp only [Act.put, List.setIfInBounds_toArray, List.set_cons_zero, List.set_cons_succ]
      generalize (World.setCell (World.setCell (World.setCell wz ⟨w.heap.size + 1, 0, none⟩ (.int .i64 a)) ⟨w.heap.size + 1, 1, none⟩ (.int .i64 b)) ⟨w.heap.size + 1, 2, none⟩ (.int .i64 h9)) = wn at hS1 HS HR0 HR1 ⊢
      have hHeld := hS1
      clear hS1
      revert HR1
      revert HR0
      revert HZ10
      revert HP6
      revert HB8
      revert HB4
      revert HS
      revert hHeld
      revert z10
      revert p6
      revert y8
      revert x4
      revert wn
      exact key16.out
  · intro wz x4 y8 hHeld HS HB4 HB8 HR0 HR1
    refine wpAnyH_ready (rs := [5, 6]) (by kernel_rfl) (by simp) ?_
    refine AllReadyH.cons rfl (fun K hK => ?_) (AllReadyH.cons rfl (fun K hK => ?_) AllReadyH.nil)
    · go_simp
      have HP5 := Lib.hid HS.out.fresh
      have hB0 := Blk.new wz 3 #[.int .i64 x4, .int .i64 1000000, .int .i64 1000001, .int .i64 (-1)]
      have hS1 : Blk (World.alloc wz (.cells #[.int .i64 x4, .int .i64 1000000, .int .i64 1000001, .int .i64 (-1)] 3)) w2.heap.size 26 #[.slice A2 n2 c2] ∧ Blk (World.alloc wz (.cells #[.int .i64 x4, .int .i64 1000000, .int .i64 1000001, .int .i64 (-1)] 3)) (w2.heap.size + 1) 28 #[.int .i64 a, .int .i64 b, .int .i64 h9] := ⟨(hHeld.1).alloc (.cells #[.int .i64 x4, .int .i64 1000000, .int .i64 1000001, .int .i64 (-1)] 3), (hHeld.2).alloc (.cells #[.int .i64 x4, .int .i64 1000000, .int .i64 1000001, .int .i64 (-1)] 3)⟩
      replace HS := Lib.hid (HS.out.kept (grown_alloc (grown_refl wz none) (.cells #[.int .i64 x4, .int .i64 1000000, .int .i64 1000001, .int .i64 (-1)] 3)))
      replace HR0 := Lib.hid (HR0.out.alloc (.cells #[.int .i64 x4, .int .i64 1000000, .int .i64 1000001, .int .i64 (-1)] 3))
      replace HR1 := Lib.hid (HR1.out.alloc (.cells #[.int .i64 x4, .int .i64 1000000, .int .i64 1000001, .int .i64 (-1)] 3))
      clear hHeld
      refine hK.out _ _ hS1 (fun hX => ?_)
      clear hK K hX
      try simp only [Act.put, List.setIfInBounds_toArray, List.set_cons_zero, List.set_cons_succ]
      generalize wz.heap.size = p5 at HP5 hB0 ⊢
      generalize (World.alloc wz (.cells #[.int .i64 x4, .int .i64 1000000, .int .i64 1000001, .int .i64 (-1)] 3)) = wn at hS1 HS hB0 HR0 HR1 ⊢
      refine wpAnyH_to (S' := (fun w' => Blk w' w2.heap.size 26 #[.slice A2 n2 c2] ∧ Blk w' (w2.heap.size + 1) 28 #[.int .i64 a, .int .i64 b, .int .i64 h9] ∧ Blk w' p5 3 #[.int .i64 x4, .int .i64 1000000, .int .i64 1000001, .int .i64 (-1)])) (fun w' h => ⟨h.1, h.2.1⟩) _ _ _ _ ?_
      have hHeld : Blk wn w2.heap.size 26 #[.slice A2 n2 c2] ∧ Blk wn (w2.heap.size + 1) 28 #[.int .i64 a, .int .i64 b, .int .i64 h9] ∧ Blk wn p5 3 #[.int .i64 x4, .int .i64 1000000, .int .i64 1000001, .int .i64 (-1)] := ⟨hS1.1, hS1.2, hB0⟩
      clear hS1 hB0
      revert HR1
      revert HR0
      revert HP5
      revert HB8
      revert HB4
      revert HS
      revert hHeld
      revert p5
      revert y8
      revert x4
      revert wn
      exact key15.out
    · go_simp
      have HP6 := Lib.hid HS.out.fresh
      have hB0 := Blk.new wz 3 #[.int .i64 0, .int .i64 0, .int .i64 0, .int .i64 0, .int .i64 1, .int .i64 2, .int .i64 3]
      have hS1 : Blk (World.alloc wz (.cells #[.int .i64 0, .int .i64 0, .int .i64 0, .int .i64 0, .int .i64 1, .int .i64 2, .int .i64 3] 3)) w2.heap.size 26 #[.slice A2 n2 c2] ∧ Blk (World.alloc wz (.cells #[.int .i64 0, .int .i64 0, .int .i64 0, .int .i64 0, .int .i64 1, .int .i64 2, .int .i64 3] 3)) (w2.heap.size + 1) 28 #[.int .i64 a, .int .i64 b, .int .i64 h9] := ⟨(hHeld.1).alloc (.cells #[.int .i64 0, .int .i64 0, .int .i64 0, .int .i64 0, .int .i64 1, .int .i64 2, .int .i64 3] 3), (hHeld.2).alloc (.cells #[.int .i64 0, .int .i64 0, .int .i64 0, .int .i64 0, .int .i64 1, .int .i64 2, .int .i64 3] 3)⟩
      replace HS := Lib.hid (HS.out.kept (grown_alloc (grown_refl wz none) (.cells #[.int .i64 0, .int .i64 0, .int .i64 0, .int .i64 0, .int .i64 1, .int .i64 2, .int .i64 3] 3)))
      replace HR0 := Lib.hid (HR0.out.alloc (.cells #[.int .i64 0, .int .i64 0, .int .i64 0, .int .i64 0, .int .i64 1, .int .i64 2, .int .i64 3] 3))
      replace HR1 := Lib.hid (HR1.out.alloc (.cells #[.int .i64 0, .int .i64 0, .int .i64 0, .int .i64 0, .int .i64 1, .int .i64 2, .int .i64 3] 3))
      clear hHeld
      refine hK.out _ _ hS1 (fun hX => ?_)
      clear hK K hX
      try simp only [Act.put, List.setIfInBounds_toArray, List.set_cons_zero, List.set_cons_succ]
      generalize wz.heap.size = p6 at HP6 hB0 ⊢
      generalize (World.alloc wz (.cells #[.int .i64 0, .int .i64 0, .int .i64 0, .int .i64 0, .int .i64 1, .int .i64 2, .int .i64 3] 3)) = wn at hS1 HS hB0 HR0 HR1 ⊢
      refine wpAnyH_to (S' := (fun w' => Blk w' w2.heap.size 26 #[.slice A2 n2 c2] ∧ Blk w' (w2.heap.size + 1) 28 #[.int .i64 a, .int .i64 b, .int .i64 h9] ∧ Blk w' p6 3 #[.int .i64 0, .int .i64 0, .int .i64 0, .int .i64 0, .int .i64 1, .int .i64 2, .int .i64 3])) (fun w' h => ⟨h.1, h.2.1⟩) _ _ _ _ ?_
      have hHeld : Blk wn w2.heap.size 26 #[.slice A2 n2 c2] ∧ Blk wn (w2.heap.size + 1) 28 #[.int .i64 a, .int .i64 b, .int .i64 h9] ∧ Blk wn p6 3 #[.int .i64 0, .int .i64 0, .int .i64 0, .int .i64 0, .int .i64 1, .int .i64 2, .int .i64 3] := ⟨hS1.1, hS1.2, hB0⟩
      clear hS1 hB0
      have y0 : decide ((0 : Int) ≤ y8) = true := decide_eq_true (by omega)
      have y1 : (y8 : Int) < 7 := by have := HB8.out; omega
      refine heldY 9 27 ?_
      clear y0 y1
      obtain ⟨z10, hz10, hy10⟩ := litV7 y8 HB8.out
      have HZ10 := Lib.hid (And.intro hz10 hy10)
      clear hz10 hy10
      refine held_yes (i := 10) (d := some 28) (v := ?_) rfl rfl (by kernel_rfl) (by kernel_rfl) (by kernel_rfl) (fun _ _ _ h => h) (by rfl) ?_ (by assumption) ?_
      rotate_left
      · (intro w hSw; (try dsimp only at hSw); have e8 := (hSw.2.2.cell y8).trans HZ10.out.2; go_simp; (first | done | with_reducible rfl))
      try simp only [Act.put, List.setIfInBounds_toArray, List.set_cons_zero, List.set_cons_succ]
      revert HR1
      revert HR0
      revert HZ10
      revert HP6
      revert HB8
      revert HB4
      revert HS
      revert hHeld
      revert z10
      revert p6
      revert y8
      revert x4
      revert wn
      exact key16.out
  · intro wz x4 y8 p5 p6 z10 v12 hHeld HS HB4 HB8 HP5 HP6 HZ10 HZ12 HR0 HR1
    refine wpAnyH_ready (rs := [15]) (by kernel_rfl) (by simp) ?_
    refine AllReadyH.cons rfl (fun K hK => ?_) AllReadyH.nil
    have r0 := HR1.out.cell 0
    have r1 := HR1.out.cell 1
    have r2 := HR1.out.cell 2
    have f0 := HR1.out.frozen 0
    have f1 := HR1.out.frozen 1
    have f2 := HR1.out.frozen 2
    go_simp
    have hS1 : Blk (World.setCell (World.setCell (World.setCell wz ⟨w.heap.size + 1, 0, none⟩ (.int .i64 a)) ⟨w.heap.size + 1, 1, none⟩ (.int .i64 b)) ⟨w.heap.size + 1, 2, none⟩ (.int .i64 h9)) w2.heap.size 26 #[.slice A2 n2 c2] ∧ Blk (World.setCell (World.setCell (World.setCell wz ⟨w.heap.size + 1, 0, none⟩ (.int .i64 a)) ⟨w.heap.size + 1, 1, none⟩ (.int .i64 b)) ⟨w.heap.size + 1, 2, none⟩ (.int .i64 h9)) (w2.heap.size + 1) 28 #[.int .i64 a, .int .i64 b, .int .i64 h9] ∧ Blk (World.setCell (World.setCell (World.setCell wz ⟨w.heap.size + 1, 0, none⟩ (.int .i64 a)) ⟨w.heap.size + 1, 1, none⟩ (.int .i64 b)) ⟨w.heap.size + 1, 2, none⟩ (.int .i64 h9)) p5 3 #[.int .i64 x4, .int .i64 1000000, .int .i64 1000001, .int .i64 (-1)] ∧ Blk (World.setCell (World.setCell (World.setCell wz ⟨w.heap.size + 1, 0, none⟩ (.int .i64 a)) ⟨w.heap.size + 1, 1, none⟩ (.int .i64 b)) ⟨w.heap.size + 1, 2, none⟩ (.int .i64 h9)) p6 3 #[.int .i64 0, .int .i64 0, .int .i64 0, .int .i64 0, .int .i64 1, .int .i64 2, .int .i64 3] := ⟨(((hHeld.1.far (p := ⟨w.heap.size + 1, 0, none⟩) (by have := HV0.out.2.2; dsimp only; omega) (.int .i64 a)).far (p := ⟨w.heap.size + 1, 1, none⟩) (by have := HV0.out.2.2; dsimp only; omega) (.int .i64 b)).far (p := ⟨w.heap.size + 1, 2, none⟩) (by have := HV0.out.2.2; dsimp only; omega) (.int .i64 h9)), (((hHeld.2.1.far (p := ⟨w.heap.size + 1, 0, none⟩) (by have := HV0.out.2.2; dsimp only; omega) (.int .i64 a)).far (p := ⟨w.heap.size + 1, 1, none⟩) (by have := HV0.out.2.2; dsimp only; omega) (.int .i64 b)).far (p := ⟨w.heap.size + 1, 2, none⟩) (by have := HV0.out.2.2; dsimp only; omega) (.int .i64 h9)), (((hHeld.2.2.1.far (p := ⟨w.heap.size + 1, 0, none⟩) (by have := HP5.out.2; dsimp only; omega) (.int .i64 a)).far (p := ⟨w.heap.size + 1, 1, none⟩) (by have := HP5.out.2; dsimp only; omega) (.int .i64 b)).far (p := ⟨w.heap.size + 1, 2, none⟩) (by have := HP5.out.2; dsimp only; omega) (.int .i64 h9)), (((hHeld.2.2.2.far (p := ⟨w.heap.size + 1, 0, none⟩) (by have := HP6.out.2; dsimp only; omega) (.int .i64 a)).far (p := ⟨w.heap.size + 1, 1, none⟩) (by have := HP6.out.2; dsimp only; omega) (.int .i64 b)).far (p := ⟨w.heap.size + 1, 2, none⟩) (by have := HP6.out.2; dsimp only; omega) (.int .i64 h9))⟩
    replace HS := Lib.hid (((HS.out.put (p := ⟨w.heap.size + 1, 0, none⟩) (.inr rfl) (.int .i64 a)).put (p := ⟨w.heap.size + 1, 1, none⟩) (.inr rfl) (.int .i64 b)).put (p := ⟨w.heap.size + 1, 2, none⟩) (.inr rfl) (.int .i64 h9))
    replace HR0 := Lib.hid (((HR0.out.far (p := ⟨w.heap.size + 1, 0, none⟩) (by dsimp only; omega) (.int .i64 a)).far (p := ⟨w.heap.size + 1, 1, none⟩) (by dsimp only; omega) (.int .i64 b)).far (p := ⟨w.heap.size + 1, 2, none⟩) (by dsimp only; omega) (.int .i64 h9))
    replace HR1 := Lib.hid (show Blk (World.setCell (World.setCell (World.setCell wz ⟨w.heap.size + 1, 0, none⟩ (.int .i64 a)) ⟨w.heap.size + 1, 1, none⟩ (.int .i64 b)) ⟨w.heap.size + 1, 2, none⟩ (.int .i64 h9)) (w.heap.size + 1) 28 #[.int .i64 a, .int .i64 b, .int .i64 h9] from ((HR1.out.put 0 (.int .i64 a)).put 1 (.int .i64 b)).put 2 (.int .i64 h9))
    clear hHeld
    clear r0 r1 r2 f0 f1 f2
    refine hK.out _ _ hS1 (fun hX => ?_)
    clear hK K hX
    try simp only [Act.put, List.setIfInBounds_toArray, List.set_cons_zero, List.set_cons_succ]
    generalize (World.setCell (World.setCell (World.setCell wz ⟨w.heap.size + 1, 0, none⟩ (.int .i64 a)) ⟨w.heap.size + 1, 1, none⟩ (.int .i64 b)) ⟨w.heap.size + 1, 2, none⟩ (.int .i64 h9)) = wn at hS1 HS HR0 HR1 ⊢
    have hHeld := hS1
    clear hS1
    refine heldY 16 5 ?_
    revert HR1
    revert HR0
    revert HZ12
    revert HZ10
    revert HP6
    revert HP5
    revert HB8
    revert HB4
    revert HS
    revert hHeld
    revert v12
    revert z10
    revert p6
    revert p5
    revert y8
    revert x4
    revert wn
    exact key17.out
  · intro wz x4 y8 p5 hHeld HS HB4 HB8 HP5 HR0 HR1
    refine wpAnyH_ready (rs := [6]) (by kernel_rfl) (by simp) ?_
    refine AllReadyH.cons rfl (fun K hK => ?_) AllReadyH.nil
    go_simp
    have HP6 := Lib.hid HS.out.fresh
    have hB0 := Blk.new wz 3 #[.int .i64 0, .int .i64 0, .int .i64 0, .int .i64 0, .int .i64 1, .int .i64 2, .int .i64 3]
    have hS1 : Blk (World.alloc wz (.cells #[.int .i64 0, .int .i64 0, .int .i64 0, .int .i64 0, .int .i64 1, .int .i64 2, .int .i64 3] 3)) w2.heap.size 26 #[.slice A2 n2 c2] ∧ Blk (World.alloc wz (.cells #[.int .i64 0, .int .i64 0, .int .i64 0, .int .i64 0, .int .i64 1, .int .i64 2, .int .i64 3] 3)) (w2.heap.size + 1) 28 #[.int .i64 a, .int .i64 b, .int .i64 h9] ∧ Blk (World.alloc wz (.cells #[.int .i64 0, .int .i64 0, .int .i64 0, .int .i64 0, .int .i64 1, .int .i64 2, .int .i64 3] 3)) p5 3 #[.int .i64 x4, .int .i64 1000000, .int .i64 1000001, .int .i64 (-1)] := ⟨(hHeld.1).alloc (.cells #[.int .i64 0, .int .i64 0, .int .i64 0, .int .i64 0, .int .i64 1, .int .i64 2, .int .i64 3] 3), (hHeld.2.1).alloc (.cells #[.int .i64 0, .int .i64 0, .int .i64 0, .int .i64 0, .int .i64 1, .int .i64 2, .int .i64 3] 3), (hHeld.2.2).alloc (.cells #[.int .i64 0, .int .i64 0, .int .i64 0, .int .i64 0, .int .i64 1, .int .i64 2, .int .i64 3] 3)⟩
    replace HS := Lib.hid (HS.out.kept (grown_alloc (grown_refl wz none) (.cells #[.int .i64 0, .int .i64 0, .int .i64 0, .int .i64 0, .int .i64 1, .int .i64 2, .int .i64 3] 3)))
    replace HR0 := Lib.hid (HR0.out.alloc (.cells #[.int .i64 0, .int .i64 0, .int .i64 0, .int .i64 0, .int .i64 1, .int .i64 2, .int .i64 3] 3))
    replace HR1 := Lib.hid (HR1.out.alloc (.cells #[.int .i64 0, .int .i64 0, .int .i64 0, .int .i64 0, .int .i64 1, .int .i64 2, .int .i64 3] 3))
    clear hHeld
    refine hK.out _ _ hS1 (fun hX => ?_)
    clear hK K hX
    try simp only [Act.put, List.setIfInBounds_toArray, List.set_cons_zero, List.set_cons_succ]
    generalize wz.heap.size = p6 at HP6 hB0 ⊢
    generalize (World.alloc wz (.cells #[.int .i64 0, .int .i64 0, .int .i64 0, .int .i64 0, .int .i64 1, .int .i64 2, .int .i64 3] 3)) = wn at hS1 HS hB0 HR0 HR1 ⊢
    refine wpAnyH_to (S' := (fun w' => Blk w' w2.heap.size 26 #[.slice A2 n2 c2] ∧ Blk w' (w2.heap.size + 1) 28 #[.int .i64 a, .int .i64 b, .int .i64 h9] ∧ Blk w' p5 3 #[.int .i64 x4, .int .i64 1000000, .int .i64 1000001, .int .i64 (-1)] ∧ Blk w' p6 3 #[.int .i64 0, .int .i64 0, .int .i64 0, .int .i64 0, .int .i64 1, .int .i64 2, .int .i64 3])) (fun w' h => ⟨h.1, h.2.1, h.2.2.1⟩) _ _ _ _ ?_
    have hHeld : Blk wn w2.heap.size 26 #[.slice A2 n2 c2] ∧ Blk wn (w2.heap.size + 1) 28 #[.int .i64 a, .int .i64 b, .int .i64 h9] ∧ Blk wn p5 3 #[.int .i64 x4, .int .i64 1000000, .int .i64 1000001, .int .i64 (-1)] ∧ Blk wn p6 3 #[.int .i64 0, .int .i64 0, .int .i64 0, .int .i64 0, .int .i64 1, .int .i64 2, .int .i64 3] := ⟨hS1.1, hS1.2.1, hS1.2.2, hB0⟩
    clear hS1 hB0
    have y0 : decide ((0 : Int) ≤ y8) = true := decide_eq_true (by omega)
    have y1 : (y8 : Int) < 7 := by have := HB8.out; omega
    refine heldY 9 27 ?_
    clear y0 y1
    obtain ⟨z10, hz10, hy10⟩ := litV7 y8 HB8.out
    have HZ10 := Lib.hid (And.intro hz10 hy10)
    clear hz10 hy10
    refine held_yes (i := 10) (d := some 28) (v := ?_) rfl rfl (by kernel_rfl) (by kernel_rfl) (by kernel_rfl) (fun _ _ _ h => h) (by rfl) ?_ (by assumption) ?_
    rotate_left
    · (intro w hSw; (try dsimp only at hSw); have e8 := (hSw.2.2.2.cell y8).trans HZ10.out.2; go_simp; (first | done | with_reducible rfl))
    try simp only [Act.put, List.setIfInBounds_toArray, List.set_cons_zero, List.set_cons_succ]
    have y0 : decide ((0 : Int) ≤ z10) = true := decide_eq_true (by omega)
    have y1 : (z10 : Int) < 4 := by have := HZ10.out.1; omega
    refine heldY 11 29 ?_
    clear y0 y1
    obtain ⟨v12, hv12⟩ := litV4 z10 HZ10.out.1 x4 1000000 1000001 (-1)
    have HZ12 := Lib.hid hv12
    clear hv12
    refine held_yes (i := 12) (d := some 30) (v := ?_) rfl rfl (by kernel_rfl) (by kernel_rfl) (by kernel_rfl) (fun _ _ _ h => h) (by rfl) ?_ (by assumption) ?_
    rotate_left
    · (intro w hSw; (try dsimp only at hSw); have e8 := (hSw.2.2.1.cell z10).trans HZ12.out; go_simp; (first | done | with_reducible rfl))
    try simp only [Act.put, List.setIfInBounds_toArray, List.set_cons_zero, List.set_cons_succ]
    refine heldY 16 5 ?_
    revert HR1
    revert HR0
    revert HZ12
    revert HZ10
    revert HP6
    revert HP5
    revert HB8
    revert HB4
    revert HS
    revert hHeld
    revert v12
    revert z10
    revert p6
    revert p5
    revert y8
    revert x4
    revert wn
    exact key17.out
  · intro wz x4 y8 p6 z10 hHeld HS HB4 HB8 HP6 HZ10 HR0 HR1
    refine wpAnyH_ready (rs := [5]) (by kernel_rfl) (by simp) ?_
    refine AllReadyH.cons rfl (fun K hK => ?_) AllReadyH.nil
    go_simp
    have HP5 := Lib.hid HS.out.fresh
    have hB0 := Blk.new wz 3 #[.int .i64 x4, .int .i64 1000000, .int .i64 1000001, .int .i64 (-1)]
    have hS1 : Blk (World.alloc wz (.cells #[.int .i64 x4, .int .i64 1000000, .int .i64 1000001, .int .i64 (-1)] 3)) w2.heap.size 26 #[.slice A2 n2 c2] ∧ Blk (World.alloc wz (.cells #[.int .i64 x4, .int .i64 1000000, .int .i64 1000001, .int .i64 (-1)] 3)) (w2.heap.size + 1) 28 #[.int .i64 a, .int .i64 b, .int .i64 h9] ∧ Blk (World.alloc wz (.cells #[.int .i64 x4, .int .i64 1000000, .int .i64 1000001, .int .i64 (-1)] 3)) p6 3 #[.int .i64 0, .int .i64 0, .int .i64 0, .int .i64 0, .int .i64 1, .int .i64 2, .int .i64 3] := ⟨(hHeld.1).alloc (.cells #[.int .i64 x4, .int .i64 1000000, .int .i64 1000001, .int .i64 (-1)] 3), (hHeld.2.1).alloc (.cells #[.int .i64 x4, .int .i64 1000000, .int .i64 1000001, .int .i64 (-1)] 3), (hHeld.2.2).alloc (.cells #[.int .i64 x4, .int .i64 1000000, .int .i64 1000001, .int .i64 (-1)] 3)⟩
    replace HS := Lib.hid (HS.out.kept (grown_alloc (grown_refl wz none) (.cells #[.int .i64 x4, .int .i64 1000000, .int .i64 1000001, .int .i64 (-1)] 3)))
    replace HR0 := Lib.hid (HR0.out.alloc (.cells #[.int .i64 x4, .int .i64 1000000, .int .i64 1000001, .int .i64 (-1)] 3))
    replace HR1 := Lib.hid (HR1.out.alloc (.cells #[.int .i64 x4, .int .i64 1000000, .int .i64 1000001, .int .i64 (-1)] 3))
    clear hHeld
    refine hK.out _ _ hS1 (fun hX => ?_)
    clear hK K hX
    try simp only [Act.put, List.setIfInBounds_toArray, List.set_cons_zero, List.set_cons_succ]
    generalize wz.heap.size = p5 at HP5 hB0 ⊢
    generalize (World.alloc wz (.cells #[.int .i64 x4, .int .i64 1000000, .int .i64 1000001, .int .i64 (-1)] 3)) = wn at hS1 HS hB0 HR0 HR1 ⊢
    refine wpAnyH_to (S' := (fun w' => Blk w' w2.heap.size 26 #[.slice A2 n2 c2] ∧ Blk w' (w2.heap.size + 1) 28 #[.int .i64 a, .int .i64 b, .int .i64 h9] ∧ Blk w' p5 3 #[.int .i64 x4, .int .i64 1000000, .int .i64 1000001, .int .i64 (-1)] ∧ Blk w' p6 3 #[.int .i64 0, .int .i64 0, .int .i64 0, .int .i64 0, .int .i64 1, .int .i64 2, .int .i64 3])) (fun w' h => ⟨h.1, h.2.1, h.2.2.2⟩) _ _ _ _ ?_
    have hHeld : Blk wn w2.heap.size 26 #[.slice A2 n2 c2] ∧ Blk wn (w2.heap.size + 1) 28 #[.int .i64 a, .int .i64 b, .int .i64 h9] ∧ Blk wn p5 3 #[.int .i64 x4, .int .i64 1000000, .int .i64 1000001, .int .i64 (-1)] ∧ Blk wn p6 3 #[.int .i64 0, .int .i64 0, .int .i64 0, .int .i64 0, .int .i64 1, .int .i64 2, .int .i64 3] := ⟨hS1.1, hS1.2.1, hB0, hS1.2.2⟩
    clear hS1 hB0
    have y0 : decide ((0 : Int) ≤ z10) = true := decide_eq_true (by omega)
    have y1 : (z10 : Int) < 4 := by have := HZ10.out.1; omega
    refine heldY 11 29 ?_
    clear y0 y1
    obtain ⟨v12, hv12⟩ := litV4 z10 HZ10.out.1 x4 1000000 1000001 (-1)
    have HZ12 := Lib.hid hv12
    clear hv12
    refine held_yes (i := 12) (d := some 30) (v := ?_) rfl rfl (by kernel_rfl) (by kernel_rfl) (by kernel_rfl) (fun _ _ _ h => h) (by rfl) ?_ (by assumption) ?_
    rotate_left
    · (intro w hSw; (try dsimp only at hSw); have e8 := (hSw.2.2.1.cell z10).trans HZ12.out; go_simp; (first | done | with_reducible rfl))
    try simp only [Act.put, List.setIfInBounds_toArray, List.set_cons_zero, List.set_cons_succ]
    refine heldY 16 5 ?_
    revert HR1
    revert HR0
    revert HZ12
    revert HZ10
    revert HP6
    revert HP5
    revert HB8
    revert HB4
    revert HS
    revert hHeld
    revert v12
    revert z10
    revert p6
    revert p5
    revert y8
    revert x4
    revert wn
    exact key17.out
  · intro wz x4 y8 p5 p6 z10 v12 hHeld HS HB4 HB8 HP5 HP6 HZ10 HZ12 HR0 HR1
    refine wpAnyH_done (by kernel_rfl) ?_ _
    have zr := HR0.out.cell 0
    have z0 := HR1.out.cell 0
    have z1 := HR1.out.cell 1
    have z2 := HR1.out.cell 2
    go_wp2
    exact bodyPost_ret (v := .tuple #[.slice D nd cd, .agg #[.slice A2 n2 c2], .agg #[.int .i64 a, .int .i64 b, .int .i64 h9], .int .i64 v12]) (by simp [results, Try.results19, go_sem, *]) rfl ⟨_, _, _, _, _, _, _, _, _, _, _, _, rfl, HS.out.pair⟩
end Go.Proofs.Ytjknfofdjkjnpaa
namespace Go.Proofs.Ytjknfofdjkjnpaa
open Go.ChangeShapes Go.WideShapes Go.ChangeAt Go.RowKit
set_option linter.unusedVariables false

theorem full_eq {m : Int} {ps : List Pg} (h : blockB m ps = true) : (nextV m ps == -1) = decide (cntF ps = 4) := by
  unfold nextV
  rw [if_pos h]
  split
  · simp [*]
  · rw [Bool.eq_iff_iff, beq_iff_eq, decide_eq_true_iff]
    omega
/-- What GreedyVictim answers: none, or the first of those with the fewest used pages. -/
theorem greedy_law {bs : List Bk} {X : List Int} {a b h V : Int} {n nd : Nat} (hl : bs.length = nd) (hn : X.length = n) (hV : greedyV nd bs X a b h = V) :
    ((n = 0 ∨ (headsB nd a b h && devB bs) = false) ∧ V = -1) ∨
    (n ≠ 0 ∧ (headsB nd a b h && devB bs) = true ∧ -1 ≤ V ∧ V < n ∧ ∀ k : Nat, k < n → (mayB bs X a b h k = false ∧ (k : Int) ≠ V) ∨ (mayB bs X a b h k = true ∧ ∃ q : Nat, V = (q : Int) ∧ q < n ∧ cAt X (q : Int) ≤ cAt X (k : Int))) := by
  cases hv : headsB nd a b h && devB bs
  · refine .inl ⟨.inr rfl, ?_⟩
    rw [← hV, greedyV, toClean_no hv]
    rfl
  · have e : greedyV nd bs X a b h = leastV (cAt X) (mayTo (mayB bs X a b h) n) := by rw [greedyV, toClean_of hv, hn]
    rw [e] at hV
    by_cases h0 : n = 0
    · subst h0
      exact .inl ⟨.inl rfl, by rw [← hV]; rfl⟩
    · refine .inr ⟨h0, rfl, ?_⟩
      have hL : ∀ x, x ∈ mayTo (mayB bs X a b h) n → 0 ≤ x := fun x hx => by obtain ⟨j, _, e, _⟩ := mem_mayTo.1 hx; omega
      rcases least_cases (cAt X) hL with ⟨h1, h2⟩ | ⟨h1, h2, h3⟩
      · rw [hV] at h2
        refine ⟨by omega, by omega, fun k hk => .inl ⟨?_, by omega⟩⟩
        cases hm : mayB bs X a b h k
        · rfl
        · have : (k : Int) ∈ mayTo (mayB bs X a b h) n := mem_mayTo.2 ⟨k, hk, rfl, hm⟩
          rw [h1] at this
          simp at this
      · rw [hV] at h1 h2 h3
        obtain ⟨q, hq, e1, hm1⟩ := mem_mayTo.1 h1
        refine ⟨by omega, by omega, fun k hk => ?_⟩
        cases hm : mayB bs X a b h k
        · refine .inl ⟨rfl, fun e2 => ?_⟩
          have : k = q := by omega
          rw [this, hm1] at hm
          cases hm
        · refine .inr ⟨rfl, q, e1, hq, ?_⟩
          rw [← e1]
          exact h3 _ (mem_mayTo.2 ⟨k, hk, rfl, hm⟩)
/-- There is a best victim exactly if there is a victim. -/
theorem best_law {bs : List Bk} {xss : List (List Int)} {X : List Int} {a b h now V G : Int} {nd : Nat} (hl : bs.length = nd) (hX : countsV bs xss = X) (hnow : inB now 0 1000000 = true) (hV : victimV nd bs X a b h now = V) (hG : greedyV nd bs X a b h = G) :
    (V = -1 ∧ G = -1) ∨ (0 ≤ G ∧ devB bs = true ∧ ∃ j : Nat, V = (j : Int) ∧ j < nd ∧ mayB bs X a b h j = true) := by
  obtain ⟨S, hS, _, hlen⟩ := counts_facts hX
  have hle : X.length ≤ nd := by rw [← hX, ← hl]; exact counts_len _ _
  rw [victimV, hnow, if_pos rfl] at hV
  cases hv : headsB nd a b h && devB bs
  · rw [toClean_no hv] at hV
    refine .inl ⟨hV.symm, ?_⟩
    rw [← hG, greedyV, toClean_no hv]
    rfl
  · have hd : devB bs = true := by rw [Bool.and_eq_true] at hv; exact hv.2
    obtain ⟨_, hall⟩ := dev_parts hd
    have hs : ∀ x, x ∈ toCleanV nd bs X a b h → 0 ≤ sAt bs X now x := fun x hx => by
      obtain ⟨j, hj, rfl, hm⟩ := toClean_mem hx
      have hb := List.getElem?_eq_getElem (l := bs) (i := j) (by omega)
      have hx := List.getElem?_eq_getElem (l := X) (i := j) hj
      have h1 := hS.2.1 j _ hx
      rw [sAt, cAt_of hx, pgAt_of hb]
      exact score_pos (inB_iff.2 ⟨h1.1, h1.2.1⟩) (age_in (hall _ (List.mem_of_getElem? hb)) hnow)
    have hp : ∀ x, x ∈ toCleanV nd bs X a b h → 0 ≤ x := fun x hx => by obtain ⟨j, _, e, _⟩ := toClean_mem hx; omega
    rw [greedyV] at hG
    rcases best_cases hs with ⟨h1, h2⟩ | ⟨h1, _⟩
    · refine .inl ⟨by rw [← hV, h2], ?_⟩
      rw [← hG, h1]
      rfl
    · rw [hV] at h1
      rcases least_cases (cAt X) hp with ⟨h3, _⟩ | ⟨_, h4, _⟩
      · rw [h3] at h1; simp at h1
      · obtain ⟨j, hj, e, hm⟩ := toClean_mem h1
        exact .inr ⟨by rw [← hG]; exact h4, hd, j, e, by omega, hm⟩
/-- A block that may be cleaned: all its pages are written, and it is no head. -/
theorem may_facts {bs : List Bk} {X : List Int} {a b h : Int} {k : Nat} {m : Int} {Ab : Option Addr} {cb : Nat} {ps : List Pg} (hd : devB bs = true) (hb : bs[k]? = some ⟨m, Ab, cb, ps⟩) (hm : mayB bs X a b h k = true) : nextV m ps = -1 ∧ ((k : Int) != a) = true ∧ ((k : Int) != b) = true ∧ ((k : Int) != h) = true := by
  obtain ⟨_, hall⟩ := dev_parts hd
  have hv := hall _ (List.mem_of_getElem? hb)
  rw [mayB, pgAt_of hb] at hm
  simp only [Bool.and_eq_true, Bool.not_eq_true', oneB, Bool.or_eq_false_iff] at hm
  have e := full_eq hv
  dsimp only at hm e
  rw [hm.1.1, beq_iff_eq] at e
  exact ⟨e, by rw [bne, hm.2.1.1]; rfl, by rw [bne, hm.2.1.2]; rfl, by rw [bne, hm.2.2]; rfl⟩
/-- A block that may not. -/
theorem may_cases {bs : List Bk} {X : List Int} {a b h : Int} {k : Nat} {m x : Int} {Ab : Option Addr} {cb : Nat} {ps : List Pg} (hd : devB bs = true) (hb : bs[k]? = some ⟨m, Ab, cb, ps⟩) (hx : X[k]? = some x) :
    mayB bs X a b h k = ((nextV m ps == -1) && (decide (x < 4) && (((k : Int) != a) && (((k : Int) != b) && ((k : Int) != h))))) := by
  obtain ⟨_, hall⟩ := dev_parts hd
  have e := full_eq (hall _ (List.mem_of_getElem? hb))
  dsimp only at e
  rw [mayB, pgAt_of hb, cAt_of hx, e]
  simp [oneB, bne, Bool.and_assoc]
end Go.Proofs.Ytjknfofdjkjnpaa
