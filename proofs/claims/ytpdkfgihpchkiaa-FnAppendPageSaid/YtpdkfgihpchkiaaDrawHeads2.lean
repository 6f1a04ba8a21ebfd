/- What the model draws for chapter 6: DrawHeadsValid, DrawHeadOf, DrawFreshBlock, DrawAppendPage. -/
import Derived.Test.YtpdkfgihpchkiaaDrawHeads
import Derived.Test.YtpdkfgihpchkiaaDrawDev4
namespace Go.Proofs.Ytpdkfgihpchkiaa
open Go.ChangeShapes Go.WideShapes Go.ChangeAt Go.RowKit

theorem LD.far {w wr : World} {A : Option Addr} {bs : List Bk} {g : Nat} {p : Addr} (H : LD w A bs wr) (hA : ∀ ad, A = some ad → g < ad.block) (hP : ∀ (q : Bk) (ad : Addr), q ∈ bs → q.A = some ad → g < ad.block) (hp : p.block ≤ g) (hw : w.heap.size ≤ p.block) (u : Value) :
    LD w A bs (wr.setCell p u) :=
  ⟨(H.1.far (fun ad e => by have := hA ad e; omega) (fun q ad hq e => by have := hP q ad hq e; omega) u).here, H.2.setCell hw u⟩
/-- A device and heads, drawn, with the heads in a variable V; the result's heads in block w.heap.size. -/
def HSt (w : World) (A : Option Addr) (bs : List Bk) (V g B Q : Nat) (a b h : Int) (wr : World) : Prop :=
  (DRow wr wr.heap.size A bs ∧ Rd wr B g Q ∧ Below w.heap.size w wr ∧ Blk wr w.heap.size 25 #[.int .i64 0, .int .i64 0, .int .i64 0] ∧ Blk wr V 25 #[.int .i64 a, .int .i64 b, .int .i64 h]) ∧ w.heap.size < g ∧ g < V ∧ (∀ ad, A = some ad → g < ad.block) ∧ ∀ (q : Bk) (ad : Addr), q ∈ bs → q.A = some ad → g < ad.block
section
variable {w wr w' : World} {B g Q Q' V : Nat} {A : Option Addr} {bs : List Bk} {a b h : Int}
theorem HSt.grown (H : HSt w A bs V g B Q a b h wr) (hg : wr.grownBy w' (some g)) (hr : Rd w' B g Q') : HSt w A bs V g B Q' a b h w' := by
  obtain ⟨⟨h1, h2, h3, h4, h5⟩, h6, h7, h8, h9⟩ := H
  refine ⟨⟨(h1.grown2 hg (fun ad e e2 => ?_) (fun q ad hq e e2 => ?_)).here, hr, h3.trans (Below.of_grown hg (by omega) h3.size), h4.grown hg (by intro e; injection e with e; omega), h5.grown hg (by intro e; injection e with e; omega)⟩, h6, h7, h8, h9⟩
  · have := h8 ad e; injection e2 with e2; omega
  · have := h9 q ad hq e; injection e2 with e2; omega
theorem HSt.kept (H : HSt w A bs V g B Q a b h wr) (hk : wr.grownBy w' none) : HSt w A bs V g B Q a b h w' :=
  H.grown (grown_some hk) (H.1.2.1.grown hk (by intro k e; cases e))
theorem HSt.put3 (H : HSt w A bs V g B Q a b h wr) (u0 u1 u2 : Value) : LD w A bs (((wr.setCell ⟨w.heap.size, 0, none⟩ u0).setCell ⟨w.heap.size, 1, none⟩ u1).setCell ⟨w.heap.size, 2, none⟩ u2) := by
  obtain ⟨⟨h1, h2, h3, h4, h5⟩, h6, h7, h8, h9⟩ := H
  have hl : LD w A bs wr := ⟨h1, h3⟩
  exact ((hl.far h8 h9 (Nat.le_of_lt h6) (Nat.le_refl _) _).far h8 h9 (Nat.le_of_lt h6) (Nat.le_refl _) _).far h8 h9 (Nat.le_of_lt h6) (Nat.le_refl _) _
theorem HSt.put8 (H : HSt w A bs V g B Q a b h wr) (hg : w.heap.size + 1 ≤ g) (u0 u1 u2 v0 v1 v2 v3 v4 : Value) :
    LD w A bs ((((((((wr.setCell ⟨w.heap.size, 0, none⟩ u0).setCell ⟨w.heap.size, 1, none⟩ u1).setCell ⟨w.heap.size, 2, none⟩ u2).setCell ⟨w.heap.size + 1, 0, none⟩ v0).setCell ⟨w.heap.size + 1, 1, none⟩ v1).setCell ⟨w.heap.size + 1, 2, none⟩ v2).setCell ⟨w.heap.size + 1, 3, none⟩ v3).setCell ⟨w.heap.size + 1, 4, none⟩ v4) := by
  have H3 := H.put3 u0 u1 u2
  obtain ⟨_, _, _, h8, h9⟩ := H
  exact ((((H3.far h8 h9 hg (Nat.le_succ _) _).far h8 h9 hg (Nat.le_succ _) _).far h8 h9 hg (Nat.le_succ _) _).far h8 h9 hg (Nat.le_succ _) _).far h8 h9 hg (Nat.le_succ _) _
end
/-- A device and heads are drawn. -/
def DevHeadsDrawn (w : World) (e : Ending) (w' : World) : Prop :=
  ∃ (A : Option Addr) (n c : Nat) (bs : List Bk) (a b h : Int), e = .returned (.tuple #[.slice A n c, .agg #[.int .i64 a, .int .i64 b, .int .i64 h]]) ∧ bs.length = n ∧ n ≤ 13 ∧ (∀ q, q ∈ bs → q.ps.length ≤ 4) ∧ LD w A bs w'
/-- A device, heads and a kind of heat are drawn. -/
def DevHeatDrawn (w : World) (e : Ending) (w' : World) : Prop :=
  ∃ (A : Option Addr) (n c : Nat) (bs : List Bk) (a b h j : Int), e = .returned (.tuple #[.slice A n c, .agg #[.int .i64 a, .int .i64 b, .int .i64 h], .int .i64 j]) ∧ bs.length = n ∧ n ≤ 13 ∧ (∀ q, q ∈ bs → q.ps.length ≤ 4) ∧ LD w A bs w'
/-- A device, heads, a kind of heat and a page are drawn. -/
def DevAllDrawn (w : World) (e : Ending) (w' : World) : Prop :=
  ∃ (A : Option Addr) (n c : Nat) (bs : List Bk) (a b h j : Int) (f : Bool) (x1 x2 x3 x4 : Int), e = .returned (.tuple #[.slice A n c, .agg #[.int .i64 a, .int .i64 b, .int .i64 h], .int .i64 j, .agg #[.bool f, .int .i64 x1, .int .i64 x2, .int .i64 x3, .int .i64 x4]]) ∧ bs.length = n ∧ n ≤ 13 ∧ (∀ q, q ∈ bs → q.ps.length ≤ 4) ∧ LD w A bs w'
set_option maxHeartbeats 2000000 in
theorem drawFreshBlock_any (w : World) (A : Option Addr) (n c : Nat) (hn : n ≤ c) (hc : c ≤ 9223372036854775807) (h : Bytes w w.heap.size A n) :
    Calls Try.prog 15 #[.slice A n c] w (DevHeadsDrawn w) := by
  have h0 := h.alloc (.cells #[.int .i64 0, .int .i64 0, .int .i64 0] 25)
  go_enter Try.func15, Try.ntmps15
  go_wp2_with fail
  refine (open_any _ A n c hn hc h0).mono ?_
  rintro e w1 ⟨rfl, h1, hb1⟩
  (try simp only [size_of_alloc] at h1 hb1)
  have hr1 := (Blk.new w 25 #[.int .i64 0, .int .i64 0, .int .i64 0]).below hb1 (by omega)
  have hg1 := h1.lt
  have hz1 := hb1.size
  (try simp only [size_of_alloc] at hz1)
  go_wp2_with fail
  refine (heads_any _ _ _ _ _ h1 (by omega) (by omega) (by omega)).mono ?_
  rintro e w2 ⟨A2, n2, c2, bs, a, b, h9, rfl, hl, h13, hnc, hcm, hs, hA, hrow, h2, hg2, hex, hP⟩
  have hz2 := hg2.size
  have nA : ∀ ad, A2 = some ad → w.heap.size + 1 < ad.block := fun ad e => by have := hA ad e; omega
  have nP : ∀ (q : Bk) (ad : Addr), q ∈ bs → q.A = some ad → w.heap.size + 1 < ad.block := fun q ad hq e => by have := hP q ad hq e; omega
  have hbl := (((Below.refl w.heap.size w).alloc (Nat.le_refl _) (.cells #[.int .i64 0, .int .i64 0, .int .i64 0] 25)).trans (hb1.mono (by omega))).trans (Below.of_grown hg2 (by omega) (by omega))
  have hr2 := hr1.grown hg2 (by intro e; injection e with e; omega)
  have HN := Lib.hid (And.intro hl (And.intro hs h13))
  have HQ := Lib.hid hr2
  have HX := Lib.hid (And.intro nA nP)
  have HL : RowKit.Hid (LD w A2 bs w2) := Lib.hid ⟨hrow, hbl⟩
  obtain ⟨d0, d1, d2⟩ := cells3 hr2
  obtain ⟨f0, f1, f2⟩ := frozen3 hr2
  clear h h0 h1 h2 hb1 hr1 hg2 hrow hl hs hnc hcm hex hA hP nA nP hbl hr2
  go_wp2
  exact bodyPost_ret (v := .tuple #[.slice A2 n2 c2, .agg #[.int .i64 a, .int .i64 b, .int .i64 h9]]) (by simp [results, Try.results15, go_sem, *]) rfl
    ⟨_, _, _, _, _, _, _, rfl, HN.out.1, HN.out.2.2, HN.out.2.1, ((HL.out.far HX.out.1 HX.out.2 (Nat.le_succ _) (Nat.le_refl _) _).far HX.out.1 HX.out.2 (Nat.le_succ _) (Nat.le_refl _) _).far HX.out.1 HX.out.2 (Nat.le_succ _) (Nat.le_refl _) _⟩
set_option maxHeartbeats 2000000 in
theorem drawAppendPage_any (w : World) (A : Option Addr) (n c : Nat) (hn : n ≤ c) (hc : c ≤ 9223372036854775807) (h : Bytes w w.heap.size A n) :
    Calls Try.prog 21 #[.slice A n c] w (DevAllDrawn w) := by
  have h0 := (h.alloc (.cells #[.int .i64 0, .int .i64 0, .int .i64 0] 25)).alloc (.cells #[.bool false, .int .i64 0, .int .i64 0, .int .i64 0, .int .i64 0] 37)
  go_enter Try.func21, Try.ntmps21
  go_wp2_with fail
  refine (open_any _ A n c hn hc h0).mono ?_
  rintro e w1 ⟨rfl, h1, hb1⟩
  (try simp only [size_of_alloc] at h1 hb1)
  have hr1 := ((Blk.new w 25 #[.int .i64 0, .int .i64 0, .int .i64 0]).alloc (.cells #[.bool false, .int .i64 0, .int .i64 0, .int .i64 0, .int .i64 0] 37)).below hb1 (by omega)
  have hp0 := Blk.new (w.alloc (.cells #[.int .i64 0, .int .i64 0, .int .i64 0] 25)) 37 #[.bool false, .int .i64 0, .int .i64 0, .int .i64 0, .int .i64 0]
  simp only [size_of_alloc] at hp0
  have hp1 := hp0.below hb1 (by omega)
  have hg1 := h1.lt
  have hz1 := hb1.size
  (try simp only [size_of_alloc] at hz1)
  go_wp2_with fail
  refine (heads_any _ _ _ _ _ h1 (by omega) (by omega) (by omega)).mono ?_
  rintro e w2 ⟨A2, n2, c2, bs, a, b, h9, rfl, hl, h13, hnc, hcm, hs, hA, hrow, h2, hg2, hex, hP⟩
  have hz2 := hg2.size
  have nA : ∀ ad, A2 = some ad → w.heap.size + 2 < ad.block := fun ad e => by have := hA ad e; omega
  have nP : ∀ (q : Bk) (ad : Addr), q ∈ bs → q.A = some ad → w.heap.size + 2 < ad.block := fun q ad hq e => by have := hP q ad hq e; omega
  have hbl := ((((Below.refl w.heap.size w).alloc (Nat.le_refl _) (.cells #[.int .i64 0, .int .i64 0, .int .i64 0] 25)).alloc (by simp only [size_of_alloc]; omega) (.cells #[.bool false, .int .i64 0, .int .i64 0, .int .i64 0, .int .i64 0] 37)).trans (hb1.mono (by omega))).trans (Below.of_grown hg2 (by omega) (by omega))
  have hr2 := hr1.grown hg2 (by intro e; injection e with e; omega)
  have HP := Lib.hid ((hp1.grown hg2 (by intro e; injection e with e; omega)).alloc (.cells #[.int .i64 a, .int .i64 b, .int .i64 h9] 25))
  have HN := Lib.hid (And.intro hl (And.intro hs h13))
  have HS : RowKit.Hid (HSt w A2 bs w2.heap.size (w.heap.size + 2) _ _ a b h9 (w2.alloc (.cells #[.int .i64 a, .int .i64 b, .int .i64 h9] 25))) := Lib.hid ⟨⟨(hrow.alloc _).here, h2.alloc _, hbl.alloc (by omega) _, hr2.alloc _, Blk.new w2 _ _⟩, by omega, by omega, nA, nP⟩
  clear h h0 h1 h2 hb1 hr1 hg2 hrow hl hs hnc hcm hex hA hP nA nP hbl hr2 hp0 hp1
  go_wp2_with fail
  refine (pick_lt _ _ _ _ _ HS.out.1.2.1 (by omega) (by omega)).mono ?_
  rintro e w3 ⟨x3, rfl, u3, v3, h3, hg3⟩
  replace HP := Lib.hid (HP.out.grown hg3 (by intro e; injection e with e; omega))
  replace HS := Lib.hid (HS.out.grown hg3 h3)
  clear h3 hg3
  go_wp2_with fail
  refine (pick_lt _ _ _ _ _ HS.out.1.2.1 (by omega) (by omega)).mono ?_
  rintro e w4 ⟨x4, rfl, u4, v4, h3, hg3⟩
  replace HP := Lib.hid (HP.out.grown hg3 (by intro e; injection e with e; omega))
  replace HS := Lib.hid (HS.out.grown hg3 h3)
  clear h3 hg3
  obtain ⟨z0, z1, z2⟩ := cells3 HS.out.1.2.2.2.2
  go_wp2_with fail
  refine wp_region_held_drew (S := (fun w' => w'.cell? ⟨w2.heap.size, 0, none⟩ = some (.int .i64 a) ∧ w'.cell? ⟨w2.heap.size, 1, none⟩ = some (.int .i64 b) ∧ w'.cell? ⟨w2.heap.size, 2, none⟩ = some (.int .i64 h9))) (by kernel_rfl) ?_ (fun hHeld => ?_)
  · exact ⟨z0, z1, z2⟩
  replace HS := Lib.hid (HS.out.kept (grown_drew (grown_refl _ none)))
  replace HP := Lib.hid (HP.out.keep (grown_drew (grown_refl _ none)))
  refine heldY 0 23 ?_
  refine heldY 1 24 ?_
  refine heldY 2 25 ?_
  refine heldY 3 26 ?_
  refine wpAnyH_ready (rs := [4]) (by kernel_rfl) (by simp) ?_
  refine AllReadyH.cons rfl (fun K hK => ?_) AllReadyH.nil
  go_simp
  go_at_call 64
  refine (page_any _ _ _ _ _ HS.out.1.2.1 (by omega) (by omega) (by omega)).mono ?_
  rintro e w5 ⟨f, y1, y2, y3, y4, rfl, h3, hg3⟩
  replace HP := Lib.hid (HP.out.grown hg3 (by intro e; injection e with e; omega))
  replace HS := Lib.hid (HS.out.grown hg3 h3)
  clear h3 hg3 z0 z1 z2
  obtain ⟨z0, z1, z2⟩ := cells3 HS.out.1.2.2.2.2
  refine hK.out _ _ ?_ (fun hHeld => ?_)
  · exact ⟨z0, z1, z2⟩
  clear hK K
  try simp only [Act.put, List.setIfInBounds_toArray, List.set_cons_zero, List.set_cons_succ]
  obtain ⟨d0, d1, d2⟩ := cells3 HS.out.1.2.2.2.1
  obtain ⟨f0, f1, f2⟩ := frozen3 HS.out.1.2.2.2.1
  have na0 : w2.heap.size ≠ w.heap.size := by have := HS.out.2.1; have := HS.out.2.2.1; omega
  have nb0 : w.heap.size ≠ w2.heap.size := by have := HS.out.2.1; have := HS.out.2.2.1; omega
  obtain ⟨r0, r1, r2, r3, r4⟩ := cells5 HP.out
  have q0 := HP.out.frozen 0
  have q1 := HP.out.frozen 1
  have q2 := HP.out.frozen 2
  have q3 := HP.out.frozen 3
  have q4 := HP.out.frozen 4
  have na1 : w2.heap.size ≠ w.heap.size + 1 := by have := HS.out.2.1; have := HS.out.2.2.1; omega
  have nb1 : w.heap.size + 1 ≠ w2.heap.size := by have := HS.out.2.1; have := HS.out.2.2.1; omega
  refine heldY 5 2 ?_
  refine wpAnyH_ready (rs := [6]) (by kernel_rfl) (by simp) ?_
  refine AllReadyH.cons rfl (fun K hK => ?_) AllReadyH.nil
  go_simp
  refine hK.out _ _ ?_ (fun hHeld => ?_)
  · first | with_reducible assumption | go_keep
  clear hK K
  try simp only [Act.put, List.setIfInBounds_toArray, List.set_cons_zero, List.set_cons_succ]
  refine heldY 7 4 ?_
  refine wpAnyH_ready (rs := [8]) (by kernel_rfl) (by simp) ?_
  refine AllReadyH.cons rfl (fun K hK => ?_) AllReadyH.nil
  go_simp
  refine hK.out _ _ ?_ (fun hHeld => ?_)
  · first | with_reducible assumption | go_keep
  clear hK K
  try simp only [Act.put, List.setIfInBounds_toArray, List.set_cons_zero, List.set_cons_succ]
  refine wpAnyH_done (by kernel_rfl) ?_ _
  go_wp2
  exact bodyPost_ret (v := .tuple #[.slice A2 n2 c2, .agg #[.int .i64 a, .int .i64 b, .int .i64 h9], .int .i64 (x3 - x4 / 13), .agg #[.bool f, .int .i64 y1, .int .i64 y2, .int .i64 y3, .int .i64 y4]]) (by simp [results, Try.results21, go_sem, *]) rfl
    ⟨_, _, _, _, _, _, _, _, _, _, _, _, _, rfl, HN.out.1, HN.out.2.2, HN.out.2.1, HS.out.put8 (Nat.le_succ _) _ _ _ _ _ _ _ _⟩
end Go.Proofs.Ytpdkfgihpchkiaa
