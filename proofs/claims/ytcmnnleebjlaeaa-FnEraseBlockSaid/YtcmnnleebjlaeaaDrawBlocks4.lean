/- What the draws of chapter 4 answer: blocks, pages, numbers, and nothing that was there is written. -/
import Derived.Test.YtcmnnleebjlaeaaDrawBlocks3
namespace Go.Proofs.Ytcmnnleebjlaeaa
open Go.ChangeShapes Go.WideShapes Go.ChangeAt Go.RowKit

theorem Row.grownNe {w w' : World} {B : Nat} {A : Option Addr} {ps : List Pg} {row : Option Nat} (h : Row w B A ps) (hg : w.grownBy w' row) (hne : ∀ ad, A = some ad → row ≠ some ad.block) : Row w' B A ps := fun hn => by
  obtain ⟨g, off, rfl, hb, hz, hc⟩ := h hn
  have h1 := hne _ rfl
  exact ⟨g, off, rfl, hb, Nat.lt_of_lt_of_le hz hg.size, fun i q hq => (hc i q hq).keep fun r hr => World.cell?_of_block (hg.block r.block (by omega) (fun e => h1 (by rw [← e, hr])))⟩
theorem pair2 {w : World} {g : Nat} {t : TypeId} {u0 u1 : Value} (h : Blk w g t #[u0, u1]) : w.cell? ⟨g, 0, none⟩ = some u0 ∧ w.cell? ⟨g, 1, none⟩ = some u1 := ⟨h.cell 0, h.cell 1⟩
theorem far0 {A : Option Addr} {lo k o : Nat} (h : ∀ ad, A = some ad → lo ≤ ad.block) (hk : k < lo) : ∀ ad, A = some ad → ad.block ≠ (⟨k, o, none⟩ : Addr).block := fun ad e => by
  have := h ad e
  show ad.block ≠ k
  omega
/-- A block is drawn out of a code: nothing that was there is written. -/
def BlockDrawn (w : World) (e : Ending) (w' : World) : Prop :=
  ∃ (m : Int) (A : Option Addr) (n c : Nat) (ps : List Pg), e = .returned (.agg #[.int .i64 m, .slice A n c]) ∧ ps.length = n ∧ n ≤ 4 ∧ n ≤ c ∧ c ≤ maxLen ∧ Row w' w'.heap.size A ps ∧ Below w.heap.size w w'
theorem drawBlockValid_any (w : World) (A : Option Addr) (n c : Nat) (hn : n ≤ c) (hc : c ≤ 9223372036854775807) (h : Bytes w w.heap.size A n) :
    Calls Try.prog 13 #[.slice A n c] w (BlockDrawn w) := by
  have h0 := h.alloc (.cells #[.int .i64 0, .slice none 0 0] 25)
  go_enter Try.func13, Try.ntmps13
  go_wp2_with fail
  refine (open_any _ A n c hn hc h0).mono ?_
  rintro e w1 ⟨rfl, h1, hb1⟩
  simp only [size_of_alloc] at h1 hb1
  have hr1 := (Blk.new w 25 _).below hb1 (by omega)
  go_wp2_with fail
  refine (block_any _ _ _ _ _ h1 (by omega) (by omega) (by omega)).mono ?_
  rintro e w2 ⟨m, A2, n2, c2, ps, rfl, hl, h4, hnc, hcm, hfr, hrow, h2, hg2⟩
  have hr := hr1.grown hg2 (by intro e; injection e with e; (try simp only [size_of_alloc] at e); omega)
  have hz1 := hb1.size
  simp only [size_of_alloc] at hz1
  have HF := Lib.hid (((Below.refl w.heap.size w).alloc (Nat.le_refl _) (.cells #[.int .i64 0, .slice none 0 0] 25)).trans ((hb1.mono (by omega)).trans (Below.of_grown hg2 (by omega) (by omega))))
  have hne : ∀ ad, A2 = some ad → ad.block ≠ w.heap.size := fun ad e => by have := hfr ad e; omega
  have HX := Lib.hid (And.intro hl (And.intro h4 (And.intro hnc (And.intro hcm (And.intro hne hrow)))))
  obtain ⟨r0, r1, q0, q1⟩ := cells2 hr
  clear h h0 h1 h2 hb1 hr1 hg2 hr hne hfr hrow hl
  go_wp2
  exact bodyPost_ret (v := .agg #[.int .i64 m, .slice A2 n2 c2]) (by simp [results, Try.results13, go_sem, *]) rfl
    ⟨_, _, _, _, _, rfl, HX.out.1, HX.out.2.1, HX.out.2.2.1, HX.out.2.2.2.1, ((HX.out.2.2.2.2.2.far HX.out.2.2.2.2.1 _).far HX.out.2.2.2.2.1 _).here, (HF.out.setCell (Nat.le_refl _) _).setCell (Nat.le_refl _) _⟩
theorem drawBlockNext_any (w : World) (A : Option Addr) (n c : Nat) (hn : n ≤ c) (hc : c ≤ 9223372036854775807) (h : Bytes w w.heap.size A n) :
    Calls Try.prog 22 #[.slice A n c] w (BlockDrawn w) := by
  have h0 := h.alloc (.cells #[.int .i64 0, .slice none 0 0] 25)
  go_enter Try.func22, Try.ntmps22
  go_wp2_with fail
  refine (open_any _ A n c hn hc h0).mono ?_
  rintro e w1 ⟨rfl, h1, hb1⟩
  simp only [size_of_alloc] at h1 hb1
  have hr1 := (Blk.new w 25 _).below hb1 (by omega)
  go_wp2_with fail
  refine (block_any _ _ _ _ _ h1 (by omega) (by omega) (by omega)).mono ?_
  rintro e w2 ⟨m, A2, n2, c2, ps, rfl, hl, h4, hnc, hcm, hfr, hrow, h2, hg2⟩
  have hr := hr1.grown hg2 (by intro e; injection e with e; (try simp only [size_of_alloc] at e); omega)
  have hz1 := hb1.size
  simp only [size_of_alloc] at hz1
  have HF := Lib.hid (((Below.refl w.heap.size w).alloc (Nat.le_refl _) (.cells #[.int .i64 0, .slice none 0 0] 25)).trans ((hb1.mono (by omega)).trans (Below.of_grown hg2 (by omega) (by omega))))
  have hne : ∀ ad, A2 = some ad → ad.block ≠ w.heap.size := fun ad e => by have := hfr ad e; omega
  have HX := Lib.hid (And.intro hl (And.intro h4 (And.intro hnc (And.intro hcm (And.intro hne hrow)))))
  obtain ⟨r0, r1, q0, q1⟩ := cells2 hr
  clear h h0 h1 h2 hb1 hr1 hg2 hr hne hfr hrow hl
  go_wp2
  exact bodyPost_ret (v := .agg #[.int .i64 m, .slice A2 n2 c2]) (by simp [results, Try.results22, go_sem, *]) rfl
    ⟨_, _, _, _, _, rfl, HX.out.1, HX.out.2.1, HX.out.2.2.1, HX.out.2.2.2.1, ((HX.out.2.2.2.2.2.far HX.out.2.2.2.2.1 _).far HX.out.2.2.2.2.1 _).here, (HF.out.setCell (Nat.le_refl _) _).setCell (Nat.le_refl _) _⟩
theorem drawEraseBlock_any (w : World) (A : Option Addr) (n c : Nat) (hn : n ≤ c) (hc : c ≤ 9223372036854775807) (h : Bytes w w.heap.size A n) :
    Calls Try.prog 28 #[.slice A n c] w (BlockDrawn w) := by
  have h0 := h.alloc (.cells #[.int .i64 0, .slice none 0 0] 25)
  go_enter Try.func28, Try.ntmps28
  go_wp2_with fail
  refine (open_any _ A n c hn hc h0).mono ?_
  rintro e w1 ⟨rfl, h1, hb1⟩
  simp only [size_of_alloc] at h1 hb1
  have hr1 := (Blk.new w 25 _).below hb1 (by omega)
  go_wp2_with fail
  refine (block_any _ _ _ _ _ h1 (by omega) (by omega) (by omega)).mono ?_
  rintro e w2 ⟨m, A2, n2, c2, ps, rfl, hl, h4, hnc, hcm, hfr, hrow, h2, hg2⟩
  have hr := hr1.grown hg2 (by intro e; injection e with e; (try simp only [size_of_alloc] at e); omega)
  have hz1 := hb1.size
  simp only [size_of_alloc] at hz1
  have HF := Lib.hid (((Below.refl w.heap.size w).alloc (Nat.le_refl _) (.cells #[.int .i64 0, .slice none 0 0] 25)).trans ((hb1.mono (by omega)).trans (Below.of_grown hg2 (by omega) (by omega))))
  have hne : ∀ ad, A2 = some ad → ad.block ≠ w.heap.size := fun ad e => by have := hfr ad e; omega
  have HX := Lib.hid (And.intro hl (And.intro h4 (And.intro hnc (And.intro hcm (And.intro hne hrow)))))
  obtain ⟨r0, r1, q0, q1⟩ := cells2 hr
  clear h h0 h1 h2 hb1 hr1 hg2 hr hne hfr hrow hl
  go_wp2
  exact bodyPost_ret (v := .agg #[.int .i64 m, .slice A2 n2 c2]) (by simp [results, Try.results28, go_sem, *]) rfl
    ⟨_, _, _, _, _, rfl, HX.out.1, HX.out.2.1, HX.out.2.2.1, HX.out.2.2.2.1, ((HX.out.2.2.2.2.2.far HX.out.2.2.2.2.1 _).far HX.out.2.2.2.2.1 _).here, (HF.out.setCell (Nat.le_refl _) _).setCell (Nat.le_refl _) _⟩
/-- A number is drawn. -/
def NumDrawn (w : World) (e : Ending) (w' : World) : Prop := ∃ m : Int, e = .returned (.int .i64 m) ∧ Below w.heap.size w w'
theorem drawNewBlock_any (w : World) (A : Option Addr) (n c : Nat) (hn : n ≤ c) (hc : c ≤ 9223372036854775807) (h : Bytes w w.heap.size A n) :
    Calls Try.prog 17 #[.slice A n c] w (NumDrawn w) := by
  go_enter Try.func17, Try.ntmps17
  go_wp2_with fail
  refine (open_any _ A n c hn hc h).mono ?_
  rintro e w1 ⟨rfl, h1, hb1⟩
  go_wp2_with fail
  refine (pick_lt _ _ _ _ _ h1 (by omega) (by omega)).mono ?_
  rintro e w2 ⟨x1, rfl, u1, v1, h2, hg2⟩
  have hB2 := hb1.trans (Below.of_grown hg2 (Nat.le_refl _) hb1.size)
  clear hg2 hb1 h1
  go_wp2_with fail
  refine (pick_lt _ _ _ _ _ ((h2.alloc _).alloc _) (by omega) (by omega)).mono ?_
  rintro e w3 ⟨x2, rfl, u2, v2, h3, hg3⟩
  have g2 := h2.lt
  have ht := ((Blk.new w2 3 #[.int .i64 x1, .int .i64 101, .int .i64 (-1)]).alloc (.cells #[.int .i64 0, .int .i64 0, .int .i64 0, .int .i64 0, .int .i64 1, .int .i64 2] 3)).grown hg3 (by intro e; injection e with e; omega)
  have hs := (Blk.new (w2.alloc (.cells #[.int .i64 x1, .int .i64 101, .int .i64 (-1)] 3)) 3 #[.int .i64 0, .int .i64 0, .int .i64 0, .int .i64 0, .int .i64 1, .int .i64 2]).grown hg3 (by intro e; injection e with e; simp only [size_alloc1] at e; omega)
  simp only [size_alloc1] at hs
  have hB3 := ((hB2.alloc hB2.size (.cells #[.int .i64 x1, .int .i64 101, .int .i64 (-1)] 3)).alloc (by simp only [size_alloc1]; have := hB2.size; omega) (.cells #[.int .i64 0, .int .i64 0, .int .i64 0, .int .i64 0, .int .i64 1, .int .i64 2] 3)).trans (Below.of_grown hg3 (Nat.le_refl _) (by simp only [size_alloc1]; have := hB2.size; omega))
  obtain ⟨j, rfl⟩ := Int.eq_ofNat_of_zero_le u2
  obtain ⟨u, hu, hc1⟩ : ∃ u : Nat, u < 3 ∧ w3.cell? ⟨w2.heap.size + 1, j, none⟩ = some (.int .i64 u) := by
    have hj : j < 6 := by omega
    rw [hs.cell j]
    match j, hj with
    | 0, _ => exact ⟨0, by omega, rfl⟩
    | 1, _ => exact ⟨0, by omega, rfl⟩
    | 2, _ => exact ⟨0, by omega, rfl⟩
    | 3, _ => exact ⟨0, by omega, rfl⟩
    | 4, _ => exact ⟨1, by omega, rfl⟩
    | 5, _ => exact ⟨2, by omega, rfl⟩
  obtain ⟨x, hc2⟩ : ∃ x : Int, w3.cell? ⟨w2.heap.size, u, none⟩ = some (.int .i64 x) := by
    rw [ht.cell u]
    match u, hu with
    | 0, _ => exact ⟨_, rfl⟩
    | 1, _ => exact ⟨_, rfl⟩
    | 2, _ => exact ⟨_, rfl⟩
  have HX := Lib.hid hB3
  clear h h2 hB2 h3 hg3 ht hs hB3
  go_wp2
  go_ret
  exact ⟨_, rfl, HX.out⟩
/-- A block and a page are drawn. -/
def BlockPageDrawn (w : World) (e : Ending) (w' : World) : Prop :=
  ∃ (m : Int) (A : Option Addr) (n c : Nat) (ps : List Pg) (p : Pg), e = .returned (.tuple #[.agg #[.int .i64 m, .slice A n c], .agg #[.bool p.f, .int .i64 p.a, .int .i64 p.b, .int .i64 p.c, .int .i64 p.d]]) ∧ ps.length = n ∧ n ≤ 4 ∧ n ≤ c ∧ c ≤ maxLen ∧ Row w' w'.heap.size A ps ∧ Below w.heap.size w w'
theorem drawWriteBlock_any (w : World) (A : Option Addr) (n c : Nat) (hn : n ≤ c) (hc : c ≤ 9223372036854775807) (h : Bytes w w.heap.size A n) :
    Calls Try.prog 24 #[.slice A n c] w (BlockPageDrawn w) := by
  have h0 := (h.alloc (.cells #[.int .i64 0, .slice none 0 0] 25)).alloc (.cells #[.bool false, .int .i64 0, .int .i64 0, .int .i64 0, .int .i64 0] 35)
  go_enter Try.func24, Try.ntmps24
  go_wp2_with fail
  refine (open_any _ A n c hn hc h0).mono ?_
  rintro e w1 ⟨rfl, h1, hb1⟩
  simp only [size_of_alloc] at h1 hb1
  have hr1 := ((Blk.new w 25 #[.int .i64 0, .slice none 0 0]).alloc (.cells #[.bool false, .int .i64 0, .int .i64 0, .int .i64 0, .int .i64 0] 35)).below hb1 (by omega)
  have hs1 := (Blk.new (w.alloc (.cells #[.int .i64 0, .slice none 0 0] 25)) 35 #[.bool false, .int .i64 0, .int .i64 0, .int .i64 0, .int .i64 0]).below hb1 (by simp only [size_of_alloc]; omega)
  simp only [size_of_alloc] at hs1
  go_wp2_with fail
  refine (block_any _ _ _ _ _ h1 (by omega) (by omega) (by omega)).mono ?_
  rintro e w2 ⟨m, A2, n2, c2, ps, rfl, hl, h4, hnc, hcm, hfr, hrow, h2, hg2⟩
  have hz1 := hb1.size
  simp only [size_of_alloc] at hz1
  have hz2 := hg2.size
  have hz3 := h1.lt
  have hr := (hr1.grown hg2 (by intro e; injection e with e; (try simp only [size_of_alloc] at e); omega)).alloc (.cells #[.int .i64 m, .slice A2 n2 c2] 25)
  have hs := (hs1.grown hg2 (by intro e; injection e with e; (try simp only [size_of_alloc] at e); omega)).alloc (.cells #[.int .i64 m, .slice A2 n2 c2] 25)
  have hv := Blk.new w2 25 #[.int .i64 m, .slice A2 n2 c2]
  have hB := ((((Below.refl w.heap.size w).alloc (Nat.le_refl _) (.cells #[.int .i64 0, .slice none 0 0] 25)).alloc (by simp only [size_of_alloc]; omega) (.cells #[.bool false, .int .i64 0, .int .i64 0, .int .i64 0, .int .i64 0] 35)).trans ((hb1.mono (by omega)).trans (Below.of_grown hg2 (by omega) (by omega)))).alloc (by omega) (.cells #[.int .i64 m, .slice A2 n2 c2] 25)
  have hne : ∀ ad, A2 = some ad → w1.heap.size ≤ ad.block := hfr
  have HX := Lib.hid (And.intro hl (And.intro h4 (And.intro hnc (And.intro hcm (And.intro hne (And.intro (hrow.alloc (.cells #[.int .i64 m, .slice A2 n2 c2] 25)) (And.intro (h2.alloc (.cells #[.int .i64 m, .slice A2 n2 c2] 25)) (And.intro hr (And.intro hs (And.intro hv hB))))))))))
  obtain ⟨b0, b1, _, _⟩ := cells2 hv
  clear h h0 h1 h2 hb1 hr1 hs1 hg2 hr hs hv hB hne hfr hrow hl
  go_wp2_with fail
  refine wp_region_held_drew (S := (fun w' => w'.cell? ⟨w2.heap.size, 0, none⟩ = some (.int .i64 m) ∧ w'.cell? ⟨w2.heap.size, 1, none⟩ = some (.slice A2 n2 c2))) (by kernel_rfl) ?_ (fun hHeld => ?_)
  · exact ⟨b0, b1⟩
  refine held_yes (i := 0) (d := some 10) (v := ?_) rfl rfl (by kernel_rfl) (by kernel_rfl) (by kernel_rfl) (fun _ _ _ h => h) (by rfl) ?_ (by assumption) ?_
  rotate_left
  · (intro w hSw; (try dsimp only at hSw); go_simp; (first | done | with_reducible rfl))
  try simp only [Act.put, List.setIfInBounds_toArray, List.set_cons_zero, List.set_cons_succ]
  refine held_yes (i := 1) (d := some 11) (v := ?_) rfl rfl (by kernel_rfl) (by kernel_rfl) (by kernel_rfl) (fun _ _ _ h => h) (by rfl) ?_ (by assumption) ?_
  rotate_left
  · (intro w hSw; (try dsimp only at hSw); go_simp; (first | done | with_reducible rfl))
  try simp only [Act.put, List.setIfInBounds_toArray, List.set_cons_zero, List.set_cons_succ]
  refine wpAnyH_ready (rs := [2]) (by kernel_rfl) (by simp) ?_
  refine AllReadyH.cons rfl (fun K hK => ?_) AllReadyH.nil
  go_simp
  go_at_call 46
  refine (page_any _ _ _ _ _ HX.out.2.2.2.2.2.2.1.drew (by omega) (by omega) (by omega)).mono ?_
  rintro e w3 ⟨pf, p1, p2, p3, p4, rfl, h3, hg3⟩
  have hR := HX.out.2.2.2.2.2.2.2.1.drew.grown hg3 (by intro e; injection e with e; omega)
  have hP := HX.out.2.2.2.2.2.2.2.2.1.drew.grown hg3 (by intro e; injection e with e; omega)
  have hV := HX.out.2.2.2.2.2.2.2.2.2.1.drew.grown hg3 (by intro e; injection e with e; omega)
  have hRow := HX.out.2.2.2.2.2.1.drew.grownNe hg3 (by intro ad e e2; injection e2 with e2; have h9 := HX.out.2.2.2.2.1 ad e; omega)
  have HZ := Lib.hid (HX.out.2.2.2.2.2.2.2.2.2.2.drew.trans (Below.of_grown hg3 (by omega) (by simp only [World.drew, size_alloc1]; omega)))
  clear b0 b1 h3 hg3
  obtain ⟨b0, b1, _, _⟩ := cells2 hV
  obtain ⟨r0, r1, q0, q1⟩ := cells2 hR
  obtain ⟨s0, s1, s2, s3, s4⟩ := cells5 hP
  have f0 := hP.frozen 0
  have f1 := hP.frozen 1
  have f2 := hP.frozen 2
  have f3 := hP.frozen 3
  have f4 := hP.frozen 4
  have HRow := Lib.hid hRow
  have HVb := Lib.hid hV
  clear hR hP hV hRow
  refine hK.out _ _ ?_ (fun hHeld => ?_)
  · exact ⟨b0, b1⟩
  clear hK K
  try simp only [Act.put, List.setIfInBounds_toArray, List.set_cons_zero, List.set_cons_succ]
  have k1 : w2.heap.size ≠ w.heap.size := by omega
  have k2 : w2.heap.size ≠ w.heap.size + 1 := by omega
  refine wpAnyH_ready (rs := [3]) (by kernel_rfl) (by simp) ?_
  refine AllReadyH.cons rfl (fun K hK => ?_) AllReadyH.nil
  go_simp
  refine hK.out _ _ ?_ (fun hHeld => ?_)
  · exact pair2 ((HVb.out.far k1 _).far k1 _)
  clear hK K
  try simp only [Act.put, List.setIfInBounds_toArray, List.set_cons_zero, List.set_cons_succ]
  refine wpAnyH_ready (rs := [4]) (by kernel_rfl) (by simp) ?_
  refine AllReadyH.cons rfl (fun K hK => ?_) AllReadyH.nil
  go_simp
  refine hK.out _ _ ?_ (fun hHeld => ?_)
  · exact pair2 (((((((HVb.out.far k1 _).far k1 _).far k2 _).far k2 _).far k2 _).far k2 _).far k2 _)
  clear hK K
  try simp only [Act.put, List.setIfInBounds_toArray, List.set_cons_zero, List.set_cons_succ]
  refine wpAnyH_done (by kernel_rfl) ?_ _
  go_wp2
  have hfr := HX.out.2.2.2.2.1
  exact bodyPost_ret (v := .tuple #[.agg #[.int .i64 m, .slice A2 n2 c2], .agg #[.bool pf, .int .i64 p1, .int .i64 p2, .int .i64 p3, .int .i64 p4]]) (by simp [results, Try.results24, go_sem, *]) rfl
    ⟨_, _, _, _, _, ⟨pf, p1, p2, p3, p4⟩, rfl, HX.out.1, HX.out.2.1, HX.out.2.2.1, HX.out.2.2.2.1, (((((((HRow.out.far (far0 hfr (by omega)) _).far (far0 hfr (by omega)) _).far (far0 hfr (by omega)) _).far (far0 hfr (by omega)) _).far (far0 hfr (by omega)) _).far (far0 hfr (by omega)) _).far (far0 hfr (by omega)) _).here, below_put5 ((HZ.out.setCell (Nat.le_refl _) _).setCell (Nat.le_refl _) _) (by omega) _ _ _ _ _⟩
end Go.Proofs.Ytcmnnleebjlaeaa
