/- What the program's TableOf answers. -/
import Derived.Test.YtpjajmiegopmlaaTabsOf
import Derived.Test.YtpjajmiegopmlaaTables8
import Derived.Test.YtpjajmiegopmlaaHand
namespace Go.Proofs.Ytpjajmiegopmlaa
open Go.ChangeShapes Go.WideShapes Go.ChangeAt Go.RowKit
set_option linter.unusedVariables false
set_option linter.unusedSimpArgs false

/-- What isNewerThanNamed has in memory. -/
def NIn (w : World) (A : Option Addr) (bs : List Bk) (At : Option Addr) (ct : Nat) (ls : List Li) (f j : Nat) (v d : Int) (wr : World) : Prop :=
  Blk wr w.heap.size 51 #[.slice At 8 ct] ∧ Blk wr (w.heap.size + 1) 27 #[.bool true, .int .i64 (f : Int), .int .i64 (j : Int), .int .i64 v, .int .i64 d] ∧ DRow wr w.heap.size A bs ∧ TRow wr w.heap.size At ls ∧ w.grownBy wr none
theorem NIn.start {w : World} {A : Option Addr} {bs : List Bk} {At : Option Addr} {ls : List Li} (hr : DRow w w.heap.size A bs) (ht : TRow w w.heap.size At ls) (ct f j : Nat) (v d : Int) :
    NIn w A bs At ct ls f j v d ((w.alloc (.cells #[.slice At 8 ct] 51)).alloc (.cells #[.bool true, .int .i64 (f : Int), .int .i64 (j : Int), .int .i64 v, .int .i64 d] 27)) := by
  refine ⟨(Blk.new w _ _).alloc _, ?_, (hr.alloc _).alloc _, (ht.alloc _).alloc _, grown_alloc (grown_alloc (grown_refl _ _) _) _⟩
  have H := Blk.new (w.alloc (.cells #[.slice At 8 ct] 51)) 27 #[.bool true, .int .i64 (f : Int), .int .i64 (j : Int), .int .i64 v, .int .i64 d]
  simpa only [size_alloc1] using H
theorem NIn.keep {w wr w' : World} {A : Option Addr} {bs : List Bk} {At : Option Addr} {ct : Nat} {ls : List Li} {f j : Nat} {v d : Int} (H : NIn w A bs At ct ls f j v d wr) (k : wr.grownBy w' none) : NIn w A bs At ct ls f j v d w' :=
  ⟨H.1.keep k, H.2.1.keep k, H.2.2.1.kept k, H.2.2.2.1.kept k, grown_trans H.2.2.2.2 k⟩
set_option maxHeartbeats 1000000 in
theorem isNewer_none (A : Option Addr) (n c : Nat) (bs : List Bk) (At : Option Addr) (ct : Nat) (ls : List Li) (f j : Nat) (v d : Int) (w : World) (hl : bs.length = n) (hr : DRow w w.heap.size A bs) (hd : devB bs = true) (ht : TRow w w.heap.size At ls) (hv : tabB (ll ls) = true) (hf : f < 8) (hj : j < 6) (hc : cellO (ll ls) f j = some (-1)) :
    Calls Try.prog 104 #[.slice A n c, .agg #[.slice At 8 ct], .agg #[.bool true, .int .i64 (f : Int), .int .i64 (j : Int), .int .i64 v, .int .i64 d]] w (KeptV (.bool true) w) := by
  obtain ⟨h8, g, off, gx, ox, cl, xs, y, rfl, hll, h6, hy, hcy⟩ := ht.open_ hv hf hj
  rw [hcy] at hc
  injection hc with hc
  subst hc
  have h0 := NIn.start hr ht ct f j v d
  have b0 := h0.1.cell 0
  obtain ⟨p0, p1, p2, p3, p4⟩ := cells5 h0.2.1
  have c0 := h0.2.2.2.1.cellf hll h6
  have c1 := (h0.2.2.2.1.inner hll).cellf hy
  have f0 : decide ((0 : Int) ≤ f) = true := decide_eq_true (by omega)
  have f1 : (f : Int) < 8 := by omega
  have j0 : decide ((0 : Int) ≤ j) = true := decide_eq_true (by omega)
  have j1 : (j : Int) < 6 := by omega
  have H0 := Lib.hid h0
  clear hl hr hd ht hv hll h6 hy hcy h8 h0
  go_enter Try.func104, Try.ntmps104
  go_wp2
  go_quiet (fail)
  all_goals go_wp2
  have H1 := Lib.hid (H0.out.keep (grown_drewN (grown_refl _ none) (nq + 1)))
  refine wp_region_held_drew (S := (fun w' => w'.cell? ⟨w.heap.size + 1, 4, none⟩ = some (.int .i64 d))) (by kernel_rfl) ?_ (fun hHeld => ?_)
  · exact H1.out.2.1.cell 4
  refine held_yes (i := 0) (d := some 18) (v := ?_) rfl rfl (by kernel_rfl) (by kernel_rfl) (by kernel_rfl) (fun _ _ _ h => h) (by rfl) ?_ (by assumption) ?_
  rotate_left
  · (intro w hSw; (try dsimp only at hSw); go_simp; (first | done | with_reducible rfl))
  try simp only [Act.put, List.setIfInBounds_toArray, List.set_cons_zero, List.set_cons_succ]
  refine held_yes (i := 1) (d := some 19) (v := ?_) rfl rfl (by kernel_rfl) (by kernel_rfl) (by kernel_rfl) (fun _ _ _ h => h) (by rfl) ?_ (by assumption) ?_
  rotate_left
  · (intro w hSw; (try dsimp only at hSw); go_simp; (first | done | with_reducible rfl))
  try simp only [Act.put, List.setIfInBounds_toArray, List.set_cons_zero, List.set_cons_succ]
  refine held_yes (i := 2) (d := some 20) (v := ?_) rfl rfl (by kernel_rfl) (by kernel_rfl) (by kernel_rfl) (fun _ _ _ h => h) (by rfl) ?_ (by assumption) ?_
  rotate_left
  · (intro w hSw; (try dsimp only at hSw); go_simp; (first | done | with_reducible rfl))
  try simp only [Act.put, List.setIfInBounds_toArray, List.set_cons_zero, List.set_cons_succ]
  refine held_no (i := 3) (d := some 21) rfl rfl (by kernel_rfl) (by kernel_rfl) (by kernel_rfl) (fun _ _ _ h => h) (by rfl) (by assumption) ?_
  try simp only [Act.put, List.setIfInBounds_toArray, List.set_cons_zero, List.set_cons_succ]
  refine held_no (i := 4) (d := some 22) rfl rfl (by kernel_rfl) (by kernel_rfl) (by kernel_rfl) (fun _ _ _ h => h) (by rfl) (by assumption) ?_
  try simp only [Act.put, List.setIfInBounds_toArray, List.set_cons_zero, List.set_cons_succ]
  refine held_no (i := 5) (d := some 23) rfl rfl (by kernel_rfl) (by kernel_rfl) (by kernel_rfl) (fun _ _ _ h => h) (by rfl) (by assumption) ?_
  try simp only [Act.put, List.setIfInBounds_toArray, List.set_cons_zero, List.set_cons_succ]
  refine held_no (i := 6) (d := some 24) rfl rfl (by kernel_rfl) (by kernel_rfl) (by kernel_rfl) (fun _ _ _ h => h) (by rfl) (by assumption) ?_
  try simp only [Act.put, List.setIfInBounds_toArray, List.set_cons_zero, List.set_cons_succ]
  refine held_no (i := 7) (d := some 25) rfl rfl (by kernel_rfl) (by kernel_rfl) (by kernel_rfl) (fun _ _ _ h => h) (by rfl) (by assumption) ?_
  try simp only [Act.put, List.setIfInBounds_toArray, List.set_cons_zero, List.set_cons_succ]
  refine held_no (i := 8) (d := some 26) rfl rfl (by kernel_rfl) (by kernel_rfl) (by kernel_rfl) (fun _ _ _ h => h) (by rfl) (by assumption) ?_
  try simp only [Act.put, List.setIfInBounds_toArray, List.set_cons_zero, List.set_cons_succ]
  refine held_no (i := 9) (d := some 27) rfl rfl (by kernel_rfl) (by kernel_rfl) (by kernel_rfl) (fun _ _ _ h => h) (by rfl) (by assumption) ?_
  try simp only [Act.put, List.setIfInBounds_toArray, List.set_cons_zero, List.set_cons_succ]
  refine held_yes (i := 10) (d := some 28) (v := ?_) rfl rfl (by kernel_rfl) (by kernel_rfl) (by kernel_rfl) (fun _ _ _ h => h) (by rfl) ?_ (by assumption) ?_
  rotate_left
  · (intro w hSw; (try dsimp only at hSw); go_simp; (first | done | with_reducible rfl))
  try simp only [Act.put, List.setIfInBounds_toArray, List.set_cons_zero, List.set_cons_succ]
  refine wpAnyH_ready (rs := [11]) (by kernel_rfl) (by simp) ?_
  refine AllReadyH.cons rfl (fun K hK => ?_) AllReadyH.nil
  go_simp
  refine hK.out _ _ ?_ (fun hHeld => ?_)
  · first | with_reducible assumption | exact H1.out.2.1.cell 4 | exact H3.out.2.1.cell 4
  clear hK K
  try simp only [Act.put, List.setIfInBounds_toArray, List.set_cons_zero, List.set_cons_succ]
  refine wpAnyH_done (by kernel_rfl) ?_ _
  go_wp2
  go_ret
  exact ⟨rfl, H1.out.2.2.2.2⟩
set_option maxHeartbeats 1000000 in
theorem isNewer_some (A : Option Addr) (n c : Nat) (bs : List Bk) (At : Option Addr) (ct : Nat) (ls : List Li) (f j : Nat) (v d : Int) (a : Nat) (q : Pg) (w : World) (hl : bs.length = n) (hr : DRow w w.heap.size A bs) (hd : devB bs = true) (ht : TRow w w.heap.size At ls) (hv : tabB (ll ls) = true) (hf : f < 8) (hj : j < 6) (hc : cellO (ll ls) f j = some (a : Int)) (hq : pageAt bs a = some q) :
    Calls Try.prog 104 #[.slice A n c, .agg #[.slice At 8 ct], .agg #[.bool true, .int .i64 (f : Int), .int .i64 (j : Int), .int .i64 v, .int .i64 d]] w (KeptV (.bool (decide (q.d < d))) w) := by
  obtain ⟨h8, g, off, gx, ox, cl, xs, y, rfl, hll, h6, hy, hcy⟩ := ht.open_ hv hf hj
  rw [hcy] at hc
  injection hc with hc
  subst hc
  have h0 := NIn.start hr ht ct f j v d
  have b0 := h0.1.cell 0
  obtain ⟨p0, p1, p2, p3, p4⟩ := cells5 h0.2.1
  have c0 := h0.2.2.2.1.cellf hll h6
  have c1 := (h0.2.2.2.1.inner hll).cellf hy
  have f0 : decide ((0 : Int) ≤ f) = true := decide_eq_true (by omega)
  have f1 : (f : Int) < 8 := by omega
  have j0 : decide ((0 : Int) ≤ j) = true := decide_eq_true (by omega)
  have j1 : (j : Int) < 6 := by omega
  have H0 := Lib.hid h0
  have HD := Lib.hid (And.intro hl (And.intro hd hq))
  have hfd : ∀ w : World, (Instr.field 27 (.agg #[.bool q.f, .int .i64 q.a, .int .i64 q.b, .int .i64 q.c, .int .i64 q.d]) 4).run Try.prog w = .ok (.int .i64 q.d) w := fun _ => by kernel_rfl
  have a1 : ((a : Int) == -1) = false := by rw [beq_eq_false_iff_ne]; omega
  clear hl hr hd ht hv hll h6 hy hcy h8 h0 hq
  go_enter Try.func104, Try.ntmps104
  go_wp2
  go_quiet (fail)
  all_goals go_wp2
  have H2 := Lib.hid (H0.out.keep (grown_drewN (grown_refl _ none) (nq + 1)))
  have HROW := Lib.hid H2.out.2.2.1.here
  refine wp_region_held_drew (S := (fun w' => w'.cell? ⟨w.heap.size + 1, 4, none⟩ = some (.int .i64 d))) (by kernel_rfl) ?_ (fun hHeld => ?_)
  · first | exact H3.out.2.1.cell 4 | exact H2.out.2.1.cell 4
  refine held_yes (i := 0) (d := some 18) (v := ?_) rfl rfl (by kernel_rfl) (by kernel_rfl) (by kernel_rfl) (fun _ _ _ h => h) (by rfl) ?_ (by assumption) ?_
  rotate_left
  · (intro w hSw; (try dsimp only at hSw); go_simp; (first | done | with_reducible rfl))
  try simp only [Act.put, List.setIfInBounds_toArray, List.set_cons_zero, List.set_cons_succ]
  refine held_yes (i := 1) (d := some 19) (v := ?_) rfl rfl (by kernel_rfl) (by kernel_rfl) (by kernel_rfl) (fun _ _ _ h => h) (by rfl) ?_ (by assumption) ?_
  rotate_left
  · (intro w hSw; (try dsimp only at hSw); go_simp; (first | done | with_reducible rfl))
  try simp only [Act.put, List.setIfInBounds_toArray, List.set_cons_zero, List.set_cons_succ]
  refine held_yes (i := 2) (d := some 20) (v := ?_) rfl rfl (by kernel_rfl) (by kernel_rfl) (by kernel_rfl) (fun _ _ _ h => h) (by rfl) ?_ (by assumption) ?_
  rotate_left
  · (intro w hSw; (try dsimp only at hSw); go_simp; (first | done | with_reducible rfl))
  try simp only [Act.put, List.setIfInBounds_toArray, List.set_cons_zero, List.set_cons_succ]
  refine held_yes (i := 3) (d := some 21) (v := ?_) rfl rfl (by kernel_rfl) (by kernel_rfl) (by kernel_rfl) (fun _ _ _ h => h) (by rfl) ?_ (by assumption) ?_
  rotate_left
  · (intro w hSw; (try dsimp only at hSw); go_simp; (first | done | with_reducible rfl))
  try simp only [Act.put, List.setIfInBounds_toArray, List.set_cons_zero, List.set_cons_succ]
  refine held_yes (i := 4) (d := some 22) (v := ?_) rfl rfl (by kernel_rfl) (by kernel_rfl) (by kernel_rfl) (fun _ _ _ h => h) (by rfl) ?_ (by assumption) ?_
  rotate_left
  · (intro w hSw; (try dsimp only at hSw); go_simp; (first | done | with_reducible rfl))
  try simp only [Act.put, List.setIfInBounds_toArray, List.set_cons_zero, List.set_cons_succ]
  refine held_yes (i := 5) (d := some 23) (v := ?_) rfl rfl (by kernel_rfl) (by kernel_rfl) (by kernel_rfl) (fun _ _ _ h => h) (by rfl) ?_ (by assumption) ?_
  rotate_left
  · (intro w hSw; (try dsimp only at hSw); go_simp; (first | done | with_reducible rfl))
  try simp only [Act.put, List.setIfInBounds_toArray, List.set_cons_zero, List.set_cons_succ]
  refine held_yes (i := 6) (d := some 24) (v := ?_) rfl rfl (by kernel_rfl) (by kernel_rfl) (by kernel_rfl) (fun _ _ _ h => h) (by rfl) ?_ (by assumption) ?_
  rotate_left
  · (intro w hSw; (try dsimp only at hSw); go_simp; (first | done | with_reducible rfl))
  try simp only [Act.put, List.setIfInBounds_toArray, List.set_cons_zero, List.set_cons_succ]
  refine wpAnyH_ready (rs := [7]) (by kernel_rfl) (by simp) ?_
  refine AllReadyH.cons rfl (fun K hK => ?_) AllReadyH.nil
  go_simp
  go_at_call 58; (with_reducible refine (pageOf_at _ _ _ bs a q _ HD.out.1 HROW.out HD.out.2.1 HD.out.2.2).mono ?_); rintro e w2 ⟨rfl, hk⟩; have H3 := Lib.hid (H2.out.keep hk); clear hk
  refine hK.out _ _ ?_ (fun hHeld => ?_)
  · first | exact H3.out.2.1.cell 4 | exact H2.out.2.1.cell 4
  clear hK K
  try simp only [Act.put, List.setIfInBounds_toArray, List.set_cons_zero, List.set_cons_succ]
  refine held_yes (i := 8) (d := some 26) (v := ?_) rfl rfl (by kernel_rfl) (by kernel_rfl) (by kernel_rfl) (fun _ _ _ h => h) (by rfl) ?_ (by assumption) ?_
  rotate_left
  · (intro w hSw; (try dsimp only at hSw); go_simp; (first | done | with_reducible rfl))
  try simp only [Act.put, List.setIfInBounds_toArray, List.set_cons_zero, List.set_cons_succ]
  refine held_yes (i := 9) (d := some 27) (v := ?_) rfl rfl (by kernel_rfl) (by kernel_rfl) (by kernel_rfl) (fun _ _ _ h => h) (by rfl) ?_ (by assumption) ?_
  rotate_left
  · (intro w hSw; (try dsimp only at hSw); go_simp; (first | done | with_reducible rfl))
  try simp only [Act.put, List.setIfInBounds_toArray, List.set_cons_zero, List.set_cons_succ]
  refine held_yes (i := 10) (d := some 28) (v := ?_) rfl rfl (by kernel_rfl) (by kernel_rfl) (by kernel_rfl) (fun _ _ _ h => h) (by rfl) ?_ (by assumption) ?_
  rotate_left
  · (intro w hSw; (try dsimp only at hSw); go_simp; (first | done | with_reducible rfl))
  try simp only [Act.put, List.setIfInBounds_toArray, List.set_cons_zero, List.set_cons_succ]
  refine wpAnyH_ready (rs := [11]) (by kernel_rfl) (by simp) ?_
  refine AllReadyH.cons rfl (fun K hK => ?_) AllReadyH.nil
  go_simp
  refine hK.out _ _ ?_ (fun hHeld => ?_)
  · first | with_reducible assumption | exact H1.out.2.1.cell 4 | exact H3.out.2.1.cell 4
  clear hK K
  try simp only [Act.put, List.setIfInBounds_toArray, List.set_cons_zero, List.set_cons_succ]
  refine wpAnyH_done (by kernel_rfl) ?_ _
  go_wp2
  go_ret
  exact ⟨rfl, H3.out.2.2.2.2⟩
/-- The loop over the pages, at page k: the table lies in variable V, its row in block g. -/
def OfR (w : World) (A : Option Addr) (bs : List Bk) (V g ct k : Nat) (wr : World) : Prop :=
  (∃ cs, cs.length = 8 ∧ ll cs = tabTo bs k ∧ TOwn wr w.heap.size (.slice (some ⟨g, 0, none⟩) 8 ct) cs) ∧ Blk wr V 51 #[.slice (some ⟨g, 0, none⟩) 8 ct] ∧ Blk wr w.heap.size 51 #[.slice none 0 0] ∧ DRow wr w.heap.size A bs ∧ w.grownBy wr none
theorem OfR.keep {w wr w' : World} {A : Option Addr} {bs : List Bk} {V g ct k : Nat} (H : OfR w A bs V g ct k wr) (q : wr.grownBy w' none) : OfR w A bs V g ct k w' := by
  obtain ⟨⟨cs, h1, h2, h3⟩, h4, h5, h6, h7⟩ := H
  exact ⟨⟨cs, h1, h2, h3.keep q⟩, h4.keep q, h5.keep q, h6.kept q, grown_trans h7 q⟩
theorem OfR.next {w wr : World} {A : Option Addr} {bs : List Bk} {V g ct k : Nat} (H : OfR w A bs V g ct k wr) (h : ofStep bs (tabTo bs k) k = tabTo bs k) : OfR w A bs V g ct (k + 1) wr := by
  obtain ⟨⟨cs, h1, h2, h3⟩, h4⟩ := H
  exact ⟨⟨cs, h1, by rw [h2]; exact h.symm, h3⟩, h4⟩
/-- What is needed of the table to read or write the cell of file f and place j. -/
theorem OfR.open_ {w wr : World} {A : Option Addr} {bs : List Bk} {V g ct k : Nat} (H : OfR w A bs V g ct k wr) (hd : devB bs = true) (hk : k ≤ 48) {f j : Nat} (hf : f < 8) (hj : j < 6) :
    ∃ (gl cl : Nat) (x : Int), wr.cell? ⟨g, f, none⟩ = some (.slice (some ⟨gl, 0, none⟩) 6 cl) ∧ wr.cell? ⟨gl, j, none⟩ = some (.int .i64 x) ∧ wr.frozen? ⟨gl, j, none⟩ = false ∧ cellO (tabTo bs k) f j = some x ∧ w.heap.size ≤ gl ∧ gl ≠ g ∧
      (∀ {t : TypeId} {V' : Nat} {cc : Array Value}, Blk wr V' t cc → (3 : TypeId) ≠ t → gl ≠ V') ∧
      ∀ y : Int, ofStep bs (tabTo bs k) k = tset (tabTo bs k) f j y → OfR w A bs V g ct (k + 1) (wr.setCell ⟨gl, j, none⟩ (.int .i64 y)) := by
  obtain ⟨⟨cs, h1, h2, h3⟩, h4, h5, h6, h7⟩ := H
  obtain ⟨xs, x, e1, e6, e2, e3⟩ := (of_inv hd k hk).tv.cell hf hj
  obtain ⟨gl, cl, hli, hio, hgl, hglz⟩ := h3.inner (f := f) (xs := xs) (by rw [h2]; exact e1) (by omega)
  have c0 := h3.at_ h1 hli
  dsimp only at c0
  rw [e6] at c0
  have hVg : gl ≠ g := by
    rcases VOwn.ne hio h3.1 int_ne with e | e
    · simp [Value.ownBlock] at e
    · simpa [Value.ownBlock] using e
  have n4 : gl ≠ V := VOwn.ne_blk hio h4 (by decide)
  have n5 : gl ≠ w.heap.size := VOwn.ne_blk hio h5 (by decide)
  refine ⟨gl, cl, x, c0, VOwn.at_ hio (iv_length xs) (iv_at e2), VOwn.frozen hio (iv_length xs) j, e3, hgl, hVg, fun hb ht => VOwn.ne_blk hio hb ht, fun y hy => ?_⟩
  refine ⟨⟨_, by rw [List.length_set]; exact h1, ?_, h3.set hli j y⟩, h4.far (p := ⟨gl, j, none⟩) (fun e => n4 e.symm) _, h5.far (p := ⟨gl, j, none⟩) (fun e => n5 e.symm) _, ?_, grown_put h7 (p := ⟨gl, j, none⟩) hgl _⟩
  · rw [ll_set, h2, show tabTo bs (k + 1) = ofStep bs (tabTo bs k) k from rfl, hy, tset_row e1]
  · exact h6.keep (by simp [World.setCell]) fun q hq _ => World.cell?_setCell_other wr ⟨gl, j, none⟩ q _ (fun e => by subst e; dsimp only at hq; omega)
theorem OfR.tab {w wr : World} {A : Option Addr} {bs : List Bk} {V g ct k : Nat} (H : OfR w A bs V g ct k wr) (hd : devB bs = true) (hk : k ≤ 48) : ∃ cs, ll cs = tabTo bs k ∧ tabB (ll cs) = true ∧ TRow wr wr.heap.size (some ⟨g, 0, none⟩) cs := by
  obtain ⟨⟨cs, h1, h2, h3⟩, _⟩ := H
  exact ⟨cs, h2, by rw [h2]; exact (tabB_iff _).2 (of_inv hd k hk).tv, h3.row⟩
theorem tableOf_no (A : Option Addr) (n c : Nat) (bs : List Bk) (w : World) (hl : bs.length = n) (hr : DRow w w.heap.size A bs) (hn : n ≤ 1048576) (hp : ∀ b, b ∈ bs → b.ps.length ≤ 1048576) (hd : devB bs = false) :
    Calls Try.prog 50 #[.slice A n c] w (TabMade [] 0 w) := by
  have HD := Lib.hid (And.intro hl (And.intro hd (And.intro hp (hr.alloc (.cells #[.slice none 0 0] 51)).here)))
  clear hl hr hp hd
  go_enter Try.func50, Try.ntmps50
  go_wp2_with fail
  refine (deviceValid_val HD.out.1 HD.out.2.1 _ HD.out.2.2.2 hn HD.out.2.2.1).mono ?_
  rintro e w1 ⟨rfl, hk⟩
  have hb := (Blk.new w 51 #[.slice none 0 0]).keep hk
  have HG := Lib.hid (grown_trans (grown_alloc (grown_refl w none) (.cells #[.slice none 0 0] 51)) hk)
  have z0 : w1.cell? ⟨w.heap.size, 0, none⟩ = some (.slice none 0 0) := hb.cell 0
  have z1 : w1.frozen? ⟨w.heap.size, 0, none⟩ = false := hb.frozen 0
  clear hb hk
  go_wp2
  exact bodyPost_ret (v := .agg #[.slice none 0 0]) (by simp [results, Try.results50, go_sem, *]) rfl ⟨none, 0, [], rfl, rfl, rfl, town_nil _ _, grown_put HG.out (p := ⟨w.heap.size, 0, none⟩) (Nat.le_refl _) _⟩
set_option maxHeartbeats 2000000 in
theorem tableOf_yes (A : Option Addr) (n c : Nat) (bs : List Bk) (w : World) (hl : bs.length = n) (hr : DRow w w.heap.size A bs) (hd : devB bs = true) :
    Calls Try.prog 50 #[.slice A n c] w (TabMade (tabTo bs (4 * n)) 8 w) := by
  obtain ⟨⟨h1, h12⟩, hall⟩ := dev_parts hd
  have HD := Lib.hid (And.intro hl (And.intro hd (And.intro (fun (b : Bk) (hm : b ∈ bs) => show b.ps.length = 4 from (block_parts (hall b hm)).2.1) (hr.alloc (.cells #[.slice none 0 0] 51)).here)))
  have hr1 := hr.alloc (.cells #[.slice none 0 0] 51)
  have HR := Lib.hid hr1
  have hn12 : n ≤ 12 := by omega
  have hn1 : 1 ≤ n := by omega
  clear hl hr hall hd hr1 h1 h12
  go_enter Try.func50, Try.ntmps50
  go_wp2_with fail
  refine (deviceValid_val HD.out.1 HD.out.2.1 _ HD.out.2.2.2 (by omega) (fun b hm => by have := HD.out.2.2.1 b hm; omega)).mono ?_
  rintro e w1 ⟨rfl, hk1⟩
  go_wp2_with fail
  refine (emptyTable_any w1).mono ?_
  rintro e w2 ⟨At, ct, cs, rfl, hcl, hcs, ho, hk2⟩
  obtain ⟨gt, _, e, hgt, _⟩ := ho.head hcl (by omega)
  injection e with e1 _ e3
  subst e1; subst e3
  have hG1 := grown_trans (grown_alloc (grown_refl w none) (.cells #[.slice none 0 0] 51)) hk1
  have hka : w2.grownBy (w2.alloc (.cells #[.slice (some ⟨gt, 0, none⟩) 8 ct] 51)) none := grown_alloc (grown_refl _ _) _
  have H0 : OfR w A bs w2.heap.size gt ct 0 (w2.alloc (.cells #[.slice (some ⟨gt, 0, none⟩) 8 ct] 51)) :=
    ⟨⟨cs, hcl, hcs, (ho.keep hka).base_le hG1.size⟩, Blk.new w2 _ _, (((Blk.new w 51 #[.slice none 0 0]).keep hk1).keep hk2).keep hka, (((HR.out.kept hk1).kept hk2).kept hka), grown_trans (grown_trans hG1 hk2) hka⟩
  have hgw : w.heap.size ≤ gt := Nat.le_trans hG1.size hgt
  have HS := Lib.hid H0
  clear hk1 hk2 hcl hcs ho hG1 hka H0 hgt
  go_wp2
  go_loopw [4] (fun i wr => ∃ k : Nat, i = .int .i64 k ∧ k ≤ 4 * n ∧ OfR w A bs w2.heap.size gt ct k wr) (fun i _ => 4 * n - (intOf i).toNat)
  case atStart => exact ⟨0, rfl, Nat.zero_le _, HS.out⟩
  case round =>
    clear HS HR
    rename World => wo
    obtain ⟨k, rfl, hk, hR⟩ := hrel
    by_cases hlt : k < 4 * n
    · have hk8 : (k : Int) < (n : Int) * 4 := by omega
      have hk48 : k ≤ 48 := by omega
      obtain ⟨p, hp⟩ := page_some (bs := bs) HD.out.2.2.1 (a := k) (by have := HD.out.1; omega)
      have HX := Lib.hid (And.intro hR (And.intro hp hR.2.2.2.1.here))
      clear hR hp
      go_wp2_with fail
      refine (pageOf_at _ _ _ bs k p wo HD.out.1 HX.out.2.2 HD.out.2.1 HX.out.2.1).mono ?_
      rintro e w3 ⟨rfl, hk3⟩
      obtain ⟨fl, fa, pb, v, d⟩ := p
      dsimp only
      have hR3 := HX.out.1.keep hk3
      cases fl
      · have HZ := Lib.hid ((hR3.keep (grown_alloc (grown_refl _ none) (.cells #[.bool false, .int .i64 fa, .int .i64 pb, .int .i64 v, .int .i64 d] 27))).next (of_old HX.out.2.1 rfl))
        clear hk3 hR3
        go_wp2
        go_roundw
        case rel => exact ⟨k + 1, by go_num, by omega, HZ.out⟩
        case measure => simp [intOf]; omega
      · obtain ⟨f, j, ea, eb, hf8, hj6⟩ := full_in HD.out.2.1 HX.out.2.1 rfl
        dsimp only at ea eb
        subst ea; subst eb
        have hR4 := hR3.keep (grown_alloc (grown_refl _ none) (.cells #[.bool true, .int .i64 (f : Int), .int .i64 (j : Int), .int .i64 v, .int .i64 d] 27))
        have hP4 := Blk.new w3 27 #[.bool true, .int .i64 (f : Int), .int .i64 (j : Int), .int .i64 v, .int .i64 d]
        obtain ⟨cs4, hcs4, hv4, ht4⟩ := hR4.tab HD.out.2.1 hk48
        have b3 : w3.cell? ⟨w2.heap.size, 0, none⟩ = some (.slice (some ⟨gt, 0, none⟩) 8 ct) := hR3.2.1.cell 0
        have l3 := hR3.2.1.lt
        have hnew : ∃ V, newerB bs (tabTo bs k) ⟨true, f, j, v, d⟩ = V ∧ Calls Try.prog 104 #[.slice A n c, .agg #[.slice (some ⟨gt, 0, none⟩) 8 ct], .agg #[.bool true, .int .i64 (f : Int), .int .i64 (j : Int), .int .i64 v, .int .i64 d]] (w3.alloc (.cells #[.bool true, .int .i64 (f : Int), .int .i64 (j : Int), .int .i64 v, .int .i64 d] 27)) (KeptV (.bool V) (w3.alloc (.cells #[.bool true, .int .i64 (f : Int), .int .i64 (j : Int), .int .i64 v, .int .i64 d] 27))) := by
          obtain ⟨xs, x, _, _, _, e3⟩ := (of_inv HD.out.2.1 k hk48).tv.cell hf8 hj6
          have e4 : cellO (ll cs4) f j = some x := by rw [hcs4]; exact e3
          rcases (of_inv HD.out.2.1 k hk48).ent f j x e3 with rfl | ⟨a, q, rfl, _, hq, _⟩
          · exact ⟨true, newer_none rfl rfl e3, isNewer_none A n c bs _ ct cs4 f j v d _ HD.out.1 hR4.2.2.2.1.here HD.out.2.1 ht4 hv4 hf8 hj6 e4⟩
          · exact ⟨_, newer_some rfl rfl e3 hq, isNewer_some A n c bs _ ct cs4 f j v d a q _ HD.out.1 hR4.2.2.2.1.here HD.out.2.1 ht4 hv4 hf8 hj6 e4 hq⟩
        obtain ⟨V, hV, hcall⟩ := hnew
        have HN := Lib.hid (And.intro hV (And.intro hcall (And.intro hR4 hP4)))
        clear hk3 hR3 hR4 hP4 hcs4 hv4 ht4 hV hcall
        go_wp2_with fail
        refine HN.out.2.1.mono ?_
        rintro e w5 ⟨rfl, hk5⟩
        have hR5 := HN.out.2.2.1.keep hk5
        have hP5 := HN.out.2.2.2.keep hk5
        clear b3 l3
        cases V
        · have HZ := Lib.hid (hR5.next (of_less HX.out.2.1 HN.out.1))
          clear hk5 hR5 hP5
          go_wp2
          go_roundw
          case rel => exact ⟨k + 1, by go_num, by omega, HZ.out⟩
          case measure => simp [intOf]; omega
        · have b3 : w5.cell? ⟨w2.heap.size, 0, none⟩ = some (.slice (some ⟨gt, 0, none⟩) 8 ct) := hR5.2.1.cell 0
          obtain ⟨p0, p1, p2, p3, p4⟩ := cells5 hP5
          have hR6 := hR5.keep (grown_drew (grown_refl w5 none))
          obtain ⟨gl, cl, x, c0, c1, c2f, _, hgl, hne, hnb, hput⟩ := hR6.open_ HD.out.2.1 hk48 hf8 hj6
          have hst := of_new (f := f) (j := j) HX.out.2.1 rfl rfl rfl HN.out.1
          have hfin := hput (k : Int) hst
          have n3 : gl ≠ w2.heap.size := hnb hR6.2.1 (by decide)
          have n5 : gl ≠ w3.heap.size := hnb (hP5.drew) (by decide)
          have m3 : w2.heap.size ≠ gl := fun e => n3 e.symm
          have m5 : w3.heap.size ≠ gl := fun e => n5 e.symm
          have mg : gt ≠ gl := fun e => hne e.symm
          have HSS := Lib.hid (And.intro ((hR6.2.1.far (p := ⟨gl, j, none⟩) m3 (.int .i64 (k : Int))).cell 0) (And.intro ((hP5.drew.far (p := ⟨gl, j, none⟩) m5 (.int .i64 (k : Int))).cell 1) (And.intro ((hP5.drew.far (p := ⟨gl, j, none⟩) m5 (.int .i64 (k : Int))).cell 2) ((World.cell?_setCell_other w5.drew ⟨gl, j, none⟩ ⟨gt, f, none⟩ (.int .i64 (k : Int)) (fun e => by injection e with e; omega)).trans c0))))
          have HZ := Lib.hid hfin
          have f0 : decide ((0 : Int) ≤ f) = true := decide_eq_true (by omega)
          have f1 : (f : Int) < 8 := by omega
          have j0 : decide ((0 : Int) ≤ j) = true := decide_eq_true (by omega)
          have j1 : (j : Int) < 6 := by omega
          clear hk5 hR5 hP5 hR6 hst hfin hput hnb
          go_wp2
          refine wp_region_held_drew (S := (fun w' => w'.cell? ⟨w2.heap.size, 0, none⟩ = some (.slice (some ⟨gt, 0, none⟩) 8 ct) ∧ w'.cell? ⟨w3.heap.size, 1, none⟩ = some (.int .i64 (f : Int)) ∧ w'.cell? ⟨w3.heap.size, 2, none⟩ = some (.int .i64 (j : Int)) ∧ w'.cell? ⟨gt, f, none⟩ = some (.slice (some ⟨gl, 0, none⟩) 6 cl))) (by kernel_rfl) ?_ (fun hHeld => ?_)
          · exact ⟨b3, p1, p2, c0⟩
          refine held_yes (i := 0) (d := some 29) (v := ?_) rfl rfl (by kernel_rfl) (by kernel_rfl) (by kernel_rfl) (fun _ _ _ h => h) (by rfl) ?_ (by assumption) ?_
          rotate_left
          · (intro w hSw; (try dsimp only at hSw); go_simp; (first | done | with_reducible rfl))
          try simp only [Act.put, List.setIfInBounds_toArray, List.set_cons_zero, List.set_cons_succ]
          refine held_yes (i := 1) (d := some 30) (v := ?_) rfl rfl (by kernel_rfl) (by kernel_rfl) (by kernel_rfl) (fun _ _ _ h => h) (by rfl) ?_ (by assumption) ?_
          rotate_left
          · (intro w hSw; (try dsimp only at hSw); go_simp; (first | done | with_reducible rfl))
          try simp only [Act.put, List.setIfInBounds_toArray, List.set_cons_zero, List.set_cons_succ]
          refine held_yes (i := 2) (d := some 31) (v := ?_) rfl rfl (by kernel_rfl) (by kernel_rfl) (by kernel_rfl) (fun _ _ _ h => h) (by rfl) ?_ (by assumption) ?_
          rotate_left
          · (intro w hSw; (try dsimp only at hSw); go_simp; (first | done | with_reducible rfl))
          try simp only [Act.put, List.setIfInBounds_toArray, List.set_cons_zero, List.set_cons_succ]
          refine held_yes (i := 3) (d := some 32) (v := ?_) rfl rfl (by kernel_rfl) (by kernel_rfl) (by kernel_rfl) (fun _ _ _ h => h) (by rfl) ?_ (by assumption) ?_
          rotate_left
          · (intro w hSw; (try dsimp only at hSw); go_simp; (first | done | with_reducible rfl))
          try simp only [Act.put, List.setIfInBounds_toArray, List.set_cons_zero, List.set_cons_succ]
          refine held_yes (i := 4) (d := some 33) (v := ?_) rfl rfl (by kernel_rfl) (by kernel_rfl) (by kernel_rfl) (fun _ _ _ h => h) (by rfl) ?_ (by assumption) ?_
          rotate_left
          · (intro w hSw; (try dsimp only at hSw); go_simp; (first | done | with_reducible rfl))
          try simp only [Act.put, List.setIfInBounds_toArray, List.set_cons_zero, List.set_cons_succ]
          refine held_yes (i := 5) (d := some 34) (v := ?_) rfl rfl (by kernel_rfl) (by kernel_rfl) (by kernel_rfl) (fun _ _ _ h => h) (by rfl) ?_ (by assumption) ?_
          rotate_left
          · (intro w hSw; (try dsimp only at hSw); go_simp; (first | done | with_reducible rfl))
          try simp only [Act.put, List.setIfInBounds_toArray, List.set_cons_zero, List.set_cons_succ]
          refine held_yes (i := 6) (d := some 35) (v := ?_) rfl rfl (by kernel_rfl) (by kernel_rfl) (by kernel_rfl) (fun _ _ _ h => h) (by rfl) ?_ (by assumption) ?_
          rotate_left
          · (intro w hSw; (try dsimp only at hSw); go_simp; (first | done | with_reducible rfl))
          try simp only [Act.put, List.setIfInBounds_toArray, List.set_cons_zero, List.set_cons_succ]
          refine held_yes (i := 7) (d := some 36) (v := ?_) rfl rfl (by kernel_rfl) (by kernel_rfl) (by kernel_rfl) (fun _ _ _ h => h) (by rfl) ?_ (by assumption) ?_
          rotate_left
          · (intro w hSw; (try dsimp only at hSw); go_simp; (first | done | with_reducible rfl))
          try simp only [Act.put, List.setIfInBounds_toArray, List.set_cons_zero, List.set_cons_succ]
          refine held_yes (i := 8) (d := some 37) (v := ?_) rfl rfl (by kernel_rfl) (by kernel_rfl) (by kernel_rfl) (fun _ _ _ h => h) (by rfl) ?_ (by assumption) ?_
          rotate_left
          · (intro w hSw; (try dsimp only at hSw); go_simp; (first | done | with_reducible rfl))
          try simp only [Act.put, List.setIfInBounds_toArray, List.set_cons_zero, List.set_cons_succ]
          refine held_yes (i := 9) (d := some 38) (v := ?_) rfl rfl (by kernel_rfl) (by kernel_rfl) (by kernel_rfl) (fun _ _ _ h => h) (by rfl) ?_ (by assumption) ?_
          rotate_left
          · (intro w hSw; (try dsimp only at hSw); go_simp; (first | done | with_reducible rfl))
          try simp only [Act.put, List.setIfInBounds_toArray, List.set_cons_zero, List.set_cons_succ]
          refine wpAnyH_ready (rs := [10]) (by kernel_rfl) (by simp) ?_
          refine AllReadyH.cons rfl (fun K hK => ?_) AllReadyH.nil
          go_simp
          refine hK.out _ _ ?_ (fun hHeld => ?_)
          · exact HSS.out
          clear hK K
          try simp only [Act.put, List.setIfInBounds_toArray, List.set_cons_zero, List.set_cons_succ]
          refine wpAnyH_done (by kernel_rfl) ?_ _
          go_wp2
          go_roundw
          case rel => exact ⟨k + 1, by go_num, by omega, HZ.out⟩
          case measure => simp [intOf]; omega
    · obtain rfl : k = 4 * n := by omega
      have z0 : wo.cell? ⟨w.heap.size, 0, none⟩ = some (.slice none 0 0) := hR.2.2.1.cell 0
      have z1 : wo.frozen? ⟨w.heap.size, 0, none⟩ = false := hR.2.2.1.frozen 0
      have b3 : wo.cell? ⟨w2.heap.size, 0, none⟩ = some (.slice (some ⟨gt, 0, none⟩) 8 ct) := hR.2.1.cell 0
      have e8 : decide (((4 * n : Nat) : Int) < (n : Int) * 4) = false := decide_eq_false (by omega)
      obtain ⟨⟨cs, h1, h2, h3⟩, h4, h5, h6, h7⟩ := hR
      have HZ := Lib.hid (And.intro h1 (And.intro h2 (And.intro (h3.put h5 0 (.slice (some ⟨gt, 0, none⟩) 8 ct)) (grown_put h7 (p := ⟨w.heap.size, 0, none⟩) (Nat.le_refl _) (.slice (some ⟨gt, 0, none⟩) 8 ct)))))
      clear h1 h2 h3 h4 h5 h6 h7
      go_wp2
      exact bodyPost_ret (v := .agg #[.slice (some ⟨gt, 0, none⟩) 8 ct]) (by simp [results, Try.results50, go_sem, *]) rfl ⟨_, _, cs, rfl, HZ.out.1, HZ.out.2.1, HZ.out.2.2.1, HZ.out.2.2.2⟩
end Go.Proofs.Ytpjajmiegopmlaa
