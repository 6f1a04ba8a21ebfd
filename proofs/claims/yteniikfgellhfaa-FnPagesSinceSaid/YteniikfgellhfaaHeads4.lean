/- What the model's functions of chapter 6 answer, further: AppendPage of valid arguments. -/
import Derived.Test.YteniikfgellhfaaHeads3
namespace Go.Proofs.Yteniikfgellhfaa
open Go.ChangeShapes Go.WideShapes Go.ChangeAt Go.RowKit

/-- The boxed heads and page, the cell of the resulting heads, and the device that came in. -/
def AIn (w : World) (A : Option Addr) (bs : List Bk) (a b h x1 x2 x3 x4 : Int) (wr : World) : Prop :=
  Blk wr w.heap.size 77 #[.int .i64 a, .int .i64 b, .int .i64 h] ∧ Blk wr (w.heap.size + 1) 30 #[.bool true, .int .i64 x1, .int .i64 x2, .int .i64 x3, .int .i64 x4] ∧ Blk wr (w.heap.size + 1 + 1) 77 #[.int .i64 0, .int .i64 0, .int .i64 0] ∧ DRow wr w.heap.size A bs ∧ w.grownBy wr none
section
variable {w wr w' : World} {A : Option Addr} {bs : List Bk} {a b h x1 x2 x3 x4 : Int}
theorem AIn.start (hr : DRow w w.heap.size A bs) : AIn w A bs a b h x1 x2 x3 x4 (((w.alloc (.cells #[.int .i64 a, .int .i64 b, .int .i64 h] 77)).alloc (.cells #[.bool true, .int .i64 x1, .int .i64 x2, .int .i64 x3, .int .i64 x4] 30)).alloc (.cells #[.int .i64 0, .int .i64 0, .int .i64 0] 77)) := by
  refine ⟨((Blk.new w _ _).alloc _).alloc _, ?_, ?_, ((hr.alloc _).alloc _).alloc _, grown_alloc (grown_alloc (grown_alloc (grown_refl _ _) _) _) _⟩
  · have H := (Blk.new (w.alloc (.cells #[.int .i64 a, .int .i64 b, .int .i64 h] 77)) 30 #[.bool true, .int .i64 x1, .int .i64 x2, .int .i64 x3, .int .i64 x4]).alloc (.cells #[.int .i64 0, .int .i64 0, .int .i64 0] 77)
    simpa only [size_alloc1] using H
  · have H := Blk.new ((w.alloc (.cells #[.int .i64 a, .int .i64 b, .int .i64 h] 77)).alloc (.cells #[.bool true, .int .i64 x1, .int .i64 x2, .int .i64 x3, .int .i64 x4] 30)) 77 #[.int .i64 0, .int .i64 0, .int .i64 0]
    simpa only [size_alloc1] using H
theorem AIn.keep (H : AIn w A bs a b h x1 x2 x3 x4 wr) (k : wr.grownBy w' none) : AIn w A bs a b h x1 x2 x3 x4 w' := ⟨H.1.keep k, H.2.1.keep k, H.2.2.1.keep k, H.2.2.2.1.kept k, grown_trans H.2.2.2.2 k⟩
theorem AIn.cells (H : AIn w A bs a b h x1 x2 x3 x4 wr) : wr.cell? ⟨w.heap.size, 0, none⟩ = some (.int .i64 a) ∧ wr.cell? ⟨w.heap.size, 1, none⟩ = some (.int .i64 b) ∧ wr.cell? ⟨w.heap.size, 2, none⟩ = some (.int .i64 h) := cells3 H.1
theorem AIn.marks (H : AIn w A bs a b h x1 x2 x3 x4 wr) : wr.frozen? ⟨w.heap.size, 0, none⟩ = false ∧ wr.frozen? ⟨w.heap.size, 1, none⟩ = false ∧ wr.frozen? ⟨w.heap.size, 2, none⟩ = false := frozen3 H.1
/-- Other heads are put into the box. -/
theorem AIn.put (H : AIn w A bs a b h x1 x2 x3 x4 wr) (a1 b1 h1 : Int) :
    AIn w A bs a1 b1 h1 x1 x2 x3 x4 (((wr.setCell ⟨w.heap.size, 0, none⟩ (.int .i64 a1)).setCell ⟨w.heap.size, 1, none⟩ (.int .i64 b1)).setCell ⟨w.heap.size, 2, none⟩ (.int .i64 h1)) := by
  obtain ⟨h1', h2, h3, h4, h5⟩ := H
  have n1 : w.heap.size + 1 ≠ w.heap.size := by omega
  have n2 : w.heap.size + 1 + 1 ≠ w.heap.size := by omega
  have hr : ∀ (W : World), DRow W w.heap.size A bs → ∀ (o : Nat) (u : Value), DRow (W.setCell ⟨w.heap.size, o, none⟩ u) w.heap.size A bs := fun W hd o u =>
    hd.keep (by simp [World.setCell]) fun q hq _ => World.cell?_setCell_other W ⟨w.heap.size, o, none⟩ q u (fun e => by subst e; simp at hq)
  exact ⟨((h1'.put 0 _).put 1 _).put 2 _, ((h2.far n1 _).far n1 _).far n1 _, ((h3.far n2 _).far n2 _).far n2 _, hr _ (hr _ (hr _ h4 _ _) _ _) _ _, grown_put (grown_put (grown_put h5 (Nat.le_refl _) _) (Nat.le_refl _) _) (Nat.le_refl _) _⟩
/-- The result's cell is written. -/
theorem AIn.fin (H : AIn w A bs a b h x1 x2 x3 x4 wr) (u0 u1 u2 : Value) : w.grownBy (((wr.setCell ⟨w.heap.size + 1 + 1, 0, none⟩ u0).setCell ⟨w.heap.size + 1 + 1, 1, none⟩ u1).setCell ⟨w.heap.size + 1 + 1, 2, none⟩ u2) none :=
  grown_put (grown_put (grown_put H.2.2.2.2 (le2 _) _) (le2 _) _) (le2 _) _
end
theorem DOwn.heads {wr : World} {base D : Nat} {A : Option Addr} {n c : Nat} {cs : List Bk} {q : Array Value} (h : DOwn wr base (.slice A n c) cs) (hV : Blk wr D 77 q) (u0 u1 u2 : Value) :
    DOwn (((wr.setCell ⟨D, 0, none⟩ u0).setCell ⟨D, 1, none⟩ u1).setCell ⟨D, 2, none⟩ u2) base (.slice A n c) cs := by
  have h1 : (Value.slice A n c).ownBlock ≠ some D := by
    rcases h.1.2 with ⟨e, _⟩ | ⟨g, cap, cur, e, _, hh, _⟩
    · rw [e]; simp [Value.ownBlock]
    · rw [e]
      simp only [Value.ownBlock, ne_eq, Option.some.injEq]
      rintro rfl
      unfold Blk at hV
      rw [hh] at hV
      injection hV with hV
      injection hV with _ h2
      exact absurd h2 (by decide)
  have any : ∀ (W : World) (q' : Array Value) (o : Nat) (u : Value), DOwn W base (.slice A n c) cs → Blk W D 77 q' → DOwn (W.setCell ⟨D, o, none⟩ u) base (.slice A n c) cs := fun W q' o u hW hB =>
    ⟨World.ownsRow.kept hW.1 (grown_set (g := D) (grown_refl _ _) (.inl rfl) u) (.inr h1), fun b hb => by
      have hb1 := hW.2.1 b hb
      have h2 : b.row.ownBlock ≠ some D := by
        obtain ⟨m, A', c', ps⟩ := b
        rcases A' with _ | ad
        · simp [Bk.row, Value.ownBlock]
        · have h3 : Own W base (.slice (some ad) ps.length c') ps := hb1
          have := h3.apart hB (by decide)
          simpa [Bk.row, Value.ownBlock] using (Ne.symm this)
      exact hb1.to_put h2 u, hW.2.2⟩
  exact any _ _ 2 u2 (any _ _ 1 u1 (any _ _ 0 u0 h hV) (hV.put 0 u0)) ((hV.put 0 u0).put 1 u1)
/-- A device, heads and a number are returned. -/
def AppMade (l : List (Int × List Pg)) (n : Nat) (a b h r : Int) (w : World) (e : Ending) (w' : World) : Prop :=
  ∃ (A : Option Addr) (c : Nat) (cs : List Bk), e = .returned (.tuple #[.slice A n c, .agg #[.int .i64 a, .int .i64 b, .int .i64 h], .int .i64 r]) ∧ cs.length = n ∧ cs.map Bk.is = l ∧ DOwn w' w.heap.size (.slice A n c) cs ∧ w.grownBy w' none
set_option maxHeartbeats 2000000 in
theorem specAppend_head (A : Option Addr) (n c j : Nat) (bs : List Bk) (a b h x1 x2 x3 x4 : Int) (w : World) (hj : j < 3) (hl : bs.length = n) (hr : DRow w w.heap.size A bs) (hv : headsB n a b h = true) (hd0 : devB bs = true) (hpg : pageB true x1 x2 x3 x4 = true) (k : Nat) (m : Int) (Ab : Option Addr) (cb : Nat) (ps ps1 : List Pg) (r0 : Int) (hx : hd a b h j = (k : Int)) (hk : bs[k]? = some ⟨m, Ab, cb, ps⟩) (hr0 : 0 ≤ nextV m ps)
    (hw : WriteIs m ps true x1 x2 x3 x4 m 4 ps1 r0) (hr4 : -1 ≤ r0 ∧ r0 < 4) :
    Calls Try.prog 89 #[.slice A n c, .agg #[.int .i64 a, .int .i64 b, .int .i64 h], .int .i64 j, .agg #[.bool true, .int .i64 x1, .int .i64 x2, .int .i64 x3, .int .i64 x4]] w (AppMade ((bs.map Bk.is).set k (m, ps1)) n a b h (progV k r0) w) := by
  obtain ⟨⟨_, h12⟩, hall⟩ := dev_parts hd0
  have hn12 : n ≤ 12 := by omega
  have hall4 : ∀ b, b ∈ bs → b.ps.length = 4 := fun b hm => (block_parts (hall b hm)).2.1
  have hsm : ∀ b, b ∈ bs → b.ps.length ≤ 1048576 := fun b hm => by have := hall4 b hm; omega
  have hhv : (headsB n a b h && devB bs) = true := by rw [hv, hd0]; rfl
  have HD := Lib.hid (And.intro hhv (And.intro hl (And.intro hsm (And.intro hd0 (And.intro hall4 hpg)))))
  have HF := Lib.hid (AIn.start (a := a) (b := b) (h := h) (x1 := x1) (x2 := x2) (x3 := x3) (x4 := x4) hr)
  have HJ := Lib.hid (show inB (j : Int) 0 2 = true from inB_iff.2 ⟨by omega, by omega⟩)
  have HI := Lib.hid (And.intro hj hall)
  have hkn : k < n := by have := (List.getElem?_eq_some_iff.1 hk).1; omega
  have hkn3 : (k : Int) < n := by omega
  have HX := Lib.hid hx
  have HK := Lib.hid (And.intro hk (And.intro hw hr4))
  obtain ⟨nx, hnx⟩ : ∃ nx, nextV m ps = nx := ⟨_, rfl⟩
  rw [hnx] at hr0
  have HN := Lib.hid hnx
  have tn : decide (nx < 0) = false := decide_eq_false (by omega)
  clear hx hk hw hr4 hnx
  clear hl hr hv hd0 hpg hall hall4 hsm hhv h12 hj
  go_enter Try.func89, Try.ntmps89
  obtain ⟨h0, h1, h2⟩ := HF.out.cells
  go_wp2_with fail
  refine (specHeads_val HD.out.1 HD.out.2.1 HF.out.2.2.2.1.here (by omega) HD.out.2.2.1).mono ?_
  rintro e w1 ⟨rfl, hk⟩
  replace HF := Lib.hid (HF.out.keep hk)
  clear hk h0 h1 h2
  obtain ⟨p0, p1, p2, p3, p4⟩ := cells5 HF.out.2.1
  go_wp2_with (first | (go_at_call 95; refine (in_any _ _ _ _).mono ?_; rintro e w' ⟨rfl, rfl⟩; rw [HJ.out]) | fail)
  refine (specValid_val HD.out.2.2.2.2.2 _).mono ?_
  rintro e w2 ⟨rfl, hk⟩
  replace HF := Lib.hid (HF.out.keep hk)
  clear hk p0 p1 p2 p3 p4
  obtain ⟨p0, p1, p2, p3, p4⟩ := cells5 HF.out.2.1
  obtain ⟨h0, h1, h2⟩ := HF.out.cells
  go_wp2_with fail
  clear p0 p1 p2 p3 p4 h0 h1 h2
  refine (specHeadOf_ok _ _ _ _ _ _ _ _ _ HI.out.1 HD.out.1 HD.out.2.1 HF.out.2.2.2.1.here (by omega) HD.out.2.2.1).mono ?_
  rintro e w3 ⟨rfl, hk⟩
  replace HF := Lib.hid (HF.out.keep hk)
  clear hk
  rw [HX.out]
  obtain ⟨g, off, m', Ab', cb', ps', rfl, _, _, hb', c0, c1, hrow⟩ := HF.out.2.2.2.1.at_ (show k < bs.length by have := HD.out.2.1; omega)
  rw [HK.out.1] at hb'
  injection hb' with hb'
  injection hb' with e5 e6 e7 e8
  subst e5; subst e6; subst e7; subst e8
  have HRW := Lib.hid hrow
  clear hrow
  go_wp2_with fail
  refine (specNext_val rfl HN.out _ HRW.out.here (by have := HD.out.2.2.1 _ (List.mem_of_getElem? HK.out.1); exact this)).mono ?_
  rintro e w4 ⟨rfl, hk⟩
  replace HF := Lib.hid (HF.out.keep hk)
  clear hk c0 c1 HRW
  obtain ⟨p0, p1, p2, p3, p4⟩ := cells5 HF.out.2.1
  go_wp2_with fail
  clear p0 p1 p2 p3 p4
  have hgs := HF.out.2.2.2.2.size
  refine (specProgram_at _ _ _ _ _ _ _ _ _ _ _ _ _ _ _ _ HD.out.2.1 HF.out.2.2.2.1.here HD.out.2.2.2.1 HK.out.1 HD.out.2.2.2.2.2 HK.out.2.1 HK.out.2.2).mono ?_
  rintro e w5 ⟨A5, c5, cs, rfl, hcl, hcs, ho5, hk⟩
  have HS := Lib.hid (And.intro hcl hcs)
  have HO := Lib.hid (ho5.base_le hgs)
  replace HF := Lib.hid (HF.out.keep hk)
  clear hcl hcs ho5 hk hgs
  obtain ⟨z0, z1, z2⟩ := HF.out.cells
  obtain ⟨d0, d1, d2⟩ := cells3 HF.out.2.2.1
  obtain ⟨f0, f1, f2⟩ := frozen3 HF.out.2.2.1
  have na : w.heap.size ≠ w.heap.size + 1 + 1 := by omega
  have nb : w.heap.size + 1 + 1 ≠ w.heap.size := by omega
  go_wp2_with fail
  refine wp_region_held_drew (S := (fun w' => w'.cell? ⟨w.heap.size, 0, none⟩ = some (.int .i64 a) ∧ w'.cell? ⟨w.heap.size, 1, none⟩ = some (.int .i64 b) ∧ w'.cell? ⟨w.heap.size, 2, none⟩ = some (.int .i64 h))) (by kernel_rfl) ?_ (fun hHeld => ?_)
  · exact ⟨z0, z1, z2⟩
  have hdr := grown_drew (grown_refl w5 none)
  replace HF := Lib.hid (HF.out.keep hdr)
  replace HO := Lib.hid (HO.out.keep hdr)
  clear hdr
  refine heldY 0 68 ?_
  refine heldY 1 69 ?_
  refine heldY 2 70 ?_
  refine wpAnyH_ready (rs := [3]) (by kernel_rfl) (by simp) ?_
  refine AllReadyH.cons rfl (fun K hK => ?_) AllReadyH.nil
  go_simp
  refine hK.out _ _ ?_ (fun hHeld => ?_)
  · first | assumption | go_keep
  clear hK K
  try simp only [Act.put, List.setIfInBounds_toArray, List.set_cons_zero, List.set_cons_succ]
  refine wpAnyH_ready (rs := [4]) (by kernel_rfl) (by simp) ?_
  refine AllReadyH.cons rfl (fun K hK => ?_) AllReadyH.nil
  go_simp
  refine hK.out _ _ ?_ (fun hHeld => ?_)
  · first | assumption | go_keep
  clear hK K
  try simp only [Act.put, List.setIfInBounds_toArray, List.set_cons_zero, List.set_cons_succ]
  refine wpAnyH_ready (rs := [5]) (by kernel_rfl) (by simp) ?_
  refine AllReadyH.cons rfl (fun K hK => ?_) AllReadyH.nil
  go_simp
  refine hK.out _ _ ?_ (fun hHeld => ?_)
  · first | assumption | go_keep
  clear hK K
  try simp only [Act.put, List.setIfInBounds_toArray, List.set_cons_zero, List.set_cons_succ]
  refine wpAnyH_done (by kernel_rfl) ?_ _
  go_wp2
  exact bodyPost_ret (v := .tuple #[.slice A5 n c5, .agg #[.int .i64 a, .int .i64 b, .int .i64 h], .int .i64 (progV k r0)]) (by simp [results, Try.results89, go_sem, *]) rfl
    ⟨_, _, cs, rfl, HS.out.1, HS.out.2, HO.out.heads HF.out.2.2.1 _ _ _, HF.out.fin _ _ _⟩
set_option maxHeartbeats 4000000 in
theorem specAppend_fresh (A : Option Addr) (n c j : Nat) (bs : List Bk) (a b h x1 x2 x3 x4 : Int) (w : World) (hj : j < 3) (hl : bs.length = n) (hr : DRow w w.heap.size A bs) (hv : headsB n a b h = true) (hd0 : devB bs = true) (hpg : pageB true x1 x2 x3 x4 = true) (hf : hd a b h j = -1 ∨ ∃ (i : Nat) (q : Bk), hd a b h j = (i : Int) ∧ bs[i]? = some q ∧ nextV q.m q.ps = -1) (k : Nat) (m : Int) (Ab : Option Addr) (cb : Nat) (ps ps1 : List Pg) (r0 a1 b1 h1 : Int) (hy : freshV bs a b h = (k : Int)) (hk : bs[k]? = some ⟨m, Ab, cb, ps⟩)
    (hw : WriteIs m ps true x1 x2 x3 x4 m 4 ps1 r0) (hr4 : -1 ≤ r0 ∧ r0 < 4) (hs : hset a b h j k = (a1, b1, h1)) :
    Calls Try.prog 89 #[.slice A n c, .agg #[.int .i64 a, .int .i64 b, .int .i64 h], .int .i64 j, .agg #[.bool true, .int .i64 x1, .int .i64 x2, .int .i64 x3, .int .i64 x4]] w (AppMade ((bs.map Bk.is).set k (m, ps1)) n a1 b1 h1 (progV k r0) w) := by
  obtain ⟨⟨_, h12⟩, hall⟩ := dev_parts hd0
  have hn12 : n ≤ 12 := by omega
  have hall4 : ∀ b, b ∈ bs → b.ps.length = 4 := fun b hm => (block_parts (hall b hm)).2.1
  have hsm : ∀ b, b ∈ bs → b.ps.length ≤ 1048576 := fun b hm => by have := hall4 b hm; omega
  have hhv : (headsB n a b h && devB bs) = true := by rw [hv, hd0]; rfl
  have HD := Lib.hid (And.intro hhv (And.intro hl (And.intro hsm (And.intro hd0 (And.intro hall4 hpg)))))
  have HF := Lib.hid (AIn.start (a := a) (b := b) (h := h) (x1 := x1) (x2 := x2) (x3 := x3) (x4 := x4) hr)
  have HJ := Lib.hid (show inB (j : Int) 0 2 = true from inB_iff.2 ⟨by omega, by omega⟩)
  have HI := Lib.hid (And.intro hj hall)
  have hkn : k < n := by have := (List.getElem?_eq_some_iff.1 hk).1; omega
  have hkn3 : (k : Int) < n := by omega
  have HK := Lib.hid (And.intro hk (And.intro hw hr4))
  have HY := Lib.hid (And.intro hy hs)
  clear hk hw hr4 hy hs
  rcases hf with hx | ⟨i, ⟨mq, Aq, cq, pq⟩, hx, hqi, hqn⟩
  · have HX := Lib.hid hx
    clear hx
    clear hl hr hv hd0 hpg hall hall4 hsm hhv h12 hj
    go_enter Try.func89, Try.ntmps89
    obtain ⟨h0, h1, h2⟩ := HF.out.cells
    go_wp2_with fail
    refine (specHeads_val HD.out.1 HD.out.2.1 HF.out.2.2.2.1.here (by omega) HD.out.2.2.1).mono ?_
    rintro e w1 ⟨rfl, hk⟩
    replace HF := Lib.hid (HF.out.keep hk)
    clear hk h0 h1 h2
    obtain ⟨p0, p1, p2, p3, p4⟩ := cells5 HF.out.2.1
    go_wp2_with (first | (go_at_call 95; refine (in_any _ _ _ _).mono ?_; rintro e w' ⟨rfl, rfl⟩; rw [HJ.out]) | fail)
    refine (specValid_val HD.out.2.2.2.2.2 _).mono ?_
    rintro e w2 ⟨rfl, hk⟩
    replace HF := Lib.hid (HF.out.keep hk)
    clear hk p0 p1 p2 p3 p4
    obtain ⟨p0, p1, p2, p3, p4⟩ := cells5 HF.out.2.1
    obtain ⟨h0, h1, h2⟩ := HF.out.cells
    go_wp2_with fail
    clear p0 p1 p2 p3 p4 h0 h1 h2
    refine (specHeadOf_ok _ _ _ _ _ _ _ _ _ HI.out.1 HD.out.1 HD.out.2.1 HF.out.2.2.2.1.here (by omega) HD.out.2.2.1).mono ?_
    rintro e w3 ⟨rfl, hk⟩
    replace HF := Lib.hid (HF.out.keep hk)
    clear hk
    rw [HX.out]
    obtain ⟨h0, h1', h2⟩ := HF.out.cells
    go_wp2_with fail
    clear h0 h1' h2
    refine (specFresh_yes _ _ _ _ _ _ _ _ HD.out.1 HD.out.2.1 HF.out.2.2.2.1.here (by omega) HD.out.2.2.1).mono ?_
    rintro e wf ⟨rfl, hk⟩
    replace HF := Lib.hid (HF.out.keep hk)
    clear hk
    rw [HY.out.1]
    obtain ⟨h0, h1', h2⟩ := HF.out.cells
    go_wp2_with fail
    clear h0 h1' h2
    refine (specSet_any _ _ _ _ _ _ _ _ _ HI.out.1 HY.out.2).mono ?_
    rintro e ws ⟨rfl, hk⟩
    replace HF := Lib.hid (HF.out.keep hk)
    clear hk
    obtain ⟨h0, h1', h2⟩ := HF.out.cells
    obtain ⟨q0, q1, q2⟩ := HF.out.marks
    replace HF := Lib.hid (HF.out.put a1 b1 h1)
    obtain ⟨p0, p1, p2, p3, p4⟩ := cells5 HF.out.2.1
    go_wp2_with fail
    clear h0 h1' h2 q0 q1 q2
    clear p0 p1 p2 p3 p4
    have hgs := HF.out.2.2.2.2.size
    refine (specProgram_at _ _ _ _ _ _ _ _ _ _ _ _ _ _ _ _ HD.out.2.1 HF.out.2.2.2.1.here HD.out.2.2.2.1 HK.out.1 HD.out.2.2.2.2.2 HK.out.2.1 HK.out.2.2).mono ?_
    rintro e w5 ⟨A5, c5, cs, rfl, hcl, hcs, ho5, hk⟩
    have HS := Lib.hid (And.intro hcl hcs)
    have HO := Lib.hid (ho5.base_le hgs)
    replace HF := Lib.hid (HF.out.keep hk)
    clear hcl hcs ho5 hk hgs
    obtain ⟨z0, z1, z2⟩ := HF.out.cells
    obtain ⟨d0, d1, d2⟩ := cells3 HF.out.2.2.1
    obtain ⟨f0, f1, f2⟩ := frozen3 HF.out.2.2.1
    have na : w.heap.size ≠ w.heap.size + 1 + 1 := by omega
    have nb : w.heap.size + 1 + 1 ≠ w.heap.size := by omega
    go_wp2_with fail
    refine wp_region_held_drew (S := (fun w' => w'.cell? ⟨w.heap.size, 0, none⟩ = some (.int .i64 a1) ∧ w'.cell? ⟨w.heap.size, 1, none⟩ = some (.int .i64 b1) ∧ w'.cell? ⟨w.heap.size, 2, none⟩ = some (.int .i64 h1))) (by kernel_rfl) ?_ (fun hHeld => ?_)
    · exact ⟨z0, z1, z2⟩
    have hdr := grown_drew (grown_refl w5 none)
    replace HF := Lib.hid (HF.out.keep hdr)
    replace HO := Lib.hid (HO.out.keep hdr)
    clear hdr
    refine heldY 0 68 ?_
    refine heldY 1 69 ?_
    refine heldY 2 70 ?_
    refine wpAnyH_ready (rs := [3]) (by kernel_rfl) (by simp) ?_
    refine AllReadyH.cons rfl (fun K hK => ?_) AllReadyH.nil
    go_simp
    refine hK.out _ _ ?_ (fun hHeld => ?_)
    · first | assumption | go_keep
    clear hK K
    try simp only [Act.put, List.setIfInBounds_toArray, List.set_cons_zero, List.set_cons_succ]
    refine wpAnyH_ready (rs := [4]) (by kernel_rfl) (by simp) ?_
    refine AllReadyH.cons rfl (fun K hK => ?_) AllReadyH.nil
    go_simp
    refine hK.out _ _ ?_ (fun hHeld => ?_)
    · first | assumption | go_keep
    clear hK K
    try simp only [Act.put, List.setIfInBounds_toArray, List.set_cons_zero, List.set_cons_succ]
    refine wpAnyH_ready (rs := [5]) (by kernel_rfl) (by simp) ?_
    refine AllReadyH.cons rfl (fun K hK => ?_) AllReadyH.nil
    go_simp
    refine hK.out _ _ ?_ (fun hHeld => ?_)
    · first | assumption | go_keep
    clear hK K
    try simp only [Act.put, List.setIfInBounds_toArray, List.set_cons_zero, List.set_cons_succ]
    refine wpAnyH_done (by kernel_rfl) ?_ _
    go_wp2
    exact bodyPost_ret (v := .tuple #[.slice A5 n c5, .agg #[.int .i64 a1, .int .i64 b1, .int .i64 h1], .int .i64 (progV k r0)]) (by simp [results, Try.results89, go_sem, *]) rfl
      ⟨_, _, cs, rfl, HS.out.1, HS.out.2, HO.out.heads HF.out.2.2.1 _ _ _, HF.out.fin _ _ _⟩
  · have HX := Lib.hid hx
    have HQ := Lib.hid (And.intro hqi hqn)
    have hin : i < n := by have := (List.getElem?_eq_some_iff.1 hqi).1; omega
    have hin3 : (i : Int) < n := by omega
    clear hx hqi hqn
    clear hl hr hv hd0 hpg hall hall4 hsm hhv h12 hj
    go_enter Try.func89, Try.ntmps89
    obtain ⟨h0, h1, h2⟩ := HF.out.cells
    go_wp2_with fail
    refine (specHeads_val HD.out.1 HD.out.2.1 HF.out.2.2.2.1.here (by omega) HD.out.2.2.1).mono ?_
    rintro e w1 ⟨rfl, hk⟩
    replace HF := Lib.hid (HF.out.keep hk)
    clear hk h0 h1 h2
    obtain ⟨p0, p1, p2, p3, p4⟩ := cells5 HF.out.2.1
    go_wp2_with (first | (go_at_call 95; refine (in_any _ _ _ _).mono ?_; rintro e w' ⟨rfl, rfl⟩; rw [HJ.out]) | fail)
    refine (specValid_val HD.out.2.2.2.2.2 _).mono ?_
    rintro e w2 ⟨rfl, hk⟩
    replace HF := Lib.hid (HF.out.keep hk)
    clear hk p0 p1 p2 p3 p4
    obtain ⟨p0, p1, p2, p3, p4⟩ := cells5 HF.out.2.1
    obtain ⟨h0, h1, h2⟩ := HF.out.cells
    go_wp2_with fail
    clear p0 p1 p2 p3 p4 h0 h1 h2
    refine (specHeadOf_ok _ _ _ _ _ _ _ _ _ HI.out.1 HD.out.1 HD.out.2.1 HF.out.2.2.2.1.here (by omega) HD.out.2.2.1).mono ?_
    rintro e w3 ⟨rfl, hk⟩
    replace HF := Lib.hid (HF.out.keep hk)
    clear hk
    rw [HX.out]
    obtain ⟨g, off, m', Ab', cb', ps', rfl, _, _, hb', c0, c1, hrow⟩ := HF.out.2.2.2.1.at_ (show i < bs.length by have := HD.out.2.1; omega)
    rw [HQ.out.1] at hb'
    injection hb' with hb'
    injection hb' with e5 e6 e7 e8
    subst e5; subst e6; subst e7; subst e8
    have HRW := Lib.hid hrow
    clear hrow
    go_wp2_with fail
    refine (specNext_val rfl HQ.out.2 _ HRW.out.here (by have := HD.out.2.2.1 _ (List.mem_of_getElem? HQ.out.1); exact this)).mono ?_
    rintro e w4 ⟨rfl, hk⟩
    replace HF := Lib.hid (HF.out.keep hk)
    clear hk c0 c1 HRW
    obtain ⟨h0, h1', h2⟩ := HF.out.cells
    go_wp2_with fail
    clear h0 h1' h2
    refine (specFresh_yes _ _ _ _ _ _ _ _ HD.out.1 HD.out.2.1 HF.out.2.2.2.1.here (by omega) HD.out.2.2.1).mono ?_
    rintro e wf ⟨rfl, hk⟩
    replace HF := Lib.hid (HF.out.keep hk)
    clear hk
    rw [HY.out.1]
    obtain ⟨h0, h1', h2⟩ := HF.out.cells
    go_wp2_with fail
    clear h0 h1' h2
    refine (specSet_any _ _ _ _ _ _ _ _ _ HI.out.1 HY.out.2).mono ?_
    rintro e ws ⟨rfl, hk⟩
    replace HF := Lib.hid (HF.out.keep hk)
    clear hk
    obtain ⟨h0, h1', h2⟩ := HF.out.cells
    obtain ⟨q0, q1, q2⟩ := HF.out.marks
    replace HF := Lib.hid (HF.out.put a1 b1 h1)
    obtain ⟨p0, p1, p2, p3, p4⟩ := cells5 HF.out.2.1
    go_wp2_with fail
    clear h0 h1' h2 q0 q1 q2
    clear p0 p1 p2 p3 p4
    have hgs := HF.out.2.2.2.2.size
    refine (specProgram_at _ _ _ _ _ _ _ _ _ _ _ _ _ _ _ _ HD.out.2.1 HF.out.2.2.2.1.here HD.out.2.2.2.1 HK.out.1 HD.out.2.2.2.2.2 HK.out.2.1 HK.out.2.2).mono ?_
    rintro e w5 ⟨A5, c5, cs, rfl, hcl, hcs, ho5, hk⟩
    have HS := Lib.hid (And.intro hcl hcs)
    have HO := Lib.hid (ho5.base_le hgs)
    replace HF := Lib.hid (HF.out.keep hk)
    clear hcl hcs ho5 hk hgs
    obtain ⟨z0, z1, z2⟩ := HF.out.cells
    obtain ⟨d0, d1, d2⟩ := cells3 HF.out.2.2.1
    obtain ⟨f0, f1, f2⟩ := frozen3 HF.out.2.2.1
    have na : w.heap.size ≠ w.heap.size + 1 + 1 := by omega
    have nb : w.heap.size + 1 + 1 ≠ w.heap.size := by omega
    go_wp2_with fail
    refine wp_region_held_drew (S := (fun w' => w'.cell? ⟨w.heap.size, 0, none⟩ = some (.int .i64 a1) ∧ w'.cell? ⟨w.heap.size, 1, none⟩ = some (.int .i64 b1) ∧ w'.cell? ⟨w.heap.size, 2, none⟩ = some (.int .i64 h1))) (by kernel_rfl) ?_ (fun hHeld => ?_)
    · exact ⟨z0, z1, z2⟩
    have hdr := grown_drew (grown_refl w5 none)
    replace HF := Lib.hid (HF.out.keep hdr)
    replace HO := Lib.hid (HO.out.keep hdr)
    clear hdr
    refine heldY 0 68 ?_
    refine heldY 1 69 ?_
    refine heldY 2 70 ?_
    refine wpAnyH_ready (rs := [3]) (by kernel_rfl) (by simp) ?_
    refine AllReadyH.cons rfl (fun K hK => ?_) AllReadyH.nil
    go_simp
    refine hK.out _ _ ?_ (fun hHeld => ?_)
    · first | assumption | go_keep
    clear hK K
    try simp only [Act.put, List.setIfInBounds_toArray, List.set_cons_zero, List.set_cons_succ]
    refine wpAnyH_ready (rs := [4]) (by kernel_rfl) (by simp) ?_
    refine AllReadyH.cons rfl (fun K hK => ?_) AllReadyH.nil
    go_simp
    refine hK.out _ _ ?_ (fun hHeld => ?_)
    · first | assumption | go_keep
    clear hK K
    try simp only [Act.put, List.setIfInBounds_toArray, List.set_cons_zero, List.set_cons_succ]
    refine wpAnyH_ready (rs := [5]) (by kernel_rfl) (by simp) ?_
    refine AllReadyH.cons rfl (fun K hK => ?_) AllReadyH.nil
    go_simp
    refine hK.out _ _ ?_ (fun hHeld => ?_)
    · first | assumption | go_keep
    clear hK K
    try simp only [Act.put, List.setIfInBounds_toArray, List.set_cons_zero, List.set_cons_succ]
    refine wpAnyH_done (by kernel_rfl) ?_ _
    go_wp2
    exact bodyPost_ret (v := .tuple #[.slice A5 n c5, .agg #[.int .i64 a1, .int .i64 b1, .int .i64 h1], .int .i64 (progV k r0)]) (by simp [results, Try.results89, go_sem, *]) rfl
      ⟨_, _, cs, rfl, HS.out.1, HS.out.2, HO.out.heads HF.out.2.2.1 _ _ _, HF.out.fin _ _ _⟩
set_option maxHeartbeats 4000000 in
theorem specAppend_none (A : Option Addr) (n c j : Nat) (bs : List Bk) (a b h x1 x2 x3 x4 : Int) (w : World) (hj : j < 3) (hl : bs.length = n) (hr : DRow w w.heap.size A bs) (hv : headsB n a b h = true) (hd0 : devB bs = true) (hpg : pageB true x1 x2 x3 x4 = true) (hf : hd a b h j = -1 ∨ ∃ (i : Nat) (q : Bk), hd a b h j = (i : Int) ∧ bs[i]? = some q ∧ nextV q.m q.ps = -1) (hy : freshV bs a b h = -1) :
    Calls Try.prog 89 #[.slice A n c, .agg #[.int .i64 a, .int .i64 b, .int .i64 h], .int .i64 j, .agg #[.bool true, .int .i64 x1, .int .i64 x2, .int .i64 x3, .int .i64 x4]] w (AppMade (bs.map Bk.is) n a b h (-1) w) := by
  obtain ⟨⟨_, h12⟩, hall⟩ := dev_parts hd0
  have hn12 : n ≤ 12 := by omega
  have hall4 : ∀ b, b ∈ bs → b.ps.length = 4 := fun b hm => (block_parts (hall b hm)).2.1
  have hsm : ∀ b, b ∈ bs → b.ps.length ≤ 1048576 := fun b hm => by have := hall4 b hm; omega
  have hhv : (headsB n a b h && devB bs) = true := by rw [hv, hd0]; rfl
  have HD := Lib.hid (And.intro hhv (And.intro hl (And.intro hsm (And.intro hd0 (And.intro hall4 hpg)))))
  have HF := Lib.hid (AIn.start (a := a) (b := b) (h := h) (x1 := x1) (x2 := x2) (x3 := x3) (x4 := x4) hr)
  have HJ := Lib.hid (show inB (j : Int) 0 2 = true from inB_iff.2 ⟨by omega, by omega⟩)
  have HI := Lib.hid (And.intro hj hall)
  have HY := Lib.hid (And.intro hy trivial)
  clear hy
  rcases hf with hx | ⟨i, ⟨mq, Aq, cq, pq⟩, hx, hqi, hqn⟩
  · have HX := Lib.hid hx
    clear hx
    clear hl hr hv hd0 hpg hall hall4 hsm hhv h12 hj
    go_enter Try.func89, Try.ntmps89
    obtain ⟨h0, h1, h2⟩ := HF.out.cells
    go_wp2_with fail
    refine (specHeads_val HD.out.1 HD.out.2.1 HF.out.2.2.2.1.here (by omega) HD.out.2.2.1).mono ?_
    rintro e w1 ⟨rfl, hk⟩
    replace HF := Lib.hid (HF.out.keep hk)
    clear hk h0 h1 h2
    obtain ⟨p0, p1, p2, p3, p4⟩ := cells5 HF.out.2.1
    go_wp2_with (first | (go_at_call 95; refine (in_any _ _ _ _).mono ?_; rintro e w' ⟨rfl, rfl⟩; rw [HJ.out]) | fail)
    refine (specValid_val HD.out.2.2.2.2.2 _).mono ?_
    rintro e w2 ⟨rfl, hk⟩
    replace HF := Lib.hid (HF.out.keep hk)
    clear hk p0 p1 p2 p3 p4
    obtain ⟨p0, p1, p2, p3, p4⟩ := cells5 HF.out.2.1
    obtain ⟨h0, h1, h2⟩ := HF.out.cells
    go_wp2_with fail
    clear p0 p1 p2 p3 p4 h0 h1 h2
    refine (specHeadOf_ok _ _ _ _ _ _ _ _ _ HI.out.1 HD.out.1 HD.out.2.1 HF.out.2.2.2.1.here (by omega) HD.out.2.2.1).mono ?_
    rintro e w3 ⟨rfl, hk⟩
    replace HF := Lib.hid (HF.out.keep hk)
    clear hk
    rw [HX.out]
    obtain ⟨h0, h1, h2⟩ := HF.out.cells
    go_wp2_with fail
    clear h0 h1 h2
    refine (specFresh_yes _ _ _ _ _ _ _ _ HD.out.1 HD.out.2.1 HF.out.2.2.2.1.here (by omega) HD.out.2.2.1).mono ?_
    rintro e wf ⟨rfl, hk⟩
    replace HF := Lib.hid (HF.out.keep hk)
    clear hk
    rw [HY.out.1]
    obtain ⟨z0, z1, z2⟩ := HF.out.cells
    go_wp2_with fail
    refine wp_region_held_drew (S := (fun w' => w'.cell? ⟨w.heap.size, 0, none⟩ = some (.int .i64 a) ∧ w'.cell? ⟨w.heap.size, 1, none⟩ = some (.int .i64 b) ∧ w'.cell? ⟨w.heap.size, 2, none⟩ = some (.int .i64 h))) (by kernel_rfl) ?_ (fun hHeld => ?_)
    · exact ⟨z0, z1, z2⟩
    replace HF := Lib.hid (HF.out.keep (grown_drew (grown_refl _ none)))
    clear z0 z1 z2
    obtain ⟨z0, z1, z2⟩ := HF.out.cells
    refine heldY 0 54 ?_
    refine heldY 2 56 ?_
    refine wpAnyH_ready (rs := [1]) (by kernel_rfl) (by simp) ?_
    refine AllReadyH.cons rfl (fun K hK => ?_) AllReadyH.nil
    go_simp
    go_at_call 116
    have hgs := HF.out.2.2.2.2.size
    refine (specCopyDev_any _ _ _ _ _ HD.out.2.1 HF.out.2.2.2.1.here (by omega) HD.out.2.2.2.2.1).mono ?_
    rintro e w5 ⟨A5, c5, cs, rfl, hcl, hcs, ho5, hk⟩
    have HS := Lib.hid (And.intro hcl hcs)
    have HO := Lib.hid (ho5.base_le hgs)
    replace HF := Lib.hid (HF.out.keep hk)
    clear hcl hcs ho5 hk hgs z0 z1 z2
    obtain ⟨z0, z1, z2⟩ := HF.out.cells
    refine hK.out _ _ ?_ (fun hHeld => ?_)
    · exact ⟨z0, z1, z2⟩
    clear hK K
    try simp only [Act.put, List.setIfInBounds_toArray, List.set_cons_zero, List.set_cons_succ]
    obtain ⟨d0, d1, d2⟩ := cells3 HF.out.2.2.1
    obtain ⟨f0, f1, f2⟩ := frozen3 HF.out.2.2.1
    have na : w.heap.size ≠ w.heap.size + 1 + 1 := by omega
    have nb : w.heap.size + 1 + 1 ≠ w.heap.size := by omega
    refine wpAnyH_ready (rs := [3]) (by kernel_rfl) (by simp) ?_
    refine AllReadyH.cons rfl (fun K hK => ?_) AllReadyH.nil
    go_simp
    refine hK.out _ _ ?_ (fun hHeld => ?_)
    · first | assumption | go_keep
    clear hK K
    try simp only [Act.put, List.setIfInBounds_toArray, List.set_cons_zero, List.set_cons_succ]
    refine wpAnyH_ready (rs := [4]) (by kernel_rfl) (by simp) ?_
    refine AllReadyH.cons rfl (fun K hK => ?_) AllReadyH.nil
    go_simp
    refine hK.out _ _ ?_ (fun hHeld => ?_)
    · first | assumption | go_keep
    clear hK K
    try simp only [Act.put, List.setIfInBounds_toArray, List.set_cons_zero, List.set_cons_succ]
    refine wpAnyH_ready (rs := [5]) (by kernel_rfl) (by simp) ?_
    refine AllReadyH.cons rfl (fun K hK => ?_) AllReadyH.nil
    go_simp
    refine hK.out _ _ ?_ (fun hHeld => ?_)
    · first | assumption | go_keep
    clear hK K
    try simp only [Act.put, List.setIfInBounds_toArray, List.set_cons_zero, List.set_cons_succ]
    refine wpAnyH_done (by kernel_rfl) ?_ _
    go_wp2
    exact bodyPost_ret (v := .tuple #[.slice A5 n c5, .agg #[.int .i64 a, .int .i64 b, .int .i64 h], .int .i64 (-1)]) (by simp [results, Try.results89, go_sem, *]) rfl
      ⟨_, _, cs, rfl, HS.out.1, HS.out.2, HO.out.heads HF.out.2.2.1 _ _ _, HF.out.fin _ _ _⟩
  · have HX := Lib.hid hx
    have HQ := Lib.hid (And.intro hqi hqn)
    have hin : i < n := by have := (List.getElem?_eq_some_iff.1 hqi).1; omega
    have hin3 : (i : Int) < n := by omega
    clear hx hqi hqn
    clear hl hr hv hd0 hpg hall hall4 hsm hhv h12 hj
    go_enter Try.func89, Try.ntmps89
    obtain ⟨h0, h1, h2⟩ := HF.out.cells
    go_wp2_with fail
    refine (specHeads_val HD.out.1 HD.out.2.1 HF.out.2.2.2.1.here (by omega) HD.out.2.2.1).mono ?_
    rintro e w1 ⟨rfl, hk⟩
    replace HF := Lib.hid (HF.out.keep hk)
    clear hk h0 h1 h2
    obtain ⟨p0, p1, p2, p3, p4⟩ := cells5 HF.out.2.1
    go_wp2_with (first | (go_at_call 95; refine (in_any _ _ _ _).mono ?_; rintro e w' ⟨rfl, rfl⟩; rw [HJ.out]) | fail)
    refine (specValid_val HD.out.2.2.2.2.2 _).mono ?_
    rintro e w2 ⟨rfl, hk⟩
    replace HF := Lib.hid (HF.out.keep hk)
    clear hk p0 p1 p2 p3 p4
    obtain ⟨p0, p1, p2, p3, p4⟩ := cells5 HF.out.2.1
    obtain ⟨h0, h1, h2⟩ := HF.out.cells
    go_wp2_with fail
    clear p0 p1 p2 p3 p4 h0 h1 h2
    refine (specHeadOf_ok _ _ _ _ _ _ _ _ _ HI.out.1 HD.out.1 HD.out.2.1 HF.out.2.2.2.1.here (by omega) HD.out.2.2.1).mono ?_
    rintro e w3 ⟨rfl, hk⟩
    replace HF := Lib.hid (HF.out.keep hk)
    clear hk
    rw [HX.out]
    obtain ⟨g, off, m', Ab', cb', ps', rfl, _, _, hb', c0, c1, hrow⟩ := HF.out.2.2.2.1.at_ (show i < bs.length by have := HD.out.2.1; omega)
    rw [HQ.out.1] at hb'
    injection hb' with hb'
    injection hb' with e5 e6 e7 e8
    subst e5; subst e6; subst e7; subst e8
    have HRW := Lib.hid hrow
    clear hrow
    go_wp2_with fail
    refine (specNext_val rfl HQ.out.2 _ HRW.out.here (by have := HD.out.2.2.1 _ (List.mem_of_getElem? HQ.out.1); exact this)).mono ?_
    rintro e w4 ⟨rfl, hk⟩
    replace HF := Lib.hid (HF.out.keep hk)
    clear hk c0 c1 HRW
    obtain ⟨h0, h1, h2⟩ := HF.out.cells
    go_wp2_with fail
    clear h0 h1 h2
    refine (specFresh_yes _ _ _ _ _ _ _ _ HD.out.1 HD.out.2.1 HF.out.2.2.2.1.here (by omega) HD.out.2.2.1).mono ?_
    rintro e wf ⟨rfl, hk⟩
    replace HF := Lib.hid (HF.out.keep hk)
    clear hk
    rw [HY.out.1]
    obtain ⟨z0, z1, z2⟩ := HF.out.cells
    go_wp2_with fail
    refine wp_region_held_drew (S := (fun w' => w'.cell? ⟨w.heap.size, 0, none⟩ = some (.int .i64 a) ∧ w'.cell? ⟨w.heap.size, 1, none⟩ = some (.int .i64 b) ∧ w'.cell? ⟨w.heap.size, 2, none⟩ = some (.int .i64 h))) (by kernel_rfl) ?_ (fun hHeld => ?_)
    · exact ⟨z0, z1, z2⟩
    replace HF := Lib.hid (HF.out.keep (grown_drew (grown_refl _ none)))
    clear z0 z1 z2
    obtain ⟨z0, z1, z2⟩ := HF.out.cells
    refine heldY 0 54 ?_
    refine heldY 2 56 ?_
    refine wpAnyH_ready (rs := [1]) (by kernel_rfl) (by simp) ?_
    refine AllReadyH.cons rfl (fun K hK => ?_) AllReadyH.nil
    go_simp
    go_at_call 116
    have hgs := HF.out.2.2.2.2.size
    refine (specCopyDev_any _ _ _ _ _ HD.out.2.1 HF.out.2.2.2.1.here (by omega) HD.out.2.2.2.2.1).mono ?_
    rintro e w5 ⟨A5, c5, cs, rfl, hcl, hcs, ho5, hk⟩
    have HS := Lib.hid (And.intro hcl hcs)
    have HO := Lib.hid (ho5.base_le hgs)
    replace HF := Lib.hid (HF.out.keep hk)
    clear hcl hcs ho5 hk hgs z0 z1 z2
    obtain ⟨z0, z1, z2⟩ := HF.out.cells
    refine hK.out _ _ ?_ (fun hHeld => ?_)
    · exact ⟨z0, z1, z2⟩
    clear hK K
    try simp only [Act.put, List.setIfInBounds_toArray, List.set_cons_zero, List.set_cons_succ]
    obtain ⟨d0, d1, d2⟩ := cells3 HF.out.2.2.1
    obtain ⟨f0, f1, f2⟩ := frozen3 HF.out.2.2.1
    have na : w.heap.size ≠ w.heap.size + 1 + 1 := by omega
    have nb : w.heap.size + 1 + 1 ≠ w.heap.size := by omega
    refine wpAnyH_ready (rs := [3]) (by kernel_rfl) (by simp) ?_
    refine AllReadyH.cons rfl (fun K hK => ?_) AllReadyH.nil
    go_simp
    refine hK.out _ _ ?_ (fun hHeld => ?_)
    · first | assumption | go_keep
    clear hK K
    try simp only [Act.put, List.setIfInBounds_toArray, List.set_cons_zero, List.set_cons_succ]
    refine wpAnyH_ready (rs := [4]) (by kernel_rfl) (by simp) ?_
    refine AllReadyH.cons rfl (fun K hK => ?_) AllReadyH.nil
    go_simp
    refine hK.out _ _ ?_ (fun hHeld => ?_)
    · first | assumption | go_keep
    clear hK K
    try simp only [Act.put, List.setIfInBounds_toArray, List.set_cons_zero, List.set_cons_succ]
    refine wpAnyH_ready (rs := [5]) (by kernel_rfl) (by simp) ?_
    refine AllReadyH.cons rfl (fun K hK => ?_) AllReadyH.nil
    go_simp
    refine hK.out _ _ ?_ (fun hHeld => ?_)
    · first | assumption | go_keep
    clear hK K
    try simp only [Act.put, List.setIfInBounds_toArray, List.set_cons_zero, List.set_cons_succ]
    refine wpAnyH_done (by kernel_rfl) ?_ _
    go_wp2
    exact bodyPost_ret (v := .tuple #[.slice A5 n c5, .agg #[.int .i64 a, .int .i64 b, .int .i64 h], .int .i64 (-1)]) (by simp [results, Try.results89, go_sem, *]) rfl
      ⟨_, _, cs, rfl, HS.out.1, HS.out.2, HO.out.heads HF.out.2.2.1 _ _ _, HF.out.fin _ _ _⟩
end Go.Proofs.Yteniikfgellhfaa
