/- What chapter 5 answers, further: Program of the program.
   What chapter 5 answers, further: Program of the model.
   What chapter 5 answers, further: Program of other arguments. -/
import Derived.Test.YtfiajbkmklcaiaaDevices9
import Derived.Test.YtfiajbkmklcaiaaLawExact
namespace Go.Proofs.Ytfiajbkmklcaiaa
open Go.ChangeShapes Go.WideShapes Go.ChangeAt Go.RowKit

/-- The boxed page, and the device that came in. -/
def PIn (w : World) (A : Option Addr) (bs : List Bk) (x1 x2 x3 x4 : Int) (wr : World) : Prop :=
  Blk wr w.heap.size 37 #[.bool true, .int .i64 x1, .int .i64 x2, .int .i64 x3, .int .i64 x4] ∧ DRow wr w.heap.size A bs ∧ w.grownBy wr none
/-- Block k of a device, of four pages. -/
def BAt (bs : List Bk) (k : Nat) (m : Int) (Ab : Option Addr) (cb : Nat) (ps : List Pg) : Prop := bs[k]? = some ⟨m, Ab, cb, ps⟩ ∧ ps.length = 4
section
variable {w wr w' : World} {A : Option Addr} {bs : List Bk} {x1 x2 x3 x4 : Int}
theorem PIn.start (h : DRow w w.heap.size A bs) : PIn w A bs x1 x2 x3 x4 (w.alloc (.cells #[.bool true, .int .i64 x1, .int .i64 x2, .int .i64 x3, .int .i64 x4] 37)) := ⟨Blk.new w _ _, h.alloc _, grown_alloc (grown_refl _ _) _⟩
theorem PIn.keep (h : PIn w A bs x1 x2 x3 x4 wr) (k : wr.grownBy w' none) : PIn w A bs x1 x2 x3 x4 w' := ⟨h.1.keep k, h.2.1.kept k, grown_trans h.2.2 k⟩
theorem PIn.put (h : PIn w A bs x1 x2 x3 x4 wr) {D : Nat} (hD : w.heap.size < D) (u0 u1 : Value) : PIn w A bs x1 x2 x3 x4 ((wr.setCell ⟨D, 0, none⟩ u0).setCell ⟨D, 1, none⟩ u1) := by
  refine ⟨(h.1.far (by show w.heap.size ≠ D; omega) _).far (by show w.heap.size ≠ D; omega) _, ?_, grown_put (grown_put h.2.2 (Nat.le_of_lt hD) _) (Nat.le_of_lt hD) _⟩
  refine h.2.1.keep (by simp [World.setCell]) fun q hq _ => ?_
  rw [World.cell?_setCell_other _ ⟨D, 1, none⟩ q _ (fun e => by subst e; simp at hq; omega)]
  exact World.cell?_setCell_other _ ⟨D, 0, none⟩ q _ (fun e => by subst e; simp at hq; omega)
theorem PIn.block {g off k : Nat} {m : Int} {Ab : Option Addr} {cb : Nat} {ps : List Pg} (h : PIn w (some ⟨g, off, none⟩) bs x1 x2 x3 x4 wr) (hk : BAt bs k m Ab cb ps) :
    wr.cell? ⟨g, off + k * 2, none⟩ = some (.int .i64 m) ∧ wr.cell? ⟨g, off + k * 2 + 1, none⟩ = some (.slice Ab 4 cb) ∧ Row wr wr.heap.size Ab ps := by
  obtain ⟨g', off', m', Ab', cb', ps', e0, _, _, hb', c0, c1, hpr⟩ := h.2.1.at_ (i := k) (List.getElem?_eq_some_iff.1 hk.1).1
  rw [hk.1] at hb'
  injection e0 with e0
  injection e0 with e3 e4
  subst e3; subst e4
  injection hb' with hb'
  injection hb' with e5 e6 e7 e8
  subst e5; subst e6; subst e7; subst e8
  rw [hk.2] at c1
  exact ⟨c0, c1, hpr.here⟩
theorem DOwn.far {base D : Nat} {v : Value} {cs : List Bk} (h : DOwn wr base v cs) (hD : wr.heap.size ≤ D) (u0 u1 : Value) : DOwn ((wr.setCell ⟨D, 0, none⟩ u0).setCell ⟨D, 1, none⟩ u1) base v cs :=
  h.keep (grown_put (grown_put (grown_refl wr none) hD _) hD _)
end
theorem write_len {m : Int} {ps ps1 : List Pg} {x1 x2 x3 x4 r : Int} (h : WriteIs m ps true x1 x2 x3 x4 m 4 ps1 r) (hp : ps.length = 4) : ps1.length = 4 := by
  rcases h with ⟨_, _, h4, _⟩ | ⟨_, _, _, _, _, _, rfl, _⟩ | ⟨k, _, _, _, _, _, _, _, rfl, _⟩
  · omega
  · exact hp
  · rw [List.length_set]; exact hp
/-- The number that Program tells. -/
def progV (k : Nat) (r : Int) : Int := if r < 0 then -1 else (k : Int) * 4 + r
theorem progV_pos (k : Nat) {r : Int} (h : 0 ≤ r) : progV k r = (k : Int) * 4 + r := by
  unfold progV
  rw [if_neg (by omega)]
end Go.Proofs.Ytfiajbkmklcaiaa
namespace Go.Proofs.Ytfiajbkmklcaiaa
open Go.ChangeShapes Go.WideShapes Go.ChangeAt Go.RowKit

theorem DOwn.farV {wr : World} {base g2 n c D : Nat} {cs : List Bk} {q : Array Value} (h : DOwn wr base (.slice (some ⟨g2, 0, none⟩) n c) cs) (hV : Blk wr D 96 q) (hne : g2 ≠ D) (u0 u1 : Value) :
    DOwn ((wr.setCell ⟨D, 0, none⟩ u0).setCell ⟨D, 1, none⟩ u1) base (.slice (some ⟨g2, 0, none⟩) n c) cs := by
  have h1 : (Value.slice (some ⟨g2, 0, none⟩) n c).ownBlock ≠ some D := by simp [Value.ownBlock, hne]
  refine ⟨World.ownsRow.kept (World.ownsRow.kept h.1 (grown_set (g := D) (grown_refl _ _) (.inl rfl) u0) (.inr h1)) (grown_set (g := D) (grown_refl _ _) (.inl rfl) u1) (.inr h1), fun b hb => ?_, h.2.2⟩
  have hb1 := h.2.1 b hb
  have h2 : b.row.ownBlock ≠ some D := by
    obtain ⟨m, A, c', ps⟩ := b
    rcases A with _ | ad
    · simp [Bk.row, Value.ownBlock]
    · have h3 : Own wr base (.slice (some ad) ps.length c') ps := hb1
      have := h3.apart hV (by decide)
      simpa [Bk.row, Value.ownBlock] using (Ne.symm this)
  exact (hb1.to_put h2 u0).to_put h2 u1
set_option maxHeartbeats 4000000 in
theorem specProgram_at (A : Option Addr) (n c k : Nat) (bs : List Bk) (m : Int) (Ab : Option Addr) (cb : Nat) (ps ps1 : List Pg) (x1 x2 x3 x4 r : Int) (w : World) (hl : bs.length = n) (hr : DRow w w.heap.size A bs) (hd : devB bs = true) (hk : bs[k]? = some ⟨m, Ab, cb, ps⟩)
    (hpg : pageB true x1 x2 x3 x4 = true) (hw : WriteIs m ps true x1 x2 x3 x4 m 4 ps1 r) (hr4 : -1 ≤ r ∧ r < 4) :
    Calls Try.prog 116 #[.slice A n c, .int .i64 k, .agg #[.bool true, .int .i64 x1, .int .i64 x2, .int .i64 x3, .int .i64 x4]] w (DevMade2 ((bs.map Bk.is).set k (m, ps1)) n (.int .i64 (progV k r)) w) := by
  obtain ⟨⟨h1, h12⟩, hall⟩ := dev_parts hd
  have hkn : k < bs.length := (List.getElem?_eq_some_iff.1 hk).1
  have hv := hall _ (List.mem_of_getElem? hk)
  have hp4 : ps.length = 4 := (block_parts hv).2.1
  have hall4 : ∀ b, b ∈ bs → b.ps.length = 4 := fun b hm => (block_parts (hall b hm)).2.1
  have ha : inB (k : Int) 0 ((n : Int) - 1) = true := inB_iff.2 ⟨by omega, by omega⟩
  have HD := Lib.hid (And.intro (show BAt bs k m Ab cb ps from ⟨hk, hp4⟩) (And.intro hp4 (And.intro hl (And.intro hd (And.intro (fun (b : Bk) (hm : b ∈ bs) => show b.ps.length ≤ 1048576 by have := hall4 b hm; omega) (And.intro hall4 ha))))))
  have HW := Lib.hid (And.intro hw (write_len hw hp4))
  have HPG := Lib.hid (And.intro hpg (show (true && pageB true x1 x2 x3 x4) = true by rw [hpg]; rfl))
  have hn12 : n ≤ 12 := by omega
  have hn1 : 1 ≤ n := by omega
  have hkn2 : k < n := by omega
  have k3 : (k : Int) < n := by omega
  obtain ⟨hr1, hr2⟩ := hr4
  obtain ⟨g, off, _, _, _, _, rfl, hgw, _, _, _, _, _⟩ := hr.at_ hkn
  have HS := Lib.hid (PIn.start (x1 := x1) (x2 := x2) (x3 := x3) (x4 := x4) hr)
  clear hl hd hr ha hk hp4 hall hall4 hv h1 h12 hkn hpg hw
  go_enter Try.func116, Try.ntmps116
  go_wp2_with fail
  refine (specDeviceValid_val HD.out.2.2.1 HD.out.2.2.2.1 _ HS.out.2.1.here (by omega) HD.out.2.2.2.2.1).mono ?_
  rintro e w1 ⟨rfl, hk1⟩
  replace HS := Lib.hid (HS.out.keep hk1)
  clear hk1
  obtain ⟨p0, p1, p2, p3, p4⟩ := cells5 HS.out.1
  go_wp2_with (first | (go_at_call 55; refine (in_any _ _ _ _).mono ?_; rintro e w' ⟨rfl, rfl⟩; rw [HD.out.2.2.2.2.2.2]) | fail)
  refine (specValid_val HPG.out.1 _).mono ?_
  rintro e wp ⟨rfl, hk1⟩
  replace HS := Lib.hid (HS.out.keep hk1)
  clear hk1 p0 p1 p2 p3 p4
  obtain ⟨p0, p1, p2, p3, p4⟩ := cells5 HS.out.1
  go_wp2_with fail
  refine (specCopyDev_any _ _ _ _ _ HD.out.2.2.1 HS.out.2.1.here (by omega) HD.out.2.2.2.2.2.1).mono ?_
  rintro e w2 ⟨A2, c2, cs, rfl, hcl, hcs, ho2, hk2⟩
  have hz1 := HS.out.2.2.size
  have hD := ho2.base_le (base' := w.heap.size) hz1
  rcases hD.form with ⟨_, e10⟩ | ⟨g2, cap, e11, hg1, hg2, _, _⟩
  · rw [e10] at hcl; simp at hcl; omega
  injection e11 with e11 e12 e13
  subst e11; subst e13
  have HCB := Lib.hid (And.intro hcl (And.intro hcs (fun (b' : Bk) (a' : Addr) (hb' : b' ∈ cs) (ha' : b'.A = some a') => show a'.block < w2.heap.size from (World.ownsRow.lt (ho2.2.1 b' hb') a'.block (by simp [Bk.row, ha', Value.ownBlock])).2)))
  have HC := Lib.hid hD
  replace HS := Lib.hid (HS.out.keep hk2)
  clear hD ho2 hk2 hcl hcs e12 hz1 p0 p1 p2 p3 p4
  have hB0 : w.heap.size ≤ w2.heap.size := HS.out.2.2.size
  have hlt2 := HS.out.1.lt
  obtain ⟨b0, b1, hrow⟩ := HS.out.block HD.out.1
  obtain ⟨p0, p1, p2, p3, p4⟩ := cells5 HS.out.1
  have HRW := Lib.hid hrow
  clear hrow
  go_upto_region 4 with fail
  go_cut [9, 10] (fun sp sr wx => ∃ (V c3 : Nat) (A3 : Option Addr), sp = .pointer (some ⟨V, 0, none⟩) ∧ sr = .int .i64 r ∧ Blk wx V 96 #[.int .i64 m, .slice A3 4 c3] ∧ Own wx w2.heap.size (.slice A3 4 c3) ps1 ∧ w2.heap.size ≤ V ∧ PIn w (some ⟨g, off, none⟩) bs x1 x2 x3 x4 wx ∧ DOwn wx w.heap.size (.slice (some ⟨g2, 0, none⟩) n c2) cs)
  case first =>
    refine wp_region_held_drew (S := (fun w' => w'.cell? ⟨g, off + k * 2, none⟩ = some (.int .i64 m) ∧ w'.cell? ⟨g, off + k * 2 + 1, none⟩ = some (.slice Ab 4 cb) ∧ w'.cell? ⟨w.heap.size, 0, none⟩ = some (.bool true) ∧ w'.cell? ⟨w.heap.size, 1, none⟩ = some (.int .i64 x1) ∧ w'.cell? ⟨w.heap.size, 2, none⟩ = some (.int .i64 x2) ∧ w'.cell? ⟨w.heap.size, 3, none⟩ = some (.int .i64 x3) ∧ w'.cell? ⟨w.heap.size, 4, none⟩ = some (.int .i64 x4))) (by kernel_rfl) ?_ (fun hHeld => ?_)
    · exact ⟨b0, b1, p0, p1, p2, p3, p4⟩
    replace HS := Lib.hid (HS.out.keep (grown_drew (grown_refl _ none)))
    replace HC := Lib.hid (HC.out.keep (grown_drew (grown_refl _ none)))
    clear b0 b1 p0 p1 p2 p3 p4 HRW
    obtain ⟨b0, b1, hrow⟩ := HS.out.block HD.out.1
    obtain ⟨p0, p1, p2, p3, p4⟩ := cells5 HS.out.1
    have HRW := Lib.hid hrow
    clear hrow
    refine held_yes (i := 0) (d := some 36) (v := ?_) rfl rfl (by kernel_rfl) (by kernel_rfl) (by kernel_rfl) (fun _ _ _ h => h) (by rfl) ?_ (by assumption) ?_
    rotate_left
    · (intro w hSw; (try dsimp only at hSw); go_simp; (first | done | with_reducible rfl))
    try simp only [Act.put, List.setIfInBounds_toArray, List.set_cons_zero, List.set_cons_succ]
    refine held_yes (i := 1) (d := some 37) (v := ?_) rfl rfl (by kernel_rfl) (by kernel_rfl) (by kernel_rfl) (fun _ _ _ h => h) (by rfl) ?_ (by assumption) ?_
    rotate_left
    · (intro w hSw; (try dsimp only at hSw); go_simp; (first | done | with_reducible rfl))
    try simp only [Act.put, List.setIfInBounds_toArray, List.set_cons_zero, List.set_cons_succ]
    refine held_yes (i := 2) (d := some 38) (v := ?_) rfl rfl (by kernel_rfl) (by kernel_rfl) (by kernel_rfl) (fun _ _ _ h => h) (by rfl) ?_ (by assumption) ?_
    rotate_left
    · (intro w hSw; (try dsimp only at hSw); go_simp; (first | done | with_reducible rfl))
    try simp only [Act.put, List.setIfInBounds_toArray, List.set_cons_zero, List.set_cons_succ]
    refine held_yes (i := 3) (d := some 39) (v := ?_) rfl rfl (by kernel_rfl) (by kernel_rfl) (by kernel_rfl) (fun _ _ _ h => h) (by rfl) ?_ (by assumption) ?_
    rotate_left
    · (intro w hSw; (try dsimp only at hSw); go_simp; (first | done | with_reducible rfl))
    try simp only [Act.put, List.setIfInBounds_toArray, List.set_cons_zero, List.set_cons_succ]
    refine held_yes (i := 4) (d := some 40) (v := ?_) rfl rfl (by kernel_rfl) (by kernel_rfl) (by kernel_rfl) (fun _ _ _ h => h) (by rfl) ?_ (by assumption) ?_
    rotate_left
    · (intro w hSw; (try dsimp only at hSw); go_simp; (first | done | with_reducible rfl))
    try simp only [Act.put, List.setIfInBounds_toArray, List.set_cons_zero, List.set_cons_succ]
    refine wpAnyH_ready (rs := [5, 9]) (by kernel_rfl) (by simp) ?_
    refine AllReadyH.cons rfl (fun K hK => ?_) (AllReadyH.cons rfl (fun K hK => ?_) AllReadyH.nil)
    · go_simp
      go_at_call 117
      refine (specWrite_val HW.out.1 _ _ _ _ HD.out.2.1 HRW.out (by omega)).mono ?_
      rintro e w3 ⟨An, cn, rfl, hl, ho, hk⟩
      have hz := hk.size
      (try simp only [World.drew] at hz)
      have HM := Lib.hid (And.intro hl (ho.base_le (base' := w2.heap.size) (by (try simp only [World.drew]); omega)))
      clear hl ho
      replace HS := Lib.hid (HS.out.keep hk)
      replace HC := Lib.hid (HC.out.keep hk)
      clear hk
      clear b0 b1 p0 p1 p2 p3 p4 HRW
      obtain ⟨b0, b1, hrow⟩ := HS.out.block HD.out.1
      obtain ⟨p0, p1, p2, p3, p4⟩ := cells5 HS.out.1
      have HRW := Lib.hid hrow
      clear hrow
      refine hK.out _ _ ?_ (fun hHeld => ?_)
      · exact ⟨b0, b1, p0, p1, p2, p3, p4⟩
      clear hK K
      try simp only [Act.put, List.setIfInBounds_toArray, List.set_cons_zero, List.set_cons_succ]
      refine held_yes (i := 6) (d := some 35) (v := ?_) rfl rfl (by kernel_rfl) (by kernel_rfl) (by kernel_rfl) (fun _ _ _ h => h) (by rfl) ?_ (by assumption) ?_
      rotate_left
      · (intro w hSw; (try dsimp only at hSw); go_simp; (first | done | with_reducible rfl))
      try simp only [Act.put, List.setIfInBounds_toArray, List.set_cons_zero, List.set_cons_succ]
      refine held_yes (i := 7) (d := some 42) (v := ?_) rfl rfl (by kernel_rfl) (by kernel_rfl) (by kernel_rfl) (fun _ _ _ h => h) (by rfl) ?_ (by assumption) ?_
      rotate_left
      · (intro w hSw; (try dsimp only at hSw); go_simp; (first | done | with_reducible rfl))
      try simp only [Act.put, List.setIfInBounds_toArray, List.set_cons_zero, List.set_cons_succ]
      refine held_yes (i := 8) (d := some 43) (v := ?_) rfl rfl (by kernel_rfl) (by kernel_rfl) (by kernel_rfl) (fun _ _ _ h => h) (by rfl) ?_ (by assumption) ?_
      rotate_left
      · (intro w hSw; (try dsimp only at hSw); go_simp; (first | done | with_reducible rfl))
      try simp only [Act.put, List.setIfInBounds_toArray, List.set_cons_zero, List.set_cons_succ]
      refine wpAnyH_ready (rs := [9]) (by kernel_rfl) (by simp) ?_
      refine AllReadyH.cons rfl (fun K hK => ?_) AllReadyH.nil
      have hd0 : Blk (World.alloc w3 (.cells #[.int .i64 0, .slice none 0 0] 96)) w3.heap.size 96 #[.int .i64 0, .slice none 0 0] := by have h := Blk.new w3 96 #[.int .i64 0, .slice none 0 0]; (try simp only [World.drew] at h); exact h
      have HV := Lib.hid hd0
      clear hd0
      have HSx := Lib.hid HS.out
      have HCx := Lib.hid HC.out
      replace HS := Lib.hid (HS.out.keep (grown_alloc (grown_refl _ none) (.cells #[.int .i64 0, .slice none 0 0] 96)))
      replace HC := Lib.hid (HC.out.keep (grown_alloc (grown_refl _ none) (.cells #[.int .i64 0, .slice none 0 0] 96)))
      go_simp
      clear b0 b1 p0 p1 p2 p3 p4 HRW
      obtain ⟨b0, b1, hrow⟩ := HS.out.block HD.out.1
      obtain ⟨p0, p1, p2, p3, p4⟩ := cells5 HS.out.1
      have HRW := Lib.hid hrow
      clear hrow
      refine hK.out _ _ ?_ (fun hHeld => ?_)
      · exact ⟨b0, b1, p0, p1, p2, p3, p4⟩
      clear hK K
      try simp only [Act.put, List.setIfInBounds_toArray, List.set_cons_zero, List.set_cons_succ]
      obtain ⟨d0, d1, e0, e1⟩ := cells2' HV.out
      have na0 : w.heap.size ≠ w3.heap.size := by omega
      have nb0 : w3.heap.size ≠ w.heap.size := by omega
      have na1 : g ≠ w3.heap.size := by omega
      have nb1 : w3.heap.size ≠ g := by omega
      refine wpAnyH_ready (rs := [10]) (by kernel_rfl) (by simp) ?_
      refine AllReadyH.cons rfl (fun K hK => ?_) AllReadyH.nil
      go_simp
      refine hK.out _ _ ?_ (fun hHeld => ?_)
      · first | assumption | go_keep
      clear hK K
      try simp only [Act.put, List.setIfInBounds_toArray, List.set_cons_zero, List.set_cons_succ]
      refine wpAnyH_ready (rs := [11]) (by kernel_rfl) (by simp) ?_
      refine AllReadyH.cons rfl (fun K hK => ?_) AllReadyH.nil
      go_simp
      refine hK.out _ _ ?_ (fun hHeld => ?_)
      · first | assumption | go_keep
      clear hK K
      try simp only [Act.put, List.setIfInBounds_toArray, List.set_cons_zero, List.set_cons_succ]
      refine wpAnyH_done (by kernel_rfl) ?_ _
      go_wp2_with fail
      go_meet
      exact ⟨_, _, _, rfl, rfl, Blk.new w3 _ _, HM.out.2.keep (grown_alloc (grown_refl _ none) _), by omega, HSx.out.keep (grown_alloc (grown_refl _ none) _), HCx.out.keep (grown_alloc (grown_refl _ none) _)⟩
    · have hd0 : Blk (World.alloc w2.drew (.cells #[.int .i64 0, .slice none 0 0] 96)) w2.heap.size 96 #[.int .i64 0, .slice none 0 0] := by have h := Blk.new w2.drew 96 #[.int .i64 0, .slice none 0 0]; (try simp only [World.drew] at h); exact h
      have HV := Lib.hid hd0
      clear hd0
      have HSx := Lib.hid HS.out
      have HCx := Lib.hid HC.out
      replace HS := Lib.hid (HS.out.keep (grown_alloc (grown_refl _ none) (.cells #[.int .i64 0, .slice none 0 0] 96)))
      replace HC := Lib.hid (HC.out.keep (grown_alloc (grown_refl _ none) (.cells #[.int .i64 0, .slice none 0 0] 96)))
      go_simp
      clear b0 b1 p0 p1 p2 p3 p4 HRW
      obtain ⟨b0, b1, hrow⟩ := HS.out.block HD.out.1
      obtain ⟨p0, p1, p2, p3, p4⟩ := cells5 HS.out.1
      have HRW := Lib.hid hrow
      clear hrow
      refine hK.out _ _ ?_ (fun hHeld => ?_)
      · exact ⟨b0, b1, p0, p1, p2, p3, p4⟩
      clear hK K
      try simp only [Act.put, List.setIfInBounds_toArray, List.set_cons_zero, List.set_cons_succ]
      refine wpAnyH_ready (rs := [5]) (by kernel_rfl) (by simp) ?_
      refine AllReadyH.cons rfl (fun K hK => ?_) AllReadyH.nil
      go_simp
      go_at_call 117
      refine (specWrite_val HW.out.1 _ _ _ _ HD.out.2.1 HRW.out (by omega)).mono ?_
      rintro e w3 ⟨An, cn, rfl, hl, ho, hk⟩
      have hz := hk.size
      (try simp only [World.drew, size_alloc1] at hz)
      have HM := Lib.hid (And.intro hl (ho.base_le (base' := w2.heap.size) (by (try simp only [World.drew, size_alloc1]); omega)))
      clear hl ho
      replace HV := Lib.hid (HV.out.keep hk)
      replace HS := Lib.hid (HS.out.keep hk)
      replace HC := Lib.hid (HC.out.keep hk)
      clear hk
      clear b0 b1 p0 p1 p2 p3 p4 HRW
      obtain ⟨b0, b1, hrow⟩ := HS.out.block HD.out.1
      obtain ⟨p0, p1, p2, p3, p4⟩ := cells5 HS.out.1
      have HRW := Lib.hid hrow
      clear hrow
      refine hK.out _ _ ?_ (fun hHeld => ?_)
      · exact ⟨b0, b1, p0, p1, p2, p3, p4⟩
      clear hK K
      try simp only [Act.put, List.setIfInBounds_toArray, List.set_cons_zero, List.set_cons_succ]
      refine held_yes (i := 6) (d := some 35) (v := ?_) rfl rfl (by kernel_rfl) (by kernel_rfl) (by kernel_rfl) (fun _ _ _ h => h) (by rfl) ?_ (by assumption) ?_
      rotate_left
      · (intro w hSw; (try dsimp only at hSw); go_simp; (first | done | with_reducible rfl))
      try simp only [Act.put, List.setIfInBounds_toArray, List.set_cons_zero, List.set_cons_succ]
      refine held_yes (i := 7) (d := some 42) (v := ?_) rfl rfl (by kernel_rfl) (by kernel_rfl) (by kernel_rfl) (fun _ _ _ h => h) (by rfl) ?_ (by assumption) ?_
      rotate_left
      · (intro w hSw; (try dsimp only at hSw); go_simp; (first | done | with_reducible rfl))
      try simp only [Act.put, List.setIfInBounds_toArray, List.set_cons_zero, List.set_cons_succ]
      refine held_yes (i := 8) (d := some 43) (v := ?_) rfl rfl (by kernel_rfl) (by kernel_rfl) (by kernel_rfl) (fun _ _ _ h => h) (by rfl) ?_ (by assumption) ?_
      rotate_left
      · (intro w hSw; (try dsimp only at hSw); go_simp; (first | done | with_reducible rfl))
      try simp only [Act.put, List.setIfInBounds_toArray, List.set_cons_zero, List.set_cons_succ]
      obtain ⟨d0, d1, e0, e1⟩ := cells2' HV.out
      have na0 : w.heap.size ≠ w2.heap.size := by omega
      have nb0 : w2.heap.size ≠ w.heap.size := by omega
      have na1 : g ≠ w2.heap.size := by omega
      have nb1 : w2.heap.size ≠ g := by omega
      refine wpAnyH_ready (rs := [10]) (by kernel_rfl) (by simp) ?_
      refine AllReadyH.cons rfl (fun K hK => ?_) AllReadyH.nil
      go_simp
      refine hK.out _ _ ?_ (fun hHeld => ?_)
      · first | assumption | go_keep
      clear hK K
      try simp only [Act.put, List.setIfInBounds_toArray, List.set_cons_zero, List.set_cons_succ]
      refine wpAnyH_ready (rs := [11]) (by kernel_rfl) (by simp) ?_
      refine AllReadyH.cons rfl (fun K hK => ?_) AllReadyH.nil
      go_simp
      refine hK.out _ _ ?_ (fun hHeld => ?_)
      · first | assumption | go_keep
      clear hK K
      try simp only [Act.put, List.setIfInBounds_toArray, List.set_cons_zero, List.set_cons_succ]
      refine wpAnyH_done (by kernel_rfl) ?_ _
      go_wp2_with fail
      go_meet
      have hne : (Value.slice An 4 cn).ownBlock ≠ some w2.heap.size := by
        rcases An with _ | ad
        · simp [Value.ownBlock]
        · have := HM.out.2.apart HV.out (by decide)
          simpa [Value.ownBlock] using (Ne.symm this)
      exact ⟨_, _, _, rfl, rfl, (HV.out.put 0 _).put 1 _, (HM.out.2.to_put (k := 0) hne _).to_put (k := 1) hne _, by omega, HS.out.put (by omega) _ _, HC.out.farV HV.out (by omega) _ _⟩
  case rest =>
    clear HS HC b0 b1 p0 p1 p2 p3 p4 HRW
    obtain ⟨V, c3, A3, rfl, rfl, hV, ho3, hV2, hS, hD⟩ := hcut
    have HC := Lib.hid (And.intro HCB.out.1 HCB.out.2.1)
    have hcl := HCB.out.1
    obtain ⟨q, hq⟩ : ∃ q, cs[k]? = some q := ⟨_, List.getElem?_eq_getElem (by omega)⟩
    obtain ⟨z0, z1⟩ := hD.at_ hcl hq
    have f0 := hD.frozen hcl (k * 2)
    have f1 := hD.frozen hcl (k * 2 + 1)
    have hP := hD.put hcl k ⟨m, A3, c3, ps1⟩ (by show Own _ w.heap.size (.slice A3 ps1.length c3) ps1; rw [HW.out.2]; exact ho3.base_le hB0) (fun j b' a a' hj hb' ha ha' => by
      have h1 := (World.ownsRow.lt ho3 a.block (by rw [show A3 = some a from ha]; rfl)).1
      have h2 := HCB.out.2.2 b' a' (List.mem_of_getElem? hb') ha'
      omega)
    have er : Bk.row ⟨m, A3, c3, ps1⟩ = .slice A3 4 c3 := by simp [Bk.row, HW.out.2]
    rw [er] at hP
    have hge := (World.ownsRow.lt hD.1 g2 rfl).1
    obtain ⟨y0, y1, _, _⟩ := cells2' hV
    have n1 : g2 ≠ V := by omega
    have n2 : V ≠ g2 := by omega
    have HX := Lib.hid (And.intro hP (And.intro hS.2.2 hge))
    clear hD hP hge hq er hcl hV ho3 hS
    rcases Int.lt_or_le r 0 with hr0 | hr0
    · have er1 : r = -1 := by omega
      subst er1
      go_wp2
      go_ret2
      refine ⟨_, _, cs.set k ⟨m, A3, c3, ps1⟩, rfl, by rw [List.length_set]; exact HC.out.1, ?_, HX.out.1, grown_put (grown_put HX.out.2.1 HX.out.2.2 _) HX.out.2.2 _⟩
      rw [List.map_set, HC.out.2]; rfl
    · have t1 : decide (r < 0) = false := decide_eq_false (by omega)
      have ev : progV k r = (k : Int) * 4 + r := progV_pos k hr0
      have HEV := Lib.hid ev
      clear ev
      go_wp2
      go_ret2
      refine ⟨_, _, cs.set k ⟨m, A3, c3, ps1⟩, (by show Ending.returned (.tuple #[.slice (some ⟨g2, 0, none⟩) n c2, .int .i64 ((k : Int) * 4 + r)]) = _; rw [HEV.out]), by rw [List.length_set]; exact HC.out.1, ?_, HX.out.1, grown_put (grown_put HX.out.2.1 HX.out.2.2 _) HX.out.2.2 _⟩
      rw [List.map_set, HC.out.2]; rfl
end Go.Proofs.Ytfiajbkmklcaiaa
namespace Go.Proofs.Ytfiajbkmklcaiaa
open Go.ChangeShapes Go.WideShapes Go.ChangeAt Go.RowKit

theorem specProgram_no (A : Option Addr) (n c : Nat) (bs : List Bk) (a : Int) (f : Bool) (x1 x2 x3 x4 : Int) (w : World) (hl : bs.length = n) (hr : DRow w w.heap.size A bs) (hn : n ≤ 1048576) (hp : ∀ b, b ∈ bs → b.ps.length ≤ 1048576) (hd : devB bs = false) :
    Calls Try.prog 116 #[.slice A n c, .int .i64 a, .agg #[.bool f, .int .i64 x1, .int .i64 x2, .int .i64 x3, .int .i64 x4]] w (DevMade2 [] 0 (.int .i64 (-1)) w) := by
  have HD := Lib.hid (And.intro hl (And.intro hd (And.intro hp (And.intro (hr.alloc (.cells #[.bool f, .int .i64 x1, .int .i64 x2, .int .i64 x3, .int .i64 x4] 37)) trivial))))
  clear hl hd hp hr
  go_enter Try.func116, Try.ntmps116
  go_wp2_with fail
  refine (specDeviceValid_val HD.out.1 HD.out.2.1 _ HD.out.2.2.2.1.here hn HD.out.2.2.1).mono ?_
  rintro e w1 ⟨rfl, hk⟩
  have HG := Lib.hid (grown_trans (grown_alloc (grown_refl w none) (.cells #[.bool f, .int .i64 x1, .int .i64 x2, .int .i64 x3, .int .i64 x4] 37)) hk)
  clear hk
  go_wp2
  go_ret2
  exact devMade2_empty HG.out
theorem specProgram_out (A : Option Addr) (n c : Nat) (bs : List Bk) (a : Int) (f : Bool) (x1 x2 x3 x4 : Int) (w : World) (hl : bs.length = n) (hr : DRow w w.heap.size A bs) (hn : n ≤ 1048576) (hp : ∀ b, b ∈ bs → b.ps.length ≤ 1048576) (hd : devB bs = true) (ha : hasB n a = false) :
    Calls Try.prog 116 #[.slice A n c, .int .i64 a, .agg #[.bool f, .int .i64 x1, .int .i64 x2, .int .i64 x3, .int .i64 x4]] w (DevMade2 [] 0 (.int .i64 (-1)) w) := by
  have HD := Lib.hid (And.intro hl (And.intro hd (And.intro hp (And.intro (hr.alloc (.cells #[.bool f, .int .i64 x1, .int .i64 x2, .int .i64 x3, .int .i64 x4] 37)) (hasB_in ha)))))
  clear hl hd hp hr ha
  go_enter Try.func116, Try.ntmps116
  go_wp2_with fail
  refine (specDeviceValid_val HD.out.1 HD.out.2.1 _ HD.out.2.2.2.1.here hn HD.out.2.2.1).mono ?_
  rintro e w1 ⟨rfl, hk⟩
  have HG := Lib.hid (grown_trans (grown_alloc (grown_refl w none) (.cells #[.bool f, .int .i64 x1, .int .i64 x2, .int .i64 x3, .int .i64 x4] 37)) hk)
  clear hk
  go_wp2_with (go_at_call 55; refine (in_any _ _ _ _).mono ?_; rintro e w' ⟨rfl, rfl⟩; rw [HD.out.2.2.2.2])
  go_ret2
  exact devMade2_empty HG.out
theorem hasB_iff {n : Nat} {a : Int} (h : hasB n a = true) : 0 ≤ a ∧ a ≤ (n : Int) - 1 := by
  simp [hasB] at h
  omega
theorem specProgram_page (A : Option Addr) (n c : Nat) (bs : List Bk) (a : Int) (f : Bool) (x1 x2 x3 x4 : Int) (w : World) (hl : bs.length = n) (hr : DRow w w.heap.size A bs) (hn : n ≤ 1048576) (hp : ∀ b, b ∈ bs → b.ps.length ≤ 1048576) (hd : devB bs = true) (ha : hasB n a = true) (hg : (f && pageB f x1 x2 x3 x4) = false) :
    Calls Try.prog 116 #[.slice A n c, .int .i64 a, .agg #[.bool f, .int .i64 x1, .int .i64 x2, .int .i64 x3, .int .i64 x4]] w (DevMade2 [] 0 (.int .i64 (-1)) w) := by
  cases hv : pageB f x1 x2 x3 x4
  · have HPG := Lib.hid hv
    clear hg hv
    have HD := Lib.hid (And.intro hl (And.intro hd (And.intro hp (And.intro (hr.alloc (.cells #[.bool f, .int .i64 x1, .int .i64 x2, .int .i64 x3, .int .i64 x4] 37)) (inB_iff.2 (hasB_iff ha) : inB a 0 ((n : Int) - 1) = true)))))
    clear hl hd hp hr ha
    go_enter Try.func116, Try.ntmps116
    go_wp2_with fail
    refine (specDeviceValid_val HD.out.1 HD.out.2.1 _ HD.out.2.2.2.1.here hn HD.out.2.2.1).mono ?_
    rintro e w1 ⟨rfl, hk⟩
    have HB := Lib.hid ((Blk.new w 37 #[.bool f, .int .i64 x1, .int .i64 x2, .int .i64 x3, .int .i64 x4]).keep hk)
    have HG := Lib.hid (grown_trans (grown_alloc (grown_refl w none) (.cells #[.bool f, .int .i64 x1, .int .i64 x2, .int .i64 x3, .int .i64 x4] 37)) hk)
    clear hk
    obtain ⟨p0, p1, p2, p3, p4⟩ := cells5 HB.out
    go_wp2_with (first | (go_at_call 55; refine (in_any _ _ _ _).mono ?_; rintro e w' ⟨rfl, rfl⟩; rw [HD.out.2.2.2.2]) | fail)
    refine (specValid_val HPG.out _).mono ?_
    rintro e w2 ⟨rfl, hk⟩
    replace HG := Lib.hid (grown_trans HG.out hk)
    replace HB := Lib.hid (HB.out.keep hk)
    clear hk p0 p1 p2 p3 p4
    obtain ⟨p0, p1, p2, p3, p4⟩ := cells5 HB.out
    go_wp2
    go_ret2
    exact devMade2_empty HG.out
  · have hf : f = false := by cases f <;> simp_all
    subst hf
    have HPG := Lib.hid hv
    clear hg hv
    have HD := Lib.hid (And.intro hl (And.intro hd (And.intro hp (And.intro (hr.alloc (.cells #[.bool false, .int .i64 x1, .int .i64 x2, .int .i64 x3, .int .i64 x4] 37)) (inB_iff.2 (hasB_iff ha) : inB a 0 ((n : Int) - 1) = true)))))
    clear hl hd hp hr ha
    go_enter Try.func116, Try.ntmps116
    go_wp2_with fail
    refine (specDeviceValid_val HD.out.1 HD.out.2.1 _ HD.out.2.2.2.1.here hn HD.out.2.2.1).mono ?_
    rintro e w1 ⟨rfl, hk⟩
    have HB := Lib.hid ((Blk.new w 37 #[.bool false, .int .i64 x1, .int .i64 x2, .int .i64 x3, .int .i64 x4]).keep hk)
    have HG := Lib.hid (grown_trans (grown_alloc (grown_refl w none) (.cells #[.bool false, .int .i64 x1, .int .i64 x2, .int .i64 x3, .int .i64 x4] 37)) hk)
    clear hk
    obtain ⟨p0, p1, p2, p3, p4⟩ := cells5 HB.out
    go_wp2_with (first | (go_at_call 55; refine (in_any _ _ _ _).mono ?_; rintro e w' ⟨rfl, rfl⟩; rw [HD.out.2.2.2.2]) | fail)
    refine (specValid_val HPG.out _).mono ?_
    rintro e w2 ⟨rfl, hk⟩
    replace HG := Lib.hid (grown_trans HG.out hk)
    replace HB := Lib.hid (HB.out.keep hk)
    clear hk p0 p1 p2 p3 p4
    obtain ⟨p0, p1, p2, p3, p4⟩ := cells5 HB.out
    go_wp2
    go_ret2
    exact devMade2_empty HG.out
end Go.Proofs.Ytfiajbkmklcaiaa
