/- What the model draws for chapter 4.
   What the model draws for chapter 4: l20Block. -/
import Derived.Test.YteniikfgellhfaaBlocks
import Derived.Test.YteniikfgellhfaaDrawPages
import Derived.Test.YteniikfgellhfaaHand
import Derived.IntWalk
namespace Go.Proofs.Yteniikfgellhfaa
open Go.ChangeShapes Go.WideShapes Go.ChangeAt Go.RowKit

/-- A page that is valid and written is drawn. -/
def DrewFull (w : World) (B g P : Nat) (s : Int) (e : Ending) (w' : World) : Prop :=
  ∃ (a b c : Int), e = .returned (.agg #[.bool true, .int .i64 a, .int .i64 b, .int .i64 c, .int .i64 s]) ∧ pageB true a b c s = true ∧ Rd w' B g P ∧ w.grownBy w' (some g)
theorem full_any (w : World) (B g P : Nat) (s : Int) (h : Rd w B g P) (hP : P ≤ 1000000000) (hs : 1 ≤ s) (hs2 : s ≤ 1000000) :
    Calls Try.prog 90 #[.pointer (some ⟨g, 0, none⟩), .int .i64 s] w (DrewFull w B g (P + 3) s) := by
  have h0 := h.alloc (.cells #[.bool false, .int .i64 0, .int .i64 0, .int .i64 0, .int .i64 0] 30)
  have hg := h.lt
  go_enter Try.func90, Try.ntmps90
  go_wp2_with fail
  refine (pick_lt _ _ _ _ _ h0 (by omega) (by omega)).mono ?_
  rintro e w1 ⟨x1, rfl, u1, v1, h1, hg1⟩
  have hr1 := (Blk.new w 30 #[.bool false, .int .i64 0, .int .i64 0, .int .i64 0, .int .i64 0]).grown hg1 (by intro e; injection e with e; omega)
  have hG1 := grown_trans (grown_alloc (grown_refl w (some g)) (.cells #[.bool false, .int .i64 0, .int .i64 0, .int .i64 0, .int .i64 0] 30)) hg1
  clear hg1 h0
  go_wp2_with fail
  refine (pick_lt _ _ _ _ _ h1 (by omega) (by omega)).mono ?_
  rintro e w2 ⟨x2, rfl, u2, v2, h2, hg2⟩
  have hr2 := hr1.grown hg2 (by intro e; injection e with e; omega)
  have hG2 := grown_trans hG1 hg2
  clear hg2 h1 hr1 hG1
  go_wp2_with fail
  refine (pick_lt _ _ _ _ _ h2 (by omega) (by omega)).mono ?_
  rintro e w3 ⟨x3, rfl, u3, v3, h3, hg3⟩
  have hr := hr2.grown hg3 (by intro e; injection e with e; omega)
  have HB := Lib.hid (Nat.le_trans h.le (Nat.le_of_lt hg))
  have HX := Lib.hid (And.intro (grown_trans hG2 hg3) h3)
  clear hg3 h2 hr2 hG2 h3 h
  have r0 : w3.cell? ⟨w.heap.size, 0, none⟩ = some (.bool false) := hr.cell 0
  have q0 : w3.frozen? ⟨w.heap.size, 0, none⟩ = false := hr.frozen 0
  have r1 : w3.cell? ⟨w.heap.size, 1, none⟩ = some (.int .i64 0) := hr.cell 1
  have q1 : w3.frozen? ⟨w.heap.size, 1, none⟩ = false := hr.frozen 1
  have r2 : w3.cell? ⟨w.heap.size, 2, none⟩ = some (.int .i64 0) := hr.cell 2
  have q2 : w3.frozen? ⟨w.heap.size, 2, none⟩ = false := hr.frozen 2
  have r3 : w3.cell? ⟨w.heap.size, 3, none⟩ = some (.int .i64 0) := hr.cell 3
  have q3 : w3.frozen? ⟨w.heap.size, 3, none⟩ = false := hr.frozen 3
  have r4 : w3.cell? ⟨w.heap.size, 4, none⟩ = some (.int .i64 0) := hr.cell 4
  have q4 : w3.frozen? ⟨w.heap.size, 4, none⟩ = false := hr.frozen 4
  have HP := Lib.hid (show pageB true x1 x2 x3 s = true by simp [pageB, inB]; omega)
  clear hr
  go_wp2
  exact bodyPost_ret (v := .agg #[.bool true, .int .i64 x1, .int .i64 x2, .int .i64 x3, .int .i64 s]) (by simp [results, Try.results90, go_sem, *]) rfl
    ⟨_, _, _, rfl, HP.out, rd_put5 HX.out.2 (by omega) HB.out _ _ _ _ _, grown_put5 HX.out.1 (Nat.le_refl _) _ _ _ _ _⟩

theorem new_valid {m : Int} (h : inB m 0 100 = true) : blockB m [pz, pz, pz, pz] = true := by
  have e : ordB [pz, pz, pz, pz] = true := by rw [ord4]; rfl
  simp [blockB, h, e]
theorem write_valid {m : Int} {ps : List Pg} (h : blockB m ps = true) {k : Nat} (hk : nextV m ps = (k : Int)) (h4 : k < 4) {p : Pg} (hp : pgB p = true) : blockB m (ps.set k p) = true := by
  obtain ⟨hm, hl, ho⟩ := block_parts h
  obtain ⟨a, b, c, d, rfl⟩ := four hl
  rw [ord4] at ho
  unfold nextV at hk
  rw [if_pos h] at hk
  have e : ordB ([a, b, c, d].set k p) = true := by
    match k, h4 with
    | 0, _ =>
      show ordB [p, b, c, d] = true
      rw [ord4]
      cases ha : a.f <;> cases hb : b.f <;> cases hc : c.f <;> cases hd : d.f <;> simp [cntF, ha, hb, hc, hd] at hk ho ⊢ <;> simp [hp, ho]
    | 1, _ =>
      show ordB [a, p, c, d] = true
      rw [ord4]
      cases ha : a.f <;> cases hb : b.f <;> cases hc : c.f <;> cases hd : d.f <;> simp [cntF, ha, hb, hc, hd] at hk ho ⊢ <;> simp [hp, ho]
    | 2, _ =>
      show ordB [a, b, p, d] = true
      rw [ord4]
      cases ha : a.f <;> cases hb : b.f <;> cases hc : c.f <;> cases hd : d.f <;> simp [cntF, ha, hb, hc, hd] at hk ho ⊢ <;> simp [hp, ho]
    | 3, _ =>
      show ordB [a, b, c, p] = true
      rw [ord4]
      cases ha : a.f <;> cases hb : b.f <;> cases hc : c.f <;> cases hd : d.f <;> simp [cntF, ha, hb, hc, hd] at hk ho ⊢ <;> simp [hp, ho]
  simp [blockB, hm, e]
/-- nextV is -1 or a number in 0..3. -/
theorem next_cases (m : Int) (ps : List Pg) : nextV m ps = -1 ∨ ∃ k : Nat, nextV m ps = (k : Int) ∧ k < 4 ∧ blockB m ps = true := by
  unfold nextV
  by_cases h : blockB m ps = true
  · rw [if_pos h]
    by_cases h4 : cntF ps = 4
    · exact .inl (by rw [if_pos h4])
    · refine .inr ⟨cntF ps, by rw [if_neg h4], ?_, h⟩
      have := pcnt_le ps
      have := (block_parts h).2.1
      omega
  · exact .inl (by rw [if_neg h])
/-- A valid block was written to. -/
def Wrote (m : Int) (w : World) (e : Ending) (w' : World) : Prop := ∃ (ps : List Pg) (r : Int), blockB m ps = true ∧ Made2 m 4 ps (.int .i64 r) w e w'
theorem specWrite_valid (m : Int) (A : Option Addr) (c : Nat) (x1 x2 x3 x4 : Int) (ps : List Pg) (w : World) (hr : Row w w.heap.size A ps) (hv : blockB m ps = true) (hp : pageB true x1 x2 x3 x4 = true) :
    Calls Try.prog 119 #[.agg #[.int .i64 m, .slice A 4 c], .agg #[.bool true, .int .i64 x1, .int .i64 x2, .int .i64 x3, .int .i64 x4]] w (Wrote m w) := by
  rcases next_cases m ps with h | ⟨k, hk, h4, _⟩
  · exact (specWrite_full m A c x1 x2 x3 x4 ps w hr hv hp h).mono fun _ _ h => ⟨_, _, hv, h⟩
  · exact (specWrite_at m A c x1 x2 x3 x4 ps w hr hv hp hk h4).mono fun _ _ h => ⟨_, _, write_valid (p := ⟨true, x1, x2, x3, x4⟩) hv hk h4 hp, h⟩
end Go.Proofs.Yteniikfgellhfaa
namespace Go.Proofs.Yteniikfgellhfaa
open Go.ChangeShapes Go.WideShapes Go.ChangeAt Go.RowKit

theorem Own.ne_blk {w : World} {base h V n c : Nat} {ps : List Pg} {t : TypeId} {cs : Array Value} (ho : Own w base (.slice (some ⟨h, 0, none⟩) n c) ps) (hb : Blk w V t cs) (ht : t ≠ 30) : h ≠ V := by
  rcases ho.2 with ⟨e, _⟩ | ⟨g', cap, cur, e, _, hh, _⟩
  · cases e
  · injection e with e; injection e with e; injection e with e; subst e
    rintro rfl
    unfold Blk at hb
    rw [hh] at hb
    injection hb with hb
    injection hb with _ h2
    exact ht h2.symm
/-- The draw under way: the reader, the result's cell, the variable's block V, its pages. -/
def RowSt (w : World) (B g Q V : Nat) (m : Int) (h c : Nat) (ps : List Pg) (wr : World) : Prop :=
  Blk wr V 87 #[.int .i64 m, .slice (some ⟨h, 0, none⟩) 4 c] ∧ blockB m ps = true ∧ Own wr w.heap.size (.slice (some ⟨h, 0, none⟩) 4 c) ps ∧
    Blk wr w.heap.size 87 #[.int .i64 0, .slice none 0 0] ∧ Rd wr B g Q ∧ w.grownBy wr (some g) ∧ g < w.heap.size ∧ w.heap.size < V
theorem RowSt.grown {w wr w' : World} {B g Q Q' V : Nat} {m : Int} {h c : Nat} {ps : List Pg} (H : RowSt w B g Q V m h c ps wr) (hg : wr.grownBy w' (some g)) (hr : Rd w' B g Q') : RowSt w B g Q' V m h c ps w' := by
  obtain ⟨h1, h2, h3, h4, h5, h6, h7, h8⟩ := H
  have hb := h3.form
  refine ⟨h1.grown hg (by intro e; injection e with e; omega), h2, h3.kept hg (.inr ?_), h4.grown hg (by intro e; injection e with e; omega), hr, grown_trans h6 hg, h7, h8⟩
  rcases hb with ⟨e, _⟩ | ⟨g', cap, e, hb, _⟩
  · cases e
  · injection e with e; injection e with e; injection e with e; subst e
    simp [Value.ownBlock]; omega
theorem RowSt.kept {w wr w' : World} {B g Q V : Nat} {m : Int} {h c : Nat} {ps : List Pg} (H : RowSt w B g Q V m h c ps wr) (hk : wr.grownBy w' none) : RowSt w B g Q V m h c ps w' :=
  H.grown (grown_some hk) (H.2.2.2.2.1.grown hk (by intro k e; cases e))
theorem RowSt.drew {w wr : World} {B g Q V : Nat} {m : Int} {h c : Nat} {ps : List Pg} (H : RowSt w B g Q V m h c ps wr) : RowSt w B g Q V m h c ps wr.drew := H.kept (grown_drew (grown_refl _ _))
theorem RowSt.more {w wr : World} {B g Q Q' V : Nat} {m : Int} {h c : Nat} {ps : List Pg} (H : RowSt w B g Q V m h c ps wr) (hq : Q ≤ Q') : RowSt w B g Q' V m h c ps wr :=
  ⟨H.1, H.2.1, H.2.2.1, H.2.2.2.1, H.2.2.2.2.1.more hq, H.2.2.2.2.2⟩
/-- Another row put into the variable. -/
theorem RowSt.put {w wr : World} {B g Q V : Nat} {m m' : Int} {h c h' c' : Nat} {ps ps' : List Pg} (H : RowSt w B g Q V m h c ps wr) (hv : blockB m' ps' = true) (ho : Own wr w.heap.size (.slice (some ⟨h', 0, none⟩) 4 c') ps') :
    RowSt w B g Q V m' h' c' ps' ((wr.setCell ⟨V, 0, none⟩ (.int .i64 m')).setCell ⟨V, 1, none⟩ (.slice (some ⟨h', 0, none⟩) 4 c')) := by
  obtain ⟨h1, h2, h3, h4, h5, h6, h7, h8⟩ := H
  have hne := ho.ne_blk h1 (by decide)
  have hB := h5.le
  refine ⟨(h1.put 0 _).put 1 _, hv, (ho.to_put (by simpa [Value.ownBlock] using hne) _).to_put (by simpa [Value.ownBlock] using hne) _, (h4.far (by simp; omega) _).far (by simp; omega) _, (h5.far (by simp; omega) (by simp; omega) _).far (by simp; omega) (by simp; omega) _, grown_set (grown_set h6 (.inr (by simp; omega)) _) (.inr (by simp; omega)) _, h7, h8⟩
theorem cells2 {w : World} {g : Nat} {t : TypeId} {u0 u1 : Value} (h : Blk w g t #[u0, u1]) :
    w.cell? ⟨g, 0, none⟩ = some u0 ∧ w.cell? ⟨g, 1, none⟩ = some u1 ∧ w.frozen? ⟨g, 0, none⟩ = false ∧ w.frozen? ⟨g, 1, none⟩ = false := ⟨h.cell 0, h.cell 1, h.frozen 0, h.frozen 1⟩
theorem RowSt.far {w wr : World} {B g Q V D i : Nat} {m : Int} {h c : Nat} {ps : List Pg} {cs : Array Value} (H : RowSt w B g Q V m h c ps wr) (hD : Blk wr D 87 cs) (hVD : V < D) (u : Value) : RowSt w B g Q V m h c ps (wr.setCell ⟨D, i, none⟩ u) := by
  obtain ⟨h1, h2, h3, h4, h5, h6, h7, h8⟩ := H
  have hne := h3.ne_blk hD (by decide)
  have hB := h5.le
  exact ⟨h1.far (by simp; omega) _, h2, h3.to_put (by simpa [Value.ownBlock] using hne) _, h4.far (by simp; omega) _, h5.far (by simp; omega) (by simp; omega) _, grown_set h6 (.inr (by simp; omega)) _, h7, h8⟩
theorem RowSt.round1 {w wr : World} {B g Q V D : Nat} {m : Int} {h c h' c' : Nat} {ps qs : List Pg} {cs : Array Value} (H : RowSt w B g Q V m h c ps wr) (hv : blockB m qs = true) (ho : Own wr w.heap.size (.slice (some ⟨h', 0, none⟩) 4 c') qs) (hD : Blk wr D 87 cs) (hVD : V < D) (u0 u1 : Value) :
    RowSt w B g Q V m h' c' qs ((((wr.setCell ⟨D, 0, none⟩ u0).setCell ⟨D, 1, none⟩ u1).setCell ⟨V, 0, none⟩ (.int .i64 m)).setCell ⟨V, 1, none⟩ (.slice (some ⟨h', 0, none⟩) 4 c')) := by
  have hne := ho.ne_blk hD (by decide)
  exact ((H.far hD hVD u0).far (hD.put 0 u0) hVD u1).put hv ((ho.to_put (by simpa [Value.ownBlock] using hne) _).to_put (by simpa [Value.ownBlock] using hne) _)
theorem RowSt.round2 {w wr : World} {B g Q V : Nat} {m : Int} {h c h' c' : Nat} {ps qs : List Pg} (H : RowSt w B g Q V m h c ps wr) (hv : blockB m qs = true) (ho : Own wr w.heap.size (.slice (some ⟨h', 0, none⟩) 4 c') qs) (o : Obj) :
    RowSt w B g Q V m h' c' qs (((wr.alloc o).setCell ⟨V, 0, none⟩ (.int .i64 m)).setCell ⟨V, 1, none⟩ (.slice (some ⟨h', 0, none⟩) 4 c')) :=
  (H.kept (grown_alloc (grown_refl _ _) o)).put hv (ho.keep (grown_alloc (grown_refl _ _) o))
/-- A block was drawn out of a reader. -/
def DrewBlock (w : World) (B g P : Nat) (e : Ending) (w' : World) : Prop :=
  ∃ (m : Int) (A : Option Addr) (n c : Nat) (ps : List Pg), e = .returned (.agg #[.int .i64 m, .slice A n c]) ∧ ps.length = n ∧ n ≤ 4 ∧ n ≤ c ∧ c ≤ maxLen ∧ (∀ ad, A = some ad → w.heap.size ≤ ad.block) ∧ Row w' w'.heap.size A ps ∧ Rd w' B g P ∧ w.grownBy w' (some g)
/-- The draw behind the loop. -/
def EndSt (w : World) (B g Q V h c : Nat) (ps : List Pg) (wr : World) : Prop :=
  (∃ cs, Blk wr V 87 cs) ∧ ps.length = 4 ∧ Own wr w.heap.size (.slice (some ⟨h, 0, none⟩) 4 c) ps ∧
    Blk wr w.heap.size 87 #[.int .i64 0, .slice none 0 0] ∧ Rd wr B g Q ∧ w.grownBy wr (some g) ∧ g < w.heap.size ∧ w.heap.size < V
theorem RowSt.end_ {w wr : World} {B g Q V : Nat} {m : Int} {h c : Nat} {ps : List Pg} (H : RowSt w B g Q V m h c ps wr) : EndSt w B g Q V h c ps wr :=
  ⟨⟨_, H.1⟩, (block_parts H.2.1).2.1, H.2.2⟩
theorem EndSt.putV {w wr : World} {B g Q V h c : Nat} {ps : List Pg} (H : EndSt w B g Q V h c ps wr) (i : Nat) (u : Value) : EndSt w B g Q V h c ps (wr.setCell ⟨V, i, none⟩ u) := by
  obtain ⟨⟨cs, h1⟩, h2, h3, h4, h5, h6, h7, h8⟩ := H
  have hne := h3.ne_blk h1 (by decide)
  have hB := h5.le
  exact ⟨⟨_, h1.put i u⟩, h2, h3.to_put (by simpa [Value.ownBlock] using hne) _, h4.far (by simp; omega) _, h5.far (by simp; omega) (by simp; omega) _, grown_set h6 (.inr (by simp; omega)) _, h7, h8⟩
theorem EndSt.set5 {w wr : World} {B g Q V h c : Nat} {ps : List Pg} (H : EndSt w B g Q V h c ps wr) (i : Nat) (p : Pg) :
    EndSt w B g Q V h c (ps.set i p) (((((wr.setCell ⟨h, i * 5, none⟩ (.bool p.f)).setCell ⟨h, i * 5 + 1, none⟩ (.int .i64 p.a)).setCell ⟨h, i * 5 + 2, none⟩ (.int .i64 p.b)).setCell ⟨h, i * 5 + 3, none⟩ (.int .i64 p.c)).setCell ⟨h, i * 5 + 4, none⟩ (.int .i64 p.d)) := by
  obtain ⟨⟨cs, h1⟩, h2, h3, h4, h5, h6, h7, h8⟩ := H
  have hne := h3.ne_blk h1 (by decide)
  have hne2 := h3.ne_blk h4 (by decide)
  have hB := h5.le
  have hh : w.heap.size ≤ h := by
    rcases h3.form with ⟨e, _⟩ | ⟨g', cap, e, hb, _⟩
    · cases e
    · injection e with e; injection e with e; injection e with e; subst e; exact hb
  refine ⟨⟨cs, ?_⟩, by simpa using h2, h3.set5 h2 i p, ?_, ?_, ?_, h7, h8⟩
  · exact ((((h1.far (Ne.symm hne) _).far (Ne.symm hne) _).far (Ne.symm hne) _).far (Ne.symm hne) _).far (Ne.symm hne) _
  · exact ((((h4.far (Ne.symm hne2) _).far (Ne.symm hne2) _).far (Ne.symm hne2) _).far (Ne.symm hne2) _).far (Ne.symm hne2) _
  · have hgh : g ≠ h := by omega
    have hBh : B ≤ h := by omega
    exact ((((h5.far hgh hBh _).far hgh hBh _).far hgh hBh _).far hgh hBh _).far hgh hBh _
  · exact grown_set (grown_set (grown_set (grown_set (grown_set h6 (.inr hh) _) (.inr hh) _) (.inr hh) _) (.inr hh) _) (.inr hh) _
theorem Row.tail {w : World} {B : Nat} {p : Pg} {ps : List Pg} {g : Nat} (h : Row w B (some ⟨g, 0, none⟩) (p :: ps)) : Row w B (some ⟨g, 5, none⟩) ps := fun hn => by
  obtain ⟨g', off, e, hb, hz, hc⟩ := h (by simp)
  injection e with e; injection e with e1 e2
  subst e1; subst e2
  refine ⟨g, 5, rfl, hb, hz, fun i q hq => ?_⟩
  have := hc (i + 1) q (by simpa using hq)
  rwa [show 0 + (i + 1) * 5 = 5 + i * 5 by omega] at this
theorem EndSt.cap {w wr : World} {B g Q V h c : Nat} {ps : List Pg} (H : EndSt w B g Q V h c ps wr) : 4 ≤ c ∧ c ≤ maxLen := by
  rcases H.2.2.1.form with ⟨e, _⟩ | ⟨g', cap, e, hb, _, hc, hm⟩
  · cases e
  · have h2 := H.2.1
    injection e with e e2 e3; subst e3; omega
theorem EndSt.fin {w wr : World} {B g Q V h c : Nat} {ps : List Pg} (H : EndSt w B g Q V h c ps wr) (m : Int) (u0 u1 : Value) :
    DrewBlock w B g Q (.returned (.agg #[.int .i64 m, .slice (some ⟨h, 0, none⟩) 4 c])) ((wr.setCell ⟨w.heap.size, 0, none⟩ u0).setCell ⟨w.heap.size, 1, none⟩ u1) := by
  have hcc := H.cap
  obtain ⟨⟨cs, h1⟩, h2, h3, h4, h5, h6, h7, h8⟩ := H
  have hne2 := h3.ne_blk h4 (by decide)
  have hh : w.heap.size ≤ h := by
    rcases h3.form with ⟨e, _⟩ | ⟨g', cap, e, hb, _⟩
    · cases e
    · injection e with e; injection e with e; injection e with e; subst e; exact hb
  have hB := h5.le
  exact ⟨m, _, 4, c, ps, rfl, h2, by omega, hcc.1, hcc.2, (by intro ad e; injection e with e; subst e; exact hh), ((h3.to_put (by simpa [Value.ownBlock] using hne2) _).to_put (by simpa [Value.ownBlock] using hne2) _).row, (h5.far (by simp; omega) (by simp; omega) _).far (by simp; omega) (by simp; omega) _, grown_set (grown_set h6 (.inr (by simp)) _) (.inr (by simp)) _⟩
theorem EndSt.fin1 {w wr : World} {B g Q V h c : Nat} {ps : List Pg} (H : EndSt w B g Q V h c ps wr) (m : Int) (u0 u1 : Value) :
    DrewBlock w B g Q (.returned (.agg #[.int .i64 m, .slice (some ⟨h, 5, none⟩) 3 (c - 1)])) ((wr.setCell ⟨w.heap.size, 0, none⟩ u0).setCell ⟨w.heap.size, 1, none⟩ u1) := by
  have hcc := H.cap
  obtain ⟨⟨cs, h1⟩, h2, h3, h4, h5, h6, h7, h8⟩ := H
  have hne2 := h3.ne_blk h4 (by decide)
  have hh : w.heap.size ≤ h := by
    rcases h3.form with ⟨e, _⟩ | ⟨g', cap, e, hb, _⟩
    · cases e
    · injection e with e; injection e with e; injection e with e; subst e; exact hb
  have hB := h5.le
  obtain ⟨a, b, d, f, rfl⟩ := four h2
  exact ⟨m, _, 3, c - 1, _, rfl, rfl, by omega, by omega, by omega, (by intro ad e; injection e with e; subst e; exact hh), ((h3.to_put (by simpa [Value.ownBlock] using hne2) _).to_put (by simpa [Value.ownBlock] using hne2) _).row.tail, (h5.far (by simp; omega) (by simp; omega) _).far (by simp; omega) (by simp; omega) _, grown_set (grown_set h6 (.inr (by simp)) _) (.inr (by simp)) _⟩
theorem EndSt.more {w wr : World} {B g Q Q' V h c : Nat} {ps : List Pg} (H : EndSt w B g Q V h c ps wr) (hq : Q ≤ Q') : EndSt w B g Q' V h c ps wr :=
  ⟨H.1, H.2.1, H.2.2.1, H.2.2.2.1, H.2.2.2.2.1.more hq, H.2.2.2.2.2⟩
/-- The row that is written to is another block than the variable and the result. -/
theorem RowSt.ne {w wr : World} {B g Q V : Nat} {m : Int} {h c : Nat} {ps : List Pg} (H : RowSt w B g Q V m h c ps wr) : h ≠ V ∧ h ≠ w.heap.size ∧ V ≠ w.heap.size ∧ V ≠ h ∧ w.heap.size ≠ h ∧ w.heap.size ≠ V := by
  have h1 := H.2.2.1.ne_blk H.1 (by decide)
  have h2 := H.2.2.1.ne_blk H.2.2.2.1 (by decide)
  have h3 := H.2.2.2.2.2.2.2
  exact ⟨h1, h2, by omega, Ne.symm h1, Ne.symm h2, by omega⟩
/-- Page i of the row, its cells and their marks. -/
theorem RowSt.page {w wr : World} {B g Q V : Nat} {m : Int} {h c : Nat} {ps : List Pg} (H : RowSt w B g Q V m h c ps wr) (i : Nat) (hi : i < 4) :
    ∃ p : Pg, P5 wr h (i * 5) p ∧ ∀ j, wr.frozen? ⟨h, j, none⟩ = false := by
  have hl := (block_parts H.2.1).2.1
  obtain ⟨p, hp⟩ := getD_at (show i < ps.length by omega)
  exact ⟨p, H.2.2.1.at_ hl hp, fun j => H.2.2.1.frozen hl j⟩
/-- The loop of writes. -/
def LoopSt (w : World) (B g Q V : Nat) (m : Int) (k : Nat) (wr : World) : Prop :=
  ∃ (h c : Nat) (ps : List Pg), RowSt w B g (Q + 4 * (6 - k)) V m h c ps wr
theorem LoopSt.less {w wr : World} {B g Q V : Nat} {m : Int} {k k' : Nat} (h : LoopSt w B g Q V m k' wr) (hk : k ≤ k') : LoopSt w B g Q V m k wr := by
  obtain ⟨a, c, ps, h1⟩ := h
  exact ⟨a, c, ps, h1.more (by omega)⟩
theorem Row.far {w : World} {B : Nat} {A : Option Addr} {ps : List Pg} (h : Row w B A ps) {p : Addr} (hp : ∀ ad, A = some ad → ad.block ≠ p.block) (u : Value) : Row (w.setCell p u) B A ps := fun hn => by
  obtain ⟨g, off, rfl, hb, hz, hc⟩ := h hn
  have hne := hp _ rfl
  exact ⟨g, off, rfl, hb, by simpa [World.setCell] using hz, fun i q hq => (hc i q hq).keep fun r hr => World.cell?_setCell_other w p r u (fun e => hne (by subst e; exact hr.symm))⟩
end Go.Proofs.Yteniikfgellhfaa
