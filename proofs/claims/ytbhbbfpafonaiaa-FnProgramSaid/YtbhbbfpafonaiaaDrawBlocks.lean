/- What the model draws for chapter 4. -/
import Derived.Test.YtbhbbfpafonaiaaBlocks8
import Derived.Test.YtbhbbfpafonaiaaDrawPages
namespace Go.Proofs.Ytbhbbfpafonaiaa
open Go.ChangeShapes Go.WideShapes Go.ChangeAt Go.RowKit

/-- A page that is valid and written is drawn. -/
def DrewFull (w : World) (B g P : Nat) (s : Int) (e : Ending) (w' : World) : Prop :=
  ∃ (a b c : Int), e = .returned (.agg #[.bool true, .int .i64 a, .int .i64 b, .int .i64 c, .int .i64 s]) ∧ pageB true a b c s = true ∧ Rd w' B g P ∧ w.grownBy w' (some g)
theorem full_any (w : World) (B g P : Nat) (s : Int) (h : Rd w B g P) (hP : P ≤ 1000000000) (hs : 1 ≤ s) (hs2 : s ≤ 1000000) :
    Calls Try.prog 39 #[.pointer (some ⟨g, 0, none⟩), .int .i64 s] w (DrewFull w B g (P + 3) s) := by
  have h0 := h.alloc (.cells #[.bool false, .int .i64 0, .int .i64 0, .int .i64 0, .int .i64 0] 34)
  have hg := h.lt
  go_enter Try.func39, Try.ntmps39
  go_wp2_with fail
  refine (pick_lt _ _ _ _ _ h0 (by omega) (by omega)).mono ?_
  rintro e w1 ⟨x1, rfl, u1, v1, h1, hg1⟩
  have hr1 := (Blk.new w 34 #[.bool false, .int .i64 0, .int .i64 0, .int .i64 0, .int .i64 0]).grown hg1 (by intro e; injection e with e; omega)
  have hG1 := grown_trans (grown_alloc (grown_refl w (some g)) (.cells #[.bool false, .int .i64 0, .int .i64 0, .int .i64 0, .int .i64 0] 34)) hg1
  clear hg1 h0
  go_wp2_with fail
  refine (pick_lt _ _ _ _ _ h1 (by omega) (by omega)).mono ?_
  rintro e w2 ⟨x2, rfl, u2, v2, h2, hg2⟩
  have hr2 := hr1.grown hg2 (by intro e; injection e with e; omega)
  have hG2 := grown_trans hG1 hg2
  clear hg2 h1 hr1 hG1
  go_wp2_with fail
  refine (pick_lt _ _ _ _ _ h2 (by omega) (by omega)).mono ?_
  rintro e w3 ⟨x3, rfl, u3, v3, h3, hg3⟩
  have hr := hr2.grown hg3 (by intro e; injection e with e; omega)
  have HB := Lib.hid (Nat.le_trans h.le (Nat.le_of_lt hg))
  have HX := Lib.hid (And.intro (grown_trans hG2 hg3) h3)
  clear hg3 h2 hr2 hG2 h3 h
  have r0 : w3.cell? ⟨w.heap.size, 0, none⟩ = some (.bool false) := hr.cell 0
  have q0 : w3.frozen? ⟨w.heap.size, 0, none⟩ = false := hr.frozen 0
  have r1 : w3.cell? ⟨w.heap.size, 1, none⟩ = some (.int .i64 0) := hr.cell 1
  have q1 : w3.frozen? ⟨w.heap.size, 1, none⟩ = false := hr.frozen 1
  have r2 : w3.cell? ⟨w.heap.size, 2, none⟩ = some (.int .i64 0) := hr.cell 2
  have q2 : w3.frozen? ⟨w.heap.size, 2, none⟩ = false := hr.frozen 2
  have r3 : w3.cell? ⟨w.heap.size, 3, none⟩ = some (.int .i64 0) := hr.cell 3
  have q3 : w3.frozen? ⟨w.heap.size, 3, none⟩ = false := hr.frozen 3
  have r4 : w3.cell? ⟨w.heap.size, 4, none⟩ = some (.int .i64 0) := hr.cell 4
  have q4 : w3.frozen? ⟨w.heap.size, 4, none⟩ = false := hr.frozen 4
  have HP := Lib.hid (show pageB true x1 x2 x3 s = true by simp [pageB, inB]; omega)
  clear hr
  go_wp2
  exact bodyPost_ret (v := .agg #[.bool true, .int .i64 x1, .int .i64 x2, .int .i64 x3, .int .i64 s]) (by simp [results, Try.results39, go_sem, *]) rfl
    ⟨_, _, _, rfl, HP.out, rd_put5 HX.out.2 (by omega) HB.out _ _ _ _ _, grown_put5 HX.out.1 (Nat.le_refl _) _ _ _ _ _⟩

theorem new_valid {m : Int} (h : inB m 0 100 = true) : blockB m [pz, pz, pz, pz] = true := by
  have e : ordB [pz, pz, pz, pz] = true := by rw [ord4]; rfl
  simp [blockB, h, e]
theorem write_valid {m : Int} {ps : List Pg} (h : blockB m ps = true) {k : Nat} (hk : nextV m ps = (k : Int)) (h4 : k < 4) {p : Pg} (hp : pgB p = true) : blockB m (ps.set k p) = true := by
  obtain ⟨hm, hl, ho⟩ := block_parts h
  obtain ⟨a, b, c, d, rfl⟩ := four hl
  rw [ord4] at ho
  unfold nextV at hk
  rw [if_pos h] at hk
  have e : ordB ([a, b, c, d].set k p) = true := by
    match k, h4 with
    | 0, _ =>
      show ordB [p, b, c, d] = true
      rw [ord4]
      cases ha : a.f <;> cases hb : b.f <;> cases hc : c.f <;> cases hd : d.f <;> simp [cntF, ha, hb, hc, hd] at hk ho ⊢ <;> simp [hp, ho]
    | 1, _ =>
      show ordB [a, p, c, d] = true
      rw [ord4]
      cases ha : a.f <;> cases hb : b.f <;> cases hc : c.f <;> cases hd : d.f <;> simp [cntF, ha, hb, hc, hd] at hk ho ⊢ <;> simp [hp, ho]
    | 2, _ =>
      show ordB [a, b, p, d] = true
      rw [ord4]
      cases ha : a.f <;> cases hb : b.f <;> cases hc : c.f <;> cases hd : d.f <;> simp [cntF, ha, hb, hc, hd] at hk ho ⊢ <;> simp [hp, ho]
    | 3, _ =>
      show ordB [a, b, c, p] = true
      rw [ord4]
      cases ha : a.f <;> cases hb : b.f <;> cases hc : c.f <;> cases hd : d.f <;> simp [cntF, ha, hb, hc, hd] at hk ho ⊢ <;> simp [hp, ho]
  simp [blockB, hm, e]
/-- nextV is -1 or a number in 0..3. -/
theorem next_cases (m : Int) (ps : List Pg) : nextV m ps = -1 ∨ ∃ k : Nat, nextV m ps = (k : Int) ∧ k < 4 ∧ blockB m ps = true := by
  unfold nextV
  by_cases h : blockB m ps = true
  · rw [if_pos h]
    by_cases h4 : cntF ps = 4
    · exact .inl (by rw [if_pos h4])
    · refine .inr ⟨cntF ps, by rw [if_neg h4], ?_, h⟩
      have := pcnt_le ps
      have := (block_parts h).2.1
      omega
  · exact .inl (by rw [if_neg h])
/-- A valid block was written to. -/
def Wrote (m : Int) (w : World) (e : Ending) (w' : World) : Prop := ∃ (ps : List Pg) (r : Int), blockB m ps = true ∧ Made2 m 4 ps (.int .i64 r) w e w'
theorem specWrite_valid (m : Int) (A : Option Addr) (c : Nat) (x1 x2 x3 x4 : Int) (ps : List Pg) (w : World) (hr : Row w w.heap.size A ps) (hv : blockB m ps = true) (hp : pageB true x1 x2 x3 x4 = true) :
    Calls Try.prog 34 #[.agg #[.int .i64 m, .slice A 4 c], .agg #[.bool true, .int .i64 x1, .int .i64 x2, .int .i64 x3, .int .i64 x4]] w (Wrote m w) := by
  rcases next_cases m ps with h | ⟨k, hk, h4, _⟩
  · exact (specWrite_full m A c x1 x2 x3 x4 ps w hr hv hp h).mono fun _ _ h => ⟨_, _, hv, h⟩
  · exact (specWrite_at m A c x1 x2 x3 x4 ps w hr hv hp hk h4).mono fun _ _ h => ⟨_, _, write_valid (p := ⟨true, x1, x2, x3, x4⟩) hv hk h4 hp, h⟩
end Go.Proofs.Ytbhbbfpafonaiaa
