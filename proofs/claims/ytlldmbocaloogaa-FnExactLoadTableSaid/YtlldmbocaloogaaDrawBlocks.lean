/- What the model draws for chapter 4.
   What the model draws for chapter 4: l20Block. -/
import Derived.Test.YtlldmbocaloogaaBlocks
import Derived.Test.YtlldmbocaloogaaDrawPages
import Derived.Test.YtlldmbocaloogaaHand
import Derived.IntWalk
namespace Go.Proofs.Ytlldmbocaloogaa
open Go.ChangeShapes Go.WideShapes Go.ChangeAt Go.RowKit

/-- A page that is valid and written is drawn. -/
def DrewFull (w : World) (B g P : Nat) (s : Int) (e : Ending) (w' : World) : Prop :=
  ∃ (a b c : Int), e = .returned (.agg #[.bool true, .int .i64 a, .int .i64 b, .int .i64 c, .int .i64 s]) ∧ pageB true a b c s = true ∧ Rd w' B g P ∧ w.grownBy w' (some g)
theorem new_valid {m : Int} (h : inB m 0 100 = true) : blockB m [pz, pz, pz, pz] = true := by
  have e : ordB [pz, pz, pz, pz] = true := by rw [ord4]; rfl
  simp [blockB, h, e]
theorem write_valid {m : Int} {ps : List Pg} (h : blockB m ps = true) {k : Nat} (hk : nextV m ps = (k : Int)) (h4 : k < 4) {p : Pg} (hp : pgB p = true) : blockB m (ps.set k p) = true := by
  obtain ⟨hm, hl, ho⟩ := block_parts h
  obtain ⟨a, b, c, d, rfl⟩ := four hl
  rw [ord4] at ho
  unfold nextV at hk
  rw [if_pos h] at hk
  have e : ordB ([a, b, c, d].set k p) = true := by
    match k, h4 with
    | 0, _ =>
      show ordB [p, b, c, d] = true
      rw [ord4]
      cases ha : a.f <;> cases hb : b.f <;> cases hc : c.f <;> cases hd : d.f <;> simp [cntF, ha, hb, hc, hd] at hk ho ⊢ <;> simp [hp, ho]
    | 1, _ =>
      show ordB [a, p, c, d] = true
      rw [ord4]
      cases ha : a.f <;> cases hb : b.f <;> cases hc : c.f <;> cases hd : d.f <;> simp [cntF, ha, hb, hc, hd] at hk ho ⊢ <;> simp [hp, ho]
    | 2, _ =>
      show ordB [a, b, p, d] = true
      rw [ord4]
      cases ha : a.f <;> cases hb : b.f <;> cases hc : c.f <;> cases hd : d.f <;> simp [cntF, ha, hb, hc, hd] at hk ho ⊢ <;> simp [hp, ho]
    | 3, _ =>
      show ordB [a, b, c, p] = true
      rw [ord4]
      cases ha : a.f <;> cases hb : b.f <;> cases hc : c.f <;> cases hd : d.f <;> simp [cntF, ha, hb, hc, hd] at hk ho ⊢ <;> simp [hp, ho]
  simp [blockB, hm, e]
/-- nextV is -1 or a number in 0..3. -/
theorem next_cases (m : Int) (ps : List Pg) : nextV m ps = -1 ∨ ∃ k : Nat, nextV m ps = (k : Int) ∧ k < 4 ∧ blockB m ps = true := by
  unfold nextV
  by_cases h : blockB m ps = true
  · rw [if_pos h]
    by_cases h4 : cntF ps = 4
    · exact .inl (by rw [if_pos h4])
    · refine .inr ⟨cntF ps, by rw [if_neg h4], ?_, h⟩
      have := pcnt_le ps
      have := (block_parts h).2.1
      omega
  · exact .inl (by rw [if_neg h])
end Go.Proofs.Ytlldmbocaloogaa
namespace Go.Proofs.Ytlldmbocaloogaa
open Go.ChangeShapes Go.WideShapes Go.ChangeAt Go.RowKit

theorem cells2 {w : World} {g : Nat} {t : TypeId} {u0 u1 : Value} (h : Blk w g t #[u0, u1]) :
    w.cell? ⟨g, 0, none⟩ = some u0 ∧ w.cell? ⟨g, 1, none⟩ = some u1 ∧ w.frozen? ⟨g, 0, none⟩ = false ∧ w.frozen? ⟨g, 1, none⟩ = false := ⟨h.cell 0, h.cell 1, h.frozen 0, h.frozen 1⟩
/-- A block was drawn out of a reader. -/
def DrewBlock (w : World) (B g P : Nat) (e : Ending) (w' : World) : Prop :=
  ∃ (m : Int) (A : Option Addr) (n c : Nat) (ps : List Pg), e = .returned (.agg #[.int .i64 m, .slice A n c]) ∧ ps.length = n ∧ n ≤ 4 ∧ n ≤ c ∧ c ≤ maxLen ∧ (∀ ad, A = some ad → w.heap.size ≤ ad.block) ∧ Row w' w'.heap.size A ps ∧ Rd w' B g P ∧ w.grownBy w' (some g)
theorem Row.tail {w : World} {B : Nat} {p : Pg} {ps : List Pg} {g : Nat} (h : Row w B (some ⟨g, 0, none⟩) (p :: ps)) : Row w B (some ⟨g, 5, none⟩) ps := fun hn => by
  obtain ⟨g', off, e, hb, hz, hc⟩ := h (by simp)
  injection e with e; injection e with e1 e2
  subst e1; subst e2
  refine ⟨g, 5, rfl, hb, hz, fun i q hq => ?_⟩
  have := hc (i + 1) q (by simpa using hq)
  rwa [show 0 + (i + 1) * 5 = 5 + i * 5 by omega] at this
theorem Row.far {w : World} {B : Nat} {A : Option Addr} {ps : List Pg} (h : Row w B A ps) {p : Addr} (hp : ∀ ad, A = some ad → ad.block ≠ p.block) (u : Value) : Row (w.setCell p u) B A ps := fun hn => by
  obtain ⟨g, off, rfl, hb, hz, hc⟩ := h hn
  have hne := hp _ rfl
  exact ⟨g, off, rfl, hb, by simpa [World.setCell] using hz, fun i q hq => (hc i q hq).keep fun r hr => World.cell?_setCell_other w p r u (fun e => hne (by subst e; exact hr.symm))⟩
end Go.Proofs.Ytlldmbocaloogaa
