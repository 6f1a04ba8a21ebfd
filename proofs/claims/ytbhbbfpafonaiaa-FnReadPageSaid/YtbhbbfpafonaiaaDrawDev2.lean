/- What the model draws for chapter 5: the ends of l20Device. -/
import Derived.Test.YtbhbbfpafonaiaaDrawDev
namespace Go.Proofs.Ytbhbbfpafonaiaa
open Go.ChangeShapes Go.WideShapes Go.ChangeAt Go.RowKit

theorem specNewDevice_val {m : Int} {n : Nat} {w : World} (hm : m = (n : Int)) (h : inB (n : Int) 1 12 = true) : Calls Try.prog 37 #[.int .i64 m] w (DevMade (zs n) n w) := by
  subst hm
  exact specNewDevice_yes n w h
theorem zs_valid {n : Nat} (h : inB (n : Int) 1 12 = true) : devB (zs n) = true := by
  have e : (zs n).all (fun b => blockB b.m b.ps) = true := by
    rw [List.all_eq_true]
    intro b hb
    rw [List.eq_of_mem_replicate hb]
    exact new_valid (by decide)
  simp only [devB, e, zs_length, h, Bool.and_true]
theorem heads_none (n : Nat) (h : 1 ≤ n) : headsB n (-1) (-1) (-1) = true := by
  simp [headsB, pairB, inB]
  omega
/-- The draw behind the loops: the device is the call's own. -/
def ESt (w : World) (B g Q V : Nat) (A : Option Addr) (n c : Nat) (bs : List Bk) (a b h : Int) (wr : World) : Prop :=
  Blk wr V 43 #[.int .i64 a, .int .i64 b, .int .i64 h] ∧ (bs.length = n ∧ n ≤ 13 ∧ ∀ q, q ∈ bs → q.ps.length ≤ 4) ∧ DOwn wr w.heap.size (.slice A n c) bs ∧
    Blk wr w.heap.size 43 #[.int .i64 0, .int .i64 0, .int .i64 0] ∧ Rd wr B g Q ∧ w.grownBy wr (some g) ∧ g < w.heap.size ∧ w.heap.size < V
/-- The end: it is read only. -/
def FinSt (w : World) (B g Q V : Nat) (A : Option Addr) (n c : Nat) (bs : List Bk) (a b h : Int) (wr : World) : Prop :=
  Blk wr V 43 #[.int .i64 a, .int .i64 b, .int .i64 h] ∧ (bs.length = n ∧ n ≤ 13 ∧ n ≤ c ∧ c ≤ maxLen ∧ ∀ q, q ∈ bs → q.ps.length ≤ 4) ∧ (DRow wr wr.heap.size A bs ∧ (∀ ad, A = some ad → w.heap.size < ad.block) ∧ ∀ (q : Bk) (ad : Addr), q ∈ bs → q.A = some ad → w.heap.size < ad.block) ∧
    Blk wr w.heap.size 43 #[.int .i64 0, .int .i64 0, .int .i64 0] ∧ Rd wr B g Q ∧ w.grownBy wr (some g) ∧ g < w.heap.size ∧ w.heap.size < V ∧ ∃ ad, A = some ad
section
variable {w wr w' : World} {B g Q Q' V n c : Nat} {A : Option Addr} {bs : List Bk} {a b h : Int}
theorem DSt.e (H : DSt w B g Q V A n c bs a b h wr) : ESt w B g Q V A n c bs a b h wr := by
  obtain ⟨h1, ⟨hl, hd, hh⟩, h3⟩ := H
  obtain ⟨⟨_, h12⟩, hall⟩ := dev_parts hd
  exact ⟨h1, ⟨hl, by omega, fun q hq => by have := (block_parts (hall q hq)).2.1; omega⟩, h3⟩
theorem ESt.grown (H : ESt w B g Q V A n c bs a b h wr) (hg : wr.grownBy w' (some g)) (hr : Rd w' B g Q') : ESt w B g Q' V A n c bs a b h w' := by
  obtain ⟨h1, h2, h3, h4, h5, h6, h7, h8⟩ := H
  exact ⟨h1.grown hg (by intro e; injection e with e; omega), h2, h3.far_row hg h7, h4.grown hg (by intro e; injection e with e; omega), hr, grown_trans h6 hg, h7, h8⟩
theorem ESt.kept (H : ESt w B g Q V A n c bs a b h wr) (hk : wr.grownBy w' none) : ESt w B g Q V A n c bs a b h w' :=
  H.grown (grown_some hk) (H.2.2.2.2.1.grown hk (by intro k e; cases e))
theorem ESt.more (H : ESt w B g Q V A n c bs a b h wr) (hq : Q ≤ Q') : ESt w B g Q' V A n c bs a b h wr := ⟨H.1, H.2.1, H.2.2.1, H.2.2.2.1, H.2.2.2.2.1.more hq, H.2.2.2.2.2⟩
theorem ESt.dev {A1 : Option Addr} {n1 c1 : Nat} {cs : List Bk} (H : ESt w B g Q V A n c bs a b h wr) (hl : cs.length = n1) (hn : n1 ≤ 13) (hs : ∀ q, q ∈ cs → q.ps.length ≤ 4) (ho : DOwn wr w.heap.size (.slice A1 n1 c1) cs) : ESt w B g Q V A1 n1 c1 cs a b h wr :=
  ⟨H.1, ⟨hl, hn, hs⟩, ho, H.2.2.2⟩
/-- Blocks of cells of different types are different. -/
theorem owns_ne {base size D m : Nat} {t t' : TypeId} {v : Value} {xs : List Value} {q : Array Value} (h : wr.ownsRow base t size v m xs) (hD : Blk wr D t' q) (ht : t ≠ t') : ∀ k, v.ownBlock = some k → k ≠ D := fun k e => by
  rcases h.2 with ⟨rfl, _⟩ | ⟨g', cap, cur, rfl, _, hgg, _⟩
  · simp [Value.ownBlock] at e
  · simp only [Value.ownBlock, Option.some.injEq] at e
    subst e
    rintro rfl
    unfold Blk at hD
    rw [hgg] at hD
    injection hD with hD
    injection hD with _ h2
    exact ht h2
theorem ESt.fin (H : ESt w B g Q V A n c bs a b h wr) (hex : ∃ ad, A = some ad) : FinSt w B g Q V A n c bs a b h wr := by
  obtain ⟨h1, ⟨hl, hn, hs⟩, h3, h4, h5, h6, h7, h8⟩ := H
  have hc : n ≤ c ∧ c ≤ maxLen := by
    rcases h3.form with ⟨e, _⟩ | ⟨g', cap, e, _, _, h9, h10⟩
    · injection e with e1 e2 e3
      subst e2; subst e3
      exact ⟨Nat.le_refl _, Nat.zero_le _⟩
    · injection e with e1 e2 e3
      subst e3
      omega
  refine ⟨h1, ⟨hl, hn, hc.1, hc.2, hs⟩, ⟨h3.row, fun ad e => ?_, fun q ad hq e => ?_⟩, h4, h5, h6, h7, h8, hex⟩
  · subst e
    have e1 := owns_ne h3.1 h4 (by decide) ad.block rfl
    have e2 := (World.ownsRow.lt h3.1 ad.block rfl).1
    omega
  · have e0 : q.row.ownBlock = some ad.block := by simp [Bk.row, e, Value.ownBlock]
    have e1 := owns_ne (h3.2.1 q hq) h4 (by decide) ad.block e0
    have e2 := (World.ownsRow.lt (h3.2.1 q hq) ad.block e0).1
    omega
theorem FinSt.kept (H : FinSt w B g Q V A n c bs a b h wr) (hk : wr.grownBy w' none) : FinSt w B g Q V A n c bs a b h w' := by
  obtain ⟨h1, h2, ⟨h3, h3b⟩, h4, h5, h6, h7, h8, hex⟩ := H
  exact ⟨h1.keep hk, h2, ⟨(h3.kept hk).here, h3b⟩, h4.keep hk, h5.grown hk (by intro k e; cases e), grown_trans h6 (grown_some hk), h7, h8, hex⟩
theorem FinSt.drew (H : FinSt w B g Q V A n c bs a b h wr) : FinSt w B g Q V A n c bs a b h wr.drew := H.kept (grown_drew (grown_refl _ _))
theorem DRow.far {B' : Nat} {p : Addr} (H : DRow wr B' A bs) (hA : ∀ ad, A = some ad → ad.block ≠ p.block) (hP : ∀ (q : Bk) (ad : Addr), q ∈ bs → q.A = some ad → ad.block ≠ p.block) (u : Value) : DRow (wr.setCell p u) B' A bs := by
  refine ⟨fun hn => ?_, fun q hq => (H.2 q hq).far (fun ad e => hP q ad hq e) u⟩
  obtain ⟨g', off, rfl, hb, hz, hc⟩ := H.1 hn
  have hne := hA _ rfl
  exact ⟨g', off, rfl, hb, by simpa [World.setCell] using hz, fun i q hq => (hc i q hq).keep fun r hr => World.cell?_setCell_other wr p r u (fun e => hne (by subst e; exact hr.symm))⟩
/-- The result's cell is written: that is what is told of the draw. -/
theorem FinSt.out (H : FinSt w B g Q V A n c bs a b h wr) (u0 u1 u2 : Value) :
    DrewDev w B g Q (.returned (.tuple #[.slice A n c, .agg #[.int .i64 a, .int .i64 b, .int .i64 h]])) (((wr.setCell ⟨w.heap.size, 0, none⟩ u0).setCell ⟨w.heap.size, 1, none⟩ u1).setCell ⟨w.heap.size, 2, none⟩ u2) := by
  obtain ⟨h1, ⟨hl, hn, hnc, hcm, hs⟩, ⟨h3, h3A, h3P⟩, h4, h5, h6, h7, h8, hex⟩ := H
  have hB := h5.le
  have kA : ∀ ad, A = some ad → ad.block ≠ w.heap.size := fun ad e => by have := h3A ad e; omega
  have kP : ∀ (q : Bk) (ad : Addr), q ∈ bs → q.A = some ad → ad.block ≠ w.heap.size := fun q ad hq e => by have := h3P q ad hq e; omega
  refine ⟨A, n, c, bs, a, b, h, rfl, hl, hn, hnc, hcm, hs, fun ad e => Nat.le_of_lt (h3A ad e), ?_, ?_, ?_, hex, fun q ad hq e => Nat.le_of_lt (h3P q ad hq e)⟩
  · exact (((h3.far kA kP _).far kA kP _).far kA kP _).here
  · exact ((h5.far (by simp; omega) (by simp; omega) _).far (by simp; omega) (by simp; omega) _).far (by simp; omega) (by simp; omega) _
  · exact grown_set (grown_set (grown_set h6 (.inr (by simp)) _) (.inr (by simp)) _) (.inr (by simp)) _
/-- A device that holds its cells, whoever holds its pages. -/
theorem drow_of {base : Nat} (ho : wr.ownsRow base 28 2 (.slice A n c) bs.length (bv bs)) (hl : bs.length = n) (hp : ∀ q, q ∈ bs → Row wr wr.heap.size q.A q.ps) : DRow wr wr.heap.size A bs := by
  refine ⟨fun hpos => ?_, hp⟩
  rcases ho.2 with ⟨e, e0⟩ | ⟨g', cap, cur, e, _, hgg, _⟩
  · omega
  · injection e with e1 e2 e3
    subst e1; subst e3
    refine ⟨g', 0, rfl, (Array.getElem?_eq_some_iff.1 hgg).1, (Array.getElem?_eq_some_iff.1 hgg).1, fun i p hi => ?_⟩
    have hlt : i < bs.length := (List.getElem?_eq_some_iff.1 hi).1
    obtain ⟨h0, h1⟩ := bv_at _ _ _ hi
    rw [← hl] at ho
    rw [Nat.zero_add]
    exact ⟨(World.ownsRow.cellAt ho _ (by omega)).trans h0, (World.ownsRow.cellAt ho _ (by omega)).trans h1⟩
/-- A drawn block is put behind the device. -/
theorem ESt.block {w1 w3 : World} {v' : Value} {m : Int} {Ab : Option Addr} {k cb : Nat} {ps : List Pg} (H : ESt w B g Q V A n c bs a b h wr) (hn : n ≤ 12) (hg : wr.grownBy w1 (some g)) (hr : Rd w1 B g Q') (hl : ps.length = k) (h4 : k ≤ 4) (hfr : ∀ ad, Ab = some ad → wr.heap.size ≤ ad.block) (hrow : Row w1 w1.heap.size Ab ps)
    (ho : w3.ownsRow w.heap.size 28 2 v' (n + 1) (bv bs ++ [.int .i64 m, .slice Ab k cb])) (hg3 : w1.grownBy w3 (Value.slice A n c).ownBlock) :
    ∃ A' c', v' = .slice A' (n + 1) c' ∧ FinSt w B g Q' V A' (n + 1) c' (bs ++ [⟨m, Ab, cb, ps⟩]) a b h w3 := by
  have H1 := H.grown hg hr
  obtain ⟨h1, ⟨hl0, _, hs⟩, h3, h4', h5, h6, h7, h8⟩ := H1
  have hbase := (H.2.2.2.2.2.1).size
  have hD := H.2.2.1
  have nA : ∀ {D : Nat} {q : Array Value}, Blk w1 D 43 q → some D ≠ (Value.slice A n c).ownBlock := fun {D q} hD e => owns_ne h3.1 hD (by decide) D e.symm rfl
  have h1' := h1.grown hg3 (nA h1)
  have h4'' := h4'.grown hg3 (nA h4')
  have g3 : ∀ k, (Value.slice A n c).ownBlock = some k → w.heap.size ≤ k ∧ k < wr.heap.size := fun k e => World.ownsRow.lt hD.1 k e
  have h5' := h5.grown hg3 (fun k e => ⟨by have := (g3 k e).1; have := h5.le; omega, by have := (g3 k e).1; omega⟩)
  have h6' : w.grownBy w3 (some g) := ⟨hg3.os.trans h6.os, hg3.tape.trans h6.tape, hg3.output.trans h6.output, Nat.le_trans h6.size hg3.size, fun i hi hne => (hg3.block i (Nat.lt_of_lt_of_le hi h6.size) (fun e => by have := (g3 i e.symm).1; omega)).trans (h6.block i hi hne)⟩
  have hlen : (bs ++ [(⟨m, Ab, cb, ps⟩ : Bk)]).length = n + 1 := by simp [hl0]
  have ho' : w3.ownsRow w.heap.size 28 2 v' (bs ++ [(⟨m, Ab, cb, ps⟩ : Bk)]).length (bv (bs ++ [⟨m, Ab, cb, ps⟩])) := by
    rw [hlen, bv_append]
    simpa [bv, Bk.row, hl] using ho
  have rows : ∀ q, q ∈ bs ++ [(⟨m, Ab, cb, ps⟩ : Bk)] → Row w3 w3.heap.size q.A q.ps := fun q hq => by
    rcases List.mem_append.1 hq with hq | hq
    · exact ((h3.2.1 q hq).kept hg3 (own_ne_dev (h3.2.1 q hq) h3.1)).row
    · simp at hq
      subst hq
      exact (Row.grownNe hrow hg3 (fun ad e => fun e2 => by have := (g3 _ e2).2; have := hfr ad e; omega)).here
  have pages : ∀ (q : Bk) (ad : Addr), q ∈ bs ++ [(⟨m, Ab, cb, ps⟩ : Bk)] → q.A = some ad → w.heap.size < ad.block := fun q ad hq e => by
    rcases List.mem_append.1 hq with hq | hq
    · have e0 : q.row.ownBlock = some ad.block := by simp [Bk.row, e, Value.ownBlock]
      have e1 := owns_ne (h3.2.1 q hq) h4' (by decide) ad.block e0
      have e2 := (World.ownsRow.lt (h3.2.1 q hq) ad.block e0).1
      omega
    · simp at hq
      subst hq
      have e1 := hfr ad e
      have e2 := H.2.2.2.1.lt
      omega
  have small : ∀ q, q ∈ bs ++ [(⟨m, Ab, cb, ps⟩ : Bk)] → q.ps.length ≤ 4 := fun q hq => by
    rcases List.mem_append.1 hq with hq | hq
    · exact hs q hq
    · simp at hq
      subst hq
      show ps.length ≤ 4
      omega
  rcases ho'.2 with ⟨_, e0⟩ | ⟨g', cap, cur, e, hb', hgg, hcap, hmax, _⟩
  · omega
  · rw [hlen] at e hcap
    subst e
    have hne := owns_ne ho' h4'' (by decide) g' rfl
    refine ⟨_, _, rfl, h1', ⟨hlen, by omega, hcap, hmax, small⟩, ⟨drow_of ho' hlen rows, fun ad e => ?_, pages⟩, h4'', h5', h6', h7, h8, _, rfl⟩
    injection e with e
    subst e
    show w.heap.size < g'
    omega
end
end Go.Proofs.Ytbhbbfpafonaiaa
