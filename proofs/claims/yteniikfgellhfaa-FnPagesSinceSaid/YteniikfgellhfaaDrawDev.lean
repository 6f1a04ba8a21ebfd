/- What the model draws for chapter 5: AppendPage keeps devices and heads valid; the state of l20Device.
   What the model draws for chapter 5: the ends of l20Device. -/
import Derived.Test.YteniikfgellhfaaHeads4
import Derived.Test.YteniikfgellhfaaDrawBlocks4
namespace Go.Proofs.Yteniikfgellhfaa
open Go.ChangeShapes Go.WideShapes Go.ChangeAt Go.RowKit

theorem written_of {m : Int} {ps : List Pg} {x1 x2 x3 x4 : Int} (hv : blockB m ps = true) (hp : pageB true x1 x2 x3 x4 = true) :
    ∃ ps1 r, WriteIs m ps true x1 x2 x3 x4 m 4 ps1 r ∧ -1 ≤ r ∧ r < 4 := by
  rcases next_cases m ps with hn | ⟨k, hk, h4, _⟩
  · exact ⟨ps, -1, .inr (.inl ⟨hv, rfl, hp, hn, rfl, rfl, rfl, rfl⟩), by omega, by omega⟩
  · exact ⟨_, k, .inr (.inr ⟨k, hv, rfl, hp, hk, h4, rfl, rfl, rfl, rfl⟩), by omega, by omega⟩
/-- A valid device, told by what its blocks are. -/
def devL (l : List (Int × List Pg)) : Bool := inB l.length 1 12 && l.all (fun q => blockB q.1 q.2)
theorem devB_list {bs : List Bk} {l : List (Int × List Pg)} (h : bs.map Bk.is = l) : devB bs = devL l := by
  subst h
  unfold devB devL
  rw [List.length_map, List.all_map]
  rfl
/-- What holds of a device holds of its copies. -/
theorem dev_same {bs cs : List Bk} (h : cs.map Bk.is = bs.map Bk.is) : devB cs = devB bs := (devB_list h).trans (devB_list rfl).symm
theorem devL_set {l : List (Int × List Pg)} (h : devL l = true) (k : Nat) {q : Int × List Pg} (hq : blockB q.1 q.2 = true) : devL (l.set k q) = true := by
  simp only [devL, Bool.and_eq_true, List.all_eq_true, List.length_set] at h ⊢
  exact ⟨h.1, fun p hp => by
    rcases List.mem_or_eq_of_mem_set hp with hp | rfl
    · exact h.2 p hp
    · exact hq⟩
theorem written_valid {m : Int} {ps ps1 : List Pg} {x1 x2 x3 x4 r : Int} (hv : blockB m ps = true) (hw : WriteIs m ps true x1 x2 x3 x4 m 4 ps1 r) : blockB m ps1 = true := by
  rcases hw with ⟨_, _, h4, _⟩ | ⟨_, _, _, _, _, _, rfl, _⟩ | ⟨k, _, _, hp, hk, h4, _, _, rfl, _⟩
  · omega
  · exact hv
  · exact write_valid hv hk h4 hp
theorem heads_set {n j : Nat} {a b h k a1 b1 h1 : Int} (hv : headsB n a b h = true) (hj : j < 3) (h0 : 0 ≤ k) (hn : k < (n : Int)) (ha : k ≠ a) (hb : k ≠ b) (hh : k ≠ h) (hs : hset a b h j k = (a1, b1, h1)) : headsB n a1 b1 h1 = true := by
  have h3 : j = 0 ∨ j = 1 ∨ j = 2 := by omega
  rcases h3 with rfl | rfl | rfl <;> simp only [hset, Prod.mk.injEq] at hs <;> obtain ⟨rfl, rfl, rfl⟩ := hs <;> simp [headsB, pairB, inB] at hv ⊢ <;> omega
/-- A valid device and valid heads are returned. -/
def AppValid (n : Nat) (w : World) (e : Ending) (w' : World) : Prop :=
  ∃ (A : Option Addr) (c : Nat) (cs : List Bk) (a b h r : Int), e = .returned (.tuple #[.slice A n c, .agg #[.int .i64 a, .int .i64 b, .int .i64 h], .int .i64 r]) ∧ cs.length = n ∧ devB cs = true ∧ headsB n a b h = true ∧ DOwn w' w.heap.size (.slice A n c) cs ∧ w.grownBy w' none
theorem AppMade.valid {l : List (Int × List Pg)} {n : Nat} {a b h r : Int} {w w' : World} {e : Ending} (H : AppMade l n a b h r w e w') (hl : devL l = true) (hh : headsB n a b h = true) : AppValid n w e w' := by
  obtain ⟨A, c, cs, rfl, h1, h2, h3, h4⟩ := H
  exact ⟨A, c, cs, a, b, h, r, rfl, h1, (devB_list h2).trans hl, hh, h3, h4⟩
theorem specAppend_valid (A : Option Addr) (n c j : Nat) (bs : List Bk) (a b h x1 x2 x3 x4 : Int) (w : World) (hj : j < 3) (hl : bs.length = n) (hr : DRow w w.heap.size A bs) (hv : headsB n a b h = true) (hd0 : devB bs = true) (hpg : pageB true x1 x2 x3 x4 = true) :
    Calls Try.prog 89 #[.slice A n c, .agg #[.int .i64 a, .int .i64 b, .int .i64 h], .int .i64 j, .agg #[.bool true, .int .i64 x1, .int .i64 x2, .int .i64 x3, .int .i64 x4]] w (AppValid n w) := by
  obtain ⟨_, hall⟩ := dev_parts hd0
  have hL : devL (bs.map Bk.is) = true := (devB_list rfl).symm.trans hd0
  have hx : ∃ x, hd a b h j = x ∧ -1 ≤ x ∧ x ≤ (n : Int) - 1 := by
    have h3 : j = 0 ∨ j = 1 ∨ j = 2 := by omega
    simp [headsB, inB] at hv
    rcases h3 with rfl | rfl | rfl <;> exact ⟨_, rfl, by simp only [hd]; omega, by simp only [hd]; omega⟩
  obtain ⟨x, hx, hx0, hx1⟩ := hx
  have fresh : (hd a b h j = -1 ∨ ∃ (i : Nat) (q : Bk), hd a b h j = (i : Int) ∧ bs[i]? = some q ∧ nextV q.m q.ps = -1) →
      Calls Try.prog 89 #[.slice A n c, .agg #[.int .i64 a, .int .i64 b, .int .i64 h], .int .i64 j, .agg #[.bool true, .int .i64 x1, .int .i64 x2, .int .i64 x3, .int .i64 x4]] w (AppValid n w) := fun hf => by
    rcases fresh_facts bs a b h bs.length with hy | ⟨k, hy, hk, ha, hb, hh, ⟨m, Ab, cb, ps⟩, hq, _⟩
    · exact (specAppend_none A n c j bs a b h x1 x2 x3 x4 w hj hl hr hv hd0 hpg hf hy).mono fun _ _ H => H.valid hL hv
    · have hvb := hall _ (List.mem_of_getElem? hq)
      obtain ⟨ps1, r0, hw, hr4⟩ := written_of hvb hpg
      refine (specAppend_fresh A n c j bs a b h x1 x2 x3 x4 w hj hl hr hv hd0 hpg hf k m Ab cb ps ps1 r0 _ _ _ hy hq hw hr4 rfl).mono fun _ _ H => H.valid (devL_set hL k (written_valid hvb hw)) ?_
      exact heads_set hv hj (by omega) (by omega) ha hb hh rfl
  rcases Int.lt_or_le x 0 with h0 | h0
  · exact fresh (.inl (by omega))
  · obtain ⟨k, rfl⟩ : ∃ k : Nat, x = (k : Int) := ⟨x.toNat, by omega⟩
    obtain ⟨⟨m, Ab, cb, ps⟩, hq⟩ : ∃ q, bs[k]? = some q := ⟨_, List.getElem?_eq_getElem (by omega)⟩
    have hvb := hall _ (List.mem_of_getElem? hq)
    rcases next_cases m ps with hn | ⟨i, hi, h4, _⟩
    · exact fresh (.inr ⟨k, _, hx, hq, hn⟩)
    · obtain ⟨ps1, r0, hw, hr4⟩ := written_of hvb hpg
      exact (specAppend_head A n c j bs a b h x1 x2 x3 x4 w hj hl hr hv hd0 hpg k m Ab cb ps ps1 r0 hx hq (by omega) hw hr4).mono fun _ _ H => H.valid (devL_set hL k (written_valid hvb hw)) hv

theorem same_set {l : List Value} {i : Nat} {v : Value} (h : l[i]? = some v) : l.set i v = l := by
  obtain ⟨hlt, rfl⟩ := List.getElem?_eq_some_iff.1 h
  exact List.set_getElem_self hlt
theorem bv_wear_set {bs : List Bk} {i : Nat} {b : Bk} (h : bs[i]? = some b) (m : Int) : bv (bs.set i ⟨m, b.A, b.c, b.ps⟩) = (bv bs).set (i * 2) (.int .i64 m) := by
  rw [bv_set]
  refine same_set ?_
  rw [List.getElem?_set_ne (by omega)]
  exact (bv_at _ _ _ h).2
theorem apart_put {bs : List Bk} {i : Nat} {b b' : Bk} (h : apart bs) (hi : bs[i]? = some b) (hA : b'.A = b.A) : apart (bs.set i b') := by
  intro j k b1 b2 a1 a2 hjk hj hk h1 h2
  have look : ∀ {j : Nat} {b1 : Bk}, (bs.set i b')[j]? = some b1 → ∃ c, bs[j]? = some c ∧ c.A = b1.A := fun {j b1} hj => by
    rw [List.getElem?_set] at hj
    split at hj
    · rename_i e
      subst e
      split at hj
      · injection hj with hj; subst hj; exact ⟨b, hi, hA.symm⟩
      · cases hj
    · exact ⟨b1, hj, rfl⟩
  obtain ⟨c1, hc1, e1⟩ := look hj
  obtain ⟨c2, hc2, e2⟩ := look hk
  exact h j k c1 c2 a1 a2 hjk hc1 hc2 (e1.trans h1) (e2.trans h2)
theorem DOwn.wears {w : World} {base g cap n i : Nat} {bs : List Bk} {b : Bk} (h : DOwn w base (.slice (some ⟨g, 0, none⟩) n cap) bs) (hn : bs.length = n) (hi : bs[i]? = some b) (m : Int) :
    DOwn (w.setCell ⟨g, i * 2, none⟩ (.int .i64 m)) base (.slice (some ⟨g, 0, none⟩) n cap) (bs.set i ⟨m, b.A, b.c, b.ps⟩) := by
  subst hn
  have far : ∀ {v : Value} {ps : List Pg}, Own w base v ps → Own (w.setCell ⟨g, i * 2, none⟩ (.int .i64 m)) base v ps := fun {v ps} ho => by
    have hv : v.ownBlock ≠ some g := by
      rcases own_ne_dev ho h.1 with e | e
      · rw [e]; simp
      · simpa [Value.ownBlock] using e
    exact ho.to_put hv _
  refine ⟨?_, fun b' hm => ?_, apart_put h.2.2 hi rfl⟩
  · rw [List.length_set, bv_wear_set hi]
    exact (World.ownsRow.stored h.1 (i * 2) (.int .i64 m)).1
  · rcases List.mem_or_eq_of_mem_set hm with hm | rfl
    · exact far (h.2.1 b' hm)
    · exact far (h.2.1 b (List.mem_of_getElem? hi))
/-- The draw of a device under way: the reader, the result's cell, the heads in their variable V, the device. -/
def DSt (w : World) (B g Q V : Nat) (A : Option Addr) (n c : Nat) (bs : List Bk) (a b h : Int) (wr : World) : Prop :=
  Blk wr V 77 #[.int .i64 a, .int .i64 b, .int .i64 h] ∧ (bs.length = n ∧ devB bs = true ∧ headsB n a b h = true) ∧ DOwn wr w.heap.size (.slice A n c) bs ∧
    Blk wr w.heap.size 77 #[.int .i64 0, .int .i64 0, .int .i64 0] ∧ Rd wr B g Q ∧ w.grownBy wr (some g) ∧ g < w.heap.size ∧ w.heap.size < V
theorem DOwn.far_row {w w' : World} {base g : Nat} {v : Value} {bs : List Bk} (h : DOwn w base v bs) (hg : w.grownBy w' (some g)) (hlt : g < base) : DOwn w' base v bs := by
  refine h.grown hg (.inr fun e => ?_) fun b a hb ha e => ?_
  · have := (World.ownsRow.lt h.1 g e).1
    omega
  · injection e with e
    have := (World.ownsRow.lt (h.2.1 b hb) a.block (by simp [Bk.row, ha, Value.ownBlock])).1
    omega
section
variable {w wr w' : World} {B g Q Q' V n c : Nat} {A : Option Addr} {bs : List Bk} {a b h : Int}
theorem DSt.grown (H : DSt w B g Q V A n c bs a b h wr) (hg : wr.grownBy w' (some g)) (hr : Rd w' B g Q') : DSt w B g Q' V A n c bs a b h w' := by
  obtain ⟨h1, h2, h3, h4, h5, h6, h7, h8⟩ := H
  exact ⟨h1.grown hg (by intro e; injection e with e; omega), h2, h3.far_row hg h7, h4.grown hg (by intro e; injection e with e; omega), hr, grown_trans h6 hg, h7, h8⟩
theorem DSt.kept (H : DSt w B g Q V A n c bs a b h wr) (hk : wr.grownBy w' none) : DSt w B g Q V A n c bs a b h w' :=
  H.grown (grown_some hk) (H.2.2.2.2.1.grown hk (by intro k e; cases e))
theorem DSt.drew (H : DSt w B g Q V A n c bs a b h wr) : DSt w B g Q V A n c bs a b h wr.drew := H.kept (grown_drew (grown_refl _ _))
theorem DSt.more (H : DSt w B g Q V A n c bs a b h wr) (hq : Q ≤ Q') : DSt w B g Q' V A n c bs a b h wr := ⟨H.1, H.2.1, H.2.2.1, H.2.2.2.1, H.2.2.2.2.1.more hq, H.2.2.2.2.2⟩
theorem DSt.cells (H : DSt w B g Q V A n c bs a b h wr) : wr.cell? ⟨V, 0, none⟩ = some (.int .i64 a) ∧ wr.cell? ⟨V, 1, none⟩ = some (.int .i64 b) ∧ wr.cell? ⟨V, 2, none⟩ = some (.int .i64 h) := cells3 H.1
/-- Another device and other heads. -/
theorem DSt.put {A1 : Option Addr} {n1 c1 : Nat} {cs : List Bk} {a1 b1 h1 : Int} (H : DSt w B g Q V A n c bs a b h wr) (hl : cs.length = n1) (hd : devB cs = true) (hh : headsB n1 a1 b1 h1 = true) (ho : DOwn wr w.heap.size (.slice A1 n1 c1) cs) :
    DSt w B g Q V A1 n1 c1 cs a1 b1 h1 (((wr.setCell ⟨V, 0, none⟩ (.int .i64 a1)).setCell ⟨V, 1, none⟩ (.int .i64 b1)).setCell ⟨V, 2, none⟩ (.int .i64 h1)) := by
  obtain ⟨h1', h2, h3, h4, h5, h6, h7, h8⟩ := H
  have hB := h5.le
  exact ⟨((h1'.put 0 _).put 1 _).put 2 _, ⟨hl, hd, hh⟩, ho.heads h1' _ _ _, ((h4.far (by simp; omega) _).far (by simp; omega) _).far (by simp; omega) _,
    ((h5.far (by simp; omega) (by simp; omega) _).far (by simp; omega) (by simp; omega) _).far (by simp; omega) (by simp; omega) _, grown_set (grown_set (grown_set h6 (.inr (by simp; omega)) _) (.inr (by simp; omega)) _) (.inr (by simp; omega)) _, h7, h8⟩
/-- A cell of a variable D of heads, made behind V, is written. -/
theorem DSt.far3 {D : Nat} {q : Array Value} (H : DSt w B g Q V A n c bs a b h wr) (hD : Blk wr D 77 q) (hVD : V < D) (u0 u1 u2 : Value) :
    DSt w B g Q V A n c bs a b h (((wr.setCell ⟨D, 0, none⟩ u0).setCell ⟨D, 1, none⟩ u1).setCell ⟨D, 2, none⟩ u2) := by
  obtain ⟨h1', h2, h3, h4, h5, h6, h7, h8⟩ := H
  have hB := h5.le
  exact ⟨((h1'.far (by simp; omega) _).far (by simp; omega) _).far (by simp; omega) _, h2, h3.heads hD _ _ _, ((h4.far (by simp; omega) _).far (by simp; omega) _).far (by simp; omega) _,
    ((h5.far (by simp; omega) (by simp; omega) _).far (by simp; omega) (by simp; omega) _).far (by simp; omega) (by simp; omega) _, grown_set (grown_set (grown_set h6 (.inr (by simp; omega)) _) (.inr (by simp; omega)) _) (.inr (by simp; omega)) _, h7, h8⟩
/-- The wear of a block is written. -/
theorem DSt.wear {gd i : Nat} {q : Bk} {m : Int} (H : DSt w B g Q V (some ⟨gd, 0, none⟩) n c bs a b h wr) (hi : bs[i]? = some q) (hm : inB m 0 100 = true) :
    DSt w B g Q V (some ⟨gd, 0, none⟩) n c (bs.set i ⟨m, q.A, q.c, q.ps⟩) a b h (wr.setCell ⟨gd, i * 2, none⟩ (.int .i64 m)) := by
  obtain ⟨h1', ⟨hl, hd, hh⟩, h3, h4, h5, h6, h7, h8⟩ := H
  have hB := h5.le
  have hge : w.heap.size ≤ gd := (World.ownsRow.lt h3.1 gd rfl).1
  have ne : ∀ {D : Nat} {cs : Array Value}, Blk wr D 77 cs → D ≠ gd := fun {D cs} hD => by
    rcases h3.1.2 with ⟨e, _⟩ | ⟨g', cap, cur, e, _, hgg, _⟩
    · cases e
    · injection e with e; injection e with e; injection e with e
      subst e
      rintro rfl
      unfold Blk at hD
      rw [hgg] at hD
      injection hD with hD
      injection hD with _ h2
      exact absurd h2 (by decide)
  have hq := (dev_parts hd).2 q (List.mem_of_getElem? hi)
  obtain ⟨p1, p2, p3⟩ := block_parts hq
  refine ⟨h1'.far (by show V ≠ gd; exact ne h1') _, ⟨by rw [List.length_set]; exact hl, ?_, hh⟩, h3.wears hl hi m, h4.far (by show w.heap.size ≠ gd; exact ne h4) _, h5.far (by show g ≠ gd; omega) (by show B ≤ gd; omega) _, grown_set h6 (.inr (by show w.heap.size ≤ gd; exact hge)) _, h7, h8⟩
  have hL : devL (bs.map Bk.is) = true := (devB_list rfl).symm.trans hd
  rw [devB_list (bs := bs.set i ⟨m, q.A, q.c, q.ps⟩) (l := (bs.map Bk.is).set i (m, q.ps)) (by rw [List.map_set]; rfl)]
  exact devL_set hL i (by simp [blockB, hm, p2, p3])
end
/-- A device is drawn. -/
def DrewDev (w : World) (B g P : Nat) (e : Ending) (w' : World) : Prop :=
  ∃ (A : Option Addr) (n c : Nat) (bs : List Bk) (a b h : Int), e = .returned (.tuple #[.slice A n c, .agg #[.int .i64 a, .int .i64 b, .int .i64 h]]) ∧ bs.length = n ∧ n ≤ 13 ∧ n ≤ c ∧ c ≤ maxLen ∧ (∀ q, q ∈ bs → q.ps.length ≤ 4) ∧ (∀ ad, A = some ad → w.heap.size ≤ ad.block) ∧ DRow w' w'.heap.size A bs ∧ Rd w' B g P ∧ w.grownBy w' (some g) ∧ (∃ ad, A = some ad) ∧ ∀ (q : Bk) (ad : Addr), q ∈ bs → q.A = some ad → w.heap.size ≤ ad.block
end Go.Proofs.Yteniikfgellhfaa
namespace Go.Proofs.Yteniikfgellhfaa
open Go.ChangeShapes Go.WideShapes Go.ChangeAt Go.RowKit

theorem specNewDevice_val {m : Int} {n : Nat} {w : World} (hm : m = (n : Int)) (h : inB (n : Int) 1 12 = true) : Calls Try.prog 88 #[.int .i64 m] w (DevMade (zs n) n w) := by
  subst hm
  exact specNewDevice_yes n w h
theorem zs_valid {n : Nat} (h : inB (n : Int) 1 12 = true) : devB (zs n) = true := by
  have e : (zs n).all (fun b => blockB b.m b.ps) = true := by
    rw [List.all_eq_true]
    intro b hb
    rw [List.eq_of_mem_replicate hb]
    exact new_valid (by decide)
  simp only [devB, e, zs_length, h, Bool.and_true]
theorem heads_none (n : Nat) (h : 1 ≤ n) : headsB n (-1) (-1) (-1) = true := by
  simp [headsB, pairB, inB]
  omega
/-- The draw behind the loops: the device is the call's own. -/
def ESt (w : World) (B g Q V : Nat) (A : Option Addr) (n c : Nat) (bs : List Bk) (a b h : Int) (wr : World) : Prop :=
  Blk wr V 77 #[.int .i64 a, .int .i64 b, .int .i64 h] ∧ (bs.length = n ∧ n ≤ 13 ∧ ∀ q, q ∈ bs → q.ps.length ≤ 4) ∧ DOwn wr w.heap.size (.slice A n c) bs ∧
    Blk wr w.heap.size 77 #[.int .i64 0, .int .i64 0, .int .i64 0] ∧ Rd wr B g Q ∧ w.grownBy wr (some g) ∧ g < w.heap.size ∧ w.heap.size < V
/-- The end: it is read only. -/
def FinSt (w : World) (B g Q V : Nat) (A : Option Addr) (n c : Nat) (bs : List Bk) (a b h : Int) (wr : World) : Prop :=
  Blk wr V 77 #[.int .i64 a, .int .i64 b, .int .i64 h] ∧ (bs.length = n ∧ n ≤ 13 ∧ n ≤ c ∧ c ≤ maxLen ∧ ∀ q, q ∈ bs → q.ps.length ≤ 4) ∧ (DRow wr wr.heap.size A bs ∧ (∀ ad, A = some ad → w.heap.size < ad.block) ∧ ∀ (q : Bk) (ad : Addr), q ∈ bs → q.A = some ad → w.heap.size < ad.block) ∧
    Blk wr w.heap.size 77 #[.int .i64 0, .int .i64 0, .int .i64 0] ∧ Rd wr B g Q ∧ w.grownBy wr (some g) ∧ g < w.heap.size ∧ w.heap.size < V ∧ ∃ ad, A = some ad
section
variable {w wr w' : World} {B g Q Q' V n c : Nat} {A : Option Addr} {bs : List Bk} {a b h : Int}
theorem DSt.e (H : DSt w B g Q V A n c bs a b h wr) : ESt w B g Q V A n c bs a b h wr := by
  obtain ⟨h1, ⟨hl, hd, hh⟩, h3⟩ := H
  obtain ⟨⟨_, h12⟩, hall⟩ := dev_parts hd
  exact ⟨h1, ⟨hl, by omega, fun q hq => by have := (block_parts (hall q hq)).2.1; omega⟩, h3⟩
theorem ESt.grown (H : ESt w B g Q V A n c bs a b h wr) (hg : wr.grownBy w' (some g)) (hr : Rd w' B g Q') : ESt w B g Q' V A n c bs a b h w' := by
  obtain ⟨h1, h2, h3, h4, h5, h6, h7, h8⟩ := H
  exact ⟨h1.grown hg (by intro e; injection e with e; omega), h2, h3.far_row hg h7, h4.grown hg (by intro e; injection e with e; omega), hr, grown_trans h6 hg, h7, h8⟩
theorem ESt.kept (H : ESt w B g Q V A n c bs a b h wr) (hk : wr.grownBy w' none) : ESt w B g Q V A n c bs a b h w' :=
  H.grown (grown_some hk) (H.2.2.2.2.1.grown hk (by intro k e; cases e))
theorem ESt.more (H : ESt w B g Q V A n c bs a b h wr) (hq : Q ≤ Q') : ESt w B g Q' V A n c bs a b h wr := ⟨H.1, H.2.1, H.2.2.1, H.2.2.2.1, H.2.2.2.2.1.more hq, H.2.2.2.2.2⟩
theorem ESt.dev {A1 : Option Addr} {n1 c1 : Nat} {cs : List Bk} (H : ESt w B g Q V A n c bs a b h wr) (hl : cs.length = n1) (hn : n1 ≤ 13) (hs : ∀ q, q ∈ cs → q.ps.length ≤ 4) (ho : DOwn wr w.heap.size (.slice A1 n1 c1) cs) : ESt w B g Q V A1 n1 c1 cs a b h wr :=
  ⟨H.1, ⟨hl, hn, hs⟩, ho, H.2.2.2⟩
/-- Blocks of cells of different types are different. -/
theorem owns_ne {base size D m : Nat} {t t' : TypeId} {v : Value} {xs : List Value} {q : Array Value} (h : wr.ownsRow base t size v m xs) (hD : Blk wr D t' q) (ht : t ≠ t') : ∀ k, v.ownBlock = some k → k ≠ D := fun k e => by
  rcases h.2 with ⟨rfl, _⟩ | ⟨g', cap, cur, rfl, _, hgg, _⟩
  · simp [Value.ownBlock] at e
  · simp only [Value.ownBlock, Option.some.injEq] at e
    subst e
    rintro rfl
    unfold Blk at hD
    rw [hgg] at hD
    injection hD with hD
    injection hD with _ h2
    exact ht h2
theorem ESt.fin (H : ESt w B g Q V A n c bs a b h wr) (hex : ∃ ad, A = some ad) : FinSt w B g Q V A n c bs a b h wr := by
  obtain ⟨h1, ⟨hl, hn, hs⟩, h3, h4, h5, h6, h7, h8⟩ := H
  have hc : n ≤ c ∧ c ≤ maxLen := by
    rcases h3.form with ⟨e, _⟩ | ⟨g', cap, e, _, _, h9, h10⟩
    · injection e with e1 e2 e3
      subst e2; subst e3
      exact ⟨Nat.le_refl _, Nat.zero_le _⟩
    · injection e with e1 e2 e3
      subst e3
      omega
  refine ⟨h1, ⟨hl, hn, hc.1, hc.2, hs⟩, ⟨h3.row, fun ad e => ?_, fun q ad hq e => ?_⟩, h4, h5, h6, h7, h8, hex⟩
  · subst e
    have e1 := owns_ne h3.1 h4 (by decide) ad.block rfl
    have e2 := (World.ownsRow.lt h3.1 ad.block rfl).1
    omega
  · have e0 : q.row.ownBlock = some ad.block := by simp [Bk.row, e, Value.ownBlock]
    have e1 := owns_ne (h3.2.1 q hq) h4 (by decide) ad.block e0
    have e2 := (World.ownsRow.lt (h3.2.1 q hq) ad.block e0).1
    omega
theorem FinSt.kept (H : FinSt w B g Q V A n c bs a b h wr) (hk : wr.grownBy w' none) : FinSt w B g Q V A n c bs a b h w' := by
  obtain ⟨h1, h2, ⟨h3, h3b⟩, h4, h5, h6, h7, h8, hex⟩ := H
  exact ⟨h1.keep hk, h2, ⟨(h3.kept hk).here, h3b⟩, h4.keep hk, h5.grown hk (by intro k e; cases e), grown_trans h6 (grown_some hk), h7, h8, hex⟩
theorem FinSt.drew (H : FinSt w B g Q V A n c bs a b h wr) : FinSt w B g Q V A n c bs a b h wr.drew := H.kept (grown_drew (grown_refl _ _))
theorem DRow.far {B' : Nat} {p : Addr} (H : DRow wr B' A bs) (hA : ∀ ad, A = some ad → ad.block ≠ p.block) (hP : ∀ (q : Bk) (ad : Addr), q ∈ bs → q.A = some ad → ad.block ≠ p.block) (u : Value) : DRow (wr.setCell p u) B' A bs := by
  refine ⟨fun hn => ?_, fun q hq => (H.2 q hq).far (fun ad e => hP q ad hq e) u⟩
  obtain ⟨g', off, rfl, hb, hz, hc⟩ := H.1 hn
  have hne := hA _ rfl
  exact ⟨g', off, rfl, hb, by simpa [World.setCell] using hz, fun i q hq => (hc i q hq).keep fun r hr => World.cell?_setCell_other wr p r u (fun e => hne (by subst e; exact hr.symm))⟩
/-- The result's cell is written: that is what is told of the draw. -/
theorem FinSt.out (H : FinSt w B g Q V A n c bs a b h wr) (u0 u1 u2 : Value) :
    DrewDev w B g Q (.returned (.tuple #[.slice A n c, .agg #[.int .i64 a, .int .i64 b, .int .i64 h]])) (((wr.setCell ⟨w.heap.size, 0, none⟩ u0).setCell ⟨w.heap.size, 1, none⟩ u1).setCell ⟨w.heap.size, 2, none⟩ u2) := by
  obtain ⟨h1, ⟨hl, hn, hnc, hcm, hs⟩, ⟨h3, h3A, h3P⟩, h4, h5, h6, h7, h8, hex⟩ := H
  have hB := h5.le
  have kA : ∀ ad, A = some ad → ad.block ≠ w.heap.size := fun ad e => by have := h3A ad e; omega
  have kP : ∀ (q : Bk) (ad : Addr), q ∈ bs → q.A = some ad → ad.block ≠ w.heap.size := fun q ad hq e => by have := h3P q ad hq e; omega
  refine ⟨A, n, c, bs, a, b, h, rfl, hl, hn, hnc, hcm, hs, fun ad e => Nat.le_of_lt (h3A ad e), ?_, ?_, ?_, hex, fun q ad hq e => Nat.le_of_lt (h3P q ad hq e)⟩
  · exact (((h3.far kA kP _).far kA kP _).far kA kP _).here
  · exact ((h5.far (by simp; omega) (by simp; omega) _).far (by simp; omega) (by simp; omega) _).far (by simp; omega) (by simp; omega) _
  · exact grown_set (grown_set (grown_set h6 (.inr (by simp)) _) (.inr (by simp)) _) (.inr (by simp)) _
/-- A device that holds its cells, whoever holds its pages. -/
theorem drow_of {base : Nat} (ho : wr.ownsRow base 87 2 (.slice A n c) bs.length (bv bs)) (hl : bs.length = n) (hp : ∀ q, q ∈ bs → Row wr wr.heap.size q.A q.ps) : DRow wr wr.heap.size A bs := by
  refine ⟨fun hpos => ?_, hp⟩
  rcases ho.2 with ⟨e, e0⟩ | ⟨g', cap, cur, e, _, hgg, _⟩
  · omega
  · injection e with e1 e2 e3
    subst e1; subst e3
    refine ⟨g', 0, rfl, (Array.getElem?_eq_some_iff.1 hgg).1, (Array.getElem?_eq_some_iff.1 hgg).1, fun i p hi => ?_⟩
    have hlt : i < bs.length := (List.getElem?_eq_some_iff.1 hi).1
    obtain ⟨h0, h1⟩ := bv_at _ _ _ hi
    rw [← hl] at ho
    rw [Nat.zero_add]
    exact ⟨(World.ownsRow.cellAt ho _ (by omega)).trans h0, (World.ownsRow.cellAt ho _ (by omega)).trans h1⟩
/-- A drawn block is put behind the device. -/
theorem ESt.block {w1 w3 : World} {v' : Value} {m : Int} {Ab : Option Addr} {k cb : Nat} {ps : List Pg} (H : ESt w B g Q V A n c bs a b h wr) (hn : n ≤ 12) (hg : wr.grownBy w1 (some g)) (hr : Rd w1 B g Q') (hl : ps.length = k) (h4 : k ≤ 4) (hfr : ∀ ad, Ab = some ad → wr.heap.size ≤ ad.block) (hrow : Row w1 w1.heap.size Ab ps)
    (ho : w3.ownsRow w.heap.size 87 2 v' (n + 1) (bv bs ++ [.int .i64 m, .slice Ab k cb])) (hg3 : w1.grownBy w3 (Value.slice A n c).ownBlock) :
    ∃ A' c', v' = .slice A' (n + 1) c' ∧ FinSt w B g Q' V A' (n + 1) c' (bs ++ [⟨m, Ab, cb, ps⟩]) a b h w3 := by
  have H1 := H.grown hg hr
  obtain ⟨h1, ⟨hl0, _, hs⟩, h3, h4', h5, h6, h7, h8⟩ := H1
  have hbase := (H.2.2.2.2.2.1).size
  have hD := H.2.2.1
  have nA : ∀ {D : Nat} {q : Array Value}, Blk w1 D 77 q → some D ≠ (Value.slice A n c).ownBlock := fun {D q} hD e => owns_ne h3.1 hD (by decide) D e.symm rfl
  have h1' := h1.grown hg3 (nA h1)
  have h4'' := h4'.grown hg3 (nA h4')
  have g3 : ∀ k, (Value.slice A n c).ownBlock = some k → w.heap.size ≤ k ∧ k < wr.heap.size := fun k e => World.ownsRow.lt hD.1 k e
  have h5' := h5.grown hg3 (fun k e => ⟨by have := (g3 k e).1; have := h5.le; omega, by have := (g3 k e).1; omega⟩)
  have h6' : w.grownBy w3 (some g) := ⟨hg3.os.trans h6.os, hg3.tape.trans h6.tape, hg3.output.trans h6.output, Nat.le_trans h6.size hg3.size, fun i hi hne => (hg3.block i (Nat.lt_of_lt_of_le hi h6.size) (fun e => by have := (g3 i e.symm).1; omega)).trans (h6.block i hi hne)⟩
  have hlen : (bs ++ [(⟨m, Ab, cb, ps⟩ : Bk)]).length = n + 1 := by simp [hl0]
  have ho' : w3.ownsRow w.heap.size 87 2 v' (bs ++ [(⟨m, Ab, cb, ps⟩ : Bk)]).length (bv (bs ++ [⟨m, Ab, cb, ps⟩])) := by
    rw [hlen, bv_append]
    simpa [bv, Bk.row, hl] using ho
  have rows : ∀ q, q ∈ bs ++ [(⟨m, Ab, cb, ps⟩ : Bk)] → Row w3 w3.heap.size q.A q.ps := fun q hq => by
    rcases List.mem_append.1 hq with hq | hq
    · exact ((h3.2.1 q hq).kept hg3 (own_ne_dev (h3.2.1 q hq) h3.1)).row
    · simp at hq
      subst hq
      exact (Row.grownNe hrow hg3 (fun ad e => fun e2 => by have := (g3 _ e2).2; have := hfr ad e; omega)).here
  have pages : ∀ (q : Bk) (ad : Addr), q ∈ bs ++ [(⟨m, Ab, cb, ps⟩ : Bk)] → q.A = some ad → w.heap.size < ad.block := fun q ad hq e => by
    rcases List.mem_append.1 hq with hq | hq
    · have e0 : q.row.ownBlock = some ad.block := by simp [Bk.row, e, Value.ownBlock]
      have e1 := owns_ne (h3.2.1 q hq) h4' (by decide) ad.block e0
      have e2 := (World.ownsRow.lt (h3.2.1 q hq) ad.block e0).1
      omega
    · simp at hq
      subst hq
      have e1 := hfr ad e
      have e2 := H.2.2.2.1.lt
      omega
  have small : ∀ q, q ∈ bs ++ [(⟨m, Ab, cb, ps⟩ : Bk)] → q.ps.length ≤ 4 := fun q hq => by
    rcases List.mem_append.1 hq with hq | hq
    · exact hs q hq
    · simp at hq
      subst hq
      show ps.length ≤ 4
      omega
  rcases ho'.2 with ⟨_, e0⟩ | ⟨g', cap, cur, e, hb', hgg, hcap, hmax, _⟩
  · omega
  · rw [hlen] at e hcap
    subst e
    have hne := owns_ne ho' h4'' (by decide) g' rfl
    refine ⟨_, _, rfl, h1', ⟨hlen, by omega, hcap, hmax, small⟩, ⟨drow_of ho' hlen rows, fun ad e => ?_, pages⟩, h4'', h5', h6', h7, h8, _, rfl⟩
    injection e with e
    subst e
    show w.heap.size < g'
    omega
end
end Go.Proofs.Yteniikfgellhfaa
