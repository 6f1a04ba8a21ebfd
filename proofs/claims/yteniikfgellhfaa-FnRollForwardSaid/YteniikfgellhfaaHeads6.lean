/- What the model's AppendPage, HeadOf and FreshBlock answer, told by letters; the same of copies. -/
import Derived.Test.YteniikfgellhfaaHeads5
import Derived.Test.YteniikfgellhfaaExactDev3
namespace Go.Proofs.Yteniikfgellhfaa
open Go.ChangeShapes Go.WideShapes Go.ChangeAt Go.RowKit

theorem is_get {bs cs : List Bk} (h : cs.map Bk.is = bs.map Bk.is) (i : Nat) : (cs[i]?).map Bk.is = (bs[i]?).map Bk.is := by
  rw [← List.getElem?_map, ← List.getElem?_map, h]
theorem wear_same {bs cs : List Bk} (h : cs.map Bk.is = bs.map Bk.is) (i : Int) : wearAt cs i = wearAt bs i := by
  have e := is_get h i.toNat
  unfold wearAt
  cases hc : cs[i.toNat]? <;> cases hb : bs[i.toNat]? <;> rw [hc, hb] at e <;> simp [Bk.is] at e ⊢
  exact e.1
theorem freshOk_same {bs cs : List Bk} (h : cs.map Bk.is = bs.map Bk.is) (a b h9 best : Int) (k : Nat) : freshOk cs a b h9 best k = freshOk bs a b h9 best k := by
  have e := is_get h k
  unfold freshOk
  cases hc : cs[k]? <;> cases hb : bs[k]? <;> rw [hc, hb] at e <;> simp [Bk.is] at e ⊢
  rw [e.1, e.2, wear_same h]
theorem freshTo_same {bs cs : List Bk} (h : cs.map Bk.is = bs.map Bk.is) (a b h9 : Int) (k : Nat) : freshTo cs a b h9 k = freshTo bs a b h9 k := by
  induction k with
  | zero => rfl
  | succ k ih => simp only [freshTo, ih, freshOk_same h]
theorem fresh_same {bs cs : List Bk} (h : cs.map Bk.is = bs.map Bk.is) (a b h9 : Int) : freshV cs a b h9 = freshV bs a b h9 := by
  unfold freshV
  rw [freshTo_same h, is_length h]
/-- What FreshBlock answers. -/
def FreshIs (n : Nat) (bs : List Bk) (a b h r : Int) : Prop := ((headsB n a b h && devB bs) = false ∧ r = -1) ∨ ((headsB n a b h && devB bs) = true ∧ r = freshV bs a b h)
theorem fresh_is (n : Nat) (bs : List Bk) (a b h : Int) : ∃ r, FreshIs n bs a b h r := by
  cases hv : (headsB n a b h && devB bs)
  · exact ⟨_, .inl ⟨hv, rfl⟩⟩
  · exact ⟨_, .inr ⟨hv, rfl⟩⟩
theorem FreshIs.of {n : Nat} {bs cs : List Bk} {a b h r : Int} (H : FreshIs n bs a b h r) (hc : cs.map Bk.is = bs.map Bk.is) : FreshIs n cs a b h r := by
  unfold FreshIs
  rw [devB_is hc, fresh_same hc]
  exact H
theorem specFresh_val {A : Option Addr} {n c : Nat} {cs : List Bk} {a b h r : Int} {w : World} (H : FreshIs n cs a b h r) (hl : cs.length = n) (hr : DRow w w.heap.size A cs) (hn : n ≤ 1048576) (hp : ∀ b, b ∈ cs → b.ps.length ≤ 1048576) :
    Calls Try.prog 115 #[.slice A n c, .agg #[.int .i64 a, .int .i64 b, .int .i64 h]] w (KeptV (.int .i64 r) w) := by
  rcases H with ⟨h1, rfl⟩ | ⟨h1, rfl⟩
  · exact specFresh_no A n c cs a b h w h1 hl hr hn hp
  · exact specFresh_yes A n c cs a b h w h1 hl hr hn hp
/-- What HeadOf answers. -/
def HeadIs (n : Nat) (bs : List Bk) (a b h j r : Int) : Prop :=
  ((headsB n a b h && devB bs) = false ∧ r = -1) ∨ ((headsB n a b h && devB bs) = true ∧ inB j 0 2 = false ∧ r = -1) ∨ ∃ k : Nat, (headsB n a b h && devB bs) = true ∧ j = (k : Int) ∧ k < 3 ∧ r = hd a b h k
theorem head_is (n : Nat) (bs : List Bk) (a b h j : Int) : ∃ r, HeadIs n bs a b h j r := by
  cases hv : (headsB n a b h && devB bs)
  · exact ⟨_, .inl ⟨hv, rfl⟩⟩
  · cases hj : inB j 0 2
    · exact ⟨_, .inr (.inl ⟨hv, hj, rfl⟩)⟩
    · obtain ⟨h0, h2⟩ := inB_iff.1 hj
      exact ⟨_, .inr (.inr ⟨j.toNat, hv, by omega, by omega, rfl⟩)⟩
theorem HeadIs.of {n : Nat} {bs cs : List Bk} {a b h j r : Int} (H : HeadIs n bs a b h j r) (hc : cs.map Bk.is = bs.map Bk.is) : HeadIs n cs a b h j r := by
  unfold HeadIs
  rw [devB_is hc]
  exact H
theorem specHeadOf_val {A : Option Addr} {n c : Nat} {cs : List Bk} {a b h j r : Int} {w : World} (H : HeadIs n cs a b h j r) (hl : cs.length = n) (hr : DRow w w.heap.size A cs) (hn : n ≤ 1048576) (hp : ∀ b, b ∈ cs → b.ps.length ≤ 1048576) :
    Calls Try.prog 113 #[.slice A n c, .agg #[.int .i64 a, .int .i64 b, .int .i64 h], .int .i64 j] w (KeptV (.int .i64 r) w) := by
  rcases H with ⟨h1, rfl⟩ | ⟨h1, h2, rfl⟩ | ⟨k, h1, rfl, h3, rfl⟩
  · exact specHeadOf_no A n c cs a b h j w h1 hl hr hn hp
  · exact specHeadOf_heat A n c cs a b h j w h1 h2 hl hr hn hp
  · exact specHeadOf_ok A n c cs a b h k w h3 h1 hl hr hn hp
/-- The head that is asked for has no page left, or there is none. -/
def FullHead (bs : List Bk) (a b h : Int) (k : Nat) : Prop := hd a b h k = -1 ∨ ∃ (i : Nat) (m : Int) (ps : List Pg), hd a b h k = (i : Int) ∧ (bs.map Bk.is)[i]? = some (m, ps) ∧ nextV m ps = -1
/-- What AppendPage answers. -/
def AppendIs (n : Nat) (bs : List Bk) (a b h j : Int) (f : Bool) (x1 x2 x3 x4 : Int) (n1 : Nat) (l1 : List (Int × List Pg)) (a1 b1 h1 r : Int) : Prop :=
  (((headsB n a b h && devB bs) = false ∨ ((headsB n a b h && devB bs) = true ∧ inB j 0 2 = false) ∨ ((headsB n a b h && devB bs) = true ∧ inB j 0 2 = true ∧ (f && pageB f x1 x2 x3 x4) = false)) ∧ n1 = 0 ∧ l1 = [] ∧ a1 = 0 ∧ b1 = 0 ∧ h1 = 0 ∧ r = -1) ∨
  ∃ j0 : Nat, j = (j0 : Int) ∧ j0 < 3 ∧ headsB n a b h = true ∧ devB bs = true ∧ f = true ∧ pageB true x1 x2 x3 x4 = true ∧ n1 = n ∧
    ((∃ (k : Nat) (m : Int) (ps ps1 : List Pg) (r0 : Int), hd a b h j0 = (k : Int) ∧ (bs.map Bk.is)[k]? = some (m, ps) ∧ 0 ≤ nextV m ps ∧ WriteIs m ps true x1 x2 x3 x4 m 4 ps1 r0 ∧ (-1 ≤ r0 ∧ r0 < 4) ∧ l1 = (bs.map Bk.is).set k (m, ps1) ∧ a1 = a ∧ b1 = b ∧ h1 = h ∧ r = progV k r0) ∨
     (FullHead bs a b h j0 ∧ ∃ (k : Nat) (m : Int) (ps ps1 : List Pg) (r0 : Int), freshV bs a b h = (k : Int) ∧ (bs.map Bk.is)[k]? = some (m, ps) ∧ WriteIs m ps true x1 x2 x3 x4 m 4 ps1 r0 ∧ (-1 ≤ r0 ∧ r0 < 4) ∧ l1 = (bs.map Bk.is).set k (m, ps1) ∧ hset a b h j0 k = (a1, b1, h1) ∧ r = progV k r0) ∨
     (FullHead bs a b h j0 ∧ freshV bs a b h = -1 ∧ l1 = bs.map Bk.is ∧ a1 = a ∧ b1 = b ∧ h1 = h ∧ r = -1))
theorem hd_cases {n : Nat} {a b h : Int} (hv : headsB n a b h = true) (k : Nat) : hd a b h k = -1 ∨ ∃ i : Nat, hd a b h k = (i : Int) ∧ i < n := by
  have e : -1 ≤ hd a b h k ∧ hd a b h k ≤ (n : Int) - 1 := by
    simp [headsB, inB] at hv
    match k with
    | 0 => simp only [hd]; omega
    | 1 => simp only [hd]; omega
    | k + 2 => simp only [hd]; omega
  rcases Int.lt_or_le (hd a b h k) 0 with h0 | h0
  · exact .inl (by omega)
  · exact .inr ⟨(hd a b h k).toNat, by omega, by omega⟩
theorem append_is {n : Nat} {bs : List Bk} (hl : bs.length = n) (a b h j : Int) (f : Bool) (x1 x2 x3 x4 : Int) : ∃ n1 l1 a1 b1 h1 r, AppendIs n bs a b h j f x1 x2 x3 x4 n1 l1 a1 b1 h1 r ∧ n1 ≤ 12 ∧ totL l1 ≤ 1048576 := by
  cases hv : (headsB n a b h && devB bs)
  · exact ⟨0, [], 0, 0, 0, -1, .inl ⟨.inl hv, rfl, rfl, rfl, rfl, rfl, rfl⟩, by omega, by simp [totL]⟩
  · cases hj : inB j 0 2
    · exact ⟨0, [], 0, 0, 0, -1, .inl ⟨.inr (.inl ⟨hv, hj⟩), rfl, rfl, rfl, rfl, rfl, rfl⟩, by omega, by simp [totL]⟩
    · cases hg : (f && pageB f x1 x2 x3 x4)
      · exact ⟨0, [], 0, 0, 0, -1, .inl ⟨.inr (.inr ⟨hv, hj, hg⟩), rfl, rfl, rfl, rfl, rfl, rfl⟩, by omega, by simp [totL]⟩
      · simp only [Bool.and_eq_true] at hg hv
        obtain ⟨rfl, hpg⟩ := hg
        obtain ⟨hh, hd0⟩ := hv
        obtain ⟨h0, h2⟩ := inB_iff.1 hj
        obtain ⟨j0, rfl⟩ : ∃ k : Nat, j = (k : Int) := ⟨j.toNat, by omega⟩
        obtain ⟨⟨_, h12⟩, hall⟩ := dev_parts hd0
        have put : ∀ (k : Nat) (m : Int) (A : Option Addr) (c : Nat) (ps : List Pg), bs[k]? = some ⟨m, A, c, ps⟩ → (bs.map Bk.is)[k]? = some (m, ps) ∧ ∃ ps1 r0, WriteIs m ps true x1 x2 x3 x4 m 4 ps1 r0 ∧ (-1 ≤ r0 ∧ r0 < 4) ∧ totL ((bs.map Bk.is).set k (m, ps1)) ≤ 1048576 := fun k m A c ps hb => by
          have hvb := hall _ (List.mem_of_getElem? hb)
          obtain ⟨ps1, r0, hw, hr⟩ := write_of hvb hpg
          have hp1 := write_len hw (block_parts hvb).2.1
          have h3 := totL_four (set_four (k := k) (p := (m, ps1)) (is_four hd0) (by show ps1.length ≤ 4; omega))
          rw [List.length_set, List.length_map] at h3
          exact ⟨by rw [List.getElem?_map, hb]; rfl, ps1, r0, hw, hr, Nat.le_trans h3 (by omega)⟩
        have full : FullHead bs a b h j0 → ∃ n1 l1 a1 b1 h1 r, AppendIs n bs a b h (j0 : Int) true x1 x2 x3 x4 n1 l1 a1 b1 h1 r ∧ n1 ≤ 12 ∧ totL l1 ≤ 1048576 := fun hf => by
          rcases fresh_facts bs a b h bs.length with hy | ⟨k, hy, hk, _, _, _, ⟨m, A, c, ps⟩, hq, _⟩
          · have h3 := totL_four (is_four hd0)
            rw [List.length_map] at h3
            exact ⟨n, _, a, b, h, -1, .inr ⟨j0, rfl, by omega, hh, hd0, rfl, hpg, rfl, .inr (.inr ⟨hf, hy, rfl, rfl, rfl, rfl, rfl⟩)⟩, by omega, Nat.le_trans h3 (by omega)⟩
          · obtain ⟨hi, ps1, r0, hw, hr, ht⟩ := put k m A c ps hq
            exact ⟨n, _, _, _, _, _, .inr ⟨j0, rfl, by omega, hh, hd0, rfl, hpg, rfl, .inr (.inl ⟨hf, k, m, ps, ps1, r0, hy, hi, hw, hr, rfl, rfl, rfl⟩)⟩, by omega, ht⟩
        rcases hd_cases hh j0 with hx | ⟨k, hx, hkn⟩
        · exact full (.inl hx)
        · obtain ⟨⟨m, A, c, ps⟩, hb⟩ : ∃ b, bs[k]? = some b := ⟨_, List.getElem?_eq_getElem (by omega)⟩
          obtain ⟨hi, ps1, r0, hw, hr, ht⟩ := put k m A c ps hb
          rcases next_cases m ps with hn | ⟨i, hi2, _, _⟩
          · exact full (.inr ⟨k, m, ps, hx, hi, hn⟩)
          · exact ⟨n, _, a, b, h, _, .inr ⟨j0, rfl, by omega, hh, hd0, rfl, hpg, rfl, .inl ⟨k, m, ps, ps1, r0, hx, hi, by omega, hw, hr, rfl, rfl, rfl, rfl, rfl⟩⟩, by omega, ht⟩
theorem AppendIs.of {n n1 : Nat} {bs cs : List Bk} {a b h j : Int} {f : Bool} {x1 x2 x3 x4 a1 b1 h1 r : Int} {l1 : List (Int × List Pg)} (H : AppendIs n bs a b h j f x1 x2 x3 x4 n1 l1 a1 b1 h1 r) (hc : cs.map Bk.is = bs.map Bk.is) : AppendIs n cs a b h j f x1 x2 x3 x4 n1 l1 a1 b1 h1 r := by
  unfold AppendIs FullHead
  rw [devB_is hc, hc, fresh_same hc]
  exact H
theorem specAppend_val {A : Option Addr} {n c n1 : Nat} {cs : List Bk} {a b h j : Int} {f : Bool} {x1 x2 x3 x4 a1 b1 h1 r : Int} {l1 : List (Int × List Pg)} {w : World} (H : AppendIs n cs a b h j f x1 x2 x3 x4 n1 l1 a1 b1 h1 r) (hl : cs.length = n) (hr : DRow w w.heap.size A cs) (hn : n ≤ 1048576) (hp : ∀ b, b ∈ cs → b.ps.length ≤ 1048576) :
    Calls Try.prog 89 #[.slice A n c, .agg #[.int .i64 a, .int .i64 b, .int .i64 h], .int .i64 j, .agg #[.bool f, .int .i64 x1, .int .i64 x2, .int .i64 x3, .int .i64 x4]] w (AppMade l1 n1 a1 b1 h1 r w) := by
  rcases H with ⟨h0 | ⟨h0, h2⟩ | ⟨h0, h2, h3⟩, rfl, rfl, rfl, rfl, rfl, rfl⟩ | ⟨j0, rfl, hj, hh, hd0, rfl, hpg, rfl, H⟩
  · exact specAppend_no A n c cs a b h j f x1 x2 x3 x4 w h0 hl hr hn hp
  · exact specAppend_heat A n c cs a b h j f x1 x2 x3 x4 w h0 h2 hl hr hn hp
  · exact specAppend_page A n c cs a b h j f x1 x2 x3 x4 w h0 h2 h3 hl hr hn hp
  · have full : FullHead cs a b h j0 → (hd a b h j0 = -1 ∨ ∃ (i : Nat) (q : Bk), hd a b h j0 = (i : Int) ∧ cs[i]? = some q ∧ nextV q.m q.ps = -1) := fun hf => by
      rcases hf with hx | ⟨i, m, ps, hx, hi, hn2⟩
      · exact .inl hx
      · obtain ⟨A2, c2, hb⟩ := is_some hi
        exact .inr ⟨i, _, hx, hb, hn2⟩
    rcases H with ⟨k, m, ps, ps1, r0, hx, hi, h0, hw, hr4, rfl, rfl, rfl, rfl, rfl⟩ | ⟨hf, k, m, ps, ps1, r0, hy, hi, hw, hr4, rfl, hs, rfl⟩ | ⟨hf, hy, rfl, rfl, rfl, rfl, rfl⟩
    · obtain ⟨Ab, cb, hb⟩ := is_some hi
      exact specAppend_head A n1 c j0 cs a1 b1 h1 x1 x2 x3 x4 w hj hl hr hh hd0 hpg k m Ab cb ps ps1 r0 hx hb h0 hw hr4
    · obtain ⟨Ab, cb, hb⟩ := is_some hi
      exact specAppend_fresh A n1 c j0 cs a b h x1 x2 x3 x4 w hj hl hr hh hd0 hpg (full hf) k m Ab cb ps ps1 r0 a1 b1 h1 hy hb hw hr4 hs
    · exact specAppend_none A n1 c j0 cs a1 b1 h1 x1 x2 x3 x4 w hj hl hr hh hd0 hpg (full hf) hy
end Go.Proofs.Yteniikfgellhfaa
