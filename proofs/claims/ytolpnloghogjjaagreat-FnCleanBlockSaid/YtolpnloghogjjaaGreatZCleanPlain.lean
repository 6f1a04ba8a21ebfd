/- Plain facts on cleaning: which pages are moved, one after another, and what stays true on the way.
   Plain facts on cleaning, further: all files have values; which pages of a block are moved; what CleanBlock answers. -/
import Derived.Test.YtolpnloghogjjaaGreatZCounts
import Derived.Test.YtolpnloghogjjaaGreatZLawHeads2
namespace Go.Proofs.YtolpnloghogjjaaGreat
open Go.ChangeShapes Go.WideShapes Go.ChangeAt Go.RowKit
set_option linter.unusedVariables false

/-- A device without its memory. -/
def bkOf (l : List (Int × List Pg)) : List Bk := l.map fun q => ⟨q.1, none, 0, q.2⟩
theorem bkOf_is (l : List (Int × List Pg)) : (bkOf l).map Bk.is = l := by
  unfold bkOf
  rw [List.map_map]
  exact List.map_id'' (fun _ => rfl) l
theorem bkOf_len (l : List (Int × List Pg)) : (bkOf l).length = l.length := by simp [bkOf]
theorem bk_is {l : List (Int × List Pg)} {cs : List Bk} (h : cs.map Bk.is = l) : cs.map Bk.is = (bkOf l).map Bk.is := h.trans (bkOf_is l).symm
theorem app_len {n n1 : Nat} {l l1 : List (Int × List Pg)} {a b h j a1 b1 h1 r : Int} {f : Bool} {x1 x2 x3 x4 : Int} (H : AppendIs n (bkOf l) a b h j f x1 x2 x3 x4 n1 l1 a1 b1 h1 r) (hr : 0 ≤ r) : l1.length = l.length := by
  rcases H with ⟨_, _, _, _, _, _, h6⟩ | ⟨j0, _, _, _, _, _, _, _, H⟩
  · omega
  · rcases H with ⟨k, m, ps, ps1, r0, _, _, _, _, _, rfl, _⟩ | ⟨_, k, m, ps, ps1, r0, _, _, _, _, rfl, _⟩ | ⟨_, _, rfl, _⟩
    · rw [List.length_set, bkOf_is]
    · rw [List.length_set, bkOf_is]
    · rw [bkOf_is]
/-- One page is appended to the cold head, a block that is no head and has a written page stays as it was. -/
theorem app_step {n n1 nn : Nat} {l l1 : List (Int × List Pg)} {a b h a1 b1 h1 r : Int} {f : Bool} {x1 x2 x3 x4 : Int} {q : Int × List Pg} (hl : l.length = n) (hq : l[nn]? = some q) (hw : 0 < cntF q.2) (na : (nn : Int) ≠ a) (nb : (nn : Int) ≠ b) (nh : (nn : Int) ≠ h)
    (H : AppendIs n (bkOf l) a b h 2 f x1 x2 x3 x4 n1 l1 a1 b1 h1 r) (hr : 0 ≤ r) :
    ∃ v : Nat, r = (v : Int) ∧ v < 48 ∧ v / 4 ≠ nn ∧ n1 = n ∧ f = true ∧ devL l1 = true ∧ headsB n a1 b1 h1 = true ∧ ((nn : Int) ≠ a1 ∧ (nn : Int) ≠ b1 ∧ (nn : Int) ≠ h1) ∧ pageL l1 v = some ⟨true, x1, x2, x3, x4⟩ ∧ pageL l v = some pz ∧ (∀ a, a ≠ v → pageL l1 a = pageL l a) ∧ l1[nn]? = some q := by
  rcases H with ⟨_, _, _, _, _, _, h6⟩ | ⟨j0, hj0, hj, hh, hd0, rfl, hpg, rfl, H⟩
  · omega
  obtain rfl : j0 = 2 := by omega
  have hpp : pgB ⟨true, x1, x2, x3, x4⟩ = true := hpg
  obtain ⟨⟨_, h12⟩, _⟩ := dev_parts hd0
  rw [bkOf_len] at h12
  have put : ∀ (k : Nat) (m : Int) (ps ps1 : List Pg) (r0 : Int), ((bkOf l).map Bk.is)[k]? = some (m, ps) → 0 ≤ nextV m ps → WriteIs m ps true x1 x2 x3 x4 m 4 ps1 r0 → k ≠ nn → l1 = ((bkOf l).map Bk.is).set k (m, ps1) → r = progV k r0 →
      ∃ v : Nat, r = (v : Int) ∧ v < 48 ∧ v / 4 ≠ nn ∧ devL l1 = true ∧ pageL l1 v = some ⟨true, x1, x2, x3, x4⟩ ∧ pageL l v = some pz ∧ (∀ a, a ≠ v → pageL l1 a = pageL l a) ∧ l1[nn]? = some q := fun k m ps ps1 r0 hi h0 hw hne hs hv => by
    obtain ⟨Ab, cb, hb⟩ := is_some hi
    have hkn : k < l.length := by have := (List.getElem?_eq_some_iff.1 hb).1; rwa [bkOf_len] at this
    rcases hw with ⟨_, _, e4, _, _⟩ | ⟨_, _, _, e, _⟩ | ⟨i, hvb, _, _, hn, hi4, _, _, rfl, rfl⟩
    · exact absurd e4 (by omega)
    · omega
    · have hpf := prog_facts (cs := bkOf l1) hd0 hb hn hi4 hpp rfl ((bkOf_is l1).trans hs)
      rw [devB_list (bkOf_is l1), page_list (bkOf_is l1), page_list (bkOf_is l)] at hpf
      refine ⟨k * 4 + i, by rw [hv, progV_pos k (by omega)]; omega, by omega, by omega, hpf.1, hpf.2.1, hpf.2.2.1, fun a ha => ?_, ?_⟩
      · have := hpf.2.2.2.1 a ha
        rwa [page_list (bkOf_is l1), page_list (bkOf_is l)] at this
      · rw [hs, bkOf_is, List.getElem?_set, if_neg hne]
        exact hq
  rcases H with ⟨k, m, ps, ps1, r0, hx, hi, h0, hw1, hr4, hs, rfl, rfl, rfl, hv⟩ | ⟨hf, k, m, ps, ps1, r0, hy, hi, hw1, hr4, hs, hst, hv⟩ | ⟨_, _, _, _, _, _, h5⟩
  · have hx' : h1 = (k : Int) := hx
    obtain ⟨v, g1, g2, g3, g4, g5, g6, g7, g8⟩ := put k m ps ps1 r0 hi h0 hw1 (by omega) hs hv
    exact ⟨v, g1, g2, g3, rfl, rfl, g4, hh, ⟨na, nb, nh⟩, g5, g6, g7, g8⟩
  · rcases fresh_facts (bkOf l) a b h (bkOf l).length with e | ⟨k', e, hlt, ka, kb, kh, q0, hq0, hn0⟩
    · have : freshV (bkOf l) a b h = -1 := e
      omega
    · have e2 : freshV (bkOf l) a b h = (k' : Int) := e
      obtain rfl : k' = k := by omega
      obtain ⟨Ab, cb, hb⟩ := is_some hi
      rw [hq0] at hb
      injection hb with hb
      subst hb
      have hne : k' ≠ nn := by
        rintro rfl
        rw [bkOf_is, hq] at hi
        injection hi with hi
        subst hi
        have hvb := (dev_parts hd0).2 _ (List.mem_of_getElem? hq0)
        simp only at hn0 hvb hw
        unfold nextV at hn0
        rw [if_pos hvb] at hn0
        split at hn0 <;> omega
      obtain ⟨v, g1, g2, g3, g4, g5, g6, g7, g8⟩ := put k' m ps ps1 r0 hi (by simp only at hn0; omega) hw1 hne hs hv
      rw [bkOf_len] at hlt
      obtain ⟨u1, u2, u3⟩ := hset_heads hh (show k' < n1 by omega) ka kb kh hj hst
      simp only [hset, Prod.mk.injEq] at hst
      obtain ⟨rfl, rfl, rfl⟩ := hst
      exact ⟨v, g1, g2, g3, rfl, rfl, g4, u1, ⟨na, nb, by omega⟩, g5, g6, g7, g8⟩
  · omega
/-- A device, a table and heads on the way. -/
structure MSt where
  l : List (Int × List Pg)
  T : List (List Int)
  a : Int
  b : Int
  h : Int
/-- Pages are moved one after another; none: one cannot be written. -/
def MovesIs (n : Nat) : List Pg → Int → MSt → Option MSt → Prop
  | [], _, x, o => o = some x
  | p :: r, s, x, o => ∃ (n1 : Nat) (l1 : List (Int × List Pg)) (a1 b1 h1 v : Int), AppendIs n (bkOf x.l) x.a x.b x.h 2 p.f p.a p.b p.c s n1 l1 a1 b1 h1 v ∧ (n1 ≤ 12 ∧ totL l1 ≤ 1048576) ∧ ((v < 0 ∧ o = none) ∨ (0 ≤ v ∧ MovesIs n r (s + 1) ⟨l1, tset x.T p.a.toNat p.b.toNat v, a1, b1, h1⟩ o))
theorem moves_is {n : Nat} : ∀ (r : List Pg) (s : Int) (x : MSt), x.l.length = n → ∃ o, MovesIs n r s x o
  | [], s, x, _ => ⟨_, rfl⟩
  | p :: r, s, x, hl => by
    obtain ⟨n1, l1, a1, b1, h1, v, hA, hs⟩ := append_is (bs := bkOf x.l) ((bkOf_len _).trans hl) x.a x.b x.h 2 p.f p.a p.b p.c s
    rcases Int.lt_or_le v 0 with hv | hv
    · exact ⟨none, n1, l1, a1, b1, h1, v, hA, hs, .inl ⟨hv, rfl⟩⟩
    · obtain ⟨o, ho⟩ := moves_is r (s + 1) ⟨l1, tset x.T p.a.toNat p.b.toNat v, a1, b1, h1⟩ ((app_len hA hv).trans hl)
      exact ⟨o, n1, l1, a1, b1, h1, v, hA, hs, .inr ⟨hv, ho⟩⟩
/-- What stays true on the way, while block nn is cleaned. -/
structure MInv (n nn : Nat) (q : Int × List Pg) (x : MSt) : Prop where
  len : x.l.length = n
  dev : devL x.l = true
  heads : headsB n x.a x.b x.h = true
  far : (nn : Int) ≠ x.a ∧ (nn : Int) ≠ x.b ∧ (nn : Int) ≠ x.h
  tab : TV x.T
  writ : ∀ (f k : Nat) (y : Int), cellO x.T f k = some y → 0 ≤ y → ∃ p, pageL x.l y.toNat = some p ∧ p.f = true ∧ p.a = (f : Int) ∧ p.b = (k : Int)
  blk : x.l[nn]? = some q
theorem MInv.devb {n nn : Nat} {q : Int × List Pg} {x : MSt} (H : MInv n nn q x) : devB (bkOf x.l) = true := (devB_list (bkOf_is _)).trans H.dev
theorem MInv.four {n nn : Nat} {q : Int × List Pg} {x : MSt} (H : MInv n nn q x) : q.2.length = 4 := by
  have hb : (bkOf x.l)[nn]? = some ⟨q.1, none, 0, q.2⟩ := by unfold bkOf; rw [List.getElem?_map, H.blk]; rfl
  exact (block_parts ((dev_parts H.devb).2 _ (List.mem_of_getElem? hb))).2.1
theorem MInv.page {n nn : Nat} {q : Int × List Pg} {x : MSt} (H : MInv n nn q x) {j : Nat} {p : Pg} (hp : q.2[j]? = some p) : pageL x.l (4 * nn + j) = some p := by
  have h4 := H.four
  have hj := (List.getElem?_eq_some_iff.1 hp).1
  unfold pageL
  rw [show (4 * nn + j) / 4 = nn by omega, show (4 * nn + j) % 4 = j by omega, H.blk]
  exact hp
theorem MInv.args {n nn : Nat} {q : Int × List Pg} {x : MSt} (H : MInv n nn q x) {j : Nat} {p : Pg} (hp : q.2[j]? = some p) (hf : p.f = true) : ∃ f k : Nat, p.a = (f : Int) ∧ p.b = (k : Int) ∧ f < 8 ∧ k < 6 :=
  full_in H.devb ((page_list (bkOf_is _) _).trans (H.page hp)) hf
theorem MInv.step {n nn n1 : Nat} {q : Int × List Pg} {x : MSt} {l1 : List (Int × List Pg)} {s a1 b1 h1 v : Int} (H : MInv n nn q x) {j : Nat} {p : Pg} (hp : q.2[j]? = some p) (hf : p.f = true)
    (hA : AppendIs n (bkOf x.l) x.a x.b x.h 2 p.f p.a p.b p.c s n1 l1 a1 b1 h1 v) (hv : 0 ≤ v) :
    n1 = n ∧ inB v (-1) 47 = true ∧ v / 4 ≠ (nn : Int) ∧ tabB (tset x.T p.a.toNat p.b.toNat v) = true ∧ MInv n nn q ⟨l1, tset x.T p.a.toNat p.b.toNat v, a1, b1, h1⟩ ∧ pageL l1 v.toNat = some ⟨true, p.a, p.b, p.c, s⟩ ∧ ∀ a, a ≠ v.toNat → pageL l1 a = pageL x.l a := by
  obtain ⟨f, k, ea, eb, hf8, hk6⟩ := H.args hp hf
  have hw : 0 < cntF q.2 := List.countP_pos_iff.2 ⟨p, List.mem_of_getElem? hp, hf⟩
  obtain ⟨u, rfl, hu, hne, rfl, _, hd1, hh1, hfar, hnew, hold, hoth, hblk⟩ := app_step H.len H.blk hw H.far.1 H.far.2.1 H.far.2.2 hA hv
  have hin : inB (u : Int) (-1) 47 = true := inB_iff.2 ⟨by omega, by omega⟩
  have hE : ¬ Elsewhere x.T f k (u : Int) := by
    rintro ⟨_, f', k', hc, _⟩
    obtain ⟨p', hp', hf', _⟩ := H.writ f' k' _ hc (by omega)
    rw [Int.toNat_natCast, hold] at hp'
    injection hp' with hp'
    subst hp'
    cases hf'
  have hT : TV (tset x.T f k (u : Int)) := tset_valid H.tab hf8 hk6 (by omega) hE
  rw [ea, eb, Int.toNat_natCast, Int.toNat_natCast]
  refine ⟨rfl, hin, by omega, (tabB_iff _).2 hT, ⟨(app_len hA hv).trans H.len, hd1, hh1, hfar, hT, fun f' k' y hc h0 => ?_, hblk⟩, by rw [Int.toNat_natCast, ← ea, ← eb]; exact hnew, fun a ha => hoth a (by rwa [Int.toNat_natCast] at ha)⟩
  simp only at hc ⊢
  rw [tset_cell H.tab hf8 hk6] at hc
  split at hc
  · rename_i e
    injection hc with hc
    subst hc
    obtain ⟨rfl, rfl⟩ := e
    exact ⟨⟨true, p.a, p.b, p.c, s⟩, by rw [Int.toNat_natCast]; exact hnew, rfl, ea, eb⟩
  · obtain ⟨p', hp', h3⟩ := H.writ f' k' y hc h0
    refine ⟨p', ?_, h3⟩
    rw [hoth]
    · exact hp'
    · intro e
      rw [e, hold] at hp'
      injection hp' with hp'
      subst hp'
      cases h3.1
end Go.Proofs.YtolpnloghogjjaaGreat
namespace Go.Proofs.YtolpnloghogjjaaGreat
open Go.ChangeShapes Go.WideShapes Go.ChangeAt Go.RowKit
set_option linter.unusedVariables false

/-- All files have values. -/
def readB (bs : List Bk) (T : List (List Int)) : Bool := (List.range 8).all fun f => (fvalV bs T ((f : Nat) : Int)).2
theorem readB_at {bs : List Bk} {T : List (List Int)} (h : readB bs T = true) {f : Nat} (hf : f < 8) : (fvalV bs T (f : Int)).2 = true := by
  unfold readB at h
  rw [List.all_eq_true] at h
  exact h f (List.mem_range.2 hf)
theorem readB_yes {bs : List Bk} {T : List (List Int)} (h : ∀ f : Nat, f < 8 → (fvalV bs T (f : Int)).2 = true) : readB bs T = true := by
  unfold readB
  rw [List.all_eq_true]
  exact fun f hf => h f (List.mem_range.1 hf)
theorem readB_no {bs : List Bk} {T : List (List Int)} {f : Nat} (hf : f < 8) (h : (fvalV bs T (f : Int)).2 = false) : readB bs T = false := by
  cases hb : readB bs T
  · rfl
  · rw [readB_at hb hf] at h; cases h
theorem readB_tab {bs : List Bk} {T : List (List Int)} (h : readB bs T = true) : devB bs = true ∧ tabB T = true := by
  have h0 := readB_at h (f := 0) (by omega)
  cases hd : devB bs
  · rw [fval_no1 hd] at h0; cases h0
  · cases hv : tabB T
    · rw [fval_no2 (file1 hv)] at h0; cases h0
    · exact ⟨rfl, rfl⟩
theorem vals_own {bs : List Bk} {xs : List Int} {f : Int} {z : Nat} {l : List Int} (h : valsTo bs xs f z = some l) {k : Nat} {x : Int} (hk : k < z) (hx : xs[k]? = some x) (h0 : 0 ≤ x) : isAt (readV bs x) f k = true := by
  induction z generalizing l with
  | zero => omega
  | succ z ih =>
    simp only [valsTo, Option.bind_eq_some_iff] at h
    obtain ⟨t, ht, h⟩ := h
    rcases Nat.lt_or_ge k z with h3 | h3
    · exact ih ht h3
    · obtain rfl : k = z := by omega
      have e : xs.getD k (-1) = x := by simp [List.getD_eq_getElem?_getD, hx]
      rw [e, if_neg (by omega)] at h
      split at h
      · rename_i h4; exact h4
      · cases h
/-- Where all files have values, the table names written pages of the very places. -/
theorem read_own {bs : List Bk} {T : List (List Int)} (h : readB bs T = true) {f k : Nat} {y : Int} (hc : cellO T f k = some y) (h0 : 0 ≤ y) : isAt (readV bs y) (f : Int) k = true := by
  obtain ⟨hd, hv⟩ := readB_tab h
  have hT := (tabB_iff _).1 hv
  obtain ⟨hk6, hf8⟩ := six_lt hT.six hc
  rw [hT.len] at hf8
  obtain ⟨xs, hx, hy⟩ := cellO_some hc
  have hB := file_yes hv (show inB (f : Int) 0 7 = true from inB_iff.2 ⟨by omega, by omega⟩)
  have hr := readB_at h hf8
  cases hvv : valsTo bs xs (f : Int) (szAt xs 6) with
  | none => rw [fval_none hd hB hx hvv] at hr; cases hr
  | some l =>
    rcases Nat.lt_or_ge k (szAt xs 6) with h1 | h1
    · exact vals_own hvv h1 hy h0
    · exact absurd h0 (szAt_from h1 hk6 hy)
theorem read_page {bs : List Bk} {T : List (List Int)} (h : readB bs T = true) {f k : Nat} {y : Int} (hc : cellO T f k = some y) (h0 : 0 ≤ y) : ∃ p, pageAt bs y.toNat = some p ∧ p.f = true ∧ p.a = (f : Int) ∧ p.b = (k : Int) := by
  have hi := read_own h hc h0
  have e : readV bs y = (pageAt bs y.toNat).getD pz := by unfold readV; rw [if_pos (readB_tab h).1, if_pos h0]
  rw [e] at hi
  cases hp : pageAt bs y.toNat with
  | none => rw [hp] at hi; simp [isAt, pz] at hi
  | some p =>
    rw [hp] at hi
    simp only [isAt, Option.getD_some, Bool.and_eq_true, beq_iff_eq] at hi
    exact ⟨p, rfl, hi.1.1, hi.1.2, hi.2⟩
theorem MInv.start {n nn : Nat} {bs : List Bk} {T : List (List Int)} {a b h : Int} {q : Int × List Pg} (hl : bs.length = n) (hv : (headsB n a b h && devB bs) = true) (hr : readB bs T = true) (hq : (bs.map Bk.is)[nn]? = some q) (hn : (nn : Int) ≠ a ∧ (nn : Int) ≠ b ∧ (nn : Int) ≠ h) : MInv n nn q ⟨bs.map Bk.is, T, a, b, h⟩ := by
  simp only [Bool.and_eq_true] at hv
  refine ⟨by rw [List.length_map]; exact hl, (devB_list rfl).symm.trans hv.2, hv.1, hn, (tabB_iff _).1 (readB_tab hr).2, fun f k y hc h0 => ?_, hq⟩
  obtain ⟨p, hp, h3⟩ := read_page hr hc h0
  exact ⟨p, (page_list rfl _).symm.trans hp, h3⟩
/-- Page k of a block is in the table. -/
def isUsed (T : List (List Int)) (nn k : Nat) : Bool := T.flatten.contains ((4 * nn + k : Nat) : Int)
/-- The pages that are moved, from page k on. -/
def movFrom (m : Nat → Bool) : Nat → List Pg → List Pg
  | _, [] => []
  | k, p :: r => if m k then p :: movFrom m (k + 1) r else movFrom m (k + 1) r
theorem mov_yes {m : Nat → Bool} {ps : List Pg} {k : Nat} {p : Pg} (hp : ps[k]? = some p) (hm : m k = true) : movFrom m k (ps.drop k) = p :: movFrom m (k + 1) (ps.drop (k + 1)) := by
  obtain ⟨h1, rfl⟩ := List.getElem?_eq_some_iff.1 hp
  rw [List.drop_eq_getElem_cons h1]
  simp only [movFrom, hm, if_true]
theorem mov_no {m : Nat → Bool} {ps : List Pg} {k : Nat} {p : Pg} (hp : ps[k]? = some p) (hm : m k = false) : movFrom m k (ps.drop k) = movFrom m (k + 1) (ps.drop (k + 1)) := by
  obtain ⟨h1, rfl⟩ := List.getElem?_eq_some_iff.1 hp
  rw [List.drop_eq_getElem_cons h1]
  simp only [movFrom, hm, Bool.false_eq_true, if_false]
theorem mov_end (m : Nat → Bool) {ps : List Pg} (h : ps.length = 4) : movFrom m 4 (ps.drop 4) = [] := by rw [List.drop_of_length_le (by omega)]; rfl
theorem mov_len (m : Nat → Bool) : ∀ (ps : List Pg) (k : Nat), (movFrom m k ps).length ≤ ps.length
  | [], _ => Nat.le_refl _
  | p :: r, k => by
    have := mov_len m r (k + 1)
    simp only [movFrom]
    split <;> simp only [List.length_cons] <;> omega
theorem used_cell {T : List (List Int)} (hv : tabB T = true) {nn k : Nat} (h : isUsed T nn k = true) : ∃ f j : Nat, cellO T f j = some ((4 * nn + k : Nat) : Int) := by
  unfold isUsed at h
  rw [List.contains_iff_mem] at h
  obtain ⟨i, hi⟩ := List.mem_iff_getElem?.1 h
  exact ⟨_, _, flat_cell ((tabB_iff _).1 hv).six hi⟩
theorem cell_used {T : List (List Int)} (hv : tabB T = true) {nn k f j : Nat} (h : cellO T f j = some ((4 * nn + k : Nat) : Int)) : isUsed T nn k = true := by
  have h6 := (six_lt ((tabB_iff _).1 hv).six h).1
  unfold isUsed
  rw [List.contains_iff_mem]
  exact List.mem_of_getElem? (tab_at hv h6 h)
section
variable {bs : List Bk} {T : List (List Int)} {nn k : Nat} {m : Int} {ps : List Pg} {p : Pg}
theorem page_at (hd : devB bs = true) (hb : (bs.map Bk.is)[nn]? = some (m, ps)) (hp : ps[k]? = some p) : k < 4 ∧ pageAt bs (4 * nn + k) = some p := by
  obtain ⟨Ab, cb, hb'⟩ := is_some hb
  have h4 : ps.length = 4 := (block_parts ((dev_parts hd).2 _ (List.mem_of_getElem? hb'))).2.1
  have hk := (List.getElem?_eq_some_iff.1 hp).1
  refine ⟨by omega, ?_⟩
  unfold pageAt
  rw [show (4 * nn + k) / 4 = nn by omega, show (4 * nn + k) % 4 = k by omega, hb']
  exact hp
/-- A page that the table names is written, of its place. -/
theorem used_page (hr : readB bs T = true) (hb : (bs.map Bk.is)[nn]? = some (m, ps)) (hp : ps[k]? = some p) (hu : isUsed T nn k = true) : p.f = true ∧ ∃ f j : Nat, p.a = (f : Int) ∧ p.b = (j : Int) ∧ cellO T f j = some ((4 * nn + k : Nat) : Int) := by
  obtain ⟨hd, hv⟩ := readB_tab hr
  obtain ⟨f, j, hc⟩ := used_cell hv hu
  obtain ⟨p', hp', h1, h2, h3⟩ := read_page hr hc (by omega)
  rw [Int.toNat_natCast, (page_at hd hb hp).2] at hp'
  injection hp' with hp'
  subst hp'
  exact ⟨h1, f, j, h2, h3, hc⟩
/-- What the model asks: the table's number at the page's place. -/
theorem used_is_at (hr : readB bs T = true) (hb : (bs.map Bk.is)[nn]? = some (m, ps)) (hp : ps[k]? = some p) {f j : Nat} {y : Int} (ha : p.a = (f : Int)) (hj : p.b = (j : Int)) (hc : cellO T f j = some y) : isUsed T nn k = decide (y = (nn : Int) * 4 + k) := by
  obtain ⟨hd, hv⟩ := readB_tab hr
  by_cases e : y = (nn : Int) * 4 + k
  · rw [decide_eq_true e]
    exact cell_used hv (f := f) (j := j) (by rw [hc, e]; congr 1; omega)
  · rw [decide_eq_false e]
    cases hu : isUsed T nn k
    · rfl
    · obtain ⟨_, f', j', h2, h3, hc'⟩ := used_page hr hb hp hu
      obtain rfl : f = f' := by omega
      obtain rfl : j = j' := by omega
      rw [hc] at hc'
      injection hc' with hc'
      exact absurd (by omega) e
end
/-- The numbers of a block's used pages. -/
def blkUsed (T : List (List Int)) (nn : Int) : List Int := (usedV T).filter fun x => decide (x / 4 = nn)
theorem blk_step {us : List Int} {nn : Int} {i : Nat} {x : Int} (h : us[i]? = some x) : (us.take (i + 1)).filter (fun x => decide (x / 4 = nn)) = (us.take i).filter (fun x => decide (x / 4 = nn)) ++ if x / 4 = nn then [x] else [] := by
  rw [List.take_add_one, h, List.filter_append]
  congr 1
  by_cases e : x / 4 = nn <;> simp [e]
/-- The numbers of the used pages among a block's first ones. -/
def movNums (m : Nat → Bool) (nn : Nat) : Nat → List Int
  | 0 => []
  | k + 1 => movNums m nn k ++ if m k then [((4 * nn + k : Nat) : Int)] else []
theorem blk_nums (L : List Int) (nn : Nat) (m : Nat → Bool) (hm : ∀ k, k < 4 → m k = L.contains ((4 * nn + k : Nat) : Int)) (k : Nat) : (usedTo L k).filter (fun x => decide (x / 4 = (nn : Int))) = movNums m nn (min (k - 4 * nn) 4) := by
  induction k with
  | zero => simp [usedTo, movNums]
  | succ k ih =>
    by_cases hk : k / 4 = nn
    · obtain ⟨j, hj⟩ : ∃ j, j = k - 4 * nn := ⟨_, rfl⟩
      have hj4 : j < 4 := by omega
      have e1 : min (k + 1 - 4 * nn) 4 = j + 1 := by omega
      have e2 : min (k - 4 * nn) 4 = j := by omega
      have e3 : 4 * nn + j = k := by omega
      rw [e2] at ih
      rw [e1]
      simp only [movNums, hm j hj4, e3]
      cases hc : L.contains (k : Int)
      · rw [used_no hc, ih]; simp
      · rw [used_yes hc, List.filter_append, ih]
        have : (k : Int) / 4 = (nn : Int) := by omega
        simp [this]
    · have e1 : min (k + 1 - 4 * nn) 4 = min (k - 4 * nn) 4 := by omega
      rw [e1, ← ih]
      cases hc : L.contains (k : Int)
      · rw [used_no hc]
      · rw [used_yes hc, List.filter_append]
        have : ¬ (k : Int) / 4 = (nn : Int) := by omega
        simp [this]
theorem blk_is {T : List (List Int)} (hv : tabB T = true) {nn : Nat} (hn : nn < 12) : blkUsed T nn = movNums (isUsed T nn) nn 4 := by
  unfold blkUsed
  rw [used_of hv, blk_nums _ nn (isUsed T nn) (fun _ _ => rfl) 48, show min (48 - 4 * nn) 4 = 4 by omega]
theorem nums_mem {m : Nat → Bool} {nn k : Nat} {x : Int} (h : x ∈ movNums m nn k) : ∃ j, j < k ∧ x = ((4 * nn + j : Nat) : Int) ∧ m j = true := by
  induction k with
  | zero => simp [movNums] at h
  | succ k ih =>
    simp only [movNums, List.mem_append] at h
    rcases h with h | h
    · obtain ⟨j, h1, h2⟩ := ih h
      exact ⟨j, by omega, h2⟩
    · cases hm : m k
      · rw [hm] at h; simp at h
      · rw [hm] at h
        simp only [if_true, List.mem_singleton] at h
        exact ⟨k, by omega, h, hm⟩
/-- The page with a number, of a block's pages. -/
def pgN (ps : List Pg) (x : Int) : Pg := (ps[x.toNat % 4]?).getD pz
theorem nums_pages (m : Nat → Bool) (nn : Nat) {ps : List Pg} (h : ps.length = 4) : (movNums m nn 4).map (pgN ps) = movFrom m 0 ps := by
  obtain ⟨a, b, c, d, rfl⟩ := four h
  have e : ∀ j, j < 4 → pgN [a, b, c, d] ((4 * nn + j : Nat) : Int) = ([a, b, c, d][j]?).getD pz := fun j hj => by
    unfold pgN
    rw [Int.toNat_natCast, show (4 * nn + j) % 4 = j by omega]
  have e0 := e 0 (by omega)
  rw [Nat.add_zero] at e0
  have e1 := e 1 (by omega)
  have e2 := e 2 (by omega)
  have e3 := e 3 (by omega)
  simp only [List.getElem?_cons_zero, List.getElem?_cons_succ, Option.getD_some] at e0 e1 e2 e3
  simp only [movNums, movFrom, List.nil_append]
  cases m 0 <;> cases m 1 <;> cases m 2 <;> cases m 3 <;> simp [-Int.natCast_add, -Int.natCast_mul, e0, e1, e2, e3]
theorem blk_pages {T : List (List Int)} (hv : tabB T = true) {nn : Nat} (hn : nn < 12) {ps : List Pg} (h : ps.length = 4) : (blkUsed T nn).map (pgN ps) = movFrom (isUsed T nn) 0 ps := by
  rw [blk_is hv hn, nums_pages _ _ h]
/-- The block is a head. -/
def headB (a b h x : Int) : Bool := (x == a) || (x == b) || (x == h)
/-- The arguments of CleanBlock. -/
def cleanB (n : Nat) (bs : List Bk) (T : List (List Int)) (a b h x s : Int) : Bool := (headsB n a b h && devB bs) && hasB n x && inB s 1 1000000 && readB bs T
/-- What CleanBlock answers. -/
def CleanIs (n : Nat) (bs : List Bk) (T : List (List Int)) (a b h x s : Int) (n1 : Nat) (l1 : List (Int × List Pg)) (m1 : Nat) (T1 : List (List Int)) (a1 b1 h1 mv : Int) (ok : Bool) : Prop :=
  (cleanB n bs T a b h x s = false ∧ n1 = 0 ∧ l1 = [] ∧ m1 = 0 ∧ T1 = [] ∧ a1 = 0 ∧ b1 = 0 ∧ h1 = 0 ∧ mv = 0 ∧ ok = false) ∨
  (cleanB n bs T a b h x s = true ∧ ∃ (nn : Nat) (m : Int) (ps : List Pg), x = (nn : Int) ∧ nn < n ∧ (bs.map Bk.is)[nn]? = some (m, ps) ∧ n1 = n ∧ m1 = 8 ∧
    ((headB a b h nn = true ∧ l1 = bs.map Bk.is ∧ T1 = T ∧ a1 = a ∧ b1 = b ∧ h1 = h ∧ mv = 0 ∧ ok = false) ∨
     (headB a b h nn = false ∧ ∃ o, MovesIs n (movFrom (isUsed T nn) 0 ps) s ⟨bs.map Bk.is, T, a, b, h⟩ o ∧
       ((o = none ∧ l1 = bs.map Bk.is ∧ T1 = T ∧ a1 = a ∧ b1 = b ∧ h1 = h ∧ mv = 0 ∧ ok = false) ∨
        (∃ y, o = some y ∧ m = 100 ∧ l1 = bs.map Bk.is ∧ T1 = T ∧ a1 = a ∧ b1 = b ∧ h1 = h ∧ mv = 0 ∧ ok = false) ∨
        ∃ y, o = some y ∧ m ≠ 100 ∧ l1 = y.l.set nn (m + 1, [pz, pz, pz, pz]) ∧ T1 = y.T ∧ a1 = y.a ∧ b1 = y.b ∧ h1 = y.h ∧ mv = ((movFrom (isUsed T nn) 0 ps).length : Nat) ∧ ok = true))))
theorem clean_parts {n : Nat} {bs : List Bk} {T : List (List Int)} {a b h x s : Int} (H : cleanB n bs T a b h x s = true) : (headsB n a b h && devB bs) = true ∧ hasB n x = true ∧ inB s 1 1000000 = true ∧ readB bs T = true := by
  simp only [cleanB, Bool.and_eq_true] at H ⊢
  exact ⟨H.1.1.1, H.1.1.2, H.1.2, H.2⟩
theorem head_no {a b h x : Int} (H : headB a b h x = false) : x ≠ a ∧ x ≠ b ∧ x ≠ h := by
  simp only [headB, Bool.or_eq_false_iff, beq_eq_false_iff_ne] at H
  exact ⟨H.1.1, H.1.2, H.2⟩
/-- The pages that are left to be moved are written ones of the block. -/
def MovOf (ps : List Pg) (r : List Pg) : Prop := ∀ p, p ∈ r → p.f = true ∧ ∃ j : Nat, ps[j]? = some p
theorem mov_of {m : Nat → Bool} {qs : List Pg} (h : ∀ (j : Nat) (p : Pg), qs[j]? = some p → m j = true → p.f = true) : ∀ (k : Nat) (ps : List Pg), (∀ (j : Nat), ps[j]? = qs[k + j]?) → MovOf qs (movFrom m k ps)
  | k, [], _ => fun p hp => by simp [movFrom] at hp
  | k, p :: r, he => by
    have ih := mov_of h (k + 1) r (fun j => by have := he (j + 1); rw [List.getElem?_cons_succ] at this; rw [this]; congr 1; omega)
    have h0 : qs[k]? = some p := by have := he 0; rw [List.getElem?_cons_zero] at this; exact this.symm
    simp only [movFrom]
    split
    · rename_i hm
      intro p' hp'
      rcases List.mem_cons.1 hp' with rfl | hp'
      · exact ⟨h k _ h0 hm, k, h0⟩
      · exact ih p' hp'
    · exact ih
/-- The whole way keeps what stays true. -/
theorem moves_inv {n nn : Nat} {q : Int × List Pg} : ∀ (r : List Pg) (s : Int) (x y : MSt), MovOf q.2 r → MInv n nn q x → MovesIs n r s x (some y) → MInv n nn q y
  | [], s, x, y, _, H, hm => by
    injection hm with hm
    rw [hm]; exact H
  | p :: r, s, x, y, ho, H, hm => by
    obtain ⟨n1, l1, a1, b1, h1, v, hA, hs, ⟨_, e⟩ | ⟨hv, hm⟩⟩ := hm
    · cases e
    · obtain ⟨hf, j, hj⟩ := ho p (by simp)
      exact moves_inv r (s + 1) _ y (fun p' hp' => ho p' (by simp [hp'])) (H.step hj hf hA hv).2.2.2.2.1 hm
theorem four_small {l : List (Int × List Pg)} (h : devL l = true) {k : Nat} {p : Int × List Pg} (hp : p.2.length ≤ 4) : totL (l.set k p) ≤ 1048576 ∧ totL l ≤ 1048576 := by
  have hd : devB (bkOf l) = true := (devB_list (bkOf_is l)).trans h
  have h4 := is_four hd
  rw [bkOf_is] at h4
  obtain ⟨⟨_, h12⟩, _⟩ := dev_parts hd
  rw [bkOf_len] at h12
  have h1 := totL_four (set_four (k := k) h4 hp)
  have h2 := totL_four h4
  rw [List.length_set] at h1
  omega
theorem clean_is {n : Nat} {bs : List Bk} (hl : bs.length = n) (T : List (List Int)) (a b h x s : Int) : ∃ n1 l1 m1 T1 a1 b1 h1 mv ok, CleanIs n bs T a b h x s n1 l1 m1 T1 a1 b1 h1 mv ok ∧ n1 ≤ 12 ∧ totL l1 ≤ 1048576 ∧ m1 ≤ 8 ∧ (∀ xs, xs ∈ T1 → xs.length = 6) ∧ l1.length = n1 ∧ T1.length = m1 := by
  cases hc : cleanB n bs T a b h x s
  · exact ⟨0, [], 0, [], 0, 0, 0, 0, false, .inl ⟨hc, rfl, rfl, rfl, rfl, rfl, rfl, rfl, rfl, rfl⟩, by omega, by simp [totL], by omega, fun xs hx => by simp at hx, rfl, rfl⟩
  · obtain ⟨hv, hx, hs, hr⟩ := clean_parts hc
    obtain ⟨hd, hT⟩ := readB_tab hr
    have hV := (tabB_iff _).1 hT
    simp [hasB] at hx
    obtain ⟨nn, rfl⟩ : ∃ k : Nat, x = (k : Int) := ⟨x.toNat, by omega⟩
    obtain ⟨⟨_, h12⟩, hall⟩ := dev_parts hd
    have hnn : nn < n := by omega
    obtain ⟨⟨m, A, c, ps⟩, hb⟩ : ∃ q, bs[nn]? = some q := ⟨_, List.getElem?_eq_getElem (by omega)⟩
    have hbi : (bs.map Bk.is)[nn]? = some (m, ps) := by rw [List.getElem?_map, hb]; rfl
    have hdL : devL (bs.map Bk.is) = true := (devB_list rfl).symm.trans hd
    have hz := (four_small hdL (k := 0) (p := (0, [])) (by simp)).2
    cases hh : headB a b h nn
    · obtain ⟨o, ho⟩ := moves_is (n := n) (movFrom (isUsed T nn) 0 ps) s ⟨bs.map Bk.is, T, a, b, h⟩ (by simpa using hl)
      cases o with
      | none => exact ⟨n, _, 8, T, a, b, h, 0, false, .inr ⟨hc, nn, m, ps, rfl, hnn, hbi, rfl, rfl, .inr ⟨hh, none, ho, .inl ⟨rfl, rfl, rfl, rfl, rfl, rfl, rfl, rfl⟩⟩⟩, by omega, hz, by omega, hV.six, by simpa using hl, hV.len⟩
      | some y =>
        by_cases hm : m = 100
        · exact ⟨n, _, 8, T, a, b, h, 0, false, .inr ⟨hc, nn, m, ps, rfl, hnn, hbi, rfl, rfl, .inr ⟨hh, _, ho, .inr (.inl ⟨y, rfl, hm, rfl, rfl, rfl, rfl, rfl, rfl, rfl⟩)⟩⟩, by omega, hz, by omega, hV.six, by simpa using hl, hV.len⟩
        · have hI := moves_inv _ _ _ _ (mov_of (fun j p hp hu => (used_page hr hbi hp hu).1) 0 ps (fun j => by rw [Nat.zero_add])) (MInv.start hl hv hr hbi (head_no hh)) ho
          exact ⟨n, _, 8, y.T, y.a, y.b, y.h, _, true, .inr ⟨hc, nn, m, ps, rfl, hnn, hbi, rfl, rfl, .inr ⟨hh, _, ho, .inr (.inr ⟨y, rfl, hm, rfl, rfl, rfl, rfl, rfl, rfl, rfl⟩)⟩⟩, by omega, (four_small hI.dev (by simp)).1, by omega, hI.tab.six, by rw [List.length_set]; exact hI.len, hI.tab.len⟩
    · exact ⟨n, _, 8, T, a, b, h, 0, false, .inr ⟨hc, nn, m, ps, rfl, hnn, hbi, rfl, rfl, .inl ⟨hh, rfl, rfl, rfl, rfl, rfl, rfl, rfl⟩⟩, by omega, hz, by omega, hV.six, by simpa using hl, hV.len⟩
end Go.Proofs.YtolpnloghogjjaaGreat
