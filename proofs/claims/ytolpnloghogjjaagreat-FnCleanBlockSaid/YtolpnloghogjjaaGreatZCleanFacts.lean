/- What the law of CleanBlock asks besides: the values are kept, the block is empty, the number of moved pages is its count.
   What the law of CleanBlock carries along: a device, a table and heads, the latter two in variables. -/
import Derived.Test.YtolpnloghogjjaaGreatZCleanPlain
import Derived.Test.YtolpnloghogjjaaGreatZCountFacts
import Derived.Test.YtolpnloghogjjaaGreatZDrawBoth
import Derived.Test.YtolpnloghogjjaaGreatZCleanSpec
import Derived.Test.YtolpnloghogjjaaGreatZDrawClean
import Derived.Test.YtolpnloghogjjaaGreatZSameTabs
namespace Go.Proofs.YtolpnloghogjjaaGreat
open Go.ChangeShapes Go.WideShapes Go.ChangeAt Go.RowKit
set_option linter.unusedVariables false

theorem mov_mem {m : Nat → Bool} : ∀ (ps : List Pg) (k j : Nat) (p : Pg), ps[j]? = some p → m (k + j) = true → p ∈ movFrom m k ps
  | [], _, j, p, h, _ => by simp at h
  | q :: r, k, 0, p, h, hm => by
    simp at h
    subst h
    simp only [Nat.add_zero] at hm
    simp [movFrom, hm]
  | q :: r, k, j + 1, p, h, hm => by
    have ih := mov_mem r (k + 1) j p (by simpa using h) (by rw [show k + 1 + j = k + (j + 1) by omega]; exact hm)
    simp only [movFrom]
    split
    · exact List.mem_cons_of_mem _ ih
    · exact ih
/-- Where a page that is moved came from. -/
def Src (x0 : MSt) (p : Pg) : Prop := ∃ (f k : Nat) (u : Int), p.a = (f : Int) ∧ p.b = (k : Int) ∧ cellO x0.T f k = some u ∧ 0 ≤ u ∧ pageL x0.l u.toNat = some p
/-- The values on the way; the pages of the block that are still named are left to be moved. -/
def VK (x0 : MSt) (nn : Nat) (x : MSt) (r : List Pg) : Prop := ∀ (f k : Nat) (u : Int), cellO x0.T f k = some u → (u < 0 ∧ cellO x.T f k = some u) ∨
  (0 ≤ u ∧ ∃ (v : Int) (p p' : Pg), cellO x.T f k = some v ∧ 0 ≤ v ∧ pageL x0.l u.toNat = some p ∧ pageL x.l v.toNat = some p' ∧ p'.c = p.c ∧ (v / 4 ≠ (nn : Int) ∨ p ∈ r))
theorem moves_vals {n nn : Nat} {q : Int × List Pg} {x0 : MSt} (H0 : MInv n nn q x0) : ∀ (r : List Pg) (s : Int) (x y : MSt), MovOf q.2 r → (∀ p, p ∈ r → Src x0 p) → MInv n nn q x → VK x0 nn x r → MovesIs n r s x (some y) → VK x0 nn y []
  | [], s, x, y, _, _, H, hV, hm => by
    injection hm with hm
    rw [hm]; exact hV
  | p0 :: r, s, x, y, ho, hS, H, hV, hm => by
    obtain ⟨n1, l1, a1, b1, h1, v0, hA, hs, ⟨_, e⟩ | ⟨hv, hm⟩⟩ := hm
    · cases e
    · obtain ⟨hf, j, hj⟩ := ho p0 (by simp)
      obtain ⟨_, hin, hvn, _, H', hnew, hoth⟩ := H.step hj hf hA hv
      obtain ⟨f0, k0, u0, ea, eb, hc0, hu0, hp0⟩ := hS p0 (by simp)
      refine moves_vals H0 r (s + 1) _ y (fun p' hp' => ho p' (by simp [hp'])) (fun p' hp' => hS p' (by simp [hp'])) H' (fun f k u hc => ?_) hm
      have hT' := H'.tab
      rw [ea, eb, Int.toNat_natCast, Int.toNat_natCast] at hT' ⊢
      obtain ⟨hk6, hf8⟩ := six_lt H0.tab.six hc
      obtain ⟨hk06, hf08⟩ := six_lt H0.tab.six hc0
      rw [H0.tab.len] at hf8 hf08
      have hcell : ∀ (f k : Nat), cellO (tset x.T f0 k0 v0) f k = if f = f0 ∧ k = k0 then some v0 else cellO x.T f k := fun f k => tset_cell H.tab hf08 hk06 v0 f k
      by_cases e : f = f0 ∧ k = k0
      · obtain ⟨rfl, rfl⟩ := e
        rw [hc0] at hc
        injection hc with hc
        subst hc
        exact .inr ⟨hu0, v0, p0, _, by rw [hcell, if_pos ⟨rfl, rfl⟩], hv, hp0, hnew, rfl, .inl hvn⟩
      · rcases hV f k u hc with ⟨h2, h3⟩ | ⟨h2, v, p, p', h3, h4, h5, h6, h7, h8⟩
        · exact .inl ⟨h2, by rw [hcell, if_neg e]; exact h3⟩
        · have hne : v.toNat ≠ v0.toNat := by
            intro e2
            have e3 : v = v0 := by omega
            subst e3
            exact e (hT'.one f k f0 k0 v (by rw [hcell, if_neg e]; exact h3) (by rw [hcell, if_pos ⟨rfl, rfl⟩]) h4)
          refine .inr ⟨h2, v, p, p', by rw [hcell, if_neg e]; exact h3, h4, h5, (hoth _ hne).trans h6, h7, ?_⟩
          rcases h8 with h8 | h8
          · exact .inl h8
          · rcases List.mem_cons.1 h8 with rfl | h8
            · obtain ⟨p2, g1, _, g3, g4⟩ := H0.writ f k u hc h2
              rw [h5] at g1
              injection g1 with g1
              subst g1
              exact absurd ⟨by omega, by omega⟩ e
            · exact .inr h8
section
variable {n nn : Nat} {bs : List Bk} {T : List (List Int)} {a b h s : Int} {m : Int} {ps : List Pg} {y : MSt}
theorem clean_vals (hl : bs.length = n) (hv : (headsB n a b h && devB bs) = true) (hr : readB bs T = true) (hq : (bs.map Bk.is)[nn]? = some (m, ps)) (hh : headB a b h nn = false) (hm : MovesIs n (movFrom (isUsed T nn) 0 ps) s ⟨bs.map Bk.is, T, a, b, h⟩ (some y)) :
    MInv n nn (m, ps) y ∧ VK ⟨bs.map Bk.is, T, a, b, h⟩ nn y [] := by
  have H0 := MInv.start hl hv hr hq (head_no hh)
  have hT := (readB_tab hr).2
  have ho : MovOf ps (movFrom (isUsed T nn) 0 ps) := mov_of (fun j p hp hu => (used_page hr hq hp hu).1) 0 ps (fun j => by rw [Nat.zero_add])
  have h4 : ps.length = 4 := H0.four
  have hsrc : ∀ p, p ∈ movFrom (isUsed T nn) 0 ps → Src ⟨bs.map Bk.is, T, a, b, h⟩ p := by
    have gen : ∀ (qs : List Pg) (k : Nat), (∀ j : Nat, qs[j]? = ps[k + j]?) → ∀ p, p ∈ movFrom (isUsed T nn) k qs → Src ⟨bs.map Bk.is, T, a, b, h⟩ p := by
      intro qs
      induction qs with
      | nil => intro k _ p hp; simp [movFrom] at hp
      | cons q0 r ih =>
        intro k he p hp
        have h0 : ps[k]? = some q0 := by have := he 0; rw [List.getElem?_cons_zero] at this; exact this.symm
        have ih' := ih (k + 1) (fun j => by have := he (j + 1); rw [List.getElem?_cons_succ] at this; rw [this]; congr 1; omega)
        simp only [movFrom] at hp
        split at hp
        · rename_i hu
          rcases List.mem_cons.1 hp with rfl | hp
          · obtain ⟨_, f, j, ea, eb, hc⟩ := used_page hr hq h0 hu
            exact ⟨f, j, _, ea, eb, hc, by omega, by rw [Int.toNat_natCast]; exact H0.page h0⟩
          · exact ih' p hp
        · exact ih' p hp
    exact gen ps 0 (fun j => by rw [Nat.zero_add])
  refine ⟨moves_inv _ _ _ _ ho H0 hm, moves_vals H0 _ _ _ _ ho hsrc H0 (fun f k u hc => ?_) hm⟩
  rcases Int.lt_or_le u 0 with hu | hu
  · exact .inl ⟨hu, hc⟩
  · obtain ⟨p, hp, _⟩ := H0.writ f k u hc hu
    refine .inr ⟨hu, u, p, p, hc, hu, hp, hp, rfl, ?_⟩
    by_cases e : u / 4 = (nn : Int)
    · obtain ⟨j, hj, rfl⟩ : ∃ j : Nat, j < 4 ∧ u = ((4 * nn + j : Nat) : Int) := ⟨(u - 4 * nn).toNat, by omega, by omega⟩
      have hpj : ps[j]? = some p := by
        have hpp := List.getElem?_eq_getElem (l := ps) (i := j) (by omega)
        have := H0.page hpp
        rw [Int.toNat_natCast, this] at hp
        rw [hpp]; exact hp
      exact .inr (mov_mem ps 0 j p hpj (by rw [Nat.zero_add]; exact cell_used hT hc))
    · exact .inl e
/-- The device behind the erasure. -/
theorem erased_ok (H : MInv n nn (m, ps) y) (hm : m ≠ 100) : blockB (m + 1) [pz, pz, pz, pz] = true ∧ devL (y.l.set nn (m + 1, [pz, pz, pz, pz])) = true ∧ nextV (m + 1) [pz, pz, pz, pz] = 0 ∧ ∀ v : Nat, v / 4 ≠ nn → pageL (y.l.set nn (m + 1, [pz, pz, pz, pz])) v = pageL y.l v := by
  have hb : (bkOf y.l)[nn]? = some ⟨m, none, 0, ps⟩ := by unfold bkOf; rw [List.getElem?_map, H.blk]; rfl
  have hv := (dev_parts H.devb).2 _ (List.mem_of_getElem? hb)
  obtain ⟨h1, _, _⟩ := block_parts hv
  have hbl : blockB (m + 1) [pz, pz, pz, pz] = true := by
    have h2 : inB (m + 1) 0 100 = true := by
      obtain ⟨h3, h4⟩ := inB_iff.1 h1
      simp only at h3 h4
      exact inB_iff.2 ⟨by omega, by omega⟩
    have h3 : ordB [pz, pz, pz, pz] = true := by rw [ord4]; decide
    simp [blockB, h2, h3]
  refine ⟨hbl, devL_set H.dev nn hbl, ?_, fun v hv => ?_⟩
  · unfold nextV
    rw [if_pos hbl]
    decide
  · unfold pageL
    rw [List.getElem?_set, if_neg (fun e => hv e.symm)]
theorem szAt_same {xs ys : List Int} : ∀ z : Nat, (∀ k, k < z → (0 ≤ xs.getD k (-1) ↔ 0 ≤ ys.getD k (-1))) → szAt xs z = szAt ys z
  | 0, _ => rfl
  | z + 1, hs => by
    have ih := szAt_same z fun k hk => hs k (by omega)
    have h1 := hs z (by omega)
    simp only [szAt, ih]
    by_cases e : 0 ≤ xs.getD z (-1)
    · rw [if_pos e, if_pos (h1.1 e)]
    · rw [if_neg e, if_neg (fun e2 => e (h1.2 e2))]
theorem vals_same {bs cs : List Bk} {xs ys : List Int} {f : Int} : ∀ (z : Nat) (l : List Int), (∀ k, k < z → (xs.getD k (-1) < 0 ∧ ys.getD k (-1) < 0) ∨ (0 ≤ xs.getD k (-1) ∧ 0 ≤ ys.getD k (-1) ∧ isAt (readV cs (ys.getD k (-1))) f k = true ∧ (readV cs (ys.getD k (-1))).c = (readV bs (xs.getD k (-1))).c)) → valsTo bs xs f z = some l → valsTo cs ys f z = some l
  | 0, l, _, h => h
  | z + 1, l, hs, h => by
    simp only [valsTo, Option.bind_eq_some_iff] at h ⊢
    obtain ⟨t, ht, h⟩ := h
    refine ⟨t, vals_same z t (fun k hk => hs k (by omega)) ht, ?_⟩
    rcases hs z (by omega) with ⟨h1, h2⟩ | ⟨h1, h2, h3, h4⟩
    · rw [if_pos h1] at h
      rw [if_pos h2]
      exact h
    · rw [if_neg (by omega)] at h
      rw [if_neg (by omega), if_pos h3, h4]
      split at h
      · exact h
      · cases h
/-- All files have the same values then. -/
theorem clean_fvals {cs : List Bk} (hr : readB bs T = true) (H : MInv n nn (m, ps) y) (hV : VK ⟨bs.map Bk.is, T, a, b, h⟩ nn y []) (hm : m ≠ 100) (hcs : cs.map Bk.is = y.l.set nn (m + 1, [pz, pz, pz, pz])) (f : Nat) (hf : f < 8) : fvalV cs y.T (f : Int) = fvalV bs T (f : Int) := by
  obtain ⟨hd, hT⟩ := readB_tab hr
  have hTV := (tabB_iff _).1 hT
  have hTV' := H.tab
  obtain ⟨_, hdl, _, hpg⟩ := erased_ok H hm
  have hd' : devB cs = true := (devB_list hcs).trans hdl
  have hfB := file_yes hT (show inB (f : Int) 0 7 = true from inB_iff.2 ⟨by omega, by omega⟩)
  have hfB' := file_yes ((tabB_iff _).2 hTV') (show inB (f : Int) 0 7 = true from inB_iff.2 ⟨by omega, by omega⟩)
  have hfT : f < T.length := by have := hTV.len; omega
  have hfT' : f < y.T.length := by have := hTV'.len; omega
  have hx := List.getElem?_eq_getElem (l := T) (i := f) (by have := hTV.len; omega)
  have hx' := List.getElem?_eq_getElem (l := y.T) (i := f) (by have := hTV'.len; omega)
  have h6 := hTV.six _ (List.mem_of_getElem? hx)
  have h6' := hTV'.six _ (List.mem_of_getElem? hx')
  have key : ∀ k, k < 6 → (T[f].getD k (-1) < 0 ∧ y.T[f].getD k (-1) < 0) ∨ (0 ≤ T[f].getD k (-1) ∧ 0 ≤ y.T[f].getD k (-1) ∧ isAt (readV cs (y.T[f].getD k (-1))) f k = true ∧ (readV cs (y.T[f].getD k (-1))).c = (readV bs (T[f].getD k (-1))).c) := fun k hk => by
    have hkT : k < T[f].length := by omega
    have hkT' : k < y.T[f].length := by omega
    have hu := List.getElem?_eq_getElem (l := T[f]) (i := k) (by omega)
    have hu' := List.getElem?_eq_getElem (l := y.T[f]) (i := k) (by omega)
    have eu : T[f].getD k (-1) = T[f][k] := by simp [List.getD_eq_getElem?_getD, hu]
    have eu' : y.T[f].getD k (-1) = y.T[f][k] := by simp [List.getD_eq_getElem?_getD, hu']
    rw [eu, eu']
    have hc := cellO_of hx hu
    have hc' := cellO_of hx' hu'
    rcases hV f k _ hc with ⟨h1, h2⟩ | ⟨h1, v, p, p', h2, h3, h4, h5, h6, h7⟩
    · rw [hc'] at h2
      injection h2 with h2
      exact .inl ⟨h1, by omega⟩
    · rw [hc'] at h2
      injection h2 with h2
      subst h2
      have hvn := h7.resolve_right (by simp)
      have e1 : pageAt cs (y.T[f][k]).toNat = some p' := by rw [page_list hcs, hpg _ (by omega)]; exact h5
      have e2 : pageAt bs (T[f][k]).toNat = some p := by rw [page_list rfl]; exact h4
      have r1 := readV_at hd' e1
      have r2 := readV_at hd e2
      rw [Int.toNat_of_nonneg h3] at r1
      rw [Int.toNat_of_nonneg h1] at r2
      obtain ⟨p2, g1, g2, g3, g4⟩ := H.writ f k _ hc' h3
      rw [h5] at g1
      injection g1 with g1
      subst g1
      exact .inr ⟨h1, h3, by rw [r1]; simp [isAt, g2, g3, g4], by rw [r1, r2, h6]⟩
  have hsz : szAt y.T[f] 6 = szAt T[f] 6 := szAt_same 6 fun k hk => by
    rcases key k hk with ⟨h1, h2⟩ | ⟨h1, h2, _⟩ <;> constructor <;> intro h3 <;> omega
  have hr8 := readB_at hr hf
  cases hvv : valsTo bs T[f] (f : Int) (szAt T[f] 6) with
  | none => rw [fval_none hd hfB hx hvv] at hr8; cases hr8
  | some l =>
    have hz := szAt_le T[f] 6
    have h2 := vals_same (szAt T[f] 6) l (fun k hk => key k (by omega)) hvv
    rw [fval_some hd hfB hx hvv, fval_some hd' hfB' hx' (by rw [hsz]; exact h2)]
/-- As many pages are moved as the block has used ones. -/
theorem clean_count (hr : readB bs T = true) (hq : (bs.map Bk.is)[nn]? = some (m, ps)) : (countsV bs T)[nn]? = some (((movFrom (isUsed T nn) 0 ps).length : Nat) : Int) := by
  obtain ⟨hd, hT⟩ := readB_tab hr
  obtain ⟨⟨_, h12⟩, hall⟩ := dev_parts hd
  obtain ⟨Ab, cb, hb⟩ := is_some hq
  have hn : nn < bs.length := (List.getElem?_eq_some_iff.1 hb).1
  have h4 : ps.length = 4 := (block_parts (hall _ (List.mem_of_getElem? hb))).2.1
  rw [counts_of hd hT, cntL_at _ _ hn, ← blk_pages hT (show nn < 12 by omega) h4, List.length_map]
  unfold blkUsed
  rw [used_of hT, ← List.countP_eq_length_filter]
  congr 2
  refine List.countP_congr fun u hu => ?_
  obtain ⟨h0, _, hmem⟩ := usedTo_mem.1 hu
  obtain ⟨i, hi⟩ := List.mem_iff_getElem?.1 hmem
  have hown := read_own hr (flat_cell ((tabB_iff _).1 hT).six hi) h0
  simp only [isAt, Bool.and_eq_true] at hown
  simp [inBlk, hown.1.1]
end
end Go.Proofs.YtolpnloghogjjaaGreat
namespace Go.Proofs.YtolpnloghogjjaaGreat
open Go.ChangeShapes Go.WideShapes Go.ChangeAt Go.RowKit
set_option linter.unusedVariables false

/-- A device, a table in variable V and heads in variable G, while the law walks on. -/
def XS (w : World) (V G : Nat) (A : Option Addr) (cs : List Bk) (B : Option Addr) (m d : Nat) (ts : List Li) (a b h : Int) (wr : World) : Prop :=
  DRow wr wr.heap.size A cs ∧ TRow wr wr.heap.size B ts ∧ Blk wr V 26 #[.slice B m d] ∧ Blk wr G 28 #[.int .i64 a, .int .i64 b, .int .i64 h] ∧ Below w.heap.size w wr
section
variable {w wr w' : World} {V G n c m d base : Nat} {A B : Option Addr} {cs : List Bk} {ts : List Li} {a b h : Int}
theorem XS.keep (H : XS w V G A cs B m d ts a b h wr) (k : wr.grownBy w' none) : XS w V G A cs B m d ts a b h w' := ⟨(H.1.kept k).here, (H.2.1.kept k).here, H.2.2.1.keep k, H.2.2.2.1.keep k, Below.and_kept H.2.2.2.2 k⟩
theorem XS.cells (H : XS w V G A cs B m d ts a b h wr) : wr.cell? ⟨V, 0, none⟩ = some (.slice B m d) ∧ wr.cell? ⟨G, 0, none⟩ = some (.int .i64 a) ∧ wr.cell? ⟨G, 1, none⟩ = some (.int .i64 b) ∧ wr.cell? ⟨G, 2, none⟩ = some (.int .i64 h) := ⟨H.2.2.1.cell 0, cells3 H.2.2.2.1⟩
theorem XS.start (hD : LD w A cs wr) (hT : LT w B ts wr) (m d : Nat) (a b h : Int) : XS w wr.heap.size (wr.heap.size + 1) A cs B m d ts a b h ((wr.alloc (.cells #[.slice B m d] 26)).alloc (.cells #[.int .i64 a, .int .i64 b, .int .i64 h] 28)) := by
  have hN := Blk.new (wr.alloc (.cells #[.slice B m d] 26)) 28 #[.int .i64 a, .int .i64 b, .int .i64 h]
  rw [size_alloc1] at hN
  exact ⟨((hD.alloc _).alloc _).1, ((hT.alloc _).alloc _).1, (Blk.new wr _ _).alloc _, hN, ((hD.alloc _).alloc _).2⟩
theorem XS.made (hb : Below w.heap.size w wr) (hd : DOwn wr base (.slice A n c) cs) (ht : TOwn wr base (.slice B m d) ts) (a b h : Int) : XS w wr.heap.size (wr.heap.size + 1) A cs B m d ts a b h ((wr.alloc (.cells #[.slice B m d] 26)).alloc (.cells #[.int .i64 a, .int .i64 b, .int .i64 h] 28)) :=
  XS.start ⟨hd.row, hb⟩ ⟨ht.row, hb⟩ m d a b h
end
theorem cell_keep {w w' : World} {q : Addr} {v : Value} (h : w.cell? q = some v) (k : w.grownBy w' none) : w'.cell? q = some v := (World.cell?_of_block (k.block q.block (World.block_lt_of_cell? w _ h) (by simp))).trans h
/-- The three ways of CleanBlock. -/
theorem clean_ways {n : Nat} {bs : List Bk} {T : List (List Int)} {a b h x s : Int} {n1 m1 : Nat} {l1 : List (Int × List Pg)} {T1 : List (List Int)} {a1 b1 h1 mv : Int} {ok : Bool} (hl : bs.length = n) (H : CleanIs n bs T a b h x s n1 l1 m1 T1 a1 b1 h1 mv ok) :
    (n1 = 0 ∧ l1 = [] ∧ m1 = 0 ∧ T1 = [] ∧ a1 = 0 ∧ b1 = 0 ∧ h1 = 0 ∧ mv = 0 ∧ ok = false) ∨
    (n1 = n ∧ l1 = bs.map Bk.is ∧ (m1 = 8 ∧ T.length = 8) ∧ T1 = T ∧ a1 = a ∧ b1 = b ∧ h1 = h ∧ mv = 0 ∧ ok = false) ∨
    ∃ (nn : Nat) (m : Int) (ps : List Pg), x = (nn : Int) ∧ nn < n ∧ (bs.map Bk.is)[nn]? = some (m, ps) ∧ n1 = n ∧ m1 = 8 ∧ l1[nn]? = some (m + 1, [pz, pz, pz, pz]) ∧ ok = true ∧ readB bs T = true ∧ (0 ≤ m ∧ m ≤ 100) ∧
      ∀ cs : List Bk, cs.map Bk.is = l1 → (headsB n a1 b1 h1 && devB cs) = true ∧ nextV (m + 1) [pz, pz, pz, pz] = 0 ∧ (∀ f : Nat, f < 8 → fvalV cs T1 (f : Int) = fvalV bs T (f : Int)) ∧ (countsV bs T)[nn]? = some mv ∧ (countsV bs T).length = n := by
  rcases H with ⟨_, h1, h2, h3, h4, h5, h6, h7, h8, h9⟩ | ⟨hc, nn, m, ps, rfl, hnn, hq, rfl, rfl, H⟩
  · exact .inl ⟨h1, h2, h3, h4, h5, h6, h7, h8, h9⟩
  · obtain ⟨hv, hb, ht, hr⟩ := clean_parts hc
    obtain ⟨hd, hT⟩ := readB_tab hr
    have h8 := ((tabB_iff _).1 hT).len
    rcases H with ⟨hh, g1, g2, g3, g4, g5, g6, g7⟩ | ⟨hh, o, hm, ⟨e, g1, g2, g3, g4, g5, g6, g7⟩ | ⟨y, e, em, g1, g2, g3, g4, g5, g6, g7⟩ | ⟨y, e, em, rfl, rfl, rfl, rfl, rfl, rfl, rfl⟩⟩
    · exact .inr (.inl ⟨rfl, g1, ⟨rfl, h8⟩, g2, g3, g4, g5, g6, g7⟩)
    · exact .inr (.inl ⟨rfl, g1, ⟨rfl, h8⟩, g2, g3, g4, g5, g6, g7⟩)
    · exact .inr (.inl ⟨rfl, g1, ⟨rfl, h8⟩, g2, g3, g4, g5, g6, g7⟩)
    · subst e
      obtain ⟨hI, hV⟩ := clean_vals hl hv hr hq hh hm
      obtain ⟨hbl, hdl, hnx, _⟩ := erased_ok hI em
      obtain ⟨Ab, cb, hbk⟩ := is_some hq
      have hm2 := inB_iff.1 (block_parts ((dev_parts hd).2 _ (List.mem_of_getElem? hbk))).1
      simp only at hm2
      refine .inr (.inr ⟨nn, m, ps, rfl, hnn, hq, rfl, rfl, by rw [List.getElem?_set_self (by rw [hI.len]; exact hnn)], rfl, hr, hm2, fun cs hcs => ⟨?_, hnx, fun f hf => clean_fvals hr hI hV em hcs f hf, clean_count hr hq, ?_⟩⟩)
      · rw [hI.heads, devB_list hcs, hdl]; rfl
      · rw [counts_of hd hT, cntL_length]; exact hl
end Go.Proofs.YtolpnloghogjjaaGreat
