/- The exact laws' helpers for devices, further (under way): szBlockS; a device that came in.
   The exact laws' helpers for devices, further (under way): heldBlockS.
   The exact laws' helpers for devices, further (under way): markBlockS.
   The exact laws' helpers for devices, further (under way): markBlockS.
   What the exact laws of chapter 5 carry along: a device that came in, and devices that the call owns.
   What the exact laws of chapter 5 carry along besides: free pages and pages of copies.
   What the exact law of NewDevice carries along.
   What the exact law of EraseAt carries along.
   What the exact law of Program carries along. -/
import Derived.Test.YtolpnloghogjjaaGreatZDevices
import Derived.Test.YtolpnloghogjjaaGreatZAggRows
import Derived.Test.YtolpnloghogjjaaGreatZDevices6
namespace Go.Proofs.YtolpnloghogjjaaGreat
open Go.ChangeShapes Go.WideShapes Go.ChangeAt Go.RowKit Go.Deep

/-- How many pages. -/
def tot (bs : List Bk) : Nat := (bs.map fun b => b.ps.length).sum
theorem tot_le {bs : List Bk} {b : Bk} (h : b ∈ bs) : b.ps.length ≤ tot bs := by
  induction bs with
  | nil => simp at h
  | cons p r ih =>
    simp only [tot, List.map_cons, List.sum_cons] at ih ⊢
    rcases List.mem_cons.1 h with rfl | h
    · omega
    · have := ih h
      omega
section
variable {H : Type} {enc : TypeId × Value → H} {w : World} {base : Nat} {spare : Nat → Bool} {held : Bool}
end
end Go.Proofs.YtolpnloghogjjaaGreat
namespace Go.Proofs.YtolpnloghogjjaaGreat
open Go.ChangeShapes Go.WideShapes Go.ChangeAt Go.RowKit

end Go.Proofs.YtolpnloghogjjaaGreat
namespace Go.Proofs.YtolpnloghogjjaaGreat
open Go.ChangeShapes Go.WideShapes Go.ChangeAt Go.RowKit

/-- Nothing outside of the blocks lo .. hi - 1 has changed. -/
structure Out (lo hi : Nat) (w w' : World) : Prop where
  os : w'.os = w.os
  tape : w'.tape = w.tape
  output : w'.output = w.output
  size : w.heap.size ≤ w'.heap.size
  block : ∀ i, i < w.heap.size → (i < lo ∨ hi ≤ i) → w'.heap[i]? = w.heap[i]?
theorem Out.refl (lo hi : Nat) (w : World) : Out lo hi w w := ⟨rfl, rfl, rfl, Nat.le_refl _, fun _ _ _ => rfl⟩
theorem Out.trans {lo hi : Nat} {a b c : World} (h : Out lo hi a b) (k : Out lo hi b c) : Out lo hi a c :=
  ⟨k.os.trans h.os, k.tape.trans h.tape, k.output.trans h.output, Nat.le_trans h.size k.size, fun i hi1 ho => (k.block i (Nat.lt_of_lt_of_le hi1 h.size) ho).trans (h.block i hi1 ho)⟩
theorem Out.setCell {lo hi : Nat} {a w : World} (h : Out lo hi a w) {p : Addr} (h1 : lo ≤ p.block) (h2 : p.block < hi) (u : Value) : Out lo hi a (w.setCell p u) :=
  ⟨h.os, h.tape, h.output, by simpa [World.setCell] using h.size, fun i hi1 ho => (Below.heap_setCell w p u i (by omega)).trans (h.block i hi1 ho)⟩
theorem Out.of_grown {lo hi : Nat} {w w' : World} {row : Option Nat} (h : w.grownBy w' row) (hr : ∀ g, row = some g → lo ≤ g ∧ g < hi) : Out lo hi w w' :=
  ⟨h.os, h.tape, h.output, h.size, fun i hi1 ho => h.block i hi1 (by intro e; have := hr i e.symm; omega)⟩
theorem Out.below {lo hi : Nat} {w w' : World} (h : Out lo hi w w') : Below lo w w' ∨ w.heap.size < lo := by
  rcases Nat.lt_or_ge w.heap.size lo with h1 | h1
  · exact .inr h1
  · exact .inl ⟨h.os, h.tape, h.output, h.size, fun i hi1 => h.block i (by omega) (.inl hi1)⟩
end Go.Proofs.YtolpnloghogjjaaGreat
namespace Go.Proofs.YtolpnloghogjjaaGreat
open Go.ChangeShapes Go.WideShapes Go.ChangeAt Go.RowKit

theorem set_same {l : List Value} {i : Nat} {v : Value} (h : l[i]? = some v) : l.set i v = l := by
  obtain ⟨hlt, rfl⟩ := List.getElem?_eq_some_iff.1 h
  exact List.set_getElem_self hlt
theorem bv_set_wear {bs : List Bk} {i : Nat} {b : Bk} (h : bs[i]? = some b) (m : Int) : bv (bs.set i ⟨m, b.A, b.c, b.ps⟩) = (bv bs).set (i * 2) (.int .i64 m) := by
  rw [bv_set]
  refine set_same ?_
  rw [List.getElem?_set_ne (by omega)]
  exact (bv_at _ _ _ h).2
theorem bv_set_pages {bs : List Bk} {i : Nat} {b : Bk} (h : bs[i]? = some b) {qs : List Pg} (hq : qs.length = b.ps.length) : bv (bs.set i ⟨b.m, b.A, b.c, qs⟩) = bv bs := by
  rw [bv_set]
  have h0 : (bv bs).set (i * 2) (.int .i64 b.m) = bv bs := set_same (bv_at _ _ _ h).1
  show ((bv bs).set (i * 2) (.int .i64 b.m)).set (i * 2 + 1) (Bk.row ⟨b.m, b.A, b.c, qs⟩) = bv bs
  rw [h0]
  refine set_same ?_
  have e : Bk.row ⟨b.m, b.A, b.c, qs⟩ = b.row := by simp [Bk.row, hq]
  rw [e]
  exact (bv_at _ _ _ h).2
theorem apart_set {bs : List Bk} {i : Nat} {b b' : Bk} (h : apart bs) (hi : bs[i]? = some b) (hA : b'.A = b.A) : apart (bs.set i b') := by
  intro j k b1 b2 a1 a2 hjk hj hk h1 h2
  have look : ∀ {j : Nat} {b1 : Bk}, (bs.set i b')[j]? = some b1 → ∃ c, bs[j]? = some c ∧ c.A = b1.A := fun {j b1} hj => by
    rw [List.getElem?_set] at hj
    split at hj
    · rename_i e
      subst e
      split at hj
      · injection hj with hj; subst hj; exact ⟨b, hi, hA.symm⟩
      · cases hj
    · exact ⟨b1, hj, rfl⟩
  obtain ⟨c1, hc1, e1⟩ := look hj
  obtain ⟨c2, hc2, e2⟩ := look hk
  exact h j k c1 c2 a1 a2 hjk hc1 hc2 (e1.trans h1) (e2.trans h2)
theorem DOwn.wear {w : World} {base g cap n i : Nat} {bs : List Bk} {b : Bk} (h : DOwn w base (.slice (some ⟨g, 0, none⟩) n cap) bs) (hn : bs.length = n) (hi : bs[i]? = some b) (m : Int) :
    DOwn (w.setCell ⟨g, i * 2, none⟩ (.int .i64 m)) base (.slice (some ⟨g, 0, none⟩) n cap) (bs.set i ⟨m, b.A, b.c, b.ps⟩) := by
  subst hn
  have far : ∀ {v : Value} {ps : List Pg}, Own w base v ps → Own (w.setCell ⟨g, i * 2, none⟩ (.int .i64 m)) base v ps := fun {v ps} ho => by
    have hv : v.ownBlock ≠ some g := by
      rcases own_ne_dev ho h.1 with e | e
      · rw [e]; simp
      · simpa [Value.ownBlock] using e
    exact ho.to_put hv _
  refine ⟨?_, fun b' hm => ?_, apart_set h.2.2 hi rfl⟩
  · rw [List.length_set, bv_set_wear hi]
    exact (World.ownsRow.stored h.1 (i * 2) (.int .i64 m)).1
  · rcases List.mem_or_eq_of_mem_set hm with hm | rfl
    · exact far (h.2.1 b' hm)
    · exact far (h.2.1 b (List.mem_of_getElem? hi))
theorem DOwn.pages {w w' : World} {base g cap n i : Nat} {bs : List Bk} {b : Bk} {qs : List Pg} (h : DOwn w base (.slice (some ⟨g, 0, none⟩) n cap) bs) (hi : bs[i]? = some b) (hq : qs.length = b.ps.length)
    (ho : Own w' base (.slice b.A b.ps.length b.c) qs) (hg : w.grownBy w' (Value.slice b.A b.ps.length b.c).ownBlock) : DOwn w' base (.slice (some ⟨g, 0, none⟩) n cap) (bs.set i ⟨b.m, b.A, b.c, qs⟩) := by
  have hb := h.2.1 b (List.mem_of_getElem? hi)
  refine ⟨?_, fun b' hm => ?_, apart_set h.2.2 hi rfl⟩
  · rw [List.length_set, bv_set_pages hi hq]
    refine World.ownsRow.kept h.1 hg ?_
    rcases own_ne_dev hb h.1 with e | e
    · exact .inr (by rw [show (Value.slice b.A b.ps.length b.c).ownBlock = none from e]; simp [Value.ownBlock])
    · exact .inr (Ne.symm e)
  · obtain ⟨j, hj⟩ := List.getElem?_of_mem hm
    rw [List.getElem?_set] at hj
    split at hj
    · split at hj
      · injection hj with hj; subst hj
        show Own w' base (.slice b.A qs.length b.c) qs
        rw [hq]; exact ho
      · cases hj
    · rename_i hne
      refine (h.2.1 b' (List.mem_of_getElem? hj)).kept hg ?_
      cases hA' : b'.A with
      | none => exact .inl (by simp [Bk.row, hA', Value.ownBlock])
      | some a' =>
        refine .inr ?_
        cases hA : b.A with
        | none => simp [Bk.row, hA', Value.ownBlock]
        | some a =>
          have := h.2.2 i j b b' a a' hne hi hj hA hA'
          simp only [Bk.row, hA', Value.ownBlock, ne_eq, Option.some.injEq]
          exact Ne.symm this
end Go.Proofs.YtolpnloghogjjaaGreat
namespace Go.Proofs.YtolpnloghogjjaaGreat
open Go.ChangeShapes Go.WideShapes Go.ChangeAt Go.RowKit

section
variable {w wr w' : World} {A Ax : Option Addr} {n c nx cx lo hi lox hix : Nat} {bs cs : List Bk}
theorem Out.grown (k : Out lo hi wr w') (hG : w.grownBy wr none) (hlo : w.heap.size ≤ lo) : w.grownBy w' none :=
  ⟨k.os.trans hG.os, k.tape.trans hG.tape, k.output.trans hG.output, Nat.le_trans hG.size k.size, fun i hi1 hne => (k.block i (Nat.lt_of_lt_of_le hi1 hG.size) (.inl (Nat.lt_of_lt_of_le hi1 hlo))).trans (hG.block i hi1 hne)⟩
/-- How many pages. -/
def totL (l : List (Int × List Pg)) : Nat := (l.map fun q => q.2.length).sum
theorem tot_is {l : List (Int × List Pg)} (h : bs.map Bk.is = l) : tot bs = totL l := by
  subst h
  simp [tot, totL, Bk.is, List.map_map, Function.comp_def]
theorem small_tot (h : tot bs ≤ 1048576) : ∀ b, b ∈ bs → b.ps.length ≤ 1048576 := fun _ hb => Nat.le_trans (tot_le hb) h
theorem allB_is {f : Int × List Pg → Bool} {g : Bk → Bool} (hg : ∀ b, g b = f b.is) (h : cs.map Bk.is = bs.map Bk.is) : cs.all g = bs.all g := by
  have e : ∀ l : List Bk, l.all g = (l.map Bk.is).all f := fun l => by
    rw [List.all_map]
    congr 1
    funext b
    exact hg b
  rw [e, e, h]
/-- What holds of a device holds of its copies. -/
theorem devB_is (h : cs.map Bk.is = bs.map Bk.is) : devB cs = devB bs := by
  unfold devB
  rw [is_length h, allB_is (f := fun q => blockB q.1 q.2) (g := fun b => blockB b.m b.ps) (fun _ => rfl) h]
end
end Go.Proofs.YtolpnloghogjjaaGreat
namespace Go.Proofs.YtolpnloghogjjaaGreat
open Go.ChangeShapes Go.WideShapes Go.ChangeAt Go.RowKit

theorem page_is {bs cs : List Bk} (h : cs.map Bk.is = bs.map Bk.is) (a : Nat) : pageAt cs a = pageAt bs a := by
  have e : ∀ l : List Bk, pageAt l a = ((l.map Bk.is)[a / 4]?).bind fun q => q.2[a % 4]? := fun l => by
    unfold pageAt
    rw [List.getElem?_map]
    cases l[a / 4]? <;> rfl
  rw [e, e, h]
/-- What ReadPage answers. -/
def ReadIs (n : Nat) (bs : List Bk) (a : Int) (p : Pg) : Prop :=
  (devB bs = false ∧ p = pz) ∨ (devB bs = true ∧ hasP n a = false ∧ p = pz) ∨ ∃ k : Nat, a = (k : Int) ∧ devB bs = true ∧ pageAt bs k = some p
theorem hasP_in {n : Nat} {a : Int} (h : hasP n a = false) : inB a 0 (4 * n - 1) = false := by
  cases h2 : inB a 0 (4 * n - 1)
  · rfl
  · obtain ⟨h3, h4⟩ := inB_iff.1 h2
    simp [hasP] at h
    omega
theorem ReadIs.of {n : Nat} {bs cs : List Bk} {a : Int} {p : Pg} (h : ReadIs n bs a p) (hc : cs.map Bk.is = bs.map Bk.is) : ReadIs n cs a p := by
  unfold ReadIs
  rw [devB_is hc]
  rcases h with h | h | ⟨k, h1, h2, h3⟩
  · exact .inl h
  · exact .inr (.inl h)
  · exact .inr (.inr ⟨k, h1, h2, by rw [page_is hc]; exact h3⟩)
theorem specReadPage_val {A : Option Addr} {n c : Nat} {cs : List Bk} {a : Int} {p : Pg} {w : World} (h : ReadIs n cs a p) (hl : cs.length = n) (hr : DRow w w.heap.size A cs) (hn : n ≤ 1048576) (hp : ∀ b, b ∈ cs → b.ps.length ≤ 1048576) :
    Calls Tryz.prog 81 #[.slice A n c, .int .i64 a] w (PageRead p w) := by
  rcases h with ⟨h1, rfl⟩ | ⟨h1, h2, rfl⟩ | ⟨k, rfl, h1, h2⟩
  · exact specReadPage_no A n c cs a w hl hr hn hp h1
  · exact specReadPage_out A n c cs a w hl hr hn hp h1 (hasP_in h2)
  · exact specReadPage_at A n c cs k p w hl hr h1 h2
end Go.Proofs.YtolpnloghogjjaaGreat
namespace Go.Proofs.YtolpnloghogjjaaGreat
open Go.ChangeShapes Go.WideShapes Go.ChangeAt Go.RowKit

end Go.Proofs.YtolpnloghogjjaaGreat
namespace Go.Proofs.YtolpnloghogjjaaGreat
open Go.ChangeShapes Go.WideShapes Go.ChangeAt Go.RowKit

theorem totL_four {l : List (Int × List Pg)} (h : ∀ q, q ∈ l → q.2.length ≤ 4) : totL l ≤ 4 * l.length := by
  induction l with
  | nil => simp [totL]
  | cons q r ih =>
    have h1 := h q (by simp)
    have h2 := ih fun q hq => h q (by simp [hq])
    simp only [totL, List.map_cons, List.sum_cons, List.length_cons] at h2 ⊢
    omega
theorem is_four {bs : List Bk} (hd : devB bs = true) : ∀ q, q ∈ bs.map Bk.is → q.2.length ≤ 4 := fun q hq => by
  obtain ⟨b, hb, rfl⟩ := List.mem_map.1 hq
  have := (block_parts ((dev_parts hd).2 b hb)).2.1
  show b.ps.length ≤ 4
  omega
theorem set_four {l : List (Int × List Pg)} {k : Nat} {p : Int × List Pg} (h : ∀ q, q ∈ l → q.2.length ≤ 4) (hp : p.2.length ≤ 4) : ∀ q, q ∈ l.set k p → q.2.length ≤ 4 := fun q hq => by
  rcases List.mem_or_eq_of_mem_set hq with hq | rfl
  · exact h q hq
  · exact hp
theorem is_some {bs : List Bk} {k : Nat} {m : Int} {ps : List Pg} (h : (bs.map Bk.is)[k]? = some (m, ps)) : ∃ A c, bs[k]? = some ⟨m, A, c, ps⟩ := by
  rw [List.getElem?_map] at h
  cases hb : bs[k]? with
  | none => rw [hb] at h; simp at h
  | some b =>
    obtain ⟨m', A, c, ps'⟩ := b
    rw [hb] at h
    simp [Bk.is] at h
    obtain ⟨rfl, rfl⟩ := h
    exact ⟨A, c, rfl⟩
/-- What EraseAt answers. -/
def EraseAtIs (n : Nat) (bs : List Bk) (a : Int) (n1 : Nat) (l1 : List (Int × List Pg)) (r : Bool) : Prop :=
  (devB bs = false ∧ n1 = 0 ∧ l1 = [] ∧ r = false) ∨ (devB bs = true ∧ hasB n a = false ∧ n1 = 0 ∧ l1 = [] ∧ r = false) ∨
  ∃ (k : Nat) (m m1 : Int) (ps ps1 : List Pg), a = (k : Int) ∧ devB bs = true ∧ (bs.map Bk.is)[k]? = some (m, ps) ∧ eraseIs m ps = (m1, ps1) ∧ r = !decide (m = 100) ∧ n1 = n ∧ l1 = (bs.map Bk.is).set k (m1, ps1)
theorem EraseAtIs.of {n n1 : Nat} {bs cs : List Bk} {a : Int} {l1 : List (Int × List Pg)} {r : Bool} (h : EraseAtIs n bs a n1 l1 r) (hc : cs.map Bk.is = bs.map Bk.is) : EraseAtIs n cs a n1 l1 r := by
  unfold EraseAtIs
  rw [devB_is hc, hc]
  exact h
theorem specEraseAt_val {A : Option Addr} {n c n1 : Nat} {cs : List Bk} {a : Int} {l1 : List (Int × List Pg)} {r : Bool} {w : World} (h : EraseAtIs n cs a n1 l1 r) (hl : cs.length = n) (hr : DRow w w.heap.size A cs) (hn : n ≤ 1048576) (hp : ∀ b, b ∈ cs → b.ps.length ≤ 1048576) :
    Calls Tryz.prog 44 #[.slice A n c, .int .i64 a] w (DevMade2 l1 n1 (.bool r) w) := by
  rcases h with ⟨h1, rfl, rfl, rfl⟩ | ⟨h1, h2, rfl, rfl, rfl⟩ | ⟨k, m, m1, ps, ps1, rfl, h1, h2, h3, h4, rfl, rfl⟩
  · exact specEraseAt_no A n c cs a w hl hr hn hp h1
  · exact specEraseAt_out A n c cs a w hl hr hn hp h1 h2
  · obtain ⟨Ab, cb, hb⟩ := is_some h2
    exact specEraseAt_at A n1 c k cs m m1 Ab cb ps ps1 r w hl hr h1 hb h3 h4
theorem eraseAt_val {A : Option Addr} {n c n1 : Nat} {cs : List Bk} {a : Int} {l1 : List (Int × List Pg)} {r : Bool} {w : World} (h : EraseAtIs n cs a n1 l1 r) (hl : cs.length = n) (hr : DRow w w.heap.size A cs) (hn : n ≤ 1048576) (hp : ∀ b, b ∈ cs → b.ps.length ≤ 1048576) :
    Calls Tryz.prog 77 #[.slice A n c, .int .i64 a] w (DevMade2 l1 n1 (.bool r) w) := by
  rcases h with ⟨h1, rfl, rfl, rfl⟩ | ⟨h1, h2, rfl, rfl, rfl⟩ | ⟨k, m, m1, ps, ps1, rfl, h1, h2, h3, h4, rfl, rfl⟩
  · exact eraseAt_no A n c cs a w hl hr hn hp h1
  · exact eraseAt_out A n c cs a w hl hr hn hp h1 h2
  · obtain ⟨Ab, cb, hb⟩ := is_some h2
    exact eraseAt_at A n1 c k cs m m1 Ab cb ps ps1 r w hl hr h1 hb h3 h4
end Go.Proofs.YtolpnloghogjjaaGreat
namespace Go.Proofs.YtolpnloghogjjaaGreat
open Go.ChangeShapes Go.WideShapes Go.ChangeAt Go.RowKit

theorem Blk.out {wr w' : World} {V lo hi : Nat} {t : TypeId} {cs : Array Value} (h : Blk wr V t cs) (k : Out lo hi wr w') (hv : V < lo ∨ hi ≤ V) : Blk w' V t cs := by
  have hlt := h.lt
  unfold Blk at h ⊢
  rw [k.block V hlt hv]
  exact h
theorem write_of {m : Int} {ps : List Pg} {x1 x2 x3 x4 : Int} (hv : blockB m ps = true) (hp : pageB true x1 x2 x3 x4 = true) :
    ∃ ps1 r, WriteIs m ps true x1 x2 x3 x4 m 4 ps1 r ∧ -1 ≤ r ∧ r < 4 := by
  rcases next_cases m ps with hn | ⟨k, hk, h4, _⟩
  · exact ⟨ps, -1, .inr (.inl ⟨hv, rfl, hp, hn, rfl, rfl, rfl, rfl⟩), by omega, by omega⟩
  · exact ⟨_, k, .inr (.inr ⟨k, hv, rfl, hp, hk, h4, rfl, rfl, rfl, rfl⟩), by omega, by omega⟩
end Go.Proofs.YtolpnloghogjjaaGreat
