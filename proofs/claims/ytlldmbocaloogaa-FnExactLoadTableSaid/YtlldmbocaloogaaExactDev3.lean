/- The exact laws' helpers for devices, further (under way): szBlockS; a device that came in.
   The exact laws' helpers for devices, further (under way): heldBlockS.
   The exact laws' helpers for devices, further (under way): markBlockS.
   The exact laws' helpers for devices, further (under way): markBlockS.
   What the exact laws of chapter 5 carry along: a device that came in, and devices that the call owns.
   What the exact laws of chapter 5 carry along besides: free pages and pages of copies.
   What the exact law of NewDevice carries along.
   What the exact law of EraseAt carries along.
   What the exact law of Program carries along. -/
import Derived.Test.YtlldmbocaloogaaDevices
import Derived.Test.YtlldmbocaloogaaAggRows
import Derived.Test.YtlldmbocaloogaaDevices6
namespace Go.Proofs.Ytlldmbocaloogaa
open Go.ChangeShapes Go.WideShapes Go.ChangeAt Go.RowKit Go.Deep

/-- What is left, or -1. -/
def SzB (n : Nat) (L : Int) (w : World) (e : Ending) (w' : World) : Prop := ∃ v : Int, e = .returned (.int .i64 v) ∧ w.grownBy w' none ∧ ((v = -1) ∨ (0 ≤ v ∧ v + n = L))
/-- What a walk is told of a device that came in. -/
def IsBlocks (w : World) (A : Option Addr) (n c : Nat) (bs : List Bk) : Prop := bs.length = n ∧ n ≤ c ∧ c ≤ maxLen ∧ DRow w w.heap.size A bs ∧ ∀ b, b ∈ bs → b.ps.length ≤ b.c ∧ b.c ≤ maxLen
/-- How many pages. -/
def tot (bs : List Bk) : Nat := (bs.map fun b => b.ps.length).sum
theorem tot_take {bs : List Bk} {k : Nat} {b : Bk} (h : bs[k]? = some b) : tot (bs.take (k + 1)) = tot (bs.take k) + b.ps.length := by
  unfold tot
  rw [List.take_add_one, h, List.map_append, List.sum_append]
  simp
theorem tot_le {bs : List Bk} {b : Bk} (h : b ∈ bs) : b.ps.length ≤ tot bs := by
  induction bs with
  | nil => simp at h
  | cons p r ih =>
    simp only [tot, List.map_cons, List.sum_cons] at ih ⊢
    rcases List.mem_cons.1 h with rfl | h
    · omega
    · have := ih h
      omega
/-- -1; or what is left, and the device is small. -/
def SzD (n : Nat) (bs : List Bk) (w : World) (e : Ending) (w' : World) : Prop := ∃ v : Int, e = .returned (.int .i64 v) ∧ w.grownBy w' none ∧ ((v = -1) ∨ (0 ≤ v ∧ n ≤ 1048576 ∧ tot bs ≤ 1048576))
/-- The same, and that no more is left than there was. -/
def SzD2 (n : Nat) (bs : List Bk) (w : World) (e : Ending) (w' : World) : Prop := ∃ v : Int, e = .returned (.int .i64 v) ∧ w.grownBy w' none ∧ ((v = -1) ∨ (0 ≤ v ∧ v ≤ 1048576 ∧ n ≤ 1048576 ∧ tot bs ≤ 1048576))
def SzRel (w : World) (bs : List Bk) (k : Nat) (L : Int) (wr : World) : Prop := k ≤ bs.length ∧ 0 ≤ L ∧ L ≤ 1048576 ∧ ((tot (bs.take k) : Int) + L ≤ 1048576) ∧ w.grownBy wr none
section
variable {H : Type} {enc : TypeId × Value → H} {w : World} {base : Nat} {spare : Nat → Bool} {held : Bool}
theorem all_bk {Q : Nat → Bk → Prop} (n : Nat) (h : ∀ i, i < n → ∃ p, Q i p) : ∃ ps : List Bk, ps.length = n ∧ ∀ i p, ps[i]? = some p → Q i p := by
  induction n with
  | zero => exact ⟨[], rfl, fun i p hp => by simp at hp⟩
  | succ n ih =>
    obtain ⟨ps, hl, hq⟩ := ih fun i hi => h i (by omega)
    obtain ⟨p, hp⟩ := h n (by omega)
    refine ⟨ps ++ [p], by simp [hl], fun i q hi => ?_⟩
    rcases Nat.lt_trichotomy i n with h1 | h1 | h1
    · rw [List.getElem?_append_left (by omega)] at hi
      exact hq i q hi
    · subst h1
      rw [List.getElem?_append_right (by omega), hl, Nat.sub_self] at hi
      simp at hi
      rw [← hi]; exact hp
    · rw [List.getElem?_eq_none (by simp; omega)] at hi
      cases hi
end
end Go.Proofs.Ytlldmbocaloogaa
namespace Go.Proofs.Ytlldmbocaloogaa
open Go.ChangeShapes Go.WideShapes Go.ChangeAt Go.RowKit

/-- A device marked from number K on; the number behind it. -/
def markL : Nat → List Bk → List Bk
  | _, [] => []
  | K, b :: r => ⟨(K : Int), b.A, b.c, marks (K + 1) b.ps.length⟩ :: markL (K + 1 + 5 * b.ps.length) r
def endK (K : Nat) (bs : List Bk) : Nat := K + bs.length + 5 * tot bs
theorem markL_length (K : Nat) (bs : List Bk) : (markL K bs).length = bs.length := by
  induction bs generalizing K with
  | nil => rfl
  | cons b r ih => simp [markL, ih]
theorem markL_at {K k : Nat} {bs : List Bk} {b : Bk} (h : bs[k]? = some b) : (markL K bs)[k]? = some ⟨((endK K (bs.take k) : Nat) : Int), b.A, b.c, marks (endK K (bs.take k) + 1) b.ps.length⟩ := by
  induction bs generalizing K k with
  | nil => simp at h
  | cons p r ih =>
    cases k with
    | zero => simp at h; subst h; simp [markL, endK, tot]
    | succ k =>
      have hh := ih (K := K + 1 + 5 * p.ps.length) (k := k) (by simpa using h)
      have e : endK (K + 1 + 5 * p.ps.length) (r.take k) = endK K ((p :: r).take (k + 1)) := by
        simp only [endK, List.take_succ_cons, List.length_cons, tot, List.map_cons, List.sum_cons]
        omega
      rw [e] at hh
      simpa [markL] using hh
theorem endK_step {K k : Nat} {bs : List Bk} {b : Bk} (h : bs[k]? = some b) : endK K (bs.take (k + 1)) = endK K (bs.take k) + 1 + 5 * b.ps.length := by
  have hk : k < bs.length := (List.getElem?_eq_some_iff.1 h).1
  unfold endK
  rw [tot_take h, List.length_take, List.length_take]
  omega
theorem tot_take_le (bs : List Bk) (k : Nat) : tot (bs.take k) ≤ tot bs := by
  have e : tot bs = tot (bs.take k) + tot (bs.drop k) := by
    unfold tot
    rw [← List.sum_append, ← List.map_append, List.take_append_drop]
  omega
end Go.Proofs.Ytlldmbocaloogaa
namespace Go.Proofs.Ytlldmbocaloogaa
open Go.ChangeShapes Go.WideShapes Go.ChangeAt Go.RowKit

/-- Nothing outside of the blocks lo .. hi - 1 has changed. -/
structure Out (lo hi : Nat) (w w' : World) : Prop where
  os : w'.os = w.os
  tape : w'.tape = w.tape
  output : w'.output = w.output
  size : w.heap.size ≤ w'.heap.size
  block : ∀ i, i < w.heap.size → (i < lo ∨ hi ≤ i) → w'.heap[i]? = w.heap[i]?
theorem Out.refl (lo hi : Nat) (w : World) : Out lo hi w w := ⟨rfl, rfl, rfl, Nat.le_refl _, fun _ _ _ => rfl⟩
theorem Out.trans {lo hi : Nat} {a b c : World} (h : Out lo hi a b) (k : Out lo hi b c) : Out lo hi a c :=
  ⟨k.os.trans h.os, k.tape.trans h.tape, k.output.trans h.output, Nat.le_trans h.size k.size, fun i hi1 ho => (k.block i (Nat.lt_of_lt_of_le hi1 h.size) ho).trans (h.block i hi1 ho)⟩
theorem Out.setCell {lo hi : Nat} {a w : World} (h : Out lo hi a w) {p : Addr} (h1 : lo ≤ p.block) (h2 : p.block < hi) (u : Value) : Out lo hi a (w.setCell p u) :=
  ⟨h.os, h.tape, h.output, by simpa [World.setCell] using h.size, fun i hi1 ho => (Below.heap_setCell w p u i (by omega)).trans (h.block i hi1 ho)⟩
theorem Out.of_grown {lo hi : Nat} {w w' : World} {row : Option Nat} (h : w.grownBy w' row) (hr : ∀ g, row = some g → lo ≤ g ∧ g < hi) : Out lo hi w w' :=
  ⟨h.os, h.tape, h.output, h.size, fun i hi1 ho => h.block i hi1 (by intro e; have := hr i e.symm; omega)⟩
theorem Out.below {lo hi : Nat} {w w' : World} (h : Out lo hi w w') : Below lo w w' ∨ w.heap.size < lo := by
  rcases Nat.lt_or_ge w.heap.size lo with h1 | h1
  · exact .inr h1
  · exact .inl ⟨h.os, h.tape, h.output, h.size, fun i hi1 => h.block i (by omega) (.inl hi1)⟩
/-- All memory of a device lies in the blocks lo .. hi - 1. -/
def DIn (lo hi g : Nat) (bs : List Bk) : Prop := (lo ≤ g ∧ g < hi) ∧ ∀ (b : Bk) (a : Addr), b ∈ bs → b.A = some a → lo ≤ a.block ∧ a.block < hi
/-- The device, its first k blocks marked. -/
def markD (K : Nat) (bs : List Bk) (k : Nat) : List Bk := markL K (bs.take k) ++ bs.drop k
theorem markD_length {K k : Nat} {bs : List Bk} (h : k ≤ bs.length) : (markD K bs k).length = bs.length := by
  simp only [markD, List.length_append, markL_length, List.length_take, List.length_drop]; omega
theorem markD_at {K k : Nat} {bs : List Bk} {b : Bk} (h : bs[k]? = some b) : (markD K bs k)[k]? = some b := by
  have hk : k < bs.length := (List.getElem?_eq_some_iff.1 h).1
  unfold markD
  rw [List.getElem?_append_right (by rw [markL_length, List.length_take]; omega), markL_length, List.length_take, List.getElem?_drop, ← h]
  congr 1
  omega
theorem markL_snoc (K : Nat) (bs : List Bk) (b : Bk) : markL K (bs ++ [b]) = markL K bs ++ [⟨((endK K bs : Nat) : Int), b.A, b.c, marks (endK K bs + 1) b.ps.length⟩] := by
  induction bs generalizing K with
  | nil => simp [markL, endK, tot]
  | cons p r ih =>
    have e : endK (K + 1 + 5 * p.ps.length) r = endK K (p :: r) := by
      simp only [endK, List.length_cons, tot, List.map_cons, List.sum_cons]
      omega
    simp only [List.cons_append, markL, ih, e]
theorem markD_step {K k : Nat} {bs : List Bk} {b : Bk} (h : bs[k]? = some b) : (markD K bs k).set k ⟨((endK K (bs.take k) : Nat) : Int), b.A, b.c, marks (endK K (bs.take k) + 1) b.ps.length⟩ = markD K bs (k + 1) := by
  have hk : k < bs.length := (List.getElem?_eq_some_iff.1 h).1
  have hl : (markL K (bs.take k)).length = k := by rw [markL_length, List.length_take]; omega
  unfold markD
  rw [List.set_append_right _ _ (by omega), hl, Nat.sub_self, List.take_add_one, h, Option.toList_some, markL_snoc, List.append_assoc]
  congr 1
  obtain ⟨hlt, rfl⟩ := List.getElem?_eq_some_iff.1 h
  rw [List.drop_eq_getElem_cons hlt]
  rfl
theorem markD_end (K : Nat) (bs : List Bk) : markD K bs bs.length = markL K bs := by simp [markD]
theorem markD_zero (K : Nat) (bs : List Bk) : markD K bs 0 = bs := by simp [markD, markL]
end Go.Proofs.Ytlldmbocaloogaa
namespace Go.Proofs.Ytlldmbocaloogaa
open Go.ChangeShapes Go.WideShapes Go.ChangeAt Go.RowKit

theorem set_same {l : List Value} {i : Nat} {v : Value} (h : l[i]? = some v) : l.set i v = l := by
  obtain ⟨hlt, rfl⟩ := List.getElem?_eq_some_iff.1 h
  exact List.set_getElem_self hlt
theorem bv_set_wear {bs : List Bk} {i : Nat} {b : Bk} (h : bs[i]? = some b) (m : Int) : bv (bs.set i ⟨m, b.A, b.c, b.ps⟩) = (bv bs).set (i * 2) (.int .i64 m) := by
  rw [bv_set]
  refine set_same ?_
  rw [List.getElem?_set_ne (by omega)]
  exact (bv_at _ _ _ h).2
theorem bv_set_pages {bs : List Bk} {i : Nat} {b : Bk} (h : bs[i]? = some b) {qs : List Pg} (hq : qs.length = b.ps.length) : bv (bs.set i ⟨b.m, b.A, b.c, qs⟩) = bv bs := by
  rw [bv_set]
  have h0 : (bv bs).set (i * 2) (.int .i64 b.m) = bv bs := set_same (bv_at _ _ _ h).1
  show ((bv bs).set (i * 2) (.int .i64 b.m)).set (i * 2 + 1) (Bk.row ⟨b.m, b.A, b.c, qs⟩) = bv bs
  rw [h0]
  refine set_same ?_
  have e : Bk.row ⟨b.m, b.A, b.c, qs⟩ = b.row := by simp [Bk.row, hq]
  rw [e]
  exact (bv_at _ _ _ h).2
theorem apart_set {bs : List Bk} {i : Nat} {b b' : Bk} (h : apart bs) (hi : bs[i]? = some b) (hA : b'.A = b.A) : apart (bs.set i b') := by
  intro j k b1 b2 a1 a2 hjk hj hk h1 h2
  have look : ∀ {j : Nat} {b1 : Bk}, (bs.set i b')[j]? = some b1 → ∃ c, bs[j]? = some c ∧ c.A = b1.A := fun {j b1} hj => by
    rw [List.getElem?_set] at hj
    split at hj
    · rename_i e
      subst e
      split at hj
      · injection hj with hj; subst hj; exact ⟨b, hi, hA.symm⟩
      · cases hj
    · exact ⟨b1, hj, rfl⟩
  obtain ⟨c1, hc1, e1⟩ := look hj
  obtain ⟨c2, hc2, e2⟩ := look hk
  exact h j k c1 c2 a1 a2 hjk hc1 hc2 (e1.trans h1) (e2.trans h2)
end Go.Proofs.Ytlldmbocaloogaa
namespace Go.Proofs.Ytlldmbocaloogaa
open Go.ChangeShapes Go.WideShapes Go.ChangeAt Go.RowKit

/-- The device that came in. -/
def VD (w : World) (A : Option Addr) (bs : List Bk) (wr : World) : Prop := DRow wr w.heap.size A bs ∧ w.grownBy wr none
section
variable {w wr w' : World} {A Ax : Option Addr} {n c nx cx lo hi lox hix : Nat} {bs cs : List Bk}
theorem VD.arg (h : IsBlocks w A n c bs) : VD w A bs w := ⟨h.2.2.2.1, grown_refl _ _⟩
theorem IsBlocks.alloc (h : IsBlocks w A n c bs) (o : Obj) : IsBlocks (w.alloc o) A n c bs := ⟨h.1, h.2.1, h.2.2.1, (h.2.2.2.1.alloc o).here, h.2.2.2.2⟩
theorem VD.keep (h : VD w A bs wr) (k : wr.grownBy w' none) : VD w A bs w' := ⟨h.1.kept k, grown_trans h.2 k⟩
theorem VD.row (h : VD w A bs wr) : DRow wr wr.heap.size A bs := h.1.here
theorem Out.grown (k : Out lo hi wr w') (hG : w.grownBy wr none) (hlo : w.heap.size ≤ lo) : w.grownBy w' none :=
  ⟨k.os.trans hG.os, k.tape.trans hG.tape, k.output.trans hG.output, Nat.le_trans hG.size k.size, fun i hi1 hne => (k.block i (Nat.lt_of_lt_of_le hi1 hG.size) (.inl (Nat.lt_of_lt_of_le hi1 hlo))).trans (hG.block i hi1 hne)⟩
theorem VD.marked (h : VD w A bs wr) (hlo : w.heap.size ≤ lox) (k : Out lox hix wr w') : VD w A bs w' :=
  ⟨h.1.keep k.size fun q hq hz => World.cell?_of_block (k.block q.block hz (.inl (Nat.lt_of_lt_of_le hq hlo))), k.grown h.2 hlo⟩
theorem ownsRow_out {base size : Nat} {t : TypeId} {v : Value} {xs : List Value} (h : wr.ownsRow base t size v n xs) (k : Out lox hix wr w') (hv : ∀ g, v.ownBlock = some g → g < lox ∨ hix ≤ g) : w'.ownsRow base t size v n xs := by
  refine ⟨h.1, ?_⟩
  rcases h.2 with hn | ⟨g, cap, cur, rfl, hb, hgg, rest⟩
  · exact .inl hn
  · exact .inr ⟨g, cap, cur, rfl, hb, by rw [k.block g (Array.getElem?_eq_some_iff.1 hgg).1 (hv g rfl)]; exact hgg, rest⟩
theorem markL_addr {K : Nat} {b : Bk} (h : b ∈ markL K bs) : ∃ b', b' ∈ bs ∧ b'.A = b.A := by
  induction bs generalizing K with
  | nil => simp [markL] at h
  | cons p r ih =>
    simp only [markL, List.mem_cons] at h
    rcases h with rfl | h
    · exact ⟨p, by simp, rfl⟩
    · obtain ⟨b', h1, h2⟩ := ih h
      exact ⟨b', by simp [h1], h2⟩
/-- How many pages. -/
def totL (l : List (Int × List Pg)) : Nat := (l.map fun q => q.2.length).sum
theorem tot_is {l : List (Int × List Pg)} (h : bs.map Bk.is = l) : tot bs = totL l := by
  subst h
  simp [tot, totL, Bk.is, List.map_map, Function.comp_def]
theorem small_is (h : cs.map Bk.is = bs.map Bk.is) (hp : ∀ b, b ∈ bs → b.ps.length ≤ 1048576) : ∀ b, b ∈ cs → b.ps.length ≤ 1048576 := fun b hb => by
  have h1 : b.is ∈ cs.map Bk.is := List.mem_map_of_mem hb
  rw [h] at h1
  obtain ⟨b', hb', e⟩ := List.mem_map.1 h1
  have h2 := hp b' hb'
  have h3 : b'.ps = b.ps := by have := congrArg Prod.snd e; exact this
  rw [← h3]; exact h2
theorem small_tot (h : tot bs ≤ 1048576) : ∀ b, b ∈ bs → b.ps.length ≤ 1048576 := fun _ hb => Nat.le_trans (tot_le hb) h
theorem allB_is {f : Int × List Pg → Bool} {g : Bk → Bool} (hg : ∀ b, g b = f b.is) (h : cs.map Bk.is = bs.map Bk.is) : cs.all g = bs.all g := by
  have e : ∀ l : List Bk, l.all g = (l.map Bk.is).all f := fun l => by
    rw [List.all_map]
    congr 1
    funext b
    exact hg b
  rw [e, e, h]
/-- What holds of a device holds of its copies. -/
theorem devB_is (h : cs.map Bk.is = bs.map Bk.is) : devB cs = devB bs := by
  unfold devB
  rw [is_length h, allB_is (f := fun q => blockB q.1 q.2) (g := fun b => blockB b.m b.ps) (fun _ => rfl) h]
end
end Go.Proofs.Ytlldmbocaloogaa
namespace Go.Proofs.Ytlldmbocaloogaa
open Go.ChangeShapes Go.WideShapes Go.ChangeAt Go.RowKit

theorem free_is {bs cs : List Bk} (h : cs.map Bk.is = bs.map Bk.is) : freeV cs = freeV bs := by
  have e : ∀ l : List Bk, freeV l = ((l.map Bk.is).map fun q => 4 - cntF q.2).sum := fun l => by
    simp [freeV, Bk.is, List.map_map, Function.comp_def]
  rw [e, e, h]
theorem page_is {bs cs : List Bk} (h : cs.map Bk.is = bs.map Bk.is) (a : Nat) : pageAt cs a = pageAt bs a := by
  have e : ∀ l : List Bk, pageAt l a = ((l.map Bk.is)[a / 4]?).bind fun q => q.2[a % 4]? := fun l => by
    unfold pageAt
    rw [List.getElem?_map]
    cases l[a / 4]? <;> rfl
  rw [e, e, h]
/-- What ReadPage answers. -/
def ReadIs (n : Nat) (bs : List Bk) (a : Int) (p : Pg) : Prop :=
  (devB bs = false ∧ p = pz) ∨ (devB bs = true ∧ hasP n a = false ∧ p = pz) ∨ ∃ k : Nat, a = (k : Int) ∧ devB bs = true ∧ pageAt bs k = some p
theorem hasP_in {n : Nat} {a : Int} (h : hasP n a = false) : inB a 0 (4 * n - 1) = false := by
  cases h2 : inB a 0 (4 * n - 1)
  · rfl
  · obtain ⟨h3, h4⟩ := inB_iff.1 h2
    simp [hasP] at h
    omega
theorem read_is {n : Nat} {bs : List Bk} (hl : bs.length = n) (a : Int) : ∃ p, ReadIs n bs a p := by
  cases hd : devB bs
  · exact ⟨_, .inl ⟨hd, rfl⟩⟩
  · cases ha : hasP n a
    · exact ⟨_, .inr (.inl ⟨hd, ha, rfl⟩)⟩
    · simp [hasP] at ha
      obtain ⟨k, rfl⟩ : ∃ k : Nat, a = (k : Int) := ⟨a.toNat, by omega⟩
      obtain ⟨_, hall⟩ := dev_parts hd
      obtain ⟨p, hp⟩ := page_some (bs := bs) (fun b hm => (block_parts (hall b hm)).2.1) (a := k) (by omega)
      exact ⟨p, .inr (.inr ⟨k, rfl, hd, hp⟩)⟩
theorem ReadIs.of {n : Nat} {bs cs : List Bk} {a : Int} {p : Pg} (h : ReadIs n bs a p) (hc : cs.map Bk.is = bs.map Bk.is) : ReadIs n cs a p := by
  unfold ReadIs
  rw [devB_is hc]
  rcases h with h | h | ⟨k, h1, h2, h3⟩
  · exact .inl h
  · exact .inr (.inl h)
  · exact .inr (.inr ⟨k, h1, h2, by rw [page_is hc]; exact h3⟩)
end Go.Proofs.Ytlldmbocaloogaa
namespace Go.Proofs.Ytlldmbocaloogaa
open Go.ChangeShapes Go.WideShapes Go.ChangeAt Go.RowKit

theorem zs_tot (n : Nat) (h : n ≤ 12) : tot (zs n) ≤ 1048576 := by
  have e : tot (zs n) = n * 4 := by simp [tot, zs]
  omega
end Go.Proofs.Ytlldmbocaloogaa
namespace Go.Proofs.Ytlldmbocaloogaa
open Go.ChangeShapes Go.WideShapes Go.ChangeAt Go.RowKit

theorem totL_four {l : List (Int × List Pg)} (h : ∀ q, q ∈ l → q.2.length ≤ 4) : totL l ≤ 4 * l.length := by
  induction l with
  | nil => simp [totL]
  | cons q r ih =>
    have h1 := h q (by simp)
    have h2 := ih fun q hq => h q (by simp [hq])
    simp only [totL, List.map_cons, List.sum_cons, List.length_cons] at h2 ⊢
    omega
theorem is_four {bs : List Bk} (hd : devB bs = true) : ∀ q, q ∈ bs.map Bk.is → q.2.length ≤ 4 := fun q hq => by
  obtain ⟨b, hb, rfl⟩ := List.mem_map.1 hq
  have := (block_parts ((dev_parts hd).2 b hb)).2.1
  show b.ps.length ≤ 4
  omega
theorem set_four {l : List (Int × List Pg)} {k : Nat} {p : Int × List Pg} (h : ∀ q, q ∈ l → q.2.length ≤ 4) (hp : p.2.length ≤ 4) : ∀ q, q ∈ l.set k p → q.2.length ≤ 4 := fun q hq => by
  rcases List.mem_or_eq_of_mem_set hq with hq | rfl
  · exact h q hq
  · exact hp
theorem is_some {bs : List Bk} {k : Nat} {m : Int} {ps : List Pg} (h : (bs.map Bk.is)[k]? = some (m, ps)) : ∃ A c, bs[k]? = some ⟨m, A, c, ps⟩ := by
  rw [List.getElem?_map] at h
  cases hb : bs[k]? with
  | none => rw [hb] at h; simp at h
  | some b =>
    obtain ⟨m', A, c, ps'⟩ := b
    rw [hb] at h
    simp [Bk.is] at h
    obtain ⟨rfl, rfl⟩ := h
    exact ⟨A, c, rfl⟩
/-- What EraseAt answers. -/
def EraseAtIs (n : Nat) (bs : List Bk) (a : Int) (n1 : Nat) (l1 : List (Int × List Pg)) (r : Bool) : Prop :=
  (devB bs = false ∧ n1 = 0 ∧ l1 = [] ∧ r = false) ∨ (devB bs = true ∧ hasB n a = false ∧ n1 = 0 ∧ l1 = [] ∧ r = false) ∨
  ∃ (k : Nat) (m m1 : Int) (ps ps1 : List Pg), a = (k : Int) ∧ devB bs = true ∧ (bs.map Bk.is)[k]? = some (m, ps) ∧ eraseIs m ps = (m1, ps1) ∧ r = !decide (m = 100) ∧ n1 = n ∧ l1 = (bs.map Bk.is).set k (m1, ps1)
theorem eraseAt_is {n : Nat} {bs : List Bk} (hl : bs.length = n) (a : Int) : ∃ n1 l1 r, EraseAtIs n bs a n1 l1 r ∧ n1 ≤ 12 ∧ totL l1 ≤ 1048576 := by
  cases hd : devB bs
  · exact ⟨0, [], false, .inl ⟨hd, rfl, rfl, rfl⟩, by omega, by simp [totL]⟩
  · cases ha : hasB n a
    · exact ⟨0, [], false, .inr (.inl ⟨hd, ha, rfl, rfl, rfl⟩), by omega, by simp [totL]⟩
    · simp [hasB] at ha
      obtain ⟨k, rfl⟩ : ∃ k : Nat, a = (k : Int) := ⟨a.toNat, by omega⟩
      obtain ⟨⟨_, h12⟩, hall⟩ := dev_parts hd
      obtain ⟨⟨m, A, c, ps⟩, hb⟩ : ∃ b, bs[k]? = some b := ⟨_, List.getElem?_eq_getElem (by omega)⟩
      have hp4 : ps.length = 4 := (block_parts (hall _ (List.mem_of_getElem? hb))).2.1
      have h1 : (eraseIs m ps).2.length ≤ 4 := by
        unfold eraseIs
        split
        · show ps.length ≤ 4; omega
        · simp
      have h3 := totL_four (set_four (k := k) (is_four hd) h1)
      rw [List.length_set, List.length_map] at h3
      exact ⟨n, _, _, .inr (.inr ⟨k, m, (eraseIs m ps).1, ps, (eraseIs m ps).2, rfl, hd, by rw [List.getElem?_map, hb]; rfl, rfl, rfl, rfl, rfl⟩), by omega, Nat.le_trans h3 (by omega)⟩
theorem EraseAtIs.of {n n1 : Nat} {bs cs : List Bk} {a : Int} {l1 : List (Int × List Pg)} {r : Bool} (h : EraseAtIs n bs a n1 l1 r) (hc : cs.map Bk.is = bs.map Bk.is) : EraseAtIs n cs a n1 l1 r := by
  unfold EraseAtIs
  rw [devB_is hc, hc]
  exact h
end Go.Proofs.Ytlldmbocaloogaa
namespace Go.Proofs.Ytlldmbocaloogaa
open Go.ChangeShapes Go.WideShapes Go.ChangeAt Go.RowKit

theorem Blk.out {wr w' : World} {V lo hi : Nat} {t : TypeId} {cs : Array Value} (h : Blk wr V t cs) (k : Out lo hi wr w') (hv : V < lo ∨ hi ≤ V) : Blk w' V t cs := by
  have hlt := h.lt
  unfold Blk at h ⊢
  rw [k.block V hlt hv]
  exact h
theorem write_of {m : Int} {ps : List Pg} {x1 x2 x3 x4 : Int} (hv : blockB m ps = true) (hp : pageB true x1 x2 x3 x4 = true) :
    ∃ ps1 r, WriteIs m ps true x1 x2 x3 x4 m 4 ps1 r ∧ -1 ≤ r ∧ r < 4 := by
  rcases next_cases m ps with hn | ⟨k, hk, h4, _⟩
  · exact ⟨ps, -1, .inr (.inl ⟨hv, rfl, hp, hn, rfl, rfl, rfl, rfl⟩), by omega, by omega⟩
  · exact ⟨_, k, .inr (.inr ⟨k, hv, rfl, hp, hk, h4, rfl, rfl, rfl, rfl⟩), by omega, by omega⟩
/-- What Program answers. -/
def ProgramIs (n : Nat) (bs : List Bk) (a : Int) (f : Bool) (x1 x2 x3 x4 : Int) (n1 : Nat) (l1 : List (Int × List Pg)) (r : Int) : Prop :=
  ((devB bs = false ∨ (devB bs = true ∧ hasB n a = false) ∨ (devB bs = true ∧ hasB n a = true ∧ (f && pageB f x1 x2 x3 x4) = false)) ∧ n1 = 0 ∧ l1 = [] ∧ r = -1) ∨
  ∃ (k : Nat) (m : Int) (ps ps1 : List Pg) (r0 : Int), a = (k : Int) ∧ devB bs = true ∧ (bs.map Bk.is)[k]? = some (m, ps) ∧ f = true ∧ pageB true x1 x2 x3 x4 = true ∧ WriteIs m ps true x1 x2 x3 x4 m 4 ps1 r0 ∧ (-1 ≤ r0 ∧ r0 < 4) ∧ n1 = n ∧ l1 = (bs.map Bk.is).set k (m, ps1) ∧ r = progV k r0
theorem program_is {n : Nat} {bs : List Bk} (hl : bs.length = n) (a : Int) (f : Bool) (x1 x2 x3 x4 : Int) : ∃ n1 l1 r, ProgramIs n bs a f x1 x2 x3 x4 n1 l1 r ∧ n1 ≤ 12 ∧ totL l1 ≤ 1048576 := by
  cases hd : devB bs
  · exact ⟨0, [], -1, .inl ⟨.inl hd, rfl, rfl, rfl⟩, by omega, by simp [totL]⟩
  · cases ha : hasB n a
    · exact ⟨0, [], -1, .inl ⟨.inr (.inl ⟨hd, ha⟩), rfl, rfl, rfl⟩, by omega, by simp [totL]⟩
    · cases hg : (f && pageB f x1 x2 x3 x4)
      · exact ⟨0, [], -1, .inl ⟨.inr (.inr ⟨hd, ha, hg⟩), rfl, rfl, rfl⟩, by omega, by simp [totL]⟩
      · simp only [Bool.and_eq_true] at hg
        obtain ⟨rfl, hpg⟩ := hg
        obtain ⟨h0, h1⟩ := hasB_iff ha
        obtain ⟨k, rfl⟩ : ∃ k : Nat, a = (k : Int) := ⟨a.toNat, by omega⟩
        obtain ⟨⟨_, h12⟩, hall⟩ := dev_parts hd
        obtain ⟨⟨m, A, c, ps⟩, hb⟩ : ∃ b, bs[k]? = some b := ⟨_, List.getElem?_eq_getElem (by omega)⟩
        have hv := hall _ (List.mem_of_getElem? hb)
        obtain ⟨ps1, r0, hw, hr⟩ := write_of hv hpg
        have hp1 := write_len hw (block_parts hv).2.1
        have h3 := totL_four (set_four (k := k) (p := (m, ps1)) (is_four hd) (by show ps1.length ≤ 4; omega))
        rw [List.length_set, List.length_map] at h3
        exact ⟨n, _, _, .inr ⟨k, m, ps, ps1, r0, rfl, hd, by rw [List.getElem?_map, hb]; rfl, rfl, hpg, hw, hr, rfl, rfl, rfl⟩, by omega, Nat.le_trans h3 (by omega)⟩
theorem ProgramIs.of {n n1 : Nat} {bs cs : List Bk} {a : Int} {f : Bool} {x1 x2 x3 x4 r : Int} {l1 : List (Int × List Pg)} (h : ProgramIs n bs a f x1 x2 x3 x4 n1 l1 r) (hc : cs.map Bk.is = bs.map Bk.is) : ProgramIs n cs a f x1 x2 x3 x4 n1 l1 r := by
  unfold ProgramIs
  rw [devB_is hc, hc]
  exact h
end Go.Proofs.Ytlldmbocaloogaa
