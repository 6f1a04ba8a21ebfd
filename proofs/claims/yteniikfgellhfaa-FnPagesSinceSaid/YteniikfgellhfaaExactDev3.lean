/- The exact laws' helpers for devices, further (under way): szBlockS; a device that came in.
   The exact laws' helpers for devices, further (under way): heldBlockS.
   The exact laws' helpers for devices, further (under way): markBlockS.
   The exact laws' helpers for devices, further (under way): markBlockS.
   What the exact laws of chapter 5 carry along: a device that came in, and devices that the call owns.
   What the exact laws of chapter 5 carry along besides: free pages and pages of copies.
   What the exact law of NewDevice carries along.
   What the exact law of EraseAt carries along.
   What the exact law of Program carries along. -/
import Derived.Test.YteniikfgellhfaaDevices
import Derived.Test.YteniikfgellhfaaAggRows
import Derived.Test.YteniikfgellhfaaDevices6
namespace Go.Proofs.Yteniikfgellhfaa
open Go.ChangeShapes Go.WideShapes Go.ChangeAt Go.RowKit Go.Deep

theorem szPageS_fits (A : Option Addr) (n c : Nat) (L : Int) (w : World) (h0 : 0 ≤ L) (h1 : L ≤ 1048576) (hn : (n : Int) ≤ L) :
    Calls Try.prog 108 #[.slice A n c, .int .i64 L] w fun e w' => e = .returned (.int .i64 (L - n)) ∧ w = w' := by
  have t1 : decide (L - n < 0) = false := decide_eq_false (by omega)
  go_enter Try.func108, Try.ntmps108
  go_wp2
  go_ret
  exact ⟨rfl, rfl⟩
theorem szPageS_over (A : Option Addr) (n c : Nat) (L : Int) (w : World) (h0 : 0 ≤ L) (h1 : L ≤ 1048576) (hn : L < (n : Int)) (hm : n ≤ 9223372036854775807) :
    Calls Try.prog 108 #[.slice A n c, .int .i64 L] w fun e w' => e = .returned (.int .i64 (-1)) ∧ w = w' := by
  have t1 : decide (L - n < 0) = true := decide_eq_true (by omega)
  go_enter Try.func108, Try.ntmps108
  go_wp2
  go_ret
  exact ⟨rfl, rfl⟩
/-- What is left, or -1. -/
def SzB (n : Nat) (L : Int) (w : World) (e : Ending) (w' : World) : Prop := ∃ v : Int, e = .returned (.int .i64 v) ∧ w.grownBy w' none ∧ ((v = -1) ∨ (0 ≤ v ∧ v + n = L))
theorem szBlock_any (m : Int) (A : Option Addr) (n c : Nat) (L : Int) (w : World) (h0 : 0 ≤ L) (h1 : L ≤ 1048576) (hm : n ≤ 9223372036854775807) :
    Calls Try.prog 77 #[.agg #[.int .i64 m, .slice A n c], .int .i64 L] w (SzB n L w) := by
  by_cases hn : (n : Int) ≤ L
  · have t1 : decide (L - n < 0) = false := decide_eq_false (by omega)
    go_enter Try.func77, Try.ntmps77
    go_wp2_with (go_at_call 108; refine (szPageS_fits _ _ _ _ _ h0 h1 hn).mono ?_; rintro e w' ⟨rfl, rfl⟩)
    go_ret
    exact ⟨_, rfl, grown_alloc (grown_refl _ _) _, .inr ⟨by omega, by omega⟩⟩
  · have hn2 : L < (n : Int) := by omega
    go_enter Try.func77, Try.ntmps77
    go_wp2_with (go_at_call 108; refine (szPageS_over _ _ _ _ _ h0 h1 hn2 hm).mono ?_; rintro e w' ⟨rfl, rfl⟩)
    go_ret
    exact ⟨_, rfl, grown_alloc (grown_refl _ _) _, .inl rfl⟩
/-- What a walk is told of a device that came in. -/
def IsBlocks (w : World) (A : Option Addr) (n c : Nat) (bs : List Bk) : Prop := bs.length = n ∧ n ≤ c ∧ c ≤ maxLen ∧ DRow w w.heap.size A bs ∧ ∀ b, b ∈ bs → b.ps.length ≤ b.c ∧ b.c ≤ maxLen
/-- How many pages. -/
def tot (bs : List Bk) : Nat := (bs.map fun b => b.ps.length).sum
theorem tot_take {bs : List Bk} {k : Nat} {b : Bk} (h : bs[k]? = some b) : tot (bs.take (k + 1)) = tot (bs.take k) + b.ps.length := by
  unfold tot
  rw [List.take_add_one, h, List.map_append, List.sum_append]
  simp
theorem tot_le {bs : List Bk} {b : Bk} (h : b ∈ bs) : b.ps.length ≤ tot bs := by
  induction bs with
  | nil => simp at h
  | cons p r ih =>
    simp only [tot, List.map_cons, List.sum_cons] at ih ⊢
    rcases List.mem_cons.1 h with rfl | h
    · omega
    · have := ih h
      omega
/-- -1; or what is left, and the device is small. -/
def SzD (n : Nat) (bs : List Bk) (w : World) (e : Ending) (w' : World) : Prop := ∃ v : Int, e = .returned (.int .i64 v) ∧ w.grownBy w' none ∧ ((v = -1) ∨ (0 ≤ v ∧ n ≤ 1048576 ∧ tot bs ≤ 1048576))
/-- The same, and that no more is left than there was. -/
def SzD2 (n : Nat) (bs : List Bk) (w : World) (e : Ending) (w' : World) : Prop := ∃ v : Int, e = .returned (.int .i64 v) ∧ w.grownBy w' none ∧ ((v = -1) ∨ (0 ≤ v ∧ v ≤ 1048576 ∧ n ≤ 1048576 ∧ tot bs ≤ 1048576))
def SzRel (w : World) (bs : List Bk) (k : Nat) (L : Int) (wr : World) : Prop := k ≤ bs.length ∧ 0 ≤ L ∧ L ≤ 1048576 ∧ ((tot (bs.take k) : Int) + L ≤ 1048576) ∧ w.grownBy wr none
theorem szBlockS_le (A : Option Addr) (n c : Nat) (bs : List Bk) (w : World) (h : IsBlocks w A n c bs) :
    Calls Try.prog 33 #[.slice A n c, .int .i64 1048576] w (SzD2 n bs w) := by
  obtain ⟨rfl, hnc, hcm, hr, hb⟩ := h
  have hmx : bs.length ≤ 9223372036854775807 := by unfold maxLen at hcm; omega
  have HR := Lib.hid (And.intro hr hb)
  clear hr hb
  by_cases hbig : 1048576 < bs.length
  · have t1 : decide ((1048576 : Int) - bs.length < 0) = true := decide_eq_true (by omega)
    go_enter Try.func33, Try.ntmps33
    go_wp2
    go_ret
    exact ⟨_, rfl, grown_refl _ _, .inl rfl⟩
  · have t1 : decide ((1048576 : Int) - bs.length < 0) = false := decide_eq_false (by omega)
    go_enter Try.func33, Try.ntmps33
    go_wp2
    go_loopw [1, 5] (fun t i wr => ∃ (k : Nat) (L : Int), i = .int .i64 k ∧ t = .int .i64 L ∧ SzRel w bs k L wr) (fun _ i _ => bs.length - (intOf i).toNat)
    case atStart => exact ⟨0, _, rfl, rfl, Nat.zero_le _, by omega, by omega, by simp [tot]; omega, grown_refl _ _⟩
    case round =>
      obtain ⟨k, L, rfl, rfl, hk, h0, h1, hj, hg⟩ := hrel
      clear t1
      by_cases hlt : k < bs.length
      · obtain ⟨g, off, m, Ab, cb, ps, rfl, _, hgw, hb, c0, c1, _⟩ := (HR.out.1.kept hg).at_ hlt
        have hpm := HR.out.2 _ (List.mem_of_getElem? hb)
        have hpm2 : ps.length ≤ 9223372036854775807 := by have h1 : ps.length ≤ cb := hpm.1; have h2 : cb ≤ maxLen := hpm.2; unfold maxLen at h2; omega
        have HX := Lib.hid (And.intro hg (And.intro hj hb))
        clear hg hj hb hpm
        go_wp2_with fail
        refine (szBlock_any _ _ _ _ _ _ h0 h1 hpm2).mono ?_
        rintro e w1 ⟨v, rfl, hk1, hv⟩
        rcases hv with rfl | ⟨hv0, hvL⟩
        · have HY := Lib.hid (grown_trans HX.out.1 hk1)
          clear hk1
          go_wp2
          go_ret
          exact ⟨_, rfl, HY.out, .inl rfl⟩
        · have HY := Lib.hid (grown_trans HX.out.1 hk1)
          have t2 : decide (v < 0) = false := decide_eq_false (by omega)
          clear hk1
          go_wp2
          go_roundw
          case rel => exact ⟨k + 1, v, by go_num, rfl, by omega, hv0, by omega, by rw [tot_take HX.out.2.2]; have h4 := HX.out.2.1; simp only at h4 ⊢; omega, HY.out⟩
          case measure => simp [intOf]; omega
      · have HX := Lib.hid (And.intro hg hj)
        clear hg hj
        go_wp2
        go_ret
        exact ⟨_, rfl, HX.out.1, .inr ⟨h0, h1, by omega, by have h4 := HX.out.2; rw [List.take_of_length_le (by omega)] at h4; omega⟩⟩
theorem szBlockS_any (A : Option Addr) (n c : Nat) (bs : List Bk) (w : World) (h : IsBlocks w A n c bs) :
    Calls Try.prog 33 #[.slice A n c, .int .i64 1048576] w (SzD n bs w) :=
  (szBlockS_le A n c bs w h).mono fun _ _ ⟨v, h1, h2, h3⟩ => ⟨v, h1, h2, h3.imp id fun q => ⟨q.1, q.2.2⟩⟩

section
variable {H : Type} {enc : TypeId × Value → H} {w : World} {base : Nat} {spare : Nat → Bool} {held : Bool}
set_option maxRecDepth 20000 in
theorem open_block_cells {fuel : Nat} {cs : List Value} {x : DataW H × List MemPlace} (h : DataW.trod enc Try.prog w base spare held fuel 102 cs = some x) :
    ∃ (m : Int) (A : Option Addr) (n c : Nat) (ps : List Pg), cs = [.int .i64 m, .slice A n c] ∧ IsPages w A n c ps := by
  obtain ⟨xs, n, _, _, hlen, hxl, hg⟩ := DataW.trod_struct Try.underlying102 h
  have h2 : cs.length = 2 := hlen.trans (by kernel_rfl)
  obtain ⟨c0, c1, rfl⟩ := list2 h2
  have hx : xs.length = 2 := hxl.trans (by kernel_rfl)
  obtain ⟨y0, y1, rfl⟩ := list2 hx
  have e0 := hg 0 _ rfl
  have e1 := hg 1 _ rfl
  simp only [List.getElem?_cons_zero, List.getElem?_cons_succ] at e0 e1
  obtain ⟨m, hm, _⟩ := DataW.trod_int Try.underlying3 e0
  obtain ⟨A, n, c, ps, rfl, hp⟩ := open_pages e1
  injection hm with hm
  subst hm
  exact ⟨m, A, n, c, ps, rfl, hp⟩
theorem all_bk {Q : Nat → Bk → Prop} (n : Nat) (h : ∀ i, i < n → ∃ p, Q i p) : ∃ ps : List Bk, ps.length = n ∧ ∀ i p, ps[i]? = some p → Q i p := by
  induction n with
  | zero => exact ⟨[], rfl, fun i p hp => by simp at hp⟩
  | succ n ih =>
    obtain ⟨ps, hl, hq⟩ := ih fun i hi => h i (by omega)
    obtain ⟨p, hp⟩ := h n (by omega)
    refine ⟨ps ++ [p], by simp [hl], fun i q hi => ?_⟩
    rcases Nat.lt_trichotomy i n with h1 | h1 | h1
    · rw [List.getElem?_append_left (by omega)] at hi
      exact hq i q hi
    · subst h1
      rw [List.getElem?_append_right (by omega), hl, Nat.sub_self] at hi
      simp at hi
      rw [← hi]; exact hp
    · rw [List.getElem?_eq_none (by simp; omega)] at hi
      cases hi
theorem open_blocks {fuel : Nat} {v : Value} {x : DataW H × List MemPlace} (h : DataW.trod enc Try.prog w base spare held fuel 55 [v] = some x) :
    ∃ A n c bs, v = .slice A n c ∧ IsBlocks w A n c bs := by
  rcases open_slice Try.underlying55 h with ⟨h0, _⟩ | ⟨a, len, cap, m, n, D, Pl, hcs, hb, hl, hm, hmm, hx, hi⟩
  · injection h0 with h0
    exact ⟨none, 0, 0, [], h0, rfl, Nat.le_refl _, Nat.zero_le _, DRow.nil, fun b hb => by simp at hb⟩
  · injection hcs with hcs
    have hmn : len ≤ m := by rw [hmm]; split <;> omega
    have k2 : Try.prog.cellsOf 102 = 2 := by kernel_rfl
    have hp : ∀ i, i < len → ∃ b : Bk, (w.cell? ((a.add (i * 2)).add 0) = some (.int .i64 b.m) ∧ w.cell? ((a.add (i * 2)).add 1) = some (.slice b.A b.ps.length b.c)) ∧ IsPages w b.A b.ps.length b.c b.ps := by
      intro i hil
      obtain ⟨cs', hc, ht'⟩ := hi i (by omega)
      rw [k2] at hc
      obtain ⟨m, A, n, c, ps, rfl, hp⟩ := open_block_cells ht'
      obtain ⟨_, _, hat⟩ := World.cells?_some hc
      obtain ⟨rfl, hp2⟩ := hp
      exact ⟨⟨m, A, c, ps⟩, ⟨hat 0 (by omega), hat 1 (by omega)⟩, rfl, hp2⟩
    obtain ⟨bs, hbl, hq⟩ := all_bk len hp
    refine ⟨some a, len, cap, bs, hcs, hbl, hl, hm, ⟨fun hn => ?_, fun b hb => ?_⟩, fun b hb => ?_⟩
    · obtain ⟨g, off, spot⟩ := a
      have h0 := (hp 0 (by omega)).choose_spec.1.1
      have hspot : spot = none := by simpa [Addr.add] using World.cell?_spot h0
      subst hspot
      refine ⟨g, off, rfl, ?_, ?_, fun i b hi => ?_⟩
      · exact World.block_lt_of_cell? w ⟨g, off, none⟩ (by simpa [Addr.add] using h0)
      · exact World.block_lt_of_cell? w ⟨g, off, none⟩ (by simpa [Addr.add] using h0)
      · obtain ⟨⟨q0, q1⟩, _⟩ := hq i b hi
        simp only [Go.WideShapes.add_plain, Nat.add_zero] at q0 q1
        exact ⟨q0, q1⟩
    · obtain ⟨i, hi⟩ := List.getElem?_of_mem hb
      exact (hq i b hi).2.2.2.2
    · obtain ⟨i, hi⟩ := List.getElem?_of_mem hb
      exact ⟨(hq i b hi).2.2.1, (hq i b hi).2.2.2.1⟩
end
end Go.Proofs.Yteniikfgellhfaa
namespace Go.Proofs.Yteniikfgellhfaa
open Go.ChangeShapes Go.WideShapes Go.ChangeAt Go.RowKit

/-- A device marked from number K on; the number behind it. -/
def markL : Nat → List Bk → List Bk
  | _, [] => []
  | K, b :: r => ⟨(K : Int), b.A, b.c, marks (K + 1) b.ps.length⟩ :: markL (K + 1 + 5 * b.ps.length) r
def endK (K : Nat) (bs : List Bk) : Nat := K + bs.length + 5 * tot bs
theorem markL_length (K : Nat) (bs : List Bk) : (markL K bs).length = bs.length := by
  induction bs generalizing K with
  | nil => rfl
  | cons b r ih => simp [markL, ih]
theorem markL_at {K k : Nat} {bs : List Bk} {b : Bk} (h : bs[k]? = some b) : (markL K bs)[k]? = some ⟨((endK K (bs.take k) : Nat) : Int), b.A, b.c, marks (endK K (bs.take k) + 1) b.ps.length⟩ := by
  induction bs generalizing K k with
  | nil => simp at h
  | cons p r ih =>
    cases k with
    | zero => simp at h; subst h; simp [markL, endK, tot]
    | succ k =>
      have hh := ih (K := K + 1 + 5 * p.ps.length) (k := k) (by simpa using h)
      have e : endK (K + 1 + 5 * p.ps.length) (r.take k) = endK K ((p :: r).take (k + 1)) := by
        simp only [endK, List.take_succ_cons, List.length_cons, tot, List.map_cons, List.sum_cons]
        omega
      rw [e] at hh
      simpa [markL] using hh
theorem endK_step {K k : Nat} {bs : List Bk} {b : Bk} (h : bs[k]? = some b) : endK K (bs.take (k + 1)) = endK K (bs.take k) + 1 + 5 * b.ps.length := by
  have hk : k < bs.length := (List.getElem?_eq_some_iff.1 h).1
  unfold endK
  rw [tot_take h, List.length_take, List.length_take]
  omega
theorem tot_take_le (bs : List Bk) (k : Nat) : tot (bs.take k) ≤ tot bs := by
  have e : tot bs = tot (bs.take k) + tot (bs.drop k) := by
    unfold tot
    rw [← List.sum_append, ← List.map_append, List.take_append_drop]
  omega
end Go.Proofs.Yteniikfgellhfaa
namespace Go.Proofs.Yteniikfgellhfaa
open Go.ChangeShapes Go.WideShapes Go.ChangeAt Go.RowKit

/-- Nothing outside of the blocks lo .. hi - 1 has changed. -/
structure Out (lo hi : Nat) (w w' : World) : Prop where
  os : w'.os = w.os
  tape : w'.tape = w.tape
  output : w'.output = w.output
  size : w.heap.size ≤ w'.heap.size
  block : ∀ i, i < w.heap.size → (i < lo ∨ hi ≤ i) → w'.heap[i]? = w.heap[i]?
theorem Out.refl (lo hi : Nat) (w : World) : Out lo hi w w := ⟨rfl, rfl, rfl, Nat.le_refl _, fun _ _ _ => rfl⟩
theorem Out.trans {lo hi : Nat} {a b c : World} (h : Out lo hi a b) (k : Out lo hi b c) : Out lo hi a c :=
  ⟨k.os.trans h.os, k.tape.trans h.tape, k.output.trans h.output, Nat.le_trans h.size k.size, fun i hi1 ho => (k.block i (Nat.lt_of_lt_of_le hi1 h.size) ho).trans (h.block i hi1 ho)⟩
theorem Out.setCell {lo hi : Nat} {a w : World} (h : Out lo hi a w) {p : Addr} (h1 : lo ≤ p.block) (h2 : p.block < hi) (u : Value) : Out lo hi a (w.setCell p u) :=
  ⟨h.os, h.tape, h.output, by simpa [World.setCell] using h.size, fun i hi1 ho => (Below.heap_setCell w p u i (by omega)).trans (h.block i hi1 ho)⟩
theorem Out.of_grown {lo hi : Nat} {w w' : World} {row : Option Nat} (h : w.grownBy w' row) (hr : ∀ g, row = some g → lo ≤ g ∧ g < hi) : Out lo hi w w' :=
  ⟨h.os, h.tape, h.output, h.size, fun i hi1 ho => h.block i hi1 (by intro e; have := hr i e.symm; omega)⟩
theorem Out.below {lo hi : Nat} {w w' : World} (h : Out lo hi w w') : Below lo w w' ∨ w.heap.size < lo := by
  rcases Nat.lt_or_ge w.heap.size lo with h1 | h1
  · exact .inr h1
  · exact .inl ⟨h.os, h.tape, h.output, h.size, fun i hi1 => h.block i (by omega) (.inl hi1)⟩
/-- All memory of a device lies in the blocks lo .. hi - 1. -/
def DIn (lo hi g : Nat) (bs : List Bk) : Prop := (lo ≤ g ∧ g < hi) ∧ ∀ (b : Bk) (a : Addr), b ∈ bs → b.A = some a → lo ≤ a.block ∧ a.block < hi
/-- The device, its first k blocks marked. -/
def markD (K : Nat) (bs : List Bk) (k : Nat) : List Bk := markL K (bs.take k) ++ bs.drop k
theorem markD_length {K k : Nat} {bs : List Bk} (h : k ≤ bs.length) : (markD K bs k).length = bs.length := by
  simp only [markD, List.length_append, markL_length, List.length_take, List.length_drop]; omega
theorem markD_at {K k : Nat} {bs : List Bk} {b : Bk} (h : bs[k]? = some b) : (markD K bs k)[k]? = some b := by
  have hk : k < bs.length := (List.getElem?_eq_some_iff.1 h).1
  unfold markD
  rw [List.getElem?_append_right (by rw [markL_length, List.length_take]; omega), markL_length, List.length_take, List.getElem?_drop, ← h]
  congr 1
  omega
theorem markL_snoc (K : Nat) (bs : List Bk) (b : Bk) : markL K (bs ++ [b]) = markL K bs ++ [⟨((endK K bs : Nat) : Int), b.A, b.c, marks (endK K bs + 1) b.ps.length⟩] := by
  induction bs generalizing K with
  | nil => simp [markL, endK, tot]
  | cons p r ih =>
    have e : endK (K + 1 + 5 * p.ps.length) r = endK K (p :: r) := by
      simp only [endK, List.length_cons, tot, List.map_cons, List.sum_cons]
      omega
    simp only [List.cons_append, markL, ih, e]
theorem markD_step {K k : Nat} {bs : List Bk} {b : Bk} (h : bs[k]? = some b) : (markD K bs k).set k ⟨((endK K (bs.take k) : Nat) : Int), b.A, b.c, marks (endK K (bs.take k) + 1) b.ps.length⟩ = markD K bs (k + 1) := by
  have hk : k < bs.length := (List.getElem?_eq_some_iff.1 h).1
  have hl : (markL K (bs.take k)).length = k := by rw [markL_length, List.length_take]; omega
  unfold markD
  rw [List.set_append_right _ _ (by omega), hl, Nat.sub_self, List.take_add_one, h, Option.toList_some, markL_snoc, List.append_assoc]
  congr 1
  obtain ⟨hlt, rfl⟩ := List.getElem?_eq_some_iff.1 h
  rw [List.drop_eq_getElem_cons hlt]
  rfl
theorem markD_end (K : Nat) (bs : List Bk) : markD K bs bs.length = markL K bs := by simp [markD]
theorem markD_zero (K : Nat) (bs : List Bk) : markD K bs 0 = bs := by simp [markD, markL]
end Go.Proofs.Yteniikfgellhfaa
namespace Go.Proofs.Yteniikfgellhfaa
open Go.ChangeShapes Go.WideShapes Go.ChangeAt Go.RowKit

theorem set_same {l : List Value} {i : Nat} {v : Value} (h : l[i]? = some v) : l.set i v = l := by
  obtain ⟨hlt, rfl⟩ := List.getElem?_eq_some_iff.1 h
  exact List.set_getElem_self hlt
theorem bv_set_wear {bs : List Bk} {i : Nat} {b : Bk} (h : bs[i]? = some b) (m : Int) : bv (bs.set i ⟨m, b.A, b.c, b.ps⟩) = (bv bs).set (i * 2) (.int .i64 m) := by
  rw [bv_set]
  refine set_same ?_
  rw [List.getElem?_set_ne (by omega)]
  exact (bv_at _ _ _ h).2
theorem bv_set_pages {bs : List Bk} {i : Nat} {b : Bk} (h : bs[i]? = some b) {qs : List Pg} (hq : qs.length = b.ps.length) : bv (bs.set i ⟨b.m, b.A, b.c, qs⟩) = bv bs := by
  rw [bv_set]
  have h0 : (bv bs).set (i * 2) (.int .i64 b.m) = bv bs := set_same (bv_at _ _ _ h).1
  show ((bv bs).set (i * 2) (.int .i64 b.m)).set (i * 2 + 1) (Bk.row ⟨b.m, b.A, b.c, qs⟩) = bv bs
  rw [h0]
  refine set_same ?_
  have e : Bk.row ⟨b.m, b.A, b.c, qs⟩ = b.row := by simp [Bk.row, hq]
  rw [e]
  exact (bv_at _ _ _ h).2
theorem apart_set {bs : List Bk} {i : Nat} {b b' : Bk} (h : apart bs) (hi : bs[i]? = some b) (hA : b'.A = b.A) : apart (bs.set i b') := by
  intro j k b1 b2 a1 a2 hjk hj hk h1 h2
  have look : ∀ {j : Nat} {b1 : Bk}, (bs.set i b')[j]? = some b1 → ∃ c, bs[j]? = some c ∧ c.A = b1.A := fun {j b1} hj => by
    rw [List.getElem?_set] at hj
    split at hj
    · rename_i e
      subst e
      split at hj
      · injection hj with hj; subst hj; exact ⟨b, hi, hA.symm⟩
      · cases hj
    · exact ⟨b1, hj, rfl⟩
  obtain ⟨c1, hc1, e1⟩ := look hj
  obtain ⟨c2, hc2, e2⟩ := look hk
  exact h j k c1 c2 a1 a2 hjk hc1 hc2 (e1.trans h1) (e2.trans h2)
theorem DOwn.wear {w : World} {base g cap n i : Nat} {bs : List Bk} {b : Bk} (h : DOwn w base (.slice (some ⟨g, 0, none⟩) n cap) bs) (hn : bs.length = n) (hi : bs[i]? = some b) (m : Int) :
    DOwn (w.setCell ⟨g, i * 2, none⟩ (.int .i64 m)) base (.slice (some ⟨g, 0, none⟩) n cap) (bs.set i ⟨m, b.A, b.c, b.ps⟩) := by
  subst hn
  have far : ∀ {v : Value} {ps : List Pg}, Own w base v ps → Own (w.setCell ⟨g, i * 2, none⟩ (.int .i64 m)) base v ps := fun {v ps} ho => by
    have hv : v.ownBlock ≠ some g := by
      rcases own_ne_dev ho h.1 with e | e
      · rw [e]; simp
      · simpa [Value.ownBlock] using e
    exact ho.to_put hv _
  refine ⟨?_, fun b' hm => ?_, apart_set h.2.2 hi rfl⟩
  · rw [List.length_set, bv_set_wear hi]
    exact (World.ownsRow.stored h.1 (i * 2) (.int .i64 m)).1
  · rcases List.mem_or_eq_of_mem_set hm with hm | rfl
    · exact far (h.2.1 b' hm)
    · exact far (h.2.1 b (List.mem_of_getElem? hi))
theorem DOwn.pages {w w' : World} {base g cap n i : Nat} {bs : List Bk} {b : Bk} {qs : List Pg} (h : DOwn w base (.slice (some ⟨g, 0, none⟩) n cap) bs) (hi : bs[i]? = some b) (hq : qs.length = b.ps.length)
    (ho : Own w' base (.slice b.A b.ps.length b.c) qs) (hg : w.grownBy w' (Value.slice b.A b.ps.length b.c).ownBlock) : DOwn w' base (.slice (some ⟨g, 0, none⟩) n cap) (bs.set i ⟨b.m, b.A, b.c, qs⟩) := by
  have hb := h.2.1 b (List.mem_of_getElem? hi)
  refine ⟨?_, fun b' hm => ?_, apart_set h.2.2 hi rfl⟩
  · rw [List.length_set, bv_set_pages hi hq]
    refine World.ownsRow.kept h.1 hg ?_
    rcases own_ne_dev hb h.1 with e | e
    · exact .inr (by rw [show (Value.slice b.A b.ps.length b.c).ownBlock = none from e]; simp [Value.ownBlock])
    · exact .inr (Ne.symm e)
  · obtain ⟨j, hj⟩ := List.getElem?_of_mem hm
    rw [List.getElem?_set] at hj
    split at hj
    · split at hj
      · injection hj with hj; subst hj
        show Own w' base (.slice b.A qs.length b.c) qs
        rw [hq]; exact ho
      · cases hj
    · rename_i hne
      refine (h.2.1 b' (List.mem_of_getElem? hj)).kept hg ?_
      cases hA' : b'.A with
      | none => exact .inl (by simp [Bk.row, hA', Value.ownBlock])
      | some a' =>
        refine .inr ?_
        cases hA : b.A with
        | none => simp [Bk.row, hA', Value.ownBlock]
        | some a =>
          have := h.2.2 i j b b' a a' hne hi hj hA hA'
          simp only [Bk.row, hA', Value.ownBlock, ne_eq, Option.some.injEq]
          exact Ne.symm this
/-- A device marked: nothing outside of its memory has changed. -/
def MarkedD (A : Option Addr) (n c base lo hi : Nat) (bs : List Bk) (w : World) (e : Ending) (w' : World) : Prop :=
  e = .returned (.int .i64 ((endK 1 bs : Nat) : Int)) ∧ DOwn w' base (.slice A n c) (markL 1 bs) ∧ Out lo hi w w'
def MarkDSt (w : World) (base g n c lo hi : Nat) (bs : List Bk) (k K : Nat) (wr : World) : Prop :=
  k ≤ n ∧ K = endK 1 (bs.take k) ∧ DOwn wr base (.slice (some ⟨g, 0, none⟩) n c) (markD 1 bs k) ∧ Out lo hi w wr
theorem markBlockS_any (g n c base lo hi : Nat) (bs : List Bk) (w : World) (hl : bs.length = n) (ho : DOwn w base (.slice (some ⟨g, 0, none⟩) n c) bs) (hd : DIn lo hi g bs) (hn : n ≤ 1048576) (ht : tot bs ≤ 1048576) :
    Calls Try.prog 37 #[.slice (some ⟨g, 0, none⟩) n c, .int .i64 1] w (MarkedD (some ⟨g, 0, none⟩) n c base lo hi bs w) := by
  subst hl
  have HO := Lib.hid ho
  have HD := Lib.hid hd
  clear ho hd
  go_enter Try.func37, Try.ntmps37
  go_wp2
  go_loopw [1, 5] (fun t i wr => ∃ (k K : Nat), i = .int .i64 k ∧ t = .int .i64 K ∧ MarkDSt w base g bs.length c lo hi bs k K wr) (fun _ i _ => bs.length - (intOf i).toNat)
  case atStart => exact ⟨0, 1, rfl, rfl, Nat.zero_le _, by simp [endK, tot], by rw [markD_zero]; exact HO.out, Out.refl _ _ _⟩
  case round =>
    obtain ⟨k, K, rfl, rfl, hkn, hK, hown, hg⟩ := hrel
    clear HO
    by_cases hlt : k < bs.length
    · have hKb : K ≤ 10000000 := by
        have h1 := tot_take_le bs k
        rw [hK]; unfold endK; rw [List.length_take]; omega
      obtain ⟨b, hb⟩ : ∃ b, bs[k]? = some b := ⟨_, List.getElem?_eq_getElem hlt⟩
      have hbt := tot_le (List.mem_of_getElem? hb)
      have hb2 := markD_at (K := 1) hb
      have hml := markD_length (K := 1) (bs := bs) (k := k) (by omega)
      obtain ⟨d0, d1⟩ := hown.at_ hml hb2
      have f0 := hown.frozen hml (k * 2)
      have hW := hown.wear hml hb2 (K : Int)
      have hW2 : ((markD 1 bs k).set k ⟨(K : Int), b.A, b.c, b.ps⟩)[k]? = some ⟨(K : Int), b.A, b.c, b.ps⟩ := List.getElem?_set_self (by omega)
      have hP : Own (wr.setCell ⟨g, k * 2, none⟩ (.int .i64 (K : Int))) base (.slice b.A b.ps.length b.c) b.ps := hW.2.1 ⟨(K : Int), b.A, b.c, b.ps⟩ (List.mem_of_getElem? hW2)
      have HX := Lib.hid (And.intro hg (And.intro hb (And.intro hbt (And.intro hK (And.intro hW (And.intro hW2 hP))))))
      clear hg hb hbt hK hW hW2 hP hown hb2 hml
      go_wp2_with fail
      refine (markPageS_any _ _ _ (K + 1) _ _ _ rfl HX.out.2.2.2.2.2.2 (by have := HX.out.2.2.1; omega) (by omega)).mono ?_
      rintro e w2 ⟨rfl, ho2, hk2⟩
      have hD2 := HX.out.2.2.2.2.1.pages HX.out.2.2.2.2.2.1 (marks_length _ _) ho2 hk2
      rw [List.set_set] at hD2
      have hst := markD_step (K := 1) HX.out.2.1
      rw [← HX.out.2.2.2.1] at hst
      rw [hst] at hD2
      have hO2 := (HX.out.1.setCell (p := ⟨g, k * 2, none⟩) HD.out.1.1 HD.out.1.2 (.int .i64 (K : Int))).trans (Out.of_grown hk2 (fun g' e => by
        cases hA : b.A with
        | none => rw [hA] at e; simp [Value.ownBlock] at e
        | some a =>
          rw [hA] at e
          simp only [Value.ownBlock, Option.some.injEq] at e
          rw [← e]
          exact HD.out.2 b a (List.mem_of_getElem? HX.out.2.1) hA))
      have HY := Lib.hid (And.intro hD2 hO2)
      clear ho2 hk2 hD2 hst hO2 d0 d1 f0
      go_wp2
      go_roundw
      case rel => exact ⟨k + 1, K + 1 + 5 * b.ps.length, by go_num, rfl, by omega, by rw [endK_step HX.out.2.1, ← HX.out.2.2.2.1], HY.out.1, HY.out.2⟩
      case measure => simp [intOf]; omega
    · obtain rfl : k = bs.length := by omega
      rw [markD_end] at hown
      have HX := Lib.hid (And.intro hg (And.intro hK hown))
      clear hg hK hown
      go_wp2
      go_ret
      exact ⟨retI (by rw [HX.out.2.1, List.take_length]), HX.out.2.2, HX.out.1⟩
end Go.Proofs.Yteniikfgellhfaa
namespace Go.Proofs.Yteniikfgellhfaa
open Go.ChangeShapes Go.WideShapes Go.ChangeAt Go.RowKit

/-- The device that came in. -/
def VD (w : World) (A : Option Addr) (bs : List Bk) (wr : World) : Prop := DRow wr w.heap.size A bs ∧ w.grownBy wr none
/-- A device of the call's own; all its memory lies in blocks lo .. hi - 1. -/
def VX (w : World) (A : Option Addr) (n c : Nat) (bs : List Bk) (lo hi : Nat) (wr : World) : Prop :=
  DOwn wr lo (.slice A n c) bs ∧ bs.length = n ∧ (∀ a, A = some a → a.block < hi) ∧ (∀ (b : Bk) (a : Addr), b ∈ bs → b.A = some a → a.block < hi) ∧ hi ≤ wr.heap.size ∧ w.heap.size ≤ lo ∧ w.grownBy wr none
section
variable {w wr w' : World} {A Ax : Option Addr} {n c nx cx lo hi lox hix : Nat} {bs cs : List Bk}
theorem VD.arg (h : IsBlocks w A n c bs) : VD w A bs w := ⟨h.2.2.2.1, grown_refl _ _⟩
theorem IsBlocks.alloc (h : IsBlocks w A n c bs) (o : Obj) : IsBlocks (w.alloc o) A n c bs := ⟨h.1, h.2.1, h.2.2.1, (h.2.2.2.1.alloc o).here, h.2.2.2.2⟩
theorem VD.keep (h : VD w A bs wr) (k : wr.grownBy w' none) : VD w A bs w' := ⟨h.1.kept k, grown_trans h.2 k⟩
theorem VD.row (h : VD w A bs wr) : DRow wr wr.heap.size A bs := h.1.here
theorem VX.keep (h : VX w A n c bs lo hi wr) (k : wr.grownBy w' none) : VX w A n c bs lo hi w' :=
  ⟨h.1.keep k, h.2.1, h.2.2.1, h.2.2.2.1, Nat.le_trans h.2.2.2.2.1 k.size, h.2.2.2.2.2.1, grown_trans h.2.2.2.2.2.2 k⟩
theorem VX.row (h : VX w A n c bs lo hi wr) : DRow wr wr.heap.size A bs := h.1.row
theorem VX.made (hG : w.grownBy wr none) (hl : cs.length = n) (ho : DOwn w' wr.heap.size (.slice A n c) cs) (hk : wr.grownBy w' none) : VX w A n c cs wr.heap.size w'.heap.size w' := by
  refine ⟨ho, hl, fun a e => ?_, fun b a hb e => ?_, Nat.le_refl _, hG.size, grown_trans hG hk⟩
  · exact (World.ownsRow.lt ho.1 a.block (by subst e; rfl)).2
  · exact (World.ownsRow.lt (ho.2.1 b hb) a.block (by simp [Bk.row, e, Value.ownBlock])).2
theorem Out.grown (k : Out lo hi wr w') (hG : w.grownBy wr none) (hlo : w.heap.size ≤ lo) : w.grownBy w' none :=
  ⟨k.os.trans hG.os, k.tape.trans hG.tape, k.output.trans hG.output, Nat.le_trans hG.size k.size, fun i hi1 hne => (k.block i (Nat.lt_of_lt_of_le hi1 hG.size) (.inl (Nat.lt_of_lt_of_le hi1 hlo))).trans (hG.block i hi1 hne)⟩
theorem VD.marked (h : VD w A bs wr) (hlo : w.heap.size ≤ lox) (k : Out lox hix wr w') : VD w A bs w' :=
  ⟨h.1.keep k.size fun q hq hz => World.cell?_of_block (k.block q.block hz (.inl (Nat.lt_of_lt_of_le hq hlo))), k.grown h.2 hlo⟩
theorem ownsRow_out {base size : Nat} {t : TypeId} {v : Value} {xs : List Value} (h : wr.ownsRow base t size v n xs) (k : Out lox hix wr w') (hv : ∀ g, v.ownBlock = some g → g < lox ∨ hix ≤ g) : w'.ownsRow base t size v n xs := by
  refine ⟨h.1, ?_⟩
  rcases h.2 with hn | ⟨g, cap, cur, rfl, hb, hgg, rest⟩
  · exact .inl hn
  · exact .inr ⟨g, cap, cur, rfl, hb, by rw [k.block g (Array.getElem?_eq_some_iff.1 hgg).1 (hv g rfl)]; exact hgg, rest⟩
theorem VX.marked (h : VX w A n c bs lo hi wr) (hd : hi ≤ lox ∨ hix ≤ lo) (hlo : w.heap.size ≤ lox) (k : Out lox hix wr w') : VX w A n c bs lo hi w' := by
  obtain ⟨ho, hl, hA, hP, hz, hw, hG⟩ := h
  refine ⟨⟨ownsRow_out ho.1 k fun g e => ?_, fun b hb => ownsRow_out (ho.2.1 b hb) k fun g e => ?_, ho.2.2⟩, hl, hA, hP, Nat.le_trans hz k.size, hw, k.grown hG hlo⟩
  · have h1 := (World.ownsRow.lt ho.1 g e).1
    cases hA' : A with
    | none => rw [hA'] at e; simp [Value.ownBlock] at e
    | some a =>
      have h2 := hA a hA'
      rw [hA'] at e
      simp only [Value.ownBlock, Option.some.injEq] at e
      omega
  · have h1 := (World.ownsRow.lt (ho.2.1 b hb) g e).1
    cases hA' : b.A with
    | none => simp [Bk.row, hA', Value.ownBlock] at e
    | some a =>
      have h2 := hP b a hb hA'
      simp only [Bk.row, hA', Value.ownBlock, Option.some.injEq] at e
      omega
theorem markL_addr {K : Nat} {b : Bk} (h : b ∈ markL K bs) : ∃ b', b' ∈ bs ∧ b'.A = b.A := by
  induction bs generalizing K with
  | nil => simp [markL] at h
  | cons p r ih =>
    simp only [markL, List.mem_cons] at h
    rcases h with rfl | h
    · exact ⟨p, by simp, rfl⟩
    · obtain ⟨b', h1, h2⟩ := ih h
      exact ⟨b', by simp [h1], h2⟩
theorem VX.self (h : VX w A n c bs lo hi wr) (ho : DOwn w' lo (.slice A n c) (markL 1 bs)) (k : Out lo hi wr w') : VX w A n c (markL 1 bs) lo hi w' := by
  refine ⟨ho, by rw [markL_length]; exact h.2.1, h.2.2.1, fun b a hb e => ?_, Nat.le_trans h.2.2.2.2.1 k.size, h.2.2.2.2.2.1, k.grown h.2.2.2.2.2.2 h.2.2.2.2.2.1⟩
  obtain ⟨b', h1, h2⟩ := markL_addr hb
  exact h.2.2.2.1 b' a h1 (h2.trans e)
theorem markBlockS_nil (w : World) : Calls Try.prog 37 #[.slice none 0 0, .int .i64 1] w fun e w' => e = .returned (.int .i64 1) ∧ w = w' := by
  go_enter Try.func37, Try.ntmps37
  go_wp2
  go_loop [1, 5] (fun t i => i = .int .i64 0 ∧ t = .int .i64 1) (fun _ _ => 0)
  case atStart => exact ⟨rfl, rfl⟩
  case round =>
    obtain ⟨rfl, rfl⟩ := hrel
    go_wp2
    go_ret
    exact ⟨rfl, rfl⟩
/-- The mark of a device, its number told by an equation. -/
theorem markBlockS_val {v : Int} (hv : v = ((endK 1 bs : Nat) : Int)) (h : VX w A n c bs lo hi wr) (hn : n ≤ 1048576) (ht : tot bs ≤ 1048576) :
    Calls Try.prog 37 #[.slice A n c, .int .i64 1] wr fun e w' => e = .returned (.int .i64 v) ∧ DOwn w' lo (.slice A n c) (markL 1 bs) ∧ Out lo hi wr w' := by
  subst hv
  rcases h.1.form with ⟨e, rfl⟩ | ⟨g, cap, e, hb, hlt, _, _⟩
  · injection e with e1 e2 e3
    subst e1; subst e2; subst e3
    refine (markBlockS_nil wr).mono ?_
    rintro e w' ⟨rfl, rfl⟩
    exact ⟨rfl, h.1, Out.refl _ _ _⟩
  · injection e with e1 e2 e3
    subst e1; subst e2; subst e3
    refine markBlockS_any g bs.length c lo lo hi bs wr rfl h.1 ⟨⟨(World.ownsRow.lt h.1.1 g rfl).1, h.2.2.1 _ rfl⟩, fun b a hm ha => ⟨?_, h.2.2.2.1 b a hm ha⟩⟩ hn ht
    exact (World.ownsRow.lt (h.1.2.1 b hm) a.block (by simp [Bk.row, ha, Value.ownBlock])).1
/-- How many pages. -/
def totL (l : List (Int × List Pg)) : Nat := (l.map fun q => q.2.length).sum
theorem tot_is {l : List (Int × List Pg)} (h : bs.map Bk.is = l) : tot bs = totL l := by
  subst h
  simp [tot, totL, Bk.is, List.map_map, Function.comp_def]
theorem small_is (h : cs.map Bk.is = bs.map Bk.is) (hp : ∀ b, b ∈ bs → b.ps.length ≤ 1048576) : ∀ b, b ∈ cs → b.ps.length ≤ 1048576 := fun b hb => by
  have h1 : b.is ∈ cs.map Bk.is := List.mem_map_of_mem hb
  rw [h] at h1
  obtain ⟨b', hb', e⟩ := List.mem_map.1 h1
  have h2 := hp b' hb'
  have h3 : b'.ps = b.ps := by have := congrArg Prod.snd e; exact this
  rw [← h3]; exact h2
theorem small_tot (h : tot bs ≤ 1048576) : ∀ b, b ∈ bs → b.ps.length ≤ 1048576 := fun _ hb => Nat.le_trans (tot_le hb) h
theorem allB_is {f : Int × List Pg → Bool} {g : Bk → Bool} (hg : ∀ b, g b = f b.is) (h : cs.map Bk.is = bs.map Bk.is) : cs.all g = bs.all g := by
  have e : ∀ l : List Bk, l.all g = (l.map Bk.is).all f := fun l => by
    rw [List.all_map]
    congr 1
    funext b
    exact hg b
  rw [e, e, h]
/-- What holds of a device holds of its copies. -/
theorem devB_is (h : cs.map Bk.is = bs.map Bk.is) : devB cs = devB bs := by
  unfold devB
  rw [is_length h, allB_is (f := fun q => blockB q.1 q.2) (g := fun b => blockB b.m b.ps) (fun _ => rfl) h]
end
end Go.Proofs.Yteniikfgellhfaa
namespace Go.Proofs.Yteniikfgellhfaa
open Go.ChangeShapes Go.WideShapes Go.ChangeAt Go.RowKit

theorem free_is {bs cs : List Bk} (h : cs.map Bk.is = bs.map Bk.is) : freeV cs = freeV bs := by
  have e : ∀ l : List Bk, freeV l = ((l.map Bk.is).map fun q => 4 - cntF q.2).sum := fun l => by
    simp [freeV, Bk.is, List.map_map, Function.comp_def]
  rw [e, e, h]
theorem freePages_val {A : Option Addr} {n c V : Nat} {cs : List Bk} {w : World} (hl : cs.length = n) (hr : DRow w w.heap.size A cs) (hd : devB cs = true) (hV : freeV cs = V) :
    Calls Try.prog 18 #[.slice A n c] w (KeptV (.int .i64 V) w) := by
  subst hV
  exact freePages_yes A n c cs w hl hr hd
theorem page_is {bs cs : List Bk} (h : cs.map Bk.is = bs.map Bk.is) (a : Nat) : pageAt cs a = pageAt bs a := by
  have e : ∀ l : List Bk, pageAt l a = ((l.map Bk.is)[a / 4]?).bind fun q => q.2[a % 4]? := fun l => by
    unfold pageAt
    rw [List.getElem?_map]
    cases l[a / 4]? <;> rfl
  rw [e, e, h]
/-- What ReadPage answers. -/
def ReadIs (n : Nat) (bs : List Bk) (a : Int) (p : Pg) : Prop :=
  (devB bs = false ∧ p = pz) ∨ (devB bs = true ∧ hasP n a = false ∧ p = pz) ∨ ∃ k : Nat, a = (k : Int) ∧ devB bs = true ∧ pageAt bs k = some p
theorem hasP_in {n : Nat} {a : Int} (h : hasP n a = false) : inB a 0 (4 * n - 1) = false := by
  cases h2 : inB a 0 (4 * n - 1)
  · rfl
  · obtain ⟨h3, h4⟩ := inB_iff.1 h2
    simp [hasP] at h
    omega
theorem read_is {n : Nat} {bs : List Bk} (hl : bs.length = n) (a : Int) : ∃ p, ReadIs n bs a p := by
  cases hd : devB bs
  · exact ⟨_, .inl ⟨hd, rfl⟩⟩
  · cases ha : hasP n a
    · exact ⟨_, .inr (.inl ⟨hd, ha, rfl⟩)⟩
    · simp [hasP] at ha
      obtain ⟨k, rfl⟩ : ∃ k : Nat, a = (k : Int) := ⟨a.toNat, by omega⟩
      obtain ⟨_, hall⟩ := dev_parts hd
      obtain ⟨p, hp⟩ := page_some (bs := bs) (fun b hm => (block_parts (hall b hm)).2.1) (a := k) (by omega)
      exact ⟨p, .inr (.inr ⟨k, rfl, hd, hp⟩)⟩
theorem ReadIs.of {n : Nat} {bs cs : List Bk} {a : Int} {p : Pg} (h : ReadIs n bs a p) (hc : cs.map Bk.is = bs.map Bk.is) : ReadIs n cs a p := by
  unfold ReadIs
  rw [devB_is hc]
  rcases h with h | h | ⟨k, h1, h2, h3⟩
  · exact .inl h
  · exact .inr (.inl h)
  · exact .inr (.inr ⟨k, h1, h2, by rw [page_is hc]; exact h3⟩)
theorem specReadPage_val {A : Option Addr} {n c : Nat} {cs : List Bk} {a : Int} {p : Pg} {w : World} (h : ReadIs n cs a p) (hl : cs.length = n) (hr : DRow w w.heap.size A cs) (hn : n ≤ 1048576) (hp : ∀ b, b ∈ cs → b.ps.length ≤ 1048576) :
    Calls Try.prog 55 #[.slice A n c, .int .i64 a] w (PageRead p w) := by
  rcases h with ⟨h1, rfl⟩ | ⟨h1, h2, rfl⟩ | ⟨k, rfl, h1, h2⟩
  · exact specReadPage_no A n c cs a w hl hr hn hp h1
  · exact specReadPage_out A n c cs a w hl hr hn hp h1 (hasP_in h2)
  · exact specReadPage_at A n c cs k p w hl hr h1 h2
theorem readPage_val {A : Option Addr} {n c : Nat} {cs : List Bk} {a : Int} {p : Pg} {w : World} (h : ReadIs n cs a p) (hl : cs.length = n) (hr : DRow w w.heap.size A cs) (hn : n ≤ 1048576) (hp : ∀ b, b ∈ cs → b.ps.length ≤ 1048576) :
    Calls Try.prog 15 #[.slice A n c, .int .i64 a] w (PageRead p w) := by
  rcases h with ⟨h1, rfl⟩ | ⟨h1, h2, rfl⟩ | ⟨k, rfl, h1, h2⟩
  · exact readPage_no A n c cs a w hl hr hn hp h1
  · exact readPage_out A n c cs a w hl hr hn hp h1 h2
  · exact readPage_at A n c cs k p w hl hr h1 h2
end Go.Proofs.Yteniikfgellhfaa
namespace Go.Proofs.Yteniikfgellhfaa
open Go.ChangeShapes Go.WideShapes Go.ChangeAt Go.RowKit

theorem zs_tot (n : Nat) (h : n ≤ 12) : tot (zs n) ≤ 1048576 := by
  have e : tot (zs n) = n * 4 := by simp [tot, zs]
  omega
end Go.Proofs.Yteniikfgellhfaa
namespace Go.Proofs.Yteniikfgellhfaa
open Go.ChangeShapes Go.WideShapes Go.ChangeAt Go.RowKit

theorem totL_four {l : List (Int × List Pg)} (h : ∀ q, q ∈ l → q.2.length ≤ 4) : totL l ≤ 4 * l.length := by
  induction l with
  | nil => simp [totL]
  | cons q r ih =>
    have h1 := h q (by simp)
    have h2 := ih fun q hq => h q (by simp [hq])
    simp only [totL, List.map_cons, List.sum_cons, List.length_cons] at h2 ⊢
    omega
theorem is_four {bs : List Bk} (hd : devB bs = true) : ∀ q, q ∈ bs.map Bk.is → q.2.length ≤ 4 := fun q hq => by
  obtain ⟨b, hb, rfl⟩ := List.mem_map.1 hq
  have := (block_parts ((dev_parts hd).2 b hb)).2.1
  show b.ps.length ≤ 4
  omega
theorem set_four {l : List (Int × List Pg)} {k : Nat} {p : Int × List Pg} (h : ∀ q, q ∈ l → q.2.length ≤ 4) (hp : p.2.length ≤ 4) : ∀ q, q ∈ l.set k p → q.2.length ≤ 4 := fun q hq => by
  rcases List.mem_or_eq_of_mem_set hq with hq | rfl
  · exact h q hq
  · exact hp
theorem is_some {bs : List Bk} {k : Nat} {m : Int} {ps : List Pg} (h : (bs.map Bk.is)[k]? = some (m, ps)) : ∃ A c, bs[k]? = some ⟨m, A, c, ps⟩ := by
  rw [List.getElem?_map] at h
  cases hb : bs[k]? with
  | none => rw [hb] at h; simp at h
  | some b =>
    obtain ⟨m', A, c, ps'⟩ := b
    rw [hb] at h
    simp [Bk.is] at h
    obtain ⟨rfl, rfl⟩ := h
    exact ⟨A, c, rfl⟩
/-- What EraseAt answers. -/
def EraseAtIs (n : Nat) (bs : List Bk) (a : Int) (n1 : Nat) (l1 : List (Int × List Pg)) (r : Bool) : Prop :=
  (devB bs = false ∧ n1 = 0 ∧ l1 = [] ∧ r = false) ∨ (devB bs = true ∧ hasB n a = false ∧ n1 = 0 ∧ l1 = [] ∧ r = false) ∨
  ∃ (k : Nat) (m m1 : Int) (ps ps1 : List Pg), a = (k : Int) ∧ devB bs = true ∧ (bs.map Bk.is)[k]? = some (m, ps) ∧ eraseIs m ps = (m1, ps1) ∧ r = !decide (m = 100) ∧ n1 = n ∧ l1 = (bs.map Bk.is).set k (m1, ps1)
theorem eraseAt_is {n : Nat} {bs : List Bk} (hl : bs.length = n) (a : Int) : ∃ n1 l1 r, EraseAtIs n bs a n1 l1 r ∧ n1 ≤ 12 ∧ totL l1 ≤ 1048576 := by
  cases hd : devB bs
  · exact ⟨0, [], false, .inl ⟨hd, rfl, rfl, rfl⟩, by omega, by simp [totL]⟩
  · cases ha : hasB n a
    · exact ⟨0, [], false, .inr (.inl ⟨hd, ha, rfl, rfl, rfl⟩), by omega, by simp [totL]⟩
    · simp [hasB] at ha
      obtain ⟨k, rfl⟩ : ∃ k : Nat, a = (k : Int) := ⟨a.toNat, by omega⟩
      obtain ⟨⟨_, h12⟩, hall⟩ := dev_parts hd
      obtain ⟨⟨m, A, c, ps⟩, hb⟩ : ∃ b, bs[k]? = some b := ⟨_, List.getElem?_eq_getElem (by omega)⟩
      have hp4 : ps.length = 4 := (block_parts (hall _ (List.mem_of_getElem? hb))).2.1
      have h1 : (eraseIs m ps).2.length ≤ 4 := by
        unfold eraseIs
        split
        · show ps.length ≤ 4; omega
        · simp
      have h3 := totL_four (set_four (k := k) (is_four hd) h1)
      rw [List.length_set, List.length_map] at h3
      exact ⟨n, _, _, .inr (.inr ⟨k, m, (eraseIs m ps).1, ps, (eraseIs m ps).2, rfl, hd, by rw [List.getElem?_map, hb]; rfl, rfl, rfl, rfl, rfl⟩), by omega, Nat.le_trans h3 (by omega)⟩
theorem EraseAtIs.of {n n1 : Nat} {bs cs : List Bk} {a : Int} {l1 : List (Int × List Pg)} {r : Bool} (h : EraseAtIs n bs a n1 l1 r) (hc : cs.map Bk.is = bs.map Bk.is) : EraseAtIs n cs a n1 l1 r := by
  unfold EraseAtIs
  rw [devB_is hc, hc]
  exact h
end Go.Proofs.Yteniikfgellhfaa
namespace Go.Proofs.Yteniikfgellhfaa
open Go.ChangeShapes Go.WideShapes Go.ChangeAt Go.RowKit

theorem Blk.out {wr w' : World} {V lo hi : Nat} {t : TypeId} {cs : Array Value} (h : Blk wr V t cs) (k : Out lo hi wr w') (hv : V < lo ∨ hi ≤ V) : Blk w' V t cs := by
  have hlt := h.lt
  unfold Blk at h ⊢
  rw [k.block V hlt hv]
  exact h
theorem write_of {m : Int} {ps : List Pg} {x1 x2 x3 x4 : Int} (hv : blockB m ps = true) (hp : pageB true x1 x2 x3 x4 = true) :
    ∃ ps1 r, WriteIs m ps true x1 x2 x3 x4 m 4 ps1 r ∧ -1 ≤ r ∧ r < 4 := by
  rcases next_cases m ps with hn | ⟨k, hk, h4, _⟩
  · exact ⟨ps, -1, .inr (.inl ⟨hv, rfl, hp, hn, rfl, rfl, rfl, rfl⟩), by omega, by omega⟩
  · exact ⟨_, k, .inr (.inr ⟨k, hv, rfl, hp, hk, h4, rfl, rfl, rfl, rfl⟩), by omega, by omega⟩
/-- What Program answers. -/
def ProgramIs (n : Nat) (bs : List Bk) (a : Int) (f : Bool) (x1 x2 x3 x4 : Int) (n1 : Nat) (l1 : List (Int × List Pg)) (r : Int) : Prop :=
  ((devB bs = false ∨ (devB bs = true ∧ hasB n a = false) ∨ (devB bs = true ∧ hasB n a = true ∧ (f && pageB f x1 x2 x3 x4) = false)) ∧ n1 = 0 ∧ l1 = [] ∧ r = -1) ∨
  ∃ (k : Nat) (m : Int) (ps ps1 : List Pg) (r0 : Int), a = (k : Int) ∧ devB bs = true ∧ (bs.map Bk.is)[k]? = some (m, ps) ∧ f = true ∧ pageB true x1 x2 x3 x4 = true ∧ WriteIs m ps true x1 x2 x3 x4 m 4 ps1 r0 ∧ (-1 ≤ r0 ∧ r0 < 4) ∧ n1 = n ∧ l1 = (bs.map Bk.is).set k (m, ps1) ∧ r = progV k r0
theorem program_is {n : Nat} {bs : List Bk} (hl : bs.length = n) (a : Int) (f : Bool) (x1 x2 x3 x4 : Int) : ∃ n1 l1 r, ProgramIs n bs a f x1 x2 x3 x4 n1 l1 r ∧ n1 ≤ 12 ∧ totL l1 ≤ 1048576 := by
  cases hd : devB bs
  · exact ⟨0, [], -1, .inl ⟨.inl hd, rfl, rfl, rfl⟩, by omega, by simp [totL]⟩
  · cases ha : hasB n a
    · exact ⟨0, [], -1, .inl ⟨.inr (.inl ⟨hd, ha⟩), rfl, rfl, rfl⟩, by omega, by simp [totL]⟩
    · cases hg : (f && pageB f x1 x2 x3 x4)
      · exact ⟨0, [], -1, .inl ⟨.inr (.inr ⟨hd, ha, hg⟩), rfl, rfl, rfl⟩, by omega, by simp [totL]⟩
      · simp only [Bool.and_eq_true] at hg
        obtain ⟨rfl, hpg⟩ := hg
        obtain ⟨h0, h1⟩ := hasB_iff ha
        obtain ⟨k, rfl⟩ : ∃ k : Nat, a = (k : Int) := ⟨a.toNat, by omega⟩
        obtain ⟨⟨_, h12⟩, hall⟩ := dev_parts hd
        obtain ⟨⟨m, A, c, ps⟩, hb⟩ : ∃ b, bs[k]? = some b := ⟨_, List.getElem?_eq_getElem (by omega)⟩
        have hv := hall _ (List.mem_of_getElem? hb)
        obtain ⟨ps1, r0, hw, hr⟩ := write_of hv hpg
        have hp1 := write_len hw (block_parts hv).2.1
        have h3 := totL_four (set_four (k := k) (p := (m, ps1)) (is_four hd) (by show ps1.length ≤ 4; omega))
        rw [List.length_set, List.length_map] at h3
        exact ⟨n, _, _, .inr ⟨k, m, ps, ps1, r0, rfl, hd, by rw [List.getElem?_map, hb]; rfl, rfl, hpg, hw, hr, rfl, rfl, rfl⟩, by omega, Nat.le_trans h3 (by omega)⟩
theorem ProgramIs.of {n n1 : Nat} {bs cs : List Bk} {a : Int} {f : Bool} {x1 x2 x3 x4 r : Int} {l1 : List (Int × List Pg)} (h : ProgramIs n bs a f x1 x2 x3 x4 n1 l1 r) (hc : cs.map Bk.is = bs.map Bk.is) : ProgramIs n cs a f x1 x2 x3 x4 n1 l1 r := by
  unfold ProgramIs
  rw [devB_is hc, hc]
  exact h
theorem specProgram_val {A : Option Addr} {n c n1 : Nat} {cs : List Bk} {a : Int} {f : Bool} {x1 x2 x3 x4 r : Int} {l1 : List (Int × List Pg)} {w : World} (h : ProgramIs n cs a f x1 x2 x3 x4 n1 l1 r) (hl : cs.length = n) (hr : DRow w w.heap.size A cs) (hn : n ≤ 1048576) (hp : ∀ b, b ∈ cs → b.ps.length ≤ 1048576) :
    Calls Try.prog 118 #[.slice A n c, .int .i64 a, .agg #[.bool f, .int .i64 x1, .int .i64 x2, .int .i64 x3, .int .i64 x4]] w (DevMade2 l1 n1 (.int .i64 r) w) := by
  rcases h with ⟨h1 | ⟨h1, h2⟩ | ⟨h1, h2, h3⟩, rfl, rfl, rfl⟩ | ⟨k, m, ps, ps1, r0, rfl, h1, h2, rfl, h3, h4, h5, rfl, rfl, rfl⟩
  · exact specProgram_no A n c cs a f x1 x2 x3 x4 w hl hr hn hp h1
  · exact specProgram_out A n c cs a f x1 x2 x3 x4 w hl hr hn hp h1 h2
  · exact specProgram_page A n c cs a f x1 x2 x3 x4 w hl hr hn hp h1 h2 h3
  · obtain ⟨Ab, cb, hb⟩ := is_some h2
    exact specProgram_at A n1 c k cs m Ab cb ps ps1 x1 x2 x3 x4 r0 w hl hr h1 hb h3 h4 h5
end Go.Proofs.Yteniikfgellhfaa
