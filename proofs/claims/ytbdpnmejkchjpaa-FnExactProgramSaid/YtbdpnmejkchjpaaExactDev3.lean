/- The exact laws' helpers for devices, further (under way): szBlockS; a device that came in. -/
import Derived.Test.YtbdpnmejkchjpaaExactDev2
import Derived.Test.YtbdpnmejkchjpaaAggRows
namespace Go.Proofs.Ytbdpnmejkchjpaa
open Go.ChangeShapes Go.WideShapes Go.ChangeAt Go.RowKit Go.Deep

theorem szPageS_fits (A : Option Addr) (n c : Nat) (L : Int) (w : World) (h0 : 0 ≤ L) (h1 : L ≤ 1048576) (hn : (n : Int) ≤ L) :
    Calls Try.prog 63 #[.slice A n c, .int .i64 L] w fun e w' => e = .returned (.int .i64 (L - n)) ∧ w = w' := by
  have t1 : decide (L - n < 0) = false := decide_eq_false (by omega)
  go_enter Try.func63, Try.ntmps63
  go_wp2
  go_ret
  exact ⟨rfl, rfl⟩
theorem szPageS_over (A : Option Addr) (n c : Nat) (L : Int) (w : World) (h0 : 0 ≤ L) (h1 : L ≤ 1048576) (hn : L < (n : Int)) (hm : n ≤ 9223372036854775807) :
    Calls Try.prog 63 #[.slice A n c, .int .i64 L] w fun e w' => e = .returned (.int .i64 (-1)) ∧ w = w' := by
  have t1 : decide (L - n < 0) = true := decide_eq_true (by omega)
  go_enter Try.func63, Try.ntmps63
  go_wp2
  go_ret
  exact ⟨rfl, rfl⟩
/-- What is left, or -1. -/
def SzB (n : Nat) (L : Int) (w : World) (e : Ending) (w' : World) : Prop := ∃ v : Int, e = .returned (.int .i64 v) ∧ w.grownBy w' none ∧ ((v = -1) ∨ (0 ≤ v ∧ v + n = L))
theorem szBlock_any (m : Int) (A : Option Addr) (n c : Nat) (L : Int) (w : World) (h0 : 0 ≤ L) (h1 : L ≤ 1048576) (hm : n ≤ 9223372036854775807) :
    Calls Try.prog 36 #[.agg #[.int .i64 m, .slice A n c], .int .i64 L] w (SzB n L w) := by
  by_cases hn : (n : Int) ≤ L
  · have t1 : decide (L - n < 0) = false := decide_eq_false (by omega)
    go_enter Try.func36, Try.ntmps36
    go_wp2_with (go_at_call 63; refine (szPageS_fits _ _ _ _ _ h0 h1 hn).mono ?_; rintro e w' ⟨rfl, rfl⟩)
    go_ret
    exact ⟨_, rfl, grown_alloc (grown_refl _ _) _, .inr ⟨by omega, by omega⟩⟩
  · have hn2 : L < (n : Int) := by omega
    go_enter Try.func36, Try.ntmps36
    go_wp2_with (go_at_call 63; refine (szPageS_over _ _ _ _ _ h0 h1 hn2 hm).mono ?_; rintro e w' ⟨rfl, rfl⟩)
    go_ret
    exact ⟨_, rfl, grown_alloc (grown_refl _ _) _, .inl rfl⟩
/-- What a walk is told of a device that came in. -/
def IsBlocks (w : World) (A : Option Addr) (n c : Nat) (bs : List Bk) : Prop := bs.length = n ∧ n ≤ c ∧ c ≤ maxLen ∧ DRow w w.heap.size A bs ∧ ∀ b, b ∈ bs → b.ps.length ≤ b.c ∧ b.c ≤ maxLen
/-- How many pages. -/
def tot (bs : List Bk) : Nat := (bs.map fun b => b.ps.length).sum
theorem tot_take {bs : List Bk} {k : Nat} {b : Bk} (h : bs[k]? = some b) : tot (bs.take (k + 1)) = tot (bs.take k) + b.ps.length := by
  unfold tot
  rw [List.take_add_one, h, List.map_append, List.sum_append]
  simp
theorem tot_le {bs : List Bk} {b : Bk} (h : b ∈ bs) : b.ps.length ≤ tot bs := by
  induction bs with
  | nil => simp at h
  | cons p r ih =>
    simp only [tot, List.map_cons, List.sum_cons] at ih ⊢
    rcases List.mem_cons.1 h with rfl | h
    · omega
    · have := ih h
      omega
/-- -1; or what is left, and the device is small. -/
def SzD (n : Nat) (bs : List Bk) (w : World) (e : Ending) (w' : World) : Prop := ∃ v : Int, e = .returned (.int .i64 v) ∧ w.grownBy w' none ∧ ((v = -1) ∨ (0 ≤ v ∧ n ≤ 1048576 ∧ tot bs ≤ 1048576))
def SzRel (w : World) (bs : List Bk) (k : Nat) (L : Int) (wr : World) : Prop := k ≤ bs.length ∧ 0 ≤ L ∧ L ≤ 1048576 ∧ ((tot (bs.take k) : Int) + L ≤ 1048576) ∧ w.grownBy wr none
theorem szBlockS_any (A : Option Addr) (n c : Nat) (bs : List Bk) (w : World) (h : IsBlocks w A n c bs) :
    Calls Try.prog 15 #[.slice A n c, .int .i64 1048576] w (SzD n bs w) := by
  obtain ⟨rfl, hnc, hcm, hr, hb⟩ := h
  have hmx : bs.length ≤ 9223372036854775807 := by unfold maxLen at hcm; omega
  have HR := Lib.hid (And.intro hr hb)
  clear hr hb
  by_cases hbig : 1048576 < bs.length
  · have t1 : decide ((1048576 : Int) - bs.length < 0) = true := decide_eq_true (by omega)
    go_enter Try.func15, Try.ntmps15
    go_wp2
    go_ret
    exact ⟨_, rfl, grown_refl _ _, .inl rfl⟩
  · have t1 : decide ((1048576 : Int) - bs.length < 0) = false := decide_eq_false (by omega)
    go_enter Try.func15, Try.ntmps15
    go_wp2
    go_loopw [1, 5] (fun t i wr => ∃ (k : Nat) (L : Int), i = .int .i64 k ∧ t = .int .i64 L ∧ SzRel w bs k L wr) (fun _ i _ => bs.length - (intOf i).toNat)
    case atStart => exact ⟨0, _, rfl, rfl, Nat.zero_le _, by omega, by omega, by simp [tot]; omega, grown_refl _ _⟩
    case round =>
      obtain ⟨k, L, rfl, rfl, hk, h0, h1, hj, hg⟩ := hrel
      clear t1
      by_cases hlt : k < bs.length
      · obtain ⟨g, off, m, Ab, cb, ps, rfl, _, hgw, hb, c0, c1, _⟩ := (HR.out.1.kept hg).at_ hlt
        have hpm := HR.out.2 _ (List.mem_of_getElem? hb)
        have hpm2 : ps.length ≤ 9223372036854775807 := by have h1 : ps.length ≤ cb := hpm.1; have h2 : cb ≤ maxLen := hpm.2; unfold maxLen at h2; omega
        have HX := Lib.hid (And.intro hg (And.intro hj hb))
        clear hg hj hb hpm
        go_wp2_with fail
        refine (szBlock_any _ _ _ _ _ _ h0 h1 hpm2).mono ?_
        rintro e w1 ⟨v, rfl, hk1, hv⟩
        rcases hv with rfl | ⟨hv0, hvL⟩
        · have HY := Lib.hid (grown_trans HX.out.1 hk1)
          clear hk1
          go_wp2
          go_ret
          exact ⟨_, rfl, HY.out, .inl rfl⟩
        · have HY := Lib.hid (grown_trans HX.out.1 hk1)
          have t2 : decide (v < 0) = false := decide_eq_false (by omega)
          clear hk1
          go_wp2
          go_roundw
          case rel => exact ⟨k + 1, v, by go_num, rfl, by omega, hv0, by omega, by rw [tot_take HX.out.2.2]; have h4 := HX.out.2.1; simp only at h4 ⊢; omega, HY.out⟩
          case measure => simp [intOf]; omega
      · have HX := Lib.hid (And.intro hg hj)
        clear hg hj
        go_wp2
        go_ret
        exact ⟨_, rfl, HX.out.1, .inr ⟨h0, by omega, by have h4 := HX.out.2; rw [List.take_of_length_le (by omega)] at h4; omega⟩⟩

section
variable {H : Type} {enc : TypeId × Value → H} {w : World} {base : Nat} {spare : Nat → Bool} {held : Bool}
theorem open_block_cells {fuel : Nat} {cs : List Value} {x : DataW H × List MemPlace} (h : DataW.trod enc Try.prog w base spare held fuel 65 cs = some x) :
    ∃ (m : Int) (A : Option Addr) (n c : Nat) (ps : List Pg), cs = [.int .i64 m, .slice A n c] ∧ IsPages w A n c ps := by
  obtain ⟨xs, n, _, _, hlen, hxl, hg⟩ := DataW.trod_struct Try.underlying65 h
  have h2 : cs.length = 2 := hlen.trans (by kernel_rfl)
  obtain ⟨c0, c1, rfl⟩ := list2 h2
  have hx : xs.length = 2 := hxl.trans (by rfl)
  obtain ⟨y0, y1, rfl⟩ := list2 hx
  have e0 := hg 0 _ rfl
  have e1 := hg 1 _ rfl
  simp only [List.getElem?_cons_zero, List.getElem?_cons_succ] at e0 e1
  obtain ⟨m, hm, _⟩ := DataW.trod_int Try.underlying3 e0
  obtain ⟨A, n, c, ps, rfl, hp⟩ := open_pages e1
  injection hm with hm
  subst hm
  exact ⟨m, A, n, c, ps, rfl, hp⟩
theorem all_bk {Q : Nat → Bk → Prop} (n : Nat) (h : ∀ i, i < n → ∃ p, Q i p) : ∃ ps : List Bk, ps.length = n ∧ ∀ i p, ps[i]? = some p → Q i p := by
  induction n with
  | zero => exact ⟨[], rfl, fun i p hp => by simp at hp⟩
  | succ n ih =>
    obtain ⟨ps, hl, hq⟩ := ih fun i hi => h i (by omega)
    obtain ⟨p, hp⟩ := h n (by omega)
    refine ⟨ps ++ [p], by simp [hl], fun i q hi => ?_⟩
    rcases Nat.lt_trichotomy i n with h1 | h1 | h1
    · rw [List.getElem?_append_left (by omega)] at hi
      exact hq i q hi
    · subst h1
      rw [List.getElem?_append_right (by omega), hl, Nat.sub_self] at hi
      simp at hi
      rw [← hi]; exact hp
    · rw [List.getElem?_eq_none (by simp; omega)] at hi
      cases hi
theorem open_blocks {fuel : Nat} {v : Value} {x : DataW H × List MemPlace} (h : DataW.trod enc Try.prog w base spare held fuel 32 [v] = some x) :
    ∃ A n c bs, v = .slice A n c ∧ IsBlocks w A n c bs := by
  rcases open_slice Try.underlying32 h with ⟨h0, _⟩ | ⟨a, len, cap, m, n, D, Pl, hcs, hb, hl, hm, hmm, hx, hi⟩
  · injection h0 with h0
    exact ⟨none, 0, 0, [], h0, rfl, Nat.le_refl _, Nat.zero_le _, DRow.nil, fun b hb => by simp at hb⟩
  · injection hcs with hcs
    have hmn : len ≤ m := by rw [hmm]; split <;> omega
    have k2 : Try.prog.cellsOf 65 = 2 := by kernel_rfl
    have hp : ∀ i, i < len → ∃ b : Bk, (w.cell? ((a.add (i * 2)).add 0) = some (.int .i64 b.m) ∧ w.cell? ((a.add (i * 2)).add 1) = some (.slice b.A b.ps.length b.c)) ∧ IsPages w b.A b.ps.length b.c b.ps := by
      intro i hil
      obtain ⟨cs', hc, ht'⟩ := hi i (by omega)
      rw [k2] at hc
      obtain ⟨m, A, n, c, ps, rfl, hp⟩ := open_block_cells ht'
      obtain ⟨_, _, hat⟩ := World.cells?_some hc
      obtain ⟨rfl, hp2⟩ := hp
      exact ⟨⟨m, A, c, ps⟩, ⟨hat 0 (by omega), hat 1 (by omega)⟩, rfl, hp2⟩
    obtain ⟨bs, hbl, hq⟩ := all_bk len hp
    refine ⟨some a, len, cap, bs, hcs, hbl, hl, hm, ⟨fun hn => ?_, fun b hb => ?_⟩, fun b hb => ?_⟩
    · obtain ⟨g, off, spot⟩ := a
      have h0 := (hp 0 (by omega)).choose_spec.1.1
      have hspot : spot = none := by simpa [Addr.add] using World.cell?_spot h0
      subst hspot
      refine ⟨g, off, rfl, ?_, ?_, fun i b hi => ?_⟩
      · exact World.block_lt_of_cell? w ⟨g, off, none⟩ (by simpa [Addr.add] using h0)
      · exact World.block_lt_of_cell? w ⟨g, off, none⟩ (by simpa [Addr.add] using h0)
      · obtain ⟨⟨q0, q1⟩, _⟩ := hq i b hi
        simp only [Go.WideShapes.add_plain, Nat.add_zero] at q0 q1
        exact ⟨q0, q1⟩
    · obtain ⟨i, hi⟩ := List.getElem?_of_mem hb
      exact (hq i b hi).2.2.2.2
    · obtain ⟨i, hi⟩ := List.getElem?_of_mem hb
      exact ⟨(hq i b hi).2.2.1, (hq i b hi).2.2.2.1⟩
end
end Go.Proofs.Ytbdpnmejkchjpaa
