/- A slice of pages that came in (the laws' own type): its cells, page by page.
   The exact laws' helpers for blocks: szBlock, toBlock, eqBlock.
   The exact laws' helpers for blocks, further: markBlock and heldBlock.
   What the exact laws of chapter 4 carry along: blocks in variables, and where their pages lie.
   What the exact law of WriteBlock carries along besides. -/
import Derived.Test.YteniikfgellhfaaAgg
import Derived.Test.YteniikfgellhfaaBlocks
import Derived.Test.YteniikfgellhfaaHand
import Derived.Test.YteniikfgellhfaaDrawBlocks
namespace Go.Proofs.Yteniikfgellhfaa
open Go.ChangeShapes Go.WideShapes Go.Deep

/-- What a walk is told of a slice of pages that came in. -/
def IsPages (w : World) (A : Option Addr) (n c : Nat) (ps : List Pg) : Prop := ps.length = n ∧ n ≤ c ∧ c ≤ maxLen ∧ Row w w.heap.size A ps
theorem list2 {α : Type} {l : List α} (h : l.length = 2) : ∃ a b, l = [a, b] := by
  match l, h with
  | [a, b], _ => exact ⟨a, b, rfl⟩
theorem all_of {Q : Nat → Pg → Prop} (n : Nat) (h : ∀ i, i < n → ∃ p, Q i p) : ∃ ps : List Pg, ps.length = n ∧ ∀ i p, ps[i]? = some p → Q i p := by
  induction n with
  | zero => exact ⟨[], rfl, fun i p hp => by simp at hp⟩
  | succ n ih =>
    obtain ⟨ps, hl, hq⟩ := ih fun i hi => h i (by omega)
    obtain ⟨p, hp⟩ := h n (by omega)
    refine ⟨ps ++ [p], by simp [hl], fun i q hi => ?_⟩
    rcases Nat.lt_trichotomy i n with h1 | h1 | h1
    · rw [List.getElem?_append_left (by omega)] at hi
      exact hq i q hi
    · subst h1
      rw [List.getElem?_append_right (by omega), hl, Nat.sub_self] at hi
      simp at hi
      rw [← hi]; exact hp
    · rw [List.getElem?_eq_none (by simp; omega)] at hi
      cases hi
section
variable {H : Type} {enc : TypeId × Value → H} {w : World} {base : Nat} {spare : Nat → Bool} {held : Bool}
set_option maxRecDepth 100000 in
theorem open_page_cells {fuel : Nat} {cs : List Value} {x : DataW H × List MemPlace} (h : DataW.trod enc Try.prog w base spare held fuel 145 cs = some x) :
    ∃ p : Pg, cs = [.bool p.f, .int .i64 p.a, .int .i64 p.b, .int .i64 p.c, .int .i64 p.d] := by
  obtain ⟨xs, n, _, _, hlen, hxl, hg⟩ := DataW.trod_struct Try.underlying145 h
  have h5 : cs.length = 5 := hlen.trans (by kernel_rfl)
  obtain ⟨c0, c1, c2, c3, c4, rfl⟩ := list5 h5
  have hx : xs.length = 5 := hxl.trans (by rfl)
  obtain ⟨y0, y1, y2, y3, y4, rfl⟩ := list5 hx
  have e0 := hg 0 _ rfl
  have e1 := hg 1 _ rfl
  have e2 := hg 2 _ rfl
  have e3 := hg 3 _ rfl
  have e4 := hg 4 _ rfl
  simp only [List.getElem?_cons_zero, List.getElem?_cons_succ] at e0 e1 e2 e3 e4
  obtain ⟨b, hb, _⟩ := DataW.trod_bool Try.underlying4 e0
  obtain ⟨n1, h1, _⟩ := DataW.trod_int Try.underlying3 e1
  obtain ⟨n2, h2, _⟩ := DataW.trod_int Try.underlying3 e2
  obtain ⟨n3, h3, _⟩ := DataW.trod_int Try.underlying3 e3
  obtain ⟨n4, h4, _⟩ := DataW.trod_int Try.underlying3 e4
  injection hb with hb; injection h1 with h1; injection h2 with h2; injection h3 with h3; injection h4 with h4
  subst hb; subst h1; subst h2; subst h3; subst h4
  exact ⟨⟨b, n1, n2, n3, n4⟩, rfl⟩
set_option maxRecDepth 100000 in
theorem open_pages {fuel : Nat} {v : Value} {x : DataW H × List MemPlace} (h : DataW.trod enc Try.prog w base spare held fuel 100 [v] = some x) :
    ∃ A n c ps, v = .slice A n c ∧ IsPages w A n c ps := by
  rcases open_slice Try.underlying100 h with ⟨h0, _⟩ | ⟨a, len, cap, m, n, D, Pl, hcs, hb, hl, hm, hmm, hx, hi⟩
  · injection h0 with h0
    exact ⟨none, 0, 0, [], h0, rfl, Nat.le_refl _, Nat.zero_le _, Row.nil⟩
  · injection hcs with hcs
    have hmn : len ≤ m := by rw [hmm]; split <;> omega
    have k5 : Try.prog.cellsOf 145 = 5 := by kernel_rfl
    have hp : ∀ i, i < len → ∃ p : Pg, w.cell? ((a.add (i * 5)).add 0) = some (.bool p.f) ∧ w.cell? ((a.add (i * 5)).add 1) = some (.int .i64 p.a) ∧ w.cell? ((a.add (i * 5)).add 2) = some (.int .i64 p.b) ∧ w.cell? ((a.add (i * 5)).add 3) = some (.int .i64 p.c) ∧ w.cell? ((a.add (i * 5)).add 4) = some (.int .i64 p.d) := by
      intro i hil
      obtain ⟨cs', hc, ht'⟩ := hi i (by omega)
      rw [k5] at hc
      obtain ⟨p, rfl⟩ := open_page_cells ht'
      obtain ⟨_, _, hat⟩ := World.cells?_some hc
      exact ⟨p, hat 0 (by omega), hat 1 (by omega), hat 2 (by omega), hat 3 (by omega), hat 4 (by omega)⟩
    obtain ⟨ps, hpl, hq⟩ := all_of len hp
    refine ⟨some a, len, cap, ps, hcs, hpl, hl, hm, fun hn => ?_⟩
    obtain ⟨g, off, spot⟩ := a
    have h0 := (hp 0 (by omega)).choose_spec.1
    have hspot : spot = none := by simpa [Addr.add] using World.cell?_spot h0
    subst hspot
    refine ⟨g, off, rfl, ?_, ?_, fun i p hi => ?_⟩
    · exact World.block_lt_of_cell? w ⟨g, off, none⟩ (by simpa [Addr.add] using h0)
    · exact World.block_lt_of_cell? w ⟨g, off, none⟩ (by simpa [Addr.add] using h0)
    · obtain ⟨q0, q1, q2, q3, q4⟩ := hq i p hi
      simp only [Go.WideShapes.add_plain, Nat.add_zero] at q0 q1 q2 q3 q4
      exact ⟨q0, q1, q2, q3, q4⟩
end
end Go.Proofs.Yteniikfgellhfaa
namespace Go.Proofs.Yteniikfgellhfaa
open Go.ChangeShapes Go.WideShapes Go.ChangeAt Go.RowKit

theorem cells2' {w : World} {g : Nat} {t : TypeId} {u0 u1 : Value} (h : Blk w g t #[u0, u1]) :
    w.cell? ⟨g, 0, none⟩ = some u0 ∧ w.cell? ⟨g, 1, none⟩ = some u1 ∧ w.frozen? ⟨g, 0, none⟩ = false ∧ w.frozen? ⟨g, 1, none⟩ = false := ⟨h.cell 0, h.cell 1, h.frozen 0, h.frozen 1⟩
theorem Own.ne_lt {w : World} {base g : Nat} {v : Value} {ps : List Pg} (h : Own w base v ps) (hg : g < base) : v.ownBlock ≠ some g := fun e => by
  have := (World.ownsRow.lt h _ e).1
  omega
/-- A number that is not negative. -/
def NotNeg (w : World) (e : Ending) (w' : World) : Prop := ∃ v : Int, e = .returned (.int .i64 v) ∧ 0 ≤ v ∧ w.grownBy w' none
theorem szPageS_ok (A : Option Addr) (n c : Nat) (w : World) (hn : n ≤ 1048576) :
    Calls Try.prog 108 #[.slice A n c, .int .i64 1048576] w fun e w' => e = .returned (.int .i64 (1048576 - n)) ∧ w = w' := by
  have t1 : decide ((1048576 : Int) - n < 0) = false := decide_eq_false (by omega)
  go_enter Try.func108, Try.ntmps108
  go_wp2
  go_ret
  exact ⟨rfl, rfl⟩
theorem szPageS_big (A : Option Addr) (n c : Nat) (w : World) (hn : 1048576 < n) (hm : n ≤ 9223372036854775807) :
    Calls Try.prog 108 #[.slice A n c, .int .i64 1048576] w fun e w' => e = .returned (.int .i64 (-1)) ∧ w = w' := by
  have t1 : decide ((1048576 : Int) - n < 0) = true := decide_eq_true (by omega)
  go_enter Try.func108, Try.ntmps108
  go_wp2
  go_ret
  exact ⟨rfl, rfl⟩
theorem szBlock_ok (m : Int) (A : Option Addr) (n c : Nat) (w : World) (hn : n ≤ 1048576) :
    Calls Try.prog 77 #[.agg #[.int .i64 m, .slice A n c], .int .i64 1048576] w (NotNeg w) := by
  have t1 : decide ((1048576 : Int) - n < 0) = false := decide_eq_false (by omega)
  go_enter Try.func77, Try.ntmps77
  go_wp2_with (go_at_call 108; refine (szPageS_ok _ _ _ _ hn).mono ?_; rintro e w' ⟨rfl, rfl⟩)
  go_ret
  exact ⟨_, rfl, by omega, grown_alloc (grown_refl _ _) _⟩
theorem szBlock_big (m : Int) (A : Option Addr) (n c : Nat) (w : World) (hn : 1048576 < n) (hm : n ≤ 9223372036854775807) :
    Calls Try.prog 77 #[.agg #[.int .i64 m, .slice A n c], .int .i64 1048576] w (KeptV (.int .i64 (-1)) w) := by
  go_enter Try.func77, Try.ntmps77
  go_wp2_with (go_at_call 108; refine (szPageS_big _ _ _ _ hn hm).mono ?_; rintro e w' ⟨rfl, rfl⟩)
  go_ret
  exact ⟨rfl, grown_alloc (grown_refl _ _) _⟩

/-- The first k pages taken over, the rest not written. -/
def fill (ps : List Pg) (n k : Nat) : List Pg := ps.take k ++ List.replicate (n - k) pz
theorem fill_zero (ps : List Pg) (n : Nat) : fill ps n 0 = List.replicate n pz := by simp [fill]
theorem fill_end {ps : List Pg} {n : Nat} (h : ps.length = n) : fill ps n n = ps := by subst h; simp [fill]
theorem fill_length {ps : List Pg} {n k : Nat} (h : ps.length = n) (hk : k ≤ n) : (fill ps n k).length = n := by
  simp only [fill, List.length_append, List.length_take, List.length_replicate]; omega
theorem fill_step {ps : List Pg} {n k : Nat} {p : Pg} (h : ps.length = n) (hp : ps[k]? = some p) : (fill ps n k).set k p = fill ps n (k + 1) := by
  have hk : k < ps.length := (List.getElem?_eq_some_iff.1 hp).1
  have e : n - k = (n - (k + 1)) + 1 := by omega
  have ht : (ps.take k).length = k := by rw [List.length_take]; omega
  unfold fill
  rw [e, List.replicate_succ, List.set_append_right _ _ (by omega), ht, Nat.sub_self, List.set_cons_zero, List.take_add_one, hp]
  simp
/-- Pages in memory of the call's own are returned. -/
def RowMade (n : Nat) (ps : List Pg) (w : World) (e : Ending) (w' : World) : Prop := ∃ A c, e = .returned (.slice A n c) ∧ Own w' w.heap.size (.slice A n c) ps ∧ w.grownBy w' none
/-- The loop that takes pages over, at page k. -/
def FillSt (w : World) (ps : List Pg) (n k : Nat) (wr : World) : Prop := k ≤ n ∧ Own wr w.heap.size (.slice (some ⟨w.heap.size, 0, none⟩) n n) (fill ps n k) ∧ w.grownBy wr none
theorem grown_putO' {a w : World} {k o : Nat} (h : a.grownBy w none) (hk : a.heap.size ≤ k) (u0 u1 u2 u3 u4 : Value) :
    a.grownBy (((((w.setCell ⟨k, o, none⟩ u0).setCell ⟨k, o + 1, none⟩ u1).setCell ⟨k, o + 2, none⟩ u2).setCell ⟨k, o + 3, none⟩ u3).setCell ⟨k, o + 4, none⟩ u4) none :=
  grown_put (grown_put (grown_put (grown_put (grown_put h hk u0) hk u1) hk u2) hk u3) hk u4
theorem toPageS_any (A : Option Addr) (n c : Nat) (ps : List Pg) (w : World) (hl : ps.length = n) (hr : Row w w.heap.size A ps) (hn : n ≤ 1048576) :
    Calls Try.prog 109 #[.slice A n c] w (RowMade n ps w) := by
  have HR := Lib.hid (And.intro hl hr)
  have hmk := fun W => make_pages W n hn
  have hO := own_made w w.heap.size n (Nat.le_refl _) (by simp only [maxLen]; omega)
  rw [← fill_zero ps n] at hO
  have HO := Lib.hid hO
  clear hl hr hO
  go_enter Try.func109, Try.ntmps109
  go_wp2
  clear hmk
  go_loopw [4] (fun i wr => ∃ k : Nat, i = .int .i64 k ∧ FillSt w ps n k wr) (fun i _ => n - (intOf i).toNat)
  case atStart => exact ⟨0, rfl, Nat.zero_le _, HO.out, grown_alloc (grown_refl _ _) _⟩
  case round =>
    obtain ⟨k, rfl, hk, ho, hg⟩ := hrel
    have HS := Lib.hid (And.intro ho hg)
    clear HO ho hg
    by_cases hlt : k < n
    · obtain ⟨g, off, rfl, _, hgw, hp5⟩ := HR.out.2.kept HS.out.2 (by have := HR.out.1; omega)
      obtain ⟨⟨f, x1, x2, x3, x4⟩, hp⟩ := getD_at (show k < ps.length by have := HR.out.1; omega)
      obtain ⟨c0, c1, c2, c3, c4⟩ := hp5 _ _ hp
      have HP := Lib.hid hp
      clear hp hp5
      go_wp2_with fail
      refine (toPage_any _ _ _ _ _ _).mono ?_
      rintro e w1 ⟨rfl, hkp⟩
      replace HS := Lib.hid (And.intro (HS.out.1.keep hkp) (grown_trans HS.out.2 hkp))
      clear hkp c0 c1 c2 c3 c4
      have hfl := fill_length HR.out.1 hk
      obtain ⟨q, hq⟩ := getD_at (show k < (fill ps n k).length by omega)
      obtain ⟨d0, d1, d2, d3, d4⟩ := HS.out.1.at_ hfl hq
      have f0 := HS.out.1.frozen hfl (k * 5)
      have f1 := HS.out.1.frozen hfl (k * 5 + 1)
      have f2 := HS.out.1.frozen hfl (k * 5 + 2)
      have f3 := HS.out.1.frozen hfl (k * 5 + 3)
      have f4 := HS.out.1.frozen hfl (k * 5 + 4)
      have HL := Lib.hid hfl
      clear hfl hq
      go_wp2
      go_roundw
      case rel => exact ⟨k + 1, by go_num, by omega, by rw [← fill_step HR.out.1 HP.out]; exact HS.out.1.set5 HL.out k ⟨f, x1, x2, x3, x4⟩, grown_putO' HS.out.2 (Nat.le_refl _) _ _ _ _ _⟩
      case measure => simp [intOf]; omega
    · obtain rfl : k = n := by omega
      go_wp2
      go_ret
      exact ⟨_, _, rfl, by have h := HS.out.1; rw [fill_end HR.out.1] at h; exact h, HS.out.2⟩
theorem toBlock_any (m : Int) (A : Option Addr) (n c : Nat) (ps : List Pg) (w : World) (hl : ps.length = n) (hr : Row w w.heap.size A ps) (hn : n ≤ 1048576) :
    Calls Try.prog 78 #[.agg #[.int .i64 m, .slice A n c]] w (Made m n ps w) := by
  have HR := Lib.hid (And.intro hl (((hr.alloc (.cells #[.int .i64 m, .slice A n c] 102)).alloc (.cells #[.int .i64 0, .slice none 0 0] 87)).alloc (.cells #[.int .i64 m, .slice none 0 0] 87)))
  have hB := (Blk.new (w.alloc (.cells #[.int .i64 m, .slice A n c] 102)) 87 #[.int .i64 0, .slice none 0 0]).alloc (.cells #[.int .i64 m, .slice none 0 0] 87)
  have hC := Blk.new ((w.alloc (.cells #[.int .i64 m, .slice A n c] 102)).alloc (.cells #[.int .i64 0, .slice none 0 0] 87)) 87 #[.int .i64 m, .slice none 0 0]
  simp only [size_alloc1] at hB hC
  have HB := Lib.hid (And.intro hB hC)
  have HG := Lib.hid (grown_alloc (grown_alloc (grown_alloc (grown_refl w none) (.cells #[.int .i64 m, .slice A n c] 102)) (.cells #[.int .i64 0, .slice none 0 0] 87)) (.cells #[.int .i64 m, .slice none 0 0] 87))
  clear hl hr hB hC
  go_enter Try.func78, Try.ntmps78
  go_wp2_with fail
  refine (toPageS_any _ _ _ _ _ HR.out.1 HR.out.2.here hn).mono ?_
  rintro e w1 ⟨A1, c1, rfl, hown, hk⟩
  simp only [size_alloc1] at hown
  obtain ⟨r0, r1, q0, q1⟩ := cells2' (HB.out.1.keep hk)
  obtain ⟨v0, v1, f0, f1⟩ := cells2' (HB.out.2.keep hk)
  have HX := Lib.hid (And.intro hown (grown_trans HG.out hk))
  clear hk hown
  go_wp2
  exact bodyPost_ret (v := .agg #[.int .i64 m, .slice A1 n c1]) (by simp [results, Try.results78, go_sem, *]) rfl
    ⟨_, _, rfl, HR.out.1, (((HX.out.1.to_put (HX.out.1.ne_lt (by omega)) _).to_put (HX.out.1.ne_lt (by omega)) _).to_put (HX.out.1.ne_lt (by omega)) _).base_le (by omega), grown_put (grown_put (grown_put HX.out.2 (le2 _) _) (Nat.le_succ _) _) (Nat.le_succ _) _⟩
theorem eqPageS_same (A A' : Option Addr) (c c' n : Nat) (ps : List Pg) (w : World) (hl : ps.length = n) (hr : Row w w.heap.size A ps) (hr' : Row w w.heap.size A' ps) (hn : n ≤ 1048576) :
    Calls Try.prog 110 #[.slice A n c, .slice A' n c'] w (KeptV (.bool true) w) := by
  subst hl
  have HR := Lib.hid (And.intro hr hr')
  clear hr hr'
  go_enter Try.func110, Try.ntmps110
  go_wp2
  go_loopw [5] (fun i wr => ∃ k : Nat, k ≤ ps.length ∧ i = .int .i64 k ∧ w.grownBy wr none) (fun i _ => ps.length - (intOf i).toNat)
  case atStart => exact ⟨0, Nat.zero_le _, rfl, grown_refl _ _⟩
  case round =>
    obtain ⟨k, hk, rfl, hg⟩ := hrel
    by_cases hlt : k < ps.length
    · obtain ⟨g, off, rfl, _, hgw, hp5⟩ := HR.out.1.kept hg (by omega)
      obtain ⟨g', off', rfl, _, hgw', hp5'⟩ := HR.out.2.kept hg (by omega)
      obtain ⟨⟨f, x1, x2, x3, x4⟩, hp⟩ := getD_at hlt
      have HP := Lib.hid (And.intro (hp5 _ _ hp) (hp5' _ _ hp))
      obtain ⟨c0, c1, c2, c3, c4⟩ := hp5 _ _ hp
      obtain ⟨d0, d1, d2, d3, d4⟩ := hp5' _ _ hp
      have HG := Lib.hid hg
      have ha : decide (k < ps.length) = true := decide_eq_true hlt
      have ha2 : (k : Int) < ps.length := by omega
      clear hp hp5 hp5' hg
      go_wp2_with fail
      refine wp_region_held_drew (S := (fun w' => w'.cell? ⟨g, off + k * 5, none⟩ = some (.bool f) ∧ w'.cell? ⟨g, off + k * 5 + 1, none⟩ = some (.int .i64 x1) ∧ w'.cell? ⟨g, off + k * 5 + 2, none⟩ = some (.int .i64 x2) ∧ w'.cell? ⟨g, off + k * 5 + 3, none⟩ = some (.int .i64 x3) ∧ w'.cell? ⟨g, off + k * 5 + 4, none⟩ = some (.int .i64 x4) ∧ w'.cell? ⟨g', off' + k * 5, none⟩ = some (.bool f) ∧ w'.cell? ⟨g', off' + k * 5 + 1, none⟩ = some (.int .i64 x1) ∧ w'.cell? ⟨g', off' + k * 5 + 2, none⟩ = some (.int .i64 x2) ∧ w'.cell? ⟨g', off' + k * 5 + 3, none⟩ = some (.int .i64 x3) ∧ w'.cell? ⟨g', off' + k * 5 + 4, none⟩ = some (.int .i64 x4))) (by kernel_rfl) ?_ (fun hHeld => ?_)
      · exact ⟨c0, c1, c2, c3, c4, d0, d1, d2, d3, d4⟩
      replace HG := Lib.hid (grown_drew HG.out)
      replace HP := Lib.hid (And.intro (HP.out.1.kept (grown_drew (grown_refl _ none))) (HP.out.2.kept (grown_drew (grown_refl _ none))))
      refine heldY 0 17 ?_
      refine heldY 1 18 ?_
      refine heldY 2 19 ?_
      refine heldY 3 20 ?_
      refine heldY 4 21 ?_
      refine heldY 5 22 ?_
      refine heldY 6 23 ?_
      refine heldY 7 24 ?_
      refine wpAnyH_ready (rs := [8]) (by kernel_rfl) (by simp) ?_
      refine AllReadyH.cons rfl (fun K hK => ?_) AllReadyH.nil
      go_simp
      go_at_call 130
      refine (eqPage_same _ _ _ _ _ _).mono ?_
      rintro e w1 ⟨rfl, hk1⟩
      replace HG := Lib.hid (grown_trans HG.out hk1)
      replace HP := Lib.hid (And.intro (HP.out.1.kept hk1) (HP.out.2.kept hk1))
      clear hk1 c0 c1 c2 c3 c4 d0 d1 d2 d3 d4
      obtain ⟨c0, c1, c2, c3, c4⟩ := HP.out.1
      obtain ⟨d0, d1, d2, d3, d4⟩ := HP.out.2
      refine hK.out _ _ ?_ (fun hHeld => ?_)
      · exact ⟨c0, c1, c2, c3, c4, d0, d1, d2, d3, d4⟩
      clear hK K
      try simp only [Act.put, List.setIfInBounds_toArray, List.set_cons_zero, List.set_cons_succ]
      refine heldY 9 26 ?_
      refine wpAnyH_done (by kernel_rfl) ?_ _
      go_wp2
      go_roundw
      case rel => exact ⟨k + 1, by omega, by go_num, HG.out⟩
      case measure => simp [intOf]; omega
    · have HG := Lib.hid hg
      clear hg
      go_wp2
      go_ret
      exact ⟨rfl, HG.out⟩
theorem eqBlock_same (m : Int) (A A' : Option Addr) (c c' n : Nat) (ps : List Pg) (w : World) (hl : ps.length = n) (hr : Row w w.heap.size A ps) (hr' : Row w w.heap.size A' ps) (hn : n ≤ 1048576) :
    Calls Try.prog 79 #[.agg #[.int .i64 m, .slice A n c], .agg #[.int .i64 m, .slice A' n c']] w (KeptV (.bool true) w) := by
  have HR := Lib.hid (And.intro hl (And.intro (hr.alloc (.cells #[.int .i64 m, .slice A n c] 87)) (hr'.alloc (.cells #[.int .i64 m, .slice A n c] 87))))
  clear hr hr' hl
  go_enter Try.func79, Try.ntmps79
  go_wp2_with (go_at_call 110; refine (eqPageS_same _ _ _ _ _ _ _ HR.out.1 (HR.out.2.1.alloc _).here (HR.out.2.2.alloc _).here hn).mono ?_; rintro e w' ⟨rfl, hk⟩)
  go_ret
  exact ⟨rfl, grown_trans (grown_alloc (grown_alloc (grown_refl _ _) _) _) hk⟩
end Go.Proofs.Yteniikfgellhfaa
namespace Go.Proofs.Yteniikfgellhfaa
open Go.ChangeShapes Go.WideShapes Go.ChangeAt Go.RowKit

/-- The page that a mark writes from number K on; n of them; n of them in front of what was there. -/
def mkP (K : Nat) : Pg := ⟨(K : Int) % 3 == 0, (K : Int) + 1, (K : Int) + 1 + 1, (K : Int) + 1 + 1 + 1, (K : Int) + 1 + 1 + 1 + 1⟩
def marks (k0 n : Nat) : List Pg := (List.range n).map fun j => mkP (k0 + 5 * j)
def markTo (k0 : Nat) (ps : List Pg) (i : Nat) : List Pg := marks k0 i ++ ps.drop i
theorem marks_length (k0 n : Nat) : (marks k0 n).length = n := by simp [marks]
theorem marks_at {k0 n i : Nat} (h : i < n) : (marks k0 n)[i]? = some (mkP (k0 + 5 * i)) := by simp [marks, h]
theorem markTo_length {k0 i : Nat} {ps : List Pg} (h : i ≤ ps.length) : (markTo k0 ps i).length = ps.length := by
  simp only [markTo, List.length_append, marks_length, List.length_drop]; omega
theorem markTo_zero (k0 : Nat) (ps : List Pg) : markTo k0 ps 0 = ps := by simp [markTo, marks]
theorem markTo_end (k0 : Nat) (ps : List Pg) : markTo k0 ps ps.length = marks k0 ps.length := by simp [markTo]
theorem markTo_step {k0 i : Nat} {ps : List Pg} (h : i < ps.length) : (markTo k0 ps i).set i (mkP (k0 + 5 * i)) = markTo k0 ps (i + 1) := by
  unfold markTo
  rw [List.set_append_right _ _ (by rw [marks_length]; omega), marks_length, Nat.sub_self]
  have e : marks k0 (i + 1) = marks k0 i ++ [mkP (k0 + 5 * i)] := by simp [marks, List.range_succ]
  rw [e, List.append_assoc]
  congr 1
  rw [List.drop_eq_getElem_cons h]
  rfl
/-- A box made ahead of the marks. -/
theorem grown_of_alloc {w w' : World} {o : Obj} {row : Option Nat} (h : (w.alloc o).grownBy w' row) : w.grownBy w' row := by
  have k := World.grownBy_alloc w o row
  exact grown_trans k h
/-- Marked: the pages lie in the same row as before. -/
def Marked (k0 : Nat) (A : Option Addr) (n c base : Nat) (w : World) (e : Ending) (w' : World) : Prop :=
  e = .returned (.int .i64 ((k0 + 5 * n : Nat) : Int)) ∧ Own w' base (.slice A n c) (marks k0 n) ∧ w.grownBy w' (Value.slice A n c).ownBlock
def MarkSt (w : World) (base g n c k0 : Nat) (ps : List Pg) (i K : Nat) (wr : World) : Prop :=
  i ≤ n ∧ K = k0 + 5 * i ∧ Own wr base (.slice (some ⟨g, 0, none⟩) n c) (markTo k0 ps i) ∧ w.grownBy wr (some g)
theorem grown_own5 {a w : World} {k o : Nat} (h : a.grownBy w (some k)) (u0 u1 u2 u3 u4 : Value) :
    a.grownBy (((((w.setCell ⟨k, o, none⟩ u0).setCell ⟨k, o + 1, none⟩ u1).setCell ⟨k, o + 2, none⟩ u2).setCell ⟨k, o + 3, none⟩ u3).setCell ⟨k, o + 4, none⟩ u4) (some k) :=
  grown_set (grown_set (grown_set (grown_set (grown_set h (.inl rfl) u0) (.inl rfl) u1) (.inl rfl) u2) (.inl rfl) u3) (.inl rfl) u4
theorem markPageS_some (g n c k0 base : Nat) (ps : List Pg) (w : World) (hl : ps.length = n) (ho : Own w base (.slice (some ⟨g, 0, none⟩) n c) ps) (hn : n ≤ 1048576) (hk : k0 ≤ 100000000) :
    Calls Try.prog 80 #[.slice (some ⟨g, 0, none⟩) n c, .int .i64 k0] w (Marked k0 (some ⟨g, 0, none⟩) n c base w) := by
  subst hl
  have HO := Lib.hid ho
  clear ho
  go_enter Try.func80, Try.ntmps80
  go_wp2
  go_loopw [1, 5] (fun t i wr => ∃ (k K : Nat), i = .int .i64 k ∧ t = .int .i64 K ∧ MarkSt w base g ps.length c k0 ps k K wr) (fun _ i _ => ps.length - (intOf i).toNat)
  case atStart => exact ⟨0, k0, rfl, rfl, Nat.zero_le _, by omega, by rw [markTo_zero]; exact HO.out, grown_refl _ _⟩
  case round =>
    obtain ⟨k, K, rfl, rfl, hkn, hK, hown, hg⟩ := hrel
    clear HO
    have hfl := markTo_length (k0 := k0) hkn
    have HS := Lib.hid (And.intro hown (And.intro hg (And.intro hK hfl)))
    by_cases hlt : k < ps.length
    · have hKb : K ≤ 1000000000 := by omega
      obtain ⟨q, hq⟩ := getD_at (show k < (markTo k0 ps k).length by omega)
      obtain ⟨d0, d1, d2, d3, d4⟩ := hown.at_ hfl hq
      have f0 := hown.frozen hfl (k * 5)
      have f1 := hown.frozen hfl (k * 5 + 1)
      have f2 := hown.frozen hfl (k * 5 + 2)
      have f3 := hown.frozen hfl (k * 5 + 3)
      have f4 := hown.frozen hfl (k * 5 + 4)
      clear hown hg hq hfl hK
      go_wp2
      go_roundw
      case rel => exact ⟨k + 1, K + 5, by go_num, by simp; omega, by omega, by have := HS.out.2.2.1; omega, by have h2 := markTo_step (k0 := k0) hlt; rw [← HS.out.2.2.1] at h2; rw [← h2]; exact HS.out.1.set5 HS.out.2.2.2 k (mkP K), grown_own5 HS.out.2.1 _ _ _ _ _⟩
      case measure => simp [intOf]; omega
    · obtain rfl : k = ps.length := by omega
      clear hown hg hfl hK
      go_wp2
      go_ret
      exact ⟨retI (by have := HS.out.2.2.1; omega), by have h := HS.out.1; rw [markTo_end] at h; exact h, HS.out.2.1⟩
theorem markPageS_any (A : Option Addr) (n c k0 base : Nat) (ps : List Pg) (w : World) (hl : ps.length = n) (ho : Own w base (.slice A n c) ps) (hn : n ≤ 1048576) (hk : k0 ≤ 100000000) :
    Calls Try.prog 80 #[.slice A n c, .int .i64 k0] w (Marked k0 A n c base w) := by
  rcases ho.form with ⟨e, rfl⟩ | ⟨g, cap, e, _⟩
  · injection e with e1 e2 e3
    subst e1; subst e2; subst e3
    have HO := Lib.hid ho
    clear ho hl
    go_enter Try.func80, Try.ntmps80
    go_wp2
    go_loopw [1, 5] (fun t i wr => t = .int .i64 k0 ∧ i = .int .i64 0 ∧ wr = w) (fun _ _ _ => 0)
    case atStart => exact ⟨rfl, rfl, rfl⟩
    case round =>
      obtain ⟨rfl, rfl, rfl⟩ := hrel
      go_wp2
      go_ret
      exact ⟨retI (by omega), HO.out, grown_refl _ _⟩
  · injection e with e1 e2 e3
    subst e1
    exact markPageS_some g n c k0 base ps w hl ho hn hk
end Go.Proofs.Yteniikfgellhfaa
namespace Go.Proofs.Yteniikfgellhfaa
open Go.ChangeShapes Go.WideShapes Go.ChangeAt Go.RowKit

theorem Own.apart {w : World} {base V n c : Nat} {ad : Addr} {ps : List Pg} {t : TypeId} {cs : Array Value} (ho : Own w base (.slice (some ad) n c) ps) (hb : Blk w V t cs) (ht : t ≠ 30) : V ≠ ad.block := by
  rcases ho.2 with ⟨e, _⟩ | ⟨g', cap, cur, e, _, hh, _⟩
  · cases e
  · injection e with e; injection e with e; subst e
    rintro rfl
    unfold Blk at hb
    rw [hh] at hb
    injection hb with hb
    injection hb with _ h2
    exact ht h2.symm
/-- The variable's block V (of type t) holds a block; its pages lie in blocks lo .. hi - 1. -/
def VB (w : World) (t : TypeId) (V : Nat) (m : Int) (A : Option Addr) (n c : Nat) (ps : List Pg) (lo hi : Nat) (wr : World) : Prop :=
  Blk wr V t #[.int .i64 m, .slice A n c] ∧ ps.length = n ∧ Row wr wr.heap.size A ps ∧ (0 < ps.length → ∀ ad, A = some ad → lo ≤ ad.block ∧ ad.block < hi) ∧ w.grownBy wr none
/-- The same of pages that the call owns. -/
def VO (w : World) (t : TypeId) (V : Nat) (m : Int) (A : Option Addr) (n c : Nat) (ps : List Pg) (lo hi : Nat) (wr : World) : Prop :=
  VB w t V m A n c ps lo hi wr ∧ Own wr lo (.slice A n c) ps ∧ (∀ ad, A = some ad → lo ≤ ad.block ∧ ad.block < hi) ∧ w.heap.size ≤ lo
section
variable {w wr w' : World} {t t' : TypeId} {V Vx : Nat} {m mx : Int} {A Ax : Option Addr} {n c nx cx lo hi lox hix : Nat} {ps qs : List Pg}
theorem VB.keep (h : VB w t V m A n c ps lo hi wr) (k : wr.grownBy w' none) : VB w t V m A n c ps lo hi w' :=
  ⟨h.1.keep k, h.2.1, (h.2.2.1.kept k).here, h.2.2.2.1, grown_trans h.2.2.2.2 k⟩
theorem VB.cells (h : VB w t V m A n c ps lo hi wr) : wr.cell? ⟨V, 0, none⟩ = some (.int .i64 m) ∧ wr.cell? ⟨V, 1, none⟩ = some (.slice A n c) ∧ V < wr.heap.size := ⟨h.1.cell 0, h.1.cell 1, h.1.lt⟩
theorem VO.keep (h : VO w t V m A n c ps lo hi wr) (k : wr.grownBy w' none) : VO w t V m A n c ps lo hi w' := ⟨h.1.keep k, h.2.1.keep k, h.2.2⟩
theorem VO.cells (h : VO w t V m A n c ps lo hi wr) : wr.cell? ⟨V, 0, none⟩ = some (.int .i64 m) ∧ wr.cell? ⟨V, 1, none⟩ = some (.slice A n c) ∧ V < wr.heap.size := h.1.cells
/-- A block that a call has made goes into a new variable. -/
theorem VO.start (hG : w.grownBy wr none) (hl : ps.length = n) (ho : Own wr lo (.slice A n c) ps) (hlo : w.heap.size ≤ lo) :
    VO w t wr.heap.size m A n c ps lo wr.heap.size (wr.alloc (.cells #[.int .i64 m, .slice A n c] t)) := by
  have hb : ∀ ad, A = some ad → lo ≤ ad.block ∧ ad.block < wr.heap.size := fun ad e => by
    subst e
    exact ⟨(World.ownsRow.lt ho _ rfl).1, (World.ownsRow.lt ho _ rfl).2⟩
  exact ⟨⟨Blk.new wr _ _, hl, (ho.row.alloc _).here, fun _ => hb, grown_alloc hG _⟩, ho.keep (grown_alloc (grown_refl _ _) _), hb, hlo⟩
/-- Another row has been written to. -/
theorem VB.marked (h : VB w t V m A n c ps lo hi wr) (hx : VO w t' Vx mx Ax nx cx qs lox hix wr) (ht : t ≠ 30) (hd : hi ≤ lox ∨ hix ≤ lo)
    (k : wr.grownBy w' (Value.slice Ax nx cx).ownBlock) : VB w t V m A n c ps lo hi w' := by
  rcases Ax with _ | ad
  · exact h.keep k
  · have hb := hx.2.2.1 ad rfl
    have hlo := hx.2.2.2
    have hV : V ≠ ad.block := hx.2.1.apart h.1 ht
    have k' : wr.grownBy w' (some ad.block) := k
    refine ⟨h.1.grown k' (by intro e; injection e with e; exact hV e), h.2.1, fun hn => ?_, h.2.2.2.1, grown_join h.2.2.2.2 k' (by omega)⟩
    obtain ⟨g, off, e, _, hz, hc⟩ := h.2.2.1 hn
    have hg := h.2.2.2.1 hn _ e
    have hne : g ≠ ad.block := by
      have h1 : (⟨g, off, none⟩ : Addr).block = g := rfl
      rw [h1] at hg
      omega
    exact ⟨g, off, e, Nat.lt_of_lt_of_le hz k'.size, Nat.lt_of_lt_of_le hz k'.size, fun i q hq => (hc i q hq).keep fun r hr => World.cell?_of_block (k'.block r.block (by omega) (fun e2 => by injection e2 with e2; omega))⟩
theorem VO.marked (h : VO w t V m A n c ps lo hi wr) (hx : VO w t' Vx mx Ax nx cx qs lox hix wr) (ht : t ≠ 30) (hd : hi ≤ lox ∨ hix ≤ lo)
    (k : wr.grownBy w' (Value.slice Ax nx cx).ownBlock) : VO w t V m A n c ps lo hi w' := by
  refine ⟨h.1.marked hx ht hd k, h.2.1.kept k ?_, h.2.2⟩
  rcases A with _ | ad
  · exact .inl rfl
  · rcases Ax with _ | ax
    · exact .inr (by simp [Value.ownBlock])
    · have h1 := h.2.2.1 ad rfl
      have h2 := hx.2.2.1 ax rfl
      exact .inr (by simp [Value.ownBlock]; omega)
/-- The row itself has been written to. -/
theorem VO.self (hx : VO w t Vx mx Ax nx cx qs lox hix wr) (ht : t ≠ 30)
    (k : wr.grownBy w' (Value.slice Ax nx cx).ownBlock) (ho' : Own w' lox (.slice Ax nx cx) ps) (hl : ps.length = nx) : VO w t Vx mx Ax nx cx ps lox hix w' := by
  refine ⟨?_, ho', hx.2.2⟩
  rcases Ax with _ | ad
  · exact ⟨(hx.1.keep k).1, hl, ho'.row, fun _ => hx.2.2.1, (hx.1.keep k).2.2.2.2⟩
  · have hb := hx.2.2.1 ad rfl
    have hlo := hx.2.2.2
    have hV : Vx ≠ ad.block := hx.2.1.apart hx.1.1 ht
    have k' : wr.grownBy w' (some ad.block) := k
    exact ⟨hx.1.1.grown k' (by intro e; injection e with e; exact hV e), hl, ho'.row, fun _ => hx.2.2.1, grown_join hx.1.2.2.2.2 k' (by omega)⟩
end
/-- The mark, its number told by an equation. -/
def MarkedV (v : Int) (A : Option Addr) (n c base : Nat) (w : World) (e : Ending) (w' : World) : Prop :=
  e = .returned (.int .i64 v) ∧ Own w' base (.slice A n c) (marks 1 n) ∧ w.grownBy w' (Value.slice A n c).ownBlock
theorem VB.arg {w : World} {m : Int} {A : Option Addr} {n c : Nat} {ps : List Pg} (h : IsPages w A n c ps) : VB w 102 w.heap.size m A n c ps 0 w.heap.size (w.alloc (.cells #[.int .i64 m, .slice A n c] 102)) := by
  refine ⟨Blk.new w _ _, h.1, (h.2.2.2.alloc _).here, fun hn ad e => ?_, grown_alloc (grown_refl _ _) _⟩
  obtain ⟨g, off, e2, hb, _, _⟩ := h.2.2.2 hn
  rw [e] at e2
  injection e2 with e2
  subst e2
  exact ⟨Nat.zero_le _, hb⟩
end Go.Proofs.Yteniikfgellhfaa
namespace Go.Proofs.Yteniikfgellhfaa
open Go.ChangeShapes Go.WideShapes Go.ChangeAt Go.RowKit

/-- What WriteBlock answers. -/
def WriteIs (m : Int) (ps : List Pg) (f : Bool) (x1 x2 x3 x4 : Int) (m1 : Int) (n1 : Nat) (ps1 : List Pg) (r : Int) : Prop :=
  (((blockB m ps && (f && pageB f x1 x2 x3 x4)) = false) ∧ m1 = 0 ∧ n1 = 0 ∧ ps1 = [] ∧ r = -1) ∨
  (blockB m ps = true ∧ f = true ∧ pageB true x1 x2 x3 x4 = true ∧ nextV m ps = -1 ∧ m1 = m ∧ n1 = 4 ∧ ps1 = ps ∧ r = -1) ∨
  (∃ k : Nat, blockB m ps = true ∧ f = true ∧ pageB true x1 x2 x3 x4 = true ∧ nextV m ps = (k : Int) ∧ k < 4 ∧ m1 = m ∧ n1 = 4 ∧ ps1 = ps.set k ⟨true, x1, x2, x3, x4⟩ ∧ r = (k : Int))
theorem write_is (m : Int) (ps : List Pg) (f : Bool) (x1 x2 x3 x4 : Int) : ∃ m1 n1 ps1 r, WriteIs m ps f x1 x2 x3 x4 m1 n1 ps1 r ∧ n1 ≤ 4 := by
  cases h : (blockB m ps && (f && pageB f x1 x2 x3 x4))
  · exact ⟨0, 0, [], -1, .inl ⟨h, rfl, rfl, rfl, rfl⟩, by omega⟩
  · simp only [Bool.and_eq_true] at h
    obtain ⟨hv, rfl, hp⟩ := h
    rcases next_cases m ps with hn | ⟨k, hk, h4, _⟩
    · exact ⟨m, 4, ps, -1, .inr (.inl ⟨hv, rfl, hp, hn, rfl, rfl, rfl, rfl⟩), by omega⟩
    · exact ⟨m, 4, _, k, .inr (.inr ⟨k, hv, rfl, hp, hk, h4, rfl, rfl, rfl, rfl⟩), by omega⟩
theorem specWrite_val {m : Int} {ps : List Pg} {f : Bool} {x1 x2 x3 x4 m1 : Int} {n1 : Nat} {ps1 : List Pg} {r : Int} (h : WriteIs m ps f x1 x2 x3 x4 m1 n1 ps1 r) (A : Option Addr) (n c : Nat) (w : World) (hl : ps.length = n) (hr : Row w w.heap.size A ps) (hn : n ≤ 1048576) :
    Calls Try.prog 119 #[.agg #[.int .i64 m, .slice A n c], .agg #[.bool f, .int .i64 x1, .int .i64 x2, .int .i64 x3, .int .i64 x4]] w (Made2 m1 n1 ps1 (.int .i64 r) w) := by
  rcases h with ⟨hb, rfl, rfl, rfl, rfl⟩ | ⟨hv, rfl, hp, hx, rfl, rfl, rfl, rfl⟩ | ⟨k, hv, rfl, hp, hx, h4, rfl, rfl, rfl, rfl⟩
  · cases hv : blockB m ps
    · exact specWrite_bad m A n c f x1 x2 x3 x4 ps w hl hr hn hv
    · rw [hv, Bool.true_and] at hb
      exact specWrite_page m A n c f x1 x2 x3 x4 ps w hl hr hn hv hb
  · have hn4 := (block_parts hv).2.1.symm.trans hl
    subst hn4
    exact specWrite_full _ A c x1 x2 x3 x4 _ w hr hv hp hx
  · have hn4 := (block_parts hv).2.1.symm.trans hl
    subst hn4
    exact specWrite_at _ A c x1 x2 x3 x4 ps w hr hv hp hx h4

section
variable {w wr w' : World} {t t' : TypeId} {V Vx D : Nat} {m mx : Int} {A Ax : Option Addr} {n c nx cx lo hi lox hix : Nat} {ps qs : List Pg} {cs : Array Value}
theorem Blk.marked (h : Blk wr V t cs) (hx : VO w t' Vx mx Ax nx cx qs lox hix wr) (ht : t ≠ 30) (k : wr.grownBy w' (Value.slice Ax nx cx).ownBlock) : Blk w' V t cs := by
  rcases Ax with _ | ad
  · exact h.keep k
  · have hV : V ≠ ad.block := hx.2.1.apart h ht
    have k' : wr.grownBy w' (some ad.block) := k
    exact h.grown k' (by intro e; injection e with e; exact hV e)
/-- A variable made ahead of the call is written. -/
theorem VO.put (hG : w.grownBy wr none) (hl : ps.length = n) (ho : Own wr lo (.slice A n c) ps) (hlo : w.heap.size ≤ lo) (hD : Blk wr D 87 #[.int .i64 0, .slice none 0 0]) (hDw : w.heap.size ≤ D) :
    VO w 87 D m A n c ps lo wr.heap.size ((wr.setCell ⟨D, 0, none⟩ (.int .i64 m)).setCell ⟨D, 1, none⟩ (.slice A n c)) := by
  have hb : ∀ ad, A = some ad → lo ≤ ad.block ∧ ad.block < wr.heap.size := fun ad e => by
    subst e
    exact ⟨(World.ownsRow.lt ho _ rfl).1, (World.ownsRow.lt ho _ rfl).2⟩
  have hne : (Value.slice A n c).ownBlock ≠ some D := by
    rcases A with _ | ad
    · simp [Value.ownBlock]
    · have := ho.apart hD (by decide)
      simpa [Value.ownBlock] using (Ne.symm this)
  have ho' := (ho.to_put (k := 0) hne (.int .i64 m)).to_put (k := 1) hne (.slice A n c)
  exact ⟨⟨(hD.put 0 _).put 1 _, hl, ho'.row, fun _ => hb, grown_put (grown_put hG hDw _) hDw _⟩, ho', hb, hlo⟩
theorem VB.store (h : VB w t V m A n c ps lo hi wr) (hV : V ≠ D) (hd : hi ≤ D) (hD : w.heap.size ≤ D) (u0 u1 : Value) : VB w t V m A n c ps lo hi ((wr.setCell ⟨D, 0, none⟩ u0).setCell ⟨D, 1, none⟩ u1) := by
  refine ⟨(h.1.far hV _).far hV _, h.2.1, fun hn => ?_, h.2.2.2.1, grown_put (grown_put h.2.2.2.2 hD _) hD _⟩
  obtain ⟨g, off, rfl, hb, hz, hc⟩ := h.2.2.1 hn
  have hg := h.2.2.2.1 hn _ rfl
  have hg2 : g < hi := hg.2
  exact ⟨g, off, rfl, by simpa [World.setCell] using hz, by simpa [World.setCell] using hz, fun i q hq => ((hc i q hq).keep fun r hr => World.cell?_setCell_other wr ⟨D, 0, none⟩ r _ (fun e => by subst e; simp at hr; omega)).keep fun r hr => World.cell?_setCell_other _ ⟨D, 1, none⟩ r _ (fun e => by subst e; simp at hr; omega)⟩
theorem VO.store (h : VO w t V m A n c ps lo hi wr) (hV : V ≠ D) (hd : hi ≤ D) (hD : w.heap.size ≤ D) (u0 u1 : Value) : VO w t V m A n c ps lo hi ((wr.setCell ⟨D, 0, none⟩ u0).setCell ⟨D, 1, none⟩ u1) := by
  have hne : (Value.slice A n c).ownBlock ≠ some D := by
    rcases A with _ | ad
    · simp [Value.ownBlock]
    · have := h.2.2.1 ad rfl
      simp [Value.ownBlock]; omega
  exact ⟨h.1.store hV hd hD u0 u1, (h.2.1.to_put hne _).to_put hne _, h.2.2⟩
theorem Blk.store (h : Blk wr V t cs) (hV : V ≠ D) (u0 u1 : Value) : Blk ((wr.setCell ⟨D, 0, none⟩ u0).setCell ⟨D, 1, none⟩ u1) V t cs := (h.far hV _).far hV _
theorem size_set2 (wr : World) (D : Nat) (u0 u1 : Value) : ((wr.setCell ⟨D, 0, none⟩ u0).setCell ⟨D, 1, none⟩ u1).heap.size = wr.heap.size := by simp [World.setCell]
end
end Go.Proofs.Yteniikfgellhfaa
