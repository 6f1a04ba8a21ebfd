/- What the exact laws of chapter 7 carry along: a table that came in, tables in variables of the call's own.
   What the exact law of TableOf carries along: tables and devices side by side. -/
import Derived.Test.YteniikfgellhfaaExactInts
import Derived.Test.YteniikfgellhfaaTables7
import Derived.Test.YteniikfgellhfaaExactDev3
namespace Go.Proofs.Yteniikfgellhfaa
open Go.ChangeShapes Go.WideShapes Go.ChangeAt Go.RowKit Go.Deep
set_option linter.unusedVariables false

theorem addr_add_zero (a : Addr) : a.add 0 = a := by unfold Addr.add; split <;> simp_all
theorem list1 {α : Type} {l : List α} (h : l.length = 1) : ∃ a, l = [a] := by
  match l, h with
  | [a], _ => exact ⟨a, rfl⟩
theorem all_some {α : Type} {Q : Nat → α → Prop} (n : Nat) (h : ∀ i, i < n → ∃ p, Q i p) : ∃ ps : List α, ps.length = n ∧ ∀ i p, ps[i]? = some p → Q i p := by
  induction n with
  | zero => exact ⟨[], rfl, fun i p hp => by simp at hp⟩
  | succ n ih =>
    obtain ⟨ps, hl, hq⟩ := ih fun i hi => h i (by omega)
    obtain ⟨p, hp⟩ := h n (by omega)
    refine ⟨ps ++ [p], by simp [hl], fun i q hi => ?_⟩
    rcases Nat.lt_trichotomy i n with h1 | h1 | h1
    · rw [List.getElem?_append_left (by omega)] at hi
      exact hq i q hi
    · subst h1
      rw [List.getElem?_append_right (by omega), hl, Nat.sub_self] at hi
      simp at hi
      rw [← hi]; exact hp
    · rw [List.getElem?_eq_none (by simp; omega)] at hi
      cases hi
section
variable {H : Type} {enc : TypeId × Value → H} {w : World} {base : Nat} {spare : Nat → Bool} {held : Bool}
/-- What a walk is told of a slice of numbers that came in. -/
def IsInts (w : World) (A : Option Addr) (n c : Nat) (xs : List Int) : Prop := xs.length = n ∧ n ≤ c ∧ c ≤ maxLen ∧ IRow w w.heap.size A xs
set_option maxRecDepth 100000 in
theorem open_intsT {fuel : Nat} {v : Value} {x : DataW H × List MemPlace} (h : DataW.trod enc Try.prog w base spare held fuel 26 [v] = some x) :
    ∃ A n c xs, v = .slice A n c ∧ IsInts w A n c xs := by
  rcases open_slice Try.underlying26 h with ⟨h0, _⟩ | ⟨a, len, cap, m, n, D, Pl, hcs, hb, hl, hm, hmm, hx, hi⟩
  · injection h0 with h0
    exact ⟨none, 0, 0, [], h0, rfl, Nat.le_refl _, Nat.zero_le _, VRow.nil⟩
  · injection hcs with hcs
    have hmn : len ≤ m := by rw [hmm]; split <;> omega
    have k1 : Try.prog.cellsOf 3 = 1 := by kernel_rfl
    have hp : ∀ i, i < len → ∃ x : Int, w.cell? (a.add (i * 1)) = some (.int .i64 x) := by
      intro i hil
      obtain ⟨cs', hc, ht'⟩ := hi i (by omega)
      rw [k1] at hc
      obtain ⟨_, hcl, hat⟩ := World.cells?_some hc
      have hat0 := hat 0 (by omega)
      obtain ⟨u, rfl⟩ := list1 hcl
      obtain ⟨y, hy, _⟩ := DataW.trod_int Try.underlying3 ht'
      injection hy with hy
      subst hy
      exact ⟨y, by simpa [addr_add_zero] using hat0⟩
    obtain ⟨xs, hbl, hq⟩ := all_some len hp
    refine ⟨some a, len, cap, xs, hcs, hbl, hl, hm, fun hn => ?_⟩
    rw [iv_length] at hn
    obtain ⟨g, off, spot⟩ := a
    have h0 := (hp 0 (by omega)).choose_spec
    have hspot : spot = none := by simpa [Addr.add] using World.cell?_spot h0
    subst hspot
    refine ⟨g, off, rfl, ?_, ?_, fun i u hu => ?_⟩
    · exact World.block_lt_of_cell? w ⟨g, off, none⟩ (by simpa [Addr.add] using h0)
    · exact World.block_lt_of_cell? w ⟨g, off, none⟩ (by simpa [Addr.add] using h0)
    · obtain ⟨y, hy, rfl⟩ := iv_get hu
      have := hq i y hy
      simpa [Go.WideShapes.add_plain] using this
set_option maxRecDepth 100000 in
theorem open_lists {fuel : Nat} {v : Value} {x : DataW H × List MemPlace} (h : DataW.trod enc Try.prog w base spare held fuel 38 [v] = some x) :
    ∃ A n c ls, v = .slice A n c ∧ IsLists w A n c ls := by
  rcases open_slice Try.underlying38 h with ⟨h0, _⟩ | ⟨a, len, cap, m, n, D, Pl, hcs, hb, hl, hm, hmm, hx, hi⟩
  · injection h0 with h0
    exact ⟨none, 0, 0, [], h0, rfl, Nat.le_refl _, Nat.zero_le _, TRow.nil, fun l hl => by simp at hl⟩
  · injection hcs with hcs
    have hmn : len ≤ m := by rw [hmm]; split <;> omega
    have k1 : Try.prog.cellsOf 26 = 1 := by kernel_rfl
    have hp : ∀ i, i < len → ∃ l : Li, w.cell? (a.add (i * 1)) = some (.slice l.A l.xs.length l.c) ∧ IsInts w l.A l.xs.length l.c l.xs := by
      intro i hil
      obtain ⟨cs', hc, ht'⟩ := hi i (by omega)
      rw [k1] at hc
      obtain ⟨_, hcl, hat⟩ := World.cells?_some hc
      have hat0 := hat 0 (by omega)
      obtain ⟨u, rfl⟩ := list1 hcl
      obtain ⟨A, n, c, xs, rfl, hp⟩ := open_intsT ht'
      obtain ⟨rfl, hp2⟩ := hp
      exact ⟨⟨A, c, xs⟩, by simpa [addr_add_zero] using hat0, rfl, hp2⟩
    obtain ⟨ls, hbl, hq⟩ := all_some len hp
    refine ⟨some a, len, cap, ls, hcs, hbl, hl, hm, ⟨fun hn => ?_, fun l hl => ?_⟩, fun l hl => ?_⟩
    · rw [lv_length] at hn
      obtain ⟨g, off, spot⟩ := a
      have h0 := (hp 0 (by omega)).choose_spec.1
      have hspot : spot = none := by simpa [Addr.add] using World.cell?_spot h0
      subst hspot
      refine ⟨g, off, rfl, ?_, ?_, fun i u hu => ?_⟩
      · exact World.block_lt_of_cell? w ⟨g, off, none⟩ (by simpa [Addr.add] using h0)
      · exact World.block_lt_of_cell? w ⟨g, off, none⟩ (by simpa [Addr.add] using h0)
      · simp only [lv, List.getElem?_map, Option.map_eq_some_iff] at hu
        obtain ⟨l, hl, rfl⟩ := hu
        have := (hq i l hl).1
        simpa [Go.WideShapes.add_plain, Li.row] using this
    · obtain ⟨i, hi⟩ := List.getElem?_of_mem hl
      exact (hq i l hi).2.2.2.2
    · obtain ⟨i, hi⟩ := List.getElem?_of_mem hl
      exact ⟨(hq i l hi).2.2.1, (hq i l hi).2.2.2.1⟩
end
/-- The table that came in, in its box V. -/
def VA (w : World) (V : Nat) (A : Option Addr) (n c : Nat) (ls : List Li) (wr : World) : Prop := Blk wr V 62 #[.slice A n c] ∧ TRow wr w.heap.size A ls ∧ w.heap.size ≤ V ∧ w.grownBy wr none
/-- A table of the call's own in a variable V: all its memory lies in blocks lo .. hi - 1. -/
def VT (w : World) (V : Nat) (A : Option Addr) (n c : Nat) (ls : List Li) (lo hi : Nat) (wr : World) : Prop :=
  Blk wr V 40 #[.slice A n c] ∧ TOwn wr lo (.slice A n c) ls ∧ ls.length = n ∧ (∀ a, A = some a → a.block < hi) ∧ (∀ (l : Li) (a : Addr), l ∈ ls → l.A = some a → a.block < hi) ∧ hi ≤ V ∧ w.heap.size ≤ lo ∧ w.grownBy wr none
section
variable {w wr w' : World} {A Ax : Option Addr} {V Vx n c nx cx lo hi lox hix : Nat} {ls cs : List Li}
theorem Blk.outV {t : TypeId} {cc : Array Value} (h : Blk wr V t cc) (k : Out lox hix wr w') (hd : V < lox ∨ hix ≤ V) : Blk w' V t cc := (k.block V h.lt hd).trans h
theorem VA.keep (h : VA w V A n c ls wr) (k : wr.grownBy w' none) : VA w V A n c ls w' := ⟨h.1.keep k, h.2.1.kept k, h.2.2.1, grown_trans h.2.2.2 k⟩
theorem VA.cell (h : VA w V A n c ls wr) : wr.cell? ⟨V, 0, none⟩ = some (.slice A n c) := h.1.cell 0
theorem VA.row (h : VA w V A n c ls wr) : TRow wr wr.heap.size A ls := h.2.1.here
theorem VA.marked (h : VA w V A n c ls wr) (hlo : w.heap.size ≤ lox) (hV : V < lox) (k : Out lox hix wr w') : VA w V A n c ls w' :=
  ⟨h.1.outV k (.inl hV), h.2.1.keep k.size fun q hq hz => World.cell?_of_block (k.block q.block hz (.inl (Nat.lt_of_lt_of_le hq hlo))), h.2.2.1, k.grown h.2.2.2 hlo⟩
theorem VT.keep (h : VT w V A n c ls lo hi wr) (k : wr.grownBy w' none) : VT w V A n c ls lo hi w' := ⟨h.1.keep k, h.2.1.keep k, h.2.2.1, h.2.2.2.1, h.2.2.2.2.1, h.2.2.2.2.2.1, h.2.2.2.2.2.2.1, grown_trans h.2.2.2.2.2.2.2 k⟩
theorem VT.cell (h : VT w V A n c ls lo hi wr) : wr.cell? ⟨V, 0, none⟩ = some (.slice A n c) := h.1.cell 0
theorem VT.row (h : VT w V A n c ls lo hi wr) : TRow wr wr.heap.size A ls := h.2.1.row
theorem VT.grown (h : VT w V A n c ls lo hi wr) : w.grownBy wr none := h.2.2.2.2.2.2.2
theorem VT.start (hG : w.grownBy wr none) (hl : cs.length = n) (ho : TOwn w' wr.heap.size (.slice A n c) cs) (hk : wr.grownBy w' none) :
    VT w w'.heap.size A n c cs wr.heap.size w'.heap.size (w'.alloc (.cells #[.slice A n c] 40)) := by
  refine ⟨Blk.new w' _ _, ho.keep (grown_alloc (grown_refl _ _) _), hl, fun a e => ?_, fun l a hb e => ?_, Nat.le_refl _, hG.size, grown_alloc (grown_trans hG hk) _⟩
  · exact (VOwn.lt ho.1 a.block (by subst e; rfl)).2
  · exact (VOwn.lt (ho.2.1 l hb) a.block (by simp [Li.row, e, Value.ownBlock])).2
theorem VT.marked (h : VT w V A n c ls lo hi wr) (hd : V < lox ∨ (hix ≤ lo ∧ hix ≤ V)) (hlo : w.heap.size ≤ lox) (k : Out lox hix wr w') : VT w V A n c ls lo hi w' := by
  obtain ⟨hb, ho, hl, hA, hP, hz, hw, hG⟩ := h
  refine ⟨hb.outV k (by omega), ⟨ownsRow_out ho.1 k fun g e => ?_, fun b hb => ownsRow_out (ho.2.1 b hb) k fun g e => ?_, ho.2.2⟩, hl, hA, hP, hz, hw, k.grown hG hlo⟩
  · have h1 := (VOwn.lt ho.1 g e).1
    cases hA' : A with
    | none => rw [hA'] at e; simp [Value.ownBlock] at e
    | some a =>
      have h2 := hA a hA'
      rw [hA'] at e
      simp only [Value.ownBlock, Option.some.injEq] at e
      omega
  · have h1 := (VOwn.lt (ho.2.1 b hb) g e).1
    cases hA' : b.A with
    | none => simp [Li.row, hA', Value.ownBlock] at e
    | some a =>
      have h2 := hP b a hb hA'
      simp only [Li.row, hA', Value.ownBlock, Option.some.injEq] at e
      omega
theorem VT.self (h : VT w V A n c ls lo hi wr) (ho : TOwn w' lo (.slice A n c) (lmark 1 ls)) (k : Out lo hi wr w') : VT w V A n c (lmark 1 ls) lo hi w' := by
  refine ⟨h.1.outV k (.inr h.2.2.2.2.2.1), ho, by rw [lmark_length]; exact h.2.2.1, h.2.2.2.1, fun b a hb e => ?_, h.2.2.2.2.2.1, h.2.2.2.2.2.2.1, k.grown h.2.2.2.2.2.2.2 h.2.2.2.2.2.2.1⟩
  obtain ⟨b', h1, h2⟩ := lmark_addr hb
  exact h.2.2.2.2.1 b' a h1 (h2.trans e)
/-- The mark of a table, its number told by an equation. -/
theorem markTable_val {v : Int} (hv : v = ((lend 1 ls : Nat) : Int)) (h : VT w V A n c ls lo hi wr) (hn : n ≤ 1048576) (ht : ltot (ll ls) ≤ 1048576) :
    Calls Try.prog 43 #[.agg #[.slice A n c], .int .i64 1] wr fun e w' => e = .returned (.int .i64 v) ∧ TOwn w' lo (.slice A n c) (lmark 1 ls) ∧ Out lo hi wr w' := by
  subst hv
  have h1 : wr.grownBy (wr.alloc (.cells #[.slice A n c] 40)) none := grown_alloc (grown_refl wr none) _
  rcases h.2.1.form with ⟨e, rfl⟩ | ⟨g, cap, e, hb, hlt, _, _⟩
  · injection e with e1 e2 e3
    subst e1; subst e2; subst e3
    have HO := Lib.hid (And.intro (h.2.1.keep h1) h1)
    clear h h1
    go_enter Try.func43, Try.ntmps43
    go_wp2_with fail
    refine (markLists_nil _).mono ?_
    rintro e w1 ⟨rfl, rfl⟩
    go_wp2
    go_ret
    exact ⟨rfl, HO.out.1, Out.of_grown HO.out.2 (fun g e => by cases e)⟩
  · injection e with e1 e2 e3
    subst e1; subst e2; subst e3
    have hd : TIs lo hi g ls := ⟨⟨(VOwn.lt h.2.1.1 g rfl).1, h.2.2.2.1 _ rfl⟩, fun b a hm ha => ⟨(VOwn.lt (h.2.1.2.1 b hm) a.block (by simp [Li.row, ha, Value.ownBlock])).1, h.2.2.2.2.1 b a hm ha⟩⟩
    have HO := Lib.hid (And.intro (h.2.1.keep h1) (And.intro h1 hd))
    clear h h1 hd
    go_enter Try.func43, Try.ntmps43
    go_wp2_with fail
    refine (markLists_some g ls.length c lo lo hi ls _ rfl HO.out.1 HO.out.2.2 hn ht).mono ?_
    rintro e w1 ⟨rfl, ho, hk⟩
    have HZ := Lib.hid (And.intro ho ((Out.of_grown HO.out.2.1 (fun g e => by cases e)).trans hk))
    clear ho hk
    go_wp2
    go_ret
    exact ⟨rfl, HZ.out⟩
theorem heldTable_val {v : Int} (hv : v = ((lend 1 ls : Nat) : Int)) (hv0 : decide (v < 0) = false) (hl : ls.length = n) (h : VT w V A n c (lmark 1 ls) lo hi wr) (hn : n ≤ 1048576) (ht : ltot (ll ls) ≤ 1048576) :
    Calls Try.prog 44 #[.agg #[.slice A n c], .int .i64 1] wr (KeptV (.int .i64 v) wr) := by
  have HO := Lib.hid (And.intro (h.row.alloc (.cells #[.slice A n c] 40)).here (And.intro (grown_alloc (grown_refl wr none) (.cells #[.slice A n c] 40)) (And.intro hl hv)))
  clear h hl hv
  go_enter Try.func44, Try.ntmps44
  go_wp2_with fail
  refine (heldLists_any _ _ _ ls _ HO.out.2.2.1 HO.out.1 hn ht).mono ?_
  rw [← HO.out.2.2.2]
  rintro e w1 ⟨rfl, rfl⟩
  go_wp2
  go_ret
  exact ⟨rfl, HO.out.2.1⟩
theorem tabB_ll (h : ll cs = ll ls) : tabB (ll cs) = tabB (ll ls) := by rw [h]
end
theorem IsLists.alloc {w : World} {A : Option Addr} {n c : Nat} {ls : List Li} (h : IsLists w A n c ls) (o : Obj) : IsLists (w.alloc o) A n c ls := ⟨h.1, h.2.1, h.2.2.1, (h.2.2.2.1.alloc o).here, h.2.2.2.2⟩
theorem IsLists.keep {w w' : World} {A : Option Addr} {n c : Nat} {ls : List Li} (h : IsLists w A n c ls) (k : w.grownBy w' none) : IsLists w' A n c ls := ⟨h.1, h.2.1, h.2.2.1, (h.2.2.2.1.kept k).here, h.2.2.2.2⟩
theorem VA.arg {w : World} {A : Option Addr} {n c : Nat} {ls : List Li} (h : IsLists w A n c ls) : VA w w.heap.size A n c ls (w.alloc (.cells #[.slice A n c] 62)) := ⟨Blk.new w _ _, h.2.2.2.1.alloc _, Nat.le_refl _, grown_alloc (grown_refl _ _) _⟩
/-- The second table that came in. -/
theorem VA.arg2 {w : World} {A A' : Option Addr} {n c n' c' : Nat} {ls : List Li} (h : IsLists w A n c ls) : VA w (w.heap.size + 1) A n c ls ((w.alloc (.cells #[.slice A' n' c'] 62)).alloc (.cells #[.slice A n c] 62)) := by
  refine ⟨?_, (h.2.2.2.1.alloc _).alloc _, by omega, grown_alloc (grown_alloc (grown_refl _ _) _) _⟩
  have H := Blk.new (w.alloc (.cells #[.slice A' n' c'] 62)) 62 #[.slice A n c]
  simpa only [size_alloc1] using H
/-- What TablePut answers, by letters. -/
def TPutIs (xss : List (List Int)) (f k x : Int) (l1 : List (List Int)) (r : Bool) : Prop := tputV xss f k x = (l1, r)
theorem tset_len {xss : List (List Int)} {f k : Nat} {x : Int} : (tset xss f k x).length = xss.length := by simp [tset]
theorem ltot_set {xss : List (List Int)} {f k : Nat} {x : Int} : ltot (tset xss f k x) = ltot xss := by
  unfold tset ltot
  rcases Nat.lt_or_ge f xss.length with h | h
  · rw [List.map_set]
    have e : (xss.getD f []).length = (xss.map List.length)[f]'(by simpa using h) := by simp [List.getD_eq_getElem?_getD, h]
    rw [List.length_set, e, List.set_getElem_self]
  · rw [List.set_eq_of_length_le h]
theorem tput_is (xss : List (List Int)) (f k x : Int) : ∃ (n1 : Nat) (l1 : List (List Int)) (r : Bool), TPutIs xss f k x l1 r ∧ l1.length = n1 ∧ n1 ≤ 1048576 ∧ ltot l1 ≤ 1048576 := by
  refine ⟨(tputV xss f k x).1.length, (tputV xss f k x).1, (tputV xss f k x).2, rfl, rfl, ?_⟩
  unfold tputV
  split
  · rename_i h
    simp only [Bool.and_eq_true, argB] at h
    have hv := h.1.1.1
    have hT := (tabB_iff _).1 hv
    have h48 := ltot_tab hv
    split
    · dsimp only
      rw [tset_len, ltot_set, hT.len]
      omega
    · dsimp only
      rw [hT.len]
      omega
  · simp [ltot]
theorem TPutIs.of {xss yss : List (List Int)} {f k x : Int} {l1 : List (List Int)} {r : Bool} (h : TPutIs xss f k x l1 r) (e : yss = xss) : TPutIs yss f k x l1 r := e ▸ h
/-- A table of so many lists, in memory of its own, and whether it is possible. -/
def TabMadeN (xss : List (List Int)) (n : Nat) (r : Bool) (w : World) (e : Ending) (w' : World) : Prop :=
  ∃ (A : Option Addr) (c : Nat) (cs : List Li), e = .returned (.tuple #[.agg #[.slice A n c], .bool r]) ∧ cs.length = n ∧ ll cs = xss ∧ TOwn w' w.heap.size (.slice A n c) cs ∧ w.grownBy w' none
theorem TabMade2.to {xss : List (List Int)} {n : Nat} {r : Bool} {w w' : World} {e : Ending} (h : TabMade2 xss r w e w') (hl : xss.length = n) : TabMadeN xss n r w e w' := by
  obtain ⟨A, m, c, cs, h1, h2, h3, h4⟩ := h
  obtain rfl : m = n := by rw [← h2, ← hl, ← h3, ll_length]
  exact ⟨A, c, cs, h1, h2, h3, h4⟩
section
variable {w : World} {A A' : Option Addr} {n c n' c' n1 : Nat} {ls ls' : List Li} {f k x : Int} {l1 : List (List Int)} {r : Bool} {V : Int}
theorem specTablePut_val (h : TPutIs (ll ls) f k x l1 r) (h1 : l1.length = n1) (hl : ls.length = n) (hr : TRow w w.heap.size A ls) (hn : n ≤ 1048576) (hp : ∀ l, l ∈ ls → l.xs.length ≤ 1048576) :
    Calls Try.prog 125 #[.agg #[.slice A n c], .int .i64 f, .int .i64 k, .int .i64 x] w (TabMadeN l1 n1 r w) := by
  have e := specTablePut_any A n c ls f k x w hl hr hn hp
  unfold TPutIs at h
  rw [h] at e
  exact e.mono fun _ _ q => q.to h1
theorem tableGet_val (h : tgetV (ll ls) f k = V) (hl : ls.length = n) (hr : TRow w w.heap.size A ls) (hn : n ≤ 1048576) (hp : ∀ l, l ∈ ls → l.xs.length ≤ 1048576) :
    Calls Try.prog 25 #[.agg #[.slice A n c], .int .i64 f, .int .i64 k] w (KeptV (.int .i64 V) w) := h ▸ tableGet_any A n c ls f k w hl hr hn hp
/-- What holds of a list of tables holds of its copies. -/
theorem small_cp (h : ll ls' = ll ls) (hp : ltot (ll ls) ≤ 1048576) : ∀ l, l ∈ ls' → l.xs.length ≤ 1048576 := small_ll (by rw [h]; exact hp)
end
end Go.Proofs.Yteniikfgellhfaa
namespace Go.Proofs.Yteniikfgellhfaa
open Go.ChangeShapes Go.WideShapes Go.ChangeAt Go.RowKit

theorem ltot_few {l : List (List Int)} {m : Nat} (hl : l.length = m) (hm : m ≤ 8) (h6 : ∀ xs, xs ∈ l → xs.length = 6) : ltot l ≤ 1048576 := by
  have : ∀ l : List (List Int), (∀ xs, xs ∈ l → xs.length = 6) → ltot l = 6 * l.length := by
    intro l hl
    induction l with
    | nil => rfl
    | cons p r ih =>
      have h1 := ih fun xs hx => hl xs (by simp [hx])
      have h2 := hl p (by simp)
      simp only [ltot, List.map_cons, List.sum_cons, List.length_cons] at h1 ⊢
      omega
  rw [this l h6, hl]
  omega
end Go.Proofs.Yteniikfgellhfaa
