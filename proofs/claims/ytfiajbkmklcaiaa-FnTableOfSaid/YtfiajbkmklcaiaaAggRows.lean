/- A slice of pages that came in (the laws' own type): its cells, page by page. -/
import Derived.Test.YtfiajbkmklcaiaaAgg
import Derived.Test.YtfiajbkmklcaiaaRows5
namespace Go.Proofs.Ytfiajbkmklcaiaa
open Go.ChangeShapes Go.WideShapes Go.Deep

/-- What a walk is told of a slice of pages that came in. -/
def IsPages (w : World) (A : Option Addr) (n c : Nat) (ps : List Pg) : Prop := ps.length = n ∧ n ≤ c ∧ c ≤ maxLen ∧ Row w w.heap.size A ps
theorem list2 {α : Type} {l : List α} (h : l.length = 2) : ∃ a b, l = [a, b] := by
  match l, h with
  | [a, b], _ => exact ⟨a, b, rfl⟩
theorem all_of {Q : Nat → Pg → Prop} (n : Nat) (h : ∀ i, i < n → ∃ p, Q i p) : ∃ ps : List Pg, ps.length = n ∧ ∀ i p, ps[i]? = some p → Q i p := by
  induction n with
  | zero => exact ⟨[], rfl, fun i p hp => by simp at hp⟩
  | succ n ih =>
    obtain ⟨ps, hl, hq⟩ := ih fun i hi => h i (by omega)
    obtain ⟨p, hp⟩ := h n (by omega)
    refine ⟨ps ++ [p], by simp [hl], fun i q hi => ?_⟩
    rcases Nat.lt_trichotomy i n with h1 | h1 | h1
    · rw [List.getElem?_append_left (by omega)] at hi
      exact hq i q hi
    · subst h1
      rw [List.getElem?_append_right (by omega), hl, Nat.sub_self] at hi
      simp at hi
      rw [← hi]; exact hp
    · rw [List.getElem?_eq_none (by simp; omega)] at hi
      cases hi
section
variable {H : Type} {enc : TypeId × Value → H} {w : World} {base : Nat} {spare : Nat → Bool} {held : Bool}
set_option maxRecDepth 100000 in
theorem open_page_cells {fuel : Nat} {cs : List Value} {x : DataW H × List MemPlace} (h : DataW.trod enc Try.prog w base spare held fuel 130 cs = some x) :
    ∃ p : Pg, cs = [.bool p.f, .int .i64 p.a, .int .i64 p.b, .int .i64 p.c, .int .i64 p.d] := by
  obtain ⟨xs, n, _, _, hlen, hxl, hg⟩ := DataW.trod_struct Try.underlying130 h
  have h5 : cs.length = 5 := hlen.trans (by kernel_rfl)
  obtain ⟨c0, c1, c2, c3, c4, rfl⟩ := list5 h5
  have hx : xs.length = 5 := hxl.trans (by rfl)
  obtain ⟨y0, y1, y2, y3, y4, rfl⟩ := list5 hx
  have e0 := hg 0 _ rfl
  have e1 := hg 1 _ rfl
  have e2 := hg 2 _ rfl
  have e3 := hg 3 _ rfl
  have e4 := hg 4 _ rfl
  simp only [List.getElem?_cons_zero, List.getElem?_cons_succ] at e0 e1 e2 e3 e4
  obtain ⟨b, hb, _⟩ := DataW.trod_bool Try.underlying4 e0
  obtain ⟨n1, h1, _⟩ := DataW.trod_int Try.underlying3 e1
  obtain ⟨n2, h2, _⟩ := DataW.trod_int Try.underlying3 e2
  obtain ⟨n3, h3, _⟩ := DataW.trod_int Try.underlying3 e3
  obtain ⟨n4, h4, _⟩ := DataW.trod_int Try.underlying3 e4
  injection hb with hb; injection h1 with h1; injection h2 with h2; injection h3 with h3; injection h4 with h4
  subst hb; subst h1; subst h2; subst h3; subst h4
  exact ⟨⟨b, n1, n2, n3, n4⟩, rfl⟩
set_option maxRecDepth 100000 in
theorem open_pages {fuel : Nat} {v : Value} {x : DataW H × List MemPlace} (h : DataW.trod enc Try.prog w base spare held fuel 91 [v] = some x) :
    ∃ A n c ps, v = .slice A n c ∧ IsPages w A n c ps := by
  rcases open_slice Try.underlying91 h with ⟨h0, _⟩ | ⟨a, len, cap, m, n, D, Pl, hcs, hb, hl, hm, hmm, hx, hi⟩
  · injection h0 with h0
    exact ⟨none, 0, 0, [], h0, rfl, Nat.le_refl _, Nat.zero_le _, Row.nil⟩
  · injection hcs with hcs
    have hmn : len ≤ m := by rw [hmm]; split <;> omega
    have k5 : Try.prog.cellsOf 130 = 5 := by kernel_rfl
    have hp : ∀ i, i < len → ∃ p : Pg, w.cell? ((a.add (i * 5)).add 0) = some (.bool p.f) ∧ w.cell? ((a.add (i * 5)).add 1) = some (.int .i64 p.a) ∧ w.cell? ((a.add (i * 5)).add 2) = some (.int .i64 p.b) ∧ w.cell? ((a.add (i * 5)).add 3) = some (.int .i64 p.c) ∧ w.cell? ((a.add (i * 5)).add 4) = some (.int .i64 p.d) := by
      intro i hil
      obtain ⟨cs', hc, ht'⟩ := hi i (by omega)
      rw [k5] at hc
      obtain ⟨p, rfl⟩ := open_page_cells ht'
      obtain ⟨_, _, hat⟩ := World.cells?_some hc
      exact ⟨p, hat 0 (by omega), hat 1 (by omega), hat 2 (by omega), hat 3 (by omega), hat 4 (by omega)⟩
    obtain ⟨ps, hpl, hq⟩ := all_of len hp
    refine ⟨some a, len, cap, ps, hcs, hpl, hl, hm, fun hn => ?_⟩
    obtain ⟨g, off, spot⟩ := a
    have h0 := (hp 0 (by omega)).choose_spec.1
    have hspot : spot = none := by simpa [Addr.add] using World.cell?_spot h0
    subst hspot
    refine ⟨g, off, rfl, ?_, ?_, fun i p hi => ?_⟩
    · exact World.block_lt_of_cell? w ⟨g, off, none⟩ (by simpa [Addr.add] using h0)
    · exact World.block_lt_of_cell? w ⟨g, off, none⟩ (by simpa [Addr.add] using h0)
    · obtain ⟨q0, q1, q2, q3, q4⟩ := hq i p hi
      simp only [Go.WideShapes.add_plain, Nat.add_zero] at q0 q1 q2 q3 q4
      exact ⟨q0, q1, q2, q3, q4⟩
end
end Go.Proofs.Ytfiajbkmklcaiaa
