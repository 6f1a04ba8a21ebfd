/- Tables in memory: a slice of slices of numbers that is read (TRow), one that is the call's own (TOwn); what a valid table is. -/
import Derived.Test.YtpjajmiegopmlaaInts
namespace Go.Proofs.Ytpjajmiegopmlaa
open Go.ChangeShapes Go.WideShapes Go.ChangeAt Go.RowKit

/-- A list of numbers as it lies in a row: where, its capacity, its numbers. -/
structure Li where
  A : Option Addr
  c : Nat
  xs : List Int
def Li.row (l : Li) : Value := .slice l.A l.xs.length l.c
/-- The cells of a row of lists. -/
def lv (ls : List Li) : List Value := ls.map Li.row
/-- The lists themselves. -/
def ll (ls : List Li) : List (List Int) := ls.map Li.xs
theorem lv_length (ls : List Li) : (lv ls).length = ls.length := by simp [lv]
theorem ll_length (ls : List Li) : (ll ls).length = ls.length := by simp [ll]
theorem lv_at {ls : List Li} {i : Nat} {l : Li} (h : ls[i]? = some l) : (lv ls)[i]? = some l.row := by simp [lv, h]
theorem ll_at {ls : List Li} {i : Nat} {l : Li} (h : ls[i]? = some l) : (ll ls)[i]? = some l.xs := by simp [ll, h]
theorem lv_append (a b : List Li) : lv (a ++ b) = lv a ++ lv b := by simp [lv]
theorem ll_append (a b : List Li) : ll (a ++ b) = ll a ++ ll b := by simp [ll]
theorem lv_set (ls : List Li) (i : Nat) (l : Li) : lv (ls.set i l) = (lv ls).set i l.row := by simp [lv, List.map_set]
theorem ll_set (ls : List Li) (i : Nat) (l : Li) : ll (ls.set i l) = (ll ls).set i l.xs := by simp [ll, List.map_set]
theorem lv_one (ls : List Li) : ∀ u ∈ lv ls, u.oneCell' = true := by
  intro u hu
  simp only [lv, List.mem_map] at hu
  obtain ⟨l, _, rfl⟩ := hu
  rfl
/-- A slice of lists that is read: it and all its lists lie below block B. -/
def TRow (w : World) (B : Nat) (A : Option Addr) (ls : List Li) : Prop := VRow w B A (lv ls) ∧ ∀ l, l ∈ ls → IRow w B l.A l.xs
section
variable {w w' : World} {B B' : Nat} {A : Option Addr} {ls : List Li}
theorem TRow.nil : TRow w B A [] := ⟨VRow.nil, fun l hl => by simp at hl⟩
theorem TRow.more (h : TRow w B A ls) (hB : B ≤ B') : TRow w B' A ls := ⟨h.1.more hB, fun l hl => VRow.more (h.2 l hl) hB⟩
theorem TRow.keep (h : TRow w B A ls) (hz : w.heap.size ≤ w'.heap.size) (hk : ∀ q : Addr, q.block < B → q.block < w.heap.size → w'.cell? q = w.cell? q) : TRow w' B A ls := ⟨h.1.keep hz hk, fun l hl => VRow.keep (h.2 l hl) hz hk⟩
theorem TRow.kept (h : TRow w B A ls) (hg : w.grownBy w' none) : TRow w' B A ls := ⟨h.1.kept hg, fun l hl => VRow.kept (h.2 l hl) hg⟩
theorem TRow.grown (h : TRow w B A ls) {row : Option Nat} (hg : w.grownBy w' row) (hr : ∀ g, row = some g → B ≤ g) : TRow w' B A ls := ⟨h.1.grown hg hr, fun l hl => VRow.grown (h.2 l hl) hg hr⟩
theorem TRow.below (h : TRow w B A ls) (hb : Below B w w') : TRow w' B A ls := ⟨h.1.below hb, fun l hl => VRow.below (h.2 l hl) hb⟩
theorem TRow.alloc (h : TRow w B A ls) (o : Obj) : TRow (w.alloc o) B A ls := h.kept (grown_alloc (grown_refl _ _) o)
theorem TRow.drew (h : TRow w B A ls) : TRow w.drew B A ls := h
theorem TRow.drewN (h : TRow w B A ls) (k : Nat) : TRow (w.drewN k) B A ls := h
theorem TRow.here (h : TRow w B A ls) : TRow w w.heap.size A ls := ⟨h.1.here, fun l hl => VRow.here (h.2 l hl)⟩
/-- List i of a table that is read. -/
theorem TRow.at_ (h : TRow w B A ls) {i : Nat} (hi : i < ls.length) : ∃ (g off : Nat) (Al : Option Addr) (c : Nat) (xs : List Int), A = some ⟨g, off, none⟩ ∧ g < B ∧ g < w.heap.size ∧ ls[i]? = some ⟨Al, c, xs⟩ ∧
    w.cell? ⟨g, off + i, none⟩ = some (.slice Al xs.length c) ∧ IRow w B Al xs := by
  obtain ⟨g, off, e, hb, hz, hc⟩ := h.1 (by rw [lv_length]; omega)
  have he := List.getElem?_eq_getElem hi
  exact ⟨g, off, ls[i].A, ls[i].c, ls[i].xs, e, hb, hz, he, hc _ _ (lv_at he), h.2 _ (List.getElem_mem hi)⟩
end
/-- No two of the lists lie in one block of memory. -/
def tapart (ls : List Li) : Prop := ∀ (i j : Nat) (l l' : Li) (a a' : Addr), i ≠ j → ls[i]? = some l → ls[j]? = some l' → l.A = some a → l'.A = some a' → a.block ≠ a'.block
/-- A slice of lists that is the call's own, with all of them. -/
def TOwn (w : World) (base : Nat) (v : Value) (ls : List Li) : Prop := VOwn w base 56 v (lv ls) ∧ (∀ l, l ∈ ls → IOwn w base l.row l.xs) ∧ tapart ls
theorem int_ne : (3 : TypeId) ≠ 56 := by decide
section
variable {w w' : World} {base base' : Nat} {v v' : Value} {ls : List Li}
theorem TOwn.keep (h : TOwn w base v ls) (hg : w.grownBy w' none) : TOwn w' base v ls := ⟨h.1.keep hg, fun l hl => VOwn.keep (h.2.1 l hl) hg, h.2.2⟩
theorem TOwn.base_le (h : TOwn w base v ls) (hb : base' ≤ base) : TOwn w base' v ls := ⟨h.1.base_le hb, fun l hl => VOwn.base_le (h.2.1 l hl) hb, h.2.2⟩
theorem TOwn.form (h : TOwn w base v ls) : (v = .slice none 0 0 ∧ ls = []) ∨ ∃ g cap, v = .slice (some ⟨g, 0, none⟩) ls.length cap ∧ base ≤ g ∧ g < w.heap.size ∧ ls.length ≤ cap ∧ cap ≤ maxLen := by
  rcases h.1.form with ⟨e, h0⟩ | ⟨g, cap, e, h1⟩
  · exact .inl ⟨e, by simpa [lv] using h0⟩
  · rw [lv_length] at e h1
    exact .inr ⟨g, cap, e, h1⟩
theorem TOwn.at_ {g cap n : Nat} (h : TOwn w base (.slice (some ⟨g, 0, none⟩) n cap) ls) (hn : ls.length = n) {i : Nat} {l : Li} (hp : ls[i]? = some l) : w.cell? ⟨g, i, none⟩ = some (.slice l.A l.xs.length l.c) :=
  h.1.at_ (by rw [lv_length]; exact hn) (lv_at hp)
theorem TOwn.frozen {g cap n : Nat} (h : TOwn w base (.slice (some ⟨g, 0, none⟩) n cap) ls) (hn : ls.length = n) (j : Nat) : w.frozen? ⟨g, j, none⟩ = false := h.1.frozen (by rw [lv_length]; exact hn) j
theorem TOwn.row {A : Option Addr} {n c : Nat} (h : TOwn w base (.slice A n c) ls) : TRow w w.heap.size A ls := ⟨h.1.row, fun l hl => VOwn.row (h.2.1 l hl)⟩
/-- Another block of memory is written to. -/
theorem TOwn.grown {row : Option Nat} (h : TOwn w base v ls) (hg : w.grownBy w' row) (hv : v.ownBlock = none ∨ v.ownBlock ≠ row) (hb : ∀ l a, l ∈ ls → l.A = some a → row ≠ some a.block) : TOwn w' base v ls := by
  refine ⟨h.1.kept hg hv, fun l hm => VOwn.kept (h.2.1 l hm) hg ?_, h.2.2⟩
  cases hA : l.A with
  | none => exact .inl (by simp [Li.row, hA, Value.ownBlock])
  | some a => exact .inr (by have := hb l a hm hA; simp [Li.row, hA, Value.ownBlock]; exact fun e => this e.symm)
theorem TOwn.inner_ne (h : TOwn w base v ls) {l : Li} (hl : l ∈ ls) : l.row.ownBlock = none ∨ l.row.ownBlock ≠ v.ownBlock := VOwn.ne (h.2.1 l hl) h.1 int_ne
/-- One list more in a table of the call's own. -/
theorem TOwn.push {wr w1 w3 : World} {cs : List Li} {A : Option Addr} {c : Nat} {xs : List Int} (h : TOwn wr base v cs) (hk : wr.grownBy w1 none) (hp : IOwn w1 wr.heap.size (.slice A xs.length c) xs) (hb : base ≤ wr.heap.size)
    (ho : VOwn w3 base 56 v' (lv cs ++ [.slice A xs.length c])) (hg : w1.grownBy w3 v.ownBlock) : TOwn w3 base v' (cs ++ [⟨A, c, xs⟩]) := by
  have h1 := h.keep hk
  refine ⟨?_, fun b hm => ?_, fun i j b b' a a' hij hi hj ha ha' => ?_⟩
  · rw [lv_append]
    exact ho
  · rcases List.mem_append.1 hm with hm | hm
    · exact VOwn.kept (h1.2.1 b hm) hg (h1.inner_ne hm)
    · simp at hm
      subst hm
      exact VOwn.base_le (VOwn.kept hp hg (VOwn.ne hp h1.1 int_ne)) hb
  · have lt : ∀ {b : Li} {a : Addr}, b ∈ cs → b.A = some a → a.block < wr.heap.size := fun {b a} hm e => (VOwn.lt (h.2.1 b hm) a.block (by simp [Li.row, e, Value.ownBlock])).2
    have ge : ∀ {a : Addr}, A = some a → wr.heap.size ≤ a.block := fun {a} e => (VOwn.lt hp a.block (by simp [e, Value.ownBlock])).1
    rcases Nat.lt_or_ge i cs.length with hi1 | hi1 <;> rcases Nat.lt_or_ge j cs.length with hj1 | hj1
    · rw [List.getElem?_append_left hi1] at hi
      rw [List.getElem?_append_left hj1] at hj
      exact h.2.2 i j b b' a a' hij hi hj ha ha'
    · rw [List.getElem?_append_left hi1] at hi
      rw [List.getElem?_append_right hj1] at hj
      have hj0 : j - cs.length = 0 := by have := (List.getElem?_eq_some_iff.1 hj).1; simp at this; omega
      rw [hj0] at hj
      simp at hj
      subst hj
      have := lt (List.mem_of_getElem? hi) ha
      have := ge ha'
      omega
    · rw [List.getElem?_append_right hi1] at hi
      rw [List.getElem?_append_left hj1] at hj
      have hi0 : i - cs.length = 0 := by have := (List.getElem?_eq_some_iff.1 hi).1; simp at this; omega
      rw [hi0] at hi
      simp at hi
      subst hi
      have := lt (List.mem_of_getElem? hj) ha'
      have := ge ha
      omega
    · have hi0 : i < cs.length + 1 := by have := (List.getElem?_eq_some_iff.1 hi).1; simpa using this
      have hj0 : j < cs.length + 1 := by have := (List.getElem?_eq_some_iff.1 hj).1; simpa using this
      omega
/-- A number put into a list of a table of the call's own. -/
theorem TOwn.set {g c : Nat} {xs : List Int} {f : Nat} (h : TOwn w base v ls) (hl : ls[f]? = some ⟨some ⟨g, 0, none⟩, c, xs⟩) (i : Nat) (x : Int) :
    TOwn (w.setCell ⟨g, i, none⟩ (.int .i64 x)) base v (ls.set f ⟨some ⟨g, 0, none⟩, c, xs.set i x⟩) := by
  have hm := List.mem_of_getElem? hl
  have hlt : f < ls.length := (List.getElem?_eq_some_iff.1 hl).1
  have hrow : lv (ls.set f ⟨some ⟨g, 0, none⟩, c, xs.set i x⟩) = lv ls := by
    rw [lv_set]
    have e := lv_at hl
    simp only [Li.row, List.length_set] at e ⊢
    obtain ⟨hl', e2⟩ := List.getElem?_eq_some_iff.1 e
    rw [← e2]
    exact List.set_getElem_self hl'
  refine ⟨?_, fun l hm' => ?_, fun j k l1 l2 a1 a2 hjk hj hk h1 h2 => ?_⟩
  · rw [hrow]
    refine VOwn.to_put h.1 ?_ _
    rcases h.inner_ne hm with e | e
    · simp [Li.row, Value.ownBlock] at e
    · exact fun e' => e (Eq.trans rfl e'.symm)
  · rcases List.mem_iff_getElem?.1 hm' with ⟨j, hj⟩
    rw [List.getElem?_set] at hj
    by_cases hjf : f = j
    · rw [if_pos hjf, if_pos (by omega)] at hj
      injection hj with hj
      subst hj
      have h0 := VOwn.set (h.2.1 _ hm) (iv_length xs) i (.int .i64 x)
      rw [← iv_set] at h0
      show IOwn _ base (.slice (some ⟨g, 0, none⟩) (xs.set i x).length c) (xs.set i x)
      rw [List.length_set]
      exact h0
    · rw [if_neg hjf] at hj
      refine VOwn.to_put (h.2.1 _ (List.mem_of_getElem? hj)) ?_ _
      cases hA : l.A with
      | none => simp [Li.row, hA, Value.ownBlock]
      | some a =>
        have := h.2.2 j f l _ a ⟨g, 0, none⟩ (fun e => hjf e.symm) hj hl hA rfl
        simpa [Li.row, hA, Value.ownBlock] using this
  · rw [List.getElem?_set] at hj hk
    by_cases hjf : f = j
    · by_cases hkf : f = k
      · omega
      · rw [if_pos hjf, if_pos (by omega)] at hj
        rw [if_neg hkf] at hk
        injection hj with hj; subst hj
        exact h.2.2 f k _ l2 a1 a2 (by omega) hl hk h1 h2
    · rw [if_neg hjf] at hj
      by_cases hkf : f = k
      · rw [if_pos hkf, if_pos (by omega)] at hk
        injection hk with hk; subst hk
        exact h.2.2 j f l1 _ a1 a2 (by omega) hj hl h1 h2
      · rw [if_neg hkf] at hk
        exact h.2.2 j k l1 l2 a1 a2 hjk hj hk h1 h2
end

/-- Each in its bounds, none but -1 among those before. -/
def flatB : List Int → List Int → Bool
  | _, [] => true
  | P, x :: r => (inB x (-1) 47 && !(decide (0 ≤ x) && P.contains x)) && flatB (x :: P) r
/-- A valid table. -/
def tabB (xss : List (List Int)) : Bool := decide (xss.length = 8) && xss.all (fun l => decide (l.length = 6)) && flatB [] xss.flatten
end Go.Proofs.Ytpjajmiegopmlaa
