/- The exact laws' helpers for rows of numbers: szIntS, toIntS, eqIntS, markIntS, heldIntS.
   The exact laws' helpers for tables: szTable, toTable, eqTable, markTable, heldTable; a table that came in. -/
import Derived.Test.YtofolifmgpgkoaaTables7
import Derived.Test.YtofolifmgpgkoaaExactDev3
import Derived.Test.YtofolifmgpgkoaaHand
import Derived.BigQuiet
namespace Go.Proofs.Ytofolifmgpgkoaa
open Go.ChangeShapes Go.WideShapes Go.ChangeAt Go.RowKit
set_option linter.unusedVariables false

theorem toInts_any (A : Option Addr) (n c : Nat) (xs : List Int) (w : World) (hl : xs.length = n) (hr : IRow w w.heap.size A xs) (hn : n ≤ 1048576) :
    Calls Try.prog 24 #[.slice A n c] w fun e w' => ∃ g, e = .returned (.slice (some ⟨g, 0, none⟩) n n) ∧ IOwn w' w.heap.size (.slice (some ⟨g, 0, none⟩) n n) xs ∧ w.grownBy w' none := by
  have hmk := fun W => make_ints W n hn
  have HO := Lib.hid (And.intro (iown_made w w.heap.size n (Nat.le_refl _) (by simp only [maxLen]; omega)) (And.intro (grown_alloc (grown_refl w none) (.cells (madeCells #[.int .i64 0] n) 3)) (And.intro hr hl)))
  clear hr hl
  go_enter Try.func24, Try.ntmps24
  go_wp2
  go_loopw [4] (fun i wr => ∃ k : Nat, i = .int .i64 k ∧ k ≤ n ∧ (∃ ys, ys.length = n ∧ ys.take k = xs.take k ∧ IOwn wr w.heap.size (.slice (some ⟨w.heap.size, 0, none⟩) n n) ys) ∧ w.grownBy wr none) (fun i _ => n - (intOf i).toNat)
  case atStart => exact ⟨0, rfl, Nat.zero_le _, ⟨List.replicate n 0, by simp, rfl, HO.out.1⟩, HO.out.2.1⟩
  case round =>
    clear hmk
    obtain ⟨k, rfl, hk, ⟨ys, h6, ht, ho⟩, hg⟩ := hrel
    by_cases hlt : k < n
    · have hk7 : (k : Int) < n := by omega
      have hk0 : decide ((0 : Int) ≤ k) = true := decide_eq_true (by omega)
      obtain ⟨gx, ox, rfl⟩ := HO.out.2.2.1.pos (by have := HO.out.2.2.2; omega)
      obtain ⟨x, hx⟩ : ∃ x, xs[k]? = some x := ⟨_, List.getElem?_eq_getElem (by have := HO.out.2.2.2; omega)⟩
      obtain ⟨y, hy⟩ : ∃ y, ys[k]? = some y := ⟨_, List.getElem?_eq_getElem (by omega)⟩
      have d0 := IRow.cellf (VRow.kept HO.out.2.2.1 hg) hx
      have c0 : wr.cell? ⟨w.heap.size, k, none⟩ = some (.int .i64 y) := VOwn.at_ ho (by rw [iv_length]; exact h6) (iv_at hy)
      have f0 : wr.frozen? ⟨w.heap.size, k, none⟩ = false := VOwn.frozen ho (by rw [iv_length]; exact h6) k
      have hs := VOwn.set ho (by rw [iv_length]; exact h6) k (.int .i64 x)
      rw [← iv_set] at hs
      have HZ := Lib.hid (And.intro (show (ys.set k x).take (k + 1) = xs.take (k + 1) by rw [List.take_add_one, List.take_add_one, List.take_set_of_le (Nat.le_refl _), List.getElem?_set_self (by omega), ht, hx]) (And.intro hs (And.intro (grown_put hg (p := ⟨w.heap.size, k, none⟩) (Nat.le_refl _) (.int .i64 x)) h6)))
      clear h6 ht ho hg hs hx hy
      go_wp2
      go_roundw
      case rel => exact ⟨k + 1, by go_num, by omega, ⟨_, by rw [List.length_set]; exact HZ.out.2.2.2, HZ.out.1, HZ.out.2.1⟩, HZ.out.2.2.1⟩
      case measure => simp [intOf]; omega
    · obtain rfl : k = n := by omega
      rw [List.take_of_length_le (by omega), List.take_of_length_le (by have := HO.out.2.2.2; omega)] at ht
      have HZ := Lib.hid (And.intro ht (And.intro ho hg))
      clear h6 ht ho hg
      go_wp2
      go_ret
      exact ⟨_, rfl, by have h := HZ.out.2.1; rw [HZ.out.1] at h; exact h, HZ.out.2.2⟩
theorem eqInts_any (A A' : Option Addr) (n n' c c' : Nat) (xs ys : List Int) (w : World) (hl : xs.length = n) (hl' : ys.length = n') (hr : IRow w w.heap.size A xs) (hr' : IRow w w.heap.size A' ys) (hn : n ≤ 1048576) (hn' : n' ≤ 1048576) :
    Calls Try.prog 25 #[.slice A n c, .slice A' n' c'] w (KeptV (.bool (decide (xs = ys))) w) := by
  by_cases hnn : n = n'
  · subst hnn
    have HR := Lib.hid (And.intro hl (And.intro hl' (And.intro hr hr')))
    have tn : ((n : Int) != (n : Int)) = false := by simp
    clear hl hl' hr hr'
    go_enter Try.func25, Try.ntmps25
    go_wp2
    go_loopw [5] (fun i wr => ∃ k : Nat, i = .int .i64 k ∧ k ≤ n ∧ (∀ j, j < k → xs[j]? = ys[j]?) ∧ w.grownBy wr none) (fun i _ => n - (intOf i).toNat)
    case atStart => exact ⟨0, rfl, Nat.zero_le _, fun j hj => absurd hj (by omega), grown_refl _ _⟩
    case round =>
      obtain ⟨k, rfl, hk, hj, hg⟩ := hrel
      by_cases hlt : k < n
      · have hk8 : (k : Int) < n := by omega
        have hk0 : decide ((0 : Int) ≤ k) = true := decide_eq_true (by omega)
        obtain ⟨g, off, rfl⟩ := HR.out.2.2.1.pos (by have := HR.out.1; omega)
        obtain ⟨g', off', rfl⟩ := HR.out.2.2.2.pos (by have := HR.out.2.1; omega)
        obtain ⟨x, hx⟩ : ∃ x, xs[k]? = some x := ⟨_, List.getElem?_eq_getElem (by have := HR.out.1; omega)⟩
        obtain ⟨y, hy⟩ : ∃ y, ys[k]? = some y := ⟨_, List.getElem?_eq_getElem (by have := HR.out.2.1; omega)⟩
        have c0 := IRow.cellf (VRow.kept HR.out.2.2.1 hg) hx
        have c1 := IRow.cellf (VRow.kept HR.out.2.2.2 hg) hy
        have HX := Lib.hid (And.intro hg (And.intro hj (And.intro hx hy)))
        clear hg hj hx hy
        by_cases e : x = y
        · have e1 : (x != y) = false := by simp [e]
          have HE := Lib.hid e
          clear e
          go_wp2
          go_quiet (fail)
          all_goals go_wp2
          go_roundw
          case rel =>
            refine ⟨k + 1, by go_num, by omega, fun j hj => ?_, grown_drewN HX.out.1 _⟩
            rcases Nat.lt_or_ge j k with h1 | h1
            · exact HX.out.2.1 j h1
            · obtain rfl : j = k := by omega
              rw [HX.out.2.2.1, HX.out.2.2.2, HE.out]
          case measure => simp [intOf]; omega
        · have e1 : (x != y) = true := by simp [e]
          have HE : RowKit.Hid (decide (xs = ys) = false) := Lib.hid (decide_eq_false (fun h => e (by have h1 := HX.out.2.2.1; rw [h, HX.out.2.2.2] at h1; injection h1 with h1; exact h1.symm)))
          clear e
          go_wp2
          go_quiet (fail)
          all_goals go_wp2
          all_goals (go_ret; exact ⟨retB HE.out.symm, grown_drewN HX.out.1 _⟩)
      · obtain rfl : k = n := by omega
        have HE : RowKit.Hid (decide (xs = ys) = true) := Lib.hid (decide_eq_true (List.ext_getElem? fun j => by
          rcases Nat.lt_or_ge j k with h1 | h1
          · exact hj j h1
          · rw [List.getElem?_eq_none (by have := HR.out.1; omega), List.getElem?_eq_none (by have := HR.out.2.1; omega)]))
        have HG := Lib.hid hg
        clear hj hg
        go_wp2
        go_ret
        exact ⟨retB HE.out.symm, HG.out⟩
  · have tn : ((n : Int) != (n' : Int)) = true := by simp; omega
    have HE : RowKit.Hid (decide (xs = ys) = false) := Lib.hid (decide_eq_false (fun h => hnn (by rw [← hl, ← hl', h])))
    clear hl hl' hr hr' hnn
    go_enter Try.func25, Try.ntmps25
    go_wp2
    go_ret
    exact ⟨retB HE.out.symm, grown_refl _ _⟩
theorem eqInts_val {A A' : Option Addr} {n n' c c' : Nat} {xs ys : List Int} {w : World} {V : Bool} (hV : decide (xs = ys) = V) (hl : xs.length = n) (hl' : ys.length = n') (hr : IRow w w.heap.size A xs) (hr' : IRow w w.heap.size A' ys) (hn : n ≤ 1048576) (hn' : n' ≤ 1048576) :
    Calls Try.prog 25 #[.slice A n c, .slice A' n' c'] w (KeptV (.bool V) w) := hV ▸ eqInts_any A A' n n' c c' xs ys w hl hl' hr hr' hn hn'
/-- The numbers of a marked row. -/
def imarks (K n : Nat) : List Int := (List.range n).map fun i => ((K + i : Nat) : Int)
theorem imarks_length (K n : Nat) : (imarks K n).length = n := by simp [imarks]
theorem imarks_at {K n i : Nat} (h : i < n) : (imarks K n)[i]? = some ((K + i : Nat) : Int) := by simp [imarks, h]
theorem imarks_snoc (K n : Nat) : imarks K (n + 1) = imarks K n ++ [((K + n : Nat) : Int)] := by simp [imarks, List.range_succ]
def imarkTo (K : Nat) (xs : List Int) (k : Nat) : List Int := imarks K k ++ xs.drop k
theorem imarkTo_length {K k : Nat} {xs : List Int} (h : k ≤ xs.length) : (imarkTo K xs k).length = xs.length := by
  simp only [imarkTo, List.length_append, imarks_length, List.length_drop]; omega
theorem imarkTo_step {K k : Nat} {xs : List Int} (h : k < xs.length) : (imarkTo K xs k).set k ((K + k : Nat) : Int) = imarkTo K xs (k + 1) := by
  unfold imarkTo
  rw [List.set_append_right _ _ (by rw [imarks_length]; exact Nat.le_refl _), imarks_length, Nat.sub_self, imarks_snoc, List.append_assoc, List.drop_eq_getElem_cons h]
  rfl
theorem imarkTo_zero (K : Nat) (xs : List Int) : imarkTo K xs 0 = xs := by simp [imarkTo, imarks]
theorem imarkTo_end {K n : Nat} {xs : List Int} (h : xs.length = n) : imarkTo K xs n = imarks K n := by simp [imarkTo, ← h]
end Go.Proofs.Ytofolifmgpgkoaa
namespace Go.Proofs.Ytofolifmgpgkoaa
open Go.ChangeShapes Go.WideShapes Go.ChangeAt Go.RowKit Go.Deep
set_option linter.unusedVariables false
set_option linter.unusedSimpArgs false

/-- What a walk is told of a slice of lists of numbers that came in. -/
def IsLists (w : World) (A : Option Addr) (n c : Nat) (ls : List Li) : Prop := ls.length = n ∧ n ≤ c ∧ c ≤ maxLen ∧ TRow w w.heap.size A ls ∧ ∀ l, l ∈ ls → l.xs.length ≤ l.c ∧ l.c ≤ maxLen
/-- How many numbers. -/
def ltot (xss : List (List Int)) : Nat := (xss.map List.length).sum
theorem ltot_take {xss : List (List Int)} {k : Nat} {xs : List Int} (h : xss[k]? = some xs) : ltot (xss.take (k + 1)) = ltot (xss.take k) + xs.length := by
  unfold ltot
  rw [List.take_add_one, h, List.map_append, List.sum_append]
  simp
theorem ltot_le {xss : List (List Int)} {xs : List Int} (h : xs ∈ xss) : xs.length ≤ ltot xss := by
  induction xss with
  | nil => simp at h
  | cons p r ih =>
    simp only [ltot, List.map_cons, List.sum_cons] at ih ⊢
    rcases List.mem_cons.1 h with rfl | h
    · omega
    · have := ih h
      omega
theorem ltot_take_le (xss : List (List Int)) (k : Nat) : ltot (xss.take k) ≤ ltot xss := by
  have e : ltot xss = ltot (xss.take k) + ltot (xss.drop k) := by
    unfold ltot
    rw [← List.sum_append, ← List.map_append, List.take_append_drop]
  omega
/-- Few numbers in all. -/
theorem small_ll {ls : List Li} (h : ltot (ll ls) ≤ 1048576) : ∀ l, l ∈ ls → l.xs.length ≤ 1048576 := fun l hl => Nat.le_trans (ltot_le (List.mem_map_of_mem hl)) h
theorem ltot_tab {xss : List (List Int)} (h : tabB xss = true) : ltot xss ≤ 48 := by
  have hT := (tabB_iff _).1 h
  have : ∀ l : List (List Int), (∀ xs, xs ∈ l → xs.length = 6) → ltot l = 6 * l.length := by
    intro l hl
    induction l with
    | nil => rfl
    | cons p r ih =>
      have h1 := ih fun xs hx => hl xs (by simp [hx])
      have h2 := hl p (by simp)
      simp only [ltot, List.map_cons, List.sum_cons, List.length_cons] at h1 ⊢
      omega
  rw [this xss hT.six, hT.len]
  omega
/-- -1; or what is left, and the table is small. -/
def SzT (n : Nat) (ls : List Li) (L : Int) (w : World) (e : Ending) (w' : World) : Prop := ∃ v : Int, e = .returned (.int .i64 v) ∧ w.grownBy w' none ∧ ((v = -1) ∨ (0 ≤ v ∧ v ≤ L ∧ n ≤ 1048576 ∧ ltot (ll ls) ≤ 1048576))
/-- A table marked from number K on; the number behind it. -/
def lmark : Nat → List Li → List Li
  | _, [] => []
  | K, l :: r => ⟨l.A, l.c, imarks K l.xs.length⟩ :: lmark (K + l.xs.length) r
def lend (K : Nat) (ls : List Li) : Nat := K + ltot (ll ls)
theorem lmark_length (K : Nat) (ls : List Li) : (lmark K ls).length = ls.length := by
  induction ls generalizing K with
  | nil => rfl
  | cons b r ih => simp [lmark, ih]
theorem lend_cons (K : Nat) (l : Li) (r : List Li) : lend K (l :: r) = lend (K + l.xs.length) r := by
  simp only [lend, ll, ltot, List.map_cons, List.sum_cons]; omega
theorem lmark_at {K k : Nat} {ls : List Li} {l : Li} (h : ls[k]? = some l) : (lmark K ls)[k]? = some ⟨l.A, l.c, imarks (lend K (ls.take k)) l.xs.length⟩ := by
  induction ls generalizing K k with
  | nil => simp at h
  | cons p r ih =>
    cases k with
    | zero => simp at h; subst h; simp [lmark, lend, ltot, ll]
    | succ k =>
      have hh := ih (K := K + p.xs.length) (k := k) (by simpa using h)
      rw [← lend_cons] at hh
      simpa [lmark] using hh
theorem lend_step {K k : Nat} {ls : List Li} {l : Li} (h : ls[k]? = some l) : lend K (ls.take (k + 1)) = lend K (ls.take k) + l.xs.length := by
  have h1 := ltot_take (ll_at h)
  simp only [lend, ll, List.map_take] at h1 ⊢
  omega
theorem lend_le (K : Nat) (ls : List Li) (k : Nat) : lend K (ls.take k) ≤ lend K ls := by
  have h1 := ltot_take_le (ll ls) k
  simp only [lend, ll, List.map_take] at h1 ⊢
  omega
/-- The table, its first k lists marked. -/
def markT (K : Nat) (ls : List Li) (k : Nat) : List Li := lmark K (ls.take k) ++ ls.drop k
theorem markT_length {K k : Nat} {ls : List Li} (h : k ≤ ls.length) : (markT K ls k).length = ls.length := by
  simp only [markT, List.length_append, lmark_length, List.length_take, List.length_drop]; omega
theorem markT_at {K k : Nat} {ls : List Li} {l : Li} (h : ls[k]? = some l) : (markT K ls k)[k]? = some l := by
  have hk : k < ls.length := (List.getElem?_eq_some_iff.1 h).1
  unfold markT
  rw [List.getElem?_append_right (by rw [lmark_length, List.length_take]; omega), lmark_length, List.length_take, List.getElem?_drop, ← h]
  congr 1
  omega
theorem lmark_snoc (K : Nat) (ls : List Li) (l : Li) : lmark K (ls ++ [l]) = lmark K ls ++ [⟨l.A, l.c, imarks (lend K ls) l.xs.length⟩] := by
  induction ls generalizing K with
  | nil => simp [lmark, lend, ltot, ll]
  | cons p r ih => simp only [List.cons_append, lmark, ih, lend_cons]
theorem markT_step {K k : Nat} {ls : List Li} {l : Li} (h : ls[k]? = some l) : (markT K ls k).set k ⟨l.A, l.c, imarks (lend K (ls.take k)) l.xs.length⟩ = markT K ls (k + 1) := by
  have hk : k < ls.length := (List.getElem?_eq_some_iff.1 h).1
  have hl : (lmark K (ls.take k)).length = k := by rw [lmark_length, List.length_take]; omega
  unfold markT
  rw [List.set_append_right _ _ (by omega), hl, Nat.sub_self, List.take_add_one, h, Option.toList_some, lmark_snoc, List.append_assoc]
  congr 1
  obtain ⟨hlt, rfl⟩ := List.getElem?_eq_some_iff.1 h
  rw [List.drop_eq_getElem_cons hlt]
  rfl
theorem markT_end (K : Nat) (ls : List Li) : markT K ls ls.length = lmark K ls := by simp [markT]
theorem markT_zero (K : Nat) (ls : List Li) : markT K ls 0 = ls := by simp [markT, lmark]
theorem lmark_addr {K : Nat} {ls : List Li} {l : Li} (h : l ∈ lmark K ls) : ∃ l', l' ∈ ls ∧ l'.A = l.A := by
  induction ls generalizing K with
  | nil => simp [lmark] at h
  | cons p r ih =>
    simp only [lmark, List.mem_cons] at h
    rcases h with rfl | h
    · exact ⟨p, by simp, rfl⟩
    · obtain ⟨b', h1, h2⟩ := ih h
      exact ⟨b', by simp [h1], h2⟩
theorem lmark_xs {K : Nat} {ls : List Li} : ltot (ll (lmark K ls)) = ltot (ll ls) := by
  induction ls generalizing K with
  | nil => rfl
  | cons p r ih =>
    have h := @ih (K + p.xs.length)
    simp only [lmark, ll, ltot, List.map_cons, List.sum_cons, imarks_length] at h ⊢
    omega
/-- A list of a table of the call's own has other numbers, as many. -/
theorem TOwn.relist {w w' : World} {base i : Nat} {v : Value} {ls : List Li} {l : Li} {qs : List Int} (h : TOwn w base v ls) (hi : ls[i]? = some l) (hq : qs.length = l.xs.length)
    (ho : IOwn w' base (.slice l.A l.xs.length l.c) qs) (hg : w.grownBy w' (Value.slice l.A l.xs.length l.c).ownBlock) : TOwn w' base v (ls.set i ⟨l.A, l.c, qs⟩) := by
  have hm := List.mem_of_getElem? hi
  refine ⟨?_, fun b' hm' => ?_, fun j k l1 l2 a1 a2 hjk hj hk h1 h2 => ?_⟩
  · rw [lv_set, set_same (by rw [lv_at hi]; simp [Li.row, hq])]
    refine VOwn.kept h.1 hg ?_
    rcases h.inner_ne hm with e | e
    · exact .inr (by rw [show (Value.slice l.A l.xs.length l.c).ownBlock = none from e]; cases hv : v.ownBlock with
        | none => exact absurd (hv) (by
            rcases h.form with ⟨rfl, rfl⟩ | ⟨g, cap, rfl, _⟩
            · simp at hi
            · simp [Value.ownBlock])
        | some g => simp)
    · exact .inr (Ne.symm e)
  · obtain ⟨j, hj⟩ := List.getElem?_of_mem hm'
    rw [List.getElem?_set] at hj
    split at hj
    · split at hj
      · injection hj with hj; subst hj
        show IOwn w' base (.slice l.A qs.length l.c) qs
        rw [hq]; exact ho
      · cases hj
    · rename_i hne
      refine VOwn.kept (h.2.1 b' (List.mem_of_getElem? hj)) hg ?_
      cases hA' : b'.A with
      | none => exact .inl (by simp [Li.row, hA', Value.ownBlock])
      | some a' =>
        refine .inr ?_
        cases hA : l.A with
        | none => simp [Li.row, hA', Value.ownBlock]
        | some a =>
          have := h.2.2 i j l b' a a' hne hi hj hA hA'
          simp only [Li.row, hA', Value.ownBlock, ne_eq, Option.some.injEq]
          exact Ne.symm this
  · have look : ∀ {j : Nat} {l1 : Li}, (ls.set i ⟨l.A, l.c, qs⟩)[j]? = some l1 → ∃ c, ls[j]? = some c ∧ c.A = l1.A := fun {j l1} hj => by
      rw [List.getElem?_set] at hj
      split at hj
      · rename_i e
        subst e
        split at hj
        · injection hj with hj; subst hj; exact ⟨l, hi, rfl⟩
        · cases hj
      · exact ⟨l1, hj, rfl⟩
    obtain ⟨c1, hc1, e1⟩ := look hj
    obtain ⟨c2, hc2, e2⟩ := look hk
    exact h.2.2 j k c1 c2 a1 a2 hjk hc1 hc2 (e1.trans h1) (e2.trans h2)
/-- All memory of a table lies in the blocks lo .. hi - 1. -/
def TIs (lo hi g : Nat) (ls : List Li) : Prop := (lo ≤ g ∧ g < hi) ∧ ∀ (l : Li) (a : Addr), l ∈ ls → l.A = some a → lo ≤ a.block ∧ a.block < hi
end Go.Proofs.Ytofolifmgpgkoaa
