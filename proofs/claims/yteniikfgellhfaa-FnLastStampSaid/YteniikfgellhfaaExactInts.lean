/- The exact laws' helpers for rows of numbers: szIntS, toIntS, eqIntS, markIntS, heldIntS.
   The exact laws' helpers for tables: szTable, toTable, eqTable, markTable, heldTable; a table that came in. -/
import Derived.Test.YteniikfgellhfaaTables7
import Derived.Test.YteniikfgellhfaaExactDev3
import Derived.Test.YteniikfgellhfaaHand
import Derived.BigQuiet
namespace Go.Proofs.Yteniikfgellhfaa
open Go.ChangeShapes Go.WideShapes Go.ChangeAt Go.RowKit
set_option linter.unusedVariables false

theorem szInts_fits (A : Option Addr) (n c : Nat) (L : Int) (w : World) (h0 : 0 ≤ L) (h1 : L ≤ 1048576) (hn : (n : Int) ≤ L) :
    Calls Try.prog 86 #[.slice A n c, .int .i64 L] w fun e w' => e = .returned (.int .i64 (L - n)) ∧ w = w' := by
  have t1 : decide (L - n < 0) = false := decide_eq_false (by omega)
  go_enter Try.func86, Try.ntmps86
  go_wp2
  go_ret
  exact ⟨rfl, rfl⟩
theorem szInts_over (A : Option Addr) (n c : Nat) (L : Int) (w : World) (h0 : 0 ≤ L) (h1 : L ≤ 1048576) (hn : L < (n : Int)) (hm : n ≤ 9223372036854775807) :
    Calls Try.prog 86 #[.slice A n c, .int .i64 L] w fun e w' => e = .returned (.int .i64 (-1)) ∧ w = w' := by
  have t1 : decide (L - n < 0) = true := decide_eq_true (by omega)
  go_enter Try.func86, Try.ntmps86
  go_wp2
  go_ret
  exact ⟨rfl, rfl⟩
/-- What is left, or -1. -/
theorem szInts_any (A : Option Addr) (n c : Nat) (L : Int) (w : World) (h0 : 0 ≤ L) (h1 : L ≤ 1048576) (hm : n ≤ 9223372036854775807) :
    Calls Try.prog 86 #[.slice A n c, .int .i64 L] w fun e w' => ∃ v : Int, e = .returned (.int .i64 v) ∧ w = w' ∧ ((v = -1) ∨ (0 ≤ v ∧ v + n = L)) := by
  by_cases hn : (n : Int) ≤ L
  · exact (szInts_fits A n c L w h0 h1 hn).mono fun e w' h => ⟨_, h.1, h.2, .inr ⟨by omega, by omega⟩⟩
  · exact (szInts_over A n c L w h0 h1 (by omega) hm).mono fun e w' h => ⟨_, h.1, h.2, .inl rfl⟩
theorem toInts_any (A : Option Addr) (n c : Nat) (xs : List Int) (w : World) (hl : xs.length = n) (hr : IRow w w.heap.size A xs) (hn : n ≤ 1048576) :
    Calls Try.prog 87 #[.slice A n c] w fun e w' => ∃ g, e = .returned (.slice (some ⟨g, 0, none⟩) n n) ∧ IOwn w' w.heap.size (.slice (some ⟨g, 0, none⟩) n n) xs ∧ w.grownBy w' none := by
  have hmk := fun W => make_ints W n hn
  have HO := Lib.hid (And.intro (iown_made w w.heap.size n (Nat.le_refl _) (by simp only [maxLen]; omega)) (And.intro (grown_alloc (grown_refl w none) (.cells (madeCells #[.int .i64 0] n) 3)) (And.intro hr hl)))
  clear hr hl
  go_enter Try.func87, Try.ntmps87
  go_wp2
  go_loopw [4] (fun i wr => ∃ k : Nat, i = .int .i64 k ∧ k ≤ n ∧ (∃ ys, ys.length = n ∧ ys.take k = xs.take k ∧ IOwn wr w.heap.size (.slice (some ⟨w.heap.size, 0, none⟩) n n) ys) ∧ w.grownBy wr none) (fun i _ => n - (intOf i).toNat)
  case atStart => exact ⟨0, rfl, Nat.zero_le _, ⟨List.replicate n 0, by simp, rfl, HO.out.1⟩, HO.out.2.1⟩
  case round =>
    clear hmk
    obtain ⟨k, rfl, hk, ⟨ys, h6, ht, ho⟩, hg⟩ := hrel
    by_cases hlt : k < n
    · have hk7 : (k : Int) < n := by omega
      have hk0 : decide ((0 : Int) ≤ k) = true := decide_eq_true (by omega)
      obtain ⟨gx, ox, rfl⟩ := HO.out.2.2.1.pos (by have := HO.out.2.2.2; omega)
      obtain ⟨x, hx⟩ : ∃ x, xs[k]? = some x := ⟨_, List.getElem?_eq_getElem (by have := HO.out.2.2.2; omega)⟩
      obtain ⟨y, hy⟩ : ∃ y, ys[k]? = some y := ⟨_, List.getElem?_eq_getElem (by omega)⟩
      have d0 := IRow.cellf (VRow.kept HO.out.2.2.1 hg) hx
      have c0 : wr.cell? ⟨w.heap.size, k, none⟩ = some (.int .i64 y) := VOwn.at_ ho (by rw [iv_length]; exact h6) (iv_at hy)
      have f0 : wr.frozen? ⟨w.heap.size, k, none⟩ = false := VOwn.frozen ho (by rw [iv_length]; exact h6) k
      have hs := VOwn.set ho (by rw [iv_length]; exact h6) k (.int .i64 x)
      rw [← iv_set] at hs
      have HZ := Lib.hid (And.intro (show (ys.set k x).take (k + 1) = xs.take (k + 1) by rw [List.take_add_one, List.take_add_one, List.take_set_of_le (Nat.le_refl _), List.getElem?_set_self (by omega), ht, hx]) (And.intro hs (And.intro (grown_put hg (p := ⟨w.heap.size, k, none⟩) (Nat.le_refl _) (.int .i64 x)) h6)))
      clear h6 ht ho hg hs hx hy
      go_wp2
      go_roundw
      case rel => exact ⟨k + 1, by go_num, by omega, ⟨_, by rw [List.length_set]; exact HZ.out.2.2.2, HZ.out.1, HZ.out.2.1⟩, HZ.out.2.2.1⟩
      case measure => simp [intOf]; omega
    · obtain rfl : k = n := by omega
      rw [List.take_of_length_le (by omega), List.take_of_length_le (by have := HO.out.2.2.2; omega)] at ht
      have HZ := Lib.hid (And.intro ht (And.intro ho hg))
      clear h6 ht ho hg
      go_wp2
      go_ret
      exact ⟨_, rfl, by have h := HZ.out.2.1; rw [HZ.out.1] at h; exact h, HZ.out.2.2⟩
theorem eqInts_any (A A' : Option Addr) (n n' c c' : Nat) (xs ys : List Int) (w : World) (hl : xs.length = n) (hl' : ys.length = n') (hr : IRow w w.heap.size A xs) (hr' : IRow w w.heap.size A' ys) (hn : n ≤ 1048576) (hn' : n' ≤ 1048576) :
    Calls Try.prog 35 #[.slice A n c, .slice A' n' c'] w (KeptV (.bool (decide (xs = ys))) w) := by
  by_cases hnn : n = n'
  · subst hnn
    have HR := Lib.hid (And.intro hl (And.intro hl' (And.intro hr hr')))
    have tn : ((n : Int) != (n : Int)) = false := by simp
    clear hl hl' hr hr'
    go_enter Try.func35, Try.ntmps35
    go_wp2
    go_loopw [5] (fun i wr => ∃ k : Nat, i = .int .i64 k ∧ k ≤ n ∧ (∀ j, j < k → xs[j]? = ys[j]?) ∧ w.grownBy wr none) (fun i _ => n - (intOf i).toNat)
    case atStart => exact ⟨0, rfl, Nat.zero_le _, fun j hj => absurd hj (by omega), grown_refl _ _⟩
    case round =>
      obtain ⟨k, rfl, hk, hj, hg⟩ := hrel
      by_cases hlt : k < n
      · have hk8 : (k : Int) < n := by omega
        have hk0 : decide ((0 : Int) ≤ k) = true := decide_eq_true (by omega)
        obtain ⟨g, off, rfl⟩ := HR.out.2.2.1.pos (by have := HR.out.1; omega)
        obtain ⟨g', off', rfl⟩ := HR.out.2.2.2.pos (by have := HR.out.2.1; omega)
        obtain ⟨x, hx⟩ : ∃ x, xs[k]? = some x := ⟨_, List.getElem?_eq_getElem (by have := HR.out.1; omega)⟩
        obtain ⟨y, hy⟩ : ∃ y, ys[k]? = some y := ⟨_, List.getElem?_eq_getElem (by have := HR.out.2.1; omega)⟩
        have c0 := IRow.cellf (VRow.kept HR.out.2.2.1 hg) hx
        have c1 := IRow.cellf (VRow.kept HR.out.2.2.2 hg) hy
        have HX := Lib.hid (And.intro hg (And.intro hj (And.intro hx hy)))
        clear hg hj hx hy
        by_cases e : x = y
        · have e1 : (x != y) = false := by simp [e]
          have HE := Lib.hid e
          clear e
          go_wp2
          go_quiet (fail)
          all_goals go_wp2
          go_roundw
          case rel =>
            refine ⟨k + 1, by go_num, by omega, fun j hj => ?_, grown_drewN HX.out.1 _⟩
            rcases Nat.lt_or_ge j k with h1 | h1
            · exact HX.out.2.1 j h1
            · obtain rfl : j = k := by omega
              rw [HX.out.2.2.1, HX.out.2.2.2, HE.out]
          case measure => simp [intOf]; omega
        · have e1 : (x != y) = true := by simp [e]
          have HE : RowKit.Hid (decide (xs = ys) = false) := Lib.hid (decide_eq_false (fun h => e (by have h1 := HX.out.2.2.1; rw [h, HX.out.2.2.2] at h1; injection h1 with h1; exact h1.symm)))
          clear e
          go_wp2
          go_quiet (fail)
          all_goals go_wp2
          all_goals (go_ret; exact ⟨retB HE.out.symm, grown_drewN HX.out.1 _⟩)
      · obtain rfl : k = n := by omega
        have HE : RowKit.Hid (decide (xs = ys) = true) := Lib.hid (decide_eq_true (List.ext_getElem? fun j => by
          rcases Nat.lt_or_ge j k with h1 | h1
          · exact hj j h1
          · rw [List.getElem?_eq_none (by have := HR.out.1; omega), List.getElem?_eq_none (by have := HR.out.2.1; omega)]))
        have HG := Lib.hid hg
        clear hj hg
        go_wp2
        go_ret
        exact ⟨retB HE.out.symm, HG.out⟩
  · have tn : ((n : Int) != (n' : Int)) = true := by simp; omega
    have HE : RowKit.Hid (decide (xs = ys) = false) := Lib.hid (decide_eq_false (fun h => hnn (by rw [← hl, ← hl', h])))
    clear hl hl' hr hr' hnn
    go_enter Try.func35, Try.ntmps35
    go_wp2
    go_ret
    exact ⟨retB HE.out.symm, grown_refl _ _⟩
theorem eqInts_val {A A' : Option Addr} {n n' c c' : Nat} {xs ys : List Int} {w : World} {V : Bool} (hV : decide (xs = ys) = V) (hl : xs.length = n) (hl' : ys.length = n') (hr : IRow w w.heap.size A xs) (hr' : IRow w w.heap.size A' ys) (hn : n ≤ 1048576) (hn' : n' ≤ 1048576) :
    Calls Try.prog 35 #[.slice A n c, .slice A' n' c'] w (KeptV (.bool V) w) := hV ▸ eqInts_any A A' n n' c c' xs ys w hl hl' hr hr' hn hn'
/-- The numbers of a marked row. -/
def imarks (K n : Nat) : List Int := (List.range n).map fun i => ((K + i : Nat) : Int)
theorem imarks_length (K n : Nat) : (imarks K n).length = n := by simp [imarks]
theorem imarks_at {K n i : Nat} (h : i < n) : (imarks K n)[i]? = some ((K + i : Nat) : Int) := by simp [imarks, h]
theorem imarks_snoc (K n : Nat) : imarks K (n + 1) = imarks K n ++ [((K + n : Nat) : Int)] := by simp [imarks, List.range_succ]
def imarkTo (K : Nat) (xs : List Int) (k : Nat) : List Int := imarks K k ++ xs.drop k
theorem imarkTo_length {K k : Nat} {xs : List Int} (h : k ≤ xs.length) : (imarkTo K xs k).length = xs.length := by
  simp only [imarkTo, List.length_append, imarks_length, List.length_drop]; omega
theorem imarkTo_step {K k : Nat} {xs : List Int} (h : k < xs.length) : (imarkTo K xs k).set k ((K + k : Nat) : Int) = imarkTo K xs (k + 1) := by
  unfold imarkTo
  rw [List.set_append_right _ _ (by rw [imarks_length]; exact Nat.le_refl _), imarks_length, Nat.sub_self, imarks_snoc, List.append_assoc, List.drop_eq_getElem_cons h]
  rfl
theorem imarkTo_zero (K : Nat) (xs : List Int) : imarkTo K xs 0 = xs := by simp [imarkTo, imarks]
theorem imarkTo_end {K n : Nat} {xs : List Int} (h : xs.length = n) : imarkTo K xs n = imarks K n := by simp [imarkTo, ← h]
theorem markInts_some (g n c K base : Nat) (xs : List Int) (w : World) (hl : xs.length = n) (ho : IOwn w base (.slice (some ⟨g, 0, none⟩) n c) xs) (hn : n ≤ 1048576) (hK : K ≤ 100000000) :
    Calls Try.prog 38 #[.slice (some ⟨g, 0, none⟩) n c, .int .i64 K] w fun e w' => e = .returned (.int .i64 ((K + n : Nat) : Int)) ∧ IOwn w' base (.slice (some ⟨g, 0, none⟩) n c) (imarks K n) ∧ w.grownBy w' (some g) := by
  have HO := Lib.hid (And.intro ho hl)
  clear ho hl
  go_enter Try.func38, Try.ntmps38
  go_wp2
  go_loopw [1, 5] (fun t i wr => ∃ k : Nat, i = .int .i64 k ∧ t = .int .i64 ((K + k : Nat) : Int) ∧ k ≤ n ∧ IOwn wr base (.slice (some ⟨g, 0, none⟩) n c) (imarkTo K xs k) ∧ w.grownBy wr (some g)) (fun _ i _ => n - (intOf i).toNat)
  case atStart => exact ⟨0, rfl, rfl, Nat.zero_le _, by rw [imarkTo_zero]; exact HO.out.1, grown_refl _ _⟩
  case round =>
    obtain ⟨k, rfl, rfl, hk, ho, hg⟩ := hrel
    by_cases hlt : k < n
    · have hk7 : (k : Int) < n := by omega
      have hk0 : decide ((0 : Int) ≤ k) = true := decide_eq_true (by omega)
      have hml : (imarkTo K xs k).length = n := by rw [imarkTo_length (by have := HO.out.2; omega)]; exact HO.out.2
      obtain ⟨y, hy⟩ : ∃ y, (imarkTo K xs k)[k]? = some y := ⟨_, List.getElem?_eq_getElem (by omega)⟩
      have c0 : wr.cell? ⟨g, k, none⟩ = some (.int .i64 y) := VOwn.at_ ho (by rw [iv_length]; exact hml) (iv_at hy)
      have f0 : wr.frozen? ⟨g, k, none⟩ = false := VOwn.frozen ho (by rw [iv_length]; exact hml) k
      have hs := VOwn.set ho (by rw [iv_length]; exact hml) k (.int .i64 ((K + k : Nat) : Int))
      rw [← iv_set, imarkTo_step (by have := HO.out.2; omega)] at hs
      have HZ := Lib.hid (And.intro hs (grown_set hg (p := ⟨g, k, none⟩) (.inl rfl) (.int .i64 ((K + k : Nat) : Int))))
      clear hml ho hg hs hy
      go_wp2
      go_roundw
      case rel => exact ⟨k + 1, by go_num, by go_num, by omega, HZ.out.1, HZ.out.2⟩
      case measure => simp [intOf]; omega
    · obtain rfl : k = n := by omega
      rw [imarkTo_end HO.out.2] at ho
      have HZ := Lib.hid (And.intro ho hg)
      clear ho hg
      go_wp2
      go_ret
      exact ⟨rfl, HZ.out⟩
theorem markInts_any (A : Option Addr) (n c K base : Nat) (xs : List Int) (w : World) (hl : xs.length = n) (ho : IOwn w base (.slice A n c) xs) (hn : n ≤ 1048576) (hK : K ≤ 100000000) :
    Calls Try.prog 38 #[.slice A n c, .int .i64 K] w fun e w' => e = .returned (.int .i64 ((K + n : Nat) : Int)) ∧ IOwn w' base (.slice A n c) (imarks K n) ∧ w.grownBy w' (Value.slice A n c).ownBlock := by
  rcases VOwn.form ho with ⟨e, e0⟩ | ⟨g, cap, e, _⟩
  · injection e with e1 e2 e3
    subst e1; subst e2; subst e3
    have HO := Lib.hid (World.ownsRow_nil w base 3 1)
    clear ho hl
    go_enter Try.func38, Try.ntmps38
    go_wp2
    go_loopw [1, 5] (fun t i wr => t = .int .i64 K ∧ i = .int .i64 0 ∧ wr = w) (fun _ _ _ => 0)
    case atStart => exact ⟨rfl, rfl, rfl⟩
    case round =>
      obtain ⟨rfl, rfl, rfl⟩ := hrel
      go_wp2
      go_ret
      exact ⟨rfl, HO.out, grown_refl _ _⟩
  · injection e with e1 e2 e3
    subst e1
    exact markInts_some g n c K base xs w hl ho hn hK
theorem heldInts_any (A : Option Addr) (n c K : Nat) (w : World) (hr : IRow w w.heap.size A (imarks K n)) (hn : n ≤ 1048576) (hK : K ≤ 100000000) :
    Calls Try.prog 39 #[.slice A n c, .int .i64 K] w fun e w' => e = .returned (.int .i64 ((K + n : Nat) : Int)) ∧ w = w' := by
  have HR := Lib.hid hr
  clear hr
  go_enter Try.func39, Try.ntmps39
  go_wp2
  go_loop [1, 5] (fun t i => ∃ k : Nat, k ≤ n ∧ i = .int .i64 k ∧ t = .int .i64 ((K + k : Nat) : Int)) (fun _ i => n - (intOf i).toNat)
  case atStart => exact ⟨0, Nat.zero_le _, rfl, rfl⟩
  case round =>
    obtain ⟨k, hk, rfl, rfl⟩ := hrel
    by_cases hlt : k < n
    · have hk7 : (k : Int) < n := by omega
      have hk0 : decide ((0 : Int) ≤ k) = true := decide_eq_true (by omega)
      obtain ⟨g, off, rfl⟩ := HR.out.pos (by rw [imarks_length]; omega)
      have c0 := HR.out.cellf (imarks_at hlt)
      have e1 : (((K + k : Nat) : Int) != ((K + k : Nat) : Int)) = false := by simp
      go_wp2
      go_round
      case rel => exact ⟨k + 1, by omega, by go_num, by go_num⟩
      case measure => simp [intOf]; omega
    · obtain rfl : k = n := by omega
      go_wp2
      go_ret
      exact ⟨rfl, rfl⟩
end Go.Proofs.Yteniikfgellhfaa
namespace Go.Proofs.Yteniikfgellhfaa
open Go.ChangeShapes Go.WideShapes Go.ChangeAt Go.RowKit Go.Deep
set_option linter.unusedVariables false
set_option linter.unusedSimpArgs false

/-- What a walk is told of a slice of lists of numbers that came in. -/
def IsLists (w : World) (A : Option Addr) (n c : Nat) (ls : List Li) : Prop := ls.length = n ∧ n ≤ c ∧ c ≤ maxLen ∧ TRow w w.heap.size A ls ∧ ∀ l, l ∈ ls → l.xs.length ≤ l.c ∧ l.c ≤ maxLen
/-- How many numbers. -/
def ltot (xss : List (List Int)) : Nat := (xss.map List.length).sum
theorem ltot_take {xss : List (List Int)} {k : Nat} {xs : List Int} (h : xss[k]? = some xs) : ltot (xss.take (k + 1)) = ltot (xss.take k) + xs.length := by
  unfold ltot
  rw [List.take_add_one, h, List.map_append, List.sum_append]
  simp
theorem ltot_le {xss : List (List Int)} {xs : List Int} (h : xs ∈ xss) : xs.length ≤ ltot xss := by
  induction xss with
  | nil => simp at h
  | cons p r ih =>
    simp only [ltot, List.map_cons, List.sum_cons] at ih ⊢
    rcases List.mem_cons.1 h with rfl | h
    · omega
    · have := ih h
      omega
theorem ltot_take_le (xss : List (List Int)) (k : Nat) : ltot (xss.take k) ≤ ltot xss := by
  have e : ltot xss = ltot (xss.take k) + ltot (xss.drop k) := by
    unfold ltot
    rw [← List.sum_append, ← List.map_append, List.take_append_drop]
  omega
/-- Few numbers in all. -/
theorem small_ll {ls : List Li} (h : ltot (ll ls) ≤ 1048576) : ∀ l, l ∈ ls → l.xs.length ≤ 1048576 := fun l hl => Nat.le_trans (ltot_le (List.mem_map_of_mem hl)) h
theorem ltot_tab {xss : List (List Int)} (h : tabB xss = true) : ltot xss ≤ 48 := by
  have hT := (tabB_iff _).1 h
  have : ∀ l : List (List Int), (∀ xs, xs ∈ l → xs.length = 6) → ltot l = 6 * l.length := by
    intro l hl
    induction l with
    | nil => rfl
    | cons p r ih =>
      have h1 := ih fun xs hx => hl xs (by simp [hx])
      have h2 := hl p (by simp)
      simp only [ltot, List.map_cons, List.sum_cons, List.length_cons] at h1 ⊢
      omega
  rw [this xss hT.six, hT.len]
  omega
/-- -1; or what is left, and the table is small. -/
def SzT (n : Nat) (ls : List Li) (L : Int) (w : World) (e : Ending) (w' : World) : Prop := ∃ v : Int, e = .returned (.int .i64 v) ∧ w.grownBy w' none ∧ ((v = -1) ∨ (0 ≤ v ∧ v ≤ L ∧ n ≤ 1048576 ∧ ltot (ll ls) ≤ 1048576))
theorem szLists_any (A : Option Addr) (n c : Nat) (ls : List Li) (L0 : Int) (w : World) (h : IsLists w A n c ls) (g0 : 0 ≤ L0) (g1 : L0 ≤ 1048576) :
    Calls Try.prog 81 #[.slice A n c, .int .i64 L0] w (SzT n ls L0 w) := by
  obtain ⟨rfl, hnc, hcm, hr, hb⟩ := h
  have hmx : ls.length ≤ 9223372036854775807 := by unfold maxLen at hcm; omega
  have HR := Lib.hid (And.intro hr hb)
  clear hr hb
  by_cases hbig : L0 < ls.length
  · have t1 : decide (L0 - ls.length < 0) = true := decide_eq_true (by omega)
    go_enter Try.func81, Try.ntmps81
    go_wp2
    go_ret
    exact ⟨_, rfl, grown_refl _ _, .inl rfl⟩
  · have t1 : decide (L0 - ls.length < 0) = false := decide_eq_false (by omega)
    go_enter Try.func81, Try.ntmps81
    go_wp2
    go_loopw [1, 5] (fun t i wr => ∃ (k : Nat) (L : Int), i = .int .i64 k ∧ t = .int .i64 L ∧ k ≤ ls.length ∧ 0 ≤ L ∧ L ≤ L0 ∧ ((ltot ((ll ls).take k) : Int) + L ≤ L0) ∧ w.grownBy wr none) (fun _ i _ => ls.length - (intOf i).toNat)
    case atStart => exact ⟨0, _, rfl, rfl, Nat.zero_le _, by omega, by omega, by simp [ltot]; omega, grown_refl _ _⟩
    case round =>
      obtain ⟨k, L, rfl, rfl, hk, h0, h1, hj, hg⟩ := hrel
      clear t1
      by_cases hlt : k < ls.length
      · have hk7 : (k : Int) < ls.length := by omega
        have hk0 : decide ((0 : Int) ≤ k) = true := decide_eq_true (by omega)
        obtain ⟨g, off, rfl⟩ := HR.out.1.pos (by omega)
        obtain ⟨⟨Al, cl, xs⟩, hll⟩ : ∃ l, ls[k]? = some l := ⟨_, List.getElem?_eq_getElem hlt⟩
        have c0 := (HR.out.1.kept hg).cellf hll rfl
        have hpm := HR.out.2 _ (List.mem_of_getElem? hll)
        have hpm2 : xs.length ≤ 9223372036854775807 := by have h1 : xs.length ≤ cl := hpm.1; have h2 : cl ≤ maxLen := hpm.2; unfold maxLen at h2; omega
        have h1' : L ≤ 1048576 := by omega
        have HX := Lib.hid (And.intro hg (And.intro hj (ll_at hll)))
        clear hg hj hll hpm
        go_wp2_with fail
        refine (szInts_any _ _ _ _ _ h0 h1' hpm2).mono ?_
        rintro e w1 ⟨v, rfl, rfl, hv⟩
        rcases hv with rfl | ⟨hv0, hvL⟩
        · go_wp2
          go_ret
          exact ⟨_, rfl, HX.out.1, .inl rfl⟩
        · have t2 : decide (v < 0) = false := decide_eq_false (by omega)
          go_wp2
          go_roundw
          case rel => exact ⟨k + 1, v, by go_num, rfl, by omega, hv0, by omega, by rw [ltot_take HX.out.2.2]; have h4 := HX.out.2.1; omega, HX.out.1⟩
          case measure => simp [intOf]; omega
      · have HX := Lib.hid (And.intro hg hj)
        clear hg hj
        go_wp2
        go_ret
        exact ⟨_, rfl, HX.out.1, .inr ⟨h0, h1, by omega, by have h4 := HX.out.2; rw [List.take_of_length_le (by rw [ll_length]; omega)] at h4; omega⟩⟩
theorem szTable_any (A : Option Addr) (n c : Nat) (ls : List Li) (L0 : Int) (w : World) (h : IsLists w A n c ls) (g0 : 0 ≤ L0) (g1 : L0 ≤ 1048576) :
    Calls Try.prog 40 #[.agg #[.slice A n c], .int .i64 L0] w (SzT n ls L0 w) := by
  have HI := Lib.hid (show IsLists (w.alloc (.cells #[.slice A n c] 62)) A n c ls from ⟨h.1, h.2.1, h.2.2.1, (h.2.2.2.1.alloc _).here, h.2.2.2.2⟩)
  clear h
  go_enter Try.func40, Try.ntmps40
  go_wp2_with fail
  refine (szLists_any _ _ _ _ _ _ HI.out g0 g1).mono ?_
  rintro e w1 ⟨v, rfl, hk, hv⟩
  have HG := Lib.hid (grown_trans (grown_alloc (grown_refl w none) (.cells #[.slice A n c] 62)) hk)
  clear hk
  rcases hv with rfl | ⟨hv0, hvL, h3, h4⟩
  · go_wp2
    go_ret
    exact ⟨_, rfl, HG.out, .inl rfl⟩
  · have t2 : decide (v < 0) = false := decide_eq_false (by omega)
    go_wp2
    go_ret
    exact ⟨_, rfl, HG.out, .inr ⟨hv0, hvL, h3, h4⟩⟩
theorem toLists_any (A : Option Addr) (n c : Nat) (ls : List Li) (w : World) (hl : ls.length = n) (hr : TRow w w.heap.size A ls) (hn : n ≤ 1048576) (hp : ∀ l, l ∈ ls → l.xs.length ≤ 1048576) :
    Calls Try.prog 82 #[.slice A n c] w fun e w' => ∃ g cs, e = .returned (.slice (some ⟨g, 0, none⟩) n n) ∧ cs.length = n ∧ ll cs = ll ls ∧ TOwn w' w.heap.size (.slice (some ⟨g, 0, none⟩) n n) cs ∧ w.grownBy w' none := by
  have hmk := fun W => make_lists W n hn
  have HO := Lib.hid (And.intro (town_made w w.heap.size n (Nat.le_refl _) (by simp only [maxLen]; omega)) (And.intro (grown_alloc (grown_refl w none) (.cells (madeCells #[.slice none 0 0] n) 26)) (And.intro hl (And.intro hr hp))))
  clear hl hr hp
  go_enter Try.func82, Try.ntmps82
  go_wp2
  go_loopw [4] (fun i wr => ∃ k : Nat, i = .int .i64 k ∧ k ≤ n ∧ (∃ cs, Filled (ll ls) n k cs ∧ TOwn wr w.heap.size (.slice (some ⟨w.heap.size, 0, none⟩) n n) cs) ∧ w.grownBy wr none) (fun i _ => n - (intOf i).toNat)
  case atStart => exact ⟨0, rfl, Nat.zero_le _, ⟨List.replicate n lz, ⟨by simp, rfl⟩, HO.out.1⟩, HO.out.2.1⟩
  case round =>
    clear hmk
    obtain ⟨k, rfl, hk, ⟨cs, hF, ho⟩, hg⟩ := hrel
    by_cases hlt : k < n
    · have hk8 : (k : Int) < n := by omega
      have hk0 : decide ((0 : Int) ≤ k) = true := decide_eq_true (by omega)
      obtain ⟨g, off, rfl⟩ := HO.out.2.2.2.1.pos (by have := HO.out.2.2.1; omega)
      obtain ⟨⟨Al, cl, xs⟩, hll⟩ : ∃ l, ls[k]? = some l := ⟨_, List.getElem?_eq_getElem (by have := HO.out.2.2.1; omega)⟩
      have hT := HO.out.2.2.2.1.kept hg
      have c0 := hT.cellf hll rfl
      have hpl := HO.out.2.2.2.2 _ (List.mem_of_getElem? hll)
      dsimp only at hpl
      have HX := Lib.hid (And.intro hF (And.intro ho (And.intro hg (And.intro (hT.inner hll).here (ll_at hll)))))
      clear hF ho hg hT hll
      go_wp2_with fail
      refine (toInts_any _ _ _ xs wr rfl HX.out.2.2.2.1 hpl).mono ?_
      rintro e w1 ⟨gl, rfl, ho1, hk1⟩
      have hD := HX.out.2.1.keep hk1
      obtain ⟨⟨A0, c1, x0⟩, hq⟩ : ∃ q, cs[k]? = some q := ⟨_, List.getElem?_eq_getElem (by have := HX.out.1.1; omega)⟩
      have d0 := hD.at_ HX.out.1.1 hq
      have d1 := hD.frozen HX.out.1.1 k
      have hP := HX.out.2.1.putl HX.out.1.1 hk1 ho1 rfl HX.out.2.2.1.size k
      have HZ := Lib.hid (And.intro (filled_step (A := some ⟨gl, 0, none⟩) (c := xs.length) HX.out.1 hlt HX.out.2.2.2.2) (And.intro hP (grown_put (grown_trans HX.out.2.2.1 hk1) (p := ⟨w.heap.size, k, none⟩) (Nat.le_refl _) (.slice (some ⟨gl, 0, none⟩) xs.length xs.length))))
      clear hD hq hP ho1 hk1 c0
      go_wp2
      go_roundw
      case rel => exact ⟨k + 1, by go_num, by omega, ⟨_, HZ.out.1, HZ.out.2.1⟩, HZ.out.2.2⟩
      case measure => simp [intOf]; omega
    · obtain rfl : k = n := by omega
      have HZ := Lib.hid (And.intro hF.1 (And.intro (filled_all hF (by rw [ll_length]; exact HO.out.2.2.1)) (And.intro ho hg)))
      clear hF ho hg
      go_wp2
      go_ret
      exact ⟨_, cs, rfl, HZ.out⟩
theorem toTable_any (A : Option Addr) (n c : Nat) (ls : List Li) (w : World) (hl : ls.length = n) (hr : TRow w w.heap.size A ls) (hn : n ≤ 1048576) (hp : ∀ l, l ∈ ls → l.xs.length ≤ 1048576) :
    Calls Try.prog 41 #[.agg #[.slice A n c]] w (TabMade (ll ls) n w) := by
  have h1 := ((Blk.new (w.alloc (.cells #[.slice A n c] 62)) 40 #[.slice none 0 0]).alloc (.cells #[.slice none 0 0] 40))
  have h2 := Blk.new ((w.alloc (.cells #[.slice A n c] 62)).alloc (.cells #[.slice none 0 0] 40)) 40 #[.slice none 0 0]
  simp only [size_alloc1] at h1 h2
  have HI := Lib.hid (And.intro (((hr.alloc (.cells #[.slice A n c] 62)).alloc (.cells #[.slice none 0 0] 40)).alloc (.cells #[.slice none 0 0] 40)).here (And.intro h1 (And.intro h2 (And.intro (grown_alloc (grown_alloc (grown_alloc (grown_refl w none) (.cells #[.slice A n c] 62)) (.cells #[.slice none 0 0] 40)) (.cells #[.slice none 0 0] 40)) (And.intro hl hp)))))
  clear hl hr hp h1 h2
  go_enter Try.func41, Try.ntmps41
  go_wp2_with fail
  refine (toLists_any _ _ _ ls _ HI.out.2.2.2.2.1 HI.out.1 hn HI.out.2.2.2.2.2).mono ?_
  rintro e w1 ⟨g, cs, rfl, hcl, hcs, ho, hk⟩
  have hs := HI.out.2.2.2.1.size
  have hB1 := HI.out.2.1.keep hk
  have hB2 := HI.out.2.2.1.keep hk
  have z0 : w1.cell? ⟨w.heap.size + 1, 0, none⟩ = some (.slice none 0 0) := hB1.cell 0
  have z1 : w1.frozen? ⟨w.heap.size + 1, 0, none⟩ = false := hB1.frozen 0
  have y0 : w1.cell? ⟨w.heap.size + 1 + 1, 0, none⟩ = some (.slice none 0 0) := hB2.cell 0
  have y1 : w1.frozen? ⟨w.heap.size + 1 + 1, 0, none⟩ = false := hB2.frozen 0
  have hG := grown_trans HI.out.2.2.2.1 hk
  have HZ := Lib.hid (And.intro hcl (And.intro hcs (And.intro (((ho.base_le hs).put hB2 0 (.slice (some ⟨g, 0, none⟩) n n)).put (hB1.far (p := ⟨w.heap.size + 1 + 1, 0, none⟩) (by dsimp only; omega) (.slice (some ⟨g, 0, none⟩) n n)) 0 (.slice (some ⟨g, 0, none⟩) n n)) (grown_put (grown_put hG (p := ⟨w.heap.size + 1 + 1, 0, none⟩) (by dsimp only; omega) (.slice (some ⟨g, 0, none⟩) n n)) (p := ⟨w.heap.size + 1, 0, none⟩) (by dsimp only; omega) (.slice (some ⟨g, 0, none⟩) n n)))))
  clear hcl hcs ho hk hs hB1 hB2 hG
  go_wp2
  exact bodyPost_ret (v := .agg #[.slice (some ⟨g, 0, none⟩) n n]) (by simp [results, Try.results41, go_sem, *]) rfl ⟨some ⟨g, 0, none⟩, n, cs, rfl, HZ.out.1, HZ.out.2.1, HZ.out.2.2.1, HZ.out.2.2.2⟩
theorem eqLists_any (A A' : Option Addr) (n n' c c' : Nat) (ls ms : List Li) (w : World) (hl : ls.length = n) (hl' : ms.length = n') (hr : TRow w w.heap.size A ls) (hr' : TRow w w.heap.size A' ms) (hn : n ≤ 1048576) (hn' : n' ≤ 1048576) (hp : ∀ l, l ∈ ls → l.xs.length ≤ 1048576) (hp' : ∀ l, l ∈ ms → l.xs.length ≤ 1048576) :
    Calls Try.prog 83 #[.slice A n c, .slice A' n' c'] w (KeptV (.bool (decide (ll ls = ll ms))) w) := by
  by_cases hnn : n = n'
  · subst hnn
    have HR := Lib.hid (And.intro hl (And.intro hl' (And.intro hr (And.intro hr' (And.intro hp hp')))))
    have tn : ((n : Int) != (n : Int)) = false := by simp
    clear hl hl' hr hr' hp hp'
    go_enter Try.func83, Try.ntmps83
    go_wp2
    go_loopw [5] (fun i wr => ∃ k : Nat, i = .int .i64 k ∧ k ≤ n ∧ (∀ j, j < k → (ll ls)[j]? = (ll ms)[j]?) ∧ w.grownBy wr none) (fun i _ => n - (intOf i).toNat)
    case atStart => exact ⟨0, rfl, Nat.zero_le _, fun j hj => absurd hj (by omega), grown_refl _ _⟩
    case round =>
      obtain ⟨k, rfl, hk, hj, hg⟩ := hrel
      by_cases hlt : k < n
      · have hk8 : (k : Int) < n := by omega
        have hk0 : decide ((0 : Int) ≤ k) = true := decide_eq_true (by omega)
        obtain ⟨g, off, rfl⟩ := HR.out.2.2.1.pos (by have := HR.out.1; omega)
        obtain ⟨g', off', rfl⟩ := HR.out.2.2.2.1.pos (by have := HR.out.2.1; omega)
        obtain ⟨⟨Al, cl, xs⟩, hx⟩ : ∃ l, ls[k]? = some l := ⟨_, List.getElem?_eq_getElem (by have := HR.out.1; omega)⟩
        obtain ⟨⟨Al', cl', ys⟩, hy⟩ : ∃ l, ms[k]? = some l := ⟨_, List.getElem?_eq_getElem (by have := HR.out.2.1; omega)⟩
        have hpl := HR.out.2.2.2.2.1 _ (List.mem_of_getElem? hx)
        have hpl' := HR.out.2.2.2.2.2 _ (List.mem_of_getElem? hy)
        dsimp only at hpl hpl'
        have hT := HR.out.2.2.1.kept hg
        have hT' := HR.out.2.2.2.1.kept hg
        have c0 := hT.cellf hx rfl
        have c1 := hT'.cellf hy rfl
        have d0 : ∀ {w' : World}, wr.drew.grownBy w' none → w'.cell? ⟨g, off + k, none⟩ = some (.slice Al xs.length cl) := fun h => (TRow.kept (TRow.drew hT) h).cellf hx rfl
        have d1 : ∀ {w' : World}, wr.drew.grownBy w' none → w'.cell? ⟨g', off' + k, none⟩ = some (.slice Al' ys.length cl') := fun h => (TRow.kept (TRow.drew hT') h).cellf hy rfl
        have HX := Lib.hid (And.intro hg (And.intro hj (And.intro (show IRow wr.drew wr.drew.heap.size Al xs from (VRow.drew (hT.inner hx)).here) (And.intro (show IRow wr.drew wr.drew.heap.size Al' ys from (VRow.drew (hT'.inner hy)).here) (And.intro @d0 @d1)))))
        have HY := Lib.hid (And.intro (ll_at hx) (ll_at hy))
        clear hg hj hx hy hT hT' d0 d1
        by_cases e : xs = ys
        · have HE : RowKit.Hid (decide (xs = ys) = true) := Lib.hid (decide_eq_true e)
          have HE2 := Lib.hid e
          clear e
          go_wp2
          refine wp_region_held_drew (S := (fun w' => w'.cell? ⟨g, off + k, none⟩ = some (.slice Al xs.length cl) ∧ w'.cell? ⟨g', off' + k, none⟩ = some (.slice Al' ys.length cl'))) (by kernel_rfl) ?_ (fun hHeld => ?_)
          · first | exact ⟨c0, c1⟩ | exact ⟨b0, b1⟩
          refine heldY 0 17 ?_
          refine heldY 1 18 ?_
          refine heldY 2 19 ?_
          refine heldY 3 20 ?_
          refine heldY 4 21 ?_
          refine heldY 5 22 ?_
          refine heldY 6 23 ?_
          refine heldY 7 24 ?_
          refine wpAnyH_ready (rs := [8]) (by kernel_rfl) (by simp) ?_
          refine AllReadyH.cons rfl (fun K hK => ?_) AllReadyH.nil
          go_simp
          go_at_call 35; ((with_reducible refine (eqInts_val HE.out rfl rfl HX.out.2.2.1 HX.out.2.2.2.1 hpl hpl').mono ?_); rintro e w1 ⟨rfl, hk1⟩; have HK := Lib.hid hk1; have b0 := (HX.out.2.2.2.2.1 hk1); have b1 := (HX.out.2.2.2.2.2 hk1); clear hk1)
          refine hK.out _ _ ?_ (fun hHeld => ?_)
          · first | exact ⟨c0, c1⟩ | exact ⟨b0, b1⟩
          clear hK K
          try simp only [Act.put, List.setIfInBounds_toArray, List.set_cons_zero, List.set_cons_succ]
          refine heldY 9 26 ?_
          refine wpAnyH_done (by kernel_rfl) ?_ _
          go_wp2
          go_roundw
          case rel =>
            refine ⟨k + 1, by go_num, by omega, fun j hj => ?_, grown_trans HX.out.1 (grown_trans (grown_drew (grown_refl _ _)) HK.out)⟩
            rcases Nat.lt_or_ge j k with h1 | h1
            · exact HX.out.2.1 j h1
            · obtain rfl : j = k := by omega
              rw [HY.out.1, HY.out.2, HE2.out]
          case measure => simp [intOf]; omega
        · have HE : RowKit.Hid (decide (xs = ys) = false) := Lib.hid (decide_eq_false e)
          have HF : RowKit.Hid (decide (ll ls = ll ms) = false) := Lib.hid (decide_eq_false (fun h => e (by have h1 := HY.out.1; rw [h, HY.out.2] at h1; injection h1 with h1; exact h1.symm)))
          clear e
          go_wp2
          refine wp_region_held_drew (S := (fun w' => w'.cell? ⟨g, off + k, none⟩ = some (.slice Al xs.length cl) ∧ w'.cell? ⟨g', off' + k, none⟩ = some (.slice Al' ys.length cl'))) (by kernel_rfl) ?_ (fun hHeld => ?_)
          · first | exact ⟨c0, c1⟩ | exact ⟨b0, b1⟩
          refine heldY 0 17 ?_
          refine heldY 1 18 ?_
          refine heldY 2 19 ?_
          refine heldY 3 20 ?_
          refine heldY 4 21 ?_
          refine heldY 5 22 ?_
          refine heldY 6 23 ?_
          refine heldY 7 24 ?_
          refine wpAnyH_ready (rs := [8]) (by kernel_rfl) (by simp) ?_
          refine AllReadyH.cons rfl (fun K hK => ?_) AllReadyH.nil
          go_simp
          go_at_call 35; ((with_reducible refine (eqInts_val HE.out rfl rfl HX.out.2.2.1 HX.out.2.2.2.1 hpl hpl').mono ?_); rintro e w1 ⟨rfl, hk1⟩; have HK := Lib.hid hk1; have b0 := (HX.out.2.2.2.2.1 hk1); have b1 := (HX.out.2.2.2.2.2 hk1); clear hk1)
          refine hK.out _ _ ?_ (fun hHeld => ?_)
          · first | exact ⟨c0, c1⟩ | exact ⟨b0, b1⟩
          clear hK K
          try simp only [Act.put, List.setIfInBounds_toArray, List.set_cons_zero, List.set_cons_succ]
          refine heldY 9 26 ?_
          refine wpAnyH_done (by kernel_rfl) ?_ _
          go_wp2
          go_ret
          exact ⟨retB HF.out.symm, grown_trans HX.out.1 (grown_trans (grown_drew (grown_refl _ _)) HK.out)⟩
      · obtain rfl : k = n := by omega
        have HE : RowKit.Hid (decide (ll ls = ll ms) = true) := Lib.hid (decide_eq_true (List.ext_getElem? fun j => by
          rcases Nat.lt_or_ge j k with h1 | h1
          · exact hj j h1
          · rw [List.getElem?_eq_none (by rw [ll_length]; have := HR.out.1; omega), List.getElem?_eq_none (by rw [ll_length]; have := HR.out.2.1; omega)]))
        have HG := Lib.hid hg
        clear hj hg
        go_wp2
        go_ret
        exact ⟨retB HE.out.symm, HG.out⟩
  · have tn : ((n : Int) != (n' : Int)) = true := by simp; omega
    have HE : RowKit.Hid (decide (ll ls = ll ms) = false) := Lib.hid (decide_eq_false (fun h => hnn (by rw [← hl, ← hl', ← ll_length, h, ll_length])))
    clear hl hl' hr hr' hnn
    go_enter Try.func83, Try.ntmps83
    go_wp2
    go_ret
    exact ⟨retB HE.out.symm, grown_refl _ _⟩
theorem eqTable_same (A A' : Option Addr) (n c c' : Nat) (ls ms : List Li) (w : World) (hl : ls.length = n) (hs : ll ls = ll ms) (hr : TRow w w.heap.size A ls) (hr' : TRow w w.heap.size A' ms) (hn : n ≤ 1048576) (hp : ltot (ll ls) ≤ 1048576) :
    Calls Try.prog 42 #[.agg #[.slice A n c], .agg #[.slice A' n c']] w (KeptV (.bool true) w) := by
  have h0 := (Blk.new w 40 #[.slice A n c]).alloc (.cells #[.slice A' n c'] 40)
  have HR := Lib.hid (And.intro hl (And.intro (show ms.length = n by rw [← ll_length, ← hs, ll_length]; exact hl) (And.intro ((hr.alloc (.cells #[.slice A n c] 40)).alloc (.cells #[.slice A' n c'] 40)).here (And.intro ((hr'.alloc (.cells #[.slice A n c] 40)).alloc (.cells #[.slice A' n c'] 40)).here (And.intro (small_ll hp) (And.intro (small_ll (ls := ms) (by rw [← hs]; exact hp)) (decide_eq_true hs : decide (ll ls = ll ms) = true)))))))
  have b0 := h0.cell 0
  clear hl hr hr' hp hs h0
  go_enter Try.func42, Try.ntmps42
  go_wp2_with fail
  refine (eqLists_any _ _ _ _ _ _ ls ms _ HR.out.1 HR.out.2.1 HR.out.2.2.1 HR.out.2.2.2.1 hn hn HR.out.2.2.2.2.1 HR.out.2.2.2.2.2.1).mono ?_
  rw [HR.out.2.2.2.2.2.2]
  rintro e w1 ⟨rfl, hk⟩
  have HG := Lib.hid (grown_trans (grown_alloc (grown_alloc (grown_refl w none) (.cells #[.slice A n c] 40)) (.cells #[.slice A' n c'] 40)) hk)
  clear hk
  go_wp2
  go_ret
  exact ⟨rfl, HG.out⟩
/-- A table marked from number K on; the number behind it. -/
def lmark : Nat → List Li → List Li
  | _, [] => []
  | K, l :: r => ⟨l.A, l.c, imarks K l.xs.length⟩ :: lmark (K + l.xs.length) r
def lend (K : Nat) (ls : List Li) : Nat := K + ltot (ll ls)
theorem lmark_length (K : Nat) (ls : List Li) : (lmark K ls).length = ls.length := by
  induction ls generalizing K with
  | nil => rfl
  | cons b r ih => simp [lmark, ih]
theorem lend_cons (K : Nat) (l : Li) (r : List Li) : lend K (l :: r) = lend (K + l.xs.length) r := by
  simp only [lend, ll, ltot, List.map_cons, List.sum_cons]; omega
theorem lmark_at {K k : Nat} {ls : List Li} {l : Li} (h : ls[k]? = some l) : (lmark K ls)[k]? = some ⟨l.A, l.c, imarks (lend K (ls.take k)) l.xs.length⟩ := by
  induction ls generalizing K k with
  | nil => simp at h
  | cons p r ih =>
    cases k with
    | zero => simp at h; subst h; simp [lmark, lend, ltot, ll]
    | succ k =>
      have hh := ih (K := K + p.xs.length) (k := k) (by simpa using h)
      rw [← lend_cons] at hh
      simpa [lmark] using hh
theorem lend_step {K k : Nat} {ls : List Li} {l : Li} (h : ls[k]? = some l) : lend K (ls.take (k + 1)) = lend K (ls.take k) + l.xs.length := by
  have h1 := ltot_take (ll_at h)
  simp only [lend, ll, List.map_take] at h1 ⊢
  omega
theorem lend_le (K : Nat) (ls : List Li) (k : Nat) : lend K (ls.take k) ≤ lend K ls := by
  have h1 := ltot_take_le (ll ls) k
  simp only [lend, ll, List.map_take] at h1 ⊢
  omega
/-- The table, its first k lists marked. -/
def markT (K : Nat) (ls : List Li) (k : Nat) : List Li := lmark K (ls.take k) ++ ls.drop k
theorem markT_length {K k : Nat} {ls : List Li} (h : k ≤ ls.length) : (markT K ls k).length = ls.length := by
  simp only [markT, List.length_append, lmark_length, List.length_take, List.length_drop]; omega
theorem markT_at {K k : Nat} {ls : List Li} {l : Li} (h : ls[k]? = some l) : (markT K ls k)[k]? = some l := by
  have hk : k < ls.length := (List.getElem?_eq_some_iff.1 h).1
  unfold markT
  rw [List.getElem?_append_right (by rw [lmark_length, List.length_take]; omega), lmark_length, List.length_take, List.getElem?_drop, ← h]
  congr 1
  omega
theorem lmark_snoc (K : Nat) (ls : List Li) (l : Li) : lmark K (ls ++ [l]) = lmark K ls ++ [⟨l.A, l.c, imarks (lend K ls) l.xs.length⟩] := by
  induction ls generalizing K with
  | nil => simp [lmark, lend, ltot, ll]
  | cons p r ih => simp only [List.cons_append, lmark, ih, lend_cons]
theorem markT_step {K k : Nat} {ls : List Li} {l : Li} (h : ls[k]? = some l) : (markT K ls k).set k ⟨l.A, l.c, imarks (lend K (ls.take k)) l.xs.length⟩ = markT K ls (k + 1) := by
  have hk : k < ls.length := (List.getElem?_eq_some_iff.1 h).1
  have hl : (lmark K (ls.take k)).length = k := by rw [lmark_length, List.length_take]; omega
  unfold markT
  rw [List.set_append_right _ _ (by omega), hl, Nat.sub_self, List.take_add_one, h, Option.toList_some, lmark_snoc, List.append_assoc]
  congr 1
  obtain ⟨hlt, rfl⟩ := List.getElem?_eq_some_iff.1 h
  rw [List.drop_eq_getElem_cons hlt]
  rfl
theorem markT_end (K : Nat) (ls : List Li) : markT K ls ls.length = lmark K ls := by simp [markT]
theorem markT_zero (K : Nat) (ls : List Li) : markT K ls 0 = ls := by simp [markT, lmark]
theorem lmark_addr {K : Nat} {ls : List Li} {l : Li} (h : l ∈ lmark K ls) : ∃ l', l' ∈ ls ∧ l'.A = l.A := by
  induction ls generalizing K with
  | nil => simp [lmark] at h
  | cons p r ih =>
    simp only [lmark, List.mem_cons] at h
    rcases h with rfl | h
    · exact ⟨p, by simp, rfl⟩
    · obtain ⟨b', h1, h2⟩ := ih h
      exact ⟨b', by simp [h1], h2⟩
theorem lmark_xs {K : Nat} {ls : List Li} : ltot (ll (lmark K ls)) = ltot (ll ls) := by
  induction ls generalizing K with
  | nil => rfl
  | cons p r ih =>
    have h := @ih (K + p.xs.length)
    simp only [lmark, ll, ltot, List.map_cons, List.sum_cons, imarks_length] at h ⊢
    omega
/-- A list of a table of the call's own has other numbers, as many. -/
theorem TOwn.relist {w w' : World} {base i : Nat} {v : Value} {ls : List Li} {l : Li} {qs : List Int} (h : TOwn w base v ls) (hi : ls[i]? = some l) (hq : qs.length = l.xs.length)
    (ho : IOwn w' base (.slice l.A l.xs.length l.c) qs) (hg : w.grownBy w' (Value.slice l.A l.xs.length l.c).ownBlock) : TOwn w' base v (ls.set i ⟨l.A, l.c, qs⟩) := by
  have hm := List.mem_of_getElem? hi
  refine ⟨?_, fun b' hm' => ?_, fun j k l1 l2 a1 a2 hjk hj hk h1 h2 => ?_⟩
  · rw [lv_set, set_same (by rw [lv_at hi]; simp [Li.row, hq])]
    refine VOwn.kept h.1 hg ?_
    rcases h.inner_ne hm with e | e
    · exact .inr (by rw [show (Value.slice l.A l.xs.length l.c).ownBlock = none from e]; cases hv : v.ownBlock with
        | none => exact absurd (hv) (by
            rcases h.form with ⟨rfl, rfl⟩ | ⟨g, cap, rfl, _⟩
            · simp at hi
            · simp [Value.ownBlock])
        | some g => simp)
    · exact .inr (Ne.symm e)
  · obtain ⟨j, hj⟩ := List.getElem?_of_mem hm'
    rw [List.getElem?_set] at hj
    split at hj
    · split at hj
      · injection hj with hj; subst hj
        show IOwn w' base (.slice l.A qs.length l.c) qs
        rw [hq]; exact ho
      · cases hj
    · rename_i hne
      refine VOwn.kept (h.2.1 b' (List.mem_of_getElem? hj)) hg ?_
      cases hA' : b'.A with
      | none => exact .inl (by simp [Li.row, hA', Value.ownBlock])
      | some a' =>
        refine .inr ?_
        cases hA : l.A with
        | none => simp [Li.row, hA', Value.ownBlock]
        | some a =>
          have := h.2.2 i j l b' a a' hne hi hj hA hA'
          simp only [Li.row, hA', Value.ownBlock, ne_eq, Option.some.injEq]
          exact Ne.symm this
  · have look : ∀ {j : Nat} {l1 : Li}, (ls.set i ⟨l.A, l.c, qs⟩)[j]? = some l1 → ∃ c, ls[j]? = some c ∧ c.A = l1.A := fun {j l1} hj => by
      rw [List.getElem?_set] at hj
      split at hj
      · rename_i e
        subst e
        split at hj
        · injection hj with hj; subst hj; exact ⟨l, hi, rfl⟩
        · cases hj
      · exact ⟨l1, hj, rfl⟩
    obtain ⟨c1, hc1, e1⟩ := look hj
    obtain ⟨c2, hc2, e2⟩ := look hk
    exact h.2.2 j k c1 c2 a1 a2 hjk hc1 hc2 (e1.trans h1) (e2.trans h2)
/-- All memory of a table lies in the blocks lo .. hi - 1. -/
def TIs (lo hi g : Nat) (ls : List Li) : Prop := (lo ≤ g ∧ g < hi) ∧ ∀ (l : Li) (a : Addr), l ∈ ls → l.A = some a → lo ≤ a.block ∧ a.block < hi
theorem markLists_from (K0 : Nat) (hK0 : K0 ≤ 7000000) (g n c base lo hi : Nat) (ls : List Li) (w : World) (hl : ls.length = n) (ho : TOwn w base (.slice (some ⟨g, 0, none⟩) n c) ls) (hd : TIs lo hi g ls) (hn : n ≤ 1048576) (ht : ltot (ll ls) ≤ 1048576) :
    Calls Try.prog 84 #[.slice (some ⟨g, 0, none⟩) n c, .int .i64 (K0 : Int)] w fun e w' => e = .returned (.int .i64 ((lend K0 ls : Nat) : Int)) ∧ TOwn w' base (.slice (some ⟨g, 0, none⟩) n c) (lmark K0 ls) ∧ Out lo hi w w' := by
  subst hl
  have HO := Lib.hid ho
  have HD := Lib.hid hd
  clear ho hd
  go_enter Try.func84, Try.ntmps84
  go_wp2
  go_loopw [1, 5] (fun t i wr => ∃ (k K : Nat), i = .int .i64 k ∧ t = .int .i64 K ∧ k ≤ ls.length ∧ K = lend K0 (ls.take k) ∧ TOwn wr base (.slice (some ⟨g, 0, none⟩) ls.length c) (markT K0 ls k) ∧ Out lo hi w wr) (fun _ i _ => ls.length - (intOf i).toNat)
  case atStart => exact ⟨0, K0, rfl, rfl, Nat.zero_le _, by simp [lend, ltot, ll], by rw [markT_zero]; exact HO.out, Out.refl _ _ _⟩
  case round =>
    obtain ⟨k, K, rfl, rfl, hkn, hK, hown, hg⟩ := hrel
    clear HO
    by_cases hlt : k < ls.length
    · have hk8 : (k : Int) < ls.length := by omega
      have hk0 : decide ((0 : Int) ≤ k) = true := decide_eq_true (by omega)
      have hKb : K ≤ 10000000 := by
        have h1 := lend_le K0 ls k
        have h2 : lend K0 ls = K0 + ltot (ll ls) := rfl
        omega
      obtain ⟨l, hb⟩ : ∃ l, ls[k]? = some l := ⟨_, List.getElem?_eq_getElem hlt⟩
      have hbt := ltot_le (xss := ll ls) (List.mem_of_getElem? (ll_at hb))
      have hb2 := markT_at (K := K0) hb
      have hml := markT_length (K := K0) (ls := ls) (k := k) (by omega)
      have d0 := hown.at_ hml hb2
      have hP : IOwn wr base (.slice l.A l.xs.length l.c) l.xs := hown.2.1 l (List.mem_of_getElem? hb2)
      have HX := Lib.hid (And.intro hg (And.intro hb (And.intro hbt (And.intro hK (And.intro hown (And.intro hb2 hP))))))
      clear hg hb hbt hK hb2 hP hown hml
      go_wp2_with fail
      refine (markInts_any _ _ _ K _ _ _ rfl HX.out.2.2.2.2.2.2 (by have := HX.out.2.2.1; omega) (by omega)).mono ?_
      rintro e w2 ⟨rfl, ho2, hk2⟩
      have hD2 := HX.out.2.2.2.2.1.relist HX.out.2.2.2.2.2.1 (imarks_length _ _) ho2 hk2
      have hst := markT_step (K := K0) HX.out.2.1
      rw [← HX.out.2.2.2.1] at hst
      rw [hst] at hD2
      have hO2 := HX.out.1.trans (Out.of_grown hk2 (fun g' e => by
        cases hA : l.A with
        | none => rw [hA] at e; simp [Value.ownBlock] at e
        | some a =>
          rw [hA] at e
          simp only [Value.ownBlock, Option.some.injEq] at e
          rw [← e]
          exact HD.out.2 l a (List.mem_of_getElem? HX.out.2.1) hA))
      have HY := Lib.hid (And.intro hD2 hO2)
      clear ho2 hk2 hD2 hst hO2 d0
      go_wp2
      go_roundw
      case rel => exact ⟨k + 1, K + l.xs.length, by go_num, rfl, by omega, by rw [lend_step HX.out.2.1, ← HX.out.2.2.2.1], HY.out.1, HY.out.2⟩
      case measure => simp [intOf]; omega
    · obtain rfl : k = ls.length := by omega
      rw [markT_end] at hown
      have HX := Lib.hid (And.intro hg (And.intro hK hown))
      clear hg hK hown
      go_wp2
      go_ret
      exact ⟨retI (by rw [HX.out.2.1, List.take_length]), HX.out.2.2, HX.out.1⟩
theorem markLists_some (g n c base lo hi : Nat) (ls : List Li) (w : World) (hl : ls.length = n) (ho : TOwn w base (.slice (some ⟨g, 0, none⟩) n c) ls) (hd : TIs lo hi g ls) (hn : n ≤ 1048576) (ht : ltot (ll ls) ≤ 1048576) :
    Calls Try.prog 84 #[.slice (some ⟨g, 0, none⟩) n c, .int .i64 1] w fun e w' => e = .returned (.int .i64 ((lend 1 ls : Nat) : Int)) ∧ TOwn w' base (.slice (some ⟨g, 0, none⟩) n c) (lmark 1 ls) ∧ Out lo hi w w' :=
  markLists_from 1 (by omega) g n c base lo hi ls w hl ho hd hn ht
theorem markLists_nilK (K0 : Nat) (w : World) : Calls Try.prog 84 #[.slice none 0 0, .int .i64 (K0 : Int)] w fun e w' => e = .returned (.int .i64 (K0 : Int)) ∧ w = w' := by
  go_enter Try.func84, Try.ntmps84
  go_wp2
  go_loop [1, 5] (fun t i => i = .int .i64 0 ∧ t = .int .i64 (K0 : Int)) (fun _ _ => 0)
  case atStart => exact ⟨rfl, rfl⟩
  case round =>
    obtain ⟨rfl, rfl⟩ := hrel
    go_wp2
    go_ret
    exact ⟨rfl, rfl⟩
theorem markLists_nil (w : World) : Calls Try.prog 84 #[.slice none 0 0, .int .i64 1] w fun e w' => e = .returned (.int .i64 1) ∧ w = w' := markLists_nilK 1 w
theorem heldLists_any (A : Option Addr) (n c : Nat) (ls : List Li) (w : World) (hl : ls.length = n) (hr : TRow w w.heap.size A (lmark 1 ls)) (hn : n ≤ 1048576) (ht : ltot (ll ls) ≤ 1048576) :
    Calls Try.prog 85 #[.slice A n c, .int .i64 1] w fun e w' => e = .returned (.int .i64 ((lend 1 ls : Nat) : Int)) ∧ w = w' := by
  subst hl
  have HR := Lib.hid hr
  clear hr
  go_enter Try.func85, Try.ntmps85
  go_wp2
  go_loop [1, 5] (fun t i => ∃ (k K : Nat), k ≤ ls.length ∧ K = lend 1 (ls.take k) ∧ i = .int .i64 k ∧ t = .int .i64 K) (fun _ i => ls.length - (intOf i).toNat)
  case atStart => exact ⟨0, 1, Nat.zero_le _, by simp [lend, ltot, ll], rfl, rfl⟩
  case round =>
    obtain ⟨k, K, hkn, hK, rfl, rfl⟩ := hrel
    have HK := Lib.hid hK
    by_cases hlt : k < ls.length
    · have hk8 : (k : Int) < ls.length := by omega
      have hk0 : decide ((0 : Int) ≤ k) = true := decide_eq_true (by omega)
      have hKb : K ≤ 10000000 := by
        have h1 := lend_le 1 ls k
        have h2 : lend 1 ls = 1 + ltot (ll ls) := rfl
        omega
      obtain ⟨l, hb⟩ : ∃ l, ls[k]? = some l := ⟨_, List.getElem?_eq_getElem hlt⟩
      have hbt := ltot_le (xss := ll ls) (List.mem_of_getElem? (ll_at hb))
      have hm := lmark_at (K := 1) hb
      rw [← hK] at hm
      obtain ⟨g, off, rfl⟩ := HR.out.pos (by rw [lmark_length]; omega)
      have c0 := HR.out.cellf hm (imarks_length _ _)
      have hin := HR.out.inner hm
      dsimp only at hin
      have HX := Lib.hid (And.intro hin (And.intro hb hbt))
      have t1 : decide (((K + l.xs.length : Nat) : Int) < 0) = false := decide_eq_false (by omega)
      clear hm hK hin hb hbt
      go_wp2_with (go_at_call 39; refine (heldInts_any _ _ _ K _ HX.out.1 (by have := HX.out.2.2; omega) (by omega)).mono ?_; rintro e w' ⟨rfl, rfl⟩)
      go_round
      case rel => exact ⟨k + 1, K + l.xs.length, by omega, by rw [lend_step HX.out.2.1, ← HK.out], by go_num, rfl⟩
      case measure => simp [intOf]; omega
    · obtain rfl : k = ls.length := by omega
      clear hK
      go_wp2
      go_ret
      exact ⟨retI (by rw [HK.out, List.take_length]), rfl⟩
end Go.Proofs.Yteniikfgellhfaa
