/- Saves of tables and their sums: what they are.
   What SaveSum answers: the program's and the model's.
   What SaveTable answers: the program's and the model's.
   What the program's LoadTable answers.
   What the model's LoadTable answers.
   What NewerSave answers: the program's and the model's. -/
import Derived.Test.YteniikfgellhfaaCounts
import Derived.Test.YteniikfgellhfaaTables7
import Derived.BigQuiet
namespace Go.Proofs.Yteniikfgellhfaa
open Go.ChangeShapes Go.WideShapes Go.ChangeAt Go.RowKit
set_option linter.unusedVariables false

/-- A number and pages that have a sum. -/
def sumOk (n : Int) (X : List Int) : Bool := inB n 0 1000000 && decide (X.length ≤ 48) && X.all fun x => inB x (-1) 47
def sumS (s x : Int) : Int := (127 * s + x + 2) % 99991
def sumTo (n : Int) (X : List Int) : Int := X.foldl sumS (n % 99991)
def ssumV (n : Int) (X : List Int) : Int := if sumOk n X then sumTo n X else -1
theorem sumS_in (s x : Int) : 0 ≤ sumS s x ∧ sumS s x < 99991 := by unfold sumS; omega
theorem sum_acc : ∀ (X : List Int) (s : Int), 0 ≤ s → s < 99991 → 0 ≤ X.foldl sumS s ∧ X.foldl sumS s < 99991 := by
  intro X
  induction X with
  | nil => intro s h0 h1; exact ⟨h0, h1⟩
  | cons x r ih => intro s _ _; exact ih _ (sumS_in s x).1 (sumS_in s x).2
theorem sum_in (n : Int) (X : List Int) : 0 ≤ sumTo n X ∧ sumTo n X < 99991 := sum_acc X _ (by omega) (by omega)
theorem sum_snoc (n : Int) (X : List Int) (x : Int) : sumTo n (X ++ [x]) = sumS (sumTo n X) x := by simp only [sumTo, List.foldl_append, List.foldl_cons, List.foldl_nil]
theorem sum_take {n : Int} {X : List Int} {i : Nat} {x : Int} (h : X[i]? = some x) : sumTo n (X.take (i + 1)) = sumS (sumTo n (X.take i)) x := by
  rw [List.take_add_one, h, Option.toList_some, sum_snoc]
theorem sum_last (n : Int) (X : List Int) {x y : Int} (hx : -1 ≤ x ∧ x ≤ 47) (hy : -1 ≤ y ∧ y ≤ 47) (hxy : x ≠ y) : sumTo n (X ++ [x]) ≠ sumTo n (X ++ [y]) := by
  rw [sum_snoc, sum_snoc]
  unfold sumS
  omega
theorem ssum_no {n : Int} {X : List Int} (h : sumOk n X = false) : ssumV n X = -1 := by simp [ssumV, h]
theorem ssum_of {n : Int} {X : List Int} (h : sumOk n X = true) : ssumV n X = sumTo n X := by simp [ssumV, h]
theorem ssum_cases (n : Int) (X : List Int) : (sumOk n X = false ∧ ssumV n X = -1) ∨ (sumOk n X = true ∧ ssumV n X = sumTo n X ∧ 0 ≤ ssumV n X ∧ ssumV n X < 99991) := by
  cases h : sumOk n X
  · exact .inl ⟨rfl, ssum_no h⟩
  · refine .inr ⟨rfl, ssum_of h, ?_⟩
    rw [ssum_of h]
    exact sum_in n X
theorem sumOk_parts {n : Int} {X : List Int} (h : sumOk n X = true) : inB n 0 1000000 = true ∧ X.length ≤ 48 ∧ ∀ x, x ∈ X → inB x (-1) 47 = true := by
  simp only [sumOk, Bool.and_eq_true, decide_eq_true_eq, List.all_eq_true] at h
  exact ⟨h.1.1, h.1.2, h.2⟩
theorem sumOk_of {n : Int} {X : List Int} (h1 : inB n 0 1000000 = true) (h2 : X.length ≤ 48) (h3 : ∀ x, x ∈ X → inB x (-1) 47 = true) : sumOk n X = true := by
  simp only [sumOk, Bool.and_eq_true, decide_eq_true_eq, List.all_eq_true]
  exact ⟨⟨h1, h2⟩, h3⟩
theorem sumOk_snoc {n : Int} {X : List Int} {x : Int} (h : sumOk n X = true) (hl : X.length < 48) (hx : inB x (-1) 47 = true) : sumOk n (X ++ [x]) = true := by
  obtain ⟨h1, _, h3⟩ := sumOk_parts h
  refine sumOk_of h1 (by simp; omega) fun y hy => ?_
  rcases List.mem_append.1 hy with hy | hy
  · exact h3 y hy
  · rw [List.mem_singleton.1 hy]; exact hx
/-- Eight rows of six. -/
def rowsOf (X : List Int) : List (List Int) := (List.range 8).map fun f => (X.drop (6 * f)).take 6
theorem rowsOf_length (X : List Int) : (rowsOf X).length = 8 := by simp [rowsOf]
theorem rowsOf_at (X : List Int) {f : Nat} (h : f < 8) : (rowsOf X)[f]? = some ((X.drop (6 * f)).take 6) := by simp [rowsOf, h]
theorem rowsOf_six {X : List Int} (h : X.length = 48) : ∀ xs, xs ∈ rowsOf X → xs.length = 6 := fun xs hx => by
  simp only [rowsOf, List.mem_map, List.mem_range] at hx
  obtain ⟨f, hf, rfl⟩ := hx
  rw [List.length_take, List.length_drop]
  omega
theorem rowsOf_flat {X : List Int} (h : X.length = 48) : (rowsOf X).flatten = X := by
  have h6 := rowsOf_six h
  have hl := flat_len _ h6
  rw [rowsOf_length] at hl
  refine List.ext_getElem? fun i => ?_
  rcases Nat.lt_or_ge i 48 with hi | hi
  · have h1 := flat_get _ h6 (i / 6) (i % 6) (Nat.mod_lt _ (by omega))
    rw [Nat.div_add_mod] at h1
    rw [h1]
    unfold cellO
    rw [rowsOf_at X (by omega)]
    simp only [Option.bind_some]
    rw [List.getElem?_take_of_lt (Nat.mod_lt _ (by omega)), List.getElem?_drop, Nat.div_add_mod]
  · rw [List.getElem?_eq_none (by omega), List.getElem?_eq_none (by omega)]
theorem rows_of_flat {xss : List (List Int)} (h8 : xss.length = 8) (h6 : ∀ xs, xs ∈ xss → xs.length = 6) : rowsOf xss.flatten = xss := by
  have hl := flat_len _ h6
  refine List.ext_getElem? fun f => ?_
  rcases Nat.lt_or_ge f 8 with hf | hf
  · rw [rowsOf_at _ hf]
    have e := List.getElem?_eq_getElem (l := xss) (i := f) (by omega)
    rw [e]
    have h7 := h6 _ (List.getElem_mem (l := xss) (n := f) (by omega))
    refine congrArg some (List.ext_getElem? fun k => ?_)
    rcases Nat.lt_or_ge k 6 with hk | hk
    · rw [List.getElem?_take_of_lt hk, List.getElem?_drop, flat_get _ h6 f k hk]
      unfold cellO
      rw [e]
      rfl
    · rw [List.getElem?_eq_none (by rw [List.length_take]; omega), List.getElem?_eq_none (by omega)]
  · rw [List.getElem?_eq_none (by rw [rowsOf_length]; exact hf), List.getElem?_eq_none (by omega)]
theorem tab_shape {xss : List (List Int)} (h : tabB xss = true) : xss.length = 8 ∧ ∀ xs, xs ∈ xss → xs.length = 6 := by
  simp only [tabB, Bool.and_eq_true, decide_eq_true_eq, List.all_eq_true] at h
  exact h.1
/-- Saves that can be loaded: a number, pages, a sum. -/
def loadB (n : Int) (X : List Int) (s : Int) : Bool := decide (X.length = 48) && (ssumV n X == s) && decide (0 ≤ s) && tabB (rowsOf X)
def saveB (xss : List (List Int)) (n : Int) : Bool := tabB xss && inB n 0 1000000
theorem save_sum {xss : List (List Int)} {n : Int} (h : saveB xss n = true) : sumOk n xss.flatten = true := by
  simp only [saveB, Bool.and_eq_true] at h
  refine sumOk_of h.2 (by rw [tab_flat h.1]; omega) fun x hx => ?_
  have := tab_in h.1 hx
  exact inB_iff.2 ⟨by omega, by omega⟩
/-- Saved tables can be loaded. -/
theorem load_save {xss : List (List Int)} {n : Int} (h : saveB xss n = true) : loadB n xss.flatten (ssumV n xss.flatten) = true ∧ rowsOf xss.flatten = xss := by
  have hs := save_sum h
  simp only [saveB, Bool.and_eq_true] at h
  obtain ⟨h8, h6⟩ := tab_shape h.1
  have hr := rows_of_flat h8 h6
  refine ⟨?_, hr⟩
  simp only [loadB, Bool.and_eq_true, decide_eq_true_eq, beq_self_eq_true, and_true, hr, h.1]
  refine ⟨tab_flat h.1, ?_⟩
  rw [ssum_of hs]
  exact (sum_in n _).1
/-- Loaded saves are saves. -/
theorem save_load {n s : Int} {X : List Int} (h : loadB n X s = true) : saveB (rowsOf X) n = true ∧ (rowsOf X).flatten = X ∧ ssumV n X = s ∧ 0 ≤ s ∧ s < 99991 ∧ X.length = 48 := by
  simp only [loadB, Bool.and_eq_true, decide_eq_true_eq, beq_iff_eq] at h
  obtain ⟨⟨⟨h1, h2⟩, h3⟩, h4⟩ := h
  rcases ssum_cases n X with ⟨_, h5⟩ | ⟨h5, _, _, h6⟩
  · omega
  · refine ⟨?_, rowsOf_flat h1, h2, h3, by omega, h1⟩
    simp only [saveB, Bool.and_eq_true]
    exact ⟨h4, (sumOk_parts h5).1⟩
/-- With another sum it cannot be loaded. -/
theorem load_other {n s s' : Int} {X : List Int} (h : loadB n X s = true) (hs : s' ≠ s) : loadB n X s' = false := by
  obtain ⟨_, _, h2, _⟩ := save_load h
  have e : (ssumV n X == s') = false := by simp; omega
  simp [loadB, e]
end Go.Proofs.Yteniikfgellhfaa
namespace Go.Proofs.Yteniikfgellhfaa
open Go.ChangeShapes Go.WideShapes Go.ChangeAt Go.RowKit
set_option linter.unusedVariables false

theorem ssum_num {n : Int} {X : List Int} (h : inB n 0 1000000 = false) : ssumV n X = -1 := ssum_no (by simp [sumOk, h])
theorem ssum_long {n : Int} {X : List Int} (h : 48 < X.length) : ssumV n X = -1 := ssum_no (by
  have e : decide (X.length ≤ 48) = false := decide_eq_false (by omega)
  simp [sumOk, e])
theorem ssum_bad {n : Int} {X : List Int} {i : Nat} {x : Int} (h : X[i]? = some x) (hx : inB x (-1) 47 = false) : ssumV n X = -1 := ssum_no (by
  have e : (X.all fun x => inB x (-1) 47) = false := by
    rw [List.all_eq_false]
    exact ⟨x, List.mem_of_getElem? h, by simp [hx]⟩
  simp [sumOk, e])
theorem ssum_all {n : Int} {X : List Int} (hn : inB n 0 1000000 = true) (hl : X.length ≤ 48) (h : ∀ j x, j < X.length → X[j]? = some x → inB x (-1) 47 = true) : ssumV n X = sumTo n X := ssum_of (sumOk_of hn hl fun x hx => by
  obtain ⟨j, hj⟩ := List.getElem?_of_mem hx
  exact h j x (List.getElem?_eq_some_iff.1 hj).1 hj)
theorem saveNum_any (n : Int) (w : World) : Calls Try.prog 133 #[.int .i64 n] w fun e w' => e = .returned (.bool (inB n 0 1000000)) ∧ w = w' := by
  go_enter Try.func133, Try.ntmps133
  go_wp2
  all_goals (go_ret; refine ⟨retB ?_, rfl⟩; rw [Bool.eq_iff_iff]; simp [inB]; omega)
theorem saveNum_val {n : Int} {V : Bool} (h : inB n 0 1000000 = V) (w : World) : Calls Try.prog 133 #[.int .i64 n] w fun e w' => e = .returned (.bool V) ∧ w = w' := h ▸ saveNum_any n w
theorem page_val {x : Int} {V : Bool} (h : inB x (-1) 47 = V) (w : World) : Calls Try.prog 102 #[.int .i64 x] w fun e w' => e = .returned (.bool V) ∧ w = w' := h ▸ isPage_any x w
theorem rem_sum {s x : Int} (h0 : 0 ≤ s) (hx : -1 ≤ x) : (127 * s + x + 2).tmod 99991 = sumS s x := by
  rw [Int.tmod_eq_emod_of_nonneg (by omega)]; rfl
theorem saveSum_same (n : Int) (A : Option Addr) (m c : Nat) (xs : List Int) (w : World) (hl : xs.length = m) (hr : IRow w w.heap.size A xs) (hm : m ≤ 1048576) :
    Calls Try.prog 127 #[.int .i64 n, .slice A m c] w fun e w' => e = .returned (.int .i64 (ssumV n xs)) ∧ w' = w := by
  cases hn : inB n 0 1000000
  · have HB := Lib.hid (And.intro hn (ssum_num (X := xs) hn))
    clear hl hr hn
    go_enter Try.func127, Try.ntmps127
    go_wp2_with (go_at_call 133; refine (saveNum_val HB.out.1 _).mono ?_; rintro e w' ⟨rfl, rfl⟩)
    go_ret
    exact ⟨retI HB.out.2.symm, by trivial⟩
  · by_cases h48 : 48 < m
    · have HB := Lib.hid (And.intro hn (ssum_long (n := n) (X := xs) (by omega)))
      have t1 : decide ((48 : Int) < (m : Int)) = true := decide_eq_true (by omega)
      clear hl hr hn
      go_enter Try.func127, Try.ntmps127
      go_wp2_with (go_at_call 133; refine (saveNum_val HB.out.1 _).mono ?_; rintro e w' ⟨rfl, rfl⟩)
      go_ret
      exact ⟨retI HB.out.2.symm, by trivial⟩
    · have HR := Lib.hid (And.intro hl (And.intro hr hn))
      have t1 : decide ((48 : Int) < (m : Int)) = false := decide_eq_false (by omega)
      have hn0 := (inB_iff.1 hn).1
      have hn1 := (inB_iff.1 hn).2
      clear hl hr hn
      go_enter Try.func127, Try.ntmps127
      go_wp2_with (go_at_call 133; refine (saveNum_val HR.out.2.2 _).mono ?_; rintro e w' ⟨rfl, rfl⟩)
      go_loopw [5, 7, 20] (fun s y i wr => ∃ k : Nat, i = .int .i64 k ∧ k ≤ m ∧ (∀ j x, j < k → xs[j]? = some x → inB x (-1) 47 = true) ∧ s = .int .i64 (sumTo n (xs.take k)) ∧ wr = w) (fun s y i _ => m - (intOf i).toNat)
      case atStart => exact ⟨0, rfl, Nat.zero_le _, fun j x hj => absurd hj (by omega), by go_num, by trivial⟩
      case round =>
        obtain ⟨k, rfl, hk, hj, rfl, rfl⟩ := hrel
        have HN := Lib.hid (And.intro hn0 hn1)
        clear hn0 hn1
        by_cases hlt : k < m
        · have hk8 : (k : Int) < m := by omega
          have hk0 : decide ((0 : Int) ≤ k) = true := decide_eq_true (by omega)
          obtain ⟨g, off, rfl⟩ := HR.out.2.1.pos (by have := HR.out.1; omega)
          obtain ⟨x, hx⟩ : ∃ x, xs[k]? = some x := ⟨_, List.getElem?_eq_getElem (by have := HR.out.1; omega)⟩
          have c0 := IRow.cellf HR.out.2.1 hx
          cases hin : inB x (-1) 47
          · have HE := Lib.hid (And.intro hin (ssum_bad (n := n) hx hin))
            clear hx hin hj
            go_wp2_with (go_at_call 102; refine (page_val HE.out.1 _).mono ?_; rintro e w' ⟨rfl, rfl⟩)
            go_ret
            exact ⟨retI HE.out.2.symm, by trivial⟩
          · have hb := sum_in n (xs.take k)
            have hxb := inB_iff.1 hin
            have HE := Lib.hid (And.intro hin (And.intro (sum_take (n := n) hx) (And.intro hj hx)))
            clear hx hin hj
            generalize sumTo n (xs.take k) = s at hb HE
            obtain ⟨hb0, hb1⟩ := hb
            obtain ⟨hx0, hx1⟩ := hxb
            go_wp2_with (go_at_call 102; refine (page_val HE.out.1 _).mono ?_; rintro e w' ⟨rfl, rfl⟩)
            go_roundw
            case rel =>
              refine ⟨k + 1, by go_num, by omega, fun j y hj hy => ?_, ?_, by trivial⟩
              · rcases Nat.lt_or_ge j k with h1 | h1
                · exact HE.out.2.2.1 j y h1 hy
                · obtain rfl : j = k := by omega
                  have e := HE.out.2.2.2.symm.trans hy
                  injection e with e
                  subst e
                  exact HE.out.1
              · rw [HE.out.2.1]; first | rfl | (go_num; rfl)
            case measure => simp [intOf]; omega
        · obtain rfl : k = m := by omega
          have HE : RowKit.Hid (sumTo n (xs.take k) = ssumV n xs) := Lib.hid (by
            rw [List.take_of_length_le (by have := HR.out.1; omega)]
            exact (ssum_all HR.out.2.2 (by have := HR.out.1; omega) fun j x hj' => hj j x (by have := HR.out.1; omega)).symm)
          clear hj
          go_wp2
          go_ret
          exact ⟨retI HE.out, by trivial⟩
theorem saveSum_val {n V : Int} {A : Option Addr} {m c : Nat} {xs : List Int} {w : World} (hV : ssumV n xs = V) (hl : xs.length = m) (hr : IRow w w.heap.size A xs) (hm : m ≤ 1048576) :
    Calls Try.prog 127 #[.int .i64 n, .slice A m c] w fun e w' => e = .returned (.int .i64 V) ∧ w' = w := hV ▸ saveSum_same n A m c xs w hl hr hm
theorem specSum_same (n : Int) (A : Option Addr) (m c : Nat) (xs : List Int) (w : World) (hl : xs.length = m) (hr : IRow w w.heap.size A xs) (hm : m ≤ 1048576) :
    Calls Try.prog 126 #[.int .i64 n, .slice A m c] w fun e w' => e = .returned (.int .i64 (ssumV n xs)) ∧ w' = w := by
  cases hn : inB n 0 1000000
  · have HB := Lib.hid (And.intro hn (ssum_num (X := xs) hn))
    clear hl hr hn
    go_enter Try.func126, Try.ntmps126
    go_wp2_with (go_at_call 95; refine (in_val HB.out.1 _).mono ?_; rintro e w' ⟨rfl, rfl⟩)
    go_ret
    exact ⟨retI HB.out.2.symm, by trivial⟩
  · by_cases h48 : 48 < m
    · have HB := Lib.hid (And.intro hn (ssum_long (n := n) (X := xs) (by omega)))
      have t1 : decide ((48 : Int) < (m : Int)) = true := decide_eq_true (by omega)
      clear hl hr hn
      go_enter Try.func126, Try.ntmps126
      go_wp2_with (go_at_call 95; refine (in_val HB.out.1 _).mono ?_; rintro e w' ⟨rfl, rfl⟩)
      go_ret
      exact ⟨retI HB.out.2.symm, by trivial⟩
    · have HR := Lib.hid (And.intro hl (And.intro hr hn))
      have t1 : decide ((48 : Int) < (m : Int)) = false := decide_eq_false (by omega)
      have hn0 := (inB_iff.1 hn).1
      have hn1 := (inB_iff.1 hn).2
      clear hl hr hn
      go_enter Try.func126, Try.ntmps126
      go_wp2_with (go_at_call 95; refine (in_val HR.out.2.2 _).mono ?_; rintro e w' ⟨rfl, rfl⟩)
      go_loopw [5, 6] (fun s i wr => ∃ k : Nat, i = .int .i64 k ∧ k ≤ m ∧ (∀ j x, j < k → xs[j]? = some x → inB x (-1) 47 = true) ∧ s = .int .i64 (sumTo n (xs.take k)) ∧ wr = w) (fun s i _ => m - (intOf i).toNat)
      case atStart => exact ⟨0, rfl, Nat.zero_le _, fun j x hj => absurd hj (by omega), by go_num, by trivial⟩
      case round =>
        obtain ⟨k, rfl, hk, hj, rfl, rfl⟩ := hrel
        have HN := Lib.hid (And.intro hn0 hn1)
        clear hn0 hn1
        by_cases hlt : k < m
        · have hk8 : (k : Int) < m := by omega
          have hk0 : decide ((0 : Int) ≤ k) = true := decide_eq_true (by omega)
          obtain ⟨g, off, rfl⟩ := HR.out.2.1.pos (by have := HR.out.1; omega)
          obtain ⟨x, hx⟩ : ∃ x, xs[k]? = some x := ⟨_, List.getElem?_eq_getElem (by have := HR.out.1; omega)⟩
          have c0 := IRow.cellf HR.out.2.1 hx
          cases hin : inB x (-1) 47
          · have HE := Lib.hid (And.intro hin (ssum_bad (n := n) hx hin))
            clear hx hin hj
            go_wp2_with (go_at_call 95; refine (in_val HE.out.1 _).mono ?_; rintro e w' ⟨rfl, rfl⟩)
            go_ret
            exact ⟨retI HE.out.2.symm, by trivial⟩
          · have hb := sum_in n (xs.take k)
            have hxb := inB_iff.1 hin
            have HE := Lib.hid (And.intro hin (And.intro (sum_take (n := n) hx) (And.intro hj hx)))
            clear hx hin hj
            generalize sumTo n (xs.take k) = s at hb HE
            obtain ⟨hb0, hb1⟩ := hb
            obtain ⟨hx0, hx1⟩ := hxb
            go_wp2_with (go_at_call 95; refine (in_val HE.out.1 _).mono ?_; rintro e w' ⟨rfl, rfl⟩)
            go_roundw
            case rel =>
              refine ⟨k + 1, by go_num, by omega, fun j y hj hy => ?_, ?_, by trivial⟩
              · rcases Nat.lt_or_ge j k with h1 | h1
                · exact HE.out.2.2.1 j y h1 hy
                · obtain rfl : j = k := by omega
                  have e := HE.out.2.2.2.symm.trans hy
                  injection e with e
                  subst e
                  exact HE.out.1
              · rw [HE.out.2.1]; first | rfl | (go_num; rfl)
            case measure => simp [intOf]; omega
        · obtain rfl : k = m := by omega
          have HE : RowKit.Hid (sumTo n (xs.take k) = ssumV n xs) := Lib.hid (by
            rw [List.take_of_length_le (by have := HR.out.1; omega)]
            exact (ssum_all HR.out.2.2 (by have := HR.out.1; omega) fun j x hj' => hj j x (by have := HR.out.1; omega)).symm)
          clear hj
          go_wp2
          go_ret
          exact ⟨retI HE.out, by trivial⟩
theorem specSum_val {n V : Int} {A : Option Addr} {m c : Nat} {xs : List Int} {w : World} (hV : ssumV n xs = V) (hl : xs.length = m) (hr : IRow w w.heap.size A xs) (hm : m ≤ 1048576) :
    Calls Try.prog 126 #[.int .i64 n, .slice A m c] w fun e w' => e = .returned (.int .i64 V) ∧ w' = w := hV ▸ specSum_same n A m c xs w hl hr hm
end Go.Proofs.Yteniikfgellhfaa
namespace Go.Proofs.Yteniikfgellhfaa
open Go.ChangeShapes Go.WideShapes Go.ChangeAt Go.RowKit
set_option linter.unusedVariables false

/-- append(u, s...): numbers that are read (there are some) behind those of the call's own. -/
theorem push_ints {w wq : World} {u : Value} {xs ys : List Int} {A : Option Addr} {B m c : Nat} (h : IOwn wq w.heap.size u xs) (hr : IRow wq B A ys) (hl : ys.length = m) (hpos : 0 < m) (hb : w.heap.size ≤ wq.heap.size) (hn : xs.length + m ≤ 1000000) :
    ∃ u' w', (∀ ty, (Builtin.append_ #[26, 26] ty #[u, .slice A m c]).run Try.prog wq = .ok u' w') ∧ IOwn w' w.heap.size u' (xs ++ ys) ∧ wq.grownBy w' u.ownBlock := by
  have h1 := h
  unfold IOwn VOwn at h1
  rw [iv_length] at h1
  obtain ⟨u', w', hrun, h2, h3, _⟩ := append_ints _ w.heap.size u xs.length A B m c ys (iv xs) h1 hr hl hpos (by omega) hb
  refine ⟨u', w', hrun, ?_, h3⟩
  unfold IOwn VOwn
  rw [iv_length, List.length_append, iv_append, hl]
  exact h2
theorem iown_nil (w : World) (base : Nat) : IOwn w base (.slice none 0 0) [] := World.ownsRow_nil _ _ _ _
theorem take_flat {xss : List (List Int)} {f : Nat} {xs : List Int} (h : xss[f]? = some xs) : (xss.take f).flatten ++ xs = (xss.take (f + 1)).flatten := by
  rw [take_at h, List.flatten_append]
  simp
theorem flat_short {xss : List (List Int)} (h8 : xss.length = 8) (h6 : ∀ xs, xs ∈ xss → xs.length = 6) (f : Nat) (hf : f ≤ 8) : (xss.take f).flatten.length = 6 * f := by
  rw [flat_len _ fun xs hx => h6 xs (List.mem_of_mem_take hx), List.length_take, h8, Nat.min_eq_left hf]
/-- A save whose numbers lie in memory of their own is returned. -/
def SaveMade (N : Int) (X : List Int) (S : Int) (w : World) (e : Ending) (w' : World) : Prop :=
  ∃ (A : Option Addr) (k c : Nat), e = .returned (.agg #[.int .i64 N, .slice A k c, .int .i64 S]) ∧ X.length = k ∧ IOwn w' w.heap.size (.slice A k c) X ∧ w.grownBy w' none
/-- What SaveTable answers: a number, pages, a sum. -/
def saveV (xss : List (List Int)) (n : Int) : Int × List Int × Int := if saveB xss n then (n, xss.flatten, ssumV n xss.flatten) else (0, [], 0)
theorem saveV_no {xss : List (List Int)} {n : Int} (h : saveB xss n = false) : saveV xss n = (0, [], 0) := by simp [saveV, h]
theorem saveV_yes {xss : List (List Int)} {n : Int} (h : saveB xss n = true) : saveV xss n = (n, xss.flatten, ssumV n xss.flatten) := by simp [saveV, h]
/-- A boxed table, a save's variable, and the table that came in. -/
def TInS (w : World) (A : Option Addr) (n c : Nat) (ls : List Li) (wr : World) : Prop := Blk wr w.heap.size 40 #[.slice A n c] ∧ Blk wr (w.heap.size + 1) 49 #[.int .i64 0, .slice none 0 0, .int .i64 0] ∧ TRow wr w.heap.size A ls ∧ w.grownBy wr none
section
variable {w wr w' : World} {A : Option Addr} {n c : Nat} {ls : List Li}
theorem TInS.start (hr : TRow w w.heap.size A ls) (n c : Nat) : TInS w A n c ls ((w.alloc (.cells #[.slice A n c] 40)).alloc (.cells #[.int .i64 0, .slice none 0 0, .int .i64 0] 49)) := by
  refine ⟨(Blk.new w _ _).alloc _, ?_, (hr.alloc _).alloc _, grown_alloc (grown_alloc (grown_refl _ _) _) _⟩
  have H := Blk.new (w.alloc (.cells #[.slice A n c] 40)) 49 #[.int .i64 0, .slice none 0 0, .int .i64 0]
  simpa only [size_alloc1] using H
theorem TInS.keep (H : TInS w A n c ls wr) (k : wr.grownBy w' none) : TInS w A n c ls w' := ⟨H.1.keep k, H.2.1.keep k, H.2.2.1.kept k, grown_trans H.2.2.2 k⟩
end
/-- A save is written to its variable. -/
def putS (w : World) (V : Nat) (u0 u1 u2 : Value) : World := ((w.setCell ⟨V, 0, none⟩ u0).setCell ⟨V, 1, none⟩ u1).setCell ⟨V, 2, none⟩ u2
theorem grown_putS {a w : World} {V : Nat} (h : a.grownBy w none) (hp : a.heap.size ≤ V) (u0 u1 u2 : Value) : a.grownBy (putS w V u0 u1 u2) none :=
  grown_put (grown_put (grown_put h (p := ⟨V, 0, none⟩) hp u0) (p := ⟨V, 1, none⟩) hp u1) (p := ⟨V, 2, none⟩) hp u2
theorem IOwn.putS {w : World} {base V : Nat} {v : Value} {xs : List Int} {cc : Array Value} (h : IOwn w base v xs) (hb : Blk w V 49 cc) (u0 u1 u2 : Value) : IOwn (Go.Proofs.Yteniikfgellhfaa.putS w V u0 u1 u2) base v xs := by
  have e : v.ownBlock ≠ some V := by
    rcases VOwn.form h with ⟨rfl, _⟩ | ⟨g, cap, rfl, _⟩
    · simp [Value.ownBlock]
    · intro e
      simp only [Value.ownBlock, Option.some.injEq] at e
      exact VOwn.ne_blk h hb (by decide) e
  exact VOwn.to_put (VOwn.to_put (VOwn.to_put h (p := ⟨V, 0, none⟩) e u0) (p := ⟨V, 1, none⟩) e u1) (p := ⟨V, 2, none⟩) e u2
theorem Blk.cells3 {w : World} {V : Nat} {t : TypeId} {a b c : Value} (h : Blk w V t #[a, b, c]) :
    (w.cell? ⟨V, 0, none⟩ = some a ∧ w.cell? ⟨V, 1, none⟩ = some b ∧ w.cell? ⟨V, 2, none⟩ = some c) ∧ w.frozen? ⟨V, 0, none⟩ = false ∧ w.frozen? ⟨V, 1, none⟩ = false ∧ w.frozen? ⟨V, 2, none⟩ = false :=
  ⟨⟨h.cell 0, h.cell 1, h.cell 2⟩, h.frozen 0, h.frozen 1, h.frozen 2⟩
theorem specSave_tab (A : Option Addr) (n c : Nat) (ls : List Li) (N : Int) (w : World) (hl : ls.length = n) (hr : TRow w w.heap.size A ls) (hn : n ≤ 1048576) (hp : ∀ l, l ∈ ls → l.xs.length ≤ 1048576) (hv : tabB (ll ls) = false) :
    Calls Try.prog 103 #[.agg #[.slice A n c], .int .i64 N] w (SaveMade 0 [] 0 w) := by
  have HT := Lib.hid (TInS.start hr n c)
  have HP := Lib.hid (And.intro hl (And.intro hp hv))
  clear hl hr hp hv
  go_enter Try.func103, Try.ntmps103
  go_wp2_with fail
  refine (specTabValid_val HP.out.2.2 HP.out.1 HT.out.2.2.1.here hn HP.out.2.1).mono ?_
  rintro e w1 ⟨rfl, hk⟩
  have HK := Lib.hid (HT.out.keep hk)
  clear hk
  obtain ⟨⟨z0, z1, z2⟩, y0, y1, y2⟩ := HK.out.2.1.cells3
  go_wp2
  exact bodyPost_ret (v := .agg #[.int .i64 0, .slice none 0 0, .int .i64 0]) (by simp [results, Try.results103, go_sem, *]) rfl ⟨none, 0, 0, rfl, rfl, iown_nil _ _, grown_putS HK.out.2.2.2 (by omega) _ _ _⟩
theorem specSave_num (A : Option Addr) (n c : Nat) (ls : List Li) (N : Int) (w : World) (hl : ls.length = n) (hr : TRow w w.heap.size A ls) (hn : n ≤ 1048576) (hp : ∀ l, l ∈ ls → l.xs.length ≤ 1048576) (hv : tabB (ll ls) = true) (hN : inB N 0 1000000 = false) :
    Calls Try.prog 103 #[.agg #[.slice A n c], .int .i64 N] w (SaveMade 0 [] 0 w) := by
  have HT := Lib.hid (TInS.start hr n c)
  have HP := Lib.hid (And.intro hl (And.intro hp (And.intro hv hN)))
  clear hl hr hp hv hN
  go_enter Try.func103, Try.ntmps103
  go_wp2_with fail
  refine (specTabValid_val HP.out.2.2.1 HP.out.1 HT.out.2.2.1.here hn HP.out.2.1).mono ?_
  rintro e w1 ⟨rfl, hk⟩
  have HK := Lib.hid (HT.out.keep hk)
  clear hk
  obtain ⟨⟨z0, z1, z2⟩, y0, y1, y2⟩ := HK.out.2.1.cells3
  go_wp2_with (go_at_call 95; refine (in_val HP.out.2.2.2 _).mono ?_; rintro e w' ⟨rfl, rfl⟩)
  exact bodyPost_ret (v := .agg #[.int .i64 0, .slice none 0 0, .int .i64 0]) (by simp [results, Try.results103, go_sem, *]) rfl ⟨none, 0, 0, rfl, rfl, iown_nil _ _, grown_putS HK.out.2.2.2 (by omega) _ _ _⟩
theorem TInS.grown {w wr w' : World} {A : Option Addr} {n c : Nat} {ls : List Li} {u : Value} {xs : List Int} (H : TInS w A n c ls wr) (hu : IOwn wr w.heap.size u xs) (hg : wr.grownBy w' u.ownBlock) : TInS w A n c ls w' := by
  have ne : ∀ {V : Nat} {t : TypeId} {cc : Array Value}, Blk wr V t cc → 3 ≠ t → some V ≠ u.ownBlock := fun {V t cc} hb ht => by
    rcases VOwn.form hu with ⟨rfl, _⟩ | ⟨g, cap, rfl, _⟩
    · simp [Value.ownBlock]
    · intro e
      simp only [Value.ownBlock, Option.some.injEq] at e
      exact VOwn.ne_blk hu hb ht e.symm
  exact ⟨H.1.grown hg (ne H.1 (by decide)), H.2.1.grown hg (ne H.2.1 (by decide)), H.2.2.1.grown hg (fun g e => (VOwn.lt hu g e).1), grown_joinR H.2.2.2 hg (fun g e => (VOwn.lt hu g e).1)⟩
theorem specSave_yes (A : Option Addr) (n c : Nat) (ls : List Li) (N : Int) (w : World) (hl : ls.length = n) (hr : TRow w w.heap.size A ls) (hp : ∀ l, l ∈ ls → l.xs.length ≤ 1048576) (hv : tabB (ll ls) = true) (hN : inB N 0 1000000 = true) :
    Calls Try.prog 103 #[.agg #[.slice A n c], .int .i64 N] w (SaveMade N (ll ls).flatten (ssumV N (ll ls).flatten) w) := by
  obtain ⟨h8, g, off, _, _, _, _, _, rfl, _⟩ := hr.open_ hv (show 0 < 8 by omega) (show 0 < 6 by omega)
  have en : n = 8 := by omega
  subst en
  have HT := Lib.hid (TInS.start hr 8 c)
  have HP := Lib.hid (And.intro hl (And.intro hp (And.intro hv (And.intro hN (tab_shape hv)))))
  have h48 := tab_flat hv
  obtain ⟨S, hS⟩ : ∃ S, ssumV N (ll ls).flatten = S := ⟨_, rfl⟩
  rw [hS]
  have HX := Lib.hid (And.intro h48 hS)
  clear hl hr hp hv hN h48 hS h8
  go_enter Try.func103, Try.ntmps103
  go_wp2_with fail
  refine (specTabValid_val HP.out.2.2.1 HP.out.1 HT.out.2.2.1.here (by omega) HP.out.2.1).mono ?_
  rintro e w1 ⟨rfl, hk⟩
  have HK := Lib.hid (HT.out.keep hk)
  have HI := Lib.hid (And.intro (iown_lit0 w1 w.heap.size HK.out.2.2.2.size) (HK.out.keep (grown_alloc (grown_refl w1 none) (.cells #[] 3))))
  clear hk
  go_wp2_with (go_at_call 95; refine (in_val HP.out.2.2.2.1 _).mono ?_; rintro e w' ⟨rfl, rfl⟩)
  go_loopw [5, 6] (fun u i wr => ∃ f : Nat, i = .int .i64 f ∧ f ≤ 8 ∧ IOwn wr w.heap.size u ((ll ls).take f).flatten ∧ TInS w (some ⟨g, off, none⟩) 8 c ls wr) (fun u i _ => 8 - (intOf i).toNat)
  case atStart => exact ⟨0, rfl, Nat.zero_le _, HI.out.1, HI.out.2⟩
  case round =>
    rename World => wq
    clear HI HK HT
    obtain ⟨f, rfl, hf, hi, hT⟩ := hrel
    by_cases hf8 : f < 8
    · have f8 : (f : Int) < 8 := by omega
      have f0 : decide ((0 : Int) ≤ f) = true := decide_eq_true (by omega)
      obtain ⟨gx, ox, cl, xs, hll, h6⟩ := hT.2.2.1.list HP.out.2.2.1 hf8
      have b0 := hT.1.cell 0
      have c0 := hT.2.2.1.cellf hll h6
      have hlen := flat_short HP.out.2.2.2.2.1 HP.out.2.2.2.2.2 f hf
      obtain ⟨u', w2, hrun, hi2, hg2⟩ := push_ints (c := cl) hi (hT.2.2.1.inner hll) h6 (by omega) hT.2.2.2.size (by omega)
      rw [take_flat (ll_at hll)] at hi2
      have HZ := Lib.hid (And.intro hi2 (hT.grown hi hg2))
      have HRUN := Lib.hid hrun
      clear hi hT hll h6 hi2 hg2 hrun hlen
      go_wp2_with (at_builtin; refine wpList_append_run _ rfl (.tmp 21) (.tmp 26) _ _ rfl _ _ rfl rfl HRUN.out ?_)
      go_roundw
      case rel => exact ⟨f + 1, by go_num, by omega, HZ.out.1, HZ.out.2⟩
      case measure => simp [intOf]; omega
    · obtain rfl : f = 8 := by omega
      rw [List.take_of_length_le (by rw [HP.out.2.2.2.2.1]; exact Nat.le_refl _)] at hi
      have HO := Lib.hid (And.intro hi hT)
      obtain ⟨Au, cu, e⟩ := IOwn.slice hi
      rw [HX.out.1] at e
      subst e
      have HR := Lib.hid (VOwn.row hi)
      obtain ⟨⟨z0, z1, z2⟩, y0, y1, y2⟩ := hT.2.1.cells3
      clear hi hT
      go_wp2_with (go_at_call 126; refine (specSum_val HX.out.2 HX.out.1 HR.out (by omega)).mono ?_; rintro e w' ⟨rfl, rfl⟩)
      exact bodyPost_ret (v := .agg #[.int .i64 N, .slice Au 48 cu, .int .i64 S]) (by simp [results, Try.results103, go_sem, *]) rfl ⟨Au, 48, cu, rfl, HX.out.1, IOwn.putS HO.out.1 HO.out.2.2.1 _ _ _, grown_putS HO.out.2.2.2.2 (by omega) _ _ _⟩
theorem specSave_any (A : Option Addr) (n c : Nat) (ls : List Li) (N : Int) (w : World) (hl : ls.length = n) (hr : TRow w w.heap.size A ls) (hn : n ≤ 1048576) (hp : ∀ l, l ∈ ls → l.xs.length ≤ 1048576) :
    Calls Try.prog 103 #[.agg #[.slice A n c], .int .i64 N] w (SaveMade (saveV (ll ls) N).1 (saveV (ll ls) N).2.1 (saveV (ll ls) N).2.2 w) := by
  cases hv : tabB (ll ls)
  · rw [saveV_no (by simp [saveB, hv])]
    exact specSave_tab A n c ls N w hl hr hn hp hv
  · cases hN : inB N 0 1000000
    · rw [saveV_no (by simp [saveB, hN])]
      exact specSave_num A n c ls N w hl hr hn hp hv hN
    · rw [saveV_yes (by simp [saveB, hv, hN])]
      exact specSave_yes A n c ls N w hl hr hp hv hN
theorem specSave_val {A : Option Addr} {n c : Nat} {ls : List Li} {N M S : Int} {X : List Int} {w : World} (hV : saveV (ll ls) N = (M, X, S)) (hl : ls.length = n) (hr : TRow w w.heap.size A ls) (hn : n ≤ 1048576) (hp : ∀ l, l ∈ ls → l.xs.length ≤ 1048576) :
    Calls Try.prog 103 #[.agg #[.slice A n c], .int .i64 N] w (SaveMade M X S w) := by
  have h := specSave_any A n c ls N w hl hr hn hp
  rw [hV] at h
  exact h
end Go.Proofs.Yteniikfgellhfaa
namespace Go.Proofs.Yteniikfgellhfaa
open Go.ChangeShapes Go.WideShapes Go.ChangeAt Go.RowKit
set_option linter.unusedVariables false

/-- The first k of 48 numbers, -1 behind them. -/
def upX (X : List Int) (k : Nat) : List Int := X.take k ++ List.replicate (48 - k) (-1)
theorem upX_length {X : List Int} (h : X.length = 48) {k : Nat} (hk : k ≤ 48) : (upX X k).length = 48 := by simp [upX, h]; omega
theorem upX_all {X : List Int} (h : X.length = 48) : upX X 48 = X := by simp [upX, List.take_of_length_le, h]
theorem upX_zero (X : List Int) : rowsOf (upX X 0) = noTab := by
  have e : upX X 0 = List.replicate 48 (-1) := by simp [upX]
  rw [e]
  decide
theorem upX_step {X : List Int} (h : X.length = 48) {k : Nat} {x : Int} (hx : X[k]? = some x) : upX X (k + 1) = (upX X k).set k x := by
  have hk : k < 48 := by have := (List.getElem?_eq_some_iff.1 hx).1; omega
  refine List.ext_getElem? fun i => ?_
  rw [List.getElem?_set]
  unfold upX
  rcases Nat.lt_trichotomy i k with h1 | rfl | h1
  · rw [if_neg (by omega), List.getElem?_append_left (by simp; omega), List.getElem?_append_left (by simp; omega), List.getElem?_take_of_lt (by omega), List.getElem?_take_of_lt h1]
  · rw [if_pos rfl, if_pos (by simp; omega), List.getElem?_append_left (by simp; omega), List.getElem?_take_of_lt (by omega), hx]
  · rw [if_neg (by omega), List.getElem?_append_right (by simp; omega), List.getElem?_append_right (by simp; omega), List.getElem?_replicate, List.getElem?_replicate]
    simp only [List.length_take, h]
    rw [Nat.min_eq_left (by omega), Nat.min_eq_left (by omega)]
    by_cases h2 : i < 48
    · rw [if_pos (by omega), if_pos (by omega)]
    · rw [if_neg (by omega), if_neg (by omega)]
theorem row_at {Z : List Int} {f : Nat} (hf : f < 8) : (rowsOf Z)[f]? = some ((Z.drop (6 * f)).take 6) := rowsOf_at Z hf
theorem rows_set {Z : List Int} (h : Z.length = 48) {i f r : Nat} (hi : i = 6 * f + r) (hr : r < 6) (hf : f < 8) (x : Int) : rowsOf (Z.set i x) = (rowsOf Z).set f (((Z.drop (6 * f)).take 6).set r x) := by
  subst hi
  refine List.ext_getElem? fun j => ?_
  rw [List.getElem?_set]
  rcases Nat.lt_or_ge j 8 with hj | hj
  · rw [rowsOf_at _ hj]
    by_cases e : f = j
    · subst e
      rw [if_pos rfl, if_pos (by rw [rowsOf_length]; exact hf)]
      refine congrArg some (List.ext_getElem? fun q => ?_)
      rw [List.getElem?_set]
      by_cases hq : q < 6
      · rw [List.getElem?_take_of_lt hq, List.getElem?_drop, List.getElem?_set]
        by_cases e2 : r = q
        · rw [if_pos (by omega), if_pos e2, if_pos (by omega), if_pos (by simp; omega)]
        · rw [if_neg (by omega), if_neg e2, List.getElem?_take_of_lt hq, List.getElem?_drop]
      · rw [List.getElem?_eq_none (by simp; omega), if_neg (by omega), List.getElem?_eq_none (by simp; omega)]
    · rw [if_neg e, rowsOf_at _ hj]
      refine congrArg some (List.ext_getElem? fun q => ?_)
      by_cases hq : q < 6
      · rw [List.getElem?_take_of_lt hq, List.getElem?_take_of_lt hq, List.getElem?_drop, List.getElem?_drop, List.getElem?_set, if_neg (by omega)]
      · rw [List.getElem?_eq_none (by simp; omega), List.getElem?_eq_none (by simp; omega)]
  · rw [List.getElem?_eq_none (by rw [rowsOf_length]; exact hj), if_neg (by omega), List.getElem?_eq_none (by rw [rowsOf_length]; exact hj)]
/-- The loop that puts the numbers, at number k: the table's variable V, its lists in block g. -/
def PutX (w : World) (X : List Int) (A : Option Addr) (V g c k : Nat) (wr : World) : Prop :=
  ∃ cs : List Li, cs.length = 8 ∧ ll cs = rowsOf (upX X k) ∧ TOwn wr w.heap.size (.slice (some ⟨g, 0, none⟩) 8 c) cs ∧ Blk wr V 40 #[.slice (some ⟨g, 0, none⟩) 8 c] ∧ Blk wr w.heap.size 40 #[.slice none 0 0] ∧ IRow wr w.heap.size A X ∧ w.grownBy wr none
theorem tableOf_any (A : Option Addr) (c : Nat) (X : List Int) (w : World) (hl : X.length = 48) (hr : IRow w w.heap.size A X) :
    Calls Try.prog 128 #[.slice A 48 c] w (TabMade (rowsOf X) 8 w) := by
  have hb := Blk.new w 40 #[.slice none 0 0]
  have HS := Lib.hid (And.intro hl (And.intro hb (And.intro (VRow.alloc hr (.cells #[.slice none 0 0] 40)) (grown_alloc (grown_refl w none) (.cells #[.slice none 0 0] 40)))))
  clear hl hr hb
  go_enter Try.func128, Try.ntmps128
  go_wp2_with fail
  refine (emptyTable_any _).mono ?_
  rintro e w2 ⟨A2, c2, cs, rfl, hcl, hcs, ho, hk⟩
  obtain ⟨g2, _, e, _⟩ := ho.head hcl (by omega)
  injection e with e1 _ e3
  subst e1; subst e3
  have K2 : w2.grownBy (w2.alloc (.cells #[.slice (some ⟨g2, 0, none⟩) 8 c2] 40)) none := grown_alloc (grown_refl _ _) _
  have HP := Lib.hid (show PutX w X A w2.heap.size g2 c2 0 (w2.alloc (.cells #[.slice (some ⟨g2, 0, none⟩) 8 c2] 40)) from
    ⟨cs, hcl, by rw [upX_zero]; exact hcs, (ho.keep K2).base_le (by simp only [size_alloc1]; omega), Blk.new _ _ _, (HS.out.2.1.keep hk).keep K2, VRow.kept (VRow.kept HS.out.2.2.1 hk) K2, grown_trans (grown_trans HS.out.2.2.2 hk) K2⟩)
  have hV : w.heap.size < w2.heap.size := by have := hk.size; simp only [size_alloc1] at this; omega
  have HV := Lib.hid hV
  clear ho hcl hcs hk K2 hV
  go_wp2
  go_loopw [4, 5, 9] (fun a b i wr => ∃ k : Nat, i = .int .i64 k ∧ k ≤ 48 ∧ PutX w X A w2.heap.size g2 c2 k wr) (fun a b i _ => 48 - (intOf i).toNat)
  case atStart => exact ⟨0, rfl, Nat.zero_le _, HP.out⟩
  case round =>
    rename World => wq
    clear HP
    obtain ⟨k, rfl, hk, cs, hcl, hcs, ho, hv, hz, hr, hg⟩ := hrel
    have hVz := HV.out
    by_cases hlt : k < 48
    · have k8 : (k : Int) < 48 := by omega
      have k0 : decide ((0 : Int) ≤ k) = true := decide_eq_true (by omega)
      obtain ⟨ga, oa, rfl⟩ := hr.pos (by have := HS.out.1; omega)
      obtain ⟨x, hx⟩ : ∃ x, X[k]? = some x := ⟨_, List.getElem?_eq_getElem (by have := HS.out.1; omega)⟩
      have c0 := IRow.cellf hr hx
      have c1 : wq.cell? ⟨w2.heap.size, 0, none⟩ = some (.slice (some ⟨g2, 0, none⟩) 8 c2) := hv.cell 0
      obtain ⟨f, hf⟩ : ∃ f, f = k / 6 := ⟨_, rfl⟩
      obtain ⟨r, hr6⟩ : ∃ r, r = k % 6 := ⟨_, rfl⟩
      have ekr : k = 6 * f + r := by omega
      have f8 : f < 8 := by omega
      have r6 : r < 6 := by omega
      have e1 : (k : Int) / 6 = (f : Int) := by omega
      have e2 : (k : Int).tdiv 6 = (f : Int) := by rw [Int.tdiv_eq_ediv_of_nonneg (by omega)]; exact e1
      have e3 : (k : Int) % 6 = (r : Int) := by omega
      have e4 : (k : Int).tmod 6 = (r : Int) := by rw [Int.tmod_eq_emod_of_nonneg (by omega)]; exact e3
      have f0 : decide ((0 : Int) ≤ f) = true := decide_eq_true (by omega)
      have f1 : (f : Int) < 8 := by omega
      have r0 : decide ((0 : Int) ≤ r) = true := decide_eq_true (by omega)
      have r1 : (r : Int) < 6 := by omega
      have hz48 : (upX X k).length = 48 := upX_length HS.out.1 hk
      have hrow : (ll cs)[f]? = some (((upX X k).drop (6 * f)).take 6) := by rw [hcs]; exact rowsOf_at _ f8
      have h6 : (((upX X k).drop (6 * f)).take 6).length = 6 := by rw [List.length_take, List.length_drop, hz48]; omega
      obtain ⟨gl, cl, hll, hi, hgl, _⟩ := ho.inner hrow (by omega)
      have d0 := ho.at_ hcl hll
      dsimp only at d0
      rw [h6] at d0 hi
      obtain ⟨y, hy⟩ : ∃ y, (((upX X k).drop (6 * f)).take 6)[r]? = some y := ⟨_, List.getElem?_eq_getElem (by omega)⟩
      have d1 : wq.cell? ⟨gl, r, none⟩ = some (.int .i64 y) := VOwn.at_ hi (by rw [iv_length]; exact h6) (iv_at hy)
      have d2 : wq.frozen? ⟨gl, r, none⟩ = false := VOwn.frozen hi (by rw [iv_length]; exact h6) r
      have neV : ∀ {V : Nat} {cc : Array Value}, Blk wq V 40 cc → gl ≠ V := fun {V cc} hb => VOwn.ne_blk hi hb (by decide)
      have HZ := Lib.hid (show PutX w X (some ⟨ga, oa, none⟩) w2.heap.size g2 c2 (k + 1) (wq.setCell ⟨gl, r, none⟩ (.int .i64 x)) from
        ⟨_, by rw [List.length_set]; exact hcl, by rw [ll_set, hcs, upX_step HS.out.1 hx, rows_set hz48 ekr r6 f8], ho.set hll r x, hv.far (p := ⟨gl, r, none⟩) (fun e => neV hv e.symm) _, hz.far (p := ⟨gl, r, none⟩) (fun e => neV hz e.symm) _,
          VRow.setCell hr (p := ⟨gl, r, none⟩) hgl _, grown_put hg (p := ⟨gl, r, none⟩) hgl _⟩)
      clear ekr hcl hcs ho hv hz hr hg hx hf hr6 hz48 hrow h6 hll hi hgl hy neV hVz
      go_wp2
      go_roundw
      case rel => exact ⟨k + 1, by go_num, by omega, HZ.out⟩
      case measure => simp [intOf]; omega
    · obtain rfl : k = 48 := by omega
      rw [upX_all HS.out.1] at hcs
      have z0 : wq.cell? ⟨w.heap.size, 0, none⟩ = some (.slice none 0 0) := hz.cell 0
      have z1 : wq.frozen? ⟨w.heap.size, 0, none⟩ = false := hz.frozen 0
      have c1 : wq.cell? ⟨w2.heap.size, 0, none⟩ = some (.slice (some ⟨g2, 0, none⟩) 8 c2) := hv.cell 0
      have HY := Lib.hid (And.intro hcl (And.intro hcs (And.intro (ho.put hz 0 (.slice (some ⟨g2, 0, none⟩) 8 c2)) (grown_put hg (p := ⟨w.heap.size, 0, none⟩) (Nat.le_refl _) (.slice (some ⟨g2, 0, none⟩) 8 c2)))))
      clear hcl hcs ho hv hz hr hg
      go_wp2
      exact bodyPost_ret (v := .agg #[.slice (some ⟨g2, 0, none⟩) 8 c2]) (by simp [results, Try.results128, go_sem, *]) rfl ⟨_, _, cs, rfl, HY.out.1, HY.out.2.1, HY.out.2.2.1, HY.out.2.2.2⟩
/-- What LoadTable answers. -/
def loadV (N : Int) (X : List Int) (S : Int) : List (List Int) × Bool := if loadB N X S then (rowsOf X, true) else ([], false)
theorem loadV_no {N S : Int} {X : List Int} (h : loadB N X S = false) : loadV N X S = ([], false) := by simp [loadV, h]
theorem loadV_yes {N S : Int} {X : List Int} (h : loadB N X S = true) : loadV N X S = (rowsOf X, true) := by simp [loadV, h]
/-- A boxed save, a table's variable, and the save's numbers. -/
def SIn (w : World) (N S : Int) (A : Option Addr) (m c : Nat) (X : List Int) (wr : World) : Prop := Blk wr w.heap.size 49 #[.int .i64 N, .slice A m c, .int .i64 S] ∧ Blk wr (w.heap.size + 1) 40 #[.slice none 0 0] ∧ IRow wr w.heap.size A X ∧ w.grownBy wr none
section
variable {w wr w' : World} {N S : Int} {A : Option Addr} {m c : Nat} {X : List Int}
theorem SIn.start (hr : IRow w w.heap.size A X) (N S : Int) (m c : Nat) : SIn w N S A m c X ((w.alloc (.cells #[.int .i64 N, .slice A m c, .int .i64 S] 49)).alloc (.cells #[.slice none 0 0] 40)) := by
  refine ⟨(Blk.new w _ _).alloc _, ?_, VRow.alloc (VRow.alloc hr _) _, grown_alloc (grown_alloc (grown_refl _ _) _) _⟩
  have H := Blk.new (w.alloc (.cells #[.int .i64 N, .slice A m c, .int .i64 S] 49)) 40 #[.slice none 0 0]
  simpa only [size_alloc1] using H
theorem SIn.keep (H : SIn w N S A m c X wr) (k : wr.grownBy w' none) : SIn w N S A m c X w' := ⟨H.1.keep k, H.2.1.keep k, VRow.kept H.2.2.1 k, grown_trans H.2.2.2 k⟩
theorem SIn.cells (H : SIn w N S A m c X wr) : (wr.cell? ⟨w.heap.size, 0, none⟩ = some (.int .i64 N) ∧ wr.cell? ⟨w.heap.size, 1, none⟩ = some (.slice A m c) ∧ wr.cell? ⟨w.heap.size, 2, none⟩ = some (.int .i64 S)) ∧ wr.cell? ⟨w.heap.size + 1, 0, none⟩ = some (.slice none 0 0) ∧ wr.frozen? ⟨w.heap.size + 1, 0, none⟩ = false :=
  ⟨H.1.cells3.1, H.2.1.cell 0, H.2.1.frozen 0⟩
end
theorem load_len (N S : Int) (A : Option Addr) (m c : Nat) (X : List Int) (w : World) (hl : X.length = m) (hr : IRow w w.heap.size A X) (hm : m ≤ 1048576) (h48 : m ≠ 48) :
    Calls Try.prog 104 #[.agg #[.int .i64 N, .slice A m c, .int .i64 S]] w (TabMade2 [] false w) := by
  have HT := Lib.hid (SIn.start hr N S m c)
  have t0 : ((m : Int) != 48) = true := by simp; omega
  obtain ⟨T, hT⟩ : ∃ T, ssumV N X = T := ⟨_, rfl⟩
  have HP := Lib.hid (And.intro hT hl)
  obtain ⟨⟨b0, b1, b2⟩, z0, z1⟩ := HT.out.cells
  clear hl hr h48 hT
  go_enter Try.func104, Try.ntmps104
  go_wp2_with (go_at_call 127; refine (saveSum_val HP.out.1 HP.out.2 (VRow.here HT.out.2.2.1) hm).mono ?_; rintro e w' ⟨rfl, rfl⟩)
  exact bodyPost_ret (v := .tuple #[.agg #[.slice none 0 0], .bool false]) (by simp [results, Try.results104, go_sem, *]) rfl ⟨none, 0, 0, [], rfl, rfl, rfl, town_nil _ _, HT.out.2.2.2⟩
theorem load_neg (N S T : Int) (A : Option Addr) (c : Nat) (X : List Int) (w : World) (hl : X.length = 48) (hr : IRow w w.heap.size A X) (hT : ssumV N X = T) (h0 : T < 0) :
    Calls Try.prog 104 #[.agg #[.int .i64 N, .slice A 48 c, .int .i64 S]] w (TabMade2 [] false w) := by
  have HT := Lib.hid (SIn.start hr N S 48 c)
  have t0 : decide (T < 0) = true := decide_eq_true h0
  have HP := Lib.hid (And.intro hT hl)
  obtain ⟨⟨b0, b1, b2⟩, z0, z1⟩ := HT.out.cells
  clear hl hr h0 hT
  go_enter Try.func104, Try.ntmps104
  go_wp2_with (go_at_call 127; refine (saveSum_val HP.out.1 HP.out.2 (VRow.here HT.out.2.2.1) (by omega)).mono ?_; rintro e w' ⟨rfl, rfl⟩)
  exact bodyPost_ret (v := .tuple #[.agg #[.slice none 0 0], .bool false]) (by simp [results, Try.results104, go_sem, *]) rfl ⟨none, 0, 0, [], rfl, rfl, rfl, town_nil _ _, HT.out.2.2.2⟩
theorem load_sum (N S T : Int) (A : Option Addr) (c : Nat) (X : List Int) (w : World) (hl : X.length = 48) (hr : IRow w w.heap.size A X) (hT : ssumV N X = T) (h0 : ¬ T < 0) (hS : S ≠ T) :
    Calls Try.prog 104 #[.agg #[.int .i64 N, .slice A 48 c, .int .i64 S]] w (TabMade2 [] false w) := by
  have HT := Lib.hid (SIn.start hr N S 48 c)
  have t0 : decide (T < 0) = false := decide_eq_false h0
  have t1 : (S != T) = true := by simp [hS]
  have HP := Lib.hid (And.intro hT hl)
  obtain ⟨⟨b0, b1, b2⟩, z0, z1⟩ := HT.out.cells
  clear hl hr h0 hT hS
  go_enter Try.func104, Try.ntmps104
  go_wp2_with (go_at_call 127; refine (saveSum_val HP.out.1 HP.out.2 (VRow.here HT.out.2.2.1) (by omega)).mono ?_; rintro e w' ⟨rfl, rfl⟩)
  exact bodyPost_ret (v := .tuple #[.agg #[.slice none 0 0], .bool false]) (by simp [results, Try.results104, go_sem, *]) rfl ⟨none, 0, 0, [], rfl, rfl, rfl, town_nil _ _, HT.out.2.2.2⟩
theorem load_tab (N T : Int) (A : Option Addr) (c : Nat) (X : List Int) (V : Bool) (R : List (List Int)) (w : World) (hl : X.length = 48) (hr : IRow w w.heap.size A X) (hT : ssumV N X = T) (h0 : ¬ T < 0) (hV : tabB (rowsOf X) = V) (hR : (V = false → R = []) ∧ (V = true → R = rowsOf X)) :
    Calls Try.prog 104 #[.agg #[.int .i64 N, .slice A 48 c, .int .i64 T]] w (TabMade2 R V w) := by
  have HT := Lib.hid (SIn.start hr N T 48 c)
  have t0 : decide (T < 0) = false := decide_eq_false h0
  have t1 : (T != T) = false := by simp
  have HP := Lib.hid (And.intro hT (And.intro hl (And.intro hV (And.intro (rowsOf_six hl) hR))))
  obtain ⟨⟨b0, b1, b2⟩, _, _⟩ := HT.out.cells
  clear hl hr h0 hT hV hR
  go_enter Try.func104, Try.ntmps104
  go_wp2_with (first | (go_at_call 127; refine (saveSum_val HP.out.1 HP.out.2.1 (VRow.here HT.out.2.2.1) (by omega)).mono ?_; rintro e w' ⟨rfl, rfl⟩) | fail)
  refine (tableOf_any A c X _ HP.out.2.1 (VRow.here HT.out.2.2.1)).mono ?_
  rintro e w2 ⟨A2, c2, cs, rfl, hcl, hcs, ho, hk⟩
  have K2 : w2.grownBy (w2.alloc (.cells #[.slice A2 8 c2] 40)) none := grown_alloc (grown_refl _ _) _
  have HK := Lib.hid ((HT.out.keep hk).keep K2)
  have HO := Lib.hid (And.intro hcl (And.intro hcs (And.intro ((ho.keep K2).base_le HT.out.2.2.2.size) (Blk.new w2 40 #[.slice A2 8 c2]))))
  have hp : ∀ l, l ∈ cs → l.xs.length ≤ 1048576 := fun l hq => by
    have := HP.out.2.2.2.1 l.xs (by rw [← hcs]; exact List.mem_map_of_mem hq)
    omega
  have HL := Lib.hid hp
  clear ho hcl hcs hk K2 hp b0 b1 b2
  go_wp2_with fail
  refine (tabValid_val (show tabB (ll cs) = V by rw [HO.out.2.1]; exact HP.out.2.2.1) HO.out.1 HO.out.2.2.1.row (by omega) HL.out).mono ?_
  rintro e w3 ⟨rfl, hk⟩
  have HF := Lib.hid (HK.out.keep hk)
  have HG := Lib.hid (And.intro (HO.out.2.2.1.keep hk) (HO.out.2.2.2.keep hk))
  have v0 := HG.out.2.cell 0
  obtain ⟨_, z0, z1⟩ := HF.out.cells
  clear hk
  cases V
  · obtain rfl := HP.out.2.2.2.2.1 rfl
    go_wp2
    exact bodyPost_ret (v := .tuple #[.agg #[.slice none 0 0], .bool false]) (by simp [results, Try.results104, go_sem, *]) rfl ⟨none, 0, 0, [], rfl, rfl, rfl, town_nil _ _, grown_put HF.out.2.2.2 (p := ⟨w.heap.size + 1, 0, none⟩) (by dsimp only; omega) _⟩
  · obtain rfl := HP.out.2.2.2.2.2 rfl
    go_wp2
    exact bodyPost_ret (v := .tuple #[.agg #[.slice A2 8 c2], .bool true]) (by simp [results, Try.results104, go_sem, *]) rfl ⟨A2, 8, c2, cs, rfl, HO.out.1, HO.out.2.1, HG.out.1.put HF.out.2.1 0 _, grown_put HF.out.2.2.2 (p := ⟨w.heap.size + 1, 0, none⟩) (by dsimp only; omega) _⟩
theorem load_any (N S : Int) (A : Option Addr) (m c : Nat) (X : List Int) (w : World) (hl : X.length = m) (hr : IRow w w.heap.size A X) (hm : m ≤ 1048576) :
    Calls Try.prog 104 #[.agg #[.int .i64 N, .slice A m c, .int .i64 S]] w (TabMade2 (loadV N X S).1 (loadV N X S).2 w) := by
  by_cases h48 : m = 48
  · subst h48
    obtain ⟨T, hT⟩ : ∃ T, ssumV N X = T := ⟨_, rfl⟩
    by_cases h0 : T < 0
    · rw [loadV_no (by
        rcases Int.lt_or_le S 0 with h | h
        · simp [loadB]; omega
        · have e : (ssumV N X == S) = false := by simp; omega
          simp [loadB, e])]
      exact load_neg N S T A c X w hl hr hT h0
    · by_cases hS : S = T
      · subst hS
        cases hV : tabB (rowsOf X)
        · rw [loadV_no (by simp [loadB, hV])]
          exact load_tab N S A c X false [] w hl hr hT h0 hV (by simp)
        · rw [loadV_yes (by simp [loadB, hV, hl, hT]; omega)]
          exact load_tab N S A c X true _ w hl hr hT h0 hV (by simp)
      · rw [loadV_no (by
          have e : (ssumV N X == S) = false := by simp; omega
          simp [loadB, e])]
        exact load_sum N S T A c X w hl hr hT h0 hS
  · rw [loadV_no (by simp [loadB]; omega)]
    exact load_len N S A m c X w hl hr hm h48
theorem load_val {N S : Int} {A : Option Addr} {m c : Nat} {X : List Int} {T : List (List Int)} {ok : Bool} {w : World} (hV : loadV N X S = (T, ok)) (hl : X.length = m) (hr : IRow w w.heap.size A X) (hm : m ≤ 1048576) :
    Calls Try.prog 104 #[.agg #[.int .i64 N, .slice A m c, .int .i64 S]] w (TabMade2 T ok w) := by
  have h := load_any N S A m c X w hl hr hm
  rw [hV] at h
  exact h
end Go.Proofs.Yteniikfgellhfaa
namespace Go.Proofs.Yteniikfgellhfaa
open Go.ChangeShapes Go.WideShapes Go.ChangeAt Go.RowKit
set_option linter.unusedSimpArgs false
set_option linter.unusedVariables false

theorem IRow.drewAt {w : World} {B : Nat} {A : Option Addr} {xs : List Int} (h : IRow w B A xs) (k : Nat) : IRow (w.drewN k) (w.drewN k).heap.size A xs := VRow.here (VRow.drewN h k)
/-- A part of a row that is read. -/
theorem IRow.part {w : World} {B g off : Nat} {xs : List Int} (h : IRow w B (some ⟨g, off, none⟩) xs) (a b : Nat) : IRow w B (some ⟨g, off + a, none⟩) ((xs.drop a).take b) := fun hn => by
  rw [iv_length, List.length_take, List.length_drop] at hn
  obtain ⟨g', off', e, hb, hz, hc⟩ := h (by rw [iv_length]; omega)
  injection e with e
  injection e with e1 e2
  subst e1; subst e2
  refine ⟨g, off + a, rfl, hb, hz, fun i u hu => ?_⟩
  obtain ⟨x, hx, rfl⟩ := iv_get hu
  have hi : i < b := by
    have := (List.getElem?_eq_some_iff.1 hx).1
    rw [List.length_take] at this
    omega
  rw [List.getElem?_take_of_lt hi, List.getElem?_drop] at hx
  have := hc _ _ (iv_at hx)
  rwa [← Nat.add_assoc] at this
theorem sum_same {n V : Int} {A : Option Addr} {m c : Nat} {xs : List Int} {w : World} (hV : ssumV n xs = V) (hl : xs.length = m) (hr : IRow w w.heap.size A xs) (hm : m ≤ 1048576) :
    Calls Try.prog 126 #[.int .i64 n, .slice A m c] w fun e w' => e = .returned (.int .i64 V) ∧ w' = w := specSum_val hV hl hr hm
theorem specLoad_len (N S : Int) (A : Option Addr) (m c : Nat) (X : List Int) (w : World) (hl : X.length = m) (hr : IRow w w.heap.size A X) (hm : m ≤ 1048576) (h48 : m ≠ 48) :
    Calls Try.prog 105 #[.agg #[.int .i64 N, .slice A m c, .int .i64 S]] w (TabMade2 [] false w) := by
  have HT := Lib.hid (SIn.start hr N S m c)
  have t0 : ((m : Int) != 48) = true := by simp; omega
  obtain ⟨⟨b0, b1, b2⟩, z0, z1⟩ := HT.out.cells
  clear hl hr h48
  go_enter Try.func105, Try.ntmps105
  go_wp2_with fail
  go_quiet (fail)
  go_wp2
  exact bodyPost_ret (v := .tuple #[.agg #[.slice none 0 0], .bool false]) (by simp [results, Try.results105, go_sem, *]) rfl ⟨none, 0, 0, [], rfl, rfl, rfl, town_nil _ _, grown_put (grown_drewN HT.out.2.2.2 _) (p := ⟨w.heap.size + 1, 0, none⟩) (by dsimp only; omega) _⟩
theorem specLoad_sum (N S T : Int) (A : Option Addr) (c : Nat) (X : List Int) (w : World) (hl : X.length = 48) (hr : IRow w w.heap.size A X) (hT : ssumV N X = T) (hS : T ≠ S) :
    Calls Try.prog 105 #[.agg #[.int .i64 N, .slice A 48 c, .int .i64 S]] w (TabMade2 [] false w) := by
  have HT := Lib.hid (SIn.start hr N S 48 c)
  have t1 : (T != S) = true := by simp [hS]
  have HP := Lib.hid (And.intro hT hl)
  have HRW := Lib.hid (fun k => IRow.drewAt HT.out.2.2.1 k)
  obtain ⟨⟨b0, b1, b2⟩, z0, z1⟩ := HT.out.cells
  clear hl hr hS hT
  go_enter Try.func105, Try.ntmps105
  go_wp2_with fail
  go_quiet ((go_at_call 126; with_reducible exact Calls.quiet_of_same (sum_same HP.out.1 HP.out.2 (HRW.out _) (by omega))))
  go_wp2
  exact bodyPost_ret (v := .tuple #[.agg #[.slice none 0 0], .bool false]) (by simp [results, Try.results105, go_sem, *]) rfl ⟨none, 0, 0, [], rfl, rfl, rfl, town_nil _ _, grown_put (grown_drewN HT.out.2.2.2 _) (p := ⟨w.heap.size + 1, 0, none⟩) (by dsimp only; omega) _⟩
/-- The loop that takes the lists, at list k: the table's variable is V. -/
def LoadRel (w : World) (N S : Int) (g off c : Nat) (X : List Int) (V k : Nat) (wr : World) : Prop :=
  k ≤ 8 ∧ ∃ (v : Value) (cs : List Li), cs.length = k ∧ ll cs = (rowsOf X).take k ∧ TOwn wr w.heap.size v cs ∧ Blk wr V 40 #[v] ∧ SIn w N S (some ⟨g, off, none⟩) 48 c X wr
theorem SIn.far {w wr : World} {N S : Int} {A : Option Addr} {m c V : Nat} {X : List Int} (H : SIn w N S A m c X wr) (hV : w.heap.size + 1 < V) (u : Value) : SIn w N S A m c X (wr.setCell ⟨V, 0, none⟩ u) :=
  ⟨H.1.far (by dsimp only; omega) u, H.2.1.far (by dsimp only; omega) u, VRow.setCell H.2.2.1 (by dsimp only; omega) u, grown_put H.2.2.2 (by dsimp only; omega) u⟩
theorem SIn.grown {w wr w' : World} {N S : Int} {A : Option Addr} {m c : Nat} {X : List Int} {v : Value} {cs : List Li} (H : SIn w N S A m c X wr) (ho : TOwn wr w.heap.size v cs) (hg : wr.grownBy w' v.ownBlock) : SIn w N S A m c X w' := by
  have hb : ∀ g, v.ownBlock = some g → w.heap.size ≤ g := fun g e => (VOwn.lt ho.1 g e).1
  refine ⟨H.1.grown hg ?_, H.2.1.grown hg (TOwn.ne_blk ho H.2.1), VRow.grown H.2.2.1 hg hb, grown_joinR H.2.2.2 hg hb⟩
  rcases ho.form with ⟨rfl, _⟩ | ⟨g, cap, rfl, _⟩
  · simp [Value.ownBlock]
  · intro e
    simp only [Value.ownBlock, Option.some.injEq] at e
    exact VOwn.ne_blk ho.1 H.1 (by decide) e.symm
/-- The bounds of list k among the numbers. -/
theorem slice_at (c : Nat) {k : Nat} (hk : k < 8) (hc : 48 ≤ c) : (0 ≤ IntKind.i64.wrap (IntKind.i64.wrap ((k : Int) + 1) * 6) ∧ IntKind.i64.wrap (IntKind.i64.wrap ((k : Int) + 1) * 6) ≤ (c : Int)) ∧
    (0 ≤ IntKind.i64.wrap ((k : Int) * 6) ∧ IntKind.i64.wrap ((k : Int) * 6) ≤ max (IntKind.i64.wrap (IntKind.i64.wrap ((k : Int) + 1) * 6)) 0) ∧ (IntKind.i64.wrap ((k : Int) * 6)).toNat = 6 * k ∧
    (IntKind.i64.wrap (IntKind.i64.wrap ((k : Int) + 1) * 6)).toNat - 6 * k = 6 ∧ ¬ c = 6 * k := by
  have e1 : IntKind.i64.wrap ((k : Int) * 6) = (k : Int) * 6 := IntWalk.i64_in _ ⟨by omega, by omega⟩
  have e2 : IntKind.i64.wrap ((k : Int) + 1) = (k : Int) + 1 := IntWalk.i64_in _ ⟨by omega, by omega⟩
  have e3 : IntKind.i64.wrap (((k : Int) + 1) * 6) = ((k : Int) + 1) * 6 := IntWalk.i64_in _ ⟨by omega, by omega⟩
  rw [e1, e2, e3]
  omega
theorem drop_row {X : List Int} (h : X.length = 48) {k : Nat} (hk : k < 8) : ((X.drop (6 * k)).take 6).length = 6 := by
  rw [List.length_take, List.length_drop, h]
  omega
set_option maxHeartbeats 4000000 in
theorem specLoad_tab (N S : Int) (A : Option Addr) (c : Nat) (X : List Int) (V : Bool) (R : List (List Int)) (w : World) (hl : X.length = 48) (hr : IRow w w.heap.size A X) (hc : 48 ≤ c) (hcm : c ≤ maxLen) (hT : ssumV N X = S) (hV : (tabB (rowsOf X) && decide (0 ≤ S)) = V) (hR : (V = false → R = []) ∧ (V = true → R = rowsOf X)) :
    Calls Try.prog 105 #[.agg #[.int .i64 N, .slice A 48 c, .int .i64 S]] w (TabMade2 R V w) := by
  obtain ⟨g, off, rfl⟩ := hr.pos (by omega)
  have HT := Lib.hid (SIn.start hr N S 48 c)
  have t1 : (S != S) = false := by simp
  have HP := Lib.hid (And.intro hT (And.intro hl (And.intro hV (And.intro (rowsOf_six hl) hR))))
  have HRW := Lib.hid (fun k => IRow.drewAt HT.out.2.2.1 k)
  obtain ⟨⟨b0, b1, b2⟩, z0, z1⟩ := HT.out.cells
  clear hl hr hT hV hR
  go_enter Try.func105, Try.ntmps105
  go_wp2_with fail
  go_quiet ((go_at_call 126; with_reducible exact Calls.quiet_of_same (sum_same HP.out.1 HP.out.2.1 (HRW.out _) (by omega))))
  rename_i nq
  generalize hwz : World.drewN _ nq = wz
  have HQ := Lib.hid (show SIn w N S (some ⟨g, off, none⟩) 48 c X wz by rw [← hwz]; exact HT.out.keep (grown_drewN (grown_refl _ _) _))
  have hVz := Lib.hid (show w.heap.size + 1 < wz.heap.size from HQ.out.2.1.lt)
  have HB := Lib.hid (show LoadRel w N S g off c X wz.heap.size 0 (wz.alloc (.cells #[.slice none 0 0] 40)) from ⟨Nat.zero_le _, _, [], rfl, rfl, town_nil _ _, Blk.new _ _ _, HQ.out.keep (grown_alloc (grown_refl _ _) _)⟩)
  clear hwz b0 b1 b2 z0 z1
  go_wp2
  go_loopw [5] (fun i wr => ∃ k : Nat, i = .int .i64 k ∧ LoadRel w N S g off c X wz.heap.size k wr) (fun i _ => 8 - (intOf i).toNat)
  case atStart => exact ⟨0, rfl, HB.out⟩
  case round =>
    rename World => wr
    clear HB
    obtain ⟨k, rfl, hk, v, cs, hcl, hcs, ho, hv, hS⟩ := hrel
    obtain ⟨⟨b0, b1, b2⟩, z0, z1⟩ := hS.cells
    have hVlt := hVz.out
    have r0 : wr.cell? ⟨wz.heap.size, 0, none⟩ = some v := hv.cell 0
    by_cases hlt : k < 8
    · have hrow : IRow wr w.heap.size (some ⟨g, off + 6 * k, none⟩) ((X.drop (6 * k)).take 6) := IRow.part hS.2.2.1 (6 * k) 6
      have h6 := drop_row HP.out.2.1 hlt
      have hfl : (rowsOf X)[k]? = some ((X.drop (6 * k)).take 6) := rowsOf_at X hlt
      generalize (X.drop (6 * k)).take 6 = xs at hrow h6 hfl
      obtain ⟨A1, c1, w1, hr1, ho1, hg1⟩ := clone_ints (U := wr.drew) (c := c - 6 * k) (VRow.drew hrow) h6 (by omega)
      have hg1' : wr.grownBy w1 none := grown_trans (grown_drew (grown_refl wr none)) hg1
      have hga : wr.grownBy (w1.alloc (.cells #[.slice A1 6 c1] 26)) none := grown_alloc hg1' _
      obtain ⟨v2, w2, hr2, ho2, hg2⟩ := push_list ho hg1' ho1 h6 hS.2.2.2.size (by omega)
      obtain ⟨g2, c2, rfl, _⟩ := ho2.head (n := k + 1) (by simp [hcl]) (by omega)
      have gd : wr.grownBy wr.drew none := grown_drew (grown_refl wr none)
      have hv2 : Blk w2 wz.heap.size 40 #[v] := ((hv.keep hg1').alloc _).grown hg2 (TOwn.ne_blk ho hv)
      have hS2 : SIn w N S (some ⟨g, off, none⟩) 48 c X w2 := (hS.keep hga).grown (ho.keep hga) hg2
      have hS5 := hS2.far hVlt (.slice (some ⟨g2, 0, none⟩) (k + 1) c2)
      have HSS := Lib.hid (And.intro (hS.keep (grown_alloc gd (.cells #[] 3))).cells.1.2.1 (And.intro (hS.keep hg1').cells.1.2.1 (And.intro (hS.keep hga).cells.1.2.1 (And.intro hS2.cells.1.2.1 hS5.cells.1.2.1))))
      have r1 : ((wr.alloc (.cells #[] 3)).drew).cell? ⟨wz.heap.size, 0, none⟩ = some v := (hv.keep (grown_alloc gd (.cells #[] 3))).cell 0
      have r2 : w1.cell? ⟨wz.heap.size, 0, none⟩ = some v := (hv.keep hg1').cell 0
      have r3 : (w1.alloc (.cells #[.slice A1 6 c1] 26)).cell? ⟨wz.heap.size, 0, none⟩ = some v := (hv.keep hga).cell 0
      have s0 : w2.cell? ⟨wz.heap.size, 0, none⟩ = some v := hv2.cell 0
      have s1 : w2.frozen? ⟨wz.heap.size, 0, none⟩ = false := hv2.frozen 0
      have HR1 := Lib.hid hr1
      have HR2 := Lib.hid hr2
      have hx1 := take_at hfl
      have HX := Lib.hid (And.intro hcl (show ll (cs ++ [⟨A1, c1, xs⟩]) = (rowsOf X).take (k + 1) by rw [hx1, ll_append, hcs]; rfl))
      have HZ := Lib.hid (And.intro (ho2.put hv2 0 (.slice (some ⟨g2, 0, none⟩) (k + 1) c2)) (And.intro (hv2.put 0 (.slice (some ⟨g2, 0, none⟩) (k + 1) c2)) hS5))
      have k0 : decide ((0 : Int) ≤ k) = true := decide_eq_true (by omega)
      have k1 : (k : Int) < 8 := by omega
      have H10 := Lib.hid (slice_at c hlt hc)
      clear hcl hcs ho hv hS hfl hrow h6 hr1 ho1 hg1 hg1' hga hr2 ho2 hg2 gd hv2 hS2 hS5 hx1 hVlt
      go_wp2
      refine wp_region_held_drew (S := (fun w' => w'.cell? ⟨w.heap.size, 1, none⟩ = some (.slice (some ⟨g, off, none⟩) 48 c))) (by kernel_rfl) ?_ (fun hHeld => ?_)
      · exact b1
      refine heldY 0 26 ?_
      refine heldY 3 29 ?_
      refine heldY 4 30 ?_
      refine heldY 5 31 ?_
      refine heldY 6 32 ?_
      refine heldY 7 33 ?_
      refine heldY 8 34 ?_
      refine heldY 9 35 ?_
      refine held_yes (i := 10) (d := some 36) (v := ?_) rfl rfl (by kernel_rfl) (by kernel_rfl) (by kernel_rfl) (fun _ _ _ h => h) (by rfl) ?_ (by assumption) ?_
      rotate_left
      · (intro w hSw; (try dsimp only at hSw); go_simp; (try simp only [if_pos H10.out.1, if_pos H10.out.2.1, H10.out.2.2.1, H10.out.2.2.2.1, if_neg H10.out.2.2.2.2]); (first | done | with_reducible rfl))
      try simp only [Act.put, List.setIfInBounds_toArray, List.set_cons_zero, List.set_cons_succ]
      refine wpAnyH_ready (rs := [1, 2]) (by kernel_rfl) (by simp) ?_
      refine AllReadyH.cons rfl (fun K hK => ?_) (AllReadyH.cons rfl (fun K hK => ?_) AllReadyH.nil)
      · go_simp
        refine hK.out _ _ ?_ (fun hHeld => ?_)
        · with_reducible assumption
        clear hK K
        try simp only [Act.put, List.setIfInBounds_toArray, List.set_cons_zero, List.set_cons_succ]
        refine wpAnyH_ready (rs := [2]) (by kernel_rfl) (by simp) ?_
        refine AllReadyH.cons rfl (fun K hK => ?_) AllReadyH.nil
        go_simp
        refine hK.out _ _ ?_ (fun hHeld => ?_)
        · exact HSS.out.1
        clear hK K
        try simp only [Act.put, List.setIfInBounds_toArray, List.set_cons_zero, List.set_cons_succ]
        refine wpAnyH_ready (rs := [11]) (by kernel_rfl) (by simp) ?_
        refine AllReadyH.cons rfl (fun K hK => ?_) AllReadyH.nil
        refine step_append_run _ rfl (.tmp 28) (.tmp 36) 26 26 rfl _ _ rfl rfl HR1.out ?_
        refine hK.out _ _ ?_ (fun hHeld => ?_)
        · exact HSS.out.2.1
        clear hK K
        try simp only [Act.put, List.setIfInBounds_toArray, List.set_cons_zero, List.set_cons_succ]
        refine wpAnyH_ready (rs := [12]) (by kernel_rfl) (by simp) ?_
        refine AllReadyH.cons rfl (fun K hK => ?_) AllReadyH.nil
        go_simp
        refine hK.out _ _ ?_ (fun hHeld => ?_)
        · exact HSS.out.2.2.1
        clear hK K
        try simp only [Act.put, List.setIfInBounds_toArray, List.set_cons_zero, List.set_cons_succ]
        refine wpAnyH_ready (rs := [13]) (by kernel_rfl) (by simp) ?_
        refine AllReadyH.cons rfl (fun K hK => ?_) AllReadyH.nil
        refine step_append_run _ rfl (.tmp 27) (.tmp 38) 38 38 rfl _ _ rfl rfl HR2.out ?_
        refine hK.out _ _ ?_ (fun hHeld => ?_)
        · exact HSS.out.2.2.2.1
        clear hK K
        try simp only [Act.put, List.setIfInBounds_toArray, List.set_cons_zero, List.set_cons_succ]
        refine heldY 14 40 ?_
        refine wpAnyH_ready (rs := [15]) (by kernel_rfl) (by simp) ?_
        refine AllReadyH.cons rfl (fun K hK => ?_) AllReadyH.nil
        go_simp
        refine hK.out _ _ ?_ (fun hHeld => ?_)
        · exact HSS.out.2.2.2.2
        clear hK K
        try simp only [Act.put, List.setIfInBounds_toArray, List.set_cons_zero, List.set_cons_succ]
        refine wpAnyH_done (by kernel_rfl) ?_ _
        go_wp2
        go_roundw
        case rel => exact ⟨k + 1, by go_num, by omega, _, _, by simp [HX.out.1], HX.out.2, HZ.out⟩
        case measure => simp [intOf]; omega
      · go_simp
        refine hK.out _ _ ?_ (fun hHeld => ?_)
        · exact HSS.out.1
        clear hK K
        try simp only [Act.put, List.setIfInBounds_toArray, List.set_cons_zero, List.set_cons_succ]
        refine wpAnyH_ready (rs := [1, 11]) (by kernel_rfl) (by simp) ?_
        refine AllReadyH.cons rfl (fun K hK => ?_) (AllReadyH.cons rfl (fun K hK => ?_) AllReadyH.nil)
        · go_simp
          refine hK.out _ _ ?_ (fun hHeld => ?_)
          · with_reducible assumption
          clear hK K
          try simp only [Act.put, List.setIfInBounds_toArray, List.set_cons_zero, List.set_cons_succ]
          refine wpAnyH_ready (rs := [11]) (by kernel_rfl) (by simp) ?_
          refine AllReadyH.cons rfl (fun K hK => ?_) AllReadyH.nil
          refine step_append_run _ rfl (.tmp 28) (.tmp 36) 26 26 rfl _ _ rfl rfl HR1.out ?_
          refine hK.out _ _ ?_ (fun hHeld => ?_)
          · exact HSS.out.2.1
          clear hK K
          try simp only [Act.put, List.setIfInBounds_toArray, List.set_cons_zero, List.set_cons_succ]
          refine wpAnyH_ready (rs := [12]) (by kernel_rfl) (by simp) ?_
          refine AllReadyH.cons rfl (fun K hK => ?_) AllReadyH.nil
          go_simp
          refine hK.out _ _ ?_ (fun hHeld => ?_)
          · exact HSS.out.2.2.1
          clear hK K
          try simp only [Act.put, List.setIfInBounds_toArray, List.set_cons_zero, List.set_cons_succ]
          refine wpAnyH_ready (rs := [13]) (by kernel_rfl) (by simp) ?_
          refine AllReadyH.cons rfl (fun K hK => ?_) AllReadyH.nil
          refine step_append_run _ rfl (.tmp 27) (.tmp 38) 38 38 rfl _ _ rfl rfl HR2.out ?_
          refine hK.out _ _ ?_ (fun hHeld => ?_)
          · exact HSS.out.2.2.2.1
          clear hK K
          try simp only [Act.put, List.setIfInBounds_toArray, List.set_cons_zero, List.set_cons_succ]
          refine heldY 14 40 ?_
          refine wpAnyH_ready (rs := [15]) (by kernel_rfl) (by simp) ?_
          refine AllReadyH.cons rfl (fun K hK => ?_) AllReadyH.nil
          go_simp
          refine hK.out _ _ ?_ (fun hHeld => ?_)
          · exact HSS.out.2.2.2.2
          clear hK K
          try simp only [Act.put, List.setIfInBounds_toArray, List.set_cons_zero, List.set_cons_succ]
          refine wpAnyH_done (by kernel_rfl) ?_ _
          go_wp2
          go_roundw
          case rel => exact ⟨k + 1, by go_num, by omega, _, _, by simp [HX.out.1], HX.out.2, HZ.out⟩
          case measure => simp [intOf]; omega
        · refine step_append_run _ rfl (.tmp 28) (.tmp 36) 26 26 rfl _ _ rfl rfl HR1.out ?_
          refine hK.out _ _ ?_ (fun hHeld => ?_)
          · exact HSS.out.2.1
          clear hK K
          try simp only [Act.put, List.setIfInBounds_toArray, List.set_cons_zero, List.set_cons_succ]
          refine wpAnyH_ready (rs := [1, 12]) (by kernel_rfl) (by simp) ?_
          refine AllReadyH.cons rfl (fun K hK => ?_) (AllReadyH.cons rfl (fun K hK => ?_) AllReadyH.nil)
          · go_simp
            refine hK.out _ _ ?_ (fun hHeld => ?_)
            · with_reducible assumption
            clear hK K
            try simp only [Act.put, List.setIfInBounds_toArray, List.set_cons_zero, List.set_cons_succ]
            refine wpAnyH_ready (rs := [12]) (by kernel_rfl) (by simp) ?_
            refine AllReadyH.cons rfl (fun K hK => ?_) AllReadyH.nil
            go_simp
            refine hK.out _ _ ?_ (fun hHeld => ?_)
            · exact HSS.out.2.2.1
            clear hK K
            try simp only [Act.put, List.setIfInBounds_toArray, List.set_cons_zero, List.set_cons_succ]
            refine wpAnyH_ready (rs := [13]) (by kernel_rfl) (by simp) ?_
            refine AllReadyH.cons rfl (fun K hK => ?_) AllReadyH.nil
            refine step_append_run _ rfl (.tmp 27) (.tmp 38) 38 38 rfl _ _ rfl rfl HR2.out ?_
            refine hK.out _ _ ?_ (fun hHeld => ?_)
            · exact HSS.out.2.2.2.1
            clear hK K
            try simp only [Act.put, List.setIfInBounds_toArray, List.set_cons_zero, List.set_cons_succ]
            refine heldY 14 40 ?_
            refine wpAnyH_ready (rs := [15]) (by kernel_rfl) (by simp) ?_
            refine AllReadyH.cons rfl (fun K hK => ?_) AllReadyH.nil
            go_simp
            refine hK.out _ _ ?_ (fun hHeld => ?_)
            · exact HSS.out.2.2.2.2
            clear hK K
            try simp only [Act.put, List.setIfInBounds_toArray, List.set_cons_zero, List.set_cons_succ]
            refine wpAnyH_done (by kernel_rfl) ?_ _
            go_wp2
            go_roundw
            case rel => exact ⟨k + 1, by go_num, by omega, _, _, by simp [HX.out.1], HX.out.2, HZ.out⟩
            case measure => simp [intOf]; omega
          · go_simp
            refine hK.out _ _ ?_ (fun hHeld => ?_)
            · exact HSS.out.2.2.1
            clear hK K
            try simp only [Act.put, List.setIfInBounds_toArray, List.set_cons_zero, List.set_cons_succ]
            refine wpAnyH_ready (rs := [1]) (by kernel_rfl) (by simp) ?_
            refine AllReadyH.cons rfl (fun K hK => ?_) AllReadyH.nil
            go_simp
            refine hK.out _ _ ?_ (fun hHeld => ?_)
            · with_reducible assumption
            clear hK K
            try simp only [Act.put, List.setIfInBounds_toArray, List.set_cons_zero, List.set_cons_succ]
            refine wpAnyH_ready (rs := [13]) (by kernel_rfl) (by simp) ?_
            refine AllReadyH.cons rfl (fun K hK => ?_) AllReadyH.nil
            refine step_append_run _ rfl (.tmp 27) (.tmp 38) 38 38 rfl _ _ rfl rfl HR2.out ?_
            refine hK.out _ _ ?_ (fun hHeld => ?_)
            · exact HSS.out.2.2.2.1
            clear hK K
            try simp only [Act.put, List.setIfInBounds_toArray, List.set_cons_zero, List.set_cons_succ]
            refine heldY 14 40 ?_
            refine wpAnyH_ready (rs := [15]) (by kernel_rfl) (by simp) ?_
            refine AllReadyH.cons rfl (fun K hK => ?_) AllReadyH.nil
            go_simp
            refine hK.out _ _ ?_ (fun hHeld => ?_)
            · exact HSS.out.2.2.2.2
            clear hK K
            try simp only [Act.put, List.setIfInBounds_toArray, List.set_cons_zero, List.set_cons_succ]
            refine wpAnyH_done (by kernel_rfl) ?_ _
            go_wp2
            go_roundw
            case rel => exact ⟨k + 1, by go_num, by omega, _, _, by simp [HX.out.1], HX.out.2, HZ.out⟩
            case measure => simp [intOf]; omega
    · obtain rfl : k = 8 := by omega
      rw [List.take_of_length_le (by rw [rowsOf_length]; exact Nat.le_refl _)] at hcs
      obtain ⟨gt, ct, rfl, _⟩ := ho.head hcl (by omega)
      have hp : ∀ l, l ∈ cs → l.xs.length ≤ 1048576 := fun l hq => by
        have := HP.out.2.2.2.1 l.xs (by rw [← hcs]; exact List.mem_map_of_mem hq)
        omega
      obtain ⟨B, hB⟩ : ∃ B, tabB (rowsOf X) = B := ⟨_, rfl⟩
      have HY := Lib.hid (And.intro hcl (And.intro hcs (And.intro ho (And.intro hv (And.intro hS (And.intro hp hB))))))
      clear hcl hcs ho hv hS hp hB b0 b1 b2 z0 z1
      go_wp2_with fail
      refine (specTabValid_val (show tabB (ll cs) = B by rw [HY.out.2.1]; exact HY.out.2.2.2.2.2.2) HY.out.1 HY.out.2.2.1.row (by omega) HY.out.2.2.2.2.2.1).mono ?_
      rintro e w3 ⟨rfl, hk3⟩
      have HF := Lib.hid (HY.out.2.2.2.2.1.keep hk3)
      have HG := Lib.hid (And.intro (HY.out.2.2.1.keep hk3) (HY.out.2.2.2.1.keep hk3))
      have v0 := HG.out.2.cell 0
      obtain ⟨⟨b0, b1, b2⟩, z0, z1⟩ := HF.out.cells
      clear hk3 r0
      cases B
      · obtain rfl : V = false := by rw [← HP.out.2.2.1, HY.out.2.2.2.2.2.2]; rfl
        obtain rfl := HP.out.2.2.2.2.1 rfl
        go_wp2
        exact bodyPost_ret (v := .tuple #[.agg #[.slice none 0 0], .bool false]) (by simp [results, Try.results105, go_sem, *]) rfl ⟨none, 0, 0, [], rfl, rfl, rfl, town_nil _ _, grown_put HF.out.2.2.2 (p := ⟨w.heap.size + 1, 0, none⟩) (by dsimp only; omega) _⟩
      · by_cases hs : S < 0
        · obtain rfl : V = false := by rw [← HP.out.2.2.1, HY.out.2.2.2.2.2.2]; simp; omega
          obtain rfl := HP.out.2.2.2.2.1 rfl
          have hs0 : decide (S < 0) = true := decide_eq_true hs
          clear hs
          go_wp2
          exact bodyPost_ret (v := .tuple #[.agg #[.slice none 0 0], .bool false]) (by simp [results, Try.results105, go_sem, *]) rfl ⟨none, 0, 0, [], rfl, rfl, rfl, town_nil _ _, grown_put HF.out.2.2.2 (p := ⟨w.heap.size + 1, 0, none⟩) (by dsimp only; omega) _⟩
        · obtain rfl : V = true := by rw [← HP.out.2.2.1, HY.out.2.2.2.2.2.2]; simp; omega
          obtain rfl := HP.out.2.2.2.2.2 rfl
          have hs0 : decide (S < 0) = false := decide_eq_false hs
          clear hs
          go_wp2
          exact bodyPost_ret (v := .tuple #[.agg #[.slice (some ⟨gt, 0, none⟩) 8 ct], .bool true]) (by simp [results, Try.results105, go_sem, *]) rfl ⟨_, 8, ct, cs, rfl, HY.out.1, HY.out.2.1, HG.out.1.put HF.out.2.1 0 _, grown_put HF.out.2.2.2 (p := ⟨w.heap.size + 1, 0, none⟩) (by dsimp only; omega) _⟩
theorem specLoad_any (N S : Int) (A : Option Addr) (m c : Nat) (X : List Int) (w : World) (hl : X.length = m) (hr : IRow w w.heap.size A X) (hm : m ≤ 1048576) (hc : m ≤ c) (hcm : c ≤ maxLen) :
    Calls Try.prog 105 #[.agg #[.int .i64 N, .slice A m c, .int .i64 S]] w (TabMade2 (loadV N X S).1 (loadV N X S).2 w) := by
  by_cases h48 : m = 48
  · subst h48
    by_cases hS : ssumV N X = S
    · cases hV : tabB (rowsOf X) && decide (0 ≤ S)
      · rw [loadV_no (by
          cases h1 : tabB (rowsOf X)
          · simp [loadB, h1]
          · rw [h1, Bool.true_and] at hV
            simp [loadB, h1, hV])]
        exact specLoad_tab N S A c X false [] w hl hr hc hcm hS hV (by simp)
      · rw [Bool.and_eq_true] at hV
        rw [loadV_yes (by simp only [loadB, hV.1, hV.2, hl, hS]; simp)]
        exact specLoad_tab N S A c X true _ w hl hr hc hcm hS (by simp only [hV.1, hV.2]; rfl) (by simp)
    · rw [loadV_no (by
        have e : (ssumV N X == S) = false := by simp; exact hS
        simp [loadB, e])]
      exact specLoad_sum N S _ A c X w hl hr rfl hS
  · rw [loadV_no (by simp [loadB]; omega)]
    exact specLoad_len N S A m c X w hl hr hm h48
theorem specLoad_val {N S : Int} {A : Option Addr} {m c : Nat} {X : List Int} {T : List (List Int)} {ok : Bool} {w : World} (hV : loadV N X S = (T, ok)) (hl : X.length = m) (hr : IRow w w.heap.size A X) (hm : m ≤ 1048576) (hc : m ≤ c) (hcm : c ≤ maxLen) :
    Calls Try.prog 105 #[.agg #[.int .i64 N, .slice A m c, .int .i64 S]] w (TabMade2 T ok w) := by
  have h := specLoad_any N S A m c X w hl hr hm hc hcm
  rw [hV] at h
  exact h
end Go.Proofs.Yteniikfgellhfaa
namespace Go.Proofs.Yteniikfgellhfaa
open Go.ChangeShapes Go.WideShapes Go.ChangeAt Go.RowKit
set_option linter.unusedSimpArgs false
set_option linter.unusedVariables false

/-- Which of two answers of LoadTable, with their numbers, is taken. -/
def pickT (T1 : List (List Int)) (o1 : Bool) (N1 : Int) (T2 : List (List Int)) (o2 : Bool) (N2 : Int) : List (List Int) × Int × Bool :=
  if o1 && (!o2 || decide (N2 ≤ N1)) then (T1, N1, true) else if o2 then (T2, N2, true) else ([], -1, false)
/-- What NewerSave answers. -/
def newV (N : Int) (X : List Int) (S N' : Int) (X' : List Int) (S' : Int) : List (List Int) × Int × Bool := pickT (loadV N X S).1 (loadV N X S).2 N (loadV N' X' S').1 (loadV N' X' S').2 N'
/-- A table in memory of its own, a number, and whether there is one. -/
def NewMade (T : List (List Int)) (M : Int) (ok : Bool) (w : World) (e : Ending) (w' : World) : Prop :=
  ∃ (A : Option Addr) (n c : Nat) (cs : List Li), e = .returned (.tuple #[.agg #[.slice A n c], .int .i64 M, .bool ok]) ∧ cs.length = n ∧ ll cs = T ∧ TOwn w' w.heap.size (.slice A n c) cs ∧ w.grownBy w' none
/-- Two boxed saves, a table's variable, and the saves' numbers. -/
def SIn2 (w : World) (N S : Int) (A : Option Addr) (m c : Nat) (X : List Int) (N' S' : Int) (A' : Option Addr) (m' c' : Nat) (X' : List Int) (wr : World) : Prop :=
  Blk wr w.heap.size 49 #[.int .i64 N, .slice A m c, .int .i64 S] ∧ Blk wr (w.heap.size + 1) 49 #[.int .i64 N', .slice A' m' c', .int .i64 S'] ∧ Blk wr (w.heap.size + 1 + 1) 40 #[.slice none 0 0] ∧ IRow wr w.heap.size A X ∧ IRow wr w.heap.size A' X' ∧ w.grownBy wr none
section
variable {w wr w' : World} {N S N' S' : Int} {A A' : Option Addr} {m c m' c' : Nat} {X X' : List Int}
theorem SIn2.start (hr : IRow w w.heap.size A X) (hr' : IRow w w.heap.size A' X') (N S N' S' : Int) (m c m' c' : Nat) : SIn2 w N S A m c X N' S' A' m' c' X'
    (((w.alloc (.cells #[.int .i64 N, .slice A m c, .int .i64 S] 49)).alloc (.cells #[.int .i64 N', .slice A' m' c', .int .i64 S'] 49)).alloc (.cells #[.slice none 0 0] 40)) := by
  refine ⟨((Blk.new w _ _).alloc _).alloc _, ?_, ?_, VRow.alloc (VRow.alloc (VRow.alloc hr _) _) _, VRow.alloc (VRow.alloc (VRow.alloc hr' _) _) _, grown_alloc (grown_alloc (grown_alloc (grown_refl _ _) _) _) _⟩
  · have H := (Blk.new (w.alloc (.cells #[.int .i64 N, .slice A m c, .int .i64 S] 49)) 49 #[.int .i64 N', .slice A' m' c', .int .i64 S']).alloc (.cells #[.slice none 0 0] 40)
    simpa only [size_alloc1] using H
  · have H := Blk.new ((w.alloc (.cells #[.int .i64 N, .slice A m c, .int .i64 S] 49)).alloc (.cells #[.int .i64 N', .slice A' m' c', .int .i64 S'] 49)) 40 #[.slice none 0 0]
    simpa only [size_alloc1] using H
theorem SIn2.keep (H : SIn2 w N S A m c X N' S' A' m' c' X' wr) (k : wr.grownBy w' none) : SIn2 w N S A m c X N' S' A' m' c' X' w' :=
  ⟨H.1.keep k, H.2.1.keep k, H.2.2.1.keep k, VRow.kept H.2.2.2.1 k, VRow.kept H.2.2.2.2.1 k, grown_trans H.2.2.2.2.2 k⟩
theorem SIn2.drew (H : SIn2 w N S A m c X N' S' A' m' c' X' wr) : SIn2 w N S A m c X N' S' A' m' c' X' wr.drew := H.keep (grown_drew (grown_refl _ _))
end
theorem pick_no (T1 T2 : List (List Int)) (N1 N2 : Int) : pickT T1 false N1 T2 false N2 = ([], -1, false) := rfl
theorem pick_one (T1 T2 : List (List Int)) (N1 N2 : Int) : pickT T1 true N1 T2 false N2 = (T1, N1, true) := rfl
theorem pick_two (T1 T2 : List (List Int)) (N1 N2 : Int) : pickT T1 false N1 T2 true N2 = (T2, N2, true) := rfl
theorem pick_first {N1 N2 : Int} (T1 T2 : List (List Int)) (h : N2 ≤ N1) : pickT T1 true N1 T2 true N2 = (T1, N1, true) := by simp [pickT, h]
theorem pick_second {N1 N2 : Int} (T1 T2 : List (List Int)) (h : ¬ N2 ≤ N1) : pickT T1 true N1 T2 true N2 = (T2, N2, true) := by simp [pickT, h]
set_option maxHeartbeats 2000000 in
theorem newer_any (N S : Int) (A : Option Addr) (m c : Nat) (X : List Int) (N' S' : Int) (A' : Option Addr) (m' c' : Nat) (X' : List Int) (w : World) (hl : X.length = m) (hr : IRow w w.heap.size A X) (hm : m ≤ 1048576) (hl' : X'.length = m') (hr' : IRow w w.heap.size A' X') (hm' : m' ≤ 1048576) :
    Calls Try.prog 72 #[.agg #[.int .i64 N, .slice A m c, .int .i64 S], .agg #[.int .i64 N', .slice A' m' c', .int .i64 S']] w (NewMade (newV N X S N' X' S').1 (newV N X S N' X' S').2.1 (newV N X S N' X' S').2.2 w) := by
  unfold newV
  obtain ⟨T1, o1, h1⟩ : ∃ T o, loadV N X S = (T, o) := ⟨_, _, rfl⟩
  obtain ⟨T2, o2, h2⟩ : ∃ T o, loadV N' X' S' = (T, o) := ⟨_, _, rfl⟩
  rw [h1, h2]
  dsimp only
  obtain ⟨TR, M, ok, hR⟩ : ∃ T M o, pickT T1 o1 N T2 o2 N' = (T, M, o) := ⟨_, _, _, rfl⟩
  rw [hR]
  dsimp only
  have HT := Lib.hid (SIn2.start hr hr' N S N' S' m c m' c')
  have HP := Lib.hid (And.intro h1 (And.intro hl (And.intro hm (And.intro h2 (And.intro hl' hm')))))
  have HR := Lib.hid hR
  obtain ⟨b0, b1, b2⟩ := HT.out.1.cells3.1
  clear hl hr hm hl' hr' hm' h1 h2 hR
  go_enter Try.func72, Try.ntmps72
  go_wp2_with fail
  refine (load_val HP.out.1 HP.out.2.1 (VRow.here HT.out.2.2.2.1) HP.out.2.2.1).mono ?_
  rintro e w1 ⟨A1, n1, c1, cs1, rfl, hl1, hs1, ho1, hk⟩
  have K1 : w1.grownBy (w1.alloc (.cells #[.slice A1 n1 c1] 40)) none := grown_alloc (grown_refl _ _) _
  have HK := Lib.hid ((HT.out.keep hk).keep K1)
  have HO := Lib.hid (And.intro hl1 (And.intro hs1 (And.intro ((ho1.keep K1).base_le HT.out.2.2.2.2.2.size) (Blk.new w1 40 #[.slice A1 n1 c1]))))
  clear hk hl1 hs1 ho1 K1 b0 b1 b2
  obtain ⟨b0, b1, b2⟩ := HK.out.2.1.cells3.1
  go_wp2_with fail
  refine (load_val HP.out.2.2.2.1 HP.out.2.2.2.2.1 (VRow.here HK.out.2.2.2.2.1) HP.out.2.2.2.2.2).mono ?_
  rintro e w2 ⟨A2, n2, c2, cs2, rfl, hl2, hs2, ho2, hk⟩
  have K2 : w2.grownBy (w2.alloc (.cells #[.slice A2 n2 c2] 40)) none := grown_alloc (grown_refl _ _) _
  have HQ := Lib.hid (And.intro ((HO.out.2.2.2.keep hk).keep K2) (Blk.new w2 40 #[.slice A2 n2 c2]))
  have HN := Lib.hid (And.intro ((HK.out.keep hk).keep K2) (And.intro (And.intro HO.out.1 (And.intro HO.out.2.1 ((HO.out.2.2.1.keep hk).keep K2))) (And.intro hl2 (And.intro hs2 ((ho2.keep K2).base_le HK.out.2.2.2.2.2.size)))))
  clear hk hl2 hs2 ho2 K2 b0 b1 b2
  obtain ⟨p0, p1, p2⟩ := HN.out.1.1.cells3.1
  obtain ⟨q0, q1, q2⟩ := HN.out.1.2.1.cells3.1
  have v0 := HQ.out.1.cell 0
  have v1 := HQ.out.2.cell 0
  have z0 := HN.out.1.2.2.1.cell 0
  have z1 := HN.out.1.2.2.1.frozen 0
  cases o1 <;> cases o2
  · obtain ⟨rfl, rfl, rfl⟩ : [] = TR ∧ -1 = M ∧ false = ok := by simpa [pick_no] using HR.out
    go_wp2
    exact bodyPost_ret (v := .tuple #[.agg #[.slice none 0 0], .int .i64 (-1), .bool false]) (by simp [results, Try.results72, go_sem, *]) rfl ⟨none, 0, 0, [], rfl, rfl, rfl, town_nil _ _, grown_put HN.out.1.2.2.2.2.2 (p := ⟨w.heap.size + 1 + 1, 0, none⟩) (by dsimp only; omega) _⟩
  · obtain ⟨rfl, rfl, rfl⟩ : T2 = TR ∧ N' = M ∧ true = ok := by simpa [pick_two] using HR.out
    go_wp2_with fail
    go_region
    go_wp2
    exact bodyPost_ret (v := .tuple #[.agg #[.slice A2 n2 c2], .int .i64 N', .bool true]) (by simp [results, Try.results72, go_sem, *]) rfl ⟨_, _, _, _, rfl, HN.out.2.2.1, HN.out.2.2.2.1, HN.out.2.2.2.2.put HN.out.1.2.2.1 0 _, grown_drew (grown_put HN.out.1.2.2.2.2.2 (p := ⟨w.heap.size + 1 + 1, 0, none⟩) (by dsimp only; omega) _)⟩
  · obtain ⟨rfl, rfl, rfl⟩ : T1 = TR ∧ N = M ∧ true = ok := by simpa [pick_one] using HR.out
    go_wp2_with fail
    go_region
    go_wp2
    exact bodyPost_ret (v := .tuple #[.agg #[.slice A1 n1 c1], .int .i64 N, .bool true]) (by simp [results, Try.results72, go_sem, *]) rfl ⟨_, _, _, _, rfl, HN.out.2.1.1, HN.out.2.1.2.1, HN.out.2.1.2.2.put HN.out.1.2.2.1 0 _, grown_drew (grown_put HN.out.1.2.2.2.2.2 (p := ⟨w.heap.size + 1 + 1, 0, none⟩) (by dsimp only; omega) _)⟩
  · by_cases hN : N' ≤ N
    · obtain ⟨rfl, rfl, rfl⟩ : T1 = TR ∧ N = M ∧ true = ok := by simpa [pick_first _ _ hN] using HR.out
      have t1 : decide (N' ≤ N) = true := decide_eq_true hN
      have t2 : decide (N < N') = false := decide_eq_false (by omega)
      clear hN
      go_wp2_with fail
      go_region
      go_wp2
      exact bodyPost_ret (v := .tuple #[.agg #[.slice A1 n1 c1], .int .i64 N, .bool true]) (by simp [results, Try.results72, go_sem, *]) rfl ⟨_, _, _, _, rfl, HN.out.2.1.1, HN.out.2.1.2.1, HN.out.2.1.2.2.put HN.out.1.2.2.1 0 _, grown_drew (grown_put HN.out.1.2.2.2.2.2 (p := ⟨w.heap.size + 1 + 1, 0, none⟩) (by dsimp only; omega) _)⟩
    · obtain ⟨rfl, rfl, rfl⟩ : T2 = TR ∧ N' = M ∧ true = ok := by simpa [pick_second _ _ hN] using HR.out
      have t1 : decide (N' ≤ N) = false := decide_eq_false hN
      have t2 : decide (N < N') = true := decide_eq_true (by omega)
      clear hN
      go_wp2_with fail
      go_region
      go_wp2
      exact bodyPost_ret (v := .tuple #[.agg #[.slice A2 n2 c2], .int .i64 N', .bool true]) (by simp [results, Try.results72, go_sem, *]) rfl ⟨_, _, _, _, rfl, HN.out.2.2.1, HN.out.2.2.2.1, HN.out.2.2.2.2.put HN.out.1.2.2.1 0 _, grown_drew (grown_put HN.out.1.2.2.2.2.2 (p := ⟨w.heap.size + 1 + 1, 0, none⟩) (by dsimp only; omega) _)⟩
theorem newer_val {N S : Int} {A : Option Addr} {m c : Nat} {X : List Int} {N' S' : Int} {A' : Option Addr} {m' c' : Nat} {X' : List Int} {T : List (List Int)} {M : Int} {ok : Bool} {w : World} (hV : newV N X S N' X' S' = (T, M, ok)) (hl : X.length = m) (hr : IRow w w.heap.size A X) (hm : m ≤ 1048576) (hl' : X'.length = m') (hr' : IRow w w.heap.size A' X') (hm' : m' ≤ 1048576) :
    Calls Try.prog 72 #[.agg #[.int .i64 N, .slice A m c, .int .i64 S], .agg #[.int .i64 N', .slice A' m' c', .int .i64 S']] w (NewMade T M ok w) := by
  have h := newer_any N S A m c X N' S' A' m' c' X' w hl hr hm hl' hr' hm'
  rw [hV] at h
  exact h
set_option maxHeartbeats 2000000 in
theorem specNewer_any (N S : Int) (A : Option Addr) (m c : Nat) (X : List Int) (N' S' : Int) (A' : Option Addr) (m' c' : Nat) (X' : List Int) (w : World) (hl : X.length = m) (hr : IRow w w.heap.size A X) (hm : m ≤ 1048576) (hl' : X'.length = m') (hr' : IRow w w.heap.size A' X') (hm' : m' ≤ 1048576) (hc : m ≤ c) (hcm : c ≤ maxLen) (hc' : m' ≤ c') (hcm' : c' ≤ maxLen) :
    Calls Try.prog 73 #[.agg #[.int .i64 N, .slice A m c, .int .i64 S], .agg #[.int .i64 N', .slice A' m' c', .int .i64 S']] w (NewMade (newV N X S N' X' S').1 (newV N X S N' X' S').2.1 (newV N X S N' X' S').2.2 w) := by
  unfold newV
  obtain ⟨T1, o1, h1⟩ : ∃ T o, loadV N X S = (T, o) := ⟨_, _, rfl⟩
  obtain ⟨T2, o2, h2⟩ : ∃ T o, loadV N' X' S' = (T, o) := ⟨_, _, rfl⟩
  rw [h1, h2]
  dsimp only
  obtain ⟨TR, M, ok, hR⟩ : ∃ T M o, pickT T1 o1 N T2 o2 N' = (T, M, o) := ⟨_, _, _, rfl⟩
  rw [hR]
  dsimp only
  have HT := Lib.hid (SIn2.start hr hr' N S N' S' m c m' c')
  have HP := Lib.hid (And.intro h1 (And.intro hl (And.intro hm (And.intro h2 (And.intro hl' (And.intro hm' (And.intro hc (And.intro hcm (And.intro hc' hcm')))))))))
  have HR := Lib.hid hR
  obtain ⟨b0, b1, b2⟩ := HT.out.1.cells3.1
  clear hl hr hm hl' hr' hm' h1 h2 hR hc hcm hc' hcm'
  go_enter Try.func73, Try.ntmps73
  go_wp2_with fail
  refine (specLoad_val HP.out.1 HP.out.2.1 (VRow.here HT.out.2.2.2.1) HP.out.2.2.1 HP.out.2.2.2.2.2.2.1 HP.out.2.2.2.2.2.2.2.1).mono ?_
  rintro e w1 ⟨A1, n1, c1, cs1, rfl, hl1, hs1, ho1, hk⟩
  have K1 : w1.grownBy (w1.alloc (.cells #[.slice A1 n1 c1] 40)) none := grown_alloc (grown_refl _ _) _
  have HK := Lib.hid ((HT.out.keep hk).keep K1)
  have HO := Lib.hid (And.intro hl1 (And.intro hs1 (And.intro ((ho1.keep K1).base_le HT.out.2.2.2.2.2.size) (Blk.new w1 40 #[.slice A1 n1 c1]))))
  clear hk hl1 hs1 ho1 K1 b0 b1 b2
  obtain ⟨b0, b1, b2⟩ := HK.out.2.1.cells3.1
  go_wp2_with fail
  refine (specLoad_val HP.out.2.2.2.1 HP.out.2.2.2.2.1 (VRow.here HK.out.2.2.2.2.1) HP.out.2.2.2.2.2.1 HP.out.2.2.2.2.2.2.2.2.1 HP.out.2.2.2.2.2.2.2.2.2).mono ?_
  rintro e w2 ⟨A2, n2, c2, cs2, rfl, hl2, hs2, ho2, hk⟩
  have K2 : w2.grownBy (w2.alloc (.cells #[.slice A2 n2 c2] 40)) none := grown_alloc (grown_refl _ _) _
  have HQ := Lib.hid (And.intro ((HO.out.2.2.2.keep hk).keep K2) (Blk.new w2 40 #[.slice A2 n2 c2]))
  have HN := Lib.hid (And.intro ((HK.out.keep hk).keep K2) (And.intro (And.intro HO.out.1 (And.intro HO.out.2.1 ((HO.out.2.2.1.keep hk).keep K2))) (And.intro hl2 (And.intro hs2 ((ho2.keep K2).base_le HK.out.2.2.2.2.2.size)))))
  clear hk hl2 hs2 ho2 K2 b0 b1 b2
  obtain ⟨p0, p1, p2⟩ := HN.out.1.1.cells3.1
  obtain ⟨q0, q1, q2⟩ := HN.out.1.2.1.cells3.1
  have v0 := HQ.out.1.cell 0
  have v1 := HQ.out.2.cell 0
  have z0 := HN.out.1.2.2.1.cell 0
  have z1 := HN.out.1.2.2.1.frozen 0
  cases o1 <;> cases o2
  · obtain ⟨rfl, rfl, rfl⟩ : [] = TR ∧ -1 = M ∧ false = ok := by simpa [pick_no] using HR.out
    go_wp2
    exact bodyPost_ret (v := .tuple #[.agg #[.slice none 0 0], .int .i64 (-1), .bool false]) (by simp [results, Try.results73, go_sem, *]) rfl ⟨none, 0, 0, [], rfl, rfl, rfl, town_nil _ _, grown_put HN.out.1.2.2.2.2.2 (p := ⟨w.heap.size + 1 + 1, 0, none⟩) (by dsimp only; omega) _⟩
  · obtain ⟨rfl, rfl, rfl⟩ : T2 = TR ∧ N' = M ∧ true = ok := by simpa [pick_two] using HR.out
    go_wp2_with fail
    go_region
    go_wp2
    exact bodyPost_ret (v := .tuple #[.agg #[.slice A2 n2 c2], .int .i64 N', .bool true]) (by simp [results, Try.results73, go_sem, *]) rfl ⟨_, _, _, _, rfl, HN.out.2.2.1, HN.out.2.2.2.1, HN.out.2.2.2.2.put HN.out.1.2.2.1 0 _, grown_drew (grown_put HN.out.1.2.2.2.2.2 (p := ⟨w.heap.size + 1 + 1, 0, none⟩) (by dsimp only; omega) _)⟩
  · obtain ⟨rfl, rfl, rfl⟩ : T1 = TR ∧ N = M ∧ true = ok := by simpa [pick_one] using HR.out
    go_wp2_with fail
    go_region
    go_wp2
    exact bodyPost_ret (v := .tuple #[.agg #[.slice A1 n1 c1], .int .i64 N, .bool true]) (by simp [results, Try.results73, go_sem, *]) rfl ⟨_, _, _, _, rfl, HN.out.2.1.1, HN.out.2.1.2.1, HN.out.2.1.2.2.put HN.out.1.2.2.1 0 _, grown_drew (grown_put HN.out.1.2.2.2.2.2 (p := ⟨w.heap.size + 1 + 1, 0, none⟩) (by dsimp only; omega) _)⟩
  · by_cases hN : N' ≤ N
    · obtain ⟨rfl, rfl, rfl⟩ : T1 = TR ∧ N = M ∧ true = ok := by simpa [pick_first _ _ hN] using HR.out
      have t1 : decide (N' ≤ N) = true := decide_eq_true hN
      have t2 : decide (N < N') = false := decide_eq_false (by omega)
      clear hN
      go_wp2_with fail
      go_region
      go_wp2
      exact bodyPost_ret (v := .tuple #[.agg #[.slice A1 n1 c1], .int .i64 N, .bool true]) (by simp [results, Try.results73, go_sem, *]) rfl ⟨_, _, _, _, rfl, HN.out.2.1.1, HN.out.2.1.2.1, HN.out.2.1.2.2.put HN.out.1.2.2.1 0 _, grown_drew (grown_put HN.out.1.2.2.2.2.2 (p := ⟨w.heap.size + 1 + 1, 0, none⟩) (by dsimp only; omega) _)⟩
    · obtain ⟨rfl, rfl, rfl⟩ : T2 = TR ∧ N' = M ∧ true = ok := by simpa [pick_second _ _ hN] using HR.out
      have t1 : decide (N' ≤ N) = false := decide_eq_false hN
      have t2 : decide (N < N') = true := decide_eq_true (by omega)
      clear hN
      go_wp2_with fail
      go_region
      go_wp2
      exact bodyPost_ret (v := .tuple #[.agg #[.slice A2 n2 c2], .int .i64 N', .bool true]) (by simp [results, Try.results73, go_sem, *]) rfl ⟨_, _, _, _, rfl, HN.out.2.2.1, HN.out.2.2.2.1, HN.out.2.2.2.2.put HN.out.1.2.2.1 0 _, grown_drew (grown_put HN.out.1.2.2.2.2.2 (p := ⟨w.heap.size + 1 + 1, 0, none⟩) (by dsimp only; omega) _)⟩
theorem specNewer_val {N S : Int} {A : Option Addr} {m c : Nat} {X : List Int} {N' S' : Int} {A' : Option Addr} {m' c' : Nat} {X' : List Int} {T : List (List Int)} {M : Int} {ok : Bool} {w : World} (hV : newV N X S N' X' S' = (T, M, ok)) (hl : X.length = m) (hr : IRow w w.heap.size A X) (hm : m ≤ 1048576) (hl' : X'.length = m') (hr' : IRow w w.heap.size A' X') (hm' : m' ≤ 1048576) (hc : m ≤ c) (hcm : c ≤ maxLen) (hc' : m' ≤ c') (hcm' : c' ≤ maxLen) :
    Calls Try.prog 73 #[.agg #[.int .i64 N, .slice A m c, .int .i64 S], .agg #[.int .i64 N', .slice A' m' c', .int .i64 S']] w (NewMade T M ok w) := by
  have h := specNewer_any N S A m c X N' S' A' m' c' X' w hl hr hm hl' hr' hm' hc hcm hc' hcm'
  rw [hV] at h
  exact h
end Go.Proofs.Yteniikfgellhfaa
