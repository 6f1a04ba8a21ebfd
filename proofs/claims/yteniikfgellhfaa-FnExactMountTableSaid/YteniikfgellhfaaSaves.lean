/- What SaveSum answers: the program's and the model's. -/
import Derived.Test.YteniikfgellhfaaSavePlain
import Derived.Test.YteniikfgellhfaaTables7
import Derived.BigQuiet
namespace Go.Proofs.Yteniikfgellhfaa
open Go.ChangeShapes Go.WideShapes Go.ChangeAt Go.RowKit
set_option linter.unusedVariables false

theorem ssum_num {n : Int} {X : List Int} (h : inB n 0 1000000 = false) : ssumV n X = -1 := ssum_no (by simp [sumOk, h])
theorem ssum_long {n : Int} {X : List Int} (h : 48 < X.length) : ssumV n X = -1 := ssum_no (by
  have e : decide (X.length ≤ 48) = false := decide_eq_false (by omega)
  simp [sumOk, e])
theorem ssum_bad {n : Int} {X : List Int} {i : Nat} {x : Int} (h : X[i]? = some x) (hx : inB x (-1) 47 = false) : ssumV n X = -1 := ssum_no (by
  have e : (X.all fun x => inB x (-1) 47) = false := by
    rw [List.all_eq_false]
    exact ⟨x, List.mem_of_getElem? h, by simp [hx]⟩
  simp [sumOk, e])
theorem ssum_all {n : Int} {X : List Int} (hn : inB n 0 1000000 = true) (hl : X.length ≤ 48) (h : ∀ j x, j < X.length → X[j]? = some x → inB x (-1) 47 = true) : ssumV n X = sumTo n X := ssum_of (sumOk_of hn hl fun x hx => by
  obtain ⟨j, hj⟩ := List.getElem?_of_mem hx
  exact h j x (List.getElem?_eq_some_iff.1 hj).1 hj)
theorem saveNum_any (n : Int) (w : World) : Calls Try.prog 133 #[.int .i64 n] w fun e w' => e = .returned (.bool (inB n 0 1000000)) ∧ w = w' := by
  go_enter Try.func133, Try.ntmps133
  go_wp2
  all_goals (go_ret; refine ⟨retB ?_, rfl⟩; rw [Bool.eq_iff_iff]; simp [inB]; omega)
theorem saveNum_val {n : Int} {V : Bool} (h : inB n 0 1000000 = V) (w : World) : Calls Try.prog 133 #[.int .i64 n] w fun e w' => e = .returned (.bool V) ∧ w = w' := h ▸ saveNum_any n w
theorem page_val {x : Int} {V : Bool} (h : inB x (-1) 47 = V) (w : World) : Calls Try.prog 102 #[.int .i64 x] w fun e w' => e = .returned (.bool V) ∧ w = w' := h ▸ isPage_any x w
theorem rem_sum {s x : Int} (h0 : 0 ≤ s) (hx : -1 ≤ x) : (127 * s + x + 2).tmod 99991 = sumS s x := by
  rw [Int.tmod_eq_emod_of_nonneg (by omega)]; rfl
theorem saveSum_same (n : Int) (A : Option Addr) (m c : Nat) (xs : List Int) (w : World) (hl : xs.length = m) (hr : IRow w w.heap.size A xs) (hm : m ≤ 1048576) :
    Calls Try.prog 127 #[.int .i64 n, .slice A m c] w fun e w' => e = .returned (.int .i64 (ssumV n xs)) ∧ w' = w := by
  cases hn : inB n 0 1000000
  · have HB := Lib.hid (And.intro hn (ssum_num (X := xs) hn))
    clear hl hr hn
    go_enter Try.func127, Try.ntmps127
    go_wp2_with (go_at_call 133; refine (saveNum_val HB.out.1 _).mono ?_; rintro e w' ⟨rfl, rfl⟩)
    go_ret
    exact ⟨retI HB.out.2.symm, by trivial⟩
  · by_cases h48 : 48 < m
    · have HB := Lib.hid (And.intro hn (ssum_long (n := n) (X := xs) (by omega)))
      have t1 : decide ((48 : Int) < (m : Int)) = true := decide_eq_true (by omega)
      clear hl hr hn
      go_enter Try.func127, Try.ntmps127
      go_wp2_with (go_at_call 133; refine (saveNum_val HB.out.1 _).mono ?_; rintro e w' ⟨rfl, rfl⟩)
      go_ret
      exact ⟨retI HB.out.2.symm, by trivial⟩
    · have HR := Lib.hid (And.intro hl (And.intro hr hn))
      have t1 : decide ((48 : Int) < (m : Int)) = false := decide_eq_false (by omega)
      have hn0 := (inB_iff.1 hn).1
      have hn1 := (inB_iff.1 hn).2
      clear hl hr hn
      go_enter Try.func127, Try.ntmps127
      go_wp2_with (go_at_call 133; refine (saveNum_val HR.out.2.2 _).mono ?_; rintro e w' ⟨rfl, rfl⟩)
      go_loopw [5, 7, 20] (fun s y i wr => ∃ k : Nat, i = .int .i64 k ∧ k ≤ m ∧ (∀ j x, j < k → xs[j]? = some x → inB x (-1) 47 = true) ∧ s = .int .i64 (sumTo n (xs.take k)) ∧ wr = w) (fun s y i _ => m - (intOf i).toNat)
      case atStart => exact ⟨0, rfl, Nat.zero_le _, fun j x hj => absurd hj (by omega), by go_num, by trivial⟩
      case round =>
        obtain ⟨k, rfl, hk, hj, rfl, rfl⟩ := hrel
        have HN := Lib.hid (And.intro hn0 hn1)
        clear hn0 hn1
        by_cases hlt : k < m
        · have hk8 : (k : Int) < m := by omega
          have hk0 : decide ((0 : Int) ≤ k) = true := decide_eq_true (by omega)
          obtain ⟨g, off, rfl⟩ := HR.out.2.1.pos (by have := HR.out.1; omega)
          obtain ⟨x, hx⟩ : ∃ x, xs[k]? = some x := ⟨_, List.getElem?_eq_getElem (by have := HR.out.1; omega)⟩
          have c0 := IRow.cellf HR.out.2.1 hx
          cases hin : inB x (-1) 47
          · have HE := Lib.hid (And.intro hin (ssum_bad (n := n) hx hin))
            clear hx hin hj
            go_wp2_with (go_at_call 102; refine (page_val HE.out.1 _).mono ?_; rintro e w' ⟨rfl, rfl⟩)
            go_ret
            exact ⟨retI HE.out.2.symm, by trivial⟩
          · have hb := sum_in n (xs.take k)
            have hxb := inB_iff.1 hin
            have HE := Lib.hid (And.intro hin (And.intro (sum_take (n := n) hx) (And.intro hj hx)))
            clear hx hin hj
            generalize sumTo n (xs.take k) = s at hb HE
            obtain ⟨hb0, hb1⟩ := hb
            obtain ⟨hx0, hx1⟩ := hxb
            go_wp2_with (go_at_call 102; refine (page_val HE.out.1 _).mono ?_; rintro e w' ⟨rfl, rfl⟩)
            go_roundw
            case rel =>
              refine ⟨k + 1, by go_num, by omega, fun j y hj hy => ?_, ?_, by trivial⟩
              · rcases Nat.lt_or_ge j k with h1 | h1
                · exact HE.out.2.2.1 j y h1 hy
                · obtain rfl : j = k := by omega
                  have e := HE.out.2.2.2.symm.trans hy
                  injection e with e
                  subst e
                  exact HE.out.1
              · rw [HE.out.2.1]; first | rfl | (go_num; rfl)
            case measure => simp [intOf]; omega
        · obtain rfl : k = m := by omega
          have HE : RowKit.Hid (sumTo n (xs.take k) = ssumV n xs) := Lib.hid (by
            rw [List.take_of_length_le (by have := HR.out.1; omega)]
            exact (ssum_all HR.out.2.2 (by have := HR.out.1; omega) fun j x hj' => hj j x (by have := HR.out.1; omega)).symm)
          clear hj
          go_wp2
          go_ret
          exact ⟨retI HE.out, by trivial⟩
theorem saveSum_val {n V : Int} {A : Option Addr} {m c : Nat} {xs : List Int} {w : World} (hV : ssumV n xs = V) (hl : xs.length = m) (hr : IRow w w.heap.size A xs) (hm : m ≤ 1048576) :
    Calls Try.prog 127 #[.int .i64 n, .slice A m c] w fun e w' => e = .returned (.int .i64 V) ∧ w' = w := hV ▸ saveSum_same n A m c xs w hl hr hm
theorem specSum_same (n : Int) (A : Option Addr) (m c : Nat) (xs : List Int) (w : World) (hl : xs.length = m) (hr : IRow w w.heap.size A xs) (hm : m ≤ 1048576) :
    Calls Try.prog 126 #[.int .i64 n, .slice A m c] w fun e w' => e = .returned (.int .i64 (ssumV n xs)) ∧ w' = w := by
  cases hn : inB n 0 1000000
  · have HB := Lib.hid (And.intro hn (ssum_num (X := xs) hn))
    clear hl hr hn
    go_enter Try.func126, Try.ntmps126
    go_wp2_with (go_at_call 95; refine (in_val HB.out.1 _).mono ?_; rintro e w' ⟨rfl, rfl⟩)
    go_ret
    exact ⟨retI HB.out.2.symm, by trivial⟩
  · by_cases h48 : 48 < m
    · have HB := Lib.hid (And.intro hn (ssum_long (n := n) (X := xs) (by omega)))
      have t1 : decide ((48 : Int) < (m : Int)) = true := decide_eq_true (by omega)
      clear hl hr hn
      go_enter Try.func126, Try.ntmps126
      go_wp2_with (go_at_call 95; refine (in_val HB.out.1 _).mono ?_; rintro e w' ⟨rfl, rfl⟩)
      go_ret
      exact ⟨retI HB.out.2.symm, by trivial⟩
    · have HR := Lib.hid (And.intro hl (And.intro hr hn))
      have t1 : decide ((48 : Int) < (m : Int)) = false := decide_eq_false (by omega)
      have hn0 := (inB_iff.1 hn).1
      have hn1 := (inB_iff.1 hn).2
      clear hl hr hn
      go_enter Try.func126, Try.ntmps126
      go_wp2_with (go_at_call 95; refine (in_val HR.out.2.2 _).mono ?_; rintro e w' ⟨rfl, rfl⟩)
      go_loopw [5, 6] (fun s i wr => ∃ k : Nat, i = .int .i64 k ∧ k ≤ m ∧ (∀ j x, j < k → xs[j]? = some x → inB x (-1) 47 = true) ∧ s = .int .i64 (sumTo n (xs.take k)) ∧ wr = w) (fun s i _ => m - (intOf i).toNat)
      case atStart => exact ⟨0, rfl, Nat.zero_le _, fun j x hj => absurd hj (by omega), by go_num, by trivial⟩
      case round =>
        obtain ⟨k, rfl, hk, hj, rfl, rfl⟩ := hrel
        have HN := Lib.hid (And.intro hn0 hn1)
        clear hn0 hn1
        by_cases hlt : k < m
        · have hk8 : (k : Int) < m := by omega
          have hk0 : decide ((0 : Int) ≤ k) = true := decide_eq_true (by omega)
          obtain ⟨g, off, rfl⟩ := HR.out.2.1.pos (by have := HR.out.1; omega)
          obtain ⟨x, hx⟩ : ∃ x, xs[k]? = some x := ⟨_, List.getElem?_eq_getElem (by have := HR.out.1; omega)⟩
          have c0 := IRow.cellf HR.out.2.1 hx
          cases hin : inB x (-1) 47
          · have HE := Lib.hid (And.intro hin (ssum_bad (n := n) hx hin))
            clear hx hin hj
            go_wp2_with (go_at_call 95; refine (in_val HE.out.1 _).mono ?_; rintro e w' ⟨rfl, rfl⟩)
            go_ret
            exact ⟨retI HE.out.2.symm, by trivial⟩
          · have hb := sum_in n (xs.take k)
            have hxb := inB_iff.1 hin
            have HE := Lib.hid (And.intro hin (And.intro (sum_take (n := n) hx) (And.intro hj hx)))
            clear hx hin hj
            generalize sumTo n (xs.take k) = s at hb HE
            obtain ⟨hb0, hb1⟩ := hb
            obtain ⟨hx0, hx1⟩ := hxb
            go_wp2_with (go_at_call 95; refine (in_val HE.out.1 _).mono ?_; rintro e w' ⟨rfl, rfl⟩)
            go_roundw
            case rel =>
              refine ⟨k + 1, by go_num, by omega, fun j y hj hy => ?_, ?_, by trivial⟩
              · rcases Nat.lt_or_ge j k with h1 | h1
                · exact HE.out.2.2.1 j y h1 hy
                · obtain rfl : j = k := by omega
                  have e := HE.out.2.2.2.symm.trans hy
                  injection e with e
                  subst e
                  exact HE.out.1
              · rw [HE.out.2.1]; first | rfl | (go_num; rfl)
            case measure => simp [intOf]; omega
        · obtain rfl : k = m := by omega
          have HE : RowKit.Hid (sumTo n (xs.take k) = ssumV n xs) := Lib.hid (by
            rw [List.take_of_length_le (by have := HR.out.1; omega)]
            exact (ssum_all HR.out.2.2 (by have := HR.out.1; omega) fun j x hj' => hj j x (by have := HR.out.1; omega)).symm)
          clear hj
          go_wp2
          go_ret
          exact ⟨retI HE.out, by trivial⟩
theorem specSum_val {n V : Int} {A : Option Addr} {m c : Nat} {xs : List Int} {w : World} (hV : ssumV n xs = V) (hl : xs.length = m) (hr : IRow w w.heap.size A xs) (hm : m ≤ 1048576) :
    Calls Try.prog 126 #[.int .i64 n, .slice A m c] w fun e w' => e = .returned (.int .i64 V) ∧ w' = w := hV ▸ specSum_same n A m c xs w hl hr hm
end Go.Proofs.Yteniikfgellhfaa
