/- What chapter 11's functions answer: the program's and the model's. -/
import Derived.Test.YthohleidjgeaeaaSmallPlain
import Derived.Test.YthohleidjgeaeaaLawFiles
import Derived.BigQuiet
namespace Go.Proofs.Ythohleidjgeaeaa
open Go.ChangeShapes Go.WideShapes Go.ChangeAt Go.RowKit
set_option linter.unusedVariables false

theorem smallFits_any (A : Option Addr) (n c : Nat) (xs : List Int) (w : World) (hl : xs.length = n) (hr : IRow w w.heap.size A xs) (hn : n ≤ 1048576) :
    Calls Try.prog 10 #[.slice A n c] w (KeptV (.bool (smB xs)) w) := by
  by_cases h4 : 4 < n
  · have HB := Lib.hid (smB_long (xs := xs) (by omega))
    have t1 : decide ((4 : Int) < (n : Int)) = true := decide_eq_true (by omega)
    clear hl hr
    go_enter Try.func10, Try.ntmps10
    go_wp2
    go_ret
    exact ⟨retB HB.out.symm, grown_refl _ _⟩
  · have HR := Lib.hid (And.intro hl hr)
    have t1 : decide ((4 : Int) < (n : Int)) = false := decide_eq_false (by omega)
    clear hl hr
    go_enter Try.func10, Try.ntmps10
    go_wp2
    go_loopw [10] (fun i wr => ∃ k : Nat, i = .int .i64 k ∧ k ≤ n ∧ (∀ j x, j < k → xs[j]? = some x → 0 ≤ x ∧ x ≤ 15) ∧ w.grownBy wr none) (fun i _ => n - (intOf i).toNat)
    case atStart => exact ⟨0, rfl, Nat.zero_le _, fun j x hj => absurd hj (by omega), grown_refl _ _⟩
    case round =>
      obtain ⟨k, rfl, hk, hj, hg⟩ := hrel
      by_cases hlt : k < n
      · have hk8 : (k : Int) < n := by omega
        have hk0 : decide ((0 : Int) ≤ k) = true := decide_eq_true (by omega)
        obtain ⟨g, off, rfl⟩ := HR.out.2.pos (by have := HR.out.1; omega)
        obtain ⟨x, hx⟩ : ∃ x, xs[k]? = some x := ⟨_, List.getElem?_eq_getElem (by have := HR.out.1; omega)⟩
        have c0 := IRow.cellf (VRow.kept HR.out.2 hg) hx
        have HX := Lib.hid (And.intro hg (And.intro hj hx))
        clear hg hj hx
        by_cases h0 : x < 0
        · have e1 : decide (x < 0) = true := decide_eq_true h0
          have HE : RowKit.Hid (smB xs = false) := Lib.hid (smB_bad HX.out.2.2 (.inl h0))
          clear h0
          go_wp2
          go_ret
          exact ⟨retB HE.out.symm, HX.out.1⟩
        · have e1 : decide (x < 0) = false := decide_eq_false h0
          by_cases h15 : 15 < x
          · have e2 : decide ((15 : Int) < x) = true := decide_eq_true h15
            have HE : RowKit.Hid (smB xs = false) := Lib.hid (smB_bad HX.out.2.2 (.inr h15))
            clear h0 h15
            go_wp2
            go_ret
            exact ⟨retB HE.out.symm, HX.out.1⟩
          · have e2 : decide ((15 : Int) < x) = false := decide_eq_false h15
            have HE := Lib.hid (And.intro h0 h15)
            clear h0 h15
            go_wp2
            go_roundw
            case rel =>
              refine ⟨k + 1, by go_num, by omega, fun j y hj hy => ?_, HX.out.1⟩
              rcases Nat.lt_or_ge j k with h1 | h1
              · exact HX.out.2.1 j y h1 hy
              · obtain rfl : j = k := by omega
                have e := HX.out.2.2.symm.trans hy
                injection e with e
                have := HE.out
                omega
            case measure => simp [intOf]; omega
      · obtain rfl : k = n := by omega
        have HE : RowKit.Hid (smB xs = true) := Lib.hid (smB_all (by have := HR.out.1; omega) fun j x hj' => hj j x (by have := HR.out.1; omega))
        have HG := Lib.hid hg
        clear hj hg
        go_wp2
        go_ret
        exact ⟨retB HE.out.symm, HG.out⟩
theorem smallFits_val {A : Option Addr} {n c : Nat} {xs : List Int} {w : World} {V : Bool} (hV : smB xs = V) (hl : xs.length = n) (hr : IRow w w.heap.size A xs) (hn : n ≤ 1048576) :
    Calls Try.prog 10 #[.slice A n c] w (KeptV (.bool V) w) := hV ▸ smallFits_any A n c xs w hl hr hn
theorem specSmallFits_any (A : Option Addr) (n c : Nat) (xs : List Int) (w : World) (hl : xs.length = n) (hr : IRow w w.heap.size A xs) (hn : n ≤ 1048576) :
    Calls Try.prog 11 #[.slice A n c] w (KeptV (.bool (smB xs)) w) := by
  have HR := Lib.hid (And.intro hl hr)
  clear hl hr
  go_enter Try.func11, Try.ntmps11
  go_wp2
  go_loopw [3] (fun i wr => ∃ k : Nat, i = .int .i64 k ∧ k ≤ n ∧ (∀ j x, j < k → xs[j]? = some x → 0 ≤ x ∧ x ≤ 15) ∧ w.grownBy wr none) (fun i _ => n - (intOf i).toNat)
  case atStart => exact ⟨0, rfl, Nat.zero_le _, fun j x hj => absurd hj (by omega), grown_refl _ _⟩
  case round =>
    obtain ⟨k, rfl, hk, hj, hg⟩ := hrel
    by_cases hlt : k < n
    · have hk8 : (k : Int) < n := by omega
      have hk0 : decide ((0 : Int) ≤ k) = true := decide_eq_true (by omega)
      obtain ⟨g, off, rfl⟩ := HR.out.2.pos (by have := HR.out.1; omega)
      obtain ⟨x, hx⟩ : ∃ x, xs[k]? = some x := ⟨_, List.getElem?_eq_getElem (by have := HR.out.1; omega)⟩
      have c0 := IRow.cellf (VRow.kept HR.out.2 hg) hx
      have HX := Lib.hid (And.intro hg (And.intro hj hx))
      clear hg hj hx
      cases hq : inB x 0 15
      · have HE : RowKit.Hid (smB xs = false) := Lib.hid (smB_bad HX.out.2.2 (by
          rcases Int.lt_or_le x 0 with h | h
          · exact .inl h
          · refine .inr ?_
            rcases Int.lt_or_le 15 x with h' | h'
            · exact h'
            · exact absurd (inB_iff.2 ⟨h, h'⟩) (by simp [hq])))
        have HQ := Lib.hid hq
        clear hq
        go_wp2_with (go_at_call 26; refine (in_val HQ.out _).mono ?_; rintro e w' ⟨rfl, rfl⟩)
        go_ret
        exact ⟨retB HE.out.symm, HX.out.1⟩
      · have HQ := Lib.hid hq
        clear hq
        go_wp2_with (go_at_call 26; refine (in_val HQ.out _).mono ?_; rintro e w' ⟨rfl, rfl⟩)
        go_roundw
        case rel =>
          refine ⟨k + 1, by go_num, by omega, fun j y hj hy => ?_, HX.out.1⟩
          rcases Nat.lt_or_ge j k with h1 | h1
          · exact HX.out.2.1 j y h1 hy
          · obtain rfl : j = k := by omega
            have e := HX.out.2.2.symm.trans hy
            injection e with e
            have := inB_iff.1 HQ.out
            omega
        case measure => simp [intOf]; omega
    · obtain rfl : k = n := by omega
      have HG := Lib.hid (And.intro hg hj)
      clear hj hg
      by_cases h4 : k ≤ 4
      · have HE : RowKit.Hid (smB xs = true) := Lib.hid (smB_all (by have := HR.out.1; omega) fun j x hj' => HG.out.2 j x (by have := HR.out.1; omega))
        have e4 : decide ((k : Int) ≤ 4) = true := decide_eq_true (by omega)
        go_wp2
        go_ret
        exact ⟨retB HE.out.symm, HG.out.1⟩
      · have HE : RowKit.Hid (smB xs = false) := Lib.hid (smB_long (by have := HR.out.1; omega))
        have e4 : decide ((k : Int) ≤ 4) = false := decide_eq_false (by omega)
        go_wp2
        go_ret
        exact ⟨retB HE.out.symm, HG.out.1⟩
theorem specSmallFits_val {A : Option Addr} {n c : Nat} {xs : List Int} {w : World} {V : Bool} (hV : smB xs = V) (hl : xs.length = n) (hr : IRow w w.heap.size A xs) (hn : n ≤ 1048576) :
    Calls Try.prog 11 #[.slice A n c] w (KeptV (.bool V) w) := hV ▸ specSmallFits_any A n c xs w hl hr hn
theorem packSmall_any (A : Option Addr) (n c : Nat) (xs : List Int) (w : World) (hl : xs.length = n) (hr : IRow w w.heap.size A xs) (hn : n ≤ 1048576) :
    Calls Try.prog 14 #[.slice A n c] w (KeptV (.int .i64 (smV xs)) w) := by
  cases hv : smB xs
  · have HV := Lib.hid (And.intro hv (And.intro hl hr))
    clear hl hr hv
    go_enter Try.func14, Try.ntmps14
    go_wp2_with fail
    refine (smallFits_val HV.out.1 HV.out.2.1 HV.out.2.2 hn).mono ?_
    rintro e w1 ⟨rfl, hk⟩
    have HK := Lib.hid hk
    clear hk
    go_wp2
    go_ret
    exact ⟨retI (smV_no HV.out.1).symm, HK.out⟩
  · have h1 := smB_iff.1 hv
    have h4 : n ≤ 4 := by omega
    have HV := Lib.hid (And.intro hv (And.intro hl (And.intro hr h1.2)))
    clear hl hr hv h1
    go_enter Try.func14, Try.ntmps14
    go_wp2_with fail
    refine (smallFits_val HV.out.1 HV.out.2.1 HV.out.2.2.1 hn).mono ?_
    rintro e w1 ⟨rfl, hk⟩
    have HK := Lib.hid hk
    clear hk
    go_wp2
    go_loopw [3, 5, 13] (fun v y i wr => ∃ k : Nat, i = .int .i64 k ∧ k ≤ n ∧ v = .int .i64 (smAcc (xs.length : Nat) (xs.take k)) ∧ w.grownBy wr none) (fun v y i _ => n - (intOf i).toNat)
    case atStart => exact ⟨0, rfl, Nat.zero_le _, by rw [HV.out.2.1]; rfl, HK.out⟩
    case round =>
      obtain ⟨k, rfl, hk, rfl, hg⟩ := hrel
      by_cases hlt : k < n
      · have hk8 : (k : Int) < n := by omega
        have hk0 : decide ((0 : Int) ≤ k) = true := decide_eq_true (by omega)
        obtain ⟨g, off, rfl⟩ := HV.out.2.2.1.pos (by have := HV.out.2.1; omega)
        obtain ⟨x, hx⟩ : ∃ x, xs[k]? = some x := ⟨_, List.getElem?_eq_getElem (by have := HV.out.2.1; omega)⟩
        have c0 := IRow.cellf (VRow.kept HV.out.2.2.1 hg) hx
        have hb := smAcc_le (c := (xs.length : Nat)) (xs := xs) (k := k) (by omega) (by omega) (by have := HV.out.2.1; omega) HV.out.2.2.2
        have hx1 := HV.out.2.2.2 x (List.mem_of_getElem? hx)
        have HX := Lib.hid (And.intro hg (smAcc_take (xs.length : Nat) hx))
        clear hg hx
        generalize smAcc (xs.length : Nat) (xs.take k) = v at hb HX
        go_wp2
        go_roundw
        case rel => exact ⟨k + 1, by go_num, by omega, by rw [HX.out.2], HX.out.1⟩
        case measure => simp [intOf]; omega
      · obtain rfl : k = n := by omega
        have HE : RowKit.Hid (smAcc (xs.length : Nat) (xs.take k) = smV xs) := Lib.hid (by rw [List.take_of_length_le (by have := HV.out.2.1; omega), smV_yes HV.out.1])
        have HG := Lib.hid hg
        clear hg
        go_wp2
        go_ret
        exact ⟨retI HE.out, HG.out⟩
theorem packSmall_val {A : Option Addr} {n c : Nat} {xs : List Int} {w : World} {V : Int} (hV : smV xs = V) (hl : xs.length = n) (hr : IRow w w.heap.size A xs) (hn : n ≤ 1048576) :
    Calls Try.prog 14 #[.slice A n c] w (KeptV (.int .i64 V) w) := hV ▸ packSmall_any A n c xs w hl hr hn
theorem specPackSmall_any (A : Option Addr) (n c : Nat) (xs : List Int) (w : World) (hl : xs.length = n) (hr : IRow w w.heap.size A xs) (hn : n ≤ 1048576) :
    Calls Try.prog 15 #[.slice A n c] w (KeptV (.int .i64 (smV xs)) w) := by
  cases hv : smB xs
  · have HV := Lib.hid (And.intro hv (And.intro hl hr))
    clear hl hr hv
    go_enter Try.func15, Try.ntmps15
    go_wp2_with fail
    refine (specSmallFits_val HV.out.1 HV.out.2.1 HV.out.2.2 hn).mono ?_
    rintro e w1 ⟨rfl, hk⟩
    have HK := Lib.hid hk
    clear hk
    go_wp2
    go_ret
    exact ⟨retI (smV_no HV.out.1).symm, HK.out⟩
  · have h1 := smB_iff.1 hv
    have h4 : n ≤ 4 := by omega
    have HV := Lib.hid (And.intro hv (And.intro hl (And.intro hr h1.2)))
    clear hl hr hv h1
    go_enter Try.func15, Try.ntmps15
    go_wp2_with fail
    refine (specSmallFits_val HV.out.1 HV.out.2.1 HV.out.2.2.1 hn).mono ?_
    rintro e w1 ⟨rfl, hk⟩
    have HK := Lib.hid hk
    clear hk
    go_wp2
    go_loopw [3, 4] (fun v i wr => ∃ k : Nat, i = .int .i64 k ∧ k ≤ n ∧ v = .int .i64 (smAcc (xs.length : Nat) (xs.take k)) ∧ w.grownBy wr none) (fun v i _ => n - (intOf i).toNat)
    case atStart => exact ⟨0, rfl, Nat.zero_le _, by rw [HV.out.2.1]; rfl, HK.out⟩
    case round =>
      obtain ⟨k, rfl, hk, rfl, hg⟩ := hrel
      by_cases hlt : k < n
      · have hk8 : (k : Int) < n := by omega
        have hk0 : decide ((0 : Int) ≤ k) = true := decide_eq_true (by omega)
        obtain ⟨g, off, rfl⟩ := HV.out.2.2.1.pos (by have := HV.out.2.1; omega)
        obtain ⟨x, hx⟩ : ∃ x, xs[k]? = some x := ⟨_, List.getElem?_eq_getElem (by have := HV.out.2.1; omega)⟩
        have c0 := IRow.cellf (VRow.kept HV.out.2.2.1 hg) hx
        have hb := smAcc_le (c := (xs.length : Nat)) (xs := xs) (k := k) (by omega) (by omega) (by have := HV.out.2.1; omega) HV.out.2.2.2
        have hx1 := HV.out.2.2.2 x (List.mem_of_getElem? hx)
        have HX := Lib.hid (And.intro hg (smAcc_take (xs.length : Nat) hx))
        clear hg hx
        generalize smAcc (xs.length : Nat) (xs.take k) = v at hb HX
        go_wp2
        go_roundw
        case rel => exact ⟨k + 1, by go_num, by omega, by rw [HX.out.2], HX.out.1⟩
        case measure => simp [intOf]; omega
      · obtain rfl : k = n := by omega
        have HE : RowKit.Hid (smAcc (xs.length : Nat) (xs.take k) = smV xs) := Lib.hid (by rw [List.take_of_length_le (by have := HV.out.2.1; omega), smV_yes HV.out.1])
        have HG := Lib.hid hg
        clear hg
        go_wp2
        go_ret
        exact ⟨retI HE.out, HG.out⟩
theorem specPackSmall_val {A : Option Addr} {n c : Nat} {xs : List Int} {w : World} {V : Int} (hV : smV xs = V) (hl : xs.length = n) (hr : IRow w w.heap.size A xs) (hn : n ≤ 1048576) :
    Calls Try.prog 15 #[.slice A n c] w (KeptV (.int .i64 V) w) := hV ▸ specPackSmall_any A n c xs w hl hr hn
/-- append([]int{x}, xs...): nothing that was there is written. -/
theorem cons_ints {w : World} {A : Option Addr} {n c : Nat} {xs : List Int} (x : Int) (hl : xs.length = n) (hr : IRow w w.heap.size A xs) (hn : n ≤ 1000000) :
    ∃ (A' : Option Addr) (c' : Nat) (w' : World), (∀ ty, (Builtin.append_ #[23, 23] ty #[.slice (some ⟨w.heap.size, 0, none⟩) 1 1, .slice A n c]).run Try.prog (w.alloc (.cells #[.int .i64 x] 3)) = .ok (.slice A' (n + 1) c') w') ∧
      IOwn w' w.heap.size (.slice A' (n + 1) c') (x :: xs) ∧ w.grownBy w' none := by
  have ho : IOwn (w.alloc (.cells #[.int .i64 x] 3)) w.heap.size (.slice (some ⟨w.heap.size, 0, none⟩) 1 1) [x] := vown_lit w w.heap.size 3 (iv [x]) (Nat.le_refl _) (by simp [iv, maxLen])
  have hr1 := VRow.alloc hr (.cells #[.int .i64 x] 3)
  rcases Nat.eq_zero_or_pos n with rfl | hpos
  · rw [List.eq_nil_of_length_eq_zero hl]
    exact ⟨_, _, _, appendInts_none _ w.heap.size _ _ A c _ ho, ho, grown_alloc (grown_refl _ _) _⟩
  · obtain ⟨v', w', hrun, h2, hg, _⟩ := append_ints _ w.heap.size _ 1 A _ n c xs (iv [x]) ho hr1 hl hpos (by omega) (by simp only [size_alloc1]; omega)
    have h3 : IOwn w' w.heap.size v' (x :: xs) := by
      unfold IOwn VOwn
      rw [iv_length, show x :: xs = [x] ++ xs from rfl, iv_append, List.length_append, hl]
      exact h2
    obtain ⟨A', c', e⟩ := IOwn.slice h3
    rw [List.length_cons, hl] at e
    subst e
    exact ⟨A', c', w', hrun, h3, grown_joinR (grown_alloc (grown_refl w none) _) hg (fun g e => (VOwn.lt ho g e).1)⟩
theorem set_drop {ys : List Int} {p : Nat} (h : p < ys.length) (d : Int) : (ys.set p d).drop p = d :: ys.drop (p + 1) := by
  rw [List.drop_eq_getElem_cons (by rw [List.length_set]; exact h), List.getElem_set_self, List.drop_set_of_lt (by omega)]
theorem lastDigits_any (n : Int) (m : Nat) (w : World) (hm : m ≤ 4) (hn : -9223372036854775808 ≤ n ∧ n ≤ 9223372036854775807) :
    Calls Try.prog 28 #[.int .i64 n, .int .i64 m] w (IMadeN (smDig n m) m w) := by
  have hmk := fun W => make_ints W m (by omega)
  have HO := Lib.hid (And.intro (iown_made w w.heap.size m (Nat.le_refl _) (by simp only [maxLen]; omega)) (grown_alloc (grown_refl w none) (.cells (madeCells #[.int .i64 0] m) 3)))
  go_enter Try.func28, Try.ntmps28
  go_wp2
  go_loopw [0, 6] (fun v i wr => ∃ (j p : Nat) (z : Int), v = .int .i64 (smQ n j) ∧ i = .int .i64 z ∧ z = (p : Int) - 1 ∧ p + j = m ∧ (∃ ys, ys.length = m ∧ ys.drop p = smDig n j ∧ IOwn wr w.heap.size (.slice (some ⟨w.heap.size, 0, none⟩) m m) ys) ∧ w.grownBy wr none) (fun v i _ => (intOf i + 1).toNat)
  case atStart => exact ⟨0, m, (m : Int) - 1, rfl, by go_num, rfl, rfl, ⟨List.replicate m 0, by simp, by simp [smDig], HO.out.1⟩, HO.out.2⟩
  case round =>
    clear hmk
    obtain ⟨j, p, z, rfl, rfl, hz, hp, ⟨ys, hy, hd, ho⟩, hg⟩ := hrel
    have hq := smQ_in hn j
    cases p with
    | zero =>
      obtain rfl : z = -1 := by omega
      obtain rfl : j = m := by omega
      clear hz
      have HZ := Lib.hid (And.intro (show ys = smDig n j by rw [← hd, List.drop_zero]) (And.intro ho (And.intro hg hy)))
      clear hy hd ho hg
      go_wp2
      go_ret
      exact ⟨_, _, rfl, smDig_length n j, by have h := HZ.out.2.1; rw [HZ.out.1] at h; exact h, HZ.out.2.2.1⟩
    | succ p =>
      obtain rfl : z = (p : Int) := by omega
      clear hz
      have hk0 : decide ((0 : Int) ≤ p) = true := decide_eq_true (by omega)
      have hk1 : (p : Int) < (m : Int) := by omega
      obtain ⟨y, hyp⟩ : ∃ y, ys[p]? = some y := ⟨_, List.getElem?_eq_getElem (by omega)⟩
      have c0 : wr.cell? ⟨w.heap.size, p, none⟩ = some (.int .i64 y) := VOwn.at_ ho (by rw [iv_length]; exact hy) (iv_at hyp)
      have f0 : wr.frozen? ⟨w.heap.size, p, none⟩ = false := VOwn.frozen ho (by rw [iv_length]; exact hy) p
      have hs := VOwn.set ho (by rw [iv_length]; exact hy) p (.int .i64 ((smQ n j).tmod 16))
      rw [← iv_set] at hs
      have hd2 : (ys.set p ((smQ n j).tmod 16)).drop p = smDig n (j + 1) := by rw [set_drop (by omega), hd]; rfl
      have hq1 := smQ_in hn (j + 1)
      have HZ := Lib.hid (And.intro hd2 (And.intro hs (And.intro (grown_put hg (p := ⟨w.heap.size, p, none⟩) (Nat.le_refl _) (.int .i64 ((smQ n j).tmod 16))) (And.intro hy (show (smQ n j).tdiv 16 = smQ n (j + 1) from rfl)))))
      clear hy hd ho hg hs hyp hd2
      generalize smQ n j = q at hq HZ
      go_wp2
      go_roundw
      case rel => exact ⟨j + 1, p, (p : Int) - 1, by rw [← HZ.out.2.2.2.2], by go_num, rfl, by omega, ⟨_, by rw [List.length_set]; exact HZ.out.2.2.2.1, HZ.out.1, HZ.out.2.1⟩, HZ.out.2.2.1⟩
      case measure => simp [intOf]
theorem unpack_val {n : Int} {X : List Int} {m : Nat} {r : Bool} {w : World} (h : smOut n = (X, r)) (hm : X.length = m) (hn : -9223372036854775808 ≤ n ∧ n ≤ 9223372036854775807) :
    Calls Try.prog 16 #[.int .i64 n] w (IMadeN2 X m r w) := by
  have HI := Lib.hid (And.intro h hm)
  clear h hm
  go_enter Try.func16, Try.ntmps16
  go_wp2
  go_loopw [4, 5] (fun v i wr => ∃ k : Nat, v = .int .i64 (smQ n k) ∧ i = .int .i64 k ∧ k ≤ 5 ∧ (∀ j, j < k → smQ n j ≠ (j : Int)) ∧ w.grownBy wr none) (fun v i _ => 5 - (intOf i).toNat)
  case atStart => exact ⟨0, rfl, rfl, by omega, fun j hj => absurd hj (by omega), grown_refl _ _⟩
  case round =>
    obtain ⟨k, rfl, rfl, hk, hj, hg⟩ := hrel
    have hq := smQ_in hn k
    by_cases h4 : k ≤ 4
    · have e4 : decide ((k : Int) ≤ 4) = true := decide_eq_true (by omega)
      by_cases he : smQ n k = (k : Int)
      · have e1 : (smQ n k == (k : Int)) = true := by simp [he]
        have hX := HI.out.1.symm.trans (smOut_hit h4 hj he)
        injection hX with hX hr
        subst hr
        have HX := Lib.hid (And.intro hX (And.intro hg (show m = k by rw [← HI.out.2, hX, smDig_length])))
        clear hX hj hg he
        go_wp2_with fail
        refine (lastDigits_any n k _ h4 hn).mono ?_
        rintro e w1 ⟨A, c, rfl, hl, ho, hk'⟩
        have HO := Lib.hid (And.intro ho (grown_trans HX.out.2.1 hk'))
        have HS := Lib.hid HX.out.2.1.size
        clear ho hk'
        have hz : IMadeN2 X m true w (.returned (.tuple #[.slice A k c, .bool true])) w1 := by
          obtain ⟨rfl, hg, rfl⟩ := HX.out
          exact ⟨A, c, rfl, hl, VOwn.base_le HO.out.1 HS.out, HO.out.2⟩
        have HZ := Lib.hid hz
        clear hz hl
        go_wp2
        exact bodyPost_ret (v := .tuple #[.slice A k c, .bool true]) (by simp [results, Try.results16, go_sem, *]) rfl HZ.out
      · have e1 : (smQ n k == (k : Int)) = false := by simp [he]
        have HX := Lib.hid (And.intro hg (And.intro hj (And.intro he (show (smQ n k).tdiv 16 = smQ n (k + 1) from rfl))))
        have hq1 := smQ_in hn (k + 1)
        clear hg hj he
        go_wp2
        go_roundw
        case rel =>
          refine ⟨k + 1, by rw [← HX.out.2.2.2], by go_num, by omega, fun j hj => ?_, HX.out.1⟩
          rcases Nat.lt_or_ge j k with h1 | h1
          · exact HX.out.2.1 j h1
          · obtain rfl : j = k := by omega
            exact HX.out.2.2.1
        case measure => simp [intOf]; omega
    · obtain rfl : k = 5 := by omega
      have hX := HI.out.1.symm.trans (smOut_none hj)
      injection hX with hX hr
      subst hr
      have HX := Lib.hid (And.intro hX hg)
      clear hX hg hj
      have hz : IMadeN2 X m false w (.returned (.tuple #[.slice none 0 0, .bool false])) wr := by
        obtain ⟨rfl, hg⟩ := HX.out
        obtain rfl := HI.out.2
        exact ⟨none, 0, rfl, rfl, World.ownsRow_nil _ _ _ _, hg⟩
      have HZ := Lib.hid hz
      clear hz
      go_wp2
      exact bodyPost_ret (v := .tuple #[.slice none 0 0, .bool false]) (by simp [results, Try.results16, go_sem, *]) rfl HZ.out
/-- The model's inner loop: k of the number's last digits so far, in a row of the call's own. -/
def UIn (w : World) (n : Int) (k : Nat) (u : Value) (wr : World) : Prop := IOwn wr w.heap.size u (smDig n k) ∧ w.grownBy wr none
theorem specUnpack_val {n : Int} {X : List Int} {m : Nat} {r : Bool} {w : World} (h : smOut n = (X, r)) (hm : X.length = m) (hn : -9223372036854775808 ≤ n ∧ n ≤ 9223372036854775807) :
    Calls Try.prog 19 #[.int .i64 n] w (IMadeN2 X m r w) := by
  have HI := Lib.hid (And.intro h hm)
  clear h hm
  go_enter Try.func19, Try.ntmps19
  go_wp2
  go_loopw [4, 5, 6, 7] (fun i u v l wr => ∃ k : Nat, i = .int .i64 k ∧ k ≤ 5 ∧ (∀ j, j < k → smQ n j ≠ (j : Int)) ∧ w.grownBy wr none) (fun i u v l _ => 5 - (intOf i).toNat)
  case atStart => exact ⟨0, rfl, by omega, fun j hj => absurd hj (by omega), grown_refl _ _⟩
  case round =>
    rename World => wq
    obtain ⟨k, rfl, hk, hj, hg⟩ := hrel
    by_cases h4 : k ≤ 4
    · have e4 : decide ((k : Int) ≤ 4) = true := decide_eq_true (by omega)
      have HS : RowKit.Hid (UIn w n 0 (.slice (some ⟨wq.heap.size, 0, none⟩) 0 0) (wq.alloc (.cells #[] 3))) := Lib.hid ⟨iown_lit0 wq w.heap.size hg.size, grown_alloc hg _⟩
      have HJ := Lib.hid hj
      clear hj hg
      go_wp2
      go_loopw [5, 6, 7] (fun u v l wr => ∃ j : Nat, l = .int .i64 j ∧ j ≤ k ∧ v = .int .i64 (smQ n j) ∧ UIn w n j u wr) (fun u v l _ => k - (intOf l).toNat)
      case atStart => exact ⟨0, rfl, Nat.zero_le _, rfl, HS.out⟩
      case round =>
        obtain ⟨j, rfl, hjk, rfl, hS⟩ := hrel
        have hq := smQ_in hn j
        clear HS
        obtain ⟨Au, cu, rfl⟩ := IOwn.slice hS.1
        rw [smDig_length] at hS ⊢
        by_cases hlt : j < k
        · have hk8 : (j : Int) < k := by omega
          have hq1 := smQ_in hn (j + 1)
          obtain ⟨A', c', w5, hrun, ho, hg5⟩ := cons_ints (c := cu) ((smQ n j).tmod 16) (smDig_length n j) (VOwn.row hS.1) (by omega)
          have HRUN := Lib.hid hrun
          have HZ := Lib.hid (And.intro (show UIn w n (j + 1) (.slice A' (j + 1) c') w5 from ⟨VOwn.base_le ho hS.2.size, grown_trans hS.2 hg5⟩) (show (smQ n j).tdiv 16 = smQ n (j + 1) from rfl))
          clear hrun ho hg5 hS
          go_wp2_with (first | (at_builtin; refine wpList_append_run _ rfl (.tmp 21) (.tmp 22) _ _ rfl _ _ rfl rfl HRUN.out ?_) | fail)
          go_roundw
          case rel => exact ⟨j + 1, by go_num, by omega, by rw [← HZ.out.2], HZ.out.1⟩
          case measure => simp [intOf]; omega
        · obtain rfl : j = k := by omega
          have HS := Lib.hid hS
          clear hS
          by_cases h0 : 0 ≤ n
          · have e0 : decide ((0 : Int) ≤ n) = true := decide_eq_true h0
            by_cases he : smQ n j = (j : Int)
            · have e1 : (smQ n j == (j : Int)) = true := by simp [he]
              have hX := HI.out.1.symm.trans (smOut_hit h4 HJ.out he)
              injection hX with hX hr
              subst hr
              have HV := Lib.hid (And.intro (smV_dig h0 h4 he) hX)
              have ee : (n == n) = true := by simp
              clear hX he h0
              go_wp2_with fail
              refine (specPackSmall_val HV.out.1 (smDig_length n j) (VOwn.row HS.out.1) (by omega)).mono ?_
              rintro e w6 ⟨rfl, hk6⟩
              have hz : IMadeN2 X m true w (.returned (.tuple #[.slice Au j cu, .bool true])) w6 := by
                have hX := HV.out.2
                subst hX
                have hm := HI.out.2
                rw [smDig_length] at hm
                subst hm
                exact ⟨_, _, rfl, smDig_length n j, VOwn.keep HS.out.1 hk6, grown_trans HS.out.2 hk6⟩
              have HZ := Lib.hid hz
              clear hz hk6
              go_wp2
              exact bodyPost_ret (v := .tuple #[.slice Au j cu, .bool true]) (by simp [results, Try.results19, go_sem, *]) rfl HZ.out
            · have e1 : (smQ n j == (j : Int)) = false := by simp [he]
              have HE := Lib.hid he
              clear he
              go_wp2
              go_roundw
              case rel =>
                refine ⟨j + 1, by go_num, by omega, fun i hi => ?_, HS.out.2⟩
                rcases Nat.lt_or_ge i j with h1 | h1
                · exact HJ.out i h1
                · obtain rfl : i = j := by omega
                  exact HE.out
              case measure => simp [intOf]; omega
          · have e0 : decide ((0 : Int) ≤ n) = false := decide_eq_false h0
            have HE := Lib.hid (smQ_neg_ne (n := n) (by omega) j)
            clear h0
            go_wp2
            go_roundw
            case rel =>
              refine ⟨j + 1, by go_num, by omega, fun i hi => ?_, HS.out.2⟩
              rcases Nat.lt_or_ge i j with h1 | h1
              · exact HJ.out i h1
              · obtain rfl : i = j := by omega
                exact HE.out
            case measure => simp [intOf]; omega
    · obtain rfl : k = 5 := by omega
      have hX := HI.out.1.symm.trans (smOut_none hj)
      injection hX with hX hr
      subst hr
      have hz : IMadeN2 X m false w (.returned (.tuple #[.slice (some ⟨wq.heap.size, 0, none⟩) 0 0, .bool false])) (wq.alloc (.cells #[] 3)) := by
        subst hX
        obtain rfl := HI.out.2
        exact ⟨_, _, rfl, rfl, iown_lit0 wq w.heap.size hg.size, grown_alloc hg _⟩
      have HZ := Lib.hid hz
      clear hz hX hj hg
      go_wp2
      exact bodyPost_ret (v := .tuple #[.slice (some ⟨wq.heap.size, 0, none⟩) 0 0, .bool false]) (by simp [results, Try.results19, go_sem, *]) rfl HZ.out
end Go.Proofs.Ythohleidjgeaeaa
