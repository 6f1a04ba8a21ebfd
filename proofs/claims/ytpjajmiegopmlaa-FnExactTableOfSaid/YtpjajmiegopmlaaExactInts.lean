/- The exact laws' helpers for rows of numbers: szIntS, toIntS, eqIntS, markIntS, heldIntS. -/
import Derived.Test.YtpjajmiegopmlaaTables8
import Derived.BigQuiet
namespace Go.Proofs.Ytpjajmiegopmlaa
open Go.ChangeShapes Go.WideShapes Go.ChangeAt Go.RowKit
set_option linter.unusedVariables false

theorem szInts_fits (A : Option Addr) (n c : Nat) (L : Int) (w : World) (h0 : 0 ≤ L) (h1 : L ≤ 1048576) (hn : (n : Int) ≤ L) :
    Calls Try.prog 127 #[.slice A n c, .int .i64 L] w fun e w' => e = .returned (.int .i64 (L - n)) ∧ w = w' := by
  have t1 : decide (L - n < 0) = false := decide_eq_false (by omega)
  go_enter Try.func127, Try.ntmps127
  go_wp2
  go_ret
  exact ⟨rfl, rfl⟩
theorem szInts_over (A : Option Addr) (n c : Nat) (L : Int) (w : World) (h0 : 0 ≤ L) (h1 : L ≤ 1048576) (hn : L < (n : Int)) (hm : n ≤ 9223372036854775807) :
    Calls Try.prog 127 #[.slice A n c, .int .i64 L] w fun e w' => e = .returned (.int .i64 (-1)) ∧ w = w' := by
  have t1 : decide (L - n < 0) = true := decide_eq_true (by omega)
  go_enter Try.func127, Try.ntmps127
  go_wp2
  go_ret
  exact ⟨rfl, rfl⟩
/-- What is left, or -1. -/
theorem szInts_any (A : Option Addr) (n c : Nat) (L : Int) (w : World) (h0 : 0 ≤ L) (h1 : L ≤ 1048576) (hm : n ≤ 9223372036854775807) :
    Calls Try.prog 127 #[.slice A n c, .int .i64 L] w fun e w' => ∃ v : Int, e = .returned (.int .i64 v) ∧ w = w' ∧ ((v = -1) ∨ (0 ≤ v ∧ v + n = L)) := by
  by_cases hn : (n : Int) ≤ L
  · exact (szInts_fits A n c L w h0 h1 hn).mono fun e w' h => ⟨_, h.1, h.2, .inr ⟨by omega, by omega⟩⟩
  · exact (szInts_over A n c L w h0 h1 (by omega) hm).mono fun e w' h => ⟨_, h.1, h.2, .inl rfl⟩
theorem toInts_any (A : Option Addr) (n c : Nat) (xs : List Int) (w : World) (hl : xs.length = n) (hr : IRow w w.heap.size A xs) (hn : n ≤ 1048576) :
    Calls Try.prog 128 #[.slice A n c] w fun e w' => ∃ g, e = .returned (.slice (some ⟨g, 0, none⟩) n n) ∧ IOwn w' w.heap.size (.slice (some ⟨g, 0, none⟩) n n) xs ∧ w.grownBy w' none := by
  have hmk := fun W => make_ints W n hn
  have HO := Lib.hid (And.intro (iown_made w w.heap.size n (Nat.le_refl _) (by simp only [maxLen]; omega)) (And.intro (grown_alloc (grown_refl w none) (.cells (madeCells #[.int .i64 0] n) 3)) (And.intro hr hl)))
  clear hr hl
  go_enter Try.func128, Try.ntmps128
  go_wp2
  go_loopw [4] (fun i wr => ∃ k : Nat, i = .int .i64 k ∧ k ≤ n ∧ (∃ ys, ys.length = n ∧ ys.take k = xs.take k ∧ IOwn wr w.heap.size (.slice (some ⟨w.heap.size, 0, none⟩) n n) ys) ∧ w.grownBy wr none) (fun i _ => n - (intOf i).toNat)
  case atStart => exact ⟨0, rfl, Nat.zero_le _, ⟨List.replicate n 0, by simp, rfl, HO.out.1⟩, HO.out.2.1⟩
  case round =>
    clear hmk
    obtain ⟨k, rfl, hk, ⟨ys, h6, ht, ho⟩, hg⟩ := hrel
    by_cases hlt : k < n
    · have hk7 : (k : Int) < n := by omega
      have hk0 : decide ((0 : Int) ≤ k) = true := decide_eq_true (by omega)
      obtain ⟨gx, ox, rfl⟩ := HO.out.2.2.1.pos (by have := HO.out.2.2.2; omega)
      obtain ⟨x, hx⟩ : ∃ x, xs[k]? = some x := ⟨_, List.getElem?_eq_getElem (by have := HO.out.2.2.2; omega)⟩
      obtain ⟨y, hy⟩ : ∃ y, ys[k]? = some y := ⟨_, List.getElem?_eq_getElem (by omega)⟩
      have d0 := IRow.cellf (VRow.kept HO.out.2.2.1 hg) hx
      have c0 : wr.cell? ⟨w.heap.size, k, none⟩ = some (.int .i64 y) := VOwn.at_ ho (by rw [iv_length]; exact h6) (iv_at hy)
      have f0 : wr.frozen? ⟨w.heap.size, k, none⟩ = false := VOwn.frozen ho (by rw [iv_length]; exact h6) k
      have hs := VOwn.set ho (by rw [iv_length]; exact h6) k (.int .i64 x)
      rw [← iv_set] at hs
      have HZ := Lib.hid (And.intro (show (ys.set k x).take (k + 1) = xs.take (k + 1) by rw [List.take_add_one, List.take_add_one, List.take_set_of_le (Nat.le_refl _), List.getElem?_set_self (by omega), ht, hx]) (And.intro hs (And.intro (grown_put hg (p := ⟨w.heap.size, k, none⟩) (Nat.le_refl _) (.int .i64 x)) h6)))
      clear h6 ht ho hg hs hx hy
      go_wp2
      go_roundw
      case rel => exact ⟨k + 1, by go_num, by omega, ⟨_, by rw [List.length_set]; exact HZ.out.2.2.2, HZ.out.1, HZ.out.2.1⟩, HZ.out.2.2.1⟩
      case measure => simp [intOf]; omega
    · obtain rfl : k = n := by omega
      rw [List.take_of_length_le (by omega), List.take_of_length_le (by have := HO.out.2.2.2; omega)] at ht
      have HZ := Lib.hid (And.intro ht (And.intro ho hg))
      clear h6 ht ho hg
      go_wp2
      go_ret
      exact ⟨_, rfl, by have h := HZ.out.2.1; rw [HZ.out.1] at h; exact h, HZ.out.2.2⟩
theorem eqInts_any (A A' : Option Addr) (n n' c c' : Nat) (xs ys : List Int) (w : World) (hl : xs.length = n) (hl' : ys.length = n') (hr : IRow w w.heap.size A xs) (hr' : IRow w w.heap.size A' ys) (hn : n ≤ 1048576) (hn' : n' ≤ 1048576) :
    Calls Try.prog 129 #[.slice A n c, .slice A' n' c'] w (KeptV (.bool (decide (xs = ys))) w) := by
  by_cases hnn : n = n'
  · subst hnn
    have HR := Lib.hid (And.intro hl (And.intro hl' (And.intro hr hr')))
    have tn : ((n : Int) != (n : Int)) = false := by simp
    clear hl hl' hr hr'
    go_enter Try.func129, Try.ntmps129
    go_wp2
    go_loopw [5] (fun i wr => ∃ k : Nat, i = .int .i64 k ∧ k ≤ n ∧ (∀ j, j < k → xs[j]? = ys[j]?) ∧ w.grownBy wr none) (fun i _ => n - (intOf i).toNat)
    case atStart => exact ⟨0, rfl, Nat.zero_le _, fun j hj => absurd hj (by omega), grown_refl _ _⟩
    case round =>
      obtain ⟨k, rfl, hk, hj, hg⟩ := hrel
      by_cases hlt : k < n
      · have hk8 : (k : Int) < n := by omega
        have hk0 : decide ((0 : Int) ≤ k) = true := decide_eq_true (by omega)
        obtain ⟨g, off, rfl⟩ := HR.out.2.2.1.pos (by have := HR.out.1; omega)
        obtain ⟨g', off', rfl⟩ := HR.out.2.2.2.pos (by have := HR.out.2.1; omega)
        obtain ⟨x, hx⟩ : ∃ x, xs[k]? = some x := ⟨_, List.getElem?_eq_getElem (by have := HR.out.1; omega)⟩
        obtain ⟨y, hy⟩ : ∃ y, ys[k]? = some y := ⟨_, List.getElem?_eq_getElem (by have := HR.out.2.1; omega)⟩
        have c0 := IRow.cellf (VRow.kept HR.out.2.2.1 hg) hx
        have c1 := IRow.cellf (VRow.kept HR.out.2.2.2 hg) hy
        have HX := Lib.hid (And.intro hg (And.intro hj (And.intro hx hy)))
        clear hg hj hx hy
        by_cases e : x = y
        · have e1 : (x != y) = false := by simp [e]
          have HE := Lib.hid e
          clear e
          go_wp2
          go_quiet (fail)
          all_goals go_wp2
          go_roundw
          case rel =>
            refine ⟨k + 1, by go_num, by omega, fun j hj => ?_, grown_drewN HX.out.1 _⟩
            rcases Nat.lt_or_ge j k with h1 | h1
            · exact HX.out.2.1 j h1
            · obtain rfl : j = k := by omega
              rw [HX.out.2.2.1, HX.out.2.2.2, HE.out]
          case measure => simp [intOf]; omega
        · have e1 : (x != y) = true := by simp [e]
          have HE : RowKit.Hid (decide (xs = ys) = false) := Lib.hid (decide_eq_false (fun h => e (by have h1 := HX.out.2.2.1; rw [h, HX.out.2.2.2] at h1; injection h1 with h1; exact h1.symm)))
          clear e
          go_wp2
          go_quiet (fail)
          all_goals go_wp2
          all_goals (go_ret; exact ⟨retB HE.out.symm, grown_drewN HX.out.1 _⟩)
      · obtain rfl : k = n := by omega
        have HE : RowKit.Hid (decide (xs = ys) = true) := Lib.hid (decide_eq_true (List.ext_getElem? fun j => by
          rcases Nat.lt_or_ge j k with h1 | h1
          · exact hj j h1
          · rw [List.getElem?_eq_none (by have := HR.out.1; omega), List.getElem?_eq_none (by have := HR.out.2.1; omega)]))
        have HG := Lib.hid hg
        clear hj hg
        go_wp2
        go_ret
        exact ⟨retB HE.out.symm, HG.out⟩
  · have tn : ((n : Int) != (n' : Int)) = true := by simp; omega
    have HE : RowKit.Hid (decide (xs = ys) = false) := Lib.hid (decide_eq_false (fun h => hnn (by rw [← hl, ← hl', h])))
    clear hl hl' hr hr' hnn
    go_enter Try.func129, Try.ntmps129
    go_wp2
    go_ret
    exact ⟨retB HE.out.symm, grown_refl _ _⟩
theorem eqInts_val {A A' : Option Addr} {n n' c c' : Nat} {xs ys : List Int} {w : World} {V : Bool} (hV : decide (xs = ys) = V) (hl : xs.length = n) (hl' : ys.length = n') (hr : IRow w w.heap.size A xs) (hr' : IRow w w.heap.size A' ys) (hn : n ≤ 1048576) (hn' : n' ≤ 1048576) :
    Calls Try.prog 129 #[.slice A n c, .slice A' n' c'] w (KeptV (.bool V) w) := hV ▸ eqInts_any A A' n n' c c' xs ys w hl hl' hr hr' hn hn'
/-- The numbers of a marked row. -/
def imarks (K n : Nat) : List Int := (List.range n).map fun i => ((K + i : Nat) : Int)
theorem imarks_length (K n : Nat) : (imarks K n).length = n := by simp [imarks]
theorem imarks_at {K n i : Nat} (h : i < n) : (imarks K n)[i]? = some ((K + i : Nat) : Int) := by simp [imarks, h]
theorem imarks_snoc (K n : Nat) : imarks K (n + 1) = imarks K n ++ [((K + n : Nat) : Int)] := by simp [imarks, List.range_succ]
def imarkTo (K : Nat) (xs : List Int) (k : Nat) : List Int := imarks K k ++ xs.drop k
theorem imarkTo_length {K k : Nat} {xs : List Int} (h : k ≤ xs.length) : (imarkTo K xs k).length = xs.length := by
  simp only [imarkTo, List.length_append, imarks_length, List.length_drop]; omega
theorem imarkTo_step {K k : Nat} {xs : List Int} (h : k < xs.length) : (imarkTo K xs k).set k ((K + k : Nat) : Int) = imarkTo K xs (k + 1) := by
  unfold imarkTo
  rw [List.set_append_right _ _ (by rw [imarks_length]; exact Nat.le_refl _), imarks_length, Nat.sub_self, imarks_snoc, List.append_assoc, List.drop_eq_getElem_cons h]
  rfl
theorem imarkTo_zero (K : Nat) (xs : List Int) : imarkTo K xs 0 = xs := by simp [imarkTo, imarks]
theorem imarkTo_end {K n : Nat} {xs : List Int} (h : xs.length = n) : imarkTo K xs n = imarks K n := by simp [imarkTo, ← h]
theorem markInts_some (g n c K base : Nat) (xs : List Int) (w : World) (hl : xs.length = n) (ho : IOwn w base (.slice (some ⟨g, 0, none⟩) n c) xs) (hn : n ≤ 1048576) (hK : K ≤ 100000000) :
    Calls Try.prog 131 #[.slice (some ⟨g, 0, none⟩) n c, .int .i64 K] w fun e w' => e = .returned (.int .i64 ((K + n : Nat) : Int)) ∧ IOwn w' base (.slice (some ⟨g, 0, none⟩) n c) (imarks K n) ∧ w.grownBy w' (some g) := by
  have HO := Lib.hid (And.intro ho hl)
  clear ho hl
  go_enter Try.func131, Try.ntmps131
  go_wp2
  go_loopw [1, 5] (fun t i wr => ∃ k : Nat, i = .int .i64 k ∧ t = .int .i64 ((K + k : Nat) : Int) ∧ k ≤ n ∧ IOwn wr base (.slice (some ⟨g, 0, none⟩) n c) (imarkTo K xs k) ∧ w.grownBy wr (some g)) (fun _ i _ => n - (intOf i).toNat)
  case atStart => exact ⟨0, rfl, rfl, Nat.zero_le _, by rw [imarkTo_zero]; exact HO.out.1, grown_refl _ _⟩
  case round =>
    obtain ⟨k, rfl, rfl, hk, ho, hg⟩ := hrel
    by_cases hlt : k < n
    · have hk7 : (k : Int) < n := by omega
      have hk0 : decide ((0 : Int) ≤ k) = true := decide_eq_true (by omega)
      have hml : (imarkTo K xs k).length = n := by rw [imarkTo_length (by have := HO.out.2; omega)]; exact HO.out.2
      obtain ⟨y, hy⟩ : ∃ y, (imarkTo K xs k)[k]? = some y := ⟨_, List.getElem?_eq_getElem (by omega)⟩
      have c0 : wr.cell? ⟨g, k, none⟩ = some (.int .i64 y) := VOwn.at_ ho (by rw [iv_length]; exact hml) (iv_at hy)
      have f0 : wr.frozen? ⟨g, k, none⟩ = false := VOwn.frozen ho (by rw [iv_length]; exact hml) k
      have hs := VOwn.set ho (by rw [iv_length]; exact hml) k (.int .i64 ((K + k : Nat) : Int))
      rw [← iv_set, imarkTo_step (by have := HO.out.2; omega)] at hs
      have HZ := Lib.hid (And.intro hs (grown_set hg (p := ⟨g, k, none⟩) (.inl rfl) (.int .i64 ((K + k : Nat) : Int))))
      clear hml ho hg hs hy
      go_wp2
      go_roundw
      case rel => exact ⟨k + 1, by go_num, by go_num, by omega, HZ.out.1, HZ.out.2⟩
      case measure => simp [intOf]; omega
    · obtain rfl : k = n := by omega
      rw [imarkTo_end HO.out.2] at ho
      have HZ := Lib.hid (And.intro ho hg)
      clear ho hg
      go_wp2
      go_ret
      exact ⟨rfl, HZ.out⟩
theorem markInts_any (A : Option Addr) (n c K base : Nat) (xs : List Int) (w : World) (hl : xs.length = n) (ho : IOwn w base (.slice A n c) xs) (hn : n ≤ 1048576) (hK : K ≤ 100000000) :
    Calls Try.prog 131 #[.slice A n c, .int .i64 K] w fun e w' => e = .returned (.int .i64 ((K + n : Nat) : Int)) ∧ IOwn w' base (.slice A n c) (imarks K n) ∧ w.grownBy w' (Value.slice A n c).ownBlock := by
  rcases VOwn.form ho with ⟨e, e0⟩ | ⟨g, cap, e, _⟩
  · injection e with e1 e2 e3
    subst e1; subst e2; subst e3
    have HO := Lib.hid (World.ownsRow_nil w base 3 1)
    clear ho hl
    go_enter Try.func131, Try.ntmps131
    go_wp2
    go_loopw [1, 5] (fun t i wr => t = .int .i64 K ∧ i = .int .i64 0 ∧ wr = w) (fun _ _ _ => 0)
    case atStart => exact ⟨rfl, rfl, rfl⟩
    case round =>
      obtain ⟨rfl, rfl, rfl⟩ := hrel
      go_wp2
      go_ret
      exact ⟨rfl, HO.out, grown_refl _ _⟩
  · injection e with e1 e2 e3
    subst e1
    exact markInts_some g n c K base xs w hl ho hn hK
theorem heldInts_any (A : Option Addr) (n c K : Nat) (w : World) (hr : IRow w w.heap.size A (imarks K n)) (hn : n ≤ 1048576) (hK : K ≤ 100000000) :
    Calls Try.prog 132 #[.slice A n c, .int .i64 K] w fun e w' => e = .returned (.int .i64 ((K + n : Nat) : Int)) ∧ w = w' := by
  have HR := Lib.hid hr
  clear hr
  go_enter Try.func132, Try.ntmps132
  go_wp2
  go_loop [1, 5] (fun t i => ∃ k : Nat, k ≤ n ∧ i = .int .i64 k ∧ t = .int .i64 ((K + k : Nat) : Int)) (fun _ i => n - (intOf i).toNat)
  case atStart => exact ⟨0, Nat.zero_le _, rfl, rfl⟩
  case round =>
    obtain ⟨k, hk, rfl, rfl⟩ := hrel
    by_cases hlt : k < n
    · have hk7 : (k : Int) < n := by omega
      have hk0 : decide ((0 : Int) ≤ k) = true := decide_eq_true (by omega)
      obtain ⟨g, off, rfl⟩ := HR.out.pos (by rw [imarks_length]; omega)
      have c0 := HR.out.cellf (imarks_at hlt)
      have e1 : (((K + k : Nat) : Int) != ((K + k : Nat) : Int)) = false := by simp
      go_wp2
      go_round
      case rel => exact ⟨k + 1, by omega, by go_num, by go_num⟩
      case measure => simp [intOf]; omega
    · obtain rfl : k = n := by omega
      go_wp2
      go_ret
      exact ⟨rfl, rfl⟩
end Go.Proofs.Ytpjajmiegopmlaa
