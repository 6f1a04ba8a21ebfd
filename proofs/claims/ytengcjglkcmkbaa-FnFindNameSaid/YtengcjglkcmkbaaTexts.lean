/- Plain facts on texts (bytes, valid texts, buckets); what the model's TextValid and NameBucket answer. -/
import Derived.Test.YtengcjglkcmkbaaInts
import Derived.Test.YtengcjglkcmkbaaTables4
namespace Go.Proofs.Ytengcjglkcmkbaa
open Go.ChangeShapes Go.WideShapes Go.ChangeAt Go.RowKit
set_option linter.unusedVariables false

/-- Byte k of a text, as a number. -/
def bt (s : ByteArray) (k : Nat) : Int := if h : k < s.size then (s[k].toNat : Int) else 0
theorem bt_at {s : ByteArray} {k : Nat} (h : k < s.size) : (s[k].toNat : Int) = bt s k := by simp [bt, h]
theorem bt_in (s : ByteArray) (k : Nat) : 0 ≤ bt s k ∧ bt s k ≤ 255 := by
  unfold bt
  split
  · next h =>
    have := s[k].toNat_lt
    omega
  · omega
/-- Byte k is a small letter. -/
def ltB (s : ByteArray) (k : Nat) : Bool := decide (97 ≤ bt s k) && decide (bt s k ≤ 122)
/-- A valid text. -/
def txtB (s : ByteArray) : Bool := (List.range s.size).all (ltB s) && inB s.size 1 8
theorem txt_bad {s : ByteArray} {k : Nat} (hk : k < s.size) (h : ltB s k = false) : txtB s = false := by
  have : (List.range s.size).all (ltB s) = false := by
    rw [List.all_eq_false]
    exact ⟨k, List.mem_range.2 hk, by simp [h]⟩
  simp [txtB, this]
theorem txt_end {s : ByteArray} (h : ∀ k, k < s.size → ltB s k = true) : txtB s = inB s.size 1 8 := by
  have : (List.range s.size).all (ltB s) = true := by
    rw [List.all_eq_true]
    intro k hk
    exact h k (List.mem_range.1 hk)
  simp [txtB, this]
theorem txt_parts {s : ByteArray} (h : txtB s = true) : (∀ k, k < s.size → ltB s k = true) ∧ 1 ≤ s.size ∧ s.size ≤ 8 := by
  simp only [txtB, Bool.and_eq_true, List.all_eq_true, List.mem_range] at h
  have := inB_iff.1 h.2
  exact ⟨h.1, by omega, by omega⟩
/-- With a digit after it. -/
theorem txt_one (s : ByteArray) : txtB (s ++ ⟨#[49]⟩) = false := by
  have hs : (s ++ (⟨#[49]⟩ : ByteArray)).size = s.size + 1 := by rw [ByteArray.size_append]; rfl
  refine txt_bad (k := s.size) (by omega) ?_
  have : bt (s ++ (⟨#[49]⟩ : ByteArray)) s.size = 49 := by
    have hl : s.size < (s ++ (⟨#[49]⟩ : ByteArray)).size := by omega
    rw [← bt_at hl, ByteArray.getElem_append_right (Nat.le_refl _)]
    simp
    rfl
  simp [ltB, this]
theorem txt_first {s : ByteArray} (h : txtB s = true) : txtB (s.extract 0 1) = true := by
  obtain ⟨ha, h1, h8⟩ := txt_parts h
  have hs : (s.extract 0 1).size = 1 := by rw [ByteArray.size_extract]; omega
  rw [txt_end, hs]
  · decide
  · intro k hk
    have h0 : k = 0 := by omega
    subst h0
    have hb : bt (s.extract 0 1) 0 = bt s 0 := by
      rw [← bt_at hk, ByteArray.getElem_extract, ← bt_at (show 0 < s.size by omega)]
    have := ha 0 (by omega)
    simpa [ltB, hb] using this
theorem size_one (s : ByteArray) : (s ++ (⟨#[49]⟩ : ByteArray)).size = s.size + 1 := by rw [ByteArray.size_append]; rfl
/-- A bucket's number on the way: the first k bytes. -/
def bkTo (s : ByteArray) : Nat → Int
  | 0 => 7
  | k + 1 => (31 * bkTo s k + bt s k) % 1009
theorem bkTo_in (s : ByteArray) (k : Nat) : 0 ≤ bkTo s k ∧ bkTo s k ≤ 1008 := by
  cases k with
  | zero => simp [bkTo]
  | succ k => simp only [bkTo]; omega
/-- What NameBucket answers. -/
def bkV (s : ByteArray) : Int := if txtB s then bkTo s s.size % 3 else -1
theorem bkV_in (s : ByteArray) : -1 ≤ bkV s ∧ bkV s ≤ 2 := by
  unfold bkV
  split
  · have := bkTo_in s s.size
    omega
  · omega
theorem bk_iff (s : ByteArray) : decide (0 ≤ bkV s) = txtB s := by
  unfold bkV
  cases h : txtB s
  · rfl
  · have := bkTo_in s s.size
    simp only [if_true]
    exact decide_eq_true (by omega)
theorem specText_any (s : ByteArray) (w : World) (hs : s.size ≤ 9223372036854775807) : Calls Try.prog 17 #[.string s] w fun e w' => e = .returned (.bool (txtB s)) ∧ w = w' := by
  go_enter Try.func17, Try.ntmps17
  go_wp2
  go_loop [3] (fun i => ∃ k : Nat, k ≤ s.size ∧ i = .int .i64 k ∧ ∀ j, j < k → ltB s j = true) (fun i => s.size - (intOf i).toNat)
  case atStart => exact ⟨0, Nat.zero_le _, rfl, fun j hj => absurd hj (by omega)⟩
  case round =>
    obtain ⟨k, hk, rfl, hall⟩ := hrel
    by_cases hlt : k < s.size
    · have hk0 : decide ((0 : Int) ≤ k) = true := decide_eq_true (by omega)
      have hk1 : (k : Int) < s.size := by omega
      have hb := bt_in s k
      have HB := bt_at hlt
      have HA := Lib.hid hall
      clear hall
      by_cases h1 : bt s k < 97
      · have e1 : decide ((s[k].toNat : Int) < 97) = true := decide_eq_true (by omega)
        have HX := Lib.hid (txt_bad hlt (by simp [ltB]; omega))
        clear hb HB
        go_wp2
        go_ret
        exact ⟨retB HX.out.symm, rfl⟩
      · have e1 : decide ((s[k].toNat : Int) < 97) = false := decide_eq_false (by omega)
        by_cases h2 : 122 < bt s k
        · have e2 : decide ((122 : Int) < s[k].toNat) = true := decide_eq_true (by omega)
          have HX := Lib.hid (txt_bad hlt (by simp [ltB]; omega))
          clear hb HB
          go_wp2
          go_ret
          exact ⟨retB HX.out.symm, rfl⟩
        · have e2 : decide ((122 : Int) < s[k].toNat) = false := decide_eq_false (by omega)
          have HX := Lib.hid (show ltB s k = true by simp [ltB]; omega)
          clear hb HB
          go_wp2
          go_round
          case rel => exact ⟨k + 1, by omega, by go_num, fun j hj => by
            by_cases hjk : j < k
            · exact HA.out j hjk
            · obtain rfl : j = k := by omega
              exact HX.out⟩
          case measure => simp [intOf]; omega
    · have HX := Lib.hid (txt_end (s := s) (fun j hj => hall j (by omega)))
      have hk2 : decide ((k : Int) < s.size) = false := decide_eq_false (by omega)
      clear hall
      go_wp2_with (go_at_call 45; refine (in_any _ _ _ _).mono ?_; rintro e w' ⟨rfl, rfl⟩)
      go_ret
      exact ⟨retB HX.out.symm, rfl⟩
theorem specBucket_any (s : ByteArray) (w : World) (hs : s.size ≤ 9223372036854775807) : Calls Try.prog 21 #[.string s] w fun e w' => e = .returned (.int .i64 (bkV s)) ∧ w = w' := by
  cases ht : txtB s with
  | false =>
    have HX := Lib.hid (show bkV s = -1 by simp [bkV, ht])
    go_enter Try.func21, Try.ntmps21
    go_wp2_with (go_at_call 17; refine (specText_any _ _ hs).mono ?_; rintro e w' ⟨rfl, rfl⟩)
    go_ret
    exact ⟨by simp [HX.out], rfl⟩
  | true =>
    have h8 := (txt_parts ht).2
    have HX := Lib.hid (show bkV s = bkTo s s.size % 3 by simp [bkV, ht])
    go_enter Try.func21, Try.ntmps21
    go_wp2_with (go_at_call 17; refine (specText_any _ _ hs).mono ?_; rintro e w' ⟨rfl, rfl⟩)
    go_loop [3, 4] (fun n i => ∃ k : Nat, k ≤ s.size ∧ i = .int .i64 k ∧ n = .int .i64 (bkTo s k)) (fun _ i => s.size - (intOf i).toNat)
    case atStart => exact ⟨0, Nat.zero_le _, rfl, rfl⟩
    case round =>
      obtain ⟨k, hk, rfl, rfl⟩ := hrel
      have hn := bkTo_in s k
      by_cases hlt : k < s.size
      · have hk0 : decide ((0 : Int) ≤ k) = true := decide_eq_true (by omega)
        have hk1 : (k : Int) < s.size := by omega
        have hb := bt_in s k
        have HB := bt_at hlt
        have HX := Lib.hid (show bkTo s (k + 1) = (31 * bkTo s k + s[k].toNat) % 1009 by rw [HB]; rfl)
        go_wp2
        go_round
        case rel => exact ⟨k + 1, by omega, by go_num, rfl⟩
        case measure => simp [intOf]; omega
      · have hk2 : decide ((k : Int) < s.size) = false := decide_eq_false (by omega)
        obtain rfl : k = s.size := by omega
        go_wp2
        go_ret
        exact ⟨retI HX.out.symm, rfl⟩
end Go.Proofs.Ytengcjglkcmkbaa
