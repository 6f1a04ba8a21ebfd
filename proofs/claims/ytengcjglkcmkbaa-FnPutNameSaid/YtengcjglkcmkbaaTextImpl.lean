/- What the program's TextValid and NameBucket answer. -/
import Derived.Test.YtengcjglkcmkbaaTexts
namespace Go.Proofs.Ytengcjglkcmkbaa
open Go.ChangeShapes Go.WideShapes Go.ChangeAt Go.RowKit
set_option linter.unusedVariables false

theorem letter_any {s : ByteArray} {k : Nat} (h : k < s.size) (w : World) : Calls Try.prog 44 #[.int .u8 (s[k].toNat : Int)] w fun e w' => e = .returned (.bool (ltB s k)) ∧ w = w' := by
  have HB := Lib.hid (bt_at h)
  have hv : (97 : Int) ≤ (s[k].toNat : Int) ∨ ¬ (97 : Int) ≤ (s[k].toNat : Int) := Decidable.em _
  rcases hv with h1 | h1
  · have e1 : decide ((97 : Int) ≤ (s[k].toNat : Int)) = true := decide_eq_true h1
    go_enter Try.func44, Try.ntmps44
    go_wp2
    go_ret
    refine ⟨retB ?_, rfl⟩
    have := HB.out
    rw [this] at h1 ⊢
    simp [ltB, h1]
  · have e1 : decide ((97 : Int) ≤ (s[k].toNat : Int)) = false := decide_eq_false h1
    go_enter Try.func44, Try.ntmps44
    go_wp2
    go_ret
    refine ⟨retB ?_, rfl⟩
    have := HB.out
    rw [this] at h1
    have h2 : ¬ 97 ≤ bt s k := by omega
    simp [ltB, h2]
theorem letter_val {s : ByteArray} {k : Nat} {V : Bool} (h : k < s.size) (hv : ltB s k = V) (w : World) : Calls Try.prog 44 #[.int .u8 (s[k].toNat : Int)] w fun e w' => e = .returned (.bool V) ∧ w = w' := hv ▸ letter_any h w
theorem textValid_any (s : ByteArray) (w : World) (hs : s.size ≤ 9223372036854775807) : Calls Try.prog 16 #[.string s] w fun e w' => e = .returned (.bool (txtB s)) ∧ w = w' := by
  by_cases h1 : (s.size : Int) < 1
  · have t1 : decide ((s.size : Int) < 1) = true := decide_eq_true h1
    have HX := Lib.hid (show txtB s = false by cases hb : txtB s with
      | false => rfl
      | true => have := txt_parts hb; omega)
    go_enter Try.func16, Try.ntmps16
    go_wp2
    go_ret
    exact ⟨retB HX.out.symm, rfl⟩
  have t1 : decide ((s.size : Int) < 1) = false := decide_eq_false h1
  by_cases h8 : (8 : Int) < s.size
  · have t8 : decide ((8 : Int) < s.size) = true := decide_eq_true h8
    have HX := Lib.hid (show txtB s = false by cases hb : txtB s with
      | false => rfl
      | true => have := txt_parts hb; omega)
    go_enter Try.func16, Try.ntmps16
    go_wp2
    go_ret
    exact ⟨retB HX.out.symm, rfl⟩
  have t8 : decide ((8 : Int) < s.size) = false := decide_eq_false h8
  have hin : 1 ≤ s.size ∧ s.size ≤ 8 := by omega
  clear h1 h8
  go_enter Try.func16, Try.ntmps16
  go_wp2
  go_loop [3] (fun i => ∃ k : Nat, k ≤ s.size ∧ i = .int .i64 k ∧ ∀ j, j < k → ltB s j = true) (fun i => s.size - (intOf i).toNat)
  case atStart => exact ⟨0, Nat.zero_le _, rfl, fun j hj => absurd hj (by omega)⟩
  case round =>
    obtain ⟨k, hk, rfl, hall⟩ := hrel
    by_cases hlt : k < s.size
    · have hk0 : decide ((0 : Int) ≤ k) = true := decide_eq_true (by omega)
      have hk1 : (k : Int) < s.size := by omega
      have HA := Lib.hid hall
      clear hall
      cases hv : ltB s k
      · have HX := Lib.hid (And.intro hv (txt_bad hlt hv))
        clear hv
        go_wp2_with (go_at_call 44; refine (letter_val hlt HX.out.1 _).mono ?_; rintro e w' ⟨rfl, rfl⟩)
        go_ret
        exact ⟨retB HX.out.2.symm, rfl⟩
      · have HX := Lib.hid hv
        clear hv
        go_wp2_with (go_at_call 44; refine (letter_val hlt HX.out _).mono ?_; rintro e w' ⟨rfl, rfl⟩)
        go_round
        case rel => exact ⟨k + 1, by omega, by go_num, fun j hj => by
          by_cases hjk : j < k
          · exact HA.out j hjk
          · obtain rfl : j = k := by omega
            exact HX.out⟩
        case measure => simp [intOf]; omega
    · have HX := Lib.hid (show txtB s = true from (txt_end (s := s) (fun j hj => hall j (by omega))).trans (inB_iff.2 (by omega)))
      have hk2 : decide ((k : Int) < s.size) = false := decide_eq_false (by omega)
      clear hall
      go_wp2
      go_ret
      exact ⟨retB HX.out.symm, rfl⟩
theorem bucket_any (s : ByteArray) (w : World) (hs : s.size ≤ 9223372036854775807) : Calls Try.prog 20 #[.string s] w fun e w' => e = .returned (.int .i64 (bkV s)) ∧ w = w' := by
  cases ht : txtB s with
  | false =>
    have HX := Lib.hid (show bkV s = -1 by simp [bkV, ht])
    go_enter Try.func20, Try.ntmps20
    go_wp2_with (go_at_call 16; refine (textValid_any _ _ hs).mono ?_; rintro e w' ⟨rfl, rfl⟩)
    go_ret
    exact ⟨by simp [HX.out], rfl⟩
  | true =>
    have h8 := (txt_parts ht).2
    have HX := Lib.hid (show bkV s = bkTo s s.size % 3 by simp [bkV, ht])
    go_enter Try.func20, Try.ntmps20
    go_wp2_with (go_at_call 16; refine (textValid_any _ _ hs).mono ?_; rintro e w' ⟨rfl, rfl⟩)
    go_loop [3, 4] (fun n i => ∃ k : Nat, k ≤ s.size ∧ i = .int .i64 k ∧ n = .int .i64 (bkTo s k)) (fun _ i => s.size - (intOf i).toNat)
    case atStart => exact ⟨0, Nat.zero_le _, rfl, rfl⟩
    case round =>
      obtain ⟨k, hk, rfl, rfl⟩ := hrel
      have hn := bkTo_in s k
      by_cases hlt : k < s.size
      · have hk0 : decide ((0 : Int) ≤ k) = true := decide_eq_true (by omega)
        have hk1 : (k : Int) < s.size := by omega
        have hb := bt_in s k
        have HB := bt_at hlt
        have HX := Lib.hid (show bkTo s (k + 1) = (31 * bkTo s k + s[k].toNat) % 1009 by rw [HB]; rfl)
        go_wp2
        go_round
        case rel => exact ⟨k + 1, by omega, by go_num, rfl⟩
        case measure => simp [intOf]; omega
      · have hk2 : decide ((k : Int) < s.size) = false := decide_eq_false (by omega)
        obtain rfl : k = s.size := by omega
        go_wp2
        go_ret
        exact ⟨retI HX.out.symm, rfl⟩
end Go.Proofs.Ytengcjglkcmkbaa
