/- What the program's functions of chapter 5 answer, further: copyDevice, NewDevice.
   What chapter 5 answers, further: EraseAt of both. -/
import Derived.Test.YtfiajbkmklcaiaaExactDev
import Derived.Test.YtfiajbkmklcaiaaDevices6
namespace Go.Proofs.Ytfiajbkmklcaiaa
open Go.ChangeShapes Go.WideShapes Go.ChangeAt Go.RowKit

/-- A new device of n blocks. -/
def zs (n : Nat) : List Bk := List.replicate n ⟨0, none, 0, [pz, pz, pz, pz]⟩
theorem zs_at {n k : Nat} (h : k < n) : (zs n)[k]? = some ⟨0, none, 0, [pz, pz, pz, pz]⟩ := by simp [zs, h]
theorem zs_length (n : Nat) : (zs n).length = n := by simp [zs]
theorem devMade_nil {w w' : World} (h : w.grownBy w' none) : DevMade [] 0 w (.returned (.slice none 0 0)) w' := ⟨none, 0, [], rfl, rfl, rfl, ⟨World.ownsRow_nil _ _ _ _, fun b hb => by simp at hb, fun i j b b' a a' _ hi => by simp at hi⟩, h⟩
theorem dev_empty (w : World) : DOwn (w.alloc (.cells #[] 96)) w.heap.size (.slice (some ⟨w.heap.size, 0, none⟩) 0 0) [] :=
  ⟨World.ownsRow_lit (e := 96) (size := 2) w #[] 0 (Nat.le_refl _) (by simp) rfl, fun b hb => by simp at hb, fun i j b b' a a' _ hi => by simp at hi⟩
theorem specNewDevice_no (m : Int) (w : World) (h : inB m 1 12 = false) : Calls Try.prog 91 #[.int .i64 m] w (DevMade [] 0 w) := by
  have HV := Lib.hid h
  have HO := Lib.hid (dev_empty w)
  clear h
  go_enter Try.func91, Try.ntmps91
  go_wp2
  go_loopw [3, 4] (fun v i wr => v = .slice (some ⟨w.heap.size, 0, none⟩) 0 0 ∧ i = .int .i64 0 ∧ wr = w.alloc (.cells #[] 96)) (fun _ _ _ => 0)
  case atStart => exact ⟨rfl, rfl, rfl⟩
  case round =>
    obtain ⟨rfl, rfl, rfl⟩ := hrel
    by_cases hm : 0 < m
    all_goals
      go_wp2_with (go_at_call 55; refine (in_any _ _ _ _).mono ?_; rintro e w' ⟨rfl, rfl⟩; rw [HV.out])
      go_ret
      exact ⟨_, _, [], rfl, rfl, rfl, HO.out, grown_alloc (grown_refl _ _) _⟩
theorem specNewDevice_yes (n : Nat) (w : World) (h : inB (n : Int) 1 12 = true) : Calls Try.prog 91 #[.int .i64 n] w (DevMade (zs n) n w) := by
  obtain ⟨h1, h12⟩ := inB_iff.1 h
  have HV := Lib.hid h
  have HO := Lib.hid (dev_empty w)
  clear h
  go_enter Try.func91, Try.ntmps91
  go_wp2
  go_loopw [3, 4] (fun v i wr => ∃ k : Nat, i = .int .i64 k ∧ CopyRel w (zs n) k v wr) (fun _ i _ => n - (intOf i).toNat)
  case atStart => exact ⟨0, rfl, Nat.zero_le _, [], rfl, rfl, HO.out, grown_alloc (grown_refl _ _) _⟩
  case round =>
    obtain ⟨k, rfl, hk, cs, hcl, hcs, ho, hg⟩ := hrel
    clear HO
    rw [zs_length] at hk
    by_cases hlt : k < n
    · have HX := Lib.hid (And.intro hg (And.intro ho (And.intro hcs hcl)))
      clear hg ho hcs hcl
      go_wp2_with (first | (go_at_call 55; refine (in_any _ _ _ _).mono ?_; rintro e w' ⟨rfl, rfl⟩; rw [HV.out]) | fail)
      refine (specNewBlock_any _ _ (by decide)).mono ?_
      rintro e w1 ⟨A1, d1, rfl, _, ho1, hk1⟩
      obtain ⟨v3, w3, hrun, ho3, hg3, _⟩ := append_block (w1.alloc (.cells #[.int .i64 0, .slice A1 4 d1] 96)) w.heap.size u3 cs.length 0 A1 4 d1 (bv cs) w1.heap.size ((HX.out.2.1.keep hk1).keep (grown_alloc (grown_refl _ none) _)).1 (Blk.new w1 _ _) (by have := HX.out.2.2.2; omega) (by have h1 := HX.out.1.size; have h2 := hk1.size; simp only [size_alloc1]; omega)
      have hk2 : wr.grownBy (w1.alloc (.cells #[.int .i64 0, .slice A1 4 d1] 96)) none := grown_trans hk1 (grown_alloc (grown_refl _ none) _)
      have hp1 : Own (w1.alloc (.cells #[.int .i64 0, .slice A1 4 d1] 96)) wr.heap.size (.slice A1 4 d1) [pz, pz, pz, pz] := ho1.keep (grown_alloc (grown_refl _ none) _)
      have hD := HX.out.2.1.push (m := 0) hk2 hp1 HX.out.1.size ho3 hg3
      have hG := grown_joinR (grown_trans HX.out.1 hk2) hg3 (fun g' e => (World.ownsRow.lt HX.out.2.1.1 g' e).1)
      have HY := Lib.hid (And.intro hD hG)
      have HRUN := Lib.hid hrun
      clear ho1 hk1 ho3 hg3 hk2 hp1 hD hG hrun
      go_wp2_with (at_builtin; refine wpList_append_run _ rfl (.tmp 15) (.tmp 17) _ _ rfl _ _ rfl rfl HRUN.out ?_)
      go_roundw
      case rel => exact ⟨k + 1, by go_num, by rw [zs_length]; omega, _, by simp [HX.out.2.2.2], by rw [List.map_append, HX.out.2.2.1, List.take_add_one, zs_at hlt, List.map_append]; rfl, HY.out.1, HY.out.2⟩
      case measure => simp [intOf]; omega
    · obtain rfl : k = n := by omega
      rw [List.take_of_length_le (by rw [zs_length]; omega)] at hcs
      rcases ho.form with ⟨_, e0⟩ | ⟨g, cap, rfl, _⟩
      · rw [e0] at hcl; simp at hcl; omega
      · rw [hcl] at ho
        have HX := Lib.hid (And.intro hg (And.intro ho (And.intro hcs hcl)))
        clear hg ho hcs hcl
        go_wp2
        go_ret
        exact ⟨some ⟨g, 0, none⟩, cap, cs, by show Ending.returned (.slice (some ⟨g, 0, none⟩) cs.length cap) = _; rw [HX.out.2.2.2], HX.out.2.2.2, HX.out.2.2.1, HX.out.2.1, HX.out.1⟩
end Go.Proofs.Ytfiajbkmklcaiaa
namespace Go.Proofs.Ytfiajbkmklcaiaa
open Go.ChangeShapes Go.WideShapes Go.ChangeAt Go.RowKit

/-- There is such a block. -/
def hasB (n : Nat) (a : Int) : Bool := decide (0 ≤ a) && decide (a < (n : Int))
theorem hasB_in {n : Nat} {a : Int} (h : hasB n a = false) : inB a 0 ((n : Int) - 1) = false := by
  cases h2 : inB a 0 ((n : Int) - 1)
  · rfl
  · obtain ⟨h3, h4⟩ := inB_iff.1 h2
    simp [hasB] at h
    omega
theorem devMade2_nil {w w' : World} {r : Value} (h : w.grownBy w' none) : DevMade2 [] 0 r w (.returned (.tuple #[.slice none 0 0, r])) w' := ⟨none, 0, [], rfl, rfl, rfl, ⟨World.ownsRow_nil _ _ _ _, fun b hb => by simp at hb, fun i j b b' a a' _ hi => by simp at hi⟩, h⟩
theorem devMade2_empty {w w' : World} {r : Value} (h : w.grownBy w' none) : DevMade2 [] 0 r w (.returned (.tuple #[.slice (some ⟨w'.heap.size, 0, none⟩) 0 0, r])) (w'.alloc (.cells #[] 96)) :=
  ⟨_, _, [], rfl, rfl, rfl, (dev_empty w').base_le h.size, grown_alloc h _⟩
end Go.Proofs.Ytfiajbkmklcaiaa
