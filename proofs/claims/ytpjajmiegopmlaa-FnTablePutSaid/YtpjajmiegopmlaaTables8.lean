/- What the program's emptyTable, copyTable, isNamedElsewhere, TableGet and TableChanges answer. -/
import Derived.Test.YtpjajmiegopmlaaTables7
namespace Go.Proofs.Ytpjajmiegopmlaa
open Go.ChangeShapes Go.WideShapes Go.ChangeAt Go.RowKit
set_option linter.unusedVariables false

theorem make_ints6 (w : World) : (Instr.makeSlice 56 (.int .i64 6) (.int .i64 6)).run Try.prog w = .ok (.slice (some ⟨w.heap.size, 0, none⟩) 6 6) (w.alloc (.cells (madeCells #[.int .i64 0] 6) 3)) := make_ints w 6 (by omega)
theorem make_lists8 (w : World) : (Instr.makeSlice 49 (.int .i64 8) (.int .i64 8)).run Try.prog w = .ok (.slice (some ⟨w.heap.size, 0, none⟩) 8 8) (w.alloc (.cells (madeCells #[.slice none 0 0] 8) 56)) := make_lists w 8 (by omega)
theorem listNo_any (w : World) : Calls Try.prog 130 #[] w fun e w' => ∃ g, e = .returned (.slice (some ⟨g, 0, none⟩) 6 6) ∧ IOwn w' w.heap.size (.slice (some ⟨g, 0, none⟩) 6 6) m6 ∧ w.grownBy w' none := by
  have hmk := fun W => make_ints6 W
  have HO := Lib.hid (And.intro (iown_made w w.heap.size 6 (Nat.le_refl _) (by simp [maxLen])) (grown_alloc (grown_refl w none) (.cells (madeCells #[.int .i64 0] 6) 3)))
  go_enter Try.func130, Try.ntmps130
  go_wp2
  go_loopw [2] (fun i wr => ∃ k : Nat, i = .int .i64 k ∧ k ≤ 6 ∧ (∃ xs, xs.length = 6 ∧ xs.take k = List.replicate k (-1) ∧ IOwn wr w.heap.size (.slice (some ⟨w.heap.size, 0, none⟩) 6 6) xs) ∧ w.grownBy wr none) (fun i _ => 6 - (intOf i).toNat)
  case atStart => exact ⟨0, rfl, Nat.zero_le _, ⟨_, by simp, rfl, HO.out.1⟩, HO.out.2⟩
  case round =>
    clear HO hmk
    obtain ⟨k, rfl, hk, ⟨xs, h6, ht, ho⟩, hg⟩ := hrel
    by_cases hlt : k < 6
    · have hk5 : (k : Int) ≤ 5 := by omega
      have hk7 : (k : Int) < 6 := by omega
      have hk0 : decide ((0 : Int) ≤ k) = true := decide_eq_true (by omega)
      obtain ⟨x, hx⟩ : ∃ x, xs[k]? = some x := ⟨_, List.getElem?_eq_getElem (by omega)⟩
      have c0 : wr.cell? ⟨w.heap.size, k, none⟩ = some (.int .i64 x) := VOwn.at_ ho (by rw [iv_length]; exact h6) (iv_at hx)
      have f0 : wr.frozen? ⟨w.heap.size, k, none⟩ = false := VOwn.frozen ho (by rw [iv_length]; exact h6) k
      have hs := VOwn.set ho (by rw [iv_length]; exact h6) k (.int .i64 (-1))
      rw [← iv_set] at hs
      have HZ := Lib.hid (And.intro (show (xs.set k (-1)).take (k + 1) = List.replicate (k + 1) (-1) by rw [List.take_add_one, List.take_set_of_le (Nat.le_refl _), List.getElem?_set_self (by omega), ht, List.replicate_succ']; rfl) (And.intro hs (And.intro (grown_put hg (p := ⟨w.heap.size, k, none⟩) (Nat.le_refl _) (.int .i64 (-1))) h6)))
      clear h6 ht ho hg hs hx
      go_wp2
      go_roundw
      case rel => exact ⟨k + 1, by go_num, by omega, ⟨_, by rw [List.length_set]; exact HZ.out.2.2.2, HZ.out.1, HZ.out.2.1⟩, HZ.out.2.2.1⟩
      case measure => simp [intOf]; omega
    · obtain rfl : k = 6 := by omega
      rw [List.take_of_length_le (by omega)] at ht
      have HZ := Lib.hid (And.intro ht (And.intro ho hg))
      clear h6 ht ho hg
      go_wp2
      go_ret
      exact ⟨_, rfl, by have h := HZ.out.2.1; rw [HZ.out.1] at h; exact h, HZ.out.2.2⟩
theorem noTab_at {k : Nat} (h : k < 8) : noTab[k]? = some m6 := by rw [noTab, List.getElem?_replicate, if_pos h]
/-- The loop that puts lists, at list k: the row lies in block G. -/
def FillR (w : World) (xss : List (List Int)) (G k : Nat) (wr : World) : Prop := k ≤ 8 ∧ (∃ cs, Filled xss 8 k cs ∧ TOwn wr w.heap.size (.slice (some ⟨G, 0, none⟩) 8 8) cs) ∧ w.grownBy wr none
theorem emptyTable_any (w : World) : Calls Try.prog 103 #[] w (TabMade noTab 8 w) := by
  have hmk := fun W => make_lists8 W
  have h1 := (Blk.new w 51 #[.slice none 0 0]).alloc (.cells (madeCells #[.slice none 0 0] 8) 56)
  have h2 := town_made (w.alloc (.cells #[.slice none 0 0] 51)) w.heap.size 8 (by simp) (by simp [maxLen])
  simp only [size_alloc1] at h2
  have HO := Lib.hid (And.intro h1 (And.intro h2 (grown_alloc (grown_alloc (grown_refl w none) (.cells #[.slice none 0 0] 51)) (.cells (madeCells #[.slice none 0 0] 8) 56))))
  clear h1 h2
  go_enter Try.func103, Try.ntmps103
  go_wp2
  go_loopw [2] (fun i wr => ∃ k : Nat, i = .int .i64 k ∧ FillR w noTab (w.heap.size + 1) k wr ∧ Blk wr w.heap.size 51 #[.slice none 0 0]) (fun i _ => 8 - (intOf i).toNat)
  case atStart => exact ⟨0, rfl, ⟨Nat.zero_le _, ⟨_, ⟨by simp, rfl⟩, HO.out.2.1⟩, HO.out.2.2⟩, HO.out.1⟩
  case round =>
    clear HO hmk
    obtain ⟨k, rfl, ⟨hk, ⟨cs, hF, ho⟩, hg⟩, hb⟩ := hrel
    by_cases hlt : k < 8
    · have hk8 : (k : Int) < 8 := by omega
      have hk0 : decide ((0 : Int) ≤ k) = true := decide_eq_true (by omega)
      have HX := Lib.hid (And.intro hF (And.intro ho (And.intro hg hb)))
      clear hF ho hg hb
      go_wp2_with fail
      refine (listNo_any wr).mono ?_
      rintro e w1 ⟨gl, rfl, ho1, hk1⟩
      have hD := HX.out.2.1.keep hk1
      obtain ⟨⟨A0, c0, x0⟩, hq⟩ : ∃ q, cs[k]? = some q := ⟨_, List.getElem?_eq_getElem (by have := HX.out.1.1; omega)⟩
      have d0 := hD.at_ HX.out.1.1 hq
      have d1 := hD.frozen HX.out.1.1 k
      have hP := HX.out.2.1.putl HX.out.1.1 hk1 ho1 rfl HX.out.2.2.1.size k
      have HZ := Lib.hid (And.intro (filled_step (A := some ⟨gl, 0, none⟩) (c := 6) HX.out.1 hlt (noTab_at hlt)) (And.intro hP (And.intro (grown_put (grown_trans HX.out.2.2.1 hk1) (p := ⟨w.heap.size + 1, k, none⟩) (by dsimp only; omega) (.slice (some ⟨gl, 0, none⟩) 6 6)) ((HX.out.2.2.2.keep hk1).far (p := ⟨w.heap.size + 1, k, none⟩) (by dsimp only; omega) (.slice (some ⟨gl, 0, none⟩) 6 6)))))
      clear hD hq hP ho1 hk1
      go_wp2
      go_roundw
      case rel => exact ⟨k + 1, by go_num, ⟨by omega, ⟨_, HZ.out.1, HZ.out.2.1⟩, HZ.out.2.2.1⟩, HZ.out.2.2.2⟩
      case measure => simp [intOf]; omega
    · obtain rfl : k = 8 := by omega
      have z0 : wr.cell? ⟨w.heap.size, 0, none⟩ = some (.slice none 0 0) := hb.cell 0
      have z1 : wr.frozen? ⟨w.heap.size, 0, none⟩ = false := hb.frozen 0
      have HZ := Lib.hid (And.intro hF.1 (And.intro (filled_all hF (by simp [noTab])) (And.intro (ho.put hb 0 (.slice (some ⟨w.heap.size + 1, 0, none⟩) 8 8)) (grown_put hg (p := ⟨w.heap.size, 0, none⟩) (Nat.le_refl _) (.slice (some ⟨w.heap.size + 1, 0, none⟩) 8 8)))))
      clear hF ho hg hb
      go_wp2
      exact bodyPost_ret (v := .agg #[.slice (some ⟨w.heap.size + 1, 0, none⟩) 8 8]) (by simp [results, Try.results103, go_sem, *]) rfl ⟨_, _, cs, rfl, HZ.out.1, HZ.out.2.1, HZ.out.2.2.1, HZ.out.2.2.2⟩
theorem copyTab_at (A : Option Addr) (n c : Nat) (ls : List Li) (w : World) (hl : ls.length = n) (hr : TRow w w.heap.size A ls) (hv : tabB (ll ls) = true) :
    Calls Try.prog 92 #[.agg #[.slice A n c]] w (TabMade (ll ls) 8 w) := by
  obtain ⟨h8, g, off, _, _, _, _, _, rfl, _⟩ := hr.open_ hv (show 0 < 8 by omega) (show 0 < 6 by omega)
  have en : n = 8 := by omega
  subst en
  have hmk := fun W => make_lists8 W
  have h0 := TIn2.start hr 8 c
  have h2 := town_made ((w.alloc (.cells #[.slice (some ⟨g, off, none⟩) 8 c] 51)).alloc (.cells #[.slice none 0 0] 51)) w.heap.size 8 (by simp only [size_alloc1]; omega) (by simp [maxLen])
  have h3 := h0.keep (grown_alloc (grown_refl _ none) (.cells (madeCells #[.slice none 0 0] 8) 56))
  simp only [size_alloc1] at h2
  have HO := Lib.hid (And.intro h2 h3)
  have b0 := h3.1.cell 0
  have HV := Lib.hid (And.intro hl hv)
  clear hl hr hv h0 h2 h3 h8
  go_enter Try.func92, Try.ntmps92
  go_wp2
  go_loopw [14] (fun i wr => ∃ k : Nat, i = .int .i64 k ∧ k ≤ 8 ∧ (∃ cs, Filled (ll ls) 8 k cs ∧ TOwn wr w.heap.size (.slice (some ⟨w.heap.size + 1 + 1, 0, none⟩) 8 8) cs) ∧ TIn2 w (some ⟨g, off, none⟩) 8 c ls wr) (fun i _ => 8 - (intOf i).toNat)
  case atStart => exact ⟨0, rfl, Nat.zero_le _, ⟨List.replicate 8 lz, ⟨by simp, rfl⟩, HO.out.1⟩, HO.out.2⟩
  case round =>
    clear HO hmk b0
    obtain ⟨k, rfl, hk, ⟨cs, hF, ho⟩, hT⟩ := hrel
    by_cases hlt : k < 8
    · have hk8 : (k : Int) < 8 := by omega
      have hk0 : decide ((0 : Int) ≤ k) = true := decide_eq_true (by omega)
      obtain ⟨gx, ox, cl, xs, hll, h6⟩ := hT.2.2.1.list HV.out.2 hlt
      have c0 := hT.2.2.1.cellf hll h6
      have hrow := hT.2.2.1.inner hll
      dsimp only at hrow
      have hmk := make_ints6 wr
      have hi0 := iown_made wr wr.heap.size 6 (Nat.le_refl _) (by simp [maxLen])
      obtain ⟨w3, hrun, ho3, hg3⟩ := copy_ints (wr.alloc (.cells (madeCells #[.int .i64 0] 6) 3)) wr.heap.size wr.heap.size 6 cl _ _ 6 _ xs h6 (by omega) hi0 (by simp) (VRow.alloc hrow _)
      have hk1 : wr.grownBy w3 none := grown_join (grown_alloc (grown_refl wr none) _) hg3 (Nat.le_refl _)
      have hD := ho.keep hk1
      obtain ⟨⟨A0, c1, x0⟩, hq⟩ : ∃ q, cs[k]? = some q := ⟨_, List.getElem?_eq_getElem (by have := hF.1; omega)⟩
      have d0 := hD.at_ hF.1 hq
      have d1 := hD.frozen hF.1 k
      have hP := ho.putl hF.1 hk1 ho3 h6 hT.2.2.2.size k
      have hT3 := (hT.keep hk1).far (p := ⟨w.heap.size + 1 + 1, k, none⟩) (by dsimp only; omega) (by dsimp only; omega) (by dsimp only; omega) (.slice (some ⟨wr.heap.size, 0, none⟩) 6 6)
      have HZ := Lib.hid (And.intro (filled_step (A := some ⟨wr.heap.size, 0, none⟩) (c := 6) hF hlt (ll_at hll)) (And.intro hP hT3))
      clear hF ho hT hll h6 hrow hi0 ho3 hg3 hk1 hD hq hP hT3
      go_wp2
      go_roundw
      case rel => exact ⟨k + 1, by go_num, by omega, ⟨_, HZ.out.1, HZ.out.2.1⟩, HZ.out.2.2⟩
      case measure => simp [intOf]; omega
    · obtain rfl : k = 8 := by omega
      have z0 : wr.cell? ⟨w.heap.size + 1, 0, none⟩ = some (.slice none 0 0) := hT.2.1.cell 0
      have z1 : wr.frozen? ⟨w.heap.size + 1, 0, none⟩ = false := hT.2.1.frozen 0
      have HZ := Lib.hid (And.intro hF.1 (And.intro (filled_all hF (by rw [ll_length]; exact HV.out.1)) (And.intro (ho.put hT.2.1 0 (.slice (some ⟨w.heap.size + 1 + 1, 0, none⟩) 8 8)) (grown_put hT.2.2.2 (p := ⟨w.heap.size + 1, 0, none⟩) (by dsimp only; omega) (.slice (some ⟨w.heap.size + 1 + 1, 0, none⟩) 8 8)))))
      clear hF ho hT
      go_wp2
      exact bodyPost_ret (v := .agg #[.slice (some ⟨w.heap.size + 1 + 1, 0, none⟩) 8 8]) (by simp [results, Try.results92, go_sem, *]) rfl ⟨_, _, cs, rfl, HZ.out.1, HZ.out.2.1, HZ.out.2.2.1, HZ.out.2.2.2⟩
theorem elsewhere_none (A : Option Addr) (n c : Nat) (ls : List Li) (f k : Int) (w : World) :
    Calls Try.prog 93 #[.agg #[.slice A n c], .int .i64 f, .int .i64 k, .int .i64 (-1)] w (KeptV (.bool false) w) := by
  go_enter Try.func93, Try.ntmps93
  go_wp2
  go_ret
  exact ⟨rfl, grown_alloc (grown_refl _ _) _⟩
/-- No cell before (f, k) but the one of the arguments has the number. -/
def NotYet (xss : List (List Int)) (f0 k0 : Nat) (x : Int) (f k : Nat) : Prop := ∀ f' k', cellO xss f' k' = some x → (f' < f ∨ (f' = f ∧ k' < k)) → f' = f0 ∧ k' = k0
theorem elsewhere_at (A : Option Addr) (n c : Nat) (ls : List Li) (f0 k0 : Nat) (x : Int) (V : Bool) (w : World) (hl : ls.length = n) (hr : TRow w w.heap.size A ls) (hv : tabB (ll ls) = true) (hf0 : f0 < 8) (hk0 : k0 < 6) (hx : x ≠ -1) (hV : V = true ↔ Elsewhere (ll ls) f0 k0 x) :
    Calls Try.prog 93 #[.agg #[.slice A n c], .int .i64 f0, .int .i64 k0, .int .i64 x] w (KeptV (.bool V) w) := by
  obtain ⟨h8, g, off, _, _, _, _, _, rfl, _⟩ := hr.open_ hv (show 0 < 8 by omega) (show 0 < 6 by omega)
  have en : n = 8 := by omega
  subst en
  have x1 : (x == -1) = false := by rw [beq_eq_false_iff_ne]; exact hx
  have HO := Lib.hid (And.intro (TIn.start hr 8 c) (And.intro hv (And.intro hV hx)))
  clear hl hr hv h8 hx hV
  go_enter Try.func93, Try.ntmps93
  go_wp2
  go_loopw [18] (fun i wr => ∃ f : Nat, i = .int .i64 f ∧ f ≤ 8 ∧ NotYet (ll ls) f0 k0 x f 0 ∧ TIn w (some ⟨g, off, none⟩) 8 c ls wr) (fun i _ => 8 - (intOf i).toNat)
  case atStart => exact ⟨0, rfl, Nat.zero_le _, fun f' k' _ h => by omega, HO.out.1⟩
  case round =>
    obtain ⟨f, rfl, hf, hN, hT⟩ := hrel
    by_cases hlt : f < 8
    · have hf8 : (f : Int) < 8 := by omega
      have hfz : decide ((0 : Int) ≤ f) = true := decide_eq_true (by omega)
      obtain ⟨gx, ox, cl, xs, hll, h6⟩ := hT.2.1.list HO.out.2.1 hlt
      have c0 := hT.2.1.cellf hll h6
      have HX := Lib.hid (And.intro hN (And.intro hT (And.intro hll h6)))
      clear hN hT hll h6
      go_wp2
      go_loopw [25] (fun i wr => ∃ k : Nat, i = .int .i64 k ∧ k ≤ 6 ∧ NotYet (ll ls) f0 k0 x f k ∧ TIn w (some ⟨g, off, none⟩) 8 c ls wr) (fun i _ => 6 - (intOf i).toNat)
      case atStart => exact ⟨0, rfl, Nat.zero_le _, HX.out.1, HX.out.2.1⟩
      case round =>
        clear c0
        obtain ⟨k, rfl, hk, hN, hT⟩ := hrel
        by_cases hk6 : k < 6
        · have hk8 : (k : Int) < 6 := by omega
          have hkz : decide ((0 : Int) ≤ k) = true := decide_eq_true (by omega)
          obtain ⟨y, hy⟩ : ∃ y, xs[k]? = some y := ⟨_, List.getElem?_eq_getElem (by have := HX.out.2.2.2; omega)⟩
          have d0 := (hT.2.1.inner HX.out.2.2.1).cellf hy
          have hc := cellO_of (ll_at HX.out.2.2.1) hy
          have HZ := Lib.hid (And.intro hN (And.intro hT hc))
          clear hN hT hy hc
          by_cases e : y = x
          · have e1 : (y == x) = true := by simp [e]
            by_cases ef : f = f0
            · have ef1 : ((f : Int) != f0) = false := by simp [ef]
              by_cases ek : k = k0
              · have ek1 : ((k : Int) != k0) = false := by simp [ek]
                have HE := Lib.hid (And.intro ef ek)
                clear ef ek e
                go_wp2
                go_roundw
                case rel =>
                  refine ⟨k + 1, by go_num, by omega, fun f' k' h h2 => ?_, HZ.out.2.1⟩
                  rcases Nat.lt_or_ge f' f with h3 | h3
                  · exact HZ.out.1 f' k' h (.inl h3)
                  · rcases Nat.lt_or_ge k' k with h4 | h4
                    · exact HZ.out.1 f' k' h (by omega)
                    · have := HE.out; omega
                case measure => simp [intOf]; omega
              · have ek1 : ((k : Int) != k0) = true := by simp; omega
                have HE := Lib.hid (HO.out.2.2.1.2 ⟨HO.out.2.2.2, f, k, by rw [← e]; exact HZ.out.2.2, .inr ek⟩)
                clear ef ek e
                go_wp2
                go_ret
                exact ⟨retB HE.out.symm, HZ.out.2.1.2.2⟩
            · have ef1 : ((f : Int) != f0) = true := by simp; omega
              have HE := Lib.hid (HO.out.2.2.1.2 ⟨HO.out.2.2.2, f, k, by rw [← e]; exact HZ.out.2.2, .inl ef⟩)
              clear ef e
              go_wp2
              go_ret
              exact ⟨retB HE.out.symm, HZ.out.2.1.2.2⟩
          · have e1 : (y == x) = false := by simp [e]
            have HE := Lib.hid e
            clear e
            go_wp2
            go_roundw
            case rel =>
              refine ⟨k + 1, by go_num, by omega, fun f' k' h h2 => ?_, HZ.out.2.1⟩
              rcases Nat.lt_or_ge f' f with h3 | h3
              · exact HZ.out.1 f' k' h (.inl h3)
              · rcases Nat.lt_or_ge k' k with h4 | h4
                · exact HZ.out.1 f' k' h (by omega)
                · obtain ⟨rfl, rfl⟩ : f' = f ∧ k' = k := by omega
                  rw [HZ.out.2.2] at h
                  injection h with h
                  exact absurd h HE.out
            case measure => simp [intOf]; omega
        · obtain rfl : k = 6 := by omega
          have HZ := Lib.hid (And.intro hN hT)
          clear hN hT
          go_wp2
          go_roundw
          case rel => exact ⟨f + 1, by go_num, by omega, fun f' k' h h2 => HZ.out.1 f' k' h (by have := (six_lt ((tabB_iff _).1 HO.out.2.1).six h).1; omega), HZ.out.2⟩
          case measure => simp [intOf]; omega
    · obtain rfl : f = 8 := by omega
      have HZ := Lib.hid (And.intro hN hT.2.2)
      clear hN hT
      have HE : RowKit.Hid (V = false) := Lib.hid (by
        cases hV : V
        · rfl
        · obtain ⟨_, f', k', hc, hd⟩ := HO.out.2.2.1.1 hV
          have h1 := (six_lt ((tabB_iff _).1 HO.out.2.1).six hc).2
          have h2 := ((tabB_iff _).1 HO.out.2.1).len
          have := HZ.out.1 f' k' hc (by omega)
          omega)
      go_wp2
      go_ret
      exact ⟨retB HE.out.symm, HZ.out.2⟩
theorem tableGet_any (A : Option Addr) (n c : Nat) (ls : List Li) (f k : Int) (w : World) (hl : ls.length = n) (hr : TRow w w.heap.size A ls) (hn : n ≤ 1048576) (hp : ∀ l, l ∈ ls → l.xs.length ≤ 1048576) :
    Calls Try.prog 31 #[.agg #[.slice A n c], .int .i64 f, .int .i64 k] w (KeptV (.int .i64 (tgetV (ll ls) f k)) w) := by
  have HT := Lib.hid (TIn.start hr n c)
  have HP := Lib.hid (And.intro hl hp)
  cases hv : tabB (ll ls)
  · have HV := Lib.hid (And.intro hv (tget_no (arg1 hv) : tgetV (ll ls) f k = -1))
    clear hl hr hp hv
    rw [HV.out.2]
    go_enter Try.func31, Try.ntmps31
    go_wp2_with fail
    refine (tabValid_val HV.out.1 HP.out.1 HT.out.2.1.here hn HP.out.2).mono ?_
    rintro e w1 ⟨rfl, hk⟩
    have HK := Lib.hid (HT.out.keep hk)
    clear hk
    go_wp2
    go_ret
    exact ⟨rfl, HK.out.2.2⟩
  · cases hf : inB f 0 7
    · have HV := Lib.hid (And.intro hv (And.intro hf (tget_no (arg2 hf) : tgetV (ll ls) f k = -1)))
      clear hl hr hp hv hf
      rw [HV.out.2.2]
      go_enter Try.func31, Try.ntmps31
      go_wp2_with fail
      refine (tabValid_val HV.out.1 HP.out.1 HT.out.2.1.here hn HP.out.2).mono ?_
      rintro e w1 ⟨rfl, hk⟩
      have HK := Lib.hid (HT.out.keep hk)
      clear hk
      go_wp2_with (go_at_call 87; refine (isFile_any _ _).mono ?_; rintro e w' ⟨rfl, rfl⟩; rw [HV.out.2.1])
      go_ret
      exact ⟨rfl, HK.out.2.2⟩
    · cases hk : inB k 0 5
      · have HV := Lib.hid (And.intro hv (And.intro hf (And.intro hk (tget_no (arg3 hk) : tgetV (ll ls) f k = -1))))
        clear hl hr hp hv hf hk
        rw [HV.out.2.2.2]
        go_enter Try.func31, Try.ntmps31
        go_wp2_with fail
        refine (tabValid_val HV.out.1 HP.out.1 HT.out.2.1.here hn HP.out.2).mono ?_
        rintro e w1 ⟨rfl, hk⟩
        have HK := Lib.hid (HT.out.keep hk)
        clear hk
        go_wp2_with (first | (go_at_call 87; refine (isFile_any _ _).mono ?_; rintro e w' ⟨rfl, rfl⟩; rw [HV.out.2.1]) | (go_at_call 88; refine (isFilePlace_any _ _).mono ?_; rintro e w' ⟨rfl, rfl⟩; rw [HV.out.2.2.1]))
        go_ret
        exact ⟨rfl, HK.out.2.2⟩
      · obtain ⟨fn, rfl, hf7⟩ := inB_nat (m := 7) hf
        obtain ⟨kn, rfl, hk5⟩ := inB_nat (m := 5) hk
        obtain ⟨h8, g, off, gx, ox, cl, xs, x, rfl, hll, h6, hx, hc⟩ := hr.open_ hv (show fn < 8 by omega) (show kn < 6 by omega)
        have hn8 : n = 8 := by omega
        subst hn8
        have HV := Lib.hid (And.intro hv (And.intro hf (And.intro hk (And.intro (tget_at (arg_yes hv hf hk) hc : tgetV (ll ls) fn kn = x) (And.intro hll (And.intro hx h6))))))
        have f0 : decide ((0 : Int) ≤ fn) = true := decide_eq_true (by omega)
        have f1 : (fn : Int) < 8 := by omega
        have k0 : decide ((0 : Int) ≤ kn) = true := decide_eq_true (by omega)
        have k1 : (kn : Int) < 6 := by omega
        clear hl hr hp hv hf hk hll hx hc h6 h8
        rw [HV.out.2.2.2.1]
        go_enter Try.func31, Try.ntmps31
        go_wp2_with fail
        refine (tabValid_val HV.out.1 HP.out.1 HT.out.2.1.here hn HP.out.2).mono ?_
        rintro e w1 ⟨rfl, hk⟩
        have HK := Lib.hid (HT.out.keep hk)
        clear hk
        have b0 : w1.cell? ⟨w.heap.size, 0, none⟩ = some (.slice (some ⟨g, off, none⟩) 8 c) := HK.out.1.cell 0
        have c0 := HK.out.2.1.cellf HV.out.2.2.2.2.1 HV.out.2.2.2.2.2.2
        have c1 := (HK.out.2.1.inner HV.out.2.2.2.2.1).cellf HV.out.2.2.2.2.2.1
        go_wp2_with (first | (go_at_call 87; refine (isFile_any _ _).mono ?_; rintro e w' ⟨rfl, rfl⟩; rw [HV.out.2.1]) | (go_at_call 88; refine (isFilePlace_any _ _).mono ?_; rintro e w' ⟨rfl, rfl⟩; rw [HV.out.2.2.1]))
        go_ret
        exact ⟨rfl, HK.out.2.2⟩
theorem chgP_no1 (A : Option Addr) (n c : Nat) (ls : List Li) (A' : Option Addr) (n' c' : Nat) (ls' : List Li) (w : World) (hl : ls.length = n) (hr : TRow w w.heap.size A ls) (hn : n ≤ 1048576) (hp : ∀ l, l ∈ ls → l.xs.length ≤ 1048576) (hl' : ls'.length = n') (hr' : TRow w w.heap.size A' ls') (hn' : n' ≤ 1048576) (hp' : ∀ l, l ∈ ls' → l.xs.length ≤ 1048576) (hv : tabB (ll ls) = false) :
    Calls Try.prog 38 #[.agg #[.slice A n c], .agg #[.slice A' n' c']] w (KeptV (.int .i64 (-1)) w) := by
  have HT := Lib.hid (TIn3.start hr hr' n c n' c')
  have HP := Lib.hid (And.intro hl (And.intro hp hv))
  clear hl hr hp hl' hr' hp' hv
  go_enter Try.func38, Try.ntmps38
  go_wp2_with fail
  refine (tabValid_val HP.out.2.2 HP.out.1 HT.out.2.2.1.here hn HP.out.2.1).mono ?_
  rintro e w1 ⟨rfl, hk⟩
  have HK := Lib.hid (HT.out.keep hk)
  clear hk
  go_wp2
  go_ret
  exact ⟨rfl, HK.out.2.2.2.2⟩
theorem chgP_no2 (A : Option Addr) (n c : Nat) (ls : List Li) (A' : Option Addr) (n' c' : Nat) (ls' : List Li) (w : World) (hl : ls.length = n) (hr : TRow w w.heap.size A ls) (hn : n ≤ 1048576) (hp : ∀ l, l ∈ ls → l.xs.length ≤ 1048576) (hl' : ls'.length = n') (hr' : TRow w w.heap.size A' ls') (hn' : n' ≤ 1048576) (hp' : ∀ l, l ∈ ls' → l.xs.length ≤ 1048576) (hv : tabB (ll ls) = true) (hv' : tabB (ll ls') = false) :
    Calls Try.prog 38 #[.agg #[.slice A n c], .agg #[.slice A' n' c']] w (KeptV (.int .i64 (-1)) w) := by
  have HT := Lib.hid (TIn3.start hr hr' n c n' c')
  have HP := Lib.hid (And.intro hl (And.intro hp (And.intro hv (And.intro hl' (And.intro hp' hv')))))
  clear hl hr hp hl' hr' hp' hv hv'
  go_enter Try.func38, Try.ntmps38
  go_wp2_with fail
  refine (tabValid_val HP.out.2.2.1 HP.out.1 HT.out.2.2.1.here hn HP.out.2.1).mono ?_
  rintro e w1 ⟨rfl, hk⟩
  have HK := Lib.hid (HT.out.keep hk)
  have b1 : w1.cell? ⟨w.heap.size + 1, 0, none⟩ = some (.slice A' n' c') := HK.out.2.1.cell 0
  clear hk
  go_wp2_with fail
  refine (tabValid_val HP.out.2.2.2.2.2 HP.out.2.2.2.1 HK.out.2.2.2.1.here hn' HP.out.2.2.2.2.1).mono ?_
  rintro e w2 ⟨rfl, hk⟩
  have HF := Lib.hid (HK.out.keep hk)
  clear hk
  go_wp2
  go_ret
  exact ⟨rfl, HF.out.2.2.2.2⟩
set_option maxHeartbeats 1000000 in
theorem chgP_yes (A : Option Addr) (n c : Nat) (ls : List Li) (A' : Option Addr) (n' c' : Nat) (ls' : List Li) (w : World) (hl : ls.length = n) (hr : TRow w w.heap.size A ls) (hn : n ≤ 1048576) (hp : ∀ l, l ∈ ls → l.xs.length ≤ 1048576) (hl' : ls'.length = n') (hr' : TRow w w.heap.size A' ls') (hn' : n' ≤ 1048576) (hp' : ∀ l, l ∈ ls' → l.xs.length ≤ 1048576) (hv : tabB (ll ls) = true) (hv' : tabB (ll ls') = true) :
    Calls Try.prog 38 #[.agg #[.slice A n c], .agg #[.slice A' n' c']] w (KeptV (.int .i64 (chgTo (ll ls) (ll ls') 48 : Nat)) w) := by
  obtain ⟨h8, g, off, _, _, _, _, _, rfl, _⟩ := hr.open_ hv (show 0 < 8 by omega) (show 0 < 6 by omega)
  obtain ⟨h8', g', off', _, _, _, _, _, rfl, _⟩ := hr'.open_ hv' (show 0 < 8 by omega) (show 0 < 6 by omega)
  have en : n = 8 := by omega
  have en' : n' = 8 := by omega
  subst en; subst en'
  have HT := Lib.hid (TIn3.start hr hr' 8 c 8 c')
  have HP := Lib.hid (And.intro hl (And.intro hp (And.intro hv (And.intro hl' (And.intro hp' hv')))))
  clear hl hr hp hl' hr' hp' hv hv' h8 h8'
  go_enter Try.func38, Try.ntmps38
  go_wp2_with fail
  refine (tabValid_val HP.out.2.2.1 HP.out.1 HT.out.2.2.1.here hn HP.out.2.1).mono ?_
  rintro e w1 ⟨rfl, hk⟩
  have HK := Lib.hid (HT.out.keep hk)
  have b1 : w1.cell? ⟨w.heap.size + 1, 0, none⟩ = some (.slice (some ⟨g', off', none⟩) 8 c') := HK.out.2.1.cell 0
  clear hk
  go_wp2_with fail
  refine (tabValid_val HP.out.2.2.2.2.2 HP.out.2.2.2.1 HK.out.2.2.2.1.here hn' HP.out.2.2.2.2.1).mono ?_
  rintro e w2 ⟨rfl, hk⟩
  have HF := Lib.hid (HK.out.keep hk)
  clear hk b1
  go_wp2
  go_loopw [5, 6] (fun m i wr => ∃ f : Nat, i = .int .i64 f ∧ f ≤ 8 ∧ m = .int .i64 (chgTo (ll ls) (ll ls') (6 * f) : Nat) ∧ TIn3 w (some ⟨g, off, none⟩) 8 c ls (some ⟨g', off', none⟩) 8 c' ls' wr) (fun _ i _ => 8 - (intOf i).toNat)
  case atStart => exact ⟨0, rfl, Nat.zero_le _, rfl, HF.out⟩
  case round =>
    clear HF HK HT
    obtain ⟨f, rfl, hf, rfl, hT⟩ := hrel
    by_cases hlt : f < 8
    · have hf8 : (f : Int) < 8 := by omega
      have hf0 : decide ((0 : Int) ≤ f) = true := decide_eq_true (by omega)
      obtain ⟨gx, ox, cl, xs, hll, h6⟩ := hT.2.2.1.list HP.out.2.2.1 hlt
      obtain ⟨gx', ox', cl', xs', hll', h6'⟩ := hT.2.2.2.1.list HP.out.2.2.2.2.2 hlt
      have HX := Lib.hid (And.intro hT (And.intro hll (And.intro h6 (And.intro hll' h6'))))
      clear hT hll h6 hll' h6'
      go_wp2
      go_loopw [5, 7] (fun m j wr => ∃ k : Nat, j = .int .i64 k ∧ k ≤ 6 ∧ m = .int .i64 (chgTo (ll ls) (ll ls') (6 * f + k) : Nat) ∧ TIn3 w (some ⟨g, off, none⟩) 8 c ls (some ⟨g', off', none⟩) 8 c' ls' wr) (fun _ j _ => 6 - (intOf j).toNat)
      case atStart => exact ⟨0, rfl, Nat.zero_le _, rfl, HX.out.1⟩
      case round =>
        obtain ⟨k, rfl, hk, rfl, hT⟩ := hrel
        by_cases hk6 : k < 6
        · have hk5 : (k : Int) ≤ 5 := by omega
          have hk0 : decide ((0 : Int) ≤ k) = true := decide_eq_true (by omega)
          have hk7 : (k : Int) < 6 := by omega
          have hx := List.getElem?_eq_getElem (l := xs) (i := k) (by have := HX.out.2.2.1; omega)
          have hy := List.getElem?_eq_getElem (l := xs') (i := k) (by have := HX.out.2.2.2.2; omega)
          obtain ⟨x, ex⟩ : ∃ x, x = xs[k]'(by have := HX.out.2.2.1; omega) := ⟨_, rfl⟩
          obtain ⟨y, ey⟩ : ∃ y, y = xs'[k]'(by have := HX.out.2.2.2.2; omega) := ⟨_, rfl⟩
          rw [← ex] at hx
          rw [← ey] at hy
          have st := chg_step hk6 (cellO_of (ll_at HX.out.2.1) hx) (cellO_of (ll_at HX.out.2.2.2.1) hy)
          have le := chgTo_le (ll ls) (ll ls') (6 * f + k)
          have b0 : wr.cell? ⟨w.heap.size, 0, none⟩ = some (.slice (some ⟨g, off, none⟩) 8 c) := hT.1.cell 0
          have b1 : wr.cell? ⟨w.heap.size + 1, 0, none⟩ = some (.slice (some ⟨g', off', none⟩) 8 c') := hT.2.1.cell 0
          have c0 := hT.2.2.1.cellf HX.out.2.1 HX.out.2.2.1
          have c1 := (hT.2.2.1.inner HX.out.2.1).cellf hx
          have c2 := hT.2.2.2.1.cellf HX.out.2.2.2.1 HX.out.2.2.2.2
          have c3 := (hT.2.2.2.1.inner HX.out.2.2.2.1).cellf hy
          have HZ := Lib.hid hT
          obtain ⟨m, hm⟩ : ∃ m, m = chgTo (ll ls) (ll ls') (6 * f + k) := ⟨_, rfl⟩
          rw [← hm] at st le ⊢
          have hm48 : m ≤ 48 := by omega
          clear hT hx hy ex ey le
          by_cases e : x = y
          · have e1 : (x != y) = false := by simp [e]
            rw [if_pos e] at st
            have HS := Lib.hid st
            clear st hm e
            go_wp2
            go_quiet (fail)
            all_goals go_wp2
            go_roundw
            case rel => exact ⟨k + 1, by go_num, by omega, by rw [← Nat.add_assoc, HS.out]; rfl, HZ.out.drewN _⟩
            case measure => simp [intOf]; omega
          · have e1 : (x != y) = true := by simp [e]
            rw [if_neg e] at st
            have HS := Lib.hid st
            clear st hm e
            go_wp2
            go_quiet (fail)
            all_goals go_wp2
            go_roundw
            case rel => exact ⟨k + 1, by go_num, by omega, by rw [← Nat.add_assoc, HS.out]; go_num, HZ.out.drewN _⟩
            case measure => simp [intOf]; omega
        · obtain rfl : k = 6 := by omega
          have HZ := Lib.hid hT
          clear hT
          go_wp2
          go_roundw
          case rel => exact ⟨f + 1, by go_num, by omega, by rw [show 6 * (f + 1) = 6 * f + 6 by omega], HZ.out⟩
          case measure => simp [intOf]; omega
    · obtain rfl : f = 8 := by omega
      have HZ := Lib.hid hT
      clear hT
      go_wp2
      go_ret
      exact ⟨rfl, HZ.out.2.2.2.2⟩
theorem chgP_any (A : Option Addr) (n c : Nat) (ls : List Li) (A' : Option Addr) (n' c' : Nat) (ls' : List Li) (w : World) (hl : ls.length = n) (hr : TRow w w.heap.size A ls) (hn : n ≤ 1048576) (hp : ∀ l, l ∈ ls → l.xs.length ≤ 1048576) (hl' : ls'.length = n') (hr' : TRow w w.heap.size A' ls') (hn' : n' ≤ 1048576) (hp' : ∀ l, l ∈ ls' → l.xs.length ≤ 1048576) :
    Calls Try.prog 38 #[.agg #[.slice A n c], .agg #[.slice A' n' c']] w (KeptV (.int .i64 (chgV (ll ls) (ll ls'))) w) := by
  cases hv : tabB (ll ls)
  · rw [chg_no1 hv]
    exact chgP_no1 A n c ls A' n' c' ls' w hl hr hn hp hl' hr' hn' hp' hv
  cases hv' : tabB (ll ls')
  · rw [chg_no2 hv']
    exact chgP_no2 A n c ls A' n' c' ls' w hl hr hn hp hl' hr' hn' hp' hv hv'
  rw [chg_yes hv hv']
  exact chgP_yes A n c ls A' n' c' ls' w hl hr hn hp hl' hr' hn' hp' hv hv'
end Go.Proofs.Ytpjajmiegopmlaa
