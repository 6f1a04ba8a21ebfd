/- What the program's TableValid answers. -/
import Derived.Test.YtpjajmiegopmlaaLists
import Derived.Test.YtpjajmiegopmlaaTables6
namespace Go.Proofs.Ytpjajmiegopmlaa
open Go.ChangeShapes Go.WideShapes Go.ChangeAt Go.RowKit
set_option linter.unusedVariables false

theorem isPage_any (x : Int) (w : World) : Calls Try.prog 91 #[.int .i64 x] w fun e w' => e = .returned (.bool (inB x (-1) 47)) ∧ w = w' := by
  go_enter Try.func91, Try.ntmps91
  go_wp2
  all_goals (go_ret; refine ⟨retB ?_, rfl⟩; rw [Bool.eq_iff_iff]; simp [inB]; omega)
/-- Every file has a list with a number for every place. -/
def sixB (xss : List (List Int)) : Bool := decide (xss.length = 8) && xss.all (fun l => decide (l.length = 6))
theorem six_no {xss : List (List Int)} (h : xss.length ≠ 8) : sixB xss = false := by simp [sixB, h]
theorem six_len {xss : List (List Int)} {f : Nat} {xs : List Int} (h : xss[f]? = some xs) (h6 : xs.length ≠ 6) : sixB xss = false := by
  have : xss.all (fun l => decide (l.length = 6)) = false := by
    rw [List.all_eq_false]
    exact ⟨xs, List.mem_of_getElem? h, by simp [h6]⟩
  simp [sixB, this]
theorem six_yes {xss : List (List Int)} (h8 : xss.length = 8) (h : ∀ (j : Nat) (xs : List Int), xss[j]? = some xs → xs.length = 6) : sixB xss = true := by
  simp only [sixB, h8, decide_true, Bool.true_and, List.all_eq_true]
  intro xs hx
  obtain ⟨j, hj⟩ := List.getElem?_of_mem hx
  simp [h j xs hj]
theorem allPlaces_any (A : Option Addr) (n c : Nat) (ls : List Li) (w : World) (hl : ls.length = n) (hr : TRow w w.heap.size A ls) (hn : n ≤ 1048576) :
    Calls Try.prog 89 #[.agg #[.slice A n c]] w (KeptV (.bool (sixB (ll ls))) w) := by
  have HT := Lib.hid (And.intro (TIn.start hr n c) hl)
  clear hr hl
  go_enter Try.func89, Try.ntmps89
  by_cases h8 : n = 8
  · subst h8
    go_wp2
    go_loopw [12] (fun i wr => ∃ f : Nat, i = .int .i64 f ∧ f ≤ 8 ∧ (∀ (j : Nat) (l : Li), j < f → ls[j]? = some l → l.xs.length = 6) ∧ TIn w A 8 c ls wr) (fun i _ => 8 - (intOf i).toNat)
    case atStart => exact ⟨0, rfl, Nat.zero_le _, fun j _ hj => absurd hj (by omega), HT.out.1⟩
    case round =>
      obtain ⟨f, rfl, hf, hj, hT⟩ := hrel
      by_cases hlt : f < 8
      · have hf8 : (f : Int) < 8 := by omega
        have hf0 : decide ((0 : Int) ≤ f) = true := decide_eq_true (by omega)
        obtain ⟨g, off, rfl⟩ := hT.2.1.pos (by have := HT.out.2; omega)
        obtain ⟨⟨Al, cl, xs⟩, hll⟩ : ∃ l, ls[f]? = some l := ⟨_, List.getElem?_eq_getElem (by have := HT.out.2; omega)⟩
        have c0 := hT.2.1.cellf hll rfl
        have HX := Lib.hid (And.intro hj (And.intro hT hll))
        clear hj hT hll
        by_cases h6 : xs.length = 6
        · have t6 : ((xs.length : Int) != 6) = false := by simp; omega
          have H6 := Lib.hid h6
          clear h6
          go_wp2
          go_roundw
          case rel =>
            refine ⟨f + 1, by go_num, by omega, fun j l hj hl => ?_, HX.out.2.1⟩
            rcases Nat.lt_or_ge j f with h1 | h1
            · exact HX.out.1 j l h1 hl
            · obtain rfl : j = f := by omega
              rw [HX.out.2.2] at hl
              injection hl with hl
              subst hl
              exact H6.out
          case measure => simp [intOf]; omega
        · have t6 : ((xs.length : Int) != 6) = true := by simp; omega
          have HZ := Lib.hid (six_len (ll_at HX.out.2.2) h6)
          clear h6
          go_wp2
          go_ret
          exact ⟨retB HZ.out.symm, HX.out.2.1.2.2⟩
      · obtain rfl : f = 8 := by omega
        have HZ := Lib.hid (And.intro (six_yes (xss := ll ls) (by rw [ll_length]; exact HT.out.2) (fun j xs hx => by
          obtain ⟨Al, cl, hl⟩ := ll_get hx
          exact hj j _ (by have := (List.getElem?_eq_some_iff.1 hl).1; have := HT.out.2; omega) hl)) hT.2.2)
        clear hj hT
        go_wp2
        go_ret
        exact ⟨retB HZ.out.1.symm, HZ.out.2⟩
  · have t8 : ((n : Int) != 8) = true := by simp; omega
    have HZ := Lib.hid (And.intro (six_no (xss := ll ls) (by rw [ll_length, HT.out.2]; exact h8)) HT.out.1.2.2)
    clear h8
    go_wp2
    go_ret
    exact ⟨retB HZ.out.1.symm, HZ.out.2⟩
/-- The loop over the lists, at list f. -/
def OnceRel (w : World) (A : Option Addr) (c : Nat) (ls : List Li) (f : Nat) (wr : World) : Prop :=
  f ≤ ls.length ∧ (∃ P, flatB [] (ll ls).flatten = flatB P ((ll ls).drop f).flatten ∧ Seen wr (w.heap.size + 1) P) ∧ TRow wr w.heap.size A ls ∧ w.grownBy wr none
/-- The loop over the numbers of list f, at number k. -/
def OnceRel2 (w : World) (A : Option Addr) (c : Nat) (ls : List Li) (f : Nat) (xs : List Int) (k : Nat) (wr : World) : Prop :=
  k ≤ xs.length ∧ (∃ P, flatB [] (ll ls).flatten = flatB P (xs.drop k ++ ((ll ls).drop (f + 1)).flatten) ∧ Seen wr (w.heap.size + 1) P) ∧ TRow wr w.heap.size A ls ∧ w.grownBy wr none
theorem pagesOnce_any (A : Option Addr) (n c : Nat) (ls : List Li) (w : World) (hl : ls.length = n) (hr : TRow w w.heap.size A ls) (hn : n ≤ 1048576) (hp : ∀ l, l ∈ ls → l.xs.length ≤ 1048576) :
    Calls Try.prog 90 #[.agg #[.slice A n c]] w (KeptV (.bool (flatB [] (ll ls).flatten)) w) := by
  subst hl
  have hmk := make_seen (w.alloc (.cells #[.slice A ls.length c] 51))
  have hs0 := Seen.new (w.alloc (.cells #[.slice A ls.length c] 51))
  have hb0 := (Blk.new w 51 #[.slice A ls.length c]).alloc (.cells (madeCells #[.bool false] 48) 4)
  have b0 := hb0.cell 0
  simp only [size_alloc1] at hs0 hmk
  have HR := Lib.hid hp
  have HS := Lib.hid (And.intro hs0 (hr.alloc (.cells #[.slice A ls.length c] 51)).alloc)
  clear hr hp hs0 hb0
  go_enter Try.func90, Try.ntmps90
  go_wp2
  go_loopw [12] (fun i wr => ∃ f : Nat, i = .int .i64 f ∧ OnceRel w A c ls f wr) (fun i _ => ls.length - (intOf i).toNat)
  case atStart => exact ⟨0, rfl, Nat.zero_le _, ⟨[], rfl, HS.out.1⟩, HS.out.2 _, grown_alloc (grown_alloc (grown_refl _ _) _) _⟩
  case round =>
    clear HS hmk b0
    obtain ⟨f, rfl, hf, ⟨P, hP, hs⟩, hT, hg⟩ := hrel
    by_cases hlt : f < ls.length
    · have hf8 : (f : Int) < ls.length := by omega
      have hf0 : decide ((0 : Int) ≤ f) = true := decide_eq_true (by omega)
      obtain ⟨g, off, rfl⟩ := hT.pos (by omega)
      obtain ⟨⟨Al, cl, xs⟩, hll⟩ : ∃ l, ls[f]? = some l := ⟨_, List.getElem?_eq_getElem hlt⟩
      have c0 := hT.cellf hll rfl
      have hpl := HR.out _ (List.mem_of_getElem? hll)
      dsimp only at hpl
      rw [flatten_at (ll_at hll)] at hP
      have HX := Lib.hid hll
      have HS := Lib.hid (show OnceRel2 w (some ⟨g, off, none⟩) c ls f xs 0 wr from ⟨Nat.zero_le _, ⟨P, hP, hs⟩, hT, hg⟩)
      clear hll hP hs hT hg
      go_wp2
      go_loopw [18] (fun i wr => ∃ k : Nat, i = .int .i64 k ∧ OnceRel2 w (some ⟨g, off, none⟩) c ls f xs k wr) (fun i _ => xs.length - (intOf i).toNat)
      case atStart => exact ⟨0, rfl, HS.out⟩
      case round =>
        clear HS c0
        obtain ⟨k, rfl, hk, ⟨Q, hQ, hs⟩, hT, hg⟩ := hrel
        by_cases hkl : k < xs.length
        · have hk8 : (k : Int) < xs.length := by omega
          have hk0 : decide ((0 : Int) ≤ k) = true := decide_eq_true (by omega)
          obtain ⟨gx, ox, e⟩ := IRow.pos (hT.inner HX.out) (by show 0 < xs.length; omega)
          dsimp only at e
          subst e
          obtain ⟨x, hx⟩ : ∃ x, xs[k]? = some x := ⟨_, List.getElem?_eq_getElem hkl⟩
          have d0 := (hT.inner HX.out).cellf hx
          rw [drop_cons hx ((ll ls).drop (f + 1)).flatten] at hQ
          clear hx
          cases hin : inB x (-1) 47
          · have HZ := Lib.hid (And.intro (hQ.trans (flat_out hin)) (And.intro hg hin))
            clear hQ hg hs hT hin
            go_wp2_with (go_at_call 91; refine (isPage_any _ _).mono ?_; rintro e w' ⟨rfl, rfl⟩; rw [HZ.out.2.2])
            go_ret
            exact ⟨retB HZ.out.1.symm, HZ.out.2.1⟩
          · by_cases hx0 : 0 ≤ x
            · obtain ⟨v, rfl⟩ := Int.eq_ofNat_of_zero_le hx0
              have hv : v < 48 := by have := inB_iff.1 hin; omega
              have s0 : wr.cell? ⟨w.heap.size + 1, v, none⟩ = some (.bool (Q.contains (v : Int))) := World.rowIs.cell hs hv
              have v1 : ((v : Int) == -1) = false := by rw [beq_eq_false_iff_ne]; omega
              have v2 : decide ((0 : Int) ≤ v) = true := decide_eq_true (by omega)
              have v3 : (v : Int) < 48 := by omega
              cases hc : Q.contains (v : Int)
              · rw [hc] at s0
                have f0 : wr.frozen? ⟨w.heap.size + 1, v, none⟩ = false := World.rowIs.frozen hs v
                have HZ := Lib.hid (And.intro (hQ.trans (flat_new hin hc)) (And.intro (hs.put (v := v)) (And.intro (hT.put (p := ⟨w.heap.size + 1, v, none⟩) (by dsimp only; omega) (.bool true)) (And.intro (grown_put hg (p := ⟨w.heap.size + 1, v, none⟩) (by dsimp only; omega) (.bool true)) hin))))
                clear hQ hg hs hT hc hin
                go_wp2_with (go_at_call 91; refine (isPage_any _ _).mono ?_; rintro e w' ⟨rfl, rfl⟩; rw [HZ.out.2.2.2.2])
                go_roundw
                case rel => exact ⟨k + 1, by go_num, by omega, ⟨_, HZ.out.1, HZ.out.2.1⟩, HZ.out.2.2.1, HZ.out.2.2.2.1⟩
                case measure => simp [intOf]; omega
              · rw [hc] at s0
                have HZ := Lib.hid (And.intro (hQ.trans (flat_twice hc hx0)) (And.intro hg hin))
                clear hQ hg hs hT hc hin
                go_wp2_with (go_at_call 91; refine (isPage_any _ _).mono ?_; rintro e w' ⟨rfl, rfl⟩; rw [HZ.out.2.2])
                go_ret
                exact ⟨retB HZ.out.1.symm, HZ.out.2.1⟩
            · have ex : x = -1 := by have := inB_iff.1 hin; omega
              subst ex
              have HZ := Lib.hid (And.intro (hQ.trans (flat_neg hin hx0)) (And.intro (hs.neg hx0) (And.intro hT (And.intro hg hin))))
              clear hQ hg hs hT hin
              go_wp2_with (go_at_call 91; refine (isPage_any _ _).mono ?_; rintro e w' ⟨rfl, rfl⟩; rw [HZ.out.2.2.2.2])
              go_roundw
              case rel => exact ⟨k + 1, by go_num, by omega, ⟨_, HZ.out.1, HZ.out.2.1⟩, HZ.out.2.2.1, HZ.out.2.2.2.1⟩
              case measure => simp [intOf]; omega
        · obtain rfl : k = xs.length := by omega
          rw [List.drop_length, List.nil_append] at hQ
          have HZ := Lib.hid (And.intro hQ (And.intro hs (And.intro hT hg)))
          clear hQ hs hT hg
          go_wp2
          go_roundw
          case rel => exact ⟨f + 1, by go_num, by omega, ⟨_, HZ.out.1, HZ.out.2.1⟩, HZ.out.2.2.1, HZ.out.2.2.2⟩
          case measure => simp [intOf]; omega
    · obtain rfl : f = ls.length := by omega
      have e : (ll ls).drop ls.length = [] := by rw [← ll_length, List.drop_length]
      rw [e] at hP
      have HZ := Lib.hid (And.intro hP hg)
      clear hP hs hT hg e
      go_wp2
      go_ret
      exact ⟨retB (by rw [HZ.out.1]; rfl), HZ.out.2⟩
theorem tabB_parts (xss : List (List Int)) : tabB xss = (sixB xss && flatB [] xss.flatten) := by simp [tabB, sixB]
theorem tabValid_any (A : Option Addr) (n c : Nat) (ls : List Li) (w : World) (hl : ls.length = n) (hr : TRow w w.heap.size A ls) (hn : n ≤ 1048576) (hp : ∀ l, l ∈ ls → l.xs.length ≤ 1048576) :
    Calls Try.prog 33 #[.agg #[.slice A n c]] w (KeptV (.bool (tabB (ll ls))) w) := by
  have HT := Lib.hid (TIn.start hr n c)
  have HP := Lib.hid (And.intro hl hp)
  clear hr hl hp
  cases ha : sixB (ll ls)
  · have HV := Lib.hid (And.intro ha (show tabB (ll ls) = false by rw [tabB_parts, ha]; rfl))
    clear ha
    rw [HV.out.2]
    go_enter Try.func33, Try.ntmps33
    go_wp2_with fail
    refine (allPlaces_any _ _ _ ls _ HP.out.1 HT.out.2.1.here hn).mono ?_
    rw [HV.out.1]
    rintro e w1 ⟨rfl, hk⟩
    have HK := Lib.hid (HT.out.keep hk)
    clear hk
    go_wp2
    go_ret
    exact ⟨rfl, HK.out.2.2⟩
  · have HV := Lib.hid (And.intro ha (show tabB (ll ls) = flatB [] (ll ls).flatten by rw [tabB_parts, ha]; rfl))
    clear ha
    rw [HV.out.2]
    go_enter Try.func33, Try.ntmps33
    go_wp2_with fail
    refine (allPlaces_any _ _ _ ls _ HP.out.1 HT.out.2.1.here hn).mono ?_
    rw [HV.out.1]
    rintro e w1 ⟨rfl, hk⟩
    have HK := Lib.hid (HT.out.keep hk)
    have b0 : w1.cell? ⟨w.heap.size, 0, none⟩ = some (.slice A n c) := HK.out.1.cell 0
    clear hk
    go_wp2_with fail
    refine (pagesOnce_any _ _ _ ls _ HP.out.1 HK.out.2.1.here hn HP.out.2).mono ?_
    rintro e w2 ⟨rfl, hk⟩
    have HF := Lib.hid (HK.out.keep hk)
    clear hk
    go_wp2
    go_ret
    exact ⟨rfl, HF.out.2.2⟩
theorem tabValid_val {A : Option Addr} {n c : Nat} {ls : List Li} {w : World} {V : Bool} (hv : tabB (ll ls) = V) (hl : ls.length = n) (hr : TRow w w.heap.size A ls) (hn : n ≤ 1048576) (hp : ∀ l, l ∈ ls → l.xs.length ≤ 1048576) :
    Calls Try.prog 33 #[.agg #[.slice A n c]] w (KeptV (.bool V) w) := hv ▸ tabValid_any A n c ls w hl hr hn hp
end Go.Proofs.Ytpjajmiegopmlaa
