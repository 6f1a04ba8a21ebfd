/- What the program's NamesValid and FindName answer.
   What the program's FindName answers, and its helpers that make names.
   What the program's helpers of names make: a copy, names with a further one, names without a text.
   What the program's PutName and DropName answer. -/
import Derived.Test.YtengcjglkcmkbaaPairName
import Derived.Test.YtengcjglkcmkbaaNamesPlain
import Derived.Test.YtengcjglkcmkbaaTextImpl
import Derived.BigQuiet
namespace Go.Proofs.Ytengcjglkcmkbaa
open Go.ChangeShapes Go.WideShapes Go.ChangeAt Go.RowKit
set_option linter.unusedVariables false
set_option linter.unusedSimpArgs false

theorem isName_val {a : ByteArray} {b : Int} {V : Bool} (h : okN ⟨a, b⟩ = V) (w : World) (hz : a.size ≤ 9223372036854775807) :
    Calls Try.prog 48 #[.agg #[.string a, .int .i64 b]] w (KeptV (.bool V) w) := by
  subst h
  cases ht : txtB a
  · have HV := Lib.hid (show okN ⟨a, b⟩ = false by simp [okN, bk_iff, ht])
    have HT := Lib.hid ht
    clear ht
    go_enter Try.func48, Try.ntmps48
    go_wp2_with (go_at_call 16; with_reducible refine (textValid_any a _ hz).mono ?_; rintro e w' ⟨rfl, rfl⟩; rw [HT.out])
    go_ret
    exact ⟨retB HV.out.symm, grown_alloc (grown_refl _ _) _⟩
  · have HV := Lib.hid (show okN ⟨a, b⟩ = inB b 0 7 by simp [okN, bk_iff, ht])
    have HT := Lib.hid ht
    clear ht
    go_enter Try.func48, Try.ntmps48
    go_wp2_with (first | (go_at_call 16; with_reducible refine (textValid_any a _ hz).mono ?_; rintro e w' ⟨rfl, rfl⟩; rw [HT.out]) | (go_at_call 59; with_reducible refine (isFile_any b _).mono ?_; rintro e w' ⟨rfl, rfl⟩))
    go_ret
    exact ⟨retB HV.out.symm, grown_alloc (grown_refl _ _) _⟩
theorem before_any (a b : ByteArray) (w : World) (ha : a.size ≤ 9223372036854775807) (hb : b.size ≤ 9223372036854775807) :
    Calls Try.prog 49 #[.string a, .string b] w fun e w' => e = .returned (.bool (befT a b)) ∧ w' = w := by
  obtain ⟨U, hU⟩ : ∃ U, bkV a = U := ⟨_, rfl⟩
  obtain ⟨V, hV⟩ : ∃ V, bkV b = V := ⟨_, rfl⟩
  have HB := Lib.hid (And.intro hU hV)
  cases he : (U == V)
  · have h1 : (U != V) = true := by simp [bne, he]
    have HX := Lib.hid (show befT a b = decide (U < V) by simp [befT, hU, hV, he])
    clear hU hV he
    go_enter Try.func49, Try.ntmps49
    go_wp2_with (first | (go_at_call 20; with_reducible refine (bucket_any a _ ha).mono ?_; rintro e w' ⟨rfl, rfl⟩; rw [HB.out.1]) | (go_at_call 20; with_reducible refine (bucket_any b _ hb).mono ?_; rintro e w' ⟨rfl, rfl⟩; rw [HB.out.2]))
    go_ret
    exact ⟨retB HX.out.symm, rfl⟩
  · have h1 : (U != V) = false := by simp [bne, he]
    have HX := Lib.hid (show befT a b = Op.bytesLess a.toList b.toList by have := eq_of_beq he; simp [befT, hU, hV, this])
    clear hU hV he
    go_enter Try.func49, Try.ntmps49
    go_wp2_with (first | (go_at_call 20; with_reducible refine (bucket_any a _ ha).mono ?_; rintro e w' ⟨rfl, rfl⟩; rw [HB.out.1]) | (go_at_call 20; with_reducible refine (bucket_any b _ hb).mono ?_; rintro e w' ⟨rfl, rfl⟩; rw [HB.out.2]))
    go_ret
    exact ⟨retB HX.out.symm, rfl⟩
theorem before_val {a b : ByteArray} {V : Bool} (h : befT a b = V) (w : World) (ha : a.size ≤ 9223372036854775807) (hb : b.size ≤ 9223372036854775807) :
    Calls Try.prog 49 #[.string a, .string b] w fun e w' => e = .returned (.bool V) ∧ w' = w := h ▸ before_any a b w ha hb
theorem bucket_val {a : ByteArray} {V : Int} (h : bkV a = V) (w : World) (ha : a.size ≤ 9223372036854775807) :
    Calls Try.prog 20 #[.string a] w fun e w' => e = .returned (.int .i64 V) ∧ w' = w := h ▸ (bucket_any a w ha).mono fun _ _ q => ⟨q.1, q.2.symm⟩
set_option maxHeartbeats 2000000 in
theorem namesValid_any (A : Option Addr) (n c : Nat) (ps : List Nm) (w : World) (hl : ps.length = n) (hr : NRow w w.heap.size A ps) (hn : n ≤ 1048577) (hs : ∀ (k : Nat) p, ps[k]? = some p → p.a.size ≤ 9223372036854775807) :
    Calls Try.prog 23 #[.slice A n c] w (KeptV (.bool (nmB ps)) w) := by
  subst hl
  have HR := Lib.hid (And.intro hr hs)
  clear hr hs
  go_enter Try.func23, Try.ntmps23
  go_wp2
  go_loopw [3] (fun i wr => ∃ k : Nat, k ≤ ps.length ∧ i = .int .i64 k ∧ (∀ j, j < k → nmStepB ps j = true) ∧ w.grownBy wr none) (fun i _ => ps.length - (intOf i).toNat)
  case atStart => exact ⟨0, Nat.zero_le _, rfl, fun j hj => absurd hj (by omega), grown_refl _ _⟩
  case round =>
    rename World => wq
    obtain ⟨k, hk, rfl, hall, hg⟩ := hrel
    by_cases hlt : k < ps.length
    · have h1 := HR.out.1.kept hg
      obtain ⟨g, off, rfl, _⟩ := h1.pos (by omega)
      obtain ⟨⟨a, b⟩, hp⟩ : ∃ p, ps[k]? = some p := ⟨_, List.getElem?_eq_getElem hlt⟩
      obtain ⟨c0, c1⟩ := h1.cellf hp
      have za := HR.out.2 _ _ hp
      dsimp only at c0 c1 za
      have hk0 : decide ((0 : Int) ≤ k) = true := decide_eq_true (by omega)
      have hk1 : (k : Int) < ps.length := by omega
      have HG := Lib.hid (And.intro hg hall)
      clear hg hall h1
      cases ho : okN ⟨a, b⟩
      · have HX := Lib.hid (And.intro ho (nm_bad hlt (show nmStepB ps k = false by cases hs : nmStepB ps k with
          | false => rfl
          | true => have := (nm_at hs hp).1; rw [ho] at this; cases this)))
        clear ho hp
        go_wp2_with fail
        refine (isName_val HX.out.1 _ za).mono ?_
        rintro e w2 ⟨rfl, hk2⟩
        have HK := Lib.hid (grown_trans HG.out.1 hk2)
        clear hk2
        go_wp2
        go_ret
        exact ⟨retB HX.out.2.symm, HK.out⟩
      by_cases hkz : k = 0
      · have hk2 : decide ((0 : Int) < (k : Int)) = false := decide_eq_false (by omega)
        have hk3 : decide ((3 : Int) ≤ (k : Int)) = false := decide_eq_false (by omega)
        have hk4 : decide (0 < k) = false := decide_eq_false (by omega)
        have hk5 : decide (3 ≤ k) = false := decide_eq_false (by omega)
        have HX := Lib.hid (And.intro ho (show nmStepB ps k = true by subst hkz; simp only [nmStepB, hp, Bool.and_true]; exact ho))
        have HKZ := Lib.hid hkz
        clear ho hp hkz
        go_wp2_with fail
        refine (isName_val HX.out.1 _ za).mono ?_
        rintro e w2 ⟨rfl, hk2'⟩
        have HK := Lib.hid (grown_trans HG.out.1 hk2')
        clear hk2'
        go_wp2_with fail
        go_quiet (fail)
        go_wp2_with fail
        go_quiet (fail)
        go_wp2
        go_roundw
        case rel => exact ⟨k + 1, by omega, by go_num, fun j hj => by obtain rfl : j = k := by (have := HKZ.out; omega)
                                                                      exact HX.out.2, grown_drewN HK.out _⟩
        case measure => simp [intOf]; omega
      · obtain ⟨⟨a', b'⟩, hq⟩ : ∃ q, ps[k - 1]? = some q := ⟨_, List.getElem?_eq_getElem (by omega)⟩
        have zq := HR.out.2 _ _ hq
        dsimp only at zq
        have HP := Lib.hid (And.intro hp hq)
        have hk2 : decide ((0 : Int) < (k : Int)) = true := decide_eq_true (by omega)
        have hk4 : decide (0 < k) = true := decide_eq_true (by omega)
        have hk6 : decide ((0 : Int) ≤ (k : Int) - 1) = true := decide_eq_true (by omega)
        have hk7 : (k : Int) - 1 < ps.length := by omega
        have HO := Lib.hid ho
        clear ho
        cases hbf : befT a' a
        · have HX := Lib.hid (And.intro hbf (nm_bad hlt (nmStep_q hp (by omega) hq (by rw [bef_step]; exact hbf))))
          clear hp hq hbf
          go_wp2_with fail
          refine (isName_val HO.out _ za).mono ?_
          rintro e w2 ⟨rfl, hk2'⟩
          have HK := Lib.hid (grown_trans HG.out.1 hk2')
          clear hk2' c0 c1
          obtain ⟨c0, c1⟩ := (HR.out.1.kept HK.out).cellf HP.out.1
          obtain ⟨d0, d1⟩ := (HR.out.1.kept HK.out).cellf HP.out.2
          dsimp only at c0 c1 d0 d1
          go_wp2_with fail
          go_quiet ((go_at_call 49; with_reducible exact Calls.quiet_of_same (before_val HX.out.1 _ zq za)))
          go_wp2
          go_ret
          exact ⟨retB HX.out.2.symm, grown_drewN HK.out _⟩
        · by_cases h3 : k < 3
          · have hk3 : decide ((3 : Int) ≤ (k : Int)) = false := decide_eq_false (by omega)
            have hk5 : decide (3 ≤ k) = false := decide_eq_false (by omega)
            have HX := Lib.hid (And.intro hbf (show nmStepB ps k = true by rw [nmStep_1 hp (by omega) h3 hq, bef_step, Bool.and_eq_true]; exact ⟨HO.out, hbf⟩))
            clear hp hq hbf
            go_wp2_with fail
            refine (isName_val HO.out _ za).mono ?_
            rintro e w2 ⟨rfl, hk2'⟩
            have HK := Lib.hid (grown_trans HG.out.1 hk2')
            clear hk2' c0 c1
            obtain ⟨c0, c1⟩ := (HR.out.1.kept HK.out).cellf HP.out.1
            obtain ⟨d0, d1⟩ := (HR.out.1.kept HK.out).cellf HP.out.2
            dsimp only at c0 c1 d0 d1
            go_wp2_with fail
            go_quiet ((go_at_call 49; with_reducible exact Calls.quiet_of_same (before_val HX.out.1 _ zq za)))
            generalize hwz : w2.drewN nq = wz
            replace HK := Lib.hid (show w.grownBy wz none by rw [← hwz]; exact grown_drewN HK.out _)
            clear hwz c0 c1 d0 d1
            go_wp2_with fail
            go_quiet (fail)
            go_wp2
            go_roundw
            case rel => exact ⟨k + 1, by omega, by go_num, fun j hj => by rcases Nat.lt_or_ge j k with h | h
                                                                          · exact HG.out.2 j h
                                                                          · obtain rfl : j = k := by omega
                                                                            exact HX.out.2, grown_drewN HK.out _⟩
            case measure => simp [intOf]; omega
          · obtain ⟨⟨a'', b''⟩, hr⟩ : ∃ q, ps[k - 3]? = some q := ⟨_, List.getElem?_eq_getElem (by omega)⟩
            have zr := HR.out.2 _ _ hr
            dsimp only at zr
            obtain ⟨T, hT⟩ : ∃ T, bkV a'' = T := ⟨_, rfl⟩
            obtain ⟨V, hV⟩ : ∃ V, bkV a = V := ⟨_, rfl⟩
            have HT := Lib.hid (And.intro hT hV)
            have HP3 := Lib.hid hr
            have hk3 : decide ((3 : Int) ≤ (k : Int)) = true := decide_eq_true (by omega)
            have hk5 : decide (3 ≤ k) = true := decide_eq_true (by omega)
            have hk8 : decide ((0 : Int) ≤ (k : Int) - 3) = true := decide_eq_true (by omega)
            have hk9 : (k : Int) - 3 < ps.length := by omega
            cases hTV : (T == V)
            · have HX := Lib.hid (And.intro hbf (show nmStepB ps k = true by rw [nmStep_3 hp (by omega) hq hr, bef_step]; dsimp only; rw [hbf, hT, hV, hTV]; simpa [okN, hV] using HO.out))
              clear hp hq hbf hr hT hV
              go_wp2_with fail
              refine (isName_val HO.out _ za).mono ?_
              rintro e w2 ⟨rfl, hk2'⟩
              have HK := Lib.hid (grown_trans HG.out.1 hk2')
              clear hk2' c0 c1
              obtain ⟨c0, c1⟩ := (HR.out.1.kept HK.out).cellf HP.out.1
              obtain ⟨d0, d1⟩ := (HR.out.1.kept HK.out).cellf HP.out.2
              dsimp only at c0 c1 d0 d1
              go_wp2_with fail
              go_quiet ((go_at_call 49; with_reducible exact Calls.quiet_of_same (before_val HX.out.1 _ zq za)))
              generalize hwz : w2.drewN nq = wz
              replace HK := Lib.hid (show w.grownBy wz none by rw [← hwz]; exact grown_drewN HK.out _)
              clear hwz c0 c1 d0 d1
              obtain ⟨c0, c1⟩ := (HR.out.1.kept HK.out).cellf HP.out.1
              obtain ⟨r0, r1⟩ := (HR.out.1.kept HK.out).cellf HP3.out
              dsimp only at c0 c1 r0 r1
              go_wp2_with fail
              go_quiet (first | (go_at_call 20; with_reducible exact Calls.quiet_of_same (bucket_val HT.out.1 _ zr)) | (go_at_call 20; with_reducible exact Calls.quiet_of_same (bucket_val HT.out.2 _ za)))
              go_wp2
              go_roundw
              case rel => exact ⟨k + 1, by omega, by go_num, fun j hj => by rcases Nat.lt_or_ge j k with h | h
                                                                            · exact HG.out.2 j h
                                                                            · obtain rfl : j = k := by omega
                                                                              exact HX.out.2, grown_drewN HK.out _⟩
              case measure => simp [intOf]; omega
            · have HX := Lib.hid (And.intro hbf (nm_bad hlt (show nmStepB ps k = false by rw [nmStep_3 hp (by omega) hq hr, bef_step]; dsimp only; rw [hT, hV, hTV]; simp)))
              clear hp hq hbf hr hT hV
              go_wp2_with fail
              refine (isName_val HO.out _ za).mono ?_
              rintro e w2 ⟨rfl, hk2'⟩
              have HK := Lib.hid (grown_trans HG.out.1 hk2')
              clear hk2' c0 c1
              obtain ⟨c0, c1⟩ := (HR.out.1.kept HK.out).cellf HP.out.1
              obtain ⟨d0, d1⟩ := (HR.out.1.kept HK.out).cellf HP.out.2
              dsimp only at c0 c1 d0 d1
              go_wp2_with fail
              go_quiet ((go_at_call 49; with_reducible exact Calls.quiet_of_same (before_val HX.out.1 _ zq za)))
              generalize hwz : w2.drewN nq = wz
              replace HK := Lib.hid (show w.grownBy wz none by rw [← hwz]; exact grown_drewN HK.out _)
              clear hwz c0 c1 d0 d1
              obtain ⟨c0, c1⟩ := (HR.out.1.kept HK.out).cellf HP.out.1
              obtain ⟨r0, r1⟩ := (HR.out.1.kept HK.out).cellf HP3.out
              dsimp only at c0 c1 r0 r1
              go_wp2_with fail
              go_quiet (first | (go_at_call 20; with_reducible exact Calls.quiet_of_same (bucket_val HT.out.1 _ zr)) | (go_at_call 20; with_reducible exact Calls.quiet_of_same (bucket_val HT.out.2 _ za)))
              go_wp2
              go_ret
              exact ⟨retB HX.out.2.symm, grown_drewN HK.out _⟩
    · obtain rfl : k = ps.length := by omega
      have HX := Lib.hid (And.intro (nm_end hall) hg)
      clear hall hg
      go_wp2
      go_ret
      exact ⟨retB HX.out.1.symm, HX.out.2⟩
end Go.Proofs.Ytengcjglkcmkbaa
namespace Go.Proofs.Ytengcjglkcmkbaa
open Go.ChangeShapes Go.WideShapes Go.ChangeAt Go.RowKit
set_option linter.unusedVariables false
set_option linter.unusedSimpArgs false

theorem namesValid_val {B : Bool} {A : Option Addr} {n c : Nat} {ps : List Nm} {w : World} (h : nmB ps = B) (hl : ps.length = n) (hr : NRow w w.heap.size A ps) (hn : n ≤ 1048577) (hs : ∀ (k : Nat) p, ps[k]? = some p → p.a.size ≤ 9223372036854775807) :
    Calls Try.prog 23 #[.slice A n c] w (KeptV (.bool B) w) := h ▸ namesValid_any A n c ps w hl hr hn hs
theorem findName_any (A : Option Addr) (n c : Nat) (ps : List Nm) (s : ByteArray) (w : World) (hl : ps.length = n) (hr : NRow w w.heap.size A ps) (hn : n ≤ 1048577) (hs : ∀ (k : Nat) p, ps[k]? = some p → p.a.size ≤ 9223372036854775807) :
    Calls Try.prog 26 #[.slice A n c, .string s] w (KeptV (.int .i64 (findV ps s)) w) := by
  have HR := Lib.hid (And.intro hl (And.intro hr hs))
  clear hl hr hs
  cases hB : nmB ps
  · have HB := Lib.hid hB
    have HX := Lib.hid (show findV ps s = -1 by simp [findV, hB])
    clear hB
    go_enter Try.func26, Try.ntmps26
    go_wp2_with fail
    refine (namesValid_val HB.out HR.out.1 HR.out.2.1 hn HR.out.2.2).mono ?_
    rintro e w1 ⟨rfl, hkk⟩
    have HG := Lib.hid hkk
    clear hkk
    go_wp2
    go_ret
    exact ⟨by simp [HX.out], HG.out⟩
  · have HB := Lib.hid hB
    clear hB
    go_enter Try.func26, Try.ntmps26
    go_wp2_with fail
    refine (namesValid_val HB.out HR.out.1 HR.out.2.1 hn HR.out.2.2).mono ?_
    rintro e w1 ⟨rfl, hkk⟩
    have HG0 := Lib.hid hkk
    clear hkk
    go_wp2
    go_loopw [12] (fun i wr => ∃ k : Nat, k ≤ n ∧ i = .int .i64 k ∧ (∀ (j : Nat) q, j < k → ps[j]? = some q → q.a.toList ≠ s.toList) ∧ w.grownBy wr none) (fun i _ => n - (intOf i).toNat)
    case atStart => exact ⟨0, Nat.zero_le _, rfl, fun j q hj => absurd hj (by omega), HG0.out⟩
    case round =>
      rename World => wq
      obtain ⟨k, hk, rfl, hall, hg⟩ := hrel
      have HG := Lib.hid (And.intro hg hall)
      clear hg hall HG0
      by_cases hlt : k < n
      · have hk0 : decide ((0 : Int) ≤ k) = true := decide_eq_true (by omega)
        have hk1 : (k : Int) < n := by omega
        have hrow := HR.out.2.1.kept HG.out.1
        obtain ⟨g, off, rfl, hgB⟩ := hrow.pos (by have := HR.out.1; omega)
        obtain ⟨⟨a, b⟩, hp⟩ : ∃ p, ps[k]? = some p := ⟨_, List.getElem?_eq_getElem (by have := HR.out.1; omega)⟩
        obtain ⟨c0, c1⟩ := hrow.cellf hp
        dsimp only at c0 c1
        have HP := Lib.hid hp
        have HZ := Lib.hid HG.out.1.size
        clear hp hrow
        cases he : (a.toList == s.toList)
        · go_wp2
          go_roundw
          case rel => exact ⟨k + 1, by omega, by go_num, fun j q hj hq => by
            rcases Nat.lt_or_ge j k with h | h
            · exact HG.out.2 j q h hq
            · obtain rfl : j = k := by omega
              have := HP.out
              rw [hq] at this
              injection this with this
              subst this
              simpa using he, by repeat (first | exact HG.out.1 | refine grown_alloc ?_ _ | refine grown_put ?_ (by have := HZ.out; dsimp only; omega) _)⟩
          case measure => simp [intOf]; omega
        · have HE := Lib.hid (show a.toList = s.toList by simpa using he)
          go_wp2
          go_ret
          exact ⟨retI (by simp only [findV, HB.out, if_true]; exact (nmFind_at HP.out HE.out HG.out.2).symm), by repeat (first | exact HG.out.1 | refine grown_alloc ?_ _ | refine grown_put ?_ (by have := HZ.out; dsimp only; omega) _)⟩
      · obtain rfl : k = n := by omega
        go_wp2
        go_ret
        refine ⟨retI ?_, HG.out.1⟩
        have h := nmFind_none (s := s) (ps := ps) fun j q hq => HG.out.2 j q (by have := (List.getElem?_eq_some_iff.1 hq).1; have := HR.out.1; omega) hq
        unfold findV
        rw [h]
        split <;> rfl
end Go.Proofs.Ytengcjglkcmkbaa
namespace Go.Proofs.Ytengcjglkcmkbaa
open Go.ChangeShapes Go.WideShapes Go.ChangeAt Go.RowKit
set_option linter.unusedVariables false
set_option linter.unusedSimpArgs false

/-- copy(d, s) where both have as many names. -/
theorem copy_names (w : World) (base g dCap sCap : Nat) (A : Option Addr) (B n : Nat) (qs ps : List Nm) (hp : ps.length = n)
    (ho : NOwn w base 32 (.slice (some ⟨g, 0, none⟩) n dCap) qs) (hq : qs.length = n) (hr : NRow w B A ps) :
    ∃ w', (∀ ty, (Builtin.copy_ #[28, 28] ty #[.slice (some ⟨g, 0, none⟩) n dCap, .slice A n sCap]).run Try.prog w = .ok (.int .i64 (n : Int)) w') ∧ NOwn w' base 32 (.slice (some ⟨g, 0, none⟩) n dCap) ps ∧ w.grownBy w' (some g) := by
  obtain ⟨i, hi, hzz, hs, hby⟩ := info_parts name_info
  rcases Nat.eq_zero_or_pos n with h0 | hpos
  · subst h0
    have e1 := List.eq_nil_of_length_eq_zero hp
    have e2 := List.eq_nil_of_length_eq_zero hq
    subst e1; subst e2
    have hf : ∀ a : Addr, _ := fun a => run_firstCells_some (P := Try.prog) w 2 0 a 0 sCap [] rfl (by simp)
    refine ⟨w, fun ty => ?_, ho, grown_refl _ _⟩
    cases A with
    | none => simp [Builtin.copy_, run_underlying Try.underlying28, sizeOf, typeInfo, hi, Builtin.lenOf, Builtin.firstCells, storeCells, goInt]
    | some a => simp [Builtin.copy_, run_underlying Try.underlying28, sizeOf, typeInfo, hi, hs, Builtin.lenOf, hf, storeCells, goInt]
  obtain ⟨ga, off, rfl, _, hz, hc⟩ := hr (by rw [nv_length]; omega)
  rcases ho.2 with ⟨e, hn0⟩ | ⟨g', cap, cur, e, hb, hg, hcap, hm, hsz, htk⟩
  · cases e
  · injection e with e1 e2 e3
    injection e1 with e1
    injection e1 with e1
    subst e1; subst e3
    have hlen : (nv ps).length = n * 2 := by rw [nv_length, hp]
    have hsrc : ∀ j v, (nv ps)[j]? = some v → w.cell? ((⟨ga, off, none⟩ : Addr).add j) = some v := by
      intro j v hv
      rw [show (⟨ga, off, none⟩ : Addr).add j = ⟨ga, off + j, none⟩ by simp [Go.WideShapes.add_plain]]
      exact hc _ _ hv
    have hrun := fun ty => run_copy_rowN (P := Try.prog) w 28 28 ty 32 2 g 0 n dCap ⟨ga, off, none⟩ sCap cur 32 (nv ps) Try.underlying28 (by rw [hi]; simp [hs]) hg hlen hsrc (by rw [hlen, hsz]; omega) (nv_one ps)
    refine ⟨_, hrun, ⟨by rw [hlen, hp], .inr ⟨g, dCap, _, by rw [hp], hb, setRow_heap w g cur _ _ _ hg, by omega, hm, ?_, ?_⟩⟩, ⟨rfl, rfl, rfl, by simp [World.setRow], fun k _ hk => setRow_other w g k _ (by intro e; exact hk (by rw [e]))⟩⟩
    · simp [hlen, hsz]; omega
    · simp [hp, ← hlen]
theorem copyNames_any (A : Option Addr) (n c : Nat) (ps : List Nm) (w : World) (hl : ps.length = n) (hr : NRow w w.heap.size A ps) (hn : n ≤ 1048576) :
    Calls Try.prog 52 #[.slice A n c] w (MadeName ps n w) := by
  have hmk := make_name w n hn
  have hO := nown_made w w.heap.size n 32 (Nat.le_refl _) (by simp only [maxLen]; omega)
  obtain ⟨w3, hrun, ho, hg⟩ := copy_names _ _ _ _ c A w.heap.size n _ ps hl hO (by simp) (hr.alloc _)
  have HX := Lib.hid (And.intro ho (grown_join (grown_alloc (grown_refl w none) _) hg (Nat.le_refl _)))
  have HL := Lib.hid hl
  clear hl hr ho hg hO
  go_enter Try.func52, Try.ntmps52
  go_wp2
  go_ret
  exact ⟨_, _, rfl, HL.out, HX.out.1, HX.out.2⟩
/-- append(v, s...), and where the row lies then. -/
theorem append_nameK (w : World) (base : Nat) (v : Value) (A : Option Addr) (B m c : Nat) (xs ys : List Nm) (h : NOwn w base 32 v xs) (hr : NRow w B A ys) (hl : ys.length = m) (hn : xs.length + m ≤ 1048600) (hb : base ≤ w.heap.size) :
    ∃ v' w', (∀ ty, (Builtin.append_ #[28, 28] ty #[v, .slice A m c]).run Try.prog w = .ok v' w') ∧ NOwn w' base 32 v' (xs ++ ys) ∧ w.grownBy w' v.ownBlock ∧ (v'.ownBlock = v.ownBlock ∨ v'.ownBlock = some w.heap.size) := by
  rcases Nat.eq_zero_or_pos m with h0 | hpos
  · subst h0
    have e := List.eq_nil_of_length_eq_zero hl
    subst e
    rw [List.append_nil]
    exact ⟨v, w, append_name_none w base v A c xs h, h, grown_refl _ _, .inl rfl⟩
  obtain ⟨g, off, rfl, _, hz, hc⟩ := hr (by rw [nv_length]; omega)
  obtain ⟨i, hi, hzz, hs, hby⟩ := info_parts name_info
  have hsrc : ∀ j u, (nv ys)[j]? = some u → w.cell? ((⟨g, off, none⟩ : Addr).add j) = some u := by
    intro j u hu
    rw [show (⟨g, off, none⟩ : Addr).add j = ⟨g, off + j, none⟩ by simp [Go.WideShapes.add_plain]]
    exact hc j u hu
  obtain ⟨v', w', hrun, h2, h3, _, h5⟩ := run_append_own_at (P := Try.prog) w base 28 0 32 i _ 2 24 Try.underlying28 hi hzz hs hby rfl (by omega) v xs.length (nv xs) h ⟨g, off, none⟩ m c (nv ys) (by rw [nv_length, hl]) hsrc (nv_one ys)
    (by simp only [maxLen]; omega) (by omega) hb
  refine ⟨v', w', fun _ => hrun, ?_, h3, h5⟩
  unfold NOwn
  rw [List.length_append, nv_append, hl]
  exact h2
theorem push_nameK {wq : World} {base : Nat} {u : Value} {xs : List Nm} (a : ByteArray) (b : Int) (h : NOwn wq base 32 u xs) (hb : base ≤ wq.heap.size) (hn : xs.length ≤ 1048590) :
    ∃ u' w', (∀ ty, (Builtin.append_ #[28, 28] ty #[u, .slice (some ⟨wq.heap.size, 0, none⟩) 1 1]).run Try.prog (wq.alloc (.cells #[.string a, .int .i64 b] 32)) = .ok u' w') ∧ NOwn w' base 32 u' (xs ++ [⟨a, b⟩]) ∧ (wq.alloc (.cells #[.string a, .int .i64 b] 32)).grownBy w' u.ownBlock ∧ (u'.ownBlock = u.ownBlock ∨ u'.ownBlock = some (wq.heap.size + 1)) := by
  have h := append_nameK (wq.alloc (.cells #[.string a, .int .i64 b] 32)) base u _ _ 1 1 xs [⟨a, b⟩] (h.keep (grown_alloc (grown_refl wq none) _)) (nrow_one wq _ a b) rfl (by omega) (by simp only [size_alloc1]; omega)
  simpa only [size_alloc1] using h
theorem grown_ownK {w wr w' : World} {v : Value} (h : w.grownBy wr none) (hg : wr.grownBy w' v.ownBlock) (hv : ∀ g, v.ownBlock = some g → w.heap.size ≤ g) : w.grownBy w' none := by
  cases e : v.ownBlock with
  | none => rw [e] at hg; exact grown_trans h hg
  | some k => rw [e] at hg; exact grown_join h hg (hv k e)
/-- The state of withName: the names before, the names behind, the further one in its block. -/
structure WSt (w : World) (A : Option Addr) (ps : List Nm) (n : Nm) (xs ys : List Nm) (u v : Value) (wr : World) : Prop where
  ou : NOwn wr (w.heap.size + 1) 32 u xs
  ov : NOwn wr (w.heap.size + 1) 32 v ys
  ne : ∀ g, u.ownBlock = some g → v.ownBlock ≠ some g
  row : NRow wr w.heap.size A ps
  blk : Blk wr w.heap.size 32 #[.string n.a, .int .i64 n.b]
  grown : w.grownBy wr none
section
variable {w wr w' : World} {A : Option Addr} {ps xs ys : List Nm} {n : Nm} {u v : Value}
theorem WSt.swap (H : WSt w A ps n xs ys u v wr) : WSt w A ps n ys xs v u wr := ⟨H.ov, H.ou, fun g e e' => H.ne g e' e, H.row, H.blk, H.grown⟩
theorem WSt.keep (H : WSt w A ps n xs ys u v wr) (k : wr.grownBy w' none) : WSt w A ps n xs ys u v w' :=
  ⟨H.ou.keep k, H.ov.keep k, H.ne, H.row.kept k, H.blk.keep k, grown_trans H.grown k⟩
theorem WSt.pushU (a : ByteArray) (b : Int) (H : WSt w A ps n xs ys u v wr) (hn : xs.length ≤ 1048576) :
    ∃ u' w', (∀ ty, (Builtin.append_ #[28, 28] ty #[u, .slice (some ⟨wr.heap.size, 0, none⟩) 1 1]).run Try.prog (wr.alloc (.cells #[.string a, .int .i64 b] 32)) = .ok u' w') ∧ WSt w A ps n (xs ++ [⟨a, b⟩]) ys u' v w' := by
  have hsz : w.heap.size + 1 ≤ wr.heap.size := by have := H.blk.lt; omega
  obtain ⟨u', w2, hrun, h2, hg2, h5⟩ := push_nameK (base := w.heap.size + 1) a b H.ou hsz (by omega)
  have H1 := H.keep (grown_alloc (grown_refl wr none) (.cells #[.string a, .int .i64 b] 32))
  have hlo : ∀ g, u.ownBlock = some g → w.heap.size + 1 ≤ g := fun g e => (H.ou.lt g e).1
  refine ⟨u', w2, hrun, h2, ?_, ?_, ?_, ?_, ?_⟩
  · refine H1.ov.kept hg2 ?_
    cases h : v.ownBlock with
    | none => exact .inl rfl
    | some g => exact .inr fun e => H.ne g e.symm h
  · intro g e e'
    rcases h5 with h5 | h5
    · exact H.ne g (h5 ▸ e) e'
    · rw [h5] at e
      injection e with e
      have := (H.ov.lt g e').2
      omega
  · exact H1.row.grown hg2 fun g e => by have := hlo g e; omega
  · exact H1.blk.grown hg2 fun e => by have := hlo _ e.symm; omega
  · exact grown_ownK H1.grown hg2 fun g e => by have := hlo g e; omega
end
set_option maxHeartbeats 1000000 in
theorem withName_any (A : Option Addr) (n c : Nat) (ps : List Nm) (a : ByteArray) (b : Int) (w : World) (hl : ps.length = n) (hr : NRow w w.heap.size A ps) (hn : n ≤ 1048570) (hs : ∀ (k : Nat) p, ps[k]? = some p → p.a.size ≤ 9223372036854775807) (hz : a.size ≤ 9223372036854775807) :
    Calls Try.prog 51 #[.slice A n c, .agg #[.string a, .int .i64 b]] w (MadeName (ps.filter (befN ⟨a, b⟩) ++ [⟨a, b⟩] ++ ps.filter (fun p => !befN ⟨a, b⟩ p)) (n + 1) w) := by
  have HR := Lib.hid (And.intro hl hs)
  have HS0 : RowKit.Hid (WSt w A ps ⟨a, b⟩ [] [] (.slice none 0 0) (.slice none 0 0) (w.alloc (.cells #[.string a, .int .i64 b] 32))) :=
    Lib.hid ⟨nown_nil _ _ _, nown_nil _ _ _, by simp [Value.ownBlock], hr.alloc _, Blk.new _ _ _, grown_alloc (grown_refl _ _) _⟩
  clear hl hr hs
  go_enter Try.func51, Try.ntmps51
  go_wp2
  go_loopw [5, 6, 11] (fun u v i wr => ∃ k : Nat, k ≤ n ∧ i = .int .i64 k ∧ WSt w A ps ⟨a, b⟩ ((ps.take k).filter (befN ⟨a, b⟩)) ((ps.take k).filter (fun p => !befN ⟨a, b⟩ p)) u v wr) (fun _ _ i _ => n - (intOf i).toNat)
  case atStart => exact ⟨0, Nat.zero_le _, rfl, HS0.out⟩
  case round =>
    rename World => wq
    obtain ⟨k, hk, rfl, hS⟩ := hrel
    have HS := Lib.hid hS
    clear hS HS0
    by_cases hlt : k < n
    · have hk0 : decide ((0 : Int) ≤ k) = true := decide_eq_true (by omega)
      have hk1 : (k : Int) < n := by omega
      obtain ⟨g, off, rfl, hgB⟩ := HS.out.row.pos (by have := HR.out.1; omega)
      obtain ⟨⟨a', b'⟩, hp⟩ : ∃ p, ps[k]? = some p := ⟨_, List.getElem?_eq_getElem (by have := HR.out.1; omega)⟩
      obtain ⟨c0, c1⟩ := HS.out.row.cellf hp
      have z' := HR.out.2 _ _ hp
      have v0 : (wq.alloc (.cells #[.string a', .int .i64 b'] 32)).cell? ⟨w.heap.size, 0, none⟩ = some (.string a) := (HS.out.blk.alloc _).cell 0
      dsimp only at c0 c1 z'
      have HP := Lib.hid hp
      have hwz := HS.out.grown.size
      have hne : w.heap.size ≠ wq.heap.size := by have := HS.out.blk.lt; omega
      clear hp
      have H1 := Lib.hid (HS.out.keep (grown_alloc (grown_refl wq none) (.cells #[.string a', .int .i64 b'] 32)))
      have HLEN := Lib.hid (And.intro (show ((ps.take k).filter (befN ⟨a, b⟩)).length ≤ 1048576 by have := List.length_filter_le (befN ⟨a, b⟩) (ps.take k); rw [List.length_take] at this; omega) (show ((ps.take k).filter (fun p => !befN ⟨a, b⟩ p)).length ≤ 1048576 by have := List.length_filter_le (fun p => !befN ⟨a, b⟩ p) (ps.take k); rw [List.length_take] at this; omega))
      cases hb : befT a' a
      · obtain ⟨u', w2, hrun, hz⟩ := H1.out.swap.pushU a' b' HLEN.out.2
        simp only [size_alloc1] at hrun
        have HZ := Lib.hid hz
        have HRUN := Lib.hid hrun
        have HB := Lib.hid hb
        clear hb hz hrun
        go_wp2_with (first | (go_at_call 49; with_reducible refine (before_val HB.out _ z' hz).mono ?_; rintro e w2 ⟨rfl, rfl⟩) | (at_builtin; refine wpList_append_run _ rfl (.tmp 24) (.tmp 26) _ _ rfl _ _ rfl rfl HRUN.out ?_))
        go_roundw
        case rel => exact ⟨k + 1, by omega, by go_num, by
          rw [List.take_add_one, HP.out]
          simp only [Option.toList_some, List.filter_append]
          rw [List.filter_cons_of_neg (by simp [befN, HB.out]), List.filter_nil, List.append_nil, List.filter_cons_of_pos (by simp [befN, HB.out]), List.filter_nil]
          exact HZ.out.swap⟩
        case measure => simp [intOf]; omega
      · obtain ⟨u', w2, hrun, hz⟩ := H1.out.pushU a' b' HLEN.out.1
        simp only [size_alloc1] at hrun
        have HZ := Lib.hid hz
        have HRUN := Lib.hid hrun
        have HB := Lib.hid hb
        clear hb hz hrun
        go_wp2_with (first | (go_at_call 49; with_reducible refine (before_val HB.out _ z' hz).mono ?_; rintro e w2 ⟨rfl, rfl⟩) | (at_builtin; refine wpList_append_run _ rfl (.tmp 20) (.tmp 22) _ _ rfl _ _ rfl rfl HRUN.out ?_))
        go_roundw
        case rel => exact ⟨k + 1, by omega, by go_num, by
          rw [List.take_add_one, HP.out]
          simp only [Option.toList_some, List.filter_append]
          rw [List.filter_cons_of_pos (by simp [befN, HB.out]), List.filter_nil, List.filter_cons_of_neg (by simp [befN, HB.out]), List.filter_nil, List.append_nil]
          exact HZ.out⟩
        case measure => simp [intOf]; omega
    · obtain rfl : k = n := by omega
      have v0 : wq.cell? ⟨w.heap.size, 0, none⟩ = some (.string a) := HS.out.blk.cell 0
      have v1 : wq.cell? ⟨w.heap.size, 1, none⟩ = some (.int .i64 b) := HS.out.blk.cell 1
      have ht : ps.take k = ps := List.take_of_length_le (by have := HR.out.1; omega)
      rw [ht] at HS
      have hXl : (ps.filter (befN ⟨a, b⟩)).length ≤ k := by have := List.length_filter_le (befN ⟨a, b⟩) ps; have := HR.out.1; omega
      have hsum : (ps.filter (befN ⟨a, b⟩)).length + (ps.filter (fun p => !befN ⟨a, b⟩ p)).length = k := by
        rw [← List.countP_eq_length_filter, ← List.countP_eq_length_filter]
        have := List.length_eq_countP_add_countP (p := befN ⟨a, b⟩) (l := ps)
        have := HR.out.1
        simp only [Bool.not_eq_true, Bool.decide_eq_false] at *
        omega
      obtain ⟨u', w2, hrun, hz⟩ := HS.out.pushU a b (by omega)
      obtain ⟨v', c', ev⟩ := hz.ov.slice
      subst ev
      have hsz : w.heap.size + 1 ≤ w2.heap.size := by have := hz.blk.lt; omega
      obtain ⟨x', w3, hrun3, h3, hg3, h5⟩ := append_nameK w2 (w.heap.size + 1) u' v' w2.heap.size _ c' _ _ hz.ou hz.ov.row rfl (by rw [List.length_append]; simp; omega) hsz
      obtain ⟨x1, xc, ex⟩ := h3.slice
      have he : (ps.filter (befN ⟨a, b⟩) ++ [(⟨a, b⟩ : Nm)] ++ ps.filter (fun p => !befN ⟨a, b⟩ p)).length = k + 1 := by
        simp only [List.length_append, List.length_singleton]
        omega
      rw [he] at ex
      subst ex
      have HE := Lib.hid he
      clear he
      have HX := Lib.hid (And.intro (h3.base_le (base' := w.heap.size) (by omega)) (grown_ownK hz.grown hg3 fun g e => by have := (hz.ou.lt g e).1; omega))
      have HRUN := Lib.hid hrun
      have HRUN3 := Lib.hid hrun3
      clear hz hrun hrun3 h3 hg3 h5 hsum hXl ht
      go_wp2_with (first | (at_builtin; refine wpList_append_run _ rfl (.tmp 29) (.tmp 31) _ _ rfl _ _ rfl rfl HRUN.out ?_) | (at_builtin; refine wpList_append_run _ rfl (.tmp 33) (.tmp 34) _ _ rfl _ _ rfl rfl HRUN3.out ?_))
      go_ret
      exact ⟨x1, xc, rfl, HE.out, HX.out.1, HX.out.2⟩
end Go.Proofs.Ytengcjglkcmkbaa
namespace Go.Proofs.Ytengcjglkcmkbaa
open Go.ChangeShapes Go.WideShapes Go.ChangeAt Go.RowKit
set_option linter.unusedVariables false
set_option linter.unusedSimpArgs false

/-- The state of a loop that takes names over. -/
def OSt (w : World) (A : Option Addr) (ps xs : List Nm) (u : Value) (wr : World) : Prop :=
  NOwn wr w.heap.size 32 u xs ∧ NRow wr w.heap.size A ps ∧ w.grownBy wr none
section
variable {w wr w' : World} {A : Option Addr} {ps xs : List Nm} {u : Value}
theorem OSt.keep (H : OSt w A ps xs u wr) (k : wr.grownBy w' none) : OSt w A ps xs u w' := ⟨H.1.keep k, H.2.1.kept k, grown_trans H.2.2 k⟩
theorem OSt.push (a : ByteArray) (b : Int) (H : OSt w A ps xs u wr) (hn : xs.length ≤ 1048576) :
    ∃ u' w', (∀ ty, (Builtin.append_ #[28, 28] ty #[u, .slice (some ⟨wr.heap.size, 0, none⟩) 1 1]).run Try.prog (wr.alloc (.cells #[.string a, .int .i64 b] 32)) = .ok u' w') ∧ OSt w A ps (xs ++ [⟨a, b⟩]) u' w' := by
  obtain ⟨u', w2, hrun, h2, hg2, h5⟩ := push_nameK (base := w.heap.size) a b H.1 H.2.2.size (by omega)
  have H1 := H.keep (grown_alloc (grown_refl wr none) (.cells #[.string a, .int .i64 b] 32))
  exact ⟨u', w2, hrun, h2, H1.2.1.grown hg2 fun g e => (H.1.lt g e).1, grown_ownK H1.2.2 hg2 fun g e => (H.1.lt g e).1⟩
end
theorem out_step (ps : List Nm) (s : ByteArray) (k : Nat) (p : Nm) (hp : ps[k]? = some p) : outNms (ps.take (k + 1)) s = outNms (ps.take k) s ++ (if p.a.toList == s.toList then [] else [p]) := by
  rw [List.take_add_one, hp]
  simp only [outNms, Option.toList_some, List.filter_append]
  cases h : (p.a.toList == s.toList)
  · rw [List.filter_cons_of_pos (by simp [bne, h]), List.filter_nil]; rfl
  · rw [List.filter_cons_of_neg (by simp [bne, h]), List.filter_nil]; rfl
set_option maxHeartbeats 1000000 in
theorem withoutText_any (A : Option Addr) (n c : Nat) (ps : List Nm) (s : ByteArray) (w : World) (hl : ps.length = n) (hr : NRow w w.heap.size A ps) (hn : n ≤ 1048570) :
    Calls Try.prog 53 #[.slice A n c, .string s] w (MadeName (outNms ps s) (outNms ps s).length w) := by
  have HR := Lib.hid hl
  have HS0 : RowKit.Hid (OSt w A ps [] (.slice none 0 0) w) := Lib.hid ⟨nown_nil _ _ _, hr, grown_refl _ _⟩
  clear hl hr
  go_enter Try.func53, Try.ntmps53
  go_wp2
  go_loopw [5, 10] (fun u i wr => ∃ k : Nat, k ≤ n ∧ i = .int .i64 k ∧ OSt w A ps (outNms (ps.take k) s) u wr) (fun _ i _ => n - (intOf i).toNat)
  case atStart => exact ⟨0, Nat.zero_le _, rfl, HS0.out⟩
  case round =>
    rename World => wq
    obtain ⟨k, hk, rfl, hS⟩ := hrel
    have HS := Lib.hid hS
    clear hS HS0
    by_cases hlt : k < n
    · have hk0 : decide ((0 : Int) ≤ k) = true := decide_eq_true (by omega)
      have hk1 : (k : Int) < n := by omega
      obtain ⟨g, off, rfl, hgB⟩ := HS.out.2.1.pos (by have := HR.out; omega)
      obtain ⟨⟨a', b'⟩, hp⟩ : ∃ p, ps[k]? = some p := ⟨_, List.getElem?_eq_getElem (by have := HR.out; omega)⟩
      obtain ⟨c0, c1⟩ := HS.out.2.1.cellf hp
      dsimp only at c0 c1
      have hst := out_step ps s k _ hp
      dsimp only at hst
      clear hp
      have H1 := HS.out.keep (grown_alloc (grown_refl wq none) (.cells #[.string a', .int .i64 b'] 32))
      have hlen : (outNms (ps.take k) s).length ≤ 1048576 := by have := outN_length (ps.take k) s; rw [List.length_take] at this; omega
      cases he : (a'.toList == s.toList)
      · have he2 : (a'.toList != s.toList) = true := by rw [bne, he]; rfl
        rw [he, if_neg (by simp)] at hst
        obtain ⟨u', w2, hrun, hz⟩ := H1.push a' b' hlen
        simp only [size_alloc1] at hrun
        rw [← hst] at hz
        have HZ := Lib.hid hz
        have HRUN := Lib.hid hrun
        clear hz hrun hst H1
        go_wp2_with (at_builtin; refine wpList_append_run _ rfl (.tmp 18) (.tmp 20) _ _ rfl _ _ rfl rfl HRUN.out ?_)
        go_roundw
        case rel => exact ⟨k + 1, by omega, by go_num, HZ.out⟩
        case measure => simp [intOf]; omega
      · have he2 : (a'.toList != s.toList) = false := by rw [bne, he]; rfl
        rw [he, if_pos rfl, List.append_nil] at hst
        rw [← hst] at H1
        have HZ := Lib.hid H1
        clear hst H1
        go_wp2
        go_roundw
        case rel => exact ⟨k + 1, by omega, by go_num, HZ.out⟩
        case measure => simp [intOf]; omega
    · obtain rfl : k = n := by omega
      have ht : ps.take k = ps := List.take_of_length_le (by have := HR.out; omega)
      rw [ht] at HS
      obtain ⟨Au, cu, eu⟩ := HS.out.1.slice
      subst eu
      clear ht
      go_wp2
      go_ret
      exact ⟨_, _, rfl, rfl, HS.out.1, HS.out.2.2⟩
/-- Names in memory of their own are returned, and whether it went well. -/
def MadeName2 (xs : List Nm) (ok : Bool) (w : World) (e : Ending) (w' : World) : Prop :=
  ∃ (A : Option Addr) (n c : Nat), e = .returned (.tuple #[.slice A n c, .bool ok]) ∧ xs.length = n ∧ NOwn w' w.heap.size 32 (.slice A n c) xs ∧ w.grownBy w' none
theorem nm_le {ps : List Nm} (h : nmB ps = true) : ps.length ≤ 9 := by
  have ho := nm_ord h
  apply Classical.byContradiction
  intro hn
  have hx : ∀ i, i ≤ 9 → ∃ p, ps[i]? = some p := fun i hi => ⟨_, List.getElem?_eq_getElem (by omega)⟩
  obtain ⟨p0, h0⟩ := hx 0 (by omega)
  obtain ⟨p3, h3⟩ := hx 3 (by omega)
  obtain ⟨p6, h6⟩ := hx 6 (by omega)
  obtain ⟨p9, h9⟩ := hx 9 (by omega)
  have a1 := bef_bk (ho.2.1 0 3 _ _ (by omega) h0 h3)
  have a2 := bef_bk (ho.2.1 3 6 _ _ (by omega) h3 h6)
  have a3 := bef_bk (ho.2.1 6 9 _ _ (by omega) h6 h9)
  have b1 := ho.2.2 0 3 _ _ (by omega) h0 h3
  have b2 := ho.2.2 3 6 _ _ (by omega) h3 h6
  have b3 := ho.2.2 6 9 _ _ (by omega) h6 h9
  have c0 : 0 ≤ bkV p0.a := by
    have := ho.1 0 p0 h0
    simp only [okN, Bool.and_eq_true, decide_eq_true_eq] at this
    exact this.1
  have c9 := bkV_in p9.a
  omega
set_option maxHeartbeats 1000000 in
theorem dropName_any (A : Option Addr) (n c : Nat) (ps : List Nm) (s : ByteArray) (w : World) (hl : ps.length = n) (hr : NRow w w.heap.size A ps) (hn : n ≤ 1048577) (hs : ∀ (k : Nat) p, ps[k]? = some p → p.a.size ≤ 9223372036854775807) :
    Calls Try.prog 32 #[.slice A n c, .string s] w (MadeName2 (dropNms ps s) (dropNok ps s) w) := by
  have HR := Lib.hid (And.intro hl (And.intro hr hs))
  clear hl hr hs
  cases hB : nmB ps
  · have HX := Lib.hid (And.intro hB (And.intro (show dropNms ps s = [] by simp [dropNms, hB]) (show dropNok ps s = false by simp [dropNok, hB])))
    clear hB
    go_enter Try.func32, Try.ntmps32
    go_wp2_with fail
    refine (namesValid_val HX.out.1 HR.out.1 HR.out.2.1 hn HR.out.2.2).mono ?_
    rintro e w1 ⟨rfl, hkk⟩
    have HG := Lib.hid hkk
    clear hkk
    go_wp2
    rw [HX.out.2.1, HX.out.2.2]
    exact bodyPost_ret (v := .tuple #[.slice none 0 0, .bool false]) (by simp [results, Try.results32, go_sem, *]) rfl ⟨_, _, _, rfl, rfl, nown_nil _ _ _, HG.out⟩
  · have h9 : n ≤ 9 := by rw [← HR.out.1]; exact nm_le hB
    have HX := Lib.hid (And.intro hB (And.intro (show dropNms ps s = outNms ps s by simp [dropNms, hB]) (show dropNok ps s = decide ((outNms ps s).length < n) by simp [dropNok, hB, HR.out.1])))
    clear hB
    go_enter Try.func32, Try.ntmps32
    go_wp2_with fail
    refine (namesValid_val HX.out.1 HR.out.1 HR.out.2.1 hn HR.out.2.2).mono ?_
    rintro e w1 ⟨rfl, hkk⟩
    have HG := Lib.hid (And.intro hkk (HR.out.2.1.keepN hkk))
    clear hkk
    go_wp2_with fail
    refine (withoutText_any A n c ps s w1 HR.out.1 HG.out.2 (by omega)).mono ?_
    rintro e w2 ⟨A2, c2, rfl, hl2, ho2, hg2⟩
    have HZ := Lib.hid (And.intro (ho2.base_le HG.out.1.size) (grown_trans HG.out.1 hg2))
    clear ho2 hg2
    obtain ⟨m, hm⟩ : ∃ m, (outNms ps s).length = m := ⟨_, rfl⟩
    have HM := Lib.hid hm
    rw [hm] at HZ
    rw [hm]
    clear hm hl2
    go_wp2
    rw [HX.out.2.1, HX.out.2.2, HM.out]
    exact bodyPost_ret (v := .tuple #[.slice A2 m c2, .bool (decide (m < n))]) (by simp [results, Try.results32, go_sem, *]) rfl ⟨_, _, _, rfl, HM.out, HZ.out.1, HZ.out.2⟩
set_option maxHeartbeats 1000000 in
theorem putName_any (A : Option Addr) (n c : Nat) (ps : List Nm) (a : ByteArray) (b : Int) (w : World) (hl : ps.length = n) (hr : NRow w w.heap.size A ps) (hn : n ≤ 1048577) (hs : ∀ (k : Nat) p, ps[k]? = some p → p.a.size ≤ 9223372036854775807) (hz : a.size ≤ 9223372036854775807) :
    Calls Try.prog 29 #[.slice A n c, .agg #[.string a, .int .i64 b]] w (MadeName2 (putNms ps ⟨a, b⟩) (putNok ps ⟨a, b⟩) w) := by
  have HR := Lib.hid (And.intro hl (And.intro (hr.alloc (.cells #[.string a, .int .i64 b] 32)) hs))
  have HK := Lib.hid (And.intro (grown_alloc (grown_refl w none) (.cells #[.string a, .int .i64 b] 32)) (Blk.new w 32 #[.string a, .int .i64 b]))
  clear hl hr hs
  cases hB : nmB ps
  · have HX := Lib.hid (And.intro hB (And.intro (show putNms ps ⟨a, b⟩ = [] by simp [putNms, hB]) (show putNok ps ⟨a, b⟩ = false by simp [putNok, hB])))
    clear hB
    go_enter Try.func29, Try.ntmps29
    go_wp2_with fail
    refine (namesValid_val HX.out.1 HR.out.1 HR.out.2.1.here hn HR.out.2.2).mono ?_
    rintro e w1 ⟨rfl, hkk⟩
    have HG := Lib.hid (grown_trans HK.out.1 hkk)
    clear hkk
    go_wp2
    rw [HX.out.2.1, HX.out.2.2]
    exact bodyPost_ret (v := .tuple #[.slice none 0 0, .bool false]) (by simp [results, Try.results29, go_sem, *]) rfl ⟨_, _, _, rfl, rfl, nown_nil _ _ _, HG.out⟩
  · have h9 : n ≤ 9 := by rw [← HR.out.1]; exact nm_le hB
    have hins := ins_filter (n := ⟨a, b⟩) (nm_ord hB)
    have HB := Lib.hid (And.intro hB hins)
    have HSI := Lib.hid (show ∀ (k : Nat) p, (insNms ps ⟨a, b⟩)[k]? = some p → p.a.size ≤ 9223372036854775807 from fun k p hp => by
      rcases ins_mem (List.mem_of_getElem? hp) with rfl | h
      · exact hz
      · obtain ⟨j, hj⟩ := List.getElem?_of_mem h
        exact HR.out.2.2 j p hj)
    have HLI := Lib.hid ((ins_length ps ⟨a, b⟩).trans (show ps.length + 1 = n + 1 by rw [HR.out.1]))
    clear hins
    go_enter Try.func29, Try.ntmps29
    go_wp2_with fail
    refine (namesValid_val HB.out.1 HR.out.1 HR.out.2.1.here hn HR.out.2.2).mono ?_
    rintro e w1 ⟨rfl, hkk⟩
    have HG := Lib.hid (And.intro (grown_trans HK.out.1 hkk) (HR.out.2.1.kept hkk))
    have b0 : w1.cell? ⟨w.heap.size, 0, none⟩ = some (.string a) := (HK.out.2.keep hkk).cell 0
    have b1 : w1.cell? ⟨w.heap.size, 1, none⟩ = some (.int .i64 b) := (HK.out.2.keep hkk).cell 1
    clear hkk
    go_wp2_with fail
    refine (withName_any A n c ps a b w1 HR.out.1 HG.out.2.here (by omega) HR.out.2.2 hz).mono ?_
    rintro e w2 ⟨A2, c2, rfl, hl2, ho2, hg2⟩
    rw [HB.out.2] at ho2
    have HZ := Lib.hid (And.intro (ho2.base_le HG.out.1.size) (And.intro (grown_trans HG.out.1 hg2) (HG.out.2.kept hg2)))
    clear ho2 hg2 hl2 b0 b1
    cases hv : nmB (insNms ps ⟨a, b⟩)
    · have HX := Lib.hid (And.intro hv (And.intro (show putNms ps ⟨a, b⟩ = ps by simp [putNms, hB, hv]) (show putNok ps ⟨a, b⟩ = false by simp [putNok, hv])))
      clear hB hv
      go_wp2_with fail
      refine (namesValid_val HX.out.1 HLI.out HZ.out.1.row (by omega) HSI.out).mono ?_
      rintro e w3 ⟨rfl, hk3⟩
      have HG3 := Lib.hid (And.intro (grown_trans HZ.out.2.1 hk3) (HZ.out.2.2.kept hk3))
      clear hk3
      go_wp2_with fail
      refine (copyNames_any A n c ps w3 HR.out.1 HG3.out.2.here (by omega)).mono ?_
      rintro e w4 ⟨A4, c4, rfl, hl4, ho4, hg4⟩
      have HG4 := Lib.hid (And.intro (ho4.base_le HG3.out.1.size) (grown_trans HG3.out.1 hg4))
      clear hl4 ho4 hg4
      go_wp2
      rw [HX.out.2.1, HX.out.2.2]
      exact bodyPost_ret (v := .tuple #[.slice A4 n c4, .bool false]) (by simp [results, Try.results29, go_sem, *]) rfl ⟨_, _, _, rfl, HR.out.1, HG4.out.1, HG4.out.2⟩
    · have HX := Lib.hid (And.intro hv (And.intro (show putNms ps ⟨a, b⟩ = insNms ps ⟨a, b⟩ by simp [putNms, hB, hv]) (show putNok ps ⟨a, b⟩ = true by simp [putNok, hB, hv])))
      clear hB hv
      go_wp2_with fail
      refine (namesValid_val HX.out.1 HLI.out HZ.out.1.row (by omega) HSI.out).mono ?_
      rintro e w3 ⟨rfl, hk3⟩
      have HG3 := Lib.hid (And.intro (HZ.out.1.keep hk3) (grown_trans HZ.out.2.1 hk3))
      clear hk3
      go_wp2
      rw [HX.out.2.1, HX.out.2.2]
      exact bodyPost_ret (v := .tuple #[.slice A2 (n + 1) c2, .bool true]) (by simp [results, Try.results29, go_sem, *]) rfl ⟨_, _, _, rfl, HLI.out, HG3.out.1, HG3.out.2⟩
end Go.Proofs.Ytengcjglkcmkbaa
