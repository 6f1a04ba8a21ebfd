/- What the program's functions of chapter 9 answer. -/
import Derived.Test.YtpfmjagbnfcocaaExts
import Derived.Test.YtpfmjagbnfcocaaHand
import Derived.BigQuiet
namespace Go.Proofs.Ytpfmjagbnfcocaa
open Go.ChangeShapes Go.WideShapes Go.ChangeAt Go.RowKit
set_option linter.unusedVariables false
set_option linter.unusedSimpArgs false

theorem isExt_ex (a b : Int) (w : World) :
    Calls Try.prog 37 #[.agg #[.int .i64 a, .int .i64 b]] w fun e w' => e = .returned (.bool (exOk ⟨a, b⟩)) ∧ w.alloc (.cells #[.int .i64 a, .int .i64 b] 27) = w' := by
  go_enter Try.func37, Try.ntmps37
  go_wp2
  all_goals (go_ret; refine ⟨retB ?_, by first | rfl | trivial⟩; rw [Bool.eq_iff_iff]; simp [exOk, inB]; omega)
theorem isExt_val {a b : Int} {V : Bool} (h : exOk ⟨a, b⟩ = V) (w : World) : Calls Try.prog 37 #[.agg #[.int .i64 a, .int .i64 b]] w (KeptV (.bool V) w) :=
  (isExt_ex a b w).mono fun _ _ ⟨q, k⟩ => ⟨h ▸ q, k ▸ grown_alloc (grown_refl _ _) _⟩
theorem extEnd_any (a b : Int) (w : World) (ha : 0 ≤ a ∧ a ≤ 1000000) (hb : 1 ≤ b ∧ b ≤ 1048576) :
    Calls Try.prog 38 #[.agg #[.int .i64 a, .int .i64 b]] w (KeptV (.int .i64 (a + b)) w) := by
  go_enter Try.func38, Try.ntmps38
  go_wp2
  go_ret
  exact ⟨retI (by omega), grown_alloc (grown_refl _ _) _⟩
theorem exOk_nums {p : Pr} (h : exOk p = true) : (0 ≤ p.a ∧ p.a ≤ 1000000) ∧ 1 ≤ p.b ∧ p.b ≤ 1048576 := by
  simp only [exOk, Bool.and_eq_true] at h
  have h1 := inB_iff.1 h.1
  have h2 := inB_iff.1 h.2
  omega
set_option maxHeartbeats 4000000 in
theorem extValid_any (A : Option Addr) (n c : Nat) (ps : List Pr) (w : World) (hl : ps.length = n) (hr : PRow w w.heap.size A ps) (hn : n ≤ 1048576) :
    Calls Try.prog 12 #[.slice A n c] w (KeptV (.bool (extB ps)) w) := by
  subst hl
  have HR := Lib.hid hr
  clear hr
  by_cases h8 : ps.length ≤ 8
  · have t8 : decide ((8 : Int) < ps.length) = false := decide_eq_false (by omega)
    go_enter Try.func12, Try.ntmps12
    go_wp2
    go_loopw [3] (fun i wr => ∃ k : Nat, k ≤ ps.length ∧ i = .int .i64 k ∧ (∀ j, j < k → exStepB ps j = true) ∧ w.grownBy wr none) (fun i _ => ps.length - (intOf i).toNat)
    case atStart => exact ⟨0, Nat.zero_le _, rfl, fun j hj => absurd hj (by omega), grown_refl _ _⟩
    case round =>
      rename World => wq
      obtain ⟨k, hk, rfl, hall, hg⟩ := hrel
      by_cases hlt : k < ps.length
      · have h1 := HR.out.kept hg
        obtain ⟨g, off, rfl, _⟩ := h1.pos (by omega)
        obtain ⟨⟨a, b⟩, hp⟩ : ∃ p, ps[k]? = some p := ⟨_, List.getElem?_eq_getElem hlt⟩
        obtain ⟨c0, c1⟩ := h1.cellf hp
        dsimp only at c0 c1
        have hk0 : decide ((0 : Int) ≤ k) = true := decide_eq_true (by omega)
        have hk1 : (k : Int) < ps.length := by omega
        have HG := Lib.hid (And.intro hg (And.intro hall h1))
        clear hg hall h1
        cases ho : exOk ⟨a, b⟩
        · have HX := Lib.hid (And.intro ho (ext_bad hlt (by simp [exStepB, hp, ho])))
          clear ho hp
          go_wp2_with fail
          refine (isExt_val HX.out.1 _).mono ?_
          rintro e w2 ⟨rfl, hk2⟩
          have HK := Lib.hid (grown_trans HG.out.1 hk2)
          clear hk2
          go_wp2
          go_ret
          exact ⟨retB HX.out.2.symm, HK.out⟩
        by_cases hkz : k = 0
        · have hk2 : decide ((0 : Int) < (k : Int)) = false := decide_eq_false (by omega)
          have hk3 : decide (0 < k) = false := decide_eq_false (by omega)
          have HX := Lib.hid (And.intro ho (show exStepB ps k = true by subst hkz; simp [exStepB, hp, ho]))
          have HKZ := Lib.hid hkz
          clear ho hp hkz
          go_wp2_with fail
          refine (isExt_val HX.out.1 _).mono ?_
          rintro e w2 ⟨rfl, hk4⟩
          have HK := Lib.hid (grown_trans HG.out.1 hk4)
          clear hk4
          go_wp2_with fail
          go_quiet (fail)
          go_wp2
          go_roundw
          case rel => exact ⟨k + 1, by omega, by go_num, fun j hj => by obtain rfl : j = k := by (have := HKZ.out; omega)
                                                                        exact HX.out.2, grown_drewN HK.out _⟩
          case measure => simp [intOf]; omega
        · obtain ⟨j, rfl⟩ : ∃ j, k = j + 1 := ⟨k - 1, by omega⟩
          obtain ⟨⟨a', b'⟩, hq⟩ : ∃ q, ps[j]? = some q := ⟨_, List.getElem?_eq_getElem (by omega)⟩
          have HV := Lib.hid (exOk_nums (exStep_ok hq (HG.out.2.1 j (by omega))))
          have HP := Lib.hid (And.intro hp hq)
          have hj0 : decide ((0 : Int) ≤ j) = true := decide_eq_true (by omega)
          have hj1 : (j : Int) < ps.length := by omega
          have hj2 : decide ((0 : Int) < ((j + 1 : Nat) : Int)) = true := decide_eq_true (by omega)
          have hj3 : (0 : Int) ≤ (j : Int) + 1 := by omega
          have hj4 : (j : Int) + 1 < ps.length := by omega
          have hj5 : IntKind.i64.wrap (j : Int) = (j : Int) := IntWalk.i64_in _ ⟨by omega, by omega⟩
          have HO := Lib.hid ho
          clear ho c0 c1
          cases he : (a == a' + b')
          · have HX := Lib.hid (show exStepB ps (j + 1) = true by have := HO.out; simp [exStepB, hp, hq, this, he])
            clear hp hq
            have c0 := (HG.out.2.2.cellf HP.out.1).1
            have c1 := (HG.out.2.2.cellf HP.out.1).2
            dsimp only at c0 c1
            go_wp2_with fail
            refine (isExt_val HO.out _).mono ?_
            rintro e w2 ⟨rfl, hk4⟩
            have HC := Lib.hid (And.intro (grown_drew (grown_trans HG.out.1 hk4)) (HG.out.2.2.kept (grown_drew hk4)))
            have e0 := (HC.out.2.cellf HP.out.1).1
            obtain ⟨d0, d1⟩ := HC.out.2.cellf HP.out.2
            dsimp only at e0 d0 d1
            clear hk4 c0 c1
            go_wp2_with fail
            refine wp_region_held_drew (S := (fun w' => w'.cell? ⟨g, off + (j + 1) * 2, none⟩ = some (.int .i64 a) ∧ w'.cell? ⟨g, off + j * 2, none⟩ = some (.int .i64 a') ∧ w'.cell? ⟨g, off + j * 2 + 1, none⟩ = some (.int .i64 b'))) (by kernel_rfl) ?_ (fun hHeld => ?_)
            · first | exact ⟨HC3.out.1, HC3.out.2.1, HC3.out.2.2⟩ | exact ⟨e0, d0, d1⟩
            refine heldY 0 19 ?_
            refine heldY 1 20 ?_
            refine heldY 2 21 ?_
            refine heldY 3 22 ?_
            refine heldY 4 23 ?_
            refine heldY 5 24 ?_
            refine heldY 6 25 ?_
            refine heldY 7 26 ?_
            refine heldY 8 27 ?_
            refine heldY 9 28 ?_
            refine heldY 10 29 ?_
            refine heldY 11 30 ?_
            refine heldY 12 31 ?_
            refine wpAnyH_ready (rs := [13]) (by kernel_rfl) (by simp) ?_
            refine AllReadyH.cons rfl (fun K hK => ?_) AllReadyH.nil
            go_simp
            go_at_call 38; (with_reducible refine (extEnd_any _ _ _ HV.out.1 HV.out.2).mono ?_); rintro e w3 ⟨rfl, hk3⟩; have HC2 := Lib.hid (grown_trans HC.out.1 hk3); have HS2 := Lib.hid (And.intro (HC.out.2.kept hk3) True.intro); have HC3 := Lib.hid (And.intro (HS2.out.1.cellf HP.out.1).1 (HS2.out.1.cellf HP.out.2)); clear hk3
            refine hK.out _ _ ?_ (fun hHeld => ?_)
            · first | exact ⟨HC3.out.1, HC3.out.2.1, HC3.out.2.2⟩ | exact ⟨e0, d0, d1⟩
            clear hK K
            try simp only [Act.put, List.setIfInBounds_toArray, List.set_cons_zero, List.set_cons_succ]
            refine heldY 14 33 ?_
            refine heldY 15 34 ?_
            refine wpAnyH_done (by kernel_rfl) ?_ _
            go_wp2
            go_roundw
            case rel => exact ⟨j + 1 + 1, by omega, by go_num, fun i hi => by rcases Nat.lt_or_ge i (j + 1) with h | h
                                                                              · exact HG.out.2.1 i h
                                                                              · obtain rfl : i = j + 1 := by omega
                                                                                exact HX.out, HC2.out⟩
            case measure => simp [intOf]; omega
          · have HX := Lib.hid (ext_bad hlt (by have := HO.out; simp [exStepB, hp, hq, this, he]))
            clear hp hq
            have c0 := (HG.out.2.2.cellf HP.out.1).1
            have c1 := (HG.out.2.2.cellf HP.out.1).2
            dsimp only at c0 c1
            go_wp2_with fail
            refine (isExt_val HO.out _).mono ?_
            rintro e w2 ⟨rfl, hk4⟩
            have HC := Lib.hid (And.intro (grown_drew (grown_trans HG.out.1 hk4)) (HG.out.2.2.kept (grown_drew hk4)))
            have e0 := (HC.out.2.cellf HP.out.1).1
            obtain ⟨d0, d1⟩ := HC.out.2.cellf HP.out.2
            dsimp only at e0 d0 d1
            clear hk4 c0 c1
            go_wp2_with fail
            refine wp_region_held_drew (S := (fun w' => w'.cell? ⟨g, off + (j + 1) * 2, none⟩ = some (.int .i64 a) ∧ w'.cell? ⟨g, off + j * 2, none⟩ = some (.int .i64 a') ∧ w'.cell? ⟨g, off + j * 2 + 1, none⟩ = some (.int .i64 b'))) (by kernel_rfl) ?_ (fun hHeld => ?_)
            · first | exact ⟨HC3.out.1, HC3.out.2.1, HC3.out.2.2⟩ | exact ⟨e0, d0, d1⟩
            refine heldY 0 19 ?_
            refine heldY 1 20 ?_
            refine heldY 2 21 ?_
            refine heldY 3 22 ?_
            refine heldY 4 23 ?_
            refine heldY 5 24 ?_
            refine heldY 6 25 ?_
            refine heldY 7 26 ?_
            refine heldY 8 27 ?_
            refine heldY 9 28 ?_
            refine heldY 10 29 ?_
            refine heldY 11 30 ?_
            refine heldY 12 31 ?_
            refine wpAnyH_ready (rs := [13]) (by kernel_rfl) (by simp) ?_
            refine AllReadyH.cons rfl (fun K hK => ?_) AllReadyH.nil
            go_simp
            go_at_call 38; (with_reducible refine (extEnd_any _ _ _ HV.out.1 HV.out.2).mono ?_); rintro e w3 ⟨rfl, hk3⟩; have HC2 := Lib.hid (grown_trans HC.out.1 hk3); have HS2 := Lib.hid (And.intro (HC.out.2.kept hk3) True.intro); have HC3 := Lib.hid (And.intro (HS2.out.1.cellf HP.out.1).1 (HS2.out.1.cellf HP.out.2)); clear hk3
            refine hK.out _ _ ?_ (fun hHeld => ?_)
            · first | exact ⟨HC3.out.1, HC3.out.2.1, HC3.out.2.2⟩ | exact ⟨e0, d0, d1⟩
            clear hK K
            try simp only [Act.put, List.setIfInBounds_toArray, List.set_cons_zero, List.set_cons_succ]
            refine heldY 14 33 ?_
            refine heldY 15 34 ?_
            refine wpAnyH_done (by kernel_rfl) ?_ _
            go_wp2
            go_ret
            exact ⟨retB HX.out.symm, HC2.out⟩
      · obtain rfl : k = ps.length := by omega
        have HX := Lib.hid (And.intro hg ((ext_end hall).trans (decide_eq_true h8)))
        clear hg hall
        go_wp2
        go_ret
        exact ⟨retB HX.out.2.symm, HX.out.1⟩
  · have HX := Lib.hid (show extB ps = false by cases hb : extB ps with
      | false => rfl
      | true => exact absurd (ext_steps hb).2 h8)
    have t8 : decide ((8 : Int) < ps.length) = true := decide_eq_true (by omega)
    go_enter Try.func12, Try.ntmps12
    go_wp2
    go_ret
    exact ⟨retB HX.out.symm, grown_refl _ _⟩
theorem extValid_val {A : Option Addr} {n c : Nat} {ps : List Pr} {V : Bool} {w : World} (h : extB ps = V) (hl : ps.length = n) (hr : PRow w w.heap.size A ps) (hn : n ≤ 1048576) :
    Calls Try.prog 12 #[.slice A n c] w (KeptV (.bool V) w) := h ▸ extValid_any A n c ps w hl hr hn
theorem exAdd_last (out : List Pr) (x : Int) : (out = [] ∧ exAdd out x = [⟨x, 1⟩]) ∨ (∃ r l, out = r ++ [l] ∧ joinB l x = true ∧ exAdd out x = r ++ [⟨l.a, l.b + 1⟩]) ∨ (∃ r l, out = r ++ [l] ∧ joinB l x = false ∧ exAdd out x = out ++ [⟨x, 1⟩]) := by
  rcases Nat.eq_zero_or_pos out.length with h0 | h0
  · have e := List.eq_nil_of_length_eq_zero h0
    subst e
    exact .inl ⟨rfl, rfl⟩
  · obtain ⟨m, hm⟩ : ∃ m, out.length = m + 1 := ⟨out.length - 1, by omega⟩
    obtain ⟨r, l, e, hr, hl⟩ := list_last hm
    cases hj : joinB l x
    · exact .inr (.inr ⟨r, l, e, hj, exAdd_new hm hl hj⟩)
    · exact .inr (.inl ⟨r, l, e, hj, by rw [exAdd_join hm hl hj, e, set_last hr]⟩)
/-- What is valid with one more is valid without it. -/
theorem ext_front {r q : List Pr} (h : extB (r ++ q) = true) : extB r = true := by
  refine ext_of (by have := (ext_steps h).2; rw [List.length_append] at this; omega) (fun k p hp => ?_) (fun k p q hp hq => ?_)
  · have hk := (List.getElem?_eq_some_iff.1 hp).1
    exact exStep_ok (ps := r ++ _) (by rw [List.getElem?_append_left hk]; exact hp) ((ext_steps h).1 k (by rw [List.length_append]; omega))
  · have hk := (List.getElem?_eq_some_iff.1 hp).1
    exact ext_sep h (k := k) (by rw [List.getElem?_append_left hk]; exact hp) (by rw [List.getElem?_append_left (by omega)]; exact hq)
theorem ext_less {r : List Pr} {l : Pr} (h : extB (r ++ [⟨l.a, l.b + 1⟩]) = true) (h1 : 1 ≤ l.b) : extB (r ++ [l]) = true := by
  have hlen : (r ++ [l]).length = (r ++ [(⟨l.a, l.b + 1⟩ : Pr)]).length := by simp
  refine ext_of (by rw [hlen]; exact (ext_steps h).2) (fun k p hp => ?_) (fun k p q hp hq => ?_)
  · have hk := (List.getElem?_eq_some_iff.1 hp).1
    rw [List.length_append, List.length_singleton] at hk
    rcases Nat.lt_or_ge k r.length with h2 | h2
    · rw [List.getElem?_append_left h2] at hp
      exact exStep_ok (ps := r ++ _) (by rw [List.getElem?_append_left h2]; exact hp) ((ext_steps h).1 k (by rw [List.length_append]; omega))
    · obtain rfl : k = r.length := by omega
      rw [List.getElem?_append_right (Nat.le_refl _), Nat.sub_self] at hp
      injection hp with hp
      subst hp
      have h3 := ext_ok h (k := r.length) (p := ⟨l.a, l.b + 1⟩) (by rw [List.getElem?_append_right (Nat.le_refl _), Nat.sub_self]; rfl)
      dsimp only at h3
      simp only [exOk, Bool.and_eq_true]
      exact ⟨inB_iff.2 (by omega), inB_iff.2 (by omega)⟩
  · have hk := (List.getElem?_eq_some_iff.1 hp).1
    rw [List.length_append, List.length_singleton] at hk
    rw [List.getElem?_append_left (by omega)] at hq
    rcases Nat.lt_or_ge (k + 1) r.length with h2 | h2
    · rw [List.getElem?_append_left h2] at hp
      exact ext_sep h (k := k) (by rw [List.getElem?_append_left h2]; exact hp) (by rw [List.getElem?_append_left (by omega)]; exact hq)
    · have e : r.length = k + 1 := by omega
      rw [List.getElem?_append_right h2, e, Nat.sub_self] at hp
      injection hp with hp
      subst hp
      exact ext_sep h (k := k) (p := ⟨l.a, l.b + 1⟩) (by rw [List.getElem?_append_right h2, e, Nat.sub_self]; rfl) (by rw [List.getElem?_append_left (by omega)]; exact hq)
theorem exTo_back {xs : List Int} {k : Nat} (hk : k < xs.length) (h : extB (exTo xs (k + 1)) = true) : extB (exTo xs k) = true := by
  have hx := List.getElem?_eq_getElem hk
  rw [exTo_step hx] at h
  have hi := exInv (xs := xs) k (by omega)
  rcases exAdd_last (exTo xs k) xs[k] with ⟨e, _⟩ | ⟨r, l, e, _, e2⟩ | ⟨r, l, e, _, e2⟩
  · rw [e]; rfl
  · rw [e2] at h
    rw [e]
    exact ext_less h (hi.pos l (by rw [e]; simp)).1
  · rw [e2] at h
    exact ext_front h
theorem exTo_back' {xs : List Int} {k : Nat} : ∀ m, k + m ≤ xs.length → extB (exTo xs (k + m)) = true → extB (exTo xs k) = true
  | 0, _, h => h
  | m + 1, hm, h => exTo_back' m (by omega) (exTo_back (k := k + m) (by omega) h)
theorem exOf_bad {xs : List Int} {k : Nat} (hk : k ≤ xs.length) (h : extB (exTo xs k) = false) : exOfV xs = ([], false) := by
  have h2 : extB (exTo xs xs.length) = false := by
    cases hb : extB (exTo xs xs.length) with
    | false => rfl
    | true =>
      have := exTo_back' (xs := xs) (k := k) (xs.length - k) (by omega) (by rw [show k + (xs.length - k) = xs.length by omega]; exact hb)
      rw [h] at this
      cases this
  unfold exOfV
  rw [h2]
  rfl
/-- Behind a valid extent a number goes on exactly if it is the sum. -/
theorem join_ok {a b x : Int} (h : exOk ⟨a, b⟩ = true) : joinB ⟨a, b⟩ x = (x == a + b) := by
  simp only [exOk, Bool.and_eq_true] at h
  have h1 := inB_iff.1 h.1
  have h2 := inB_iff.1 h.2
  unfold joinB
  cases hx : (x == a + b)
  · rfl
  · rw [beq_iff_eq] at hx
    simp only [Bool.true_and]
    exact inB_iff.2 (by omega)
set_option maxHeartbeats 4000000 in
theorem extOf_any (A : Option Addr) (n c : Nat) (xs : List Int) (w : World) (hl : xs.length = n) (hr : IRow w w.heap.size A xs) (hn : n ≤ 1048576) (hx : ∀ x, x ∈ xs → -9223372036854775808 ≤ x ∧ x ≤ 9223372036854775807) :
    Calls Try.prog 16 #[.slice A n c] w (PMade2 (exOfV xs).1 (exOfV xs).2 w) := by
  have HR := Lib.hid (And.intro hl hx)
  have HS0 := Lib.hid (show ExSt w A xs 0 (.slice none 0 0) w from ⟨by rw [exTo_zero]; exact pown_nil _ _ _, hr, grown_refl _ _⟩)
  clear hl hr hx
  go_enter Try.func16, Try.ntmps16
  go_wp2
  go_loopw [4, 10] (fun u i wr => ∃ k : Nat, k ≤ n ∧ i = .int .i64 k ∧ ExSt w A xs k u wr ∧ extB (exTo xs k) = true) (fun _ i _ => n - (intOf i).toNat)
  case atStart => exact ⟨0, Nat.zero_le _, rfl, HS0.out, rfl⟩
  case round =>
    rename World => wq
    obtain ⟨k, hk, rfl, hS, hval⟩ := hrel
    have HS := Lib.hid hS
    have hi := exInv (xs := xs) k (by rw [HR.out.1]; exact hk)
    clear hS HS0
    by_cases hlt : k < n
    · obtain ⟨g, off, x, rfl, _, _, hxk, c0⟩ := HS.out.2.1.at_ (show k < xs.length by rw [HR.out.1]; exact hlt)
      have hk0 : decide ((0 : Int) ≤ k) = true := decide_eq_true (by omega)
      have hk1 : (k : Int) < n := by omega
      have hlen := hi.len
      have HB := Lib.hid (show (exTo xs (k + 1)).length ≤ 1048576 by have := (exInv (xs := xs) (k + 1) (by rw [HR.out.1]; exact hlt)).len; omega)
      rcases Nat.eq_zero_or_pos (exTo xs k).length with h0 | h0
      · have e0 := List.eq_nil_of_length_eq_zero h0
        obtain ⟨Au, cu, eu⟩ := HS.out.1.slice
        rw [h0] at eu
        subst eu
        clear hi
        cases hv : extB (exTo xs (k + 1))
        · have HX := Lib.hid (exOf_bad (xs := xs) (k := k + 1) (by have := HR.out.1; omega) hv)
          have HV := Lib.hid hv
          clear hv
          obtain ⟨u', w2, hrun, hz⟩ := HS.out.push (by rw [e0]; exact exAdd_none) hxk (by omega)
          obtain ⟨Au', cu', eu'⟩ := hz.1.slice
          subst eu'
          have HZ := Lib.hid hz
          have HRUN := Lib.hid hrun
          clear hz hrun
          go_wp2_with (at_builtin; refine wpList_append_run _ rfl (.tmp 36) (.tmp 39) _ _ rfl _ _ rfl rfl HRUN.out ?_)
          go_wp2_with fail
          refine (extValid_val HV.out rfl HZ.out.1.row HB.out).mono ?_
          rintro e w3 ⟨rfl, hk3⟩
          have HE := Lib.hid (grown_trans HZ.out.2.2 hk3)
          clear hk3
          go_wp2
          rw [HX.out]
          exact bodyPost_ret (v := .tuple #[.slice none 0 0, .bool false]) (by simp [results, Try.results16, go_sem, *]) rfl ⟨_, _, _, rfl, rfl, pown_nil _ _ _, HE.out⟩
        · have HV := Lib.hid hv
          clear hv
          obtain ⟨u', w2, hrun, hz⟩ := HS.out.push (by rw [e0]; exact exAdd_none) hxk (by omega)
          obtain ⟨Au', cu', eu'⟩ := hz.1.slice
          subst eu'
          have HZ := Lib.hid hz
          have HRUN := Lib.hid hrun
          clear hz hrun
          go_wp2_with (at_builtin; refine wpList_append_run _ rfl (.tmp 36) (.tmp 39) _ _ rfl _ _ rfl rfl HRUN.out ?_)
          go_wp2_with fail
          refine (extValid_val HV.out rfl HZ.out.1.row HB.out).mono ?_
          rintro e w3 ⟨rfl, hk3⟩
          have HE := Lib.hid (HZ.out.keep hk3)
          clear hk3
          go_wp2
          go_roundw
          case rel => exact ⟨k + 1, by omega, by go_num, HE.out, HV.out⟩
          case measure => simp [intOf]; omega
      · obtain ⟨m, hm⟩ : ∃ m, (exTo xs k).length = m + 1 := ⟨(exTo xs k).length - 1, by omega⟩
        obtain ⟨r, ⟨a, b⟩, hrl, hrm, hl⟩ := list_last hm
        rcases HS.out.1.form with ⟨_, e0⟩ | ⟨gu, cu, eu, hgu, _, _, _⟩
        · rw [e0] at h0; simp at h0
        rw [hm] at eu
        subst eu
        have hok := exStep_ok hl ((ext_steps hval).1 m (by omega))
        have HN := Lib.hid (exOk_nums hok)
        have hj := join_ok (x := x) hok
        obtain ⟨d0, d1⟩ := HS.out.1.at_ hm hl
        dsimp only at d0 d1
        have hm0 : decide ((0 : Int) ≤ m) = true := decide_eq_true (by omega)
        have hm1 : (m : Int) < ((m + 1 : Nat) : Int) := by omega
        have HL := Lib.hid (And.intro hm hl)
        clear hi hrl hrm hok hval h0
        cases hw : (x == a + b)
        · rw [hw] at hj
          cases hv : extB (exTo xs (k + 1))
          · have HX := Lib.hid (exOf_bad (xs := xs) (k := k + 1) (by have := HR.out.1; omega) hv)
            have HV := Lib.hid hv
            clear hv
            go_wp2_with fail
            refine (extEnd_any _ _ _ HN.out.1 HN.out.2).mono ?_
            rintro e w1 ⟨rfl, hk1'⟩
            replace HS := Lib.hid (HS.out.keep hk1')
            clear hk1'
            obtain ⟨u', w2, hrun, hz⟩ := HS.out.push (exAdd_new HL.out.1 HL.out.2 hj) hxk (by omega)
            obtain ⟨Au', cu', eu'⟩ := hz.1.slice
            subst eu'
            have HZ := Lib.hid hz
            have HRUN := Lib.hid hrun
            clear hz hrun
            go_wp2_with (at_builtin; refine wpList_append_run _ rfl (.tmp 36) (.tmp 39) _ _ rfl _ _ rfl rfl HRUN.out ?_)
            go_wp2_with fail
            refine (extValid_val HV.out rfl HZ.out.1.row HB.out).mono ?_
            rintro e w3 ⟨rfl, hk3⟩
            have HE := Lib.hid (grown_trans HZ.out.2.2 hk3)
            clear hk3
            go_wp2
            rw [HX.out]
            exact bodyPost_ret (v := .tuple #[.slice none 0 0, .bool false]) (by simp [results, Try.results16, go_sem, *]) rfl ⟨_, _, _, rfl, rfl, pown_nil _ _ _, HE.out⟩
          · have HV := Lib.hid hv
            clear hv
            go_wp2_with fail
            refine (extEnd_any _ _ _ HN.out.1 HN.out.2).mono ?_
            rintro e w1 ⟨rfl, hk1'⟩
            replace HS := Lib.hid (HS.out.keep hk1')
            clear hk1'
            obtain ⟨u', w2, hrun, hz⟩ := HS.out.push (exAdd_new HL.out.1 HL.out.2 hj) hxk (by omega)
            obtain ⟨Au', cu', eu'⟩ := hz.1.slice
            subst eu'
            have HZ := Lib.hid hz
            have HRUN := Lib.hid hrun
            clear hz hrun
            go_wp2_with (at_builtin; refine wpList_append_run _ rfl (.tmp 36) (.tmp 39) _ _ rfl _ _ rfl rfl HRUN.out ?_)
            go_wp2_with fail
            refine (extValid_val HV.out rfl HZ.out.1.row HB.out).mono ?_
            rintro e w3 ⟨rfl, hk3⟩
            have HE := Lib.hid (HZ.out.keep hk3)
            clear hk3
            go_wp2
            go_roundw
            case rel => exact ⟨k + 1, by omega, by go_num, HE.out, HV.out⟩
            case measure => simp [intOf]; omega
        · rw [hw] at hj
          cases hv : extB (exTo xs (k + 1))
          · have HX := Lib.hid (exOf_bad (xs := xs) (k := k + 1) (by have := HR.out.1; omega) hv)
            have HV := Lib.hid hv
            clear hv
            go_wp2_with fail
            refine (extEnd_any _ _ _ HN.out.1 HN.out.2).mono ?_
            rintro e w1 ⟨rfl, hk1'⟩
            replace HS := Lib.hid (HS.out.keep hk1')
            clear hk1'
            
            obtain ⟨d2, d3⟩ := HS.out.1.at_ HL.out.1 HL.out.2
            have d4 := HS.out.1.frozen HL.out.1 (m * 2 + 1)
            dsimp only at d2 d3
            have hz := HS.out.join HL.out.1 HL.out.2 hj hxk
            have hlz : (exTo xs (k + 1)).length = m + 1 := by rw [exTo_step hxk, exAdd_join HL.out.1 HL.out.2 hj, List.length_set]; exact HL.out.1
            rw [← hlz] at hz
            have HZ := Lib.hid hz
            have HLZ := Lib.hid hlz
            have hb1 : 1 ≤ b ∧ b ≤ 1048576 := HN.out.2
            clear hz hlz
            go_wp2_with fail
            rw [← HLZ.out]
            go_wp2_with fail
            refine (extValid_val HV.out rfl HZ.out.1.row HB.out).mono ?_
            rintro e w3 ⟨rfl, hk3⟩
            have HE := Lib.hid (grown_trans HZ.out.2.2 hk3)
            clear hk3
            go_wp2
            rw [HX.out]
            exact bodyPost_ret (v := .tuple #[.slice none 0 0, .bool false]) (by simp [results, Try.results16, go_sem, *]) rfl ⟨_, _, _, rfl, rfl, pown_nil _ _ _, HE.out⟩
          · have HV := Lib.hid hv
            clear hv
            go_wp2_with fail
            refine (extEnd_any _ _ _ HN.out.1 HN.out.2).mono ?_
            rintro e w1 ⟨rfl, hk1'⟩
            replace HS := Lib.hid (HS.out.keep hk1')
            clear hk1'
            
            obtain ⟨d2, d3⟩ := HS.out.1.at_ HL.out.1 HL.out.2
            have d4 := HS.out.1.frozen HL.out.1 (m * 2 + 1)
            dsimp only at d2 d3
            have hz := HS.out.join HL.out.1 HL.out.2 hj hxk
            have hlz : (exTo xs (k + 1)).length = m + 1 := by rw [exTo_step hxk, exAdd_join HL.out.1 HL.out.2 hj, List.length_set]; exact HL.out.1
            rw [← hlz] at hz
            have HZ := Lib.hid hz
            have HLZ := Lib.hid hlz
            have hb1 : 1 ≤ b ∧ b ≤ 1048576 := HN.out.2
            clear hz hlz
            go_wp2_with fail
            rw [← HLZ.out]
            go_wp2_with fail
            refine (extValid_val HV.out rfl HZ.out.1.row HB.out).mono ?_
            rintro e w3 ⟨rfl, hk3⟩
            have HE := Lib.hid (HZ.out.keep hk3)
            clear hk3
            go_wp2
            go_roundw
            case rel => exact ⟨k + 1, by omega, by go_num, HE.out, HV.out⟩
            case measure => simp [intOf]; omega
    · obtain rfl : k = n := by omega
      obtain ⟨Au, cu, eu⟩ := HS.out.1.slice
      subst eu
      have hXX : exOfV xs = (exTo xs k, true) := by unfold exOfV; rw [HR.out.1, hval]; rfl
      have HX := Lib.hid hXX
      clear hXX hval hi
      go_wp2
      rw [HX.out]
      exact bodyPost_ret (v := .tuple #[.slice Au (exTo xs k).length cu, .bool true]) (by simp [results, Try.results16, go_sem, *]) rfl ⟨_, _, _, rfl, rfl, HS.out.1, HS.out.2.2⟩
theorem VOwn.off {w : World} {base V : Nat} {t t' : TypeId} {v : Value} {cs : List Value} {cc : Array Value} (h : VOwn w base t v cs) (hb : Blk w V t' cc) (ht : t ≠ t') : some V ≠ v.ownBlock := by
  rcases h.form with ⟨rfl, _⟩ | ⟨g, cap, rfl, _⟩
  · simp [Value.ownBlock]
  · intro e
    simp only [Value.ownBlock, Option.some.injEq] at e
    exact h.ne_blk hb ht e.symm
theorem extList_no (A : Option Addr) (n c : Nat) (ps : List Pr) (w : World) (hl : ps.length = n) (hr : PRow w w.heap.size A ps) (hn : n ≤ 1048576) (hv : extB ps = false) :
    Calls Try.prog 20 #[.slice A n c] w (IMade [] w) := by
  have HR := Lib.hid (And.intro hl (And.intro hr hv))
  clear hl hr hv
  go_enter Try.func20, Try.ntmps20
  go_wp2_with fail
  refine (extValid_val HR.out.2.2 HR.out.1 HR.out.2.1 hn).mono ?_
  rintro e w2 ⟨rfl, hk⟩
  have HG := Lib.hid hk
  clear hk
  go_wp2
  go_ret
  exact ⟨_, _, _, rfl, rfl, World.ownsRow_nil _ _ _ _, HG.out⟩
set_option maxHeartbeats 1000000 in
theorem extList_yes (A : Option Addr) (n c : Nat) (ps : List Pr) (w : World) (hl : ps.length = n) (hr : PRow w w.heap.size A ps) (hn : n ≤ 1048576) (hv : extB ps = true) :
    Calls Try.prog 20 #[.slice A n c] w (IMade (exNums ps) w) := by
  have HR := Lib.hid (And.intro hl (And.intro hr hv))
  clear hl hr hv
  go_enter Try.func20, Try.ntmps20
  go_wp2_with fail
  refine (extValid_val HR.out.2.2 HR.out.1 HR.out.2.1 hn).mono ?_
  rintro e w2 ⟨rfl, hk⟩
  have HS0 := Lib.hid (And.intro (show IOwn w2 w.heap.size (.slice none 0 0) [] from World.ownsRow_nil _ _ _ _) (And.intro (HR.out.2.1.kept hk) hk))
  clear hk
  go_wp2
  go_loopw [3, 12] (fun u i wr => ∃ k : Nat, k ≤ n ∧ i = .int .i64 k ∧ IOwn wr w.heap.size u (exNums (ps.take k)) ∧ PRow wr w.heap.size A ps ∧ w.grownBy wr none) (fun _ i _ => n - (intOf i).toNat)
  case atStart => exact ⟨0, Nat.zero_le _, rfl, HS0.out.1, HS0.out.2.1, HS0.out.2.2⟩
  case round =>
    rename World => wq
    obtain ⟨k, hk, rfl, ho, hrow, hg⟩ := hrel
    have HS := Lib.hid (And.intro ho (And.intro hrow hg))
    clear ho hrow hg HS0
    by_cases hlt : k < n
    · have hk0 : decide ((0 : Int) ≤ k) = true := decide_eq_true (by omega)
      have hk1 : (k : Int) < n := by omega
      obtain ⟨g, off, rfl, _⟩ := HS.out.2.1.pos (by rw [HR.out.1]; omega)
      obtain ⟨⟨a, b⟩, hp⟩ : ∃ p, ps[k]? = some p := ⟨_, List.getElem?_eq_getElem (by rw [HR.out.1]; exact hlt)⟩
      have hb := ext_ok HR.out.2.2 hp
      dsimp only at hb
      obtain ⟨bn, rfl⟩ := Int.eq_ofNat_of_zero_le (show 0 ≤ b by omega)
      have HP := Lib.hid hp
      have hbn : bn ≤ 40 := by omega
      have HN := Lib.hid (show (0 ≤ a ∧ a ≤ 1000000) ∧ 1 ≤ (bn : Int) ∧ (bn : Int) ≤ 1048576 by omega)
      obtain ⟨c0, c1⟩ := HS.out.2.1.cellf HP.out
      dsimp only at c0 c1
      have HE := Lib.hid (Blk.new wq 27 #[.int .i64 a, .int .i64 (bn : Int)])
      have HK := Lib.hid (grown_alloc (grown_refl wq none) (.cells #[.int .i64 a, .int .i64 (bn : Int)] 27))
      clear hp
      go_wp2
      go_loopw [3, 6] (fun u i wr => ∃ j : Nat, j ≤ bn ∧ i = .int .i64 (a + (j : Int)) ∧ IOwn wr w.heap.size u (exNums (ps.take k) ++ (exOne ⟨a, (bn : Int)⟩).take j) ∧ PRow wr w.heap.size (some ⟨g, off, none⟩) ps ∧ w.grownBy wr none ∧ Blk wr wq.heap.size 27 #[.int .i64 a, .int .i64 (bn : Int)]) (fun _ i _ => bn - (intOf i - a).toNat)
      case atStart => exact ⟨0, Nat.zero_le _, by go_num, by rw [List.take_zero, List.append_nil]; exact VOwn.keep HS.out.1 HK.out, HS.out.2.1.kept HK.out, grown_trans HS.out.2.2 HK.out, HE.out⟩
      case round =>
        rename World => wz
        obtain ⟨j, hj, rfl, ho, hrow, hg, hbk⟩ := hrel
        have HZ0 := Lib.hid (And.intro ho (And.intro hrow (And.intro hg hbk)))
        have e0 := hbk.cell 0
        have e1 := hbk.cell 1
        clear ho hrow hg hbk HK HE
        by_cases hjb : j < bn
        · have hjb1 : decide (a + (j : Int) < a + (bn : Int)) = true := decide_eq_true (by omega)
          have hlen : (exNums (ps.take k) ++ (exOne ⟨a, (bn : Int)⟩).take j).length ≤ 1000000 := by
            have h1 := exNums_take_le HR.out.2.2 k
            rw [List.length_append, List.length_take, exOne_length]
            omega
          have HLEN := Lib.hid hlen
          clear hlen
          go_wp2_with fail
          refine (extEnd_any _ _ _ HN.out.1 HN.out.2).mono ?_
          rintro e w3 ⟨rfl, hk3⟩
          replace HZ0 := Lib.hid (And.intro (VOwn.keep HZ0.out.1 hk3) (And.intro (HZ0.out.2.1.kept hk3) (And.intro (grown_trans HZ0.out.2.2.1 hk3) (HZ0.out.2.2.2.keep hk3))))
          obtain ⟨u', w4, hrun, hi3, hg3⟩ := push_int (wr := w) (a + (j : Int)) HZ0.out.1 HZ0.out.2.2.1.size HLEN.out
          have K1 := grown_alloc (grown_refl w3 none) (.cells #[.int .i64 (a + (j : Int))] 3)
          rw [List.append_assoc, ← exOne_take (p := ⟨a, (bn : Int)⟩) (by simpa using hjb)] at hi3
          have hb4 : Blk w4 wq.heap.size 27 #[.int .i64 a, .int .i64 (bn : Int)] := (HZ0.out.2.2.2.keep K1).grown hg3 (VOwn.off HZ0.out.1 HZ0.out.2.2.2 (by decide))
          have HZ := Lib.hid (And.intro hi3 (And.intro (PRow.grown (HZ0.out.2.1.kept K1) hg3 (fun g e => (VOwn.lt HZ0.out.1 g e).1)) (And.intro (grown_joinR (grown_trans HZ0.out.2.2.1 K1) hg3 (fun g e => (VOwn.lt HZ0.out.1 g e).1)) hb4)))
          have HRUN := Lib.hid hrun
          clear hrun hi3 hg3 K1 hb4 hk3
          go_wp2_with (at_builtin; refine wpList_append_run _ rfl (.tmp 24) (.tmp 26) _ _ rfl _ _ rfl rfl HRUN.out ?_)
          go_roundw
          case rel => exact ⟨j + 1, by omega, by go_num, HZ.out.1, HZ.out.2.1, HZ.out.2.2.1, HZ.out.2.2.2⟩
          case measure => simp [intOf]; omega
        · obtain rfl : j = bn := by omega
          have hjb1 : decide (a + (j : Int) < a + (j : Int)) = false := decide_eq_false (by omega)
          have e3 : exNums (ps.take k) ++ (exOne ⟨a, (j : Int)⟩).take j = exNums (ps.take (k + 1)) := by
            rw [exNums_take HP.out, List.take_of_length_le (l := exOne ⟨a, (j : Int)⟩) (by rw [exOne_length]; simp)]
          have HE3 := Lib.hid e3
          clear e3
          go_wp2_with fail
          refine (extEnd_any _ _ _ HN.out.1 HN.out.2).mono ?_
          rintro e w3 ⟨rfl, hk3⟩
          replace HZ0 := Lib.hid (And.intro (VOwn.keep HZ0.out.1 hk3) (And.intro (HZ0.out.2.1.kept hk3) (grown_trans HZ0.out.2.2.1 hk3)))
          clear hk3
          go_wp2
          go_roundw
          case rel => exact ⟨k + 1, by omega, by go_num, by rw [← HE3.out]; exact HZ0.out.1, HZ0.out.2.1, HZ0.out.2.2⟩
          case measure => simp [intOf]; omega
    · obtain rfl : k = n := by omega
      have e0 : ps.take k = ps := List.take_of_length_le (by rw [HR.out.1]; exact Nat.le_refl _)
      have ho := HS.out.1
      rw [e0] at ho
      obtain ⟨Au, cu, rfl⟩ := IOwn.slice ho
      have HO := Lib.hid ho
      clear ho e0
      go_wp2
      go_ret
      exact ⟨_, _, _, rfl, rfl, HO.out, HS.out.2.2⟩
theorem extList_any (A : Option Addr) (n c : Nat) (ps : List Pr) (w : World) (hl : ps.length = n) (hr : PRow w w.heap.size A ps) (hn : n ≤ 1048576) :
    Calls Try.prog 20 #[.slice A n c] w (IMade (exListV ps) w) := by
  unfold exListV
  cases hv : extB ps
  · exact extList_no A n c ps w hl hr hn hv
  · exact extList_yes A n c ps w hl hr hn hv
/-- ExtentAt is told by the list. -/
theorem exAt_list (ps : List Pr) (n : Nat) : exAtV ps (n : Int) = ((exListV ps)[n]?).getD (-1) := by
  cases hv : extB ps
  · simp [exAtV, exListV, hv]
  · simp [exAtV, exListV, hv]
theorem extAt_any (A : Option Addr) (n c : Nat) (ps : List Pr) (x : Int) (w : World) (hl : ps.length = n) (hr : PRow w w.heap.size A ps) (hn : n ≤ 1048576) (hx : -9223372036854775808 ≤ x ∧ x ≤ 9223372036854775807) :
    Calls Try.prog 24 #[.slice A n c, .int .i64 x] w (KeptV (.int .i64 (exAtV ps x)) w) := by
  have HR := Lib.hid (And.intro hl hr)
  clear hl hr
  have HLE := Lib.hid (exListV_le ps)
  go_enter Try.func24, Try.ntmps24
  go_wp2_with fail
  refine (extList_any _ _ _ _ _ HR.out.1 HR.out.2 hn).mono ?_
  rintro e w2 ⟨A2, m, c2, rfl, hm, ho, hk⟩
  have HO := Lib.hid ho
  have HM := Lib.hid hm
  have HK := Lib.hid hk
  have hmm : m ≤ 320 := by rw [← hm]; exact HLE.out
  clear ho hk hm
  by_cases hx0 : x < 0
  · have t0 : decide (x < 0) = true := decide_eq_true hx0
    have HV := Lib.hid (exAt_neg (ps := ps) hx0)
    go_wp2
    go_ret
    exact ⟨retI HV.out.symm, HK.out⟩
  obtain ⟨N, rfl⟩ := Int.eq_ofNat_of_zero_le (show 0 ≤ x by omega)
  have t0 : decide ((N : Int) < 0) = false := decide_eq_false hx0
  have HV := Lib.hid (exAt_list ps N)
  by_cases hN : N < m
  · have t1 : decide ((m : Int) ≤ (N : Int)) = false := decide_eq_false (by omega)
    have t2 : decide ((0 : Int) ≤ (N : Int)) = true := decide_eq_true (by omega)
    have t3 : (N : Int) < m := by omega
    obtain ⟨y, hy⟩ : ∃ y, (exListV ps)[N]? = some y := ⟨_, List.getElem?_eq_getElem (by rw [HM.out]; exact hN)⟩
    have hrow : IRow w2 w2.heap.size A2 (exListV ps) := VOwn.row HO.out
    obtain ⟨g, off, rfl⟩ := IRow.pos hrow (by rw [HM.out]; omega)
    have c0 := IRow.cellf hrow hy
    have HY := Lib.hid hy
    clear hy hrow
    go_wp2
    go_ret
    exact ⟨retI (by rw [HV.out, HY.out]; rfl), HK.out⟩
  · have t1 : decide ((m : Int) ≤ (N : Int)) = true := decide_eq_true (by omega)
    have HY := Lib.hid (List.getElem?_eq_none (l := exListV ps) (i := N) (by rw [HM.out]; omega))
    go_wp2
    go_ret
    exact ⟨retI (by rw [HV.out, HY.out]; rfl), HK.out⟩
end Go.Proofs.Ytpfmjagbnfcocaa
