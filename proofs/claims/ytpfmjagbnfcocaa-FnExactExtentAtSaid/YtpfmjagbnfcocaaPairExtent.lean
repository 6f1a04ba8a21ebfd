/- Slices of Extent: append, make, the laws' helpers for them; how one that came in is opened. -/
import Derived.Test.YtpfmjagbnfcocaaPairs
import Derived.Test.YtpfmjagbnfcocaaPages
import Derived.Test.YtpfmjagbnfcocaaTables7
import Derived.Test.YtpfmjagbnfcocaaAgg
import Derived.Test.YtpfmjagbnfcocaaHand
import Derived.Deep.QuietTactic
import Derived.BigQuiet
namespace Go.Proofs.Ytpfmjagbnfcocaa
open Go.ChangeShapes Go.WideShapes Go.ChangeAt Go.RowKit Go.Deep
set_option linter.unusedVariables false

theorem extent_info : (Try.prog.info? 27).map (fun i => (i.zero, i.size, i.bytes)) = some (some (.agg #[.int .i64 0, .int .i64 0]), 2, 16) := by kernel_rfl
/-- append(v, s...): the pairs of a row that is read (not empty), onto a row of the call's own. -/
theorem append_extent (w : World) (base : Nat) (v : Value) (A : Option Addr) (B m c : Nat) (xs ys : List Pr) (h : POwn w base 27 v xs) (hr : PRow w B A ys) (hl : ys.length = m) (hpos : 0 < m) (hn : xs.length + m ≤ 1048576) (hb : base ≤ w.heap.size) :
    ∃ v' w', (∀ ty, (Builtin.append_ #[23, 23] ty #[v, .slice A m c]).run Try.prog w = .ok v' w') ∧ POwn w' base 27 v' (xs ++ ys) ∧ w.grownBy w' v.ownBlock := by
  obtain ⟨g, off, rfl, _, hz, hc⟩ := hr (by rw [rv_length]; omega)
  obtain ⟨i, hi, hzz, hs, hby⟩ := info_parts extent_info
  have hsrc : ∀ j u, (rv ys)[j]? = some u → w.cell? ((⟨g, off, none⟩ : Addr).add j) = some u := by
    intro j u hu
    have hadd : (⟨g, off, none⟩ : Addr).add j = ⟨g, off + j, none⟩ := by unfold Addr.add; split <;> simp_all
    rw [hadd]
    exact hc j u hu
  obtain ⟨v', w', hrun, h2, h3, _, h5⟩ := run_append_own_at (P := Try.prog) w base 23 0 27 i _ 2 16 Try.underlying23 hi hzz hs hby rfl (by omega) v xs.length (rv xs) h ⟨g, off, none⟩ m c (rv ys) (by rw [rv_length, hl]) hsrc (rv_one ys)
    (by simp only [maxLen]; omega) (by omega) hb
  refine ⟨v', w', fun _ => hrun, ?_, h3⟩
  unfold POwn
  rw [List.length_append, rv_append, hl]
  exact h2
/-- append(v, s...) where s has no element: nothing changes. -/
theorem append_extent_none (w : World) (base : Nat) (v : Value) (A : Option Addr) (c : Nat) (xs : List Pr) (hown : POwn w base 27 v xs) :
    ∀ ty, (Builtin.append_ #[23, 23] ty #[v, .slice A 0 c]).run Try.prog w = .ok v w := by
  intro ty
  obtain ⟨i, hi, hzz, hs, hby⟩ := info_parts extent_info
  have hf : ∀ a : Addr, _ := fun a => run_firstCells_some (P := Try.prog) w 2 0 a 0 c [] rfl (by simp)
  rcases hown.2 with ⟨rfl, _⟩ | ⟨g, cap, cur, rfl, _, _, hnc, _⟩
  · cases A with
    | none => simp [Builtin.append_, run_underlying Try.underlying23, sizeOf, typeInfo, hi, Builtin.lenOf, Builtin.firstCells]
    | some a => simp [Builtin.append_, run_underlying Try.underlying23, sizeOf, typeInfo, hi, hs, Builtin.lenOf, hf]
  · cases A with
    | none => simp [Builtin.append_, run_underlying Try.underlying23, sizeOf, typeInfo, hi, Builtin.lenOf, Builtin.firstCells, hnc, storeCells]
    | some a => simp [Builtin.append_, run_underlying Try.underlying23, sizeOf, typeInfo, hi, hs, Builtin.lenOf, hf, hnc, storeCells]
/-- append(u, p): one pair more. -/
theorem push_extent {wq : World} {base : Nat} {u : Value} {xs : List Pr} (a b : Int) (h : POwn wq base 27 u xs) (hb : base ≤ wq.heap.size) (hn : xs.length < 1048576) :
    ∃ u' w', (∀ ty, (Builtin.append_ #[23, 23] ty #[u, .slice (some ⟨wq.heap.size, 0, none⟩) 1 1]).run Try.prog (wq.alloc (.cells #[.int .i64 a, .int .i64 b] 27)) = .ok u' w') ∧ POwn w' base 27 u' (xs ++ [⟨a, b⟩]) ∧ (wq.alloc (.cells #[.int .i64 a, .int .i64 b] 27)).grownBy w' u.ownBlock :=
  append_extent _ base u _ _ 1 1 xs [⟨a, b⟩] (h.keep (grown_alloc (grown_refl wq none) _)) (prow_one wq _ a b) rfl (by omega) (by omega) (by simp only [size_alloc1]; omega)
theorem make_extent (w : World) (n : Nat) (hn : n ≤ 1048576) :
    (Instr.makeSlice 23 (.int .i64 (n : Int)) (.int .i64 (n : Int))).run Try.prog w = .ok (.slice (some ⟨w.heap.size, 0, none⟩) n n) (w.alloc (.cells (madeCells #[.int .i64 0, .int .i64 0] (n * 2)) 27)) := by
  obtain ⟨i, hi, hz, hs, hb⟩ := info_parts extent_info
  have hr := run_make (P := Try.prog) w 23 27 i _ Try.underlying23 hi hz .i64 .i64 n n (by omega) (by omega) (by rw [hb]; omega) (by omega)
  simp only [Int.toNat_natCast, hs] at hr
  exact hr
theorem szExtentS_any (A : Option Addr) (n c : Nat) (w : World) (hm : n ≤ 9223372036854775807) :
    Calls Try.prog 26 #[.slice A n c, .int .i64 1048576] w fun e w' => (e = .returned (.int .i64 (if n ≤ 1048576 then 1048576 - n else -1))) ∧ w = w' := by
  by_cases hn : n ≤ 1048576
  · have t1 : decide ((1048576 : Int) - n < 0) = false := decide_eq_false (by omega)
    rw [if_pos hn]
    go_enter Try.func26, Try.ntmps26
    go_wp2
    go_ret
    exact ⟨rfl, rfl⟩
  · have t1 : decide ((1048576 : Int) - n < 0) = true := decide_eq_true (by omega)
    rw [if_neg hn]
    go_enter Try.func26, Try.ntmps26
    go_wp2
    go_ret
    exact ⟨rfl, rfl⟩
theorem toExtent_any (a b : Int) (w : World) : Calls Try.prog 43 #[.agg #[.int .i64 a, .int .i64 b]] w fun e w' => e = .returned (.agg #[.int .i64 a, .int .i64 b]) ∧ w.grownBy w' none := by
  go_enter Try.func43, Try.ntmps43
  go_wp2
  exact bodyPost_ret (v := .agg #[.int .i64 a, .int .i64 b]) (by simp [results, Try.results43, go_sem, *]) rfl ⟨rfl, by repeat (first | exact grown_refl _ _ | refine grown_alloc ?_ _ | refine grown_put ?_ (by simp) _)⟩
/-- Pairs in memory of their own are returned. -/
def MadeExtent (xs : List Pr) (n : Nat) (w : World) (e : Ending) (w' : World) : Prop := ∃ (A : Option Addr) (c : Nat), e = .returned (.slice A n c) ∧ xs.length = n ∧ POwn w' w.heap.size 27 (.slice A n c) xs ∧ w.grownBy w' none
theorem toExtentS_any (A : Option Addr) (n c : Nat) (xs : List Pr) (w : World) (hl : xs.length = n) (hr : PRow w w.heap.size A xs) (hn : n ≤ 1048576) :
    Calls Try.prog 27 #[.slice A n c] w (MadeExtent xs n w) := by
  have HR := Lib.hid (And.intro hl hr)
  have hmk := make_extent w n hn
  have hO := pown_made w w.heap.size n 27 (Nat.le_refl _) (by simp only [maxLen]; omega)
  rw [← pfill_zero xs n] at hO
  have HO := Lib.hid hO
  clear hl hr hO
  go_enter Try.func27, Try.ntmps27
  go_wp2
  clear hmk
  go_loopw [4] (fun i wr => ∃ k : Nat, i = .int .i64 k ∧ k ≤ n ∧ POwn wr w.heap.size 27 (.slice (some ⟨w.heap.size, 0, none⟩) n n) (pfill xs n k) ∧ w.grownBy wr none) (fun i _ => n - (intOf i).toNat)
  case atStart => exact ⟨0, rfl, Nat.zero_le _, HO.out, grown_alloc (grown_refl _ _) _⟩
  case round =>
    rename World => wq
    obtain ⟨k, rfl, hk, ho, hg⟩ := hrel
    have HS := Lib.hid (And.intro ho hg)
    clear HO ho hg
    by_cases hlt : k < n
    · have hrow := HR.out.2.kept HS.out.2
      obtain ⟨g, off, rfl, hgB⟩ := hrow.pos (by have := HR.out.1; omega)
      obtain ⟨⟨a, b⟩, hp⟩ : ∃ p, xs[k]? = some p := ⟨_, List.getElem?_eq_getElem (by have := HR.out.1; omega)⟩
      obtain ⟨c0, c1⟩ := hrow.cellf hp
      have HP := Lib.hid hp
      clear hp hrow
      go_wp2_with fail
      refine (toExtent_any _ _ _).mono ?_
      rintro e w1 ⟨rfl, hkp⟩
      replace HS := Lib.hid (And.intro (HS.out.1.keep hkp) (grown_trans HS.out.2 hkp))
      clear hkp c0 c1
      have hfl := pfill_length HR.out.1 hk
      obtain ⟨q, hq⟩ : ∃ q, (pfill xs n k)[k]? = some q := ⟨_, List.getElem?_eq_getElem (by omega)⟩
      obtain ⟨d0, d1⟩ := HS.out.1.at_ hfl hq
      have f0 := HS.out.1.frozen hfl (k * 2)
      have f1 := HS.out.1.frozen hfl (k * 2 + 1)
      have hset := HS.out.1.set2 hfl hq ⟨a, b⟩
      rw [pfill_step HR.out.1 HP.out] at hset
      have HL := Lib.hid (And.intro hset (grown_put (grown_put HS.out.2 (p := ⟨w.heap.size, k * 2, none⟩) (Nat.le_refl _) (.int .i64 a)) (p := ⟨w.heap.size, k * 2 + 1, none⟩) (Nat.le_refl _) (.int .i64 b)))
      clear hfl hq hset
      go_wp2
      go_roundw
      case rel => exact ⟨k + 1, by go_num, by omega, HL.out.1, HL.out.2⟩
      case measure => simp [intOf]; omega
    · obtain rfl : k = n := by omega
      go_wp2
      go_ret
      exact ⟨_, _, rfl, HR.out.1, by have h := HS.out.1; rw [pfill_end HR.out.1] at h; exact h, HS.out.2⟩
theorem eqExtent_same (a b : Int) (w : World) : Calls Try.prog 44 #[.agg #[.int .i64 a, .int .i64 b], .agg #[.int .i64 a, .int .i64 b]] w (KeptV (.bool true) w) := by
  have e1 : (a != a) = false := by simp
  have e2 : (b != b) = false := by simp
  go_enter Try.func44, Try.ntmps44
  go_wp2
  go_ret
  exact ⟨rfl, by repeat (first | exact grown_refl _ _ | refine grown_alloc ?_ _)⟩
theorem eqExtentS_same (A A' : Option Addr) (c c' n : Nat) (xs : List Pr) (w : World) (hl : xs.length = n) (hr : PRow w w.heap.size A xs) (hr' : PRow w w.heap.size A' xs) (hn : n ≤ 1048576) :
    Calls Try.prog 28 #[.slice A n c, .slice A' n c'] w (KeptV (.bool true) w) := by
  subst hl
  have HR := Lib.hid (And.intro hr hr')
  clear hr hr'
  go_enter Try.func28, Try.ntmps28
  go_wp2
  go_loopw [5] (fun i wr => ∃ k : Nat, k ≤ xs.length ∧ i = .int .i64 k ∧ w.grownBy wr none) (fun i _ => xs.length - (intOf i).toNat)
  case atStart => exact ⟨0, Nat.zero_le _, rfl, grown_refl _ _⟩
  case round =>
    rename World => wq
    obtain ⟨k, hk, rfl, hg⟩ := hrel
    by_cases hlt : k < xs.length
    · have h1 := HR.out.1.kept hg
      have h2 := HR.out.2.kept hg
      obtain ⟨g, off, rfl, _⟩ := h1.pos (by omega)
      obtain ⟨g', off', rfl, _⟩ := h2.pos (by omega)
      obtain ⟨⟨a, b⟩, hp⟩ : ∃ p, xs[k]? = some p := ⟨_, List.getElem?_eq_getElem hlt⟩
      obtain ⟨c0, c1⟩ := h1.cellf hp
      obtain ⟨d0, d1⟩ := h2.cellf hp
      have HG := Lib.hid hg
      have HP := Lib.hid hp
      clear hp h1 h2 hg
      go_wp2_with fail
      clear c0 c1 d0 d1
      refine wp_region_held_drew (S := (fun w' => w'.cell? ⟨g, off + k * 2, none⟩ = some (.int .i64 a) ∧ w'.cell? ⟨g, off + k * 2 + 1, none⟩ = some (.int .i64 b) ∧ w'.cell? ⟨g', off' + k * 2, none⟩ = some (.int .i64 a) ∧ w'.cell? ⟨g', off' + k * 2 + 1, none⟩ = some (.int .i64 b))) (by kernel_rfl) ?_ (fun hHeld => ?_)
      · exact ⟨((HR.out.1.kept HG.out).cellf HP.out).1, ((HR.out.1.kept HG.out).cellf HP.out).2, ((HR.out.2.kept HG.out).cellf HP.out).1, ((HR.out.2.kept HG.out).cellf HP.out).2⟩
      refine heldY 0 17 ?_
      refine heldY 1 18 ?_
      refine heldY 2 19 ?_
      refine heldY 3 20 ?_
      refine heldY 4 21 ?_
      refine heldY 5 22 ?_
      refine heldY 6 23 ?_
      refine heldY 7 24 ?_
      refine wpAnyH_ready (rs := [8]) (by kernel_rfl) (by simp) ?_
      refine AllReadyH.cons rfl (fun K hK => ?_) AllReadyH.nil
      go_simp
      go_at_call 44; refine (eqExtent_same _ _ _).mono ?_; rintro e w1 ⟨rfl, hkk⟩; replace HG := Lib.hid (grown_trans (grown_drew HG.out) hkk); clear hkk
      refine hK.out _ _ ?_ (fun hHeld => ?_)
      · exact ⟨((HR.out.1.kept HG.out).cellf HP.out).1, ((HR.out.1.kept HG.out).cellf HP.out).2, ((HR.out.2.kept HG.out).cellf HP.out).1, ((HR.out.2.kept HG.out).cellf HP.out).2⟩
      clear hK K
      try simp only [Act.put, List.setIfInBounds_toArray, List.set_cons_zero, List.set_cons_succ]
      refine heldY 9 26 ?_
      refine wpAnyH_done (by kernel_rfl) ?_ _
      go_wp2
      go_roundw
      case rel => exact ⟨k + 1, by omega, by go_num, HG.out⟩
      case measure => simp [intOf]; omega
    · have HG := Lib.hid hg
      clear hg
      go_wp2
      go_ret
      exact ⟨rfl, HG.out⟩
theorem sameExtents_same (A A' : Option Addr) (c c' n : Nat) (xs : List Pr) (w : World) (hl : xs.length = n) (hr : PRow w w.heap.size A xs) (hr' : PRow w w.heap.size A' xs) (hn : n ≤ 1048576) :
    Calls Try.prog 18 #[.slice A n c, .slice A' n c'] w (KeptV (.bool true) w) := by
  subst hl
  have HR := Lib.hid (And.intro hr hr')
  clear hr hr'
  go_enter Try.func18, Try.ntmps18
  go_wp2
  go_loopw [5] (fun i wr => ∃ k : Nat, k ≤ xs.length ∧ i = .int .i64 k ∧ w.grownBy wr none) (fun i _ => xs.length - (intOf i).toNat)
  case atStart => exact ⟨0, Nat.zero_le _, rfl, grown_refl _ _⟩
  case round =>
    rename World => wq
    obtain ⟨k, hk, rfl, hg⟩ := hrel
    by_cases hlt : k < xs.length
    · have h1 := HR.out.1.kept hg
      have h2 := HR.out.2.kept hg
      obtain ⟨g, off, rfl, _⟩ := h1.pos (by omega)
      obtain ⟨g', off', rfl, _⟩ := h2.pos (by omega)
      obtain ⟨⟨a, b⟩, hp⟩ : ∃ p, xs[k]? = some p := ⟨_, List.getElem?_eq_getElem hlt⟩
      obtain ⟨c0, c1⟩ := h1.cellf hp
      obtain ⟨d0, d1⟩ := h2.cellf hp
      have ee1 : (a != a) = false := by simp
      have ee2 : (b != b) = false := by simp
      have ee3 : (a == a) = true := by simp
      have ee4 : (b == b) = true := by simp
      have HG := Lib.hid hg
      have HP := Lib.hid hp
      clear hp h1 h2 hg
      go_wp2_with fail
      clear c0 c1 d0 d1
      refine wp_region_held_drew (S := (fun w' => w'.cell? ⟨g, off + k * 2, none⟩ = some (.int .i64 a) ∧ w'.cell? ⟨g, off + k * 2 + 1, none⟩ = some (.int .i64 b) ∧ w'.cell? ⟨g', off' + k * 2, none⟩ = some (.int .i64 a) ∧ w'.cell? ⟨g', off' + k * 2 + 1, none⟩ = some (.int .i64 b))) (by kernel_rfl) ?_ (fun hHeld => ?_)
      · exact ⟨((HR.out.1.kept HG.out).cellf HP.out).1, ((HR.out.1.kept HG.out).cellf HP.out).2, ((HR.out.2.kept HG.out).cellf HP.out).1, ((HR.out.2.kept HG.out).cellf HP.out).2⟩
      refine heldY 0 17 ?_
      refine heldY 1 18 ?_
      refine heldY 2 19 ?_
      refine heldY 3 20 ?_
      refine heldY 4 21 ?_
      refine heldY 5 22 ?_
      refine heldY 6 23 ?_
      refine heldY 7 24 ?_
      refine heldY 8 25 ?_
      refine wpAnyH_done (by kernel_rfl) ?_ _
      go_wp2
      go_roundw
      case rel => exact ⟨k + 1, by omega, by go_num, grown_drew HG.out⟩
      case measure => simp [intOf]; omega
    · have HG := Lib.hid hg
      clear hg
      go_wp2
      go_ret
      exact ⟨rfl, HG.out⟩
def MarkedExtent (k0 : Nat) (A : Option Addr) (n c base : Nat) (w : World) (e : Ending) (w' : World) : Prop :=
  e = .returned (.int .i64 ((k0 + 2 * n : Nat) : Int)) ∧ POwn w' base 27 (.slice A n c) (pmarks k0 n) ∧ w.grownBy w' (Value.slice A n c).ownBlock
theorem markExtentS_some (g n c k0 base : Nat) (ps : List Pr) (w : World) (hl : ps.length = n) (ho : POwn w base 27 (.slice (some ⟨g, 0, none⟩) n c) ps) (hn : n ≤ 1048576) (hk : k0 ≤ 100000000) :
    Calls Try.prog 32 #[.slice (some ⟨g, 0, none⟩) n c, .int .i64 k0] w (MarkedExtent k0 (some ⟨g, 0, none⟩) n c base w) := by
  subst hl
  have HO := Lib.hid ho
  clear ho
  go_enter Try.func32, Try.ntmps32
  go_wp2
  go_loopw [1, 5] (fun t i wr => ∃ (k K : Nat), i = .int .i64 k ∧ t = .int .i64 K ∧ k ≤ ps.length ∧ K = k0 + 2 * k ∧ POwn wr base 27 (.slice (some ⟨g, 0, none⟩) ps.length c) (pmarkTo k0 ps k) ∧ w.grownBy wr (some g)) (fun _ i _ => ps.length - (intOf i).toNat)
  case atStart => exact ⟨0, k0, rfl, rfl, Nat.zero_le _, by omega, by rw [pmarkTo_zero]; exact HO.out, grown_refl _ _⟩
  case round =>
    rename World => wq
    obtain ⟨k, K, rfl, rfl, hkn, hK, hown, hg⟩ := hrel
    clear HO
    have hfl := pmarkTo_length (k0 := k0) hkn
    by_cases hlt : k < ps.length
    · have hKb : K ≤ 1000000000 := by omega
      obtain ⟨q, hq⟩ : ∃ q, (pmarkTo k0 ps k)[k]? = some q := ⟨_, List.getElem?_eq_getElem (by omega)⟩
      obtain ⟨d0, d1⟩ := hown.at_ hfl hq
      have f0 := hown.frozen hfl (k * 2)
      have f1 := hown.frozen hfl (k * 2 + 1)
      have hst := pmarkTo_step (k0 := k0) hlt
      rw [← hK] at hst
      have hs2 := hown.set2 hfl hq ⟨(K : Int), (K : Int) + 1⟩
      rw [hst] at hs2
      have HS := Lib.hid (And.intro hs2 (And.intro (grown_set (grown_set hg (p := ⟨g, k * 2, none⟩) (.inl rfl) (.int .i64 (K : Int))) (p := ⟨g, k * 2 + 1, none⟩) (.inl rfl) (.int .i64 ((K : Int) + 1))) hK))
      clear hown hg hq hfl hK hst hs2
      go_wp2
      go_roundw
      case rel => exact ⟨k + 1, K + 2, by go_num, by simp; omega, by omega, by have := HS.out.2.2; omega, HS.out.1, HS.out.2.1⟩
      case measure => simp [intOf]; omega
    · obtain rfl : k = ps.length := by omega
      rw [pmarkTo_end] at hown
      have HS := Lib.hid (And.intro hown (And.intro hg hK))
      clear hown hg hfl hK
      go_wp2
      go_ret
      exact ⟨retI (by have := HS.out.2.2; omega), HS.out.1, HS.out.2.1⟩
theorem markExtentS_any (A : Option Addr) (n c k0 base : Nat) (ps : List Pr) (w : World) (hl : ps.length = n) (ho : POwn w base 27 (.slice A n c) ps) (hn : n ≤ 1048576) (hk : k0 ≤ 100000000) :
    Calls Try.prog 32 #[.slice A n c, .int .i64 k0] w (MarkedExtent k0 A n c base w) := by
  rcases ho.form with ⟨e, rfl⟩ | ⟨g, cap, e, _⟩
  · injection e with e1 e2 e3
    subst e1; subst e2; subst e3
    have HO := Lib.hid ho
    clear ho hl
    go_enter Try.func32, Try.ntmps32
    go_wp2
    go_loopw [1, 5] (fun t i wr => t = .int .i64 k0 ∧ i = .int .i64 0 ∧ wr = w) (fun _ _ _ => 0)
    case atStart => exact ⟨rfl, rfl, rfl⟩
    case round =>
      obtain ⟨rfl, rfl, rfl⟩ := hrel
      go_wp2
      go_ret
      exact ⟨retI (by omega), HO.out, grown_refl _ _⟩
  · injection e with e1 e2 e3
    subst e1
    exact markExtentS_some g n c k0 base ps w hl ho hn hk
theorem heldExtentS_any (A : Option Addr) (n c k0 : Nat) (w : World) (hr : PRow w w.heap.size A (pmarks k0 n)) (hn : n ≤ 1048576) (hk : k0 ≤ 100000000) :
    Calls Try.prog 33 #[.slice A n c, .int .i64 k0] w fun e w' => e = .returned (.int .i64 ((k0 + 2 * n : Nat) : Int)) ∧ w = w' := by
  have HR := Lib.hid hr
  clear hr
  go_enter Try.func33, Try.ntmps33
  go_wp2
  go_loop [1, 5] (fun t i => ∃ (k K : Nat), k ≤ n ∧ K = k0 + 2 * k ∧ i = .int .i64 k ∧ t = .int .i64 K) (fun _ i => n - (intOf i).toNat)
  case atStart => exact ⟨0, k0, Nat.zero_le _, by omega, rfl, rfl⟩
  case round =>
    obtain ⟨k, K, hkn, hK, rfl, rfl⟩ := hrel
    have HK := Lib.hid hK
    by_cases hlt : k < n
    · have hKb : K ≤ 1000000000 := by omega
      have hm := pmarks_at (k0 := k0) hlt
      rw [← hK] at hm
      obtain ⟨g, off, rfl, _⟩ := HR.out.pos (by rw [pmarks_length]; omega)
      obtain ⟨c0, c1⟩ := HR.out.cellf hm
      dsimp only at c0 c1
      clear hm hK
      go_wp2
      go_round
      case rel => exact ⟨k + 1, K + 2, by omega, by have := HK.out; omega, by go_num, by simp; omega⟩
      case measure => simp [intOf]; omega
    · obtain rfl : k = n := by omega
      clear hK
      go_wp2
      go_ret
      exact ⟨retI (by have := HK.out; omega), rfl⟩
section
variable {H : Type} {enc : TypeId × Value → H} {w : World} {base : Nat} {spare : Nat → Bool} {held : Bool}
theorem list2Extent {α : Type} {l : List α} (h : l.length = 2) : ∃ a b, l = [a, b] := by
  match l, h with
  | [a, b], _ => exact ⟨a, b, rfl⟩
set_option maxRecDepth 100000 in
theorem openPrCells57 {fuel : Nat} {cs : List Value} {x : DataW H × List MemPlace} (h : DataW.trod enc Try.prog w base spare held fuel 57 cs = some x) :
    ∃ p : Pr, cs = [.int .i64 p.a, .int .i64 p.b] := by
  obtain ⟨xs, n, _, _, hlen, hxl, hg⟩ := DataW.trod_struct Try.underlying57 h
  have h5 : cs.length = 2 := hlen.trans (by kernel_rfl)
  obtain ⟨c0, c1, rfl⟩ := list2Extent h5
  have hx : xs.length = 2 := hxl.trans (by rfl)
  obtain ⟨y0, y1, rfl⟩ := list2Extent hx
  have e0 := hg 0 _ rfl
  have e1 := hg 1 _ rfl
  simp only [List.getElem?_cons_zero, List.getElem?_cons_succ] at e0 e1
  obtain ⟨n0, h0, _⟩ := DataW.trod_int Try.underlying3 e0
  obtain ⟨n1, h1, _⟩ := DataW.trod_int Try.underlying3 e1
  injection h0 with h0; injection h1 with h1
  subst h0; subst h1
  exact ⟨⟨n0, n1⟩, rfl⟩
set_option maxRecDepth 100000 in
theorem openPrs57 {fuel : Nat} {v : Value} {x : DataW H × List MemPlace} (h : DataW.trod enc Try.prog w base spare held fuel 40 [v] = some x) :
    ∃ A n c ps, v = .slice A n c ∧ IsPrs w A n c ps := by
  rcases open_slice Try.underlying40 h with ⟨h0, _⟩ | ⟨a, len, cap, m, n, D, Pl, hcs, hb, hl, hm, hmm, hx, hi⟩
  · injection h0 with h0
    exact ⟨none, 0, 0, [], h0, rfl, Nat.le_refl _, Nat.zero_le _, PRow.nil⟩
  · injection hcs with hcs
    have hmn : len ≤ m := by rw [hmm]; split <;> omega
    have k2 : Try.prog.cellsOf 57 = 2 := by kernel_rfl
    have hp : ∀ i, i < len → ∃ p : Pr, w.cell? ((a.add (i * 2)).add 0) = some (.int .i64 p.a) ∧ w.cell? ((a.add (i * 2)).add 1) = some (.int .i64 p.b) := by
      intro i hil
      obtain ⟨cs', hc, ht'⟩ := hi i (by omega)
      rw [k2] at hc
      obtain ⟨p, rfl⟩ := openPrCells57 ht'
      obtain ⟨_, _, hat⟩ := World.cells?_some hc
      exact ⟨p, hat 0 (by omega), hat 1 (by omega)⟩
    obtain ⟨ps, hpl, hq⟩ := all_ofP len hp
    refine ⟨some a, len, cap, ps, hcs, hpl, hl, hm, fun hn => ?_⟩
    rw [rv_length] at hn
    obtain ⟨g, off, spot⟩ := a
    have h0 := (hp 0 (by omega)).choose_spec.1
    have hspot : spot = none := by simpa [Addr.add] using World.cell?_spot h0
    subst hspot
    refine ⟨g, off, rfl, ?_, ?_, fun i u hi => ?_⟩
    · exact World.block_lt_of_cell? w ⟨g, off, none⟩ (by simpa [Addr.add] using h0)
    · exact World.block_lt_of_cell? w ⟨g, off, none⟩ (by simpa [Addr.add] using h0)
    · obtain ⟨p, hp1, hcase⟩ := rv_get hi
      obtain ⟨q0, q1⟩ := hq (i / 2) p hp1
      simp only [Go.WideShapes.add_plain, Nat.add_zero] at q0 q1
      rcases hcase with ⟨hm0, rfl⟩ | ⟨hm1, rfl⟩
      · rw [show off + i = off + i / 2 * 2 by omega]; exact q0
      · rw [show off + i = off + i / 2 * 2 + 1 by omega]; exact q1
end
end Go.Proofs.Ytpfmjagbnfcocaa
