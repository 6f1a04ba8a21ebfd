/- Slices of Name: append, make, some of the laws' helpers for them. Written by mk/name_type.py. -/
import Derived.Test.YtengcjglkcmkbaaNames
import Derived.Test.YtengcjglkcmkbaaPages
import Derived.Test.YtengcjglkcmkbaaTables7
import Derived.Test.YtengcjglkcmkbaaAgg
import Derived.Test.YtengcjglkcmkbaaHand
import Derived.Deep.QuietTactic
import Derived.BigQuiet
namespace Go.Proofs.Ytengcjglkcmkbaa
open Go.ChangeShapes Go.WideShapes Go.ChangeAt Go.RowKit Go.Deep
set_option linter.unusedVariables false

theorem name_info : (Try.prog.info? 32).map (fun i => (i.zero, i.size, i.bytes)) = some (some (.agg #[.string ⟨#[]⟩, .int .i64 0]), 2, 24) := by kernel_rfl
/-- append(v, s...): the pairs of a row that is read (not empty), onto a row of the call's own. -/
theorem append_name (w : World) (base : Nat) (v : Value) (A : Option Addr) (B m c : Nat) (xs ys : List Nm) (h : NOwn w base 32 v xs) (hr : NRow w B A ys) (hl : ys.length = m) (hpos : 0 < m) (hn : xs.length + m ≤ 1048576) (hb : base ≤ w.heap.size) :
    ∃ v' w', (∀ ty, (Builtin.append_ #[28, 28] ty #[v, .slice A m c]).run Try.prog w = .ok v' w') ∧ NOwn w' base 32 v' (xs ++ ys) ∧ w.grownBy w' v.ownBlock := by
  obtain ⟨g, off, rfl, _, hz, hc⟩ := hr (by rw [nv_length]; omega)
  obtain ⟨i, hi, hzz, hs, hby⟩ := info_parts name_info
  have hsrc : ∀ j u, (nv ys)[j]? = some u → w.cell? ((⟨g, off, none⟩ : Addr).add j) = some u := by
    intro j u hu
    have hadd : (⟨g, off, none⟩ : Addr).add j = ⟨g, off + j, none⟩ := by unfold Addr.add; split <;> simp_all
    rw [hadd]
    exact hc j u hu
  obtain ⟨v', w', hrun, h2, h3, _, h5⟩ := run_append_own_at (P := Try.prog) w base 28 0 32 i _ 2 24 Try.underlying28 hi hzz hs hby rfl (by omega) v xs.length (nv xs) h ⟨g, off, none⟩ m c (nv ys) (by rw [nv_length, hl]) hsrc (nv_one ys)
    (by simp only [maxLen]; omega) (by omega) hb
  refine ⟨v', w', fun _ => hrun, ?_, h3⟩
  unfold NOwn
  rw [List.length_append, nv_append, hl]
  exact h2
/-- append(v, s...) where s has no element: nothing changes. -/
theorem append_name_none (w : World) (base : Nat) (v : Value) (A : Option Addr) (c : Nat) (xs : List Nm) (hown : NOwn w base 32 v xs) :
    ∀ ty, (Builtin.append_ #[28, 28] ty #[v, .slice A 0 c]).run Try.prog w = .ok v w := by
  intro ty
  obtain ⟨i, hi, hzz, hs, hby⟩ := info_parts name_info
  have hf : ∀ a : Addr, _ := fun a => run_firstCells_some (P := Try.prog) w 2 0 a 0 c [] rfl (by simp)
  rcases hown.2 with ⟨rfl, _⟩ | ⟨g, cap, cur, rfl, _, _, hnc, _⟩
  · cases A with
    | none => simp [Builtin.append_, run_underlying Try.underlying28, sizeOf, typeInfo, hi, Builtin.lenOf, Builtin.firstCells]
    | some a => simp [Builtin.append_, run_underlying Try.underlying28, sizeOf, typeInfo, hi, hs, Builtin.lenOf, hf]
  · cases A with
    | none => simp [Builtin.append_, run_underlying Try.underlying28, sizeOf, typeInfo, hi, Builtin.lenOf, Builtin.firstCells, hnc, storeCells]
    | some a => simp [Builtin.append_, run_underlying Try.underlying28, sizeOf, typeInfo, hi, hs, Builtin.lenOf, hf, hnc, storeCells]
/-- append(u, p): one pair more. -/
theorem push_name {wq : World} {base : Nat} {u : Value} {xs : List Nm} (a : ByteArray) (b : Int) (h : NOwn wq base 32 u xs) (hb : base ≤ wq.heap.size) (hn : xs.length < 1048576) :
    ∃ u' w', (∀ ty, (Builtin.append_ #[28, 28] ty #[u, .slice (some ⟨wq.heap.size, 0, none⟩) 1 1]).run Try.prog (wq.alloc (.cells #[.string a, .int .i64 b] 32)) = .ok u' w') ∧ NOwn w' base 32 u' (xs ++ [⟨a, b⟩]) ∧ (wq.alloc (.cells #[.string a, .int .i64 b] 32)).grownBy w' u.ownBlock :=
  append_name _ base u _ _ 1 1 xs [⟨a, b⟩] (h.keep (grown_alloc (grown_refl wq none) _)) (nrow_one wq _ a b) rfl (by omega) (by omega) (by simp only [size_alloc1]; omega)
theorem make_name (w : World) (n : Nat) (hn : n ≤ 1048576) :
    (Instr.makeSlice 28 (.int .i64 (n : Int)) (.int .i64 (n : Int))).run Try.prog w = .ok (.slice (some ⟨w.heap.size, 0, none⟩) n n) (w.alloc (.cells (madeCells #[.string ⟨#[]⟩, .int .i64 0] (n * 2)) 32)) := by
  obtain ⟨i, hi, hz, hs, hb⟩ := info_parts name_info
  have hr := run_make (P := Try.prog) w 28 32 i _ Try.underlying28 hi hz .i64 .i64 n n (by omega) (by omega) (by rw [hb]; omega) (by omega)
  simp only [Int.toNat_natCast, hs] at hr
  exact hr
theorem toName_any (a : ByteArray) (b : Int) (w : World) : Calls Try.prog 39 #[.agg #[.string a, .int .i64 b]] w fun e w' => e = .returned (.agg #[.string a, .int .i64 b]) ∧ w.grownBy w' none := by
  go_enter Try.func39, Try.ntmps39
  go_wp2
  exact bodyPost_ret (v := .agg #[.string a, .int .i64 b]) (by simp [results, Try.results39, go_sem, *]) rfl ⟨rfl, by repeat (first | exact grown_refl _ _ | refine grown_alloc ?_ _ | refine grown_put ?_ (by simp) _)⟩
/-- Pairs in memory of their own are returned. -/
def MadeName (xs : List Nm) (n : Nat) (w : World) (e : Ending) (w' : World) : Prop := ∃ (A : Option Addr) (c : Nat), e = .returned (.slice A n c) ∧ xs.length = n ∧ NOwn w' w.heap.size 32 (.slice A n c) xs ∧ w.grownBy w' none
theorem toNameS_any (A : Option Addr) (n c : Nat) (xs : List Nm) (w : World) (hl : xs.length = n) (hr : NRow w w.heap.size A xs) (hn : n ≤ 1048576) :
    Calls Try.prog 36 #[.slice A n c] w (MadeName xs n w) := by
  have HR := Lib.hid (And.intro hl hr)
  have hmk := make_name w n hn
  have hO := nown_made w w.heap.size n 32 (Nat.le_refl _) (by simp only [maxLen]; omega)
  rw [← nfill_zero xs n] at hO
  have HO := Lib.hid hO
  clear hl hr hO
  go_enter Try.func36, Try.ntmps36
  go_wp2
  clear hmk
  go_loopw [4] (fun i wr => ∃ k : Nat, i = .int .i64 k ∧ k ≤ n ∧ NOwn wr w.heap.size 32 (.slice (some ⟨w.heap.size, 0, none⟩) n n) (nfill xs n k) ∧ w.grownBy wr none) (fun i _ => n - (intOf i).toNat)
  case atStart => exact ⟨0, rfl, Nat.zero_le _, HO.out, grown_alloc (grown_refl _ _) _⟩
  case round =>
    rename World => wq
    obtain ⟨k, rfl, hk, ho, hg⟩ := hrel
    have HS := Lib.hid (And.intro ho hg)
    clear HO ho hg
    by_cases hlt : k < n
    · have hrow := HR.out.2.kept HS.out.2
      obtain ⟨g, off, rfl, hgB⟩ := hrow.pos (by have := HR.out.1; omega)
      obtain ⟨⟨a, b⟩, hp⟩ : ∃ p, xs[k]? = some p := ⟨_, List.getElem?_eq_getElem (by have := HR.out.1; omega)⟩
      obtain ⟨c0, c1⟩ := hrow.cellf hp
      have HP := Lib.hid hp
      clear hp hrow
      go_wp2_with fail
      refine (toName_any _ _ _).mono ?_
      rintro e w1 ⟨rfl, hkp⟩
      replace HS := Lib.hid (And.intro (HS.out.1.keep hkp) (grown_trans HS.out.2 hkp))
      clear hkp c0 c1
      have hfl := nfill_length HR.out.1 hk
      obtain ⟨q, hq⟩ : ∃ q, (nfill xs n k)[k]? = some q := ⟨_, List.getElem?_eq_getElem (by omega)⟩
      obtain ⟨d0, d1⟩ := HS.out.1.at_ hfl hq
      have f0 := HS.out.1.frozen hfl (k * 2)
      have f1 := HS.out.1.frozen hfl (k * 2 + 1)
      have hset := HS.out.1.set2 hfl hq ⟨a, b⟩
      rw [nfill_step HR.out.1 HP.out] at hset
      have HL := Lib.hid (And.intro hset (grown_put (grown_put HS.out.2 (p := ⟨w.heap.size, k * 2, none⟩) (Nat.le_refl _) (.string a)) (p := ⟨w.heap.size, k * 2 + 1, none⟩) (Nat.le_refl _) (.int .i64 b)))
      clear hfl hq hset
      go_wp2
      go_roundw
      case rel => exact ⟨k + 1, by go_num, by omega, HL.out.1, HL.out.2⟩
      case measure => simp [intOf]; omega
    · obtain rfl : k = n := by omega
      go_wp2
      go_ret
      exact ⟨_, _, rfl, HR.out.1, by have h := HS.out.1; rw [nfill_end HR.out.1] at h; exact h, HS.out.2⟩
theorem eqName_same (a : ByteArray) (b : Int) (w : World) : Calls Try.prog 54 #[.agg #[.string a, .int .i64 b], .agg #[.string a, .int .i64 b]] w (KeptV (.bool true) w) := by
  have e1 : decide (a = a) = true := decide_eq_true rfl
  have e2 : (b != b) = false := by simp
  go_enter Try.func54, Try.ntmps54
  go_wp2
  go_ret
  exact ⟨rfl, by repeat (first | exact grown_refl _ _ | refine grown_alloc ?_ _)⟩
theorem eqNameS_same (A A' : Option Addr) (c c' n : Nat) (xs : List Nm) (w : World) (hl : xs.length = n) (hr : NRow w w.heap.size A xs) (hr' : NRow w w.heap.size A' xs) (hn : n ≤ 1048576) :
    Calls Try.prog 37 #[.slice A n c, .slice A' n c'] w (KeptV (.bool true) w) := by
  subst hl
  have HR := Lib.hid (And.intro hr hr')
  clear hr hr'
  go_enter Try.func37, Try.ntmps37
  go_wp2
  go_loopw [5] (fun i wr => ∃ k : Nat, k ≤ xs.length ∧ i = .int .i64 k ∧ w.grownBy wr none) (fun i _ => xs.length - (intOf i).toNat)
  case atStart => exact ⟨0, Nat.zero_le _, rfl, grown_refl _ _⟩
  case round =>
    rename World => wq
    obtain ⟨k, hk, rfl, hg⟩ := hrel
    by_cases hlt : k < xs.length
    · have h1 := HR.out.1.kept hg
      have h2 := HR.out.2.kept hg
      obtain ⟨g, off, rfl, _⟩ := h1.pos (by omega)
      obtain ⟨g', off', rfl, _⟩ := h2.pos (by omega)
      obtain ⟨⟨a, b⟩, hp⟩ : ∃ p, xs[k]? = some p := ⟨_, List.getElem?_eq_getElem hlt⟩
      obtain ⟨c0, c1⟩ := h1.cellf hp
      obtain ⟨d0, d1⟩ := h2.cellf hp
      have HG := Lib.hid hg
      have HP := Lib.hid hp
      clear hp h1 h2 hg
      go_wp2_with fail
      clear c0 c1 d0 d1
      refine wp_region_held_drew (S := (fun w' => w'.cell? ⟨g, off + k * 2, none⟩ = some (.string a) ∧ w'.cell? ⟨g, off + k * 2 + 1, none⟩ = some (.int .i64 b) ∧ w'.cell? ⟨g', off' + k * 2, none⟩ = some (.string a) ∧ w'.cell? ⟨g', off' + k * 2 + 1, none⟩ = some (.int .i64 b))) (by kernel_rfl) ?_ (fun hHeld => ?_)
      · exact ⟨((HR.out.1.kept HG.out).cellf HP.out).1, ((HR.out.1.kept HG.out).cellf HP.out).2, ((HR.out.2.kept HG.out).cellf HP.out).1, ((HR.out.2.kept HG.out).cellf HP.out).2⟩
      refine heldY 0 17 ?_
      refine heldY 1 18 ?_
      refine heldY 2 19 ?_
      refine heldY 3 20 ?_
      refine heldY 4 21 ?_
      refine heldY 5 22 ?_
      refine heldY 6 23 ?_
      refine heldY 7 24 ?_
      refine wpAnyH_ready (rs := [8]) (by kernel_rfl) (by simp) ?_
      refine AllReadyH.cons rfl (fun K hK => ?_) AllReadyH.nil
      go_simp
      go_at_call 54; refine (eqName_same _ _ _).mono ?_; rintro e w1 ⟨rfl, hkk⟩; replace HG := Lib.hid (grown_trans (grown_drew HG.out) hkk); clear hkk
      refine hK.out _ _ ?_ (fun hHeld => ?_)
      · exact ⟨((HR.out.1.kept HG.out).cellf HP.out).1, ((HR.out.1.kept HG.out).cellf HP.out).2, ((HR.out.2.kept HG.out).cellf HP.out).1, ((HR.out.2.kept HG.out).cellf HP.out).2⟩
      clear hK K
      try simp only [Act.put, List.setIfInBounds_toArray, List.set_cons_zero, List.set_cons_succ]
      refine heldY 9 26 ?_
      refine wpAnyH_done (by kernel_rfl) ?_ _
      go_wp2
      go_roundw
      case rel => exact ⟨k + 1, by omega, by go_num, HG.out⟩
      case measure => simp [intOf]; omega
    · have HG := Lib.hid hg
      clear hg
      go_wp2
      go_ret
      exact ⟨rfl, HG.out⟩
theorem sameNames_same (A A' : Option Addr) (c c' n : Nat) (xs : List Nm) (w : World) (hl : xs.length = n) (hr : NRow w w.heap.size A xs) (hr' : NRow w w.heap.size A' xs) (hn : n ≤ 1048576) :
    Calls Try.prog 31 #[.slice A n c, .slice A' n c'] w (KeptV (.bool true) w) := by
  subst hl
  have HR := Lib.hid (And.intro hr hr')
  clear hr hr'
  go_enter Try.func31, Try.ntmps31
  go_wp2
  go_loopw [5] (fun i wr => ∃ k : Nat, k ≤ xs.length ∧ i = .int .i64 k ∧ w.grownBy wr none) (fun i _ => xs.length - (intOf i).toNat)
  case atStart => exact ⟨0, Nat.zero_le _, rfl, grown_refl _ _⟩
  case round =>
    rename World => wq
    obtain ⟨k, hk, rfl, hg⟩ := hrel
    by_cases hlt : k < xs.length
    · have h1 := HR.out.1.kept hg
      have h2 := HR.out.2.kept hg
      obtain ⟨g, off, rfl, _⟩ := h1.pos (by omega)
      obtain ⟨g', off', rfl, _⟩ := h2.pos (by omega)
      obtain ⟨⟨a, b⟩, hp⟩ : ∃ p, xs[k]? = some p := ⟨_, List.getElem?_eq_getElem hlt⟩
      obtain ⟨c0, c1⟩ := h1.cellf hp
      obtain ⟨d0, d1⟩ := h2.cellf hp
      have ee1 : decide (a = a) = true := decide_eq_true rfl
      have ee2 : (b != b) = false := by simp
      have ee4 : (b == b) = true := by simp
      have HG := Lib.hid hg
      have HP := Lib.hid hp
      clear hp h1 h2 hg
      go_wp2_with fail
      clear c0 c1 d0 d1
      refine wp_region_held_drew (S := (fun w' => w'.cell? ⟨g, off + k * 2, none⟩ = some (.string a) ∧ w'.cell? ⟨g, off + k * 2 + 1, none⟩ = some (.int .i64 b) ∧ w'.cell? ⟨g', off' + k * 2, none⟩ = some (.string a) ∧ w'.cell? ⟨g', off' + k * 2 + 1, none⟩ = some (.int .i64 b))) (by kernel_rfl) ?_ (fun hHeld => ?_)
      · exact ⟨((HR.out.1.kept HG.out).cellf HP.out).1, ((HR.out.1.kept HG.out).cellf HP.out).2, ((HR.out.2.kept HG.out).cellf HP.out).1, ((HR.out.2.kept HG.out).cellf HP.out).2⟩
      refine heldY 0 17 ?_
      refine heldY 1 18 ?_
      refine heldY 2 19 ?_
      refine heldY 3 20 ?_
      refine heldY 4 21 ?_
      refine heldY 5 22 ?_
      refine heldY 6 23 ?_
      refine heldY 7 24 ?_
      refine heldY 8 25 ?_
      refine wpAnyH_done (by kernel_rfl) ?_ _
      go_wp2
      go_roundw
      case rel => exact ⟨k + 1, by omega, by go_num, grown_drew HG.out⟩
      case measure => simp [intOf]; omega
    · have HG := Lib.hid hg
      clear hg
      go_wp2
      go_ret
      exact ⟨rfl, HG.out⟩
end Go.Proofs.Ytengcjglkcmkbaa
