/- What the laws' markText answers.
   What the laws' markNameS and heldNameS answer. Written by mk/mark_name.py.
   What the laws' szName and szNameS answer; how names that came in are opened. -/
import Derived.Test.YtengcjglkcmkbaaPairName
import Derived.Test.YtengcjglkcmkbaaTexts
import Derived.Test.YtengcjglkcmkbaaAgg
import Derived.Laws.BytesString
import Derived.Deep.QuietTactic
import Derived.BigQuiet
namespace Go.Proofs.Ytengcjglkcmkbaa
open Go.ChangeShapes Go.WideShapes Go.ChangeAt Go.RowKit
set_option linter.unusedVariables false
/-- The decimal digits of k, in front of a text. -/
def mtGo (k : Nat) (out : ByteArray) : ByteArray := if h : k = 0 then out else mtGo (k / 10) (⟨#[48 + UInt8.ofNat (k % 10)]⟩ ++ out)
termination_by k
decreasing_by omega
/-- The text of mark k. -/
def mtText (k : Nat) : ByteArray := if k = 0 then ⟨#[109, 48]⟩ else ⟨#[109]⟩ ++ mtGo k ⟨#[]⟩
theorem one_text (w : World) (d : Nat) (hd : d < 256) :
    Sem.run Try.prog (convert 22 9 (.slice (some ⟨w.heap.size, 0, none⟩) 1 1)) (w.alloc (.cells #[.int .u8 (d : Int)] 5)) = .ok (.string ⟨#[UInt8.ofNat d]⟩) (w.alloc (.cells #[.int .u8 (d : Int)] 5)) := by
  refine (run_convert_bytes_string _ _ _ 5 _ 1 1 Try.underlying22 Try.underlying5 Try.underlying9).trans ?_
  have h := run_bytesToString (P := Try.prog) (w.alloc (.cells #[.int .u8 (d : Int)] 5)) ⟨w.heap.size, 0, none⟩ 1 1 [(d : Int)]
  have hc : (w.alloc (.cells #[.int .u8 (d : Int)] 5)).cell? ⟨w.heap.size, 0, none⟩ = some (.int .u8 (d : Int)) := (Blk.new w 5 #[.int .u8 (d : Int)]).cell 0
  refine (h ?_).trans rfl
  simp [loadCells, go_sem, hc]
theorem digit_cast (k : Nat) : ((48 + k % 10 : Nat) : Int) = 48 + (k : Int) % 10 := by omega
theorem digs_size {K K0 n : Nat} (hK : 0 < K) (h : K * 10 ^ n ≤ K0) (h0 : K0 ≤ 1000000000) : n ≤ 9 := by
  by_cases hn : n ≤ 9
  · exact hn
  · have h1 : 10 ^ 10 ≤ 10 ^ n := Nat.pow_le_pow_right (by omega) (by omega)
    have h2 : 1 * 10 ^ n ≤ K * 10 ^ n := Nat.mul_le_mul_right _ hK
    omega
theorem digs_step {K K0 n : Nat} (h : K * 10 ^ n ≤ K0) : K / 10 * 10 ^ (1 + n) ≤ K0 := by
  have h1 : K / 10 * 10 * 10 ^ n ≤ K * 10 ^ n := Nat.mul_le_mul_right _ (Nat.div_mul_le_self K 10)
  rw [Nat.pow_add, ← Nat.mul_assoc, Nat.pow_one]
  omega
theorem mtGo_step {K : Nat} (h : 0 < K) (out : ByteArray) : mtGo K out = mtGo (K / 10) (⟨#[48 + UInt8.ofNat (K % 10)]⟩ ++ out) := by
  rw [mtGo, dif_neg (by omega)]
theorem mtGo_zero (out : ByteArray) : mtGo 0 out = out := by
  rw [mtGo, dif_pos rfl]
theorem one_size (d : UInt8) (out : ByteArray) : ((⟨#[d]⟩ : ByteArray) ++ out).size = 1 + out.size := by rw [ByteArray.size_append]; rfl
theorem markText_any (K0 : Nat) (w : World) (hK : K0 ≤ 1000000000) : Calls Try.prog 55 #[.int .i64 K0] w (KeptV (.string (mtText K0)) w) := by
  by_cases hz : K0 = 0
  · subst hz
    go_enter Try.func55, Try.ntmps55
    go_wp2
    go_ret
    exact ⟨by simp [mtText], grown_refl _ _⟩
  · have hz1 : decide ((K0 : Int) ≤ 0) = false := decide_eq_false (by omega)
    have hz2 : decide (K0 ≤ 0) = false := decide_eq_false (by omega)
    have HX := Lib.hid (show mtText K0 = ⟨#[109]⟩ ++ mtGo K0 ⟨#[]⟩ by simp [mtText, hz])
    go_enter Try.func55, Try.ntmps55
    go_wp2
    go_loopw [0, 3] (fun x s wr => ∃ (K : Nat) (out : ByteArray), K ≤ K0 ∧ x = .int .i64 K ∧ s = .string out ∧ mtGo K out = mtGo K0 ⟨#[]⟩ ∧ out.size ≤ 10 ∧ (0 < K → K * 10 ^ out.size ≤ K0) ∧ w.grownBy wr none) (fun x _ _ => (intOf x).toNat)
    case atStart => exact ⟨K0, ⟨#[]⟩, Nat.le_refl _, rfl, rfl, rfl, by decide, fun _ => Nat.le_of_eq (Nat.mul_one K0), grown_refl _ _⟩
    case round =>
      rename World => wq
      obtain ⟨K, out, hKK, rfl, rfl, hgo, hsz, hpow, hg⟩ := hrel
      by_cases hpos : 0 < K
      · have HS := Lib.hid (And.intro hgo (And.intro (hpow hpos) hg))
        clear hgo hpow hg
        have hp1 : decide ((0 : Int) < K) = true := decide_eq_true (by omega)
        have hcv := one_text wq (48 + K % 10) (by omega)
        rw [digit_cast] at hcv
        go_wp2
        have h9 := digs_size hpos HS.out.2.1 hK
        refine ⟨⟨K / 10, ⟨#[48 + UInt8.ofNat (K % 10)]⟩ ++ out, by omega, by simp, rfl, (mtGo_step hpos out).symm.trans HS.out.1, by rw [one_size]; omega, fun _ => by rw [one_size]; exact digs_step HS.out.2.1, grown_alloc HS.out.2.2 _⟩, ?_⟩
        simp [intOf]; omega
      · obtain rfl : K = 0 := by omega
        have HS := Lib.hid (And.intro hgo hg)
        clear hgo hpow hg
        go_wp2
        go_ret
        have h := HS.out.1
        rw [mtGo_zero] at h
        exact ⟨by rw [HX.out, ← h]; rfl, HS.out.2⟩
end Go.Proofs.Ytengcjglkcmkbaa
namespace Go.Proofs.Ytengcjglkcmkbaa
open Go.ChangeShapes Go.WideShapes Go.ChangeAt Go.RowKit Go.Deep
set_option linter.unusedVariables false

/-- What a mark writes from number k0 on; n pairs of it; in front of what was there. -/
def nmarks (k0 n : Nat) : List Nm := (List.range n).map fun j => ⟨mtText (k0 + 2 * j), ((k0 + 2 * j : Nat) : Int) + 1⟩
def nmarkTo (k0 : Nat) (ps : List Nm) (i : Nat) : List Nm := nmarks k0 i ++ ps.drop i
theorem nmarks_length (k0 n : Nat) : (nmarks k0 n).length = n := by simp [nmarks]
theorem nmarks_at {k0 n i : Nat} (h : i < n) : (nmarks k0 n)[i]? = some ⟨mtText (k0 + 2 * i), ((k0 + 2 * i : Nat) : Int) + 1⟩ := by simp [nmarks, h]
theorem nmarkTo_length {k0 i : Nat} {ps : List Nm} (h : i ≤ ps.length) : (nmarkTo k0 ps i).length = ps.length := by
  simp only [nmarkTo, List.length_append, nmarks_length, List.length_drop]; omega
theorem nmarkTo_zero (k0 : Nat) (ps : List Nm) : nmarkTo k0 ps 0 = ps := by simp [nmarkTo, nmarks]
theorem nmarkTo_end (k0 : Nat) (ps : List Nm) : nmarkTo k0 ps ps.length = nmarks k0 ps.length := by simp [nmarkTo]
theorem nmarkTo_step {k0 i : Nat} {ps : List Nm} (h : i < ps.length) : (nmarkTo k0 ps i).set i ⟨mtText (k0 + 2 * i), ((k0 + 2 * i : Nat) : Int) + 1⟩ = nmarkTo k0 ps (i + 1) := by
  unfold nmarkTo
  rw [List.set_append_right _ _ (by rw [nmarks_length]; omega), nmarks_length, Nat.sub_self]
  have e : nmarks k0 (i + 1) = nmarks k0 i ++ [⟨mtText (k0 + 2 * i), ((k0 + 2 * i : Nat) : Int) + 1⟩] := by simp [nmarks, List.range_succ]
  rw [e, List.append_assoc]
  congr 1
  rw [List.drop_eq_getElem_cons h]
  rfl
def MarkedName (k0 : Nat) (A : Option Addr) (n c base : Nat) (w : World) (e : Ending) (w' : World) : Prop :=
  e = .returned (.int .i64 ((k0 + 2 * n : Nat) : Int)) ∧ NOwn w' base 32 (.slice A n c) (nmarks k0 n) ∧ w.grownBy w' (Value.slice A n c).ownBlock
theorem markNameS_some (g n c k0 base : Nat) (ps : List Nm) (w : World) (hl : ps.length = n) (ho : NOwn w base 32 (.slice (some ⟨g, 0, none⟩) n c) ps) (hn : n ≤ 1048576) (hk : k0 ≤ 100000000) :
    Calls Try.prog 40 #[.slice (some ⟨g, 0, none⟩) n c, .int .i64 k0] w (MarkedName k0 (some ⟨g, 0, none⟩) n c base w) := by
  subst hl
  have HO := Lib.hid ho
  clear ho
  go_enter Try.func40, Try.ntmps40
  go_wp2
  go_loopw [1, 5] (fun t i wr => ∃ (k K : Nat), i = .int .i64 k ∧ t = .int .i64 K ∧ k ≤ ps.length ∧ K = k0 + 2 * k ∧ NOwn wr base 32 (.slice (some ⟨g, 0, none⟩) ps.length c) (nmarkTo k0 ps k) ∧ w.grownBy wr (some g)) (fun _ i _ => ps.length - (intOf i).toNat)
  case atStart => exact ⟨0, k0, rfl, rfl, Nat.zero_le _, by omega, by rw [nmarkTo_zero]; exact HO.out, grown_refl _ _⟩
  case round =>
    rename World => wq
    obtain ⟨k, K, rfl, rfl, hkn, hK, hown, hg⟩ := hrel
    clear HO
    have hfl := nmarkTo_length (k0 := k0) hkn
    by_cases hlt : k < ps.length
    · have hKb : K ≤ 1000000000 := by omega
      obtain ⟨q, hq⟩ : ∃ q, (nmarkTo k0 ps k)[k]? = some q := ⟨_, List.getElem?_eq_getElem (by omega)⟩
      obtain ⟨d0, d1⟩ := hown.at_ hfl hq
      have HQ := Lib.hid (And.intro hown (And.intro hg (And.intro hq (And.intro hfl hK))))
      clear hown hg hq hfl hK
      go_wp2_with fail
      refine (markText_any K _ hKb).mono ?_
      rintro e w1 ⟨rfl, hkk⟩
      have hown := HQ.out.1.keep hkk
      have hg := grown_trans HQ.out.2.1 (grown_some hkk)
      have hfl := HQ.out.2.2.2.1
      have hq := HQ.out.2.2.1
      have hK := HQ.out.2.2.2.2
      clear d0 d1 hkk
      obtain ⟨d0, d1⟩ := hown.at_ hfl hq
      have f0 := hown.frozen hfl (k * 2)
      have f1 := hown.frozen hfl (k * 2 + 1)
      have hst := nmarkTo_step (k0 := k0) hlt
      rw [← hK] at hst
      have hs2 := hown.set2 hfl hq ⟨mtText K, (K : Int) + 1⟩
      rw [hst] at hs2
      have HS := Lib.hid (And.intro hs2 (And.intro (grown_set (grown_set hg (p := ⟨g, k * 2, none⟩) (.inl rfl) (.string (mtText K))) (p := ⟨g, k * 2 + 1, none⟩) (.inl rfl) (.int .i64 ((K : Int) + 1))) hK))
      clear hown hg hq hfl hK hst hs2
      go_wp2
      go_roundw
      case rel => exact ⟨k + 1, K + 2, by go_num, by simp; omega, by omega, by have := HS.out.2.2; omega, HS.out.1, HS.out.2.1⟩
      case measure => simp [intOf]; omega
    · obtain rfl : k = ps.length := by omega
      rw [nmarkTo_end] at hown
      have HS := Lib.hid (And.intro hown (And.intro hg hK))
      clear hown hg hfl hK
      go_wp2
      go_ret
      exact ⟨retI (by have := HS.out.2.2; omega), HS.out.1, HS.out.2.1⟩
theorem markNameS_any (A : Option Addr) (n c k0 base : Nat) (ps : List Nm) (w : World) (hl : ps.length = n) (ho : NOwn w base 32 (.slice A n c) ps) (hn : n ≤ 1048576) (hk : k0 ≤ 100000000) :
    Calls Try.prog 40 #[.slice A n c, .int .i64 k0] w (MarkedName k0 A n c base w) := by
  rcases ho.form with ⟨e, rfl⟩ | ⟨g, cap, e, _⟩
  · injection e with e1 e2 e3
    subst e1; subst e2; subst e3
    have HO := Lib.hid ho
    clear ho hl
    go_enter Try.func40, Try.ntmps40
    go_wp2
    go_loopw [1, 5] (fun t i wr => t = .int .i64 k0 ∧ i = .int .i64 0 ∧ wr = w) (fun _ _ _ => 0)
    case atStart => exact ⟨rfl, rfl, rfl⟩
    case round =>
      obtain ⟨rfl, rfl, rfl⟩ := hrel
      go_wp2
      go_ret
      exact ⟨retI (by omega), HO.out, grown_refl _ _⟩
  · injection e with e1 e2 e3
    subst e1
    exact markNameS_some g n c k0 base ps w hl ho hn hk
theorem heldNameS_any (A : Option Addr) (n c k0 : Nat) (w : World) (hr : NRow w w.heap.size A (nmarks k0 n)) (hn : n ≤ 1048576) (hk : k0 ≤ 100000000) :
    Calls Try.prog 41 #[.slice A n c, .int .i64 k0] w (KeptV (.int .i64 ((k0 + 2 * n : Nat) : Int)) w) := by
  have HR := Lib.hid hr
  clear hr
  go_enter Try.func41, Try.ntmps41
  go_wp2
  go_loopw [1, 5] (fun t i wr => ∃ (k K : Nat), k ≤ n ∧ K = k0 + 2 * k ∧ i = .int .i64 k ∧ t = .int .i64 K ∧ w.grownBy wr none) (fun _ i _ => n - (intOf i).toNat)
  case atStart => exact ⟨0, k0, Nat.zero_le _, by omega, rfl, rfl, grown_refl _ _⟩
  case round =>
    rename World => wq
    obtain ⟨k, K, hkn, hK, rfl, rfl, hg⟩ := hrel
    have HK := Lib.hid hK
    by_cases hlt : k < n
    · have hKb : K ≤ 1000000000 := by omega
      have hm := nmarks_at (k0 := k0) hlt
      rw [← hK] at hm
      have hrow := HR.out.kept hg
      obtain ⟨g, off, rfl, _⟩ := hrow.pos (by rw [nmarks_length]; omega)
      obtain ⟨c0, c1⟩ := hrow.cellf hm
      dsimp only at c0 c1
      have e1 : decide (mtText K = mtText K) = true := decide_eq_true rfl
      have HG := Lib.hid hg
      have HM := Lib.hid hm
      clear hm hK hrow hg
      go_wp2_with fail
      clear c0 c1
      refine wp_region_held_drew (S := (fun w' => w'.cell? ⟨g, off + k * 2, none⟩ = some (.string (mtText K)))) (by kernel_rfl) ?_ (fun hHeld => ?_)
      · exact ((HR.out.kept HG.out).cellf HM.out).1
      refine heldY 0 12 ?_
      refine heldY 1 13 ?_
      refine heldY 2 14 ?_
      refine heldY 3 15 ?_
      refine heldY 4 16 ?_
      refine heldY 5 17 ?_
      refine wpAnyH_ready (rs := [6]) (by kernel_rfl) (by simp) ?_
      refine AllReadyH.cons rfl (fun K hK => ?_) AllReadyH.nil
      go_simp
      go_at_call 55; refine (markText_any _ _ hKb).mono ?_; rintro e w1 ⟨rfl, hkk⟩; replace HG := Lib.hid (grown_trans (grown_drew HG.out) hkk); clear hkk
      refine hK.out _ _ ?_ (fun hHeld => ?_)
      · exact ((HR.out.kept HG.out).cellf HM.out).1
      clear hK K
      try simp only [Act.put, List.setIfInBounds_toArray, List.set_cons_zero, List.set_cons_succ]
      refine heldY 7 19 ?_
      refine wpAnyH_done (by kernel_rfl) ?_ _
      obtain ⟨c0, c1⟩ := (HR.out.kept HG.out).cellf HM.out
      dsimp only at c0 c1
      go_wp2
      go_roundw
      case rel => exact ⟨k + 1, K + 2, by omega, by have := HK.out; omega, by go_num, by simp; omega, HG.out⟩
      case measure => simp [intOf]; omega
    · obtain rfl : k = n := by omega
      have HG := Lib.hid hg
      clear hK hg
      go_wp2
      go_ret
      exact ⟨retI (by have := HK.out; omega), HG.out⟩
end Go.Proofs.Ytengcjglkcmkbaa
namespace Go.Proofs.Ytengcjglkcmkbaa
open Go.ChangeShapes Go.WideShapes Go.ChangeAt Go.RowKit Go.Deep
set_option linter.unusedVariables false

theorem szName_any (a : ByteArray) (b L : Int) (w : World) (hz : a.size ≤ 9223372036854775807) (h0 : 0 ≤ L) (h1 : L ≤ 1048576) :
    Calls Try.prog 38 #[.agg #[.string a, .int .i64 b], .int .i64 L] w (KeptV (.int .i64 (if L < a.size then -1 else L - a.size)) w) := by
  by_cases hn : L < a.size
  · have t1 : decide (L - (a.size : Int) < 0) = true := decide_eq_true (by omega)
    rw [if_pos hn]
    go_enter Try.func38, Try.ntmps38
    go_wp2
    go_ret
    exact ⟨rfl, by repeat (first | exact grown_refl _ _ | refine grown_alloc ?_ _)⟩
  · have t1 : decide (L - (a.size : Int) < 0) = false := decide_eq_false (by omega)
    rw [if_neg hn]
    go_enter Try.func38, Try.ntmps38
    go_wp2
    go_ret
    exact ⟨rfl, by repeat (first | exact grown_refl _ _ | refine grown_alloc ?_ _)⟩
/-- What szNameS answers: -1, or what is left, and then no text is long. -/
def NameSize (ps : List Nm) (n : Nat) (w : World) (e : Ending) (w' : World) : Prop :=
  ∃ v : Int, e = .returned (.int .i64 v) ∧ w.grownBy w' none ∧ (v = -1 ∨ (0 ≤ v ∧ v ≤ 1048576 ∧ n ≤ 1048576 ∧ ∀ (k : Nat) p, ps[k]? = some p → p.a.size ≤ 1048576))
theorem szNameS_any (A : Option Addr) (n c : Nat) (ps : List Nm) (w : World) (hl : ps.length = n) (hr : NRow w w.heap.size A ps) (hm : n ≤ 9223372036854775807) (hz : ∀ (k : Nat) p, ps[k]? = some p → p.a.size ≤ 9223372036854775807) :
    Calls Try.prog 35 #[.slice A n c, .int .i64 1048576] w (NameSize ps n w) := by
  by_cases hn : n ≤ 1048576
  · have t1 : decide ((1048576 : Int) - n < 0) = false := decide_eq_false (by omega)
    have HR := Lib.hid (And.intro hl (And.intro hr hz))
    clear hl hr hz
    go_enter Try.func35, Try.ntmps35
    go_wp2
    clear t1
    go_loopw [1, 5] (fun t i wr => ∃ (k : Nat) (L : Int), i = .int .i64 k ∧ t = .int .i64 L ∧ k ≤ n ∧ 0 ≤ L ∧ L ≤ 1048576 ∧ (∀ (j : Nat) p, j < k → ps[j]? = some p → p.a.size ≤ 1048576) ∧ w.grownBy wr none) (fun _ i _ => n - (intOf i).toNat)
    case atStart => exact ⟨0, _, rfl, rfl, Nat.zero_le _, by omega, by omega, fun j p hj => absurd hj (by omega), grown_refl _ _⟩
    case round =>
      rename World => wq
      obtain ⟨k, L, rfl, rfl, hk, hL0, hL1, hall, hg⟩ := hrel
      have HS := Lib.hid (And.intro hg hall)
      clear hg hall
      by_cases hlt : k < n
      · have hrow := HR.out.2.1.kept HS.out.1
        obtain ⟨g, off, rfl, hgB⟩ := hrow.pos (by have := HR.out.1; omega)
        obtain ⟨⟨a, b⟩, hp⟩ : ∃ p, ps[k]? = some p := ⟨_, List.getElem?_eq_getElem (by have := HR.out.1; omega)⟩
        obtain ⟨c0, c1⟩ := hrow.cellf hp
        dsimp only at c0 c1
        have HP := Lib.hid (And.intro hp (HR.out.2.2 _ _ hp))
        clear hp hrow
        go_wp2_with fail
        refine (szName_any _ _ _ _ HP.out.2 hL0 hL1).mono ?_
        rintro e w1 ⟨rfl, hkk⟩
        replace HS := Lib.hid (And.intro (grown_trans HS.out.1 hkk) HS.out.2)
        clear hkk c0 c1
        by_cases hs : L < a.size
        · rw [if_pos hs]
          go_wp2
          go_ret
          exact ⟨_, rfl, HS.out.1, .inl rfl⟩
        · rw [if_neg hs]
          have t2 : decide (L - (a.size : Int) < 0) = false := decide_eq_false (by omega)
          go_wp2
          go_roundw
          case rel => exact ⟨k + 1, _, by go_num, rfl, by omega, by omega, by omega, fun j p hj hp => by
            rcases Nat.lt_or_ge j k with h | h
            · exact HS.out.2 j p h hp
            · obtain rfl : j = k := by omega
              have := HP.out.1
              rw [hp] at this
              injection this with this
              subst this
              show a.size ≤ 1048576
              omega, HS.out.1⟩
          case measure => simp [intOf]; omega
      · obtain rfl : k = n := by omega
        go_wp2
        go_ret
        exact ⟨_, rfl, HS.out.1, .inr ⟨hL0, hL1, hn, fun j p hp => HS.out.2 j p (by have := (List.getElem?_eq_some_iff.1 hp).1; have := HR.out.1; omega) hp⟩⟩
  · have t1 : decide ((1048576 : Int) - n < 0) = true := decide_eq_true (by omega)
    go_enter Try.func35, Try.ntmps35
    go_wp2
    go_ret
    exact ⟨_, rfl, grown_refl _ _, .inl rfl⟩
section
variable {H : Type} {enc : TypeId × Value → H} {w : World} {base : Nat} {spare : Nat → Bool} {held : Bool}
theorem list2Name {α : Type} {l : List α} (h : l.length = 2) : ∃ a b, l = [a, b] := by
  match l, h with
  | [a, b], _ => exact ⟨a, b, rfl⟩
set_option maxRecDepth 100000 in
theorem openNmCells47 {fuel : Nat} {cs : List Value} {x : DataW H × List MemPlace} (h : DataW.trod enc Try.prog w base spare held fuel 47 cs = some x) :
    ∃ p : Nm, cs = [.string p.a, .int .i64 p.b] ∧ p.a.size ≤ maxLen := by
  obtain ⟨xs, n, _, _, hlen, hxl, hg⟩ := DataW.trod_struct Try.underlying47 h
  have h5 : cs.length = 2 := hlen.trans (by kernel_rfl)
  obtain ⟨c0, c1, rfl⟩ := list2Name h5
  have hx : xs.length = 2 := hxl.trans (by rfl)
  obtain ⟨y0, y1, rfl⟩ := list2Name hx
  have e0 := hg 0 _ rfl
  have e1 := hg 1 _ rfl
  simp only [List.getElem?_cons_zero, List.getElem?_cons_succ] at e0 e1
  obtain ⟨n0, h0, _, hz0⟩ := DataW.trod_string Try.underlying9 e0
  obtain ⟨n1, h1, _⟩ := DataW.trod_int Try.underlying3 e1
  injection h0 with h0; injection h1 with h1
  subst h0; subst h1
  exact ⟨⟨n0, n1⟩, rfl, by assumption⟩
set_option maxRecDepth 100000 in
theorem openNms47 {fuel : Nat} {v : Value} {x : DataW H × List MemPlace} (h : DataW.trod enc Try.prog w base spare held fuel 42 [v] = some x) :
    ∃ A n c ps, v = .slice A n c ∧ IsNms w A n c ps ∧ ∀ (k : Nat) p, ps[k]? = some p → p.a.size ≤ maxLen := by
  rcases open_slice Try.underlying42 h with ⟨h0, _⟩ | ⟨a, len, cap, m, n, D, Pl, hcs, hb, hl, hm, hmm, hx, hi⟩
  · injection h0 with h0
    exact ⟨none, 0, 0, [], h0, ⟨rfl, Nat.le_refl _, Nat.zero_le _, NRow.nil⟩, fun k p hp => by simp at hp⟩
  · injection hcs with hcs
    have hmn : len ≤ m := by rw [hmm]; split <;> omega
    have k2 : Try.prog.cellsOf 47 = 2 := by kernel_rfl
    have hp : ∀ i, i < len → ∃ p : Nm, w.cell? ((a.add (i * 2)).add 0) = some (.string p.a) ∧ w.cell? ((a.add (i * 2)).add 1) = some (.int .i64 p.b) ∧ p.a.size ≤ maxLen := by
      intro i hil
      obtain ⟨cs', hc, ht'⟩ := hi i (by omega)
      rw [k2] at hc
      obtain ⟨p, rfl, hz⟩ := openNmCells47 ht'
      obtain ⟨_, _, hat⟩ := World.cells?_some hc
      exact ⟨p, hat 0 (by omega), hat 1 (by omega), hz⟩
    obtain ⟨ps, hpl, hq⟩ := all_ofN len hp
    refine ⟨some a, len, cap, ps, hcs, ⟨hpl, hl, hm, fun hn => ?_⟩, fun k p hk => (hq k p hk).2.2⟩
    rw [nv_length] at hn
    obtain ⟨g, off, spot⟩ := a
    have h0 := (hp 0 (by omega)).choose_spec.1
    have hspot : spot = none := by simpa [Addr.add] using World.cell?_spot h0
    subst hspot
    refine ⟨g, off, rfl, ?_, ?_, fun i u hi => ?_⟩
    · exact World.block_lt_of_cell? w ⟨g, off, none⟩ (by simpa [Addr.add] using h0)
    · exact World.block_lt_of_cell? w ⟨g, off, none⟩ (by simpa [Addr.add] using h0)
    · obtain ⟨p, hp1, hcase⟩ := nv_get hi
      obtain ⟨q0, q1, _⟩ := hq (i / 2) p hp1
      simp only [Go.WideShapes.add_plain, Nat.add_zero] at q0 q1
      rcases hcase with ⟨hm0, rfl⟩ | ⟨hm1, rfl⟩
      · rw [show off + i = off + i / 2 * 2 by omega]; exact q0
      · rw [show off + i = off + i / 2 * 2 + 1 by omega]; exact q1
end
end Go.Proofs.Ytengcjglkcmkbaa
