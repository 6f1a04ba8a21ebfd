/- What BlockCounts answers: the program's and the model's. -/
import Derived.Test.YtnjgegadhfofbaaCounts
import Derived.Test.YtnjgegadhfofbaaFiles5
namespace Go.Proofs.Ytnjgegadhfofbaa
open Go.ChangeShapes Go.WideShapes Go.ChangeAt Go.RowKit
set_option linter.unusedVariables false

theorem readV_page {bs : List Bk} (hd : devB bs = true) {n a : Nat} (hl : bs.length = n) (ha : hasP n (a : Int) = true) : ∃ p, pageAt bs a = some p ∧ readV bs (a : Int) = p := by
  obtain ⟨_, hall⟩ := dev_parts hd
  have h4 : ∀ b, b ∈ bs → b.ps.length = 4 := fun b hm => (block_parts (hall b hm)).2.1
  simp only [hasP, Bool.and_eq_true, decide_eq_true_eq] at ha
  obtain ⟨p, hp⟩ := page_some h4 (a := a) (by omega)
  refine ⟨p, hp, ?_⟩
  unfold readV
  rw [if_pos hd, if_pos (by omega), Int.toNat_natCast, hp]
  rfl
theorem readV_out {bs : List Bk} (hd : devB bs = true) {n a : Nat} (hl : bs.length = n) (ha : hasP n (a : Int) = false) : (readV bs (a : Int)).f = false := by
  obtain ⟨_, hall⟩ := dev_parts hd
  have h4 : ∀ b, b ∈ bs → b.ps.length = 4 := fun b hm => (block_parts (hall b hm)).2.1
  simp only [hasP, Bool.and_eq_false_iff, decide_eq_false_iff_not] at ha
  unfold readV
  rw [if_pos hd, if_pos (by omega), Int.toNat_natCast, ← allP_at h4, List.getElem?_eq_none (by rw [allP_length h4]; omega)]
  rfl
theorem blk_small {us : List Int} {bs : List Bk} (j q : Nat) (h : us.length ≤ 48) : (us.take j).countP (inBlk bs q) ≤ 48 := Nat.le_trans List.countP_le_length (by rw [List.length_take]; omega)
section
variable {D : Option Addr} {nd cd : Nat} {bs : List Bk} {A : Option Addr} {n c : Nat} {ls : List Li} {w : World}
theorem blockCounts_no (hld : bs.length = nd) (hrd : DRow w w.heap.size D bs) (hnd : nd ≤ 1048576) (hpd : ∀ b, b ∈ bs → b.ps.length ≤ 1048576) (hl : ls.length = n) (hr : TRow w w.heap.size A ls) (hn : n ≤ 1048576) (hp : ∀ l, l ∈ ls → l.xs.length ≤ 1048576) (hB : (devB bs && tabB (ll ls)) = false) :
    Calls Try.prog 17 #[.slice D nd cd, .agg #[.slice A n c]] w (IMade [] w) := by
  have HT := Lib.hid (show VIn w A n c ls D bs _ from ⟨TIn.start hr n c, hrd.alloc _⟩)
  cases hd : devB bs
  · have HP := Lib.hid (And.intro hld (And.intro hpd hd))
    clear hl hr hp hd hld hrd hpd hB
    go_enter Try.func17, Try.ntmps17
    go_wp2_with fail
    refine (deviceValid_val HP.out.1 HP.out.2.2 _ HT.out.2.here hnd HP.out.2.1).mono ?_
    rintro e w1 ⟨rfl, hk⟩
    have HK := Lib.hid (HT.out.keep hk)
    clear hk
    go_wp2
    go_ret
    exact ⟨none, 0, 0, rfl, rfl, World.ownsRow_nil _ _ _ _, HK.out.1.2.2⟩
  · rw [hd, Bool.true_and] at hB
    have HP := Lib.hid (And.intro hld (And.intro hpd hd))
    have HQ := Lib.hid (And.intro hl (And.intro hp hB))
    clear hl hr hp hd hld hrd hpd hB
    go_enter Try.func17, Try.ntmps17
    go_wp2_with fail
    refine (deviceValid_val HP.out.1 HP.out.2.2 _ HT.out.2.here hnd HP.out.2.1).mono ?_
    rintro e w1 ⟨rfl, hk⟩
    have HK := Lib.hid (HT.out.keep hk)
    have b0 : w1.cell? ⟨w.heap.size, 0, none⟩ = some (.slice A n c) := HK.out.1.1.cell 0
    clear hk
    go_wp2_with fail
    refine (tabValid_val HQ.out.2.2 HQ.out.1 HK.out.1.2.1.here hn HQ.out.2.1).mono ?_
    rintro e w2 ⟨rfl, hk⟩
    have HF := Lib.hid (HK.out.keep hk)
    clear hk b0
    go_wp2
    go_ret
    exact ⟨none, 0, 0, rfl, rfl, World.ownsRow_nil _ _ _ _, HF.out.1.2.2⟩
/-- The loop over the pages of a table: the numbers of the blocks lie in block G. -/
def CRel (w : World) (G B nd : Nat) (U : Value) (us : List Int) (D : Option Addr) (bs : List Bk) (j : Nat) (wr : World) : Prop :=
  IOwn wr w.heap.size (.slice (some ⟨G, 0, none⟩) nd nd) (cntL bs (us.take j) nd) ∧ IOwn wr B U us ∧ DRow wr w.heap.size D bs ∧ w.grownBy wr none
set_option maxHeartbeats 1000000 in
theorem blockCounts_yes (hld : bs.length = nd) (hrd : DRow w w.heap.size D bs) (hl : ls.length = n) (hr : TRow w w.heap.size A ls) (hn : n ≤ 1048576) (hd : devB bs = true) (hv : tabB (ll ls) = true) :
    Calls Try.prog 17 #[.slice D nd cd, .agg #[.slice A n c]] w (IMade (cntL bs (usedTo (ll ls).flatten 48) nd) w) := by
  have HT := Lib.hid (show VIn w A n c ls D bs _ from ⟨TIn.start hr n c, hrd.alloc _⟩)
  obtain ⟨⟨h1, h12⟩, hall⟩ := dev_parts hd
  have hnd : nd ≤ 12 := by omega
  have HP := Lib.hid (And.intro hld (And.intro (fun (b : Bk) (hm : b ∈ bs) => show b.ps.length ≤ 1048576 by have := (block_parts (hall b hm)).2.1; omega) hd))
  have HQ := Lib.hid (And.intro hl (And.intro (ll_six hv) hv))
  obtain ⟨us, hus⟩ : ∃ us, usedV (ll ls) = us := ⟨_, rfl⟩
  have hul : us.length ≤ 48 := by rw [← hus]; exact used_small _
  have HU := Lib.hid (And.intro hus (And.intro hul (fun (i : Nat) (x : Int) (h : us[i]? = some x) => used_in (ll ls) (i := i) (x := x) (by rw [hus]; exact h))))
  rw [show usedTo (ll ls).flatten 48 = us by rw [← hus, used_of hv]]
  clear hld hrd hl hr hd hv h1 h12 hall hus
  go_enter Try.func17, Try.ntmps17
  go_wp2_with fail
  refine (deviceValid_val HP.out.1 HP.out.2.2 _ HT.out.2.here (by omega) HP.out.2.1).mono ?_
  rintro e w1 ⟨rfl, hk⟩
  have HK := Lib.hid (HT.out.keep hk)
  have b0 : w1.cell? ⟨w.heap.size, 0, none⟩ = some (.slice A n c) := HK.out.1.1.cell 0
  clear hk HT
  go_wp2_with fail
  refine (tabValid_val HQ.out.2.2 HQ.out.1 HK.out.1.2.1.here hn HQ.out.2.1).mono ?_
  rintro e w2 ⟨rfl, hk⟩
  have hT2 := HK.out.keep hk
  have hmk := make_ints w2 nd (by omega)
  have hi0 := iown_made w2 w.heap.size nd hT2.1.2.2.size (by simp only [maxLen]; omega)
  have hT3 := hT2.keep (grown_alloc (grown_refl w2 none) (.cells (madeCells #[.int .i64 0] nd) 3))
  have b1 := hT3.1.1.cell 0
  have HG := Lib.hid (And.intro hT3 hi0)
  clear hk b0 hT2 hT3 hi0 HK
  go_wp2_with fail
  refine (usedPages_any _ _ _ ls _ HQ.out.1 HG.out.1.1.2.1.here hn HQ.out.2.1).mono ?_
  rintro e w3 ⟨Au, nu, cu, rfl, hlu, hou, hk⟩
  have HM := Lib.hid (show CRel w w2.heap.size (w2.heap.size + 1) nd (.slice Au nu cu) us D bs 0 w3 from by
    rw [HU.out.1, size_alloc1] at hou
    refine ⟨?_, hou, (HG.out.1.keep hk).2, (HG.out.1.keep hk).1.2.2⟩
    rw [List.take_zero, cntL_none]
    exact VOwn.keep HG.out.2 hk)
  have hnu : us.length = nu := by rw [← HU.out.1]; exact hlu
  have HN := Lib.hid hnu
  have hnu48 : nu ≤ 48 := by omega
  clear hou hk b1 hmk HG hlu hnu hul
  go_wp2
  go_loopw [22] (fun i wr => ∃ j : Nat, i = .int .i64 j ∧ j ≤ nu ∧ CRel w w2.heap.size (w2.heap.size + 1) nd (.slice Au nu cu) us D bs j wr) (fun i _ => nu - (intOf i).toNat)
  case atStart => exact ⟨0, rfl, Nat.zero_le _, HM.out⟩
  case round =>
    rename World => wq
    obtain ⟨j, rfl, hj, hC⟩ := hrel
    clear HM
    by_cases hlt : j < nu
    · have j8 : (j : Int) < nu := by omega
      have j0 : decide ((0 : Int) ≤ j) = true := decide_eq_true (by omega)
      obtain ⟨gu, ou, rfl⟩ := IRow.pos (VOwn.row hC.2.1 : IRow _ _ _ us) (by have := HN.out; omega)
      obtain ⟨x, hx⟩ : ∃ x, us[j]? = some x := ⟨_, List.getElem?_eq_getElem (by have := HN.out; omega)⟩
      have c0 := IRow.cellf (VOwn.row hC.2.1 : IRow _ _ _ us) hx
      have hx48 := HU.out.2.2 j x hx
      obtain ⟨v, rfl⟩ := Int.eq_ofNat_of_zero_le hx48.1
      have HC := Lib.hid hC
      have HX := Lib.hid hx
      clear hC hx
      have nd12 : nd ≤ 1048576 := by omega
      cases hh : hasP nd (v : Int)
      · have HH := Lib.hid (And.intro hh (cnt_old nd HX.out (readV_out HP.out.2.2 HP.out.1 hh)))
        clear hh
        go_wp2_with (go_at_call 44; refine (hasPage_val HH.out.1 _ _ _ nd12).mono ?_; rintro e w' ⟨rfl, rfl⟩)
        go_roundw
        case rel => exact ⟨j + 1, by go_num, by omega, by unfold CRel; rw [HH.out.2]; exact HC.out⟩
        case measure => simp [intOf]; omega
      · obtain ⟨⟨pf, pa, pb, pc, pd⟩, hp, hrv⟩ := readV_page HP.out.2.2 HP.out.1 hh
        have hf : ∀ w : World, (Instr.field 64 (.agg #[.bool pf, .int .i64 pa, .int .i64 pb, .int .i64 pc, .int .i64 pd]) 0).run Try.prog w = .ok (.bool pf) w := fun _ => by kernel_rfl
        have hq4 : v < 4 * nd := by simp only [hasP, Bool.and_eq_true, decide_eq_true_eq] at hh; omega
        have HH := Lib.hid (And.intro hh (And.intro hp hrv))
        clear hh hp hrv
        go_wp2_with (first | (go_at_call 44; refine (hasPage_val HH.out.1 _ _ _ nd12).mono ?_; rintro e w' ⟨rfl, rfl⟩) | fail)
        refine (pageOf_at _ _ _ bs v _ wq HP.out.1 HC.out.2.2.1.here HP.out.2.2 HH.out.2.1).mono ?_
        rintro e w4 ⟨rfl, hk⟩
        have HE := Lib.hid (show CRel w w2.heap.size (w2.heap.size + 1) nd (.slice (some ⟨gu, ou, none⟩) nu cu) us D bs j w4 from ⟨VOwn.keep HC.out.1 hk, VOwn.keep HC.out.2.1 hk, HC.out.2.2.1.kept hk, grown_trans HC.out.2.2.2 hk⟩)
        clear hk c0 HC
        cases pf
        · have HZ := Lib.hid (cnt_old nd HX.out (show (readV bs (v : Int)).f = false by rw [HH.out.2.2]))
          go_wp2
          go_roundw
          case rel => exact ⟨j + 1, by go_num, by omega, by unfold CRel; rw [HZ.out]; exact HE.out⟩
          case measure => simp [intOf]; omega
        · obtain ⟨q, hq⟩ : ∃ q, q = v / 4 := ⟨_, rfl⟩
          have e1 : (v : Int) / 4 = (q : Int) := by omega
          have e2 : (v : Int).tdiv 4 = (q : Int) := by rw [Int.tdiv_eq_ediv_of_nonneg (by omega)]; exact e1
          have q0 : decide ((0 : Int) ≤ q) = true := decide_eq_true (by omega)
          have qn : q < nd := by omega
          have q1 : (q : Int) < nd := by omega
          have hz := blk_small (bs := bs) j q HU.out.2.1
          have hnew := cnt_new nd HX.out (show (readV bs (v : Int)).f = true by rw [HH.out.2.2]) e1
          obtain ⟨z, hze⟩ : ∃ z, (us.take j).countP (inBlk bs q) = z := ⟨_, rfl⟩
          have hat := cntL_at bs (us.take j) qn
          rw [hze] at hz hat hnew
          have d0 : w4.cell? ⟨w2.heap.size, q, none⟩ = some (.int .i64 (z : Int)) := VOwn.at_ HE.out.1 (by rw [iv_length, cntL_length]) (iv_at hat)
          have d1 : w4.frozen? ⟨w2.heap.size, q, none⟩ = false := VOwn.frozen HE.out.1 (by rw [iv_length, cntL_length]) q
          have hs := VOwn.set HE.out.1 (by rw [iv_length, cntL_length]) q (.int .i64 ((z : Int) + 1))
          rw [← iv_set, ← hnew] at hs
          have hgz : w.heap.size ≤ w2.heap.size := (VOwn.lt HE.out.1 w2.heap.size rfl).1
          have HZ := Lib.hid (show CRel w w2.heap.size (w2.heap.size + 1) nd (.slice (some ⟨gu, ou, none⟩) nu cu) us D bs (j + 1) (w4.setCell ⟨w2.heap.size, q, none⟩ (.int .i64 ((z : Int) + 1))) from
            ⟨hs, VOwn.to_put HE.out.2.1 (by intro e; have := (VOwn.lt HE.out.2.1 _ e).1; dsimp only at this; omega) _, HE.out.2.2.1.grown (grown_set (grown_refl w4 (some w2.heap.size)) (.inl rfl) _) (fun g e => by injection e with e; omega), grown_put HE.out.2.2.2 (p := ⟨w2.heap.size, q, none⟩) hgz _⟩)
          clear hs hnew hat hze hq
          go_wp2
          go_roundw
          case rel => exact ⟨j + 1, by go_num, by omega, HZ.out⟩
          case measure => simp [intOf]; omega
    · obtain rfl : j = nu := by omega
      have HZ := Lib.hid (show IOwn wq w.heap.size (.slice (some ⟨w2.heap.size, 0, none⟩) nd nd) (cntL bs us nd) ∧ w.grownBy wq none from ⟨by have h := hC.1; rw [List.take_of_length_le (by have := HN.out; omega)] at h; exact h, hC.2.2.2⟩)
      clear hC
      go_wp2
      go_ret
      exact ⟨_, nd, nd, rfl, cntL_length _ _ _, HZ.out.1, HZ.out.2⟩
theorem blockCounts_any (hld : bs.length = nd) (hrd : DRow w w.heap.size D bs) (hnd : nd ≤ 1048576) (hpd : ∀ b, b ∈ bs → b.ps.length ≤ 1048576) (hl : ls.length = n) (hr : TRow w w.heap.size A ls) (hn : n ≤ 1048576) (hp : ∀ l, l ∈ ls → l.xs.length ≤ 1048576) :
    Calls Try.prog 17 #[.slice D nd cd, .agg #[.slice A n c]] w (IMade (countsV bs (ll ls)) w) := by
  cases hB : devB bs && tabB (ll ls)
  · have e : countsV bs (ll ls) = [] := by simp [countsV, hB]
    rw [e]
    exact blockCounts_no hld hrd hnd hpd hl hr hn hp hB
  · rw [Bool.and_eq_true] at hB
    rw [counts_of hB.1 hB.2, hld]
    exact blockCounts_yes hld hrd hl hr hn hB.1 hB.2
end
end Go.Proofs.Ytnjgegadhfofbaa
