/- What OldPages answers: the program's and the model's; contracts by letters. -/
import Derived.Test.YtnjgegadhfofbaaCounts3
import Derived.Test.YtnjgegadhfofbaaLawFiles
namespace Go.Proofs.Ytnjgegadhfofbaa
open Go.ChangeShapes Go.WideShapes Go.ChangeAt Go.RowKit
set_option linter.unusedVariables false

section
variable {D : Option Addr} {nd cd : Nat} {bs : List Bk} {A : Option Addr} {n c : Nat} {ls : List Li} {w : World}
theorem oldPages_no (hld : bs.length = nd) (hrd : DRow w w.heap.size D bs) (hnd : nd ≤ 1048576) (hpd : ∀ b, b ∈ bs → b.ps.length ≤ 1048576) (hl : ls.length = n) (hr : TRow w w.heap.size A ls) (hn : n ≤ 1048576) (hp : ∀ l, l ∈ ls → l.xs.length ≤ 1048576) (hB : (devB bs && tabB (ll ls)) = false) :
    Calls Try.prog 20 #[.slice D nd cd, .agg #[.slice A n c]] w (KeptV (.int .i64 (-1)) w) := by
  have HT := Lib.hid (show VIn w A n c ls D bs _ from ⟨TIn.start hr n c, hrd.alloc _⟩)
  cases hd : devB bs
  · have HP := Lib.hid (And.intro hld (And.intro hpd hd))
    clear hl hr hp hd hld hrd hpd hB
    go_enter Try.func20, Try.ntmps20
    go_wp2_with fail
    refine (deviceValid_val HP.out.1 HP.out.2.2 _ HT.out.2.here hnd HP.out.2.1).mono ?_
    rintro e w1 ⟨rfl, hk⟩
    have HK := Lib.hid (HT.out.keep hk)
    clear hk
    go_wp2
    go_ret
    exact ⟨rfl, HK.out.1.2.2⟩
  · rw [hd, Bool.true_and] at hB
    have HP := Lib.hid (And.intro hld (And.intro hpd hd))
    have HQ := Lib.hid (And.intro hl (And.intro hp hB))
    clear hl hr hp hd hld hrd hpd hB
    go_enter Try.func20, Try.ntmps20
    go_wp2_with fail
    refine (deviceValid_val HP.out.1 HP.out.2.2 _ HT.out.2.here hnd HP.out.2.1).mono ?_
    rintro e w1 ⟨rfl, hk⟩
    have HK := Lib.hid (HT.out.keep hk)
    have b0 : w1.cell? ⟨w.heap.size, 0, none⟩ = some (.slice A n c) := HK.out.1.1.cell 0
    clear hk
    go_wp2_with fail
    refine (tabValid_val HQ.out.2.2 HQ.out.1 HK.out.1.2.1.here hn HQ.out.2.1).mono ?_
    rintro e w2 ⟨rfl, hk⟩
    have HF := Lib.hid (HK.out.keep hk)
    clear hk b0
    go_wp2
    go_ret
    exact ⟨rfl, HF.out.1.2.2⟩
theorem specOldPages_no (hld : bs.length = nd) (hrd : DRow w w.heap.size D bs) (hnd : nd ≤ 1048576) (hpd : ∀ b, b ∈ bs → b.ps.length ≤ 1048576) (hl : ls.length = n) (hr : TRow w w.heap.size A ls) (hn : n ≤ 1048576) (hp : ∀ l, l ∈ ls → l.xs.length ≤ 1048576) (hB : (devB bs && tabB (ll ls)) = false) :
    Calls Try.prog 21 #[.slice D nd cd, .agg #[.slice A n c]] w (KeptV (.int .i64 (-1)) w) := by
  have HT := Lib.hid (show VIn w A n c ls D bs _ from ⟨TIn.start hr n c, hrd.alloc _⟩)
  cases hd : devB bs
  · have HP := Lib.hid (And.intro hld (And.intro hpd hd))
    clear hl hr hp hd hld hrd hpd hB
    go_enter Try.func21, Try.ntmps21
    go_wp2_with fail
    refine (specDeviceValid_val HP.out.1 HP.out.2.2 _ HT.out.2.here hnd HP.out.2.1).mono ?_
    rintro e w1 ⟨rfl, hk⟩
    have HK := Lib.hid (HT.out.keep hk)
    clear hk
    go_wp2
    go_ret
    exact ⟨rfl, HK.out.1.2.2⟩
  · rw [hd, Bool.true_and] at hB
    have HP := Lib.hid (And.intro hld (And.intro hpd hd))
    have HQ := Lib.hid (And.intro hl (And.intro hp hB))
    clear hl hr hp hd hld hrd hpd hB
    go_enter Try.func21, Try.ntmps21
    go_wp2_with fail
    refine (specDeviceValid_val HP.out.1 HP.out.2.2 _ HT.out.2.here hnd HP.out.2.1).mono ?_
    rintro e w1 ⟨rfl, hk⟩
    have HK := Lib.hid (HT.out.keep hk)
    have b0 : w1.cell? ⟨w.heap.size, 0, none⟩ = some (.slice A n c) := HK.out.1.1.cell 0
    clear hk
    go_wp2_with fail
    refine (specTabValid_val HQ.out.2.2 HQ.out.1 HK.out.1.2.1.here hn HQ.out.2.1).mono ?_
    rintro e w2 ⟨rfl, hk⟩
    have HF := Lib.hid (HK.out.keep hk)
    clear hk b0
    go_wp2
    go_ret
    exact ⟨rfl, HF.out.1.2.2⟩
theorem csum_step (bs : List Bk) (us : List Int) (k : Nat) : csum bs us (k + 1) = csum bs us k + us.countP (inBlk bs k) := rfl
theorem writ_le {bs : List Bk} (hd : devB bs = true) (k : Nat) : writV (bs.take k) ≤ 48 := by
  obtain ⟨⟨_, h12⟩, hall⟩ := dev_parts hd
  have h := writ_free (bs := bs.take k) (fun b hm => (block_parts (hall b (List.mem_of_mem_take hm))).2.1)
  rw [List.length_take] at h
  omega
set_option maxHeartbeats 1000000 in
theorem oldPages_yes (hld : bs.length = nd) (hrd : DRow w w.heap.size D bs) (hl : ls.length = n) (hr : TRow w w.heap.size A ls) (hn : n ≤ 1048576) (hd : devB bs = true) (hv : tabB (ll ls) = true) :
    Calls Try.prog 20 #[.slice D nd cd, .agg #[.slice A n c]] w (KeptV (.int .i64 (oldV bs (ll ls))) w) := by
  have HT := Lib.hid (show VIn w A n c ls D bs _ from ⟨TIn.start hr n c, hrd.alloc _⟩)
  obtain ⟨⟨h1, h12⟩, hall⟩ := dev_parts hd
  have hnd : nd ≤ 12 := by omega
  have HP := Lib.hid (And.intro hld (And.intro (fun (b : Bk) (hm : b ∈ bs) => show b.ps.length ≤ 1048576 by have := (block_parts (hall b hm)).2.1; omega) (And.intro hd (fun (b : Bk) (hm : b ∈ bs) => (block_parts (hall b hm)).2.1))))
  have HQ := Lib.hid (And.intro hl (And.intro (ll_six hv) hv))
  obtain ⟨us, hus⟩ : ∃ us, usedTo (ll ls).flatten 48 = us := ⟨_, rfl⟩
  have HU := Lib.hid (And.intro (show oldV bs (ll ls) = (writV bs : Nat) - (csum bs us nd : Nat) by rw [old_of hd hv, hus, hld]) (And.intro (show countsV bs (ll ls) = cntL bs us nd by rw [counts_of hd hv, hus, hld]) (And.intro (fun k (hk : k ≤ nd) => show csum bs us k ≤ writV (bs.take k) by rw [← hus]; exact csum_writ hd _ k (by omega)) (show us.length ≤ 48 by rw [← hus]; exact usedTo_le _ _))))
  clear hld hrd hl hr hd hv h1 h12 hall hus
  rw [HU.out.1]
  go_enter Try.func20, Try.ntmps20
  go_wp2_with fail
  refine (deviceValid_val HP.out.1 HP.out.2.2.1 _ HT.out.2.here (by omega) HP.out.2.1).mono ?_
  rintro e w1 ⟨rfl, hk⟩
  have HK := Lib.hid (HT.out.keep hk)
  have b0 : w1.cell? ⟨w.heap.size, 0, none⟩ = some (.slice A n c) := HK.out.1.1.cell 0
  clear hk HT
  go_wp2_with fail
  refine (tabValid_val HQ.out.2.2 HQ.out.1 HK.out.1.2.1.here hn HQ.out.2.1).mono ?_
  rintro e w2 ⟨rfl, hk⟩
  have HG := Lib.hid (HK.out.keep hk)
  have b1 : w2.cell? ⟨w.heap.size, 0, none⟩ = some (.slice A n c) := HG.out.1.1.cell 0
  clear hk b0 HK
  go_wp2_with fail
  refine (blockCounts_any HP.out.1 HG.out.2.here (by omega) HP.out.2.1 HQ.out.1 HG.out.1.2.1.here hn HQ.out.2.1).mono ?_
  rintro e w3 ⟨Ac, nc, cc, rfl, hlc, hoc, hk⟩
  rw [HU.out.2.1] at hlc hoc
  obtain rfl : nd = nc := by rw [← hlc, cntL_length]
  have HM := Lib.hid (show IRow w3 w3.heap.size Ac (cntL bs us nd) ∧ DRow w3 w3.heap.size D bs ∧ w.grownBy w3 none from ⟨VOwn.row hoc, (HG.out.2.kept hk).here, (HG.out.keep hk).1.2.2⟩)
  clear hoc hk b1 HG hlc
  go_wp2
  go_loopw [5, 20] (fun s i wr => ∃ k : Nat, i = .int .i64 k ∧ k ≤ nd ∧ s = .int .i64 ((writV (bs.take k) : Nat) - (csum bs us k : Nat)) ∧ w3.grownBy wr none) (fun _ i _ => nd - (intOf i).toNat)
  case atStart => exact ⟨0, rfl, Nat.zero_le _, rfl, grown_refl _ _⟩
  case round =>
    rename World => wq
    obtain ⟨k, rfl, hk, rfl, hg⟩ := hrel
    have hw := writ_le HP.out.2.2.1 k
    have hc := HU.out.2.2.1 k hk
    by_cases hlt : k < nd
    · have k8 : (k : Int) < nd := by omega
      have k0 : decide ((0 : Int) ≤ k) = true := decide_eq_true (by omega)
      obtain ⟨g, off, m, Ab, cb, ps, rfl, _, hgw, hb, _, c1, hrow⟩ := (HM.out.2.1.kept hg).at_ (i := k) (by have := HP.out.1; omega)
      have hp4 : ps.length = 4 := HP.out.2.2.2 _ (List.mem_of_getElem? hb)
      obtain ⟨gc, oc, rfl⟩ := IRow.pos HM.out.1 (by rw [cntL_length]; omega)
      obtain ⟨z, hz⟩ : ∃ z, us.countP (inBlk bs k) = z := ⟨_, rfl⟩
      have hat := cntL_at bs us hlt
      rw [hz] at hat
      have c0 := IRow.cellf (VRow.kept HM.out.1 hg) hat
      have hz48 : z ≤ 48 := by rw [← hz]; exact Nat.le_trans List.countP_le_length HU.out.2.2.2
      obtain ⟨q, hq⟩ : ∃ q, cntF ps = q := ⟨_, rfl⟩
      have hq4 : q ≤ 4 := by rw [← hq]; have := pcnt_le ps; omega
      have HX := Lib.hid (And.intro hg (And.intro (show writV (bs.take (k + 1)) = writV (bs.take k) + q by rw [writ_take hb, hq]) (And.intro (show csum bs us (k + 1) = csum bs us k + z by rw [csum_step, hz]) (And.intro hrow.here (And.intro hp4 hq)))))
      clear hg hb hrow hp4 hat hz hq
      generalize writV (bs.take k) = W at hw hc HX
      generalize csum bs us k = S at hc HX
      go_wp2_with (go_at_call 48; refine (written_any _ _ _ _ HX.out.2.2.2.1.here (by have := HX.out.2.2.2.2.1; omega)).mono ?_; rintro e w' ⟨rfl, hkp⟩; rw [HX.out.2.2.2.2.2])
      go_roundw
      case rel => exact ⟨k + 1, by go_num, by omega, by rw [HX.out.2.1, HX.out.2.2.1]; go_num, grown_trans HX.out.1 hkp⟩
      case measure => simp [intOf]; omega
    · obtain rfl : k = nd := by omega
      have HX := Lib.hid (And.intro hg (show bs.take k = bs from List.take_of_length_le (by have := HP.out.1; omega)))
      clear hg
      rw [HX.out.2] at hw hc ⊢
      go_wp2
      go_ret
      exact ⟨rfl, grown_trans HM.out.2.2 HX.out.1⟩
set_option maxHeartbeats 1000000 in
theorem specOldPages_yes (hld : bs.length = nd) (hrd : DRow w w.heap.size D bs) (hl : ls.length = n) (hr : TRow w w.heap.size A ls) (hn : n ≤ 1048576) (hd : devB bs = true) (hv : tabB (ll ls) = true) :
    Calls Try.prog 21 #[.slice D nd cd, .agg #[.slice A n c]] w (KeptV (.int .i64 (oldV bs (ll ls))) w) := by
  have HT := Lib.hid (show VIn w A n c ls D bs _ from ⟨TIn.start hr n c, hrd.alloc _⟩)
  obtain ⟨⟨h1, h12⟩, hall⟩ := dev_parts hd
  have hnd : nd ≤ 12 := by omega
  have HP := Lib.hid (And.intro hld (And.intro (fun (b : Bk) (hm : b ∈ bs) => show b.ps.length ≤ 1048576 by have := (block_parts (hall b hm)).2.1; omega) (And.intro hd (fun (b : Bk) (hm : b ∈ bs) => (block_parts (hall b hm)).2.1))))
  have HQ := Lib.hid (And.intro hl (And.intro (ll_six hv) hv))
  obtain ⟨us, hus⟩ : ∃ us, usedTo (ll ls).flatten 48 = us := ⟨_, rfl⟩
  have hfr := writ_free HP.out.2.2.2
  have HU := Lib.hid (And.intro (show oldV bs (ll ls) = (writV bs : Nat) - (csum bs us nd : Nat) by rw [old_of hd hv, hus, hld]) (And.intro (show countsV bs (ll ls) = cntL bs us nd by rw [counts_of hd hv, hus, hld]) (And.intro (show csum bs us nd ≤ 48 by rw [← hus]; exact Nat.le_trans (csum_le _ _ _) (usedTo_le _ _)) (And.intro (show us.length ≤ 48 by rw [← hus]; exact usedTo_le _ _) (show freeV bs + writV bs = 4 * nd by rw [hfr, hld])))))
  obtain ⟨F, hF⟩ : ∃ F, freeV bs = F := ⟨_, rfl⟩
  have hF4 : F ≤ 48 := by omega
  have HF0 := Lib.hid hF
  clear hld hrd hl hr hd hv h1 h12 hall hus hfr hF
  rw [HU.out.1]
  go_enter Try.func21, Try.ntmps21
  go_wp2_with fail
  refine (specDeviceValid_val HP.out.1 HP.out.2.2.1 _ HT.out.2.here (by omega) HP.out.2.1).mono ?_
  rintro e w1 ⟨rfl, hk⟩
  have HK := Lib.hid (HT.out.keep hk)
  have b0 : w1.cell? ⟨w.heap.size, 0, none⟩ = some (.slice A n c) := HK.out.1.1.cell 0
  clear hk HT
  go_wp2_with fail
  refine (specTabValid_val HQ.out.2.2 HQ.out.1 HK.out.1.2.1.here hn HQ.out.2.1).mono ?_
  rintro e w2 ⟨rfl, hk⟩
  have HG := Lib.hid (HK.out.keep hk)
  clear hk b0 HK
  go_wp2_with fail
  refine (specFreePages_yes _ _ _ bs _ HP.out.1 HG.out.2.here HP.out.2.2.1).mono ?_
  rw [HF0.out]
  rintro e w3 ⟨rfl, hk⟩
  replace HG := Lib.hid (HG.out.keep hk)
  have b1 : w3.cell? ⟨w.heap.size, 0, none⟩ = some (.slice A n c) := HG.out.1.1.cell 0
  clear hk
  go_wp2_with fail
  refine (specBlockCounts_any HP.out.1 HG.out.2.here (by omega) HP.out.2.1 HQ.out.1 HG.out.1.2.1.here hn HQ.out.2.1).mono ?_
  rintro e w4 ⟨Ac, nc, cc, rfl, hlc, hoc, hk⟩
  rw [HU.out.2.1] at hlc hoc
  obtain rfl : nd = nc := by rw [← hlc, cntL_length]
  have HM := Lib.hid (show IRow w4 w4.heap.size Ac (cntL bs us nd) ∧ w.grownBy w4 none from ⟨VOwn.row hoc, (HG.out.keep hk).1.2.2⟩)
  clear hoc hk b1 HG hlc
  go_wp2
  go_loopw [5, 7] (fun s i wr => ∃ k : Nat, i = .int .i64 k ∧ k ≤ nd ∧ s = .int .i64 ((4 * (nd : Int) - F) - (csum bs us k : Nat)) ∧ w4.grownBy wr none) (fun _ i _ => nd - (intOf i).toNat)
  case atStart => exact ⟨0, rfl, Nat.zero_le _, by simp only [csum]; go_num, grown_refl _ _⟩
  case round =>
    rename World => wq
    obtain ⟨k, rfl, hk, rfl, hg⟩ := hrel
    have hc : csum bs us k ≤ 48 := Nat.le_trans (csum_mono bs us hk) HU.out.2.2.1
    by_cases hlt : k < nd
    · have k8 : (k : Int) < nd := by omega
      have k0 : decide ((0 : Int) ≤ k) = true := decide_eq_true (by omega)
      obtain ⟨gc, oc, rfl⟩ := IRow.pos HM.out.1 (by rw [cntL_length]; omega)
      obtain ⟨z, hz⟩ : ∃ z, us.countP (inBlk bs k) = z := ⟨_, rfl⟩
      have hat := cntL_at bs us hlt
      rw [hz] at hat
      have c0 := IRow.cellf (VRow.kept HM.out.1 hg) hat
      have hz48 : z ≤ 48 := by rw [← hz]; exact Nat.le_trans List.countP_le_length HU.out.2.2.2.1
      have HX := Lib.hid (And.intro hg (show csum bs us (k + 1) = csum bs us k + z by rw [csum_step, hz]))
      clear hg hat hz
      generalize csum bs us k = S at hc HX
      go_wp2
      go_roundw
      case rel => exact ⟨k + 1, by go_num, by omega, by rw [HX.out.2]; go_num, HX.out.1⟩
      case measure => simp [intOf]; omega
    · obtain rfl : k = nd := by omega
      have HX := Lib.hid hg
      clear hg
      go_wp2
      go_ret
      exact ⟨retI (by have := HU.out.2.2.2.2; have := HF0.out; omega), grown_trans HM.out.2 HX.out⟩
/-! ### By letters -/
theorem oldPages_any (hld : bs.length = nd) (hrd : DRow w w.heap.size D bs) (hnd : nd ≤ 1048576) (hpd : ∀ b, b ∈ bs → b.ps.length ≤ 1048576) (hl : ls.length = n) (hr : TRow w w.heap.size A ls) (hn : n ≤ 1048576) (hp : ∀ l, l ∈ ls → l.xs.length ≤ 1048576) :
    Calls Try.prog 20 #[.slice D nd cd, .agg #[.slice A n c]] w (KeptV (.int .i64 (oldV bs (ll ls))) w) := by
  cases hB : devB bs && tabB (ll ls)
  · have e : oldV bs (ll ls) = -1 := by simp [oldV, hB]
    rw [e]
    exact oldPages_no hld hrd hnd hpd hl hr hn hp hB
  · rw [Bool.and_eq_true] at hB
    exact oldPages_yes hld hrd hl hr hn hB.1 hB.2
theorem specOldPages_any (hld : bs.length = nd) (hrd : DRow w w.heap.size D bs) (hnd : nd ≤ 1048576) (hpd : ∀ b, b ∈ bs → b.ps.length ≤ 1048576) (hl : ls.length = n) (hr : TRow w w.heap.size A ls) (hn : n ≤ 1048576) (hp : ∀ l, l ∈ ls → l.xs.length ≤ 1048576) :
    Calls Try.prog 21 #[.slice D nd cd, .agg #[.slice A n c]] w (KeptV (.int .i64 (oldV bs (ll ls))) w) := by
  cases hB : devB bs && tabB (ll ls)
  · have e : oldV bs (ll ls) = -1 := by simp [oldV, hB]
    rw [e]
    exact specOldPages_no hld hrd hnd hpd hl hr hn hp hB
  · rw [Bool.and_eq_true] at hB
    exact specOldPages_yes hld hrd hl hr hn hB.1 hB.2
variable {X : List Int} {n1 : Nat} {V : Int}
theorem usedPages_val (h : usedV (ll ls) = X) (h1 : X.length = n1) (hl : ls.length = n) (hr : TRow w w.heap.size A ls) (hn : n ≤ 1048576) (hp : ∀ l, l ∈ ls → l.xs.length ≤ 1048576) :
    Calls Try.prog 10 #[.agg #[.slice A n c]] w (IMadeN X n1 w) :=
  (usedPages_any A n c ls w hl hr hn hp).mono fun _ _ q => by rw [h] at q; exact q.to h1
theorem specUsed_val (h : usedV (ll ls) = X) (h1 : X.length = n1) (hl : ls.length = n) (hr : TRow w w.heap.size A ls) (hn : n ≤ 1048576) (hp : ∀ l, l ∈ ls → l.xs.length ≤ 1048576) :
    Calls Try.prog 12 #[.agg #[.slice A n c]] w (IMadeN X n1 w) :=
  (specUsed_any A n c ls w hl hr hn hp).mono fun _ _ q => by rw [h] at q; exact q.to h1
theorem counts_val (h : countsV bs (ll ls) = X) (h1 : X.length = n1) (hld : bs.length = nd) (hrd : DRow w w.heap.size D bs) (hnd : nd ≤ 1048576) (hpd : ∀ b, b ∈ bs → b.ps.length ≤ 1048576) (hl : ls.length = n) (hr : TRow w w.heap.size A ls) (hn : n ≤ 1048576) (hp : ∀ l, l ∈ ls → l.xs.length ≤ 1048576) :
    Calls Try.prog 17 #[.slice D nd cd, .agg #[.slice A n c]] w (IMadeN X n1 w) :=
  (blockCounts_any hld hrd hnd hpd hl hr hn hp).mono fun _ _ q => by rw [h] at q; exact q.to h1
theorem specCounts_val (h : countsV bs (ll ls) = X) (h1 : X.length = n1) (hld : bs.length = nd) (hrd : DRow w w.heap.size D bs) (hnd : nd ≤ 1048576) (hpd : ∀ b, b ∈ bs → b.ps.length ≤ 1048576) (hl : ls.length = n) (hr : TRow w w.heap.size A ls) (hn : n ≤ 1048576) (hp : ∀ l, l ∈ ls → l.xs.length ≤ 1048576) :
    Calls Try.prog 18 #[.slice D nd cd, .agg #[.slice A n c]] w (IMadeN X n1 w) :=
  (specBlockCounts_any hld hrd hnd hpd hl hr hn hp).mono fun _ _ q => by rw [h] at q; exact q.to h1
theorem old_val (h : oldV bs (ll ls) = V) (hld : bs.length = nd) (hrd : DRow w w.heap.size D bs) (hnd : nd ≤ 1048576) (hpd : ∀ b, b ∈ bs → b.ps.length ≤ 1048576) (hl : ls.length = n) (hr : TRow w w.heap.size A ls) (hn : n ≤ 1048576) (hp : ∀ l, l ∈ ls → l.xs.length ≤ 1048576) :
    Calls Try.prog 20 #[.slice D nd cd, .agg #[.slice A n c]] w (KeptV (.int .i64 V) w) := h ▸ oldPages_any hld hrd hnd hpd hl hr hn hp
theorem specOld_val (h : oldV bs (ll ls) = V) (hld : bs.length = nd) (hrd : DRow w w.heap.size D bs) (hnd : nd ≤ 1048576) (hpd : ∀ b, b ∈ bs → b.ps.length ≤ 1048576) (hl : ls.length = n) (hr : TRow w w.heap.size A ls) (hn : n ≤ 1048576) (hp : ∀ l, l ∈ ls → l.xs.length ≤ 1048576) :
    Calls Try.prog 21 #[.slice D nd cd, .agg #[.slice A n c]] w (KeptV (.int .i64 V) w) := h ▸ specOldPages_any hld hrd hnd hpd hl hr hn hp
end
/-- The program reads of a device what the pages are, not where they lie. -/
theorem inBlk_is {bs cs : List Bk} (h : cs.map Bk.is = bs.map Bk.is) (n : Nat) (x : Int) : inBlk cs n x = inBlk bs n x := by simp only [inBlk, readV_is h]
theorem countsV_is {bs cs : List Bk} (h : cs.map Bk.is = bs.map Bk.is) (xss : List (List Int)) : countsV cs xss = countsV bs xss := by
  have e : ∀ n, inBlk cs n = inBlk bs n := fun n => funext fun x => inBlk_is h n x
  simp only [countsV, devB_is h, cntL, e, is_length h]
theorem oldV_is {bs cs : List Bk} (h : cs.map Bk.is = bs.map Bk.is) (xss : List (List Int)) : oldV cs xss = oldV bs xss := by
  have e : ∀ n, inBlk cs n = inBlk bs n := fun n => funext fun x => inBlk_is h n x
  have ec : ∀ us m, csum cs us m = csum bs us m := fun us m => by
    induction m with
    | zero => rfl
    | succ m ih => simp only [csum, ih, e]
  have ew : ∀ l : List Bk, writV l = ((l.map Bk.is).map fun q => cntF q.2).sum := fun l => by simp only [writV, List.map_map]; rfl
  simp only [oldV, devB_is h, ec, is_length h]
  rw [ew cs, ew bs, h]
theorem used_is (xss : List (List Int)) : ∃ (n1 : Nat) (l1 : List Int), usedV xss = l1 ∧ l1.length = n1 ∧ n1 ≤ 1048576 := ⟨_, _, rfl, rfl, Nat.le_trans (used_small xss) (by omega)⟩
theorem counts_is (bs : List Bk) (xss : List (List Int)) : ∃ (n1 : Nat) (l1 : List Int), countsV bs xss = l1 ∧ l1.length = n1 ∧ n1 ≤ 1048576 := ⟨_, _, rfl, rfl, Nat.le_trans (counts_small bs xss) (by omega)⟩
end Go.Proofs.Ytnjgegadhfofbaa
