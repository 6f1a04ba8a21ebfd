/- What the model's BlockCounts answers. -/
import Derived.Test.YtnjgegadhfofbaaCounts2
namespace Go.Proofs.Ytnjgegadhfofbaa
open Go.ChangeShapes Go.WideShapes Go.ChangeAt Go.RowKit
set_option linter.unusedVariables false

/-- append(u, x), which also tells where the row lies then. -/
theorem push_intK {wr wq : World} {u : Value} {xs : List Int} (x : Int) (h : IOwn wq wr.heap.size u xs) (hb : wr.heap.size ≤ wq.heap.size) (hn : xs.length ≤ 1000000) :
    ∃ u' w', (∀ ty, (Builtin.append_ #[27, 27] ty #[u, .slice (some ⟨wq.heap.size, 0, none⟩) 1 1]).run Try.prog (wq.alloc (.cells #[.int .i64 x] 3)) = .ok u' w') ∧ IOwn w' wr.heap.size u' (xs ++ [x]) ∧ (wq.alloc (.cells #[.int .i64 x] 3)).grownBy w' u.ownBlock ∧
      (u'.ownBlock = u.ownBlock ∨ u'.ownBlock = some (wq.heap.size + 1)) := by
  have h1 := VOwn.keep h (grown_alloc (grown_refl wq none) (.cells #[.int .i64 x] 3))
  unfold VOwn at h1
  rw [iv_length] at h1
  obtain ⟨u', w', hrun, h2, h3, h4⟩ := append_ints _ wr.heap.size u xs.length _ _ 1 1 [x] (iv xs) h1 (irow_one wq x) rfl (by omega) (by omega) (by simp only [size_alloc1]; omega)
  refine ⟨u', w', hrun, ?_, h3, by rw [size_alloc1] at h4; exact h4⟩
  unfold IOwn VOwn
  rw [iv_length, List.length_append, iv_append]
  exact h2
/-- Two rows of numbers of the call's own, apart from each other; the first one grows. -/
def USt (w : World) (U : Value) (us : List Int) (u : Value) (xs : List Int) (wr : World) : Prop :=
  IOwn wr w.heap.size u xs ∧ IOwn wr w.heap.size U us ∧ (∀ g, u.ownBlock = some g → U.ownBlock ≠ some g)
section
variable {w wr w' : World} {U u u' : Value} {us xs : List Int}
theorem USt.keep (h : USt w U us u xs wr) (k : wr.grownBy w' none) : USt w U us u xs w' := ⟨VOwn.keep h.1 k, VOwn.keep h.2.1 k, h.2.2⟩
theorem USt.push {x : Int} (h : USt w U us u xs wr) (hi : IOwn w' w.heap.size u' (xs ++ [x])) (hg : (wr.alloc (.cells #[.int .i64 x] 3)).grownBy w' u.ownBlock) (hk : u'.ownBlock = u.ownBlock ∨ u'.ownBlock = some (wr.heap.size + 1)) : USt w U us u' (xs ++ [x]) w' := by
  refine ⟨hi, VOwn.kept (VOwn.keep h.2.1 (grown_alloc (grown_refl wr none) _)) hg ?_, fun g e e' => ?_⟩
  · cases hu : u.ownBlock with
    | none => cases hU : U.ownBlock <;> simp
    | some g => exact .inr (h.2.2 g hu)
  · rcases hk with hk | hk
    · exact h.2.2 g (hk.symm.trans e) e'
    · have h1 := (VOwn.lt h.2.1 g e').2
      rw [hk] at e
      injection e with e
      omega
end
variable {D : Option Addr} {nd cd : Nat} {bs : List Bk} {A : Option Addr} {n c : Nat} {ls : List Li} {w : World}
/-- The loop over the blocks. -/
def SRel (w : World) (A : Option Addr) (n c : Nat) (ls : List Li) (D : Option Addr) (bs : List Bk) (U : Value) (us : List Int) (u : Value) (xs : List Int) (wr : World) : Prop := USt w U us u xs wr ∧ VIn w A n c ls D bs wr
theorem SRel.keep {wr w' : World} {U u : Value} {us xs : List Int} (h : SRel w A n c ls D bs U us u xs wr) (k : wr.grownBy w' none) : SRel w A n c ls D bs U us u xs w' := ⟨h.1.keep k, h.2.keep k⟩
/-- What is laid behind the call of UsedPages. -/
theorem srel_start {w2 w3 : World} {Au : Option Addr} {nu cu : Nat} {us : List Int} (hT : VIn w A n c ls D bs w2) (hi : IOwn w2 w.heap.size (.slice (some ⟨w.heap.size + 1, 0, none⟩) 0 0) []) (hz : w2.heap.size = w.heap.size + 2) (ho : IOwn w3 w2.heap.size (.slice Au nu cu) us) (hk : w2.grownBy w3 none) :
    SRel w A n c ls D bs (.slice Au nu cu) us (.slice (some ⟨w.heap.size + 1, 0, none⟩) 0 0) [] w3 := by
  refine ⟨⟨VOwn.keep hi hk, VOwn.base_le ho (by omega), fun g e e' => ?_⟩, hT.keep hk⟩
  have := (VOwn.lt ho g e').1
  simp only [Value.ownBlock, Option.some.injEq] at e
  omega
theorem specBlockCounts_no (hld : bs.length = nd) (hrd : DRow w w.heap.size D bs) (hnd : nd ≤ 1048576) (hpd : ∀ b, b ∈ bs → b.ps.length ≤ 1048576) (hl : ls.length = n) (hr : TRow w w.heap.size A ls) (hn : n ≤ 1048576) (hp : ∀ l, l ∈ ls → l.xs.length ≤ 1048576) (hB : (devB bs && tabB (ll ls)) = false) :
    Calls Try.prog 18 #[.slice D nd cd, .agg #[.slice A n c]] w (IMade [] w) := by
  have hT0 : VIn w A n c ls D bs _ := VIn.keep (⟨TIn.start hr n c, hrd.alloc _⟩ : VIn w A n c ls D bs _) (grown_alloc (grown_refl _ _) (.cells #[] 3))
  have b0 := hT0.1.1.cell 0
  have HT := Lib.hid (And.intro hT0 (iown_lit1 w #[.slice A n c] 25))
  have HP := Lib.hid (And.intro hld (And.intro hpd hB))
  have HQ := Lib.hid (And.intro hl hp)
  clear hl hr hp hld hrd hpd hB hT0
  go_enter Try.func18, Try.ntmps18
  go_wp2_with fail
  refine (specUsed_any _ _ _ ls _ HQ.out.1 HT.out.1.1.2.1.here hn HQ.out.2).mono ?_
  rintro e w3 ⟨Au, nu, cu, rfl, hlu, hou, hk⟩
  have HK := Lib.hid (And.intro (HT.out.1.keep hk) (VOwn.keep HT.out.2 hk))
  clear hou hk b0 HT hlu
  go_wp2
  go_loopw [5, 7] (fun u i wr => i = .int .i64 0 ∧ IOwn wr w.heap.size u [] ∧ VIn w A n c ls D bs wr) (fun _ _ _ => 1)
  case atStart => exact ⟨rfl, HK.out.2, HK.out.1⟩
  case round =>
    rename World => wq
    obtain ⟨rfl, hi, hT⟩ := hrel
    have HX := Lib.hid (And.intro hi hT)
    have b0 : wq.cell? ⟨w.heap.size, 0, none⟩ = some (.slice A n c) := hT.1.1.cell 0
    obtain ⟨Ax, cx, rfl⟩ := IOwn.slice hi
    clear hi hT HK
    by_cases hpos : 0 < nd
    · have p1 : (0 : Int) < nd := by omega
      cases hd : devB bs
      · have HV := Lib.hid hd
        clear hd
        go_wp2_with fail
        refine (specDeviceValid_val HP.out.1 HV.out _ HX.out.2.2.here hnd HP.out.2.1).mono ?_
        rintro e w4 ⟨rfl, hk⟩
        have HF := Lib.hid (And.intro (VOwn.keep HX.out.1 hk) (HX.out.2.keep hk))
        clear hk
        go_wp2
        go_ret
        exact ⟨Ax, 0, cx, rfl, rfl, HF.out.1, HF.out.2.1.2.2⟩
      · have hv : tabB (ll ls) = false := by have := HP.out.2.2; rw [hd, Bool.true_and] at this; exact this
        have HV := Lib.hid (And.intro hd hv)
        clear hd hv
        go_wp2_with fail
        refine (specDeviceValid_val HP.out.1 HV.out.1 _ HX.out.2.2.here hnd HP.out.2.1).mono ?_
        rintro e w4 ⟨rfl, hk⟩
        have HF := Lib.hid (And.intro (VOwn.keep HX.out.1 hk) (HX.out.2.keep hk))
        have b1 : w4.cell? ⟨w.heap.size, 0, none⟩ = some (.slice A n c) := HF.out.2.1.1.cell 0
        clear hk b0
        go_wp2_with fail
        refine (specTabValid_val HV.out.2 HQ.out.1 HF.out.2.1.2.1.here hn HQ.out.2).mono ?_
        rintro e w5 ⟨rfl, hk⟩
        have HG := Lib.hid (And.intro (VOwn.keep HF.out.1 hk) (HF.out.2.keep hk))
        clear hk b1
        go_wp2
        go_ret
        exact ⟨Ax, 0, cx, rfl, rfl, HG.out.1, HG.out.2.1.2.2⟩
    · obtain rfl : nd = 0 := by omega
      go_wp2
      go_ret
      exact ⟨Ax, 0, cx, rfl, rfl, HX.out.1, HX.out.2.1.2.2⟩
set_option maxHeartbeats 2000000 in
theorem specBlockCounts_yes (hld : bs.length = nd) (hrd : DRow w w.heap.size D bs) (hl : ls.length = n) (hr : TRow w w.heap.size A ls) (hn : n ≤ 1048576) (hd : devB bs = true) (hv : tabB (ll ls) = true) :
    Calls Try.prog 18 #[.slice D nd cd, .agg #[.slice A n c]] w (IMade (cntL bs (usedTo (ll ls).flatten 48) nd) w) := by
  have hT0 : VIn w A n c ls D bs _ := VIn.keep (⟨TIn.start hr n c, hrd.alloc _⟩ : VIn w A n c ls D bs _) (grown_alloc (grown_refl _ _) (.cells #[] 3))
  have b0 := hT0.1.1.cell 0
  have HT := Lib.hid (And.intro hT0 (iown_lit1 w #[.slice A n c] 25))
  obtain ⟨⟨h1, h12⟩, hall⟩ := dev_parts hd
  have hnd : nd ≤ 12 := by omega
  have HP := Lib.hid (And.intro hld (And.intro (fun (b : Bk) (hm : b ∈ bs) => show b.ps.length ≤ 1048576 by have := (block_parts (hall b hm)).2.1; omega) hd))
  have HQ := Lib.hid (And.intro hl (And.intro (ll_six hv) hv))
  obtain ⟨us, hus⟩ : ∃ us, usedV (ll ls) = us := ⟨_, rfl⟩
  have hul : us.length ≤ 48 := by rw [← hus]; exact used_small _
  have HU := Lib.hid (And.intro hus (And.intro hul (fun (i : Nat) (x : Int) (h : us[i]? = some x) => used_in (ll ls) (i := i) (x := x) (by rw [hus]; exact h))))
  rw [show usedTo (ll ls).flatten 48 = us by rw [← hus, used_of hv]]
  clear hld hrd hl hr hd hv h1 h12 hall hus hT0
  go_enter Try.func18, Try.ntmps18
  go_wp2_with fail
  refine (specUsed_any _ _ _ ls _ HQ.out.1 HT.out.1.1.2.1.here hn HQ.out.2.1).mono ?_
  rintro e w3 ⟨Au, nu, cu, rfl, hlu, hou, hk⟩
  have HK := Lib.hid (show SRel w A n c ls D bs (.slice Au nu cu) us (.slice (some ⟨w.heap.size + 1, 0, none⟩) 0 0) [] w3 from srel_start HT.out.1 HT.out.2 (by simp only [size_alloc1]) (by rw [HU.out.1] at hou; exact hou) hk)
  have hnu : us.length = nu := by rw [← HU.out.1]; exact hlu
  have HN := Lib.hid hnu
  have hnu48 : nu ≤ 48 := by omega
  clear hou hk b0 HT hlu hnu hul
  go_wp2
  go_loopw [5, 7] (fun u i wr => ∃ m : Nat, i = .int .i64 m ∧ m ≤ nd ∧ SRel w A n c ls D bs (.slice Au nu cu) us u (cntL bs us m) wr) (fun _ i _ => nd - (intOf i).toNat)
  case atStart => exact ⟨0, rfl, Nat.zero_le _, HK.out⟩
  case round =>
    rename World => wq
    obtain ⟨m, rfl, hm, hS⟩ := hrel
    clear HK
    by_cases hlt : m < nd
    · have m8 : (m : Int) < nd := by omega
      have b0 : wq.cell? ⟨w.heap.size, 0, none⟩ = some (.slice A n c) := hS.2.1.1.cell 0
      have HS := Lib.hid hS
      clear hS
      go_wp2_with fail
      refine (specDeviceValid_val HP.out.1 HP.out.2.2 _ HS.out.2.2.here (by omega) HP.out.2.1).mono ?_
      rintro e w4 ⟨rfl, hk⟩
      replace HS := Lib.hid (HS.out.keep hk)
      have b1 : w4.cell? ⟨w.heap.size, 0, none⟩ = some (.slice A n c) := HS.out.2.1.1.cell 0
      clear hk b0
      go_wp2_with fail
      refine (specTabValid_val HQ.out.2.2 HQ.out.1 HS.out.2.1.2.1.here hn HQ.out.2.1).mono ?_
      rintro e w5 ⟨rfl, hk⟩
      replace HS := Lib.hid (HS.out.keep hk)
      clear hk b1
      go_wp2
      go_loopw [8, 9] (fun z i wr => ∃ j : Nat, i = .int .i64 j ∧ j ≤ nu ∧ z = .int .i64 (((us.take j).countP (inBlk bs m) : Nat) : Int) ∧ SRel w A n c ls D bs (.slice Au nu cu) us u5 (cntL bs us m) wr) (fun _ i _ => nu - (intOf i).toNat)
      case atStart => exact ⟨0, rfl, Nat.zero_le _, rfl, HS.out⟩
      case round =>
        rename World => wi
        obtain ⟨j, rfl, hj, rfl, hS⟩ := hrel
        replace HS := Lib.hid hS
        clear hS
        have hz := blk_small (bs := bs) j m HU.out.2.1
        by_cases hjl : j < nu
        · have j8 : (j : Int) < nu := by omega
          have j0 : decide ((0 : Int) ≤ j) = true := decide_eq_true (by omega)
          obtain ⟨gu, ou, rfl⟩ := IRow.pos (VOwn.row HS.out.1.2.1 : IRow _ _ _ us) (by have := HN.out; omega)
          obtain ⟨x, hx⟩ : ∃ x, us[j]? = some x := ⟨_, List.getElem?_eq_getElem (by have := HN.out; omega)⟩
          have c0 := IRow.cellf (VOwn.row HS.out.1.2.1 : IRow _ _ _ us) hx
          have hx48 := HU.out.2.2 j x hx
          obtain ⟨⟨pf, pa, pb, pc, pd⟩, hp⟩ : ∃ p, readV bs x = p := ⟨_, rfl⟩
          have HH := Lib.hid (And.intro hp (blk_take (bs := bs) (n := m) hx))
          have HX := Lib.hid hx
          clear hp hx
          go_wp2_with fail
          refine (specRead_val HH.out.1 HP.out.1 HS.out.2.2.here (by omega) HP.out.2.1).mono ?_
          rintro e w6 ⟨rfl, hk⟩
          have hk7 := grown_alloc hk (.cells #[.bool pf, .int .i64 pa, .int .i64 pb, .int .i64 pc, .int .i64 pd] 64)
          replace HS := Lib.hid (HS.out.keep hk7)
          have c1 := IRow.cellf (VOwn.row HS.out.1.2.1 : IRow _ _ _ us) HX.out
          clear hk hk7 c0
          cases pf
          · have HZ := Lib.hid (show (us.take (j + 1)).countP (inBlk bs m) = (us.take j).countP (inBlk bs m) by rw [HH.out.2, if_neg (by simp [inBlk, HH.out.1]), Nat.add_zero])
            go_wp2
            go_roundw
            case rel => exact ⟨j + 1, by go_num, by omega, by rw [HZ.out], HS.out⟩
            case measure => simp [intOf]; omega
          · have e1 : x.tdiv 4 = x / 4 := Int.tdiv_eq_ediv_of_nonneg hx48.1
            by_cases hq : x / 4 = (m : Int)
            · have e2 : (x / 4 == (m : Int)) = true := by rw [beq_iff_eq]; exact hq
              have HZ := Lib.hid (show (us.take (j + 1)).countP (inBlk bs m) = (us.take j).countP (inBlk bs m) + 1 by rw [HH.out.2, if_pos (by simp [inBlk, HH.out.1, hq])])
              clear hq
              generalize (us.take j).countP (inBlk bs m) = z at hz HZ
              go_wp2
              go_roundw
              case rel => exact ⟨j + 1, by go_num, by omega, by rw [HZ.out]; go_num, HS.out⟩
              case measure => simp [intOf]; omega
            · have e2 : (x / 4 == (m : Int)) = false := by rw [beq_eq_false_iff_ne]; exact hq
              have HZ := Lib.hid (show (us.take (j + 1)).countP (inBlk bs m) = (us.take j).countP (inBlk bs m) by rw [HH.out.2, if_neg (by simp [inBlk, hq]), Nat.add_zero])
              clear hq
              go_wp2
              go_roundw
              case rel => exact ⟨j + 1, by go_num, by omega, by rw [HZ.out], HS.out⟩
              case measure => simp [intOf]; omega
        · obtain rfl : j = nu := by omega
          have hfull : us.take j = us := List.take_of_length_le (by have := HN.out; omega)
          rw [hfull] at hz ⊢
          obtain ⟨u', w7, hrun, hi7, hg7, hb7⟩ := push_intK (wr := w) (((us.countP (inBlk bs m) : Nat) : Int)) HS.out.1.1 HS.out.2.1.2.2.size (by rw [cntL_length]; omega)
          have hU := HS.out.1.push hi7 hg7 hb7
          rw [← cntL_succ] at hU
          have K1 := grown_alloc (grown_refl wi none) (.cells #[.int .i64 (((us.countP (inBlk bs m) : Nat) : Int))] 3)
          have HZ := Lib.hid (And.intro hU ((HS.out.2.keep K1).grown (VOwn.keep HS.out.1.1 K1) hg7))
          have HRUN := Lib.hid hrun
          clear hrun hi7 hg7 hb7 hU K1 hfull HS
          generalize us.countP (inBlk bs m) = z at hz HRUN
          go_wp2_with (at_builtin; refine wpList_append_run _ rfl (.tmp 56) (.tmp 58) _ _ rfl _ _ rfl rfl HRUN.out ?_)
          go_roundw
          case rel => exact ⟨m + 1, by go_num, by omega, HZ.out⟩
          case measure => simp [intOf]; omega
    · obtain rfl : m = nd := by omega
      obtain ⟨Ax, cx, rfl⟩ := IOwn.slice hS.1.1
      have HZ := Lib.hid (And.intro hS.1.1 hS.2.1.2.2)
      clear hS
      go_wp2
      go_ret
      exact ⟨Ax, _, cx, rfl, rfl, HZ.out.1, HZ.out.2⟩
theorem specBlockCounts_any (hld : bs.length = nd) (hrd : DRow w w.heap.size D bs) (hnd : nd ≤ 1048576) (hpd : ∀ b, b ∈ bs → b.ps.length ≤ 1048576) (hl : ls.length = n) (hr : TRow w w.heap.size A ls) (hn : n ≤ 1048576) (hp : ∀ l, l ∈ ls → l.xs.length ≤ 1048576) :
    Calls Try.prog 18 #[.slice D nd cd, .agg #[.slice A n c]] w (IMade (countsV bs (ll ls)) w) := by
  cases hB : devB bs && tabB (ll ls)
  · have e : countsV bs (ll ls) = [] := by simp [countsV, hB]
    rw [e]
    exact specBlockCounts_no hld hrd hnd hpd hl hr hn hp hB
  · rw [Bool.and_eq_true] at hB
    rw [counts_of hB.1 hB.2, hld]
    exact specBlockCounts_yes hld hrd hl hr hn hB.1 hB.2
end Go.Proofs.Ytnjgegadhfofbaa
