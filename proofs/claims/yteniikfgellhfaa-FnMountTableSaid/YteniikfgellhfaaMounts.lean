/- What MountTable answers: the program's and the model's; contracts by letters. -/
import Derived.Test.YteniikfgellhfaaRolls
import Derived.Test.YteniikfgellhfaaTables7
import Derived.Test.YteniikfgellhfaaSaves
namespace Go.Proofs.Yteniikfgellhfaa
open Go.ChangeShapes Go.WideShapes Go.ChangeAt Go.RowKit
set_option linter.unusedVariables false
set_option linter.unusedSimpArgs false

theorem load_tabB {N S : Int} {X : List Int} {T : List (List Int)} (h : loadV N X S = (T, true)) : tabB T = true := by
  cases hB : loadB N X S
  · rw [loadV_no hB] at h; cases h
  · rw [loadV_yes hB] at h
    injection h with h1 _
    subst h1
    simp only [loadB, Bool.and_eq_true] at hB
    exact hB.2
theorem new_tabB {N S N' S' M : Int} {X X' : List Int} {T : List (List Int)} (h : newV N X S N' X' S' = (T, M, true)) : tabB T = true := by
  obtain ⟨T1, o1, h1⟩ : ∃ T o, loadV N X S = (T, o) := ⟨_, _, rfl⟩
  obtain ⟨T2, o2, h2⟩ : ∃ T o, loadV N' X' S' = (T, o) := ⟨_, _, rfl⟩
  unfold newV pickT at h
  rw [h1, h2] at h
  dsimp only at h
  split at h
  · rename_i hc
    injection h with e _
    subst e
    cases o1
    · simp at hc
    · exact load_tabB h1
  · split at h
    · rename_i hc
      injection h with e _
      subst e
      rw [hc] at h2
      exact load_tabB h2
    · injection h with _ h
      injection h with _ h
      cases h
/-- What MountTable has in memory: the boxed saves, the result's variable, the device. -/
def MIn (w : World) (N S : Int) (A : Option Addr) (m c : Nat) (X : List Int) (N' S' : Int) (A' : Option Addr) (m' c' : Nat) (X' : List Int) (D : Option Addr) (bs : List Bk) (wr : World) : Prop :=
  SIn2 w N S A m c X N' S' A' m' c' X' wr ∧ DRow wr w.heap.size D bs
section
variable {w wr w' : World} {N S N' S' : Int} {A A' D : Option Addr} {m c m' c' nd cd : Nat} {X X' : List Int} {bs : List Bk}
theorem MIn.keep (H : MIn w N S A m c X N' S' A' m' c' X' D bs wr) (k : wr.grownBy w' none) : MIn w N S A m c X N' S' A' m' c' X' D bs w' := ⟨H.1.keep k, H.2.kept k⟩
theorem MIn.start (hr : IRow w w.heap.size A X) (hr' : IRow w w.heap.size A' X') (hd : DRow w w.heap.size D bs) (N S N' S' : Int) (m c m' c' : Nat) : MIn w N S A m c X N' S' A' m' c' X' D bs
    (((w.alloc (.cells #[.int .i64 N, .slice A m c, .int .i64 S] 49)).alloc (.cells #[.int .i64 N', .slice A' m' c', .int .i64 S'] 49)).alloc (.cells #[.slice none 0 0] 40)) :=
  ⟨SIn2.start hr hr' N S N' S' m c m' c', ((hd.alloc _).alloc _).alloc _⟩
end
section
variable {N S N' S' s M : Int} {A A' D : Option Addr} {m c m' c' nd cd : Nat} {X X' : List Int} {bs : List Bk} {T R : List (List Int)} {ok o : Bool} {w : World}
set_option maxHeartbeats 2000000 in
theorem mount_val (hV : newV N X S N' X' S' = (T, M, ok)) (hR : mountV bs T ok s = (R, o)) (hld : bs.length = nd) (hrd : DRow w w.heap.size D bs) (hnd : nd ≤ 1048576) (hpd : ∀ b, b ∈ bs → b.ps.length ≤ 1048576) (hl : X.length = m) (hr : IRow w w.heap.size A X) (hm : m ≤ 1048576) (hl' : X'.length = m') (hr' : IRow w w.heap.size A' X') (hm' : m' ≤ 1048576) :
    Calls Try.prog 30 #[.slice D nd cd, .agg #[.int .i64 N, .slice A m c, .int .i64 S], .agg #[.int .i64 N', .slice A' m' c', .int .i64 S'], .int .i64 s] w (TabMade2 R o w) := by
  have HT := Lib.hid (MIn.start hr hr' hrd N S N' S' m c m' c')
  have HP := Lib.hid (And.intro hld hpd)
  have HQ := Lib.hid (And.intro hV (And.intro hl (And.intro hm (And.intro hl' hm'))))
  clear hl hr hm hl' hr' hm' hld hrd hpd
  cases hd : devB bs
  · have HV := Lib.hid hd
    obtain ⟨rfl, rfl⟩ : [] = R ∧ false = o := by simpa [mountV, hd] using hR
    clear hd hR
    go_enter Try.func30, Try.ntmps30
    go_wp2_with fail
    refine (deviceValid_val HP.out.1 HV.out _ HT.out.2.here hnd HP.out.2).mono ?_
    rintro e w1 ⟨rfl, hk⟩
    replace HT := Lib.hid (HT.out.keep hk)
    have z0 := HT.out.1.2.2.1.cell 0
    have z1 := HT.out.1.2.2.1.frozen 0
    clear hk
    go_wp2
    exact bodyPost_ret (v := .tuple #[.agg #[.slice none 0 0], .bool false]) (by simp [results, Try.results30, go_sem, *]) rfl ⟨none, 0, 0, [], rfl, rfl, rfl, town_nil _ _, grown_put HT.out.1.2.2.2.2.2 (p := ⟨w.heap.size + 1 + 1, 0, none⟩) (by dsimp only; omega) _⟩
  · have HV := Lib.hid hd
    cases ok
    · obtain ⟨rfl, rfl⟩ : tabOf bs = R ∧ true = o := by simpa [mountV, hd] using hR
      obtain ⟨l, m8, hlm, _, _⟩ := tof_is HP.out.1
      have hle := hlm.1
      have HL := Lib.hid hlm
      rw [hle]
      clear hd hR hlm hle hV
      go_enter Try.func30, Try.ntmps30
      go_wp2_with fail
      refine (deviceValid_val HP.out.1 HV.out _ HT.out.2.here hnd HP.out.2).mono ?_
      rintro e w1 ⟨rfl, hk⟩
      replace HT := Lib.hid (HT.out.keep hk)
      obtain ⟨a0, a1, a2⟩ := HT.out.1.1.cells3.1
      obtain ⟨b0, b1, b2⟩ := HT.out.1.2.1.cells3.1
      clear hk
      go_wp2_with fail
      refine (newer_val HQ.out.1 HQ.out.2.1 (VRow.here HT.out.1.2.2.2.1) HQ.out.2.2.1 HQ.out.2.2.2.1 (VRow.here HT.out.1.2.2.2.2.1) HQ.out.2.2.2.2).mono ?_
      rintro e w2 ⟨A2, n2, c2, cs2, rfl, hl2, hs2, ho2, hk⟩
      replace HT := Lib.hid (HT.out.keep (grown_alloc hk (.cells #[.slice A2 n2 c2] 40)))
      clear hk hl2 hs2 ho2 a0 a1 a2 b0 b1 b2
      go_wp2_with fail
      refine (tableOf_val HL.out HP.out.1 HT.out.2.here hnd HP.out.2).mono ?_
      rintro e w3 ⟨A3, c3, cs3, rfl, hl3, hs3, ho3, hk⟩
      have HK := Lib.hid (HT.out.keep hk)
      have z0 := HK.out.1.2.2.1.cell 0
      have z1 := HK.out.1.2.2.1.frozen 0
      have HZ := Lib.hid (And.intro hl3 (And.intro hs3 (And.intro ((ho3.base_le HT.out.1.2.2.2.2.2.size).put HK.out.1.2.2.1 0 (.slice A3 m8 c3)) (grown_put HK.out.1.2.2.2.2.2 (p := ⟨w.heap.size + 1 + 1, 0, none⟩) (by dsimp only; omega) (.slice A3 m8 c3)))))
      clear hk hl3 hs3 ho3
      go_wp2
      exact bodyPost_ret (v := .tuple #[.agg #[.slice A3 m8 c3], .bool true]) (by simp [results, Try.results30, go_sem, *]) rfl ⟨_, _, _, cs3, rfl, HZ.out.1, HZ.out.2.1, HZ.out.2.2.1, HZ.out.2.2.2⟩
    · obtain ⟨rfl, rfl⟩ : rollV bs T s = R ∧ true = o := by simpa [mountV, hd] using hR
      have hT := new_tabB hV
      obtain ⟨R, hRV⟩ : ∃ R, rollV bs T s = R := ⟨_, rfl⟩
      have hR8 : R.length = 8 := by rw [← hRV]; exact ((tabB_iff _).1 (rollV_tab hd hT s)).len
      rw [hRV]
      have HL := Lib.hid (And.intro hRV (And.intro hR8 hT))
      clear hd hR hV hT hRV hR8
      go_enter Try.func30, Try.ntmps30
      go_wp2_with fail
      refine (deviceValid_val HP.out.1 HV.out _ HT.out.2.here hnd HP.out.2).mono ?_
      rintro e w1 ⟨rfl, hk⟩
      replace HT := Lib.hid (HT.out.keep hk)
      obtain ⟨a0, a1, a2⟩ := HT.out.1.1.cells3.1
      obtain ⟨b0, b1, b2⟩ := HT.out.1.2.1.cells3.1
      clear hk
      go_wp2_with fail
      refine (newer_val HQ.out.1 HQ.out.2.1 (VRow.here HT.out.1.2.2.2.1) HQ.out.2.2.1 HQ.out.2.2.2.1 (VRow.here HT.out.1.2.2.2.2.1) HQ.out.2.2.2.2).mono ?_
      rintro e w2 ⟨A2, n2, c2, cs2, rfl, hl2, hs2, ho2, hk⟩
      have K2 := grown_alloc (grown_refl w2 none) (.cells #[.slice A2 n2 c2] 40)
      have hrow2 := (ho2.keep K2).row
      have v0 := (Blk.new w2 40 #[.slice A2 n2 c2]).cell 0
      replace HT := Lib.hid (HT.out.keep (grown_trans hk K2))
      have hn2 : n2 ≤ 1048576 := by
        have h8 := ((tabB_iff _).1 HL.out.2.2).len
        rw [← hs2, ll_length] at h8
        omega
      have HN := Lib.hid (And.intro (show rollV bs (ll cs2) s = R by rw [hs2]; exact HL.out.1) (And.intro hl2 (And.intro hrow2 (ll_six (ls := cs2) (by rw [hs2]; exact HL.out.2.2)))))
      clear hk K2 hl2 hs2 ho2 hrow2 a0 a1 a2 b0 b1 b2
      go_wp2_with fail
      refine (roll_val HN.out.1 HL.out.2.1 HP.out.1 HT.out.2.here hnd HP.out.2 HN.out.2.1 HN.out.2.2.1 hn2 HN.out.2.2.2).mono ?_
      rintro e w3 ⟨A3, c3, cs3, rfl, hl3, hs3, ho3, hk⟩
      have HK := Lib.hid (HT.out.keep hk)
      have z0 := HK.out.1.2.2.1.cell 0
      have z1 := HK.out.1.2.2.1.frozen 0
      have HZ := Lib.hid (And.intro hl3 (And.intro hs3 (And.intro ((ho3.base_le HT.out.1.2.2.2.2.2.size).put HK.out.1.2.2.1 0 (.slice A3 8 c3)) (grown_put HK.out.1.2.2.2.2.2 (p := ⟨w.heap.size + 1 + 1, 0, none⟩) (by dsimp only; omega) (.slice A3 8 c3)))))
      clear hk hl3 hs3 ho3 v0
      go_wp2
      exact bodyPost_ret (v := .tuple #[.agg #[.slice A3 8 c3], .bool true]) (by simp [results, Try.results30, go_sem, *]) rfl ⟨_, _, _, cs3, rfl, HZ.out.1, HZ.out.2.1, HZ.out.2.2.1, HZ.out.2.2.2⟩
set_option maxHeartbeats 2000000 in
theorem specMount_val (hV : newV N X S N' X' S' = (T, M, ok)) (hR : mountV bs T ok s = (R, o)) (hld : bs.length = nd) (hrd : DRow w w.heap.size D bs) (hnd : nd ≤ 1048576) (hpd : ∀ b, b ∈ bs → b.ps.length ≤ 1048576) (hl : X.length = m) (hr : IRow w w.heap.size A X) (hm : m ≤ 1048576) (hl' : X'.length = m') (hr' : IRow w w.heap.size A' X') (hm' : m' ≤ 1048576) (hc : m ≤ c) (hcm : c ≤ maxLen) (hc' : m' ≤ c') (hcm' : c' ≤ maxLen) :
    Calls Try.prog 31 #[.slice D nd cd, .agg #[.int .i64 N, .slice A m c, .int .i64 S], .agg #[.int .i64 N', .slice A' m' c', .int .i64 S'], .int .i64 s] w (TabMade2 R o w) := by
  have HT := Lib.hid (MIn.start hr hr' hrd N S N' S' m c m' c')
  have HP := Lib.hid (And.intro hld hpd)
  have HQ := Lib.hid (And.intro hV (And.intro hl (And.intro hm (And.intro hl' hm'))))
  have HC := Lib.hid (And.intro hc (And.intro hcm (And.intro hc' hcm')))
  clear hl hr hm hl' hr' hm' hld hrd hpd hc hcm hc' hcm'
  cases hd : devB bs
  · have HV := Lib.hid hd
    obtain ⟨rfl, rfl⟩ : [] = R ∧ false = o := by simpa [mountV, hd] using hR
    clear hd hR
    go_enter Try.func31, Try.ntmps31
    go_wp2_with fail
    refine (specDeviceValid_val HP.out.1 HV.out _ HT.out.2.here hnd HP.out.2).mono ?_
    rintro e w1 ⟨rfl, hk⟩
    replace HT := Lib.hid (HT.out.keep hk)
    have z0 := HT.out.1.2.2.1.cell 0
    have z1 := HT.out.1.2.2.1.frozen 0
    clear hk
    go_wp2
    exact bodyPost_ret (v := .tuple #[.agg #[.slice none 0 0], .bool false]) (by simp [results, Try.results31, go_sem, *]) rfl ⟨none, 0, 0, [], rfl, rfl, rfl, town_nil _ _, grown_put HT.out.1.2.2.2.2.2 (p := ⟨w.heap.size + 1 + 1, 0, none⟩) (by dsimp only; omega) _⟩
  · have HV := Lib.hid hd
    cases ok
    · obtain ⟨rfl, rfl⟩ : tabOf bs = R ∧ true = o := by simpa [mountV, hd] using hR
      obtain ⟨l, m8, hlm, _, _⟩ := tof_is HP.out.1
      have hle := hlm.1
      have HL := Lib.hid hlm
      rw [hle]
      clear hd hR hlm hle hV
      go_enter Try.func31, Try.ntmps31
      go_wp2_with fail
      refine (specDeviceValid_val HP.out.1 HV.out _ HT.out.2.here hnd HP.out.2).mono ?_
      rintro e w1 ⟨rfl, hk⟩
      replace HT := Lib.hid (HT.out.keep hk)
      obtain ⟨a0, a1, a2⟩ := HT.out.1.1.cells3.1
      obtain ⟨b0, b1, b2⟩ := HT.out.1.2.1.cells3.1
      clear hk
      go_wp2_with fail
      refine (specNewer_val HQ.out.1 HQ.out.2.1 (VRow.here HT.out.1.2.2.2.1) HQ.out.2.2.1 HQ.out.2.2.2.1 (VRow.here HT.out.1.2.2.2.2.1) HQ.out.2.2.2.2 HC.out.1 HC.out.2.1 HC.out.2.2.1 HC.out.2.2.2).mono ?_
      rintro e w2 ⟨A2, n2, c2, cs2, rfl, hl2, hs2, ho2, hk⟩
      replace HT := Lib.hid (HT.out.keep (grown_alloc hk (.cells #[.slice A2 n2 c2] 40)))
      clear hk hl2 hs2 ho2 a0 a1 a2 b0 b1 b2
      go_wp2_with fail
      refine (specTableOf_val HL.out HP.out.1 HT.out.2.here hnd HP.out.2).mono ?_
      rintro e w3 ⟨A3, c3, cs3, rfl, hl3, hs3, ho3, hk⟩
      have HK := Lib.hid (HT.out.keep hk)
      have z0 := HK.out.1.2.2.1.cell 0
      have z1 := HK.out.1.2.2.1.frozen 0
      have HZ := Lib.hid (And.intro hl3 (And.intro hs3 (And.intro ((ho3.base_le HT.out.1.2.2.2.2.2.size).put HK.out.1.2.2.1 0 (.slice A3 m8 c3)) (grown_put HK.out.1.2.2.2.2.2 (p := ⟨w.heap.size + 1 + 1, 0, none⟩) (by dsimp only; omega) (.slice A3 m8 c3)))))
      clear hk hl3 hs3 ho3
      go_wp2
      exact bodyPost_ret (v := .tuple #[.agg #[.slice A3 m8 c3], .bool true]) (by simp [results, Try.results31, go_sem, *]) rfl ⟨_, _, _, cs3, rfl, HZ.out.1, HZ.out.2.1, HZ.out.2.2.1, HZ.out.2.2.2⟩
    · obtain ⟨rfl, rfl⟩ : rollV bs T s = R ∧ true = o := by simpa [mountV, hd] using hR
      have hT := new_tabB hV
      obtain ⟨R, hRV⟩ : ∃ R, rollV bs T s = R := ⟨_, rfl⟩
      have hR8 : R.length = 8 := by rw [← hRV]; exact ((tabB_iff _).1 (rollV_tab hd hT s)).len
      rw [hRV]
      have HL := Lib.hid (And.intro hRV (And.intro hR8 hT))
      clear hd hR hV hT hRV hR8
      go_enter Try.func31, Try.ntmps31
      go_wp2_with fail
      refine (specDeviceValid_val HP.out.1 HV.out _ HT.out.2.here hnd HP.out.2).mono ?_
      rintro e w1 ⟨rfl, hk⟩
      replace HT := Lib.hid (HT.out.keep hk)
      obtain ⟨a0, a1, a2⟩ := HT.out.1.1.cells3.1
      obtain ⟨b0, b1, b2⟩ := HT.out.1.2.1.cells3.1
      clear hk
      go_wp2_with fail
      refine (specNewer_val HQ.out.1 HQ.out.2.1 (VRow.here HT.out.1.2.2.2.1) HQ.out.2.2.1 HQ.out.2.2.2.1 (VRow.here HT.out.1.2.2.2.2.1) HQ.out.2.2.2.2 HC.out.1 HC.out.2.1 HC.out.2.2.1 HC.out.2.2.2).mono ?_
      rintro e w2 ⟨A2, n2, c2, cs2, rfl, hl2, hs2, ho2, hk⟩
      have K2 := grown_alloc (grown_refl w2 none) (.cells #[.slice A2 n2 c2] 40)
      have hrow2 := (ho2.keep K2).row
      have v0 := (Blk.new w2 40 #[.slice A2 n2 c2]).cell 0
      replace HT := Lib.hid (HT.out.keep (grown_trans hk K2))
      have hn2 : n2 ≤ 1048576 := by
        have h8 := ((tabB_iff _).1 HL.out.2.2).len
        rw [← hs2, ll_length] at h8
        omega
      have HN := Lib.hid (And.intro (show rollV bs (ll cs2) s = R by rw [hs2]; exact HL.out.1) (And.intro hl2 (And.intro hrow2 (ll_six (ls := cs2) (by rw [hs2]; exact HL.out.2.2)))))
      clear hk K2 hl2 hs2 ho2 hrow2 a0 a1 a2 b0 b1 b2
      go_wp2_with fail
      refine (specRoll_val HN.out.1 HL.out.2.1 HP.out.1 HT.out.2.here hnd HP.out.2 HN.out.2.1 HN.out.2.2.1 hn2 HN.out.2.2.2).mono ?_
      rintro e w3 ⟨A3, c3, cs3, rfl, hl3, hs3, ho3, hk⟩
      have HK := Lib.hid (HT.out.keep hk)
      have z0 := HK.out.1.2.2.1.cell 0
      have z1 := HK.out.1.2.2.1.frozen 0
      have HZ := Lib.hid (And.intro hl3 (And.intro hs3 (And.intro ((ho3.base_le HT.out.1.2.2.2.2.2.size).put HK.out.1.2.2.1 0 (.slice A3 8 c3)) (grown_put HK.out.1.2.2.2.2.2 (p := ⟨w.heap.size + 1 + 1, 0, none⟩) (by dsimp only; omega) (.slice A3 8 c3)))))
      clear hk hl3 hs3 ho3 v0
      go_wp2
      exact bodyPost_ret (v := .tuple #[.agg #[.slice A3 8 c3], .bool true]) (by simp [results, Try.results31, go_sem, *]) rfl ⟨_, _, _, cs3, rfl, HZ.out.1, HZ.out.2.1, HZ.out.2.2.1, HZ.out.2.2.2⟩
end
end Go.Proofs.Yteniikfgellhfaa
