/- The exact laws' helpers for devices (under way): eqBlockS, toBlockS. -/
import Derived.Test.YtbdpnmejkchjpaaDevices2
import Derived.Test.YtbdpnmejkchjpaaExactMark
namespace Go.Proofs.Ytbdpnmejkchjpaa
open Go.ChangeShapes Go.WideShapes Go.ChangeAt Go.RowKit

theorem D2.kept {w w' : World} {g o : Nat} {b : Bk} (h : D2 w g o b) (hk : w.grownBy w' none) : D2 w' g o b :=
  h.keep fun q hq => World.cell?_of_block (hk.block q.block (by have := h.lt; omega) (by simp))
theorem is_at {bs cs : List Bk} (h : bs.map Bk.is = cs.map Bk.is) {i : Nat} {m : Int} {A : Option Addr} {c : Nat} {ps : List Pg} (hi : bs[i]? = some ⟨m, A, c, ps⟩) : ∃ A' c', cs[i]? = some ⟨m, A', c', ps⟩ := by
  have e : (bs.map Bk.is)[i]? = (cs.map Bk.is)[i]? := by rw [h]
  rw [List.getElem?_map, List.getElem?_map, hi] at e
  cases hc : cs[i]? with
  | none => rw [hc] at e; simp at e
  | some b =>
    rw [hc] at e
    obtain ⟨m', A', c', ps'⟩ := b
    simp [Bk.is] at e
    obtain ⟨rfl, rfl⟩ := e
    exact ⟨A', c', rfl⟩
theorem is_length {bs cs : List Bk} (h : bs.map Bk.is = cs.map Bk.is) : bs.length = cs.length := by
  have := congrArg List.length h
  simpa using this
theorem eqBlockS_same (A A' : Option Addr) (c c' n : Nat) (bs cs : List Bk) (w : World) (hl : bs.length = n) (hs : bs.map Bk.is = cs.map Bk.is) (hr : DRow w w.heap.size A bs) (hr' : DRow w w.heap.size A' cs) (hn : n ≤ 1048576) (hp : ∀ b, b ∈ bs → b.ps.length ≤ 1048576) :
    Calls Try.prog 19 #[.slice A n c, .slice A' n c'] w (KeptV (.bool true) w) := by
  subst hl
  have HR := Lib.hid (And.intro hr (And.intro hr' (And.intro hs hp)))
  clear hr hr' hs hp
  go_enter Try.func19, Try.ntmps19
  go_wp2
  go_loopw [5] (fun i wr => ∃ k : Nat, k ≤ bs.length ∧ i = .int .i64 k ∧ w.grownBy wr none) (fun i _ => bs.length - (intOf i).toNat)
  case atStart => exact ⟨0, Nat.zero_le _, rfl, grown_refl _ _⟩
  case round =>
    obtain ⟨k, hk, rfl, hg⟩ := hrel
    by_cases hlt : k < bs.length
    · obtain ⟨g, off, m, Ab, cb, ps, rfl, _, hgw, hb, c0, c1, hrow⟩ := (HR.out.1.kept hg).at_ hlt
      obtain ⟨g', off', m', Ab', cb', ps', rfl, _, hgw', hb', d0, d1, hrow'⟩ := (HR.out.2.1.kept hg).at_ (show k < cs.length by have := is_length HR.out.2.2.1; omega)
      obtain ⟨A2, c2, hb2⟩ := is_at HR.out.2.2.1 hb
      rw [hb'] at hb2
      injection hb2 with hb2
      injection hb2 with e1 e2 e3 e4
      subst e1; subst e2; subst e3; subst e4
      have HP := Lib.hid (And.intro hrow (And.intro hrow' (And.intro (HR.out.2.2.2 _ (List.mem_of_getElem? hb)) hg)))
      have HC := Lib.hid (And.intro (show D2 wr g (off + k * 2) ⟨m', Ab, cb, ps'⟩ from ⟨c0, c1⟩) (show D2 wr g' (off' + k * 2) ⟨m', Ab', cb', ps'⟩ from ⟨d0, d1⟩))
      have ha : decide (k < bs.length) = true := decide_eq_true hlt
      have ha2 : (k : Int) < bs.length := by omega
      clear hb hb' hrow hrow' hg
      go_wp2_with fail
      refine wp_region_held_drew (S := (fun w' => w'.cell? ⟨g, off + k * 2, none⟩ = some (.int .i64 m') ∧ w'.cell? ⟨g, off + k * 2 + 1, none⟩ = some (.slice Ab ps'.length cb) ∧ w'.cell? ⟨g', off' + k * 2, none⟩ = some (.int .i64 m') ∧ w'.cell? ⟨g', off' + k * 2 + 1, none⟩ = some (.slice Ab' ps'.length cb'))) (by kernel_rfl) ?_ (fun hHeld => ?_)
      · exact ⟨c0, c1, d0, d1⟩
      replace HP := Lib.hid (And.intro (HP.out.1.kept (grown_drew (grown_refl _ none))).here (And.intro (HP.out.2.1.kept (grown_drew (grown_refl _ none))).here (And.intro HP.out.2.2.1 (grown_trans HP.out.2.2.2 (grown_drew (grown_refl _ none))))))
      replace HC := Lib.hid (And.intro (HC.out.1.kept (grown_drew (grown_refl _ none))) (HC.out.2.kept (grown_drew (grown_refl _ none))))
      refine held_yes (i := 0) (d := some 17) (v := ?_) rfl rfl (by kernel_rfl) (by kernel_rfl) (by kernel_rfl) (fun _ _ _ h => h) (by rfl) ?_ (by assumption) ?_
      rotate_left
      · (intro w hSw; (try dsimp only at hSw); go_simp; (first | done | with_reducible rfl))
      try simp only [Act.put, List.setIfInBounds_toArray, List.set_cons_zero, List.set_cons_succ]
      refine held_yes (i := 1) (d := some 18) (v := ?_) rfl rfl (by kernel_rfl) (by kernel_rfl) (by kernel_rfl) (fun _ _ _ h => h) (by rfl) ?_ (by assumption) ?_
      rotate_left
      · (intro w hSw; (try dsimp only at hSw); go_simp; (first | done | with_reducible rfl))
      try simp only [Act.put, List.setIfInBounds_toArray, List.set_cons_zero, List.set_cons_succ]
      refine held_yes (i := 2) (d := some 19) (v := ?_) rfl rfl (by kernel_rfl) (by kernel_rfl) (by kernel_rfl) (fun _ _ _ h => h) (by rfl) ?_ (by assumption) ?_
      rotate_left
      · (intro w hSw; (try dsimp only at hSw); go_simp; (first | done | with_reducible rfl))
      try simp only [Act.put, List.setIfInBounds_toArray, List.set_cons_zero, List.set_cons_succ]
      refine held_yes (i := 3) (d := some 20) (v := ?_) rfl rfl (by kernel_rfl) (by kernel_rfl) (by kernel_rfl) (fun _ _ _ h => h) (by rfl) ?_ (by assumption) ?_
      rotate_left
      · (intro w hSw; (try dsimp only at hSw); go_simp; (first | done | with_reducible rfl))
      try simp only [Act.put, List.setIfInBounds_toArray, List.set_cons_zero, List.set_cons_succ]
      refine held_yes (i := 4) (d := some 21) (v := ?_) rfl rfl (by kernel_rfl) (by kernel_rfl) (by kernel_rfl) (fun _ _ _ h => h) (by rfl) ?_ (by assumption) ?_
      rotate_left
      · (intro w hSw; (try dsimp only at hSw); go_simp; (first | done | with_reducible rfl))
      try simp only [Act.put, List.setIfInBounds_toArray, List.set_cons_zero, List.set_cons_succ]
      refine held_yes (i := 5) (d := some 22) (v := ?_) rfl rfl (by kernel_rfl) (by kernel_rfl) (by kernel_rfl) (fun _ _ _ h => h) (by rfl) ?_ (by assumption) ?_
      rotate_left
      · (intro w hSw; (try dsimp only at hSw); go_simp; (first | done | with_reducible rfl))
      try simp only [Act.put, List.setIfInBounds_toArray, List.set_cons_zero, List.set_cons_succ]
      refine held_yes (i := 6) (d := some 23) (v := ?_) rfl rfl (by kernel_rfl) (by kernel_rfl) (by kernel_rfl) (fun _ _ _ h => h) (by rfl) ?_ (by assumption) ?_
      rotate_left
      · (intro w hSw; (try dsimp only at hSw); go_simp; (first | done | with_reducible rfl))
      try simp only [Act.put, List.setIfInBounds_toArray, List.set_cons_zero, List.set_cons_succ]
      refine held_yes (i := 7) (d := some 24) (v := ?_) rfl rfl (by kernel_rfl) (by kernel_rfl) (by kernel_rfl) (fun _ _ _ h => h) (by rfl) ?_ (by assumption) ?_
      rotate_left
      · (intro w hSw; (try dsimp only at hSw); go_simp; (first | done | with_reducible rfl))
      try simp only [Act.put, List.setIfInBounds_toArray, List.set_cons_zero, List.set_cons_succ]
      refine wpAnyH_ready (rs := [8]) (by kernel_rfl) (by simp) ?_
      refine AllReadyH.cons rfl (fun K hK => ?_) AllReadyH.nil
      go_simp
      go_at_call 42
      refine (eqBlock_same _ _ _ _ _ _ _ _ rfl HP.out.1.here HP.out.2.1.here HP.out.2.2.1).mono ?_
      rintro e w1 ⟨rfl, hk1⟩
      replace HP := Lib.hid (And.intro (HP.out.1.kept hk1).here (And.intro (HP.out.2.1.kept hk1).here (And.intro HP.out.2.2.1 (grown_trans HP.out.2.2.2 hk1))))
      replace HC := Lib.hid (And.intro (HC.out.1.kept hk1) (HC.out.2.kept hk1))
      clear hk1 c0 c1 d0 d1
      obtain ⟨c0, c1⟩ := HC.out.1
      obtain ⟨d0, d1⟩ := HC.out.2
      refine hK.out _ _ ?_ (fun hHeld => ?_)
      · exact ⟨c0, c1, d0, d1⟩
      clear hK K
      try simp only [Act.put, List.setIfInBounds_toArray, List.set_cons_zero, List.set_cons_succ]
      refine held_yes (i := 9) (d := some 26) (v := ?_) rfl rfl (by kernel_rfl) (by kernel_rfl) (by kernel_rfl) (fun _ _ _ h => h) (by rfl) ?_ (by assumption) ?_
      rotate_left
      · (intro w hSw; (try dsimp only at hSw); go_simp; (first | done | with_reducible rfl))
      try simp only [Act.put, List.setIfInBounds_toArray, List.set_cons_zero, List.set_cons_succ]
      refine wpAnyH_done (by kernel_rfl) ?_ _
      go_wp2
      go_roundw
      case rel => exact ⟨k + 1, by omega, by go_num, HP.out.2.2.2⟩
      case measure => simp [intOf]; omega
    · have HG := Lib.hid hg
      clear hg
      go_wp2
      go_ret
      exact ⟨rfl, HG.out⟩
end Go.Proofs.Ytbdpnmejkchjpaa
