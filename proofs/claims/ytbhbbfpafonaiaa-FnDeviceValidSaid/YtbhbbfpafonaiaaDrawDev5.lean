/- What the model draws for chapter 5, further: DrawDeviceValid, DrawReadPage, DrawProgram; sameDevice; a row put behind a block. -/
import Derived.Test.YtbhbbfpafonaiaaDrawDev4
import Derived.Test.YtbhbbfpafonaiaaSame
namespace Go.Proofs.Ytbhbbfpafonaiaa
open Go.ChangeShapes Go.WideShapes Go.ChangeAt Go.RowKit

theorem DRow.grownNe {w w' : World} {B : Nat} {A : Option Addr} {bs : List Bk} {row : Option Nat} (h : DRow w B A bs) (hg : w.grownBy w' row) (hA : ∀ ad, A = some ad → row ≠ some ad.block)
    (hP : ∀ (q : Bk) (ad : Addr), q ∈ bs → q.A = some ad → row ≠ some ad.block) : DRow w' B A bs := by
  refine ⟨fun hn => ?_, fun q hq => (h.2 q hq).grownNe hg (fun ad e => hP q ad hq e)⟩
  obtain ⟨g, off, rfl, hb, hz, hc⟩ := h.1 hn
  have hne := hA _ rfl
  exact ⟨g, off, rfl, hb, Nat.lt_of_lt_of_le hz hg.size, fun i q hq => (hc i q hq).keep fun r hr => World.cell?_of_block (hg.block r.block (by omega) (fun e => hne (e.symm.trans (by rw [hr]))))⟩
theorem DRow.cell_at {w : World} {B : Nat} {ad : Addr} {bs : List Bk} (h : DRow w B (some ad) bs) : ∀ j u, (bv bs)[j]? = some u → w.cell? (ad.add j) = some u := fun j u hu => by
  have hj : j < bs.length * 2 := by have := (List.getElem?_eq_some_iff.1 hu).1; rw [bv_length] at this; exact this
  obtain ⟨b, hb⟩ : ∃ b, bs[j / 2]? = some b := ⟨_, List.getElem?_eq_getElem (by omega)⟩
  obtain ⟨g, off, e, _, _, hc⟩ := h.1 (by omega)
  injection e with e
  subst e
  obtain ⟨c0, c1⟩ := hc _ _ hb
  obtain ⟨h0, h1⟩ := bv_at _ _ _ hb
  rw [Go.WideShapes.add_plain]
  rcases Nat.mod_two_eq_zero_or_one j with hm | hm
  · have e1 : j / 2 * 2 = j := by omega
    rw [e1] at h0 c0
    rw [h0] at hu
    injection hu with hu
    rw [← hu]; exact c0
  · have e1 : j / 2 * 2 + 1 = j := by omega
    rw [e1] at h1
    rw [show off + j / 2 * 2 + 1 = off + j by omega] at c1
    rw [h1] at hu
    injection hu with hu
    rw [← hu]; exact c1
/-- A device, told with all that a slice expression wants. -/
def DevDrawn2 (w : World) (e : Ending) (w' : World) : Prop :=
  ∃ (A : Option Addr) (n c : Nat) (bs : List Bk), e = .returned (.slice A n c) ∧ bs.length = n ∧ n ≤ 13 ∧ n ≤ c ∧ c ≤ maxLen ∧ (∀ q, q ∈ bs → q.ps.length ≤ 4) ∧ DRow w' w'.heap.size A bs ∧ Below w.heap.size w w' ∧ ∃ ad, A = some ad
theorem drawDeviceValid_any (w : World) (A : Option Addr) (n c : Nat) (hn : n ≤ c) (hc : c ≤ 9223372036854775807) (h : Bytes w w.heap.size A n) :
    Calls Try.prog 6 #[.slice A n c] w (DevDrawn2 w) := by
  go_enter Try.func6, Try.ntmps6
  go_wp2_with fail
  refine (open_any _ A n c hn hc h).mono ?_
  rintro e w1 ⟨rfl, h1, hb1⟩
  go_wp2_with fail
  refine (device_any _ _ _ _ _ h1 (by omega) (by omega) (by omega)).mono ?_
  rintro e w2 ⟨A2, n2, c2, bs, a, b, h9, rfl, hl, h13, hnc, hcm, hs, _, hrow, h2, hg2, hex, _⟩
  have HF := Lib.hid (hb1.trans (Below.of_grown hg2 (by omega) hb1.size))
  have HX := Lib.hid (And.intro hl (And.intro h13 (And.intro hs (And.intro hrow (And.intro hnc (And.intro hcm hex))))))
  clear h h1 h2 hb1 hg2 hrow hl hs hnc hcm hex
  go_wp2
  go_ret
  exact ⟨_, _, _, _, rfl, HX.out.1, HX.out.2.1, HX.out.2.2.2.2.1, HX.out.2.2.2.2.2.1, HX.out.2.2.1, (HX.out.2.2.2.1.alloc _).here, HF.out.alloc (by have := HF.out.size; exact this) _, HX.out.2.2.2.2.2.2⟩
/-- A device and a number are drawn. -/
def DevNumDrawn (w : World) (e : Ending) (w' : World) : Prop :=
  ∃ (A : Option Addr) (n c : Nat) (bs : List Bk) (a : Int), e = .returned (.tuple #[.slice A n c, .int .i64 a]) ∧ bs.length = n ∧ n ≤ 13 ∧ (∀ q, q ∈ bs → q.ps.length ≤ 4) ∧ DRow w' w'.heap.size A bs ∧ Below w.heap.size w w'
theorem drawReadPage_any (w : World) (A : Option Addr) (n c : Nat) (hn : n ≤ c) (hc : c ≤ 9223372036854775807) (h : Bytes w w.heap.size A n) :
    Calls Try.prog 10 #[.slice A n c] w (DevNumDrawn w) := by
  go_enter Try.func10, Try.ntmps10
  go_wp2_with fail
  refine (open_any _ A n c hn hc h).mono ?_
  rintro e w1 ⟨rfl, h1, hb1⟩
  have hg1 := h1.lt
  go_wp2_with fail
  refine (device_any _ _ _ _ _ h1 (by omega) (by omega) (by omega)).mono ?_
  rintro e w2 ⟨A2, n2, c2, bs, a, b, h9, rfl, hl, h13, hnc, hcm, hs, hA, hrow, h2, hg2, hex, hP⟩
  have nA : ∀ ad, A2 = some ad → (some w.heap.size : Option Nat) ≠ some ad.block := fun ad e e2 => by have := hA ad e; injection e2 with e2; omega
  have nP : ∀ (q : Bk) (ad : Addr), q ∈ bs → q.A = some ad → (some w.heap.size : Option Nat) ≠ some ad.block := fun q ad hq e e2 => by have := hP q ad hq e; injection e2 with e2; omega
  have hz1 := hb1.size
  have hz2 := hg2.size
  have HX := Lib.hid (And.intro hl (And.intro hs (And.intro ((hrow.alloc (.cells #[.int .i64 a, .int .i64 b, .int .i64 h9] 43)).here) (And.intro (h2.alloc (.cells #[.int .i64 a, .int .i64 b, .int .i64 h9] 43)) (And.intro ((hb1.trans (Below.of_grown hg2 (by omega) hb1.size)).alloc (by omega) (.cells #[.int .i64 a, .int .i64 b, .int .i64 h9] 43)) (And.intro nA nP))))))
  clear h h1 h2 hb1 hg2 hrow hl hs hnc hcm hex hA hP nA nP
  go_wp2_with fail
  refine (pick_lt _ _ _ _ _ HX.out.2.2.2.1 (by omega) (by omega)).mono ?_
  rintro e w3 ⟨x3, rfl, u3, v3, h3, hg3⟩
  have HY := Lib.hid (And.intro ((HX.out.2.2.1.grownNe hg3 HX.out.2.2.2.2.2.1 HX.out.2.2.2.2.2.2).here) (And.intro h3 (HX.out.2.2.2.2.1.trans (Below.of_grown hg3 (Nat.le_refl _) (by simp only [size_alloc1]; omega)))))
  clear h3 hg3
  go_wp2_with fail
  refine (pick_lt _ _ _ _ _ HY.out.2.1 (by omega) (by omega)).mono ?_
  rintro e w4 ⟨x4, rfl, u4, v4, h4, hg4⟩
  have HZ := Lib.hid (And.intro ((HY.out.1.grownNe hg4 HX.out.2.2.2.2.2.1 HX.out.2.2.2.2.2.2).here) (HY.out.2.2.trans (Below.of_grown hg4 (Nat.le_refl _) HY.out.2.2.size)))
  clear h4 hg4
  go_wp2
  go_ret2
  exact ⟨_, _, _, _, _, rfl, HX.out.1, by omega, HX.out.2.1, HZ.out.1, HZ.out.2⟩
theorem sameDevice_same (A A' : Option Addr) (c c' n : Nat) (bs cs : List Bk) (w : World) (hl : bs.length = n) (hs : bs.map Bk.is = cs.map Bk.is) (hr : DRow w w.heap.size A bs) (hr' : DRow w w.heap.size A' cs) (hn : n ≤ 1048576) (hp : ∀ b, b ∈ bs → b.ps.length ≤ 1048576) :
    Calls Try.prog 16 #[.slice A n c, .slice A' n c'] w (KeptV (.bool true) w) := by
  subst hl
  have HR := Lib.hid (And.intro hr (And.intro hr' (And.intro hs hp)))
  clear hr hr' hs hp
  go_enter Try.func16, Try.ntmps16
  go_wp2
  go_loopw [5] (fun i wr => ∃ k : Nat, k ≤ bs.length ∧ i = .int .i64 k ∧ w.grownBy wr none) (fun i _ => bs.length - (intOf i).toNat)
  case atStart => exact ⟨0, Nat.zero_le _, rfl, grown_refl _ _⟩
  case round =>
    obtain ⟨k, hk, rfl, hg⟩ := hrel
    by_cases hlt : k < bs.length
    · obtain ⟨g, off, m, Ab, cb, ps, rfl, _, hgw, hb, c0, c1, hrow⟩ := (HR.out.1.kept hg).at_ hlt
      obtain ⟨g', off', m', Ab', cb', ps', rfl, _, hgw', hb', d0, d1, hrow'⟩ := (HR.out.2.1.kept hg).at_ (show k < cs.length by have := is_length HR.out.2.2.1; omega)
      obtain ⟨A2, c2, hb2⟩ := is_at HR.out.2.2.1 hb
      rw [hb'] at hb2
      injection hb2 with hb2
      injection hb2 with e1 e2 e3 e4
      subst e1; subst e2; subst e3; subst e4
      have HP := Lib.hid (And.intro hrow (And.intro hrow' (And.intro (HR.out.2.2.2 _ (List.mem_of_getElem? hb)) hg)))
      have HC := Lib.hid (And.intro (show D2 wr g (off + k * 2) ⟨m', Ab, cb, ps'⟩ from ⟨c0, c1⟩) (show D2 wr g' (off' + k * 2) ⟨m', Ab', cb', ps'⟩ from ⟨d0, d1⟩))
      have ha : decide (k < bs.length) = true := decide_eq_true hlt
      have ha2 : (k : Int) < bs.length := by omega
      clear hb hb' hrow hrow' hg
      go_wp2_with fail
      refine wp_region_held_drew (S := (fun w' => w'.cell? ⟨g, off + k * 2, none⟩ = some (.int .i64 m') ∧ w'.cell? ⟨g, off + k * 2 + 1, none⟩ = some (.slice Ab ps'.length cb) ∧ w'.cell? ⟨g', off' + k * 2, none⟩ = some (.int .i64 m') ∧ w'.cell? ⟨g', off' + k * 2 + 1, none⟩ = some (.slice Ab' ps'.length cb'))) (by kernel_rfl) ?_ (fun hHeld => ?_)
      · exact ⟨c0, c1, d0, d1⟩
      replace HP := Lib.hid (And.intro (HP.out.1.kept (grown_drew (grown_refl _ none))).here (And.intro (HP.out.2.1.kept (grown_drew (grown_refl _ none))).here (And.intro HP.out.2.2.1 (grown_trans HP.out.2.2.2 (grown_drew (grown_refl _ none))))))
      replace HC := Lib.hid (And.intro (HC.out.1.kept (grown_drew (grown_refl _ none))) (HC.out.2.kept (grown_drew (grown_refl _ none))))
      refine held_yes (i := 0) (d := some 17) (v := ?_) rfl rfl (by kernel_rfl) (by kernel_rfl) (by kernel_rfl) (fun _ _ _ h => h) (by rfl) ?_ (by assumption) ?_
      rotate_left
      · (intro w hSw; (try dsimp only at hSw); go_simp; (first | done | with_reducible rfl))
      try simp only [Act.put, List.setIfInBounds_toArray, List.set_cons_zero, List.set_cons_succ]
      refine held_yes (i := 1) (d := some 18) (v := ?_) rfl rfl (by kernel_rfl) (by kernel_rfl) (by kernel_rfl) (fun _ _ _ h => h) (by rfl) ?_ (by assumption) ?_
      rotate_left
      · (intro w hSw; (try dsimp only at hSw); go_simp; (first | done | with_reducible rfl))
      try simp only [Act.put, List.setIfInBounds_toArray, List.set_cons_zero, List.set_cons_succ]
      refine held_yes (i := 2) (d := some 19) (v := ?_) rfl rfl (by kernel_rfl) (by kernel_rfl) (by kernel_rfl) (fun _ _ _ h => h) (by rfl) ?_ (by assumption) ?_
      rotate_left
      · (intro w hSw; (try dsimp only at hSw); go_simp; (first | done | with_reducible rfl))
      try simp only [Act.put, List.setIfInBounds_toArray, List.set_cons_zero, List.set_cons_succ]
      refine held_yes (i := 3) (d := some 20) (v := ?_) rfl rfl (by kernel_rfl) (by kernel_rfl) (by kernel_rfl) (fun _ _ _ h => h) (by rfl) ?_ (by assumption) ?_
      rotate_left
      · (intro w hSw; (try dsimp only at hSw); go_simp; (first | done | with_reducible rfl))
      try simp only [Act.put, List.setIfInBounds_toArray, List.set_cons_zero, List.set_cons_succ]
      refine held_yes (i := 4) (d := some 21) (v := ?_) rfl rfl (by kernel_rfl) (by kernel_rfl) (by kernel_rfl) (fun _ _ _ h => h) (by rfl) ?_ (by assumption) ?_
      rotate_left
      · (intro w hSw; (try dsimp only at hSw); go_simp; (first | done | with_reducible rfl))
      try simp only [Act.put, List.setIfInBounds_toArray, List.set_cons_zero, List.set_cons_succ]
      refine held_yes (i := 5) (d := some 22) (v := ?_) rfl rfl (by kernel_rfl) (by kernel_rfl) (by kernel_rfl) (fun _ _ _ h => h) (by rfl) ?_ (by assumption) ?_
      rotate_left
      · (intro w hSw; (try dsimp only at hSw); go_simp; (first | done | with_reducible rfl))
      try simp only [Act.put, List.setIfInBounds_toArray, List.set_cons_zero, List.set_cons_succ]
      refine held_yes (i := 6) (d := some 23) (v := ?_) rfl rfl (by kernel_rfl) (by kernel_rfl) (by kernel_rfl) (fun _ _ _ h => h) (by rfl) ?_ (by assumption) ?_
      rotate_left
      · (intro w hSw; (try dsimp only at hSw); go_simp; (first | done | with_reducible rfl))
      try simp only [Act.put, List.setIfInBounds_toArray, List.set_cons_zero, List.set_cons_succ]
      refine held_yes (i := 7) (d := some 24) (v := ?_) rfl rfl (by kernel_rfl) (by kernel_rfl) (by kernel_rfl) (fun _ _ _ h => h) (by rfl) ?_ (by assumption) ?_
      rotate_left
      · (intro w hSw; (try dsimp only at hSw); go_simp; (first | done | with_reducible rfl))
      try simp only [Act.put, List.setIfInBounds_toArray, List.set_cons_zero, List.set_cons_succ]
      refine wpAnyH_ready (rs := [8]) (by kernel_rfl) (by simp) ?_
      refine AllReadyH.cons rfl (fun K hK => ?_) AllReadyH.nil
      go_simp
      go_at_call 35
      refine (sameBlock_same _ _ _ _ _ _ _ _ rfl HP.out.1.here HP.out.2.1.here HP.out.2.2.1).mono ?_
      rintro e w1 ⟨rfl, hk1⟩
      replace HP := Lib.hid (And.intro (HP.out.1.kept hk1).here (And.intro (HP.out.2.1.kept hk1).here (And.intro HP.out.2.2.1 (grown_trans HP.out.2.2.2 hk1))))
      replace HC := Lib.hid (And.intro (HC.out.1.kept hk1) (HC.out.2.kept hk1))
      clear hk1 c0 c1 d0 d1
      obtain ⟨c0, c1⟩ := HC.out.1
      obtain ⟨d0, d1⟩ := HC.out.2
      refine hK.out _ _ ?_ (fun hHeld => ?_)
      · exact ⟨c0, c1, d0, d1⟩
      clear hK K
      try simp only [Act.put, List.setIfInBounds_toArray, List.set_cons_zero, List.set_cons_succ]
      refine held_yes (i := 9) (d := some 26) (v := ?_) rfl rfl (by kernel_rfl) (by kernel_rfl) (by kernel_rfl) (fun _ _ _ h => h) (by rfl) ?_ (by assumption) ?_
      rotate_left
      · (intro w hSw; (try dsimp only at hSw); go_simp; (first | done | with_reducible rfl))
      try simp only [Act.put, List.setIfInBounds_toArray, List.set_cons_zero, List.set_cons_succ]
      refine wpAnyH_done (by kernel_rfl) ?_ _
      go_wp2
      go_roundw
      case rel => exact ⟨k + 1, by omega, by go_num, HP.out.2.2.2⟩
      case measure => simp [intOf]; omega
    · have HG := Lib.hid hg
      clear hg
      go_wp2
      go_ret
      exact ⟨rfl, HG.out⟩
theorem sameDevice_len (A A' : Option Addr) (n n' c c' : Nat) (w : World) (hn : n ≠ n') :
    Calls Try.prog 16 #[.slice A n c, .slice A' n' c'] w (KeptV (.bool false) w) := by
  have t1 : ((n : Int) != (n' : Int)) = true := by simp; omega
  go_enter Try.func16, Try.ntmps16
  go_wp2
  go_ret
  exact ⟨rfl, grown_refl _ _⟩
end Go.Proofs.Ytbhbbfpafonaiaa
