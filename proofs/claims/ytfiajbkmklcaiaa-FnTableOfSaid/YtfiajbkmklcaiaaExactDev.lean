/- The exact laws' helpers for devices (under way): eqBlockS, toBlockS.
   The exact laws' helpers for devices, further (under way): toBlockS. -/
import Derived.Test.YtfiajbkmklcaiaaDevices
import Derived.Test.YtfiajbkmklcaiaaExactRows
namespace Go.Proofs.Ytfiajbkmklcaiaa
open Go.ChangeShapes Go.WideShapes Go.ChangeAt Go.RowKit

theorem D2.kept {w w' : World} {g o : Nat} {b : Bk} (h : D2 w g o b) (hk : w.grownBy w' none) : D2 w' g o b :=
  h.keep fun q hq => World.cell?_of_block (hk.block q.block (by have := h.lt; omega) (by simp))
theorem is_at {bs cs : List Bk} (h : bs.map Bk.is = cs.map Bk.is) {i : Nat} {m : Int} {A : Option Addr} {c : Nat} {ps : List Pg} (hi : bs[i]? = some ⟨m, A, c, ps⟩) : ∃ A' c', cs[i]? = some ⟨m, A', c', ps⟩ := by
  have e : (bs.map Bk.is)[i]? = (cs.map Bk.is)[i]? := by rw [h]
  rw [List.getElem?_map, List.getElem?_map, hi] at e
  cases hc : cs[i]? with
  | none => rw [hc] at e; simp at e
  | some b =>
    rw [hc] at e
    obtain ⟨m', A', c', ps'⟩ := b
    simp [Bk.is] at e
    obtain ⟨rfl, rfl⟩ := e
    exact ⟨A', c', rfl⟩
theorem is_length {bs cs : List Bk} (h : bs.map Bk.is = cs.map Bk.is) : bs.length = cs.length := by
  have := congrArg List.length h
  simpa using this
theorem eqBlockS_same (A A' : Option Addr) (c c' n : Nat) (bs cs : List Bk) (w : World) (hl : bs.length = n) (hs : bs.map Bk.is = cs.map Bk.is) (hr : DRow w w.heap.size A bs) (hr' : DRow w w.heap.size A' cs) (hn : n ≤ 1048576) (hp : ∀ b, b ∈ bs → b.ps.length ≤ 1048576) :
    Calls Try.prog 49 #[.slice A n c, .slice A' n c'] w (KeptV (.bool true) w) := by
  subst hl
  have HR := Lib.hid (And.intro hr (And.intro hr' (And.intro hs hp)))
  clear hr hr' hs hp
  go_enter Try.func49, Try.ntmps49
  go_wp2
  go_loopw [5] (fun i wr => ∃ k : Nat, k ≤ bs.length ∧ i = .int .i64 k ∧ w.grownBy wr none) (fun i _ => bs.length - (intOf i).toNat)
  case atStart => exact ⟨0, Nat.zero_le _, rfl, grown_refl _ _⟩
  case round =>
    obtain ⟨k, hk, rfl, hg⟩ := hrel
    by_cases hlt : k < bs.length
    · obtain ⟨g, off, m, Ab, cb, ps, rfl, _, hgw, hb, c0, c1, hrow⟩ := (HR.out.1.kept hg).at_ hlt
      obtain ⟨g', off', m', Ab', cb', ps', rfl, _, hgw', hb', d0, d1, hrow'⟩ := (HR.out.2.1.kept hg).at_ (show k < cs.length by have := is_length HR.out.2.2.1; omega)
      obtain ⟨A2, c2, hb2⟩ := is_at HR.out.2.2.1 hb
      rw [hb'] at hb2
      injection hb2 with hb2
      injection hb2 with e1 e2 e3 e4
      subst e1; subst e2; subst e3; subst e4
      have HP := Lib.hid (And.intro hrow (And.intro hrow' (And.intro (HR.out.2.2.2 _ (List.mem_of_getElem? hb)) hg)))
      have HC := Lib.hid (And.intro (show D2 wr g (off + k * 2) ⟨m', Ab, cb, ps'⟩ from ⟨c0, c1⟩) (show D2 wr g' (off' + k * 2) ⟨m', Ab', cb', ps'⟩ from ⟨d0, d1⟩))
      have ha : decide (k < bs.length) = true := decide_eq_true hlt
      have ha2 : (k : Int) < bs.length := by omega
      clear hb hb' hrow hrow' hg
      go_wp2_with fail
      refine wp_region_held_drew (S := (fun w' => w'.cell? ⟨g, off + k * 2, none⟩ = some (.int .i64 m') ∧ w'.cell? ⟨g, off + k * 2 + 1, none⟩ = some (.slice Ab ps'.length cb) ∧ w'.cell? ⟨g', off' + k * 2, none⟩ = some (.int .i64 m') ∧ w'.cell? ⟨g', off' + k * 2 + 1, none⟩ = some (.slice Ab' ps'.length cb'))) (by kernel_rfl) ?_ (fun hHeld => ?_)
      · exact ⟨c0, c1, d0, d1⟩
      replace HP := Lib.hid (And.intro (HP.out.1.kept (grown_drew (grown_refl _ none))).here (And.intro (HP.out.2.1.kept (grown_drew (grown_refl _ none))).here (And.intro HP.out.2.2.1 (grown_trans HP.out.2.2.2 (grown_drew (grown_refl _ none))))))
      replace HC := Lib.hid (And.intro (HC.out.1.kept (grown_drew (grown_refl _ none))) (HC.out.2.kept (grown_drew (grown_refl _ none))))
      refine held_yes (i := 0) (d := some 17) (v := ?_) rfl rfl (by kernel_rfl) (by kernel_rfl) (by kernel_rfl) (fun _ _ _ h => h) (by rfl) ?_ (by assumption) ?_
      rotate_left
      · (intro w hSw; (try dsimp only at hSw); go_simp; (first | done | with_reducible rfl))
      try simp only [Act.put, List.setIfInBounds_toArray, List.set_cons_zero, List.set_cons_succ]
      refine held_yes (i := 1) (d := some 18) (v := ?_) rfl rfl (by kernel_rfl) (by kernel_rfl) (by kernel_rfl) (fun _ _ _ h => h) (by rfl) ?_ (by assumption) ?_
      rotate_left
      · (intro w hSw; (try dsimp only at hSw); go_simp; (first | done | with_reducible rfl))
      try simp only [Act.put, List.setIfInBounds_toArray, List.set_cons_zero, List.set_cons_succ]
      refine held_yes (i := 2) (d := some 19) (v := ?_) rfl rfl (by kernel_rfl) (by kernel_rfl) (by kernel_rfl) (fun _ _ _ h => h) (by rfl) ?_ (by assumption) ?_
      rotate_left
      · (intro w hSw; (try dsimp only at hSw); go_simp; (first | done | with_reducible rfl))
      try simp only [Act.put, List.setIfInBounds_toArray, List.set_cons_zero, List.set_cons_succ]
      refine held_yes (i := 3) (d := some 20) (v := ?_) rfl rfl (by kernel_rfl) (by kernel_rfl) (by kernel_rfl) (fun _ _ _ h => h) (by rfl) ?_ (by assumption) ?_
      rotate_left
      · (intro w hSw; (try dsimp only at hSw); go_simp; (first | done | with_reducible rfl))
      try simp only [Act.put, List.setIfInBounds_toArray, List.set_cons_zero, List.set_cons_succ]
      refine held_yes (i := 4) (d := some 21) (v := ?_) rfl rfl (by kernel_rfl) (by kernel_rfl) (by kernel_rfl) (fun _ _ _ h => h) (by rfl) ?_ (by assumption) ?_
      rotate_left
      · (intro w hSw; (try dsimp only at hSw); go_simp; (first | done | with_reducible rfl))
      try simp only [Act.put, List.setIfInBounds_toArray, List.set_cons_zero, List.set_cons_succ]
      refine held_yes (i := 5) (d := some 22) (v := ?_) rfl rfl (by kernel_rfl) (by kernel_rfl) (by kernel_rfl) (fun _ _ _ h => h) (by rfl) ?_ (by assumption) ?_
      rotate_left
      · (intro w hSw; (try dsimp only at hSw); go_simp; (first | done | with_reducible rfl))
      try simp only [Act.put, List.setIfInBounds_toArray, List.set_cons_zero, List.set_cons_succ]
      refine held_yes (i := 6) (d := some 23) (v := ?_) rfl rfl (by kernel_rfl) (by kernel_rfl) (by kernel_rfl) (fun _ _ _ h => h) (by rfl) ?_ (by assumption) ?_
      rotate_left
      · (intro w hSw; (try dsimp only at hSw); go_simp; (first | done | with_reducible rfl))
      try simp only [Act.put, List.setIfInBounds_toArray, List.set_cons_zero, List.set_cons_succ]
      refine held_yes (i := 7) (d := some 24) (v := ?_) rfl rfl (by kernel_rfl) (by kernel_rfl) (by kernel_rfl) (fun _ _ _ h => h) (by rfl) ?_ (by assumption) ?_
      rotate_left
      · (intro w hSw; (try dsimp only at hSw); go_simp; (first | done | with_reducible rfl))
      try simp only [Act.put, List.setIfInBounds_toArray, List.set_cons_zero, List.set_cons_succ]
      refine wpAnyH_ready (rs := [8]) (by kernel_rfl) (by simp) ?_
      refine AllReadyH.cons rfl (fun K hK => ?_) AllReadyH.nil
      go_simp
      go_at_call 84
      refine (eqBlock_same _ _ _ _ _ _ _ _ rfl HP.out.1.here HP.out.2.1.here HP.out.2.2.1).mono ?_
      rintro e w1 ⟨rfl, hk1⟩
      replace HP := Lib.hid (And.intro (HP.out.1.kept hk1).here (And.intro (HP.out.2.1.kept hk1).here (And.intro HP.out.2.2.1 (grown_trans HP.out.2.2.2 hk1))))
      replace HC := Lib.hid (And.intro (HC.out.1.kept hk1) (HC.out.2.kept hk1))
      clear hk1 c0 c1 d0 d1
      obtain ⟨c0, c1⟩ := HC.out.1
      obtain ⟨d0, d1⟩ := HC.out.2
      refine hK.out _ _ ?_ (fun hHeld => ?_)
      · exact ⟨c0, c1, d0, d1⟩
      clear hK K
      try simp only [Act.put, List.setIfInBounds_toArray, List.set_cons_zero, List.set_cons_succ]
      refine held_yes (i := 9) (d := some 26) (v := ?_) rfl rfl (by kernel_rfl) (by kernel_rfl) (by kernel_rfl) (fun _ _ _ h => h) (by rfl) ?_ (by assumption) ?_
      rotate_left
      · (intro w hSw; (try dsimp only at hSw); go_simp; (first | done | with_reducible rfl))
      try simp only [Act.put, List.setIfInBounds_toArray, List.set_cons_zero, List.set_cons_succ]
      refine wpAnyH_done (by kernel_rfl) ?_ _
      go_wp2
      go_roundw
      case rel => exact ⟨k + 1, by omega, by go_num, HP.out.2.2.2⟩
      case measure => simp [intOf]; omega
    · have HG := Lib.hid hg
      clear hg
      go_wp2
      go_ret
      exact ⟨rfl, HG.out⟩
end Go.Proofs.Ytfiajbkmklcaiaa
namespace Go.Proofs.Ytfiajbkmklcaiaa
open Go.ChangeShapes Go.WideShapes Go.ChangeAt Go.RowKit

/-- A block that is not laid yet. -/
def bz : Bk := ⟨0, none, 0, []⟩
theorem bv_zero (n : Nat) : bv (List.replicate n bz) = (List.replicate n [Value.int .i64 0, .slice none 0 0]).flatten := by
  induction n with
  | zero => rfl
  | succ n ih => simp only [List.replicate_succ, bv, ih, List.flatten_cons]; rfl
theorem bv_made (n : Nat) : (madeCells #[.int .i64 0, .slice none 0 0] (n * 2)).toList = bv (List.replicate n bz) := by
  apply List.ext_getElem?
  intro j
  by_cases hj : j < n * 2
  · have hi : (List.replicate n bz)[j / 2]? = some bz := by rw [List.getElem?_replicate]; simp; omega
    obtain ⟨h0, h1⟩ := bv_at _ _ _ hi
    have hm : j % 2 < 2 := Nat.mod_lt _ (by omega)
    have hd : j / 2 * 2 + j % 2 = j := by omega
    have hL : (madeCells #[.int .i64 0, .slice none 0 0] (n * 2)).toList[j]? = (#[Value.int .i64 0, .slice none 0 0] : Array Value)[j % 2]? := by
      simp only [madeCells, Array.toList_map, Array.toList_range, List.getElem?_map]
      rw [List.getElem?_range hj]
      have hs : (#[Value.int .i64 0, .slice none 0 0] : Array Value).size = 2 := rfl
      rw [hs, Option.map_some]
      revert hm
      generalize j % 2 = r
      intro hm
      match r, hm with
      | 0, _ => rfl
      | 1, _ => rfl
    rw [hL]
    match hr : j % 2, hm with
    | 0, _ => rw [hr] at hd; rw [← hd, Nat.add_zero, h0]; simp [bz]
    | 1, _ => rw [hr] at hd; rw [← hd, h1]; simp [bz, Bk.row]
  · rw [List.getElem?_eq_none (by simp [madeCells]; omega), List.getElem?_eq_none (by rw [bv_length]; simp; omega)]
theorem dev_made (w : World) (base n : Nat) (hb : base ≤ w.heap.size) (hn : n ≤ maxLen) :
    DOwn (w.alloc (.cells (madeCells #[.int .i64 0, .slice none 0 0] (n * 2)) 96)) base (.slice (some ⟨w.heap.size, 0, none⟩) n n) (List.replicate n bz) := by
  refine ⟨?_, fun b hm => ?_, fun i j b b' a a' _ hi _ ha => ?_⟩
  · have h := World.ownsRow_lit (e := 96) (size := 2) w (madeCells #[.int .i64 0, .slice none 0 0] (n * 2)) n hb hn (by simp [madeCells])
    rw [bv_made] at h
    simpa using h
  · rw [List.eq_of_mem_replicate hm]
    exact World.ownsRow_nil _ _ _ _
  · rw [List.eq_of_mem_replicate (List.mem_of_getElem? hi)] at ha
    cases ha
theorem make_blocks (w : World) (n : Nat) (hn : n ≤ 1048576) :
    (Instr.makeSlice 31 (.int .i64 (n : Int)) (.int .i64 (n : Int))).run Try.prog w =
      .ok (.slice (some ⟨w.heap.size, 0, none⟩) n n) (w.alloc (.cells (madeCells #[.int .i64 0, .slice none 0 0] (n * 2)) 96)) := by
  obtain ⟨i, hi, hz, hs, hb⟩ := info_parts block_info
  have hr := run_make (P := Try.prog) w 31 96 i _ Try.underlying31 hi hz .i64 .i64 n n (by omega) (by omega) (by rw [hb]; omega) (by omega)
  simp only [Int.toNat_natCast, hs] at hr
  exact hr
theorem to_step {bs cs : List Bk} {n k : Nat} {m : Int} {Ab A1 : Option Addr} {cb d1 : Nat} {ps : List Pg} (hl : cs.length = n) (hk : k < n) (hcs : (cs.take k).map Bk.is = (bs.take k).map Bk.is) (hcz : ∀ (j : Nat) (b : Bk), k ≤ j → cs[j]? = some b → b = bz) (hb : bs[k]? = some ⟨m, Ab, cb, ps⟩) :
    (cs.set k ⟨m, A1, d1, ps⟩).length = n ∧ ((cs.set k ⟨m, A1, d1, ps⟩).take (k + 1)).map Bk.is = (bs.take (k + 1)).map Bk.is ∧ ∀ (j : Nat) (b : Bk), k + 1 ≤ j → (cs.set k ⟨m, A1, d1, ps⟩)[j]? = some b → b = bz := by
  refine ⟨by simpa using hl, ?_, fun j b hj h => ?_⟩
  · rw [List.take_add_one, List.take_add_one, List.take_set_of_le (Nat.le_refl _), List.getElem?_set_self (by omega), hb, List.map_append, List.map_append, hcs]
    rfl
  · rw [List.getElem?_set_ne (by omega)] at h
    exact hcz j b (by omega) h
/-- The loop that takes blocks over, at block k. -/
def ToRel (w : World) (bs : List Bk) (n k : Nat) (wr : World) : Prop :=
  k ≤ n ∧ w.grownBy wr none ∧ ∃ cs : List Bk, cs.length = n ∧ (cs.take k).map Bk.is = (bs.take k).map Bk.is ∧ (∀ (j : Nat) (b : Bk), k ≤ j → cs[j]? = some b → b = bz) ∧ DOwn wr w.heap.size (.slice (some ⟨w.heap.size, 0, none⟩) n n) cs
theorem toBlockS_any (A : Option Addr) (n c : Nat) (bs : List Bk) (w : World) (hl : bs.length = n) (hr : DRow w w.heap.size A bs) (hn : n ≤ 1048576) (hp : ∀ b, b ∈ bs → b.ps.length ≤ 1048576) :
    Calls Try.prog 48 #[.slice A n c] w (DevMade bs n w) := by
  have HR := Lib.hid (And.intro hl (And.intro hr hp))
  have hmk := fun W => make_blocks W n hn
  have HO := Lib.hid (dev_made w w.heap.size n (Nat.le_refl _) (by simp only [maxLen]; omega))
  clear hl hr hp
  go_enter Try.func48, Try.ntmps48
  go_wp2
  clear hmk
  go_loopw [4] (fun i wr => ∃ k : Nat, i = .int .i64 k ∧ ToRel w bs n k wr) (fun i _ => n - (intOf i).toNat)
  case atStart => exact ⟨0, rfl, Nat.zero_le _, grown_alloc (grown_refl _ _) _, List.replicate n bz, by simp, rfl, fun j b _ hj => List.eq_of_mem_replicate (List.mem_of_getElem? hj), HO.out⟩
  case round =>
    obtain ⟨k, rfl, hk, hg, cs, hcl, hcs, hcz, ho⟩ := hrel
    clear HO
    by_cases hlt : k < n
    · obtain ⟨g, off, m, Ab, cb, ps, rfl, _, hgw, hb, c0, c1, hrow⟩ := (HR.out.2.1.kept hg).at_ (show k < bs.length by have := HR.out.1; omega)
      have HX := Lib.hid (And.intro hg (And.intro ho (And.intro hb (And.intro hrow (And.intro (HR.out.2.2 _ (List.mem_of_getElem? hb)) (And.intro hcs (And.intro hcl hcz)))))))
      clear hb hg ho hrow hcs hcl hcz
      go_wp2_with fail
      refine (toBlock_any _ _ _ _ _ _ rfl HX.out.2.2.2.1.here HX.out.2.2.2.2.1).mono ?_
      rintro e w1 ⟨A1, d1, rfl, _, ho1, hk1⟩
      have hD := HX.out.2.1.keep hk1
      obtain ⟨q, hq⟩ : ∃ q, cs[k]? = some q := ⟨_, List.getElem?_eq_getElem (by have := HX.out.2.2.2.2.2.2.1; omega)⟩
      obtain ⟨x0, x1⟩ := hD.at_ HX.out.2.2.2.2.2.2.1 hq
      have f0 := hD.frozen HX.out.2.2.2.2.2.2.1 (k * 2)
      have f1 := hD.frozen HX.out.2.2.2.2.2.2.1 (k * 2 + 1)
      have hP := hD.put HX.out.2.2.2.2.2.2.1 k ⟨m, A1, d1, ps⟩ (ho1.base_le HX.out.1.size) (fun j b' a a' hj hb' ha ha' => by
        have h1 := (World.ownsRow.lt ho1 a.block (by show (Value.slice A1 _ _).ownBlock = _; rw [show A1 = some a from ha]; rfl)).1
        have h2 := (World.ownsRow.lt (HX.out.2.1.2.1 b' (List.mem_of_getElem? hb')) a'.block (by simp [Bk.row, ha', Value.ownBlock])).2
        omega)
      have HY := Lib.hid (And.intro hP (grown_trans HX.out.1 hk1))
      clear hD hq hP ho1 hk1 c0 c1
      go_wp2
      go_roundw
      case rel => exact ⟨k + 1, by go_num, by omega, grown_put (grown_put HY.out.2 (Nat.le_refl _) _) (Nat.le_refl _) _, _, (to_step HX.out.2.2.2.2.2.2.1 hlt HX.out.2.2.2.2.2.1 HX.out.2.2.2.2.2.2.2 HX.out.2.2.1).1, (to_step HX.out.2.2.2.2.2.2.1 hlt HX.out.2.2.2.2.2.1 HX.out.2.2.2.2.2.2.2 HX.out.2.2.1).2.1, (to_step HX.out.2.2.2.2.2.2.1 hlt HX.out.2.2.2.2.2.1 HX.out.2.2.2.2.2.2.2 HX.out.2.2.1).2.2, HY.out.1⟩
      case measure => simp [intOf]; omega
    · obtain rfl : k = n := by omega
      have HX := Lib.hid (And.intro hg (And.intro ho (And.intro hcs hcl)))
      clear hg ho hcs hcl hcz
      go_wp2
      go_ret
      exact ⟨_, _, cs, rfl, HX.out.2.2.2, by have h := HX.out.2.2.1; rw [List.take_of_length_le (by have := HX.out.2.2.2; omega), List.take_of_length_le (by have := HR.out.1; omega)] at h; exact h, HX.out.2.1, HX.out.1⟩
end Go.Proofs.Ytfiajbkmklcaiaa
