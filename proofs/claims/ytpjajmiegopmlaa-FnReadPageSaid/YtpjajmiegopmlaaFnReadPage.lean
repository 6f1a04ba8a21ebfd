/- For every code, ReadPage answers of the drawn device and number as its model: the page of its block, told to be written exactly if it is; else the zero value and false: proved.
   Conditions: none beyond the row's own reading of the input. The frame was written by the guide's proof-skeleton; the walk is ours. -/
import Derived.Test.YtpjajmiegopmlaaDrawDev4
import Derived.Test.YtpjajmiegopmlaaHand
import Derived.Test.YtpjajmiegopmlaaRows
import Derived.WalkKit
import Derived.ProofKit
import Derived.OpenShut
import Derived.ShutString
import Derived.ChangeOld
import Derived.Below
namespace Go.Proofs.Ytpjajmiegopmlaa.fnReadPage
open Go.ChangeShapes Go.WideShapes Go.ChangeAt Go.RowKit
open Go.ChangeMaps (open_string shut_string)
set_option linter.unusedVariables false
set_option linter.unusedSimpArgs false

theorem own : ownKnob Try.prog.godebug = none := by kernel_rfl
theorem laidOut : laidOutB Try.prog = true := by kernel_rfl

/-- WHAT THE WALK IS TOLD OF A SLICE OF INTEGERS THAT CAME IN: it is nil; or it leads to a row of 'cap' cells, the numbers 'zs' (the first 'len' are its elements, the rest its spare room), each fitting its kind. -/
def IsRow (k : IntKind) (w : World) (a : Option Addr) (len cap : Nat) (zs : List Int) : Prop :=
  (a = none ∧ len = 0 ∧ cap = 0 ∧ zs = []) ∨
  ∃ x, a = some x ∧ len ≤ cap ∧ cap ≤ maxLen ∧ zs.length = cap ∧ (∀ i, i < zs.length → w.cell? (x.add i) = some (.int k (zs.getD i 0))) ∧ ∀ n ∈ zs, (Lit.int k n).wf = true

/-! ### STEP 1: THE WALK: the Go text returns true, AND WRITES NOTHING THAT WAS THERE: 'Below w.heap.size w w'' (Derived/Below.lean: '.refl', '.alloc', '.drew', '.setCell' at a new block, '.trans'). Open each 'IsRow' by 'rcases' AHEAD of 'go_enter'; part every test ahead of the walk. -/
set_option maxHeartbeats 3000000 in
theorem walk (a0 : Option Addr) (len0 cap0 : Nat) (z0 : List Int) (w : World) (w0 : IsRow .u8 w a0 len0 cap0 z0) :
    Calls Try.prog 3 #[.slice a0 len0 cap0] w fun e w' => e = .returned (.bool true) ∧ Below w.heap.size w w' := by
  obtain ⟨hl, hc, hb⟩ := bytes_of w0
  by_cases hbig : 1048576 < len0
  · go_enter Try.func3, Try.ntmps3
    go_wp2
    go_ret
    exact ⟨rfl, Below.refl _ _⟩
  · go_enter Try.func3, Try.ntmps3
    go_wp2_with fail
    refine (drawReadPage_any w a0 len0 cap0 hl hc hb).mono ?_
    rintro e wa ⟨A, n, c, bs, a, rfl, hln, h13, hsm, hrow, hbl⟩
    have HS : RowKit.Hid (LD w A bs wa) := Lib.hid ⟨hrow, hbl⟩
    have HL := Lib.hid (And.intro hln (fun (q : Bk) (hq : q ∈ bs) => show q.ps.length ≤ 1048576 by have := hsm q hq; omega))
    clear hb w0 hrow hbl hln hsm
    cases hd : devB bs
    · have HV := Lib.hid hd
      clear hd
      go_wp2_with fail
      refine (readPage_no _ _ _ _ _ _ HL.out.1 HS.out.1 (by omega) HL.out.2 HV.out).mono ?_
      rintro e w1 ⟨he, hk⟩
      dsimp only [pz] at he
      subst he
      replace HS := Lib.hid (HS.out.keep hk)
      clear hk
      have hn := Blk.new w1 27 #[.bool false, .int .i64 0, .int .i64 0, .int .i64 0, .int .i64 0]
      replace HS := Lib.hid (HS.out.keep (grown_alloc (grown_refl _ none) (.cells #[.bool false, .int .i64 0, .int .i64 0, .int .i64 0, .int .i64 0] 27)))
      have HA := Lib.hid hn
      clear hn
      go_wp2_with fail
      refine (specReadPage_no _ _ _ _ _ _ HL.out.1 HS.out.1 (by omega) HL.out.2 HV.out).mono ?_
      rintro e w2 ⟨he, hk⟩
      dsimp only [pz] at he
      subst he
      replace HS := Lib.hid (HS.out.keep hk)
      replace HA := Lib.hid (HA.out.keep hk)
      clear hk
      have hn := Blk.new w2 27 #[.bool false, .int .i64 0, .int .i64 0, .int .i64 0, .int .i64 0]
      replace HS := Lib.hid (HS.out.keep (grown_alloc (grown_refl _ none) (.cells #[.bool false, .int .i64 0, .int .i64 0, .int .i64 0, .int .i64 0] 27)))
      replace HA := Lib.hid (HA.out.keep (grown_alloc (grown_refl _ none) (.cells #[.bool false, .int .i64 0, .int .i64 0, .int .i64 0, .int .i64 0] 27)))
      have HB := Lib.hid hn
      clear hn
      obtain ⟨p0, p1, p2, p3, p4⟩ := cells5 HA.out
      obtain ⟨q0, q1, q2, q3, q4⟩ := cells5 HB.out
      go_wp2_with fail
      clear p0 p1 p2 p3 p4
      clear q0 q1 q2 q3 q4
      refine (deviceValid_val HL.out.1 HV.out _ HS.out.1 (by omega) HL.out.2).mono ?_
      rintro e w3 ⟨rfl, hk⟩
      replace HS := Lib.hid (HS.out.keep hk)
      replace HA := Lib.hid (HA.out.keep hk)
      replace HB := Lib.hid (HB.out.keep hk)
      clear hk
      obtain ⟨p0, p1, p2, p3, p4⟩ := cells5 HA.out
      go_wp2_with (go_at_call 19; refine (alive_any _).mono ?_; rintro e w' ⟨rfl, rfl⟩)
      go_ret
      exact ⟨rfl, HS.out.2⟩
    · have HV := Lib.hid hd
      clear hd
      cases ha : hasP n a
      · have hcase : (a < 0) ∨ (0 ≤ a ∧ 4 * (n : Int) ≤ a) := by simp [hasP] at ha; omega
        have HA0 := Lib.hid (And.intro ha (hasP_no ha))
        clear ha
        go_wp2_with fail
        refine (readPage_out _ _ _ _ _ _ HL.out.1 HS.out.1 (by omega) HL.out.2 HV.out HA0.out.1).mono ?_
        rintro e w1 ⟨he, hk⟩
        dsimp only [pz] at he
        subst he
        replace HS := Lib.hid (HS.out.keep hk)
        clear hk
        have hn := Blk.new w1 27 #[.bool false, .int .i64 0, .int .i64 0, .int .i64 0, .int .i64 0]
        replace HS := Lib.hid (HS.out.keep (grown_alloc (grown_refl _ none) (.cells #[.bool false, .int .i64 0, .int .i64 0, .int .i64 0, .int .i64 0] 27)))
        have HA := Lib.hid hn
        clear hn
        go_wp2_with fail
        refine (specReadPage_out _ _ _ _ _ _ HL.out.1 HS.out.1 (by omega) HL.out.2 HV.out HA0.out.2).mono ?_
        rintro e w2 ⟨he, hk⟩
        dsimp only [pz] at he
        subst he
        replace HS := Lib.hid (HS.out.keep hk)
        replace HA := Lib.hid (HA.out.keep hk)
        clear hk
        have hn := Blk.new w2 27 #[.bool false, .int .i64 0, .int .i64 0, .int .i64 0, .int .i64 0]
        replace HS := Lib.hid (HS.out.keep (grown_alloc (grown_refl _ none) (.cells #[.bool false, .int .i64 0, .int .i64 0, .int .i64 0, .int .i64 0] 27)))
        replace HA := Lib.hid (HA.out.keep (grown_alloc (grown_refl _ none) (.cells #[.bool false, .int .i64 0, .int .i64 0, .int .i64 0, .int .i64 0] 27)))
        have HB := Lib.hid hn
        clear hn
        obtain ⟨p0, p1, p2, p3, p4⟩ := cells5 HA.out
        obtain ⟨q0, q1, q2, q3, q4⟩ := cells5 HB.out
        go_wp2_with fail
        clear p0 p1 p2 p3 p4
        clear q0 q1 q2 q3 q4
        refine (deviceValid_val HL.out.1 HV.out _ HS.out.1 (by omega) HL.out.2).mono ?_
        rintro e w3 ⟨rfl, hk⟩
        replace HS := Lib.hid (HS.out.keep hk)
        replace HA := Lib.hid (HA.out.keep hk)
        replace HB := Lib.hid (HB.out.keep hk)
        clear hk
        obtain ⟨p0, p1, p2, p3, p4⟩ := cells5 HA.out
        rcases hcase with h0 | ⟨h0, h1⟩
        · have t0 : decide (a < 0) = true := decide_eq_true h0
          go_wp2_with (go_at_call 19; refine (alive_any _).mono ?_; rintro e w' ⟨rfl, rfl⟩)
          go_ret
          exact ⟨rfl, HS.out.2⟩
        · have t0 : decide (a < 0) = false := decide_eq_false (by omega)
          go_wp2_with (go_at_call 19; refine (alive_any _).mono ?_; rintro e w' ⟨rfl, rfl⟩)
          go_ret
          exact ⟨rfl, HS.out.2⟩
      · obtain ⟨k, rfl⟩ : ∃ k : Nat, a = (k : Int) := ⟨a.toNat, by simp [hasP] at ha; omega⟩
        obtain ⟨_, hall⟩ := dev_parts HV.out
        have hall4 : ∀ b, b ∈ bs → b.ps.length = 4 := fun b hm => (block_parts (hall b hm)).2.1
        have hkn : k < 4 * n := by simp [hasP] at ha; omega
        obtain ⟨⟨f, x1, x2, x3, x4⟩, hp⟩ := page_some hall4 (a := k) (by have := HL.out.1; omega)
        have hi0 : (k : Int) < 4 * (n : Int) := by omega
        have HX := Lib.hid (And.intro hp hall4)
        clear hp hall hall4 ha
        go_wp2_with fail
        refine (readPage_at _ _ _ _ _ _ _ HL.out.1 HS.out.1 HV.out HX.out.1).mono ?_
        rintro e w1 ⟨he, hk⟩
        dsimp only [pz] at he
        subst he
        replace HS := Lib.hid (HS.out.keep hk)
        clear hk
        have hn := Blk.new w1 27 #[.bool f, .int .i64 x1, .int .i64 x2, .int .i64 x3, .int .i64 x4]
        replace HS := Lib.hid (HS.out.keep (grown_alloc (grown_refl _ none) (.cells #[.bool f, .int .i64 x1, .int .i64 x2, .int .i64 x3, .int .i64 x4] 27)))
        have HA := Lib.hid hn
        clear hn
        go_wp2_with fail
        refine (specReadPage_at _ _ _ _ _ _ _ HL.out.1 HS.out.1 HV.out HX.out.1).mono ?_
        rintro e w2 ⟨he, hk⟩
        dsimp only [pz] at he
        subst he
        replace HS := Lib.hid (HS.out.keep hk)
        replace HA := Lib.hid (HA.out.keep hk)
        clear hk
        have hn := Blk.new w2 27 #[.bool f, .int .i64 x1, .int .i64 x2, .int .i64 x3, .int .i64 x4]
        replace HS := Lib.hid (HS.out.keep (grown_alloc (grown_refl _ none) (.cells #[.bool f, .int .i64 x1, .int .i64 x2, .int .i64 x3, .int .i64 x4] 27)))
        replace HA := Lib.hid (HA.out.keep (grown_alloc (grown_refl _ none) (.cells #[.bool f, .int .i64 x1, .int .i64 x2, .int .i64 x3, .int .i64 x4] 27)))
        have HB := Lib.hid hn
        clear hn
        obtain ⟨p0, p1, p2, p3, p4⟩ := cells5 HA.out
        obtain ⟨q0, q1, q2, q3, q4⟩ := cells5 HB.out
        go_wp2_with fail
        clear p0 p1 p2 p3 p4
        clear q0 q1 q2 q3 q4
        refine (deviceValid_val HL.out.1 HV.out _ HS.out.1 (by omega) HL.out.2).mono ?_
        rintro e w3 ⟨rfl, hk⟩
        replace HS := Lib.hid (HS.out.keep hk)
        replace HA := Lib.hid (HA.out.keep hk)
        replace HB := Lib.hid (HB.out.keep hk)
        clear hk
        obtain ⟨p0, p1, p2, p3, p4⟩ := cells5 HA.out
        clear p0 p1 p2 p3 p4
        obtain ⟨k4, hk4⟩ : ∃ k4, k4 = k / 4 := ⟨_, rfl⟩
        obtain ⟨j4, hj4⟩ : ∃ j4, j4 = k % 4 := ⟨_, rfl⟩
        have hk4n : k4 < bs.length := by have := HL.out.1; omega
        obtain ⟨g, off, m, Ab, cb, ps, rfl, _, _, hbk, c0, c1, hpr⟩ := HS.out.1.at_ hk4n
        have hp4 : ps.length = 4 := HX.out.2 _ (List.mem_of_getElem? hbk)
        obtain ⟨g2, off2, e9, _, _, hp5⟩ := hpr (by omega)
        have hpj : ps[j4]? = some ⟨f, x1, x2, x3, x4⟩ := by
          have := HX.out.1
          unfold pageAt at this
          rw [← hk4, hbk, ← hj4] at this
          exact this
        obtain ⟨d0, d1, d2, d3, d4⟩ := hp5 _ _ hpj
        subst e9
        rw [hp4] at c1
        have e1 : (k : Int) / 4 = (k4 : Int) := by omega
        have e2 : (k : Int) % 4 = (j4 : Int) := by omega
        have e3 : (k : Int).tmod 4 = (j4 : Int) := by rw [Int.tmod_eq_emod_of_nonneg (by omega)]; exact e2
        have k3 : (k4 : Int) < n := by have := HL.out.1; omega
        have j3 : (j4 : Int) < 4 := by omega
        have iw4 : IntKind.i64.wrap (k4 : Int) = (k4 : Int) := IntWalk.i64_in _ ⟨by omega, by omega⟩
        have iw5 : IntKind.i64.wrap (j4 : Int) = (j4 : Int) := IntWalk.i64_in _ ⟨by omega, by omega⟩
        clear hbk hpr hp5 hpj hk4 hj4 c0
        obtain ⟨p0, p1, p2, p3, p4⟩ := cells5 HA.out
        go_wp2_with fail
        refine wp_region_held_drew (S := (fun w' => w'.cell? ⟨w1.heap.size, 0, none⟩ = some (.bool f) ∧ w'.cell? ⟨w1.heap.size, 1, none⟩ = some (.int .i64 x1) ∧ w'.cell? ⟨w1.heap.size, 2, none⟩ = some (.int .i64 x2) ∧ w'.cell? ⟨w1.heap.size, 3, none⟩ = some (.int .i64 x3) ∧ w'.cell? ⟨w1.heap.size, 4, none⟩ = some (.int .i64 x4) ∧ w'.cell? ⟨g, off + k4 * 2 + 1, none⟩ = some (.slice (some ⟨g2, off2, none⟩) 4 cb) ∧ w'.cell? ⟨g2, off2 + j4 * 5, none⟩ = some (.bool f) ∧ w'.cell? ⟨g2, off2 + j4 * 5 + 1, none⟩ = some (.int .i64 x1) ∧ w'.cell? ⟨g2, off2 + j4 * 5 + 2, none⟩ = some (.int .i64 x2) ∧ w'.cell? ⟨g2, off2 + j4 * 5 + 3, none⟩ = some (.int .i64 x3) ∧ w'.cell? ⟨g2, off2 + j4 * 5 + 4, none⟩ = some (.int .i64 x4))) (by kernel_rfl) ?_ (fun hHeld => ?_)
        · exact ⟨p0, p1, p2, p3, p4, c1, d0, d1, d2, d3, d4⟩
        refine held_yes (i := 0) (d := some 61) (v := ?_) rfl rfl (by kernel_rfl) (by kernel_rfl) (by kernel_rfl) (fun _ _ _ h => h) (by rfl) ?_ (by assumption) ?_
        rotate_left
        · (intro w hSw; (try dsimp only at hSw); go_simp; (first | done | with_reducible rfl))
        try simp only [Act.put, List.setIfInBounds_toArray, List.set_cons_zero, List.set_cons_succ]
        refine held_yes (i := 1) (d := some 62) (v := ?_) rfl rfl (by kernel_rfl) (by kernel_rfl) (by kernel_rfl) (fun _ _ _ h => h) (by rfl) ?_ (by assumption) ?_
        rotate_left
        · (intro w hSw; (try dsimp only at hSw); go_simp; (first | done | with_reducible rfl))
        try simp only [Act.put, List.setIfInBounds_toArray, List.set_cons_zero, List.set_cons_succ]
        refine held_yes (i := 2) (d := some 63) (v := ?_) rfl rfl (by kernel_rfl) (by kernel_rfl) (by kernel_rfl) (fun _ _ _ h => h) (by rfl) ?_ (by assumption) ?_
        rotate_left
        · (intro w hSw; (try dsimp only at hSw); go_simp; (first | done | with_reducible rfl))
        try simp only [Act.put, List.setIfInBounds_toArray, List.set_cons_zero, List.set_cons_succ]
        refine held_yes (i := 3) (d := some 64) (v := ?_) rfl rfl (by kernel_rfl) (by kernel_rfl) (by kernel_rfl) (fun _ _ _ h => h) (by rfl) ?_ (by assumption) ?_
        rotate_left
        · (intro w hSw; (try dsimp only at hSw); go_simp; (first | done | with_reducible rfl))
        try simp only [Act.put, List.setIfInBounds_toArray, List.set_cons_zero, List.set_cons_succ]
        refine held_yes (i := 4) (d := some 65) (v := ?_) rfl rfl (by kernel_rfl) (by kernel_rfl) (by kernel_rfl) (fun _ _ _ h => h) (by rfl) ?_ (by assumption) ?_
        rotate_left
        · (intro w hSw; (try dsimp only at hSw); go_simp; (first | done | with_reducible rfl))
        try simp only [Act.put, List.setIfInBounds_toArray, List.set_cons_zero, List.set_cons_succ]
        refine held_yes (i := 5) (d := some 66) (v := ?_) rfl rfl (by kernel_rfl) (by kernel_rfl) (by kernel_rfl) (fun _ _ _ h => h) (by rfl) ?_ (by assumption) ?_
        rotate_left
        · (intro w hSw; (try dsimp only at hSw); go_simp; (first | done | with_reducible rfl))
        try simp only [Act.put, List.setIfInBounds_toArray, List.set_cons_zero, List.set_cons_succ]
        refine held_yes (i := 6) (d := some 67) (v := ?_) rfl rfl (by kernel_rfl) (by kernel_rfl) (by kernel_rfl) (fun _ _ _ h => h) (by rfl) ?_ (by assumption) ?_
        rotate_left
        · (intro w hSw; (try dsimp only at hSw); go_simp; (first | done | with_reducible rfl))
        try simp only [Act.put, List.setIfInBounds_toArray, List.set_cons_zero, List.set_cons_succ]
        refine held_yes (i := 7) (d := some 68) (v := ?_) rfl rfl (by kernel_rfl) (by kernel_rfl) (by kernel_rfl) (fun _ _ _ h => h) (by rfl) ?_ (by assumption) ?_
        rotate_left
        · (intro w hSw; (try dsimp only at hSw); go_simp; (first | done | with_reducible rfl))
        try simp only [Act.put, List.setIfInBounds_toArray, List.set_cons_zero, List.set_cons_succ]
        refine held_yes (i := 8) (d := some 69) (v := ?_) rfl rfl (by kernel_rfl) (by kernel_rfl) (by kernel_rfl) (fun _ _ _ h => h) (by rfl) ?_ (by assumption) ?_
        rotate_left
        · (intro w hSw; (try dsimp only at hSw); go_simp; (first | done | with_reducible rfl))
        try simp only [Act.put, List.setIfInBounds_toArray, List.set_cons_zero, List.set_cons_succ]
        refine held_yes (i := 9) (d := some 70) (v := ?_) rfl rfl (by kernel_rfl) (by kernel_rfl) (by kernel_rfl) (fun _ _ _ h => h) (by rfl) ?_ (by assumption) ?_
        rotate_left
        · (intro w hSw; (try dsimp only at hSw); go_simp; (first | done | with_reducible rfl))
        try simp only [Act.put, List.setIfInBounds_toArray, List.set_cons_zero, List.set_cons_succ]
        refine held_yes (i := 10) (d := some 71) (v := ?_) rfl rfl (by kernel_rfl) (by kernel_rfl) (by kernel_rfl) (fun _ _ _ h => h) (by rfl) ?_ (by assumption) ?_
        rotate_left
        · (intro w hSw; (try dsimp only at hSw); go_simp; (first | done | with_reducible rfl))
        try simp only [Act.put, List.setIfInBounds_toArray, List.set_cons_zero, List.set_cons_succ]
        refine held_yes (i := 11) (d := some 72) (v := ?_) rfl rfl (by kernel_rfl) (by kernel_rfl) (by kernel_rfl) (fun _ _ _ h => h) (by rfl) ?_ (by assumption) ?_
        rotate_left
        · (intro w hSw; (try dsimp only at hSw); go_simp; (first | done | with_reducible rfl))
        try simp only [Act.put, List.setIfInBounds_toArray, List.set_cons_zero, List.set_cons_succ]
        refine held_yes (i := 12) (d := some 73) (v := ?_) rfl rfl (by kernel_rfl) (by kernel_rfl) (by kernel_rfl) (fun _ _ _ h => h) (by rfl) ?_ (by assumption) ?_
        rotate_left
        · (intro w hSw; (try dsimp only at hSw); go_simp; (first | done | with_reducible rfl))
        try simp only [Act.put, List.setIfInBounds_toArray, List.set_cons_zero, List.set_cons_succ]
        refine held_yes (i := 13) (d := some 74) (v := ?_) rfl rfl (by kernel_rfl) (by kernel_rfl) (by kernel_rfl) (fun _ _ _ h => h) (by rfl) ?_ (by assumption) ?_
        rotate_left
        · (intro w hSw; (try dsimp only at hSw); go_simp; (first | done | with_reducible rfl))
        try simp only [Act.put, List.setIfInBounds_toArray, List.set_cons_zero, List.set_cons_succ]
        refine held_yes (i := 14) (d := some 75) (v := ?_) rfl rfl (by kernel_rfl) (by kernel_rfl) (by kernel_rfl) (fun _ _ _ h => h) (by rfl) ?_ (by assumption) ?_
        rotate_left
        · (intro w hSw; (try dsimp only at hSw); go_simp; (first | done | with_reducible rfl))
        try simp only [Act.put, List.setIfInBounds_toArray, List.set_cons_zero, List.set_cons_succ]
        refine held_yes (i := 15) (d := some 76) (v := ?_) rfl rfl (by kernel_rfl) (by kernel_rfl) (by kernel_rfl) (fun _ _ _ h => h) (by rfl) ?_ (by assumption) ?_
        rotate_left
        · (intro w hSw; (try dsimp only at hSw); go_simp; (first | done | with_reducible rfl))
        try simp only [Act.put, List.setIfInBounds_toArray, List.set_cons_zero, List.set_cons_succ]
        refine held_yes (i := 16) (d := some 77) (v := ?_) rfl rfl (by kernel_rfl) (by kernel_rfl) (by kernel_rfl) (fun _ _ _ h => h) (by rfl) ?_ (by assumption) ?_
        rotate_left
        · (intro w hSw; (try dsimp only at hSw); go_simp; (first | done | with_reducible rfl))
        try simp only [Act.put, List.setIfInBounds_toArray, List.set_cons_zero, List.set_cons_succ]
        refine held_yes (i := 17) (d := some 78) (v := ?_) rfl rfl (by kernel_rfl) (by kernel_rfl) (by kernel_rfl) (fun _ _ _ h => h) (by rfl) ?_ (by assumption) ?_
        rotate_left
        · (intro w hSw; (try dsimp only at hSw); go_simp; (first | done | with_reducible rfl))
        try simp only [Act.put, List.setIfInBounds_toArray, List.set_cons_zero, List.set_cons_succ]
        refine held_yes (i := 18) (d := some 2) (v := ?_) rfl rfl (by kernel_rfl) (by kernel_rfl) (by kernel_rfl) (fun _ _ _ h => h) (by rfl) ?_ (by assumption) ?_
        rotate_left
        · (intro w hSw; (try dsimp only at hSw); go_simp; (first | done | with_reducible rfl))
        try simp only [Act.put, List.setIfInBounds_toArray, List.set_cons_zero, List.set_cons_succ]
        refine wpAnyH_done (by kernel_rfl) ?_ _
        go_wp2
        go_ret
        exact ⟨rfl, (HS.out.keep (grown_drew (grown_refl _ none))).2⟩

/-! ### THE ROW's STEP: WRITTEN OUT: LEAVE IT -/
set_option maxRecDepth 100000 in
theorem lifted (os : Os) (started : os.Started) (H : Type) (enc : TypeId × Value → H) :
    ReturnsInHanded {} Try.checked os 3 .any (Rows.fnReadPageSpec.pre6 enc Try.prog Try.f3 Rows.fnReadPageRow.domain false) (Rows.fnReadPageSpec.post enc Try.prog Try.f3 false true false false) := by
  refine returnsInHanded_of_change (C := Try.checked) own started (by kernel_rfl) Try.func3
    (ChangeSpec.witness6 (enc := enc) (C := Try.checked) false ⟨#[], #[.slice none 0 0], []⟩ 8 (by kernel_rfl) (by kernel_rfl) (by kernel_rfl) (by kernel_rfl)) ?_
  intro W base args ds gs before hval0 hW hcnd _
  have hval : ∀ (j : Nat) t v, Try.f3.params[j]? = some t → args[j]? = some v → Value.okWide Try.prog W .any base t v := hval0
  have hW' := hW
  obtain ⟨p, q, hA0, hV, rfl, hfz, hnd⟩ := hW
  have hA : DataW.TrodAll enc Try.prog W 0 (fun _ => true) true Try.f3.params.toList args.toList ds p := hA0
  rw [Try.params3] at hA hval
  obtain ⟨v0, vs0, d0, ds0, p0, q0, hargs, rfl, rfl, h0, r0⟩ := trodAll_cons hA
  obtain ⟨rfl, rfl, rfl⟩ := trodAll_nil r0
  obtain rfl : args = #[v0] := by cases args; simp_all
  obtain ⟨rfl, rfl⟩ := trodVars_none hV
  obtain ⟨a0, len0, cap0, rfl⟩ := okWide_slice Try.underlying22 (hval 0 22 v0 rfl rfl)
  have k0 := h0
  have lt0 : ∀ x ∈ p0, x.block < W.heap.size := by obtain ⟨m, hm⟩ := k0; exact DataW.trod_lt m _ _ _ hm
  obtain ⟨z0, w0⟩ : ∃ zs, IsRow .u8 W a0 len0 cap0 zs := by
    obtain ⟨fuel, hf⟩ := h0
    rcases open_ints Try.underlying22 Try.underlying5 (by kernel_rfl) hf with ⟨hcs, _⟩ | ⟨x, l, c, zs, hcs, _, hl, hm, hz, _, hcell, hwz⟩
    · simp [Value.cells] at hcs
      obtain ⟨rfl, rfl, rfl⟩ := hcs
      exact ⟨[], .inl ⟨rfl, rfl, rfl, rfl⟩⟩
    · simp [Value.cells] at hcs
      obtain ⟨rfl, rfl, rfl⟩ := hcs
      exact ⟨zs, .inr ⟨_, rfl, hl, hm, by simpa using hz, hcell, hwz⟩⟩
  clear hA0 hval0
  refine (walk a0 len0 cap0 z0 W w0).mono fun e W' ⟨he, bel⟩ => ?_
  subst he
  exact ⟨_, rfl, _, _, _, [], _, [], hW', trodAll_mk1 (shut_bool Try.underlying4 _), (trodAll_cons_mk (Below.trod laidOut (by kernel_rfl) (of_decide_eq_true (by kernel_rfl)) k0 bel lt0) trodAll_mk0), rfl, bel.frame _, fun h => by cases h⟩

theorem over : Rows.fnReadPageRow.holds Try.pinned (OpenSpec.ofChange Rows.fnReadPageSpec) :=
  OpenClaim.holds_of_wide 3 Try.f3 rfl rfl rfl rfl rfl rfl rfl ⟨rfl, rfl, rfl, rfl, rfl⟩ rfl rfl rfl rfl rfl (by kernel_rfl) Try.func3 (by kernel_rfl)
    (of_decide_eq_true (by kernel_rfl)) (by unfold Func.isWrapper; first | (rw [if_pos (by decide +kernel)]; kernel_rfl) | (rw [if_neg (by decide +kernel)]; exact ⟨rfl, rfl⟩))
    (fun os started H enc _ => lifted os started H enc)

/-- ████ THE STATEMENT ████ -/
theorem proved : Rows.FnReadPageSaid := over
#print axioms proved
end Go.Proofs.Ytpjajmiegopmlaa.fnReadPage
