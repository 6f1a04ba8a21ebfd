/- What the model's functions of chapter 6 answer, further: FreshBlock. -/
import Derived.Test.YteniikfgellhfaaHeads1
namespace Go.Proofs.Yteniikfgellhfaa
open Go.ChangeShapes Go.WideShapes Go.ChangeAt Go.RowKit

/-- The wear of a block. -/
def wearAt (bs : List Bk) (i : Int) : Int := match bs[i.toNat]? with
  | some q => q.m
  | none => 0
/-- Block k is better than the best so far. -/
def freshOk (bs : List Bk) (a b h best : Int) (k : Nat) : Bool := match bs[k]? with
  | some q => (nextV q.m q.ps == 0) && !((k : Int) == a) && !((k : Int) == b) && !((k : Int) == h) && (decide (best < 0) || decide (q.m < wearAt bs best))
  | none => false
/-- The best of the first blocks. -/
def freshTo (bs : List Bk) (a b h : Int) : Nat → Int
  | 0 => -1
  | k + 1 => if freshOk bs a b h (freshTo bs a b h k) k then (k : Int) else freshTo bs a b h k
def freshV (bs : List Bk) (a b h : Int) : Int := freshTo bs a b h bs.length
theorem fresh_at {bs : List Bk} {a b h best : Int} {k : Nat} {m : Int} {A : Option Addr} {c : Nat} {ps : List Pg} (hk : bs[k]? = some ⟨m, A, c, ps⟩) :
    freshOk bs a b h best k = ((nextV m ps == 0) && !((k : Int) == a) && !((k : Int) == b) && !((k : Int) == h) && (decide (best < 0) || decide (m < wearAt bs best))) := by
  simp [freshOk, hk]
theorem fresh_yes {bs : List Bk} {a b h x : Int} {k : Nat} (hx : freshTo bs a b h k = x) (h1 : freshOk bs a b h x k = true) : freshTo bs a b h (k + 1) = (k : Int) := by
  simp only [freshTo, hx, h1, if_true]
theorem fresh_no {bs : List Bk} {a b h x : Int} {k : Nat} (hx : freshTo bs a b h k = x) (h1 : freshOk bs a b h x k = false) : freshTo bs a b h (k + 1) = x := by
  simp only [freshTo, hx, h1, Bool.false_eq_true, if_false]
/-- What is known of the best of the first blocks. -/
theorem fresh_facts (bs : List Bk) (a b h : Int) (k : Nat) : freshTo bs a b h k = -1 ∨ ∃ i : Nat, freshTo bs a b h k = (i : Int) ∧ i < k ∧ (i : Int) ≠ a ∧ (i : Int) ≠ b ∧ (i : Int) ≠ h ∧ ∃ q, bs[i]? = some q ∧ nextV q.m q.ps = 0 := by
  induction k with
  | zero => exact .inl rfl
  | succ k ih =>
    cases h1 : freshOk bs a b h (freshTo bs a b h k) k
    · rw [fresh_no rfl h1]
      rcases ih with h2 | ⟨i, h2, h3, h4⟩
      · exact .inl h2
      · exact .inr ⟨i, h2, by omega, h4⟩
    · rw [fresh_yes rfl h1]
      refine .inr ⟨k, rfl, by omega, ?_⟩
      cases hq : bs[k]? with
      | none => simp [freshOk, hq] at h1
      | some q =>
        simp only [freshOk, hq, Bool.and_eq_true, Bool.not_eq_true', beq_eq_false_iff_ne, beq_iff_eq] at h1
        exact ⟨h1.1.1.1.2, h1.1.1.2, h1.1.2, q, rfl, h1.1.1.1.1⟩
/-- The loop at block k. -/
def FreshSt (w : World) (A : Option Addr) (bs : List Bk) (a b h : Int) (k : Nat) (x : Int) (wr : World) : Prop := k ≤ bs.length ∧ freshTo bs a b h k = x ∧ FIn w A bs a b h wr
set_option maxHeartbeats 4000000 in
theorem specFresh_yes (A : Option Addr) (n c : Nat) (bs : List Bk) (a b h : Int) (w : World) (hv : (headsB n a b h && devB bs) = true) (hl : bs.length = n) (hr : DRow w w.heap.size A bs) (hn : n ≤ 1048576) (hp : ∀ b, b ∈ bs → b.ps.length ≤ 1048576) :
    Calls Try.prog 115 #[.slice A n c, .agg #[.int .i64 a, .int .i64 b, .int .i64 h]] w (KeptV (.int .i64 (freshV bs a b h)) w) := by
  have HD := Lib.hid (And.intro hv (And.intro hl hp))
  have HF := Lib.hid (FIn.start (a := a) (b := b) (h := h) hr)
  clear hv hr hp
  go_enter Try.func115, Try.ntmps115
  go_wp2
  go_loopw [5, 6] (fun v i wr => ∃ (k : Nat) (x : Int), i = .int .i64 k ∧ v = .int .i64 x ∧ FreshSt w A bs a b h k x wr) (fun _ i _ => n - (intOf i).toNat)
  case atStart => exact ⟨0, -1, rfl, rfl, Nat.zero_le _, rfl, HF.out⟩
  case round =>
    obtain ⟨k, x, rfl, rfl, hk, hx, hF⟩ := hrel
    clear HF
    have HF := Lib.hid hF
    clear hF
    obtain ⟨h0, h1, h2⟩ := cells3 HF.out.1
    by_cases hlt : k < n
    · have HX0 := Lib.hid hx
      clear hx
      go_wp2_with fail
      refine (specHeads_val HD.out.1 HD.out.2.1 HF.out.2.1.here hn HD.out.2.2).mono ?_
      rintro e w1 ⟨rfl, hk1⟩
      replace HF := Lib.hid (HF.out.keep hk1)
      clear hk1 h0 h1 h2
      obtain ⟨h0, h1, h2⟩ := cells3 HF.out.1
      obtain ⟨g, off, m, Ab, cb, ps, rfl, hgw, _, hb, c0, c1, hrow⟩ := HF.out.2.1.at_ (show k < bs.length by omega)
      have hpl := HD.out.2.2 _ (List.mem_of_getElem? hb)
      obtain ⟨r, hr0⟩ : ∃ r, nextV m ps = r := ⟨_, rfl⟩
      have hfr := fresh_at (a := a) (b := b) (h := h) (best := x) hb
      rw [hr0] at hfr
      have HR := Lib.hid (And.intro hr0 (And.intro hrow hpl))
      have HB := Lib.hid (show D2 w1 g (off + k * 2) ⟨m, Ab, cb, ps⟩ from ⟨c0, c1⟩)
      have k3 : (k : Int) < n := by omega
      clear hr0 hrow hpl
      cases t0 : (r == 0)
      · have hno : freshOk bs a b h x k = false := by rw [hfr]; simp [*]
        have HN := Lib.hid (fresh_no HX0.out hno)
        clear hno hfr
        (try clear t1)
        (try clear t2)
        (try clear t3)
        go_wp2_with fail
        refine wp_region_held_drew (S := (fun w' => w'.cell? ⟨g, off + k * 2, none⟩ = some (.int .i64 m) ∧ w'.cell? ⟨g, off + k * 2 + 1, none⟩ = some (.slice Ab ps.length cb) ∧ w'.cell? ⟨w.heap.size, 0, none⟩ = some (.int .i64 a) ∧ w'.cell? ⟨w.heap.size, 1, none⟩ = some (.int .i64 b) ∧ w'.cell? ⟨w.heap.size, 2, none⟩ = some (.int .i64 h))) (by kernel_rfl) ?_ (fun hHeld => ?_)
        · exact ⟨c0, c1, h0, h1, h2⟩
        refine heldY 0 18 ?_
        refine heldY 1 19 ?_
        refine heldY 2 20 ?_
        refine heldY 3 21 ?_
        refine wpAnyH_ready (rs := [4]) (by kernel_rfl) (by simp) ?_
        refine AllReadyH.cons rfl (fun K hK => ?_) AllReadyH.nil
        go_simp
        go_at_call 114; (refine (specNext_val rfl HR.out.1 _ HR.out.2.1.drew.here HR.out.2.2).mono ?_); rintro e w2 ⟨rfl, hk1⟩; replace hk1 := grown_trans (grown_drew (grown_refl w1 none)) hk1; replace HF := Lib.hid (HF.out.keep hk1); replace HB := Lib.hid (HB.out.kept hk1); clear hk1 c0 c1 h0 h1 h2; obtain ⟨h0, h1, h2⟩ := cells3 HF.out.1; obtain ⟨c0, c1⟩ := HB.out
        refine hK.out _ _ ?_ (fun hHeld => ?_)
        · exact ⟨c0, c1, h0, h1, h2⟩
        clear hK K
        try simp only [Act.put, List.setIfInBounds_toArray, List.set_cons_zero, List.set_cons_succ]
        refine heldY 5 23 ?_
        refine heldY 6 24 ?_
        refine heldN 7 25 ?_
        refine heldN 8 26 ?_
        refine heldN 9 27 ?_
        refine heldN 10 28 ?_
        refine heldY 11 29 ?_
        refine heldY 12 30 ?_
        refine heldN 13 31 ?_
        refine heldN 14 32 ?_
        refine heldN 15 33 ?_
        refine heldN 16 34 ?_
        refine heldY 17 35 ?_
        refine heldY 18 36 ?_
        refine heldN 19 37 ?_
        refine heldN 20 38 ?_
        refine heldN 21 39 ?_
        refine heldN 22 40 ?_
        refine heldY 23 41 ?_
        refine heldY 24 42 ?_
        refine heldN 25 43 ?_
        refine heldN 26 44 ?_
        refine heldN 27 45 ?_
        refine heldN 28 46 ?_
        refine heldN 29 47 ?_
        refine heldN 30 48 ?_
        refine heldN 31 49 ?_
        refine heldN 32 50 ?_
        refine heldN 33 51 ?_
        refine heldN 34 52 ?_
        refine heldN 35 53 ?_
        refine heldN 36 54 ?_
        refine heldN 37 55 ?_
        refine heldN 38 56 ?_
        refine heldN 39 57 ?_
        refine heldY 40 58 ?_
        refine wpAnyH_done (by kernel_rfl) ?_ _
        go_wp2
        go_roundw
        case rel => exact ⟨k + 1, x, by go_num, rfl, by omega, HN.out, HF.out⟩
        case measure => simp [intOf]; omega
      · cases t1 : ((k : Int) == a)
        · have e1 : ((k : Int) != a) = true := by show (!((k : Int) == a)) = _; rw [t1]; rfl
          cases t2 : ((k : Int) == b)
          · have e2 : ((k : Int) != b) = true := by show (!((k : Int) == b)) = _; rw [t2]; rfl
            cases t3 : ((k : Int) == h)
            · have e3 : ((k : Int) != h) = true := by show (!((k : Int) == h)) = _; rw [t3]; rfl
              by_cases hx0 : x < 0
              · have t4 := decide_eq_true hx0
                have hno : freshOk bs a b h x k = true := by rw [hfr]; simp [*]
                have HN := Lib.hid (fresh_yes HX0.out hno)
                clear hno hfr
                (try clear t1)
                (try clear t2)
                (try clear t3)
                go_wp2_with fail
                refine wp_region_held_drew (S := (fun w' => w'.cell? ⟨g, off + k * 2, none⟩ = some (.int .i64 m) ∧ w'.cell? ⟨g, off + k * 2 + 1, none⟩ = some (.slice Ab ps.length cb) ∧ w'.cell? ⟨w.heap.size, 0, none⟩ = some (.int .i64 a) ∧ w'.cell? ⟨w.heap.size, 1, none⟩ = some (.int .i64 b) ∧ w'.cell? ⟨w.heap.size, 2, none⟩ = some (.int .i64 h))) (by kernel_rfl) ?_ (fun hHeld => ?_)
                · exact ⟨c0, c1, h0, h1, h2⟩
                refine heldY 0 18 ?_
                refine heldY 1 19 ?_
                refine heldY 2 20 ?_
                refine heldY 3 21 ?_
                refine wpAnyH_ready (rs := [4]) (by kernel_rfl) (by simp) ?_
                refine AllReadyH.cons rfl (fun K hK => ?_) AllReadyH.nil
                go_simp
                go_at_call 114; (refine (specNext_val rfl HR.out.1 _ HR.out.2.1.drew.here HR.out.2.2).mono ?_); rintro e w2 ⟨rfl, hk1⟩; replace hk1 := grown_trans (grown_drew (grown_refl w1 none)) hk1; replace HF := Lib.hid (HF.out.keep hk1); replace HB := Lib.hid (HB.out.kept hk1); clear hk1 c0 c1 h0 h1 h2; obtain ⟨h0, h1, h2⟩ := cells3 HF.out.1; obtain ⟨c0, c1⟩ := HB.out
                refine hK.out _ _ ?_ (fun hHeld => ?_)
                · exact ⟨c0, c1, h0, h1, h2⟩
                clear hK K
                try simp only [Act.put, List.setIfInBounds_toArray, List.set_cons_zero, List.set_cons_succ]
                refine heldY 5 23 ?_
                refine heldY 6 24 ?_
                refine heldY 7 25 ?_
                refine heldY 8 26 ?_
                refine heldY 9 27 ?_
                refine heldY 10 28 ?_
                refine heldY 11 29 ?_
                refine heldY 12 30 ?_
                refine heldY 13 31 ?_
                refine heldY 14 32 ?_
                refine heldY 15 33 ?_
                refine heldY 16 34 ?_
                refine heldY 17 35 ?_
                refine heldY 18 36 ?_
                refine heldY 19 37 ?_
                refine heldY 20 38 ?_
                refine heldY 21 39 ?_
                refine heldY 22 40 ?_
                refine heldY 23 41 ?_
                refine heldY 24 42 ?_
                refine heldY 25 43 ?_
                refine heldY 26 44 ?_
                refine heldY 27 45 ?_
                refine heldN 28 46 ?_
                refine heldN 29 47 ?_
                refine heldN 30 48 ?_
                refine heldN 31 49 ?_
                refine heldN 32 50 ?_
                refine heldN 33 51 ?_
                refine heldN 34 52 ?_
                refine heldN 35 53 ?_
                refine heldN 36 54 ?_
                refine heldN 37 55 ?_
                refine heldN 38 56 ?_
                refine heldY 39 57 ?_
                refine heldY 40 58 ?_
                refine wpAnyH_done (by kernel_rfl) ?_ _
                go_wp2
                go_roundw
                case rel => exact ⟨k + 1, k, by go_num, rfl, by omega, HN.out, HF.out⟩
                case measure => simp [intOf]; omega
              · have t4 := decide_eq_false hx0
                obtain ⟨i, hi, hik, _⟩ : ∃ i : Nat, x = (i : Int) ∧ i < k ∧ True := by
                  rcases fresh_facts bs a b h k with h5 | ⟨i, h5, h6, _⟩
                  · rw [HX0.out] at h5; omega
                  · rw [HX0.out] at h5; exact ⟨i, h5, h6, trivial⟩
                subst hi
                obtain ⟨g', off', m2, Ac, cc, qs, e0, _, _, hc, b0, _, _⟩ := HF.out.2.1.at_ (show i < bs.length by omega)
                injection e0 with e0
                injection e0 with e3 e4
                subst e3; subst e4
                have HC := Lib.hid (show D2 w1 g (off + i * 2) ⟨m2, Ac, cc, qs⟩ from ⟨b0, by assumption⟩)
                have hw : wearAt bs (i : Int) = m2 := by simp [wearAt, hc]
                rw [hw] at hfr
                have i3 : (i : Int) < n := by omega
                clear hw hc
                cases t5 : decide (m < m2)
                · have hno : freshOk bs a b h (i : Int) k = false := by rw [hfr]; simp [*]
                  have HN := Lib.hid (fresh_no HX0.out hno)
                  clear hno hfr
                  (try clear t1)
                  (try clear t2)
                  (try clear t3)
                  go_wp2_with fail
                  refine wp_region_held_drew (S := (fun w' => w'.cell? ⟨g, off + k * 2, none⟩ = some (.int .i64 m) ∧ w'.cell? ⟨g, off + k * 2 + 1, none⟩ = some (.slice Ab ps.length cb) ∧ w'.cell? ⟨w.heap.size, 0, none⟩ = some (.int .i64 a) ∧ w'.cell? ⟨w.heap.size, 1, none⟩ = some (.int .i64 b) ∧ w'.cell? ⟨w.heap.size, 2, none⟩ = some (.int .i64 h) ∧ w'.cell? ⟨g, off + i * 2, none⟩ = some (.int .i64 m2))) (by kernel_rfl) ?_ (fun hHeld => ?_)
                  · exact ⟨c0, c1, h0, h1, h2, b0⟩
                  refine heldY 0 18 ?_
                  refine heldY 1 19 ?_
                  refine heldY 2 20 ?_
                  refine heldY 3 21 ?_
                  refine wpAnyH_ready (rs := [4]) (by kernel_rfl) (by simp) ?_
                  refine AllReadyH.cons rfl (fun K hK => ?_) AllReadyH.nil
                  go_simp
                  go_at_call 114; (refine (specNext_val rfl HR.out.1 _ HR.out.2.1.drew.here HR.out.2.2).mono ?_); rintro e w2 ⟨rfl, hk1⟩; replace hk1 := grown_trans (grown_drew (grown_refl w1 none)) hk1; replace HF := Lib.hid (HF.out.keep hk1); replace HB := Lib.hid (HB.out.kept hk1); replace HC := Lib.hid (HC.out.kept hk1); clear hk1 c0 c1 h0 h1 h2 b0; obtain ⟨h0, h1, h2⟩ := cells3 HF.out.1; obtain ⟨c0, c1⟩ := HB.out; obtain ⟨b0, _⟩ := HC.out
                  refine hK.out _ _ ?_ (fun hHeld => ?_)
                  · exact ⟨c0, c1, h0, h1, h2, b0⟩
                  clear hK K
                  try simp only [Act.put, List.setIfInBounds_toArray, List.set_cons_zero, List.set_cons_succ]
                  refine heldY 5 23 ?_
                  refine heldY 6 24 ?_
                  refine heldY 7 25 ?_
                  refine heldY 8 26 ?_
                  refine heldY 9 27 ?_
                  refine heldY 10 28 ?_
                  refine heldY 11 29 ?_
                  refine heldY 12 30 ?_
                  refine heldY 13 31 ?_
                  refine heldY 14 32 ?_
                  refine heldY 15 33 ?_
                  refine heldY 16 34 ?_
                  refine heldY 17 35 ?_
                  refine heldY 18 36 ?_
                  refine heldY 19 37 ?_
                  refine heldY 20 38 ?_
                  refine heldY 21 39 ?_
                  refine heldY 22 40 ?_
                  refine heldY 23 41 ?_
                  refine heldY 24 42 ?_
                  refine heldY 25 43 ?_
                  refine heldY 26 44 ?_
                  refine heldY 27 45 ?_
                  refine heldY 28 46 ?_
                  refine heldY 29 47 ?_
                  refine heldY 30 48 ?_
                  refine heldY 31 49 ?_
                  refine heldY 32 50 ?_
                  refine heldY 33 51 ?_
                  refine heldY 34 52 ?_
                  refine heldY 35 53 ?_
                  refine heldY 36 54 ?_
                  refine heldY 37 55 ?_
                  refine heldY 38 56 ?_
                  refine heldY 39 57 ?_
                  refine heldY 40 58 ?_
                  refine wpAnyH_done (by kernel_rfl) ?_ _
                  go_wp2
                  go_roundw
                  case rel => exact ⟨k + 1, i, by go_num, rfl, by omega, HN.out, HF.out⟩
                  case measure => simp [intOf]; omega
                · have hno : freshOk bs a b h (i : Int) k = true := by rw [hfr]; simp [*]
                  have HN := Lib.hid (fresh_yes HX0.out hno)
                  clear hno hfr
                  (try clear t1)
                  (try clear t2)
                  (try clear t3)
                  go_wp2_with fail
                  refine wp_region_held_drew (S := (fun w' => w'.cell? ⟨g, off + k * 2, none⟩ = some (.int .i64 m) ∧ w'.cell? ⟨g, off + k * 2 + 1, none⟩ = some (.slice Ab ps.length cb) ∧ w'.cell? ⟨w.heap.size, 0, none⟩ = some (.int .i64 a) ∧ w'.cell? ⟨w.heap.size, 1, none⟩ = some (.int .i64 b) ∧ w'.cell? ⟨w.heap.size, 2, none⟩ = some (.int .i64 h) ∧ w'.cell? ⟨g, off + i * 2, none⟩ = some (.int .i64 m2))) (by kernel_rfl) ?_ (fun hHeld => ?_)
                  · exact ⟨c0, c1, h0, h1, h2, b0⟩
                  refine heldY 0 18 ?_
                  refine heldY 1 19 ?_
                  refine heldY 2 20 ?_
                  refine heldY 3 21 ?_
                  refine wpAnyH_ready (rs := [4]) (by kernel_rfl) (by simp) ?_
                  refine AllReadyH.cons rfl (fun K hK => ?_) AllReadyH.nil
                  go_simp
                  go_at_call 114; (refine (specNext_val rfl HR.out.1 _ HR.out.2.1.drew.here HR.out.2.2).mono ?_); rintro e w2 ⟨rfl, hk1⟩; replace hk1 := grown_trans (grown_drew (grown_refl w1 none)) hk1; replace HF := Lib.hid (HF.out.keep hk1); replace HB := Lib.hid (HB.out.kept hk1); replace HC := Lib.hid (HC.out.kept hk1); clear hk1 c0 c1 h0 h1 h2 b0; obtain ⟨h0, h1, h2⟩ := cells3 HF.out.1; obtain ⟨c0, c1⟩ := HB.out; obtain ⟨b0, _⟩ := HC.out
                  refine hK.out _ _ ?_ (fun hHeld => ?_)
                  · exact ⟨c0, c1, h0, h1, h2, b0⟩
                  clear hK K
                  try simp only [Act.put, List.setIfInBounds_toArray, List.set_cons_zero, List.set_cons_succ]
                  refine heldY 5 23 ?_
                  refine heldY 6 24 ?_
                  refine heldY 7 25 ?_
                  refine heldY 8 26 ?_
                  refine heldY 9 27 ?_
                  refine heldY 10 28 ?_
                  refine heldY 11 29 ?_
                  refine heldY 12 30 ?_
                  refine heldY 13 31 ?_
                  refine heldY 14 32 ?_
                  refine heldY 15 33 ?_
                  refine heldY 16 34 ?_
                  refine heldY 17 35 ?_
                  refine heldY 18 36 ?_
                  refine heldY 19 37 ?_
                  refine heldY 20 38 ?_
                  refine heldY 21 39 ?_
                  refine heldY 22 40 ?_
                  refine heldY 23 41 ?_
                  refine heldY 24 42 ?_
                  refine heldY 25 43 ?_
                  refine heldY 26 44 ?_
                  refine heldY 27 45 ?_
                  refine heldY 28 46 ?_
                  refine heldY 29 47 ?_
                  refine heldY 30 48 ?_
                  refine heldY 31 49 ?_
                  refine heldY 32 50 ?_
                  refine heldY 33 51 ?_
                  refine heldY 34 52 ?_
                  refine heldY 35 53 ?_
                  refine heldY 36 54 ?_
                  refine heldY 37 55 ?_
                  refine heldY 38 56 ?_
                  refine heldY 39 57 ?_
                  refine heldY 40 58 ?_
                  refine wpAnyH_done (by kernel_rfl) ?_ _
                  go_wp2
                  go_roundw
                  case rel => exact ⟨k + 1, k, by go_num, rfl, by omega, HN.out, HF.out⟩
                  case measure => simp [intOf]; omega
            · have e3 : ((k : Int) != h) = false := by show (!((k : Int) == h)) = _; rw [t3]; rfl
              have hno : freshOk bs a b h x k = false := by rw [hfr]; simp [*]
              have HN := Lib.hid (fresh_no HX0.out hno)
              clear hno hfr
              (try clear t1)
              (try clear t2)
              (try clear t3)
              go_wp2_with fail
              refine wp_region_held_drew (S := (fun w' => w'.cell? ⟨g, off + k * 2, none⟩ = some (.int .i64 m) ∧ w'.cell? ⟨g, off + k * 2 + 1, none⟩ = some (.slice Ab ps.length cb) ∧ w'.cell? ⟨w.heap.size, 0, none⟩ = some (.int .i64 a) ∧ w'.cell? ⟨w.heap.size, 1, none⟩ = some (.int .i64 b) ∧ w'.cell? ⟨w.heap.size, 2, none⟩ = some (.int .i64 h))) (by kernel_rfl) ?_ (fun hHeld => ?_)
              · exact ⟨c0, c1, h0, h1, h2⟩
              refine heldY 0 18 ?_
              refine heldY 1 19 ?_
              refine heldY 2 20 ?_
              refine heldY 3 21 ?_
              refine wpAnyH_ready (rs := [4]) (by kernel_rfl) (by simp) ?_
              refine AllReadyH.cons rfl (fun K hK => ?_) AllReadyH.nil
              go_simp
              go_at_call 114; (refine (specNext_val rfl HR.out.1 _ HR.out.2.1.drew.here HR.out.2.2).mono ?_); rintro e w2 ⟨rfl, hk1⟩; replace hk1 := grown_trans (grown_drew (grown_refl w1 none)) hk1; replace HF := Lib.hid (HF.out.keep hk1); replace HB := Lib.hid (HB.out.kept hk1); clear hk1 c0 c1 h0 h1 h2; obtain ⟨h0, h1, h2⟩ := cells3 HF.out.1; obtain ⟨c0, c1⟩ := HB.out
              refine hK.out _ _ ?_ (fun hHeld => ?_)
              · exact ⟨c0, c1, h0, h1, h2⟩
              clear hK K
              try simp only [Act.put, List.setIfInBounds_toArray, List.set_cons_zero, List.set_cons_succ]
              refine heldY 5 23 ?_
              refine heldY 6 24 ?_
              refine heldY 7 25 ?_
              refine heldY 8 26 ?_
              refine heldY 9 27 ?_
              refine heldY 10 28 ?_
              refine heldY 11 29 ?_
              refine heldY 12 30 ?_
              refine heldY 13 31 ?_
              refine heldY 14 32 ?_
              refine heldY 15 33 ?_
              refine heldY 16 34 ?_
              refine heldY 17 35 ?_
              refine heldY 18 36 ?_
              refine heldY 19 37 ?_
              refine heldY 20 38 ?_
              refine heldY 21 39 ?_
              refine heldY 22 40 ?_
              refine heldY 23 41 ?_
              refine heldY 24 42 ?_
              refine heldN 25 43 ?_
              refine heldN 26 44 ?_
              refine heldN 27 45 ?_
              refine heldN 28 46 ?_
              refine heldN 29 47 ?_
              refine heldN 30 48 ?_
              refine heldN 31 49 ?_
              refine heldN 32 50 ?_
              refine heldN 33 51 ?_
              refine heldN 34 52 ?_
              refine heldN 35 53 ?_
              refine heldN 36 54 ?_
              refine heldN 37 55 ?_
              refine heldN 38 56 ?_
              refine heldN 39 57 ?_
              refine heldY 40 58 ?_
              refine wpAnyH_done (by kernel_rfl) ?_ _
              go_wp2
              go_roundw
              case rel => exact ⟨k + 1, x, by go_num, rfl, by omega, HN.out, HF.out⟩
              case measure => simp [intOf]; omega
          · have e2 : ((k : Int) != b) = false := by show (!((k : Int) == b)) = _; rw [t2]; rfl
            have hno : freshOk bs a b h x k = false := by rw [hfr]; simp [*]
            have HN := Lib.hid (fresh_no HX0.out hno)
            clear hno hfr
            (try clear t1)
            (try clear t2)
            (try clear t3)
            go_wp2_with fail
            refine wp_region_held_drew (S := (fun w' => w'.cell? ⟨g, off + k * 2, none⟩ = some (.int .i64 m) ∧ w'.cell? ⟨g, off + k * 2 + 1, none⟩ = some (.slice Ab ps.length cb) ∧ w'.cell? ⟨w.heap.size, 0, none⟩ = some (.int .i64 a) ∧ w'.cell? ⟨w.heap.size, 1, none⟩ = some (.int .i64 b) ∧ w'.cell? ⟨w.heap.size, 2, none⟩ = some (.int .i64 h))) (by kernel_rfl) ?_ (fun hHeld => ?_)
            · exact ⟨c0, c1, h0, h1, h2⟩
            refine heldY 0 18 ?_
            refine heldY 1 19 ?_
            refine heldY 2 20 ?_
            refine heldY 3 21 ?_
            refine wpAnyH_ready (rs := [4]) (by kernel_rfl) (by simp) ?_
            refine AllReadyH.cons rfl (fun K hK => ?_) AllReadyH.nil
            go_simp
            go_at_call 114; (refine (specNext_val rfl HR.out.1 _ HR.out.2.1.drew.here HR.out.2.2).mono ?_); rintro e w2 ⟨rfl, hk1⟩; replace hk1 := grown_trans (grown_drew (grown_refl w1 none)) hk1; replace HF := Lib.hid (HF.out.keep hk1); replace HB := Lib.hid (HB.out.kept hk1); clear hk1 c0 c1 h0 h1 h2; obtain ⟨h0, h1, h2⟩ := cells3 HF.out.1; obtain ⟨c0, c1⟩ := HB.out
            refine hK.out _ _ ?_ (fun hHeld => ?_)
            · exact ⟨c0, c1, h0, h1, h2⟩
            clear hK K
            try simp only [Act.put, List.setIfInBounds_toArray, List.set_cons_zero, List.set_cons_succ]
            refine heldY 5 23 ?_
            refine heldY 6 24 ?_
            refine heldY 7 25 ?_
            refine heldY 8 26 ?_
            refine heldY 9 27 ?_
            refine heldY 10 28 ?_
            refine heldY 11 29 ?_
            refine heldY 12 30 ?_
            refine heldY 13 31 ?_
            refine heldY 14 32 ?_
            refine heldY 15 33 ?_
            refine heldY 16 34 ?_
            refine heldY 17 35 ?_
            refine heldY 18 36 ?_
            refine heldN 19 37 ?_
            refine heldN 20 38 ?_
            refine heldN 21 39 ?_
            refine heldN 22 40 ?_
            refine heldY 23 41 ?_
            refine heldY 24 42 ?_
            refine heldN 25 43 ?_
            refine heldN 26 44 ?_
            refine heldN 27 45 ?_
            refine heldN 28 46 ?_
            refine heldN 29 47 ?_
            refine heldN 30 48 ?_
            refine heldN 31 49 ?_
            refine heldN 32 50 ?_
            refine heldN 33 51 ?_
            refine heldN 34 52 ?_
            refine heldN 35 53 ?_
            refine heldN 36 54 ?_
            refine heldN 37 55 ?_
            refine heldN 38 56 ?_
            refine heldN 39 57 ?_
            refine heldY 40 58 ?_
            refine wpAnyH_done (by kernel_rfl) ?_ _
            go_wp2
            go_roundw
            case rel => exact ⟨k + 1, x, by go_num, rfl, by omega, HN.out, HF.out⟩
            case measure => simp [intOf]; omega
        · have e1 : ((k : Int) != a) = false := by show (!((k : Int) == a)) = _; rw [t1]; rfl
          have hno : freshOk bs a b h x k = false := by rw [hfr]; simp [*]
          have HN := Lib.hid (fresh_no HX0.out hno)
          clear hno hfr
          (try clear t1)
          (try clear t2)
          (try clear t3)
          go_wp2_with fail
          refine wp_region_held_drew (S := (fun w' => w'.cell? ⟨g, off + k * 2, none⟩ = some (.int .i64 m) ∧ w'.cell? ⟨g, off + k * 2 + 1, none⟩ = some (.slice Ab ps.length cb) ∧ w'.cell? ⟨w.heap.size, 0, none⟩ = some (.int .i64 a) ∧ w'.cell? ⟨w.heap.size, 1, none⟩ = some (.int .i64 b) ∧ w'.cell? ⟨w.heap.size, 2, none⟩ = some (.int .i64 h))) (by kernel_rfl) ?_ (fun hHeld => ?_)
          · exact ⟨c0, c1, h0, h1, h2⟩
          refine heldY 0 18 ?_
          refine heldY 1 19 ?_
          refine heldY 2 20 ?_
          refine heldY 3 21 ?_
          refine wpAnyH_ready (rs := [4]) (by kernel_rfl) (by simp) ?_
          refine AllReadyH.cons rfl (fun K hK => ?_) AllReadyH.nil
          go_simp
          go_at_call 114; (refine (specNext_val rfl HR.out.1 _ HR.out.2.1.drew.here HR.out.2.2).mono ?_); rintro e w2 ⟨rfl, hk1⟩; replace hk1 := grown_trans (grown_drew (grown_refl w1 none)) hk1; replace HF := Lib.hid (HF.out.keep hk1); replace HB := Lib.hid (HB.out.kept hk1); clear hk1 c0 c1 h0 h1 h2; obtain ⟨h0, h1, h2⟩ := cells3 HF.out.1; obtain ⟨c0, c1⟩ := HB.out
          refine hK.out _ _ ?_ (fun hHeld => ?_)
          · exact ⟨c0, c1, h0, h1, h2⟩
          clear hK K
          try simp only [Act.put, List.setIfInBounds_toArray, List.set_cons_zero, List.set_cons_succ]
          refine heldY 5 23 ?_
          refine heldY 6 24 ?_
          refine heldY 7 25 ?_
          refine heldY 8 26 ?_
          refine heldY 9 27 ?_
          refine heldY 10 28 ?_
          refine heldY 11 29 ?_
          refine heldY 12 30 ?_
          refine heldN 13 31 ?_
          refine heldN 14 32 ?_
          refine heldN 15 33 ?_
          refine heldN 16 34 ?_
          refine heldY 17 35 ?_
          refine heldY 18 36 ?_
          refine heldN 19 37 ?_
          refine heldN 20 38 ?_
          refine heldN 21 39 ?_
          refine heldN 22 40 ?_
          refine heldY 23 41 ?_
          refine heldY 24 42 ?_
          refine heldN 25 43 ?_
          refine heldN 26 44 ?_
          refine heldN 27 45 ?_
          refine heldN 28 46 ?_
          refine heldN 29 47 ?_
          refine heldN 30 48 ?_
          refine heldN 31 49 ?_
          refine heldN 32 50 ?_
          refine heldN 33 51 ?_
          refine heldN 34 52 ?_
          refine heldN 35 53 ?_
          refine heldN 36 54 ?_
          refine heldN 37 55 ?_
          refine heldN 38 56 ?_
          refine heldN 39 57 ?_
          refine heldY 40 58 ?_
          refine wpAnyH_done (by kernel_rfl) ?_ _
          go_wp2
          go_roundw
          case rel => exact ⟨k + 1, x, by go_num, rfl, by omega, HN.out, HF.out⟩
          case measure => simp [intOf]; omega
    · obtain rfl : k = n := by omega
      have HX0 := Lib.hid (show freshV bs a b h = x by unfold freshV; rw [hl]; exact hx)
      clear hx
      go_wp2
      go_ret
      exact ⟨retI (by rw [HX0.out]), HF.out.2.2⟩
end Go.Proofs.Yteniikfgellhfaa
