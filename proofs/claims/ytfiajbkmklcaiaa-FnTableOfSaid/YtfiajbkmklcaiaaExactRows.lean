/- The exact laws' helpers for blocks: szBlock, toBlock, eqBlock.
   The exact laws' helpers for blocks, further: markBlock and heldBlock. -/
import Derived.Test.YtfiajbkmklcaiaaBlocks6
import Derived.Test.YtfiajbkmklcaiaaHand
namespace Go.Proofs.Ytfiajbkmklcaiaa
open Go.ChangeShapes Go.WideShapes Go.ChangeAt Go.RowKit

theorem cells2' {w : World} {g : Nat} {t : TypeId} {u0 u1 : Value} (h : Blk w g t #[u0, u1]) :
    w.cell? ⟨g, 0, none⟩ = some u0 ∧ w.cell? ⟨g, 1, none⟩ = some u1 ∧ w.frozen? ⟨g, 0, none⟩ = false ∧ w.frozen? ⟨g, 1, none⟩ = false := ⟨h.cell 0, h.cell 1, h.frozen 0, h.frozen 1⟩
theorem Own.ne_lt {w : World} {base g : Nat} {v : Value} {ps : List Pg} (h : Own w base v ps) (hg : g < base) : v.ownBlock ≠ some g := fun e => by
  have := (World.ownsRow.lt h _ e).1
  omega
/-- A number that is not negative. -/
def NotNeg (w : World) (e : Ending) (w' : World) : Prop := ∃ v : Int, e = .returned (.int .i64 v) ∧ 0 ≤ v ∧ w.grownBy w' none
theorem szPageS_ok (A : Option Addr) (n c : Nat) (w : World) (hn : n ≤ 1048576) :
    Calls Try.prog 104 #[.slice A n c, .int .i64 1048576] w fun e w' => e = .returned (.int .i64 (1048576 - n)) ∧ w = w' := by
  have t1 : decide ((1048576 : Int) - n < 0) = false := decide_eq_false (by omega)
  go_enter Try.func104, Try.ntmps104
  go_wp2
  go_ret
  exact ⟨rfl, rfl⟩
theorem szPageS_big (A : Option Addr) (n c : Nat) (w : World) (hn : 1048576 < n) (hm : n ≤ 9223372036854775807) :
    Calls Try.prog 104 #[.slice A n c, .int .i64 1048576] w fun e w' => e = .returned (.int .i64 (-1)) ∧ w = w' := by
  have t1 : decide ((1048576 : Int) - n < 0) = true := decide_eq_true (by omega)
  go_enter Try.func104, Try.ntmps104
  go_wp2
  go_ret
  exact ⟨rfl, rfl⟩
theorem szBlock_ok (m : Int) (A : Option Addr) (n c : Nat) (w : World) (hn : n ≤ 1048576) :
    Calls Try.prog 82 #[.agg #[.int .i64 m, .slice A n c], .int .i64 1048576] w (NotNeg w) := by
  have t1 : decide ((1048576 : Int) - n < 0) = false := decide_eq_false (by omega)
  go_enter Try.func82, Try.ntmps82
  go_wp2_with (go_at_call 104; refine (szPageS_ok _ _ _ _ hn).mono ?_; rintro e w' ⟨rfl, rfl⟩)
  go_ret
  exact ⟨_, rfl, by omega, grown_alloc (grown_refl _ _) _⟩
theorem szBlock_big (m : Int) (A : Option Addr) (n c : Nat) (w : World) (hn : 1048576 < n) (hm : n ≤ 9223372036854775807) :
    Calls Try.prog 82 #[.agg #[.int .i64 m, .slice A n c], .int .i64 1048576] w (KeptV (.int .i64 (-1)) w) := by
  go_enter Try.func82, Try.ntmps82
  go_wp2_with (go_at_call 104; refine (szPageS_big _ _ _ _ hn hm).mono ?_; rintro e w' ⟨rfl, rfl⟩)
  go_ret
  exact ⟨rfl, grown_alloc (grown_refl _ _) _⟩

/-- The first k pages taken over, the rest not written. -/
def fill (ps : List Pg) (n k : Nat) : List Pg := ps.take k ++ List.replicate (n - k) pz
theorem fill_zero (ps : List Pg) (n : Nat) : fill ps n 0 = List.replicate n pz := by simp [fill]
theorem fill_end {ps : List Pg} {n : Nat} (h : ps.length = n) : fill ps n n = ps := by subst h; simp [fill]
theorem fill_length {ps : List Pg} {n k : Nat} (h : ps.length = n) (hk : k ≤ n) : (fill ps n k).length = n := by
  simp only [fill, List.length_append, List.length_take, List.length_replicate]; omega
theorem fill_step {ps : List Pg} {n k : Nat} {p : Pg} (h : ps.length = n) (hp : ps[k]? = some p) : (fill ps n k).set k p = fill ps n (k + 1) := by
  have hk : k < ps.length := (List.getElem?_eq_some_iff.1 hp).1
  have e : n - k = (n - (k + 1)) + 1 := by omega
  have ht : (ps.take k).length = k := by rw [List.length_take]; omega
  unfold fill
  rw [e, List.replicate_succ, List.set_append_right _ _ (by omega), ht, Nat.sub_self, List.set_cons_zero, List.take_add_one, hp]
  simp
/-- Pages in memory of the call's own are returned. -/
def RowMade (n : Nat) (ps : List Pg) (w : World) (e : Ending) (w' : World) : Prop := ∃ A c, e = .returned (.slice A n c) ∧ Own w' w.heap.size (.slice A n c) ps ∧ w.grownBy w' none
/-- The loop that takes pages over, at page k. -/
def FillSt (w : World) (ps : List Pg) (n k : Nat) (wr : World) : Prop := k ≤ n ∧ Own wr w.heap.size (.slice (some ⟨w.heap.size, 0, none⟩) n n) (fill ps n k) ∧ w.grownBy wr none
theorem grown_putO' {a w : World} {k o : Nat} (h : a.grownBy w none) (hk : a.heap.size ≤ k) (u0 u1 u2 u3 u4 : Value) :
    a.grownBy (((((w.setCell ⟨k, o, none⟩ u0).setCell ⟨k, o + 1, none⟩ u1).setCell ⟨k, o + 2, none⟩ u2).setCell ⟨k, o + 3, none⟩ u3).setCell ⟨k, o + 4, none⟩ u4) none :=
  grown_put (grown_put (grown_put (grown_put (grown_put h hk u0) hk u1) hk u2) hk u3) hk u4
theorem toPageS_any (A : Option Addr) (n c : Nat) (ps : List Pg) (w : World) (hl : ps.length = n) (hr : Row w w.heap.size A ps) (hn : n ≤ 1048576) :
    Calls Try.prog 105 #[.slice A n c] w (RowMade n ps w) := by
  have HR := Lib.hid (And.intro hl hr)
  have hmk := fun W => make_pages W n hn
  have hO := own_made w w.heap.size n (Nat.le_refl _) (by simp only [maxLen]; omega)
  rw [← fill_zero ps n] at hO
  have HO := Lib.hid hO
  clear hl hr hO
  go_enter Try.func105, Try.ntmps105
  go_wp2
  clear hmk
  go_loopw [4] (fun i wr => ∃ k : Nat, i = .int .i64 k ∧ FillSt w ps n k wr) (fun i _ => n - (intOf i).toNat)
  case atStart => exact ⟨0, rfl, Nat.zero_le _, HO.out, grown_alloc (grown_refl _ _) _⟩
  case round =>
    obtain ⟨k, rfl, hk, ho, hg⟩ := hrel
    have HS := Lib.hid (And.intro ho hg)
    clear HO ho hg
    by_cases hlt : k < n
    · obtain ⟨g, off, rfl, _, hgw, hp5⟩ := HR.out.2.kept HS.out.2 (by have := HR.out.1; omega)
      obtain ⟨⟨f, x1, x2, x3, x4⟩, hp⟩ := getD_at (show k < ps.length by have := HR.out.1; omega)
      obtain ⟨c0, c1, c2, c3, c4⟩ := hp5 _ _ hp
      have HP := Lib.hid hp
      clear hp hp5
      go_wp2_with fail
      refine (toPage_any _ _ _ _ _ _).mono ?_
      rintro e w1 ⟨rfl, hkp⟩
      replace HS := Lib.hid (And.intro (HS.out.1.keep hkp) (grown_trans HS.out.2 hkp))
      clear hkp c0 c1 c2 c3 c4
      have hfl := fill_length HR.out.1 hk
      obtain ⟨q, hq⟩ := getD_at (show k < (fill ps n k).length by omega)
      obtain ⟨d0, d1, d2, d3, d4⟩ := HS.out.1.at_ hfl hq
      have f0 := HS.out.1.frozen hfl (k * 5)
      have f1 := HS.out.1.frozen hfl (k * 5 + 1)
      have f2 := HS.out.1.frozen hfl (k * 5 + 2)
      have f3 := HS.out.1.frozen hfl (k * 5 + 3)
      have f4 := HS.out.1.frozen hfl (k * 5 + 4)
      have HL := Lib.hid hfl
      clear hfl hq
      go_wp2
      go_roundw
      case rel => exact ⟨k + 1, by go_num, by omega, by rw [← fill_step HR.out.1 HP.out]; exact HS.out.1.set5 HL.out k ⟨f, x1, x2, x3, x4⟩, grown_putO' HS.out.2 (Nat.le_refl _) _ _ _ _ _⟩
      case measure => simp [intOf]; omega
    · obtain rfl : k = n := by omega
      go_wp2
      go_ret
      exact ⟨_, _, rfl, by have h := HS.out.1; rw [fill_end HR.out.1] at h; exact h, HS.out.2⟩
theorem toBlock_any (m : Int) (A : Option Addr) (n c : Nat) (ps : List Pg) (w : World) (hl : ps.length = n) (hr : Row w w.heap.size A ps) (hn : n ≤ 1048576) :
    Calls Try.prog 83 #[.agg #[.int .i64 m, .slice A n c]] w (Made m n ps w) := by
  have HR := Lib.hid (And.intro hl (((hr.alloc (.cells #[.int .i64 m, .slice A n c] 93)).alloc (.cells #[.int .i64 0, .slice none 0 0] 96)).alloc (.cells #[.int .i64 m, .slice none 0 0] 96)))
  have hB := (Blk.new (w.alloc (.cells #[.int .i64 m, .slice A n c] 93)) 96 #[.int .i64 0, .slice none 0 0]).alloc (.cells #[.int .i64 m, .slice none 0 0] 96)
  have hC := Blk.new ((w.alloc (.cells #[.int .i64 m, .slice A n c] 93)).alloc (.cells #[.int .i64 0, .slice none 0 0] 96)) 96 #[.int .i64 m, .slice none 0 0]
  simp only [size_alloc1] at hB hC
  have HB := Lib.hid (And.intro hB hC)
  have HG := Lib.hid (grown_alloc (grown_alloc (grown_alloc (grown_refl w none) (.cells #[.int .i64 m, .slice A n c] 93)) (.cells #[.int .i64 0, .slice none 0 0] 96)) (.cells #[.int .i64 m, .slice none 0 0] 96))
  clear hl hr hB hC
  go_enter Try.func83, Try.ntmps83
  go_wp2_with fail
  refine (toPageS_any _ _ _ _ _ HR.out.1 HR.out.2.here hn).mono ?_
  rintro e w1 ⟨A1, c1, rfl, hown, hk⟩
  simp only [size_alloc1] at hown
  obtain ⟨r0, r1, q0, q1⟩ := cells2' (HB.out.1.keep hk)
  obtain ⟨v0, v1, f0, f1⟩ := cells2' (HB.out.2.keep hk)
  have HX := Lib.hid (And.intro hown (grown_trans HG.out hk))
  clear hk hown
  go_wp2
  exact bodyPost_ret (v := .agg #[.int .i64 m, .slice A1 n c1]) (by simp [results, Try.results83, go_sem, *]) rfl
    ⟨_, _, rfl, HR.out.1, (((HX.out.1.to_put (HX.out.1.ne_lt (by omega)) _).to_put (HX.out.1.ne_lt (by omega)) _).to_put (HX.out.1.ne_lt (by omega)) _).base_le (by omega), grown_put (grown_put (grown_put HX.out.2 (le2 _) _) (Nat.le_succ _) _) (Nat.le_succ _) _⟩
theorem eqPageS_same (A A' : Option Addr) (c c' n : Nat) (ps : List Pg) (w : World) (hl : ps.length = n) (hr : Row w w.heap.size A ps) (hr' : Row w w.heap.size A' ps) (hn : n ≤ 1048576) :
    Calls Try.prog 106 #[.slice A n c, .slice A' n c'] w (KeptV (.bool true) w) := by
  subst hl
  have HR := Lib.hid (And.intro hr hr')
  clear hr hr'
  go_enter Try.func106, Try.ntmps106
  go_wp2
  go_loopw [5] (fun i wr => ∃ k : Nat, k ≤ ps.length ∧ i = .int .i64 k ∧ w.grownBy wr none) (fun i _ => ps.length - (intOf i).toNat)
  case atStart => exact ⟨0, Nat.zero_le _, rfl, grown_refl _ _⟩
  case round =>
    obtain ⟨k, hk, rfl, hg⟩ := hrel
    by_cases hlt : k < ps.length
    · obtain ⟨g, off, rfl, _, hgw, hp5⟩ := HR.out.1.kept hg (by omega)
      obtain ⟨g', off', rfl, _, hgw', hp5'⟩ := HR.out.2.kept hg (by omega)
      obtain ⟨⟨f, x1, x2, x3, x4⟩, hp⟩ := getD_at hlt
      have HP := Lib.hid (And.intro (hp5 _ _ hp) (hp5' _ _ hp))
      obtain ⟨c0, c1, c2, c3, c4⟩ := hp5 _ _ hp
      obtain ⟨d0, d1, d2, d3, d4⟩ := hp5' _ _ hp
      have HG := Lib.hid hg
      have ha : decide (k < ps.length) = true := decide_eq_true hlt
      have ha2 : (k : Int) < ps.length := by omega
      clear hp hp5 hp5' hg
      go_wp2_with fail
      refine wp_region_held_drew (S := (fun w' => w'.cell? ⟨g, off + k * 5, none⟩ = some (.bool f) ∧ w'.cell? ⟨g, off + k * 5 + 1, none⟩ = some (.int .i64 x1) ∧ w'.cell? ⟨g, off + k * 5 + 2, none⟩ = some (.int .i64 x2) ∧ w'.cell? ⟨g, off + k * 5 + 3, none⟩ = some (.int .i64 x3) ∧ w'.cell? ⟨g, off + k * 5 + 4, none⟩ = some (.int .i64 x4) ∧ w'.cell? ⟨g', off' + k * 5, none⟩ = some (.bool f) ∧ w'.cell? ⟨g', off' + k * 5 + 1, none⟩ = some (.int .i64 x1) ∧ w'.cell? ⟨g', off' + k * 5 + 2, none⟩ = some (.int .i64 x2) ∧ w'.cell? ⟨g', off' + k * 5 + 3, none⟩ = some (.int .i64 x3) ∧ w'.cell? ⟨g', off' + k * 5 + 4, none⟩ = some (.int .i64 x4))) (by kernel_rfl) ?_ (fun hHeld => ?_)
      · exact ⟨c0, c1, c2, c3, c4, d0, d1, d2, d3, d4⟩
      replace HG := Lib.hid (grown_drew HG.out)
      replace HP := Lib.hid (And.intro (HP.out.1.kept (grown_drew (grown_refl _ none))) (HP.out.2.kept (grown_drew (grown_refl _ none))))
      refine held_yes (i := 0) (d := some 17) (v := ?_) rfl rfl (by kernel_rfl) (by kernel_rfl) (by kernel_rfl) (fun _ _ _ h => h) (by rfl) ?_ (by assumption) ?_
      rotate_left
      · (intro w hSw; (try dsimp only at hSw); go_simp; (first | done | with_reducible rfl))
      try simp only [Act.put, List.setIfInBounds_toArray, List.set_cons_zero, List.set_cons_succ]
      refine held_yes (i := 1) (d := some 18) (v := ?_) rfl rfl (by kernel_rfl) (by kernel_rfl) (by kernel_rfl) (fun _ _ _ h => h) (by rfl) ?_ (by assumption) ?_
      rotate_left
      · (intro w hSw; (try dsimp only at hSw); go_simp; (first | done | with_reducible rfl))
      try simp only [Act.put, List.setIfInBounds_toArray, List.set_cons_zero, List.set_cons_succ]
      refine held_yes (i := 2) (d := some 19) (v := ?_) rfl rfl (by kernel_rfl) (by kernel_rfl) (by kernel_rfl) (fun _ _ _ h => h) (by rfl) ?_ (by assumption) ?_
      rotate_left
      · (intro w hSw; (try dsimp only at hSw); go_simp; (first | done | with_reducible rfl))
      try simp only [Act.put, List.setIfInBounds_toArray, List.set_cons_zero, List.set_cons_succ]
      refine held_yes (i := 3) (d := some 20) (v := ?_) rfl rfl (by kernel_rfl) (by kernel_rfl) (by kernel_rfl) (fun _ _ _ h => h) (by rfl) ?_ (by assumption) ?_
      rotate_left
      · (intro w hSw; (try dsimp only at hSw); go_simp; (first | done | with_reducible rfl))
      try simp only [Act.put, List.setIfInBounds_toArray, List.set_cons_zero, List.set_cons_succ]
      refine held_yes (i := 4) (d := some 21) (v := ?_) rfl rfl (by kernel_rfl) (by kernel_rfl) (by kernel_rfl) (fun _ _ _ h => h) (by rfl) ?_ (by assumption) ?_
      rotate_left
      · (intro w hSw; (try dsimp only at hSw); go_simp; (first | done | with_reducible rfl))
      try simp only [Act.put, List.setIfInBounds_toArray, List.set_cons_zero, List.set_cons_succ]
      refine held_yes (i := 5) (d := some 22) (v := ?_) rfl rfl (by kernel_rfl) (by kernel_rfl) (by kernel_rfl) (fun _ _ _ h => h) (by rfl) ?_ (by assumption) ?_
      rotate_left
      · (intro w hSw; (try dsimp only at hSw); go_simp; (first | done | with_reducible rfl))
      try simp only [Act.put, List.setIfInBounds_toArray, List.set_cons_zero, List.set_cons_succ]
      refine held_yes (i := 6) (d := some 23) (v := ?_) rfl rfl (by kernel_rfl) (by kernel_rfl) (by kernel_rfl) (fun _ _ _ h => h) (by rfl) ?_ (by assumption) ?_
      rotate_left
      · (intro w hSw; (try dsimp only at hSw); go_simp; (first | done | with_reducible rfl))
      try simp only [Act.put, List.setIfInBounds_toArray, List.set_cons_zero, List.set_cons_succ]
      refine held_yes (i := 7) (d := some 24) (v := ?_) rfl rfl (by kernel_rfl) (by kernel_rfl) (by kernel_rfl) (fun _ _ _ h => h) (by rfl) ?_ (by assumption) ?_
      rotate_left
      · (intro w hSw; (try dsimp only at hSw); go_simp; (first | done | with_reducible rfl))
      try simp only [Act.put, List.setIfInBounds_toArray, List.set_cons_zero, List.set_cons_succ]
      refine wpAnyH_ready (rs := [8]) (by kernel_rfl) (by simp) ?_
      refine AllReadyH.cons rfl (fun K hK => ?_) AllReadyH.nil
      go_simp
      go_at_call 122
      refine (eqPage_same _ _ _ _ _ _).mono ?_
      rintro e w1 ⟨rfl, hk1⟩
      replace HG := Lib.hid (grown_trans HG.out hk1)
      replace HP := Lib.hid (And.intro (HP.out.1.kept hk1) (HP.out.2.kept hk1))
      clear hk1 c0 c1 c2 c3 c4 d0 d1 d2 d3 d4
      obtain ⟨c0, c1, c2, c3, c4⟩ := HP.out.1
      obtain ⟨d0, d1, d2, d3, d4⟩ := HP.out.2
      refine hK.out _ _ ?_ (fun hHeld => ?_)
      · exact ⟨c0, c1, c2, c3, c4, d0, d1, d2, d3, d4⟩
      clear hK K
      try simp only [Act.put, List.setIfInBounds_toArray, List.set_cons_zero, List.set_cons_succ]
      refine held_yes (i := 9) (d := some 26) (v := ?_) rfl rfl (by kernel_rfl) (by kernel_rfl) (by kernel_rfl) (fun _ _ _ h => h) (by rfl) ?_ (by assumption) ?_
      rotate_left
      · (intro w hSw; (try dsimp only at hSw); go_simp; (first | done | with_reducible rfl))
      try simp only [Act.put, List.setIfInBounds_toArray, List.set_cons_zero, List.set_cons_succ]
      refine wpAnyH_done (by kernel_rfl) ?_ _
      go_wp2
      go_roundw
      case rel => exact ⟨k + 1, by omega, by go_num, HG.out⟩
      case measure => simp [intOf]; omega
    · have HG := Lib.hid hg
      clear hg
      go_wp2
      go_ret
      exact ⟨rfl, HG.out⟩
theorem eqBlock_same (m : Int) (A A' : Option Addr) (c c' n : Nat) (ps : List Pg) (w : World) (hl : ps.length = n) (hr : Row w w.heap.size A ps) (hr' : Row w w.heap.size A' ps) (hn : n ≤ 1048576) :
    Calls Try.prog 84 #[.agg #[.int .i64 m, .slice A n c], .agg #[.int .i64 m, .slice A' n c']] w (KeptV (.bool true) w) := by
  have HR := Lib.hid (And.intro hl (And.intro (hr.alloc (.cells #[.int .i64 m, .slice A n c] 96)) (hr'.alloc (.cells #[.int .i64 m, .slice A n c] 96))))
  clear hr hr' hl
  go_enter Try.func84, Try.ntmps84
  go_wp2_with (go_at_call 106; refine (eqPageS_same _ _ _ _ _ _ _ HR.out.1 (HR.out.2.1.alloc _).here (HR.out.2.2.alloc _).here hn).mono ?_; rintro e w' ⟨rfl, hk⟩)
  go_ret
  exact ⟨rfl, grown_trans (grown_alloc (grown_alloc (grown_refl _ _) _) _) hk⟩
end Go.Proofs.Ytfiajbkmklcaiaa
namespace Go.Proofs.Ytfiajbkmklcaiaa
open Go.ChangeShapes Go.WideShapes Go.ChangeAt Go.RowKit

/-- The page that a mark writes from number K on; n of them; n of them in front of what was there. -/
def mkP (K : Nat) : Pg := ⟨(K : Int) % 3 == 0, (K : Int) + 1, (K : Int) + 1 + 1, (K : Int) + 1 + 1 + 1, (K : Int) + 1 + 1 + 1 + 1⟩
def marks (k0 n : Nat) : List Pg := (List.range n).map fun j => mkP (k0 + 5 * j)
def markTo (k0 : Nat) (ps : List Pg) (i : Nat) : List Pg := marks k0 i ++ ps.drop i
theorem marks_length (k0 n : Nat) : (marks k0 n).length = n := by simp [marks]
theorem marks_at {k0 n i : Nat} (h : i < n) : (marks k0 n)[i]? = some (mkP (k0 + 5 * i)) := by simp [marks, h]
theorem markTo_length {k0 i : Nat} {ps : List Pg} (h : i ≤ ps.length) : (markTo k0 ps i).length = ps.length := by
  simp only [markTo, List.length_append, marks_length, List.length_drop]; omega
theorem markTo_zero (k0 : Nat) (ps : List Pg) : markTo k0 ps 0 = ps := by simp [markTo, marks]
theorem markTo_end (k0 : Nat) (ps : List Pg) : markTo k0 ps ps.length = marks k0 ps.length := by simp [markTo]
theorem markTo_step {k0 i : Nat} {ps : List Pg} (h : i < ps.length) : (markTo k0 ps i).set i (mkP (k0 + 5 * i)) = markTo k0 ps (i + 1) := by
  unfold markTo
  rw [List.set_append_right _ _ (by rw [marks_length]; omega), marks_length, Nat.sub_self]
  have e : marks k0 (i + 1) = marks k0 i ++ [mkP (k0 + 5 * i)] := by simp [marks, List.range_succ]
  rw [e, List.append_assoc]
  congr 1
  rw [List.drop_eq_getElem_cons h]
  rfl
/-- A box made ahead of the marks. -/
theorem grown_of_alloc {w w' : World} {o : Obj} {row : Option Nat} (h : (w.alloc o).grownBy w' row) : w.grownBy w' row := by
  have k := World.grownBy_alloc w o row
  exact grown_trans k h
/-- Marked: the pages lie in the same row as before. -/
def Marked (k0 : Nat) (A : Option Addr) (n c base : Nat) (w : World) (e : Ending) (w' : World) : Prop :=
  e = .returned (.int .i64 ((k0 + 5 * n : Nat) : Int)) ∧ Own w' base (.slice A n c) (marks k0 n) ∧ w.grownBy w' (Value.slice A n c).ownBlock
def MarkSt (w : World) (base g n c k0 : Nat) (ps : List Pg) (i K : Nat) (wr : World) : Prop :=
  i ≤ n ∧ K = k0 + 5 * i ∧ Own wr base (.slice (some ⟨g, 0, none⟩) n c) (markTo k0 ps i) ∧ w.grownBy wr (some g)
theorem grown_own5 {a w : World} {k o : Nat} (h : a.grownBy w (some k)) (u0 u1 u2 u3 u4 : Value) :
    a.grownBy (((((w.setCell ⟨k, o, none⟩ u0).setCell ⟨k, o + 1, none⟩ u1).setCell ⟨k, o + 2, none⟩ u2).setCell ⟨k, o + 3, none⟩ u3).setCell ⟨k, o + 4, none⟩ u4) (some k) :=
  grown_set (grown_set (grown_set (grown_set (grown_set h (.inl rfl) u0) (.inl rfl) u1) (.inl rfl) u2) (.inl rfl) u3) (.inl rfl) u4
theorem markPageS_some (g n c k0 base : Nat) (ps : List Pg) (w : World) (hl : ps.length = n) (ho : Own w base (.slice (some ⟨g, 0, none⟩) n c) ps) (hn : n ≤ 1048576) (hk : k0 ≤ 100000000) :
    Calls Try.prog 85 #[.slice (some ⟨g, 0, none⟩) n c, .int .i64 k0] w (Marked k0 (some ⟨g, 0, none⟩) n c base w) := by
  subst hl
  have HO := Lib.hid ho
  clear ho
  go_enter Try.func85, Try.ntmps85
  go_wp2
  go_loopw [1, 5] (fun t i wr => ∃ (k K : Nat), i = .int .i64 k ∧ t = .int .i64 K ∧ MarkSt w base g ps.length c k0 ps k K wr) (fun _ i _ => ps.length - (intOf i).toNat)
  case atStart => exact ⟨0, k0, rfl, rfl, Nat.zero_le _, by omega, by rw [markTo_zero]; exact HO.out, grown_refl _ _⟩
  case round =>
    obtain ⟨k, K, rfl, rfl, hkn, hK, hown, hg⟩ := hrel
    clear HO
    have hfl := markTo_length (k0 := k0) hkn
    have HS := Lib.hid (And.intro hown (And.intro hg (And.intro hK hfl)))
    by_cases hlt : k < ps.length
    · have hKb : K ≤ 1000000000 := by omega
      obtain ⟨q, hq⟩ := getD_at (show k < (markTo k0 ps k).length by omega)
      obtain ⟨d0, d1, d2, d3, d4⟩ := hown.at_ hfl hq
      have f0 := hown.frozen hfl (k * 5)
      have f1 := hown.frozen hfl (k * 5 + 1)
      have f2 := hown.frozen hfl (k * 5 + 2)
      have f3 := hown.frozen hfl (k * 5 + 3)
      have f4 := hown.frozen hfl (k * 5 + 4)
      clear hown hg hq hfl hK
      go_wp2
      go_roundw
      case rel => exact ⟨k + 1, K + 5, by go_num, by simp; omega, by omega, by have := HS.out.2.2.1; omega, by have h2 := markTo_step (k0 := k0) hlt; rw [← HS.out.2.2.1] at h2; rw [← h2]; exact HS.out.1.set5 HS.out.2.2.2 k (mkP K), grown_own5 HS.out.2.1 _ _ _ _ _⟩
      case measure => simp [intOf]; omega
    · obtain rfl : k = ps.length := by omega
      clear hown hg hfl hK
      go_wp2
      go_ret
      exact ⟨retI (by have := HS.out.2.2.1; omega), by have h := HS.out.1; rw [markTo_end] at h; exact h, HS.out.2.1⟩
theorem markPageS_any (A : Option Addr) (n c k0 base : Nat) (ps : List Pg) (w : World) (hl : ps.length = n) (ho : Own w base (.slice A n c) ps) (hn : n ≤ 1048576) (hk : k0 ≤ 100000000) :
    Calls Try.prog 85 #[.slice A n c, .int .i64 k0] w (Marked k0 A n c base w) := by
  rcases ho.form with ⟨e, rfl⟩ | ⟨g, cap, e, _⟩
  · injection e with e1 e2 e3
    subst e1; subst e2; subst e3
    have HO := Lib.hid ho
    clear ho hl
    go_enter Try.func85, Try.ntmps85
    go_wp2
    go_loopw [1, 5] (fun t i wr => t = .int .i64 k0 ∧ i = .int .i64 0 ∧ wr = w) (fun _ _ _ => 0)
    case atStart => exact ⟨rfl, rfl, rfl⟩
    case round =>
      obtain ⟨rfl, rfl, rfl⟩ := hrel
      go_wp2
      go_ret
      exact ⟨retI (by omega), HO.out, grown_refl _ _⟩
  · injection e with e1 e2 e3
    subst e1
    exact markPageS_some g n c k0 base ps w hl ho hn hk
end Go.Proofs.Ytfiajbkmklcaiaa
