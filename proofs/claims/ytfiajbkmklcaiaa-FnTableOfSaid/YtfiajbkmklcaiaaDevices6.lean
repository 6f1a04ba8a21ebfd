/- What the program's functions of chapter 5 answer: DeviceValid, FreePages.
   What the program's functions of chapter 5 answer, further: ReadPage.
   What the model's FreePages answers; counts of pages by their numbers. -/
import Derived.Test.YtfiajbkmklcaiaaDevices3
namespace Go.Proofs.Ytfiajbkmklcaiaa
open Go.ChangeShapes Go.WideShapes Go.ChangeAt Go.RowKit

theorem isCount_any (n : Int) (w : World) :
    Calls Try.prog 67 #[.int .i64 n] w fun e w' => e = .returned (.bool (inB n 1 12)) ∧ w = w' := by
  go_enter Try.func67, Try.ntmps67
  go_wp2
  all_goals (go_ret; refine ⟨retB ?_, rfl⟩; rw [Bool.eq_iff_iff]; simp [inB]; omega)
theorem isCount_val {n : Int} {V : Bool} (h : inB n 1 12 = V) (w : World) :
    Calls Try.prog 67 #[.int .i64 n] w fun e w' => e = .returned (.bool V) ∧ w = w' := h ▸ isCount_any n w
def allB (bs : List Bk) : Bool := bs.all fun b => blockB b.m b.ps
theorem all_no {bs : List Bk} {k : Nat} {b : Bk} (hp : bs[k]? = some b) (h : blockB b.m b.ps = false) : allB bs = false := by
  unfold allB
  rw [List.all_eq_false]
  exact ⟨b, List.mem_of_getElem? hp, by simp [h]⟩
theorem all_yes {bs : List Bk} (h : ∀ (j : Nat) (b : Bk), bs[j]? = some b → blockB b.m b.ps = true) : allB bs = true := by
  unfold allB
  rw [List.all_eq_true]
  intro b hb
  obtain ⟨j, hj⟩ := List.getElem?_of_mem hb
  exact h j b hj
theorem allBlocks_any (A : Option Addr) (n c : Nat) (bs : List Bk) (w : World) (hl : bs.length = n) (hr : DRow w w.heap.size A bs) (hn : n ≤ 1048576) (hp : ∀ b, b ∈ bs → b.ps.length ≤ 1048576) :
    Calls Try.prog 68 #[.slice A n c] w (KeptV (.bool (allB bs)) w) := by
  subst hl
  have HR := Lib.hid (And.intro hr hp)
  clear hr hp
  go_enter Try.func68, Try.ntmps68
  go_wp2
  go_loopw [7] (fun i wr => ∃ k : Nat, i = .int .i64 k ∧ DevRel w bs k wr) (fun i _ => bs.length - (intOf i).toNat)
  case atStart => exact ⟨0, rfl, Nat.zero_le _, fun j _ hj => absurd hj (by omega), grown_refl _ _⟩
  case round =>
    obtain ⟨k, rfl, hk, hj, hg⟩ := hrel
    by_cases hlt : k < bs.length
    · obtain ⟨g, off, m, Ab, cb, ps, rfl, _, hgw, hb, c0, c1, hrow⟩ := (HR.out.1.kept hg).at_ hlt
      have hpl := HR.out.2 _ (List.mem_of_getElem? hb)
      have n1 : g ≠ wr.heap.size := by omega
      have n2 : wr.heap.size ≠ g := by omega
      cases hv : blockB m ps
      · have HX := Lib.hid (And.intro hg (And.intro (all_no hb hv) (And.intro hv (And.intro (hrow.alloc (.cells #[.int .i64 m, .slice Ab ps.length cb] 96)).here hpl))))
        clear hv hb hg hj hrow hpl
        go_wp2_with (go_at_call 98; refine (blockValid_val rfl HX.out.2.2.1 _ HX.out.2.2.2.1.here HX.out.2.2.2.2).mono ?_; rintro e w' ⟨rfl, hkp⟩)
        go_ret
        exact ⟨retB HX.out.2.1.symm, grown_trans (grown_alloc HX.out.1 _) hkp⟩
      · have HX := Lib.hid (And.intro hg (And.intro (dev_step hj hb hv) (And.intro hv (And.intro (hrow.alloc (.cells #[.int .i64 m, .slice Ab ps.length cb] 96)).here hpl))))
        clear hv hb hg hj hrow hpl
        go_wp2_with (go_at_call 98; refine (blockValid_val rfl HX.out.2.2.1 _ HX.out.2.2.2.1.here HX.out.2.2.2.2).mono ?_; rintro e w' ⟨rfl, hkp⟩)
        go_roundw
        case rel => exact ⟨k + 1, by go_num, by omega, HX.out.2.1, grown_trans (grown_alloc HX.out.1 _) hkp⟩
        case measure => simp [intOf]; omega
    · have HX := Lib.hid (And.intro hg (all_yes (bs := bs) (fun j b hb => hj j b (by have := (List.getElem?_eq_some_iff.1 hb).1; omega) hb)))
      clear hg hj
      go_wp2
      go_ret
      exact ⟨retB HX.out.2.symm, HX.out.1⟩
theorem allBlocks_val {A : Option Addr} {n c : Nat} {bs : List Bk} {V : Bool} (hl : bs.length = n) (h : allB bs = V) (w : World) (hr : DRow w w.heap.size A bs) (hn : n ≤ 1048576) (hp : ∀ b, b ∈ bs → b.ps.length ≤ 1048576) :
    Calls Try.prog 68 #[.slice A n c] w (KeptV (.bool V) w) := h ▸ allBlocks_any A n c bs w hl hr hn hp
theorem deviceValid_any (A : Option Addr) (n c : Nat) (bs : List Bk) (w : World) (hl : bs.length = n) (hr : DRow w w.heap.size A bs) (hn : n ≤ 1048576) (hp : ∀ b, b ∈ bs → b.ps.length ≤ 1048576) :
    Calls Try.prog 22 #[.slice A n c] w (KeptV (.bool (devB bs)) w) := by
  have HR := Lib.hid (And.intro hl (And.intro hr hp))
  have e : devB bs = (inB n 1 12 && allB bs) := by rw [← hl]; rfl
  rw [e]
  clear hr hp hl e
  cases h1 : inB (n : Int) 1 12
  · have H1 := Lib.hid h1
    clear h1
    go_enter Try.func22, Try.ntmps22
    go_wp2_with (first | (go_at_call 67; refine (isCount_val H1.out _).mono ?_; rintro e w' ⟨rfl, rfl⟩) | (go_at_call 68; refine (allBlocks_any _ _ _ _ _ HR.out.1 HR.out.2.1 hn HR.out.2.2).mono ?_; rintro e w' ⟨rfl, hk⟩))
    go_ret
    exact ⟨rfl, grown_refl _ _⟩
  · cases h2 : allB bs
    all_goals
      have H1 := Lib.hid h1
      have H2 := Lib.hid h2
      clear h1 h2
      go_enter Try.func22, Try.ntmps22
      go_wp2_with (first | (go_at_call 67; refine (isCount_val H1.out _).mono ?_; rintro e w' ⟨rfl, rfl⟩) | (go_at_call 68; refine (allBlocks_val HR.out.1 H2.out _ HR.out.2.1 hn HR.out.2.2).mono ?_; rintro e w' ⟨rfl, hk⟩))
      go_ret
      exact ⟨rfl, hk⟩
theorem deviceValid_val {A : Option Addr} {n c : Nat} {bs : List Bk} {V : Bool} (hl : bs.length = n) (h : devB bs = V) (w : World) (hr : DRow w w.heap.size A bs) (hn : n ≤ 1048576) (hp : ∀ b, b ∈ bs → b.ps.length ≤ 1048576) :
    Calls Try.prog 22 #[.slice A n c] w (KeptV (.bool V) w) := h ▸ deviceValid_any A n c bs w hl hr hn hp

/-- How many pages are not written. -/
def freeV (bs : List Bk) : Nat := (bs.map fun b => 4 - cntF b.ps).sum
theorem free_take {bs : List Bk} {k : Nat} {b : Bk} (h : bs[k]? = some b) : freeV (bs.take (k + 1)) = freeV (bs.take k) + (4 - cntF b.ps) := by
  unfold freeV
  rw [List.take_add_one, h, List.map_append, List.sum_append]
  simp
theorem free_le (bs : List Bk) : freeV bs ≤ 4 * bs.length := by
  induction bs with
  | nil => simp [freeV]
  | cons p r ih =>
    simp only [freeV, List.map_cons, List.sum_cons, List.length_cons] at ih ⊢
    omega
end Go.Proofs.Ytfiajbkmklcaiaa
namespace Go.Proofs.Ytfiajbkmklcaiaa
open Go.ChangeShapes Go.WideShapes Go.ChangeAt Go.RowKit

/-- There is such a page. -/
def hasP (n : Nat) (a : Int) : Bool := decide (0 ≤ a) && decide (a < 4 * (n : Int))
theorem hasPage_any (A : Option Addr) (n c : Nat) (a : Int) (w : World) (hn : n ≤ 1048576) :
    Calls Try.prog 69 #[.slice A n c, .int .i64 a] w fun e w' => e = .returned (.bool (hasP n a)) ∧ w = w' := by
  go_enter Try.func69, Try.ntmps69
  go_wp2
  all_goals (go_ret; refine ⟨retB ?_, rfl⟩; rw [Bool.eq_iff_iff]; simp [hasP]; omega)
theorem hasPage_val {n : Nat} {a : Int} {V : Bool} (h : hasP n a = V) (A : Option Addr) (c : Nat) (w : World) (hn : n ≤ 1048576) :
    Calls Try.prog 69 #[.slice A n c, .int .i64 a] w fun e w' => e = .returned (.bool V) ∧ w = w' := h ▸ hasPage_any A n c a w hn
theorem readPage_no (A : Option Addr) (n c : Nat) (bs : List Bk) (at' : Int) (w : World) (hl : bs.length = n) (hr : DRow w w.heap.size A bs) (hn : n ≤ 1048576) (hp : ∀ b, b ∈ bs → b.ps.length ≤ 1048576) (hd : devB bs = false) :
    Calls Try.prog 23 #[.slice A n c, .int .i64 at'] w (PageRead pz w) := by
  have HD := Lib.hid (And.intro hl (And.intro hd (And.intro hp (hr.alloc (.cells #[.bool false, .int .i64 0, .int .i64 0, .int .i64 0, .int .i64 0] 37)))))
  clear hl hd hp hr
  go_enter Try.func23, Try.ntmps23
  go_wp2_with fail
  refine (deviceValid_val HD.out.1 HD.out.2.1 _ HD.out.2.2.2.here hn HD.out.2.2.1).mono ?_
  rintro e w1 ⟨rfl, hk⟩
  have hb := (Blk.new w 37 #[.bool false, .int .i64 0, .int .i64 0, .int .i64 0, .int .i64 0]).keep hk
  have HG := Lib.hid (grown_trans (grown_alloc (grown_refl w none) _) hk)
  obtain ⟨r0, r1, r2, r3, r4⟩ := cells5 hb
  have q0 := hb.frozen 0
  have q1 := hb.frozen 1
  have q2 := hb.frozen 2
  have q3 := hb.frozen 3
  have q4 := hb.frozen 4
  clear hb hk
  go_wp2
  exact bodyPost_ret (v := .tuple #[.agg #[.bool false, .int .i64 0, .int .i64 0, .int .i64 0, .int .i64 0], .bool false]) (by simp [results, Try.results23, go_sem, *]) rfl ⟨rfl, grown_put5n HG.out (Nat.le_refl _) _ _ _ _ _⟩
theorem readPage_out (A : Option Addr) (n c : Nat) (bs : List Bk) (at' : Int) (w : World) (hl : bs.length = n) (hr : DRow w w.heap.size A bs) (hn : n ≤ 1048576) (hp : ∀ b, b ∈ bs → b.ps.length ≤ 1048576) (hd : devB bs = true) (ha : hasP n at' = false) :
    Calls Try.prog 23 #[.slice A n c, .int .i64 at'] w (PageRead pz w) := by
  have HD := Lib.hid (And.intro hl (And.intro hd (And.intro hp (And.intro (hr.alloc (.cells #[.bool false, .int .i64 0, .int .i64 0, .int .i64 0, .int .i64 0] 37)) ha))))
  clear hl hd hp hr ha
  go_enter Try.func23, Try.ntmps23
  go_wp2_with fail
  refine (deviceValid_val HD.out.1 HD.out.2.1 _ HD.out.2.2.2.1.here hn HD.out.2.2.1).mono ?_
  rintro e w1 ⟨rfl, hk⟩
  have hb := (Blk.new w 37 #[.bool false, .int .i64 0, .int .i64 0, .int .i64 0, .int .i64 0]).keep hk
  have HG := Lib.hid (grown_trans (grown_alloc (grown_refl w none) _) hk)
  obtain ⟨r0, r1, r2, r3, r4⟩ := cells5 hb
  have q0 := hb.frozen 0
  have q1 := hb.frozen 1
  have q2 := hb.frozen 2
  have q3 := hb.frozen 3
  have q4 := hb.frozen 4
  clear hb hk
  go_wp2_with (go_at_call 69; refine (hasPage_val HD.out.2.2.2.2 _ _ _ (by omega)).mono ?_; rintro e w' ⟨rfl, rfl⟩)
  exact bodyPost_ret (v := .tuple #[.agg #[.bool false, .int .i64 0, .int .i64 0, .int .i64 0, .int .i64 0], .bool false]) (by simp [results, Try.results23, go_sem, *]) rfl ⟨rfl, grown_put5n HG.out (Nat.le_refl _) _ _ _ _ _⟩
set_option maxHeartbeats 1000000 in
/-- A page of a valid device by its number. -/
theorem pageOf_at (A : Option Addr) (n c : Nat) (bs : List Bk) (a : Nat) (p : Pg) (w : World) (hl : bs.length = n) (hr : DRow w w.heap.size A bs) (hd : devB bs = true) (hp : pageAt bs a = some p) :
    Calls Try.prog 62 #[.slice A n c, .int .i64 a] w (KeptV (.agg #[.bool p.f, .int .i64 p.a, .int .i64 p.b, .int .i64 p.c, .int .i64 p.d]) w) := by
  obtain ⟨⟨h1, h12⟩, hall⟩ := dev_parts hd
  have hk : a / 4 < bs.length := by
    unfold pageAt at hp
    rcases Nat.lt_or_ge (a / 4) bs.length with h | h
    · exact h
    · rw [List.getElem?_eq_none h] at hp; cases hp
  obtain ⟨k, hk'⟩ : ∃ k, k = a / 4 := ⟨_, rfl⟩
  obtain ⟨j, hj'⟩ : ∃ j, j = a % 4 := ⟨_, rfl⟩
  have hj4 : j < 4 := by omega
  have hkn : k < bs.length := by omega
  obtain ⟨g, off, m, Ab, cb, ps, rfl, _, _, hb, _, _, _⟩ := hr.at_ hkn
  have hv := hall _ (List.mem_of_getElem? hb)
  have hp4 : ps.length = 4 := (block_parts hv).2.1
  have hpg : ps[j]? = some p := by
    unfold pageAt at hp
    rw [← hk', hb, ← hj'] at hp
    exact hp
  have hn12 : n ≤ 12 := by omega
  have hkn2 : k < n := by omega
  have e1 : (a : Int) / 4 = (k : Int) := by omega
  have e2 : (a : Int) % 4 = (j : Int) := by omega
  have a0 : 0 ≤ (a : Int) := by omega
  have a1 : (a : Int) ≤ 48 := by omega
  have hrow := hr.alloc (.cells #[.bool false, .int .i64 0, .int .i64 0, .int .i64 0, .int .i64 0] 37)
  obtain ⟨g', off', m', Ab', cb', ps', e0, _, hgw, hb', c0, c1, hpr⟩ := hrow.at_ (i := k) (by omega)
  rw [hb] at hb'
  injection e0 with e0
  injection e0 with e3 e4
  subst e3; subst e4
  injection hb' with hb'
  injection hb' with e5 e6 e7 e8
  subst e5; subst e6; subst e7; subst e8
  obtain ⟨g2, off2, e9, _, hg2, hp5⟩ := hpr (by omega)
  obtain ⟨d0, d1, d2, d3, d4⟩ := hp5 _ _ hpg
  subst e9
  rw [hp4] at c1
  have hnb := Blk.new w 37 #[.bool false, .int .i64 0, .int .i64 0, .int .i64 0, .int .i64 0]
  obtain ⟨r0, r1, r2, r3, r4⟩ := cells5 hnb
  have q0 := hnb.frozen 0
  have q1 := hnb.frozen 1
  have q2 := hnb.frozen 2
  have q3 := hnb.frozen 3
  have q4 := hnb.frozen 4
  have k0 : decide ((0 : Int) ≤ k) = true := decide_eq_true (by omega)
  have k2 : (k : Int) < n := by omega
  have k3 : (j : Int) < 4 := by omega
  obtain ⟨f, x1, x2, x3, x4⟩ := p
  dsimp only at d0 d1 d2 d3 d4 ⊢
  clear hl hr hd hp hall hb hv hp4 hpg hk hk' hj' h1 h12 hkn hrow hpr hp5 hnb
  go_enter Try.func62, Try.ntmps62
  go_wp2
  exact bodyPost_ret (v := .agg #[.bool f, .int .i64 x1, .int .i64 x2, .int .i64 x3, .int .i64 x4]) (by simp [results, Try.results62, go_sem, *]) rfl ⟨rfl, grown_alloc (grown_refl w none) _⟩
set_option maxHeartbeats 1000000 in
theorem readPage_at (A : Option Addr) (n c : Nat) (bs : List Bk) (a : Nat) (p : Pg) (w : World) (hl : bs.length = n) (hr : DRow w w.heap.size A bs) (hd : devB bs = true) (hp : pageAt bs a = some p) :
    Calls Try.prog 23 #[.slice A n c, .int .i64 a] w (PageRead p w) := by
  obtain ⟨⟨h1, h12⟩, hall⟩ := dev_parts hd
  have hk : a / 4 < bs.length := by
    unfold pageAt at hp
    rcases Nat.lt_or_ge (a / 4) bs.length with h | h
    · exact h
    · rw [List.getElem?_eq_none h] at hp; cases hp
  have ha : hasP n (a : Int) = true := by simp [hasP]; omega
  have hn12 : n ≤ 1048576 := by omega
  have HD := Lib.hid (And.intro hl (And.intro hd (And.intro (fun (b : Bk) (hm : b ∈ bs) => show b.ps.length ≤ 1048576 by have := (block_parts (hall b hm)).2.1; omega) (And.intro (hr.alloc (.cells #[.bool false, .int .i64 0, .int .i64 0, .int .i64 0, .int .i64 0] 37)) (And.intro ha hp)))))
  clear hl hr hd hp ha hall hk h1 h12
  go_enter Try.func23, Try.ntmps23
  go_wp2_with fail
  refine (deviceValid_val HD.out.1 HD.out.2.1 _ HD.out.2.2.2.1.here hn12 HD.out.2.2.1).mono ?_
  rintro e w1 ⟨rfl, hk⟩
  have hb := (Blk.new w 37 #[.bool false, .int .i64 0, .int .i64 0, .int .i64 0, .int .i64 0]).keep hk
  have hG := grown_trans (grown_alloc (grown_refl w none) (.cells #[.bool false, .int .i64 0, .int .i64 0, .int .i64 0, .int .i64 0] 37)) hk
  have hrow := HD.out.2.2.2.1.kept hk
  have HW := Lib.hid (And.intro hb (And.intro hG hrow.here))
  clear hb hG hrow hk
  go_wp2_with (go_at_call 69; refine (hasPage_val HD.out.2.2.2.2.1 _ _ _ hn12).mono ?_; rintro e w' ⟨rfl, rfl⟩)
  refine (pageOf_at _ _ _ bs a p w1 HD.out.1 HW.out.2.2 HD.out.2.1 HD.out.2.2.2.2.2).mono ?_
  rintro e w2 ⟨rfl, hk⟩
  have hb := HW.out.1.keep hk
  have HG := Lib.hid (grown_trans HW.out.2.1 hk)
  obtain ⟨f, x1, x2, x3, x4⟩ := p
  dsimp only
  have HB := Lib.hid hb
  have hlt := hb.lt
  obtain ⟨r0, r1, r2, r3, r4⟩ := cells5 hb
  have q0 := hb.frozen 0
  have q1 := hb.frozen 1
  have q2 := hb.frozen 2
  have q3 := hb.frozen 3
  have q4 := hb.frozen 4
  clear hb hk
  go_wp2
  have hM := Blk.new (((((w2.setCell ⟨w.heap.size, 0, none⟩ (.bool f)).setCell ⟨w.heap.size, 1, none⟩ (.int .i64 x1)).setCell ⟨w.heap.size, 2, none⟩ (.int .i64 x2)).setCell ⟨w.heap.size, 3, none⟩ (.int .i64 x3)).setCell ⟨w.heap.size, 4, none⟩ (.int .i64 x4)) 37 #[.bool f, .int .i64 x1, .int .i64 x2, .int .i64 x3, .int .i64 x4]
  rw [show (((((w2.setCell ⟨w.heap.size, 0, none⟩ (.bool f)).setCell ⟨w.heap.size, 1, none⟩ (.int .i64 x1)).setCell ⟨w.heap.size, 2, none⟩ (.int .i64 x2)).setCell ⟨w.heap.size, 3, none⟩ (.int .i64 x3)).setCell ⟨w.heap.size, 4, none⟩ (.int .i64 x4)).heap.size = w2.heap.size by simp [World.setCell]] at hM
  have hN := Blk.new w2 37 #[.bool f, .int .i64 x1, .int .i64 x2, .int .i64 x3, .int .i64 x4]
  have u1 : w.heap.size ≠ w2.heap.size := by omega
  have u2 : w2.heap.size ≠ w.heap.size := by omega
  refine wp_region_held_drew (S := (fun w' => w'.cell? ⟨w2.heap.size, 0, none⟩ = some (.bool f) ∧ w'.cell? ⟨w2.heap.size, 1, none⟩ = some (.int .i64 x1) ∧ w'.cell? ⟨w2.heap.size, 2, none⟩ = some (.int .i64 x2) ∧ w'.cell? ⟨w2.heap.size, 3, none⟩ = some (.int .i64 x3) ∧ w'.cell? ⟨w2.heap.size, 4, none⟩ = some (.int .i64 x4))) (by kernel_rfl) ?_ (fun hHeld => ?_)
  · exact cells5 hN
  refine held_yes (i := 0) (d := some 20) (v := ?_) rfl rfl (by kernel_rfl) (by kernel_rfl) (by kernel_rfl) (fun _ _ _ h => h) (by rfl) ?_ (by assumption) ?_
  rotate_left
  · (intro w hSw; (try dsimp only at hSw); go_simp; (first | done | with_reducible rfl))
  try simp only [Act.put, List.setIfInBounds_toArray, List.set_cons_zero, List.set_cons_succ]
  refine held_yes (i := 1) (d := some 21) (v := ?_) rfl rfl (by kernel_rfl) (by kernel_rfl) (by kernel_rfl) (fun _ _ _ h => h) (by rfl) ?_ (by assumption) ?_
  rotate_left
  · (intro w hSw; (try dsimp only at hSw); go_simp; (first | done | with_reducible rfl))
  try simp only [Act.put, List.setIfInBounds_toArray, List.set_cons_zero, List.set_cons_succ]
  refine held_yes (i := 2) (d := some 22) (v := ?_) rfl rfl (by kernel_rfl) (by kernel_rfl) (by kernel_rfl) (fun _ _ _ h => h) (by rfl) ?_ (by assumption) ?_
  rotate_left
  · (intro w hSw; (try dsimp only at hSw); go_simp; (first | done | with_reducible rfl))
  try simp only [Act.put, List.setIfInBounds_toArray, List.set_cons_zero, List.set_cons_succ]
  refine wpAnyH_ready (rs := [3]) (by kernel_rfl) (by simp) ?_
  refine AllReadyH.cons rfl (fun K hK => ?_) AllReadyH.nil
  go_simp
  refine hK.out _ _ ?_ (fun hHeld => ?_)
  · exact cells5 hM.drew
  clear hK K
  try simp only [Act.put, List.setIfInBounds_toArray, List.set_cons_zero, List.set_cons_succ]
  refine wpAnyH_ready (rs := [4]) (by kernel_rfl) (by simp) ?_
  refine AllReadyH.cons rfl (fun K hK => ?_) AllReadyH.nil
  go_simp
  refine hK.out _ _ ?_ (fun hHeld => ?_)
  · with_reducible assumption
  clear hK K
  try simp only [Act.put, List.setIfInBounds_toArray, List.set_cons_zero, List.set_cons_succ]
  refine wpAnyH_done (by kernel_rfl) ?_ _
  clear hM hN
  go_wp2
  exact bodyPost_ret (v := .tuple #[.agg #[.bool f, .int .i64 x1, .int .i64 x2, .int .i64 x3, .int .i64 x4], .bool f]) (by simp [results, Try.results23, go_sem, *]) rfl ⟨rfl, grown_drew (grown_alloc (grown_put5n HG.out (Nat.le_refl _) _ _ _ _ _) _)⟩
end Go.Proofs.Ytfiajbkmklcaiaa
namespace Go.Proofs.Ytfiajbkmklcaiaa
open Go.ChangeShapes Go.WideShapes Go.ChangeAt Go.RowKit

/-- All pages of a device, in order. -/
def allP (bs : List Bk) : List Pg := bs.flatMap fun b => b.ps
theorem allP_at {bs : List Bk} (h : ∀ b, b ∈ bs → b.ps.length = 4) (a : Nat) : (allP bs)[a]? = pageAt bs a := by
  induction bs generalizing a with
  | nil => simp [allP, pageAt]
  | cons b r ih =>
    have hb : b.ps.length = 4 := h b (by simp)
    have e : allP (b :: r) = b.ps ++ allP r := by simp [allP]
    rw [e]
    rcases Nat.lt_or_ge a 4 with h4 | h4
    · rw [List.getElem?_append_left (by omega)]
      have e1 : a / 4 = 0 := by omega
      have e2 : a % 4 = a := by omega
      simp [pageAt, e1, e2]
    · rw [List.getElem?_append_right (by omega), hb, ih (fun b hm => h b (by simp [hm]))]
      have e1 : a / 4 = (a - 4) / 4 + 1 := by omega
      have e2 : a % 4 = (a - 4) % 4 := by omega
      simp only [pageAt, e1, e2, List.getElem?_cons_succ]
theorem allP_length {bs : List Bk} (h : ∀ b, b ∈ bs → b.ps.length = 4) : (allP bs).length = 4 * bs.length := by
  induction bs with
  | nil => rfl
  | cons b r ih =>
    have hb : b.ps.length = 4 := h b (by simp)
    have := ih (fun b hm => h b (by simp [hm]))
    simp only [allP, List.flatMap_cons, List.length_append, List.length_cons] at this ⊢
    omega
/-- How many of the pages before number a are not written; and are. -/
def freeTo (bs : List Bk) (a : Nat) : Nat := ((allP bs).take a).countP fun p => !p.f
def fullTo (bs : List Bk) (a : Nat) : Nat := cntF ((allP bs).take a)
theorem freeTo_step {bs : List Bk} (h : ∀ b, b ∈ bs → b.ps.length = 4) {a : Nat} {p : Pg} (hp : pageAt bs a = some p) : freeTo bs (a + 1) = freeTo bs a + if p.f then 0 else 1 := by
  rw [← allP_at h] at hp
  unfold freeTo
  rw [List.take_add_one, hp, List.countP_append]
  cases hf : p.f <;> simp [hf]
theorem fullTo_step {bs : List Bk} (h : ∀ b, b ∈ bs → b.ps.length = 4) {a : Nat} {p : Pg} (hp : pageAt bs a = some p) : fullTo bs (a + 1) = fullTo bs a + if p.f then 1 else 0 := by
  rw [← allP_at h] at hp
  exact cnt_take hp
theorem freeTo_le (bs : List Bk) (a : Nat) : freeTo bs a ≤ a := Nat.le_trans List.countP_le_length (by rw [List.length_take]; exact Nat.min_le_left _ _)
theorem fullTo_le (bs : List Bk) (a : Nat) : fullTo bs a ≤ a := Nat.le_trans List.countP_le_length (by rw [List.length_take]; exact Nat.min_le_left _ _)
theorem free_cnt (ps : List Pg) : (ps.countP fun p => !p.f) + cntF ps = ps.length := by
  unfold cntF
  induction ps with
  | nil => rfl
  | cons p r ih => cases hf : p.f <;> simp [hf] <;> omega
theorem freeTo_end {bs : List Bk} (h : ∀ b, b ∈ bs → b.ps.length = 4) : freeTo bs (4 * bs.length) = freeV bs := by
  unfold freeTo
  rw [List.take_of_length_le (by rw [allP_length h]; omega)]
  induction bs with
  | nil => rfl
  | cons b r ih =>
    have hb : b.ps.length = 4 := h b (by simp)
    have h1 := ih (fun b hm => h b (by simp [hm]))
    have h2 := free_cnt b.ps
    simp only [allP, freeV, List.flatMap_cons, List.countP_append, List.map_cons, List.sum_cons] at h1 ⊢
    omega
theorem both_end {bs : List Bk} (h : ∀ b, b ∈ bs → b.ps.length = 4) : freeV bs + fullTo bs (4 * bs.length) = 4 * bs.length := by
  rw [← freeTo_end h]
  unfold freeTo fullTo
  rw [List.take_of_length_le (by rw [allP_length h]; omega), free_cnt, allP_length h]
theorem page_some {bs : List Bk} (h : ∀ b, b ∈ bs → b.ps.length = 4) {a : Nat} (ha : a < 4 * bs.length) : ∃ p, pageAt bs a = some p := by
  rw [← allP_at h]
  exact ⟨_, List.getElem?_eq_getElem (by rw [allP_length h]; omega)⟩
end Go.Proofs.Ytfiajbkmklcaiaa
