/- What the program's functions of chapter 5 answer: DeviceValid, FreePages.
   What the program's functions of chapter 5 answer, further: ReadPage.
   What the model's FreePages answers; counts of pages by their numbers.
   What the program's functions of chapter 5 answer, further: copyDevice, NewDevice.
   What chapter 5 answers, further: EraseAt of both.
   What chapter 5 answers, further: Program of the program.
   What chapter 5 answers, further: Program of the model.
   What chapter 5 answers, further: Program of other arguments. -/
import Derived.Test.YteniikfgellhfaaDevices
import Derived.Test.YteniikfgellhfaaAggRows
namespace Go.Proofs.Yteniikfgellhfaa
open Go.ChangeShapes Go.WideShapes Go.ChangeAt Go.RowKit

theorem isCount_any (n : Int) (w : World) :
    Calls Try.prog 57 #[.int .i64 n] w fun e w' => e = .returned (.bool (inB n 1 12)) ∧ w = w' := by
  go_enter Try.func57, Try.ntmps57
  go_wp2
  all_goals (go_ret; refine ⟨retB ?_, rfl⟩; rw [Bool.eq_iff_iff]; simp [inB]; omega)
theorem isCount_val {n : Int} {V : Bool} (h : inB n 1 12 = V) (w : World) :
    Calls Try.prog 57 #[.int .i64 n] w fun e w' => e = .returned (.bool V) ∧ w = w' := h ▸ isCount_any n w
def allB (bs : List Bk) : Bool := bs.all fun b => blockB b.m b.ps
theorem all_no {bs : List Bk} {k : Nat} {b : Bk} (hp : bs[k]? = some b) (h : blockB b.m b.ps = false) : allB bs = false := by
  unfold allB
  rw [List.all_eq_false]
  exact ⟨b, List.mem_of_getElem? hp, by simp [h]⟩
theorem all_yes {bs : List Bk} (h : ∀ (j : Nat) (b : Bk), bs[j]? = some b → blockB b.m b.ps = true) : allB bs = true := by
  unfold allB
  rw [List.all_eq_true]
  intro b hb
  obtain ⟨j, hj⟩ := List.getElem?_of_mem hb
  exact h j b hj
theorem allBlocks_any (A : Option Addr) (n c : Nat) (bs : List Bk) (w : World) (hl : bs.length = n) (hr : DRow w w.heap.size A bs) (hn : n ≤ 1048576) (hp : ∀ b, b ∈ bs → b.ps.length ≤ 1048576) :
    Calls Try.prog 58 #[.slice A n c] w (KeptV (.bool (allB bs)) w) := by
  subst hl
  have HR := Lib.hid (And.intro hr hp)
  clear hr hp
  go_enter Try.func58, Try.ntmps58
  go_wp2
  go_loopw [7] (fun i wr => ∃ k : Nat, i = .int .i64 k ∧ DevRel w bs k wr) (fun i _ => bs.length - (intOf i).toNat)
  case atStart => exact ⟨0, rfl, Nat.zero_le _, fun j _ hj => absurd hj (by omega), grown_refl _ _⟩
  case round =>
    obtain ⟨k, rfl, hk, hj, hg⟩ := hrel
    by_cases hlt : k < bs.length
    · obtain ⟨g, off, m, Ab, cb, ps, rfl, _, hgw, hb, c0, c1, hrow⟩ := (HR.out.1.kept hg).at_ hlt
      have hpl := HR.out.2 _ (List.mem_of_getElem? hb)
      have n1 : g ≠ wr.heap.size := by omega
      have n2 : wr.heap.size ≠ g := by omega
      cases hv : blockB m ps
      · have HX := Lib.hid (And.intro hg (And.intro (all_no hb hv) (And.intro hv (And.intro (hrow.alloc (.cells #[.int .i64 m, .slice Ab ps.length cb] 87)).here hpl))))
        clear hv hb hg hj hrow hpl
        go_wp2_with (go_at_call 96; refine (blockValid_val rfl HX.out.2.2.1 _ HX.out.2.2.2.1.here HX.out.2.2.2.2).mono ?_; rintro e w' ⟨rfl, hkp⟩)
        go_ret
        exact ⟨retB HX.out.2.1.symm, grown_trans (grown_alloc HX.out.1 _) hkp⟩
      · have HX := Lib.hid (And.intro hg (And.intro (dev_step hj hb hv) (And.intro hv (And.intro (hrow.alloc (.cells #[.int .i64 m, .slice Ab ps.length cb] 87)).here hpl))))
        clear hv hb hg hj hrow hpl
        go_wp2_with (go_at_call 96; refine (blockValid_val rfl HX.out.2.2.1 _ HX.out.2.2.2.1.here HX.out.2.2.2.2).mono ?_; rintro e w' ⟨rfl, hkp⟩)
        go_roundw
        case rel => exact ⟨k + 1, by go_num, by omega, HX.out.2.1, grown_trans (grown_alloc HX.out.1 _) hkp⟩
        case measure => simp [intOf]; omega
    · have HX := Lib.hid (And.intro hg (all_yes (bs := bs) (fun j b hb => hj j b (by have := (List.getElem?_eq_some_iff.1 hb).1; omega) hb)))
      clear hg hj
      go_wp2
      go_ret
      exact ⟨retB HX.out.2.symm, HX.out.1⟩
theorem allBlocks_val {A : Option Addr} {n c : Nat} {bs : List Bk} {V : Bool} (hl : bs.length = n) (h : allB bs = V) (w : World) (hr : DRow w w.heap.size A bs) (hn : n ≤ 1048576) (hp : ∀ b, b ∈ bs → b.ps.length ≤ 1048576) :
    Calls Try.prog 58 #[.slice A n c] w (KeptV (.bool V) w) := h ▸ allBlocks_any A n c bs w hl hr hn hp
theorem deviceValid_any (A : Option Addr) (n c : Nat) (bs : List Bk) (w : World) (hl : bs.length = n) (hr : DRow w w.heap.size A bs) (hn : n ≤ 1048576) (hp : ∀ b, b ∈ bs → b.ps.length ≤ 1048576) :
    Calls Try.prog 17 #[.slice A n c] w (KeptV (.bool (devB bs)) w) := by
  have HR := Lib.hid (And.intro hl (And.intro hr hp))
  have e : devB bs = (inB n 1 12 && allB bs) := by rw [← hl]; rfl
  rw [e]
  clear hr hp hl e
  cases h1 : inB (n : Int) 1 12
  · have H1 := Lib.hid h1
    clear h1
    go_enter Try.func17, Try.ntmps17
    go_wp2_with (first | (go_at_call 57; refine (isCount_val H1.out _).mono ?_; rintro e w' ⟨rfl, rfl⟩) | (go_at_call 58; refine (allBlocks_any _ _ _ _ _ HR.out.1 HR.out.2.1 hn HR.out.2.2).mono ?_; rintro e w' ⟨rfl, hk⟩))
    go_ret
    exact ⟨rfl, grown_refl _ _⟩
  · cases h2 : allB bs
    all_goals
      have H1 := Lib.hid h1
      have H2 := Lib.hid h2
      clear h1 h2
      go_enter Try.func17, Try.ntmps17
      go_wp2_with (first | (go_at_call 57; refine (isCount_val H1.out _).mono ?_; rintro e w' ⟨rfl, rfl⟩) | (go_at_call 58; refine (allBlocks_val HR.out.1 H2.out _ HR.out.2.1 hn HR.out.2.2).mono ?_; rintro e w' ⟨rfl, hk⟩))
      go_ret
      exact ⟨rfl, hk⟩
theorem deviceValid_val {A : Option Addr} {n c : Nat} {bs : List Bk} {V : Bool} (hl : bs.length = n) (h : devB bs = V) (w : World) (hr : DRow w w.heap.size A bs) (hn : n ≤ 1048576) (hp : ∀ b, b ∈ bs → b.ps.length ≤ 1048576) :
    Calls Try.prog 17 #[.slice A n c] w (KeptV (.bool V) w) := h ▸ deviceValid_any A n c bs w hl hr hn hp

/-- How many pages are not written. -/
def freeV (bs : List Bk) : Nat := (bs.map fun b => 4 - cntF b.ps).sum
theorem free_take {bs : List Bk} {k : Nat} {b : Bk} (h : bs[k]? = some b) : freeV (bs.take (k + 1)) = freeV (bs.take k) + (4 - cntF b.ps) := by
  unfold freeV
  rw [List.take_add_one, h, List.map_append, List.sum_append]
  simp
theorem free_le (bs : List Bk) : freeV bs ≤ 4 * bs.length := by
  induction bs with
  | nil => simp [freeV]
  | cons p r ih =>
    simp only [freeV, List.map_cons, List.sum_cons, List.length_cons] at ih ⊢
    omega
theorem freePages_no (A : Option Addr) (n c : Nat) (bs : List Bk) (w : World) (hl : bs.length = n) (hr : DRow w w.heap.size A bs) (hn : n ≤ 1048576) (hp : ∀ b, b ∈ bs → b.ps.length ≤ 1048576) (hd : devB bs = false) :
    Calls Try.prog 18 #[.slice A n c] w (KeptV (.int .i64 (-1)) w) := by
  have HR := Lib.hid (And.intro hl (And.intro hd (And.intro hr hp)))
  clear hr hp hl hd
  go_enter Try.func18, Try.ntmps18
  go_wp2_with (go_at_call 17; refine (deviceValid_val HR.out.1 HR.out.2.1 _ HR.out.2.2.1 hn HR.out.2.2.2).mono ?_; rintro e w' ⟨rfl, hk⟩)
  go_ret
  exact ⟨rfl, hk⟩
theorem freePages_yes (A : Option Addr) (n c : Nat) (bs : List Bk) (w : World) (hl : bs.length = n) (hr : DRow w w.heap.size A bs) (hd : devB bs = true) :
    Calls Try.prog 18 #[.slice A n c] w (KeptV (.int .i64 (freeV bs)) w) := by
  subst hl
  obtain ⟨⟨h1, h12⟩, hall⟩ := dev_parts hd
  have HR := Lib.hid (And.intro hd (And.intro hr (And.intro (fun (b : Bk) (hm : b ∈ bs) => (block_parts (hall b hm)).2.1) (fun (b : Bk) (hm : b ∈ bs) => show b.ps.length ≤ 1048576 by have := (block_parts (hall b hm)).2.1; omega))))
  clear hr hd hall
  go_enter Try.func18, Try.ntmps18
  go_wp2_with (first | (go_at_call 17; refine (deviceValid_val rfl HR.out.1 _ HR.out.2.1 (by omega) HR.out.2.2.2).mono ?_; rintro e w1 ⟨rfl, hk1⟩) | fail)
  have HK := Lib.hid hk1
  clear hk1
  go_loopw [3, 11] (fun s i wr => ∃ k : Nat, k ≤ bs.length ∧ i = .int .i64 k ∧ s = .int .i64 (freeV (bs.take k) : Nat) ∧ w.grownBy wr none) (fun _ i _ => bs.length - (intOf i).toNat)
  case atStart => exact ⟨0, Nat.zero_le _, rfl, rfl, HK.out⟩
  case round =>
    obtain ⟨k, hk, rfl, rfl, hg⟩ := hrel
    clear HK
    by_cases hlt : k < bs.length
    · obtain ⟨g, off, m, Ab, cb, ps, rfl, _, hgw, hb, c0, c1, hrow⟩ := (HR.out.2.1.kept hg).at_ hlt
      have hp4 : ps.length = 4 := HR.out.2.2.1 _ (List.mem_of_getElem? hb)
      have hc4 : cntF ps ≤ 4 := by have := pcnt_le ps; omega
      have hfl : freeV (bs.take k) ≤ 48 := by have h := free_le (bs.take k); rw [List.length_take] at h; omega
      have n1 : g ≠ wr.heap.size := by omega
      have n2 : wr.heap.size ≠ g := by omega
      have HX := Lib.hid (And.intro hg (And.intro (free_take hb) (And.intro (hrow.alloc (.cells #[.int .i64 m, .slice Ab ps.length cb] 87)).here hp4)))
      clear hb hg hrow hp4
      go_wp2_with (go_at_call 59; refine (written_any _ _ _ _ HX.out.2.2.1.here (by have := HX.out.2.2.2; omega)).mono ?_; rintro e w' ⟨rfl, hkp⟩)
      go_roundw
      case rel => exact ⟨k + 1, by omega, by go_num, by rw [HX.out.2.1]; go_num, grown_trans (grown_alloc HX.out.1 _) hkp⟩
      case measure => simp [intOf]; omega
    · obtain rfl : k = bs.length := by omega
      have HX := Lib.hid (And.intro hg (show freeV (bs.take bs.length) = freeV bs by rw [List.take_length]))
      clear hg
      go_wp2
      go_ret
      exact ⟨retI (by rw [HX.out.2]), HX.out.1⟩
end Go.Proofs.Yteniikfgellhfaa
namespace Go.Proofs.Yteniikfgellhfaa
open Go.ChangeShapes Go.WideShapes Go.ChangeAt Go.RowKit

/-- There is such a page. -/
def hasP (n : Nat) (a : Int) : Bool := decide (0 ≤ a) && decide (a < 4 * (n : Int))
theorem hasPage_any (A : Option Addr) (n c : Nat) (a : Int) (w : World) (hn : n ≤ 1048576) :
    Calls Try.prog 56 #[.slice A n c, .int .i64 a] w fun e w' => e = .returned (.bool (hasP n a)) ∧ w = w' := by
  go_enter Try.func56, Try.ntmps56
  go_wp2
  all_goals (go_ret; refine ⟨retB ?_, rfl⟩; rw [Bool.eq_iff_iff]; simp [hasP]; omega)
theorem hasPage_val {n : Nat} {a : Int} {V : Bool} (h : hasP n a = V) (A : Option Addr) (c : Nat) (w : World) (hn : n ≤ 1048576) :
    Calls Try.prog 56 #[.slice A n c, .int .i64 a] w fun e w' => e = .returned (.bool V) ∧ w = w' := h ▸ hasPage_any A n c a w hn
theorem readPage_no (A : Option Addr) (n c : Nat) (bs : List Bk) (at' : Int) (w : World) (hl : bs.length = n) (hr : DRow w w.heap.size A bs) (hn : n ≤ 1048576) (hp : ∀ b, b ∈ bs → b.ps.length ≤ 1048576) (hd : devB bs = false) :
    Calls Try.prog 15 #[.slice A n c, .int .i64 at'] w (PageRead pz w) := by
  have HD := Lib.hid (And.intro hl (And.intro hd (And.intro hp (hr.alloc (.cells #[.bool false, .int .i64 0, .int .i64 0, .int .i64 0, .int .i64 0] 30)))))
  clear hl hd hp hr
  go_enter Try.func15, Try.ntmps15
  go_wp2_with fail
  refine (deviceValid_val HD.out.1 HD.out.2.1 _ HD.out.2.2.2.here hn HD.out.2.2.1).mono ?_
  rintro e w1 ⟨rfl, hk⟩
  have hb := (Blk.new w 30 #[.bool false, .int .i64 0, .int .i64 0, .int .i64 0, .int .i64 0]).keep hk
  have HG := Lib.hid (grown_trans (grown_alloc (grown_refl w none) _) hk)
  obtain ⟨r0, r1, r2, r3, r4⟩ := cells5 hb
  have q0 := hb.frozen 0
  have q1 := hb.frozen 1
  have q2 := hb.frozen 2
  have q3 := hb.frozen 3
  have q4 := hb.frozen 4
  clear hb hk
  go_wp2
  exact bodyPost_ret (v := .tuple #[.agg #[.bool false, .int .i64 0, .int .i64 0, .int .i64 0, .int .i64 0], .bool false]) (by simp [results, Try.results15, go_sem, *]) rfl ⟨rfl, grown_put5n HG.out (Nat.le_refl _) _ _ _ _ _⟩
theorem readPage_out (A : Option Addr) (n c : Nat) (bs : List Bk) (at' : Int) (w : World) (hl : bs.length = n) (hr : DRow w w.heap.size A bs) (hn : n ≤ 1048576) (hp : ∀ b, b ∈ bs → b.ps.length ≤ 1048576) (hd : devB bs = true) (ha : hasP n at' = false) :
    Calls Try.prog 15 #[.slice A n c, .int .i64 at'] w (PageRead pz w) := by
  have HD := Lib.hid (And.intro hl (And.intro hd (And.intro hp (And.intro (hr.alloc (.cells #[.bool false, .int .i64 0, .int .i64 0, .int .i64 0, .int .i64 0] 30)) ha))))
  clear hl hd hp hr ha
  go_enter Try.func15, Try.ntmps15
  go_wp2_with fail
  refine (deviceValid_val HD.out.1 HD.out.2.1 _ HD.out.2.2.2.1.here hn HD.out.2.2.1).mono ?_
  rintro e w1 ⟨rfl, hk⟩
  have hb := (Blk.new w 30 #[.bool false, .int .i64 0, .int .i64 0, .int .i64 0, .int .i64 0]).keep hk
  have HG := Lib.hid (grown_trans (grown_alloc (grown_refl w none) _) hk)
  obtain ⟨r0, r1, r2, r3, r4⟩ := cells5 hb
  have q0 := hb.frozen 0
  have q1 := hb.frozen 1
  have q2 := hb.frozen 2
  have q3 := hb.frozen 3
  have q4 := hb.frozen 4
  clear hb hk
  go_wp2_with (go_at_call 56; refine (hasPage_val HD.out.2.2.2.2 _ _ _ (by omega)).mono ?_; rintro e w' ⟨rfl, rfl⟩)
  exact bodyPost_ret (v := .tuple #[.agg #[.bool false, .int .i64 0, .int .i64 0, .int .i64 0, .int .i64 0], .bool false]) (by simp [results, Try.results15, go_sem, *]) rfl ⟨rfl, grown_put5n HG.out (Nat.le_refl _) _ _ _ _ _⟩
set_option maxHeartbeats 1000000 in
/-- A page of a valid device by its number. -/
theorem pageOf_at (A : Option Addr) (n c : Nat) (bs : List Bk) (a : Nat) (p : Pg) (w : World) (hl : bs.length = n) (hr : DRow w w.heap.size A bs) (hd : devB bs = true) (hp : pageAt bs a = some p) :
    Calls Try.prog 52 #[.slice A n c, .int .i64 a] w (KeptV (.agg #[.bool p.f, .int .i64 p.a, .int .i64 p.b, .int .i64 p.c, .int .i64 p.d]) w) := by
  obtain ⟨⟨h1, h12⟩, hall⟩ := dev_parts hd
  have hk : a / 4 < bs.length := by
    unfold pageAt at hp
    rcases Nat.lt_or_ge (a / 4) bs.length with h | h
    · exact h
    · rw [List.getElem?_eq_none h] at hp; cases hp
  obtain ⟨k, hk'⟩ : ∃ k, k = a / 4 := ⟨_, rfl⟩
  obtain ⟨j, hj'⟩ : ∃ j, j = a % 4 := ⟨_, rfl⟩
  have hj4 : j < 4 := by omega
  have hkn : k < bs.length := by omega
  obtain ⟨g, off, m, Ab, cb, ps, rfl, _, _, hb, _, _, _⟩ := hr.at_ hkn
  have hv := hall _ (List.mem_of_getElem? hb)
  have hp4 : ps.length = 4 := (block_parts hv).2.1
  have hpg : ps[j]? = some p := by
    unfold pageAt at hp
    rw [← hk', hb, ← hj'] at hp
    exact hp
  have hn12 : n ≤ 12 := by omega
  have hkn2 : k < n := by omega
  have e1 : (a : Int) / 4 = (k : Int) := by omega
  have e2 : (a : Int) % 4 = (j : Int) := by omega
  have a0 : 0 ≤ (a : Int) := by omega
  have a1 : (a : Int) ≤ 48 := by omega
  have hrow := hr.alloc (.cells #[.bool false, .int .i64 0, .int .i64 0, .int .i64 0, .int .i64 0] 30)
  obtain ⟨g', off', m', Ab', cb', ps', e0, _, hgw, hb', c0, c1, hpr⟩ := hrow.at_ (i := k) (by omega)
  rw [hb] at hb'
  injection e0 with e0
  injection e0 with e3 e4
  subst e3; subst e4
  injection hb' with hb'
  injection hb' with e5 e6 e7 e8
  subst e5; subst e6; subst e7; subst e8
  obtain ⟨g2, off2, e9, _, hg2, hp5⟩ := hpr (by omega)
  obtain ⟨d0, d1, d2, d3, d4⟩ := hp5 _ _ hpg
  subst e9
  rw [hp4] at c1
  have hnb := Blk.new w 30 #[.bool false, .int .i64 0, .int .i64 0, .int .i64 0, .int .i64 0]
  obtain ⟨r0, r1, r2, r3, r4⟩ := cells5 hnb
  have q0 := hnb.frozen 0
  have q1 := hnb.frozen 1
  have q2 := hnb.frozen 2
  have q3 := hnb.frozen 3
  have q4 := hnb.frozen 4
  have k0 : decide ((0 : Int) ≤ k) = true := decide_eq_true (by omega)
  have k2 : (k : Int) < n := by omega
  have k3 : (j : Int) < 4 := by omega
  obtain ⟨f, x1, x2, x3, x4⟩ := p
  dsimp only at d0 d1 d2 d3 d4 ⊢
  clear hl hr hd hp hall hb hv hp4 hpg hk hk' hj' h1 h12 hkn hrow hpr hp5 hnb
  go_enter Try.func52, Try.ntmps52
  go_wp2
  exact bodyPost_ret (v := .agg #[.bool f, .int .i64 x1, .int .i64 x2, .int .i64 x3, .int .i64 x4]) (by simp [results, Try.results52, go_sem, *]) rfl ⟨rfl, grown_alloc (grown_refl w none) _⟩
set_option maxHeartbeats 1000000 in
theorem readPage_at (A : Option Addr) (n c : Nat) (bs : List Bk) (a : Nat) (p : Pg) (w : World) (hl : bs.length = n) (hr : DRow w w.heap.size A bs) (hd : devB bs = true) (hp : pageAt bs a = some p) :
    Calls Try.prog 15 #[.slice A n c, .int .i64 a] w (PageRead p w) := by
  obtain ⟨⟨h1, h12⟩, hall⟩ := dev_parts hd
  have hk : a / 4 < bs.length := by
    unfold pageAt at hp
    rcases Nat.lt_or_ge (a / 4) bs.length with h | h
    · exact h
    · rw [List.getElem?_eq_none h] at hp; cases hp
  have ha : hasP n (a : Int) = true := by simp [hasP]; omega
  have hn12 : n ≤ 1048576 := by omega
  have HD := Lib.hid (And.intro hl (And.intro hd (And.intro (fun (b : Bk) (hm : b ∈ bs) => show b.ps.length ≤ 1048576 by have := (block_parts (hall b hm)).2.1; omega) (And.intro (hr.alloc (.cells #[.bool false, .int .i64 0, .int .i64 0, .int .i64 0, .int .i64 0] 30)) (And.intro ha hp)))))
  clear hl hr hd hp ha hall hk h1 h12
  go_enter Try.func15, Try.ntmps15
  go_wp2_with fail
  refine (deviceValid_val HD.out.1 HD.out.2.1 _ HD.out.2.2.2.1.here hn12 HD.out.2.2.1).mono ?_
  rintro e w1 ⟨rfl, hk⟩
  have hb := (Blk.new w 30 #[.bool false, .int .i64 0, .int .i64 0, .int .i64 0, .int .i64 0]).keep hk
  have hG := grown_trans (grown_alloc (grown_refl w none) (.cells #[.bool false, .int .i64 0, .int .i64 0, .int .i64 0, .int .i64 0] 30)) hk
  have hrow := HD.out.2.2.2.1.kept hk
  have HW := Lib.hid (And.intro hb (And.intro hG hrow.here))
  clear hb hG hrow hk
  go_wp2_with (go_at_call 56; refine (hasPage_val HD.out.2.2.2.2.1 _ _ _ hn12).mono ?_; rintro e w' ⟨rfl, rfl⟩)
  refine (pageOf_at _ _ _ bs a p w1 HD.out.1 HW.out.2.2 HD.out.2.1 HD.out.2.2.2.2.2).mono ?_
  rintro e w2 ⟨rfl, hk⟩
  have hb := HW.out.1.keep hk
  have HG := Lib.hid (grown_trans HW.out.2.1 hk)
  obtain ⟨f, x1, x2, x3, x4⟩ := p
  dsimp only
  have HB := Lib.hid hb
  have hlt := hb.lt
  obtain ⟨r0, r1, r2, r3, r4⟩ := cells5 hb
  have q0 := hb.frozen 0
  have q1 := hb.frozen 1
  have q2 := hb.frozen 2
  have q3 := hb.frozen 3
  have q4 := hb.frozen 4
  clear hb hk
  go_wp2
  have hM := Blk.new (((((w2.setCell ⟨w.heap.size, 0, none⟩ (.bool f)).setCell ⟨w.heap.size, 1, none⟩ (.int .i64 x1)).setCell ⟨w.heap.size, 2, none⟩ (.int .i64 x2)).setCell ⟨w.heap.size, 3, none⟩ (.int .i64 x3)).setCell ⟨w.heap.size, 4, none⟩ (.int .i64 x4)) 30 #[.bool f, .int .i64 x1, .int .i64 x2, .int .i64 x3, .int .i64 x4]
  rw [show (((((w2.setCell ⟨w.heap.size, 0, none⟩ (.bool f)).setCell ⟨w.heap.size, 1, none⟩ (.int .i64 x1)).setCell ⟨w.heap.size, 2, none⟩ (.int .i64 x2)).setCell ⟨w.heap.size, 3, none⟩ (.int .i64 x3)).setCell ⟨w.heap.size, 4, none⟩ (.int .i64 x4)).heap.size = w2.heap.size by simp [World.setCell]] at hM
  have hN := Blk.new w2 30 #[.bool f, .int .i64 x1, .int .i64 x2, .int .i64 x3, .int .i64 x4]
  have u1 : w.heap.size ≠ w2.heap.size := by omega
  have u2 : w2.heap.size ≠ w.heap.size := by omega
  refine wp_region_held_drew (S := (fun w' => w'.cell? ⟨w2.heap.size, 0, none⟩ = some (.bool f) ∧ w'.cell? ⟨w2.heap.size, 1, none⟩ = some (.int .i64 x1) ∧ w'.cell? ⟨w2.heap.size, 2, none⟩ = some (.int .i64 x2) ∧ w'.cell? ⟨w2.heap.size, 3, none⟩ = some (.int .i64 x3) ∧ w'.cell? ⟨w2.heap.size, 4, none⟩ = some (.int .i64 x4))) (by kernel_rfl) ?_ (fun hHeld => ?_)
  · exact cells5 hN
  refine heldY 0 20 ?_
  refine heldY 1 21 ?_
  refine heldY 2 22 ?_
  refine wpAnyH_ready (rs := [3]) (by kernel_rfl) (by simp) ?_
  refine AllReadyH.cons rfl (fun K hK => ?_) AllReadyH.nil
  go_simp
  refine hK.out _ _ ?_ (fun hHeld => ?_)
  · exact cells5 hM.drew
  clear hK K
  try simp only [Act.put, List.setIfInBounds_toArray, List.set_cons_zero, List.set_cons_succ]
  refine wpAnyH_ready (rs := [4]) (by kernel_rfl) (by simp) ?_
  refine AllReadyH.cons rfl (fun K hK => ?_) AllReadyH.nil
  go_simp
  refine hK.out _ _ ?_ (fun hHeld => ?_)
  · with_reducible assumption
  clear hK K
  try simp only [Act.put, List.setIfInBounds_toArray, List.set_cons_zero, List.set_cons_succ]
  refine wpAnyH_done (by kernel_rfl) ?_ _
  clear hM hN
  go_wp2
  exact bodyPost_ret (v := .tuple #[.agg #[.bool f, .int .i64 x1, .int .i64 x2, .int .i64 x3, .int .i64 x4], .bool f]) (by simp [results, Try.results15, go_sem, *]) rfl ⟨rfl, grown_drew (grown_alloc (grown_put5n HG.out (Nat.le_refl _) _ _ _ _ _) _)⟩
end Go.Proofs.Yteniikfgellhfaa
namespace Go.Proofs.Yteniikfgellhfaa
open Go.ChangeShapes Go.WideShapes Go.ChangeAt Go.RowKit

/-- All pages of a device, in order. -/
def allP (bs : List Bk) : List Pg := bs.flatMap fun b => b.ps
theorem allP_at {bs : List Bk} (h : ∀ b, b ∈ bs → b.ps.length = 4) (a : Nat) : (allP bs)[a]? = pageAt bs a := by
  induction bs generalizing a with
  | nil => simp [allP, pageAt]
  | cons b r ih =>
    have hb : b.ps.length = 4 := h b (by simp)
    have e : allP (b :: r) = b.ps ++ allP r := by simp [allP]
    rw [e]
    rcases Nat.lt_or_ge a 4 with h4 | h4
    · rw [List.getElem?_append_left (by omega)]
      have e1 : a / 4 = 0 := by omega
      have e2 : a % 4 = a := by omega
      simp [pageAt, e1, e2]
    · rw [List.getElem?_append_right (by omega), hb, ih (fun b hm => h b (by simp [hm]))]
      have e1 : a / 4 = (a - 4) / 4 + 1 := by omega
      have e2 : a % 4 = (a - 4) % 4 := by omega
      simp only [pageAt, e1, e2, List.getElem?_cons_succ]
theorem allP_length {bs : List Bk} (h : ∀ b, b ∈ bs → b.ps.length = 4) : (allP bs).length = 4 * bs.length := by
  induction bs with
  | nil => rfl
  | cons b r ih =>
    have hb : b.ps.length = 4 := h b (by simp)
    have := ih (fun b hm => h b (by simp [hm]))
    simp only [allP, List.flatMap_cons, List.length_append, List.length_cons] at this ⊢
    omega
/-- How many of the pages before number a are not written; and are. -/
def freeTo (bs : List Bk) (a : Nat) : Nat := ((allP bs).take a).countP fun p => !p.f
def fullTo (bs : List Bk) (a : Nat) : Nat := cntF ((allP bs).take a)
theorem freeTo_step {bs : List Bk} (h : ∀ b, b ∈ bs → b.ps.length = 4) {a : Nat} {p : Pg} (hp : pageAt bs a = some p) : freeTo bs (a + 1) = freeTo bs a + if p.f then 0 else 1 := by
  rw [← allP_at h] at hp
  unfold freeTo
  rw [List.take_add_one, hp, List.countP_append]
  cases hf : p.f <;> simp [hf]
theorem fullTo_step {bs : List Bk} (h : ∀ b, b ∈ bs → b.ps.length = 4) {a : Nat} {p : Pg} (hp : pageAt bs a = some p) : fullTo bs (a + 1) = fullTo bs a + if p.f then 1 else 0 := by
  rw [← allP_at h] at hp
  exact cnt_take hp
theorem freeTo_le (bs : List Bk) (a : Nat) : freeTo bs a ≤ a := Nat.le_trans List.countP_le_length (by rw [List.length_take]; exact Nat.min_le_left _ _)
theorem fullTo_le (bs : List Bk) (a : Nat) : fullTo bs a ≤ a := Nat.le_trans List.countP_le_length (by rw [List.length_take]; exact Nat.min_le_left _ _)
theorem free_cnt (ps : List Pg) : (ps.countP fun p => !p.f) + cntF ps = ps.length := by
  unfold cntF
  induction ps with
  | nil => rfl
  | cons p r ih => cases hf : p.f <;> simp [hf] <;> omega
theorem freeTo_end {bs : List Bk} (h : ∀ b, b ∈ bs → b.ps.length = 4) : freeTo bs (4 * bs.length) = freeV bs := by
  unfold freeTo
  rw [List.take_of_length_le (by rw [allP_length h]; omega)]
  induction bs with
  | nil => rfl
  | cons b r ih =>
    have hb : b.ps.length = 4 := h b (by simp)
    have h1 := ih (fun b hm => h b (by simp [hm]))
    have h2 := free_cnt b.ps
    simp only [allP, freeV, List.flatMap_cons, List.countP_append, List.map_cons, List.sum_cons] at h1 ⊢
    omega
theorem both_end {bs : List Bk} (h : ∀ b, b ∈ bs → b.ps.length = 4) : freeV bs + fullTo bs (4 * bs.length) = 4 * bs.length := by
  rw [← freeTo_end h]
  unfold freeTo fullTo
  rw [List.take_of_length_le (by rw [allP_length h]; omega), free_cnt, allP_length h]
theorem page_some {bs : List Bk} (h : ∀ b, b ∈ bs → b.ps.length = 4) {a : Nat} (ha : a < 4 * bs.length) : ∃ p, pageAt bs a = some p := by
  rw [← allP_at h]
  exact ⟨_, List.getElem?_eq_getElem (by rw [allP_length h]; omega)⟩
end Go.Proofs.Yteniikfgellhfaa
namespace Go.Proofs.Yteniikfgellhfaa
open Go.ChangeShapes Go.WideShapes Go.ChangeAt Go.RowKit

/-- A new device of n blocks. -/
def zs (n : Nat) : List Bk := List.replicate n ⟨0, none, 0, [pz, pz, pz, pz]⟩
theorem zs_at {n k : Nat} (h : k < n) : (zs n)[k]? = some ⟨0, none, 0, [pz, pz, pz, pz]⟩ := by simp [zs, h]
theorem zs_length (n : Nat) : (zs n).length = n := by simp [zs]
theorem devMade_nil {w w' : World} (h : w.grownBy w' none) : DevMade [] 0 w (.returned (.slice none 0 0)) w' := ⟨none, 0, [], rfl, rfl, rfl, ⟨World.ownsRow_nil _ _ _ _, fun b hb => by simp at hb, fun i j b b' a a' _ hi => by simp at hi⟩, h⟩
theorem dev_empty (w : World) : DOwn (w.alloc (.cells #[] 87)) w.heap.size (.slice (some ⟨w.heap.size, 0, none⟩) 0 0) [] :=
  ⟨World.ownsRow_lit (e := 87) (size := 2) w #[] 0 (Nat.le_refl _) (by simp) rfl, fun b hb => by simp at hb, fun i j b b' a a' _ hi => by simp at hi⟩
theorem specNewDevice_no (m : Int) (w : World) (h : inB m 1 12 = false) : Calls Try.prog 88 #[.int .i64 m] w (DevMade [] 0 w) := by
  have HV := Lib.hid h
  have HO := Lib.hid (dev_empty w)
  clear h
  go_enter Try.func88, Try.ntmps88
  go_wp2
  go_loopw [3, 4] (fun v i wr => v = .slice (some ⟨w.heap.size, 0, none⟩) 0 0 ∧ i = .int .i64 0 ∧ wr = w.alloc (.cells #[] 87)) (fun _ _ _ => 0)
  case atStart => exact ⟨rfl, rfl, rfl⟩
  case round =>
    obtain ⟨rfl, rfl, rfl⟩ := hrel
    by_cases hm : 0 < m
    all_goals
      go_wp2_with (go_at_call 95; refine (in_any _ _ _ _).mono ?_; rintro e w' ⟨rfl, rfl⟩; rw [HV.out])
      go_ret
      exact ⟨_, _, [], rfl, rfl, rfl, HO.out, grown_alloc (grown_refl _ _) _⟩
theorem specNewDevice_yes (n : Nat) (w : World) (h : inB (n : Int) 1 12 = true) : Calls Try.prog 88 #[.int .i64 n] w (DevMade (zs n) n w) := by
  obtain ⟨h1, h12⟩ := inB_iff.1 h
  have HV := Lib.hid h
  have HO := Lib.hid (dev_empty w)
  clear h
  go_enter Try.func88, Try.ntmps88
  go_wp2
  go_loopw [3, 4] (fun v i wr => ∃ k : Nat, i = .int .i64 k ∧ CopyRel w (zs n) k v wr) (fun _ i _ => n - (intOf i).toNat)
  case atStart => exact ⟨0, rfl, Nat.zero_le _, [], rfl, rfl, HO.out, grown_alloc (grown_refl _ _) _⟩
  case round =>
    obtain ⟨k, rfl, hk, cs, hcl, hcs, ho, hg⟩ := hrel
    clear HO
    rw [zs_length] at hk
    by_cases hlt : k < n
    · have HX := Lib.hid (And.intro hg (And.intro ho (And.intro hcs hcl)))
      clear hg ho hcs hcl
      go_wp2_with (first | (go_at_call 95; refine (in_any _ _ _ _).mono ?_; rintro e w' ⟨rfl, rfl⟩; rw [HV.out]) | fail)
      refine (specNewBlock_any _ _ (by decide)).mono ?_
      rintro e w1 ⟨A1, d1, rfl, _, ho1, hk1⟩
      obtain ⟨v3, w3, hrun, ho3, hg3, _⟩ := append_block (w1.alloc (.cells #[.int .i64 0, .slice A1 4 d1] 87)) w.heap.size u3 cs.length 0 A1 4 d1 (bv cs) w1.heap.size ((HX.out.2.1.keep hk1).keep (grown_alloc (grown_refl _ none) _)).1 (Blk.new w1 _ _) (by have := HX.out.2.2.2; omega) (by have h1 := HX.out.1.size; have h2 := hk1.size; simp only [size_alloc1]; omega)
      have hk2 : wr.grownBy (w1.alloc (.cells #[.int .i64 0, .slice A1 4 d1] 87)) none := grown_trans hk1 (grown_alloc (grown_refl _ none) _)
      have hp1 : Own (w1.alloc (.cells #[.int .i64 0, .slice A1 4 d1] 87)) wr.heap.size (.slice A1 4 d1) [pz, pz, pz, pz] := ho1.keep (grown_alloc (grown_refl _ none) _)
      have hD := HX.out.2.1.push (m := 0) hk2 hp1 HX.out.1.size ho3 hg3
      have hG := grown_joinR (grown_trans HX.out.1 hk2) hg3 (fun g' e => (World.ownsRow.lt HX.out.2.1.1 g' e).1)
      have HY := Lib.hid (And.intro hD hG)
      have HRUN := Lib.hid hrun
      clear ho1 hk1 ho3 hg3 hk2 hp1 hD hG hrun
      go_wp2_with (at_builtin; refine wpList_append_run _ rfl (.tmp 15) (.tmp 17) _ _ rfl _ _ rfl rfl HRUN.out ?_)
      go_roundw
      case rel => exact ⟨k + 1, by go_num, by rw [zs_length]; omega, _, by simp [HX.out.2.2.2], by rw [List.map_append, HX.out.2.2.1, List.take_add_one, zs_at hlt, List.map_append]; rfl, HY.out.1, HY.out.2⟩
      case measure => simp [intOf]; omega
    · obtain rfl : k = n := by omega
      rw [List.take_of_length_le (by rw [zs_length]; omega)] at hcs
      rcases ho.form with ⟨_, e0⟩ | ⟨g, cap, rfl, _⟩
      · rw [e0] at hcl; simp at hcl; omega
      · rw [hcl] at ho
        have HX := Lib.hid (And.intro hg (And.intro ho (And.intro hcs hcl)))
        clear hg ho hcs hcl
        go_wp2
        go_ret
        exact ⟨some ⟨g, 0, none⟩, cap, cs, by show Ending.returned (.slice (some ⟨g, 0, none⟩) cs.length cap) = _; rw [HX.out.2.2.2], HX.out.2.2.2, HX.out.2.2.1, HX.out.2.1, HX.out.1⟩
end Go.Proofs.Yteniikfgellhfaa
namespace Go.Proofs.Yteniikfgellhfaa
open Go.ChangeShapes Go.WideShapes Go.ChangeAt Go.RowKit

/-- There is such a block. -/
def hasB (n : Nat) (a : Int) : Bool := decide (0 ≤ a) && decide (a < (n : Int))
theorem hasB_in {n : Nat} {a : Int} (h : hasB n a = false) : inB a 0 ((n : Int) - 1) = false := by
  cases h2 : inB a 0 ((n : Int) - 1)
  · rfl
  · obtain ⟨h3, h4⟩ := inB_iff.1 h2
    simp [hasB] at h
    omega
theorem devMade2_nil {w w' : World} {r : Value} (h : w.grownBy w' none) : DevMade2 [] 0 r w (.returned (.tuple #[.slice none 0 0, r])) w' := ⟨none, 0, [], rfl, rfl, rfl, ⟨World.ownsRow_nil _ _ _ _, fun b hb => by simp at hb, fun i j b b' a a' _ hi => by simp at hi⟩, h⟩
theorem devMade2_empty {w w' : World} {r : Value} (h : w.grownBy w' none) : DevMade2 [] 0 r w (.returned (.tuple #[.slice (some ⟨w'.heap.size, 0, none⟩) 0 0, r])) (w'.alloc (.cells #[] 87)) :=
  ⟨_, _, [], rfl, rfl, rfl, (dev_empty w').base_le h.size, grown_alloc h _⟩
end Go.Proofs.Yteniikfgellhfaa
namespace Go.Proofs.Yteniikfgellhfaa
open Go.ChangeShapes Go.WideShapes Go.ChangeAt Go.RowKit

/-- The boxed page, and the device that came in. -/
def PIn (w : World) (A : Option Addr) (bs : List Bk) (x1 x2 x3 x4 : Int) (wr : World) : Prop :=
  Blk wr w.heap.size 30 #[.bool true, .int .i64 x1, .int .i64 x2, .int .i64 x3, .int .i64 x4] ∧ DRow wr w.heap.size A bs ∧ w.grownBy wr none
/-- Block k of a device, of four pages. -/
def BAt (bs : List Bk) (k : Nat) (m : Int) (Ab : Option Addr) (cb : Nat) (ps : List Pg) : Prop := bs[k]? = some ⟨m, Ab, cb, ps⟩ ∧ ps.length = 4
section
variable {w wr w' : World} {A : Option Addr} {bs : List Bk} {x1 x2 x3 x4 : Int}
theorem PIn.start (h : DRow w w.heap.size A bs) : PIn w A bs x1 x2 x3 x4 (w.alloc (.cells #[.bool true, .int .i64 x1, .int .i64 x2, .int .i64 x3, .int .i64 x4] 30)) := ⟨Blk.new w _ _, h.alloc _, grown_alloc (grown_refl _ _) _⟩
theorem PIn.keep (h : PIn w A bs x1 x2 x3 x4 wr) (k : wr.grownBy w' none) : PIn w A bs x1 x2 x3 x4 w' := ⟨h.1.keep k, h.2.1.kept k, grown_trans h.2.2 k⟩
theorem PIn.put (h : PIn w A bs x1 x2 x3 x4 wr) {D : Nat} (hD : w.heap.size < D) (u0 u1 : Value) : PIn w A bs x1 x2 x3 x4 ((wr.setCell ⟨D, 0, none⟩ u0).setCell ⟨D, 1, none⟩ u1) := by
  refine ⟨(h.1.far (by show w.heap.size ≠ D; omega) _).far (by show w.heap.size ≠ D; omega) _, ?_, grown_put (grown_put h.2.2 (Nat.le_of_lt hD) _) (Nat.le_of_lt hD) _⟩
  refine h.2.1.keep (by simp [World.setCell]) fun q hq _ => ?_
  rw [World.cell?_setCell_other _ ⟨D, 1, none⟩ q _ (fun e => by subst e; simp at hq; omega)]
  exact World.cell?_setCell_other _ ⟨D, 0, none⟩ q _ (fun e => by subst e; simp at hq; omega)
theorem PIn.block {g off k : Nat} {m : Int} {Ab : Option Addr} {cb : Nat} {ps : List Pg} (h : PIn w (some ⟨g, off, none⟩) bs x1 x2 x3 x4 wr) (hk : BAt bs k m Ab cb ps) :
    wr.cell? ⟨g, off + k * 2, none⟩ = some (.int .i64 m) ∧ wr.cell? ⟨g, off + k * 2 + 1, none⟩ = some (.slice Ab 4 cb) ∧ Row wr wr.heap.size Ab ps := by
  obtain ⟨g', off', m', Ab', cb', ps', e0, _, _, hb', c0, c1, hpr⟩ := h.2.1.at_ (i := k) (List.getElem?_eq_some_iff.1 hk.1).1
  rw [hk.1] at hb'
  injection e0 with e0
  injection e0 with e3 e4
  subst e3; subst e4
  injection hb' with hb'
  injection hb' with e5 e6 e7 e8
  subst e5; subst e6; subst e7; subst e8
  rw [hk.2] at c1
  exact ⟨c0, c1, hpr.here⟩
theorem DOwn.far {base D : Nat} {v : Value} {cs : List Bk} (h : DOwn wr base v cs) (hD : wr.heap.size ≤ D) (u0 u1 : Value) : DOwn ((wr.setCell ⟨D, 0, none⟩ u0).setCell ⟨D, 1, none⟩ u1) base v cs :=
  h.keep (grown_put (grown_put (grown_refl wr none) hD _) hD _)
end
theorem write_len {m : Int} {ps ps1 : List Pg} {x1 x2 x3 x4 r : Int} (h : WriteIs m ps true x1 x2 x3 x4 m 4 ps1 r) (hp : ps.length = 4) : ps1.length = 4 := by
  rcases h with ⟨_, _, h4, _⟩ | ⟨_, _, _, _, _, _, rfl, _⟩ | ⟨k, _, _, _, _, _, _, _, rfl, _⟩
  · omega
  · exact hp
  · rw [List.length_set]; exact hp
/-- The number that Program tells. -/
def progV (k : Nat) (r : Int) : Int := if r < 0 then -1 else (k : Int) * 4 + r
theorem progV_pos (k : Nat) {r : Int} (h : 0 ≤ r) : progV k r = (k : Int) * 4 + r := by
  unfold progV
  rw [if_neg (by omega)]
end Go.Proofs.Yteniikfgellhfaa
namespace Go.Proofs.Yteniikfgellhfaa
open Go.ChangeShapes Go.WideShapes Go.ChangeAt Go.RowKit

theorem DOwn.farV {wr : World} {base g2 n c D : Nat} {cs : List Bk} {q : Array Value} (h : DOwn wr base (.slice (some ⟨g2, 0, none⟩) n c) cs) (hV : Blk wr D 87 q) (hne : g2 ≠ D) (u0 u1 : Value) :
    DOwn ((wr.setCell ⟨D, 0, none⟩ u0).setCell ⟨D, 1, none⟩ u1) base (.slice (some ⟨g2, 0, none⟩) n c) cs := by
  have h1 : (Value.slice (some ⟨g2, 0, none⟩) n c).ownBlock ≠ some D := by simp [Value.ownBlock, hne]
  refine ⟨World.ownsRow.kept (World.ownsRow.kept h.1 (grown_set (g := D) (grown_refl _ _) (.inl rfl) u0) (.inr h1)) (grown_set (g := D) (grown_refl _ _) (.inl rfl) u1) (.inr h1), fun b hb => ?_, h.2.2⟩
  have hb1 := h.2.1 b hb
  have h2 : b.row.ownBlock ≠ some D := by
    obtain ⟨m, A, c', ps⟩ := b
    rcases A with _ | ad
    · simp [Bk.row, Value.ownBlock]
    · have h3 : Own wr base (.slice (some ad) ps.length c') ps := hb1
      have := h3.apart hV (by decide)
      simpa [Bk.row, Value.ownBlock] using (Ne.symm this)
  exact (hb1.to_put h2 u0).to_put h2 u1
set_option maxHeartbeats 4000000 in
theorem specProgram_at (A : Option Addr) (n c k : Nat) (bs : List Bk) (m : Int) (Ab : Option Addr) (cb : Nat) (ps ps1 : List Pg) (x1 x2 x3 x4 r : Int) (w : World) (hl : bs.length = n) (hr : DRow w w.heap.size A bs) (hd : devB bs = true) (hk : bs[k]? = some ⟨m, Ab, cb, ps⟩)
    (hpg : pageB true x1 x2 x3 x4 = true) (hw : WriteIs m ps true x1 x2 x3 x4 m 4 ps1 r) (hr4 : -1 ≤ r ∧ r < 4) :
    Calls Try.prog 118 #[.slice A n c, .int .i64 k, .agg #[.bool true, .int .i64 x1, .int .i64 x2, .int .i64 x3, .int .i64 x4]] w (DevMade2 ((bs.map Bk.is).set k (m, ps1)) n (.int .i64 (progV k r)) w) := by
  obtain ⟨⟨h1, h12⟩, hall⟩ := dev_parts hd
  have hkn : k < bs.length := (List.getElem?_eq_some_iff.1 hk).1
  have hv := hall _ (List.mem_of_getElem? hk)
  have hp4 : ps.length = 4 := (block_parts hv).2.1
  have hall4 : ∀ b, b ∈ bs → b.ps.length = 4 := fun b hm => (block_parts (hall b hm)).2.1
  have ha : inB (k : Int) 0 ((n : Int) - 1) = true := inB_iff.2 ⟨by omega, by omega⟩
  have HD := Lib.hid (And.intro (show BAt bs k m Ab cb ps from ⟨hk, hp4⟩) (And.intro hp4 (And.intro hl (And.intro hd (And.intro (fun (b : Bk) (hm : b ∈ bs) => show b.ps.length ≤ 1048576 by have := hall4 b hm; omega) (And.intro hall4 ha))))))
  have HW := Lib.hid (And.intro hw (write_len hw hp4))
  have HPG := Lib.hid (And.intro hpg (show (true && pageB true x1 x2 x3 x4) = true by rw [hpg]; rfl))
  have hn12 : n ≤ 12 := by omega
  have hn1 : 1 ≤ n := by omega
  have hkn2 : k < n := by omega
  have k3 : (k : Int) < n := by omega
  obtain ⟨hr1, hr2⟩ := hr4
  obtain ⟨g, off, _, _, _, _, rfl, hgw, _, _, _, _, _⟩ := hr.at_ hkn
  have HS := Lib.hid (PIn.start (x1 := x1) (x2 := x2) (x3 := x3) (x4 := x4) hr)
  clear hl hd hr ha hk hp4 hall hall4 hv h1 h12 hkn hpg hw
  go_enter Try.func118, Try.ntmps118
  go_wp2_with fail
  refine (specDeviceValid_val HD.out.2.2.1 HD.out.2.2.2.1 _ HS.out.2.1.here (by omega) HD.out.2.2.2.2.1).mono ?_
  rintro e w1 ⟨rfl, hk1⟩
  replace HS := Lib.hid (HS.out.keep hk1)
  clear hk1
  obtain ⟨p0, p1, p2, p3, p4⟩ := cells5 HS.out.1
  go_wp2_with (first | (go_at_call 95; refine (in_any _ _ _ _).mono ?_; rintro e w' ⟨rfl, rfl⟩; rw [HD.out.2.2.2.2.2.2]) | fail)
  refine (specValid_val HPG.out.1 _).mono ?_
  rintro e wp ⟨rfl, hk1⟩
  replace HS := Lib.hid (HS.out.keep hk1)
  clear hk1 p0 p1 p2 p3 p4
  obtain ⟨p0, p1, p2, p3, p4⟩ := cells5 HS.out.1
  go_wp2_with fail
  refine (specCopyDev_any _ _ _ _ _ HD.out.2.2.1 HS.out.2.1.here (by omega) HD.out.2.2.2.2.2.1).mono ?_
  rintro e w2 ⟨A2, c2, cs, rfl, hcl, hcs, ho2, hk2⟩
  have hz1 := HS.out.2.2.size
  have hD := ho2.base_le (base' := w.heap.size) hz1
  rcases hD.form with ⟨_, e10⟩ | ⟨g2, cap, e11, hg1, hg2, _, _⟩
  · rw [e10] at hcl; simp at hcl; omega
  injection e11 with e11 e12 e13
  subst e11; subst e13
  have HCB := Lib.hid (And.intro hcl (And.intro hcs (fun (b' : Bk) (a' : Addr) (hb' : b' ∈ cs) (ha' : b'.A = some a') => show a'.block < w2.heap.size from (World.ownsRow.lt (ho2.2.1 b' hb') a'.block (by simp [Bk.row, ha', Value.ownBlock])).2)))
  have HC := Lib.hid hD
  replace HS := Lib.hid (HS.out.keep hk2)
  clear hD ho2 hk2 hcl hcs e12 hz1 p0 p1 p2 p3 p4
  have hB0 : w.heap.size ≤ w2.heap.size := HS.out.2.2.size
  have hlt2 := HS.out.1.lt
  obtain ⟨b0, b1, hrow⟩ := HS.out.block HD.out.1
  obtain ⟨p0, p1, p2, p3, p4⟩ := cells5 HS.out.1
  have HRW := Lib.hid hrow
  clear hrow
  go_upto_region 4 with fail
  go_cut [9, 10] (fun sp sr wx => ∃ (V c3 : Nat) (A3 : Option Addr), sp = .pointer (some ⟨V, 0, none⟩) ∧ sr = .int .i64 r ∧ Blk wx V 87 #[.int .i64 m, .slice A3 4 c3] ∧ Own wx w2.heap.size (.slice A3 4 c3) ps1 ∧ w2.heap.size ≤ V ∧ PIn w (some ⟨g, off, none⟩) bs x1 x2 x3 x4 wx ∧ DOwn wx w.heap.size (.slice (some ⟨g2, 0, none⟩) n c2) cs)
  case first =>
    refine wp_region_held_drew (S := (fun w' => w'.cell? ⟨g, off + k * 2, none⟩ = some (.int .i64 m) ∧ w'.cell? ⟨g, off + k * 2 + 1, none⟩ = some (.slice Ab 4 cb) ∧ w'.cell? ⟨w.heap.size, 0, none⟩ = some (.bool true) ∧ w'.cell? ⟨w.heap.size, 1, none⟩ = some (.int .i64 x1) ∧ w'.cell? ⟨w.heap.size, 2, none⟩ = some (.int .i64 x2) ∧ w'.cell? ⟨w.heap.size, 3, none⟩ = some (.int .i64 x3) ∧ w'.cell? ⟨w.heap.size, 4, none⟩ = some (.int .i64 x4))) (by kernel_rfl) ?_ (fun hHeld => ?_)
    · exact ⟨b0, b1, p0, p1, p2, p3, p4⟩
    replace HS := Lib.hid (HS.out.keep (grown_drew (grown_refl _ none)))
    replace HC := Lib.hid (HC.out.keep (grown_drew (grown_refl _ none)))
    clear b0 b1 p0 p1 p2 p3 p4 HRW
    obtain ⟨b0, b1, hrow⟩ := HS.out.block HD.out.1
    obtain ⟨p0, p1, p2, p3, p4⟩ := cells5 HS.out.1
    have HRW := Lib.hid hrow
    clear hrow
    refine heldY 0 36 ?_
    refine heldY 1 37 ?_
    refine heldY 2 38 ?_
    refine heldY 3 39 ?_
    refine heldY 4 40 ?_
    refine wpAnyH_ready (rs := [5, 9]) (by kernel_rfl) (by simp) ?_
    refine AllReadyH.cons rfl (fun K hK => ?_) (AllReadyH.cons rfl (fun K hK => ?_) AllReadyH.nil)
    · go_simp
      go_at_call 119
      refine (specWrite_val HW.out.1 _ _ _ _ HD.out.2.1 HRW.out (by omega)).mono ?_
      rintro e w3 ⟨An, cn, rfl, hl, ho, hk⟩
      have hz := hk.size
      (try simp only [World.drew] at hz)
      have HM := Lib.hid (And.intro hl (ho.base_le (base' := w2.heap.size) (by (try simp only [World.drew]); omega)))
      clear hl ho
      replace HS := Lib.hid (HS.out.keep hk)
      replace HC := Lib.hid (HC.out.keep hk)
      clear hk
      clear b0 b1 p0 p1 p2 p3 p4 HRW
      obtain ⟨b0, b1, hrow⟩ := HS.out.block HD.out.1
      obtain ⟨p0, p1, p2, p3, p4⟩ := cells5 HS.out.1
      have HRW := Lib.hid hrow
      clear hrow
      refine hK.out _ _ ?_ (fun hHeld => ?_)
      · exact ⟨b0, b1, p0, p1, p2, p3, p4⟩
      clear hK K
      try simp only [Act.put, List.setIfInBounds_toArray, List.set_cons_zero, List.set_cons_succ]
      refine heldY 6 35 ?_
      refine heldY 7 42 ?_
      refine heldY 8 43 ?_
      refine wpAnyH_ready (rs := [9]) (by kernel_rfl) (by simp) ?_
      refine AllReadyH.cons rfl (fun K hK => ?_) AllReadyH.nil
      have hd0 : Blk (World.alloc w3 (.cells #[.int .i64 0, .slice none 0 0] 87)) w3.heap.size 87 #[.int .i64 0, .slice none 0 0] := by have h := Blk.new w3 87 #[.int .i64 0, .slice none 0 0]; (try simp only [World.drew] at h); exact h
      have HV := Lib.hid hd0
      clear hd0
      have HSx := Lib.hid HS.out
      have HCx := Lib.hid HC.out
      replace HS := Lib.hid (HS.out.keep (grown_alloc (grown_refl _ none) (.cells #[.int .i64 0, .slice none 0 0] 87)))
      replace HC := Lib.hid (HC.out.keep (grown_alloc (grown_refl _ none) (.cells #[.int .i64 0, .slice none 0 0] 87)))
      go_simp
      clear b0 b1 p0 p1 p2 p3 p4 HRW
      obtain ⟨b0, b1, hrow⟩ := HS.out.block HD.out.1
      obtain ⟨p0, p1, p2, p3, p4⟩ := cells5 HS.out.1
      have HRW := Lib.hid hrow
      clear hrow
      refine hK.out _ _ ?_ (fun hHeld => ?_)
      · exact ⟨b0, b1, p0, p1, p2, p3, p4⟩
      clear hK K
      try simp only [Act.put, List.setIfInBounds_toArray, List.set_cons_zero, List.set_cons_succ]
      obtain ⟨d0, d1, e0, e1⟩ := cells2' HV.out
      have na0 : w.heap.size ≠ w3.heap.size := by omega
      have nb0 : w3.heap.size ≠ w.heap.size := by omega
      have na1 : g ≠ w3.heap.size := by omega
      have nb1 : w3.heap.size ≠ g := by omega
      refine wpAnyH_ready (rs := [10]) (by kernel_rfl) (by simp) ?_
      refine AllReadyH.cons rfl (fun K hK => ?_) AllReadyH.nil
      go_simp
      refine hK.out _ _ ?_ (fun hHeld => ?_)
      · first | assumption | go_keep
      clear hK K
      try simp only [Act.put, List.setIfInBounds_toArray, List.set_cons_zero, List.set_cons_succ]
      refine wpAnyH_ready (rs := [11]) (by kernel_rfl) (by simp) ?_
      refine AllReadyH.cons rfl (fun K hK => ?_) AllReadyH.nil
      go_simp
      refine hK.out _ _ ?_ (fun hHeld => ?_)
      · first | assumption | go_keep
      clear hK K
      try simp only [Act.put, List.setIfInBounds_toArray, List.set_cons_zero, List.set_cons_succ]
      refine wpAnyH_done (by kernel_rfl) ?_ _
      go_wp2_with fail
      go_meet
      exact ⟨_, _, _, rfl, rfl, Blk.new w3 _ _, HM.out.2.keep (grown_alloc (grown_refl _ none) _), by omega, HSx.out.keep (grown_alloc (grown_refl _ none) _), HCx.out.keep (grown_alloc (grown_refl _ none) _)⟩
    · have hd0 : Blk (World.alloc w2.drew (.cells #[.int .i64 0, .slice none 0 0] 87)) w2.heap.size 87 #[.int .i64 0, .slice none 0 0] := by have h := Blk.new w2.drew 87 #[.int .i64 0, .slice none 0 0]; (try simp only [World.drew] at h); exact h
      have HV := Lib.hid hd0
      clear hd0
      have HSx := Lib.hid HS.out
      have HCx := Lib.hid HC.out
      replace HS := Lib.hid (HS.out.keep (grown_alloc (grown_refl _ none) (.cells #[.int .i64 0, .slice none 0 0] 87)))
      replace HC := Lib.hid (HC.out.keep (grown_alloc (grown_refl _ none) (.cells #[.int .i64 0, .slice none 0 0] 87)))
      go_simp
      clear b0 b1 p0 p1 p2 p3 p4 HRW
      obtain ⟨b0, b1, hrow⟩ := HS.out.block HD.out.1
      obtain ⟨p0, p1, p2, p3, p4⟩ := cells5 HS.out.1
      have HRW := Lib.hid hrow
      clear hrow
      refine hK.out _ _ ?_ (fun hHeld => ?_)
      · exact ⟨b0, b1, p0, p1, p2, p3, p4⟩
      clear hK K
      try simp only [Act.put, List.setIfInBounds_toArray, List.set_cons_zero, List.set_cons_succ]
      refine wpAnyH_ready (rs := [5]) (by kernel_rfl) (by simp) ?_
      refine AllReadyH.cons rfl (fun K hK => ?_) AllReadyH.nil
      go_simp
      go_at_call 119
      refine (specWrite_val HW.out.1 _ _ _ _ HD.out.2.1 HRW.out (by omega)).mono ?_
      rintro e w3 ⟨An, cn, rfl, hl, ho, hk⟩
      have hz := hk.size
      (try simp only [World.drew, size_alloc1] at hz)
      have HM := Lib.hid (And.intro hl (ho.base_le (base' := w2.heap.size) (by (try simp only [World.drew, size_alloc1]); omega)))
      clear hl ho
      replace HV := Lib.hid (HV.out.keep hk)
      replace HS := Lib.hid (HS.out.keep hk)
      replace HC := Lib.hid (HC.out.keep hk)
      clear hk
      clear b0 b1 p0 p1 p2 p3 p4 HRW
      obtain ⟨b0, b1, hrow⟩ := HS.out.block HD.out.1
      obtain ⟨p0, p1, p2, p3, p4⟩ := cells5 HS.out.1
      have HRW := Lib.hid hrow
      clear hrow
      refine hK.out _ _ ?_ (fun hHeld => ?_)
      · exact ⟨b0, b1, p0, p1, p2, p3, p4⟩
      clear hK K
      try simp only [Act.put, List.setIfInBounds_toArray, List.set_cons_zero, List.set_cons_succ]
      refine heldY 6 35 ?_
      refine heldY 7 42 ?_
      refine heldY 8 43 ?_
      obtain ⟨d0, d1, e0, e1⟩ := cells2' HV.out
      have na0 : w.heap.size ≠ w2.heap.size := by omega
      have nb0 : w2.heap.size ≠ w.heap.size := by omega
      have na1 : g ≠ w2.heap.size := by omega
      have nb1 : w2.heap.size ≠ g := by omega
      refine wpAnyH_ready (rs := [10]) (by kernel_rfl) (by simp) ?_
      refine AllReadyH.cons rfl (fun K hK => ?_) AllReadyH.nil
      go_simp
      refine hK.out _ _ ?_ (fun hHeld => ?_)
      · first | assumption | go_keep
      clear hK K
      try simp only [Act.put, List.setIfInBounds_toArray, List.set_cons_zero, List.set_cons_succ]
      refine wpAnyH_ready (rs := [11]) (by kernel_rfl) (by simp) ?_
      refine AllReadyH.cons rfl (fun K hK => ?_) AllReadyH.nil
      go_simp
      refine hK.out _ _ ?_ (fun hHeld => ?_)
      · first | assumption | go_keep
      clear hK K
      try simp only [Act.put, List.setIfInBounds_toArray, List.set_cons_zero, List.set_cons_succ]
      refine wpAnyH_done (by kernel_rfl) ?_ _
      go_wp2_with fail
      go_meet
      have hne : (Value.slice An 4 cn).ownBlock ≠ some w2.heap.size := by
        rcases An with _ | ad
        · simp [Value.ownBlock]
        · have := HM.out.2.apart HV.out (by decide)
          simpa [Value.ownBlock] using (Ne.symm this)
      exact ⟨_, _, _, rfl, rfl, (HV.out.put 0 _).put 1 _, (HM.out.2.to_put (k := 0) hne _).to_put (k := 1) hne _, by omega, HS.out.put (by omega) _ _, HC.out.farV HV.out (by omega) _ _⟩
  case rest =>
    clear HS HC b0 b1 p0 p1 p2 p3 p4 HRW
    obtain ⟨V, c3, A3, rfl, rfl, hV, ho3, hV2, hS, hD⟩ := hcut
    have HC := Lib.hid (And.intro HCB.out.1 HCB.out.2.1)
    have hcl := HCB.out.1
    obtain ⟨q, hq⟩ : ∃ q, cs[k]? = some q := ⟨_, List.getElem?_eq_getElem (by omega)⟩
    obtain ⟨z0, z1⟩ := hD.at_ hcl hq
    have f0 := hD.frozen hcl (k * 2)
    have f1 := hD.frozen hcl (k * 2 + 1)
    have hP := hD.put hcl k ⟨m, A3, c3, ps1⟩ (by show Own _ w.heap.size (.slice A3 ps1.length c3) ps1; rw [HW.out.2]; exact ho3.base_le hB0) (fun j b' a a' hj hb' ha ha' => by
      have h1 := (World.ownsRow.lt ho3 a.block (by rw [show A3 = some a from ha]; rfl)).1
      have h2 := HCB.out.2.2 b' a' (List.mem_of_getElem? hb') ha'
      omega)
    have er : Bk.row ⟨m, A3, c3, ps1⟩ = .slice A3 4 c3 := by simp [Bk.row, HW.out.2]
    rw [er] at hP
    have hge := (World.ownsRow.lt hD.1 g2 rfl).1
    obtain ⟨y0, y1, _, _⟩ := cells2' hV
    have n1 : g2 ≠ V := by omega
    have n2 : V ≠ g2 := by omega
    have HX := Lib.hid (And.intro hP (And.intro hS.2.2 hge))
    clear hD hP hge hq er hcl hV ho3 hS
    rcases Int.lt_or_le r 0 with hr0 | hr0
    · have er1 : r = -1 := by omega
      subst er1
      go_wp2
      go_ret2
      refine ⟨_, _, cs.set k ⟨m, A3, c3, ps1⟩, rfl, by rw [List.length_set]; exact HC.out.1, ?_, HX.out.1, grown_put (grown_put HX.out.2.1 HX.out.2.2 _) HX.out.2.2 _⟩
      rw [List.map_set, HC.out.2]; rfl
    · have t1 : decide (r < 0) = false := decide_eq_false (by omega)
      have ev : progV k r = (k : Int) * 4 + r := progV_pos k hr0
      have HEV := Lib.hid ev
      clear ev
      go_wp2
      go_ret2
      refine ⟨_, _, cs.set k ⟨m, A3, c3, ps1⟩, (by show Ending.returned (.tuple #[.slice (some ⟨g2, 0, none⟩) n c2, .int .i64 ((k : Int) * 4 + r)]) = _; rw [HEV.out]), by rw [List.length_set]; exact HC.out.1, ?_, HX.out.1, grown_put (grown_put HX.out.2.1 HX.out.2.2 _) HX.out.2.2 _⟩
      rw [List.map_set, HC.out.2]; rfl
end Go.Proofs.Yteniikfgellhfaa
namespace Go.Proofs.Yteniikfgellhfaa
open Go.ChangeShapes Go.WideShapes Go.ChangeAt Go.RowKit

theorem specProgram_no (A : Option Addr) (n c : Nat) (bs : List Bk) (a : Int) (f : Bool) (x1 x2 x3 x4 : Int) (w : World) (hl : bs.length = n) (hr : DRow w w.heap.size A bs) (hn : n ≤ 1048576) (hp : ∀ b, b ∈ bs → b.ps.length ≤ 1048576) (hd : devB bs = false) :
    Calls Try.prog 118 #[.slice A n c, .int .i64 a, .agg #[.bool f, .int .i64 x1, .int .i64 x2, .int .i64 x3, .int .i64 x4]] w (DevMade2 [] 0 (.int .i64 (-1)) w) := by
  have HD := Lib.hid (And.intro hl (And.intro hd (And.intro hp (And.intro (hr.alloc (.cells #[.bool f, .int .i64 x1, .int .i64 x2, .int .i64 x3, .int .i64 x4] 30)) trivial))))
  clear hl hd hp hr
  go_enter Try.func118, Try.ntmps118
  go_wp2_with fail
  refine (specDeviceValid_val HD.out.1 HD.out.2.1 _ HD.out.2.2.2.1.here hn HD.out.2.2.1).mono ?_
  rintro e w1 ⟨rfl, hk⟩
  have HG := Lib.hid (grown_trans (grown_alloc (grown_refl w none) (.cells #[.bool f, .int .i64 x1, .int .i64 x2, .int .i64 x3, .int .i64 x4] 30)) hk)
  clear hk
  go_wp2
  go_ret2
  exact devMade2_empty HG.out
theorem specProgram_out (A : Option Addr) (n c : Nat) (bs : List Bk) (a : Int) (f : Bool) (x1 x2 x3 x4 : Int) (w : World) (hl : bs.length = n) (hr : DRow w w.heap.size A bs) (hn : n ≤ 1048576) (hp : ∀ b, b ∈ bs → b.ps.length ≤ 1048576) (hd : devB bs = true) (ha : hasB n a = false) :
    Calls Try.prog 118 #[.slice A n c, .int .i64 a, .agg #[.bool f, .int .i64 x1, .int .i64 x2, .int .i64 x3, .int .i64 x4]] w (DevMade2 [] 0 (.int .i64 (-1)) w) := by
  have HD := Lib.hid (And.intro hl (And.intro hd (And.intro hp (And.intro (hr.alloc (.cells #[.bool f, .int .i64 x1, .int .i64 x2, .int .i64 x3, .int .i64 x4] 30)) (hasB_in ha)))))
  clear hl hd hp hr ha
  go_enter Try.func118, Try.ntmps118
  go_wp2_with fail
  refine (specDeviceValid_val HD.out.1 HD.out.2.1 _ HD.out.2.2.2.1.here hn HD.out.2.2.1).mono ?_
  rintro e w1 ⟨rfl, hk⟩
  have HG := Lib.hid (grown_trans (grown_alloc (grown_refl w none) (.cells #[.bool f, .int .i64 x1, .int .i64 x2, .int .i64 x3, .int .i64 x4] 30)) hk)
  clear hk
  go_wp2_with (go_at_call 95; refine (in_any _ _ _ _).mono ?_; rintro e w' ⟨rfl, rfl⟩; rw [HD.out.2.2.2.2])
  go_ret2
  exact devMade2_empty HG.out
theorem hasB_iff {n : Nat} {a : Int} (h : hasB n a = true) : 0 ≤ a ∧ a ≤ (n : Int) - 1 := by
  simp [hasB] at h
  omega
theorem specProgram_page (A : Option Addr) (n c : Nat) (bs : List Bk) (a : Int) (f : Bool) (x1 x2 x3 x4 : Int) (w : World) (hl : bs.length = n) (hr : DRow w w.heap.size A bs) (hn : n ≤ 1048576) (hp : ∀ b, b ∈ bs → b.ps.length ≤ 1048576) (hd : devB bs = true) (ha : hasB n a = true) (hg : (f && pageB f x1 x2 x3 x4) = false) :
    Calls Try.prog 118 #[.slice A n c, .int .i64 a, .agg #[.bool f, .int .i64 x1, .int .i64 x2, .int .i64 x3, .int .i64 x4]] w (DevMade2 [] 0 (.int .i64 (-1)) w) := by
  cases hv : pageB f x1 x2 x3 x4
  · have HPG := Lib.hid hv
    clear hg hv
    have HD := Lib.hid (And.intro hl (And.intro hd (And.intro hp (And.intro (hr.alloc (.cells #[.bool f, .int .i64 x1, .int .i64 x2, .int .i64 x3, .int .i64 x4] 30)) (inB_iff.2 (hasB_iff ha) : inB a 0 ((n : Int) - 1) = true)))))
    clear hl hd hp hr ha
    go_enter Try.func118, Try.ntmps118
    go_wp2_with fail
    refine (specDeviceValid_val HD.out.1 HD.out.2.1 _ HD.out.2.2.2.1.here hn HD.out.2.2.1).mono ?_
    rintro e w1 ⟨rfl, hk⟩
    have HB := Lib.hid ((Blk.new w 30 #[.bool f, .int .i64 x1, .int .i64 x2, .int .i64 x3, .int .i64 x4]).keep hk)
    have HG := Lib.hid (grown_trans (grown_alloc (grown_refl w none) (.cells #[.bool f, .int .i64 x1, .int .i64 x2, .int .i64 x3, .int .i64 x4] 30)) hk)
    clear hk
    obtain ⟨p0, p1, p2, p3, p4⟩ := cells5 HB.out
    go_wp2_with (first | (go_at_call 95; refine (in_any _ _ _ _).mono ?_; rintro e w' ⟨rfl, rfl⟩; rw [HD.out.2.2.2.2]) | fail)
    refine (specValid_val HPG.out _).mono ?_
    rintro e w2 ⟨rfl, hk⟩
    replace HG := Lib.hid (grown_trans HG.out hk)
    replace HB := Lib.hid (HB.out.keep hk)
    clear hk p0 p1 p2 p3 p4
    obtain ⟨p0, p1, p2, p3, p4⟩ := cells5 HB.out
    go_wp2
    go_ret2
    exact devMade2_empty HG.out
  · have hf : f = false := by cases f <;> simp_all
    subst hf
    have HPG := Lib.hid hv
    clear hg hv
    have HD := Lib.hid (And.intro hl (And.intro hd (And.intro hp (And.intro (hr.alloc (.cells #[.bool false, .int .i64 x1, .int .i64 x2, .int .i64 x3, .int .i64 x4] 30)) (inB_iff.2 (hasB_iff ha) : inB a 0 ((n : Int) - 1) = true)))))
    clear hl hd hp hr ha
    go_enter Try.func118, Try.ntmps118
    go_wp2_with fail
    refine (specDeviceValid_val HD.out.1 HD.out.2.1 _ HD.out.2.2.2.1.here hn HD.out.2.2.1).mono ?_
    rintro e w1 ⟨rfl, hk⟩
    have HB := Lib.hid ((Blk.new w 30 #[.bool false, .int .i64 x1, .int .i64 x2, .int .i64 x3, .int .i64 x4]).keep hk)
    have HG := Lib.hid (grown_trans (grown_alloc (grown_refl w none) (.cells #[.bool false, .int .i64 x1, .int .i64 x2, .int .i64 x3, .int .i64 x4] 30)) hk)
    clear hk
    obtain ⟨p0, p1, p2, p3, p4⟩ := cells5 HB.out
    go_wp2_with (first | (go_at_call 95; refine (in_any _ _ _ _).mono ?_; rintro e w' ⟨rfl, rfl⟩; rw [HD.out.2.2.2.2]) | fail)
    refine (specValid_val HPG.out _).mono ?_
    rintro e w2 ⟨rfl, hk⟩
    replace HG := Lib.hid (grown_trans HG.out hk)
    replace HB := Lib.hid (HB.out.keep hk)
    clear hk p0 p1 p2 p3 p4
    obtain ⟨p0, p1, p2, p3, p4⟩ := cells5 HB.out
    go_wp2
    go_ret2
    exact devMade2_empty HG.out
end Go.Proofs.Yteniikfgellhfaa
