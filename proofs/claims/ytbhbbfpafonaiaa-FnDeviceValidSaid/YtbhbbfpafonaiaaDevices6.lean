/- What the program's functions of chapter 5 answer: DeviceValid, FreePages. -/
import Derived.Test.YtbhbbfpafonaiaaDevices5
namespace Go.Proofs.Ytbhbbfpafonaiaa
open Go.ChangeShapes Go.WideShapes Go.ChangeAt Go.RowKit

theorem isCount_any (n : Int) (w : World) :
    Calls Try.prog 20 #[.int .i64 n] w fun e w' => e = .returned (.bool (inB n 1 12)) ∧ w = w' := by
  go_enter Try.func20, Try.ntmps20
  go_wp2
  all_goals (go_ret; refine ⟨retB ?_, rfl⟩; rw [Bool.eq_iff_iff]; simp [inB]; omega)
theorem isCount_val {n : Int} {V : Bool} (h : inB n 1 12 = V) (w : World) :
    Calls Try.prog 20 #[.int .i64 n] w fun e w' => e = .returned (.bool V) ∧ w = w' := h ▸ isCount_any n w
def allB (bs : List Bk) : Bool := bs.all fun b => blockB b.m b.ps
theorem all_no {bs : List Bk} {k : Nat} {b : Bk} (hp : bs[k]? = some b) (h : blockB b.m b.ps = false) : allB bs = false := by
  unfold allB
  rw [List.all_eq_false]
  exact ⟨b, List.mem_of_getElem? hp, by simp [h]⟩
theorem all_yes {bs : List Bk} (h : ∀ (j : Nat) (b : Bk), bs[j]? = some b → blockB b.m b.ps = true) : allB bs = true := by
  unfold allB
  rw [List.all_eq_true]
  intro b hb
  obtain ⟨j, hj⟩ := List.getElem?_of_mem hb
  exact h j b hj
theorem allBlocks_any (A : Option Addr) (n c : Nat) (bs : List Bk) (w : World) (hl : bs.length = n) (hr : DRow w w.heap.size A bs) (hn : n ≤ 1048576) (hp : ∀ b, b ∈ bs → b.ps.length ≤ 1048576) :
    Calls Try.prog 21 #[.slice A n c] w (KeptV (.bool (allB bs)) w) := by
  subst hl
  have HR := Lib.hid (And.intro hr hp)
  clear hr hp
  go_enter Try.func21, Try.ntmps21
  go_wp2
  go_loopw [7] (fun i wr => ∃ k : Nat, i = .int .i64 k ∧ DevRel w bs k wr) (fun i _ => bs.length - (intOf i).toNat)
  case atStart => exact ⟨0, rfl, Nat.zero_le _, fun j _ hj => absurd hj (by omega), grown_refl _ _⟩
  case round =>
    obtain ⟨k, rfl, hk, hj, hg⟩ := hrel
    by_cases hlt : k < bs.length
    · obtain ⟨g, off, m, Ab, cb, ps, rfl, _, hgw, hb, c0, c1, hrow⟩ := (HR.out.1.kept hg).at_ hlt
      have hpl := HR.out.2 _ (List.mem_of_getElem? hb)
      have n1 : g ≠ wr.heap.size := by omega
      have n2 : wr.heap.size ≠ g := by omega
      cases hv : blockB m ps
      · have HX := Lib.hid (And.intro hg (And.intro (all_no hb hv) (And.intro hv (And.intro (hrow.alloc (.cells #[.int .i64 m, .slice Ab ps.length cb] 28)).here hpl))))
        clear hv hb hg hj hrow hpl
        go_wp2_with (go_at_call 43; refine (blockValid_val rfl HX.out.2.2.1 _ HX.out.2.2.2.1.here HX.out.2.2.2.2).mono ?_; rintro e w' ⟨rfl, hkp⟩)
        go_ret
        exact ⟨retB HX.out.2.1.symm, grown_trans (grown_alloc HX.out.1 _) hkp⟩
      · have HX := Lib.hid (And.intro hg (And.intro (dev_step hj hb hv) (And.intro hv (And.intro (hrow.alloc (.cells #[.int .i64 m, .slice Ab ps.length cb] 28)).here hpl))))
        clear hv hb hg hj hrow hpl
        go_wp2_with (go_at_call 43; refine (blockValid_val rfl HX.out.2.2.1 _ HX.out.2.2.2.1.here HX.out.2.2.2.2).mono ?_; rintro e w' ⟨rfl, hkp⟩)
        go_roundw
        case rel => exact ⟨k + 1, by go_num, by omega, HX.out.2.1, grown_trans (grown_alloc HX.out.1 _) hkp⟩
        case measure => simp [intOf]; omega
    · have HX := Lib.hid (And.intro hg (all_yes (bs := bs) (fun j b hb => hj j b (by have := (List.getElem?_eq_some_iff.1 hb).1; omega) hb)))
      clear hg hj
      go_wp2
      go_ret
      exact ⟨retB HX.out.2.symm, HX.out.1⟩
theorem allBlocks_val {A : Option Addr} {n c : Nat} {bs : List Bk} {V : Bool} (hl : bs.length = n) (h : allB bs = V) (w : World) (hr : DRow w w.heap.size A bs) (hn : n ≤ 1048576) (hp : ∀ b, b ∈ bs → b.ps.length ≤ 1048576) :
    Calls Try.prog 21 #[.slice A n c] w (KeptV (.bool V) w) := h ▸ allBlocks_any A n c bs w hl hr hn hp
theorem deviceValid_any (A : Option Addr) (n c : Nat) (bs : List Bk) (w : World) (hl : bs.length = n) (hr : DRow w w.heap.size A bs) (hn : n ≤ 1048576) (hp : ∀ b, b ∈ bs → b.ps.length ≤ 1048576) :
    Calls Try.prog 7 #[.slice A n c] w (KeptV (.bool (devB bs)) w) := by
  have HR := Lib.hid (And.intro hl (And.intro hr hp))
  have e : devB bs = (inB n 1 12 && allB bs) := by rw [← hl]; rfl
  rw [e]
  clear hr hp hl e
  cases h1 : inB (n : Int) 1 12
  · have H1 := Lib.hid h1
    clear h1
    go_enter Try.func7, Try.ntmps7
    go_wp2_with (first | (go_at_call 20; refine (isCount_val H1.out _).mono ?_; rintro e w' ⟨rfl, rfl⟩) | (go_at_call 21; refine (allBlocks_any _ _ _ _ _ HR.out.1 HR.out.2.1 hn HR.out.2.2).mono ?_; rintro e w' ⟨rfl, hk⟩))
    go_ret
    exact ⟨rfl, grown_refl _ _⟩
  · cases h2 : allB bs
    all_goals
      have H1 := Lib.hid h1
      have H2 := Lib.hid h2
      clear h1 h2
      go_enter Try.func7, Try.ntmps7
      go_wp2_with (first | (go_at_call 20; refine (isCount_val H1.out _).mono ?_; rintro e w' ⟨rfl, rfl⟩) | (go_at_call 21; refine (allBlocks_val HR.out.1 H2.out _ HR.out.2.1 hn HR.out.2.2).mono ?_; rintro e w' ⟨rfl, hk⟩))
      go_ret
      exact ⟨rfl, hk⟩
theorem deviceValid_val {A : Option Addr} {n c : Nat} {bs : List Bk} {V : Bool} (hl : bs.length = n) (h : devB bs = V) (w : World) (hr : DRow w w.heap.size A bs) (hn : n ≤ 1048576) (hp : ∀ b, b ∈ bs → b.ps.length ≤ 1048576) :
    Calls Try.prog 7 #[.slice A n c] w (KeptV (.bool V) w) := h ▸ deviceValid_any A n c bs w hl hr hn hp

/-- How many pages are not written. -/
def freeV (bs : List Bk) : Nat := (bs.map fun b => 4 - cntF b.ps).sum
theorem free_take {bs : List Bk} {k : Nat} {b : Bk} (h : bs[k]? = some b) : freeV (bs.take (k + 1)) = freeV (bs.take k) + (4 - cntF b.ps) := by
  unfold freeV
  rw [List.take_add_one, h, List.map_append, List.sum_append]
  simp
theorem free_le (bs : List Bk) : freeV bs ≤ 4 * bs.length := by
  induction bs with
  | nil => simp [freeV]
  | cons p r ih =>
    simp only [freeV, List.map_cons, List.sum_cons, List.length_cons] at ih ⊢
    omega
theorem freePages_no (A : Option Addr) (n c : Nat) (bs : List Bk) (w : World) (hl : bs.length = n) (hr : DRow w w.heap.size A bs) (hn : n ≤ 1048576) (hp : ∀ b, b ∈ bs → b.ps.length ≤ 1048576) (hd : devB bs = false) :
    Calls Try.prog 17 #[.slice A n c] w (KeptV (.int .i64 (-1)) w) := by
  have HR := Lib.hid (And.intro hl (And.intro hd (And.intro hr hp)))
  clear hr hp hl hd
  go_enter Try.func17, Try.ntmps17
  go_wp2_with (go_at_call 7; refine (deviceValid_val HR.out.1 HR.out.2.1 _ HR.out.2.2.1 hn HR.out.2.2.2).mono ?_; rintro e w' ⟨rfl, hk⟩)
  go_ret
  exact ⟨rfl, hk⟩
theorem freePages_yes (A : Option Addr) (n c : Nat) (bs : List Bk) (w : World) (hl : bs.length = n) (hr : DRow w w.heap.size A bs) (hd : devB bs = true) :
    Calls Try.prog 17 #[.slice A n c] w (KeptV (.int .i64 (freeV bs)) w) := by
  subst hl
  obtain ⟨⟨h1, h12⟩, hall⟩ := dev_parts hd
  have HR := Lib.hid (And.intro hd (And.intro hr (And.intro (fun (b : Bk) (hm : b ∈ bs) => (block_parts (hall b hm)).2.1) (fun (b : Bk) (hm : b ∈ bs) => show b.ps.length ≤ 1048576 by have := (block_parts (hall b hm)).2.1; omega))))
  clear hr hd hall
  go_enter Try.func17, Try.ntmps17
  go_wp2_with (first | (go_at_call 7; refine (deviceValid_val rfl HR.out.1 _ HR.out.2.1 (by omega) HR.out.2.2.2).mono ?_; rintro e w1 ⟨rfl, hk1⟩) | fail)
  have HK := Lib.hid hk1
  clear hk1
  go_loopw [3, 11] (fun s i wr => ∃ k : Nat, k ≤ bs.length ∧ i = .int .i64 k ∧ s = .int .i64 (freeV (bs.take k) : Nat) ∧ w.grownBy wr none) (fun _ i _ => bs.length - (intOf i).toNat)
  case atStart => exact ⟨0, Nat.zero_le _, rfl, rfl, HK.out⟩
  case round =>
    obtain ⟨k, hk, rfl, rfl, hg⟩ := hrel
    clear HK
    by_cases hlt : k < bs.length
    · obtain ⟨g, off, m, Ab, cb, ps, rfl, _, hgw, hb, c0, c1, hrow⟩ := (HR.out.2.1.kept hg).at_ hlt
      have hp4 : ps.length = 4 := HR.out.2.2.1 _ (List.mem_of_getElem? hb)
      have hc4 : cntF ps ≤ 4 := by have := pcnt_le ps; omega
      have hfl : freeV (bs.take k) ≤ 48 := by have h := free_le (bs.take k); rw [List.length_take] at h; omega
      have n1 : g ≠ wr.heap.size := by omega
      have n2 : wr.heap.size ≠ g := by omega
      have HX := Lib.hid (And.intro hg (And.intro (free_take hb) (And.intro (hrow.alloc (.cells #[.int .i64 m, .slice Ab ps.length cb] 28)).here hp4)))
      clear hb hg hrow hp4
      go_wp2_with (go_at_call 36; refine (written_any _ _ _ _ HX.out.2.2.1.here (by have := HX.out.2.2.2; omega)).mono ?_; rintro e w' ⟨rfl, hkp⟩)
      go_roundw
      case rel => exact ⟨k + 1, by omega, by go_num, by rw [HX.out.2.1]; go_num, grown_trans (grown_alloc HX.out.1 _) hkp⟩
      case measure => simp [intOf]; omega
    · obtain rfl : k = bs.length := by omega
      have HX := Lib.hid (And.intro hg (show freeV (bs.take bs.length) = freeV bs by rw [List.take_length]))
      clear hg
      go_wp2
      go_ret
      exact ⟨retI (by rw [HX.out.2]), HX.out.1⟩
end Go.Proofs.Ytbhbbfpafonaiaa
