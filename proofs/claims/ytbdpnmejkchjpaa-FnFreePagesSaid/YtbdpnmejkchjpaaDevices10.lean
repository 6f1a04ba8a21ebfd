/- What chapter 5 answers, further: EraseAt of both. -/
import Derived.Test.YtbdpnmejkchjpaaDevices9
namespace Go.Proofs.Ytbdpnmejkchjpaa
open Go.ChangeShapes Go.WideShapes Go.ChangeAt Go.RowKit

/-- There is such a block. -/
def hasB (n : Nat) (a : Int) : Bool := decide (0 ≤ a) && decide (a < (n : Int))
theorem hasBlock_any (A : Option Addr) (n c : Nat) (a : Int) (w : World) :
    Calls Try.prog 50 #[.slice A n c, .int .i64 a] w fun e w' => e = .returned (.bool (hasB n a)) ∧ w = w' := by
  go_enter Try.func50, Try.ntmps50
  go_wp2
  all_goals (go_ret; refine ⟨retB ?_, rfl⟩; rw [Bool.eq_iff_iff]; simp [hasB]; omega)
theorem hasBlock_val {n : Nat} {a : Int} {V : Bool} (h : hasB n a = V) (A : Option Addr) (c : Nat) (w : World) :
    Calls Try.prog 50 #[.slice A n c, .int .i64 a] w fun e w' => e = .returned (.bool V) ∧ w = w' := h ▸ hasBlock_any A n c a w
theorem hasB_in {n : Nat} {a : Int} (h : hasB n a = false) : inB a 0 ((n : Int) - 1) = false := by
  cases h2 : inB a 0 ((n : Int) - 1)
  · rfl
  · obtain ⟨h3, h4⟩ := inB_iff.1 h2
    simp [hasB] at h
    omega
theorem devMade2_nil {w w' : World} {r : Value} (h : w.grownBy w' none) : DevMade2 [] 0 r w (.returned (.tuple #[.slice none 0 0, r])) w' := ⟨none, 0, [], rfl, rfl, rfl, ⟨World.ownsRow_nil _ _ _ _, fun b hb => by simp at hb, fun i j b b' a a' _ hi => by simp at hi⟩, h⟩
theorem devMade2_empty {w w' : World} {r : Value} (h : w.grownBy w' none) : DevMade2 [] 0 r w (.returned (.tuple #[.slice (some ⟨w'.heap.size, 0, none⟩) 0 0, r])) (w'.alloc (.cells #[] 58)) :=
  ⟨_, _, [], rfl, rfl, rfl, (dev_empty w').base_le h.size, grown_alloc h _⟩
theorem erase_val {m m1 : Int} {ps ps1 : List Pg} {r : Bool} (h : eraseIs m ps = (m1, ps1)) (hr0 : r = !decide (m = 100)) (A : Option Addr) (c : Nat) (w : World) (hr : Row w w.heap.size A ps) (hv : blockB m ps = true) :
    Calls Try.prog 55 #[.agg #[.int .i64 m, .slice A 4 c]] w (Made2 m1 4 ps1 (.bool r) w) := by
  by_cases hm : m = 100
  · simp only [eraseIs, if_pos hm, Prod.mk.injEq] at h
    obtain ⟨rfl, rfl⟩ := h
    rw [hr0, decide_eq_true hm]
    exact erase_max _ A c _ w hr hv hm
  · simp only [eraseIs, if_neg hm, Prod.mk.injEq] at h
    obtain ⟨rfl, rfl⟩ := h
    rw [hr0, decide_eq_false hm]
    exact erase_ok _ A c ps w hr hv hm
theorem eraseAt_no (A : Option Addr) (n c : Nat) (bs : List Bk) (a : Int) (w : World) (hl : bs.length = n) (hr : DRow w w.heap.size A bs) (hn : n ≤ 1048576) (hp : ∀ b, b ∈ bs → b.ps.length ≤ 1048576) (hd : devB bs = false) :
    Calls Try.prog 30 #[.slice A n c, .int .i64 a] w (DevMade2 [] 0 (.bool false) w) := by
  have HD := Lib.hid (And.intro hl (And.intro hd (And.intro hp hr)))
  clear hl hd hp hr
  go_enter Try.func30, Try.ntmps30
  go_wp2_with fail
  refine (deviceValid_val HD.out.1 HD.out.2.1 _ HD.out.2.2.2.here hn HD.out.2.2.1).mono ?_
  rintro e w1 ⟨rfl, hk⟩
  have HG := Lib.hid hk
  clear hk
  go_wp2
  go_ret2
  exact devMade2_nil HG.out
theorem eraseAt_out (A : Option Addr) (n c : Nat) (bs : List Bk) (a : Int) (w : World) (hl : bs.length = n) (hr : DRow w w.heap.size A bs) (hn : n ≤ 1048576) (hp : ∀ b, b ∈ bs → b.ps.length ≤ 1048576) (hd : devB bs = true) (ha : hasB n a = false) :
    Calls Try.prog 30 #[.slice A n c, .int .i64 a] w (DevMade2 [] 0 (.bool false) w) := by
  have HD := Lib.hid (And.intro hl (And.intro hd (And.intro hp (And.intro hr ha))))
  clear hl hd hp hr ha
  go_enter Try.func30, Try.ntmps30
  go_wp2_with fail
  refine (deviceValid_val HD.out.1 HD.out.2.1 _ HD.out.2.2.2.1.here hn HD.out.2.2.1).mono ?_
  rintro e w1 ⟨rfl, hk⟩
  have HG := Lib.hid hk
  clear hk
  go_wp2_with (go_at_call 50; refine (hasBlock_val HD.out.2.2.2.2 _ _ _).mono ?_; rintro e w' ⟨rfl, rfl⟩)
  go_ret2
  exact devMade2_nil HG.out
theorem specEraseAt_no (A : Option Addr) (n c : Nat) (bs : List Bk) (a : Int) (w : World) (hl : bs.length = n) (hr : DRow w w.heap.size A bs) (hn : n ≤ 1048576) (hp : ∀ b, b ∈ bs → b.ps.length ≤ 1048576) (hd : devB bs = false) :
    Calls Try.prog 29 #[.slice A n c, .int .i64 a] w (DevMade2 [] 0 (.bool false) w) := by
  have HD := Lib.hid (And.intro hl (And.intro hd (And.intro hp hr)))
  clear hl hd hp hr
  go_enter Try.func29, Try.ntmps29
  go_wp2_with fail
  refine (specDeviceValid_val HD.out.1 HD.out.2.1 _ HD.out.2.2.2.here hn HD.out.2.2.1).mono ?_
  rintro e w1 ⟨rfl, hk⟩
  have HG := Lib.hid hk
  clear hk
  go_wp2
  go_ret2
  exact devMade2_empty HG.out
theorem specEraseAt_out (A : Option Addr) (n c : Nat) (bs : List Bk) (a : Int) (w : World) (hl : bs.length = n) (hr : DRow w w.heap.size A bs) (hn : n ≤ 1048576) (hp : ∀ b, b ∈ bs → b.ps.length ≤ 1048576) (hd : devB bs = true) (ha : hasB n a = false) :
    Calls Try.prog 29 #[.slice A n c, .int .i64 a] w (DevMade2 [] 0 (.bool false) w) := by
  have HD := Lib.hid (And.intro hl (And.intro hd (And.intro hp (And.intro hr (hasB_in ha)))))
  clear hl hd hp hr ha
  go_enter Try.func29, Try.ntmps29
  go_wp2_with fail
  refine (specDeviceValid_val HD.out.1 HD.out.2.1 _ HD.out.2.2.2.1.here hn HD.out.2.2.1).mono ?_
  rintro e w1 ⟨rfl, hk⟩
  have HG := Lib.hid hk
  clear hk
  go_wp2_with (go_at_call 38; refine (in_any _ _ _ _).mono ?_; rintro e w' ⟨rfl, rfl⟩; rw [HD.out.2.2.2.2])
  go_ret2
  exact devMade2_empty HG.out
theorem eraseAt_at (A : Option Addr) (n c k : Nat) (bs : List Bk) (m m1 : Int) (Ab : Option Addr) (cb : Nat) (ps ps1 : List Pg) (r : Bool) (w : World) (hl : bs.length = n) (hr : DRow w w.heap.size A bs) (hd : devB bs = true) (hk : bs[k]? = some ⟨m, Ab, cb, ps⟩)
    (he : eraseIs m ps = (m1, ps1)) (hr0 : r = !decide (m = 100)) :
    Calls Try.prog 30 #[.slice A n c, .int .i64 k] w (DevMade2 ((bs.map Bk.is).set k (m1, ps1)) n (.bool r) w) := by
  obtain ⟨⟨h1, h12⟩, hall⟩ := dev_parts hd
  have hkn : k < bs.length := (List.getElem?_eq_some_iff.1 hk).1
  have hv := hall _ (List.mem_of_getElem? hk)
  have hp4 : ps.length = 4 := (block_parts hv).2.1
  have ha : hasB n (k : Int) = true := by simp [hasB]; omega
  have hall4 : ∀ b, b ∈ bs → b.ps.length = 4 := fun b hm => (block_parts (hall b hm)).2.1
  have HD := Lib.hid (And.intro hl (And.intro hd (And.intro (fun (b : Bk) (hm : b ∈ bs) => show b.ps.length ≤ 1048576 by have := hall4 b hm; omega) (And.intro hr (And.intro ha (And.intro hk (And.intro hp4 (And.intro hall4 hv))))))))
  have HE := Lib.hid (And.intro he hr0)
  have hn12 : n ≤ 12 := by omega
  have hn1 : 1 ≤ n := by omega
  have hkn2 : k < n := by omega
  obtain ⟨g, off, _, _, _, _, rfl, _, _, _, _, _, _⟩ := hr.at_ hkn
  clear hl hd hr ha hk hp4 hall hall4 he hr0 hv h1 h12 hkn
  go_enter Try.func30, Try.ntmps30
  go_wp2_with fail
  refine (deviceValid_val HD.out.1 HD.out.2.1 _ HD.out.2.2.2.1 (by omega) HD.out.2.2.1).mono ?_
  rintro e w1 ⟨rfl, hk1⟩
  have HG := Lib.hid (And.intro hk1 (HD.out.2.2.2.1.kept hk1).here)
  clear hk1
  obtain ⟨g', off', m', Ab', cb', ps', e0, _, _, hb', c0, c1, hpr⟩ := HG.out.2.at_ (i := k) (by have := HD.out.1; omega)
  rw [HD.out.2.2.2.2.2.1] at hb'
  injection e0 with e0
  injection e0 with e3 e4
  subst e3; subst e4
  injection hb' with hb'
  injection hb' with e5 e6 e7 e8
  subst e5; subst e6; subst e7; subst e8
  rw [HD.out.2.2.2.2.2.2.1] at c1
  have HP := Lib.hid hpr
  clear hpr
  have k3 : (k : Int) < n := by omega
  go_wp2_with (first | (go_at_call 50; refine (hasBlock_val HD.out.2.2.2.2.1 _ _ _).mono ?_; rintro e w' ⟨rfl, rfl⟩) | fail)
  refine (erase_val HE.out.1 HE.out.2 _ _ _ HP.out.here HD.out.2.2.2.2.2.2.2.2).mono ?_
  rintro e w2 ⟨A3, c3, rfl, hl3, ho3, hk3⟩
  have HO := Lib.hid (And.intro hl3 (And.intro (ho3.keep (grown_alloc (grown_refl _ none) (.cells #[.int .i64 m1, .slice A3 4 c3] 58))) (And.intro (grown_alloc (grown_trans HG.out.1 hk3) (.cells #[.int .i64 m1, .slice A3 4 c3] 58)) (And.intro ((HG.out.2.kept hk3).alloc (.cells #[.int .i64 m1, .slice A3 4 c3] 58)).here (And.intro (Blk.new w2 58 #[.int .i64 m1, .slice A3 4 c3]) (And.intro hk3.size (fun a e => (World.ownsRow.lt ho3 a e).2)))))))
  clear hl3 ho3 hk3 c0 c1
  go_wp2_with fail
  refine (copyDev_any _ _ _ _ _ HD.out.1 HO.out.2.2.2.1 (by omega) HD.out.2.2.2.2.2.2.2.1).mono ?_
  rintro e w3 ⟨A2, c2, cs, rfl, hcl, hcs, ho2, hk2⟩
  have HC := Lib.hid (And.intro hcl (And.intro hcs ho2))
  have hz1 := HG.out.1.size
  have hz2 := HO.out.2.2.2.2.2.1
  have hz3 := hk2.size
  simp only [size_alloc1] at hz3
  have hD := ho2.base_le (base' := w.heap.size) (by simp only [size_alloc1]; omega)
  rcases hD.form with ⟨_, e10⟩ | ⟨g2, cap, e11, _, hg2, _, _⟩
  · rw [e10] at hcl; simp at hcl; omega
  injection e11 with e11 e12 e13
  subst e11; subst e13
  obtain ⟨q, hq⟩ : ∃ q, cs[k]? = some q := ⟨_, List.getElem?_eq_getElem (by omega)⟩
  obtain ⟨x0, x1⟩ := hD.at_ hcl hq
  have f0 := hD.frozen hcl (k * 2)
  have f1 := hD.frozen hcl (k * 2 + 1)
  have hP := hD.put hcl k ⟨m1, A3, c3, ps1⟩ (by show Own w3 w.heap.size (.slice A3 ps1.length c3) ps1; rw [HO.out.1]; exact (HO.out.2.1.keep hk2).base_le hz1) (fun j b' a a' hj hb' ha ha' => by
    have h1 := HO.out.2.2.2.2.2.2 a.block (by rw [show A3 = some a from ha]; rfl)
    have h2 := (World.ownsRow.lt (HC.out.2.2.2.1 b' (List.mem_of_getElem? hb')) a'.block (by simp [Bk.row, ha', Value.ownBlock])).1
    simp only [size_alloc1] at h2
    omega)
  have er : Bk.row ⟨m1, A3, c3, ps1⟩ = .slice A3 4 c3 := by simp [Bk.row, HO.out.1]
  rw [er] at hP
  have hge := (World.ownsRow.lt hD.1 g2 rfl).1
  have hB := HO.out.2.2.2.2.1.keep hk2
  have y0 : w3.cell? ⟨w2.heap.size, 0, none⟩ = some (.int .i64 m1) := hB.cell 0
  have y1 : w3.cell? ⟨w2.heap.size, 1, none⟩ = some (.slice A3 4 c3) := hB.cell 1
  have HX := Lib.hid (And.intro hP (And.intro (grown_trans HO.out.2.2.1 hk2) hge))
  have hge2 := (World.ownsRow.lt ho2.1 g2 rfl).1
  simp only [size_alloc1] at hge2
  have n1 : g2 ≠ w2.heap.size := by omega
  have n2 : w2.heap.size ≠ g2 := by omega
  clear hD hP hge hge2 ho2 hk2 hq er hB hcl hcs e12 hz1 hz2 hz3
  go_wp2
  go_ret2
  refine ⟨_, _, cs.set k ⟨m1, A3, c3, ps1⟩, rfl, by rw [List.length_set]; exact HC.out.1, ?_, HX.out.1, grown_put (grown_put HX.out.2.1 HX.out.2.2 _) HX.out.2.2 _⟩
  rw [List.map_set, HC.out.2.1]; rfl
end Go.Proofs.Ytbdpnmejkchjpaa
