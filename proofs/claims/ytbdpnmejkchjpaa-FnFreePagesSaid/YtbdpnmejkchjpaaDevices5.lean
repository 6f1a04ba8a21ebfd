/- What the model's functions of chapter 5 answer, further: EraseAt (under way). -/
import Derived.Test.YtbdpnmejkchjpaaDevices4
namespace Go.Proofs.Ytbdpnmejkchjpaa
open Go.ChangeShapes Go.WideShapes Go.ChangeAt Go.RowKit

/-- What EraseBlock answers of a valid block. -/
def eraseIs (m : Int) (ps : List Pg) : Int × List Pg := if m = 100 then (m, ps) else (m + 1, [pz, pz, pz, pz])
theorem specErase_val {m m1 : Int} {ps ps1 : List Pg} {r : Bool} (h : eraseIs m ps = (m1, ps1)) (hr0 : r = !decide (m = 100)) (A : Option Addr) (c : Nat) (w : World) (hr : Row w w.heap.size A ps) (hv : blockB m ps = true) :
    Calls Try.prog 54 #[.agg #[.int .i64 m, .slice A 4 c]] w (Made2 m1 4 ps1 (.bool r) w) := by
  by_cases hm : m = 100
  · simp only [eraseIs, if_pos hm, Prod.mk.injEq] at h
    obtain ⟨rfl, rfl⟩ := h
    rw [hr0, decide_eq_true hm]
    exact specErase_max _ A c _ w hr hv hm
  · simp only [eraseIs, if_neg hm, Prod.mk.injEq] at h
    obtain ⟨rfl, rfl⟩ := h
    rw [hr0, decide_eq_false hm]
    exact specErase_ok _ A c ps w hr hv hm
theorem DOwn.base_le {w : World} {base base' : Nat} {v : Value} {bs : List Bk} (h : DOwn w base v bs) (hb : base' ≤ base) : DOwn w base' v bs := by
  refine ⟨⟨h.1.1, ?_⟩, fun b hm => (h.2.1 b hm).base_le hb, h.2.2⟩
  rcases h.1.2 with hn | ⟨g, cap, cur, e, hg, rest⟩
  · exact .inl hn
  · exact .inr ⟨g, cap, cur, e, Nat.le_trans hb hg, rest⟩
/-- A device in memory of its own is returned, and another result. -/
def DevMade2 (l : List (Int × List Pg)) (n : Nat) (r : Value) (w : World) (e : Ending) (w' : World) : Prop :=
  ∃ (A : Option Addr) (c : Nat) (cs : List Bk), e = .returned (.tuple #[.slice A n c, r]) ∧ cs.length = n ∧ cs.map Bk.is = l ∧ DOwn w' w.heap.size (.slice A n c) cs ∧ w.grownBy w' none
theorem specEraseAt_at (A : Option Addr) (n c k : Nat) (bs : List Bk) (m m1 : Int) (Ab : Option Addr) (cb : Nat) (ps ps1 : List Pg) (r : Bool) (w : World) (hl : bs.length = n) (hr : DRow w w.heap.size A bs) (hd : devB bs = true) (hk : bs[k]? = some ⟨m, Ab, cb, ps⟩)
    (he : eraseIs m ps = (m1, ps1)) (hr0 : r = !decide (m = 100)) :
    Calls Try.prog 29 #[.slice A n c, .int .i64 k] w (DevMade2 ((bs.map Bk.is).set k (m1, ps1)) n (.bool r) w) := by
  obtain ⟨⟨h1, h12⟩, hall⟩ := dev_parts hd
  have hkn : k < bs.length := (List.getElem?_eq_some_iff.1 hk).1
  have hv := hall _ (List.mem_of_getElem? hk)
  have hp4 : ps.length = 4 := (block_parts hv).2.1
  have ha : inB (k : Int) 0 ((n : Int) - 1) = true := inB_iff.2 ⟨by omega, by omega⟩
  have hall4 : ∀ b, b ∈ bs → b.ps.length = 4 := fun b hm => (block_parts (hall b hm)).2.1
  have HD := Lib.hid (And.intro hl (And.intro hd (And.intro (fun (b : Bk) (hm : b ∈ bs) => show b.ps.length ≤ 1048576 by have := hall4 b hm; omega) (And.intro hr (And.intro ha (And.intro hk (And.intro hp4 (And.intro hall4 hv))))))))
  have HE := Lib.hid (And.intro he hr0)
  have hn12 : n ≤ 12 := by omega
  have hn1 : 1 ≤ n := by omega
  have hkn2 : k < n := by omega
  obtain ⟨g, off, _, _, _, _, rfl, _, _, _, _, _, _⟩ := hr.at_ hkn
  clear hl hd hr ha hk hp4 hall hall4 he hr0 hv h1 h12 hkn
  go_enter Try.func29, Try.ntmps29
  go_wp2_with fail
  refine (specDeviceValid_val HD.out.1 HD.out.2.1 _ HD.out.2.2.2.1 (by omega) HD.out.2.2.1).mono ?_
  rintro e w1 ⟨rfl, hk1⟩
  have HG := Lib.hid (And.intro hk1 (HD.out.2.2.2.1.kept hk1).here)
  clear hk1
  go_wp2_with (first | (go_at_call 38; refine (in_any _ _ _ _).mono ?_; rintro e w' ⟨rfl, rfl⟩; rw [HD.out.2.2.2.2.1]) | fail)
  refine (specCopyDev_any _ _ _ _ _ HD.out.1 HG.out.2 (by omega) HD.out.2.2.2.2.2.2.2.1).mono ?_
  rintro e w2 ⟨A2, c2, cs, rfl, hcl, hcs, ho2, hk2⟩
  have HC := Lib.hid (And.intro hcl (And.intro hcs (And.intro ho2 (And.intro hk2 (HG.out.2.kept hk2).here))))
  clear hcl hcs ho2 hk2
  obtain ⟨g', off', m', Ab', cb', ps', e0, _, _, hb', c0, c1, hpr⟩ := HC.out.2.2.2.2.at_ (i := k) (by have := HD.out.1; omega)
  rw [HD.out.2.2.2.2.2.1] at hb'
  injection e0 with e0
  injection e0 with e3 e4
  subst e3; subst e4
  injection hb' with hb'
  injection hb' with e5 e6 e7 e8
  subst e5; subst e6; subst e7; subst e8
  rw [HD.out.2.2.2.2.2.2.1] at c1
  have HP := Lib.hid hpr
  clear hpr
  go_wp2_with fail
  refine (specErase_val HE.out.1 HE.out.2 _ _ _ HP.out.here HD.out.2.2.2.2.2.2.2.2).mono ?_
  rintro e w3 ⟨A3, c3, rfl, hl3, ho3, hk3⟩
  have hD := (HC.out.2.2.1.keep hk3).base_le (base' := w.heap.size) HG.out.1.size
  rcases hD.form with ⟨_, e10⟩ | ⟨g2, cap, e11, _, hg2, _, _⟩
  · have := HC.out.1; rw [e10] at this; simp at this; omega
  injection e11 with e11 e12 e13
  subst e11; subst e13
  obtain ⟨q, hq⟩ : ∃ q, cs[k]? = some q := ⟨_, List.getElem?_eq_getElem (by have := HC.out.1; omega)⟩
  obtain ⟨x0, x1⟩ := hD.at_ HC.out.1 hq
  have f0 := hD.frozen HC.out.1 (k * 2)
  have f1 := hD.frozen HC.out.1 (k * 2 + 1)
  have hP := hD.put HC.out.1 k ⟨m1, A3, c3, ps1⟩ (by show Own w3 w.heap.size (.slice A3 ps1.length c3) ps1; rw [hl3]; exact ho3.base_le (Nat.le_trans HG.out.1.size HC.out.2.2.2.1.size)) (fun j b' a a' hj hb' ha ha' => by
    have h1 := (World.ownsRow.lt ho3 a.block (by rw [show A3 = some a from ha]; rfl)).1
    have h2 := (World.ownsRow.lt (HC.out.2.2.1.2.1 b' (List.mem_of_getElem? hb')) a'.block (by simp [Bk.row, ha', Value.ownBlock])).2
    omega)
  have er : Bk.row ⟨m1, A3, c3, ps1⟩ = .slice A3 4 c3 := by simp [Bk.row, hl3]
  rw [er] at hP
  have hge := (World.ownsRow.lt hD.1 g2 rfl).1
  have hG3 := grown_trans HG.out.1 (grown_trans HC.out.2.2.2.1 hk3)
  have HX := Lib.hid (And.intro hP (And.intro hG3 hge))
  have n1 : g2 ≠ w3.heap.size := by omega
  have n2 : w3.heap.size ≠ g2 := by omega
  have k3 : (k : Int) < n := by omega
  clear hD hP hG3 hge ho3 hk3 hl3 hq er c0 c1 e12
  go_wp2
  go_ret2
  refine ⟨_, _, cs.set k ⟨m1, A3, c3, ps1⟩, rfl, by rw [List.length_set]; exact HC.out.1, ?_, ?_, ?_⟩
  · rw [List.map_set, HC.out.2.1]; rfl
  · exact HX.out.1.keep (grown_alloc (grown_refl _ none) _)
  · exact grown_alloc (grown_put (grown_put HX.out.2.1 HX.out.2.2 _) HX.out.2.2 _) _
end Go.Proofs.Ytbdpnmejkchjpaa
