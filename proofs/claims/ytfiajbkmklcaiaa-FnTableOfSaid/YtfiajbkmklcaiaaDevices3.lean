/- What the model's functions of chapter 5 answer, further: ReadPage (under way).
   What the model's functions of chapter 5 answer, further: ReadPage where there is the page (under way).
   What the model's functions of chapter 5 answer, further: EraseAt (under way). -/
import Derived.Test.YtfiajbkmklcaiaaDevices
import Derived.Test.YtfiajbkmklcaiaaHand
namespace Go.Proofs.Ytfiajbkmklcaiaa
open Go.ChangeShapes Go.WideShapes Go.ChangeAt Go.RowKit

theorem specDeviceValid_val {A : Option Addr} {n c : Nat} {bs : List Bk} {V : Bool} (hl : bs.length = n) (h : devB bs = V) (w : World) (hr : DRow w w.heap.size A bs) (hn : n ≤ 1048576) (hp : ∀ b, b ∈ bs → b.ps.length ≤ 1048576) :
    Calls Try.prog 64 #[.slice A n c] w (KeptV (.bool V) w) := h ▸ specDeviceValid_any A n c bs w hl hr hn hp
/-- The page with number a of a device. -/
def pageAt (bs : List Bk) (a : Nat) : Option Pg := (bs[a / 4]?).bind fun b => b.ps[a % 4]?
theorem dev_parts {bs : List Bk} (h : devB bs = true) : (1 ≤ bs.length ∧ bs.length ≤ 12) ∧ ∀ b, b ∈ bs → blockB b.m b.ps = true := by
  simp only [devB, Bool.and_eq_true, List.all_eq_true] at h
  have h1 := inB_iff.1 h.1
  exact ⟨⟨by omega, by omega⟩, h.2⟩
/-- What ReadPage answers where there is such a page. -/
def PageRead (p : Pg) (w : World) (e : Ending) (w' : World) : Prop := e = .returned (.tuple #[.agg #[.bool p.f, .int .i64 p.a, .int .i64 p.b, .int .i64 p.c, .int .i64 p.d], .bool p.f]) ∧ w.grownBy w' none
theorem specReadPage_no (A : Option Addr) (n c : Nat) (bs : List Bk) (at' : Int) (w : World) (hl : bs.length = n) (hr : DRow w w.heap.size A bs) (hn : n ≤ 1048576) (hp : ∀ b, b ∈ bs → b.ps.length ≤ 1048576) (hd : devB bs = false) :
    Calls Try.prog 66 #[.slice A n c, .int .i64 at'] w (PageRead pz w) := by
  have HD := Lib.hid (And.intro hl (And.intro hd (And.intro hp (hr.alloc (.cells #[.bool false, .int .i64 0, .int .i64 0, .int .i64 0, .int .i64 0] 37)))))
  clear hl hd hp hr
  go_enter Try.func66, Try.ntmps66
  go_wp2_with fail
  refine (specDeviceValid_val HD.out.1 HD.out.2.1 _ HD.out.2.2.2.here hn HD.out.2.2.1).mono ?_
  rintro e w1 ⟨rfl, hk⟩
  have hb := (Blk.new w 37 #[.bool false, .int .i64 0, .int .i64 0, .int .i64 0, .int .i64 0]).keep hk
  have HG := Lib.hid (grown_trans (grown_alloc (grown_refl w none) _) hk)
  obtain ⟨r0, r1, r2, r3, r4⟩ := cells5 hb
  have q0 := hb.frozen 0
  have q1 := hb.frozen 1
  have q2 := hb.frozen 2
  have q3 := hb.frozen 3
  have q4 := hb.frozen 4
  clear hb hk
  go_wp2
  exact bodyPost_ret (v := .tuple #[.agg #[.bool false, .int .i64 0, .int .i64 0, .int .i64 0, .int .i64 0], .bool false]) (by simp [results, Try.results66, go_sem, *]) rfl ⟨rfl, grown_put5n HG.out (Nat.le_refl _) _ _ _ _ _⟩
theorem specReadPage_out (A : Option Addr) (n c : Nat) (bs : List Bk) (at' : Int) (w : World) (hl : bs.length = n) (hr : DRow w w.heap.size A bs) (hn : n ≤ 1048576) (hp : ∀ b, b ∈ bs → b.ps.length ≤ 1048576) (hd : devB bs = true) (ha : inB at' 0 (4 * n - 1) = false) :
    Calls Try.prog 66 #[.slice A n c, .int .i64 at'] w (PageRead pz w) := by
  have HD := Lib.hid (And.intro hl (And.intro hd (And.intro hp (And.intro (hr.alloc (.cells #[.bool false, .int .i64 0, .int .i64 0, .int .i64 0, .int .i64 0] 37)) ha))))
  clear hl hd hp hr ha
  go_enter Try.func66, Try.ntmps66
  go_wp2_with fail
  refine (specDeviceValid_val HD.out.1 HD.out.2.1 _ HD.out.2.2.2.1.here hn HD.out.2.2.1).mono ?_
  rintro e w1 ⟨rfl, hk⟩
  have hb := (Blk.new w 37 #[.bool false, .int .i64 0, .int .i64 0, .int .i64 0, .int .i64 0]).keep hk
  have HG := Lib.hid (grown_trans (grown_alloc (grown_refl w none) _) hk)
  obtain ⟨r0, r1, r2, r3, r4⟩ := cells5 hb
  have q0 := hb.frozen 0
  have q1 := hb.frozen 1
  have q2 := hb.frozen 2
  have q3 := hb.frozen 3
  have q4 := hb.frozen 4
  clear hb hk
  go_wp2_with (go_at_call 55; refine (in_any _ _ _ _).mono ?_; rintro e w' ⟨rfl, rfl⟩; rw [HD.out.2.2.2.2])
  exact bodyPost_ret (v := .tuple #[.agg #[.bool false, .int .i64 0, .int .i64 0, .int .i64 0, .int .i64 0], .bool false]) (by simp [results, Try.results66, go_sem, *]) rfl ⟨rfl, grown_put5n HG.out (Nat.le_refl _) _ _ _ _ _⟩
end Go.Proofs.Ytfiajbkmklcaiaa
namespace Go.Proofs.Ytfiajbkmklcaiaa
open Go.ChangeShapes Go.WideShapes Go.ChangeAt Go.RowKit

set_option maxHeartbeats 1000000 in
theorem specReadPage_at (A : Option Addr) (n c : Nat) (bs : List Bk) (a : Nat) (p : Pg) (w : World) (hl : bs.length = n) (hr : DRow w w.heap.size A bs) (hd : devB bs = true) (hp : pageAt bs a = some p) :
    Calls Try.prog 66 #[.slice A n c, .int .i64 a] w (PageRead p w) := by
  obtain ⟨⟨h1, h12⟩, hall⟩ := dev_parts hd
  have hk : a / 4 < bs.length := by
    unfold pageAt at hp
    rcases Nat.lt_or_ge (a / 4) bs.length with h | h
    · exact h
    · rw [List.getElem?_eq_none h] at hp; cases hp
  obtain ⟨k, hk'⟩ : ∃ k, k = a / 4 := ⟨_, rfl⟩
  obtain ⟨j, hj'⟩ : ∃ j, j = a % 4 := ⟨_, rfl⟩
  have hj4 : j < 4 := by omega
  have hkn : k < bs.length := by omega
  obtain ⟨g, off, m, Ab, cb, ps, rfl, _, _, hb, _, _, _⟩ := hr.at_ hkn
  have hv := hall _ (List.mem_of_getElem? hb)
  have hp4 : ps.length = 4 := (block_parts hv).2.1
  have hpg : ps[j]? = some p := by
    unfold pageAt at hp
    rw [← hk', hb, ← hj'] at hp
    exact hp
  have ha : inB (a : Int) 0 (4 * n - 1) = true := inB_iff.2 ⟨by omega, by omega⟩
  have HD := Lib.hid (And.intro hl (And.intro hd (And.intro (fun (b : Bk) (hm : b ∈ bs) => show b.ps.length ≤ 1048576 by have := (block_parts (hall b hm)).2.1; omega) (And.intro (hr.alloc (.cells #[.bool false, .int .i64 0, .int .i64 0, .int .i64 0, .int .i64 0] 37)) (And.intro ha (And.intro hb (And.intro hp4 hpg)))))))
  have hn12 : n ≤ 12 := by omega
  have hn1 : 1 ≤ n := by omega
  have hkn2 : k < n := by omega
  have e1 : (a : Int) / 4 = (k : Int) := by omega
  have e2 : (a : Int) % 4 = (j : Int) := by omega
  have a0 : 0 ≤ (a : Int) := by omega
  have a1 : (a : Int) ≤ 48 := by omega
  have HE := Lib.hid (And.intro e1 e2)
  obtain ⟨f, x1, x2, x3, x4⟩ := p
  clear hl hr hd hp ha hall hb hv hp4 hpg hk hk' hj' h1 h12 hkn e1 e2
  go_enter Try.func66, Try.ntmps66
  go_wp2_with fail
  refine (specDeviceValid_val HD.out.1 HD.out.2.1 _ HD.out.2.2.2.1.here (by omega) HD.out.2.2.1).mono ?_
  rintro e w1 ⟨rfl, hk⟩
  have hb := (Blk.new w 37 #[.bool false, .int .i64 0, .int .i64 0, .int .i64 0, .int .i64 0]).keep hk
  have HG := Lib.hid (grown_trans (grown_alloc (grown_refl w none) (.cells #[.bool false, .int .i64 0, .int .i64 0, .int .i64 0, .int .i64 0] 37)) hk)
  have hrow := HD.out.2.2.2.1.kept hk
  obtain ⟨g', off', m', Ab', cb', ps', e0, _, hgw, hb', c0, c1, hpr⟩ := hrow.at_ (i := k) (by have := HD.out.1; omega)
  rw [HD.out.2.2.2.2.2.1] at hb'
  injection e0 with e0
  injection e0 with e3 e4
  subst e3; subst e4
  injection hb' with hb'
  injection hb' with e5 e6 e7 e8
  subst e5; subst e6; subst e7; subst e8
  obtain ⟨g2, off2, e9, _, hg2, hp5⟩ := hpr (by have := HD.out.2.2.2.2.2.2.1; omega)
  obtain ⟨d0, d1, d2, d3, d4⟩ := hp5 _ _ HD.out.2.2.2.2.2.2.2
  subst e9
  rw [HD.out.2.2.2.2.2.2.1] at c1
  have HB := Lib.hid hb
  have hlt := hb.lt
  obtain ⟨r0, r1, r2, r3, r4⟩ := cells5 hb
  have q0 := hb.frozen 0
  have q1 := hb.frozen 1
  have q2 := hb.frozen 2
  have q3 := hb.frozen 3
  have q4 := hb.frozen 4
  have k0 : decide ((0 : Int) ≤ k) = true := decide_eq_true (by omega)
  have k2 : (k : Int) < n := by omega
  have k3 : (j : Int) < 4 := by omega
  have i1 := HE.out.1
  have i2 := HE.out.2
  clear hb hk hrow hpr hp5
  go_wp2_with (go_at_call 55; refine (in_any _ _ _ _).mono ?_; rintro e w' ⟨rfl, rfl⟩; rw [HD.out.2.2.2.2.1])
  have hM := Blk.new (((((w1.setCell ⟨w.heap.size, 0, none⟩ (.bool f)).setCell ⟨w.heap.size, 1, none⟩ (.int .i64 x1)).setCell ⟨w.heap.size, 2, none⟩ (.int .i64 x2)).setCell ⟨w.heap.size, 3, none⟩ (.int .i64 x3)).setCell ⟨w.heap.size, 4, none⟩ (.int .i64 x4)) 37 #[.bool f, .int .i64 x1, .int .i64 x2, .int .i64 x3, .int .i64 x4]
  rw [show (((((w1.setCell ⟨w.heap.size, 0, none⟩ (.bool f)).setCell ⟨w.heap.size, 1, none⟩ (.int .i64 x1)).setCell ⟨w.heap.size, 2, none⟩ (.int .i64 x2)).setCell ⟨w.heap.size, 3, none⟩ (.int .i64 x3)).setCell ⟨w.heap.size, 4, none⟩ (.int .i64 x4)).heap.size = w1.heap.size by simp [World.setCell]] at hM
  have hN := Blk.new w1 37 #[.bool f, .int .i64 x1, .int .i64 x2, .int .i64 x3, .int .i64 x4]
  have u1 : w.heap.size ≠ w1.heap.size := by omega
  have u2 : w1.heap.size ≠ w.heap.size := by omega
  refine wp_region_held_drew (S := (fun w' => w'.cell? ⟨w1.heap.size, 0, none⟩ = some (.bool f) ∧ w'.cell? ⟨w1.heap.size, 1, none⟩ = some (.int .i64 x1) ∧ w'.cell? ⟨w1.heap.size, 2, none⟩ = some (.int .i64 x2) ∧ w'.cell? ⟨w1.heap.size, 3, none⟩ = some (.int .i64 x3) ∧ w'.cell? ⟨w1.heap.size, 4, none⟩ = some (.int .i64 x4))) (by kernel_rfl) ?_ (fun hHeld => ?_)
  · exact cells5 hN
  refine held_yes (i := 0) (d := some 30) (v := ?_) rfl rfl (by kernel_rfl) (by kernel_rfl) (by kernel_rfl) (fun _ _ _ h => h) (by rfl) ?_ (by assumption) ?_
  rotate_left
  · (intro w hSw; (try dsimp only at hSw); go_simp; (first | done | with_reducible rfl))
  try simp only [Act.put, List.setIfInBounds_toArray, List.set_cons_zero, List.set_cons_succ]
  refine held_yes (i := 1) (d := some 31) (v := ?_) rfl rfl (by kernel_rfl) (by kernel_rfl) (by kernel_rfl) (fun _ _ _ h => h) (by rfl) ?_ (by assumption) ?_
  rotate_left
  · (intro w hSw; (try dsimp only at hSw); go_simp; (first | done | with_reducible rfl))
  try simp only [Act.put, List.setIfInBounds_toArray, List.set_cons_zero, List.set_cons_succ]
  refine held_yes (i := 2) (d := some 32) (v := ?_) rfl rfl (by kernel_rfl) (by kernel_rfl) (by kernel_rfl) (fun _ _ _ h => h) (by rfl) ?_ (by assumption) ?_
  rotate_left
  · (intro w hSw; (try dsimp only at hSw); go_simp; (first | done | with_reducible rfl))
  try simp only [Act.put, List.setIfInBounds_toArray, List.set_cons_zero, List.set_cons_succ]
  refine wpAnyH_ready (rs := [3]) (by kernel_rfl) (by simp) ?_
  refine AllReadyH.cons rfl (fun K hK => ?_) AllReadyH.nil
  go_simp
  refine hK.out _ _ ?_ (fun hHeld => ?_)
  · exact cells5 hM.drew
  clear hK K
  try simp only [Act.put, List.setIfInBounds_toArray, List.set_cons_zero, List.set_cons_succ]
  refine wpAnyH_ready (rs := [4]) (by kernel_rfl) (by simp) ?_
  refine AllReadyH.cons rfl (fun K hK => ?_) AllReadyH.nil
  go_simp
  refine hK.out _ _ ?_ (fun hHeld => ?_)
  · with_reducible assumption
  clear hK K
  try simp only [Act.put, List.setIfInBounds_toArray, List.set_cons_zero, List.set_cons_succ]
  refine wpAnyH_done (by kernel_rfl) ?_ _
  clear hM hN
  go_wp2
  exact bodyPost_ret (v := .tuple #[.agg #[.bool f, .int .i64 x1, .int .i64 x2, .int .i64 x3, .int .i64 x4], .bool f]) (by simp [results, Try.results66, go_sem, *]) rfl ⟨rfl, grown_drew (grown_alloc (grown_put5n HG.out (Nat.le_refl _) _ _ _ _ _) _)⟩
end Go.Proofs.Ytfiajbkmklcaiaa
namespace Go.Proofs.Ytfiajbkmklcaiaa
open Go.ChangeShapes Go.WideShapes Go.ChangeAt Go.RowKit

/-- What EraseBlock answers of a valid block. -/
def eraseIs (m : Int) (ps : List Pg) : Int × List Pg := if m = 100 then (m, ps) else (m + 1, [pz, pz, pz, pz])
theorem DOwn.base_le {w : World} {base base' : Nat} {v : Value} {bs : List Bk} (h : DOwn w base v bs) (hb : base' ≤ base) : DOwn w base' v bs := by
  refine ⟨⟨h.1.1, ?_⟩, fun b hm => (h.2.1 b hm).base_le hb, h.2.2⟩
  rcases h.1.2 with hn | ⟨g, cap, cur, e, hg, rest⟩
  · exact .inl hn
  · exact .inr ⟨g, cap, cur, e, Nat.le_trans hb hg, rest⟩
/-- A device in memory of its own is returned, and another result. -/
def DevMade2 (l : List (Int × List Pg)) (n : Nat) (r : Value) (w : World) (e : Ending) (w' : World) : Prop :=
  ∃ (A : Option Addr) (c : Nat) (cs : List Bk), e = .returned (.tuple #[.slice A n c, r]) ∧ cs.length = n ∧ cs.map Bk.is = l ∧ DOwn w' w.heap.size (.slice A n c) cs ∧ w.grownBy w' none
end Go.Proofs.Ytfiajbkmklcaiaa
