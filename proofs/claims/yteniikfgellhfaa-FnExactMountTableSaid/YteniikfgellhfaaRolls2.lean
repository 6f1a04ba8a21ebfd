/- What the program's withoutPage and RollForward answer. Written by mk/rolls.py.
   What the model's RollForward answers. Written by mk/rolls.py. -/
import Derived.Test.YteniikfgellhfaaRolls
import Derived.Test.YteniikfgellhfaaTables7
import Derived.Test.YteniikfgellhfaaHand
namespace Go.Proofs.Yteniikfgellhfaa
open Go.ChangeShapes Go.WideShapes Go.ChangeAt Go.RowKit
set_option linter.unusedVariables false
set_option linter.unusedSimpArgs false

theorem clr_upto {xss : List (List Int)} {x : Int} {f j : Nat} (hj : j < 6) (h : cellO xss f j = some x) : clrTo xss x (6 * f + j + 1) = tset (clrTo xss x (6 * f + j)) f j (-1) := by
  have e1 : (6 * f + j) / 6 = f := by omega
  have e2 : (6 * f + j) % 6 = j := by omega
  have := clr_yes (xss := xss) (x := x) (m := 6 * f + j) (by rw [e1, e2]; exact h)
  rw [e1, e2] at this
  exact this
theorem clr_past {xss : List (List Int)} {x : Int} {f j : Nat} (hj : j < 6) (h : cellO xss f j ≠ some x) : clrTo xss x (6 * f + j + 1) = clrTo xss x (6 * f + j) := by
  have e1 : (6 * f + j) / 6 = f := by omega
  have e2 : (6 * f + j) % 6 = j := by omega
  exact clr_no (by rw [e1, e2]; exact h)
/-- A table of the call's own in variable V, its row in block g. -/
def CTab (b hi V g ct : Nat) (xss : List (List Int)) (wr : World) : Prop :=
  (∃ cs, cs.length = 8 ∧ ll cs = xss ∧ TOwn wr b (.slice (some ⟨g, 0, none⟩) 8 ct) cs ∧ ∀ (l : Li) (a : Addr), l ∈ cs → l.A = some a → a.block < hi) ∧ Blk wr V 40 #[.slice (some ⟨g, 0, none⟩) 8 ct]
theorem CTab.keep {b hi V g ct : Nat} {xss : List (List Int)} {wr w' : World} (H : CTab b hi V g ct xss wr) (q : wr.grownBy w' none) : CTab b hi V g ct xss w' := by
  obtain ⟨⟨cs, h1, h2, h3, h5⟩, h4⟩ := H
  exact ⟨⟨cs, h1, h2, h3.keep q, h5⟩, h4.keep q⟩
theorem CTab.low {b b' hi V g ct : Nat} {xss : List (List Int)} {wr : World} (H : CTab b hi V g ct xss wr) (q : b' ≤ b) : CTab b' hi V g ct xss wr := by
  obtain ⟨⟨cs, h1, h2, h3, h5⟩, h4⟩ := H
  exact ⟨⟨cs, h1, h2, h3.base_le q, h5⟩, h4⟩
theorem CTab.row {b hi V g ct : Nat} {xss : List (List Int)} {wr : World} (H : CTab b hi V g ct xss wr) : ∃ cs, cs.length = 8 ∧ ll cs = xss ∧ TRow wr wr.heap.size (some ⟨g, 0, none⟩) cs := by
  obtain ⟨⟨cs, h1, h2, h3, h5⟩, h4⟩ := H
  exact ⟨cs, h1, h2, h3.row⟩
/-- What is needed of the table to read or write the cell of file f and place j. -/
theorem CTab.open_ {b hi V g ct : Nat} {xss : List (List Int)} {wr : World} (H : CTab b hi V g ct xss wr) (hT : TV xss) {f j : Nat} (hf : f < 8) (hj : j < 6) :
    ∃ (gl cl : Nat) (x : Int), wr.cell? ⟨g, f, none⟩ = some (.slice (some ⟨gl, 0, none⟩) 6 cl) ∧ wr.cell? ⟨gl, j, none⟩ = some (.int .i64 x) ∧ wr.frozen? ⟨gl, j, none⟩ = false ∧ cellO xss f j = some x ∧ (b ≤ gl ∧ gl < hi) ∧ gl ≠ g ∧
      (∀ {t : TypeId} {V' : Nat} {cc : Array Value}, Blk wr V' t cc → (3 : TypeId) ≠ t → gl ≠ V') ∧
      ∀ y : Int, CTab b hi V g ct (tset xss f j y) (wr.setCell ⟨gl, j, none⟩ (.int .i64 y)) := by
  obtain ⟨⟨cs, h1, h2, h3, h5⟩, h4⟩ := H
  obtain ⟨xs, x, e1, e6, e2, e3⟩ := hT.cell hf hj
  obtain ⟨gl, cl, hli, hio, hgl, hglz⟩ := h3.inner (f := f) (xs := xs) (by rw [h2]; exact e1) (by omega)
  have c0 := h3.at_ h1 hli
  dsimp only at c0
  rw [e6] at c0
  have hVg : gl ≠ g := by
    rcases VOwn.ne hio h3.1 int_ne with e | e
    · simp [Value.ownBlock] at e
    · simpa [Value.ownBlock] using e
  have n4 : gl ≠ V := VOwn.ne_blk hio h4 (by decide)
  rw [e6] at hio
  refine ⟨gl, cl, x, c0, VOwn.at_ hio (by rw [iv_length]; exact e6) (iv_at e2), VOwn.frozen hio (by rw [iv_length]; exact e6) j, e3, ⟨hgl, h5 _ _ (List.mem_of_getElem? hli) rfl⟩, hVg, fun hb ht => VOwn.ne_blk hio hb ht, fun y => ?_⟩
  refine ⟨⟨_, by rw [List.length_set]; exact h1, ?_, h3.set hli j y, fun l a hl ha => ?_⟩, h4.far (p := ⟨gl, j, none⟩) (fun e => n4 e.symm) _⟩
  · rw [ll_set, h2, tset_row e1]
  · rcases List.mem_or_eq_of_mem_set hl with hl | rfl
    · exact h5 l a hl ha
    · exact h5 _ a (List.mem_of_getElem? hli) ha
theorem town_lt {w : World} {b : Nat} {v : Value} {cs : List Li} (h : TOwn w b v cs) {l : Li} {a : Addr} (hl : l ∈ cs) (ha : l.A = some a) : a.block < w.heap.size := by
  have h1 := VOwn.lt (h.2.1 l hl) a.block (by unfold Li.row; rw [ha]; rfl)
  exact h1.2
/-- A copy put into a variable. -/
theorem CTab.start {w2 : World} {b c : Nat} {A : Option Addr} {xss : List (List Int)} {cs : List Li} (ho : TOwn w2 b (.slice A 8 c) cs) (hl : cs.length = 8) (hx : ll cs = xss) : ∃ g, A = some ⟨g, 0, none⟩ ∧ b ≤ g ∧ g < w2.heap.size ∧ CTab b w2.heap.size w2.heap.size g c xss (w2.alloc (.cells #[.slice A 8 c] 40)) := by
  obtain ⟨g, _, e, hg, hz, _⟩ := ho.head hl (by omega)
  injection e with e1 _ e3
  subst e1
  exact ⟨g, rfl, hg, hz, ⟨cs, hl, hx, ho.keep (grown_alloc (grown_refl _ _) _), fun l a hm ha => town_lt ho hm ha⟩, Blk.new w2 _ _⟩
/-- The loops of withoutPage: the table that came in, and the copy. -/
def WSt2 (w : World) (A : Option Addr) (c : Nat) (ls : List Li) (V g ct : Nat) (xss : List (List Int)) (wr : World) : Prop := TIn2 w A 8 c ls wr ∧ ∃ hi, CTab w.heap.size hi V g ct xss wr
set_option maxHeartbeats 2000000 in
theorem without_at {A : Option Addr} {n c : Nat} {ls : List Li} {w : World} (x : Int) (hl : ls.length = n) (hr : TRow w w.heap.size A ls) (hv : tabB (ll ls) = true) :
    Calls Try.prog 63 #[.agg #[.slice A n c], .int .i64 x] w (TabMade (clrTo (ll ls) x 48) 8 w) := by
  obtain ⟨h8, g, off, _, _, _, _, _, rfl, _⟩ := hr.open_ hv (show 0 < 8 by omega) (show 0 < 6 by omega)
  have en : n = 8 := by omega
  subst en
  have HT := Lib.hid (TIn2.start hr 8 c)
  have HV := Lib.hid (And.intro hl (And.intro hv ((tabB_iff _).1 hv)))
  have b0 := HT.out.1.cell 0
  clear hl hr hv h8
  go_enter Try.func63, Try.ntmps63
  go_wp2_with fail
  refine (copyTab_at _ _ _ ls _ HV.out.1 HT.out.2.2.1.here HV.out.2.1).mono ?_
  rintro e w2 ⟨A2, ct, cs, rfl, hcl, hcs, ho, hk⟩
  obtain ⟨gt, rfl, hgt, hgz, hC⟩ := CTab.start ho hcl hcs
  have K2 := grown_alloc (grown_refl w2 none) (.cells #[.slice (some ⟨gt, 0, none⟩) 8 ct] 40)
  have hC0 := hC.low HT.out.2.2.2.size
  have HS : RowKit.Hid (WSt2 w (some ⟨g, off, none⟩) c ls w2.heap.size gt ct (clrTo (ll ls) x 0) (w2.alloc (.cells #[.slice (some ⟨gt, 0, none⟩) 8 ct] 40))) := Lib.hid ⟨(HT.out.keep hk).keep K2, _, hC0⟩
  have hVw : w.heap.size + 1 < w2.heap.size := by
    have h1 := hk.size
    have h2 := HT.out.2.1.lt
    simp only [size_alloc1] at h1
    omega
  have c0 := HS.out.1.1.cell 0
  clear hcl hcs ho hk hC K2 hC0 b0 HT
  go_wp2
  generalize w2.heap.size = V at HS hVw c0 ⊢
  go_loopw [15] (fun i wr => ∃ f : Nat, i = .int .i64 f ∧ f ≤ 8 ∧ WSt2 w (some ⟨g, off, none⟩) c ls V gt ct (clrTo (ll ls) x (6 * f)) wr) (fun i _ => 8 - (intOf i).toNat)
  case atStart => exact ⟨0, rfl, Nat.zero_le _, HS.out⟩
  case round =>
    rename World => wq
    obtain ⟨f, rfl, hf, hS⟩ := hrel
    clear HS c0
    have HS := Lib.hid hS
    clear hS
    by_cases hlt : f < 8
    · have f1 : (f : Int) < 8 := by omega
      have f0 : decide ((0 : Int) ≤ f) = true := decide_eq_true (by omega)
      obtain ⟨gx, ox, cl, xs, hll, h6⟩ := HS.out.1.2.2.1.list HV.out.2.1 hlt
      have c0 := HS.out.1.2.2.1.cellf hll h6
      have HX := Lib.hid (And.intro hll h6)
      clear hll h6
      go_wp2
      go_loopw [22] (fun i wr => ∃ j : Nat, i = .int .i64 j ∧ j ≤ 6 ∧ WSt2 w (some ⟨g, off, none⟩) c ls V gt ct (clrTo (ll ls) x (6 * f + j)) wr) (fun i _ => 6 - (intOf i).toNat)
      case atStart => exact ⟨0, rfl, Nat.zero_le _, HS.out⟩
      case round =>
        rename World => wz
        obtain ⟨j, rfl, hj, hS⟩ := hrel
        clear HS c0
        have HS := Lib.hid hS
        clear hS
        by_cases hjlt : j < 6
        · have j1 : (j : Int) < 6 := by omega
          have j0 : decide ((0 : Int) ≤ j) = true := decide_eq_true (by omega)
          obtain ⟨y, hy⟩ : ∃ y, xs[j]? = some y := ⟨_, List.getElem?_eq_getElem (by have := HX.out.2; omega)⟩
          have c1 := (HS.out.1.2.2.1.inner HX.out.1).cellf hy
          have hcell : cellO (ll ls) f j = some y := cellO_of (ll_at HX.out.1) hy
          by_cases he : y = x
          · have e1 : (y == x) = true := by rw [beq_iff_eq]; exact he
            have hst := clr_upto hjlt (hcell.trans (by rw [he]))
            obtain ⟨hi, hCT⟩ := HS.out.2
            have v0 := hCT.2.cell 0
            obtain ⟨gl, cl2, z, d0, d1, d2, _, ⟨hgl, _⟩, hne, hnb, hput⟩ := hCT.open_ (clr_tv HV.out.2.2 x _ (by omega)) hlt hjlt
            have hfin := hput (-1)
            rw [← hst] at hfin
            have n0 : gl ≠ w.heap.size := hnb HS.out.1.1 (by decide)
            have n1 : gl ≠ w.heap.size + 1 := hnb HS.out.1.2.1 (by decide)
            have HZ := Lib.hid (show WSt2 w (some ⟨g, off, none⟩) c ls V gt ct (clrTo (ll ls) x (6 * f + (j + 1))) (wz.setCell ⟨gl, j, none⟩ (.int .i64 (-1))) from ⟨HS.out.1.far (p := ⟨gl, j, none⟩) hgl n0 n1 _, hi, hfin⟩)
            clear hst hput hfin hnb hy hcell he HS hCT
            go_wp2
            go_roundw
            case rel => exact ⟨j + 1, by go_num, by omega, HZ.out⟩
            case measure => simp [intOf]; omega
          · have e1 : (y == x) = false := by rw [beq_eq_false_iff_ne]; exact he
            have HZ := Lib.hid (clr_past (xss := ll ls) (x := x) hjlt (by rw [hcell]; intro e; injection e with e; exact he e))
            clear hy hcell he
            go_wp2
            go_roundw
            case rel => exact ⟨j + 1, by go_num, by omega, by rw [show 6 * f + (j + 1) = 6 * f + j + 1 from rfl, HZ.out]; exact HS.out⟩
            case measure => simp [intOf]; omega
        · obtain rfl : j = 6 := by omega
          go_wp2
          go_roundw
          case rel => exact ⟨f + 1, by go_num, by omega, by rw [show 6 * (f + 1) = 6 * f + 6 by omega]; exact HS.out⟩
          case measure => simp [intOf]; omega
    · obtain rfl : f = 8 := by omega
      have z0 : wq.cell? ⟨w.heap.size + 1, 0, none⟩ = some (.slice none 0 0) := HS.out.1.2.1.cell 0
      have z1 : wq.frozen? ⟨w.heap.size + 1, 0, none⟩ = false := HS.out.1.2.1.frozen 0
      obtain ⟨_, ⟨cs, h1, h2, h3, _⟩, h4⟩ := HS.out.2
      have v0 := h4.cell 0
      have HZ := Lib.hid (And.intro h1 (And.intro h2 (And.intro (h3.put HS.out.1.2.1 0 (.slice (some ⟨gt, 0, none⟩) 8 ct)) (grown_put HS.out.1.2.2.2 (p := ⟨w.heap.size + 1, 0, none⟩) (by dsimp only; omega) (.slice (some ⟨gt, 0, none⟩) 8 ct)))))
      clear h1 h2 h3 h4 HS
      go_wp2
      exact bodyPost_ret (v := .agg #[.slice (some ⟨gt, 0, none⟩) 8 ct]) (by simp [results, Try.results63, go_sem, *]) rfl ⟨_, _, cs, rfl, HZ.out.1, HZ.out.2.1, HZ.out.2.2.1, HZ.out.2.2.2⟩
/-- What RollForward has in memory: the table that came in, the device. -/
def RIn (w : World) (A : Option Addr) (n c : Nat) (ls : List Li) (D : Option Addr) (bs : List Bk) (wr : World) : Prop := TIn2 w A n c ls wr ∧ DRow wr w.heap.size D bs
section
variable {D : Option Addr} {nd cd : Nat} {bs : List Bk} {A : Option Addr} {n c : Nat} {ls : List Li} {w wr w' : World}
theorem RIn.keep (H : RIn w A n c ls D bs wr) (k : wr.grownBy w' none) : RIn w A n c ls D bs w' := ⟨H.1.keep k, H.2.kept k⟩
theorem RIn.start (hr : TRow w w.heap.size A ls) (hd : DRow w w.heap.size D bs) (n c : Nat) : RIn w A n c ls D bs ((w.alloc (.cells #[.slice A n c] 40)).alloc (.cells #[.slice none 0 0] 40)) := ⟨TIn2.start hr n c, (hd.alloc _).alloc _⟩
/-- Something of the call's own is written. -/
theorem RIn.far (H : RIn w A n c ls D bs wr) {p : Addr} (hp : w.heap.size ≤ p.block) (h0 : p.block ≠ w.heap.size) (h1 : p.block ≠ w.heap.size + 1) (u : Value) : RIn w A n c ls D bs (wr.setCell p u) :=
  ⟨H.1.far hp h0 h1 u, H.2.grown (grown_set (grown_refl wr (some p.block)) (.inl rfl) u) (fun g e => by injection e with e; omega)⟩
theorem roll_no (s : Int) (hld : bs.length = nd) (hrd : DRow w w.heap.size D bs) (hnd : nd ≤ 1048576) (hpd : ∀ b, b ∈ bs → b.ps.length ≤ 1048576) (hl : ls.length = n) (hr : TRow w w.heap.size A ls) (hn : n ≤ 1048576) (hp : ∀ l, l ∈ ls → l.xs.length ≤ 1048576) (hB : (devB bs && tabB (ll ls)) = false) :
    Calls Try.prog 21 #[.slice D nd cd, .agg #[.slice A n c], .int .i64 s] w (TabMade [] 0 w) := by
  have HT := Lib.hid (RIn.start hr hrd n c)
  cases hd : devB bs
  · have HP := Lib.hid (And.intro hld (And.intro hpd hd))
    clear hl hr hp hd hld hrd hpd hB
    go_enter Try.func21, Try.ntmps21
    go_wp2_with fail
    refine (deviceValid_val HP.out.1 HP.out.2.2 _ HT.out.2.here hnd HP.out.2.1).mono ?_
    rintro e w1 ⟨rfl, hk⟩
    have HK := Lib.hid (HT.out.keep hk)
    have z0 := HK.out.1.2.1.cell 0
    have z1 := HK.out.1.2.1.frozen 0
    clear hk
    go_wp2
    exact bodyPost_ret (v := .agg #[.slice none 0 0]) (by simp [results, Try.results21, go_sem, *]) rfl ⟨none, 0, [], rfl, rfl, rfl, town_nil _ _, grown_put HK.out.1.2.2.2 (p := ⟨w.heap.size + 1, 0, none⟩) (by dsimp only; omega) _⟩
  · rw [hd, Bool.true_and] at hB
    have HP := Lib.hid (And.intro hld (And.intro hpd hd))
    have HQ := Lib.hid (And.intro hl (And.intro hp hB))
    clear hl hr hp hd hld hrd hpd hB
    go_enter Try.func21, Try.ntmps21
    go_wp2_with fail
    refine (deviceValid_val HP.out.1 HP.out.2.2 _ HT.out.2.here hnd HP.out.2.1).mono ?_
    rintro e w1 ⟨rfl, hk⟩
    have HK := Lib.hid (HT.out.keep hk)
    have b0 : w1.cell? ⟨w.heap.size, 0, none⟩ = some (.slice A n c) := HK.out.1.1.cell 0
    clear hk
    go_wp2_with fail
    refine (tabValid_val HQ.out.2.2 HQ.out.1 HK.out.1.2.2.1.here hn HQ.out.2.1).mono ?_
    rintro e w2 ⟨rfl, hk⟩
    replace HK := Lib.hid (HK.out.keep hk)
    have z0 := HK.out.1.2.1.cell 0
    have z1 := HK.out.1.2.1.frozen 0
    clear hk b0
    go_wp2
    exact bodyPost_ret (v := .agg #[.slice none 0 0]) (by simp [results, Try.results21, go_sem, *]) rfl ⟨none, 0, [], rfl, rfl, rfl, town_nil _ _, grown_put HK.out.1.2.2.2 (p := ⟨w.heap.size + 1, 0, none⟩) (by dsimp only; omega) _⟩
/-- The loop over the pages: the pages are read, the table in variable V is the call's own. -/
def RLp (w : World) (A : Option Addr) (c : Nat) (ls : List Li) (D : Option Addr) (bs : List Bk) (G : Option Addr) (L : List Int) (V Z : Nat) (xss : List (List Int)) (wr : World) : Prop :=
  RIn w A 8 c ls D bs wr ∧ IRow wr Z G L ∧ (∀ ad, G = some ad → V ≠ ad.block) ∧ Z ≤ wr.heap.size ∧ ∃ g ct hi, CTab w.heap.size hi V g ct xss wr
theorem irow_ne {w : World} {B : Nat} {A : Option Addr} {xs : List Int} (h : IRow w B A xs) {p : Addr} (hp : ∀ ad, A = some ad → p.block ≠ ad.block) (u : Value) : IRow (w.setCell p u) B A xs := fun hn => by
  obtain ⟨g, off, rfl, hb, hz, hc⟩ := h hn
  refine ⟨g, off, rfl, hb, by simpa [World.setCell] using hz, fun i v hv => ?_⟩
  rw [World.cell?_setCell_other w p _ u (fun e => by subst e; exact hp _ rfl rfl)]
  exact hc i v hv
end
set_option maxHeartbeats 4000000 in
theorem roll_yes {D : Option Addr} {nd cd : Nat} {bs : List Bk} {A : Option Addr} {n c : Nat} {ls : List Li} {w : World} (s : Int) (hld : bs.length = nd) (hrd : DRow w w.heap.size D bs) (hl : ls.length = n) (hr : TRow w w.heap.size A ls) (hd : devB bs = true) (hv : tabB (ll ls) = true) :
    Calls Try.prog 21 #[.slice D nd cd, .agg #[.slice A n c], .int .i64 s] w (TabMade (rollTo bs (ll ls) (sinV bs s) (sinV bs s).length) 8 w) := by
  obtain ⟨h8, g0, off, _, _, _, _, _, rfl, _⟩ := hr.open_ hv (show 0 < 8 by omega) (show 0 < 6 by omega)
  have en : n = 8 := by omega
  subst en
  obtain ⟨⟨h1, h12⟩, hall⟩ := dev_parts hd
  have hnd : nd ≤ 12 := by omega
  have HT := Lib.hid (RIn.start hr hrd 8 c)
  have HP := Lib.hid (And.intro hld (And.intro (fun (b : Bk) (hm : b ∈ bs) => show b.ps.length ≤ 1048576 by have := (block_parts (hall b hm)).2.1; omega) hd))
  have HQ := Lib.hid (And.intro hl (And.intro (ll_six hv) (And.intro hv ((tabB_iff _).1 hv))))
  obtain ⟨L, hL⟩ : ∃ L, sinV bs s = L := ⟨_, rfl⟩
  have hL48 : L.length ≤ 48 := by rw [← hL]; exact sinV_small _ _
  have hRT := fun k => roll_tv (bs := bs) ((tabB_iff _).1 hv) s k
  rw [hL] at hRT ⊢
  have HL := Lib.hid (And.intro hL (And.intro hRT (fun (x : Int) (hx : x ∈ L) => sinV_page (bs := bs) (s := s) (x := x) (by rw [hL]; exact hx))))
  have hs8 : (8 : Nat) ≤ 1048576 := by omega
  clear hl hr hv hld hrd hd h1 h12 hall h8 hL hRT
  go_enter Try.func21, Try.ntmps21
  go_wp2_with fail
  refine (deviceValid_val HP.out.1 HP.out.2.2 _ HT.out.2.here (by omega) HP.out.2.1).mono ?_
  rintro e w1 ⟨rfl, hk⟩
  have HK := Lib.hid (HT.out.keep hk)
  have b0 := HK.out.1.1.cell 0
  clear hk HT
  go_wp2_with fail
  refine (tabValid_val HQ.out.2.2.1 HQ.out.1 HK.out.1.2.2.1.here hs8 HQ.out.2.1).mono ?_
  rintro e w2 ⟨rfl, hk⟩
  replace HK := Lib.hid (HK.out.keep hk)
  have b1 := HK.out.1.1.cell 0
  clear hk b0
  go_wp2_with fail
  refine (copyTab_at _ _ _ ls w2 HQ.out.1 HK.out.1.2.2.1.here HQ.out.2.2.1).mono ?_
  rintro e w3 ⟨A3, ct, cs, rfl, hcl, hcs, ho, hk⟩
  obtain ⟨gt, rfl, hgt, hgz, hC⟩ := CTab.start ho hcl hcs
  have K3 := grown_alloc (grown_refl w3 none) (.cells #[.slice (some ⟨gt, 0, none⟩) 8 ct] 40)
  have hC0 := hC.low HK.out.1.2.2.2.size
  have hVw : w.heap.size + 1 < w3.heap.size := by
    have h1 := hk.size
    have h2 := HK.out.1.2.1.lt
    omega
  replace HK := Lib.hid (And.intro ((HK.out.keep hk).keep K3) hC0)
  clear hk b1 ho hcl hcs hC K3 hC0 hgt
  go_wp2_with fail
  refine (pagesSince_any s HP.out.1 HK.out.1.2.here (by omega) HP.out.2.1).mono ?_
  rintro e w4 ⟨G, nl, cg, rfl, hnl, hoG, hk⟩
  rw [HL.out.1] at hnl hoG
  obtain rfl : nl = L.length := hnl.symm
  have HS : RowKit.Hid (RLp w (some ⟨g0, off, none⟩) c ls D bs G L w3.heap.size w4.heap.size (rollTo bs (ll ls) L 0) w4) := Lib.hid ⟨HK.out.1.keep hk, VOwn.row hoG, fun ad e => by have h1 := VOwn.lt hoG ad.block (by rw [e]; rfl); simp only [size_alloc1] at h1; omega, Nat.le_refl _, gt, ct, _, HK.out.2.keep hk⟩
  have hVz : w3.heap.size < w4.heap.size := by have := hk.size; simp only [size_alloc1] at this; omega
  clear hk hnl hoG HK
  go_wp2
  generalize w3.heap.size = V at HS hVw hVz ⊢
  generalize w4.heap.size = Z at HS hVz ⊢
  go_loopw [26] (fun i wr => ∃ k : Nat, i = .int .i64 k ∧ k ≤ L.length ∧ RLp w (some ⟨g0, off, none⟩) c ls D bs G L V Z (rollTo bs (ll ls) L k) wr) (fun i _ => L.length - (intOf i).toNat)
  case atStart => exact ⟨0, rfl, Nat.zero_le _, HS.out⟩
  case round =>
    rename World => wq
    obtain ⟨k, rfl, hk, hS⟩ := hrel
    clear HS
    have HS := Lib.hid hS
    clear hS
    by_cases hlt : k < L.length
    · have k1 : (k : Int) < L.length := by omega
      have k0 : decide ((0 : Int) ≤ k) = true := decide_eq_true (by omega)
      obtain ⟨gg, og, rfl⟩ := IRow.pos HS.out.2.1 (by omega)
      obtain ⟨x, hx⟩ : ∃ x, L[k]? = some x := ⟨_, List.getElem?_eq_getElem hlt⟩
      have q0 := IRow.cellf HS.out.2.1 hx
      obtain ⟨a, f, j, pv, pd, rfl, ha, hp, hrv, hf, hj, _⟩ := HL.out.2.2 x (List.mem_of_getElem? hx)
      obtain ⟨g1, c1, hi1, hC1⟩ := HS.out.2.2.2.2
      have b2 := hC1.2.cell 0
      obtain ⟨cs1, hl1, hx1, hr1⟩ := hC1.row
      have hT1 := HL.out.2.1 k
      have hst : rollTo bs (ll ls) L (k + 1) = tset (clrTo (rollTo bs (ll ls) L k) (a : Int) 48) f j (a : Int) := by
        rw [roll_step hx]
        unfold putB
        rw [hrv]
        rfl
      have HX := Lib.hid (And.intro hst (And.intro hp (clr_tv hT1 (a : Int) 48 (Nat.le_refl _))))
      have hv1 : tabB (ll cs1) = true := by rw [hx1]; exact (tabB_iff _).2 hT1
      have HC := Lib.hid (And.intro hC1 (And.intro hl1 (And.intro hr1 (And.intro hv1 hx1))))
      clear hst hp hrv hx hC1 hl1 hr1 hv1 hT1 hx1
      go_wp2_with fail
      refine (without_at (a : Int) HC.out.2.1 HC.out.2.2.1 HC.out.2.2.2.1).mono ?_
      rintro e w5 ⟨A5, c5, cs5, rfl, hl5, hx5, ho5, hk5⟩
      rw [HC.out.2.2.2.2] at hx5
      obtain ⟨g5, cap5, e, hg5, hgz5, _⟩ := ho5.head hl5 (by omega)
      injection e with e1 _ e3
      subst e1; subst e3
      have hV5 := HC.out.1.2.keep hk5
      have hS5 := HS.out.1.keep hk5
      have hG5 : IRow w5 Z (some ⟨gg, og, none⟩) L := VRow.kept HS.out.2.1 hk5
      have hZ5 : Z ≤ w5.heap.size := Nat.le_trans HS.out.2.2.2.1 hk5.size
      have v0 := hV5.cell 0
      have v1 := hV5.frozen 0
      have hC6 : CTab wq.heap.size w5.heap.size V g5 c5 (clrTo (rollTo bs (ll ls) L k) (a : Int) 48) (w5.setCell ⟨V, 0, none⟩ (.slice (some ⟨g5, 0, none⟩) 8 c5)) :=
        ⟨⟨cs5, hl5, hx5, ho5.put hV5 0 _, fun l ad hm he => town_lt ho5 hm he⟩, hV5.put 0 _⟩
      have hS6 := hS5.far (p := ⟨V, 0, none⟩) (by dsimp only; omega) (by dsimp only; omega) (by dsimp only; omega) (.slice (some ⟨g5, 0, none⟩) 8 c5)
      have hG6 := irow_ne hG5 (p := ⟨V, 0, none⟩) (fun ad e => HS.out.2.2.1 ad e) (.slice (some ⟨g5, 0, none⟩) 8 c5)
      have hz6 : (w5.setCell ⟨V, 0, none⟩ (.slice (some ⟨g5, 0, none⟩) 8 c5)).heap.size = w5.heap.size := by simp [World.setCell]
      have HE := Lib.hid (And.intro hS6 (And.intro hG6 (And.intro hC6 (And.intro (show Z ≤ wq.heap.size from HS.out.2.2.2.1) (show w5.heap.size ≤ (w5.setCell ⟨V, 0, none⟩ (.slice (some ⟨g5, 0, none⟩) 8 c5)).heap.size by omega)))))
      have HG := Lib.hid HS.out.2.2.1
      clear ho5 hl5 hx5 hk5 hV5 hS5 hG5 hZ5 hC6 hS6 hG6 hz6 hg5 hgz5 b2 HC HS
      go_wp2_with fail
      refine (pageOf_at _ _ _ bs a _ _ HP.out.1 HE.out.1.2.here HP.out.2.2 HX.out.2.1).mono ?_
      rintro e w7 ⟨rfl, hk7⟩
      have K7 := grown_drew (grown_alloc hk7 (.cells #[.bool true, .int .i64 (f : Int), .int .i64 (j : Int), .int .i64 pv, .int .i64 pd] 30))
      have hS7 := HE.out.1.keep K7
      have hG7 : IRow _ Z (some ⟨gg, og, none⟩) L := VRow.kept HE.out.2.1 K7
      have hC7 := HE.out.2.2.1.keep K7
      have hP7 := Blk.drew (Blk.new w7 30 #[.bool true, .int .i64 (f : Int), .int .i64 (j : Int), .int .i64 pv, .int .i64 pd])
      have hZ7 := K7.size
      have hZ8 := HE.out.2.2.2.2
      have hZ9 := HE.out.2.2.2.1
      obtain ⟨p0, p1, p2, p3, p4⟩ := cells5 hP7
      have b3 := hC7.2.cell 0
      obtain ⟨gl, cl, z, d0, d1, d2, _, ⟨hgl, hglh⟩, hne, hnb, hput⟩ := hC7.open_ HX.out.2.2 hf hj
      have n3 : gl ≠ V := hnb hC7.2 (by decide)
      have n5 : gl ≠ w7.heap.size := hnb hP7 (by decide)
      have n6 : gl ≠ w.heap.size := hnb hS7.1.1 (by decide)
      have n7 : gl ≠ w.heap.size + 1 := hnb hS7.1.2.1 (by decide)
      have m3 : V ≠ gl := fun e => n3 e.symm
      have m5 : w7.heap.size ≠ gl := fun e => n5 e.symm
      have mg : g5 ≠ gl := fun e => hne e.symm
      have hfin := hput (a : Int)
      rw [← HX.out.1] at hfin
      have HSS := Lib.hid (And.intro ((hC7.2.far (p := ⟨gl, j, none⟩) m3 (.int .i64 (a : Int))).cell 0) (And.intro ((hP7.far (p := ⟨gl, j, none⟩) m5 (.int .i64 (a : Int))).cell 1) (And.intro ((hP7.far (p := ⟨gl, j, none⟩) m5 (.int .i64 (a : Int))).cell 2) ((World.cell?_setCell_other (w7.alloc (.cells #[.bool true, .int .i64 (f : Int), .int .i64 (j : Int), .int .i64 pv, .int .i64 pd] 30)).drew ⟨gl, j, none⟩ ⟨g5, f, none⟩ (.int .i64 (a : Int)) (fun e => by injection e with e; omega)).trans d0))))
      have HZ := Lib.hid (show RLp w (some ⟨g0, off, none⟩) c ls D bs (some ⟨gg, og, none⟩) L V Z (rollTo bs (ll ls) L (k + 1)) ((w7.alloc (.cells #[.bool true, .int .i64 (f : Int), .int .i64 (j : Int), .int .i64 pv, .int .i64 pd] 30)).drew.setCell ⟨gl, j, none⟩ (.int .i64 (a : Int))) from
        ⟨hS7.far (p := ⟨gl, j, none⟩) (by dsimp only; omega) n6 n7 _, VRow.setCell hG7 (p := ⟨gl, j, none⟩) (by dsimp only; omega) _, HG.out, by
          have e : ((w7.alloc (.cells #[.bool true, .int .i64 (f : Int), .int .i64 (j : Int), .int .i64 pv, .int .i64 pd] 30)).drew.setCell ⟨gl, j, none⟩ (.int .i64 (a : Int))).heap.size = (w7.alloc (.cells #[.bool true, .int .i64 (f : Int), .int .i64 (j : Int), .int .i64 pv, .int .i64 pd] 30)).drew.heap.size := by simp [World.setCell]
          omega, g5, c5, _, hfin.low (by omega)⟩)
      have f0 : decide ((0 : Int) ≤ f) = true := decide_eq_true (by omega)
      have f1 : (f : Int) < 8 := by omega
      have j0 : decide ((0 : Int) ≤ j) = true := decide_eq_true (by omega)
      have j1 : (j : Int) < 6 := by omega
      clear hk7 K7 hS7 hG7 hC7 hP7 hfin hput hnb q0 hZ7 hZ8 hZ9 v0 v1
      go_wp2_with fail
      refine wp_region_held_drew (S := (fun w' => w'.cell? ⟨V, 0, none⟩ = some (.slice (some ⟨g5, 0, none⟩) 8 c5) ∧ w'.cell? ⟨w7.heap.size, 1, none⟩ = some (.int .i64 (f : Int)) ∧ w'.cell? ⟨w7.heap.size, 2, none⟩ = some (.int .i64 (j : Int)) ∧ w'.cell? ⟨g5, f, none⟩ = some (.slice (some ⟨gl, 0, none⟩) 6 cl))) (by kernel_rfl) ?_ (fun hHeld => ?_)
      · exact ⟨b3, p1, p2, d0⟩
      refine heldY 0 36 ?_
      refine heldY 1 37 ?_
      refine heldY 2 38 ?_
      refine heldY 3 39 ?_
      refine heldY 4 40 ?_
      refine heldY 5 41 ?_
      refine heldY 6 42 ?_
      refine heldY 7 43 ?_
      refine heldY 8 44 ?_
      refine heldY 9 45 ?_
      refine wpAnyH_ready (rs := [10]) (by kernel_rfl) (by simp) ?_
      refine AllReadyH.cons rfl (fun K hK => ?_) AllReadyH.nil
      go_simp
      refine hK.out _ _ ?_ (fun hHeld => ?_)
      · exact HSS.out
      clear hK K
      try simp only [Act.put, List.setIfInBounds_toArray, List.set_cons_zero, List.set_cons_succ]
      refine wpAnyH_done (by kernel_rfl) ?_ _
      go_wp2
      go_roundw
      case rel => exact ⟨k + 1, by go_num, by omega, HZ.out⟩
      case measure => simp [intOf]; omega
    · obtain ⟨g1, c1, hi1, ⟨cs, h1, h2, h3, _⟩, h4⟩ := HS.out.2.2.2.2
      have z0 := HS.out.1.1.2.1.cell 0
      have z1 := HS.out.1.1.2.1.frozen 0
      have b3 := h4.cell 0
      have e8 : decide ((k : Int) < (L.length : Int)) = false := decide_eq_false (by omega)
      have ek : k = L.length := by omega
      rw [ek] at h2
      have HZ := Lib.hid (And.intro h1 (And.intro h2 (And.intro (h3.put HS.out.1.1.2.1 0 (.slice (some ⟨g1, 0, none⟩) 8 c1)) (grown_put HS.out.1.1.2.2.2 (p := ⟨w.heap.size + 1, 0, none⟩) (by dsimp only; omega) (.slice (some ⟨g1, 0, none⟩) 8 c1)))))
      clear h1 h2 h3 h4 HS ek
      go_wp2
      exact bodyPost_ret (v := .agg #[.slice (some ⟨g1, 0, none⟩) 8 c1]) (by simp [results, Try.results21, go_sem, *]) rfl ⟨_, _, cs, rfl, HZ.out.1, HZ.out.2.1, HZ.out.2.2.1, HZ.out.2.2.2⟩
theorem roll_val {D : Option Addr} {nd cd : Nat} {bs : List Bk} {A : Option Addr} {n c : Nat} {ls : List Li} {w : World} {s : Int} {X : List (List Int)} {m : Nat} (hV : rollV bs (ll ls) s = X) (hm : X.length = m) (hld : bs.length = nd) (hrd : DRow w w.heap.size D bs) (hnd : nd ≤ 1048576) (hpd : ∀ b, b ∈ bs → b.ps.length ≤ 1048576) (hl : ls.length = n) (hr : TRow w w.heap.size A ls) (hn : n ≤ 1048576) (hp : ∀ l, l ∈ ls → l.xs.length ≤ 1048576) :
    Calls Try.prog 21 #[.slice D nd cd, .agg #[.slice A n c], .int .i64 s] w (TabMade X m w) := by
  subst hV
  cases hB : devB bs && tabB (ll ls)
  · have e := rollV_no hB s
    rw [e] at hm ⊢
    subst hm
    exact roll_no s hld hrd hnd hpd hl hr hn hp hB
  · rw [Bool.and_eq_true] at hB
    have e8 : (rollV bs (ll ls) s).length = 8 := ((tabB_iff _).1 (rollV_tab hB.1 hB.2 s)).len
    rw [e8] at hm
    subst hm
    rw [rollV_yes hB.1 hB.2]
    exact roll_yes s hld hrd hl hr hB.1 hB.2
end Go.Proofs.Yteniikfgellhfaa
namespace Go.Proofs.Yteniikfgellhfaa
open Go.ChangeShapes Go.WideShapes Go.ChangeAt Go.RowKit
set_option linter.unusedVariables false
set_option linter.unusedSimpArgs false

theorem specRoll_no {D : Option Addr} {nd cd : Nat} {bs : List Bk} {A : Option Addr} {n c : Nat} {ls : List Li} {w : World} (s : Int) (hld : bs.length = nd) (hrd : DRow w w.heap.size D bs) (hnd : nd ≤ 1048576) (hpd : ∀ b, b ∈ bs → b.ps.length ≤ 1048576) (hl : ls.length = n) (hr : TRow w w.heap.size A ls) (hn : n ≤ 1048576) (hp : ∀ l, l ∈ ls → l.xs.length ≤ 1048576) (hB : (devB bs && tabB (ll ls)) = false) :
    Calls Try.prog 23 #[.slice D nd cd, .agg #[.slice A n c], .int .i64 s] w (TabMade [] 0 w) := by
  have HT := Lib.hid (RIn.start hr hrd n c)
  cases hd : devB bs
  · have HP := Lib.hid (And.intro hld (And.intro hpd hd))
    clear hl hr hp hd hld hrd hpd hB
    go_enter Try.func23, Try.ntmps23
    go_wp2_with fail
    refine (specDeviceValid_val HP.out.1 HP.out.2.2 _ HT.out.2.here hnd HP.out.2.1).mono ?_
    rintro e w1 ⟨rfl, hk⟩
    have HK := Lib.hid (HT.out.keep hk)
    have z0 := HK.out.1.2.1.cell 0
    have z1 := HK.out.1.2.1.frozen 0
    clear hk
    go_wp2
    exact bodyPost_ret (v := .agg #[.slice none 0 0]) (by simp [results, Try.results23, go_sem, *]) rfl ⟨none, 0, [], rfl, rfl, rfl, town_nil _ _, grown_put HK.out.1.2.2.2 (p := ⟨w.heap.size + 1, 0, none⟩) (by dsimp only; omega) _⟩
  · rw [hd, Bool.true_and] at hB
    have HP := Lib.hid (And.intro hld (And.intro hpd hd))
    have HQ := Lib.hid (And.intro hl (And.intro hp hB))
    clear hl hr hp hd hld hrd hpd hB
    go_enter Try.func23, Try.ntmps23
    go_wp2_with fail
    refine (specDeviceValid_val HP.out.1 HP.out.2.2 _ HT.out.2.here hnd HP.out.2.1).mono ?_
    rintro e w1 ⟨rfl, hk⟩
    have HK := Lib.hid (HT.out.keep hk)
    have b0 : w1.cell? ⟨w.heap.size, 0, none⟩ = some (.slice A n c) := HK.out.1.1.cell 0
    clear hk
    go_wp2_with fail
    refine (specTabValid_val HQ.out.2.2 HQ.out.1 HK.out.1.2.2.1.here hn HQ.out.2.1).mono ?_
    rintro e w2 ⟨rfl, hk⟩
    replace HK := Lib.hid (HK.out.keep hk)
    have z0 := HK.out.1.2.1.cell 0
    have z1 := HK.out.1.2.1.frozen 0
    clear hk b0
    go_wp2
    exact bodyPost_ret (v := .agg #[.slice none 0 0]) (by simp [results, Try.results23, go_sem, *]) rfl ⟨none, 0, [], rfl, rfl, rfl, town_nil _ _, grown_put HK.out.1.2.2.2 (p := ⟨w.heap.size + 1, 0, none⟩) (by dsimp only; omega) _⟩
/-- The loop over the pages: the pages are read, the table in variable V is the call's own, its rows lie below V and the list above. -/
def SLp (w : World) (A : Option Addr) (c : Nat) (ls : List Li) (D : Option Addr) (bs : List Bk) (G : Option Addr) (L : List Int) (V Y g ct : Nat) (xss : List (List Int)) (wr : World) : Prop :=
  RIn w A 8 c ls D bs wr ∧ IRow wr Y G L ∧ (∀ ad, G = some ad → V < ad.block) ∧ CTab w.heap.size V V g ct xss wr
section
variable {w wr w' : World} {A D G : Option Addr} {c V Y g ct : Nat} {ls : List Li} {bs : List Bk} {L : List Int} {xss : List (List Int)}
theorem SLp.keep (H : SLp w A c ls D bs G L V Y g ct xss wr) (k : wr.grownBy w' none) : SLp w A c ls D bs G L V Y g ct xss w' := ⟨H.1.keep k, VRow.kept H.2.1 k, H.2.2.1, H.2.2.2.keep k⟩
theorem SLp.open_ (H : SLp w A c ls D bs G L V Y g ct xss wr) (hT : TV xss) {f j : Nat} (hf : f < 8) (hj : j < 6) :
    ∃ (gl cl : Nat) (x : Int), wr.cell? ⟨g, f, none⟩ = some (.slice (some ⟨gl, 0, none⟩) 6 cl) ∧ wr.cell? ⟨gl, j, none⟩ = some (.int .i64 x) ∧ wr.frozen? ⟨gl, j, none⟩ = false ∧ cellO xss f j = some x ∧ gl ≠ g ∧ gl ≠ V ∧ (∀ ad, G = some ad → gl ≠ ad.block) ∧
      (∀ {t : TypeId} {V' : Nat} {cc : Array Value}, Blk wr V' t cc → (3 : TypeId) ≠ t → gl ≠ V') ∧
      ∀ y : Int, SLp w A c ls D bs G L V Y g ct (tset xss f j y) (wr.setCell ⟨gl, j, none⟩ (.int .i64 y)) := by
  obtain ⟨gl, cl, x, c0, c1, c2, e, ⟨h1, h2⟩, h3, h4, h5⟩ := H.2.2.2.open_ hT hf hj
  have hG : ∀ ad, G = some ad → gl ≠ ad.block := fun ad e => by have := H.2.2.1 ad e; omega
  exact ⟨gl, cl, x, c0, c1, c2, e, h3, by omega, hG, h4, fun y => ⟨H.1.far (p := ⟨gl, j, none⟩) h1 (h4 H.1.1.1 (by decide)) (h4 H.1.1.2.1 (by decide)) _, irow_ne H.2.1 (p := ⟨gl, j, none⟩) hG _, H.2.2.1, h5 y⟩⟩
end
set_option maxHeartbeats 4000000 in
theorem specRoll_yes {D : Option Addr} {nd cd : Nat} {bs : List Bk} {A : Option Addr} {n c : Nat} {ls : List Li} {w : World} (s : Int) (hld : bs.length = nd) (hrd : DRow w w.heap.size D bs) (hl : ls.length = n) (hr : TRow w w.heap.size A ls) (hd : devB bs = true) (hv : tabB (ll ls) = true) :
    Calls Try.prog 23 #[.slice D nd cd, .agg #[.slice A n c], .int .i64 s] w (TabMade (rollTo bs (ll ls) (sinV bs s) (sinV bs s).length) 8 w) := by
  obtain ⟨h8, g0, off, _, _, _, _, _, rfl, _⟩ := hr.open_ hv (show 0 < 8 by omega) (show 0 < 6 by omega)
  have en : n = 8 := by omega
  subst en
  obtain ⟨⟨h1, h12⟩, hall⟩ := dev_parts hd
  have hnd : nd ≤ 12 := by omega
  have HT := Lib.hid (RIn.start hr hrd 8 c)
  have HP := Lib.hid (And.intro hld (And.intro (fun (b : Bk) (hm : b ∈ bs) => show b.ps.length ≤ 1048576 by have := (block_parts (hall b hm)).2.1; omega) hd))
  have HQ := Lib.hid (And.intro hl (And.intro (ll_six hv) (And.intro hv ((tabB_iff _).1 hv))))
  obtain ⟨L, hL⟩ : ∃ L, sinV bs s = L := ⟨_, rfl⟩
  have hL48 : L.length ≤ 48 := by rw [← hL]; exact sinV_small _ _
  have hRT := fun k => roll_tv (bs := bs) ((tabB_iff _).1 hv) s k
  rw [hL] at hRT ⊢
  have HL := Lib.hid (And.intro hL (And.intro hRT (fun (x : Int) (hx : x ∈ L) => sinV_page (bs := bs) (s := s) (x := x) (by rw [hL]; exact hx))))
  have hs8 : (8 : Nat) ≤ 1048576 := by omega
  clear hl hr hv hld hrd hd h1 h12 hall h8 hL hRT
  go_enter Try.func23, Try.ntmps23
  go_wp2_with fail
  refine (specDeviceValid_val HP.out.1 HP.out.2.2 _ HT.out.2.here (by omega) HP.out.2.1).mono ?_
  rintro e w1 ⟨rfl, hk⟩
  have HK := Lib.hid (HT.out.keep hk)
  have b0 := HK.out.1.1.cell 0
  clear hk HT
  go_wp2_with fail
  refine (specTabValid_val HQ.out.2.2.1 HQ.out.1 HK.out.1.2.2.1.here hs8 HQ.out.2.1).mono ?_
  rintro e w2 ⟨rfl, hk⟩
  replace HK := Lib.hid (HK.out.keep hk)
  have b1 := HK.out.1.1.cell 0
  clear hk b0
  go_wp2_with fail
  refine (specCopyTab_any _ _ _ ls w2 HQ.out.1 HK.out.1.2.2.1.here (by omega) HQ.out.2.1).mono ?_
  rintro e w3 ⟨A3, ct, cs, rfl, hcl, hcs, ho, hk⟩
  obtain ⟨gt, rfl, hgt, hgz, hC⟩ := CTab.start ho hcl hcs
  have K3 := grown_alloc (grown_refl w3 none) (.cells #[.slice (some ⟨gt, 0, none⟩) 8 ct] 40)
  have hC0 := hC.low HK.out.1.2.2.2.size
  replace HK := Lib.hid (And.intro ((HK.out.keep hk).keep K3) hC0)
  clear hk b1 ho hcl hcs hC K3 hC0 hgt
  go_wp2_with fail
  refine (specPagesSince_any s HP.out.1 HK.out.1.2.here (by omega) HP.out.2.1).mono ?_
  rintro e w4 ⟨G, nl, cg, rfl, hnl, hoG, hk⟩
  rw [HL.out.1] at hnl hoG
  obtain rfl : nl = L.length := hnl.symm
  have HS : RowKit.Hid (SLp w (some ⟨g0, off, none⟩) c ls D bs G L w3.heap.size w4.heap.size gt ct (rollTo bs (ll ls) L 0) w4) := Lib.hid ⟨HK.out.1.keep hk, VOwn.row hoG, fun ad e => by have h1 := VOwn.lt hoG ad.block (by rw [e]; rfl); simp only [size_alloc1] at h1; omega, HK.out.2.keep hk⟩
  clear hk hnl hoG HK hgz
  go_wp2
  generalize w3.heap.size = V at HS ⊢
  generalize w4.heap.size = Y at HS ⊢
  go_loopw [9] (fun i wr => ∃ k : Nat, i = .int .i64 k ∧ k ≤ L.length ∧ SLp w (some ⟨g0, off, none⟩) c ls D bs G L V Y gt ct (rollTo bs (ll ls) L k) wr) (fun i _ => L.length - (intOf i).toNat)
  case atStart => exact ⟨0, rfl, Nat.zero_le _, HS.out⟩
  case round =>
    rename World => wq
    obtain ⟨k, rfl, hk, hS⟩ := hrel
    clear HS
    have HS := Lib.hid hS
    clear hS
    by_cases hlt : k < L.length
    · have k1 : (k : Int) < L.length := by omega
      have k0 : decide ((0 : Int) ≤ k) = true := decide_eq_true (by omega)
      obtain ⟨gg, og, rfl⟩ := IRow.pos HS.out.2.1 (by omega)
      obtain ⟨x, hx⟩ : ∃ x, L[k]? = some x := ⟨_, List.getElem?_eq_getElem hlt⟩
      have q0 := IRow.cellf HS.out.2.1 hx
      obtain ⟨a, f, j, pv, pd, rfl, ha, hp, hrv, hf, hj, _⟩ := HL.out.2.2 x (List.mem_of_getElem? hx)
      have hT1 := HL.out.2.1 k
      have hst : rollTo bs (ll ls) L (k + 1) = tset (clrTo (rollTo bs (ll ls) L k) (a : Int) 48) f j (a : Int) := by
        rw [roll_step hx]
        unfold putB
        rw [hrv]
        rfl
      obtain ⟨R, hR⟩ : ∃ R, rollTo bs (ll ls) L k = R := ⟨_, rfl⟩
      rw [hR] at hT1 hst HS
      have HX := Lib.hid (And.intro hst (And.intro hrv (And.intro hT1 hx)))
      clear hst hp hrv hx hT1 hR
      go_wp2_with fail
      refine (specRead_val HX.out.2.1 HP.out.1 HS.out.1.2.here (by omega) HP.out.2.1).mono ?_
      rintro e w6 ⟨rfl, hk6⟩
      have K6 := grown_alloc hk6 (.cells #[.bool true, .int .i64 (f : Int), .int .i64 (j : Int), .int .i64 pv, .int .i64 pd] 30)
      replace HS := Lib.hid (And.intro (HS.out.keep K6) (Blk.new w6 30 #[.bool true, .int .i64 (f : Int), .int .i64 (j : Int), .int .i64 pv, .int .i64 pd]))
      clear hk6 K6 q0
      go_wp2
      generalize w6.heap.size = PV at HS ⊢
      go_loopw [12] (fun i wr => ∃ f' : Nat, i = .int .i64 f' ∧ f' ≤ 8 ∧ SLp w (some ⟨g0, off, none⟩) c ls D bs (some ⟨gg, og, none⟩) L V Y gt ct (clrTo R (a : Int) (6 * f')) wr ∧ Blk wr PV 30 #[.bool true, .int .i64 (f : Int), .int .i64 (j : Int), .int .i64 pv, .int .i64 pd]) (fun i _ => 8 - (intOf i).toNat)
      case atStart => exact ⟨0, rfl, Nat.zero_le _, HS.out⟩
      case round =>
        rename World => wy
        obtain ⟨f', rfl, hf', hS⟩ := hrel
        clear HS
        have HS := Lib.hid hS
        clear hS
        by_cases hflt : f' < 8
        · have f1 : (f' : Int) < 8 := by omega
          have f0 : decide ((0 : Int) ≤ f') = true := decide_eq_true (by omega)
          go_wp2
          go_loopw [13] (fun i wr => ∃ j' : Nat, i = .int .i64 j' ∧ j' ≤ 6 ∧ SLp w (some ⟨g0, off, none⟩) c ls D bs (some ⟨gg, og, none⟩) L V Y gt ct (clrTo R (a : Int) (6 * f' + j')) wr ∧ Blk wr PV 30 #[.bool true, .int .i64 (f : Int), .int .i64 (j : Int), .int .i64 pv, .int .i64 pd]) (fun i _ => 6 - (intOf i).toNat)
          case atStart => exact ⟨0, rfl, Nat.zero_le _, HS.out⟩
          case round =>
            rename World => wz
            obtain ⟨j', rfl, hj', hS⟩ := hrel
            clear HS
            have HS := Lib.hid hS
            clear hS
            by_cases hjlt : j' < 6
            · have j1 : decide ((j' : Int) ≤ 5) = true := decide_eq_true (by omega)
              have j2 : (j' : Int) < 6 := by omega
              have j0 : decide ((0 : Int) ≤ j') = true := decide_eq_true (by omega)
              have hTc := clr_tv HX.out.2.2.1 (a : Int) (6 * f' + j') (by omega)
              obtain ⟨gl, cl, y, d0, d1, d2, hy, hne, hnV, hnG, hnb, hput⟩ := HS.out.1.open_ hTc hflt hjlt
              have hcy : cellO R f' j' = some y := by
                have h1 := clr_at HX.out.2.2.1 (a : Int) (m := 6 * f' + j') (by omega)
                rw [show (6 * f' + j') / 6 = f' by omega, show (6 * f' + j') % 6 = j' by omega, hy] at h1
                exact h1.symm
              have b3 := HS.out.1.2.2.2.2.cell 0
              have q0 := IRow.cellf HS.out.1.2.1 HX.out.2.2.2
              by_cases he : y = (a : Int)
              · have e1 : (y == (a : Int)) = true := by rw [beq_iff_eq]; exact he
                have hst := clr_upto hjlt (hcy.trans (by rw [he]))
                have HE := Lib.hid (And.intro hst hTc)
                clear hy hput hnb hcy he hst hTc d2 hne hnV hnG
                go_wp2_with fail
                go_quiet (fail)
                generalize hwz : wz.drewN nq = wv
                have hkz : wz.grownBy wv none := by rw [← hwz]; exact grown_drewN (grown_refl _ _) _
                replace HS := Lib.hid (And.intro (HS.out.1.keep hkz) (HS.out.2.keep hkz))
                clear hwz hkz b3 q0 d0 d1
                obtain ⟨gl, cl, y, d0, d1, d2, hy, hne, hnV, hnG, hnb, hput⟩ := HS.out.1.open_ HE.out.2 hflt hjlt
                have b3 := HS.out.1.2.2.2.2.cell 0
                have hfin := hput (-1)
                rw [← HE.out.1] at hfin
                have n5 : gl ≠ PV := hnb HS.out.2 (by decide)
                have HZ := Lib.hid (And.intro hfin (HS.out.2.far (p := ⟨gl, j', none⟩) (fun e => n5 e.symm) (.int .i64 (-1))))
                clear hput hfin hnb hy hnG HS HE
                go_wp2
                go_roundw
                case rel => exact ⟨j' + 1, by go_num, by omega, HZ.out.1, HZ.out.2⟩
                case measure => simp [intOf]; omega
              · have e1 : (y == (a : Int)) = false := by rw [beq_eq_false_iff_ne]; exact he
                have HE := Lib.hid (clr_past (xss := R) (x := (a : Int)) hjlt (by rw [hcy]; intro e; injection e with e; exact he e))
                clear hy hput hnb hcy he hTc d2 hne hnV hnG
                go_wp2_with fail
                go_quiet (fail)
                generalize hwz : wz.drewN nq = wv
                have hkz : wz.grownBy wv none := by rw [← hwz]; exact grown_drewN (grown_refl _ _) _
                replace HS := Lib.hid (And.intro (HS.out.1.keep hkz) (HS.out.2.keep hkz))
                clear hwz hkz b3 q0 d0 d1
                go_wp2
                go_roundw
                case rel => exact ⟨j' + 1, by go_num, by omega, by rw [show 6 * f' + (j' + 1) = 6 * f' + j' + 1 from rfl, HE.out]; exact HS.out⟩
                case measure => simp [intOf]; omega
            · obtain rfl : j' = 6 := by omega
              go_wp2
              go_roundw
              case rel => exact ⟨f' + 1, by go_num, by omega, by rw [show 6 * (f' + 1) = 6 * f' + 6 by omega]; exact HS.out⟩
              case measure => simp [intOf]; omega
        · obtain rfl : f' = 8 := by omega
          replace HS := Lib.hid (And.intro (HS.out.1.keep (grown_drew (grown_refl _ none))) (HS.out.2.keep (grown_drew (grown_refl _ none))))
          obtain ⟨p0, p1, p2, p3, p4⟩ := cells5 HS.out.2
          have b3 := HS.out.1.2.2.2.2.cell 0
          have q0 := IRow.cellf HS.out.1.2.1 HX.out.2.2.2
          obtain ⟨gl, cl, z, d0, d1, d2, _, hne, hnV, hnG, hnb, hput⟩ := HS.out.1.open_ (clr_tv HX.out.2.2.1 (a : Int) 48 (Nat.le_refl _)) hf hj
          have n5 : gl ≠ PV := hnb HS.out.2 (by decide)
          have n8 : gl ≠ gg := hnG _ rfl
          have m3 : V ≠ gl := fun e => hnV e.symm
          have m5 : PV ≠ gl := fun e => n5 e.symm
          have mg : gt ≠ gl := fun e => hne e.symm
          have hfin := hput (a : Int)
          rw [← HX.out.1] at hfin
          have HSS := Lib.hid (And.intro (hfin.2.2.2.2.cell 0) (And.intro ((HS.out.2.far (p := ⟨gl, j, none⟩) m5 (.int .i64 (a : Int))).cell 1) (And.intro ((HS.out.2.far (p := ⟨gl, j, none⟩) m5 (.int .i64 (a : Int))).cell 2) (And.intro ((World.cell?_setCell_other wy.drew ⟨gl, j, none⟩ ⟨gt, f, none⟩ (.int .i64 (a : Int)) (fun e => by injection e with e; omega)).trans d0) (IRow.cellf hfin.2.1 HX.out.2.2.2)))))
          have HZ := Lib.hid hfin
          have f0 : decide ((0 : Int) ≤ f) = true := decide_eq_true (by omega)
          have f1 : (f : Int) < 8 := by omega
          have j0 : decide ((0 : Int) ≤ j) = true := decide_eq_true (by omega)
          have j1 : (j : Int) < 6 := by omega
          clear hfin hput hnb hnG
          go_wp2_with fail
          refine wp_region_held_drew (S := (fun w' => w'.cell? ⟨V, 0, none⟩ = some (.slice (some ⟨gt, 0, none⟩) 8 ct) ∧ w'.cell? ⟨PV, 1, none⟩ = some (.int .i64 (f : Int)) ∧ w'.cell? ⟨PV, 2, none⟩ = some (.int .i64 (j : Int)) ∧ w'.cell? ⟨gt, f, none⟩ = some (.slice (some ⟨gl, 0, none⟩) 6 cl) ∧ w'.cell? ⟨gg, og + k, none⟩ = some (.int .i64 (a : Int)))) (by kernel_rfl) ?_ (fun hHeld => ?_)
          · exact ⟨b3, p1, p2, d0, q0⟩
          refine heldY 0 71 ?_
          refine heldY 1 72 ?_
          refine heldY 2 73 ?_
          refine heldY 3 74 ?_
          refine heldY 4 75 ?_
          refine heldY 5 76 ?_
          refine heldY 6 77 ?_
          refine heldY 7 78 ?_
          refine heldY 8 79 ?_
          refine heldY 9 80 ?_
          refine heldY 10 81 ?_
          refine heldY 11 82 ?_
          refine heldY 12 83 ?_
          refine wpAnyH_ready (rs := [13]) (by kernel_rfl) (by simp) ?_
          refine AllReadyH.cons rfl (fun K hK => ?_) AllReadyH.nil
          go_simp
          refine hK.out _ _ ?_ (fun hHeld => ?_)
          · exact HSS.out
          clear hK K
          try simp only [Act.put, List.setIfInBounds_toArray, List.set_cons_zero, List.set_cons_succ]
          refine wpAnyH_done (by kernel_rfl) ?_ _
          go_wp2
          go_roundw
          case rel => exact ⟨k + 1, by go_num, by omega, HZ.out⟩
          case measure => simp [intOf]; omega
    · obtain ⟨_, _, _, ⟨cs, h1, h2, h3, _⟩, h4⟩ := HS.out
      have z0 := HS.out.1.1.2.1.cell 0
      have z1 := HS.out.1.1.2.1.frozen 0
      have b3 := h4.cell 0
      have e8 : decide ((k : Int) < (L.length : Int)) = false := decide_eq_false (by omega)
      have ek : k = L.length := by omega
      rw [ek] at h2
      have HZ := Lib.hid (And.intro h1 (And.intro h2 (And.intro (h3.put HS.out.1.1.2.1 0 (.slice (some ⟨gt, 0, none⟩) 8 ct)) (grown_put HS.out.1.1.2.2.2 (p := ⟨w.heap.size + 1, 0, none⟩) (by dsimp only; omega) (.slice (some ⟨gt, 0, none⟩) 8 ct)))))
      clear h1 h2 h3 h4 HS ek
      go_wp2
      exact bodyPost_ret (v := .agg #[.slice (some ⟨gt, 0, none⟩) 8 ct]) (by simp [results, Try.results23, go_sem, *]) rfl ⟨_, _, cs, rfl, HZ.out.1, HZ.out.2.1, HZ.out.2.2.1, HZ.out.2.2.2⟩
theorem specRoll_val {D : Option Addr} {nd cd : Nat} {bs : List Bk} {A : Option Addr} {n c : Nat} {ls : List Li} {w : World} {s : Int} {X : List (List Int)} {m : Nat} (hV : rollV bs (ll ls) s = X) (hm : X.length = m) (hld : bs.length = nd) (hrd : DRow w w.heap.size D bs) (hnd : nd ≤ 1048576) (hpd : ∀ b, b ∈ bs → b.ps.length ≤ 1048576) (hl : ls.length = n) (hr : TRow w w.heap.size A ls) (hn : n ≤ 1048576) (hp : ∀ l, l ∈ ls → l.xs.length ≤ 1048576) :
    Calls Try.prog 23 #[.slice D nd cd, .agg #[.slice A n c], .int .i64 s] w (TabMade X m w) := by
  subst hV
  cases hB : devB bs && tabB (ll ls)
  · have e := rollV_no hB s
    rw [e] at hm ⊢
    subst hm
    exact specRoll_no s hld hrd hnd hpd hl hr hn hp hB
  · rw [Bool.and_eq_true] at hB
    have e8 : (rollV bs (ll ls) s).length = 8 := ((tabB_iff _).1 (rollV_tab hB.1 hB.2 s)).len
    rw [e8] at hm
    subst hm
    rw [rollV_yes hB.1 hB.2]
    exact specRoll_yes s hld hrd hl hr hB.1 hB.2
end Go.Proofs.Yteniikfgellhfaa
