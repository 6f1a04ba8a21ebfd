/- What the program's functions of chapter 14 answer: boxes; movePage.
   What the program's functions of chapter 14 answer, further: movePage, usedPagesOf, canReadAllFiles.
   What the program's functions of chapter 14 answer, further: usedPagesOf, canReadAllFiles.
   What the program's functions of chapter 14 answer, further: moveAndErase.
   What the program's functions of chapter 14 answer, further: moveAndErase moves all pages, one after another.
   What the program's functions of chapter 14 answer, further: CleanBlock. -/
import Derived.Test.YtolpnloghogjjaaGreatZCleanPlain
import Derived.Test.YtolpnloghogjjaaGreatZCounts
import Derived.Test.YtolpnloghogjjaaGreatZFiles5
import Derived.Test.YtolpnloghogjjaaGreatZLawTabs
import Derived.Test.YtolpnloghogjjaaGreatZHeads7
import Derived.Test.YtolpnloghogjjaaGreatZHand
namespace Go.Proofs.YtolpnloghogjjaaGreat
open Go.ChangeShapes Go.WideShapes Go.ChangeAt Go.RowKit
set_option linter.unusedVariables false

/-- A boxed table and boxed heads, the variables of such results, the table and the device that came in. -/
def CIn (w : World) (A : Option Addr) (n c : Nat) (ls : List Li) (D : Option Addr) (bs : List Bk) (a b h : Int) (wr : World) : Prop :=
  (Blk wr w.heap.size 26 #[.slice A n c] ∧ Blk wr (w.heap.size + 1) 28 #[.int .i64 a, .int .i64 b, .int .i64 h] ∧ Blk wr (w.heap.size + 1 + 1) 26 #[.slice none 0 0] ∧ Blk wr (w.heap.size + 1 + 1 + 1) 28 #[.int .i64 0, .int .i64 0, .int .i64 0]) ∧
  TRow wr w.heap.size A ls ∧ DRow wr w.heap.size D bs ∧ w.grownBy wr none
section
variable {w wr w' : World} {A D : Option Addr} {n c : Nat} {ls : List Li} {bs : List Bk} {a b h : Int}
theorem CIn.start (hr : TRow w w.heap.size A ls) (hrd : DRow w w.heap.size D bs) (n c : Nat) (a b h : Int) : CIn w A n c ls D bs a b h
    ((((w.alloc (.cells #[.slice A n c] 26)).alloc (.cells #[.int .i64 a, .int .i64 b, .int .i64 h] 28)).alloc (.cells #[.slice none 0 0] 26)).alloc (.cells #[.int .i64 0, .int .i64 0, .int .i64 0] 28)) := by
  refine ⟨⟨(((Blk.new w _ _).alloc _).alloc _).alloc _, ?_, ?_, ?_⟩, (((hr.alloc _).alloc _).alloc _).alloc _, (((hrd.alloc _).alloc _).alloc _).alloc _, grown_alloc (grown_alloc (grown_alloc (grown_alloc (grown_refl _ _) _) _) _) _⟩
  · have H := ((Blk.new (w.alloc (.cells #[.slice A n c] 26)) 28 #[.int .i64 a, .int .i64 b, .int .i64 h]).alloc (.cells #[.slice none 0 0] 26)).alloc (.cells #[.int .i64 0, .int .i64 0, .int .i64 0] 28)
    simpa only [size_alloc1] using H
  · have H := (Blk.new ((w.alloc (.cells #[.slice A n c] 26)).alloc (.cells #[.int .i64 a, .int .i64 b, .int .i64 h] 28)) 26 #[.slice none 0 0]).alloc (.cells #[.int .i64 0, .int .i64 0, .int .i64 0] 28)
    simpa only [size_alloc1] using H
  · have H := Blk.new (((w.alloc (.cells #[.slice A n c] 26)).alloc (.cells #[.int .i64 a, .int .i64 b, .int .i64 h] 28)).alloc (.cells #[.slice none 0 0] 26)) 28 #[.int .i64 0, .int .i64 0, .int .i64 0]
    simpa only [size_alloc1] using H
theorem CIn.keep (H : CIn w A n c ls D bs a b h wr) (k : wr.grownBy w' none) : CIn w A n c ls D bs a b h w' := ⟨⟨H.1.1.keep k, H.1.2.1.keep k, H.1.2.2.1.keep k, H.1.2.2.2.keep k⟩, H.2.1.kept k, H.2.2.1.kept k, grown_trans H.2.2.2 k⟩
theorem CIn.tab (H : CIn w A n c ls D bs a b h wr) : wr.cell? ⟨w.heap.size, 0, none⟩ = some (.slice A n c) := H.1.1.cell 0
theorem CIn.cells (H : CIn w A n c ls D bs a b h wr) : wr.cell? ⟨w.heap.size + 1, 0, none⟩ = some (.int .i64 a) ∧ wr.cell? ⟨w.heap.size + 1, 1, none⟩ = some (.int .i64 b) ∧ wr.cell? ⟨w.heap.size + 1, 2, none⟩ = some (.int .i64 h) := cells3 H.1.2.1
/-- The results' cells. -/
theorem CIn.res (H : CIn w A n c ls D bs a b h wr) : (wr.cell? ⟨w.heap.size + 1 + 1, 0, none⟩ = some (.slice none 0 0) ∧ wr.frozen? ⟨w.heap.size + 1 + 1, 0, none⟩ = false) ∧
    (wr.cell? ⟨w.heap.size + 1 + 1 + 1, 0, none⟩ = some (.int .i64 0) ∧ wr.cell? ⟨w.heap.size + 1 + 1 + 1, 1, none⟩ = some (.int .i64 0) ∧ wr.cell? ⟨w.heap.size + 1 + 1 + 1, 2, none⟩ = some (.int .i64 0)) ∧
    wr.frozen? ⟨w.heap.size + 1 + 1 + 1, 0, none⟩ = false ∧ wr.frozen? ⟨w.heap.size + 1 + 1 + 1, 1, none⟩ = false ∧ wr.frozen? ⟨w.heap.size + 1 + 1 + 1, 2, none⟩ = false :=
  ⟨⟨H.1.2.2.1.cell 0, H.1.2.2.1.frozen 0⟩, cells3 H.1.2.2.2, frozen3 H.1.2.2.2⟩
theorem CIn.fin (H : CIn w A n c ls D bs a b h wr) (u u0 u1 u2 : Value) : w.grownBy ((((wr.setCell ⟨w.heap.size + 1 + 1, 0, none⟩ u).setCell ⟨w.heap.size + 1 + 1 + 1, 0, none⟩ u0).setCell ⟨w.heap.size + 1 + 1 + 1, 1, none⟩ u1).setCell ⟨w.heap.size + 1 + 1 + 1, 2, none⟩ u2) none :=
  grown_put3 (grown_put H.2.2.2 (p := ⟨w.heap.size + 1 + 1, 0, none⟩) (by dsimp only; omega) u) (by omega) u0 u1 u2
end
section
variable {W : World} {base V : Nat} {v : Value} {cs : List Bk} {ls : List Li} {t : TypeId} {q : Array Value}
theorem own_var {w : World} {n s : Nat} {t' : TypeId} {xs : List Value} (h : w.ownsRow base t' s v n xs) (hV : Blk w V t q) (ht : t ≠ t') : v.ownBlock ≠ some V := by
  rcases h.2 with ⟨e, _⟩ | ⟨g, cap, cur, e, _, hh, _⟩
  · rw [e]; simp [Value.ownBlock]
  · rw [e]
    simp only [Value.ownBlock, ne_eq, Option.some.injEq]
    rintro rfl
    unfold Blk at hV
    rw [hh] at hV
    injection hV with hV
    injection hV with _ h2
    exact absurd h2.symm ht
/-- A device of the call's own, where a variable is written to. -/
theorem DOwn.var (h : DOwn W base v cs) (hV : Blk W V t q) (h1 : t ≠ 45) (h2 : t ≠ 72) (o : Nat) (u : Value) : DOwn (W.setCell ⟨V, o, none⟩ u) base v cs := by
  refine DOwn.grown h (grown_set (g := V) (grown_refl _ _) (.inl rfl) u) (.inr (own_var h.1 hV h1)) fun b a hb ha e => ?_
  have h3 := own_var (h.2.1 b hb) hV h2
  injection e with e
  exact h3 (by simp [Bk.row, ha, Value.ownBlock, e])
/-- The same of a table. -/
theorem TOwn.var (h : TOwn W base v ls) (hV : Blk W V t q) (h1 : t ≠ 36) (h2 : t ≠ 3) (o : Nat) (u : Value) : TOwn (W.setCell ⟨V, o, none⟩ u) base v ls := by
  refine TOwn.grown h (grown_set (g := V) (grown_refl _ _) (.inl rfl) u) (.inr (own_var h.1 hV h1)) fun b a hb ha e => ?_
  have h3 := own_var (h.2.1 b hb) hV h2
  injection e with e
  exact h3 (by simp [Li.row, ha, Value.ownBlock, e])
/-- A row of the call's own is a block of its type. -/
theorem own_blk {w : World} {n s g c m : Nat} {t' : TypeId} {xs : List Value} (h : w.ownsRow base t' s (.slice (some ⟨g, 0, none⟩) m c) n xs) : ∃ q, Blk w g t' q := by
  rcases h.2 with ⟨e, _⟩ | ⟨g', cap, cur, e, _, hh, _⟩
  · cases e
  · injection e with e
    injection e with e
    injection e with e
    subst e
    exact ⟨_, hh⟩
/-- A device and a table of the call's own, where two results are written. -/
theorem DOwn.fin (h : DOwn W base v cs) {V V' : Nat} {q q' : Array Value} (hV : Blk W V 26 q) (hV' : Blk W V' 28 q') (hne : V' ≠ V) (u u0 u1 u2 : Value) :
    DOwn ((((W.setCell ⟨V, 0, none⟩ u).setCell ⟨V', 0, none⟩ u0).setCell ⟨V', 1, none⟩ u1).setCell ⟨V', 2, none⟩ u2) base v cs := by
  have k0 := hV'.far (p := ⟨V, 0, none⟩) hne u
  have k1 := k0.put 0 u0
  have k2 := k1.put 1 u1
  exact (((h.var hV (by decide) (by decide) 0 u).var k0 (by decide) (by decide) 0 u0).var k1 (by decide) (by decide) 1 u1).var k2 (by decide) (by decide) 2 u2
theorem TOwn.fin (h : TOwn W base v ls) {V V' : Nat} {q q' : Array Value} (hV : Blk W V 26 q) (hV' : Blk W V' 28 q') (hne : V' ≠ V) (u u0 u1 u2 : Value) :
    TOwn ((((W.setCell ⟨V, 0, none⟩ u).setCell ⟨V', 0, none⟩ u0).setCell ⟨V', 1, none⟩ u1).setCell ⟨V', 2, none⟩ u2) base v ls := by
  have k0 := hV'.far (p := ⟨V, 0, none⟩) hne u
  have k1 := k0.put 0 u0
  have k2 := k1.put 1 u1
  exact (((h.var hV (by decide) (by decide) 0 u).var k0 (by decide) (by decide) 0 u0).var k1 (by decide) (by decide) 1 u1).var k2 (by decide) (by decide) 2 u2
end
theorem cell_far {w : World} {p q : Addr} {v : Value} (h : w.cell? q = some v) (u : Value) (hne : q.block ≠ p.block) : (w.setCell p u).cell? q = some v := (World.cell?_setCell_other w p q u (fun e => hne (by rw [e]))).trans h
theorem cell_far3 {w : World} {V : Nat} {q : Addr} {v : Value} (h : w.cell? q = some v) (u0 u1 u2 : Value) (hne : q.block ≠ V) : (((w.setCell ⟨V, 0, none⟩ u0).setCell ⟨V, 1, none⟩ u1).setCell ⟨V, 2, none⟩ u2).cell? q = some v := cell_far (cell_far (cell_far h u0 hne) u1 hne) u2 hne
/-- A device, a table, heads and a truth value are returned. -/
def MoveMade (l : List (Int × List Pg)) (n : Nat) (T : List (List Int)) (m : Nat) (a b h : Int) (ok : Bool) (w : World) (e : Ending) (w' : World) : Prop :=
  ∃ (D : Option Addr) (c : Nat) (cs : List Bk) (A : Option Addr) (c2 : Nat) (ls : List Li), e = .returned (.tuple #[.slice D n c, .agg #[.slice A m c2], .agg #[.int .i64 a, .int .i64 b, .int .i64 h], .bool ok]) ∧
    (cs.length = n ∧ cs.map Bk.is = l ∧ ls.length = m ∧ ll ls = T) ∧ DOwn w' w.heap.size (.slice D n c) cs ∧ TOwn w' w.heap.size (.slice A m c2) ls ∧ w.grownBy w' none
theorem down_nil (w : World) (base : Nat) : DOwn w base (.slice none 0 0) [] := ⟨World.ownsRow_nil w base _ 2, fun l hl => by simp at hl, fun i j l l' a a' _ hi => by simp at hi⟩
section
variable {A D : Option Addr} {n c nd cd : Nat} {ls : List Li} {bs : List Bk} {a b h s a1 b1 h1 v : Int} {w : World} {k n1 : Nat} {l1 : List (Int × List Pg)} {p : Pg}
set_option maxHeartbeats 1000000 in
theorem movePage_no (H : AppendIs nd bs a b h 2 p.f p.a p.b p.c s n1 l1 a1 b1 h1 v) (hv : v < 0) (hz : n1 ≤ 12 ∧ totL l1 ≤ 1048576) (hd : devB bs = true) (hp : pageAt bs k = some p) (hld : bs.length = nd) (hrd : DRow w w.heap.size D bs) (hl : ls.length = n) (hr : TRow w w.heap.size A ls) :
    Calls Tryz.prog 76 #[.slice D nd cd, .agg #[.slice A n c], .agg #[.int .i64 a, .int .i64 b, .int .i64 h], .int .i64 (k : Int), .int .i64 s] w (MoveMade [] 0 [] 0 0 0 0 false w) := by
  obtain ⟨f0, x1, x2, x3, x4⟩ := p
  obtain ⟨⟨_, h12⟩, hall⟩ := dev_parts hd
  have hn12 : nd ≤ 12 := by omega
  have hsm : ∀ b, b ∈ bs → b.ps.length ≤ 1048576 := fun b hm => by have := (block_parts (hall b hm)).2.1; omega
  have HF := Lib.hid (CIn.start hr hrd n c a b h)
  have HD := Lib.hid (And.intro hld (And.intro hd (And.intro hp hsm)))
  have HA := Lib.hid H
  have e0 := decide_eq_true hv
  clear H hv hd hp hld hrd hl hr hsm hall h12
  go_enter Tryz.func76, Tryz.ntmps76
  go_wp2_with fail
  refine (pageOf_at _ _ _ _ _ _ _ HD.out.1 HF.out.2.2.1.here HD.out.2.1 HD.out.2.2.1).mono ?_
  rintro e w1 ⟨rfl, hk⟩
  replace HF := Lib.hid (HF.out.keep hk)
  clear hk
  dsimp only
  have HB := Lib.hid (Blk.new w1 72 #[.bool f0, .int .i64 x1, .int .i64 x2, .int .i64 x3, .int .i64 s])
  replace HF := Lib.hid (HF.out.keep (grown_alloc (grown_refl w1 none) (.cells #[.bool f0, .int .i64 x1, .int .i64 x2, .int .i64 x3, .int .i64 s] 72)))
  obtain ⟨z0, z1, z2⟩ := HF.out.cells
  go_wp2_with fail
  refine (append_val HA.out HD.out.1 HF.out.2.2.1.here (by omega) HD.out.2.2.2).mono ?_
  rintro e w2 ⟨A2, c2, cs, rfl, hcl, hcs, ho, hk⟩
  replace HF := Lib.hid (HF.out.keep hk)
  clear hcl hcs ho hk z0 z1 z2 HB
  replace HF := Lib.hid (HF.out.keep (grown_alloc (grown_refl w2 none) (.cells #[.int .i64 a1, .int .i64 b1, .int .i64 h1] 28)))
  obtain ⟨⟨t0, t1⟩, ⟨r0, r1, r2⟩, q0, q1, q2⟩ := HF.out.res
  have na : w.heap.size + 1 + 1 ≠ w.heap.size + 1 + 1 + 1 := by omega
  have nb : w.heap.size + 1 + 1 + 1 ≠ w.heap.size + 1 + 1 := by omega
  have nc : w.heap.size ≠ w.heap.size + 1 := by omega
  have nd' : w.heap.size + 1 ≠ w.heap.size := by omega
  go_wp2
  exact bodyPost_ret (v := .tuple #[.slice none 0 0, .agg #[.slice none 0 0], .agg #[.int .i64 0, .int .i64 0, .int .i64 0], .bool false]) (by simp [results, Tryz.results76, go_sem, *]) rfl
    ⟨_, _, [], _, _, [], rfl, ⟨rfl, rfl, rfl, rfl⟩, down_nil _ _, town_nil _ _, HF.out.fin _ _ _ _⟩
end
end Go.Proofs.YtolpnloghogjjaaGreat
namespace Go.Proofs.YtolpnloghogjjaaGreat
open Go.ChangeShapes Go.WideShapes Go.ChangeAt Go.RowKit
set_option linter.unusedVariables false

/-- What a function of chapter 14 returns: boxes as they were, a table and heads in variables, a device and a table of its own. -/
def CRet (w : World) (A : Option Addr) (n c : Nat) (ls : List Li) (D : Option Addr) (bs : List Bk) (a b h : Int) (X Y : Nat) (A1 : Option Addr) (m1 c1 : Nat) (ts : List Li) (a1 b1 h1 : Int) (D1 : Option Addr) (n1 d1 : Nat) (cs : List Bk) (wr : World) : Prop :=
  CIn w A n c ls D bs a b h wr ∧ (Blk wr Y 26 #[.slice A1 m1 c1] ∧ Blk wr X 28 #[.int .i64 a1, .int .i64 b1, .int .i64 h1]) ∧ DOwn wr w.heap.size (.slice D1 n1 d1) cs ∧ TOwn wr w.heap.size (.slice A1 m1 c1) ts
section
variable {w wr w' : World} {A D A1 D1 : Option Addr} {n c m1 c1 n1 d1 X Y : Nat} {ls ts : List Li} {bs cs : List Bk} {a b h a1 b1 h1 : Int}
theorem CRet.keep (H : CRet w A n c ls D bs a b h X Y A1 m1 c1 ts a1 b1 h1 D1 n1 d1 cs wr) (k : wr.grownBy w' none) : CRet w A n c ls D bs a b h X Y A1 m1 c1 ts a1 b1 h1 D1 n1 d1 cs w' :=
  ⟨H.1.keep k, ⟨H.2.1.1.keep k, H.2.1.2.keep k⟩, H.2.2.1.keep k, H.2.2.2.keep k⟩
theorem CRet.fin (H : CRet w A n c ls D bs a b h X Y A1 m1 c1 ts a1 b1 h1 D1 n1 d1 cs wr) (u u0 u1 u2 : Value) :
    DOwn ((((wr.setCell ⟨w.heap.size + 1 + 1, 0, none⟩ u).setCell ⟨w.heap.size + 1 + 1 + 1, 0, none⟩ u0).setCell ⟨w.heap.size + 1 + 1 + 1, 1, none⟩ u1).setCell ⟨w.heap.size + 1 + 1 + 1, 2, none⟩ u2) w.heap.size (.slice D1 n1 d1) cs ∧
    TOwn ((((wr.setCell ⟨w.heap.size + 1 + 1, 0, none⟩ u).setCell ⟨w.heap.size + 1 + 1 + 1, 0, none⟩ u0).setCell ⟨w.heap.size + 1 + 1 + 1, 1, none⟩ u1).setCell ⟨w.heap.size + 1 + 1 + 1, 2, none⟩ u2) w.heap.size (.slice A1 m1 c1) ts ∧
    w.grownBy ((((wr.setCell ⟨w.heap.size + 1 + 1, 0, none⟩ u).setCell ⟨w.heap.size + 1 + 1 + 1, 0, none⟩ u0).setCell ⟨w.heap.size + 1 + 1 + 1, 1, none⟩ u1).setCell ⟨w.heap.size + 1 + 1 + 1, 2, none⟩ u2) none :=
  ⟨H.2.2.1.fin H.1.1.2.2.1 H.1.1.2.2.2 (by omega) u u0 u1 u2, H.2.2.2.fin H.1.1.2.2.1 H.1.1.2.2.2 (by omega) u u0 u1 u2, H.1.fin u u0 u1 u2⟩
end
section
variable {A D : Option Addr} {n c nd cd : Nat} {ls : List Li} {bs : List Bk} {a b h s a1 b1 h1 v : Int} {w : World} {k n1 : Nat} {l1 : List (Int × List Pg)} {p : Pg} {T1 : List (List Int)}
set_option maxHeartbeats 2000000 in
theorem movePage_yes (H : AppendIs nd bs a b h 2 p.f p.a p.b p.c s n1 l1 a1 b1 h1 v) (hv : 0 ≤ v) (hT : TPutIs (ll ls) p.a p.b v T1 true) (h8 : T1.length = 8) (hz : n1 ≤ 12 ∧ totL l1 ≤ 1048576) (hd : devB bs = true) (hp : pageAt bs k = some p) (hld : bs.length = nd) (hrd : DRow w w.heap.size D bs) (hl : ls.length = n) (hr : TRow w w.heap.size A ls) (hn : n ≤ 1048576) (hp6 : ∀ l, l ∈ ls → l.xs.length ≤ 1048576) :
    Calls Tryz.prog 76 #[.slice D nd cd, .agg #[.slice A n c], .agg #[.int .i64 a, .int .i64 b, .int .i64 h], .int .i64 (k : Int), .int .i64 s] w (MoveMade l1 n1 T1 8 a1 b1 h1 true w) := by
  obtain ⟨f0, x1, x2, x3, x4⟩ := p
  obtain ⟨⟨_, h12⟩, hall⟩ := dev_parts hd
  have hn12 : nd ≤ 12 := by omega
  have hsm : ∀ b, b ∈ bs → b.ps.length ≤ 1048576 := fun b hm => by have := (block_parts (hall b hm)).2.1; omega
  have HF := Lib.hid (CIn.start hr hrd n c a b h)
  have HD := Lib.hid (And.intro hld (And.intro hd (And.intro hp hsm)))
  have HA := Lib.hid (And.intro H (And.intro hT (And.intro h8 (And.intro hl hp6))))
  have e0 := decide_eq_false (show ¬ v < 0 by omega)
  clear H hv hd hp hld hrd hl hr hsm hall h12 hT h8 hp6
  go_enter Tryz.func76, Tryz.ntmps76
  go_wp2_with fail
  refine (pageOf_at _ _ _ _ _ _ _ HD.out.1 HF.out.2.2.1.here HD.out.2.1 HD.out.2.2.1).mono ?_
  rintro e w1 ⟨rfl, hk⟩
  replace HF := Lib.hid (HF.out.keep hk)
  clear hk
  dsimp only
  have HB := Lib.hid (Blk.new w1 72 #[.bool f0, .int .i64 x1, .int .i64 x2, .int .i64 x3, .int .i64 s])
  replace HF := Lib.hid (HF.out.keep (grown_alloc (grown_refl w1 none) (.cells #[.bool f0, .int .i64 x1, .int .i64 x2, .int .i64 x3, .int .i64 s] 72)))
  obtain ⟨z0, z1, z2⟩ := HF.out.cells
  go_wp2_with fail
  have hgs := HF.out.2.2.2.size
  refine (append_val HA.out.1 HD.out.1 HF.out.2.2.1.here (by omega) HD.out.2.2.2).mono ?_
  rintro e w2 ⟨D2, d2, cs, rfl, hcl, hcs, ho, hk⟩
  replace HF := Lib.hid (HF.out.keep hk)
  replace HB := Lib.hid (HB.out.keep hk)
  have HO := Lib.hid (And.intro hcl (And.intro hcs (ho.base_le hgs)))
  clear hcl hcs ho hk z0 z1 z2 hgs
  have K1 := grown_alloc (grown_refl w2 none) (.cells #[.int .i64 a1, .int .i64 b1, .int .i64 h1] 28)
  have HX := Lib.hid (Blk.new w2 28 #[.int .i64 a1, .int .i64 b1, .int .i64 h1])
  have HN := Lib.hid (show w.heap.size + 1 + 1 + 1 < w2.heap.size from HF.out.1.2.2.2.lt)
  replace HF := Lib.hid (HF.out.keep K1)
  replace HB := Lib.hid (HB.out.keep K1)
  replace HO := Lib.hid (And.intro HO.out.1 (And.intro HO.out.2.1 (HO.out.2.2.keep K1)))
  clear K1
  have t0 := HF.out.tab
  obtain ⟨p0, p1, p2, p3, p4⟩ := cells5 HB.out
  go_wp2_with fail
  have hgs := HF.out.2.2.2.size
  refine (tablePut_val HA.out.2.1 HA.out.2.2.1 HA.out.2.2.2.1 HF.out.2.1.here hn HA.out.2.2.2.2).mono ?_
  rintro e w3 ⟨A3, c3, ts, rfl, htl, hts, ho, hk⟩
  have K1 := grown_alloc (grown_refl w3 none) (.cells #[.slice A3 8 c3] 26)
  have hY : w2.heap.size < w3.heap.size := by have := hk.size; simp only [size_alloc1] at this; omega
  have HR := Lib.hid (show CRet w A n c ls D bs a b h w2.heap.size w3.heap.size A3 8 c3 ts a1 b1 h1 D2 n1 d2 cs (w3.alloc (.cells #[.slice A3 8 c3] 26)) from
    ⟨(HF.out.keep hk).keep K1, ⟨Blk.new w3 _ _, (HX.out.keep hk).keep K1⟩, (HO.out.2.2.keep hk).keep K1, (ho.base_le hgs).keep K1⟩)
  have HE := Lib.hid (And.intro (And.intro HO.out.1 (And.intro HO.out.2.1 (And.intro htl hts))) (And.intro HN.out hY))
  clear htl hts ho hk K1 hY HF HB HX HO HN hgs t0 p0 p1 p2 p3 p4
  have x0 := HR.out.2.1.1.cell 0
  obtain ⟨y0, y1, y2⟩ := cells3 HR.out.2.1.2
  go_wp2_with fail
  refine wp_region_held_drew (S := (fun w' => w'.cell? ⟨w3.heap.size, 0, none⟩ = some (.slice A3 8 c3) ∧ w'.cell? ⟨w2.heap.size, 0, none⟩ = some (.int .i64 a1) ∧ w'.cell? ⟨w2.heap.size, 1, none⟩ = some (.int .i64 b1) ∧ w'.cell? ⟨w2.heap.size, 2, none⟩ = some (.int .i64 h1))) (by kernel_rfl) ?_ (fun hHeld => ?_)
  · exact ⟨x0, y0, y1, y2⟩
  replace HR := Lib.hid (HR.out.keep (grown_drew (grown_refl _ none)))
  clear x0 y0 y1 y2
  generalize World.drew _ = wq at HR hHeld ⊢
  obtain ⟨⟨t0, t1⟩, ⟨r0, r1, r2⟩, q0, q1, q2⟩ := HR.out.1.res
  have n1' : w3.heap.size ≠ w.heap.size + 1 + 1 := by have := HE.out.2; omega
  have n2' : w3.heap.size ≠ w.heap.size + 1 + 1 + 1 := by have := HE.out.2; omega
  have n3' : w2.heap.size ≠ w.heap.size + 1 + 1 := by have := HE.out.2; omega
  have n4' : w2.heap.size ≠ w.heap.size + 1 + 1 + 1 := by have := HE.out.2; omega
  have na : w.heap.size + 1 + 1 ≠ w.heap.size + 1 + 1 + 1 := by omega
  have nb : w.heap.size + 1 + 1 + 1 ≠ w.heap.size + 1 + 1 := by omega
  have nc : w.heap.size ≠ w.heap.size + 1 := by omega
  have nd' : w.heap.size + 1 ≠ w.heap.size := by omega
  refine heldY 0 47 ?_
  refine heldY 1 48 ?_
  refine heldY 2 49 ?_
  refine heldY 3 50 ?_
  refine heldY 4 10 ?_
  refine wpAnyH_ready (rs := [5]) (by kernel_rfl) (by simp) ?_
  refine AllReadyH.cons rfl (fun K hK => ?_) AllReadyH.nil
  go_simp
  refine hK.out _ _ ?_ (fun hHeld => ?_)
  · exact ⟨cell_far hHeld.1 _ n1', cell_far hHeld.2.1 _ n3', cell_far hHeld.2.2.1 _ n3', cell_far hHeld.2.2.2 _ n3'⟩
  clear hK K
  try simp only [Act.put, List.setIfInBounds_toArray, List.set_cons_zero, List.set_cons_succ]
  refine wpAnyH_ready (rs := [6]) (by kernel_rfl) (by simp) ?_
  refine AllReadyH.cons rfl (fun K hK => ?_) AllReadyH.nil
  go_simp
  refine hK.out _ _ ?_ (fun hHeld => ?_)
  · exact ⟨cell_far3 hHeld.1 _ _ _ n2', cell_far3 hHeld.2.1 _ _ _ n4', cell_far3 hHeld.2.2.1 _ _ _ n4', cell_far3 hHeld.2.2.2 _ _ _ n4'⟩
  clear hK K
  try simp only [Act.put, List.setIfInBounds_toArray, List.set_cons_zero, List.set_cons_succ]
  refine heldY 7 13 ?_
  refine wpAnyH_done (by kernel_rfl) ?_ _
  go_wp2
  exact bodyPost_ret (v := .tuple #[.slice D2 n1 d2, .agg #[.slice A3 8 c3], .agg #[.int .i64 a1, .int .i64 b1, .int .i64 h1], .bool true]) (by simp [results, Tryz.results76, go_sem, *]) rfl
    ⟨_, _, cs, _, _, ts, rfl, HE.out.1, (HR.out.fin _ _ _ _).1, (HR.out.fin _ _ _ _).2.1, (HR.out.fin _ _ _ _).2.2⟩
end
end Go.Proofs.YtolpnloghogjjaaGreat
namespace Go.Proofs.YtolpnloghogjjaaGreat
open Go.ChangeShapes Go.WideShapes Go.ChangeAt Go.RowKit
set_option linter.unusedVariables false
section
variable {A D : Option Addr} {n c nd cd : Nat} {ls : List Li} {bs : List Bk} {w : World}
set_option maxHeartbeats 1000000 in
theorem usedOf_val {X : List Int} {n1 : Nat} {z : Int} (hX : blkUsed (ll ls) z = X) (h1 : X.length = n1) (hl : ls.length = n) (hr : TRow w w.heap.size A ls) (hn : n ≤ 1048576) (hp : ∀ l, l ∈ ls → l.xs.length ≤ 1048576) :
    Calls Tryz.prog 75 #[.agg #[.slice A n c], .int .i64 z] w (IMadeN X n1 w) := by
  obtain ⟨us, hus⟩ : ∃ us, usedV (ll ls) = us := ⟨_, rfl⟩
  obtain ⟨m, hm⟩ : ∃ m, us.length = m := ⟨_, rfl⟩
  have h48 : m ≤ 48 := by rw [← hm, ← hus]; exact used_small _
  have hin : ∀ (i : Nat) (x : Int), us[i]? = some x → 0 ≤ x ∧ x < 48 := fun i x h => by rw [← hus] at h; exact used_in _ h
  have hXu : us.filter (fun y => decide (y / 4 = z)) = X := by rw [← hus]; exact hX
  have HT := Lib.hid (TIn.start hr n c)
  have HP := Lib.hid (And.intro hl hp)
  have HU := Lib.hid (And.intro hus (And.intro hm (And.intro hin (And.intro hXu h1))))
  clear hl hr hp hX h1 hus hm hin hXu
  go_enter Tryz.func75, Tryz.ntmps75
  have b0 := HT.out.1.cell 0
  go_wp2_with fail
  refine (usedPages_val HU.out.1 HU.out.2.1 HP.out.1 HT.out.2.1.here hn HP.out.2).mono ?_
  rintro e w1 ⟨Au, cu, rfl, hul, ho, hk⟩
  have HM := Lib.hid (show IRow w1 w1.heap.size Au us ∧ w.grownBy w1 none from ⟨VOwn.row ho, grown_trans HT.out.2.2 hk⟩)
  clear hul ho hk b0 HT
  go_wp2
  go_loopw [5, 11] (fun u i wr => ∃ k : Nat, i = .int .i64 k ∧ k ≤ m ∧ IOwn wr w1.heap.size u ((us.take k).filter (fun y => decide (y / 4 = z))) ∧ w1.grownBy wr none) (fun _ i _ => m - (intOf i).toNat)
  case atStart => exact ⟨0, rfl, Nat.zero_le _, World.ownsRow_nil _ _ _ _, grown_refl _ _⟩
  case round =>
    rename World => wq
    obtain ⟨k, rfl, hk, hi, hg⟩ := hrel
    by_cases hlt : k < m
    · have k0 : decide ((0 : Int) ≤ k) = true := decide_eq_true (by omega)
      have k1 : (k : Int) < m := by omega
      obtain ⟨gL, oL, rfl⟩ := IRow.pos HM.out.1 (by have := HU.out.2.1; omega)
      obtain ⟨x, hx⟩ : ∃ x, us[k]? = some x := ⟨_, List.getElem?_eq_getElem (by have := HU.out.2.1; omega)⟩
      have c0 := IRow.cellf (VRow.kept HM.out.1 hg) hx
      obtain ⟨hx0, hx48⟩ := HU.out.2.2.1 k x hx
      have hs := blk_step (nn := z) hx
      by_cases hz : x / 4 = z
      · rw [if_pos hz] at hs
        have e1 : (x / 4 == z) = true := beq_iff_eq.2 hz
        have hle : ((us.take k).filter (fun y => decide (y / 4 = z))).length ≤ 1000000 := by
          have h1 := List.length_filter_le (fun y => decide (y / 4 = z)) (us.take k)
          rw [List.length_take] at h1
          omega
        obtain ⟨u', w3, hrun, hi2, hg2⟩ := push_int (wr := w1) x hi hg.size hle
        rw [← hs] at hi2
        have K1 := grown_alloc (grown_refl wq none) (.cells #[.int .i64 x] 3)
        have HZ := Lib.hid (And.intro hi2 (grown_joinR (grown_trans hg K1) hg2 (fun i e => (VOwn.lt hi i e).1)))
        have HRUN := Lib.hid hrun
        clear hi hg hx hs hz hi2 hg2 hrun K1 hle
        go_wp2_with (at_builtin; refine wpList_append_run _ rfl (.tmp 19) (.tmp 21) _ _ rfl _ _ rfl rfl HRUN.out ?_)
        go_roundw
        case rel => exact ⟨k + 1, by go_num, by omega, HZ.out⟩
        case measure => simp [intOf]; omega
      · rw [if_neg hz, List.append_nil] at hs
        have e1 : (x / 4 == z) = false := beq_eq_false_iff_ne.2 hz
        rw [← hs] at hi
        have HZ := Lib.hid (And.intro hi hg)
        clear hi hg hx hs hz
        go_wp2
        go_roundw
        case rel => exact ⟨k + 1, by go_num, by omega, HZ.out⟩
        case measure => simp [intOf]; omega
    · obtain rfl : k = m := by omega
      rw [List.take_of_length_le (by have := HU.out.2.1; omega), HU.out.2.2.2.1] at hi
      obtain ⟨Aw, cw, rfl⟩ := IOwn.slice hi
      have hXl := HU.out.2.2.2.2
      rw [hXl] at hi ⊢
      have HZ := Lib.hid (show IOwn wq w.heap.size _ _ ∧ w.grownBy wq none from ⟨VOwn.base_le hi HM.out.2.size, grown_trans HM.out.2 hg⟩)
      clear hi hg hXl
      go_wp2
      go_ret
      exact ⟨Aw, cw, rfl, HU.out.2.2.2.2, HZ.out.1, HZ.out.2⟩
set_option maxHeartbeats 1000000 in
theorem canRead_val {V : Bool} (hV : readB bs (ll ls) = V) (hld : bs.length = nd) (hrd : DRow w w.heap.size D bs) (hnd : nd ≤ 1048576) (hpd : ∀ b, b ∈ bs → b.ps.length ≤ 1048576) (hl : ls.length = n) (hr : TRow w w.heap.size A ls) (hn : n ≤ 1048576) (hp : ∀ l, l ∈ ls → l.xs.length ≤ 1048576) :
    Calls Tryz.prog 33 #[.slice D nd cd, .agg #[.slice A n c]] w (KeptV (.bool V) w) := by
  have HT := Lib.hid (VIn.keep (⟨TIn.start hr n c, hrd.alloc _⟩ : VIn w A n c ls D bs _) (grown_refl _ _))
  have HP := Lib.hid (And.intro hld (And.intro hpd (And.intro hl (And.intro hp hV))))
  clear hld hrd hpd hl hr hp hV
  go_enter Tryz.func33, Tryz.ntmps33
  go_wp2
  go_loopw [5] (fun i wr => ∃ k : Nat, i = .int .i64 k ∧ k ≤ 8 ∧ (∀ j : Nat, j < k → (fvalV bs (ll ls) (j : Int)).2 = true) ∧ VIn w A n c ls D bs wr) (fun i _ => 8 - (intOf i).toNat)
  case atStart => exact ⟨0, rfl, Nat.zero_le _, fun j hj => absurd hj (by omega), HT.out⟩
  case round =>
    rename World => wq
    obtain ⟨k, rfl, hk, hall, hT⟩ := hrel
    have HX := Lib.hid hT
    have HJ := Lib.hid hall
    clear hT hall HT
    by_cases hlt : k < 8
    · have k1 : (k : Int) < 8 := by omega
      have b0 := HX.out.1.1.cell 0
      obtain ⟨XS, ok, hf⟩ : ∃ XS ok, fvalV bs (ll ls) (k : Int) = (XS, ok) := ⟨_, _, rfl⟩
      have HV := Lib.hid hf
      clear hf
      go_wp2_with fail
      refine (fileValues_any _ _ _ _ _ _ _ _ _ _ HP.out.1 HX.out.2.here hnd HP.out.2.1 HP.out.2.2.1 HX.out.1.2.1.here hn HP.out.2.2.2.1).mono ?_
      rintro e w2 ⟨A2, n2, c2, rfl, hll, ho, hk2⟩
      replace HX := Lib.hid (HX.out.keep hk2)
      clear hll ho hk2 b0
      have hok : (fvalV bs (ll ls) (k : Int)).2 = ok := by rw [HV.out]
      rw [hok]
      cases ok with
      | false =>
        have HZ := Lib.hid (readB_no (by omega) hok)
        clear hok
        go_wp2
        go_ret
        exact ⟨retB (by rw [← HP.out.2.2.2.2, HZ.out]), HX.out.1.2.2⟩
      | true =>
        have HZ := Lib.hid (show ∀ j : Nat, j < k + 1 → (fvalV bs (ll ls) (j : Int)).2 = true from fun j hj => by
          rcases Nat.lt_or_ge j k with h1 | h1
          · exact HJ.out j h1
          · obtain rfl : j = k := by omega
            exact hok)
        clear hok
        go_wp2
        go_roundw
        case rel => exact ⟨k + 1, by go_num, by omega, HZ.out, HX.out⟩
        case measure => simp [intOf]; omega
    · obtain rfl : k = 8 := by omega
      go_wp2
      go_ret
      exact ⟨retB (by rw [← HP.out.2.2.2.2, readB_yes HJ.out]), HX.out.1.2.2⟩
end
end Go.Proofs.YtolpnloghogjjaaGreat
namespace Go.Proofs.YtolpnloghogjjaaGreat
open Go.ChangeShapes Go.WideShapes Go.ChangeAt Go.RowKit
set_option linter.unusedVariables false

section
variable {W : World} {base g : Nat} {v : Value} {cs : List Bk} {ls : List Li} {xs : List Int}
theorem grown_one (W : World) (g o : Nat) (u : Value) : W.grownBy (W.setCell ⟨g, o, none⟩ u) (some g) := grown_set (g := g) (grown_refl _ _) (.inl rfl) u
theorem DOwn.low (h : DOwn W base v cs) (hg : g < base) (o : Nat) (u : Value) : DOwn (W.setCell ⟨g, o, none⟩ u) base v cs :=
  DOwn.grown h (grown_one W g o u) (.inr fun e => by have := (World.ownsRow.lt h.1 g e).1; omega) fun b a hb ha e => by
    injection e with e
    have := (World.ownsRow.lt (h.2.1 b hb) a.block (by simp [Bk.row, ha, Value.ownBlock])).1
    omega
theorem TOwn.low (h : TOwn W base v ls) (hg : g < base) (o : Nat) (u : Value) : TOwn (W.setCell ⟨g, o, none⟩ u) base v ls :=
  TOwn.grown h (grown_one W g o u) (.inr fun e => by have := (VOwn.lt h.1 g e).1; omega) fun b a hb ha e => by
    injection e with e
    have := (VOwn.lt (h.2.1 b hb) a.block (by simp [Li.row, ha, Value.ownBlock])).1
    omega
theorem IOwn.low (h : IOwn W base v xs) (hg : g < base) (o : Nat) (u : Value) : IOwn (W.setCell ⟨g, o, none⟩ u) base v xs :=
  VOwn.kept h (grown_one W g o u) (.inr fun e => by have := (VOwn.lt h g e).1; omega)
theorem DRow.low {D : Option Addr} (h : DRow W base D cs) (hg : base ≤ g) (o : Nat) (u : Value) : DRow (W.setCell ⟨g, o, none⟩ u) base D cs :=
  h.grown (grown_one W g o u) fun k e => by injection e with e; omega
end
/-- Boxed table and heads on the way, the results' variables, the device (the one that came in, or one of the call's own), the table, the pages to be moved. -/
def CleanSt (w : World) (A1 : Option Addr) (c1 : Nat) (ts : List Li) (D1 : Option Addr) (nd d1 : Nat) (cs : List Bk) (a b h : Int) (Au : Option Addr) (nU cu : Nat) (U : List Int) (wr : World) : Prop :=
  (Blk wr w.heap.size 26 #[.slice A1 8 c1] ∧ Blk wr (w.heap.size + 1) 28 #[.int .i64 a, .int .i64 b, .int .i64 h] ∧ Blk wr (w.heap.size + 1 + 1) 26 #[.slice none 0 0] ∧ Blk wr (w.heap.size + 1 + 1 + 1) 28 #[.int .i64 0, .int .i64 0, .int .i64 0]) ∧
  (DRow wr w.heap.size D1 cs ∨ DOwn wr (w.heap.size + 1 + 1 + 1 + 1) (.slice D1 nd d1) cs) ∧ TOwn wr (w.heap.size + 1 + 1 + 1 + 1) (.slice A1 8 c1) ts ∧ IOwn wr (w.heap.size + 1 + 1 + 1 + 1) (.slice Au nU cu) U ∧ w.grownBy wr none
section
variable {w wr w' : World} {A1 D1 Au A2 D2 : Option Addr} {nd d1 d2 nU cu c1 c2 : Nat} {ts ts' : List Li} {cs cs' : List Bk} {a b h a1 b1 h1 : Int} {U : List Int}
theorem CleanSt.keep (H : CleanSt w A1 c1 ts D1 nd d1 cs a b h Au nU cu U wr) (k : wr.grownBy w' none) : CleanSt w A1 c1 ts D1 nd d1 cs a b h Au nU cu U w' :=
  ⟨⟨H.1.1.keep k, H.1.2.1.keep k, H.1.2.2.1.keep k, H.1.2.2.2.keep k⟩, H.2.1.imp (·.kept k) (·.keep k), H.2.2.1.keep k, VOwn.keep H.2.2.2.1 k, grown_trans H.2.2.2.2 k⟩
theorem CleanSt.dev (H : CleanSt w A1 c1 ts D1 nd d1 cs a b h Au nU cu U wr) : DRow wr wr.heap.size D1 cs := by
  rcases H.2.1 with h1 | h1
  · exact h1.here
  · exact h1.row
theorem CleanSt.tab (H : CleanSt w A1 c1 ts D1 nd d1 cs a b h Au nU cu U wr) : wr.cell? ⟨w.heap.size, 0, none⟩ = some (.slice A1 8 c1) ∧ wr.frozen? ⟨w.heap.size, 0, none⟩ = false := ⟨H.1.1.cell 0, H.1.1.frozen 0⟩
theorem CleanSt.heads (H : CleanSt w A1 c1 ts D1 nd d1 cs a b h Au nU cu U wr) : (wr.cell? ⟨w.heap.size + 1, 0, none⟩ = some (.int .i64 a) ∧ wr.cell? ⟨w.heap.size + 1, 1, none⟩ = some (.int .i64 b) ∧ wr.cell? ⟨w.heap.size + 1, 2, none⟩ = some (.int .i64 h)) ∧
    wr.frozen? ⟨w.heap.size + 1, 0, none⟩ = false ∧ wr.frozen? ⟨w.heap.size + 1, 1, none⟩ = false ∧ wr.frozen? ⟨w.heap.size + 1, 2, none⟩ = false := ⟨cells3 H.1.2.1, frozen3 H.1.2.1⟩
theorem CleanSt.res (H : CleanSt w A1 c1 ts D1 nd d1 cs a b h Au nU cu U wr) : (wr.cell? ⟨w.heap.size + 1 + 1, 0, none⟩ = some (.slice none 0 0) ∧ wr.frozen? ⟨w.heap.size + 1 + 1, 0, none⟩ = false) ∧
    (wr.cell? ⟨w.heap.size + 1 + 1 + 1, 0, none⟩ = some (.int .i64 0) ∧ wr.cell? ⟨w.heap.size + 1 + 1 + 1, 1, none⟩ = some (.int .i64 0) ∧ wr.cell? ⟨w.heap.size + 1 + 1 + 1, 2, none⟩ = some (.int .i64 0)) ∧
    wr.frozen? ⟨w.heap.size + 1 + 1 + 1, 0, none⟩ = false ∧ wr.frozen? ⟨w.heap.size + 1 + 1 + 1, 1, none⟩ = false ∧ wr.frozen? ⟨w.heap.size + 1 + 1 + 1, 2, none⟩ = false :=
  ⟨⟨H.1.2.2.1.cell 0, H.1.2.2.1.frozen 0⟩, cells3 H.1.2.2.2, frozen3 H.1.2.2.2⟩
/-- A new table, new heads and a new device. -/
theorem CleanSt.put (H : CleanSt w A1 c1 ts D1 nd d1 cs a b h Au nU cu U wr) (hd : DOwn wr (w.heap.size + 1 + 1 + 1 + 1) (.slice D2 nd d2) cs') (ht : TOwn wr (w.heap.size + 1 + 1 + 1 + 1) (.slice A2 8 c2) ts') :
    CleanSt w A2 c2 ts' D2 nd d2 cs' a1 b1 h1 Au nU cu U ((((wr.setCell ⟨w.heap.size, 0, none⟩ (.slice A2 8 c2)).setCell ⟨w.heap.size + 1, 0, none⟩ (.int .i64 a1)).setCell ⟨w.heap.size + 1, 1, none⟩ (.int .i64 b1)).setCell ⟨w.heap.size + 1, 2, none⟩ (.int .i64 h1)) := by
  have n1 : w.heap.size ≠ w.heap.size + 1 := by omega
  have n2 : w.heap.size + 1 ≠ w.heap.size := by omega
  have n3 : w.heap.size + 1 + 1 ≠ w.heap.size := by omega
  have n4 : w.heap.size + 1 + 1 ≠ w.heap.size + 1 := by omega
  have n5 : w.heap.size + 1 + 1 + 1 ≠ w.heap.size := by omega
  have n6 : w.heap.size + 1 + 1 + 1 ≠ w.heap.size + 1 := by omega
  refine ⟨⟨(((H.1.1.put 0 _).far (p := ⟨w.heap.size + 1, 0, none⟩) n1 _).far (p := ⟨w.heap.size + 1, 1, none⟩) n1 _).far (p := ⟨w.heap.size + 1, 2, none⟩) n1 _,
    (((H.1.2.1.far (p := ⟨w.heap.size, 0, none⟩) n2 _).put 0 _).put 1 _).put 2 _,
    (((H.1.2.2.1.far (p := ⟨w.heap.size, 0, none⟩) n3 _).far (p := ⟨w.heap.size + 1, 0, none⟩) n4 _).far (p := ⟨w.heap.size + 1, 1, none⟩) n4 _).far (p := ⟨w.heap.size + 1, 2, none⟩) n4 _,
    (((H.1.2.2.2.far (p := ⟨w.heap.size, 0, none⟩) n5 _).far (p := ⟨w.heap.size + 1, 0, none⟩) n6 _).far (p := ⟨w.heap.size + 1, 1, none⟩) n6 _).far (p := ⟨w.heap.size + 1, 2, none⟩) n6 _⟩,
    .inr ((((hd.low (by omega) 0 _).low (by omega) 0 _).low (by omega) 1 _).low (by omega) 2 _),
    (((ht.low (by omega) 0 _).low (by omega) 0 _).low (by omega) 1 _).low (by omega) 2 _,
    (((H.2.2.2.1.low (by omega) 0 _).low (by omega) 0 _).low (by omega) 1 _).low (by omega) 2 _,
    grown_put3 (grown_put H.2.2.2.2 (p := ⟨w.heap.size, 0, none⟩) (Nat.le_refl _) _) (by omega) _ _ _⟩
theorem CleanSt.start {A D : Option Addr} {n c : Nat} {ls : List Li} {bs : List Bk} (H : CIn w A n c ls D bs a b h wr) (ht : TOwn wr (w.heap.size + 1 + 1 + 1 + 1) (.slice A2 8 c2) ts') :
    CleanSt w A2 c2 ts' D nd d1 bs a b h none 0 0 [] (wr.setCell ⟨w.heap.size, 0, none⟩ (.slice A2 8 c2)) :=
  ⟨⟨H.1.1.put 0 _, H.1.2.1.far (p := ⟨w.heap.size, 0, none⟩) (by dsimp only; omega) _, H.1.2.2.1.far (p := ⟨w.heap.size, 0, none⟩) (by dsimp only; omega) _, H.1.2.2.2.far (p := ⟨w.heap.size, 0, none⟩) (by dsimp only; omega) _⟩,
    .inl (H.2.2.1.low (Nat.le_refl _) 0 _), ht.low (by omega) 0 _, World.ownsRow_nil _ _ _ _, grown_put H.2.2.2 (p := ⟨w.heap.size, 0, none⟩) (Nat.le_refl _) _⟩
theorem CleanSt.fin (H : CleanSt w A1 c1 ts D1 nd d1 cs a b h Au nU cu U wr) (hd : DOwn wr w.heap.size (.slice D2 nd d2) cs') (u u0 u1 u2 : Value) :
    DOwn ((((wr.setCell ⟨w.heap.size + 1 + 1, 0, none⟩ u).setCell ⟨w.heap.size + 1 + 1 + 1, 0, none⟩ u0).setCell ⟨w.heap.size + 1 + 1 + 1, 1, none⟩ u1).setCell ⟨w.heap.size + 1 + 1 + 1, 2, none⟩ u2) w.heap.size (.slice D2 nd d2) cs' ∧
    TOwn ((((wr.setCell ⟨w.heap.size + 1 + 1, 0, none⟩ u).setCell ⟨w.heap.size + 1 + 1 + 1, 0, none⟩ u0).setCell ⟨w.heap.size + 1 + 1 + 1, 1, none⟩ u1).setCell ⟨w.heap.size + 1 + 1 + 1, 2, none⟩ u2) w.heap.size (.slice A1 8 c1) ts ∧
    w.grownBy ((((wr.setCell ⟨w.heap.size + 1 + 1, 0, none⟩ u).setCell ⟨w.heap.size + 1 + 1 + 1, 0, none⟩ u0).setCell ⟨w.heap.size + 1 + 1 + 1, 1, none⟩ u1).setCell ⟨w.heap.size + 1 + 1 + 1, 2, none⟩ u2) none :=
  ⟨hd.fin H.1.2.2.1 H.1.2.2.2 (by omega) u u0 u1 u2, TOwn.fin (H.2.2.1.base_le (by omega)) H.1.2.2.1 H.1.2.2.2 (by omega) u u0 u1 u2, grown_put3 (grown_put H.2.2.2.2 (p := ⟨w.heap.size + 1 + 1, 0, none⟩) (by dsimp only; omega) u) (by omega) u0 u1 u2⟩
end
/-- A device, a table, heads, a number and a truth value are returned. -/
def CleanMade (l : List (Int × List Pg)) (n : Nat) (T : List (List Int)) (m : Nat) (a b h mv : Int) (ok : Bool) (w : World) (e : Ending) (w' : World) : Prop :=
  ∃ (D : Option Addr) (c : Nat) (cs : List Bk) (A : Option Addr) (c2 : Nat) (ls : List Li), e = .returned (.tuple #[.slice D n c, .agg #[.slice A m c2], .agg #[.int .i64 a, .int .i64 b, .int .i64 h], .int .i64 mv, .bool ok]) ∧
    (cs.length = n ∧ cs.map Bk.is = l ∧ ls.length = m ∧ ll ls = T) ∧ DOwn w' w.heap.size (.slice D n c) cs ∧ TOwn w' w.heap.size (.slice A m c2) ls ∧ w.grownBy w' none
/-- It cannot be done, whatever stands beside. -/
def FailMade (w : World) (e : Ending) (w' : World) : Prop :=
  ∃ (D : Option Addr) (n c : Nat) (A : Option Addr) (m c2 : Nat) (a b h mv : Int), e = .returned (.tuple #[.slice D n c, .agg #[.slice A m c2], .agg #[.int .i64 a, .int .i64 b, .int .i64 h], .int .i64 mv, .bool false]) ∧ w.grownBy w' none
/-- What moveAndErase answers, after the pages were moved. -/
def ErasePost (n nn : Nat) (m mv : Int) (o : Option MSt) (w : World) (e : Ending) (w' : World) : Prop :=
  ((o = none ∨ m = 100) ∧ FailMade w e w') ∨ ∃ y, o = some y ∧ m ≠ 100 ∧ CleanMade (y.l.set nn (m + 1, [pz, pz, pz, pz])) n y.T 8 y.a y.b y.h mv true w e w'
section
variable {A D : Option Addr} {n c nd cd : Nat} {ls : List Li} {bs : List Bk} {a b h s : Int} {w : World} {nn : Nat} {m : Int} {ps : List Pg} {o : Option MSt}
set_option maxHeartbeats 1000000 in
theorem moveErase_head (hh : headB a b h nn = true) (hrd : DRow w w.heap.size D bs) (hr : TRow w w.heap.size A ls) :
    Calls Tryz.prog 34 #[.slice D nd cd, .agg #[.slice A n c], .agg #[.int .i64 a, .int .i64 b, .int .i64 h], .int .i64 (nn : Int), .int .i64 s] w (FailMade w) := by
  have HF := Lib.hid (CIn.start hr hrd n c a b h)
  have HH := Lib.hid (And.intro hh trivial)
  clear hrd hr hh
  go_enter Tryz.func34, Tryz.ntmps34
  obtain ⟨z0, z1, z2⟩ := HF.out.cells
  go_wp2_with fail
  refine (isOne_val HH.out.1 _).mono ?_
  rintro e w1 ⟨rfl, hk⟩
  replace HF := Lib.hid (HF.out.keep hk)
  clear hk z0 z1 z2
  obtain ⟨⟨t0, t1⟩, ⟨r0, r1, r2⟩, q0, q1, q2⟩ := HF.out.res
  have na : w.heap.size + 1 + 1 ≠ w.heap.size + 1 + 1 + 1 := by omega
  have nb : w.heap.size + 1 + 1 + 1 ≠ w.heap.size + 1 + 1 := by omega
  have nc : w.heap.size ≠ w.heap.size + 1 := by omega
  have nd' : w.heap.size + 1 ≠ w.heap.size := by omega
  go_wp2
  exact bodyPost_ret (v := .tuple #[.slice none 0 0, .agg #[.slice none 0 0], .agg #[.int .i64 0, .int .i64 0, .int .i64 0], .int .i64 0, .bool false]) (by simp [results, Tryz.results34, go_sem, *]) rfl
    ⟨_, _, _, _, _, _, _, _, _, _, rfl, HF.out.fin _ _ _ _⟩
end
end Go.Proofs.YtolpnloghogjjaaGreat
namespace Go.Proofs.YtolpnloghogjjaaGreat
open Go.ChangeShapes Go.WideShapes Go.ChangeAt Go.RowKit
set_option linter.unusedVariables false
section
variable {A D : Option Addr} {n c nd cd : Nat} {ls : List Li} {bs : List Bk} {a b h s : Int} {w : World} {nn : Nat} {m : Int} {ps : List Pg} {o : Option MSt}
theorem CleanSt.nums {w wr w' : World} {A1 D1 Au Av : Option Addr} {nd d1 nU cu nV cv c1 : Nat} {ts : List Li} {cs : List Bk} {U V : List Int} (H : CleanSt w A1 c1 ts D1 nd d1 cs a b h Au nU cu U wr) (hk : wr.grownBy w' none) (hV : IOwn w' wr.heap.size (.slice Av nV cv) V) (hz : w.heap.size + 1 + 1 + 1 + 1 ≤ wr.heap.size) :
    CleanSt w A1 c1 ts D1 nd d1 cs a b h Av nV cv V w' :=
  ⟨(H.keep hk).1, (H.keep hk).2.1, (H.keep hk).2.2.1, VOwn.base_le hV hz, (H.keep hk).2.2.2.2⟩
theorem drop_map {U : List Int} {k : Nat} {x : Int} (f : Int → Pg) (h : U[k]? = some x) : (U.drop k).map f = f x :: (U.drop (k + 1)).map f := by
  obtain ⟨h1, rfl⟩ := List.getElem?_eq_some_iff.1 h
  rw [List.drop_eq_getElem_cons h1, List.map_cons]
set_option maxHeartbeats 4000000 in
theorem moveErase_any (hm : MovesIs nd (movFrom (isUsed (ll ls) nn) 0 ps) s ⟨bs.map Bk.is, ll ls, a, b, h⟩ o) (hh : headB a b h nn = false) (hv : (headsB nd a b h && devB bs) = true) (hs1 : inB s 1 1000000 = true) (hrb : readB bs (ll ls) = true) (hq : (bs.map Bk.is)[nn]? = some (m, ps))
    (hld : bs.length = nd) (hrd : DRow w w.heap.size D bs) (hl : ls.length = n) (hr : TRow w w.heap.size A ls) :
    Calls Tryz.prog 34 #[.slice D nd cd, .agg #[.slice A n c], .agg #[.int .i64 a, .int .i64 b, .int .i64 h], .int .i64 (nn : Int), .int .i64 s] w (ErasePost nd nn m ((movFrom (isUsed (ll ls) nn) 0 ps).length : Nat) o w) := by
  obtain ⟨hd, hT⟩ := readB_tab hrb
  have hI := MInv.start hld hv hrb hq (head_no hh)
  obtain ⟨⟨_, h12⟩, hall⟩ := dev_parts hd
  have hn12 : nd ≤ 12 := by omega
  have hnn : nn < nd := by have := (List.getElem?_eq_some_iff.1 hq).1; rw [List.length_map] at this; omega
  have h4 : ps.length = 4 := hI.four
  obtain ⟨U, hU⟩ : ∃ U, blkUsed (ll ls) (nn : Int) = U := ⟨_, rfl⟩
  obtain ⟨nU, hnU⟩ : ∃ k, U.length = k := ⟨_, rfl⟩
  have hUm := blk_pages hT (show nn < 12 by omega) h4
  have hUi := blk_is hT (show nn < 12 by omega)
  have hM : movFrom (isUsed (ll ls) nn) 0 ps = U.map (pgN ps) := by rw [← hUm, hU]
  have hlen : nU ≤ 4 := by have h1 := mov_len (isUsed (ll ls) nn) ps 0; rw [hM, List.length_map] at h1; omega
  have hin : ∀ (i : Nat) (x : Int), U[i]? = some x → ∃ j : Nat, ∃ p, j < 4 ∧ x = ((4 * nn + j : Nat) : Int) ∧ ps[j]? = some p ∧ pgN ps x = p ∧ p.f = true := fun i x hx => by
    rw [← hU, hUi] at hx
    obtain ⟨j, hj, rfl, hu⟩ := nums_mem (List.mem_of_getElem? hx)
    have hp := List.getElem?_eq_getElem (l := ps) (i := j) (by omega)
    exact ⟨j, _, hj, rfl, hp, by unfold pgN; rw [Int.toNat_natCast, show (4 * nn + j) % 4 = j by omega, hp]; rfl, (used_page hrb hq hp hu).1⟩
  rw [hM] at hm ⊢
  rw [List.length_map, hnU]
  obtain ⟨hs0, hs9⟩ := inB_iff.1 hs1
  have HF := Lib.hid (CIn.start hr hrd n c a b h)
  have HH := Lib.hid (And.intro hh (And.intro hl (And.intro hT (And.intro hU (And.intro hnU (And.intro hin hnn))))))
  have HM := Lib.hid (And.intro hm hI)
  have HL := Lib.hid (And.intro hld h4)
  clear hm hh hv hs1 hrb hq hld hrd hl hr hd hT hI hall h12 hU hnU hUm hUi hM hin h4 hnn
  go_enter Tryz.func34, Tryz.ntmps34
  obtain ⟨z0, z1, z2⟩ := HF.out.cells
  go_wp2_with fail
  refine (isOne_val HH.out.1 _).mono ?_
  rintro e w1 ⟨rfl, hk⟩
  replace HF := Lib.hid (HF.out.keep hk)
  clear hk z0 z1 z2
  have t0 := HF.out.tab
  go_wp2_with fail
  refine (copyTab_at _ _ _ _ _ HH.out.2.1 HF.out.2.1.here HH.out.2.2.1).mono ?_
  rintro e w2 ⟨A2, c2, ts, rfl, htl, hts, ho, hk⟩
  have hz : w.heap.size + 1 + 1 + 1 + 1 ≤ w1.heap.size := HF.out.1.2.2.2.lt
  replace HF := Lib.hid (HF.out.keep hk)
  have HS := Lib.hid (And.intro (CleanSt.start (nd := nd) (d1 := cd) HF.out (ho.base_le hz)) (And.intro htl (And.intro hts (show w.heap.size + 1 + 1 + 1 + 1 ≤ w2.heap.size by have := hk.size; omega))))
  clear htl hts ho hk t0 hz
  have t0 := HF.out.tab
  have t1 := HF.out.1.1.frozen 0
  clear HF
  go_wp2_with fail
  clear t0 t1
  have hsz : (w2.setCell ⟨w.heap.size, 0, none⟩ (.slice A2 8 c2)).heap.size = w2.heap.size := by simp [World.setCell]
  refine (usedOf_val (by rw [HS.out.2.2.1]; exact HH.out.2.2.2.1) HH.out.2.2.2.2.1 HS.out.2.1 HS.out.1.2.2.1.row (by omega) (ll_six (by rw [HS.out.2.2.1]; exact HH.out.2.2.1))).mono ?_
  rintro e w3 ⟨Au, cu, rfl, hul, ho, hk⟩
  have HP := Lib.hid (CleanSt.nums HS.out.1 hk ho (by rw [hsz]; exact HS.out.2.2.2))
  replace HS := Lib.hid (And.intro HS.out.2.1 HS.out.2.2.1)
  clear hul ho hk hsz
  go_wp2
  go_loopw [0, 15, 32] (fun dv mv i wr => ∃ (k d1 c1 : Nat) (D1 A1 : Option Addr) (cs : List Bk) (ts : List Li) (x : MSt), dv = .slice D1 nd d1 ∧ mv = .int .i64 k ∧ i = .int .i64 k ∧ k ≤ nU ∧ MovesIs nd ((U.drop k).map (pgN ps)) (s + k) x o ∧ MInv nd nn (m, ps) x ∧ (cs.map Bk.is = x.l ∧ ll ts = x.T ∧ ts.length = 8) ∧
    CleanSt w A1 c1 ts D1 nd d1 cs x.a x.b x.h Au nU cu U wr) (fun _ _ i _ => nU - (intOf i).toNat)
  case atStart => exact ⟨0, cd, c2, D, A2, bs, ts, _, rfl, rfl, rfl, Nat.zero_le _, by rw [List.drop_zero, show s + ((0 : Nat) : Int) = s by omega]; exact HM.out.1, HM.out.2, ⟨rfl, HS.out.2, HS.out.1⟩, HP.out⟩
  case round =>
    rename World => wq
    clear HP HS HM
    obtain ⟨k, d1, c1, D1, A1, cs, ts, x, rfl, rfl, rfl, hk, hmv, hI, ⟨hcs, hts, htl⟩, hP⟩ := hrel
    have HP := Lib.hid hP
    have HI := Lib.hid (And.intro hI (And.intro hcs (And.intro hts htl)))
    clear hP hI hcs hts htl
    by_cases hlt : k < nU
    · have k0 : decide ((0 : Int) ≤ k) = true := decide_eq_true (by omega)
      have k1 : (k : Int) < nU := by omega
      obtain ⟨y, hy⟩ : ∃ y, U[k]? = some y := ⟨_, List.getElem?_eq_getElem (by have := HH.out.2.2.2.2.1; omega)⟩
      obtain ⟨j, p, hj, rfl, hpj, hpg, hpf⟩ := HH.out.2.2.2.2.2.1 k y hy
      rw [drop_map _ hy, hpg] at hmv
      obtain ⟨n1, l1, a1, b1, h1, v, hA, hsz, hmv⟩ := hmv
      have hAc := AppendIs.of hA (bk_is HI.out.2.1)
      have hdev : devB cs = true := (devB_list HI.out.2.1).trans HI.out.1.dev
      have hpa : pageAt cs (4 * nn + j) = some p := (page_list HI.out.2.1 _).trans (HI.out.1.page hpj)
      have hcl : cs.length = nd := by rw [← HI.out.1.len, ← HI.out.2.1, List.length_map]
      have hTV : tabB (ll ts) = true := by rw [HI.out.2.2.1]; exact (tabB_iff _).2 HI.out.1.tab
      have hrow := VOwn.row HP.out.2.2.2.1
      obtain ⟨gL, oL, rfl⟩ := IRow.pos hrow (by have := HH.out.2.2.2.2.1; omega)
      have c0 := IRow.cellf hrow hy
      obtain ⟨t0, t1⟩ := HP.out.tab
      obtain ⟨⟨z0, z1, z2⟩, f0, f1, f2⟩ := HP.out.heads
      have hge : w.heap.size + 1 + 1 + 1 + 1 ≤ wq.heap.size := HP.out.1.2.2.2.lt
      have n01 : w.heap.size ≠ w.heap.size + 1 := by omega
      have n10 : w.heap.size + 1 ≠ w.heap.size := by omega
      have n02 : w.heap.size ≠ w.heap.size + 1 + 1 := by omega
      have n20 : w.heap.size + 1 + 1 ≠ w.heap.size := by omega
      have n03 : w.heap.size ≠ w.heap.size + 1 + 1 + 1 := by omega
      have n30 : w.heap.size + 1 + 1 + 1 ≠ w.heap.size := by omega
      have n12' : w.heap.size + 1 ≠ w.heap.size + 1 + 1 := by omega
      have n21 : w.heap.size + 1 + 1 ≠ w.heap.size + 1 := by omega
      have n13 : w.heap.size + 1 ≠ w.heap.size + 1 + 1 + 1 := by omega
      have n31 : w.heap.size + 1 + 1 + 1 ≠ w.heap.size + 1 := by omega
      rcases hmv with ⟨hv, ho⟩ | ⟨hv, hmv⟩
      · have HQ := Lib.hid (And.intro hAc (And.intro hv (And.intro hsz (And.intro hdev (And.intro hpa (And.intro hcl ho))))))
        clear hAc hv hsz hdev hpa hcl ho hA hTV hrow hpj hpg hpf hy hge
        go_wp2_with fail
        refine (movePage_no HQ.out.1 HQ.out.2.1 HQ.out.2.2.1 HQ.out.2.2.2.1 HQ.out.2.2.2.2.1 HQ.out.2.2.2.2.2.1 HP.out.dev HI.out.2.2.2 HP.out.2.2.1.row).mono ?_
        rintro e w5 ⟨D5, d5, cs5, A5, c5, ts5, rfl, _, _, _, hk5⟩
        replace HP := Lib.hid (HP.out.keep hk5)
        clear hk5 t0 t1 z0 z1 z2 f0 f1 f2 c0
        obtain ⟨t0, t1⟩ := HP.out.tab
        obtain ⟨⟨z0, z1, z2⟩, f0, f1, f2⟩ := HP.out.heads
        obtain ⟨⟨u0, u1⟩, ⟨r0, r1, r2⟩, q0, q1, q2⟩ := HP.out.res
        go_wp2
        exact bodyPost_ret (v := .tuple #[.slice none 0 0, .agg #[.slice none 0 0], .agg #[.int .i64 0, .int .i64 0, .int .i64 0], .int .i64 0, .bool false]) (by simp [results, Tryz.results34, go_sem, *]) rfl
          (.inl ⟨.inl HQ.out.2.2.2.2.2.2, _, _, _, _, _, _, _, _, _, _, rfl, grown_put3 (grown_put (grown_put3 (grown_put HP.out.2.2.2.2 (p := ⟨w.heap.size, 0, none⟩) (Nat.le_refl _) _) (by omega) _ _ _) (p := ⟨w.heap.size + 1 + 1, 0, none⟩) (by dsimp only; omega) _) (by omega) _ _ _⟩)
      · obtain ⟨e1, hin, _, hset, hI2, _⟩ := HI.out.1.step hpj hpf hA hv
        subst e1
        obtain ⟨f, kk, ea, eb, hf8, hk6⟩ := HI.out.1.args hpj hpf
        have hTP : TPutIs (ll ts) p.a p.b v (tset x.T p.a.toNat p.b.toNat v) true := by
          unfold TPutIs
          rw [ea, eb, Int.toNat_natCast, Int.toNat_natCast] at hset
          rw [HI.out.2.2.1, ea, eb, Int.toNat_natCast, Int.toNat_natCast]
          exact tput_yes (arg_yes ((tabB_iff _).2 HI.out.1.tab) (inB_iff.2 ⟨by omega, by omega⟩) (inB_iff.2 ⟨by omega, by omega⟩)) hin hset
        have HQ := Lib.hid (And.intro hAc (And.intro hv (And.intro hsz (And.intro hdev (And.intro hpa (And.intro hcl (And.intro hTP (And.intro hI2 (And.intro hTV hmv)))))))))
        clear hAc hv hsz hdev hpa hcl hA hTV hrow hpj hpg hpf hy hTP hI2 hmv hset hin ea eb hf8 hk6
        go_wp2_with fail
        refine (movePage_yes HQ.out.1 HQ.out.2.1 HQ.out.2.2.2.2.2.2.1 HQ.out.2.2.2.2.2.2.2.1.tab.len HQ.out.2.2.1 HQ.out.2.2.2.1 HQ.out.2.2.2.2.1 HQ.out.2.2.2.2.2.1 HP.out.dev HI.out.2.2.2 HP.out.2.2.1.row (by omega) (ll_six HQ.out.2.2.2.2.2.2.2.2.1)).mono ?_
        rintro e w5 ⟨D5, d5, cs5, A5, c5, ts5, rfl, hx, hd5, ht5, hk5⟩
        replace HP := Lib.hid (HP.out.keep hk5)
        have HN := Lib.hid (And.intro hx (And.intro (hd5.base_le hge) (ht5.base_le hge)))
        clear hx hd5 ht5 hk5 hge t0 t1 z0 z1 z2 f0 f1 f2 c0
        obtain ⟨t0, t1⟩ := HP.out.tab
        obtain ⟨⟨z0, z1, z2⟩, f0, f1, f2⟩ := HP.out.heads
        go_wp2
        go_roundw
        case rel => exact ⟨k + 1, d5, c5, D5, A5, cs5, ts5, _, rfl, by go_num, by go_num, by omega, by rw [show s + ((k + 1 : Nat) : Int) = s + k + 1 by omega]; exact HQ.out.2.2.2.2.2.2.2.2.2, HQ.out.2.2.2.2.2.2.2.1, ⟨HN.out.1.2.1, HN.out.1.2.2.2, HN.out.1.2.2.1⟩, HP.out.put HN.out.2.1 HN.out.2.2⟩
        case measure => simp [intOf]; omega
    · obtain rfl : k = nU := by omega
      rw [List.drop_of_length_le (by have := HH.out.2.2.2.2.1; omega)] at hmv
      have ho : o = some x := hmv
      have hdev : devB cs = true := (devB_list HI.out.2.1).trans HI.out.1.dev
      have hcl : cs.length = nd := by rw [← HI.out.1.len, ← HI.out.2.1, List.length_map]
      have hall := (dev_parts hdev).2
      have hsm : ∀ b, b ∈ cs → b.ps.length ≤ 1048576 := fun b hm => by have := (block_parts (hall b hm)).2.1; omega
      obtain ⟨m1, ps1, he⟩ : ∃ m1 ps1, eraseIs m ps = (m1, ps1) := ⟨_, _, rfl⟩
      obtain ⟨r, hr⟩ : ∃ r, (!decide (m = 100)) = r := ⟨_, rfl⟩
      have hE : EraseAtIs nd cs (nn : Int) nd ((cs.map Bk.is).set nn (m1, ps1)) r := .inr (.inr ⟨nn, m, m1, ps, ps1, rfl, hdev, by rw [HI.out.2.1]; exact HI.out.1.blk, he, hr.symm, rfl, rfl⟩)
      have HQ := Lib.hid (And.intro hE (And.intro hcl (And.intro hsm (And.intro ho (And.intro he (And.intro hr HI.out.2.1))))))
      have HT := Lib.hid (And.intro HI.out.2.2.2 HI.out.2.2.1)
      clear hmv ho hdev hcl hall hsm he hr hE HI
      go_wp2_with fail
      have hge := HP.out.2.2.2.2.size
      refine (eraseAt_val HQ.out.1 HQ.out.2.1 HP.out.dev (by omega) HQ.out.2.2.1).mono ?_
      rintro e w6 ⟨D6, d6, cs6, rfl, hl6, hi6, ho6, hk6⟩
      have HS := Lib.hid (HP.out.keep hk6)
      have HO := Lib.hid (And.intro hl6 (And.intro hi6 (ho6.base_le hge)))
      clear hl6 hi6 ho6 hk6 hge HP
      obtain ⟨X, hX⟩ : ∃ X, X = x := ⟨_, rfl⟩
      obtain ⟨z1, hz1⟩ : ∃ z, x.a = z := ⟨_, rfl⟩
      obtain ⟨z2, hz2⟩ : ∃ z, x.b = z := ⟨_, rfl⟩
      obtain ⟨z3, hz3⟩ : ∃ z, x.h = z := ⟨_, rfl⟩
      rw [hz1, hz2, hz3] at HS
      obtain ⟨A3, hA3⟩ : ∃ A, A1 = A := ⟨_, rfl⟩
      subst hA3
      obtain ⟨c3, hc3⟩ : ∃ c, c1 = c := ⟨_, rfl⟩
      subst hc3
      have HZ := Lib.hid (And.intro hz1 (And.intro hz2 hz3))
      clear hX hz1 hz2 hz3
      have x0 := HS.out.tab.1
      obtain ⟨y0, y1, y2⟩ := HS.out.heads.1
      go_wp2_with fail
      refine wp_region_held_drew (S := (fun w' => w'.cell? ⟨w.heap.size, 0, none⟩ = some (.slice A1 8 c1) ∧ w'.cell? ⟨w.heap.size + 1, 0, none⟩ = some (.int .i64 z1) ∧ w'.cell? ⟨w.heap.size + 1, 1, none⟩ = some (.int .i64 z2) ∧ w'.cell? ⟨w.heap.size + 1, 2, none⟩ = some (.int .i64 z3))) (by kernel_rfl) ?_ (fun hHeld => ?_)
      · exact ⟨x0, y0, y1, y2⟩
      replace HS := Lib.hid (HS.out.keep (grown_drew (grown_refl _ none)))
      replace HO := Lib.hid (And.intro HO.out.1 (And.intro HO.out.2.1 (HO.out.2.2.keep (grown_drew (grown_refl _ none)))))
      clear x0 y0 y1 y2
      generalize World.drew _ = wz at HS HO hHeld ⊢
      obtain ⟨⟨t0, t1⟩, ⟨r0, r1, r2⟩, q0, q1, q2⟩ := HS.out.res
      have n1' : w.heap.size ≠ w.heap.size + 1 + 1 := by omega
      have n2' : w.heap.size ≠ w.heap.size + 1 + 1 + 1 := by omega
      have n3' : w.heap.size + 1 ≠ w.heap.size + 1 + 1 := by omega
      have n4' : w.heap.size + 1 ≠ w.heap.size + 1 + 1 + 1 := by omega
      have na : w.heap.size + 1 + 1 ≠ w.heap.size + 1 + 1 + 1 := by omega
      have nb : w.heap.size + 1 + 1 + 1 ≠ w.heap.size + 1 + 1 := by omega
      have nd' : w.heap.size + 1 ≠ w.heap.size := by omega
      refine heldY 0 62 ?_
      refine heldY 1 63 ?_
      refine heldY 2 64 ?_
      refine heldY 3 65 ?_
      refine heldY 4 66 ?_
      refine heldY 5 10 ?_
      refine wpAnyH_ready (rs := [6]) (by kernel_rfl) (by simp) ?_
      refine AllReadyH.cons rfl (fun K hK => ?_) AllReadyH.nil
      go_simp
      refine hK.out _ _ ?_ (fun hHeld => ?_)
      · exact ⟨cell_far hHeld.1 _ n1', cell_far hHeld.2.1 _ n3', cell_far hHeld.2.2.1 _ n3', cell_far hHeld.2.2.2 _ n3'⟩
      clear hK K
      try simp only [Act.put, List.setIfInBounds_toArray, List.set_cons_zero, List.set_cons_succ]
      refine wpAnyH_ready (rs := [7]) (by kernel_rfl) (by simp) ?_
      refine AllReadyH.cons rfl (fun K hK => ?_) AllReadyH.nil
      go_simp
      refine hK.out _ _ ?_ (fun hHeld => ?_)
      · exact ⟨cell_far3 hHeld.1 _ _ _ n2', cell_far3 hHeld.2.1 _ _ _ n4', cell_far3 hHeld.2.2.1 _ _ _ n4', cell_far3 hHeld.2.2.2 _ _ _ n4'⟩
      clear hK K
      try simp only [Act.put, List.setIfInBounds_toArray, List.set_cons_zero, List.set_cons_succ]
      refine heldY 8 13 ?_
      refine heldY 9 14 ?_
      refine wpAnyH_done (by kernel_rfl) ?_ _
      go_wp2
      exact bodyPost_ret (v := .tuple #[.slice D6 nd d6, .agg #[.slice A1 8 c1], .agg #[.int .i64 z1, .int .i64 z2, .int .i64 z3], .int .i64 k, .bool r]) (by simp [results, Tryz.results34, go_sem, *]) rfl (by
        obtain ⟨g1, g2, g3⟩ := HS.out.fin HO.out.2.2 (.slice A1 8 c1) (.int .i64 z1) (.int .i64 z2) (.int .i64 z3)
        have hr := HQ.out.2.2.2.2.2.1
        by_cases hm : m = 100
        · rw [decide_eq_true hm] at hr
          subst hr
          exact .inl ⟨.inr hm, _, _, _, _, _, _, _, _, _, _, rfl, g3⟩
        · rw [decide_eq_false hm] at hr
          subst hr
          have he := HQ.out.2.2.2.2.1
          simp only [eraseIs, if_neg hm, Prod.mk.injEq] at he
          obtain ⟨rfl, rfl⟩ := he
          refine .inr ⟨x, HQ.out.2.2.2.1, hm, ?_⟩
          rw [HZ.out.1, HZ.out.2.1, HZ.out.2.2]
          exact ⟨_, _, cs6, _, _, ts, rfl, ⟨HO.out.1, by rw [HO.out.2.1, HQ.out.2.2.2.2.2.2], HT.out.1, HT.out.2⟩, g1, g2, g3⟩)
end
end Go.Proofs.YtolpnloghogjjaaGreat
namespace Go.Proofs.YtolpnloghogjjaaGreat
open Go.ChangeShapes Go.WideShapes Go.ChangeAt Go.RowKit
set_option linter.unusedVariables false
section
variable {A D : Option Addr} {n c nd cd : Nat} {ls : List Li} {bs : List Bk} {a b h x s : Int} {w : World}
set_option maxHeartbeats 1000000 in
theorem clean_heads (hv : (headsB nd a b h && devB bs) = false) (hld : bs.length = nd) (hrd : DRow w w.heap.size D bs) (hnd : nd ≤ 1048576) (hpd : ∀ b, b ∈ bs → b.ps.length ≤ 1048576) (hl : ls.length = n) (hr : TRow w w.heap.size A ls) (hn : n ≤ 1048576) (hp : ∀ l, l ∈ ls → l.xs.length ≤ 1048576) :
    Calls Tryz.prog 6 #[.slice D nd cd, .agg #[.slice A n c], .agg #[.int .i64 a, .int .i64 b, .int .i64 h], .int .i64 x, .int .i64 s] w (CleanMade [] 0 [] 0 0 0 0 0 false w) := by
  have HF := Lib.hid (CIn.start hr hrd n c a b h)
  have HD := Lib.hid (And.intro hv (And.intro hld (And.intro hpd (And.intro hl hp))))
  clear hrd hr hld hpd hl hp
  go_enter Tryz.func6, Tryz.ntmps6
  obtain ⟨z0, z1, z2⟩ := HF.out.cells
  go_wp2_with fail
  refine (headsValid_val HD.out.1 HD.out.2.1 HF.out.2.2.1.here hnd HD.out.2.2.1).mono ?_
  rintro e w1 ⟨rfl, hk⟩
  replace HF := Lib.hid (HF.out.keep hk)
  clear hk z0 z1 z2
  obtain ⟨⟨t0, t1⟩, ⟨r0, r1, r2⟩, q0, q1, q2⟩ := HF.out.res
  have na : w.heap.size + 1 + 1 ≠ w.heap.size + 1 + 1 + 1 := by omega
  have nb : w.heap.size + 1 + 1 + 1 ≠ w.heap.size + 1 + 1 := by omega
  have nc : w.heap.size ≠ w.heap.size + 1 := by omega
  have nd' : w.heap.size + 1 ≠ w.heap.size := by omega
  go_wp2
  exact bodyPost_ret (v := .tuple #[.slice none 0 0, .agg #[.slice none 0 0], .agg #[.int .i64 0, .int .i64 0, .int .i64 0], .int .i64 0, .bool false]) (by simp [results, Tryz.results6, go_sem, *]) rfl ⟨_, _, [], _, _, [], rfl, ⟨rfl, rfl, rfl, rfl⟩, down_nil _ _, town_nil _ _, HF.out.fin _ _ _ _⟩
set_option maxHeartbeats 1000000 in
theorem clean_block (hv : (headsB nd a b h && devB bs) = true) (hb : hasB nd x = false) (hld : bs.length = nd) (hrd : DRow w w.heap.size D bs) (hnd : nd ≤ 1048576) (hpd : ∀ b, b ∈ bs → b.ps.length ≤ 1048576) (hl : ls.length = n) (hr : TRow w w.heap.size A ls) (hn : n ≤ 1048576) (hp : ∀ l, l ∈ ls → l.xs.length ≤ 1048576) :
    Calls Tryz.prog 6 #[.slice D nd cd, .agg #[.slice A n c], .agg #[.int .i64 a, .int .i64 b, .int .i64 h], .int .i64 x, .int .i64 s] w (CleanMade [] 0 [] 0 0 0 0 0 false w) := by
  have HB := Lib.hid hb
  have HF := Lib.hid (CIn.start hr hrd n c a b h)
  have HD := Lib.hid (And.intro hv (And.intro hld (And.intro hpd (And.intro hl hp))))
  clear hrd hr hld hpd hl hp
  go_enter Tryz.func6, Tryz.ntmps6
  obtain ⟨z0, z1, z2⟩ := HF.out.cells
  go_wp2_with fail
  refine (headsValid_val HD.out.1 HD.out.2.1 HF.out.2.2.1.here hnd HD.out.2.2.1).mono ?_
  rintro e w1 ⟨rfl, hk⟩
  replace HF := Lib.hid (HF.out.keep hk)
  clear hk z0 z1 z2
  obtain ⟨⟨t0, t1⟩, ⟨r0, r1, r2⟩, q0, q1, q2⟩ := HF.out.res
  have na : w.heap.size + 1 + 1 ≠ w.heap.size + 1 + 1 + 1 := by omega
  have nb : w.heap.size + 1 + 1 + 1 ≠ w.heap.size + 1 + 1 := by omega
  have nc : w.heap.size ≠ w.heap.size + 1 := by omega
  have nd' : w.heap.size + 1 ≠ w.heap.size := by omega
  go_wp2_with ((go_at_call 31; refine (hasBlock_val HB.out _ _ _).mono ?_; rintro e w' ⟨rfl, rfl⟩))
  exact bodyPost_ret (v := .tuple #[.slice none 0 0, .agg #[.slice none 0 0], .agg #[.int .i64 0, .int .i64 0, .int .i64 0], .int .i64 0, .bool false]) (by simp [results, Tryz.results6, go_sem, *]) rfl ⟨_, _, [], _, _, [], rfl, ⟨rfl, rfl, rfl, rfl⟩, down_nil _ _, town_nil _ _, HF.out.fin _ _ _ _⟩
set_option maxHeartbeats 1000000 in
theorem clean_stamp (hv : (headsB nd a b h && devB bs) = true) (hb : hasB nd x = true) (ht : inB s 1 1000000 = false) (hld : bs.length = nd) (hrd : DRow w w.heap.size D bs) (hnd : nd ≤ 1048576) (hpd : ∀ b, b ∈ bs → b.ps.length ≤ 1048576) (hl : ls.length = n) (hr : TRow w w.heap.size A ls) (hn : n ≤ 1048576) (hp : ∀ l, l ∈ ls → l.xs.length ≤ 1048576) :
    Calls Tryz.prog 6 #[.slice D nd cd, .agg #[.slice A n c], .agg #[.int .i64 a, .int .i64 b, .int .i64 h], .int .i64 x, .int .i64 s] w (CleanMade [] 0 [] 0 0 0 0 0 false w) := by
  have HB := Lib.hid hb
  have HT := Lib.hid ht
  have HF := Lib.hid (CIn.start hr hrd n c a b h)
  have HD := Lib.hid (And.intro hv (And.intro hld (And.intro hpd (And.intro hl hp))))
  clear hrd hr hld hpd hl hp
  go_enter Tryz.func6, Tryz.ntmps6
  obtain ⟨z0, z1, z2⟩ := HF.out.cells
  go_wp2_with fail
  refine (headsValid_val HD.out.1 HD.out.2.1 HF.out.2.2.1.here hnd HD.out.2.2.1).mono ?_
  rintro e w1 ⟨rfl, hk⟩
  replace HF := Lib.hid (HF.out.keep hk)
  clear hk z0 z1 z2
  obtain ⟨⟨t0, t1⟩, ⟨r0, r1, r2⟩, q0, q1, q2⟩ := HF.out.res
  have na : w.heap.size + 1 + 1 ≠ w.heap.size + 1 + 1 + 1 := by omega
  have nb : w.heap.size + 1 + 1 + 1 ≠ w.heap.size + 1 + 1 := by omega
  have nc : w.heap.size ≠ w.heap.size + 1 := by omega
  have nd' : w.heap.size + 1 ≠ w.heap.size := by omega
  go_wp2_with (first | (go_at_call 31; refine (hasBlock_val HB.out _ _ _).mono ?_; rintro e w' ⟨rfl, rfl⟩) | (go_at_call 32; refine (isStamp_any _ _).mono ?_; rintro e w' ⟨rfl, rfl⟩; rw [HT.out]))
  exact bodyPost_ret (v := .tuple #[.slice none 0 0, .agg #[.slice none 0 0], .agg #[.int .i64 0, .int .i64 0, .int .i64 0], .int .i64 0, .bool false]) (by simp [results, Tryz.results6, go_sem, *]) rfl ⟨_, _, [], _, _, [], rfl, ⟨rfl, rfl, rfl, rfl⟩, down_nil _ _, town_nil _ _, HF.out.fin _ _ _ _⟩
set_option maxHeartbeats 1000000 in
theorem clean_read (hv : (headsB nd a b h && devB bs) = true) (hb : hasB nd x = true) (ht : inB s 1 1000000 = true) (hrb : readB bs (ll ls) = false) (hld : bs.length = nd) (hrd : DRow w w.heap.size D bs) (hnd : nd ≤ 1048576) (hpd : ∀ b, b ∈ bs → b.ps.length ≤ 1048576) (hl : ls.length = n) (hr : TRow w w.heap.size A ls) (hn : n ≤ 1048576) (hp : ∀ l, l ∈ ls → l.xs.length ≤ 1048576) :
    Calls Tryz.prog 6 #[.slice D nd cd, .agg #[.slice A n c], .agg #[.int .i64 a, .int .i64 b, .int .i64 h], .int .i64 x, .int .i64 s] w (CleanMade [] 0 [] 0 0 0 0 0 false w) := by
  have HB := Lib.hid hb
  have HT := Lib.hid ht
  have HR := Lib.hid hrb
  have HF := Lib.hid (CIn.start hr hrd n c a b h)
  have HD := Lib.hid (And.intro hv (And.intro hld (And.intro hpd (And.intro hl hp))))
  clear hrd hr hld hpd hl hp
  go_enter Tryz.func6, Tryz.ntmps6
  obtain ⟨z0, z1, z2⟩ := HF.out.cells
  go_wp2_with fail
  refine (headsValid_val HD.out.1 HD.out.2.1 HF.out.2.2.1.here hnd HD.out.2.2.1).mono ?_
  rintro e w1 ⟨rfl, hk⟩
  replace HF := Lib.hid (HF.out.keep hk)
  clear hk z0 z1 z2
  have t0 := HF.out.tab
  go_wp2_with (first | (go_at_call 31; refine (hasBlock_val HB.out _ _ _).mono ?_; rintro e w' ⟨rfl, rfl⟩) | (go_at_call 32; refine (isStamp_any _ _).mono ?_; rintro e w' ⟨rfl, rfl⟩; rw [HT.out]) | fail)
  refine (canRead_val HR.out HD.out.2.1 HF.out.2.2.1.here hnd HD.out.2.2.1 HD.out.2.2.2.1 HF.out.2.1.here hn HD.out.2.2.2.2).mono ?_
  rintro e w2 ⟨rfl, hk⟩
  replace HF := Lib.hid (HF.out.keep hk)
  clear hk t0
  obtain ⟨⟨t0, t1⟩, ⟨r0, r1, r2⟩, q0, q1, q2⟩ := HF.out.res
  have na : w.heap.size + 1 + 1 ≠ w.heap.size + 1 + 1 + 1 := by omega
  have nb : w.heap.size + 1 + 1 + 1 ≠ w.heap.size + 1 + 1 := by omega
  have nc : w.heap.size ≠ w.heap.size + 1 := by omega
  have nd' : w.heap.size + 1 ≠ w.heap.size := by omega
  go_wp2
  exact bodyPost_ret (v := .tuple #[.slice none 0 0, .agg #[.slice none 0 0], .agg #[.int .i64 0, .int .i64 0, .int .i64 0], .int .i64 0, .bool false]) (by simp [results, Tryz.results6, go_sem, *]) rfl ⟨_, _, [], _, _, [], rfl, ⟨rfl, rfl, rfl, rfl⟩, down_nil _ _, town_nil _ _, HF.out.fin _ _ _ _⟩
set_option maxHeartbeats 4000000 in
theorem clean_fail (hv : (headsB nd a b h && devB bs) = true) (hb : hasB nd x = true) (ht : inB s 1 1000000 = true) (hrb : readB bs (ll ls) = true)
    (hME : ∀ W : World, DRow W W.heap.size D bs → TRow W W.heap.size A ls → Calls Tryz.prog 34 #[.slice D nd cd, .agg #[.slice A n c], .agg #[.int .i64 a, .int .i64 b, .int .i64 h], .int .i64 x, .int .i64 s] W (FailMade W)) (hld : bs.length = nd) (hrd : DRow w w.heap.size D bs) (hnd : nd ≤ 1048576) (hpd : ∀ b, b ∈ bs → b.ps.length ≤ 1048576) (hl : ls.length = n) (hr : TRow w w.heap.size A ls) (hn : n ≤ 1048576) (hp : ∀ l, l ∈ ls → l.xs.length ≤ 1048576) :
    Calls Tryz.prog 6 #[.slice D nd cd, .agg #[.slice A n c], .agg #[.int .i64 a, .int .i64 b, .int .i64 h], .int .i64 x, .int .i64 s] w (CleanMade (bs.map Bk.is) nd (ll ls) 8 a b h 0 false w) := by
  have HB := Lib.hid hb
  have HT := Lib.hid ht
  have HR := Lib.hid hrb
  have HE := Lib.hid hME
  obtain ⟨hd, htab⟩ := readB_tab hrb
  obtain ⟨⟨_, h12⟩, hall⟩ := dev_parts hd
  have hn12 : nd ≤ 12 := by omega
  have H4 := Lib.hid (And.intro (show ∀ b, b ∈ bs → b.ps.length = 4 from fun b hm => (block_parts (hall b hm)).2.1) htab)
  clear hME hd htab h12 hall
  have HF := Lib.hid (CIn.start hr hrd n c a b h)
  have HD := Lib.hid (And.intro hv (And.intro hld (And.intro hpd (And.intro hl hp))))
  clear hrd hr hld hpd hl hp
  go_enter Tryz.func6, Tryz.ntmps6
  obtain ⟨z0, z1, z2⟩ := HF.out.cells
  go_wp2_with fail
  refine (headsValid_val HD.out.1 HD.out.2.1 HF.out.2.2.1.here hnd HD.out.2.2.1).mono ?_
  rintro e w1 ⟨rfl, hk⟩
  replace HF := Lib.hid (HF.out.keep hk)
  clear hk z0 z1 z2
  have t0 := HF.out.tab
  go_wp2_with (first | (go_at_call 31; refine (hasBlock_val HB.out _ _ _).mono ?_; rintro e w' ⟨rfl, rfl⟩) | (go_at_call 32; refine (isStamp_any _ _).mono ?_; rintro e w' ⟨rfl, rfl⟩; rw [HT.out]) | fail)
  refine (canRead_val HR.out HD.out.2.1 HF.out.2.2.1.here hnd HD.out.2.2.1 HD.out.2.2.2.1 HF.out.2.1.here hn HD.out.2.2.2.2).mono ?_
  rintro e w2 ⟨rfl, hk⟩
  replace HF := Lib.hid (HF.out.keep hk)
  clear hk t0
  have t0 := HF.out.tab
  obtain ⟨z0, z1, z2⟩ := HF.out.cells
  go_wp2_with fail
  refine (HE.out _ HF.out.2.2.1.here HF.out.2.1.here).mono ?_
  rintro e w3 ⟨D3, n3, d3, A3, m3, c3, a3, b3, h3, mv3, rfl, hk⟩
  replace HF := Lib.hid (((HF.out.keep hk).keep (grown_alloc (grown_refl w3 none) (.cells #[.slice A3 m3 c3] 26))).keep (grown_alloc (grown_refl _ none) (.cells #[.int .i64 a3, .int .i64 b3, .int .i64 h3] 28)))
  clear hk z0 z1 z2 t0
  have x0 := HF.out.tab
  obtain ⟨y0, y1, y2⟩ := HF.out.cells
  go_wp2_with fail
  refine wp_region_held_drew (S := (fun w' => w'.cell? ⟨w.heap.size, 0, none⟩ = some (.slice A n c) ∧ w'.cell? ⟨w.heap.size + 1, 0, none⟩ = some (.int .i64 a) ∧ w'.cell? ⟨w.heap.size + 1, 1, none⟩ = some (.int .i64 b) ∧ w'.cell? ⟨w.heap.size + 1, 2, none⟩ = some (.int .i64 h))) (by kernel_rfl) ?_ (fun hHeld => ?_)
  · exact ⟨x0, y0, y1, y2⟩
  replace HF := Lib.hid (HF.out.keep (grown_drew (grown_refl _ none)))
  clear x0 y0 y1 y2
  generalize World.drew _ = wq at HF hHeld ⊢
  have x0 := HF.out.tab
  obtain ⟨y0, y1, y2⟩ := HF.out.cells
  have n1' : w.heap.size ≠ w.heap.size + 1 + 1 := by omega
  have n2' : w.heap.size ≠ w.heap.size + 1 + 1 + 1 := by omega
  have n3' : w.heap.size + 1 ≠ w.heap.size + 1 + 1 := by omega
  have n4' : w.heap.size + 1 ≠ w.heap.size + 1 + 1 + 1 := by omega
  have na : w.heap.size + 1 + 1 ≠ w.heap.size + 1 + 1 + 1 := by omega
  have nb : w.heap.size + 1 + 1 + 1 ≠ w.heap.size + 1 + 1 := by omega
  have nc : w.heap.size ≠ w.heap.size + 1 := by omega
  have nd' : w.heap.size + 1 ≠ w.heap.size := by omega
  refine heldY 0 57 ?_
  refine heldY 2 59 ?_
  refine heldY 4 61 ?_
  refine wpAnyH_ready (rs := [1]) (by kernel_rfl) (by simp) ?_
  refine AllReadyH.cons rfl (fun K hK => ?_) AllReadyH.nil
  go_simp
  go_at_call 35; have hgs := HF.out.2.2.2.size; refine (copyDev_any _ _ _ _ _ HD.out.2.1 HF.out.2.2.1.here (by omega) H4.out.1).mono ?_; rintro e w5 ⟨A5, c5, cs, rfl, hcl, hcs, ho5, hk⟩; have HO := Lib.hid (And.intro hcl (And.intro hcs (ho5.base_le hgs))); replace HF := Lib.hid (HF.out.keep hk); clear hcl hcs ho5 hk hgs x0 y0 y1 y2; have x0 := HF.out.tab; obtain ⟨y0, y1, y2⟩ := HF.out.cells
  refine hK.out _ _ ?_ (fun hHeld => ?_)
  · exact ⟨x0, y0, y1, y2⟩
  clear hK K
  try simp only [Act.put, List.setIfInBounds_toArray, List.set_cons_zero, List.set_cons_succ]
  refine wpAnyH_ready (rs := [3]) (by kernel_rfl) (by simp) ?_
  refine AllReadyH.cons rfl (fun K hK => ?_) AllReadyH.nil
  go_simp
  go_at_call 36; have hgs := HF.out.2.2.2.size; refine (copyTab_at _ _ _ _ _ HD.out.2.2.2.1 HF.out.2.1.here H4.out.2).mono ?_; rintro e w6 ⟨A6, c6, ts, rfl, htl, hts, ho6, hk⟩; replace HO := Lib.hid (And.intro HO.out.1 (And.intro HO.out.2.1 (HO.out.2.2.keep hk))); have HQ := Lib.hid (And.intro htl (And.intro hts (ho6.base_le hgs))); replace HF := Lib.hid (HF.out.keep hk); clear htl hts ho6 hk hgs x0 y0 y1 y2; have x0 := HF.out.tab; obtain ⟨y0, y1, y2⟩ := HF.out.cells
  refine hK.out _ _ ?_ (fun hHeld => ?_)
  · exact ⟨x0, y0, y1, y2⟩
  clear hK K
  try simp only [Act.put, List.setIfInBounds_toArray, List.set_cons_zero, List.set_cons_succ]
  refine heldY 5 10 ?_
  obtain ⟨⟨t0, t1⟩, ⟨r0, r1, r2⟩, q0, q1, q2⟩ := HF.out.res
  refine wpAnyH_ready (rs := [6]) (by kernel_rfl) (by simp) ?_
  refine AllReadyH.cons rfl (fun K hK => ?_) AllReadyH.nil
  go_simp
  refine hK.out _ _ ?_ (fun hHeld => ?_)
  · exact ⟨cell_far hHeld.1 _ n1', cell_far hHeld.2.1 _ n3', cell_far hHeld.2.2.1 _ n3', cell_far hHeld.2.2.2 _ n3'⟩
  clear hK K
  try simp only [Act.put, List.setIfInBounds_toArray, List.set_cons_zero, List.set_cons_succ]
  refine wpAnyH_ready (rs := [7]) (by kernel_rfl) (by simp) ?_
  refine AllReadyH.cons rfl (fun K hK => ?_) AllReadyH.nil
  go_simp
  refine hK.out _ _ ?_ (fun hHeld => ?_)
  · exact ⟨cell_far3 hHeld.1 _ _ _ n2', cell_far3 hHeld.2.1 _ _ _ n4', cell_far3 hHeld.2.2.1 _ _ _ n4', cell_far3 hHeld.2.2.2 _ _ _ n4'⟩
  clear hK K
  try simp only [Act.put, List.setIfInBounds_toArray, List.set_cons_zero, List.set_cons_succ]
  refine heldY 8 13 ?_
  refine heldY 9 14 ?_
  refine wpAnyH_done (by kernel_rfl) ?_ _
  go_wp2
  exact bodyPost_ret (v := .tuple #[.slice A5 nd c5, .agg #[.slice A6 8 c6], .agg #[.int .i64 a, .int .i64 b, .int .i64 h], .int .i64 0, .bool false]) (by simp [results, Tryz.results6, go_sem, *]) rfl
    ⟨_, _, cs, _, _, ts, rfl, ⟨HO.out.1, HO.out.2.1, HQ.out.1, HQ.out.2.1⟩, HO.out.2.2.fin HF.out.1.2.2.1 HF.out.1.2.2.2 (by omega) _ _ _ _, HQ.out.2.2.fin HF.out.1.2.2.1 HF.out.1.2.2.2 (by omega) _ _ _ _, HF.out.fin _ _ _ _⟩
set_option maxHeartbeats 4000000 in
theorem clean_done {n1 : Nat} {l1 : List (Int × List Pg)} {T1 : List (List Int)} {a1 b1 h1 mv : Int} (hv : (headsB nd a b h && devB bs) = true) (hb : hasB nd x = true) (ht : inB s 1 1000000 = true) (hrb : readB bs (ll ls) = true)
    (hME : ∀ W : World, DRow W W.heap.size D bs → TRow W W.heap.size A ls → Calls Tryz.prog 34 #[.slice D nd cd, .agg #[.slice A n c], .agg #[.int .i64 a, .int .i64 b, .int .i64 h], .int .i64 x, .int .i64 s] W (CleanMade l1 n1 T1 8 a1 b1 h1 mv true W)) (hld : bs.length = nd) (hrd : DRow w w.heap.size D bs) (hnd : nd ≤ 1048576) (hpd : ∀ b, b ∈ bs → b.ps.length ≤ 1048576) (hl : ls.length = n) (hr : TRow w w.heap.size A ls) (hn : n ≤ 1048576) (hp : ∀ l, l ∈ ls → l.xs.length ≤ 1048576) :
    Calls Tryz.prog 6 #[.slice D nd cd, .agg #[.slice A n c], .agg #[.int .i64 a, .int .i64 b, .int .i64 h], .int .i64 x, .int .i64 s] w (CleanMade l1 n1 T1 8 a1 b1 h1 mv true w) := by
  have HB := Lib.hid hb
  have HT := Lib.hid ht
  have HR := Lib.hid hrb
  have HE := Lib.hid hME
  clear hME
  have HF := Lib.hid (CIn.start hr hrd n c a b h)
  have HD := Lib.hid (And.intro hv (And.intro hld (And.intro hpd (And.intro hl hp))))
  clear hrd hr hld hpd hl hp
  go_enter Tryz.func6, Tryz.ntmps6
  obtain ⟨z0, z1, z2⟩ := HF.out.cells
  go_wp2_with fail
  refine (headsValid_val HD.out.1 HD.out.2.1 HF.out.2.2.1.here hnd HD.out.2.2.1).mono ?_
  rintro e w1 ⟨rfl, hk⟩
  replace HF := Lib.hid (HF.out.keep hk)
  clear hk z0 z1 z2
  have t0 := HF.out.tab
  go_wp2_with (first | (go_at_call 31; refine (hasBlock_val HB.out _ _ _).mono ?_; rintro e w' ⟨rfl, rfl⟩) | (go_at_call 32; refine (isStamp_any _ _).mono ?_; rintro e w' ⟨rfl, rfl⟩; rw [HT.out]) | fail)
  refine (canRead_val HR.out HD.out.2.1 HF.out.2.2.1.here hnd HD.out.2.2.1 HD.out.2.2.2.1 HF.out.2.1.here hn HD.out.2.2.2.2).mono ?_
  rintro e w2 ⟨rfl, hk⟩
  replace HF := Lib.hid (HF.out.keep hk)
  clear hk t0
  have t0 := HF.out.tab
  obtain ⟨z0, z1, z2⟩ := HF.out.cells
  go_wp2_with fail
  have hgs := HF.out.2.2.2.size
  refine (HE.out _ HF.out.2.2.1.here HF.out.2.1.here).mono ?_
  rintro e w3 ⟨D3, d3, cs, A3, c3, ts, rfl, hx, hd3, ht3, hk⟩
  have K1 := grown_alloc (grown_refl w3 none) (.cells #[.slice A3 8 c3] 26)
  have K2 := grown_alloc (grown_refl (w3.alloc (.cells #[.slice A3 8 c3] 26)) none) (.cells #[.int .i64 a1, .int .i64 b1, .int .i64 h1] 28)
  have hX : w.heap.size + 1 + 1 + 1 < w3.heap.size := (HF.out.keep hk).1.2.2.2.lt
  have hN := Blk.new (w3.alloc (.cells #[.slice A3 8 c3] 26)) 28 #[.int .i64 a1, .int .i64 b1, .int .i64 h1]
  rw [size_alloc1] at hN
  have HS := Lib.hid (show CRet w A n c ls D bs a b h (w3.heap.size + 1) w3.heap.size A3 8 c3 ts a1 b1 h1 D3 n1 d3 cs _ from
    ⟨((HF.out.keep hk).keep K1).keep K2, ⟨(Blk.new w3 _ _).keep K2, hN⟩, ((hd3.base_le hgs).keep K1).keep K2, ((ht3.base_le hgs).keep K1).keep K2⟩)
  have HX := Lib.hid (And.intro hx hX)
  clear hx hd3 ht3 hk K1 K2 hX hN HF hgs z0 z1 z2 t0
  have x0 := HS.out.2.1.1.cell 0
  obtain ⟨y0, y1, y2⟩ := cells3 HS.out.2.1.2
  go_wp2_with fail
  refine wp_region_held_drew (S := (fun w' => w'.cell? ⟨w3.heap.size, 0, none⟩ = some (.slice A3 8 c3) ∧ w'.cell? ⟨(w3.heap.size + 1), 0, none⟩ = some (.int .i64 a1) ∧ w'.cell? ⟨(w3.heap.size + 1), 1, none⟩ = some (.int .i64 b1) ∧ w'.cell? ⟨(w3.heap.size + 1), 2, none⟩ = some (.int .i64 h1))) (by kernel_rfl) ?_ (fun hHeld => ?_)
  · exact ⟨x0, y0, y1, y2⟩
  replace HS := Lib.hid (HS.out.keep (grown_drew (grown_refl _ none)))
  clear x0 y0 y1 y2
  generalize World.drew _ = wz at HS hHeld ⊢
  obtain ⟨⟨t0, t1⟩, ⟨r0, r1, r2⟩, q0, q1, q2⟩ := HS.out.1.res
  have n1' : w3.heap.size ≠ w.heap.size + 1 + 1 := by have := HX.out.2; omega
  have n2' : w3.heap.size ≠ w.heap.size + 1 + 1 + 1 := by have := HX.out.2; omega
  have n3' : w3.heap.size + 1 ≠ w.heap.size + 1 + 1 := by have := HX.out.2; omega
  have n4' : w3.heap.size + 1 ≠ w.heap.size + 1 + 1 + 1 := by have := HX.out.2; omega
  have na : w.heap.size + 1 + 1 ≠ w.heap.size + 1 + 1 + 1 := by omega
  have nb : w.heap.size + 1 + 1 + 1 ≠ w.heap.size + 1 + 1 := by omega
  have nc : w.heap.size ≠ w.heap.size + 1 := by omega
  have nd' : w.heap.size + 1 ≠ w.heap.size := by omega
  refine heldY 0 62 ?_
  refine heldY 1 63 ?_
  refine heldY 2 64 ?_
  refine heldY 3 65 ?_
  refine heldY 4 10 ?_
  refine wpAnyH_ready (rs := [5]) (by kernel_rfl) (by simp) ?_
  refine AllReadyH.cons rfl (fun K hK => ?_) AllReadyH.nil
  go_simp
  refine hK.out _ _ ?_ (fun hHeld => ?_)
  · exact ⟨cell_far hHeld.1 _ n1', cell_far hHeld.2.1 _ n3', cell_far hHeld.2.2.1 _ n3', cell_far hHeld.2.2.2 _ n3'⟩
  clear hK K
  try simp only [Act.put, List.setIfInBounds_toArray, List.set_cons_zero, List.set_cons_succ]
  refine wpAnyH_ready (rs := [6]) (by kernel_rfl) (by simp) ?_
  refine AllReadyH.cons rfl (fun K hK => ?_) AllReadyH.nil
  go_simp
  refine hK.out _ _ ?_ (fun hHeld => ?_)
  · exact ⟨cell_far3 hHeld.1 _ _ _ n2', cell_far3 hHeld.2.1 _ _ _ n4', cell_far3 hHeld.2.2.1 _ _ _ n4', cell_far3 hHeld.2.2.2 _ _ _ n4'⟩
  clear hK K
  try simp only [Act.put, List.setIfInBounds_toArray, List.set_cons_zero, List.set_cons_succ]
  refine heldY 7 13 ?_
  refine heldY 8 14 ?_
  refine wpAnyH_done (by kernel_rfl) ?_ _
  go_wp2
  exact bodyPost_ret (v := .tuple #[.slice D3 n1 d3, .agg #[.slice A3 8 c3], .agg #[.int .i64 a1, .int .i64 b1, .int .i64 h1], .int .i64 mv, .bool true]) (by simp [results, Tryz.results6, go_sem, *]) rfl
    ⟨_, _, cs, _, _, ts, rfl, HX.out.1, (HS.out.fin _ _ _ _).1, (HS.out.fin _ _ _ _).2.1, (HS.out.fin _ _ _ _).2.2⟩
theorem clean_val {n1 m1 : Nat} {l1 : List (Int × List Pg)} {T1 : List (List Int)} {a1 b1 h1 mv : Int} {ok : Bool} (H : CleanIs nd bs (ll ls) a b h x s n1 l1 m1 T1 a1 b1 h1 mv ok) (hld : bs.length = nd) (hrd : DRow w w.heap.size D bs) (hnd : nd ≤ 1048576) (hpd : ∀ b, b ∈ bs → b.ps.length ≤ 1048576) (hl : ls.length = n) (hr : TRow w w.heap.size A ls) (hn : n ≤ 1048576) (hp : ∀ l, l ∈ ls → l.xs.length ≤ 1048576) :
    Calls Tryz.prog 6 #[.slice D nd cd, .agg #[.slice A n c], .agg #[.int .i64 a, .int .i64 b, .int .i64 h], .int .i64 x, .int .i64 s] w (CleanMade l1 n1 T1 m1 a1 b1 h1 mv ok w) := by
  rcases H with ⟨hc, rfl, rfl, rfl, rfl, rfl, rfl, rfl, rfl, rfl⟩ | ⟨hc, nn, m, ps, rfl, hnn, hq, rfl, rfl, H⟩
  · cases hv : (headsB nd a b h && devB bs)
    · exact clean_heads hv hld hrd hnd hpd hl hr hn hp
    · cases hb : hasB nd x
      · exact clean_block hv hb hld hrd hnd hpd hl hr hn hp
      · cases ht : inB s 1 1000000
        · exact clean_stamp hv hb ht hld hrd hnd hpd hl hr hn hp
        · have hrb : readB bs (ll ls) = false := by simpa only [cleanB, hv, hb, ht, Bool.true_and] using hc
          exact clean_read hv hb ht hrb hld hrd hnd hpd hl hr hn hp
  · obtain ⟨hv, hb, ht, hrb⟩ := clean_parts hc
    rcases H with ⟨hh, rfl, rfl, rfl, rfl, rfl, rfl, rfl⟩ | ⟨hh, o, hm, H⟩
    · exact clean_fail hv hb ht hrb (fun W h1 h2 => moveErase_head hh h1 h2) hld hrd hnd hpd hl hr hn hp
    · have hM : ∀ W : World, DRow W W.heap.size D bs → TRow W W.heap.size A ls → _ := fun W h1 h2 => moveErase_any (cd := cd) (c := c) hm hh hv ht hrb hq hld h1 hl h2
      rcases H with ⟨e, rfl, rfl, rfl, rfl, rfl, rfl, rfl⟩ | ⟨y, e, em, rfl, rfl, rfl, rfl, rfl, rfl, rfl⟩ | ⟨y, e, em, rfl, rfl, rfl, rfl, rfl, rfl, rfl⟩
      · refine clean_fail hv hb ht hrb (fun W h1 h2 => (hM W h1 h2).mono fun e' w' hpost => ?_) hld hrd hnd hpd hl hr hn hp
        rcases hpost with ⟨_, hf⟩ | ⟨y, e2, _⟩
        · exact hf
        · rw [e] at e2; cases e2
      · refine clean_fail hv hb ht hrb (fun W h1 h2 => (hM W h1 h2).mono fun e' w' hpost => ?_) hld hrd hnd hpd hl hr hn hp
        rcases hpost with ⟨_, hf⟩ | ⟨y, e2, h3, _⟩
        · exact hf
        · exact absurd em h3
      · refine clean_done hv hb ht hrb (fun W h1 h2 => (hM W h1 h2).mono fun e' w' hpost => ?_) hld hrd hnd hpd hl hr hn hp
        rcases hpost with ⟨h3 | h3, hf⟩ | ⟨y2, e2, h3, hf⟩
        · rw [e] at h3; cases h3
        · exact absurd h3 em
        · rw [e] at e2
          injection e2 with e2
          subst e2
          exact hf
end
end Go.Proofs.YtolpnloghogjjaaGreat
