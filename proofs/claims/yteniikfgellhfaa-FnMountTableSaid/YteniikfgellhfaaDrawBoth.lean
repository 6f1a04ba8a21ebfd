/- What the model draws for chapter 8, further: a device, a table and heads that belong together: the state of l20Both.
   What the model draws for chapter 8, further: l20Both.
   What the model draws for chapter 8, further: DrawFileValues.
   Plain facts that the laws FnTableOf and FnFileValues ask: the table of a device names the newest pages; the values are those of the pages. -/
import Derived.Test.YteniikfgellhfaaDrawHeads
import Derived.Test.YteniikfgellhfaaFileFacts
import Derived.Test.YteniikfgellhfaaTables7
import Derived.Test.YteniikfgellhfaaHand
import Derived.Test.YteniikfgellhfaaDrawDev4
namespace Go.Proofs.Yteniikfgellhfaa
open Go.ChangeShapes Go.WideShapes Go.ChangeAt Go.RowKit
set_option linter.unusedVariables false

/-- A device all of whose memory lies in blocks lo .. hi - 1. -/
def DZ (lo hi : Nat) (D : Option Addr) (bs : List Bk) (wr : World) : Prop := DRow wr hi D bs ∧ (∀ ad, D = some ad → lo ≤ ad.block) ∧ ∀ (q : Bk) (ad : Addr), q ∈ bs → q.A = some ad → lo ≤ ad.block
theorem DZ.grown {lo hi : Nat} {D : Option Addr} {bs : List Bk} {wr w' : World} {row : Option Nat} (h : DZ lo hi D bs wr) (hg : wr.grownBy w' row) (hr : ∀ g, row = some g → g < lo ∨ hi ≤ g) : DZ lo hi D bs w' := by
  refine ⟨?_, h.2⟩
  cases row with
  | none => exact h.1.kept hg
  | some g =>
    rcases hr g rfl with h1 | h1
    · refine h.1.grown2 hg (fun ad e e2 => ?_) (fun q ad hq e e2 => ?_)
      · have := h.2.1 ad e; injection e2 with e2; omega
      · have := h.2.2 q ad hq e; injection e2 with e2; omega
    · exact h.1.grown hg (fun k e => by injection e with e; omega)
theorem DZ.put {lo hi : Nat} {D : Option Addr} {bs : List Bk} {wr : World} (h : DZ lo hi D bs wr) {p : Addr} (hp : p.block < lo ∨ hi ≤ p.block) (u : Value) : DZ lo hi D bs (wr.setCell p u) :=
  h.grown (grown_set (grown_refl wr (some p.block)) (.inl rfl) u) (fun g e => by injection e with e; omega)
/-- No part of a table lies in block V, nor before block lo. -/
def TOff (lo V : Nat) (A : Option Addr) (ls : List Li) : Prop := (∀ ad, A = some ad → lo ≤ ad.block ∧ ad.block ≠ V) ∧ ∀ (l : Li) (ad : Addr), l ∈ ls → l.A = some ad → lo ≤ ad.block ∧ ad.block ≠ V
theorem TOff.far {lo V : Nat} {A : Option Addr} {ls : List Li} (h : TOff lo V A ls) : TFar lo A ls := ⟨fun ad e => (h.1 ad e).1, fun l ad hm e => (h.2 l ad hm e).1⟩
theorem TRow.offPut {w : World} {B lo V : Nat} {A : Option Addr} {ls : List Li} (h : TRow w B A ls) (f : TOff lo V A ls) (i : Nat) (u : Value) : TRow (w.setCell ⟨V, i, none⟩ u) B A ls :=
  ⟨VRow.away h.1 (by simp [World.setCell]) fun ad q e e2 hq => World.cell?_setCell_other w ⟨V, i, none⟩ q u (fun e3 => (f.1 ad e).2 (by rw [← e2, ← e3])),
   fun l hl => VRow.away (h.2 l hl) (by simp [World.setCell]) fun ad q e e2 hq => World.cell?_setCell_other w ⟨V, i, none⟩ q u (fun e3 => (f.2 l ad hl e).2 (by rw [← e2, ← e3]))⟩
/-- A table of the call's own is off every block that was there before. -/
theorem TOwn.off {w : World} {base n c lo V : Nat} {A : Option Addr} {ls : List Li} (h : TOwn w base (.slice A n c) ls) (hV : V < base) (hlo : lo ≤ base) : TOff lo V A ls :=
  ⟨fun ad e => by have := h.tfar.1 ad e; omega, fun l ad hm e => by have := h.tfar.2 l ad hm e; omega⟩
theorem TOwn.offB {w : World} {base n c lo V : Nat} {A : Option Addr} {ls : List Li} (h : TOwn w base (.slice A n c) ls) (hV : w.heap.size ≤ V) (hlo : lo ≤ base) : TOff lo V A ls :=
  ⟨fun ad e => by have h1 := VOwn.lt h.1 ad.block (by subst e; rfl); omega, fun l ad hm e => by have h1 := VOwn.lt (h.2.1 l hm) ad.block (by simp [Li.row, e, Value.ownBlock]); omega⟩
/-- l20Both under way: the heads in variable V, the table in variable T, the results' cells in blocks w.heap.size and the next one. -/
def BSt (w : World) (B g Q V T : Nat) (D : Option Addr) (nd cd : Nat) (bs : List Bk) (a b h : Int) (A : Option Addr) (n c : Nat) (ls : List Li) (wr : World) : Prop :=
  (DZ (w.heap.size + 2) V D bs wr ∧ bs.length = nd ∧ nd ≤ 13 ∧ ∀ q, q ∈ bs → q.ps.length ≤ 4) ∧ (TRow wr wr.heap.size A ls ∧ TOff (w.heap.size + 2) T A ls ∧ ls.length = n ∧ n ≤ 8 ∧ ∀ l, l ∈ ls → l.xs.length ≤ 6) ∧
  (Blk wr w.heap.size 40 #[.slice none 0 0] ∧ Blk wr (w.heap.size + 1) 77 #[.int .i64 0, .int .i64 0, .int .i64 0] ∧ Blk wr V 77 #[.int .i64 a, .int .i64 b, .int .i64 h] ∧ Blk wr T 40 #[.slice A n c]) ∧
  Rd wr B g Q ∧ w.grownBy wr (some g) ∧ g < w.heap.size ∧ w.heap.size + 2 ≤ V ∧ V < T
section
variable {w wr w' w1 : World} {B g Q Q' V T nd cd n c n' c' : Nat} {D A A' : Option Addr} {bs : List Bk} {a b h : Int} {ls cs : List Li}
theorem BSt.grown (H : BSt w B g Q V T D nd cd bs a b h A n c ls wr) (hg : wr.grownBy w' (some g)) (hr : Rd w' B g Q') : BSt w B g Q' V T D nd cd bs a b h A n c ls w' := by
  obtain ⟨⟨h1, h1b⟩, ⟨h2, h2b, h2c⟩, ⟨h3, h4, h5, h6⟩, h7, h8, h9, h10, h11⟩ := H
  have ne : ∀ {X : Nat}, g < X → some X ≠ some g := fun hx e => by injection e with e; omega
  exact ⟨⟨h1.grown hg (fun k e => by injection e with e; omega), h1b⟩, ⟨(h2.grownLo h2b.far hg (by omega)).here, h2b, h2c⟩, ⟨h3.grown hg (ne (by omega)), h4.grown hg (ne (by omega)), h5.grown hg (ne (by omega)), h6.grown hg (ne (by omega))⟩, hr, grown_trans h8 hg, h9, h10, h11⟩
theorem BSt.kept (H : BSt w B g Q V T D nd cd bs a b h A n c ls wr) (hk : wr.grownBy w' none) : BSt w B g Q V T D nd cd bs a b h A n c ls w' := H.grown (grown_some hk) (H.2.2.2.1.grown hk (by intro k e; cases e))
theorem BSt.drew (H : BSt w B g Q V T D nd cd bs a b h A n c ls wr) : BSt w B g Q V T D nd cd bs a b h A n c ls wr.drew := H.kept (grown_drew (grown_refl _ _))
theorem BSt.more (H : BSt w B g Q V T D nd cd bs a b h A n c ls wr) (hq : Q ≤ Q') : BSt w B g Q' V T D nd cd bs a b h A n c ls wr := H.grown (grown_refl _ _) (H.2.2.2.1.more hq)
theorem BSt.cellT (H : BSt w B g Q V T D nd cd bs a b h A n c ls wr) : wr.cell? ⟨T, 0, none⟩ = some (.slice A n c) := H.2.2.1.2.2.2.cell 0
theorem BSt.frozenT (H : BSt w B g Q V T D nd cd bs a b h A n c ls wr) : wr.frozen? ⟨T, 0, none⟩ = false := H.2.2.1.2.2.2.frozen 0
theorem BSt.small (H : BSt w B g Q V T D nd cd bs a b h A n c ls wr) : ls.length = n ∧ TRow wr wr.heap.size A ls ∧ n ≤ 1048576 ∧ ∀ l, l ∈ ls → l.xs.length ≤ 1048576 :=
  ⟨H.2.1.2.2.1, H.2.1.1, by have := H.2.1.2.2.2.1; omega, fun l hl => by have := H.2.1.2.2.2.2 l hl; omega⟩
/-- Another table, made since, is put into the variable. -/
theorem BSt.table (H : BSt w B g Q V T D nd cd bs a b h A n c ls wr) (hk : wr.grownBy w1 none) (ho : TOwn w1 wr.heap.size (.slice A' n' c') cs) (hl : cs.length = n') (h8 : n' ≤ 8) (h6 : ∀ l, l ∈ cs → l.xs.length ≤ 6) :
    BSt w B g Q V T D nd cd bs a b h A' n' c' cs (w1.setCell ⟨T, 0, none⟩ (.slice A' n' c')) := by
  have hT := H.2.2.1.2.2.2.lt
  obtain ⟨⟨k1, k1b⟩, _, ⟨k3, k4, k5, k6⟩, k7, k8, k9, k10, k11⟩ := H.kept hk
  have hs : (w1.setCell ⟨T, 0, none⟩ (.slice A' n' c')).heap.size = w1.heap.size := by simp [World.setCell]
  have hw := H.2.2.2.2.1.size
  have hB := k7.le
  refine ⟨⟨k1.put (.inr (by dsimp only; omega)) _, k1b⟩, ⟨?_, ho.off hT (by omega), hl, h8, h6⟩, ⟨k3.far (by dsimp only; omega) _, k4.far (by dsimp only; omega) _, k5.far (by dsimp only; omega) _, ?_⟩, k7.far (by dsimp only; omega) (by dsimp only; omega) _, grown_set k8 (.inr (by dsimp only; omega)) _, k9, k10, k11⟩
  · rw [hs]
    exact ho.row.offPut (ho.off hT (Nat.le_refl _)) 0 _
  · have := k6.put 0 (.slice A' n' c')
    simpa using this
/-- A device, a table and heads are drawn. -/
def DrewBoth (w : World) (B g P : Nat) (e : Ending) (w' : World) : Prop :=
  ∃ (D : Option Addr) (nd cd : Nat) (bs : List Bk) (A : Option Addr) (n c : Nat) (ls : List Li) (a b h : Int), e = .returned (.tuple #[.slice D nd cd, .agg #[.slice A n c], .agg #[.int .i64 a, .int .i64 b, .int .i64 h]]) ∧
    (bs.length = nd ∧ nd ≤ 13 ∧ ∀ q, q ∈ bs → q.ps.length ≤ 4) ∧ DZ w.heap.size w'.heap.size D bs w' ∧ (ls.length = n ∧ n ≤ 8 ∧ ∀ l, l ∈ ls → l.xs.length ≤ 6) ∧ TRow w' w'.heap.size A ls ∧ TFar w.heap.size A ls ∧ Rd w' B g P ∧ w.grownBy w' (some g)
/-- The results' cells are written: a table X, whatever it is. -/
theorem BSt.out (H : BSt w B g Q V T D nd cd bs a b h A n c ls wr) (hq : Q ≤ Q') {X : Option Addr} {m k : Nat} {ms : List Li} (hX : TRow wr wr.heap.size X ms) (hf : TFar (w.heap.size + 2) X ms) (hl : ms.length = m) (h8 : m ≤ 8) (h6 : ∀ l, l ∈ ms → l.xs.length ≤ 6) :
    DrewBoth w B g Q' (.returned (.tuple #[.slice D nd cd, .agg #[.slice X m k], .agg #[.int .i64 a, .int .i64 b, .int .i64 h]]))
      ((((wr.setCell ⟨w.heap.size, 0, none⟩ (.slice X m k)).setCell ⟨w.heap.size + 1, 0, none⟩ (.int .i64 a)).setCell ⟨w.heap.size + 1, 1, none⟩ (.int .i64 b)).setCell ⟨w.heap.size + 1, 2, none⟩ (.int .i64 h)) := by
  have hV := H.2.2.1.2.2.1.lt
  obtain ⟨⟨k1, k1b⟩, _, _, k7, k8, k9, k10, k11⟩ := H
  have hB := k7.le
  have hs : ((((wr.setCell ⟨w.heap.size, 0, none⟩ (.slice X m k)).setCell ⟨w.heap.size + 1, 0, none⟩ (.int .i64 a)).setCell ⟨w.heap.size + 1, 1, none⟩ (.int .i64 b)).setCell ⟨w.heap.size + 1, 2, none⟩ (.int .i64 h)).heap.size = wr.heap.size := by simp [World.setCell]
  refine ⟨D, nd, cd, bs, X, m, k, ms, a, b, h, rfl, k1b, ?_, ⟨hl, h8, h6⟩, ?_, ⟨fun ad e => by have := hf.1 ad e; omega, fun l ad hm e => by have := hf.2 l ad hm e; omega⟩, ?_, ?_⟩
  · rw [hs]
    have k2 := (((k1.put (p := ⟨w.heap.size, 0, none⟩) (.inl (by dsimp only; omega)) (.slice X m k)).put (p := ⟨w.heap.size + 1, 0, none⟩) (.inl (by dsimp only; omega)) (.int .i64 a)).put (p := ⟨w.heap.size + 1, 1, none⟩) (.inl (by dsimp only; omega)) (.int .i64 b)).put (p := ⟨w.heap.size + 1, 2, none⟩) (.inl (by dsimp only; omega)) (.int .i64 h)
    exact ⟨k2.1.more (by omega), fun ad e => by have := k2.2.1 ad e; omega, fun q ad hq e => by have := k2.2.2 q ad hq e; omega⟩
  · rw [hs]
    exact (((hX.putLo hf (p := ⟨w.heap.size, 0, none⟩) (by dsimp only; omega) _).putLo hf (p := ⟨w.heap.size + 1, 0, none⟩) (by dsimp only; omega) _).putLo hf (p := ⟨w.heap.size + 1, 1, none⟩) (by dsimp only; omega) _).putLo hf (p := ⟨w.heap.size + 1, 2, none⟩) (by dsimp only; omega) _
  · exact ((((k7.far (by dsimp only; omega) (by dsimp only; omega) _).far (by dsimp only; omega) (by dsimp only; omega) _).far (by dsimp only; omega) (by dsimp only; omega) _).far (by dsimp only; omega) (by dsimp only; omega) _).more hq
  · exact grown_set (grown_set (grown_set (grown_set k8 (.inr (by dsimp only; omega)) _) (.inr (by dsimp only; omega)) _) (.inr (by dsimp only; omega)) _) (.inr (by dsimp only; omega)) _
theorem DrewBoth.drew {e : Ending} (H : DrewBoth w B g Q e wr) : DrewBoth w B g Q e wr.drew := by
  obtain ⟨D, nd, cd, bs, A, n, c, ls, a, b, h, e0, e1, e2, e3, e4, e5, e6, e7⟩ := H
  exact ⟨D, nd, cd, bs, A, n, c, ls, a, b, h, e0, e1, e2, e3, e4, e5, e6.drew, grown_drew e7⟩
end
end Go.Proofs.Yteniikfgellhfaa
namespace Go.Proofs.Yteniikfgellhfaa
open Go.ChangeShapes Go.WideShapes Go.ChangeAt Go.RowKit
set_option linter.unusedVariables false
set_option linter.unusedSimpArgs false

set_option maxRecDepth 8000 in
set_option maxHeartbeats 8000000 in
theorem both_any (w : World) (B g P : Nat) (N : Int) (h : Rd w B g P) (hP : P ≤ 90000) (hN : 1 ≤ N) (hN2 : N ≤ 1000000000000) :
    Calls Try.prog 61 #[.pointer (some ⟨g, 0, none⟩), .int .i64 N] w (DrewBoth w B g (P + 300)) := by
  have h0 := (h.alloc (.cells #[.slice none 0 0] 40)).alloc (.cells #[.int .i64 0, .int .i64 0, .int .i64 0] 77)
  have hg := h.lt
  clear h
  go_enter Try.func61, Try.ntmps61
  go_wp2_with fail
  refine (heads_any _ _ _ _ _ h0 (by omega) hN hN2).mono ?_
  rintro e w1 ⟨D, nd, cd, bs, a, b, h9, rfl, hl, h13, hnc, hcm, hs, hA, hrow, h1, hg1, hex, hP2⟩
  simp only [size_alloc1] at hA hP2
  have hz1 := hg1.size
  simp only [size_alloc1] at hz1
  have hT1 := ((Blk.new w 40 #[.slice none 0 0]).alloc (.cells #[.int .i64 0, .int .i64 0, .int .i64 0] 77)).grown hg1 (by intro e; injection e with e; omega)
  have hH1 := (Blk.new (w.alloc (.cells #[.slice none 0 0] 40)) 77 #[.int .i64 0, .int .i64 0, .int .i64 0]).grown hg1 (by simp only [size_alloc1]; intro e; injection e with e; omega)
  simp only [size_alloc1] at hH1
  have hV1 := Blk.new w1 77 #[.int .i64 a, .int .i64 b, .int .i64 h9]
  have hGa := grown_trans (grown_alloc (grown_alloc (grown_refl w (some g)) (.cells #[.slice none 0 0] 40)) (.cells #[.int .i64 0, .int .i64 0, .int .i64 0] 77)) hg1
  obtain ⟨X, m, hof, hm8, hX6⟩ := tof_is hl
  have hr2 := hrow.alloc (.cells #[.int .i64 a, .int .i64 b, .int .i64 h9] 77)
  have HR := Lib.hid (And.intro hof (And.intro hl (And.intro hr2.here (fun (q : Bk) (hq : q ∈ bs) => show q.ps.length ≤ 1048576 by have := hs q hq; omega))))
  have hnd : nd ≤ 1048576 := by omega
  have HA := Lib.hid (And.intro hrow (And.intro hA (And.intro hP2 (And.intro hl (And.intro hs (And.intro hT1 (And.intro hH1 (And.intro hV1 (And.intro h1 (And.intro hGa hX6))))))))))
  clear h0 hl hnc hcm hs hA hrow h1 hg1 hex hP2 hT1 hH1 hV1 hGa hof hX6 hr2
  go_wp2_with fail
  refine (specTableOf_val HR.out.1 HR.out.2.1 HR.out.2.2.1 hnd HR.out.2.2.2).mono ?_
  rintro e w2 ⟨A, c, cs, rfl, hcl, hcs, ho, hk2⟩
  have HS : RowKit.Hid (BSt w B g (P + 210) w1.heap.size w2.heap.size D nd cd bs a b h9 A m c cs (w2.alloc (.cells #[.slice A m c] 40))) := by
    obtain ⟨q1, q2, q3, q4, q5, q6, q7, q8, q9, q10, q11⟩ := HA.out
    have hz2 := hk2.size
    simp only [size_alloc1] at hz2
    have K1 := grown_alloc (grown_refl w1 none) (.cells #[.int .i64 a, .int .i64 b, .int .i64 h9] 77)
    have K2 := grown_alloc (grown_trans K1 hk2) (.cells #[.slice A m c] 40)
    refine Lib.hid ⟨⟨DZ.grown (⟨q1, fun ad e => by have := q2 ad e; omega, fun q ad hq e => by have := q3 q ad hq e; omega⟩ : DZ (w.heap.size + 2) w1.heap.size D bs w1) K2 (fun k e => by cases e), q4, h13, q5⟩, ⟨(ho.row.alloc _).here, ho.offB (Nat.le_refl _) (by simp only [size_alloc1]; omega), hcl, hm8, fun l hm => ?_⟩, ⟨q6.keep K2, q7.keep K2, (q8.keep hk2).alloc _, Blk.new w2 _ _⟩, q9.grown K2 (by intro k e; cases e), grown_trans q10 (grown_some K2), hg, by omega, by omega⟩
    have := q11 l.xs (hcs ▸ List.mem_map_of_mem hm)
    omega
  clear hcl hcs ho hk2 HA HR
  go_wp2_with fail
  refine (pick_lt _ _ _ _ _ HS.out.2.2.2.1 (by omega) (by omega)).mono ?_
  rintro e w3 ⟨x3, rfl, u3, v3, h3, hg3⟩
  replace HS := Lib.hid (HS.out.grown hg3 h3)
  obtain ⟨x, rfl⟩ := Int.eq_ofNat_of_zero_le u3
  clear h3 hg3 u3
  go_wp2
  go_loopw [10] (fun i wr => ∃ (k Q : Nat) (A : Option Addr) (n c : Nat) (ls : List Li), i = .int .i64 k ∧ k ≤ 2 ∧ Q + 2 * k ≤ P + 220 ∧ BSt w B g Q w1.heap.size w2.heap.size D nd cd bs a b h9 A n c ls wr) (fun i _ => (intOf i).toNat)
  case atStart => exact ⟨x, P + 210 + 1, _, _, _, _, rfl, by omega, by omega, HS.out⟩
  case round =>
    rename World => wq
    obtain ⟨k, Q, A, n, c, ls, rfl, hk2, hQ, hS⟩ := hrel
    replace HS := Lib.hid hS
    clear hS
    have bT := HS.out.cellT
    by_cases hk0 : k = 0
    · subst hk0
      go_wp2_with fail
      refine (odd_any _ _ _ _ _ HS.out.2.2.2.1 (by omega) hN hN2).mono ?_
      rintro e w5 ⟨q, rfl, h5, hg5⟩
      replace HS := Lib.hid (HS.out.grown hg5 h5)
      clear h5 hg5 bT
      have bT := HS.out.cellT
      cases q
      · cases hv : tabB (ll ls)
        · have HV := Lib.hid hv
          clear hv
          go_wp2_with fail
          refine (specTabValid_val HV.out HS.out.small.1 HS.out.small.2.1 HS.out.small.2.2.1 HS.out.small.2.2.2).mono ?_
          rintro e w6 ⟨rfl, hk⟩
          replace HS := Lib.hid (HS.out.kept hk)
          clear hk bT
          have bT := HS.out.cellT
          go_wp2_with fail
          refine wp_region_held_drew (S := (fun w' => w'.cell? ⟨w1.heap.size, 0, none⟩ = some (.int .i64 a) ∧ w'.cell? ⟨w1.heap.size, 1, none⟩ = some (.int .i64 b) ∧ w'.cell? ⟨w1.heap.size, 2, none⟩ = some (.int .i64 h9))) (by kernel_rfl) ?_ (fun hHeld => ?_)
          · exact ⟨HS.out.2.2.1.2.2.1.cell 0, HS.out.2.2.1.2.2.1.cell 1, HS.out.2.2.1.2.2.1.cell 2⟩
          refine heldY 0 43 ?_
          refine heldY 1 44 ?_
          refine heldY 3 46 ?_
          refine wpAnyH_ready (rs := [2]) (by kernel_rfl) (by simp) ?_
          refine AllReadyH.cons rfl (fun K hK => ?_) AllReadyH.nil
          go_simp
          go_at_call 101; refine (tables_any _ _ _ _ 3 HS.out.drew.2.2.2.1 (by omega) (by omega) (by omega)).mono ?_; rintro e w7 ⟨A3, n3, c3, ms, rfl, hl3, h83, h63, hrow3, hfar3, h7, hg7⟩; have hf3 : TFar (w.heap.size + 2) A3 ms := hfar3.more (by have h1 := HS.out.2.2.1.2.2.1.lt; have h2 := HS.out.2.2.2.2.2.2.1; (try simp only [World.drew]); omega); replace HS := Lib.hid (HS.out.drew.grown hg7 h7); have HM := Lib.hid (And.intro hrow3 (And.intro hf3 (And.intro hl3 (And.intro h83 h63)))); clear hrow3 hfar3 hf3 hl3 h83 h63 h7 hg7 bT; have r0 : w7.cell? ⟨w.heap.size, 0, none⟩ = some (.slice none 0 0) := HS.out.2.2.1.1.cell 0; have r1 : w7.frozen? ⟨w.heap.size, 0, none⟩ = false := HS.out.2.2.1.1.frozen 0; have s0 : w7.cell? ⟨w.heap.size + 1, 0, none⟩ = some (.int .i64 0) := HS.out.2.2.1.2.1.cell 0; have s1 : w7.cell? ⟨w.heap.size + 1, 1, none⟩ = some (.int .i64 0) := HS.out.2.2.1.2.1.cell 1; have s2 : w7.cell? ⟨w.heap.size + 1, 2, none⟩ = some (.int .i64 0) := HS.out.2.2.1.2.1.cell 2; have t0 : w7.frozen? ⟨w.heap.size + 1, 0, none⟩ = false := HS.out.2.2.1.2.1.frozen 0; have t1 : w7.frozen? ⟨w.heap.size + 1, 1, none⟩ = false := HS.out.2.2.1.2.1.frozen 1; have t2 : w7.frozen? ⟨w.heap.size + 1, 2, none⟩ = false := HS.out.2.2.1.2.1.frozen 2; have y0 : w1.heap.size ≠ w.heap.size := (by have := HS.out.2.2.2.2.2.2.1; omega); have y1 : w1.heap.size ≠ w.heap.size + 1 := (by have := HS.out.2.2.2.2.2.2.1; omega); have z0 : w.heap.size ≠ w1.heap.size := (by have := HS.out.2.2.2.2.2.2.1; omega); have z1 : w.heap.size + 1 ≠ w1.heap.size := (by have := HS.out.2.2.2.2.2.2.1; omega); have HV0 := Lib.hid (HS.out.2.2.1.2.2.1.far (p := ⟨w.heap.size, 0, none⟩) y0 (.slice A3 n3 c3)); have HV1 := Lib.hid (((HV0.out.far (p := ⟨w.heap.size + 1, 0, none⟩) y1 (.int .i64 a)).far (p := ⟨w.heap.size + 1, 1, none⟩) y1 (.int .i64 b)).far (p := ⟨w.heap.size + 1, 2, none⟩) y1 (.int .i64 h9))
          refine hK.out _ _ ?_ (fun hHeld => ?_)
          · exact ⟨HS.out.2.2.1.2.2.1.cell 0, HS.out.2.2.1.2.2.1.cell 1, HS.out.2.2.1.2.2.1.cell 2⟩
          clear hK K
          try simp only [Act.put, List.setIfInBounds_toArray, List.set_cons_zero, List.set_cons_succ]
          refine heldY 4 4 ?_
          refine wpAnyH_ready (rs := [5]) (by kernel_rfl) (by simp) ?_
          refine AllReadyH.cons rfl (fun K hK => ?_) AllReadyH.nil
          go_simp
          refine hK.out _ _ ?_ (fun hHeld => ?_)
          · exact ⟨HV0.out.cell 0, HV0.out.cell 1, HV0.out.cell 2⟩
          clear hK K
          try simp only [Act.put, List.setIfInBounds_toArray, List.set_cons_zero, List.set_cons_succ]
          refine wpAnyH_ready (rs := [6]) (by kernel_rfl) (by simp) ?_
          refine AllReadyH.cons rfl (fun K hK => ?_) AllReadyH.nil
          go_simp
          refine hK.out _ _ ?_ (fun hHeld => ?_)
          · exact ⟨HV1.out.cell 0, HV1.out.cell 1, HV1.out.cell 2⟩
          clear hK K
          try simp only [Act.put, List.setIfInBounds_toArray, List.set_cons_zero, List.set_cons_succ]
          refine wpAnyH_done (by kernel_rfl) ?_ _
          go_wp2
          exact bodyPost_ret (v := .tuple #[.slice D nd cd, .agg #[.slice A3 n3 c3], .agg #[.int .i64 a, .int .i64 b, .int .i64 h9]]) (by simp [results, Try.results61, go_sem, *]) rfl (HS.out.out (by omega) HM.out.1 HM.out.2.1 HM.out.2.2.1 HM.out.2.2.2.1 HM.out.2.2.2.2)
        · have HV := Lib.hid hv
          clear hv
          go_wp2_with fail
          refine (specTabValid_val HV.out HS.out.small.1 HS.out.small.2.1 HS.out.small.2.2.1 HS.out.small.2.2.2).mono ?_
          rintro e w6 ⟨rfl, hk⟩
          replace HS := Lib.hid (HS.out.kept hk)
          clear hk bT
          have bT := HS.out.cellT
          have r0 : w6.cell? ⟨w.heap.size, 0, none⟩ = some (.slice none 0 0) := HS.out.2.2.1.1.cell 0
          have r1 : w6.frozen? ⟨w.heap.size, 0, none⟩ = false := HS.out.2.2.1.1.frozen 0
          have s0 : w6.cell? ⟨w.heap.size + 1, 0, none⟩ = some (.int .i64 0) := HS.out.2.2.1.2.1.cell 0
          have s1 : w6.cell? ⟨w.heap.size + 1, 1, none⟩ = some (.int .i64 0) := HS.out.2.2.1.2.1.cell 1
          have s2 : w6.cell? ⟨w.heap.size + 1, 2, none⟩ = some (.int .i64 0) := HS.out.2.2.1.2.1.cell 2
          have t0 : w6.frozen? ⟨w.heap.size + 1, 0, none⟩ = false := HS.out.2.2.1.2.1.frozen 0
          have t1 : w6.frozen? ⟨w.heap.size + 1, 1, none⟩ = false := HS.out.2.2.1.2.1.frozen 1
          have t2 : w6.frozen? ⟨w.heap.size + 1, 2, none⟩ = false := HS.out.2.2.1.2.1.frozen 2
          have y0 : w1.heap.size ≠ w.heap.size := (by have := HS.out.2.2.2.2.2.2.1; omega)
          have y1 : w1.heap.size ≠ w.heap.size + 1 := (by have := HS.out.2.2.2.2.2.2.1; omega)
          have z0 : w.heap.size ≠ w1.heap.size := (by have := HS.out.2.2.2.2.2.2.1; omega)
          have z1 : w.heap.size + 1 ≠ w1.heap.size := (by have := HS.out.2.2.2.2.2.2.1; omega)
          have HV0 := Lib.hid (HS.out.2.2.1.2.2.1.far (p := ⟨w.heap.size, 0, none⟩) y0 (.slice A n c))
          have HV1 := Lib.hid (((HV0.out.far (p := ⟨w.heap.size + 1, 0, none⟩) y1 (.int .i64 a)).far (p := ⟨w.heap.size + 1, 1, none⟩) y1 (.int .i64 b)).far (p := ⟨w.heap.size + 1, 2, none⟩) y1 (.int .i64 h9))
          have x0 : w2.heap.size ≠ w.heap.size := by have h1 := HS.out.2.2.2.2.2.2.1; have h2 := HS.out.2.2.2.2.2.2.2; omega
          have x1 : w2.heap.size ≠ w.heap.size + 1 := by have h1 := HS.out.2.2.2.2.2.2.1; have h2 := HS.out.2.2.2.2.2.2.2; omega
          have x2 : w.heap.size ≠ w2.heap.size := fun e => x0 e.symm
          have x3 : w.heap.size + 1 ≠ w2.heap.size := fun e => x1 e.symm
          have HT0 := Lib.hid (HS.out.2.2.1.2.2.2.far (p := ⟨w.heap.size, 0, none⟩) x0 (.slice A n c))
          have HT1 := Lib.hid (((HT0.out.far (p := ⟨w.heap.size + 1, 0, none⟩) x1 (.int .i64 a)).far (p := ⟨w.heap.size + 1, 1, none⟩) x1 (.int .i64 b)).far (p := ⟨w.heap.size + 1, 2, none⟩) x1 (.int .i64 h9))
          go_wp2_with fail
          refine wp_region_held_drew (S := (fun w' => w'.cell? ⟨w2.heap.size, 0, none⟩ = some (.slice A n c) ∧ w'.cell? ⟨w1.heap.size, 0, none⟩ = some (.int .i64 a) ∧ w'.cell? ⟨w1.heap.size, 1, none⟩ = some (.int .i64 b) ∧ w'.cell? ⟨w1.heap.size, 2, none⟩ = some (.int .i64 h9))) (by kernel_rfl) ?_ (fun hHeld => ?_)
          · exact ⟨HS.out.2.2.1.2.2.2.cell 0, HS.out.2.2.1.2.2.1.cell 0, HS.out.2.2.1.2.2.1.cell 1, HS.out.2.2.1.2.2.1.cell 2⟩
          refine heldY 0 47 ?_
          refine heldY 1 48 ?_
          refine heldY 2 49 ?_
          refine heldY 3 4 ?_
          refine wpAnyH_ready (rs := [4]) (by kernel_rfl) (by simp) ?_
          refine AllReadyH.cons rfl (fun K hK => ?_) AllReadyH.nil
          go_simp
          refine hK.out _ _ ?_ (fun hHeld => ?_)
          · exact ⟨HT0.out.drew.cell 0, HV0.out.drew.cell 0, HV0.out.drew.cell 1, HV0.out.drew.cell 2⟩
          clear hK K
          try simp only [Act.put, List.setIfInBounds_toArray, List.set_cons_zero, List.set_cons_succ]
          refine wpAnyH_ready (rs := [5]) (by kernel_rfl) (by simp) ?_
          refine AllReadyH.cons rfl (fun K hK => ?_) AllReadyH.nil
          go_simp
          refine hK.out _ _ ?_ (fun hHeld => ?_)
          · exact ⟨HT1.out.drew.cell 0, HV1.out.drew.cell 0, HV1.out.drew.cell 1, HV1.out.drew.cell 2⟩
          clear hK K
          try simp only [Act.put, List.setIfInBounds_toArray, List.set_cons_zero, List.set_cons_succ]
          refine wpAnyH_done (by kernel_rfl) ?_ _
          go_wp2
          exact bodyPost_ret (v := .tuple #[.slice D nd cd, .agg #[.slice A n c], .agg #[.int .i64 a, .int .i64 b, .int .i64 h9]]) (by simp [results, Try.results61, go_sem, *]) rfl (HS.out.out (by omega) HS.out.2.1.1 HS.out.2.1.2.1.far HS.out.2.1.2.2.1 HS.out.2.1.2.2.2.1 HS.out.2.1.2.2.2.2).drew
      · go_wp2_with fail
        refine wp_region_held_drew (S := (fun w' => w'.cell? ⟨w1.heap.size, 0, none⟩ = some (.int .i64 a) ∧ w'.cell? ⟨w1.heap.size, 1, none⟩ = some (.int .i64 b) ∧ w'.cell? ⟨w1.heap.size, 2, none⟩ = some (.int .i64 h9))) (by kernel_rfl) ?_ (fun hHeld => ?_)
        · exact ⟨HS.out.2.2.1.2.2.1.cell 0, HS.out.2.2.1.2.2.1.cell 1, HS.out.2.2.1.2.2.1.cell 2⟩
        refine heldY 0 43 ?_
        refine heldY 1 44 ?_
        refine heldY 3 46 ?_
        refine wpAnyH_ready (rs := [2]) (by kernel_rfl) (by simp) ?_
        refine AllReadyH.cons rfl (fun K hK => ?_) AllReadyH.nil
        go_simp
        go_at_call 101; refine (tables_any _ _ _ _ 3 HS.out.drew.2.2.2.1 (by omega) (by omega) (by omega)).mono ?_; rintro e w7 ⟨A3, n3, c3, ms, rfl, hl3, h83, h63, hrow3, hfar3, h7, hg7⟩; have hf3 : TFar (w.heap.size + 2) A3 ms := hfar3.more (by have h1 := HS.out.2.2.1.2.2.1.lt; have h2 := HS.out.2.2.2.2.2.2.1; (try simp only [World.drew]); omega); replace HS := Lib.hid (HS.out.drew.grown hg7 h7); have HM := Lib.hid (And.intro hrow3 (And.intro hf3 (And.intro hl3 (And.intro h83 h63)))); clear hrow3 hfar3 hf3 hl3 h83 h63 h7 hg7 bT; have r0 : w7.cell? ⟨w.heap.size, 0, none⟩ = some (.slice none 0 0) := HS.out.2.2.1.1.cell 0; have r1 : w7.frozen? ⟨w.heap.size, 0, none⟩ = false := HS.out.2.2.1.1.frozen 0; have s0 : w7.cell? ⟨w.heap.size + 1, 0, none⟩ = some (.int .i64 0) := HS.out.2.2.1.2.1.cell 0; have s1 : w7.cell? ⟨w.heap.size + 1, 1, none⟩ = some (.int .i64 0) := HS.out.2.2.1.2.1.cell 1; have s2 : w7.cell? ⟨w.heap.size + 1, 2, none⟩ = some (.int .i64 0) := HS.out.2.2.1.2.1.cell 2; have t0 : w7.frozen? ⟨w.heap.size + 1, 0, none⟩ = false := HS.out.2.2.1.2.1.frozen 0; have t1 : w7.frozen? ⟨w.heap.size + 1, 1, none⟩ = false := HS.out.2.2.1.2.1.frozen 1; have t2 : w7.frozen? ⟨w.heap.size + 1, 2, none⟩ = false := HS.out.2.2.1.2.1.frozen 2; have y0 : w1.heap.size ≠ w.heap.size := (by have := HS.out.2.2.2.2.2.2.1; omega); have y1 : w1.heap.size ≠ w.heap.size + 1 := (by have := HS.out.2.2.2.2.2.2.1; omega); have z0 : w.heap.size ≠ w1.heap.size := (by have := HS.out.2.2.2.2.2.2.1; omega); have z1 : w.heap.size + 1 ≠ w1.heap.size := (by have := HS.out.2.2.2.2.2.2.1; omega); have HV0 := Lib.hid (HS.out.2.2.1.2.2.1.far (p := ⟨w.heap.size, 0, none⟩) y0 (.slice A3 n3 c3)); have HV1 := Lib.hid (((HV0.out.far (p := ⟨w.heap.size + 1, 0, none⟩) y1 (.int .i64 a)).far (p := ⟨w.heap.size + 1, 1, none⟩) y1 (.int .i64 b)).far (p := ⟨w.heap.size + 1, 2, none⟩) y1 (.int .i64 h9))
        refine hK.out _ _ ?_ (fun hHeld => ?_)
        · exact ⟨HS.out.2.2.1.2.2.1.cell 0, HS.out.2.2.1.2.2.1.cell 1, HS.out.2.2.1.2.2.1.cell 2⟩
        clear hK K
        try simp only [Act.put, List.setIfInBounds_toArray, List.set_cons_zero, List.set_cons_succ]
        refine heldY 4 4 ?_
        refine wpAnyH_ready (rs := [5]) (by kernel_rfl) (by simp) ?_
        refine AllReadyH.cons rfl (fun K hK => ?_) AllReadyH.nil
        go_simp
        refine hK.out _ _ ?_ (fun hHeld => ?_)
        · exact ⟨HV0.out.cell 0, HV0.out.cell 1, HV0.out.cell 2⟩
        clear hK K
        try simp only [Act.put, List.setIfInBounds_toArray, List.set_cons_zero, List.set_cons_succ]
        refine wpAnyH_ready (rs := [6]) (by kernel_rfl) (by simp) ?_
        refine AllReadyH.cons rfl (fun K hK => ?_) AllReadyH.nil
        go_simp
        refine hK.out _ _ ?_ (fun hHeld => ?_)
        · exact ⟨HV1.out.cell 0, HV1.out.cell 1, HV1.out.cell 2⟩
        clear hK K
        try simp only [Act.put, List.setIfInBounds_toArray, List.set_cons_zero, List.set_cons_succ]
        refine wpAnyH_done (by kernel_rfl) ?_ _
        go_wp2
        exact bodyPost_ret (v := .tuple #[.slice D nd cd, .agg #[.slice A3 n3 c3], .agg #[.int .i64 a, .int .i64 b, .int .i64 h9]]) (by simp [results, Try.results61, go_sem, *]) rfl (HS.out.out (by omega) HM.out.1 HM.out.2.1 HM.out.2.2.1 HM.out.2.2.2.1 HM.out.2.2.2.2)
    obtain ⟨k, rfl⟩ : ∃ j, k = j + 1 := ⟨k - 1, by omega⟩
    have k1 : decide ((0 : Int) < ((k + 1 : Nat) : Int)) = true := decide_eq_true (by omega)
    have k2 : (0 : Int) < ((k + 1 : Nat) : Int) := by omega
    cases hv : tabB (ll ls)
    · have HV := Lib.hid hv
      clear hv
      go_wp2_with fail
      refine (specTabValid_val HV.out HS.out.small.1 HS.out.small.2.1 HS.out.small.2.2.1 HS.out.small.2.2.2).mono ?_
      rintro e w4 ⟨rfl, hk⟩
      replace HS := Lib.hid (HS.out.kept hk)
      clear hk bT
      have bT := HS.out.cellT
      go_wp2_with fail
      refine (odd_any _ _ _ _ _ HS.out.2.2.2.1 (by omega) hN hN2).mono ?_
      rintro e w5 ⟨q, rfl, h5, hg5⟩
      replace HS := Lib.hid (HS.out.grown hg5 h5)
      clear h5 hg5 bT
      have bT := HS.out.cellT
      cases q
      · go_wp2_with fail
        refine (specTabValid_val HV.out HS.out.small.1 HS.out.small.2.1 HS.out.small.2.2.1 HS.out.small.2.2.2).mono ?_
        rintro e w6 ⟨rfl, hk⟩
        replace HS := Lib.hid (HS.out.kept hk)
        clear hk bT
        have bT := HS.out.cellT
        go_wp2_with fail
        refine wp_region_held_drew (S := (fun w' => w'.cell? ⟨w1.heap.size, 0, none⟩ = some (.int .i64 a) ∧ w'.cell? ⟨w1.heap.size, 1, none⟩ = some (.int .i64 b) ∧ w'.cell? ⟨w1.heap.size, 2, none⟩ = some (.int .i64 h9))) (by kernel_rfl) ?_ (fun hHeld => ?_)
        · exact ⟨HS.out.2.2.1.2.2.1.cell 0, HS.out.2.2.1.2.2.1.cell 1, HS.out.2.2.1.2.2.1.cell 2⟩
        refine heldY 0 43 ?_
        refine heldY 1 44 ?_
        refine heldY 3 46 ?_
        refine wpAnyH_ready (rs := [2]) (by kernel_rfl) (by simp) ?_
        refine AllReadyH.cons rfl (fun K hK => ?_) AllReadyH.nil
        go_simp
        go_at_call 101; refine (tables_any _ _ _ _ 3 HS.out.drew.2.2.2.1 (by omega) (by omega) (by omega)).mono ?_; rintro e w7 ⟨A3, n3, c3, ms, rfl, hl3, h83, h63, hrow3, hfar3, h7, hg7⟩; have hf3 : TFar (w.heap.size + 2) A3 ms := hfar3.more (by have h1 := HS.out.2.2.1.2.2.1.lt; have h2 := HS.out.2.2.2.2.2.2.1; (try simp only [World.drew]); omega); replace HS := Lib.hid (HS.out.drew.grown hg7 h7); have HM := Lib.hid (And.intro hrow3 (And.intro hf3 (And.intro hl3 (And.intro h83 h63)))); clear hrow3 hfar3 hf3 hl3 h83 h63 h7 hg7 bT; have r0 : w7.cell? ⟨w.heap.size, 0, none⟩ = some (.slice none 0 0) := HS.out.2.2.1.1.cell 0; have r1 : w7.frozen? ⟨w.heap.size, 0, none⟩ = false := HS.out.2.2.1.1.frozen 0; have s0 : w7.cell? ⟨w.heap.size + 1, 0, none⟩ = some (.int .i64 0) := HS.out.2.2.1.2.1.cell 0; have s1 : w7.cell? ⟨w.heap.size + 1, 1, none⟩ = some (.int .i64 0) := HS.out.2.2.1.2.1.cell 1; have s2 : w7.cell? ⟨w.heap.size + 1, 2, none⟩ = some (.int .i64 0) := HS.out.2.2.1.2.1.cell 2; have t0 : w7.frozen? ⟨w.heap.size + 1, 0, none⟩ = false := HS.out.2.2.1.2.1.frozen 0; have t1 : w7.frozen? ⟨w.heap.size + 1, 1, none⟩ = false := HS.out.2.2.1.2.1.frozen 1; have t2 : w7.frozen? ⟨w.heap.size + 1, 2, none⟩ = false := HS.out.2.2.1.2.1.frozen 2; have y0 : w1.heap.size ≠ w.heap.size := (by have := HS.out.2.2.2.2.2.2.1; omega); have y1 : w1.heap.size ≠ w.heap.size + 1 := (by have := HS.out.2.2.2.2.2.2.1; omega); have z0 : w.heap.size ≠ w1.heap.size := (by have := HS.out.2.2.2.2.2.2.1; omega); have z1 : w.heap.size + 1 ≠ w1.heap.size := (by have := HS.out.2.2.2.2.2.2.1; omega); have HV0 := Lib.hid (HS.out.2.2.1.2.2.1.far (p := ⟨w.heap.size, 0, none⟩) y0 (.slice A3 n3 c3)); have HV1 := Lib.hid (((HV0.out.far (p := ⟨w.heap.size + 1, 0, none⟩) y1 (.int .i64 a)).far (p := ⟨w.heap.size + 1, 1, none⟩) y1 (.int .i64 b)).far (p := ⟨w.heap.size + 1, 2, none⟩) y1 (.int .i64 h9))
        refine hK.out _ _ ?_ (fun hHeld => ?_)
        · exact ⟨HS.out.2.2.1.2.2.1.cell 0, HS.out.2.2.1.2.2.1.cell 1, HS.out.2.2.1.2.2.1.cell 2⟩
        clear hK K
        try simp only [Act.put, List.setIfInBounds_toArray, List.set_cons_zero, List.set_cons_succ]
        refine heldY 4 4 ?_
        refine wpAnyH_ready (rs := [5]) (by kernel_rfl) (by simp) ?_
        refine AllReadyH.cons rfl (fun K hK => ?_) AllReadyH.nil
        go_simp
        refine hK.out _ _ ?_ (fun hHeld => ?_)
        · exact ⟨HV0.out.cell 0, HV0.out.cell 1, HV0.out.cell 2⟩
        clear hK K
        try simp only [Act.put, List.setIfInBounds_toArray, List.set_cons_zero, List.set_cons_succ]
        refine wpAnyH_ready (rs := [6]) (by kernel_rfl) (by simp) ?_
        refine AllReadyH.cons rfl (fun K hK => ?_) AllReadyH.nil
        go_simp
        refine hK.out _ _ ?_ (fun hHeld => ?_)
        · exact ⟨HV1.out.cell 0, HV1.out.cell 1, HV1.out.cell 2⟩
        clear hK K
        try simp only [Act.put, List.setIfInBounds_toArray, List.set_cons_zero, List.set_cons_succ]
        refine wpAnyH_done (by kernel_rfl) ?_ _
        go_wp2
        exact bodyPost_ret (v := .tuple #[.slice D nd cd, .agg #[.slice A3 n3 c3], .agg #[.int .i64 a, .int .i64 b, .int .i64 h9]]) (by simp [results, Try.results61, go_sem, *]) rfl (HS.out.out (by omega) HM.out.1 HM.out.2.1 HM.out.2.2.1 HM.out.2.2.2.1 HM.out.2.2.2.2)
      · go_wp2_with fail
        refine wp_region_held_drew (S := (fun w' => w'.cell? ⟨w1.heap.size, 0, none⟩ = some (.int .i64 a) ∧ w'.cell? ⟨w1.heap.size, 1, none⟩ = some (.int .i64 b) ∧ w'.cell? ⟨w1.heap.size, 2, none⟩ = some (.int .i64 h9))) (by kernel_rfl) ?_ (fun hHeld => ?_)
        · exact ⟨HS.out.2.2.1.2.2.1.cell 0, HS.out.2.2.1.2.2.1.cell 1, HS.out.2.2.1.2.2.1.cell 2⟩
        refine heldY 0 43 ?_
        refine heldY 1 44 ?_
        refine heldY 3 46 ?_
        refine wpAnyH_ready (rs := [2]) (by kernel_rfl) (by simp) ?_
        refine AllReadyH.cons rfl (fun K hK => ?_) AllReadyH.nil
        go_simp
        go_at_call 101; refine (tables_any _ _ _ _ 3 HS.out.drew.2.2.2.1 (by omega) (by omega) (by omega)).mono ?_; rintro e w7 ⟨A3, n3, c3, ms, rfl, hl3, h83, h63, hrow3, hfar3, h7, hg7⟩; have hf3 : TFar (w.heap.size + 2) A3 ms := hfar3.more (by have h1 := HS.out.2.2.1.2.2.1.lt; have h2 := HS.out.2.2.2.2.2.2.1; (try simp only [World.drew]); omega); replace HS := Lib.hid (HS.out.drew.grown hg7 h7); have HM := Lib.hid (And.intro hrow3 (And.intro hf3 (And.intro hl3 (And.intro h83 h63)))); clear hrow3 hfar3 hf3 hl3 h83 h63 h7 hg7 bT; have r0 : w7.cell? ⟨w.heap.size, 0, none⟩ = some (.slice none 0 0) := HS.out.2.2.1.1.cell 0; have r1 : w7.frozen? ⟨w.heap.size, 0, none⟩ = false := HS.out.2.2.1.1.frozen 0; have s0 : w7.cell? ⟨w.heap.size + 1, 0, none⟩ = some (.int .i64 0) := HS.out.2.2.1.2.1.cell 0; have s1 : w7.cell? ⟨w.heap.size + 1, 1, none⟩ = some (.int .i64 0) := HS.out.2.2.1.2.1.cell 1; have s2 : w7.cell? ⟨w.heap.size + 1, 2, none⟩ = some (.int .i64 0) := HS.out.2.2.1.2.1.cell 2; have t0 : w7.frozen? ⟨w.heap.size + 1, 0, none⟩ = false := HS.out.2.2.1.2.1.frozen 0; have t1 : w7.frozen? ⟨w.heap.size + 1, 1, none⟩ = false := HS.out.2.2.1.2.1.frozen 1; have t2 : w7.frozen? ⟨w.heap.size + 1, 2, none⟩ = false := HS.out.2.2.1.2.1.frozen 2; have y0 : w1.heap.size ≠ w.heap.size := (by have := HS.out.2.2.2.2.2.2.1; omega); have y1 : w1.heap.size ≠ w.heap.size + 1 := (by have := HS.out.2.2.2.2.2.2.1; omega); have z0 : w.heap.size ≠ w1.heap.size := (by have := HS.out.2.2.2.2.2.2.1; omega); have z1 : w.heap.size + 1 ≠ w1.heap.size := (by have := HS.out.2.2.2.2.2.2.1; omega); have HV0 := Lib.hid (HS.out.2.2.1.2.2.1.far (p := ⟨w.heap.size, 0, none⟩) y0 (.slice A3 n3 c3)); have HV1 := Lib.hid (((HV0.out.far (p := ⟨w.heap.size + 1, 0, none⟩) y1 (.int .i64 a)).far (p := ⟨w.heap.size + 1, 1, none⟩) y1 (.int .i64 b)).far (p := ⟨w.heap.size + 1, 2, none⟩) y1 (.int .i64 h9))
        refine hK.out _ _ ?_ (fun hHeld => ?_)
        · exact ⟨HS.out.2.2.1.2.2.1.cell 0, HS.out.2.2.1.2.2.1.cell 1, HS.out.2.2.1.2.2.1.cell 2⟩
        clear hK K
        try simp only [Act.put, List.setIfInBounds_toArray, List.set_cons_zero, List.set_cons_succ]
        refine heldY 4 4 ?_
        refine wpAnyH_ready (rs := [5]) (by kernel_rfl) (by simp) ?_
        refine AllReadyH.cons rfl (fun K hK => ?_) AllReadyH.nil
        go_simp
        refine hK.out _ _ ?_ (fun hHeld => ?_)
        · exact ⟨HV0.out.cell 0, HV0.out.cell 1, HV0.out.cell 2⟩
        clear hK K
        try simp only [Act.put, List.setIfInBounds_toArray, List.set_cons_zero, List.set_cons_succ]
        refine wpAnyH_ready (rs := [6]) (by kernel_rfl) (by simp) ?_
        refine AllReadyH.cons rfl (fun K hK => ?_) AllReadyH.nil
        go_simp
        refine hK.out _ _ ?_ (fun hHeld => ?_)
        · exact ⟨HV1.out.cell 0, HV1.out.cell 1, HV1.out.cell 2⟩
        clear hK K
        try simp only [Act.put, List.setIfInBounds_toArray, List.set_cons_zero, List.set_cons_succ]
        refine wpAnyH_done (by kernel_rfl) ?_ _
        go_wp2
        exact bodyPost_ret (v := .tuple #[.slice D nd cd, .agg #[.slice A3 n3 c3], .agg #[.int .i64 a, .int .i64 b, .int .i64 h9]]) (by simp [results, Try.results61, go_sem, *]) rfl (HS.out.out (by omega) HM.out.1 HM.out.2.1 HM.out.2.2.1 HM.out.2.2.2.1 HM.out.2.2.2.2)
    · have HV := Lib.hid hv
      clear hv
      go_wp2_with fail
      refine (specTabValid_val HV.out HS.out.small.1 HS.out.small.2.1 HS.out.small.2.2.1 HS.out.small.2.2.2).mono ?_
      rintro e w4 ⟨rfl, hk⟩
      replace HS := Lib.hid (HS.out.kept hk)
      clear hk bT
      have bT := HS.out.cellT
      go_wp2_with fail
      refine wp_region_held_drew (S := (fun _ => True)) (by kernel_rfl) ?_ (fun hHeld => ?_)
      · trivial
      replace HS := Lib.hid HS.out.drew
      clear bT
      have bT := HS.out.cellT
      refine heldY 1 30 ?_
      refine heldY 3 32 ?_
      refine wpAnyH_ready (rs := [0, 2]) (by kernel_rfl) (by simp) ?_
      refine AllReadyH.cons rfl (fun K hK => ?_) (AllReadyH.cons rfl (fun K hK => ?_) AllReadyH.nil)
      · go_simp
        refine hK.out _ _ ?_ (fun hHeld => ?_)
        · with_reducible assumption
        clear hK K
        try simp only [Act.put, List.setIfInBounds_toArray, List.set_cons_zero, List.set_cons_succ]
        refine wpAnyH_ready (rs := [2]) (by kernel_rfl) (by simp) ?_
        refine AllReadyH.cons rfl (fun K hK => ?_) AllReadyH.nil
        go_simp; go_at_call 51; refine (pick_lt _ _ _ _ _ HS.out.2.2.2.1 (by omega) (by omega)).mono ?_; rintro e w7 ⟨x7, rfl, u7, v7, h7, hg7⟩; replace HS := Lib.hid (HS.out.grown hg7 h7); clear h7 hg7 bT; have bT := HS.out.cellT
        refine hK.out _ _ ?_ (fun hHeld => ?_)
        · trivial
        clear hK K
        try simp only [Act.put, List.setIfInBounds_toArray, List.set_cons_zero, List.set_cons_succ]
        refine wpAnyH_ready (rs := [4]) (by kernel_rfl) (by simp) ?_
        refine AllReadyH.cons rfl (fun K hK => ?_) AllReadyH.nil
        go_simp; go_at_call 51; refine (pick_lt _ _ _ _ _ HS.out.2.2.2.1 (by omega) (by omega)).mono ?_; rintro e w8 ⟨x8, rfl, u8, v8, h8, hg8⟩; replace HS := Lib.hid (HS.out.grown hg8 h8); clear h8 hg8 bT; have bT := HS.out.cellT
        refine hK.out _ _ ?_ (fun hHeld => ?_)
        · trivial
        clear hK K
        try simp only [Act.put, List.setIfInBounds_toArray, List.set_cons_zero, List.set_cons_succ]
        refine wpAnyH_ready (rs := [5]) (by kernel_rfl) (by simp) ?_
        refine AllReadyH.cons rfl (fun K hK => ?_) AllReadyH.nil
        go_simp; go_at_call 100; obtain ⟨X, hX⟩ : ∃ X, cutV (ll ls) x7 x8 = X := ⟨_, rfl⟩; have hsm := cut_small hX; refine (specCut_v hX HS.out.small.1 HS.out.small.2.1 HS.out.small.2.2.1 HS.out.small.2.2.2).mono ?_; rintro e w9 ⟨n1, A1, c1, cs1, rfl, hl1, hs1, ho, hk⟩; rw [← hs1] at hsm; have hb9 := (HS.out.kept hk).cellT; have hf9 := (HS.out.kept hk).frozenT; replace HS := Lib.hid (HS.out.table hk ho hl1 (by have h1 := hsm.1; rw [ll_length] at h1; omega) (fun l hq => hsm.2 l.xs (List.mem_map_of_mem hq))); clear hX hsm hl1 hs1 ho hk bT
        refine hK.out _ _ ?_ (fun hHeld => ?_)
        · trivial
        clear hK K
        try simp only [Act.put, List.setIfInBounds_toArray, List.set_cons_zero, List.set_cons_succ]
        refine wpAnyH_ready (rs := [6]) (by kernel_rfl) (by simp) ?_
        refine AllReadyH.cons rfl (fun K hK => ?_) AllReadyH.nil
        go_simp
        refine hK.out _ _ ?_ (fun hHeld => ?_)
        · trivial
        clear hK K
        try simp only [Act.put, List.setIfInBounds_toArray, List.set_cons_zero, List.set_cons_succ]
        refine wpAnyH_done (by kernel_rfl) ?_ _
        go_wp2
        go_roundw
        case rel => exact ⟨k, Q + 1 + 1, _, _, _, _, by go_num, by omega, by omega, HS.out⟩
        case measure => simp [intOf]
      · go_simp; go_at_call 51; refine (pick_lt _ _ _ _ _ HS.out.2.2.2.1 (by omega) (by omega)).mono ?_; rintro e w7 ⟨x7, rfl, u7, v7, h7, hg7⟩; replace HS := Lib.hid (HS.out.grown hg7 h7); clear h7 hg7 bT; have bT := HS.out.cellT
        refine hK.out _ _ ?_ (fun hHeld => ?_)
        · trivial
        clear hK K
        try simp only [Act.put, List.setIfInBounds_toArray, List.set_cons_zero, List.set_cons_succ]
        refine wpAnyH_ready (rs := [0, 4]) (by kernel_rfl) (by simp) ?_
        refine AllReadyH.cons rfl (fun K hK => ?_) (AllReadyH.cons rfl (fun K hK => ?_) AllReadyH.nil)
        · go_simp
          refine hK.out _ _ ?_ (fun hHeld => ?_)
          · with_reducible assumption
          clear hK K
          try simp only [Act.put, List.setIfInBounds_toArray, List.set_cons_zero, List.set_cons_succ]
          refine wpAnyH_ready (rs := [4]) (by kernel_rfl) (by simp) ?_
          refine AllReadyH.cons rfl (fun K hK => ?_) AllReadyH.nil
          go_simp; go_at_call 51; refine (pick_lt _ _ _ _ _ HS.out.2.2.2.1 (by omega) (by omega)).mono ?_; rintro e w8 ⟨x8, rfl, u8, v8, h8, hg8⟩; replace HS := Lib.hid (HS.out.grown hg8 h8); clear h8 hg8 bT; have bT := HS.out.cellT
          refine hK.out _ _ ?_ (fun hHeld => ?_)
          · trivial
          clear hK K
          try simp only [Act.put, List.setIfInBounds_toArray, List.set_cons_zero, List.set_cons_succ]
          refine wpAnyH_ready (rs := [5]) (by kernel_rfl) (by simp) ?_
          refine AllReadyH.cons rfl (fun K hK => ?_) AllReadyH.nil
          go_simp; go_at_call 100; obtain ⟨X, hX⟩ : ∃ X, cutV (ll ls) x7 x8 = X := ⟨_, rfl⟩; have hsm := cut_small hX; refine (specCut_v hX HS.out.small.1 HS.out.small.2.1 HS.out.small.2.2.1 HS.out.small.2.2.2).mono ?_; rintro e w9 ⟨n1, A1, c1, cs1, rfl, hl1, hs1, ho, hk⟩; rw [← hs1] at hsm; have hb9 := (HS.out.kept hk).cellT; have hf9 := (HS.out.kept hk).frozenT; replace HS := Lib.hid (HS.out.table hk ho hl1 (by have h1 := hsm.1; rw [ll_length] at h1; omega) (fun l hq => hsm.2 l.xs (List.mem_map_of_mem hq))); clear hX hsm hl1 hs1 ho hk bT
          refine hK.out _ _ ?_ (fun hHeld => ?_)
          · trivial
          clear hK K
          try simp only [Act.put, List.setIfInBounds_toArray, List.set_cons_zero, List.set_cons_succ]
          refine wpAnyH_ready (rs := [6]) (by kernel_rfl) (by simp) ?_
          refine AllReadyH.cons rfl (fun K hK => ?_) AllReadyH.nil
          go_simp
          refine hK.out _ _ ?_ (fun hHeld => ?_)
          · trivial
          clear hK K
          try simp only [Act.put, List.setIfInBounds_toArray, List.set_cons_zero, List.set_cons_succ]
          refine wpAnyH_done (by kernel_rfl) ?_ _
          go_wp2
          go_roundw
          case rel => exact ⟨k, Q + 1 + 1, _, _, _, _, by go_num, by omega, by omega, HS.out⟩
          case measure => simp [intOf]
        · go_simp; go_at_call 51; refine (pick_lt _ _ _ _ _ HS.out.2.2.2.1 (by omega) (by omega)).mono ?_; rintro e w8 ⟨x8, rfl, u8, v8, h8, hg8⟩; replace HS := Lib.hid (HS.out.grown hg8 h8); clear h8 hg8 bT; have bT := HS.out.cellT
          refine hK.out _ _ ?_ (fun hHeld => ?_)
          · trivial
          clear hK K
          try simp only [Act.put, List.setIfInBounds_toArray, List.set_cons_zero, List.set_cons_succ]
          refine wpAnyH_ready (rs := [0]) (by kernel_rfl) (by simp) ?_
          refine AllReadyH.cons rfl (fun K hK => ?_) AllReadyH.nil
          go_simp
          refine hK.out _ _ ?_ (fun hHeld => ?_)
          · with_reducible assumption
          clear hK K
          try simp only [Act.put, List.setIfInBounds_toArray, List.set_cons_zero, List.set_cons_succ]
          refine wpAnyH_ready (rs := [5]) (by kernel_rfl) (by simp) ?_
          refine AllReadyH.cons rfl (fun K hK => ?_) AllReadyH.nil
          go_simp; go_at_call 100; obtain ⟨X, hX⟩ : ∃ X, cutV (ll ls) x7 x8 = X := ⟨_, rfl⟩; have hsm := cut_small hX; refine (specCut_v hX HS.out.small.1 HS.out.small.2.1 HS.out.small.2.2.1 HS.out.small.2.2.2).mono ?_; rintro e w9 ⟨n1, A1, c1, cs1, rfl, hl1, hs1, ho, hk⟩; rw [← hs1] at hsm; have hb9 := (HS.out.kept hk).cellT; have hf9 := (HS.out.kept hk).frozenT; replace HS := Lib.hid (HS.out.table hk ho hl1 (by have h1 := hsm.1; rw [ll_length] at h1; omega) (fun l hq => hsm.2 l.xs (List.mem_map_of_mem hq))); clear hX hsm hl1 hs1 ho hk bT
          refine hK.out _ _ ?_ (fun hHeld => ?_)
          · trivial
          clear hK K
          try simp only [Act.put, List.setIfInBounds_toArray, List.set_cons_zero, List.set_cons_succ]
          refine wpAnyH_ready (rs := [6]) (by kernel_rfl) (by simp) ?_
          refine AllReadyH.cons rfl (fun K hK => ?_) AllReadyH.nil
          go_simp
          refine hK.out _ _ ?_ (fun hHeld => ?_)
          · trivial
          clear hK K
          try simp only [Act.put, List.setIfInBounds_toArray, List.set_cons_zero, List.set_cons_succ]
          refine wpAnyH_done (by kernel_rfl) ?_ _
          go_wp2
          go_roundw
          case rel => exact ⟨k, Q + 1 + 1, _, _, _, _, by go_num, by omega, by omega, HS.out⟩
          case measure => simp [intOf]
end Go.Proofs.Yteniikfgellhfaa
namespace Go.Proofs.Yteniikfgellhfaa
open Go.ChangeShapes Go.WideShapes Go.ChangeAt Go.RowKit
set_option linter.unusedVariables false
set_option linter.unusedSimpArgs false

/-- A drawn device and a drawn table, this in variable T; the result's cell in block w.heap.size, the reader in the next one. -/
def FSt (w : World) (B Q T : Nat) (D : Option Addr) (bs : List Bk) (A : Option Addr) (n c : Nat) (ls : List Li) (wr : World) : Prop :=
  DZ (w.heap.size + 2) T D bs wr ∧ TRow wr wr.heap.size A ls ∧ TFar (w.heap.size + 2) A ls ∧ Blk wr T 40 #[.slice A n c] ∧ Blk wr w.heap.size 40 #[.slice none 0 0] ∧ Rd wr B (w.heap.size + 1) Q ∧ Below w.heap.size w wr ∧ w.heap.size + 2 ≤ T
section
variable {w wr w' : World} {B Q Q' T n c : Nat} {D A : Option Addr} {bs : List Bk} {ls : List Li}
theorem FSt.grown (H : FSt w B Q T D bs A n c ls wr) (hg : wr.grownBy w' (some (w.heap.size + 1))) (hr : Rd w' B (w.heap.size + 1) Q') : FSt w B Q' T D bs A n c ls w' := by
  obtain ⟨h1, h2, h3, h4, h5, h6, h7, h8⟩ := H
  exact ⟨h1.grown hg (fun k e => by injection e with e; omega), (h2.grownLo h3 hg (by omega)).here, h3, h4.grown hg (by intro e; injection e with e; omega), h5.grown hg (by intro e; injection e with e; omega), hr, h7.trans (Below.of_grown hg (by omega) h7.size), h8⟩
theorem FSt.kept (H : FSt w B Q T D bs A n c ls wr) (hk : wr.grownBy w' none) : FSt w B Q T D bs A n c ls w' := H.grown (grown_some hk) (H.2.2.2.2.2.1.grown hk (by intro k e; cases e))
theorem FSt.drew (H : FSt w B Q T D bs A n c ls wr) : FSt w B Q T D bs A n c ls wr.drew := H.kept (grown_drew (grown_refl _ _))
theorem FSt.cell (H : FSt w B Q T D bs A n c ls wr) : wr.cell? ⟨T, 0, none⟩ = some (.slice A n c) := H.2.2.2.1.cell 0
/-- The result's cell is written. -/
theorem FSt.out (H : FSt w B Q T D bs A n c ls wr) (u : Value) : LD w D bs (wr.setCell ⟨w.heap.size, 0, none⟩ u) ∧ LT w A ls (wr.setCell ⟨w.heap.size, 0, none⟩ u) := by
  have hT := H.2.2.2.1.lt
  obtain ⟨h1, h2, h3, h4, h5, h6, h7, h8⟩ := H
  have hs : (wr.setCell ⟨w.heap.size, 0, none⟩ u).heap.size = wr.heap.size := by simp [World.setCell]
  have hb := h7.setCell (p := ⟨w.heap.size, 0, none⟩) (Nat.le_refl _) u
  refine ⟨⟨?_, hb⟩, ⟨?_, hb⟩⟩
  · rw [hs]
    exact (h1.put (p := ⟨w.heap.size, 0, none⟩) (.inl (by dsimp only; omega)) u).1.more (by omega)
  · rw [hs]
    exact h2.putLo h3 (p := ⟨w.heap.size, 0, none⟩) (by dsimp only; omega) u
end
/-- A device, a table and a file are drawn. -/
def ValuesDrawn (w : World) (e : Ending) (w' : World) : Prop :=
  ∃ (D : Option Addr) (nd cd : Nat) (bs : List Bk) (A : Option Addr) (n c : Nat) (ls : List Li) (f : Int), e = .returned (.tuple #[.slice D nd cd, .agg #[.slice A n c], .int .i64 f]) ∧
    (bs.length = nd ∧ nd ≤ 13 ∧ ∀ q, q ∈ bs → q.ps.length ≤ 4) ∧ (ls.length = n ∧ n ≤ 8 ∧ ∀ l, l ∈ ls → l.xs.length ≤ 6) ∧ LD w D bs w' ∧ LT w A ls w'
end Go.Proofs.Yteniikfgellhfaa
namespace Go.Proofs.Yteniikfgellhfaa
open Go.ChangeShapes Go.WideShapes Go.ChangeAt Go.RowKit
set_option linter.unusedVariables false

theorem page_valid {bs : List Bk} (hd : devB bs = true) {k : Nat} {p : Pg} (hp : pageAt bs k = some p) : pageB p.f p.a p.b p.c p.d = true := by
  obtain ⟨_, hall⟩ := dev_parts hd
  unfold pageAt at hp
  rw [Option.bind_eq_some_iff] at hp
  obtain ⟨b, hb, hq⟩ := hp
  obtain ⟨_, h4, ho⟩ := block_parts (hall b (List.mem_of_getElem? hb))
  have hlt := (List.getElem?_eq_some_iff.1 hq).1
  unfold ordB at ho
  rw [List.all_eq_true] at ho
  have h1 := ho (k % 4) (by simpa using hlt)
  unfold okAt at h1
  rw [Bool.and_eq_true] at h1
  have h2 := h1.1
  have e : b.ps.getD (k % 4) pz = p := by simp [List.getD_eq_getElem?_getD, hq]
  rw [e] at h2
  exact h2
/-- What holds of the table of the first k pages, further: it names pages of their own places, and none that is older than one of the first k. -/
structure OfBest (bs : List Bk) (k : Nat) (xss : List (List Int)) : Prop where
  ent : ∀ (f j : Nat) (x : Int), cellO xss f j = some x → x = -1 ∨ ∃ (a : Nat) (q : Pg), x = (a : Int) ∧ pageAt bs a = some q ∧ q.f = true ∧ q.a = (f : Int) ∧ q.b = (j : Int)
  best : ∀ (a : Nat) (p : Pg), a < k → pageAt bs a = some p → p.f = true → ∃ (a' : Nat) (q : Pg), cellO xss p.a.toNat p.b.toNat = some (a' : Int) ∧ pageAt bs a' = some q ∧ p.d ≤ q.d
theorem of_best {bs : List Bk} (hd : devB bs = true) : ∀ k : Nat, k ≤ 48 → OfBest bs k (tabTo bs k)
  | 0, _ => ⟨fun f j x h => .inl (noTab_cell h), fun a p h => absurd h (by omega)⟩
  | k + 1, hk => by
    have ih := of_best hd k (by omega)
    have iv := (of_inv hd k (by omega)).tv
    show OfBest bs (k + 1) (ofStep bs (tabTo bs k) k)
    have keep : (∀ p, pageAt bs k = some p → p.f = true → ∃ (a' : Nat) (q : Pg), cellO (tabTo bs k) p.a.toNat p.b.toNat = some (a' : Int) ∧ pageAt bs a' = some q ∧ p.d ≤ q.d) → OfBest bs (k + 1) (tabTo bs k) := fun h => by
      refine ⟨ih.ent, fun a p ha hp hf => ?_⟩
      rcases Nat.lt_or_ge a k with h1 | h1
      · exact ih.best a p h1 hp hf
      · obtain rfl : a = k := by omega
        exact h p hp hf
    cases hp : pageAt bs k with
    | none =>
      have e : ofStep bs (tabTo bs k) k = tabTo bs k := by simp [ofStep, hp]
      rw [e]
      exact keep fun p hp' => by rw [hp] at hp'; cases hp'
    | some p =>
      cases hf : p.f
      · rw [of_old hp hf]
        refine keep fun p' hp' hf' => ?_
        rw [hp] at hp'
        injection hp' with hp'
        subst hp'
        rw [hf] at hf'
        cases hf'
      · obtain ⟨f, j, ea, eb, hf8, hj6⟩ := full_in hd hp hf
        obtain ⟨ys, y, hy1, hy6, hy2, hc⟩ := iv.cell hf8 hj6
        cases hn : newerB bs (tabTo bs k) p
        · rw [of_less hp hn]
          refine keep fun p' hp' hf' => ?_
          rw [hp] at hp'
          injection hp' with hp'
          subst hp'
          rcases ih.ent f j y hc with rfl | ⟨a, q, rfl, hq, hqf, _⟩
          · rw [newer_none ea eb hc] at hn
            cases hn
          · rw [newer_some ea eb hc hq] at hn
            refine ⟨a, q, by rw [ea, eb]; simpa using hc, hq, ?_⟩
            have := of_decide_eq_false hn
            omega
        · rw [of_new hp hf ea eb hn]
          refine ⟨fun f' j' x hx => ?_, fun a p0 ha hp0 hf0 => ?_⟩
          · rw [tset_cell iv hf8 hj6] at hx
            split at hx
            · rename_i e
              injection hx with hx
              obtain ⟨rfl, rfl⟩ := e
              exact .inr ⟨k, p, hx.symm, hp, hf, ea, eb⟩
            · exact ih.ent f' j' x hx
          · rw [tset_cell iv hf8 hj6]
            rcases Nat.lt_or_ge a k with h1 | h1
            · obtain ⟨a', q, hc', hq, hle⟩ := ih.best a p0 h1 hp0 hf0
              split
              · rename_i e
                rw [e.1, e.2] at hc'
                rw [newer_some ea eb hc' hq] at hn
                have := of_decide_eq_true hn
                exact ⟨k, p, rfl, hp, by omega⟩
              · exact ⟨a', q, hc', hq, hle⟩
            · obtain rfl : a = k := by omega
              rw [hp] at hp0
              injection hp0 with hp0
              subst hp0
              rw [ea, eb, if_pos ⟨by simp, by simp⟩]
              exact ⟨a, p, rfl, hp, Int.le_refl _⟩
theorem readV_at {bs : List Bk} (hd : devB bs = true) {a : Nat} {q : Pg} (h : pageAt bs a = some q) : readV bs (a : Int) = q := by
  unfold readV
  rw [if_pos hd, if_pos (by omega), Int.toNat_natCast, h]
  rfl
/-- Every place holds a hole or a page of its own: then there are values. -/
theorem vals_all {bs : List Bk} {xs : List Int} {f : Int} (z : Nat) (h : ∀ k : Nat, k < z → ∀ x, xs[k]? = some x → x < 0 ∨ isAt (readV bs x) f k = true) (hz : z ≤ xs.length) : ∃ l, valsTo bs xs f z = some l := by
  induction z with
  | zero => exact ⟨[], rfl⟩
  | succ z ih =>
    obtain ⟨l, hl⟩ := ih (fun k hk => h k (by omega)) (by omega)
    obtain ⟨x, hx⟩ : ∃ x, xs[z]? = some x := ⟨_, List.getElem?_eq_getElem (by omega)⟩
    by_cases h0 : x < 0
    · exact ⟨_, vals_hole hl hx h0⟩
    · exact ⟨_, vals_page hl hx h0 ((h z (by omega) x hx).resolve_left h0)⟩
/-- The table of a valid device. -/
theorem tof_facts {bs : List Bk} {L : List (List Int)} {m n : Nat} (hd : devB bs = true) (h : TOfIs bs L m) (hl : bs.length = n) : tabB L = true ∧
    (∀ (k : Nat) (p : Pg), k < 4 * n → readV bs (k : Int) = p → p.f = true → ∃ (y : Int) (q : Pg), tgetV L p.a p.b = y ∧ readV bs y = q ∧ q.f = true ∧ p.d ≤ q.d ∧ sameB p.f p.a p.b p.c p.d q.f q.a q.b q.c q.d = true) ∧
    ∀ f : Nat, f < 8 → (fvalV bs L f).2 = true := by
  obtain ⟨⟨h1, h12⟩, hall⟩ := dev_parts hd
  have h4 : ∀ b, b ∈ bs → b.ps.length = 4 := fun b hm => (block_parts (hall b hm)).2.1
  obtain ⟨rfl, _⟩ := h
  rw [of_yes hd]
  have hT := (of_inv hd (4 * bs.length) (by omega)).tv
  have hO := of_best hd (4 * bs.length) (by omega)
  have hv := (tabB_iff _).2 hT
  refine ⟨hv, fun k p hk hr hf => ?_, fun f hf => ?_⟩
  · obtain ⟨p', hp'⟩ := page_some h4 (a := k) (by omega)
    rw [readV_at hd hp'] at hr
    subst hr
    obtain ⟨fn, j, ea, eb, hf8, hj6⟩ := full_in hd hp' hf
    obtain ⟨a, q, hc, hq, hle⟩ := hO.best k p' (by omega) hp' hf
    rw [ea, eb] at hc
    simp only [Int.toNat_natCast] at hc
    rcases hO.ent fn j _ hc with h0 | ⟨a', q', e1, hq', hqf, hqa, hqb⟩
    · omega
    · obtain rfl : a = a' := by omega
      rw [hq] at hq'
      injection hq' with hq'
      subst hq'
      refine ⟨(a : Int), q, ?_, readV_at hd hq, hqf, hle, ?_⟩
      · rw [ea, eb]
        exact tget_at (arg_yes hv (inB_iff.2 ⟨by omega, by omega⟩) (inB_iff.2 ⟨by omega, by omega⟩)) hc
      · have v1 := page_valid hd hp'
        have v2 := page_valid hd hq
        rw [hf, ea, eb] at v1
        rw [hqf, hqa, hqb] at v2
        simp only [sameB, hf, hqf, ea, eb, hqa, hqb, v1, v2, decide_true, Bool.and_self]
  · have hf' : inB (f : Int) 0 7 = true := inB_iff.2 ⟨by omega, by omega⟩
    have h8 := hT.len
    have hx := List.getElem?_eq_getElem (l := tabTo bs (4 * bs.length)) (i := f) (by omega)
    have h6 := hT.six _ (List.mem_of_getElem? hx)
    obtain ⟨l, hl'⟩ := vals_all (bs := bs) (xs := (tabTo bs (4 * bs.length))[f]) (f := (f : Int)) (szAt (tabTo bs (4 * bs.length))[f] 6) (fun k hk x hxk => by
      rcases hO.ent f k x (cellO_of hx hxk) with rfl | ⟨a, q, rfl, hq, hqf, hqa, hqb⟩
      · exact .inl (by omega)
      · exact .inr (by rw [readV_at hd hq]; simp [isAt, hqf, hqa, hqb])) (by have := szAt_le (tabTo bs (4 * bs.length))[f] 6; omega)
    rw [fval_some hd (file_yes hv hf') hx hl']
theorem vals_get {bs : List Bk} {xs l : List Int} {f : Int} {z : Nat} (h : valsTo bs xs f z = some l) {k : Nat} (hk : k < z) (hz : z ≤ xs.length) : l[k]? = some (readV bs (xs.getD k (-1))).c := by
  induction z generalizing l with
  | zero => omega
  | succ z ih =>
    simp only [valsTo, Option.bind_eq_some_iff] at h
    obtain ⟨t, ht, h⟩ := h
    have hlen := vals_len ht
    have last : ∀ v : Int, (k < z → t[k]? = some (readV bs (xs.getD k (-1))).c) → (k = z → v = (readV bs (xs.getD k (-1))).c) → (t ++ [v])[k]? = some (readV bs (xs.getD k (-1))).c := fun v h1 h2 => by
      rcases Nat.lt_or_ge k z with h3 | h3
      · rw [List.getElem?_append_left (by omega)]
        exact h1 h3
      · obtain rfl : k = z := by omega
        rw [List.getElem?_append_right (by omega), hlen, Nat.sub_self, h2 rfl]
        rfl
    split at h
    · rename_i h0
      injection h with h
      subst h
      exact last 0 (fun h1 => ih ht h1 (by omega)) (fun e => by subst e; rw [readV_neg h0]; rfl)
    · split at h
      · injection h with h
        subst h
        exact last _ (fun h1 => ih ht h1 (by omega)) (fun e => by subst e; rfl)
      · cases h
/-- What FileValues answers, told by cases. -/
theorem fval_cases {bs : List Bk} {xss : List (List Int)} {f : Int} {X : List Int} {r : Bool} (h : fvalV bs xss f = (X, r)) : (r = false ∧ X = []) ∨ (r = true ∧ X.length ≤ 6 ∧ fsizeV xss f = (X.length : Nat) ∧ ∀ k : Nat, k < X.length → X[k]? = some (readV bs (tgetV xss f k)).c) := by
  cases hd : devB bs
  · rw [fval_no1 hd] at h
    injection h with h1 h2
    exact .inl ⟨h2.symm, h1.symm⟩
  cases hB : fileB xss f
  · rw [fval_no2 hB] at h
    injection h with h1 h2
    exact .inl ⟨h2.symm, h1.symm⟩
  obtain ⟨hv, hf⟩ := file_is hB
  obtain ⟨fn, rfl, hfn⟩ := inB_nat (m := 7) hf
  have hT := (tabB_iff _).1 hv
  have h8 := hT.len
  have hx := List.getElem?_eq_getElem (l := xss) (i := fn) (by omega)
  have h6 := hT.six _ (List.mem_of_getElem? hx)
  have hz := szAt_le xss[fn] 6
  cases hvv : valsTo bs xss[fn] (fn : Int) (szAt xss[fn] 6) with
  | none =>
    rw [fval_none hd hB hx hvv] at h
    injection h with h1 h2
    exact .inl ⟨h2.symm, h1.symm⟩
  | some l =>
    rw [fval_some hd hB hx hvv] at h
    injection h with h1 h2
    subst h1; subst h2
    have hlen := vals_len hvv
    refine .inr ⟨rfl, by omega, by rw [fsize_at hB hx, hlen], fun k hk => ?_⟩
    rw [vals_get hvv (by omega) (by omega)]
    have hc := List.getElem?_eq_getElem (l := xss[fn]) (i := k) (by omega)
    rw [tget_at (arg_yes hv hf (inB_iff.2 ⟨by omega, by omega⟩)) (cellO_of hx hc), List.getD_eq_getElem?_getD, hc, Option.getD_some]
section
variable {D A : Option Addr} {nd cd n c : Nat} {bs : List Bk} {ls : List Li} {f : Int} {X : List Int} {r : Bool} {w : World}
end
end Go.Proofs.Yteniikfgellhfaa
