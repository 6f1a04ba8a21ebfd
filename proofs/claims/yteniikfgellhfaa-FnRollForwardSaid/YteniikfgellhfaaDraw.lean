/- What the model's drawing functions do: they answer numbers in their bounds, and write only into the block of their own reader. -/
import Derived.Test.YteniikfgellhfaaRows
import Derived.Test.YteniikfgellhfaaBits
import Derived.WalkKit
import Derived.ProofKit
import Derived.Lib.Hide
import Derived.OpenShut
import Derived.Laws.OwnMore
import Derived.Deep.Draws
import Derived.Deep.QuietTactic
import Derived.BigQuiet
import Derived.Outline
namespace Go.Proofs.Yteniikfgellhfaa
open Go.ChangeShapes Go.WideShapes Go.ChangeAt Go.RowKit

/-- Block g is just the cells cs, none of them frozen. -/
def Blk (w : World) (g : Nat) (t : TypeId) (cs : Array Value) : Prop := w.heap[g]? = some (.cells cs t (0, 0))
section
variable {w w' : World} {g : Nat} {t : TypeId} {cs : Array Value}
theorem Blk.lt (h : Blk w g t cs) : g < w.heap.size := by
  rcases Nat.lt_or_ge g w.heap.size with hlt | hge
  · exact hlt
  · unfold Blk at h; rw [Array.getElem?_eq_none hge] at h; cases h
theorem Blk.cell (h : Blk w g t cs) (i : Nat) : w.cell? ⟨g, i, none⟩ = cs[i]? := cell_of_row w g i cs t (0, 0) h
theorem Blk.frozen (h : Blk w g t cs) (i : Nat) : w.frozen? ⟨g, i, none⟩ = false := by
  unfold Blk at h
  simp [World.frozen?, h]
theorem Blk.new (w : World) (t : TypeId) (cs : Array Value) : Blk (w.alloc (.cells cs t)) w.heap.size t cs := heap_alloc_new w _
theorem Blk.drewN (h : Blk w g t cs) (n : Nat) : Blk (w.drewN n) g t cs := h
theorem Blk.alloc (h : Blk w g t cs) (o : Obj) : Blk (w.alloc o) g t cs := (Below.heap_alloc w o g h.lt).trans h
theorem Blk.put (h : Blk w g t cs) (i : Nat) (u : Value) : Blk (w.setCell ⟨g, i, none⟩ u) g t (cs.setIfInBounds i u) := by
  unfold Blk at h ⊢
  simp [World.setCell, Array.getElem?_modify, h]
theorem Blk.far (h : Blk w g t cs) {p : Addr} (hp : g ≠ p.block) (u : Value) : Blk (w.setCell p u) g t cs := (Below.heap_setCell w p u g hp).trans h
theorem Blk.below {B : Nat} (h : Blk w g t cs) (hb : Below B w w') (hg : g < B) : Blk w' g t cs := (hb.block g hg).trans h
theorem Blk.grown {row : Option Nat} (h : Blk w g t cs) (hb : w.grownBy w' row) (hg : some g ≠ row) : Blk w' g t cs := (hb.block g h.lt hg).trans h
end

/-- The code that a reader reads: n bytes, at most 2000, below block B. -/
def Code (w : World) (B : Nat) (A : Option Addr) (n : Nat) : Prop :=
  n ≤ 2000 ∧ (0 < n → ∃ (b off : Nat) (z : Nat → Int), A = some ⟨b, off, none⟩ ∧ b < B ∧ ∀ i, i < n → w.cell? ⟨b, off + i, none⟩ = some (.int .u8 (z i)) ∧ 0 ≤ z i ∧ z i ≤ 255)
/-- Block g is a reader that has read at most P bytes. -/
def Rd (w : World) (B g P : Nat) : Prop :=
  ∃ (A : Option Addr) (n c p : Nat), Blk w g 111 #[.slice A n c, .int .i64 p] ∧ B ≤ g ∧ p ≤ P ∧ Code w B A n
/-- What a draw answers: a number in 0..n-1, or 0; the reader has read one byte more, and only its block has changed. -/
def Picked (w : World) (B g P : Nat) (n : Int) (e : Ending) (w' : World) : Prop :=
  ∃ v : Int, e = .returned (.int .i64 v) ∧ 0 ≤ v ∧ (v < n ∨ v = 0) ∧ Rd w' B g (P + 1) ∧ w.grownBy w' (some g)

/-- The reader's place is one further; the answer is in 0..N-1. -/
def PickOut (g p : Nat) (N : Int) (w : World) (e : Ending) (w' : World) : Prop :=
  ∃ (v : Int) (k : Nat), e = .returned (.int .i64 v) ∧ 0 ≤ v ∧ (v < N ∨ v = 0) ∧ w' = (w.setCell ⟨g, 1, none⟩ (.int .i64 ((p : Int) + 1))).drewN k

theorem mix_bd (X N : Int) (h0 : 0 ≤ X) (h1 : X < 4611686018427387904) (hN : 1 ≤ N) :
    0 ≤ (bits .xor .i64 X (wrap64 (X.tdiv 64))).tmod N ∧ (bits .xor .i64 X (wrap64 (X.tdiv 64))).tmod N < N := by
  obtain ⟨A, rfl⟩ := Int.eq_ofNat_of_zero_le h0
  have e : wrap64 ((A : Int).tdiv 64) = ((A / 64 : Nat) : Int) := by
    rw [Int.tdiv_eq_ediv_of_nonneg (by omega), IntWalk.wrap64_in _ ⟨by omega, by omega⟩]; rfl
  rw [e, xorI64 A (A / 64) (by omega) (by omega), Int.tmod_eq_emod_of_nonneg (by omega)]
  exact ⟨Int.emod_nonneg _ (by omega), Int.emod_lt_of_pos _ (by omega)⟩
theorem mix_in (a b p n : Int) (ha : 0 ≤ a ∧ a ≤ 255) (hb : 0 ≤ b ∧ b ≤ 255) (hp : 0 ≤ p ∧ p ≤ 1000000000000) (hn : 0 < n) :
    0 ≤ wrap64 (a * 131 + b * 1117 + p * 29 + wrap64 (wrap64 (p / n) * 53)) ∧ wrap64 (a * 131 + b * 1117 + p * 29 + wrap64 (wrap64 (p / n) * 53)) < 4611686018427387904 := by
  have h1 : 0 ≤ p / n := Int.ediv_nonneg (by omega) (by omega)
  have h2 : p / n ≤ p := Int.ediv_le_self _ (by omega)
  rw [IntWalk.wrap64_in (p / n) ⟨by omega, by omega⟩, IntWalk.wrap64_in (p / n * 53) ⟨by omega, by omega⟩, IntWalk.wrap64_in _ ⟨by omega, by omega⟩]
  omega

theorem pick_zero (w : World) (g p : Nat) (A : Option Addr) (n c : Nat) (N : Int) (hb : Blk w g 111 #[.slice A n c, .int .i64 p]) (hp : p ≤ 1000000000000) (hN : N < 1) :
    Calls Try.prog 51 #[.pointer (some ⟨g, 0, none⟩), .int .i64 N] w (PickOut g p N w) := by
  have c0 : w.cell? ⟨g, 0, none⟩ = some (.slice A n c) := hb.cell 0
  have c1 : w.cell? ⟨g, 1, none⟩ = some (.int .i64 p) := hb.cell 1
  have f1 : w.frozen? ⟨g, 1, none⟩ = false := hb.frozen 1
  have t1 : decide (N < 1) = true := decide_eq_true hN
  clear hb
  go_enter Try.func51, Try.ntmps51
  go_wp2
  go_ret
  exact ⟨0, 0, rfl, Int.le_refl _, .inr rfl, rfl⟩
theorem pick_none (w : World) (g p : Nat) (A : Option Addr) (c : Nat) (N : Int) (hb : Blk w g 111 #[.slice A 0 c, .int .i64 p]) (hp : p ≤ 1000000000000) (hN : 1 ≤ N) :
    Calls Try.prog 51 #[.pointer (some ⟨g, 0, none⟩), .int .i64 N] w (PickOut g p N w) := by
  have c0 : w.cell? ⟨g, 0, none⟩ = some (.slice A 0 c) := hb.cell 0
  have c1 : w.cell? ⟨g, 1, none⟩ = some (.int .i64 p) := hb.cell 1
  have f1 : w.frozen? ⟨g, 1, none⟩ = false := hb.frozen 1
  have t1 : decide (N < 1) = false := decide_eq_false (by omega)
  clear hb
  go_enter Try.func51, Try.ntmps51
  go_wp2
  go_ret
  exact ⟨0, 0, rfl, Int.le_refl _, .inr rfl, rfl⟩
theorem pick_at (w : World) (g b off n c p : Nat) (N z : Int) (hb : Blk w g 111 #[.slice (some ⟨b, off, none⟩) n c, .int .i64 p]) (hp : p ≤ 1000000000000) (hpn : p < n)
    (hN : 1 ≤ N) (hne : b ≠ g) (hc : w.cell? ⟨b, off + p, none⟩ = some (.int .u8 z)) (hz : 0 ≤ z ∧ z ≤ 255) :
    Calls Try.prog 51 #[.pointer (some ⟨g, 0, none⟩), .int .i64 N] w (PickOut g p N w) := by
  have c0 : w.cell? ⟨g, 0, none⟩ = some (.slice (some ⟨b, off, none⟩) n c) := hb.cell 0
  have c1 : w.cell? ⟨g, 1, none⟩ = some (.int .i64 p) := hb.cell 1
  have f1 : w.frozen? ⟨g, 1, none⟩ = false := hb.frozen 1
  obtain ⟨e1, e2⟩ := hz
  have t1 : decide (N < 1) = false := decide_eq_false (by omega)
  have t2 : ((n : Int) == 0) = false := by simp; omega
  clear hb
  go_enter Try.func51, Try.ntmps51
  go_wp2
  go_ret
  exact ⟨_, 0, rfl, Int.emod_nonneg _ (by omega), .inl (Int.emod_lt_of_pos _ (by omega)), rfl⟩
theorem pick_mix (w : World) (g b off n c p : Nat) (N : Int) (z : Nat → Int) (hb : Blk w g 111 #[.slice (some ⟨b, off, none⟩) n c, .int .i64 p]) (hn : 0 < n) (hn2 : n ≤ 2000) (hp : p ≤ 1000000000000)
    (hnp : n ≤ p) (hN : 1 ≤ N) (hne : b ≠ g) (hcz : ∀ i, i < n → w.cell? ⟨b, off + i, none⟩ = some (.int .u8 (z i)) ∧ 0 ≤ z i ∧ z i ≤ 255) :
    Calls Try.prog 51 #[.pointer (some ⟨g, 0, none⟩), .int .i64 N] w (PickOut g p N w) := by
  have c0 : w.cell? ⟨g, 0, none⟩ = some (.slice (some ⟨b, off, none⟩) n c) := hb.cell 0
  have c1 : w.cell? ⟨g, 1, none⟩ = some (.int .i64 p) := hb.cell 1
  have f1 : w.frozen? ⟨g, 1, none⟩ = false := hb.frozen 1
  have hl1 : p % n < n := Nat.mod_lt _ hn
  have hl2 : (p * 7 + 3) % n < n := Nat.mod_lt _ hn
  obtain ⟨d1, e1, e2⟩ := hcz _ hl1
  obtain ⟨d2, e3, e4⟩ := hcz _ hl2
  have g1 : 0 ≤ (p : Int) % n := Int.emod_nonneg _ (by omega)
  have g2 : (p : Int) % n < n := Int.emod_lt_of_pos _ (by omega)
  have g3 : 0 ≤ ((p : Int) * 7 + 3) % n := Int.emod_nonneg _ (by omega)
  have g4 : ((p : Int) * 7 + 3) % n < n := Int.emod_lt_of_pos _ (by omega)
  have t1 : decide (N < 1) = false := decide_eq_false (by omega)
  have t2 : ((n : Int) == 0) = false := by simp; omega
  clear hcz hb
  go_enter Try.func51, Try.ntmps51
  go_wp2_with fail
  go_quiet (fail)
  go_wp2
  go_ret
  have hb := mix_in (z (p % n)) (z ((p * 7 + 3) % n)) p n ⟨e1, e2⟩ ⟨e3, e4⟩ ⟨by omega, by omega⟩ (by omega)
  have hm := mix_bd _ N hb.1 hb.2 hN
  exact ⟨_, _, rfl, hm.1, .inl hm.2, rfl⟩

theorem grown_refl (w : World) (row : Option Nat) : w.grownBy w row := ⟨rfl, rfl, rfl, Nat.le_refl _, fun _ _ _ => rfl⟩
theorem grown_trans {a b c : World} {row : Option Nat} (h : a.grownBy b row) (k : b.grownBy c row) : a.grownBy c row :=
  ⟨k.os.trans h.os, k.tape.trans h.tape, k.output.trans h.output, Nat.le_trans h.size k.size, fun i hi hne => (k.block i (Nat.lt_of_lt_of_le hi h.size) hne).trans (h.block i hi hne)⟩
theorem grown_drewN {a w : World} {row : Option Nat} (h : a.grownBy w row) (n : Nat) : a.grownBy (w.drewN n) row := ⟨h.os, h.tape, h.output, h.size, h.block⟩
theorem grown_alloc {a w : World} {row : Option Nat} (h : a.grownBy w row) (o : Obj) : a.grownBy (w.alloc o) row :=
  ⟨h.os, h.tape, h.output, Nat.le_trans h.size (by simp), fun i hi hne => (Below.heap_alloc w o i (Nat.lt_of_lt_of_le hi h.size)).trans (h.block i hi hne)⟩
theorem grown_set {a w : World} {g : Nat} (h : a.grownBy w (some g)) {p : Addr} (hp : p.block = g ∨ a.heap.size ≤ p.block) (u : Value) : a.grownBy (w.setCell p u) (some g) :=
  ⟨h.os, h.tape, h.output, by simpa [World.setCell] using h.size, fun i hi hne => (Below.heap_setCell w p u i (by
    rintro rfl
    rcases hp with hp | hp
    · exact hne (by rw [hp])
    · omega)).trans (h.block i hi hne)⟩
theorem Below.of_grown {a w : World} {g B : Nat} (h : a.grownBy w (some g)) (hg : B ≤ g) (hB : B ≤ a.heap.size) : Below B a w :=
  ⟨h.os, h.tape, h.output, h.size, fun i hi => h.block i (by omega) (fun e => by injection e with e; omega)⟩
theorem grown_some {a b : World} {g : Nat} (h : a.grownBy b none) : a.grownBy b (some g) :=
  ⟨h.os, h.tape, h.output, h.size, fun i hi _ => h.block i hi (by intro e; cases e)⟩
theorem Below.of_kept {a w : World} {B : Nat} (h : a.grownBy w none) (hB : B ≤ a.heap.size) : Below B a w :=
  ⟨h.os, h.tape, h.output, h.size, fun i hi => h.block i (by omega) (fun e => by cases e)⟩
theorem Below.and_kept {a b w : World} (h : Below a.heap.size a b) (k : b.grownBy w none) : Below a.heap.size a w := h.trans (Below.of_kept k h.size)
theorem Code.keep {w w' : World} {B n : Nat} {A : Option Addr} (h : Code w B A n) (hk : ∀ p : Addr, p.block < B → w'.cell? p = w.cell? p) : Code w' B A n :=
  ⟨h.1, fun hn => by
    obtain ⟨b, off, z, e, hb, hc⟩ := h.2 hn
    exact ⟨b, off, z, e, hb, fun i hi => ⟨(hk _ hb).trans (hc i hi).1, (hc i hi).2⟩⟩⟩
theorem Rd.lt {w : World} {B g P : Nat} (h : Rd w B g P) : g < w.heap.size := by
  obtain ⟨A, n, c, p, hb, _⟩ := h
  exact hb.lt
theorem Rd.more {w : World} {B g P Q : Nat} (h : Rd w B g P) (hq : P ≤ Q) : Rd w B g Q := by
  obtain ⟨A, n, c, p, hb, hB, hp, hC⟩ := h
  exact ⟨A, n, c, p, hb, hB, Nat.le_trans hp hq, hC⟩
theorem Rd.le {w : World} {B g P : Nat} (h : Rd w B g P) : B ≤ g := by
  obtain ⟨A, n, c, p, hb, hB, _⟩ := h
  exact hB
theorem Rd.drewN {w : World} {B g P : Nat} (h : Rd w B g P) (k : Nat) : Rd (w.drewN k) B g P := h
theorem Rd.alloc {w : World} {B g P : Nat} (h : Rd w B g P) (o : Obj) : Rd (w.alloc o) B g P := by
  have hlt := h.lt
  obtain ⟨A, n, c, p, hb, hB, hp, hC⟩ := h
  exact ⟨A, n, c, p, hb.alloc o, hB, hp, hC.keep fun q hq => World.cell?_alloc_lt w o q (by omega)⟩
theorem Rd.far {w : World} {B g P : Nat} (h : Rd w B g P) {p : Addr} (hp : g ≠ p.block) (hB : B ≤ p.block) (u : Value) : Rd (w.setCell p u) B g P := by
  obtain ⟨A, n, c, q, hb, hB', hq, hC⟩ := h
  exact ⟨A, n, c, q, hb.far hp u, hB', hq, hC.keep fun r hr => World.cell?_setCell_other w p r u (fun e => by subst e; omega)⟩
theorem Rd.grown {w w' : World} {B g P : Nat} {row : Option Nat} (h : Rd w B g P) (hg : w.grownBy w' row) (hr : ∀ k, row = some k → B ≤ k ∧ k ≠ g) : Rd w' B g P := by
  have hlt := h.lt
  obtain ⟨A, n, c, p, hb, hB, hp, hC⟩ := h
  exact ⟨A, n, c, p, hb.grown hg (fun e => (hr _ e.symm).2 rfl), hB, hp, hC.keep fun q hq => World.cell?_of_block (hg.block q.block (by omega) (fun e => by have := (hr _ e.symm).1; omega))⟩

theorem picked_of {w w' : World} {B g P p : Nat} {N : Int} {e : Ending} {A : Option Addr} {n c : Nat} (hb : Blk w g 111 #[.slice A n c, .int .i64 p]) (hB : B ≤ g) (hp : p ≤ P) (hC : Code w B A n)
    (h : PickOut g p N w e w') : Picked w B g P N e w' := by
  obtain ⟨v, k, rfl, h0, h1, rfl⟩ := h
  refine ⟨v, rfl, h0, h1, ⟨A, n, c, p + 1, ?_, hB, by omega, ?_⟩, grown_drewN (grown_set (grown_refl w _) (.inl rfl) _) k⟩
  · have := hb.put 1 (.int .i64 ((p : Int) + 1))
    exact this
  · exact hC.keep fun q hq => World.cell?_setCell_other w ⟨g, 1, none⟩ q _ (fun e => by subst e; simp at hq; omega)
theorem pick_any (w : World) (B g P : Nat) (N : Int) (h : Rd w B g P) (hP : P ≤ 1000000000000) :
    Calls Try.prog 51 #[.pointer (some ⟨g, 0, none⟩), .int .i64 N] w (Picked w B g P N) := by
  obtain ⟨A, n, c, p, hb, hB, hp, hC⟩ := h
  by_cases hN : N < 1
  · exact (pick_zero w g p A n c N hb (by omega) hN).mono fun _ _ => picked_of hb hB hp hC
  · rcases Nat.eq_zero_or_pos n with rfl | hn
    · exact (pick_none w g p A c N hb (by omega) (by omega)).mono fun _ _ => picked_of hb hB hp hC
    · obtain ⟨b, off, z, rfl, hbB, hcz⟩ := hC.2 hn
      rcases Nat.lt_or_ge p n with hpn | hpn
      · exact (pick_at w g b off n c p N (z p) hb (by omega) hpn (by omega) (by omega) (hcz p hpn).1 (hcz p hpn).2).mono fun _ _ => picked_of hb hB hp hC
      · exact (pick_mix w g b off n c p N z hb hn hC.1 (by omega) hpn (by omega) (by omega) hcz).mono fun _ _ => picked_of hb hB hp hC
/-- A draw whose bound is positive: a number in 0..N-1. -/
def PickedLt (w : World) (B g P : Nat) (n : Int) (e : Ending) (w' : World) : Prop :=
  ∃ v : Int, e = .returned (.int .i64 v) ∧ 0 ≤ v ∧ v < n ∧ Rd w' B g (P + 1) ∧ w.grownBy w' (some g)
theorem pick_lt (w : World) (B g P : Nat) (N : Int) (h : Rd w B g P) (hP : P ≤ 1000000000000) (hN : 1 ≤ N) :
    Calls Try.prog 51 #[.pointer (some ⟨g, 0, none⟩), .int .i64 N] w (PickedLt w B g P N) :=
  (pick_any w B g P N h hP).mono fun _ _ ⟨v, he, h0, h1, h2, h3⟩ => ⟨v, he, h0, by omega, h2, h3⟩
def Odded (w : World) (B g P : Nat) (e : Ending) (w' : World) : Prop :=
  ∃ b : Bool, e = .returned (.bool b) ∧ Rd w' B g (P + 1) ∧ w.grownBy w' (some g)
theorem odd_any (w : World) (B g P : Nat) (N : Int) (h : Rd w B g P) (hP : P ≤ 1000000000000) (hN : 1 ≤ N) (hN2 : N ≤ 1000000000000) :
    Calls Try.prog 91 #[.pointer (some ⟨g, 0, none⟩), .int .i64 N] w (Odded w B g P) := by
  have t1 : decide (0 < N) = true := decide_eq_true (by omega)
  go_enter Try.func91, Try.ntmps91
  go_wp2_with (go_at_call 51; refine (pick_lt _ _ _ _ _ h hP hN).mono ?_; rintro e w1 ⟨v, rfl, v0, v1, h1, hg1⟩)
  go_ret
  exact ⟨_, rfl, h1, hg1⟩
theorem odd_zero (w : World) (g : Nat) :
    Calls Try.prog 91 #[.pointer (some ⟨g, 0, none⟩), .int .i64 0] w fun e w' => e = .returned (.bool false) ∧ w = w' := by
  go_enter Try.func91, Try.ntmps91
  go_wp2
  go_ret
  exact ⟨rfl, rfl⟩
/-- The first draw's code: a slice of bytes that came in. -/
def Bytes (w : World) (B : Nat) (A : Option Addr) (n : Nat) : Prop :=
  0 < n → ∃ (b off : Nat) (z : Nat → Int), A = some ⟨b, off, none⟩ ∧ b < B ∧ ∀ i, i < n → w.cell? ⟨b, off + i, none⟩ = some (.int .u8 (z i)) ∧ 0 ≤ z i ∧ z i ≤ 255
theorem bytes_of {w : World} {a : Option Addr} {len cap : Nat} {zs : List Int}
    (h : (a = none ∧ len = 0 ∧ cap = 0 ∧ zs = []) ∨ ∃ x, a = some x ∧ len ≤ cap ∧ cap ≤ maxLen ∧ zs.length = cap ∧ (∀ i, i < zs.length → w.cell? (x.add i) = some (.int .u8 (zs.getD i 0))) ∧ ∀ n ∈ zs, (Lit.int .u8 n).wf = true) :
    len ≤ cap ∧ cap ≤ 9223372036854775807 ∧ Bytes w w.heap.size a len := by
  rcases h with ⟨rfl, rfl, rfl, rfl⟩ | ⟨x, rfl, hl, hm, hz, hc, hw⟩
  · exact ⟨Nat.le_refl _, by omega, fun h => absurd h (by omega)⟩
  · unfold maxLen at hm
    refine ⟨hl, hm, fun hpos => ?_⟩
    obtain ⟨b, off, rfl, hcell⟩ := ints_at hc (by omega)
    refine ⟨b, off, fun i => zs.getD i 0, rfl, World.block_lt_of_cell? w _ (hcell 0 (by omega)), fun i hi => ⟨hcell i (by omega), ?_⟩⟩
    have hr := range_u8 hw i
    simpa [List.getD_eq_getElem?_getD] using hr
/-- What l20Open answers: a reader in the newest block. -/
def Opened (w : World) (e : Ending) (w' : World) : Prop :=
  e = .returned (.pointer (some ⟨w.heap.size, 0, none⟩)) ∧ Rd w' w.heap.size w.heap.size 0 ∧ Below w.heap.size w w'
theorem open_any (w : World) (A : Option Addr) (n c : Nat) (hn : n ≤ c) (hc : c ≤ 9223372036854775807) (h : Bytes w w.heap.size A n) :
    Calls Try.prog 49 #[.slice A n c] w (Opened w) := by
  by_cases hlt : 2000 < n
  · have hC : Code w w.heap.size A 2000 := ⟨Nat.le_refl _, fun _ => by
      obtain ⟨b, off, z, e, hb, hcz⟩ := h (by omega)
      exact ⟨b, off, z, e, hb, fun i hi => hcz i (by omega)⟩⟩
    obtain ⟨b, off, z, rfl, _⟩ := h (by omega)
    clear h
    go_enter Try.func49, Try.ntmps49
    go_wp2
    go_ret
    refine ⟨rfl, ⟨_, 2000, _, 0, Blk.new w _ _, Nat.le_refl _, Nat.le_refl _, hC.keep fun q hq => World.cell?_alloc_lt w _ q hq⟩, (Below.refl _ _).alloc (Nat.le_refl _) _⟩
  · have hC : Code w w.heap.size A n := ⟨by omega, h⟩
    clear h
    go_enter Try.func49, Try.ntmps49
    go_wp2
    go_ret
    refine ⟨rfl, ⟨_, n, _, 0, Blk.new w _ _, Nat.le_refl _, Nat.le_refl _, hC.keep fun q hq => World.cell?_alloc_lt w _ q hq⟩, (Below.refl _ _).alloc (Nat.le_refl _) _⟩
end Go.Proofs.Yteniikfgellhfaa
