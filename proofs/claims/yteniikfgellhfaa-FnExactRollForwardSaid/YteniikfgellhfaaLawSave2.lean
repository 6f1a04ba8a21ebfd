/- FnExactNewerSave: a table that one call has made, in a variable made at any place among the calls. -/
import Derived.Test.YteniikfgellhfaaLawSave
import Derived.Test.YteniikfgellhfaaDag
namespace Go.Proofs.Yteniikfgellhfaa
open Go.ChangeShapes Go.WideShapes Go.ChangeAt Go.RowKit Go.Deep
set_option linter.unusedVariables false

theorem cell_far1 {wz : World} {p q : Addr} {u v : Value} (h : wz.cell? q = some v) (hn : q.block ≠ p.block) : (wz.setCell p u).cell? q = some v := (World.cell?_setCell_other wz p q u (fun e => hn (by rw [e]))).trans h
/-- A table in a variable: all their memory lies in blocks lo .. hi - 1. -/
def TP (w : World) (lo hi V : Nat) (A : Option Addr) (n c : Nat) (ts : List Li) (wr : World) : Prop :=
  (TOwn wr lo (.slice A n c) ts ∧ ts.length = n) ∧ Blk wr V 40 #[.slice A n c] ∧ (lo ≤ V ∧ V < hi) ∧ ((∀ a, A = some a → a.block < hi) ∧ ∀ (l : Li) (a : Addr), l ∈ ts → l.A = some a → a.block < hi) ∧ hi ≤ wr.heap.size ∧ w.heap.size ≤ lo ∧ w.grownBy wr none
section
variable {w wr w' : World} {lo hi lox hix V n c : Nat} {A : Option Addr} {ts : List Li}
theorem TP.keep (H : TP w lo hi V A n c ts wr) (k : wr.grownBy w' none) : TP w lo hi V A n c ts w' :=
  ⟨⟨H.1.1.keep k, H.1.2⟩, H.2.1.keep k, H.2.2.1, H.2.2.2.1, Nat.le_trans H.2.2.2.2.1 k.size, H.2.2.2.2.2.1, grown_trans H.2.2.2.2.2.2 k⟩
theorem TP.row (H : TP w lo hi V A n c ts wr) : TRow wr wr.heap.size A ts := H.1.1.row
theorem TP.cell (H : TP w lo hi V A n c ts wr) : wr.cell? ⟨V, 0, none⟩ = some (.slice A n c) := H.2.1.cell 0
theorem TP.start (hG : w.grownBy wr none) (hlo : w.heap.size ≤ lo) (ht : TOwn wr lo (.slice A n c) ts) (hl : ts.length = n) (hV : Blk wr V 40 #[.slice A n c]) (h1 : lo ≤ V) : TP w lo wr.heap.size V A n c ts wr := by
  refine ⟨⟨ht, hl⟩, hV, ⟨h1, hV.lt⟩, ⟨fun a e => ?_, fun l a hb e => ?_⟩, Nat.le_refl _, hlo, hG⟩
  · exact (VOwn.lt ht.1 a.block (by subst e; rfl)).2
  · exact (VOwn.lt (ht.2.1 l hb) a.block (by simp [Li.row, e, Value.ownBlock])).2
theorem TP.tabAt (H : TP w lo hi V A n c ts wr) : (∀ g, (Value.slice A n c).ownBlock = some g → lo ≤ g ∧ g < hi) ∧ ∀ (l : Li) (g : Nat), l ∈ ts → l.row.ownBlock = some g → lo ≤ g ∧ g < hi := by
  refine ⟨fun g e => ⟨(VOwn.lt H.1.1.1 g e).1, ?_⟩, fun l g hl e => ⟨(VOwn.lt (H.1.1.2.1 l hl) g e).1, ?_⟩⟩
  · cases hA : A with
    | none => rw [hA] at e; simp [Value.ownBlock] at e
    | some ad =>
      rw [hA] at e
      simp only [Value.ownBlock, Option.some.injEq] at e
      rw [← e]
      exact H.2.2.2.1.1 ad hA
  · cases hA : l.A with
    | none => simp [Li.row, hA, Value.ownBlock] at e
    | some ad =>
      simp only [Li.row, hA, Value.ownBlock, Option.some.injEq] at e
      rw [← e]
      exact H.2.2.2.1.2 l ad hl hA
theorem TP.marked (H : TP w lo hi V A n c ts wr) (hd : hi ≤ lox ∨ hix ≤ lo) (hlo : w.heap.size ≤ lox) (k : Out lox hix wr w') : TP w lo hi V A n c ts w' := by
  have h2 := H.tabAt
  obtain ⟨v1, v2⟩ := H.2.2.1
  exact ⟨⟨⟨ownsRow_out H.1.1.1 k (fun g e => by have := h2.1 g e; omega), fun l hl => ownsRow_out (H.1.1.2.1 l hl) k (fun g e => by have := h2.2 l g hl e; omega), H.1.1.2.2⟩, H.1.2⟩, H.2.1.outV k (by omega), H.2.2.1, H.2.2.2.1, Nat.le_trans H.2.2.2.2.1 k.size, H.2.2.2.2.2.1, k.grown H.2.2.2.2.2.2 hlo⟩
end
/-- A table of so many lists in memory of its own, a number, and whether there is one. -/
def NewMadeN (T : List (List Int)) (n : Nat) (M : Int) (ok : Bool) (w : World) (e : Ending) (w' : World) : Prop :=
  ∃ (A : Option Addr) (c : Nat) (cs : List Li), e = .returned (.tuple #[.agg #[.slice A n c], .int .i64 M, .bool ok]) ∧ cs.length = n ∧ ll cs = T ∧ TOwn w' w.heap.size (.slice A n c) cs ∧ w.grownBy w' none
theorem NewMade.to {T : List (List Int)} {n : Nat} {M : Int} {ok : Bool} {w w' : World} {e : Ending} (h : NewMade T M ok w e w') (hl : T.length = n) : NewMadeN T n M ok w e w' := by
  obtain ⟨A, m, c, cs, h1, h2, h3, h4⟩ := h
  obtain rfl : m = n := by rw [← h2, ← hl, ← h3, ll_length]
  exact ⟨A, c, cs, h1, h2, h3, h4⟩
theorem newV_small {N S N' S' M : Int} {X X' : List Int} {T : List (List Int)} {ok : Bool} (h : newV N X S N' X' S' = (T, M, ok)) : T.length ≤ 1048576 ∧ ltot T ≤ 1048576 := by
  have h1 := loadV_small (rfl : loadV N X S = ((loadV N X S).1, (loadV N X S).2))
  have h2 := loadV_small (rfl : loadV N' X' S' = ((loadV N' X' S').1, (loadV N' X' S').2))
  unfold newV pickT at h
  split at h
  · injection h with h _
    rw [← h]; exact h1
  · split at h
    · injection h with h _
      rw [← h]; exact h2
    · injection h with h _
      rw [← h]
      exact ⟨by simp, by simp [ltot]⟩
/-- c: how many calls have answered (two copies of saves, and NewerSave); aT: the variable is made. -/
def NS (w0 : World) (X X' : List Int) (n1 : Nat) (T : List (List Int)) (c : Nat) (aT : Bool) (g2 g3 : Nat) (A4 : Option Addr) (c4 : Nat) (cs4 : List Li) (V : Nat) (wz : World) : Prop :=
  w0.grownBy wz none ∧ (1 ≤ c → IRow wz wz.heap.size (some ⟨g2, 0, none⟩) X) ∧ (2 ≤ c → IRow wz wz.heap.size (some ⟨g3, 0, none⟩) X') ∧ (3 ≤ c → (cs4.length = n1 ∧ ll cs4 = T) ∧ TOwn wz w0.heap.size (.slice A4 n1 c4) cs4) ∧
  (aT = true → Blk wz V 40 #[.slice none 0 0] ∧ w0.heap.size ≤ V)
section
variable {w w0 wz wn : World} {X X' : List Int} {n1 c g2 g3 g2' g3' c4 c4' V : Nat} {T : List (List Int)} {aT : Bool} {A4 A4' : Option Addr} {cs4 cs4' : List Li}
theorem NS.keep (H : NS w0 X X' n1 T c aT g2 g3 A4 c4 cs4 V wz) (k : wz.grownBy wn none) : NS w0 X X' n1 T c aT g2 g3 A4 c4 cs4 V wn :=
  ⟨grown_trans H.1 k, fun h => VRow.here (VRow.kept (H.2.1 h) k), fun h => VRow.here (VRow.kept (H.2.2.1 h) k), fun h => ⟨(H.2.2.2.1 h).1, (H.2.2.2.1 h).2.keep k⟩, fun h => ⟨(H.2.2.2.2 h).1.keep k, (H.2.2.2.2 h).2⟩⟩
theorem NS.start (w0 : World) (X X' : List Int) (n1 : Nat) (T : List (List Int)) : NS w0 X X' n1 T 0 false 0 0 none 0 [] 0 w0 :=
  ⟨grown_refl _ _, fun h => absurd h (by omega), fun h => absurd h (by omega), fun h => absurd h (by omega), fun h => (by cases h)⟩
theorem NS.one {m : Nat} (H : NS w0 X X' n1 T 0 aT g2' g3 A4 c4 cs4 V wz) (ho : IOwn wn wz.heap.size (.slice (some ⟨g2, 0, none⟩) m m) X) (k : wz.grownBy wn none) : NS w0 X X' n1 T 1 aT g2 g3 A4 c4 cs4 V wn :=
  ⟨(H.keep k).1, fun _ => VOwn.row ho, fun h => absurd h (by omega), fun h => absurd h (by omega), (H.keep k).2.2.2.2⟩
theorem NS.two {m : Nat} (H : NS w0 X X' n1 T 1 aT g2 g3' A4 c4 cs4 V wz) (ho : IOwn wn wz.heap.size (.slice (some ⟨g3, 0, none⟩) m m) X') (k : wz.grownBy wn none) : NS w0 X X' n1 T 2 aT g2 g3 A4 c4 cs4 V wn :=
  ⟨(H.keep k).1, fun _ => (H.keep k).2.1 (by omega), fun _ => VOwn.row ho, fun h => absurd h (by omega), (H.keep k).2.2.2.2⟩
theorem NS.three (H : NS w0 X X' n1 T 2 aT g2 g3 A4' c4' cs4' V wz) (h1 : cs4.length = n1) (h2 : ll cs4 = T) (ho : TOwn wn wz.heap.size (.slice A4 n1 c4) cs4) (k : wz.grownBy wn none) : NS w0 X X' n1 T 3 aT g2 g3 A4 c4 cs4 V wn :=
  ⟨(H.keep k).1, fun _ => (H.keep k).2.1 (by omega), fun _ => (H.keep k).2.2.1 (by omega), fun _ => ⟨⟨h1, h2⟩, ho.base_le H.1.size⟩, (H.keep k).2.2.2.2⟩
theorem NS.allT (H : NS w0 X X' n1 T c false g2 g3 A4 c4 cs4 V wz) : NS w0 X X' n1 T c true g2 g3 A4 c4 cs4 wz.heap.size (wz.alloc (.cells #[.slice none 0 0] 40)) :=
  have k := grown_alloc (grown_refl wz none) (.cells #[.slice none 0 0] 40)
  ⟨(H.keep k).1, (H.keep k).2.1, (H.keep k).2.2.1, (H.keep k).2.2.2.1, fun _ => ⟨Blk.new wz _ _, H.1.size⟩⟩
theorem NS.vars (H : NS w0 X X' n1 T 3 true g2 g3 A4 c4 cs4 V wz) : w0.heap.size ≤ V ∧ wz.cell? ⟨V, 0, none⟩ = some (.slice none 0 0) ∧ wz.frozen? ⟨V, 0, none⟩ = false :=
  ⟨(H.2.2.2.2 rfl).2, (H.2.2.2.2 rfl).1.cell 0, (H.2.2.2.2 rfl).1.frozen 0⟩
theorem NS.pack (H : NS w0 X X' n1 T 3 true g2 g3 A4 c4 cs4 V wz) (hG : w.grownBy w0 none) : ∃ hi, TP w w0.heap.size hi V A4 n1 c4 cs4 (wz.setCell ⟨V, 0, none⟩ (.slice A4 n1 c4)) ∧ w0.grownBy (wz.setCell ⟨V, 0, none⟩ (.slice A4 n1 c4)) none ∧ w0.heap.size ≤ hi ∧ hi = (wz.setCell ⟨V, 0, none⟩ (.slice A4 n1 c4)).heap.size := by
  obtain ⟨hV, h1⟩ := H.2.2.2.2 rfl
  obtain ⟨hx, ht⟩ := H.2.2.2.1 (by omega)
  have kk := grown_put H.1 (p := ⟨V, 0, none⟩) h1 (.slice A4 n1 c4)
  exact ⟨_, TP.start (grown_trans hG kk) hG.size (ht.put hV 0 _) hx.1 (hV.put 0 (.slice A4 n1 c4)) h1, kk, kk.size, rfl⟩
end
theorem markSave_K {w wr : World} {V n c lo hi K K' : Nat} {N S : Int} {A : Option Addr} {xs : List Int} (hK : K ≤ 7000000) (hK' : K' = K + n) (h : SvV w V N S A n c xs lo hi wr) (hn : n ≤ 1048576) :
    Calls Try.prog 48 #[.agg #[.int .i64 N, .slice A n c, .int .i64 S], .int .i64 (K : Int)] wr fun e w' => e = .returned (.int .i64 (K' : Int)) ∧ Out lo hi wr w' := by
  subst hK'
  exact (markSave_from K hK h hn).mono fun _ _ q => ⟨q.1, q.2.2⟩
theorem markSave_1 {w wr : World} {V n c lo hi K' : Nat} {N S : Int} {A : Option Addr} {xs : List Int} (hK' : K' = 1 + n) (h : SvV w V N S A n c xs lo hi wr) (hn : n ≤ 1048576) :
    Calls Try.prog 48 #[.agg #[.int .i64 N, .slice A n c, .int .i64 S], .int .i64 1] wr fun e w' => e = .returned (.int .i64 (K' : Int)) ∧ Out lo hi wr w' := markSave_K (K := 1) (by decide) hK' h hn
end Go.Proofs.Yteniikfgellhfaa
