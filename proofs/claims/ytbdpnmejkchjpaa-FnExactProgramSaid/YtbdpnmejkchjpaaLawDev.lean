/- What the exact laws of chapter 5 carry along: a device that came in, and devices that the call owns. -/
import Derived.Test.YtbdpnmejkchjpaaExactDev6
namespace Go.Proofs.Ytbdpnmejkchjpaa
open Go.ChangeShapes Go.WideShapes Go.ChangeAt Go.RowKit

/-- The device that came in. -/
def VD (w : World) (A : Option Addr) (bs : List Bk) (wr : World) : Prop := DRow wr w.heap.size A bs ∧ w.grownBy wr none
/-- A device of the call's own; all its memory lies in blocks lo .. hi - 1. -/
def VX (w : World) (A : Option Addr) (n c : Nat) (bs : List Bk) (lo hi : Nat) (wr : World) : Prop :=
  DOwn wr lo (.slice A n c) bs ∧ bs.length = n ∧ (∀ a, A = some a → a.block < hi) ∧ (∀ (b : Bk) (a : Addr), b ∈ bs → b.A = some a → a.block < hi) ∧ hi ≤ wr.heap.size ∧ w.heap.size ≤ lo ∧ w.grownBy wr none
section
variable {w wr w' : World} {A Ax : Option Addr} {n c nx cx lo hi lox hix : Nat} {bs cs : List Bk}
theorem VD.arg (h : IsBlocks w A n c bs) : VD w A bs w := ⟨h.2.2.2.1, grown_refl _ _⟩
theorem IsBlocks.alloc (h : IsBlocks w A n c bs) (o : Obj) : IsBlocks (w.alloc o) A n c bs := ⟨h.1, h.2.1, h.2.2.1, (h.2.2.2.1.alloc o).here, h.2.2.2.2⟩
theorem VD.keep (h : VD w A bs wr) (k : wr.grownBy w' none) : VD w A bs w' := ⟨h.1.kept k, grown_trans h.2 k⟩
theorem VD.row (h : VD w A bs wr) : DRow wr wr.heap.size A bs := h.1.here
theorem VX.keep (h : VX w A n c bs lo hi wr) (k : wr.grownBy w' none) : VX w A n c bs lo hi w' :=
  ⟨h.1.keep k, h.2.1, h.2.2.1, h.2.2.2.1, Nat.le_trans h.2.2.2.2.1 k.size, h.2.2.2.2.2.1, grown_trans h.2.2.2.2.2.2 k⟩
theorem VX.row (h : VX w A n c bs lo hi wr) : DRow wr wr.heap.size A bs := h.1.row
theorem VX.made (hG : w.grownBy wr none) (hl : cs.length = n) (ho : DOwn w' wr.heap.size (.slice A n c) cs) (hk : wr.grownBy w' none) : VX w A n c cs wr.heap.size w'.heap.size w' := by
  refine ⟨ho, hl, fun a e => ?_, fun b a hb e => ?_, Nat.le_refl _, hG.size, grown_trans hG hk⟩
  · exact (World.ownsRow.lt ho.1 a.block (by subst e; rfl)).2
  · exact (World.ownsRow.lt (ho.2.1 b hb) a.block (by simp [Bk.row, e, Value.ownBlock])).2
theorem Out.grown (k : Out lo hi wr w') (hG : w.grownBy wr none) (hlo : w.heap.size ≤ lo) : w.grownBy w' none :=
  ⟨k.os.trans hG.os, k.tape.trans hG.tape, k.output.trans hG.output, Nat.le_trans hG.size k.size, fun i hi1 hne => (k.block i (Nat.lt_of_lt_of_le hi1 hG.size) (.inl (Nat.lt_of_lt_of_le hi1 hlo))).trans (hG.block i hi1 hne)⟩
theorem VD.marked (h : VD w A bs wr) (hlo : w.heap.size ≤ lox) (k : Out lox hix wr w') : VD w A bs w' :=
  ⟨h.1.keep k.size fun q hq hz => World.cell?_of_block (k.block q.block hz (.inl (Nat.lt_of_lt_of_le hq hlo))), k.grown h.2 hlo⟩
theorem ownsRow_out {base size : Nat} {t : TypeId} {v : Value} {xs : List Value} (h : wr.ownsRow base t size v n xs) (k : Out lox hix wr w') (hv : ∀ g, v.ownBlock = some g → g < lox ∨ hix ≤ g) : w'.ownsRow base t size v n xs := by
  refine ⟨h.1, ?_⟩
  rcases h.2 with hn | ⟨g, cap, cur, rfl, hb, hgg, rest⟩
  · exact .inl hn
  · exact .inr ⟨g, cap, cur, rfl, hb, by rw [k.block g (Array.getElem?_eq_some_iff.1 hgg).1 (hv g rfl)]; exact hgg, rest⟩
theorem VX.marked (h : VX w A n c bs lo hi wr) (hd : hi ≤ lox ∨ hix ≤ lo) (hlo : w.heap.size ≤ lox) (k : Out lox hix wr w') : VX w A n c bs lo hi w' := by
  obtain ⟨ho, hl, hA, hP, hz, hw, hG⟩ := h
  refine ⟨⟨ownsRow_out ho.1 k fun g e => ?_, fun b hb => ownsRow_out (ho.2.1 b hb) k fun g e => ?_, ho.2.2⟩, hl, hA, hP, Nat.le_trans hz k.size, hw, k.grown hG hlo⟩
  · have h1 := (World.ownsRow.lt ho.1 g e).1
    cases hA' : A with
    | none => rw [hA'] at e; simp [Value.ownBlock] at e
    | some a =>
      have h2 := hA a hA'
      rw [hA'] at e
      simp only [Value.ownBlock, Option.some.injEq] at e
      omega
  · have h1 := (World.ownsRow.lt (ho.2.1 b hb) g e).1
    cases hA' : b.A with
    | none => simp [Bk.row, hA', Value.ownBlock] at e
    | some a =>
      have h2 := hP b a hb hA'
      simp only [Bk.row, hA', Value.ownBlock, Option.some.injEq] at e
      omega
theorem markL_addr {K : Nat} {b : Bk} (h : b ∈ markL K bs) : ∃ b', b' ∈ bs ∧ b'.A = b.A := by
  induction bs generalizing K with
  | nil => simp [markL] at h
  | cons p r ih =>
    simp only [markL, List.mem_cons] at h
    rcases h with rfl | h
    · exact ⟨p, by simp, rfl⟩
    · obtain ⟨b', h1, h2⟩ := ih h
      exact ⟨b', by simp [h1], h2⟩
theorem VX.self (h : VX w A n c bs lo hi wr) (ho : DOwn w' lo (.slice A n c) (markL 1 bs)) (k : Out lo hi wr w') : VX w A n c (markL 1 bs) lo hi w' := by
  refine ⟨ho, by rw [markL_length]; exact h.2.1, h.2.2.1, fun b a hb e => ?_, Nat.le_trans h.2.2.2.2.1 k.size, h.2.2.2.2.2.1, k.grown h.2.2.2.2.2.2 h.2.2.2.2.2.1⟩
  obtain ⟨b', h1, h2⟩ := markL_addr hb
  exact h.2.2.2.1 b' a h1 (h2.trans e)
theorem markBlockS_nil (w : World) : Calls Try.prog 22 #[.slice none 0 0, .int .i64 1] w fun e w' => e = .returned (.int .i64 1) ∧ w = w' := by
  go_enter Try.func22, Try.ntmps22
  go_wp2
  go_loop [1, 5] (fun t i => i = .int .i64 0 ∧ t = .int .i64 1) (fun _ _ => 0)
  case atStart => exact ⟨rfl, rfl⟩
  case round =>
    obtain ⟨rfl, rfl⟩ := hrel
    go_wp2
    go_ret
    exact ⟨rfl, rfl⟩
/-- The mark of a device, its number told by an equation. -/
theorem markBlockS_val {v : Int} (hv : v = ((endK 1 bs : Nat) : Int)) (h : VX w A n c bs lo hi wr) (hn : n ≤ 1048576) (ht : tot bs ≤ 1048576) :
    Calls Try.prog 22 #[.slice A n c, .int .i64 1] wr fun e w' => e = .returned (.int .i64 v) ∧ DOwn w' lo (.slice A n c) (markL 1 bs) ∧ Out lo hi wr w' := by
  subst hv
  rcases h.1.form with ⟨e, rfl⟩ | ⟨g, cap, e, hb, hlt, _, _⟩
  · injection e with e1 e2 e3
    subst e1; subst e2; subst e3
    refine (markBlockS_nil wr).mono ?_
    rintro e w' ⟨rfl, rfl⟩
    exact ⟨rfl, h.1, Out.refl _ _ _⟩
  · injection e with e1 e2 e3
    subst e1; subst e2; subst e3
    refine markBlockS_any g bs.length c lo lo hi bs wr rfl h.1 ⟨⟨(World.ownsRow.lt h.1.1 g rfl).1, h.2.2.1 _ rfl⟩, fun b a hm ha => ⟨?_, h.2.2.2.1 b a hm ha⟩⟩ hn ht
    exact (World.ownsRow.lt (h.1.2.1 b hm) a.block (by simp [Bk.row, ha, Value.ownBlock])).1
theorem heldBlockS_val {v : Int} (hv : v = ((endK 1 bs : Nat) : Int)) (hl : bs.length = n) (h : VX w A n c (markL 1 bs) lo hi wr) (hn : n ≤ 1048576) (ht : tot bs ≤ 1048576) :
    Calls Try.prog 23 #[.slice A n c, .int .i64 1] wr fun e w' => e = .returned (.int .i64 v) ∧ wr = w' := by
  subst hv
  exact heldBlockS_any A n c bs wr hl h.row hn ht
/-- How many pages. -/
def totL (l : List (Int × List Pg)) : Nat := (l.map fun q => q.2.length).sum
theorem tot_is {l : List (Int × List Pg)} (h : bs.map Bk.is = l) : tot bs = totL l := by
  subst h
  simp [tot, totL, Bk.is, List.map_map, Function.comp_def]
theorem small_is (h : cs.map Bk.is = bs.map Bk.is) (hp : ∀ b, b ∈ bs → b.ps.length ≤ 1048576) : ∀ b, b ∈ cs → b.ps.length ≤ 1048576 := fun b hb => by
  have h1 : b.is ∈ cs.map Bk.is := List.mem_map_of_mem hb
  rw [h] at h1
  obtain ⟨b', hb', e⟩ := List.mem_map.1 h1
  have h2 := hp b' hb'
  have h3 : b'.ps = b.ps := by have := congrArg Prod.snd e; exact this
  rw [← h3]; exact h2
theorem small_tot (h : tot bs ≤ 1048576) : ∀ b, b ∈ bs → b.ps.length ≤ 1048576 := fun _ hb => Nat.le_trans (tot_le hb) h
theorem allB_is {f : Int × List Pg → Bool} {g : Bk → Bool} (hg : ∀ b, g b = f b.is) (h : cs.map Bk.is = bs.map Bk.is) : cs.all g = bs.all g := by
  have e : ∀ l : List Bk, l.all g = (l.map Bk.is).all f := fun l => by
    rw [List.all_map]
    congr 1
    funext b
    exact hg b
  rw [e, e, h]
/-- What holds of a device holds of its copies. -/
theorem devB_is (h : cs.map Bk.is = bs.map Bk.is) : devB cs = devB bs := by
  unfold devB
  rw [is_length h, allB_is (f := fun q => blockB q.1 q.2) (g := fun b => blockB b.m b.ps) (fun _ => rfl) h]
end
end Go.Proofs.Ytbdpnmejkchjpaa
