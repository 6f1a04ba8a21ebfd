/- Blocks in a row of memory (a device): a slice of blocks that is read (DRow), one that is the call's own (DOwn).
   What the model's functions of chapter 5 answer (under way).
   What the model's functions of chapter 5 answer, further: the copy of a device (under way).
   What the model's functions of chapter 5 answer, further: ReadPage (under way).
   What the model's functions of chapter 5 answer, further: ReadPage where there is the page (under way).
   What the model's functions of chapter 5 answer, further: EraseAt (under way).
   The exact laws' helpers for devices (under way): eqBlockS, toBlockS.
   The exact laws' helpers for devices, further (under way): toBlockS. -/
import Derived.Test.YteniikfgellhfaaBlocks
import Derived.Test.YteniikfgellhfaaHand
import Derived.Test.YteniikfgellhfaaAggRows
namespace Go.Proofs.Yteniikfgellhfaa
open Go.ChangeShapes Go.WideShapes Go.ChangeAt Go.RowKit

/-- A block as it lies in a row: its wear, the slice of its pages, and those pages. -/
structure Bk where
  m : Int
  A : Option Addr
  c : Nat
  ps : List Pg
def Bk.row (b : Bk) : Value := .slice b.A b.ps.length b.c
/-- What a block is, wherever its pages lie. -/
def Bk.is (b : Bk) : Int × List Pg := (b.m, b.ps)
/-- The cells of a row of blocks. -/
def bv : List Bk → List Value
  | [] => []
  | b :: r => .int .i64 b.m :: b.row :: bv r
theorem bv_length (bs : List Bk) : (bv bs).length = bs.length * 2 := by
  induction bs with
  | nil => rfl
  | cons p r ih => simp only [bv, List.length_cons, ih]; omega
theorem bv_append (a b : List Bk) : bv (a ++ b) = bv a ++ bv b := by
  induction a with
  | nil => rfl
  | cons p r ih => simp only [List.cons_append, bv, ih]
theorem bv_one (bs : List Bk) : ∀ u ∈ bv bs, u.oneCell' = true := by
  induction bs with
  | nil => intro u hu; simp [bv] at hu
  | cons p r ih =>
    intro u hu
    simp only [bv, List.mem_cons] at hu
    rcases hu with rfl | rfl | hu
    · rfl
    · rfl
    · exact ih u hu
theorem bv_at (bs : List Bk) (i : Nat) (b : Bk) (h : bs[i]? = some b) : (bv bs)[i * 2]? = some (.int .i64 b.m) ∧ (bv bs)[i * 2 + 1]? = some b.row := by
  induction bs generalizing i with
  | nil => simp at h
  | cons q r ih =>
    cases i with
    | zero => simp at h; subst h; exact ⟨rfl, rfl⟩
    | succ i =>
      have hh := ih i (by simpa using h)
      have e : ∀ j, (bv (q :: r))[(i + 1) * 2 + j]? = (bv r)[i * 2 + j]? := fun j => by
        rw [show (i + 1) * 2 + j = i * 2 + j + 1 + 1 by omega]
        simp only [bv, List.getElem?_cons_succ]
      exact ⟨(e 0).trans hh.1, (e 1).trans hh.2⟩
theorem bv_set (bs : List Bk) (i : Nat) (b : Bk) : bv (bs.set i b) = ((bv bs).set (i * 2) (.int .i64 b.m)).set (i * 2 + 1) b.row := by
  induction bs generalizing i with
  | nil => simp [bv]
  | cons q r ih =>
    cases i with
    | zero => simp [bv]
    | succ i =>
      rw [show (i + 1) * 2 = i * 2 + 1 + 1 by omega, show i * 2 + 1 + 1 + 1 = (i * 2 + 1) + 1 + 1 from rfl]
      simp only [bv, List.set_cons_succ, ih]

/-- One block in memory, without its pages. -/
def D2 (w : World) (g o : Nat) (b : Bk) : Prop := w.cell? ⟨g, o, none⟩ = some (.int .i64 b.m) ∧ w.cell? ⟨g, o + 1, none⟩ = some (.slice b.A b.ps.length b.c)
theorem D2.lt {w : World} {g o : Nat} {b : Bk} (h : D2 w g o b) : g < w.heap.size := World.block_lt_of_cell? w _ h.1
theorem D2.keep {w w' : World} {g o : Nat} {b : Bk} (h : D2 w g o b) (hk : ∀ q : Addr, q.block = g → w'.cell? q = w.cell? q) : D2 w' g o b := ⟨(hk _ rfl).trans h.1, (hk _ rfl).trans h.2⟩
/-- A slice of blocks that is read: it and all their pages lie below block B. -/
def DRow (w : World) (B : Nat) (A : Option Addr) (bs : List Bk) : Prop :=
  (0 < bs.length → ∃ g off, A = some ⟨g, off, none⟩ ∧ g < B ∧ g < w.heap.size ∧ ∀ i b, bs[i]? = some b → D2 w g (off + i * 2) b) ∧ ∀ b, b ∈ bs → Row w B b.A b.ps
section
variable {w w' : World} {B B' : Nat} {A : Option Addr} {bs : List Bk}
theorem DRow.nil : DRow w B A [] := ⟨fun h => absurd h (by simp), fun b hb => by simp at hb⟩
theorem DRow.more (h : DRow w B A bs) (hB : B ≤ B') : DRow w B' A bs :=
  ⟨fun hn => by
    obtain ⟨g, off, e, hb, hz, hc⟩ := h.1 hn
    exact ⟨g, off, e, by omega, hz, hc⟩, fun b hb => (h.2 b hb).more hB⟩
theorem DRow.keep (h : DRow w B A bs) (hz : w.heap.size ≤ w'.heap.size) (hk : ∀ q : Addr, q.block < B → q.block < w.heap.size → w'.cell? q = w.cell? q) : DRow w' B A bs :=
  ⟨fun hn => by
    obtain ⟨g, off, e, hb, hz', hc⟩ := h.1 hn
    exact ⟨g, off, e, hb, by omega, fun i p hp => (hc i p hp).keep fun q hq => hk q (by omega) (by omega)⟩, fun b hb => (h.2 b hb).keep hz hk⟩
theorem DRow.kept (h : DRow w B A bs) (hg : w.grownBy w' none) : DRow w' B A bs := h.keep hg.size fun q _ hq => World.cell?_of_block (hg.block q.block hq (by simp))
theorem DRow.grown (h : DRow w B A bs) {row : Option Nat} (hg : w.grownBy w' row) (hr : ∀ g, row = some g → B ≤ g) : DRow w' B A bs :=
  h.keep hg.size fun q hB hq => World.cell?_of_block (hg.block q.block hq (fun e => by have := hr _ e.symm; omega))
theorem DRow.below (h : DRow w B A bs) (hb : Below B w w') : DRow w' B A bs := h.keep hb.size fun _ hB _ => hb.cell hB
theorem DRow.alloc (h : DRow w B A bs) (o : Obj) : DRow (w.alloc o) B A bs := h.kept (grown_alloc (grown_refl _ _) o)
theorem DRow.drew (h : DRow w B A bs) : DRow w.drew B A bs := h
theorem DRow.drewN (h : DRow w B A bs) (k : Nat) : DRow (w.drewN k) B A bs := h
theorem DRow.here (h : DRow w B A bs) : DRow w w.heap.size A bs :=
  ⟨fun hn => by
    obtain ⟨g, off, e, _, hz, hc⟩ := h.1 hn
    exact ⟨g, off, e, hz, hz, hc⟩, fun b hb => (h.2 b hb).here⟩
/-- Block i of a slice that is read. -/
theorem DRow.at_ (h : DRow w B A bs) {i : Nat} (hi : i < bs.length) : ∃ (g off : Nat) (m : Int) (Ab : Option Addr) (c : Nat) (ps : List Pg), A = some ⟨g, off, none⟩ ∧ g < B ∧ g < w.heap.size ∧ bs[i]? = some ⟨m, Ab, c, ps⟩ ∧
    w.cell? ⟨g, off + i * 2, none⟩ = some (.int .i64 m) ∧ w.cell? ⟨g, off + i * 2 + 1, none⟩ = some (.slice Ab ps.length c) ∧ Row w B Ab ps := by
  obtain ⟨g, off, e, hb, hz, hc⟩ := h.1 (by omega)
  have he := List.getElem?_eq_getElem hi
  have hd := hc _ _ he
  exact ⟨g, off, bs[i].m, bs[i].A, bs[i].c, bs[i].ps, e, hb, hz, he, hd.1, hd.2, h.2 _ (List.getElem_mem hi)⟩
end
/-- No two of the blocks have their pages in one block of memory. -/
def apart (bs : List Bk) : Prop := ∀ (i j : Nat) (b b' : Bk) (a a' : Addr), i ≠ j → bs[i]? = some b → bs[j]? = some b' → b.A = some a → b'.A = some a' → a.block ≠ a'.block
/-- A slice of blocks that is the call's own, with all their pages. -/
def DOwn (w : World) (base : Nat) (v : Value) (bs : List Bk) : Prop :=
  w.ownsRow base 87 2 v bs.length (bv bs) ∧ (∀ b, b ∈ bs → Own w base b.row b.ps) ∧ apart bs
section
variable {w w' : World} {base : Nat} {v : Value} {bs : List Bk}
theorem DOwn.keep (h : DOwn w base v bs) (hg : w.grownBy w' none) : DOwn w' base v bs :=
  ⟨World.ownsRow.kept h.1 hg (by cases v.ownBlock <;> simp), fun b hb => (h.2.1 b hb).keep hg, h.2.2⟩
theorem DOwn.form (h : DOwn w base v bs) : (v = .slice none 0 0 ∧ bs = []) ∨ ∃ g cap, v = .slice (some ⟨g, 0, none⟩) bs.length cap ∧ base ≤ g ∧ g < w.heap.size ∧ bs.length ≤ cap ∧ cap ≤ maxLen := by
  rcases h.1.2 with ⟨e, hn⟩ | ⟨g, cap, cur, e, hb, hg, hc, hm, _⟩
  · exact .inl ⟨e, List.eq_nil_of_length_eq_zero hn⟩
  · exact .inr ⟨g, cap, e, hb, (Array.getElem?_eq_some_iff.1 hg).1, hc, hm⟩
theorem DOwn.at_ {g cap n : Nat} (h : DOwn w base (.slice (some ⟨g, 0, none⟩) n cap) bs) (hn : bs.length = n) {i : Nat} {b : Bk} (hp : bs[i]? = some b) : D2 w g (i * 2) b := by
  subst hn
  have hl : i < bs.length := (List.getElem?_eq_some_iff.1 hp).1
  obtain ⟨h0, h1⟩ := bv_at _ _ _ hp
  exact ⟨(World.ownsRow.cellAt h.1 _ (by omega)).trans h0, (World.ownsRow.cellAt h.1 _ (by omega)).trans h1⟩
theorem DOwn.frozen {g cap n : Nat} (h : DOwn w base (.slice (some ⟨g, 0, none⟩) n cap) bs) (hn : bs.length = n) (j : Nat) : w.frozen? ⟨g, j, none⟩ = false := by
  subst hn
  exact World.ownsRow.frozenAt h.1 j
theorem DOwn.row {A : Option Addr} {n c : Nat} (h : DOwn w base (.slice A n c) bs) : DRow w w.heap.size A bs := by
  refine ⟨fun hpos => ?_, fun b hb => (h.2.1 b hb).row⟩
  rcases h.form with ⟨_, rfl⟩ | ⟨g, cap, e, hb, hlt, _, _⟩
  · simp at hpos
  · injection e with e1 e2 e3
    subst e1; subst e2; subst e3
    exact ⟨g, 0, rfl, hlt, hlt, fun i p hp => by rw [Nat.zero_add]; exact h.at_ rfl hp⟩
/-- Another block of memory is written to. -/
theorem DOwn.grown {row : Option Nat} (h : DOwn w base v bs) (hg : w.grownBy w' row) (hv : v.ownBlock = none ∨ v.ownBlock ≠ row) (hb : ∀ b a, b ∈ bs → b.A = some a → row ≠ some a.block) : DOwn w' base v bs := by
  refine ⟨World.ownsRow.kept h.1 hg hv, fun b hm => (h.2.1 b hm).kept hg ?_, h.2.2⟩
  cases hA : b.A with
  | none => exact .inl (by simp [Bk.row, hA, Value.ownBlock])
  | some a => exact .inr (by have := hb b a hm hA; simp [Bk.row, hA, Value.ownBlock]; exact fun e => this e.symm)
end
end Go.Proofs.Yteniikfgellhfaa
namespace Go.Proofs.Yteniikfgellhfaa
open Go.ChangeShapes Go.WideShapes Go.ChangeAt Go.RowKit

/-- A valid device. -/
def devB (bs : List Bk) : Bool := inB bs.length 1 12 && bs.all (fun b => blockB b.m b.ps)
theorem dev_no {bs : List Bk} {k : Nat} {b : Bk} (hp : bs[k]? = some b) (h : blockB b.m b.ps = false) : devB bs = false := by
  have : bs.all (fun b => blockB b.m b.ps) = false := by
    rw [List.all_eq_false]
    exact ⟨b, List.mem_of_getElem? hp, by simp [h]⟩
  simp [devB, this]
theorem dev_yes {bs : List Bk} (h : ∀ (j : Nat) (b : Bk), bs[j]? = some b → blockB b.m b.ps = true) : devB bs = inB bs.length 1 12 := by
  have : bs.all (fun b => blockB b.m b.ps) = true := by
    rw [List.all_eq_true]
    intro b hb
    obtain ⟨j, hj⟩ := List.getElem?_of_mem hb
    exact h j b hj
  simp [devB, this]
/-- The loop over the blocks, at block k: all before are valid. -/
def DevRel (w : World) (bs : List Bk) (k : Nat) (wr : World) : Prop := k ≤ bs.length ∧ (∀ (j : Nat) (b : Bk), j < k → bs[j]? = some b → blockB b.m b.ps = true) ∧ w.grownBy wr none
theorem dev_step {bs : List Bk} {k : Nat} {p : Bk} (h : ∀ (j : Nat) (b : Bk), j < k → bs[j]? = some b → blockB b.m b.ps = true) (hp : bs[k]? = some p) (hf : blockB p.m p.ps = true) : ∀ (j : Nat) (b : Bk), j < k + 1 → bs[j]? = some b → blockB b.m b.ps = true := fun j q hj hq => by
  rcases Nat.lt_or_ge j k with h1 | h1
  · exact h j q h1 hq
  · obtain rfl : j = k := by omega
    rw [hp] at hq
    injection hq with hq
    rw [← hq]; exact hf
theorem specDeviceValid_any (A : Option Addr) (n c : Nat) (bs : List Bk) (w : World) (hl : bs.length = n) (hr : DRow w w.heap.size A bs) (hn : n ≤ 1048576) (hp : ∀ b, b ∈ bs → b.ps.length ≤ 1048576) :
    Calls Try.prog 54 #[.slice A n c] w (KeptV (.bool (devB bs)) w) := by
  subst hl
  have HR := Lib.hid (And.intro hr hp)
  clear hr hp
  go_enter Try.func54, Try.ntmps54
  go_wp2
  go_loopw [3] (fun i wr => ∃ k : Nat, i = .int .i64 k ∧ DevRel w bs k wr) (fun i _ => bs.length - (intOf i).toNat)
  case atStart => exact ⟨0, rfl, Nat.zero_le _, fun j _ hj => absurd hj (by omega), grown_refl _ _⟩
  case round =>
    obtain ⟨k, rfl, hk, hj, hg⟩ := hrel
    by_cases hlt : k < bs.length
    · obtain ⟨g, off, m, Ab, cb, ps, rfl, _, hgw, hb, c0, c1, hrow⟩ := (HR.out.1.kept hg).at_ hlt
      have hpl := HR.out.2 _ (List.mem_of_getElem? hb)
      cases hv : blockB m ps
      · have HX := Lib.hid (And.intro hg (And.intro (dev_no hb hv) (And.intro hv (And.intro hrow hpl))))
        clear hv hb hg hj hrow hpl
        go_wp2_with (go_at_call 94; refine (specBlockValid_val rfl HX.out.2.2.1 _ HX.out.2.2.2.1.here HX.out.2.2.2.2).mono ?_; rintro e w' ⟨rfl, hkp⟩)
        go_ret
        exact ⟨retB HX.out.2.1.symm, grown_trans HX.out.1 hkp⟩
      · have HX := Lib.hid (And.intro hg (And.intro (dev_step hj hb hv) (And.intro hv (And.intro hrow hpl))))
        clear hv hb hg hj hrow hpl
        go_wp2_with (go_at_call 94; refine (specBlockValid_val rfl HX.out.2.2.1 _ HX.out.2.2.2.1.here HX.out.2.2.2.2).mono ?_; rintro e w' ⟨rfl, hkp⟩)
        go_roundw
        case rel => exact ⟨k + 1, by go_num, by omega, HX.out.2.1, grown_trans HX.out.1 hkp⟩
        case measure => simp [intOf]; omega
    · have HX := Lib.hid (And.intro hg (dev_yes (bs := bs) (fun j b hb => hj j b (by have := (List.getElem?_eq_some_iff.1 hb).1; omega) hb)))
      clear hg hj
      go_wp2_with (go_at_call 95; refine (in_any _ _ _ _).mono ?_; rintro e w' ⟨rfl, rfl⟩)
      go_ret
      exact ⟨retB HX.out.2.symm, HX.out.1⟩

/-- append(d, b): one block more, onto a row of the call's own. -/
theorem block_info : (Try.prog.info? 87).map (fun i => (i.zero, i.size, i.bytes)) = some (some (.agg #[.int .i64 0, .slice none 0 0]), 2, 32) := by kernel_rfl
theorem append_block (w : World) (base : Nat) (v : Value) (n : Nat) (m : Int) (A : Option Addr) (k c : Nat) (xs : List Value) (g : Nat) (hown : w.ownsRow base 87 2 v n xs) (hb : Blk w g 87 #[.int .i64 m, .slice A k c])
    (hn : n ≤ 1048576) (hbase : base ≤ w.heap.size) :
    ∃ v' w', (∀ ty, (Builtin.append_ #[23, 23] ty #[v, .slice (some ⟨g, 0, none⟩) 1 1]).run Try.prog w = .ok v' w') ∧ w'.ownsRow base 87 2 v' (n + 1) (xs ++ [.int .i64 m, .slice A k c]) ∧ w.grownBy w' v.ownBlock ∧
      (v'.ownBlock = v.ownBlock ∨ v'.ownBlock = some w.heap.size) := by
  obtain ⟨i, hi, hzz, hs, hby⟩ := info_parts block_info
  have hsrc : ∀ j u, [Value.int .i64 m, .slice A k c][j]? = some u → w.cell? ((⟨g, 0, none⟩ : Addr).add j) = some u := by
    intro j u hu
    match j, hu with
    | 0, hu => simp at hu; subst hu; exact hb.cell 0
    | 1, hu => simp at hu; subst hu; exact hb.cell 1
    | j + 2, hu => simp at hu
  obtain ⟨v', w', hrun, h2, h3, _, h5⟩ := run_append_own_at (P := Try.prog) w base 23 0 87 i _ 2 32 Try.underlying23 hi hzz hs hby rfl (by omega) v n xs hown ⟨g, 0, none⟩ 1 1 [.int .i64 m, .slice A k c] rfl hsrc
    (by intro u hu; simp at hu; rcases hu with rfl | rfl <;> rfl) (by simp only [maxLen]; omega) (by omega) hbase
  exact ⟨v', w', fun _ => hrun, h2, h3, h5⟩
end Go.Proofs.Yteniikfgellhfaa
namespace Go.Proofs.Yteniikfgellhfaa
open Go.ChangeShapes Go.WideShapes Go.ChangeAt Go.RowKit

theorem wpList_append_run {P : Program} (w : World) {ops : Array Oper} {rest : List Oper} {o : Oper} {a : Act} {Q : Exit → Act → World → Prop} (hgd : o.guard = none) (d s : Operand) (t t' : TypeId)
    (ho : o.op = .call { callee := .builtin .append, args := #[d, s], argTypes := #[t, t'] }) (v u : Value) (hd : a.eval d = v) (hs : a.eval s = u) {v' : Value} {w' : World}
    (hr : ∀ ty, (Builtin.append_ #[t, t'] ty #[v, u]).run P w = .ok v' w') (h : wpList P ops Q rest (a.put o.dst v') w') : wpList P ops Q (o :: rest) a w :=
  wpList_plain hgd fun _ hK => wp_append_run w d s t t' ho v u hd hs hr (hK _ _ h)
/-- Rows of pages and rows of blocks never share a block of memory. -/
theorem own_ne_dev {w : World} {base base' n : Nat} {v v' : Value} {ps : List Pg} {xs : List Value} (h : Own w base v ps) (h' : w.ownsRow base' 87 2 v' n xs) : v.ownBlock = none ∨ v.ownBlock ≠ v'.ownBlock := by
  rcases h.2 with ⟨rfl, _⟩ | ⟨g, cap, cur, rfl, _, hh, _⟩
  · exact .inl rfl
  · refine .inr fun e => ?_
    rcases h'.2 with ⟨rfl, _⟩ | ⟨g', cap', cur', rfl, _, hh', _⟩
    · simp [Value.ownBlock] at e
    · simp only [Value.ownBlock, Option.some.injEq] at e
      rw [e, hh'] at hh
      injection hh with hh
      injection hh with _ ht
      exact absurd ht (by decide)
theorem grown_joinR {a b c : World} {row : Option Nat} (h : a.grownBy b none) (k : b.grownBy c row) (hg : ∀ g, row = some g → a.heap.size ≤ g) : a.grownBy c none :=
  ⟨k.os.trans h.os, k.tape.trans h.tape, k.output.trans h.output, Nat.le_trans h.size k.size, fun i hi _ => (k.block i (Nat.lt_of_lt_of_le hi h.size) (by intro e; have := hg i e.symm; omega)).trans (h.block i hi (by simp))⟩
/-- One block more in a device of the call's own. -/
theorem DOwn.push {wr w1 w3 : World} {base : Nat} {v v' : Value} {cs : List Bk} {m : Int} {A : Option Addr} {c : Nat} {ps : List Pg} (h : DOwn wr base v cs) (hk : wr.grownBy w1 none) (hp : Own w1 wr.heap.size (.slice A ps.length c) ps) (hb : base ≤ wr.heap.size)
    (ho : w3.ownsRow base 87 2 v' (cs.length + 1) (bv cs ++ [.int .i64 m, .slice A ps.length c])) (hg : w1.grownBy w3 v.ownBlock) : DOwn w3 base v' (cs ++ [⟨m, A, c, ps⟩]) := by
  have h1 := h.keep hk
  refine ⟨?_, fun b hm => ?_, fun i j b b' a a' hij hi hj ha ha' => ?_⟩
  · rw [bv_append, List.length_append]
    exact ho
  · rcases List.mem_append.1 hm with hm | hm
    · exact (h1.2.1 b hm).kept hg (own_ne_dev (h1.2.1 b hm) h1.1)
    · simp at hm
      subst hm
      exact (hp.kept hg (own_ne_dev hp h1.1)).base_le hb
  · have lt : ∀ {b : Bk} {a : Addr}, b ∈ cs → b.A = some a → a.block < wr.heap.size := fun {b a} hm e => by
      have := (World.ownsRow.lt (h.2.1 b hm) a.block (by simp [Bk.row, e, Value.ownBlock])).2
      exact this
    have ge : ∀ {a : Addr}, A = some a → wr.heap.size ≤ a.block := fun {a} e => by
      have := (World.ownsRow.lt hp a.block (by simp [e, Value.ownBlock])).1
      exact this
    rcases Nat.lt_or_ge i cs.length with hi1 | hi1 <;> rcases Nat.lt_or_ge j cs.length with hj1 | hj1
    · rw [List.getElem?_append_left hi1] at hi
      rw [List.getElem?_append_left hj1] at hj
      exact h.2.2 i j b b' a a' hij hi hj ha ha'
    · rw [List.getElem?_append_left hi1] at hi
      rw [List.getElem?_append_right hj1] at hj
      have hj0 : j - cs.length = 0 := by have := (List.getElem?_eq_some_iff.1 hj).1; simp at this; omega
      rw [hj0] at hj
      simp at hj
      subst hj
      have := lt (List.mem_of_getElem? hi) ha
      have := ge ha'
      omega
    · rw [List.getElem?_append_right hi1] at hi
      rw [List.getElem?_append_left hj1] at hj
      have hi0 : i - cs.length = 0 := by have := (List.getElem?_eq_some_iff.1 hi).1; simp at this; omega
      rw [hi0] at hi
      simp at hi
      subst hi
      have := lt (List.mem_of_getElem? hj) ha'
      have := ge ha
      omega
    · have hi0 : i < cs.length + 1 := by have := (List.getElem?_eq_some_iff.1 hi).1; simpa using this
      have hj0 : j < cs.length + 1 := by have := (List.getElem?_eq_some_iff.1 hj).1; simpa using this
      omega
/-- The loop that copies, at block k. -/
def CopyRel (w : World) (bs : List Bk) (k : Nat) (v : Value) (wr : World) : Prop := k ≤ bs.length ∧ ∃ cs : List Bk, cs.length = k ∧ cs.map Bk.is = (bs.take k).map Bk.is ∧ DOwn wr w.heap.size v cs ∧ w.grownBy wr none
/-- A device in memory of its own is returned, block by block the same. -/
def DevMade (bs : List Bk) (n : Nat) (w : World) (e : Ending) (w' : World) : Prop :=
  ∃ (A : Option Addr) (c : Nat) (cs : List Bk), e = .returned (.slice A n c) ∧ cs.length = n ∧ cs.map Bk.is = bs.map Bk.is ∧ DOwn w' w.heap.size (.slice A n c) cs ∧ w.grownBy w' none
theorem specCopyDev_any (A : Option Addr) (n c : Nat) (bs : List Bk) (w : World) (hl : bs.length = n) (hr : DRow w w.heap.size A bs) (hn : n ≤ 1000000) (hp : ∀ b, b ∈ bs → b.ps.length = 4) :
    Calls Try.prog 116 #[.slice A n c] w (DevMade bs n w) := by
  subst hl
  have HR := Lib.hid (And.intro hr hp)
  have hO : DOwn (w.alloc (.cells #[] 87)) w.heap.size (.slice (some ⟨w.heap.size, 0, none⟩) 0 0) [] :=
    ⟨World.ownsRow_lit (e := 87) (size := 2) w #[] 0 (Nat.le_refl _) (by simp) rfl, fun b hb => by simp at hb, fun i j b b' a a' _ hi => by simp at hi⟩
  have HO := Lib.hid hO
  clear hr hp hO
  go_enter Try.func116, Try.ntmps116
  go_wp2
  go_loopw [3, 4] (fun v i wr => ∃ k : Nat, i = .int .i64 k ∧ CopyRel w bs k v wr) (fun _ i _ => bs.length - (intOf i).toNat)
  case atStart => exact ⟨0, rfl, Nat.zero_le _, [], rfl, rfl, HO.out, grown_alloc (grown_refl _ _) _⟩
  case round =>
    obtain ⟨k, rfl, hk, cs, hcl, hcs, ho, hg⟩ := hrel
    clear HO
    by_cases hlt : k < bs.length
    · obtain ⟨g, off, m, Ab, cb, ps, rfl, _, hgw, hb, c0, c1, hrow⟩ := (HR.out.1.kept hg).at_ hlt
      have hpl : ps.length = 4 := HR.out.2 _ (List.mem_of_getElem? hb)
      rw [hpl] at c1
      have HX := Lib.hid (And.intro hg (And.intro ho (And.intro hb (And.intro hrow (And.intro hpl (And.intro hcs hcl))))))
      clear hb hg ho hrow hpl hcs hcl
      go_wp2_with fail
      refine (specCopy_any _ _ _ _ _ _ HX.out.2.2.2.2.1 HX.out.2.2.2.1.here (by omega) (by omega)).mono ?_
      rintro e w1 ⟨A1, d1, rfl, hl1, ho1, hk1⟩
      obtain ⟨v3, w3, hrun, ho3, hg3, _⟩ := append_block (w1.alloc (.cells #[.int .i64 m, .slice A1 4 d1] 87)) w.heap.size u3 cs.length m A1 4 d1 (bv cs) w1.heap.size ((HX.out.2.1.keep hk1).keep (grown_alloc (grown_refl _ none) _)).1 (Blk.new w1 _ _) (by have := HX.out.2.2.2.2.2.2; omega) (by have h1 := HX.out.1.size; have h2 := hk1.size; simp only [size_alloc1]; omega)
      have hk2 : wr.grownBy (w1.alloc (.cells #[.int .i64 m, .slice A1 4 d1] 87)) none := grown_trans hk1 (grown_alloc (grown_refl _ none) _)
      have hp1 : Own (w1.alloc (.cells #[.int .i64 m, .slice A1 4 d1] 87)) wr.heap.size (.slice A1 ps.length d1) ps := by rw [hl1]; exact ho1.keep (grown_alloc (grown_refl _ none) _)
      have hD := HX.out.2.1.push (m := m) hk2 hp1 HX.out.1.size (by rw [hl1]; exact ho3) hg3
      have hG := grown_joinR (grown_trans HX.out.1 hk2) hg3 (fun g' e => (World.ownsRow.lt HX.out.2.1.1 g' e).1)
      have HY := Lib.hid (And.intro hD hG)
      have HRUN := Lib.hid hrun
      clear ho1 hk1 ho3 hg3 hk2 hp1 hD hG hl1 hrun
      go_wp2_with (at_builtin; refine wpList_append_run _ rfl (.tmp 12) (.tmp 18) _ _ rfl _ _ rfl rfl HRUN.out ?_)
      go_roundw
      case rel => exact ⟨k + 1, by go_num, by omega, _, by simp [HX.out.2.2.2.2.2.2], by rw [List.map_append, HX.out.2.2.2.2.2.1, List.take_add_one, HX.out.2.2.1, List.map_append]; rfl, HY.out.1, HY.out.2⟩
      case measure => simp [intOf]; omega
    · obtain rfl : k = bs.length := by omega
      rw [List.take_length] at hcs
      rcases ho.form with ⟨rfl, e0⟩ | ⟨g, cap, rfl, _⟩
      · have hb0 : bs.length = 0 := by rw [← hcl, e0]; rfl
        have HX := Lib.hid (And.intro hg (And.intro ho (And.intro hcs (And.intro hcl hb0))))
        clear hg ho hcs hcl hb0 e0
        go_wp2
        go_ret
        exact ⟨none, 0, cs, by simp [HX.out.2.2.2.2], HX.out.2.2.2.1, HX.out.2.2.1, by rw [HX.out.2.2.2.2]; exact HX.out.2.1, HX.out.1⟩
      · rw [hcl] at ho
        have HX := Lib.hid (And.intro hg (And.intro ho (And.intro hcs hcl)))
        clear hg ho hcs hcl
        go_wp2
        go_ret
        exact ⟨some ⟨g, 0, none⟩, cap, cs, by show Ending.returned (.slice (some ⟨g, 0, none⟩) cs.length cap) = _; rw [HX.out.2.2.2], HX.out.2.2.2, HX.out.2.2.1, HX.out.2.1, HX.out.1⟩
/-- A block put at an index of a device of the call's own. -/
theorem DOwn.put {w : World} {base g cap n : Nat} {bs : List Bk} (h : DOwn w base (.slice (some ⟨g, 0, none⟩) n cap) bs) (hn : bs.length = n) (i : Nat) (b : Bk) (hb : Own w base b.row b.ps)
    (hne : ∀ (j : Nat) (b' : Bk) (a a' : Addr), j ≠ i → bs[j]? = some b' → b.A = some a → b'.A = some a' → a.block ≠ a'.block) :
    DOwn ((w.setCell ⟨g, i * 2, none⟩ (.int .i64 b.m)).setCell ⟨g, i * 2 + 1, none⟩ b.row) base (.slice (some ⟨g, 0, none⟩) n cap) (bs.set i b) := by
  subst hn
  have far : ∀ {v : Value} {ps : List Pg}, Own w base v ps → Own ((w.setCell ⟨g, i * 2, none⟩ (.int .i64 b.m)).setCell ⟨g, i * 2 + 1, none⟩ b.row) base v ps := fun {v ps} ho => by
    have hv : v.ownBlock ≠ some g := by
      rcases own_ne_dev ho h.1 with e | e
      · rw [e]; simp
      · simpa [Value.ownBlock] using e
    exact (ho.to_put hv _).to_put hv _
  refine ⟨?_, fun b' hm => ?_, fun j k b1 b2 a1 a2 hjk hj hk h1 h2 => ?_⟩
  · rw [List.length_set, bv_set]
    have h0 := (World.ownsRow.stored h.1 (i * 2) (.int .i64 b.m)).1
    exact (World.ownsRow.stored h0 (i * 2 + 1) b.row).1
  · rcases List.mem_or_eq_of_mem_set hm with hm | rfl
    · exact far (h.2.1 b' hm)
    · exact far hb
  · rw [List.getElem?_set] at hj hk
    by_cases hji : i = j
    · by_cases hki : i = k
      · omega
      · rw [if_pos hji] at hj
        rw [if_neg hki] at hk
        split at hj
        · injection hj with hj; subst hj
          exact hne k b2 a1 a2 (by omega) hk h1 h2
        · cases hj
    · rw [if_neg hji] at hj
      by_cases hki : i = k
      · rw [if_pos hki] at hk
        split at hk
        · injection hk with hk; subst hk
          exact Ne.symm (hne j b1 a2 a1 (by omega) hj h2 h1)
        · cases hk
      · rw [if_neg hki] at hk
        exact h.2.2 j k b1 b2 a1 a2 hjk hj hk h1 h2
end Go.Proofs.Yteniikfgellhfaa
namespace Go.Proofs.Yteniikfgellhfaa
open Go.ChangeShapes Go.WideShapes Go.ChangeAt Go.RowKit

theorem specDeviceValid_val {A : Option Addr} {n c : Nat} {bs : List Bk} {V : Bool} (hl : bs.length = n) (h : devB bs = V) (w : World) (hr : DRow w w.heap.size A bs) (hn : n ≤ 1048576) (hp : ∀ b, b ∈ bs → b.ps.length ≤ 1048576) :
    Calls Try.prog 54 #[.slice A n c] w (KeptV (.bool V) w) := h ▸ specDeviceValid_any A n c bs w hl hr hn hp
/-- The page with number a of a device. -/
def pageAt (bs : List Bk) (a : Nat) : Option Pg := (bs[a / 4]?).bind fun b => b.ps[a % 4]?
theorem dev_parts {bs : List Bk} (h : devB bs = true) : (1 ≤ bs.length ∧ bs.length ≤ 12) ∧ ∀ b, b ∈ bs → blockB b.m b.ps = true := by
  simp only [devB, Bool.and_eq_true, List.all_eq_true] at h
  have h1 := inB_iff.1 h.1
  exact ⟨⟨by omega, by omega⟩, h.2⟩
/-- What ReadPage answers where there is such a page. -/
def PageRead (p : Pg) (w : World) (e : Ending) (w' : World) : Prop := e = .returned (.tuple #[.agg #[.bool p.f, .int .i64 p.a, .int .i64 p.b, .int .i64 p.c, .int .i64 p.d], .bool p.f]) ∧ w.grownBy w' none
theorem specReadPage_no (A : Option Addr) (n c : Nat) (bs : List Bk) (at' : Int) (w : World) (hl : bs.length = n) (hr : DRow w w.heap.size A bs) (hn : n ≤ 1048576) (hp : ∀ b, b ∈ bs → b.ps.length ≤ 1048576) (hd : devB bs = false) :
    Calls Try.prog 55 #[.slice A n c, .int .i64 at'] w (PageRead pz w) := by
  have HD := Lib.hid (And.intro hl (And.intro hd (And.intro hp (hr.alloc (.cells #[.bool false, .int .i64 0, .int .i64 0, .int .i64 0, .int .i64 0] 30)))))
  clear hl hd hp hr
  go_enter Try.func55, Try.ntmps55
  go_wp2_with fail
  refine (specDeviceValid_val HD.out.1 HD.out.2.1 _ HD.out.2.2.2.here hn HD.out.2.2.1).mono ?_
  rintro e w1 ⟨rfl, hk⟩
  have hb := (Blk.new w 30 #[.bool false, .int .i64 0, .int .i64 0, .int .i64 0, .int .i64 0]).keep hk
  have HG := Lib.hid (grown_trans (grown_alloc (grown_refl w none) _) hk)
  obtain ⟨r0, r1, r2, r3, r4⟩ := cells5 hb
  have q0 := hb.frozen 0
  have q1 := hb.frozen 1
  have q2 := hb.frozen 2
  have q3 := hb.frozen 3
  have q4 := hb.frozen 4
  clear hb hk
  go_wp2
  exact bodyPost_ret (v := .tuple #[.agg #[.bool false, .int .i64 0, .int .i64 0, .int .i64 0, .int .i64 0], .bool false]) (by simp [results, Try.results55, go_sem, *]) rfl ⟨rfl, grown_put5n HG.out (Nat.le_refl _) _ _ _ _ _⟩
theorem specReadPage_out (A : Option Addr) (n c : Nat) (bs : List Bk) (at' : Int) (w : World) (hl : bs.length = n) (hr : DRow w w.heap.size A bs) (hn : n ≤ 1048576) (hp : ∀ b, b ∈ bs → b.ps.length ≤ 1048576) (hd : devB bs = true) (ha : inB at' 0 (4 * n - 1) = false) :
    Calls Try.prog 55 #[.slice A n c, .int .i64 at'] w (PageRead pz w) := by
  have HD := Lib.hid (And.intro hl (And.intro hd (And.intro hp (And.intro (hr.alloc (.cells #[.bool false, .int .i64 0, .int .i64 0, .int .i64 0, .int .i64 0] 30)) ha))))
  clear hl hd hp hr ha
  go_enter Try.func55, Try.ntmps55
  go_wp2_with fail
  refine (specDeviceValid_val HD.out.1 HD.out.2.1 _ HD.out.2.2.2.1.here hn HD.out.2.2.1).mono ?_
  rintro e w1 ⟨rfl, hk⟩
  have hb := (Blk.new w 30 #[.bool false, .int .i64 0, .int .i64 0, .int .i64 0, .int .i64 0]).keep hk
  have HG := Lib.hid (grown_trans (grown_alloc (grown_refl w none) _) hk)
  obtain ⟨r0, r1, r2, r3, r4⟩ := cells5 hb
  have q0 := hb.frozen 0
  have q1 := hb.frozen 1
  have q2 := hb.frozen 2
  have q3 := hb.frozen 3
  have q4 := hb.frozen 4
  clear hb hk
  go_wp2_with (go_at_call 95; refine (in_any _ _ _ _).mono ?_; rintro e w' ⟨rfl, rfl⟩; rw [HD.out.2.2.2.2])
  exact bodyPost_ret (v := .tuple #[.agg #[.bool false, .int .i64 0, .int .i64 0, .int .i64 0, .int .i64 0], .bool false]) (by simp [results, Try.results55, go_sem, *]) rfl ⟨rfl, grown_put5n HG.out (Nat.le_refl _) _ _ _ _ _⟩
end Go.Proofs.Yteniikfgellhfaa
namespace Go.Proofs.Yteniikfgellhfaa
open Go.ChangeShapes Go.WideShapes Go.ChangeAt Go.RowKit

set_option maxHeartbeats 1000000 in
theorem specReadPage_at (A : Option Addr) (n c : Nat) (bs : List Bk) (a : Nat) (p : Pg) (w : World) (hl : bs.length = n) (hr : DRow w w.heap.size A bs) (hd : devB bs = true) (hp : pageAt bs a = some p) :
    Calls Try.prog 55 #[.slice A n c, .int .i64 a] w (PageRead p w) := by
  obtain ⟨⟨h1, h12⟩, hall⟩ := dev_parts hd
  have hk : a / 4 < bs.length := by
    unfold pageAt at hp
    rcases Nat.lt_or_ge (a / 4) bs.length with h | h
    · exact h
    · rw [List.getElem?_eq_none h] at hp; cases hp
  obtain ⟨k, hk'⟩ : ∃ k, k = a / 4 := ⟨_, rfl⟩
  obtain ⟨j, hj'⟩ : ∃ j, j = a % 4 := ⟨_, rfl⟩
  have hj4 : j < 4 := by omega
  have hkn : k < bs.length := by omega
  obtain ⟨g, off, m, Ab, cb, ps, rfl, _, _, hb, _, _, _⟩ := hr.at_ hkn
  have hv := hall _ (List.mem_of_getElem? hb)
  have hp4 : ps.length = 4 := (block_parts hv).2.1
  have hpg : ps[j]? = some p := by
    unfold pageAt at hp
    rw [← hk', hb, ← hj'] at hp
    exact hp
  have ha : inB (a : Int) 0 (4 * n - 1) = true := inB_iff.2 ⟨by omega, by omega⟩
  have HD := Lib.hid (And.intro hl (And.intro hd (And.intro (fun (b : Bk) (hm : b ∈ bs) => show b.ps.length ≤ 1048576 by have := (block_parts (hall b hm)).2.1; omega) (And.intro (hr.alloc (.cells #[.bool false, .int .i64 0, .int .i64 0, .int .i64 0, .int .i64 0] 30)) (And.intro ha (And.intro hb (And.intro hp4 hpg)))))))
  have hn12 : n ≤ 12 := by omega
  have hn1 : 1 ≤ n := by omega
  have hkn2 : k < n := by omega
  have e1 : (a : Int) / 4 = (k : Int) := by omega
  have e2 : (a : Int) % 4 = (j : Int) := by omega
  have a0 : 0 ≤ (a : Int) := by omega
  have a1 : (a : Int) ≤ 48 := by omega
  have HE := Lib.hid (And.intro e1 e2)
  obtain ⟨f, x1, x2, x3, x4⟩ := p
  clear hl hr hd hp ha hall hb hv hp4 hpg hk hk' hj' h1 h12 hkn e1 e2
  go_enter Try.func55, Try.ntmps55
  go_wp2_with fail
  refine (specDeviceValid_val HD.out.1 HD.out.2.1 _ HD.out.2.2.2.1.here (by omega) HD.out.2.2.1).mono ?_
  rintro e w1 ⟨rfl, hk⟩
  have hb := (Blk.new w 30 #[.bool false, .int .i64 0, .int .i64 0, .int .i64 0, .int .i64 0]).keep hk
  have HG := Lib.hid (grown_trans (grown_alloc (grown_refl w none) (.cells #[.bool false, .int .i64 0, .int .i64 0, .int .i64 0, .int .i64 0] 30)) hk)
  have hrow := HD.out.2.2.2.1.kept hk
  obtain ⟨g', off', m', Ab', cb', ps', e0, _, hgw, hb', c0, c1, hpr⟩ := hrow.at_ (i := k) (by have := HD.out.1; omega)
  rw [HD.out.2.2.2.2.2.1] at hb'
  injection e0 with e0
  injection e0 with e3 e4
  subst e3; subst e4
  injection hb' with hb'
  injection hb' with e5 e6 e7 e8
  subst e5; subst e6; subst e7; subst e8
  obtain ⟨g2, off2, e9, _, hg2, hp5⟩ := hpr (by have := HD.out.2.2.2.2.2.2.1; omega)
  obtain ⟨d0, d1, d2, d3, d4⟩ := hp5 _ _ HD.out.2.2.2.2.2.2.2
  subst e9
  rw [HD.out.2.2.2.2.2.2.1] at c1
  have HB := Lib.hid hb
  have hlt := hb.lt
  obtain ⟨r0, r1, r2, r3, r4⟩ := cells5 hb
  have q0 := hb.frozen 0
  have q1 := hb.frozen 1
  have q2 := hb.frozen 2
  have q3 := hb.frozen 3
  have q4 := hb.frozen 4
  have k0 : decide ((0 : Int) ≤ k) = true := decide_eq_true (by omega)
  have k2 : (k : Int) < n := by omega
  have k3 : (j : Int) < 4 := by omega
  have i1 := HE.out.1
  have i2 := HE.out.2
  clear hb hk hrow hpr hp5
  go_wp2_with (go_at_call 95; refine (in_any _ _ _ _).mono ?_; rintro e w' ⟨rfl, rfl⟩; rw [HD.out.2.2.2.2.1])
  have hM := Blk.new (((((w1.setCell ⟨w.heap.size, 0, none⟩ (.bool f)).setCell ⟨w.heap.size, 1, none⟩ (.int .i64 x1)).setCell ⟨w.heap.size, 2, none⟩ (.int .i64 x2)).setCell ⟨w.heap.size, 3, none⟩ (.int .i64 x3)).setCell ⟨w.heap.size, 4, none⟩ (.int .i64 x4)) 30 #[.bool f, .int .i64 x1, .int .i64 x2, .int .i64 x3, .int .i64 x4]
  rw [show (((((w1.setCell ⟨w.heap.size, 0, none⟩ (.bool f)).setCell ⟨w.heap.size, 1, none⟩ (.int .i64 x1)).setCell ⟨w.heap.size, 2, none⟩ (.int .i64 x2)).setCell ⟨w.heap.size, 3, none⟩ (.int .i64 x3)).setCell ⟨w.heap.size, 4, none⟩ (.int .i64 x4)).heap.size = w1.heap.size by simp [World.setCell]] at hM
  have hN := Blk.new w1 30 #[.bool f, .int .i64 x1, .int .i64 x2, .int .i64 x3, .int .i64 x4]
  have u1 : w.heap.size ≠ w1.heap.size := by omega
  have u2 : w1.heap.size ≠ w.heap.size := by omega
  refine wp_region_held_drew (S := (fun w' => w'.cell? ⟨w1.heap.size, 0, none⟩ = some (.bool f) ∧ w'.cell? ⟨w1.heap.size, 1, none⟩ = some (.int .i64 x1) ∧ w'.cell? ⟨w1.heap.size, 2, none⟩ = some (.int .i64 x2) ∧ w'.cell? ⟨w1.heap.size, 3, none⟩ = some (.int .i64 x3) ∧ w'.cell? ⟨w1.heap.size, 4, none⟩ = some (.int .i64 x4))) (by kernel_rfl) ?_ (fun hHeld => ?_)
  · exact cells5 hN
  refine heldY 0 30 ?_
  refine heldY 1 31 ?_
  refine heldY 2 32 ?_
  refine wpAnyH_ready (rs := [3]) (by kernel_rfl) (by simp) ?_
  refine AllReadyH.cons rfl (fun K hK => ?_) AllReadyH.nil
  go_simp
  refine hK.out _ _ ?_ (fun hHeld => ?_)
  · exact cells5 hM.drew
  clear hK K
  try simp only [Act.put, List.setIfInBounds_toArray, List.set_cons_zero, List.set_cons_succ]
  refine wpAnyH_ready (rs := [4]) (by kernel_rfl) (by simp) ?_
  refine AllReadyH.cons rfl (fun K hK => ?_) AllReadyH.nil
  go_simp
  refine hK.out _ _ ?_ (fun hHeld => ?_)
  · with_reducible assumption
  clear hK K
  try simp only [Act.put, List.setIfInBounds_toArray, List.set_cons_zero, List.set_cons_succ]
  refine wpAnyH_done (by kernel_rfl) ?_ _
  clear hM hN
  go_wp2
  exact bodyPost_ret (v := .tuple #[.agg #[.bool f, .int .i64 x1, .int .i64 x2, .int .i64 x3, .int .i64 x4], .bool f]) (by simp [results, Try.results55, go_sem, *]) rfl ⟨rfl, grown_drew (grown_alloc (grown_put5n HG.out (Nat.le_refl _) _ _ _ _ _) _)⟩
end Go.Proofs.Yteniikfgellhfaa
namespace Go.Proofs.Yteniikfgellhfaa
open Go.ChangeShapes Go.WideShapes Go.ChangeAt Go.RowKit

/-- What EraseBlock answers of a valid block. -/
def eraseIs (m : Int) (ps : List Pg) : Int × List Pg := if m = 100 then (m, ps) else (m + 1, [pz, pz, pz, pz])
theorem DOwn.base_le {w : World} {base base' : Nat} {v : Value} {bs : List Bk} (h : DOwn w base v bs) (hb : base' ≤ base) : DOwn w base' v bs := by
  refine ⟨⟨h.1.1, ?_⟩, fun b hm => (h.2.1 b hm).base_le hb, h.2.2⟩
  rcases h.1.2 with hn | ⟨g, cap, cur, e, hg, rest⟩
  · exact .inl hn
  · exact .inr ⟨g, cap, cur, e, Nat.le_trans hb hg, rest⟩
/-- A device in memory of its own is returned, and another result. -/
def DevMade2 (l : List (Int × List Pg)) (n : Nat) (r : Value) (w : World) (e : Ending) (w' : World) : Prop :=
  ∃ (A : Option Addr) (c : Nat) (cs : List Bk), e = .returned (.tuple #[.slice A n c, r]) ∧ cs.length = n ∧ cs.map Bk.is = l ∧ DOwn w' w.heap.size (.slice A n c) cs ∧ w.grownBy w' none
end Go.Proofs.Yteniikfgellhfaa
namespace Go.Proofs.Yteniikfgellhfaa
open Go.ChangeShapes Go.WideShapes Go.ChangeAt Go.RowKit

theorem D2.kept {w w' : World} {g o : Nat} {b : Bk} (h : D2 w g o b) (hk : w.grownBy w' none) : D2 w' g o b :=
  h.keep fun q hq => World.cell?_of_block (hk.block q.block (by have := h.lt; omega) (by simp))
theorem is_at {bs cs : List Bk} (h : bs.map Bk.is = cs.map Bk.is) {i : Nat} {m : Int} {A : Option Addr} {c : Nat} {ps : List Pg} (hi : bs[i]? = some ⟨m, A, c, ps⟩) : ∃ A' c', cs[i]? = some ⟨m, A', c', ps⟩ := by
  have e : (bs.map Bk.is)[i]? = (cs.map Bk.is)[i]? := by rw [h]
  rw [List.getElem?_map, List.getElem?_map, hi] at e
  cases hc : cs[i]? with
  | none => rw [hc] at e; simp at e
  | some b =>
    rw [hc] at e
    obtain ⟨m', A', c', ps'⟩ := b
    simp [Bk.is] at e
    obtain ⟨rfl, rfl⟩ := e
    exact ⟨A', c', rfl⟩
theorem is_length {bs cs : List Bk} (h : bs.map Bk.is = cs.map Bk.is) : bs.length = cs.length := by
  have := congrArg List.length h
  simpa using this
theorem eqBlockS_same (A A' : Option Addr) (c c' n : Nat) (bs cs : List Bk) (w : World) (hl : bs.length = n) (hs : bs.map Bk.is = cs.map Bk.is) (hr : DRow w w.heap.size A bs) (hr' : DRow w w.heap.size A' cs) (hn : n ≤ 1048576) (hp : ∀ b, b ∈ bs → b.ps.length ≤ 1048576) :
    Calls Try.prog 36 #[.slice A n c, .slice A' n c'] w (KeptV (.bool true) w) := by
  subst hl
  have HR := Lib.hid (And.intro hr (And.intro hr' (And.intro hs hp)))
  clear hr hr' hs hp
  go_enter Try.func36, Try.ntmps36
  go_wp2
  go_loopw [5] (fun i wr => ∃ k : Nat, k ≤ bs.length ∧ i = .int .i64 k ∧ w.grownBy wr none) (fun i _ => bs.length - (intOf i).toNat)
  case atStart => exact ⟨0, Nat.zero_le _, rfl, grown_refl _ _⟩
  case round =>
    obtain ⟨k, hk, rfl, hg⟩ := hrel
    by_cases hlt : k < bs.length
    · obtain ⟨g, off, m, Ab, cb, ps, rfl, _, hgw, hb, c0, c1, hrow⟩ := (HR.out.1.kept hg).at_ hlt
      obtain ⟨g', off', m', Ab', cb', ps', rfl, _, hgw', hb', d0, d1, hrow'⟩ := (HR.out.2.1.kept hg).at_ (show k < cs.length by have := is_length HR.out.2.2.1; omega)
      obtain ⟨A2, c2, hb2⟩ := is_at HR.out.2.2.1 hb
      rw [hb'] at hb2
      injection hb2 with hb2
      injection hb2 with e1 e2 e3 e4
      subst e1; subst e2; subst e3; subst e4
      have HP := Lib.hid (And.intro hrow (And.intro hrow' (And.intro (HR.out.2.2.2 _ (List.mem_of_getElem? hb)) hg)))
      have HC := Lib.hid (And.intro (show D2 wr g (off + k * 2) ⟨m', Ab, cb, ps'⟩ from ⟨c0, c1⟩) (show D2 wr g' (off' + k * 2) ⟨m', Ab', cb', ps'⟩ from ⟨d0, d1⟩))
      have ha : decide (k < bs.length) = true := decide_eq_true hlt
      have ha2 : (k : Int) < bs.length := by omega
      clear hb hb' hrow hrow' hg
      go_wp2_with fail
      refine wp_region_held_drew (S := (fun w' => w'.cell? ⟨g, off + k * 2, none⟩ = some (.int .i64 m') ∧ w'.cell? ⟨g, off + k * 2 + 1, none⟩ = some (.slice Ab ps'.length cb) ∧ w'.cell? ⟨g', off' + k * 2, none⟩ = some (.int .i64 m') ∧ w'.cell? ⟨g', off' + k * 2 + 1, none⟩ = some (.slice Ab' ps'.length cb'))) (by kernel_rfl) ?_ (fun hHeld => ?_)
      · exact ⟨c0, c1, d0, d1⟩
      replace HP := Lib.hid (And.intro (HP.out.1.kept (grown_drew (grown_refl _ none))).here (And.intro (HP.out.2.1.kept (grown_drew (grown_refl _ none))).here (And.intro HP.out.2.2.1 (grown_trans HP.out.2.2.2 (grown_drew (grown_refl _ none))))))
      replace HC := Lib.hid (And.intro (HC.out.1.kept (grown_drew (grown_refl _ none))) (HC.out.2.kept (grown_drew (grown_refl _ none))))
      refine heldY 0 17 ?_
      refine heldY 1 18 ?_
      refine heldY 2 19 ?_
      refine heldY 3 20 ?_
      refine heldY 4 21 ?_
      refine heldY 5 22 ?_
      refine heldY 6 23 ?_
      refine heldY 7 24 ?_
      refine wpAnyH_ready (rs := [8]) (by kernel_rfl) (by simp) ?_
      refine AllReadyH.cons rfl (fun K hK => ?_) AllReadyH.nil
      go_simp
      go_at_call 79
      refine (eqBlock_same _ _ _ _ _ _ _ _ rfl HP.out.1.here HP.out.2.1.here HP.out.2.2.1).mono ?_
      rintro e w1 ⟨rfl, hk1⟩
      replace HP := Lib.hid (And.intro (HP.out.1.kept hk1).here (And.intro (HP.out.2.1.kept hk1).here (And.intro HP.out.2.2.1 (grown_trans HP.out.2.2.2 hk1))))
      replace HC := Lib.hid (And.intro (HC.out.1.kept hk1) (HC.out.2.kept hk1))
      clear hk1 c0 c1 d0 d1
      obtain ⟨c0, c1⟩ := HC.out.1
      obtain ⟨d0, d1⟩ := HC.out.2
      refine hK.out _ _ ?_ (fun hHeld => ?_)
      · exact ⟨c0, c1, d0, d1⟩
      clear hK K
      try simp only [Act.put, List.setIfInBounds_toArray, List.set_cons_zero, List.set_cons_succ]
      refine heldY 9 26 ?_
      refine wpAnyH_done (by kernel_rfl) ?_ _
      go_wp2
      go_roundw
      case rel => exact ⟨k + 1, by omega, by go_num, HP.out.2.2.2⟩
      case measure => simp [intOf]; omega
    · have HG := Lib.hid hg
      clear hg
      go_wp2
      go_ret
      exact ⟨rfl, HG.out⟩
end Go.Proofs.Yteniikfgellhfaa
namespace Go.Proofs.Yteniikfgellhfaa
open Go.ChangeShapes Go.WideShapes Go.ChangeAt Go.RowKit

/-- A block that is not laid yet. -/
def bz : Bk := ⟨0, none, 0, []⟩
theorem bv_zero (n : Nat) : bv (List.replicate n bz) = (List.replicate n [Value.int .i64 0, .slice none 0 0]).flatten := by
  induction n with
  | zero => rfl
  | succ n ih => simp only [List.replicate_succ, bv, ih, List.flatten_cons]; rfl
theorem bv_made (n : Nat) : (madeCells #[.int .i64 0, .slice none 0 0] (n * 2)).toList = bv (List.replicate n bz) := by
  apply List.ext_getElem?
  intro j
  by_cases hj : j < n * 2
  · have hi : (List.replicate n bz)[j / 2]? = some bz := by rw [List.getElem?_replicate]; simp; omega
    obtain ⟨h0, h1⟩ := bv_at _ _ _ hi
    have hm : j % 2 < 2 := Nat.mod_lt _ (by omega)
    have hd : j / 2 * 2 + j % 2 = j := by omega
    have hL : (madeCells #[.int .i64 0, .slice none 0 0] (n * 2)).toList[j]? = (#[Value.int .i64 0, .slice none 0 0] : Array Value)[j % 2]? := by
      simp only [madeCells, Array.toList_map, Array.toList_range, List.getElem?_map]
      rw [List.getElem?_range hj]
      have hs : (#[Value.int .i64 0, .slice none 0 0] : Array Value).size = 2 := rfl
      rw [hs, Option.map_some]
      revert hm
      generalize j % 2 = r
      intro hm
      match r, hm with
      | 0, _ => rfl
      | 1, _ => rfl
    rw [hL]
    match hr : j % 2, hm with
    | 0, _ => rw [hr] at hd; rw [← hd, Nat.add_zero, h0]; simp [bz]
    | 1, _ => rw [hr] at hd; rw [← hd, h1]; simp [bz, Bk.row]
  · rw [List.getElem?_eq_none (by simp [madeCells]; omega), List.getElem?_eq_none (by rw [bv_length]; simp; omega)]
theorem dev_made (w : World) (base n : Nat) (hb : base ≤ w.heap.size) (hn : n ≤ maxLen) :
    DOwn (w.alloc (.cells (madeCells #[.int .i64 0, .slice none 0 0] (n * 2)) 87)) base (.slice (some ⟨w.heap.size, 0, none⟩) n n) (List.replicate n bz) := by
  refine ⟨?_, fun b hm => ?_, fun i j b b' a a' _ hi _ ha => ?_⟩
  · have h := World.ownsRow_lit (e := 87) (size := 2) w (madeCells #[.int .i64 0, .slice none 0 0] (n * 2)) n hb hn (by simp [madeCells])
    rw [bv_made] at h
    simpa using h
  · rw [List.eq_of_mem_replicate hm]
    exact World.ownsRow_nil _ _ _ _
  · rw [List.eq_of_mem_replicate (List.mem_of_getElem? hi)] at ha
    cases ha
theorem make_blocks (w : World) (n : Nat) (hn : n ≤ 1048576) :
    (Instr.makeSlice 23 (.int .i64 (n : Int)) (.int .i64 (n : Int))).run Try.prog w =
      .ok (.slice (some ⟨w.heap.size, 0, none⟩) n n) (w.alloc (.cells (madeCells #[.int .i64 0, .slice none 0 0] (n * 2)) 87)) := by
  obtain ⟨i, hi, hz, hs, hb⟩ := info_parts block_info
  have hr := run_make (P := Try.prog) w 23 87 i _ Try.underlying23 hi hz .i64 .i64 n n (by omega) (by omega) (by rw [hb]; omega) (by omega)
  simp only [Int.toNat_natCast, hs] at hr
  exact hr
theorem to_step {bs cs : List Bk} {n k : Nat} {m : Int} {Ab A1 : Option Addr} {cb d1 : Nat} {ps : List Pg} (hl : cs.length = n) (hk : k < n) (hcs : (cs.take k).map Bk.is = (bs.take k).map Bk.is) (hcz : ∀ (j : Nat) (b : Bk), k ≤ j → cs[j]? = some b → b = bz) (hb : bs[k]? = some ⟨m, Ab, cb, ps⟩) :
    (cs.set k ⟨m, A1, d1, ps⟩).length = n ∧ ((cs.set k ⟨m, A1, d1, ps⟩).take (k + 1)).map Bk.is = (bs.take (k + 1)).map Bk.is ∧ ∀ (j : Nat) (b : Bk), k + 1 ≤ j → (cs.set k ⟨m, A1, d1, ps⟩)[j]? = some b → b = bz := by
  refine ⟨by simpa using hl, ?_, fun j b hj h => ?_⟩
  · rw [List.take_add_one, List.take_add_one, List.take_set_of_le (Nat.le_refl _), List.getElem?_set_self (by omega), hb, List.map_append, List.map_append, hcs]
    rfl
  · rw [List.getElem?_set_ne (by omega)] at h
    exact hcz j b (by omega) h
/-- The loop that takes blocks over, at block k. -/
def ToRel (w : World) (bs : List Bk) (n k : Nat) (wr : World) : Prop :=
  k ≤ n ∧ w.grownBy wr none ∧ ∃ cs : List Bk, cs.length = n ∧ (cs.take k).map Bk.is = (bs.take k).map Bk.is ∧ (∀ (j : Nat) (b : Bk), k ≤ j → cs[j]? = some b → b = bz) ∧ DOwn wr w.heap.size (.slice (some ⟨w.heap.size, 0, none⟩) n n) cs
theorem toBlockS_any (A : Option Addr) (n c : Nat) (bs : List Bk) (w : World) (hl : bs.length = n) (hr : DRow w w.heap.size A bs) (hn : n ≤ 1048576) (hp : ∀ b, b ∈ bs → b.ps.length ≤ 1048576) :
    Calls Try.prog 34 #[.slice A n c] w (DevMade bs n w) := by
  have HR := Lib.hid (And.intro hl (And.intro hr hp))
  have hmk := fun W => make_blocks W n hn
  have HO := Lib.hid (dev_made w w.heap.size n (Nat.le_refl _) (by simp only [maxLen]; omega))
  clear hl hr hp
  go_enter Try.func34, Try.ntmps34
  go_wp2
  clear hmk
  go_loopw [4] (fun i wr => ∃ k : Nat, i = .int .i64 k ∧ ToRel w bs n k wr) (fun i _ => n - (intOf i).toNat)
  case atStart => exact ⟨0, rfl, Nat.zero_le _, grown_alloc (grown_refl _ _) _, List.replicate n bz, by simp, rfl, fun j b _ hj => List.eq_of_mem_replicate (List.mem_of_getElem? hj), HO.out⟩
  case round =>
    obtain ⟨k, rfl, hk, hg, cs, hcl, hcs, hcz, ho⟩ := hrel
    clear HO
    by_cases hlt : k < n
    · obtain ⟨g, off, m, Ab, cb, ps, rfl, _, hgw, hb, c0, c1, hrow⟩ := (HR.out.2.1.kept hg).at_ (show k < bs.length by have := HR.out.1; omega)
      have HX := Lib.hid (And.intro hg (And.intro ho (And.intro hb (And.intro hrow (And.intro (HR.out.2.2 _ (List.mem_of_getElem? hb)) (And.intro hcs (And.intro hcl hcz)))))))
      clear hb hg ho hrow hcs hcl hcz
      go_wp2_with fail
      refine (toBlock_any _ _ _ _ _ _ rfl HX.out.2.2.2.1.here HX.out.2.2.2.2.1).mono ?_
      rintro e w1 ⟨A1, d1, rfl, _, ho1, hk1⟩
      have hD := HX.out.2.1.keep hk1
      obtain ⟨q, hq⟩ : ∃ q, cs[k]? = some q := ⟨_, List.getElem?_eq_getElem (by have := HX.out.2.2.2.2.2.2.1; omega)⟩
      obtain ⟨x0, x1⟩ := hD.at_ HX.out.2.2.2.2.2.2.1 hq
      have f0 := hD.frozen HX.out.2.2.2.2.2.2.1 (k * 2)
      have f1 := hD.frozen HX.out.2.2.2.2.2.2.1 (k * 2 + 1)
      have hP := hD.put HX.out.2.2.2.2.2.2.1 k ⟨m, A1, d1, ps⟩ (ho1.base_le HX.out.1.size) (fun j b' a a' hj hb' ha ha' => by
        have h1 := (World.ownsRow.lt ho1 a.block (by show (Value.slice A1 _ _).ownBlock = _; rw [show A1 = some a from ha]; rfl)).1
        have h2 := (World.ownsRow.lt (HX.out.2.1.2.1 b' (List.mem_of_getElem? hb')) a'.block (by simp [Bk.row, ha', Value.ownBlock])).2
        omega)
      have HY := Lib.hid (And.intro hP (grown_trans HX.out.1 hk1))
      clear hD hq hP ho1 hk1 c0 c1
      go_wp2
      go_roundw
      case rel => exact ⟨k + 1, by go_num, by omega, grown_put (grown_put HY.out.2 (Nat.le_refl _) _) (Nat.le_refl _) _, _, (to_step HX.out.2.2.2.2.2.2.1 hlt HX.out.2.2.2.2.2.1 HX.out.2.2.2.2.2.2.2 HX.out.2.2.1).1, (to_step HX.out.2.2.2.2.2.2.1 hlt HX.out.2.2.2.2.2.1 HX.out.2.2.2.2.2.2.2 HX.out.2.2.1).2.1, (to_step HX.out.2.2.2.2.2.2.1 hlt HX.out.2.2.2.2.2.1 HX.out.2.2.2.2.2.2.2 HX.out.2.2.1).2.2, HY.out.1⟩
      case measure => simp [intOf]; omega
    · obtain rfl : k = n := by omega
      have HX := Lib.hid (And.intro hg (And.intro ho (And.intro hcs hcl)))
      clear hg ho hcs hcl hcz
      go_wp2
      go_ret
      exact ⟨_, _, cs, rfl, HX.out.2.2.2, by have h := HX.out.2.2.1; rw [List.take_of_length_le (by have := HX.out.2.2.2; omega), List.take_of_length_le (by have := HR.out.1; omega)] at h; exact h, HX.out.2.1, HX.out.1⟩
end Go.Proofs.Yteniikfgellhfaa
