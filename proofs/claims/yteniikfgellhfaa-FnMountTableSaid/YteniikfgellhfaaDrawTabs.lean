/- What the model draws for chapter 7: l20Table. -/
import Derived.Test.YteniikfgellhfaaTables2
import Derived.Test.YteniikfgellhfaaDrawPages
import Derived.Test.YteniikfgellhfaaHand
namespace Go.Proofs.Yteniikfgellhfaa
open Go.ChangeShapes Go.WideShapes Go.ChangeAt Go.RowKit
set_option linter.unusedVariables false
set_option linter.unusedSimpArgs false

/-- The slice and all its lists lie in block lo or behind it. -/
def TFar (lo : Nat) (A : Option Addr) (ls : List Li) : Prop := (∀ ad, A = some ad → lo ≤ ad.block) ∧ ∀ (l : Li) (ad : Addr), l ∈ ls → l.A = some ad → lo ≤ ad.block
theorem TFar.more {lo lo' : Nat} {A : Option Addr} {ls : List Li} (h : TFar lo A ls) (hl : lo' ≤ lo) : TFar lo' A ls := ⟨fun ad e => Nat.le_trans hl (h.1 ad e), fun l ad hm e => Nat.le_trans hl (h.2 l ad hm e)⟩
theorem VRow.away {w w' : World} {B : Nat} {A : Option Addr} {cs : List Value} (h : VRow w B A cs) (hz : w.heap.size ≤ w'.heap.size) (hk : ∀ (ad q : Addr), A = some ad → q.block = ad.block → q.block < w.heap.size → w'.cell? q = w.cell? q) : VRow w' B A cs := fun hn => by
  obtain ⟨g, off, rfl, hb, hz', hc⟩ := h hn
  exact ⟨g, off, rfl, hb, by omega, fun i u hu => (hk ⟨g, off, none⟩ ⟨g, off + i, none⟩ rfl rfl hz').trans (hc i u hu)⟩
/-- What lies before block lo has changed. -/
theorem TRow.away {w w' : World} {B lo : Nat} {A : Option Addr} {ls : List Li} (h : TRow w B A ls) (f : TFar lo A ls) (hz : w.heap.size ≤ w'.heap.size) (hk : ∀ q : Addr, lo ≤ q.block → q.block < w.heap.size → w'.cell? q = w.cell? q) : TRow w' B A ls :=
  ⟨VRow.away h.1 hz fun ad q e e2 hq => hk q (by have := f.1 ad e; omega) hq, fun l hl => VRow.away (h.2 l hl) hz fun ad q e e2 hq => hk q (by have := f.2 l ad hl e; omega) hq⟩
theorem TRow.grownLo {w w' : World} {B lo g : Nat} {A : Option Addr} {ls : List Li} (h : TRow w B A ls) (f : TFar lo A ls) (hg : w.grownBy w' (some g)) (hlt : g < lo) : TRow w' B A ls :=
  h.away f hg.size fun q hq hz => World.cell?_of_block (hg.block q.block hz (fun e => by injection e with e; omega))
theorem TRow.putLo {w : World} {B lo : Nat} {A : Option Addr} {ls : List Li} (h : TRow w B A ls) (f : TFar lo A ls) {p : Addr} (hp : p.block < lo) (u : Value) : TRow (w.setCell p u) B A ls :=
  h.away f (by simp [World.setCell]) fun q hq _ => World.cell?_setCell_other w p q u (fun e => by subst e; omega)
theorem TOwn.tfar {w : World} {base n c : Nat} {A : Option Addr} {ls : List Li} (h : TOwn w base (.slice A n c) ls) : TFar base A ls :=
  ⟨fun ad e => (VOwn.lt h.1 ad.block (by subst e; rfl)).1, fun l ad hm e => (VOwn.lt (h.2.1 l hm) ad.block (by simp [Li.row, e, Value.ownBlock])).1⟩
theorem TOwn.far_row {w w' : World} {base g : Nat} {v : Value} {ls : List Li} (h : TOwn w base v ls) (hg : w.grownBy w' (some g)) (hlt : g < base) : TOwn w' base v ls := by
  refine h.grown hg (.inr fun e => ?_) fun b a hb ha e => ?_
  · have := (VOwn.lt h.1 g e).1
    omega
  · injection e with e
    have := (VOwn.lt (h.2.1 b hb) a.block (by simp [Li.row, ha, Value.ownBlock])).1
    omega
/-- A table is drawn. -/
def DrewTab (w : World) (B g P : Nat) (e : Ending) (w' : World) : Prop :=
  ∃ (A : Option Addr) (n c : Nat) (ls : List Li), e = .returned (.agg #[.slice A n c]) ∧ ls.length = n ∧ n ≤ 8 ∧ (∀ l, l ∈ ls → l.xs.length ≤ 6) ∧ TRow w' w'.heap.size A ls ∧ TFar w.heap.size A ls ∧ Rd w' B g P ∧ w.grownBy w' (some g)
theorem DrewTab.kept {w wr w' : World} {B g Q : Nat} {e : Ending} (H : DrewTab w B g Q e wr) (hk : wr.grownBy w' none) : DrewTab w B g Q e w' := by
  obtain ⟨A, n, c, ls, e0, e1, e2, e3, e4, e5, e6, e7⟩ := H
  exact ⟨A, n, c, ls, e0, e1, e2, e3, (e4.kept hk).here, e5, e6.grown hk (by intro k e; cases e), grown_trans e7 (grown_some hk)⟩
/-- The draw of a table under way: the reader, the result's cell, the table in its variable V. -/
def TSt (w : World) (B g Q V gt ct : Nat) (ls : List Li) (wr : World) : Prop :=
  Blk wr V 40 #[.slice (some ⟨gt, 0, none⟩) 8 ct] ∧ (ls.length = 8 ∧ tabB (ll ls) = true) ∧ TOwn wr (w.heap.size + 1) (.slice (some ⟨gt, 0, none⟩) 8 ct) ls ∧ Blk wr w.heap.size 40 #[.slice none 0 0] ∧ Rd wr B g Q ∧ w.grownBy wr (some g) ∧ g < w.heap.size ∧ w.heap.size < V
section
variable {w wr w' : World} {B g Q Q' V gt ct : Nat} {ls : List Li}
theorem TSt.grown (H : TSt w B g Q V gt ct ls wr) (hg : wr.grownBy w' (some g)) (hr : Rd w' B g Q') : TSt w B g Q' V gt ct ls w' := by
  obtain ⟨h1, h2, h3, h4, h5, h6, h7, h8⟩ := H
  exact ⟨h1.grown hg (by intro e; injection e with e; omega), h2, h3.far_row hg (by omega), h4.grown hg (by intro e; injection e with e; omega), hr, grown_trans h6 hg, h7, h8⟩
theorem TSt.kept (H : TSt w B g Q V gt ct ls wr) (hk : wr.grownBy w' none) : TSt w B g Q V gt ct ls w' := H.grown (grown_some hk) (H.2.2.2.2.1.grown hk (by intro k e; cases e))
theorem TSt.more (H : TSt w B g Q V gt ct ls wr) (hq : Q ≤ Q') : TSt w B g Q' V gt ct ls wr := ⟨H.1, H.2.1, H.2.2.1, H.2.2.2.1, H.2.2.2.2.1.more hq, H.2.2.2.2.2⟩
/-- Another table goes into the variable. -/
theorem TSt.put {g1 c1 : Nat} {cs : List Li} (H : TSt w B g Q V gt ct ls wr) (hl : cs.length = 8) (hv : tabB (ll cs) = true) (ho : TOwn wr (w.heap.size + 1) (.slice (some ⟨g1, 0, none⟩) 8 c1) cs) : TSt w B g Q V g1 c1 cs (wr.setCell ⟨V, 0, none⟩ (.slice (some ⟨g1, 0, none⟩) 8 c1)) := by
  obtain ⟨h1, h2, h3, h4, h5, h6, h7, h8⟩ := H
  have hB := h5.le
  exact ⟨h1.put 0 _, ⟨hl, hv⟩, ho.put h1 0 _, h4.far (by dsimp only; omega) _, h5.far (by dsimp only; omega) (by dsimp only; omega) _, grown_set h6 (.inr (by dsimp only; omega)) _, h7, h8⟩
/-- What is returned in the end, from any table in the variable. -/
theorem tab_fin {A : Option Addr} {n c : Nat} {ms : List Li} (hl : ms.length = n) (hn : n ≤ 8) (h6 : ∀ l, l ∈ ms → l.xs.length ≤ 6) (hr : TRow wr wr.heap.size A ms) (hf : TFar (w.heap.size + 1) A ms) (hb : Blk wr w.heap.size 40 #[.slice none 0 0]) (hd : Rd wr B g Q) (hg : w.grownBy wr (some g)) (hlt : g < w.heap.size) (hq : Q ≤ Q') :
    DrewTab w B g Q' (.returned (.agg #[.slice A n c])) (wr.setCell ⟨w.heap.size, 0, none⟩ (.slice A n c)) := by
  have hB := hd.le
  have hs : (wr.setCell ⟨w.heap.size, 0, none⟩ (.slice A n c)).heap.size = wr.heap.size := by simp [World.setCell]
  refine ⟨A, n, c, ms, rfl, hl, hn, h6, ?_, hf.more (by omega), (hd.far (by dsimp only; omega) (by dsimp only; omega) _).more hq, grown_set hg (.inr (Nat.le_refl _)) _⟩
  rw [hs]
  exact hr.putLo hf (p := ⟨w.heap.size, 0, none⟩) (by dsimp only; omega) _
theorem tab_zero {wr : World} (hb : Blk wr w.heap.size 40 #[.slice none 0 0]) (hd : Rd wr B g Q) (hg : w.grownBy wr (some g)) (hlt : g < w.heap.size) (hq : Q ≤ Q') :
    DrewTab w B g Q' (.returned (.agg #[.slice none 0 0])) (wr.setCell ⟨w.heap.size, 0, none⟩ (.slice none 0 0)) :=
  tab_fin (ms := []) rfl (by omega) (fun l hl => by simp at hl) TRow.nil ⟨fun ad e => (by cases e), fun l ad hl => (by simp at hl)⟩ hb hd hg hlt hq
theorem six_of {ls : List Li} (hv : tabB (ll ls) = true) : ∀ l, l ∈ ls → l.xs.length ≤ 6 := fun l hl => by
  have h6 := ((tabB_iff _).1 hv).six l.xs (List.mem_map_of_mem hl)
  omega
theorem TSt.fin (H : TSt w B g Q V gt ct ls wr) (hq : Q ≤ Q') : DrewTab w B g Q' (.returned (.agg #[.slice (some ⟨gt, 0, none⟩) 8 ct])) (wr.setCell ⟨w.heap.size, 0, none⟩ (.slice (some ⟨gt, 0, none⟩) 8 ct)) := by
  obtain ⟨h1, h2, h3, h4, h5, h6, h7, h8⟩ := H
  exact tab_fin h2.1 (Nat.le_refl _) (six_of h2.2) h3.row h3.tfar h4 h5 h6 h7 hq
end
/-- A drawn put: the table stays valid. -/
def PutDrawn (w : World) (e : Ending) (w' : World) : Prop :=
  ∃ (gt ct : Nat) (cs : List Li) (b : Bool), e = .returned (.tuple #[.agg #[.slice (some ⟨gt, 0, none⟩) 8 ct], .bool b]) ∧ cs.length = 8 ∧ tabB (ll cs) = true ∧ TOwn w' w.heap.size (.slice (some ⟨gt, 0, none⟩) 8 ct) cs ∧ w.grownBy w' none
theorem put_drawn (A : Option Addr) (c : Nat) (ls : List Li) (f k x : Int) (w : World) (hl : ls.length = 8) (hr : TRow w w.heap.size A ls) (hv : tabB (ll ls) = true) (hf0 : 0 ≤ f) (hf : f < 4) (hk0 : 0 ≤ k) (hk : k < 6) (hx0 : 0 ≤ x) (hx : x < 24) :
    Calls Try.prog 125 #[.agg #[.slice A 8 c], .int .i64 f, .int .i64 k, .int .i64 x] w (PutDrawn w) := by
  refine (specTablePut_any A 8 c ls f k x w hl hr (by omega) (ll_six hv)).mono ?_
  rintro e w' ⟨A1, n1, c1, cs, rfl, hcl, hcs, ho, hk'⟩
  have ha : argB (ll ls) f k = true := arg_yes hv (inB_iff.2 ⟨hf0, by omega⟩) (inB_iff.2 ⟨hk0, by omega⟩)
  have hxb : inB x (-1) 47 = true := inB_iff.2 ⟨by omega, by omega⟩
  have hvv : tabB (tputV (ll ls) f k x).1 = true := by
    unfold tputV
    rw [ha, hxb]
    simp only [Bool.and_self, if_true]
    split
    · assumption
    · exact hv
  rw [← hcs] at hvv
  have h8 : cs.length = 8 := by rw [← ll_length]; exact ((tabB_iff _).1 hvv).len
  obtain rfl : n1 = 8 := by omega
  obtain ⟨g, _, e, _⟩ := ho.head hcl (by omega)
  injection e with e1 _ e3
  subst e1; subst e3
  exact ⟨g, c1, cs, _, rfl, h8, hvv, ho, hk'⟩
section
variable {w wr w' : World} {B g Q Q' V gt ct : Nat} {ls : List Li}
theorem TSt.farT {D : Nat} {q : Array Value} (H : TSt w B g Q V gt ct ls wr) (hD : Blk wr D 40 q) (hVD : V < D) (u : Value) : TSt w B g Q V gt ct ls (wr.setCell ⟨D, 0, none⟩ u) := by
  obtain ⟨h1, h2, h3, h4, h5, h6, h7, h8⟩ := H
  have hB := h5.le
  exact ⟨h1.far (by dsimp only; omega) _, h2, h3.put hD 0 _, h4.far (by dsimp only; omega) _, h5.far (by dsimp only; omega) (by dsimp only; omega) _, grown_set h6 (.inr (by dsimp only; omega)) _, h7, h8⟩
/-- The cell of file f and place j of the drawn table: where it lies; it is written. -/
theorem TSt.open_ (H : TSt w B g Q V gt ct ls wr) {f j : Nat} (hf : f < 8) (hj : j < 6) :
    ∃ gl cl xs y, ls[f]? = some ⟨some ⟨gl, 0, none⟩, cl, xs⟩ ∧ xs.length = 6 ∧ 6 ≤ cl ∧ cl ≤ maxLen ∧ wr.cell? ⟨gt, f, none⟩ = some (.slice (some ⟨gl, 0, none⟩) 6 cl) ∧ wr.frozen? ⟨gt, f, none⟩ = false ∧ wr.cell? ⟨gl, j, none⟩ = some (.int .i64 y) ∧ wr.frozen? ⟨gl, j, none⟩ = false ∧ gl ≠ V ∧ gl ≠ w.heap.size ∧ gl ≠ gt ∧ gt ≠ V ∧ gt ≠ w.heap.size ∧ w.heap.size + 1 ≤ gl ∧ w.heap.size + 1 ≤ gt ∧ gl < wr.heap.size ∧ gt < wr.heap.size := by
  obtain ⟨h1, h2, h3, h4, h5, h6, h7, h8⟩ := H
  obtain ⟨xs, x, e1, e6, e2, e3⟩ := ((tabB_iff _).1 h2.2).cell hf hj
  obtain ⟨gl, cl, hli, hio, hgl, hglz⟩ := h3.inner e1 (by omega)
  have c0 := h3.at_ h2.1 hli
  dsimp only at c0
  rw [e6] at c0
  have hcap := VOwn.capn hio (iv_length xs)
  refine ⟨gl, cl, xs, x, hli, e6, by omega, hcap.2, c0, h3.frozen h2.1 f, VOwn.at_ hio (iv_length xs) (iv_at e2), VOwn.frozen hio (iv_length xs) j, VOwn.ne_blk hio h1 (by decide), VOwn.ne_blk hio h4 (by decide), ?_, VOwn.ne_blk h3.1 h1 (by decide), VOwn.ne_blk h3.1 h4 (by decide), hgl, (VOwn.lt h3.1 gt rfl).1, hglz, (VOwn.lt h3.1 gt rfl).2⟩
  rcases VOwn.ne hio h3.1 int_ne with e | e
  · simp [Value.ownBlock] at e
  · simpa [Value.ownBlock] using e
/-- The draw's last state: the table in the variable may be any. -/
def TEnd (w : World) (B g Q V gt ct : Nat) (ms : List Li) (wr : World) : Prop :=
  Blk wr V 40 #[.slice (some ⟨gt, 0, none⟩) 8 ct] ∧ ms.length = 8 ∧ (∀ l, l ∈ ms → l.xs.length ≤ 6) ∧ TRow wr wr.heap.size (some ⟨gt, 0, none⟩) ms ∧ TFar (w.heap.size + 1) (some ⟨gt, 0, none⟩) ms ∧ Blk wr w.heap.size 40 #[.slice none 0 0] ∧ Rd wr B g Q ∧ w.grownBy wr (some g) ∧ g < w.heap.size
theorem TEnd.fin {ms : List Li} (H : TEnd w B g Q V gt ct ms wr) (hq : Q ≤ Q') : DrewTab w B g Q' (.returned (.agg #[.slice (some ⟨gt, 0, none⟩) 8 ct])) (wr.setCell ⟨w.heap.size, 0, none⟩ (.slice (some ⟨gt, 0, none⟩) 8 ct)) := by
  obtain ⟨h1, h2, h3, h4, h5, h6, h7, h8, h9⟩ := H
  exact tab_fin h2 (Nat.le_refl _) h3 h4 h5 h6 h7 h8 h9 hq
/-- A number of the table is written. -/
theorem TSt.set {f j : Nat} {gl cl : Nat} {xs : List Int} (H : TSt w B g Q V gt ct ls wr) (hf : ls[f]? = some ⟨some ⟨gl, 0, none⟩, cl, xs⟩) (h6 : xs.length = 6) (nV : gl ≠ V) (nw : gl ≠ w.heap.size) (hgl : w.heap.size + 1 ≤ gl) (y : Int) :
    ∃ ms, ms = ls.set f ⟨some ⟨gl, 0, none⟩, cl, xs.set j y⟩ ∧ TOwn (wr.setCell ⟨gl, j, none⟩ (.int .i64 y)) (w.heap.size + 1) (.slice (some ⟨gt, 0, none⟩) 8 ct) ms ∧ TEnd w B g Q V gt ct ms (wr.setCell ⟨gl, j, none⟩ (.int .i64 y)) := by
  obtain ⟨h1, h2, h3, h4, h5, h6', h7, h8⟩ := H
  have hB := h5.le
  have ho := h3.set hf j y
  refine ⟨_, rfl, ho, h1.far (by dsimp only; omega) _, by rw [List.length_set]; exact h2.1, fun l hl => ?_, ho.row, ho.tfar, h4.far (by dsimp only; omega) _, h5.far (by dsimp only; omega) (by dsimp only; omega) _, grown_set h6' (.inr (by dsimp only; omega)) _, h7⟩
  rcases List.mem_or_eq_of_mem_set hl with hl | rfl
  · exact six_of h2.2 l hl
  · show (xs.set j y).length ≤ 6
    rw [List.length_set]; omega
/-- Another number of the table is written. -/
theorem TEnd.again {f j : Nat} {gl cl : Nat} {xs : List Int} {ms : List Li} (H : TEnd w B g Q V gt ct ms wr) (hf : ms[f]? = some ⟨some ⟨gl, 0, none⟩, cl, xs⟩) (h6 : xs.length = 6) (ho : TOwn wr (w.heap.size + 1) (.slice (some ⟨gt, 0, none⟩) 8 ct) ms) (nV : gl ≠ V) (nw : gl ≠ w.heap.size) (hgl : w.heap.size + 1 ≤ gl) (y : Int) :
    TEnd w B g Q V gt ct (ms.set f ⟨some ⟨gl, 0, none⟩, cl, xs.set j y⟩) (wr.setCell ⟨gl, j, none⟩ (.int .i64 y)) := by
  obtain ⟨h1, h2, h3, h4, h5, h6', h7, h8, h9⟩ := H
  have hB := h7.le
  have ho' := ho.set hf j y
  refine ⟨h1.far (by dsimp only; omega) _, by rw [List.length_set]; exact h2, fun l hl => ?_, ho'.row, ho'.tfar, h6'.far (by dsimp only; omega) _, h7.far (by dsimp only; omega) (by dsimp only; omega) _, grown_set h8 (.inr (by dsimp only; omega)) _, h9⟩
  rcases List.mem_or_eq_of_mem_set hl with hl | rfl
  · exact h3 l hl
  · show (xs.set j y).length ≤ 6
    rw [List.length_set]; omega
/-- The first list loses its first number. -/
theorem TSt.cut {gl cl : Nat} {xs : List Int} (H : TSt w B g Q V gt ct ls wr) (hf : ls[0]? = some ⟨some ⟨gl, 0, none⟩, cl, xs⟩) (h6 : xs.length = 6) (nV : gt ≠ V) (nw : gt ≠ w.heap.size) (hgt : w.heap.size + 1 ≤ gt) (ngl : gl ≠ gt) :
    TEnd w B g Q V gt ct (ls.set 0 ⟨some ⟨gl, 1, none⟩, cl - 1, xs.drop 1⟩) (wr.setCell ⟨gt, 0, none⟩ (.slice (some ⟨gl, 1, none⟩) 5 (cl - 1))) := by
  obtain ⟨h1, h2, h3, h4, h5, h6', h7, h8⟩ := H
  have hB := h5.le
  have hf' := h3.tfar
  have hs : (wr.setCell ⟨gt, 0, none⟩ (.slice (some ⟨gl, 1, none⟩) 5 (cl - 1))).heap.size = wr.heap.size := by simp [World.setCell]
  have e5 : (xs.drop 1).length = 5 := by rw [List.length_drop]; omega
  have hrow := VOwn.set h3.1 (by rw [lv_length]; exact h2.1) 0 (.slice (some ⟨gl, 1, none⟩) 5 (cl - 1))
  have hml : (ls.set 0 ⟨some ⟨gl, 1, none⟩, cl - 1, xs.drop 1⟩).length = 8 := by rw [List.length_set]; exact h2.1
  have hlv : lv (ls.set 0 ⟨some ⟨gl, 1, none⟩, cl - 1, xs.drop 1⟩) = (lv ls).set 0 (.slice (some ⟨gl, 1, none⟩) 5 (cl - 1)) := by rw [lv_set]; show (lv ls).set 0 (.slice (some ⟨gl, 1, none⟩) (xs.drop 1).length (cl - 1)) = _; rw [e5]
  refine ⟨h1.far (by dsimp only; omega) _, hml, fun l hl => ?_, ⟨?_, fun l hl => ?_⟩, ⟨hf'.1, fun l ad hl e => ?_⟩, h4.far (by dsimp only; omega) _, h5.far (by dsimp only; omega) (by dsimp only; omega) _, grown_set h6' (.inr (by dsimp only; omega)) _, h7⟩
  · rcases List.mem_or_eq_of_mem_set hl with hl | rfl
    · exact six_of h2.2 l hl
    · show (xs.drop 1).length ≤ 6
      omega
  · rw [hlv]
    exact hrow.row
  · rw [hs]
    have keep : ∀ {A' : Option Addr} {ys : List Int}, IRow wr wr.heap.size A' ys → (∀ ad, A' = some ad → ad.block ≠ gt) → IRow (wr.setCell ⟨gt, 0, none⟩ (.slice (some ⟨gl, 1, none⟩) 5 (cl - 1))) wr.heap.size A' ys := fun {A' ys} h hne =>
      VRow.away h (by rw [hs]; exact Nat.le_refl _) fun ad q e e2 _ => World.cell?_setCell_other wr ⟨gt, 0, none⟩ q _ (fun e3 => hne ad e (by rw [← e2]; first | rw [e3] | rw [← e3]))
    rcases List.mem_or_eq_of_mem_set hl with hl | rfl
    · refine keep (h3.row.2 l hl) fun ad e => ?_
      rcases h3.inner_ne hl with e2 | e2
      · simp [Li.row, e, Value.ownBlock] at e2
      · simpa [Li.row, e, Value.ownBlock] using e2
    · refine keep (A' := some ⟨gl, 1, none⟩) ?_ fun ad e => by injection e with e; subst e; exact ngl
      have hin : IRow wr wr.heap.size (some ⟨gl, 0, none⟩) xs := h3.row.inner hf
      intro hn
      obtain ⟨g', off', e, hb, hz, hc⟩ := hin (by rw [iv_length]; omega)
      injection e with e
      injection e with e1 e2
      subst e1; subst e2
      refine ⟨gl, 1, rfl, hb, hz, fun i u hu => ?_⟩
      have hi : (iv xs)[1 + i]? = some u := by
        have : iv (xs.drop 1) = (iv xs).drop 1 := by simp [iv]
        rw [this, List.getElem?_drop] at hu
        exact hu
      have := hc (1 + i) u hi
      rwa [Nat.zero_add] at this
  · rcases List.mem_or_eq_of_mem_set hl with hl | rfl
    · exact hf'.2 l ad hl e
    · have h0 := hf'.2 _ ⟨gl, 0, none⟩ (List.mem_of_getElem? hf) rfl
      injection e with e
      subst e
      exact h0
end
theorem noTab_valid : tabB noTab = true := by decide
set_option maxRecDepth 8000 in
set_option maxHeartbeats 8000000 in
theorem tables_any (w : World) (B g P : Nat) (N : Int) (h : Rd w B g P) (hP : P ≤ 100000) (hN : 1 ≤ N) (hN2 : N ≤ 1000000000000) :
    Calls Try.prog 101 #[.pointer (some ⟨g, 0, none⟩), .int .i64 N] w (DrewTab w B g (P + 50)) := by
  have h0 := h.alloc (.cells #[.slice none 0 0] 40)
  have hg := h.lt
  clear h
  go_enter Try.func101, Try.ntmps101
  go_wp2_with fail
  refine (specNew_any _).mono ?_
  rintro e w2 ⟨A0, ct, ls0, rfl, hcl, hcs, ho, hk⟩
  obtain ⟨gt, _, e, hgt, _⟩ := ho.head hcl (by omega)
  injection e with e1 _ e3
  subst e1; subst e3
  simp only [size_alloc1] at ho hgt
  have hsz := hk.size
  simp only [size_alloc1] at hsz
  have hka : w2.grownBy (w2.alloc (.cells #[.slice (some ⟨gt, 0, none⟩) 8 ct] 40)) none := grown_alloc (grown_refl _ _) _
  have HS : RowKit.Hid (TSt w B g P w2.heap.size gt ct ls0 (w2.alloc (.cells #[.slice (some ⟨gt, 0, none⟩) 8 ct] 40))) := Lib.hid ⟨Blk.new w2 _ _, ⟨hcl, by rw [hcs]; exact noTab_valid⟩, ho.keep hka, ((Blk.new w 40 #[.slice none 0 0]).keep hk).keep hka, (h0.grown hk (by intro k e; cases e)).alloc _, grown_some (grown_trans (grown_trans (grown_alloc (grown_refl w none) _) hk) hka), hg, by omega⟩
  clear h0 hcl hcs ho hk hgt hsz hka
  go_wp2_with fail
  refine (pick_lt _ _ _ _ _ HS.out.2.2.2.2.1 (by omega) (by omega)).mono ?_
  rintro e w3 ⟨x3, rfl, u3, v3, h3, hg3⟩
  replace HS := Lib.hid (HS.out.grown hg3 h3)
  clear h3 hg3
  obtain ⟨k0, rfl⟩ := Int.eq_ofNat_of_zero_le u3
  have HK := Lib.hid (show k0 ≤ 11 by omega)
  clear u3 v3
  go_wp2
  go_loopw [6] (fun i wr => ∃ k : Nat, i = .int .i64 k ∧ k ≤ 11 ∧ ∃ gt ct ls, TSt w B g (P + 40 - 3 * k) w2.heap.size gt ct ls wr) (fun i _ => (intOf i).toNat)
  case atStart => exact ⟨k0, rfl, HK.out, _, _, _, HS.out.more (by have := HK.out; omega)⟩
  case round =>
    clear HS HK
    rename World => wq
    obtain ⟨k, rfl, hk, gt, ct, ls, hS⟩ := hrel
    have HS := Lib.hid hS
    clear hS
    by_cases hpos : 0 < k
    · obtain ⟨k, rfl⟩ : ∃ k' : Nat, k = k' + 1 := ⟨k - 1, by omega⟩
      have t0 : decide ((0 : Int) < ((k + 1 : Nat) : Int)) = true := decide_eq_true (by omega)
      go_upto_region 5 with fail
      go_cut [7, 8] (fun s7 s8 wx => ∃ (D g1 c1 : Nat) (cs : List Li) (b : Bool), s7 = .pointer (some ⟨D, 0, none⟩) ∧ s8 = .bool b ∧ Blk wx D 40 #[.slice (some ⟨g1, 0, none⟩) 8 c1] ∧ cs.length = 8 ∧ tabB (ll cs) = true ∧ TOwn wx (w.heap.size + 1) (.slice (some ⟨g1, 0, none⟩) 8 c1) cs ∧ TSt w B g (P + 40 - 3 * (k + 1) + 3) w2.heap.size gt ct ls wx)
      case first =>
        refine wp_region_held_drew (S := (fun w' => w'.cell? ⟨w2.heap.size, 0, none⟩ = some (.slice (some ⟨gt, 0, none⟩) 8 ct))) (by kernel_rfl) ?_ (fun hHeld => ?_)
        · exact HS.out.1.cell 0
        replace HS := Lib.hid (HS.out.kept (grown_drew (grown_refl _ none)))
        refine heldY 0 17 ?_
        refine heldY 1 18 ?_
        refine heldY 3 20 ?_
        refine heldY 5 22 ?_
        refine wpAnyH_ready (rs := [2, 11]) (by kernel_rfl) (by simp) ?_
        refine AllReadyH.cons rfl (fun K hK => ?_) (AllReadyH.cons rfl (fun K hK => ?_) AllReadyH.nil)
        · go_simp
          go_at_call 51
          refine (pick_lt _ _ _ _ _ HS.out.2.2.2.2.1 (by omega) (by omega)).mono ?_
          rintro e w20 ⟨x20, rfl, u20, v20, h20, hg20⟩
          replace HS := Lib.hid (HS.out.grown hg20 h20)
          clear h20 hg20
          refine hK.out _ _ ?_ (fun hHeld => ?_)
          · exact HS.out.1.cell 0
          clear hK K
          try simp only [Act.put, List.setIfInBounds_toArray, List.set_cons_zero, List.set_cons_succ]
          refine wpAnyH_ready (rs := [4, 11]) (by kernel_rfl) (by simp) ?_
          refine AllReadyH.cons rfl (fun K hK => ?_) (AllReadyH.cons rfl (fun K hK => ?_) AllReadyH.nil)
          · go_simp
            go_at_call 51
            refine (pick_lt _ _ _ _ _ HS.out.2.2.2.2.1 (by omega) (by omega)).mono ?_
            rintro e w21 ⟨x21, rfl, u21, v21, h21, hg21⟩
            replace HS := Lib.hid (HS.out.grown hg21 h21)
            clear h21 hg21
            refine hK.out _ _ ?_ (fun hHeld => ?_)
            · exact HS.out.1.cell 0
            clear hK K
            try simp only [Act.put, List.setIfInBounds_toArray, List.set_cons_zero, List.set_cons_succ]
            refine wpAnyH_ready (rs := [6, 11]) (by kernel_rfl) (by simp) ?_
            refine AllReadyH.cons rfl (fun K hK => ?_) (AllReadyH.cons rfl (fun K hK => ?_) AllReadyH.nil)
            · go_simp
              go_at_call 51
              refine (pick_lt _ _ _ _ _ HS.out.2.2.2.2.1 (by omega) (by omega)).mono ?_
              rintro e w22 ⟨x22, rfl, u22, v22, h22, hg22⟩
              replace HS := Lib.hid (HS.out.grown hg22 h22)
              clear h22 hg22
              refine hK.out _ _ ?_ (fun hHeld => ?_)
              · exact HS.out.1.cell 0
              clear hK K
              try simp only [Act.put, List.setIfInBounds_toArray, List.set_cons_zero, List.set_cons_succ]
              refine wpAnyH_ready (rs := [7, 11]) (by kernel_rfl) (by simp) ?_
              refine AllReadyH.cons rfl (fun K hK => ?_) (AllReadyH.cons rfl (fun K hK => ?_) AllReadyH.nil)
              · go_simp
                go_at_call 125
                refine (put_drawn _ _ ls _ _ _ _ HS.out.2.1.1 HS.out.2.2.1.row HS.out.2.1.2 u20 v20 u21 v21 u22 v22).mono ?_
                rintro e w23 ⟨g1, c1, cs, b, rfl, hl, hv, ho, hk⟩
                have hsz := HS.out.2.2.2.2.2.1.size
                have hVs := HS.out.2.2.2.1.lt
                (try simp only [World.drew, size_alloc1] at hVs)
                have ho1 := ho.base_le (base' := w.heap.size + 1) (by (try simp only [World.drew, size_alloc1]); omega)
                replace HS := Lib.hid (HS.out.kept hk)
                have HM := Lib.hid (And.intro hl (And.intro hv ho1))
                clear hl hv ho ho1 hk hsz hVs
                refine hK.out _ _ ?_ (fun hHeld => ?_)
                · exact HS.out.1.cell 0
                clear hK K
                try simp only [Act.put, List.setIfInBounds_toArray, List.set_cons_zero, List.set_cons_succ]
                refine heldY 8 16 ?_
                refine heldY 9 25 ?_
                refine heldY 10 26 ?_
                refine wpAnyH_ready (rs := [11]) (by kernel_rfl) (by simp) ?_
                refine AllReadyH.cons rfl (fun K hK => ?_) AllReadyH.nil
                have hv0 : Blk (World.alloc w23 (.cells #[.slice none 0 0] 40)) w23.heap.size 40 #[.slice none 0 0] := by have h := Blk.new w23 40 #[.slice none 0 0]; (try simp only [World.drew] at h); exact h
                have HV := Lib.hid hv0
                clear hv0
                have hVD := HS.out.1.lt
                (try simp only [World.drew] at hVD)
                have HSx := Lib.hid HS.out
                replace HS := Lib.hid (HS.out.kept (grown_alloc (grown_refl _ none) (.cells #[.slice none 0 0] 40)))
                go_simp
                refine hK.out _ _ ?_ (fun hHeld => ?_)
                · exact HS.out.1.cell 0
                clear hK K
                try simp only [Act.put, List.setIfInBounds_toArray, List.set_cons_zero, List.set_cons_succ]
                have d0 := HV.out.cell 0
                have e0 := HV.out.frozen 0
                have na : w2.heap.size ≠ w23.heap.size := by omega
                have nb : w23.heap.size ≠ w2.heap.size := by omega
                have z5 := HS.out.1.cell 0
                refine wpAnyH_ready (rs := [12]) (by kernel_rfl) (by simp) ?_
                refine AllReadyH.cons rfl (fun K hK => ?_) AllReadyH.nil
                go_simp
                refine hK.out _ _ ?_ (fun hHeld => ?_)
                · first | with_reducible assumption | go_keep
                clear hK K
                try simp only [Act.put, List.setIfInBounds_toArray, List.set_cons_zero, List.set_cons_succ]
                refine wpAnyH_ready (rs := [13]) (by kernel_rfl) (by simp) ?_
                refine AllReadyH.cons rfl (fun K hK => ?_) AllReadyH.nil
                go_simp
                refine hK.out _ _ ?_ (fun hHeld => ?_)
                · first | with_reducible assumption | go_keep
                clear hK K
                try simp only [Act.put, List.setIfInBounds_toArray, List.set_cons_zero, List.set_cons_succ]
                refine wpAnyH_done (by kernel_rfl) ?_ _
                go_wp2_with fail
                go_meet
                exact ⟨_, _, _, cs, _, rfl, rfl, Blk.new w23 _ _, HM.out.1, HM.out.2.1, HM.out.2.2.keep (grown_alloc (grown_refl _ none) _), HSx.out.kept (grown_alloc (grown_refl _ none) _)⟩
              · have hv0 : Blk (World.alloc w22 (.cells #[.slice none 0 0] 40)) w22.heap.size 40 #[.slice none 0 0] := by have h := Blk.new w22 40 #[.slice none 0 0]; (try simp only [World.drew] at h); exact h
                have HV := Lib.hid hv0
                clear hv0
                have hVD := HS.out.1.lt
                (try simp only [World.drew] at hVD)
                have HSx := Lib.hid HS.out
                replace HS := Lib.hid (HS.out.kept (grown_alloc (grown_refl _ none) (.cells #[.slice none 0 0] 40)))
                go_simp
                refine hK.out _ _ ?_ (fun hHeld => ?_)
                · exact HS.out.1.cell 0
                clear hK K
                try simp only [Act.put, List.setIfInBounds_toArray, List.set_cons_zero, List.set_cons_succ]
                refine wpAnyH_ready (rs := [7]) (by kernel_rfl) (by simp) ?_
                refine AllReadyH.cons rfl (fun K hK => ?_) AllReadyH.nil
                go_simp
                go_at_call 125
                refine (put_drawn _ _ ls _ _ _ _ HS.out.2.1.1 HS.out.2.2.1.row HS.out.2.1.2 u20 v20 u21 v21 u22 v22).mono ?_
                rintro e w23 ⟨g1, c1, cs, b, rfl, hl, hv, ho, hk⟩
                have hsz := HS.out.2.2.2.2.2.1.size
                have hVs := HS.out.2.2.2.1.lt
                (try simp only [World.drew, size_alloc1] at hVs)
                replace HV := Lib.hid (HV.out.keep hk)
                have ho1 := ho.base_le (base' := w.heap.size + 1) (by (try simp only [World.drew, size_alloc1]); omega)
                replace HS := Lib.hid (HS.out.kept hk)
                have HM := Lib.hid (And.intro hl (And.intro hv ho1))
                clear hl hv ho ho1 hk hsz hVs
                refine hK.out _ _ ?_ (fun hHeld => ?_)
                · exact HS.out.1.cell 0
                clear hK K
                try simp only [Act.put, List.setIfInBounds_toArray, List.set_cons_zero, List.set_cons_succ]
                refine heldY 8 16 ?_
                refine heldY 9 25 ?_
                refine heldY 10 26 ?_
                have d0 := HV.out.cell 0
                have e0 := HV.out.frozen 0
                have na : w2.heap.size ≠ w22.heap.size := by omega
                have nb : w22.heap.size ≠ w2.heap.size := by omega
                have z5 := HS.out.1.cell 0
                refine wpAnyH_ready (rs := [12]) (by kernel_rfl) (by simp) ?_
                refine AllReadyH.cons rfl (fun K hK => ?_) AllReadyH.nil
                go_simp
                refine hK.out _ _ ?_ (fun hHeld => ?_)
                · first | with_reducible assumption | go_keep
                clear hK K
                try simp only [Act.put, List.setIfInBounds_toArray, List.set_cons_zero, List.set_cons_succ]
                refine wpAnyH_ready (rs := [13]) (by kernel_rfl) (by simp) ?_
                refine AllReadyH.cons rfl (fun K hK => ?_) AllReadyH.nil
                go_simp
                refine hK.out _ _ ?_ (fun hHeld => ?_)
                · first | with_reducible assumption | go_keep
                clear hK K
                try simp only [Act.put, List.setIfInBounds_toArray, List.set_cons_zero, List.set_cons_succ]
                refine wpAnyH_done (by kernel_rfl) ?_ _
                go_wp2_with fail
                go_meet
                exact ⟨_, _, _, cs, _, rfl, rfl, HV.out.put 0 (.slice (some ⟨g1, 0, none⟩) 8 c1), HM.out.1, HM.out.2.1, HM.out.2.2.put HV.out 0 (.slice (some ⟨g1, 0, none⟩) 8 c1), HS.out.farT HV.out (by omega) (.slice (some ⟨g1, 0, none⟩) 8 c1)⟩
            · have hv0 : Blk (World.alloc w21 (.cells #[.slice none 0 0] 40)) w21.heap.size 40 #[.slice none 0 0] := by have h := Blk.new w21 40 #[.slice none 0 0]; (try simp only [World.drew] at h); exact h
              have HV := Lib.hid hv0
              clear hv0
              have hVD := HS.out.1.lt
              (try simp only [World.drew] at hVD)
              have HSx := Lib.hid HS.out
              replace HS := Lib.hid (HS.out.kept (grown_alloc (grown_refl _ none) (.cells #[.slice none 0 0] 40)))
              go_simp
              refine hK.out _ _ ?_ (fun hHeld => ?_)
              · exact HS.out.1.cell 0
              clear hK K
              try simp only [Act.put, List.setIfInBounds_toArray, List.set_cons_zero, List.set_cons_succ]
              refine wpAnyH_ready (rs := [6]) (by kernel_rfl) (by simp) ?_
              refine AllReadyH.cons rfl (fun K hK => ?_) AllReadyH.nil
              go_simp
              go_at_call 51
              refine (pick_lt _ _ _ _ _ HS.out.2.2.2.2.1 (by omega) (by omega)).mono ?_
              rintro e w22 ⟨x22, rfl, u22, v22, h22, hg22⟩
              have hgl := HS.out.2.2.2.2.2.2.1
              have hwV := HS.out.2.2.2.2.2.2.2
              replace HV := Lib.hid (HV.out.grown hg22 (by intro e; injection e with e; omega))
              replace HS := Lib.hid (HS.out.grown hg22 h22)
              clear h22 hg22
              refine hK.out _ _ ?_ (fun hHeld => ?_)
              · exact HS.out.1.cell 0
              clear hK K
              try simp only [Act.put, List.setIfInBounds_toArray, List.set_cons_zero, List.set_cons_succ]
              refine wpAnyH_ready (rs := [7]) (by kernel_rfl) (by simp) ?_
              refine AllReadyH.cons rfl (fun K hK => ?_) AllReadyH.nil
              go_simp
              go_at_call 125
              refine (put_drawn _ _ ls _ _ _ _ HS.out.2.1.1 HS.out.2.2.1.row HS.out.2.1.2 u20 v20 u21 v21 u22 v22).mono ?_
              rintro e w23 ⟨g1, c1, cs, b, rfl, hl, hv, ho, hk⟩
              have hsz := HS.out.2.2.2.2.2.1.size
              have hVs := HS.out.2.2.2.1.lt
              (try simp only [World.drew, size_alloc1] at hVs)
              replace HV := Lib.hid (HV.out.keep hk)
              have ho1 := ho.base_le (base' := w.heap.size + 1) (by (try simp only [World.drew, size_alloc1]); omega)
              replace HS := Lib.hid (HS.out.kept hk)
              have HM := Lib.hid (And.intro hl (And.intro hv ho1))
              clear hl hv ho ho1 hk hsz hVs
              refine hK.out _ _ ?_ (fun hHeld => ?_)
              · exact HS.out.1.cell 0
              clear hK K
              try simp only [Act.put, List.setIfInBounds_toArray, List.set_cons_zero, List.set_cons_succ]
              refine heldY 8 16 ?_
              refine heldY 9 25 ?_
              refine heldY 10 26 ?_
              have d0 := HV.out.cell 0
              have e0 := HV.out.frozen 0
              have na : w2.heap.size ≠ w21.heap.size := by omega
              have nb : w21.heap.size ≠ w2.heap.size := by omega
              have z5 := HS.out.1.cell 0
              refine wpAnyH_ready (rs := [12]) (by kernel_rfl) (by simp) ?_
              refine AllReadyH.cons rfl (fun K hK => ?_) AllReadyH.nil
              go_simp
              refine hK.out _ _ ?_ (fun hHeld => ?_)
              · first | with_reducible assumption | go_keep
              clear hK K
              try simp only [Act.put, List.setIfInBounds_toArray, List.set_cons_zero, List.set_cons_succ]
              refine wpAnyH_ready (rs := [13]) (by kernel_rfl) (by simp) ?_
              refine AllReadyH.cons rfl (fun K hK => ?_) AllReadyH.nil
              go_simp
              refine hK.out _ _ ?_ (fun hHeld => ?_)
              · first | with_reducible assumption | go_keep
              clear hK K
              try simp only [Act.put, List.setIfInBounds_toArray, List.set_cons_zero, List.set_cons_succ]
              refine wpAnyH_done (by kernel_rfl) ?_ _
              go_wp2_with fail
              go_meet
              exact ⟨_, _, _, cs, _, rfl, rfl, HV.out.put 0 (.slice (some ⟨g1, 0, none⟩) 8 c1), HM.out.1, HM.out.2.1, HM.out.2.2.put HV.out 0 (.slice (some ⟨g1, 0, none⟩) 8 c1), HS.out.farT HV.out (by omega) (.slice (some ⟨g1, 0, none⟩) 8 c1)⟩
          · have hv0 : Blk (World.alloc w20 (.cells #[.slice none 0 0] 40)) w20.heap.size 40 #[.slice none 0 0] := by have h := Blk.new w20 40 #[.slice none 0 0]; (try simp only [World.drew] at h); exact h
            have HV := Lib.hid hv0
            clear hv0
            have hVD := HS.out.1.lt
            (try simp only [World.drew] at hVD)
            have HSx := Lib.hid HS.out
            replace HS := Lib.hid (HS.out.kept (grown_alloc (grown_refl _ none) (.cells #[.slice none 0 0] 40)))
            go_simp
            refine hK.out _ _ ?_ (fun hHeld => ?_)
            · exact HS.out.1.cell 0
            clear hK K
            try simp only [Act.put, List.setIfInBounds_toArray, List.set_cons_zero, List.set_cons_succ]
            refine wpAnyH_ready (rs := [4]) (by kernel_rfl) (by simp) ?_
            refine AllReadyH.cons rfl (fun K hK => ?_) AllReadyH.nil
            go_simp
            go_at_call 51
            refine (pick_lt _ _ _ _ _ HS.out.2.2.2.2.1 (by omega) (by omega)).mono ?_
            rintro e w21 ⟨x21, rfl, u21, v21, h21, hg21⟩
            have hgl := HS.out.2.2.2.2.2.2.1
            have hwV := HS.out.2.2.2.2.2.2.2
            replace HV := Lib.hid (HV.out.grown hg21 (by intro e; injection e with e; omega))
            replace HS := Lib.hid (HS.out.grown hg21 h21)
            clear h21 hg21
            refine hK.out _ _ ?_ (fun hHeld => ?_)
            · exact HS.out.1.cell 0
            clear hK K
            try simp only [Act.put, List.setIfInBounds_toArray, List.set_cons_zero, List.set_cons_succ]
            refine wpAnyH_ready (rs := [6]) (by kernel_rfl) (by simp) ?_
            refine AllReadyH.cons rfl (fun K hK => ?_) AllReadyH.nil
            go_simp
            go_at_call 51
            refine (pick_lt _ _ _ _ _ HS.out.2.2.2.2.1 (by omega) (by omega)).mono ?_
            rintro e w22 ⟨x22, rfl, u22, v22, h22, hg22⟩
            have hgl := HS.out.2.2.2.2.2.2.1
            have hwV := HS.out.2.2.2.2.2.2.2
            replace HV := Lib.hid (HV.out.grown hg22 (by intro e; injection e with e; omega))
            replace HS := Lib.hid (HS.out.grown hg22 h22)
            clear h22 hg22
            refine hK.out _ _ ?_ (fun hHeld => ?_)
            · exact HS.out.1.cell 0
            clear hK K
            try simp only [Act.put, List.setIfInBounds_toArray, List.set_cons_zero, List.set_cons_succ]
            refine wpAnyH_ready (rs := [7]) (by kernel_rfl) (by simp) ?_
            refine AllReadyH.cons rfl (fun K hK => ?_) AllReadyH.nil
            go_simp
            go_at_call 125
            refine (put_drawn _ _ ls _ _ _ _ HS.out.2.1.1 HS.out.2.2.1.row HS.out.2.1.2 u20 v20 u21 v21 u22 v22).mono ?_
            rintro e w23 ⟨g1, c1, cs, b, rfl, hl, hv, ho, hk⟩
            have hsz := HS.out.2.2.2.2.2.1.size
            have hVs := HS.out.2.2.2.1.lt
            (try simp only [World.drew, size_alloc1] at hVs)
            replace HV := Lib.hid (HV.out.keep hk)
            have ho1 := ho.base_le (base' := w.heap.size + 1) (by (try simp only [World.drew, size_alloc1]); omega)
            replace HS := Lib.hid (HS.out.kept hk)
            have HM := Lib.hid (And.intro hl (And.intro hv ho1))
            clear hl hv ho ho1 hk hsz hVs
            refine hK.out _ _ ?_ (fun hHeld => ?_)
            · exact HS.out.1.cell 0
            clear hK K
            try simp only [Act.put, List.setIfInBounds_toArray, List.set_cons_zero, List.set_cons_succ]
            refine heldY 8 16 ?_
            refine heldY 9 25 ?_
            refine heldY 10 26 ?_
            have d0 := HV.out.cell 0
            have e0 := HV.out.frozen 0
            have na : w2.heap.size ≠ w20.heap.size := by omega
            have nb : w20.heap.size ≠ w2.heap.size := by omega
            have z5 := HS.out.1.cell 0
            refine wpAnyH_ready (rs := [12]) (by kernel_rfl) (by simp) ?_
            refine AllReadyH.cons rfl (fun K hK => ?_) AllReadyH.nil
            go_simp
            refine hK.out _ _ ?_ (fun hHeld => ?_)
            · first | with_reducible assumption | go_keep
            clear hK K
            try simp only [Act.put, List.setIfInBounds_toArray, List.set_cons_zero, List.set_cons_succ]
            refine wpAnyH_ready (rs := [13]) (by kernel_rfl) (by simp) ?_
            refine AllReadyH.cons rfl (fun K hK => ?_) AllReadyH.nil
            go_simp
            refine hK.out _ _ ?_ (fun hHeld => ?_)
            · first | with_reducible assumption | go_keep
            clear hK K
            try simp only [Act.put, List.setIfInBounds_toArray, List.set_cons_zero, List.set_cons_succ]
            refine wpAnyH_done (by kernel_rfl) ?_ _
            go_wp2_with fail
            go_meet
            exact ⟨_, _, _, cs, _, rfl, rfl, HV.out.put 0 (.slice (some ⟨g1, 0, none⟩) 8 c1), HM.out.1, HM.out.2.1, HM.out.2.2.put HV.out 0 (.slice (some ⟨g1, 0, none⟩) 8 c1), HS.out.farT HV.out (by omega) (.slice (some ⟨g1, 0, none⟩) 8 c1)⟩
        · have hv0 : Blk (World.alloc wq.drew (.cells #[.slice none 0 0] 40)) wq.heap.size 40 #[.slice none 0 0] := by have h := Blk.new wq.drew 40 #[.slice none 0 0]; (try simp only [World.drew] at h); exact h
          have HV := Lib.hid hv0
          clear hv0
          have hVD := HS.out.1.lt
          (try simp only [World.drew] at hVD)
          have HSx := Lib.hid HS.out
          replace HS := Lib.hid (HS.out.kept (grown_alloc (grown_refl _ none) (.cells #[.slice none 0 0] 40)))
          go_simp
          refine hK.out _ _ ?_ (fun hHeld => ?_)
          · exact HS.out.1.cell 0
          clear hK K
          try simp only [Act.put, List.setIfInBounds_toArray, List.set_cons_zero, List.set_cons_succ]
          refine wpAnyH_ready (rs := [2]) (by kernel_rfl) (by simp) ?_
          refine AllReadyH.cons rfl (fun K hK => ?_) AllReadyH.nil
          go_simp
          go_at_call 51
          refine (pick_lt _ _ _ _ _ HS.out.2.2.2.2.1 (by omega) (by omega)).mono ?_
          rintro e w20 ⟨x20, rfl, u20, v20, h20, hg20⟩
          have hgl := HS.out.2.2.2.2.2.2.1
          have hwV := HS.out.2.2.2.2.2.2.2
          replace HV := Lib.hid (HV.out.grown hg20 (by intro e; injection e with e; omega))
          replace HS := Lib.hid (HS.out.grown hg20 h20)
          clear h20 hg20
          refine hK.out _ _ ?_ (fun hHeld => ?_)
          · exact HS.out.1.cell 0
          clear hK K
          try simp only [Act.put, List.setIfInBounds_toArray, List.set_cons_zero, List.set_cons_succ]
          refine wpAnyH_ready (rs := [4]) (by kernel_rfl) (by simp) ?_
          refine AllReadyH.cons rfl (fun K hK => ?_) AllReadyH.nil
          go_simp
          go_at_call 51
          refine (pick_lt _ _ _ _ _ HS.out.2.2.2.2.1 (by omega) (by omega)).mono ?_
          rintro e w21 ⟨x21, rfl, u21, v21, h21, hg21⟩
          have hgl := HS.out.2.2.2.2.2.2.1
          have hwV := HS.out.2.2.2.2.2.2.2
          replace HV := Lib.hid (HV.out.grown hg21 (by intro e; injection e with e; omega))
          replace HS := Lib.hid (HS.out.grown hg21 h21)
          clear h21 hg21
          refine hK.out _ _ ?_ (fun hHeld => ?_)
          · exact HS.out.1.cell 0
          clear hK K
          try simp only [Act.put, List.setIfInBounds_toArray, List.set_cons_zero, List.set_cons_succ]
          refine wpAnyH_ready (rs := [6]) (by kernel_rfl) (by simp) ?_
          refine AllReadyH.cons rfl (fun K hK => ?_) AllReadyH.nil
          go_simp
          go_at_call 51
          refine (pick_lt _ _ _ _ _ HS.out.2.2.2.2.1 (by omega) (by omega)).mono ?_
          rintro e w22 ⟨x22, rfl, u22, v22, h22, hg22⟩
          have hgl := HS.out.2.2.2.2.2.2.1
          have hwV := HS.out.2.2.2.2.2.2.2
          replace HV := Lib.hid (HV.out.grown hg22 (by intro e; injection e with e; omega))
          replace HS := Lib.hid (HS.out.grown hg22 h22)
          clear h22 hg22
          refine hK.out _ _ ?_ (fun hHeld => ?_)
          · exact HS.out.1.cell 0
          clear hK K
          try simp only [Act.put, List.setIfInBounds_toArray, List.set_cons_zero, List.set_cons_succ]
          refine wpAnyH_ready (rs := [7]) (by kernel_rfl) (by simp) ?_
          refine AllReadyH.cons rfl (fun K hK => ?_) AllReadyH.nil
          go_simp
          go_at_call 125
          refine (put_drawn _ _ ls _ _ _ _ HS.out.2.1.1 HS.out.2.2.1.row HS.out.2.1.2 u20 v20 u21 v21 u22 v22).mono ?_
          rintro e w23 ⟨g1, c1, cs, b, rfl, hl, hv, ho, hk⟩
          have hsz := HS.out.2.2.2.2.2.1.size
          have hVs := HS.out.2.2.2.1.lt
          (try simp only [World.drew, size_alloc1] at hVs)
          replace HV := Lib.hid (HV.out.keep hk)
          have ho1 := ho.base_le (base' := w.heap.size + 1) (by (try simp only [World.drew, size_alloc1]); omega)
          replace HS := Lib.hid (HS.out.kept hk)
          have HM := Lib.hid (And.intro hl (And.intro hv ho1))
          clear hl hv ho ho1 hk hsz hVs
          refine hK.out _ _ ?_ (fun hHeld => ?_)
          · exact HS.out.1.cell 0
          clear hK K
          try simp only [Act.put, List.setIfInBounds_toArray, List.set_cons_zero, List.set_cons_succ]
          refine heldY 8 16 ?_
          refine heldY 9 25 ?_
          refine heldY 10 26 ?_
          have d0 := HV.out.cell 0
          have e0 := HV.out.frozen 0
          have na : w2.heap.size ≠ wq.heap.size := by omega
          have nb : wq.heap.size ≠ w2.heap.size := by omega
          have z5 := HS.out.1.cell 0
          refine wpAnyH_ready (rs := [12]) (by kernel_rfl) (by simp) ?_
          refine AllReadyH.cons rfl (fun K hK => ?_) AllReadyH.nil
          go_simp
          refine hK.out _ _ ?_ (fun hHeld => ?_)
          · first | with_reducible assumption | go_keep
          clear hK K
          try simp only [Act.put, List.setIfInBounds_toArray, List.set_cons_zero, List.set_cons_succ]
          refine wpAnyH_ready (rs := [13]) (by kernel_rfl) (by simp) ?_
          refine AllReadyH.cons rfl (fun K hK => ?_) AllReadyH.nil
          go_simp
          refine hK.out _ _ ?_ (fun hHeld => ?_)
          · first | with_reducible assumption | go_keep
          clear hK K
          try simp only [Act.put, List.setIfInBounds_toArray, List.set_cons_zero, List.set_cons_succ]
          refine wpAnyH_done (by kernel_rfl) ?_ _
          go_wp2_with fail
          go_meet
          exact ⟨_, _, _, cs, _, rfl, rfl, HV.out.put 0 (.slice (some ⟨g1, 0, none⟩) 8 c1), HM.out.1, HM.out.2.1, HM.out.2.2.put HV.out 0 (.slice (some ⟨g1, 0, none⟩) 8 c1), HS.out.farT HV.out (by omega) (.slice (some ⟨g1, 0, none⟩) 8 c1)⟩
      case rest =>
        clear HS
        obtain ⟨D, g1, c1, cs, b, rfl, rfl, hD, hl, hv, ho, hS⟩ := hcut
        rename World => wx
        have b7 : wx.cell? ⟨D, 0, none⟩ = some (.slice (some ⟨g1, 0, none⟩) 8 c1) := hD.cell 0
        have b5 : wx.cell? ⟨w2.heap.size, 0, none⟩ = some (.slice (some ⟨gt, 0, none⟩) 8 ct) := hS.1.cell 0
        have f5 : wx.frozen? ⟨w2.heap.size, 0, none⟩ = false := hS.1.frozen 0
        have HZ := Lib.hid ((hS.put hl hv ho).more (show P + 40 - 3 * (k + 1) + 3 ≤ P + 40 - 3 * k by omega))
        clear hD hl hv ho hS
        go_wp2
        go_roundw
        case rel => exact ⟨k, by go_num, by omega, _, _, _, HZ.out⟩
        case measure => first | (simp [intOf]; done) | (simp [intOf]; omega)
    · obtain rfl : k = 0 := by omega
      go_wp2_with fail
      refine (odd_any _ _ _ _ _ HS.out.2.2.2.2.1 (by omega) hN hN2).mono ?_
      rintro e w4 ⟨o4, rfl, h4, hg4⟩
      replace HS := Lib.hid (HS.out.grown hg4 h4)
      clear h4 hg4
      cases o4
      · have z5 : w4.cell? ⟨w2.heap.size, 0, none⟩ = some (.slice (some ⟨gt, 0, none⟩) 8 ct) := HS.out.1.cell 0
        have z4 : w4.cell? ⟨w.heap.size, 0, none⟩ = some (.slice none 0 0) := HS.out.2.2.2.1.cell 0
        have y4 : w4.frozen? ⟨w.heap.size, 0, none⟩ = false := HS.out.2.2.2.1.frozen 0
        go_wp2
        exact bodyPost_ret (v := .agg #[.slice (some ⟨gt, 0, none⟩) 8 ct]) (by simp [results, Try.results101, go_sem, *]) rfl (HS.out.fin (by omega))
      · go_wp2_with fail
        refine (pick_lt _ _ _ _ _ HS.out.2.2.2.2.1 (by omega) (by omega)).mono ?_
        rintro e w5 ⟨x5, rfl, u5, v5, h5, hg5⟩
        replace HS := Lib.hid (HS.out.grown hg5 h5)
        clear h5 hg5
        have hx : x5 = 0 ∨ x5 = 1 ∨ x5 = 2 ∨ x5 = 3 := by omega
        rcases hx with rfl | rfl | rfl | rfl
        · have z5 : w5.cell? ⟨w2.heap.size, 0, none⟩ = some (.slice (some ⟨gt, 0, none⟩) 8 ct) := HS.out.1.cell 0
          have z4 : w5.cell? ⟨w.heap.size, 0, none⟩ = some (.slice none 0 0) := HS.out.2.2.2.1.cell 0
          have y4 : w5.frozen? ⟨w.heap.size, 0, none⟩ = false := HS.out.2.2.2.1.frozen 0
          go_wp2
          exact bodyPost_ret (v := .agg #[.slice none 0 0]) (by simp [results, Try.results101, go_sem, *]) rfl (tab_zero HS.out.2.2.2.1 HS.out.2.2.2.2.1 HS.out.2.2.2.2.2.1 HS.out.2.2.2.2.2.2.1 (by omega))
        · obtain ⟨gl, cl, xs, y0, hli, h6, hc6, hcm, c0, c0f, c1, c1f, n1, n2, n3, n4, n5, n6, n7, n8, n9⟩ := HS.out.open_ (show 0 < 8 by omega) (show 0 < 6 by omega)
          have HE := Lib.hid (HS.out.cut hli h6 n4 n5 n7 n3)
          have b5 := HS.out.1.cell 0
          have hc1 : cl ≠ 1 := by omega
          have hcm2 : cl ≤ 9223372036854775807 := by unfold maxLen at hcm; omega
          have m3 : gt ≠ gl := fun e => n3 e.symm
          have m4 : w2.heap.size ≠ gt := fun e => n4 e.symm
          have m5 : w.heap.size ≠ gt := fun e => n5 e.symm
          go_wp2
          refine wp_region_held_drew (S := (fun w' => w'.cell? ⟨w2.heap.size, 0, none⟩ = some (.slice (some ⟨gt, 0, none⟩) 8 ct))) (by kernel_rfl) ?_ (fun hHeld => ?_)
          · exact b5
          refine heldY 0 48 ?_
          refine heldY 1 49 ?_
          refine heldY 2 50 ?_
          refine heldY 3 51 ?_
          refine heldY 4 52 ?_
          refine wpAnyH_ready (rs := [5]) (by kernel_rfl) (by simp) ?_
          refine AllReadyH.cons rfl (fun K hK => ?_) AllReadyH.nil
          go_simp
          refine hK.out _ _ ?_ (fun hHeld => ?_)
          · with_reducible assumption
          clear hK K
          try simp only [Act.put, List.setIfInBounds_toArray, List.set_cons_zero, List.set_cons_succ]
          refine wpAnyH_ready (rs := [6]) (by kernel_rfl) (by simp) ?_
          refine AllReadyH.cons rfl (fun K hK => ?_) AllReadyH.nil
          go_simp
          refine hK.out _ _ ?_ (fun hHeld => ?_)
          · with_reducible assumption
          clear hK K
          try simp only [Act.put, List.setIfInBounds_toArray, List.set_cons_zero, List.set_cons_succ]
          refine heldY 7 55 ?_
          refine wpAnyH_ready (rs := [8]) (by kernel_rfl) (by simp) ?_
          refine AllReadyH.cons rfl (fun K hK => ?_) AllReadyH.nil
          go_simp
          refine hK.out _ _ ?_ (fun hHeld => ?_)
          · exact HE.out.1.cell 0
          clear hK K
          try simp only [Act.put, List.setIfInBounds_toArray, List.set_cons_zero, List.set_cons_succ]
          refine wpAnyH_done (by kernel_rfl) ?_ _
          clear b5 c0 c0f c1 c1f
          have z5 := HE.out.1.cell 0
          have z4 := HE.out.2.2.2.2.2.1.cell 0
          have y4 := HE.out.2.2.2.2.2.1.frozen 0
          go_wp2
          exact bodyPost_ret (v := .agg #[.slice (some ⟨gt, 0, none⟩) 8 ct]) (by simp [results, Try.results101, go_sem, *]) rfl ((HE.out.fin (by omega)).kept (grown_drew (grown_refl _ none)))
        · obtain ⟨gl, cl, xs, y0, hli, h6, hc6, hcm, c0, c0f, c1, c1f, n1, n2, n3, n4, n5, n6, n7, n8, n9⟩ := HS.out.open_ (show 0 < 8 by omega) (show 0 < 6 by omega)
          have HT := Lib.hid c0
          clear c1 c1f hli n1 n2 n3 n4 n5 n6 n7
          go_wp2
          refine wp_region_held_drew (S := (fun w' => w'.cell? ⟨w2.heap.size, 0, none⟩ = some (.slice (some ⟨gt, 0, none⟩) 8 ct) ∧ w'.cell? ⟨gt, 0, none⟩ = some (.slice (some ⟨gl, 0, none⟩) 6 cl))) (by kernel_rfl) ?_ (fun hHeld => ?_)
          · exact ⟨HS.out.1.cell 0, c0⟩
          replace HS := Lib.hid (HS.out.kept (grown_drew (grown_refl w5 none)))
          replace HT := Lib.hid (show w5.drew.cell? ⟨gt, 0, none⟩ = some (.slice (some ⟨gl, 0, none⟩) 6 cl) from HT.out)
          clear c0 c0f
          refine heldY 0 58 ?_
          refine heldY 1 59 ?_
          refine heldY 2 60 ?_
          refine heldY 3 61 ?_
          refine heldY 5 63 ?_
          refine wpAnyH_ready (rs := [4, 6]) (by kernel_rfl) (by simp) ?_
          refine AllReadyH.cons rfl (fun K hK => ?_) (AllReadyH.cons rfl (fun K hK => ?_) AllReadyH.nil)
          · have hl0 : Blk (World.alloc w5.drew (.cells #[.int .i64 (-2), .int .i64 48] 3)) w5.heap.size 3 #[.int .i64 (-2), .int .i64 48] := by have h := Blk.new w5.drew 3 #[.int .i64 (-2), .int .i64 48]; (try simp only [World.drew] at h); exact h
            have HL := Lib.hid hl0
            clear hl0
            have hgB := HS.out.2.2.2.2.2.1.size
            (try simp only [World.drew] at hgB)
            have hgl := HS.out.2.2.2.2.2.2.1
            replace HT := Lib.hid ((World.cell?_of_block ((grown_alloc (grown_refl w5.drew none) (.cells #[.int .i64 (-2), .int .i64 48] 3)).block gt (World.block_lt_of_cell? _ _ HT.out) (by simp))).trans HT.out)
            replace HS := Lib.hid (HS.out.kept (grown_alloc (grown_refl _ none) (.cells #[.int .i64 (-2), .int .i64 48] 3)))
            go_simp
            refine hK.out _ _ ?_ (fun hHeld => ?_)
            · exact ⟨HS.out.1.cell 0, HT.out⟩
            clear hK K
            try simp only [Act.put, List.setIfInBounds_toArray, List.set_cons_zero, List.set_cons_succ]
            refine wpAnyH_ready (rs := [6]) (by kernel_rfl) (by simp) ?_
            refine AllReadyH.cons rfl (fun K hK => ?_) AllReadyH.nil
            go_simp
            go_at_call 51
            refine (pick_lt _ _ _ _ _ HS.out.2.2.2.2.1 (by omega) (by omega)).mono ?_
            rintro e w6 ⟨x6, rfl, u6, v6, h6', hg6⟩
            replace HL := Lib.hid (HL.out.grown hg6 (by intro e; injection e with e; omega))
            have hgtl := HS.out.2.2.1.tfar.1 _ rfl
            dsimp only at hgtl
            replace HT := Lib.hid ((World.cell?_of_block (hg6.block gt (World.block_lt_of_cell? _ _ HT.out) (by intro e; injection e with e; omega))).trans HT.out)
            replace HS := Lib.hid (HS.out.grown hg6 h6')
            clear h6' hg6 hgtl
            refine hK.out _ _ ?_ (fun hHeld => ?_)
            · exact ⟨HS.out.1.cell 0, HT.out⟩
            clear hK K
            try simp only [Act.put, List.setIfInBounds_toArray, List.set_cons_zero, List.set_cons_succ]
            refine heldY 7 65 ?_
            have hx6 : x6 = 0 ∨ x6 = 1 := by omega
            rcases hx6 with rfl | rfl
            · have l0 := HL.out.cell 0
              obtain ⟨gl2, cl2, xs2, y2, hli2, h62, _, _, e0, e0f, e1, e1f, n1, n2, n3, n4, n5, n6, n7, n8, n9⟩ := HS.out.open_ (show 0 < 8 by omega) (show 0 < 6 by omega)
              have eq : gl2 = gl := by have := e0.symm.trans HT.out; injection this with this; injection this with this; injection this with this; injection this
              subst eq
              obtain ⟨ms, _, _, hE⟩ := HS.out.set (j := 0) hli2 h62 n1 n2 n6 (-2)
              have HE := Lib.hid hE
              have m1 : w2.heap.size ≠ gl2 := fun e => n1 e.symm
              have m2 : w.heap.size ≠ gl2 := fun e => n2 e.symm
              have m3 : gt ≠ gl2 := fun e => n3 e.symm
              have HT2 := Lib.hid ((World.cell?_setCell_other _ ⟨gl2, 0, none⟩ ⟨gt, 0, none⟩ (.int .i64 (-2)) (fun e => by injection e with e; omega)).trans HT.out)
              clear hE e0 e0f
              refine wpAnyH_ready (rs := [8]) (by kernel_rfl) (by simp) ?_
              refine AllReadyH.cons rfl (fun K hK => ?_) AllReadyH.nil
              go_simp
              refine hK.out _ _ ?_ (fun hHeld => ?_)
              · with_reducible assumption
              clear hK K
              try simp only [Act.put, List.setIfInBounds_toArray, List.set_cons_zero, List.set_cons_succ]
              refine heldY 9 67 ?_
              refine wpAnyH_ready (rs := [10]) (by kernel_rfl) (by simp) ?_
              refine AllReadyH.cons rfl (fun K hK => ?_) AllReadyH.nil
              go_simp
              refine hK.out _ _ ?_ (fun hHeld => ?_)
              · exact ⟨HE.out.1.cell 0, HT2.out⟩
              clear hK K
              try simp only [Act.put, List.setIfInBounds_toArray, List.set_cons_zero, List.set_cons_succ]
              refine wpAnyH_done (by kernel_rfl) ?_ _
              clear e1 e1f l0
              have z5 := HE.out.1.cell 0
              have z4 := HE.out.2.2.2.2.2.1.cell 0
              have y4 := HE.out.2.2.2.2.2.1.frozen 0
              go_wp2
              exact bodyPost_ret (v := .agg #[.slice (some ⟨gt, 0, none⟩) 8 ct]) (by simp [results, Try.results101, go_sem, *]) rfl (HE.out.fin (by omega))
            · have l0 := HL.out.cell 1
              obtain ⟨gl2, cl2, xs2, y2, hli2, h62, _, _, e0, e0f, e1, e1f, n1, n2, n3, n4, n5, n6, n7, n8, n9⟩ := HS.out.open_ (show 0 < 8 by omega) (show 0 < 6 by omega)
              have eq : gl2 = gl := by have := e0.symm.trans HT.out; injection this with this; injection this with this; injection this with this; injection this
              subst eq
              obtain ⟨ms, _, _, hE⟩ := HS.out.set (j := 0) hli2 h62 n1 n2 n6 (48)
              have HE := Lib.hid hE
              have m1 : w2.heap.size ≠ gl2 := fun e => n1 e.symm
              have m2 : w.heap.size ≠ gl2 := fun e => n2 e.symm
              have m3 : gt ≠ gl2 := fun e => n3 e.symm
              have HT2 := Lib.hid ((World.cell?_setCell_other _ ⟨gl2, 0, none⟩ ⟨gt, 0, none⟩ (.int .i64 (48)) (fun e => by injection e with e; omega)).trans HT.out)
              clear hE e0 e0f
              refine wpAnyH_ready (rs := [8]) (by kernel_rfl) (by simp) ?_
              refine AllReadyH.cons rfl (fun K hK => ?_) AllReadyH.nil
              go_simp
              refine hK.out _ _ ?_ (fun hHeld => ?_)
              · with_reducible assumption
              clear hK K
              try simp only [Act.put, List.setIfInBounds_toArray, List.set_cons_zero, List.set_cons_succ]
              refine heldY 9 67 ?_
              refine wpAnyH_ready (rs := [10]) (by kernel_rfl) (by simp) ?_
              refine AllReadyH.cons rfl (fun K hK => ?_) AllReadyH.nil
              go_simp
              refine hK.out _ _ ?_ (fun hHeld => ?_)
              · exact ⟨HE.out.1.cell 0, HT2.out⟩
              clear hK K
              try simp only [Act.put, List.setIfInBounds_toArray, List.set_cons_zero, List.set_cons_succ]
              refine wpAnyH_done (by kernel_rfl) ?_ _
              clear e1 e1f l0
              have z5 := HE.out.1.cell 0
              have z4 := HE.out.2.2.2.2.2.1.cell 0
              have y4 := HE.out.2.2.2.2.2.1.frozen 0
              go_wp2
              exact bodyPost_ret (v := .agg #[.slice (some ⟨gt, 0, none⟩) 8 ct]) (by simp [results, Try.results101, go_sem, *]) rfl (HE.out.fin (by omega))
          · go_simp
            go_at_call 51
            refine (pick_lt _ _ _ _ _ HS.out.2.2.2.2.1 (by omega) (by omega)).mono ?_
            rintro e w6 ⟨x6, rfl, u6, v6, h6', hg6⟩
            have hgl := HS.out.2.2.2.2.2.2.1
            have hgtl := HS.out.2.2.1.tfar.1 _ rfl
            dsimp only at hgtl
            replace HT := Lib.hid ((World.cell?_of_block (hg6.block gt (World.block_lt_of_cell? _ _ HT.out) (by intro e; injection e with e; omega))).trans HT.out)
            replace HS := Lib.hid (HS.out.grown hg6 h6')
            clear h6' hg6 hgtl
            refine hK.out _ _ ?_ (fun hHeld => ?_)
            · exact ⟨HS.out.1.cell 0, HT.out⟩
            clear hK K
            try simp only [Act.put, List.setIfInBounds_toArray, List.set_cons_zero, List.set_cons_succ]
            refine wpAnyH_ready (rs := [4]) (by kernel_rfl) (by simp) ?_
            refine AllReadyH.cons rfl (fun K hK => ?_) AllReadyH.nil
            have hl0 := Blk.new w6 3 #[.int .i64 (-2), .int .i64 48]
            have HL := Lib.hid hl0
            clear hl0
            replace HT := Lib.hid ((World.cell?_of_block ((grown_alloc (grown_refl w6 none) (.cells #[.int .i64 (-2), .int .i64 48] 3)).block gt (World.block_lt_of_cell? _ _ HT.out) (by simp))).trans HT.out)
            replace HS := Lib.hid (HS.out.kept (grown_alloc (grown_refl _ none) (.cells #[.int .i64 (-2), .int .i64 48] 3)))
            go_simp
            refine hK.out _ _ ?_ (fun hHeld => ?_)
            · exact ⟨HS.out.1.cell 0, HT.out⟩
            clear hK K
            try simp only [Act.put, List.setIfInBounds_toArray, List.set_cons_zero, List.set_cons_succ]
            refine heldY 7 65 ?_
            have hx6 : x6 = 0 ∨ x6 = 1 := by omega
            rcases hx6 with rfl | rfl
            · have l0 := HL.out.cell 0
              obtain ⟨gl2, cl2, xs2, y2, hli2, h62, _, _, e0, e0f, e1, e1f, n1, n2, n3, n4, n5, n6, n7, n8, n9⟩ := HS.out.open_ (show 0 < 8 by omega) (show 0 < 6 by omega)
              have eq : gl2 = gl := by have := e0.symm.trans HT.out; injection this with this; injection this with this; injection this with this; injection this
              subst eq
              obtain ⟨ms, _, _, hE⟩ := HS.out.set (j := 0) hli2 h62 n1 n2 n6 (-2)
              have HE := Lib.hid hE
              have m1 : w2.heap.size ≠ gl2 := fun e => n1 e.symm
              have m2 : w.heap.size ≠ gl2 := fun e => n2 e.symm
              have m3 : gt ≠ gl2 := fun e => n3 e.symm
              have HT2 := Lib.hid ((World.cell?_setCell_other _ ⟨gl2, 0, none⟩ ⟨gt, 0, none⟩ (.int .i64 (-2)) (fun e => by injection e with e; omega)).trans HT.out)
              clear hE e0 e0f
              refine wpAnyH_ready (rs := [8]) (by kernel_rfl) (by simp) ?_
              refine AllReadyH.cons rfl (fun K hK => ?_) AllReadyH.nil
              go_simp
              refine hK.out _ _ ?_ (fun hHeld => ?_)
              · with_reducible assumption
              clear hK K
              try simp only [Act.put, List.setIfInBounds_toArray, List.set_cons_zero, List.set_cons_succ]
              refine heldY 9 67 ?_
              refine wpAnyH_ready (rs := [10]) (by kernel_rfl) (by simp) ?_
              refine AllReadyH.cons rfl (fun K hK => ?_) AllReadyH.nil
              go_simp
              refine hK.out _ _ ?_ (fun hHeld => ?_)
              · exact ⟨HE.out.1.cell 0, HT2.out⟩
              clear hK K
              try simp only [Act.put, List.setIfInBounds_toArray, List.set_cons_zero, List.set_cons_succ]
              refine wpAnyH_done (by kernel_rfl) ?_ _
              clear e1 e1f l0
              have z5 := HE.out.1.cell 0
              have z4 := HE.out.2.2.2.2.2.1.cell 0
              have y4 := HE.out.2.2.2.2.2.1.frozen 0
              go_wp2
              exact bodyPost_ret (v := .agg #[.slice (some ⟨gt, 0, none⟩) 8 ct]) (by simp [results, Try.results101, go_sem, *]) rfl (HE.out.fin (by omega))
            · have l0 := HL.out.cell 1
              obtain ⟨gl2, cl2, xs2, y2, hli2, h62, _, _, e0, e0f, e1, e1f, n1, n2, n3, n4, n5, n6, n7, n8, n9⟩ := HS.out.open_ (show 0 < 8 by omega) (show 0 < 6 by omega)
              have eq : gl2 = gl := by have := e0.symm.trans HT.out; injection this with this; injection this with this; injection this with this; injection this
              subst eq
              obtain ⟨ms, _, _, hE⟩ := HS.out.set (j := 0) hli2 h62 n1 n2 n6 (48)
              have HE := Lib.hid hE
              have m1 : w2.heap.size ≠ gl2 := fun e => n1 e.symm
              have m2 : w.heap.size ≠ gl2 := fun e => n2 e.symm
              have m3 : gt ≠ gl2 := fun e => n3 e.symm
              have HT2 := Lib.hid ((World.cell?_setCell_other _ ⟨gl2, 0, none⟩ ⟨gt, 0, none⟩ (.int .i64 (48)) (fun e => by injection e with e; omega)).trans HT.out)
              clear hE e0 e0f
              refine wpAnyH_ready (rs := [8]) (by kernel_rfl) (by simp) ?_
              refine AllReadyH.cons rfl (fun K hK => ?_) AllReadyH.nil
              go_simp
              refine hK.out _ _ ?_ (fun hHeld => ?_)
              · with_reducible assumption
              clear hK K
              try simp only [Act.put, List.setIfInBounds_toArray, List.set_cons_zero, List.set_cons_succ]
              refine heldY 9 67 ?_
              refine wpAnyH_ready (rs := [10]) (by kernel_rfl) (by simp) ?_
              refine AllReadyH.cons rfl (fun K hK => ?_) AllReadyH.nil
              go_simp
              refine hK.out _ _ ?_ (fun hHeld => ?_)
              · exact ⟨HE.out.1.cell 0, HT2.out⟩
              clear hK K
              try simp only [Act.put, List.setIfInBounds_toArray, List.set_cons_zero, List.set_cons_succ]
              refine wpAnyH_done (by kernel_rfl) ?_ _
              clear e1 e1f l0
              have z5 := HE.out.1.cell 0
              have z4 := HE.out.2.2.2.2.2.1.cell 0
              have y4 := HE.out.2.2.2.2.2.1.frozen 0
              go_wp2
              exact bodyPost_ret (v := .agg #[.slice (some ⟨gt, 0, none⟩) 8 ct]) (by simp [results, Try.results101, go_sem, *]) rfl (HE.out.fin (by omega))
        · obtain ⟨gl, cl, xs, y0, hli, h6, hc6, hcm, c0, c0f, c1, c1f, n1, n2, n3, n4, n5, n6, n7, n8, n9⟩ := HS.out.open_ (show 0 < 8 by omega) (show 0 < 6 by omega)
          obtain ⟨gk, ck, ys, y1, kli, k6, kc6, kcm, d0, d0f, d1, d1f, o1, o2, o3, o4, o5, o6, o7, o8, o9⟩ := HS.out.open_ (show 1 < 8 by omega) (show 1 < 6 by omega)
          obtain ⟨ms, hms, hmo, hE⟩ := HS.out.set (j := 0) hli h6 n1 n2 n6 5
          have kli2 : ms[1]? = some ⟨some ⟨gk, 0, none⟩, ck, ys⟩ := by rw [hms, List.getElem?_set_ne (by omega)]; exact kli
          have hE2 := hE.again kli2 k6 hmo o1 o2 o6 (j := 1) 5
          have nk : gk ≠ gl := by have := HS.out.2.2.1.2.2 0 1 _ _ _ _ (by omega) hli kli rfl rfl; dsimp only at this; exact fun e => this e.symm
          have nk2 : gl ≠ gk := fun e => nk e.symm
          have HE := Lib.hid hE2
          have b5 := HS.out.1.cell 0
          have b6 := hE.1.cell 0
          have d0' := (World.cell?_setCell_other w5 ⟨gl, 0, none⟩ ⟨gt, 1, none⟩ (.int .i64 5) (fun e => by injection e with e; omega)).trans d0
          have d1' := (World.cell?_setCell_other w5 ⟨gl, 0, none⟩ ⟨gk, 1, none⟩ (.int .i64 5) (fun e => by injection e with e; omega)).trans d1
          have z5 := HE.out.1.cell 0
          have z4 := HE.out.2.2.2.2.2.1.cell 0
          have y4 := HE.out.2.2.2.2.2.1.frozen 0
          have g1 : w2.heap.size ≠ gl := fun e => n1 e.symm
          have g2 : w2.heap.size ≠ gk := fun e => o1 e.symm
          have g3 : gt ≠ gl := fun e => n3 e.symm
          have g4 : gt ≠ gk := fun e => o3 e.symm
          have g5 : w.heap.size ≠ gl := fun e => n2 e.symm
          have g6 : w.heap.size ≠ gk := fun e => o2 e.symm
          clear hE hE2 hmo hms kli kli2 hli
          go_wp2
          exact bodyPost_ret (v := .agg #[.slice (some ⟨gt, 0, none⟩) 8 ct]) (by simp [results, Try.results101, go_sem, *]) rfl (HE.out.fin (by omega))
end Go.Proofs.Yteniikfgellhfaa
