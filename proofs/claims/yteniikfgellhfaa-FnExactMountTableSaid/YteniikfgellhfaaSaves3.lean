/- What the program's LoadTable answers. -/
import Derived.Test.YteniikfgellhfaaSaves2
namespace Go.Proofs.Yteniikfgellhfaa
open Go.ChangeShapes Go.WideShapes Go.ChangeAt Go.RowKit
set_option linter.unusedVariables false

/-- The first k of 48 numbers, -1 behind them. -/
def upX (X : List Int) (k : Nat) : List Int := X.take k ++ List.replicate (48 - k) (-1)
theorem upX_length {X : List Int} (h : X.length = 48) {k : Nat} (hk : k ≤ 48) : (upX X k).length = 48 := by simp [upX, h]; omega
theorem upX_all {X : List Int} (h : X.length = 48) : upX X 48 = X := by simp [upX, List.take_of_length_le, h]
theorem upX_zero (X : List Int) : rowsOf (upX X 0) = noTab := by
  have e : upX X 0 = List.replicate 48 (-1) := by simp [upX]
  rw [e]
  decide
theorem upX_step {X : List Int} (h : X.length = 48) {k : Nat} {x : Int} (hx : X[k]? = some x) : upX X (k + 1) = (upX X k).set k x := by
  have hk : k < 48 := by have := (List.getElem?_eq_some_iff.1 hx).1; omega
  refine List.ext_getElem? fun i => ?_
  rw [List.getElem?_set]
  unfold upX
  rcases Nat.lt_trichotomy i k with h1 | rfl | h1
  · rw [if_neg (by omega), List.getElem?_append_left (by simp; omega), List.getElem?_append_left (by simp; omega), List.getElem?_take_of_lt (by omega), List.getElem?_take_of_lt h1]
  · rw [if_pos rfl, if_pos (by simp; omega), List.getElem?_append_left (by simp; omega), List.getElem?_take_of_lt (by omega), hx]
  · rw [if_neg (by omega), List.getElem?_append_right (by simp; omega), List.getElem?_append_right (by simp; omega), List.getElem?_replicate, List.getElem?_replicate]
    simp only [List.length_take, h]
    rw [Nat.min_eq_left (by omega), Nat.min_eq_left (by omega)]
    by_cases h2 : i < 48
    · rw [if_pos (by omega), if_pos (by omega)]
    · rw [if_neg (by omega), if_neg (by omega)]
theorem row_at {Z : List Int} {f : Nat} (hf : f < 8) : (rowsOf Z)[f]? = some ((Z.drop (6 * f)).take 6) := rowsOf_at Z hf
theorem rows_set {Z : List Int} (h : Z.length = 48) {i f r : Nat} (hi : i = 6 * f + r) (hr : r < 6) (hf : f < 8) (x : Int) : rowsOf (Z.set i x) = (rowsOf Z).set f (((Z.drop (6 * f)).take 6).set r x) := by
  subst hi
  refine List.ext_getElem? fun j => ?_
  rw [List.getElem?_set]
  rcases Nat.lt_or_ge j 8 with hj | hj
  · rw [rowsOf_at _ hj]
    by_cases e : f = j
    · subst e
      rw [if_pos rfl, if_pos (by rw [rowsOf_length]; exact hf)]
      refine congrArg some (List.ext_getElem? fun q => ?_)
      rw [List.getElem?_set]
      by_cases hq : q < 6
      · rw [List.getElem?_take_of_lt hq, List.getElem?_drop, List.getElem?_set]
        by_cases e2 : r = q
        · rw [if_pos (by omega), if_pos e2, if_pos (by omega), if_pos (by simp; omega)]
        · rw [if_neg (by omega), if_neg e2, List.getElem?_take_of_lt hq, List.getElem?_drop]
      · rw [List.getElem?_eq_none (by simp; omega), if_neg (by omega), List.getElem?_eq_none (by simp; omega)]
    · rw [if_neg e, rowsOf_at _ hj]
      refine congrArg some (List.ext_getElem? fun q => ?_)
      by_cases hq : q < 6
      · rw [List.getElem?_take_of_lt hq, List.getElem?_take_of_lt hq, List.getElem?_drop, List.getElem?_drop, List.getElem?_set, if_neg (by omega)]
      · rw [List.getElem?_eq_none (by simp; omega), List.getElem?_eq_none (by simp; omega)]
  · rw [List.getElem?_eq_none (by rw [rowsOf_length]; exact hj), if_neg (by omega), List.getElem?_eq_none (by rw [rowsOf_length]; exact hj)]
/-- The loop that puts the numbers, at number k: the table's variable V, its lists in block g. -/
def PutX (w : World) (X : List Int) (A : Option Addr) (V g c k : Nat) (wr : World) : Prop :=
  ∃ cs : List Li, cs.length = 8 ∧ ll cs = rowsOf (upX X k) ∧ TOwn wr w.heap.size (.slice (some ⟨g, 0, none⟩) 8 c) cs ∧ Blk wr V 40 #[.slice (some ⟨g, 0, none⟩) 8 c] ∧ Blk wr w.heap.size 40 #[.slice none 0 0] ∧ IRow wr w.heap.size A X ∧ w.grownBy wr none
theorem tableOf_any (A : Option Addr) (c : Nat) (X : List Int) (w : World) (hl : X.length = 48) (hr : IRow w w.heap.size A X) :
    Calls Try.prog 128 #[.slice A 48 c] w (TabMade (rowsOf X) 8 w) := by
  have hb := Blk.new w 40 #[.slice none 0 0]
  have HS := Lib.hid (And.intro hl (And.intro hb (And.intro (VRow.alloc hr (.cells #[.slice none 0 0] 40)) (grown_alloc (grown_refl w none) (.cells #[.slice none 0 0] 40)))))
  clear hl hr hb
  go_enter Try.func128, Try.ntmps128
  go_wp2_with fail
  refine (emptyTable_any _).mono ?_
  rintro e w2 ⟨A2, c2, cs, rfl, hcl, hcs, ho, hk⟩
  obtain ⟨g2, _, e, _⟩ := ho.head hcl (by omega)
  injection e with e1 _ e3
  subst e1; subst e3
  have K2 : w2.grownBy (w2.alloc (.cells #[.slice (some ⟨g2, 0, none⟩) 8 c2] 40)) none := grown_alloc (grown_refl _ _) _
  have HP := Lib.hid (show PutX w X A w2.heap.size g2 c2 0 (w2.alloc (.cells #[.slice (some ⟨g2, 0, none⟩) 8 c2] 40)) from
    ⟨cs, hcl, by rw [upX_zero]; exact hcs, (ho.keep K2).base_le (by simp only [size_alloc1]; omega), Blk.new _ _ _, (HS.out.2.1.keep hk).keep K2, VRow.kept (VRow.kept HS.out.2.2.1 hk) K2, grown_trans (grown_trans HS.out.2.2.2 hk) K2⟩)
  have hV : w.heap.size < w2.heap.size := by have := hk.size; simp only [size_alloc1] at this; omega
  have HV := Lib.hid hV
  clear ho hcl hcs hk K2 hV
  go_wp2
  go_loopw [4, 5, 9] (fun a b i wr => ∃ k : Nat, i = .int .i64 k ∧ k ≤ 48 ∧ PutX w X A w2.heap.size g2 c2 k wr) (fun a b i _ => 48 - (intOf i).toNat)
  case atStart => exact ⟨0, rfl, Nat.zero_le _, HP.out⟩
  case round =>
    rename World => wq
    clear HP
    obtain ⟨k, rfl, hk, cs, hcl, hcs, ho, hv, hz, hr, hg⟩ := hrel
    have hVz := HV.out
    by_cases hlt : k < 48
    · have k8 : (k : Int) < 48 := by omega
      have k0 : decide ((0 : Int) ≤ k) = true := decide_eq_true (by omega)
      obtain ⟨ga, oa, rfl⟩ := hr.pos (by have := HS.out.1; omega)
      obtain ⟨x, hx⟩ : ∃ x, X[k]? = some x := ⟨_, List.getElem?_eq_getElem (by have := HS.out.1; omega)⟩
      have c0 := IRow.cellf hr hx
      have c1 : wq.cell? ⟨w2.heap.size, 0, none⟩ = some (.slice (some ⟨g2, 0, none⟩) 8 c2) := hv.cell 0
      obtain ⟨f, hf⟩ : ∃ f, f = k / 6 := ⟨_, rfl⟩
      obtain ⟨r, hr6⟩ : ∃ r, r = k % 6 := ⟨_, rfl⟩
      have ekr : k = 6 * f + r := by omega
      have f8 : f < 8 := by omega
      have r6 : r < 6 := by omega
      have e1 : (k : Int) / 6 = (f : Int) := by omega
      have e2 : (k : Int).tdiv 6 = (f : Int) := by rw [Int.tdiv_eq_ediv_of_nonneg (by omega)]; exact e1
      have e3 : (k : Int) % 6 = (r : Int) := by omega
      have e4 : (k : Int).tmod 6 = (r : Int) := by rw [Int.tmod_eq_emod_of_nonneg (by omega)]; exact e3
      have f0 : decide ((0 : Int) ≤ f) = true := decide_eq_true (by omega)
      have f1 : (f : Int) < 8 := by omega
      have r0 : decide ((0 : Int) ≤ r) = true := decide_eq_true (by omega)
      have r1 : (r : Int) < 6 := by omega
      have hz48 : (upX X k).length = 48 := upX_length HS.out.1 hk
      have hrow : (ll cs)[f]? = some (((upX X k).drop (6 * f)).take 6) := by rw [hcs]; exact rowsOf_at _ f8
      have h6 : (((upX X k).drop (6 * f)).take 6).length = 6 := by rw [List.length_take, List.length_drop, hz48]; omega
      obtain ⟨gl, cl, hll, hi, hgl, _⟩ := ho.inner hrow (by omega)
      have d0 := ho.at_ hcl hll
      dsimp only at d0
      rw [h6] at d0 hi
      obtain ⟨y, hy⟩ : ∃ y, (((upX X k).drop (6 * f)).take 6)[r]? = some y := ⟨_, List.getElem?_eq_getElem (by omega)⟩
      have d1 : wq.cell? ⟨gl, r, none⟩ = some (.int .i64 y) := VOwn.at_ hi (by rw [iv_length]; exact h6) (iv_at hy)
      have d2 : wq.frozen? ⟨gl, r, none⟩ = false := VOwn.frozen hi (by rw [iv_length]; exact h6) r
      have neV : ∀ {V : Nat} {cc : Array Value}, Blk wq V 40 cc → gl ≠ V := fun {V cc} hb => VOwn.ne_blk hi hb (by decide)
      have HZ := Lib.hid (show PutX w X (some ⟨ga, oa, none⟩) w2.heap.size g2 c2 (k + 1) (wq.setCell ⟨gl, r, none⟩ (.int .i64 x)) from
        ⟨_, by rw [List.length_set]; exact hcl, by rw [ll_set, hcs, upX_step HS.out.1 hx, rows_set hz48 ekr r6 f8], ho.set hll r x, hv.far (p := ⟨gl, r, none⟩) (fun e => neV hv e.symm) _, hz.far (p := ⟨gl, r, none⟩) (fun e => neV hz e.symm) _,
          VRow.setCell hr (p := ⟨gl, r, none⟩) hgl _, grown_put hg (p := ⟨gl, r, none⟩) hgl _⟩)
      clear ekr hcl hcs ho hv hz hr hg hx hf hr6 hz48 hrow h6 hll hi hgl hy neV hVz
      go_wp2
      go_roundw
      case rel => exact ⟨k + 1, by go_num, by omega, HZ.out⟩
      case measure => simp [intOf]; omega
    · obtain rfl : k = 48 := by omega
      rw [upX_all HS.out.1] at hcs
      have z0 : wq.cell? ⟨w.heap.size, 0, none⟩ = some (.slice none 0 0) := hz.cell 0
      have z1 : wq.frozen? ⟨w.heap.size, 0, none⟩ = false := hz.frozen 0
      have c1 : wq.cell? ⟨w2.heap.size, 0, none⟩ = some (.slice (some ⟨g2, 0, none⟩) 8 c2) := hv.cell 0
      have HY := Lib.hid (And.intro hcl (And.intro hcs (And.intro (ho.put hz 0 (.slice (some ⟨g2, 0, none⟩) 8 c2)) (grown_put hg (p := ⟨w.heap.size, 0, none⟩) (Nat.le_refl _) (.slice (some ⟨g2, 0, none⟩) 8 c2)))))
      clear hcl hcs ho hv hz hr hg
      go_wp2
      exact bodyPost_ret (v := .agg #[.slice (some ⟨g2, 0, none⟩) 8 c2]) (by simp [results, Try.results128, go_sem, *]) rfl ⟨_, _, cs, rfl, HY.out.1, HY.out.2.1, HY.out.2.2.1, HY.out.2.2.2⟩
/-- What LoadTable answers. -/
def loadV (N : Int) (X : List Int) (S : Int) : List (List Int) × Bool := if loadB N X S then (rowsOf X, true) else ([], false)
theorem loadV_no {N S : Int} {X : List Int} (h : loadB N X S = false) : loadV N X S = ([], false) := by simp [loadV, h]
theorem loadV_yes {N S : Int} {X : List Int} (h : loadB N X S = true) : loadV N X S = (rowsOf X, true) := by simp [loadV, h]
/-- A boxed save, a table's variable, and the save's numbers. -/
def SIn (w : World) (N S : Int) (A : Option Addr) (m c : Nat) (X : List Int) (wr : World) : Prop := Blk wr w.heap.size 49 #[.int .i64 N, .slice A m c, .int .i64 S] ∧ Blk wr (w.heap.size + 1) 40 #[.slice none 0 0] ∧ IRow wr w.heap.size A X ∧ w.grownBy wr none
section
variable {w wr w' : World} {N S : Int} {A : Option Addr} {m c : Nat} {X : List Int}
theorem SIn.start (hr : IRow w w.heap.size A X) (N S : Int) (m c : Nat) : SIn w N S A m c X ((w.alloc (.cells #[.int .i64 N, .slice A m c, .int .i64 S] 49)).alloc (.cells #[.slice none 0 0] 40)) := by
  refine ⟨(Blk.new w _ _).alloc _, ?_, VRow.alloc (VRow.alloc hr _) _, grown_alloc (grown_alloc (grown_refl _ _) _) _⟩
  have H := Blk.new (w.alloc (.cells #[.int .i64 N, .slice A m c, .int .i64 S] 49)) 40 #[.slice none 0 0]
  simpa only [size_alloc1] using H
theorem SIn.keep (H : SIn w N S A m c X wr) (k : wr.grownBy w' none) : SIn w N S A m c X w' := ⟨H.1.keep k, H.2.1.keep k, VRow.kept H.2.2.1 k, grown_trans H.2.2.2 k⟩
theorem SIn.cells (H : SIn w N S A m c X wr) : (wr.cell? ⟨w.heap.size, 0, none⟩ = some (.int .i64 N) ∧ wr.cell? ⟨w.heap.size, 1, none⟩ = some (.slice A m c) ∧ wr.cell? ⟨w.heap.size, 2, none⟩ = some (.int .i64 S)) ∧ wr.cell? ⟨w.heap.size + 1, 0, none⟩ = some (.slice none 0 0) ∧ wr.frozen? ⟨w.heap.size + 1, 0, none⟩ = false :=
  ⟨H.1.cells3.1, H.2.1.cell 0, H.2.1.frozen 0⟩
end
theorem load_len (N S : Int) (A : Option Addr) (m c : Nat) (X : List Int) (w : World) (hl : X.length = m) (hr : IRow w w.heap.size A X) (hm : m ≤ 1048576) (h48 : m ≠ 48) :
    Calls Try.prog 104 #[.agg #[.int .i64 N, .slice A m c, .int .i64 S]] w (TabMade2 [] false w) := by
  have HT := Lib.hid (SIn.start hr N S m c)
  have t0 : ((m : Int) != 48) = true := by simp; omega
  obtain ⟨T, hT⟩ : ∃ T, ssumV N X = T := ⟨_, rfl⟩
  have HP := Lib.hid (And.intro hT hl)
  obtain ⟨⟨b0, b1, b2⟩, z0, z1⟩ := HT.out.cells
  clear hl hr h48 hT
  go_enter Try.func104, Try.ntmps104
  go_wp2_with (go_at_call 127; refine (saveSum_val HP.out.1 HP.out.2 (VRow.here HT.out.2.2.1) hm).mono ?_; rintro e w' ⟨rfl, rfl⟩)
  exact bodyPost_ret (v := .tuple #[.agg #[.slice none 0 0], .bool false]) (by simp [results, Try.results104, go_sem, *]) rfl ⟨none, 0, 0, [], rfl, rfl, rfl, town_nil _ _, HT.out.2.2.2⟩
theorem load_neg (N S T : Int) (A : Option Addr) (c : Nat) (X : List Int) (w : World) (hl : X.length = 48) (hr : IRow w w.heap.size A X) (hT : ssumV N X = T) (h0 : T < 0) :
    Calls Try.prog 104 #[.agg #[.int .i64 N, .slice A 48 c, .int .i64 S]] w (TabMade2 [] false w) := by
  have HT := Lib.hid (SIn.start hr N S 48 c)
  have t0 : decide (T < 0) = true := decide_eq_true h0
  have HP := Lib.hid (And.intro hT hl)
  obtain ⟨⟨b0, b1, b2⟩, z0, z1⟩ := HT.out.cells
  clear hl hr h0 hT
  go_enter Try.func104, Try.ntmps104
  go_wp2_with (go_at_call 127; refine (saveSum_val HP.out.1 HP.out.2 (VRow.here HT.out.2.2.1) (by omega)).mono ?_; rintro e w' ⟨rfl, rfl⟩)
  exact bodyPost_ret (v := .tuple #[.agg #[.slice none 0 0], .bool false]) (by simp [results, Try.results104, go_sem, *]) rfl ⟨none, 0, 0, [], rfl, rfl, rfl, town_nil _ _, HT.out.2.2.2⟩
theorem load_sum (N S T : Int) (A : Option Addr) (c : Nat) (X : List Int) (w : World) (hl : X.length = 48) (hr : IRow w w.heap.size A X) (hT : ssumV N X = T) (h0 : ¬ T < 0) (hS : S ≠ T) :
    Calls Try.prog 104 #[.agg #[.int .i64 N, .slice A 48 c, .int .i64 S]] w (TabMade2 [] false w) := by
  have HT := Lib.hid (SIn.start hr N S 48 c)
  have t0 : decide (T < 0) = false := decide_eq_false h0
  have t1 : (S != T) = true := by simp [hS]
  have HP := Lib.hid (And.intro hT hl)
  obtain ⟨⟨b0, b1, b2⟩, z0, z1⟩ := HT.out.cells
  clear hl hr h0 hT hS
  go_enter Try.func104, Try.ntmps104
  go_wp2_with (go_at_call 127; refine (saveSum_val HP.out.1 HP.out.2 (VRow.here HT.out.2.2.1) (by omega)).mono ?_; rintro e w' ⟨rfl, rfl⟩)
  exact bodyPost_ret (v := .tuple #[.agg #[.slice none 0 0], .bool false]) (by simp [results, Try.results104, go_sem, *]) rfl ⟨none, 0, 0, [], rfl, rfl, rfl, town_nil _ _, HT.out.2.2.2⟩
theorem load_tab (N T : Int) (A : Option Addr) (c : Nat) (X : List Int) (V : Bool) (R : List (List Int)) (w : World) (hl : X.length = 48) (hr : IRow w w.heap.size A X) (hT : ssumV N X = T) (h0 : ¬ T < 0) (hV : tabB (rowsOf X) = V) (hR : (V = false → R = []) ∧ (V = true → R = rowsOf X)) :
    Calls Try.prog 104 #[.agg #[.int .i64 N, .slice A 48 c, .int .i64 T]] w (TabMade2 R V w) := by
  have HT := Lib.hid (SIn.start hr N T 48 c)
  have t0 : decide (T < 0) = false := decide_eq_false h0
  have t1 : (T != T) = false := by simp
  have HP := Lib.hid (And.intro hT (And.intro hl (And.intro hV (And.intro (rowsOf_six hl) hR))))
  obtain ⟨⟨b0, b1, b2⟩, _, _⟩ := HT.out.cells
  clear hl hr h0 hT hV hR
  go_enter Try.func104, Try.ntmps104
  go_wp2_with (first | (go_at_call 127; refine (saveSum_val HP.out.1 HP.out.2.1 (VRow.here HT.out.2.2.1) (by omega)).mono ?_; rintro e w' ⟨rfl, rfl⟩) | fail)
  refine (tableOf_any A c X _ HP.out.2.1 (VRow.here HT.out.2.2.1)).mono ?_
  rintro e w2 ⟨A2, c2, cs, rfl, hcl, hcs, ho, hk⟩
  have K2 : w2.grownBy (w2.alloc (.cells #[.slice A2 8 c2] 40)) none := grown_alloc (grown_refl _ _) _
  have HK := Lib.hid ((HT.out.keep hk).keep K2)
  have HO := Lib.hid (And.intro hcl (And.intro hcs (And.intro ((ho.keep K2).base_le HT.out.2.2.2.size) (Blk.new w2 40 #[.slice A2 8 c2]))))
  have hp : ∀ l, l ∈ cs → l.xs.length ≤ 1048576 := fun l hq => by
    have := HP.out.2.2.2.1 l.xs (by rw [← hcs]; exact List.mem_map_of_mem hq)
    omega
  have HL := Lib.hid hp
  clear ho hcl hcs hk K2 hp b0 b1 b2
  go_wp2_with fail
  refine (tabValid_val (show tabB (ll cs) = V by rw [HO.out.2.1]; exact HP.out.2.2.1) HO.out.1 HO.out.2.2.1.row (by omega) HL.out).mono ?_
  rintro e w3 ⟨rfl, hk⟩
  have HF := Lib.hid (HK.out.keep hk)
  have HG := Lib.hid (And.intro (HO.out.2.2.1.keep hk) (HO.out.2.2.2.keep hk))
  have v0 := HG.out.2.cell 0
  obtain ⟨_, z0, z1⟩ := HF.out.cells
  clear hk
  cases V
  · obtain rfl := HP.out.2.2.2.2.1 rfl
    go_wp2
    exact bodyPost_ret (v := .tuple #[.agg #[.slice none 0 0], .bool false]) (by simp [results, Try.results104, go_sem, *]) rfl ⟨none, 0, 0, [], rfl, rfl, rfl, town_nil _ _, grown_put HF.out.2.2.2 (p := ⟨w.heap.size + 1, 0, none⟩) (by dsimp only; omega) _⟩
  · obtain rfl := HP.out.2.2.2.2.2 rfl
    go_wp2
    exact bodyPost_ret (v := .tuple #[.agg #[.slice A2 8 c2], .bool true]) (by simp [results, Try.results104, go_sem, *]) rfl ⟨A2, 8, c2, cs, rfl, HO.out.1, HO.out.2.1, HG.out.1.put HF.out.2.1 0 _, grown_put HF.out.2.2.2 (p := ⟨w.heap.size + 1, 0, none⟩) (by dsimp only; omega) _⟩
theorem load_any (N S : Int) (A : Option Addr) (m c : Nat) (X : List Int) (w : World) (hl : X.length = m) (hr : IRow w w.heap.size A X) (hm : m ≤ 1048576) :
    Calls Try.prog 104 #[.agg #[.int .i64 N, .slice A m c, .int .i64 S]] w (TabMade2 (loadV N X S).1 (loadV N X S).2 w) := by
  by_cases h48 : m = 48
  · subst h48
    obtain ⟨T, hT⟩ : ∃ T, ssumV N X = T := ⟨_, rfl⟩
    by_cases h0 : T < 0
    · rw [loadV_no (by
        rcases Int.lt_or_le S 0 with h | h
        · simp [loadB]; omega
        · have e : (ssumV N X == S) = false := by simp; omega
          simp [loadB, e])]
      exact load_neg N S T A c X w hl hr hT h0
    · by_cases hS : S = T
      · subst hS
        cases hV : tabB (rowsOf X)
        · rw [loadV_no (by simp [loadB, hV])]
          exact load_tab N S A c X false [] w hl hr hT h0 hV (by simp)
        · rw [loadV_yes (by simp [loadB, hV, hl, hT]; omega)]
          exact load_tab N S A c X true _ w hl hr hT h0 hV (by simp)
      · rw [loadV_no (by
          have e : (ssumV N X == S) = false := by simp; omega
          simp [loadB, e])]
        exact load_sum N S T A c X w hl hr hT h0 hS
  · rw [loadV_no (by simp [loadB]; omega)]
    exact load_len N S A m c X w hl hr hm h48
theorem load_val {N S : Int} {A : Option Addr} {m c : Nat} {X : List Int} {T : List (List Int)} {ok : Bool} {w : World} (hV : loadV N X S = (T, ok)) (hl : X.length = m) (hr : IRow w w.heap.size A X) (hm : m ≤ 1048576) :
    Calls Try.prog 104 #[.agg #[.int .i64 N, .slice A m c, .int .i64 S]] w (TabMade2 T ok w) := by
  have h := load_any N S A m c X w hl hr hm
  rw [hV] at h
  exact h
end Go.Proofs.Yteniikfgellhfaa
