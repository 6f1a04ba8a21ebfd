/- What the model's l7New and l7Copy answer: tables in memory of their own.
   What the model's l7Copy answers: a table in memory of its own.
   Plain facts on tables: what a valid one is, cell by cell; one cell put; how many cells differ.
   What the model's TableGet and TablePut answer.
   What the model's TablePut answers.
   What the model's TableChanges answers. -/
import Derived.Test.YteniikfgellhfaaInts
import Derived.Test.YteniikfgellhfaaHand
import Derived.BigQuiet
namespace Go.Proofs.Yteniikfgellhfaa
open Go.ChangeShapes Go.WideShapes Go.ChangeAt Go.RowKit

theorem list_info : (Try.prog.info? 26).map (fun i => (i.zero, i.size, i.bytes)) = some (some (.slice none 0 0), 1, 24) := by kernel_rfl
/-- append(v, l): one list more, onto a row of the call's own. -/
theorem append_list (w : World) (base : Nat) (v : Value) (n : Nat) (A : Option Addr) (k c : Nat) (xs : List Value) (g : Nat) (hown : w.ownsRow base 26 1 v n xs) (hb : Blk w g 26 #[.slice A k c])
    (hn : n ≤ 1048576) (hbase : base ≤ w.heap.size) :
    ∃ v' w', (∀ ty, (Builtin.append_ #[38, 38] ty #[v, .slice (some ⟨g, 0, none⟩) 1 1]).run Try.prog w = .ok v' w') ∧ w'.ownsRow base 26 1 v' (n + 1) (xs ++ [.slice A k c]) ∧ w.grownBy w' v.ownBlock ∧
      (v'.ownBlock = v.ownBlock ∨ v'.ownBlock = some w.heap.size) := by
  obtain ⟨i, hi, hzz, hs, hby⟩ := info_parts list_info
  have hsrc : ∀ j u, [Value.slice A k c][j]? = some u → w.cell? ((⟨g, 0, none⟩ : Addr).add j) = some u := by
    intro j u hu
    match j, hu with
    | 0, hu => simp at hu; subst hu; exact hb.cell 0
    | j + 1, hu => simp at hu
  obtain ⟨v', w', hrun, h2, h3, _, h5⟩ := run_append_own_at (P := Try.prog) w base 38 0 26 i _ 1 24 Try.underlying38 hi hzz hs hby rfl (by omega) v n xs hown ⟨g, 0, none⟩ 1 1 [.slice A k c] rfl hsrc
    (by intro u hu; simp at hu; subst hu; rfl) (by simp only [maxLen]; omega) (by omega) hbase
  exact ⟨v', w', fun _ => hrun, h2, h3, h5⟩
/-- append(t, l) where l is the call's own as well: the table with the list. -/
theorem push_list {wr w1 : World} {base : Nat} {v : Value} {cs : List Li} {A : Option Addr} {c m : Nat} {xs : List Int} (h : TOwn wr base v cs) (hk : wr.grownBy w1 none) (hp : IOwn w1 wr.heap.size (.slice A m c) xs) (hl : xs.length = m)
    (hb : base ≤ wr.heap.size) (hn : cs.length ≤ 1000000) :
    ∃ v' w', (∀ ty, (Builtin.append_ #[38, 38] ty #[v, .slice (some ⟨w1.heap.size, 0, none⟩) 1 1]).run Try.prog (w1.alloc (.cells #[.slice A m c] 26)) = .ok v' w') ∧
      TOwn w' base v' (cs ++ [⟨A, c, xs⟩]) ∧ (w1.alloc (.cells #[.slice A m c] 26)).grownBy w' v.ownBlock := by
  subst hl
  have h2 := h.keep hk
  have ho : (w1.alloc (.cells #[.slice A xs.length c] 26)).ownsRow base 26 1 v cs.length (lv cs) := by
    have := VOwn.keep h2.1 (grown_alloc (grown_refl w1 none) (.cells #[.slice A xs.length c] 26))
    unfold VOwn at this
    rwa [lv_length] at this
  obtain ⟨v', w', hrun, h3, h4, _⟩ := append_list _ base v cs.length A xs.length c (lv cs) w1.heap.size ho (Blk.new w1 _ _) (by omega) (by have := hk.size; simp only [size_alloc1]; omega)
  have hk2 : wr.grownBy (w1.alloc (.cells #[.slice A xs.length c] 26)) none := grown_trans hk (grown_alloc (grown_refl _ none) _)
  refine ⟨v', w', hrun, h.push hk2 (VOwn.keep hp (grown_alloc (grown_refl _ none) _)) hb ?_ h4, h4⟩
  unfold VOwn
  rw [List.length_append, lv_length]
  exact h3
/-- append([]int{}, s...): the numbers of a row that is read, in memory of the call's own. -/
theorem clone_ints {U : World} {A : Option Addr} {B c m : Nat} {xs : List Int} (hr : IRow U B A xs) (hl : xs.length = m) (hm : m ≤ 1048576) :
    ∃ A' c' w', (∀ ty, (Builtin.append_ #[26, 26] ty #[.slice (some ⟨U.heap.size, 0, none⟩) 0 0, .slice A m c]).run Try.prog (U.alloc (.cells #[] 3)) = .ok (.slice A' m c') w') ∧ IOwn w' U.heap.size (.slice A' m c') xs ∧ U.grownBy w' none := by
  have h0 : (U.alloc (.cells #[] 3)).ownsRow U.heap.size 3 1 (.slice (some ⟨U.heap.size, 0, none⟩) 0 0) 0 [] := vown_lit U U.heap.size 3 [] (Nat.le_refl _) (by simp)
  rcases Nat.eq_zero_or_pos m with rfl | hpos
  · obtain rfl := List.eq_nil_of_length_eq_zero hl
    exact ⟨_, 0, _, appendInts_none _ U.heap.size _ 0 A c [] h0, h0, grown_alloc (grown_refl _ _) _⟩
  · obtain ⟨v', w', hrun, h2, h3, _⟩ := append_ints _ U.heap.size _ 0 A B m c xs [] h0 (VRow.alloc hr _) hl hpos (by omega) (by simp only [size_alloc1]; omega)
    have h4 : IOwn w' U.heap.size v' xs := by
      unfold IOwn VOwn
      rw [iv_length, hl]
      simpa using h2
    have h5 : U.grownBy w' none := grown_join (grown_alloc (grown_refl U none) (.cells #[] 3)) h3 (Nat.le_refl _)
    rcases VOwn.form h4 with ⟨_, e⟩ | ⟨g, cap, rfl, _⟩
    · have := congrArg List.length e
      rw [iv_length, List.length_nil] at this
      omega
    · rw [iv_length, hl] at h4 hrun
      exact ⟨_, cap, w', hrun, h4, h5⟩
/-- A table in memory of its own is returned: its lists are xss. -/
def TabMade (xss : List (List Int)) (n : Nat) (w : World) (e : Ending) (w' : World) : Prop :=
  ∃ (A : Option Addr) (c : Nat) (cs : List Li), e = .returned (.agg #[.slice A n c]) ∧ cs.length = n ∧ ll cs = xss ∧ TOwn w' w.heap.size (.slice A n c) cs ∧ w.grownBy w' none
theorem town_nil (w : World) (base : Nat) : TOwn w base (.slice none 0 0) [] := ⟨World.ownsRow_nil w base _ 1, fun l hl => by simp at hl, fun i j l l' a a' _ hi => by simp at hi⟩
/-- A variable of a table's type is no row of lists. -/
theorem TOwn.ne_blk {w : World} {base V : Nat} {v : Value} {ls : List Li} {cc : Array Value} (h : TOwn w base v ls) (hb : Blk w V 40 cc) : some V ≠ v.ownBlock := by
  rcases h.form with ⟨rfl, _⟩ | ⟨g, cap, rfl, _⟩
  · simp [Value.ownBlock]
  · intro e
    simp only [Value.ownBlock, Option.some.injEq] at e
    exact VOwn.ne_blk h.1 hb (by decide) e.symm
theorem take_at {xss : List (List Int)} {k : Nat} {xs : List Int} (h : xss[k]? = some xs) : xss.take (k + 1) = xss.take k ++ [xs] := by rw [List.take_add_one, h]; rfl
theorem TOwn.head {w : World} {base n : Nat} {v : Value} {ls : List Li} (h : TOwn w base v ls) (hl : ls.length = n) (hpos : 0 < n) : ∃ g cap, v = .slice (some ⟨g, 0, none⟩) n cap ∧ base ≤ g ∧ g < w.heap.size ∧ n ≤ cap ∧ cap ≤ maxLen := by
  subst hl
  rcases h.form with ⟨_, rfl⟩ | ⟨g, cap, e, hb⟩
  · simp at hpos
  · exact ⟨g, cap, e, hb⟩
theorem VOwn.head {w : World} {base n : Nat} {ty : TypeId} {v : Value} {cs : List Value} (h : VOwn w base ty v cs) (hl : cs.length = n) (hpos : 0 < n) : ∃ g cap, v = .slice (some ⟨g, 0, none⟩) n cap ∧ base ≤ g ∧ g < w.heap.size ∧ n ≤ cap ∧ cap ≤ maxLen := by
  subst hl
  rcases h.form with ⟨_, rfl⟩ | ⟨g, cap, e, hb⟩
  · simp at hpos
  · exact ⟨g, cap, e, hb⟩
/-- A variable of a table's type is written to. -/
theorem TOwn.put {w : World} {base V : Nat} {v : Value} {ls : List Li} {cc : Array Value} (h : TOwn w base v ls) (hb : Blk w V 40 cc) (j : Nat) (u : Value) : TOwn (w.setCell ⟨V, j, none⟩ u) base v ls := by
  refine h.grown (grown_set (grown_refl w (some V)) (.inl rfl) u) (.inr fun e => TOwn.ne_blk h hb e.symm) fun l a hl ha e => ?_
  injection e with e
  subst e
  obtain ⟨b, o, s⟩ := a
  rcases VOwn.form (h.2.1 l hl) with ⟨e, _⟩ | ⟨g, cap, e, _⟩
  · simp only [Li.row, Value.slice.injEq] at e
    rw [e.1] at ha
    cases ha
  · have e' := e
    simp only [Li.row, Value.slice.injEq, ha, Option.some.injEq, Addr.mk.injEq] at e'
    obtain ⟨⟨rfl, rfl, rfl⟩, _, rfl⟩ := e'
    have h2 := h.2.1 l hl
    unfold IOwn at h2
    rw [e] at h2
    exact VOwn.ne_blk h2 hb (by decide) rfl
theorem irow_one (w : World) (x : Int) : IRow (w.alloc (.cells #[.int .i64 x] 3)) (w.heap.size + 1) (some ⟨w.heap.size, 0, none⟩) [x] := fun _ => by
  refine ⟨w.heap.size, 0, rfl, Nat.lt_succ_self _, by simp, fun i u hu => ?_⟩
  match i, hu with
  | 0, hu => simp [iv] at hu; subst hu; exact (Blk.new w 3 #[.int .i64 x]).cell 0
  | i + 1, hu => simp [iv] at hu
/-- append(u, x): one number more. -/
theorem push_int {wr wq : World} {u : Value} {xs : List Int} (x : Int) (h : IOwn wq wr.heap.size u xs) (hb : wr.heap.size ≤ wq.heap.size) (hn : xs.length ≤ 1000000) :
    ∃ u' w', (∀ ty, (Builtin.append_ #[26, 26] ty #[u, .slice (some ⟨wq.heap.size, 0, none⟩) 1 1]).run Try.prog (wq.alloc (.cells #[.int .i64 x] 3)) = .ok u' w') ∧ IOwn w' wr.heap.size u' (xs ++ [x]) ∧ (wq.alloc (.cells #[.int .i64 x] 3)).grownBy w' u.ownBlock := by
  have h1 := VOwn.keep h (grown_alloc (grown_refl wq none) (.cells #[.int .i64 x] 3))
  unfold VOwn at h1
  rw [iv_length] at h1
  obtain ⟨u', w', hrun, h2, h3, _⟩ := append_ints _ wr.heap.size u xs.length _ _ 1 1 [x] (iv xs) h1 (irow_one wq x) rfl (by omega) (by omega) (by simp only [size_alloc1]; omega)
  refine ⟨u', w', hrun, ?_, h3⟩
  unfold IOwn VOwn
  rw [iv_length, List.length_append, iv_append]
  exact h2
/-- A list without pages. -/
def m6 : List Int := List.replicate 6 (-1)
/-- A table without pages. -/
def noTab : List (List Int) := List.replicate 8 m6
/-- The loop over the lists that are made, at list f. -/
def NewT (w : World) (f : Nat) (wr : World) : Prop :=
  f ≤ 8 ∧ ∃ (v : Value) (cs : List Li), cs.length = f ∧ ll cs = List.replicate f m6 ∧ TOwn wr w.heap.size v cs ∧ Blk wr (w.heap.size + 1) 40 #[v] ∧ Blk wr w.heap.size 40 #[.slice none 0 0] ∧ w.grownBy wr none
theorem specNew_any (w : World) : Calls Try.prog 106 #[] w (TabMade noTab 8 w) := by
  have b1 := (Blk.new w 40 #[.slice none 0 0]).alloc (.cells #[.slice none 0 0] 40)
  have b2 := Blk.new (w.alloc (.cells #[.slice none 0 0] 40)) 40 #[.slice none 0 0]
  simp only [size_alloc1] at b2
  have HS := Lib.hid (And.intro b2 b1)
  clear b1 b2
  go_enter Try.func106, Try.ntmps106
  go_wp2
  go_loopw [2] (fun i wr => ∃ f : Nat, i = .int .i64 f ∧ NewT w f wr) (fun i _ => 8 - (intOf i).toNat)
  case atStart => exact ⟨0, rfl, Nat.zero_le _, .slice none 0 0, [], rfl, rfl, town_nil _ _, HS.out.1, HS.out.2, grown_alloc (grown_alloc (grown_refl _ _) _) _⟩
  case round =>
    clear HS
    rename World => wo
    obtain ⟨f, rfl, hf, v, cs, hcl, hcs, ho, hv, hz, hg⟩ := hrel
    have r0 : wo.cell? ⟨w.heap.size + 1, 0, none⟩ = some v := hv.cell 0
    by_cases hlt : f < 8
    · have hf8 : (f : Int) < 8 := by omega
      have HX := Lib.hid (And.intro hcl (And.intro hcs (And.intro ho (And.intro hv (And.intro hz hg)))))
      have h0 : IOwn (wo.alloc (.cells #[] 3)) wo.heap.size (.slice (some ⟨wo.heap.size, 0, none⟩) 0 0) [] := vown_lit wo wo.heap.size 3 [] (Nat.le_refl _) (by simp)
      have HI := Lib.hid (And.intro h0 (grown_alloc (grown_refl wo none) (.cells #[] 3)))
      clear hcl hcs ho hv hz hg h0
      go_wp2
      go_loopw [3, 4] (fun u j wr => ∃ k : Nat, j = .int .i64 k ∧ k ≤ 6 ∧ IOwn wr wo.heap.size u (List.replicate k (-1)) ∧ wo.grownBy wr none) (fun _ j _ => 6 - (intOf j).toNat)
      case atStart => exact ⟨0, rfl, by omega, HI.out.1, HI.out.2⟩
      case round =>
        rename World => wq
        obtain ⟨k, rfl, hk, hi, hgq⟩ := hrel
        clear HI r0
        by_cases hk6 : k < 6
        · obtain ⟨u', w2, hrun, hi2, hg2⟩ := push_int (-1) hi hgq.size (by simp; omega)
          have hG := grown_joinR (grown_trans hgq (grown_alloc (grown_refl wq none) (.cells #[.int .i64 (-1)] 3))) hg2 (fun g' e => (VOwn.lt hi g' e).1)
          have HY := Lib.hid (And.intro hi2 hG)
          have HRUN := Lib.hid hrun
          have hk5 : (k : Int) ≤ 5 := by omega
          clear hi hgq hi2 hg2 hG hrun
          go_wp2_with (at_builtin; refine wpList_append_run _ rfl (.tmp 15) (.tmp 16) _ _ rfl _ _ rfl rfl HRUN.out ?_)
          go_roundw
          case rel => exact ⟨k + 1, by go_num, by omega, by rw [List.replicate_succ']; exact HY.out.1, HY.out.2⟩
          case measure => simp [intOf]; omega
        · obtain rfl : k = 6 := by omega
          rcases VOwn.form hi with ⟨_, e⟩ | ⟨gl, cl, rfl, _⟩
          · simp [iv] at e
          rw [iv_length, List.length_replicate] at hi ⊢
          obtain ⟨v2, w2, hrun, ho2, hg2⟩ := push_list (xs := m6) HX.out.2.2.1 hgq hi rfl HX.out.2.2.2.2.2.size (by have := HX.out.1; omega)
          have hG := grown_joinR (grown_trans HX.out.2.2.2.2.2 (grown_trans hgq (grown_alloc (grown_refl wq none) (.cells #[.slice (some ⟨gl, 0, none⟩) 6 cl] 26)))) hg2 (fun g' e => (VOwn.lt HX.out.2.2.1.1 g' e).1)
          have r0 : wq.cell? ⟨w.heap.size + 1, 0, none⟩ = some v := (HX.out.2.2.2.1.keep hgq).cell 0
          have kp : ∀ {V : Nat} {cc : Array Value}, Blk wo V 40 cc → Blk w2 V 40 cc := fun {V cc} h => ((h.keep hgq).alloc _).grown hg2 (TOwn.ne_blk HX.out.2.2.1 h)
          have hv2 := kp HX.out.2.2.2.1
          have hz2 := kp HX.out.2.2.2.2.1
          have s0 : w2.cell? ⟨w.heap.size + 1, 0, none⟩ = some v := hv2.cell 0
          have s1 : w2.frozen? ⟨w.heap.size + 1, 0, none⟩ = false := hv2.frozen 0
          obtain ⟨g2, c2, rfl, _⟩ := ho2.head (n := f + 1) (by simp [HX.out.1]) (by omega)
          have HY := Lib.hid (And.intro (ho2.put hv2 0 (.slice (some ⟨g2, 0, none⟩) (f + 1) c2)) (And.intro (hv2.put 0 (.slice (some ⟨g2, 0, none⟩) (f + 1) c2)) (And.intro (hz2.far (p := ⟨w.heap.size + 1, 0, none⟩) (by simp) (.slice (some ⟨g2, 0, none⟩) (f + 1) c2)) (grown_put hG (p := ⟨w.heap.size + 1, 0, none⟩) (by simp) (.slice (some ⟨g2, 0, none⟩) (f + 1) c2)))))
          have HRUN := Lib.hid hrun
          clear hi hgq ho2 hg2 hG hrun kp hv2 hz2
          go_wp2_with (at_builtin; refine wpList_append_run _ rfl (.tmp 19) (.tmp 21) _ _ rfl _ _ rfl rfl HRUN.out ?_)
          go_roundw
          case rel => exact ⟨f + 1, by go_num, by omega, _, _, by simp [HX.out.1], by rw [ll_append, HX.out.2.1, List.replicate_succ']; rfl, HY.out.1, HY.out.2.1, HY.out.2.2.1, HY.out.2.2.2⟩
          case measure => simp [intOf]; omega
    · obtain rfl : f = 8 := by omega
      have z0 : wo.cell? ⟨w.heap.size, 0, none⟩ = some (.slice none 0 0) := hz.cell 0
      have z1 : wo.frozen? ⟨w.heap.size, 0, none⟩ = false := hz.frozen 0
      obtain ⟨gt, ct, rfl, _⟩ := ho.head hcl (by omega)
      have HY := Lib.hid (And.intro hcl (And.intro hcs (And.intro (ho.put hz 0 (.slice (some ⟨gt, 0, none⟩) 8 ct)) (grown_put hg (p := ⟨w.heap.size, 0, none⟩) (Nat.le_refl _) (.slice (some ⟨gt, 0, none⟩) 8 ct)))))
      clear hcl hcs ho hv hz hg
      go_wp2
      exact bodyPost_ret (v := .agg #[.slice (some ⟨gt, 0, none⟩) 8 ct]) (by simp [results, Try.results106, go_sem, *]) rfl ⟨some ⟨gt, 0, none⟩, ct, cs, rfl, HY.out.1, HY.out.2.1, HY.out.2.2.1, HY.out.2.2.2⟩
end Go.Proofs.Yteniikfgellhfaa
namespace Go.Proofs.Yteniikfgellhfaa
open Go.ChangeShapes Go.WideShapes Go.ChangeAt Go.RowKit
set_option linter.unusedSimpArgs false

theorem TOwn.any {w : World} {base n : Nat} {v : Value} {ls : List Li} (h : TOwn w base v ls) (hl : ls.length = n) : ∃ A c, v = .slice A n c := by
  subst hl
  rcases h.form with ⟨rfl, rfl⟩ | ⟨g, cap, e, _⟩
  · exact ⟨none, 0, rfl⟩
  · exact ⟨_, _, e⟩
/-- The loop that copies, at list k. -/
def CopyTab (w : World) (A : Option Addr) (c : Nat) (ls : List Li) (k : Nat) (wr : World) : Prop :=
  k ≤ ls.length ∧ ∃ (v : Value) (cs : List Li), cs.length = k ∧ ll cs = (ll ls).take k ∧ TOwn wr w.heap.size v cs ∧ Blk wr (w.heap.size + 1 + 1) 40 #[v] ∧ Blk wr (w.heap.size + 1) 40 #[.slice none 0 0] ∧ Blk wr w.heap.size 40 #[.slice A ls.length c] ∧ w.grownBy wr none
set_option maxHeartbeats 4000000 in
theorem specCopyTab_any (A : Option Addr) (n c : Nat) (ls : List Li) (w : World) (hl : ls.length = n) (hr : TRow w w.heap.size A ls) (hn : n ≤ 1000000) (hp : ∀ l, l ∈ ls → l.xs.length ≤ 1048576) :
    Calls Try.prog 65 #[.agg #[.slice A n c]] w (TabMade (ll ls) n w) := by
  subst hl
  have HR := Lib.hid (And.intro hr hp)
  have b1 := ((Blk.new w 40 #[.slice A ls.length c]).alloc (.cells #[.slice none 0 0] 40)).alloc (.cells #[.slice none 0 0] 40)
  have b2 := (Blk.new (w.alloc (.cells #[.slice A ls.length c] 40)) 40 #[.slice none 0 0]).alloc (.cells #[.slice none 0 0] 40)
  have b3 := Blk.new ((w.alloc (.cells #[.slice A ls.length c] 40)).alloc (.cells #[.slice none 0 0] 40)) 40 #[.slice none 0 0]
  simp only [size_alloc1] at b2 b3
  have HS := Lib.hid (And.intro b3 (And.intro b2 b1))
  clear hr hp b1 b2 b3
  go_enter Try.func65, Try.ntmps65
  go_wp2
  go_loopw [4] (fun i wr => ∃ k : Nat, i = .int .i64 k ∧ CopyTab w A c ls k wr) (fun i _ => ls.length - (intOf i).toNat)
  case atStart => exact ⟨0, rfl, Nat.zero_le _, .slice none 0 0, [], rfl, rfl, town_nil _ _, HS.out.1, HS.out.2.1, HS.out.2.2, grown_alloc (grown_alloc (grown_alloc (grown_refl _ _) _) _) _⟩
  case round =>
    clear HS
    obtain ⟨k, rfl, hk, v, cs, hcl, hcs, ho, hv, hz, hb, hg⟩ := hrel
    have b0 : wr.cell? ⟨w.heap.size, 0, none⟩ = some (.slice A ls.length c) := hb.cell 0
    have r0 : wr.cell? ⟨w.heap.size + 1 + 1, 0, none⟩ = some v := hv.cell 0
    by_cases hlt : k < ls.length
    · obtain ⟨g, off, Al, cl, xs, rfl, hgB, hgz, hfl, c0, hrow⟩ := (HR.out.1.kept hg).at_ hlt
      have hpl := HR.out.2 _ (List.mem_of_getElem? hfl)
      obtain ⟨A1, c1, w1, hr1, ho1, hg1⟩ := clone_ints (U := wr.drew) (c := cl) (VRow.drew hrow) rfl hpl
      have hg1' : wr.grownBy w1 none := grown_trans (grown_drew (grown_refl wr none)) hg1
      have hga : wr.grownBy (w1.alloc (.cells #[.slice A1 xs.length c1] 26)) none := grown_alloc hg1' _
      obtain ⟨v2, w2, hr2, ho2, hg2⟩ := push_list ho hg1' ho1 rfl hg.size (by omega)
      obtain ⟨g2, c2, rfl, _⟩ := ho2.head (n := k + 1) (by simp [hcl]) (by omega)
      have hG := grown_joinR (grown_trans hg hga) hg2 (fun g' e => (VOwn.lt ho.1 g' e).1)
      have kp : ∀ {V : Nat} {cc : Array Value}, Blk wr V 40 cc → Blk w2 V 40 cc := fun {V cc} h => ((h.keep hg1').alloc _).grown hg2 (TOwn.ne_blk ho h)
      have hv2 := kp hv
      have hz2 := kp hz
      have hb2 := kp hb
      have old : ∀ {w' : World}, wr.grownBy w' none → w'.cell? ⟨g, off + k, none⟩ = some (.slice Al xs.length cl) := fun {w'} h => (World.cell?_of_block (h.block g hgz (by simp))).trans c0
      have c5 : w2.cell? ⟨g, off + k, none⟩ = some (.slice Al xs.length cl) := (World.cell?_of_block (hg2.block g (Nat.lt_of_lt_of_le hgz hga.size) (fun e => by have := (VOwn.lt ho.1 g e.symm).1; omega))).trans (old hga)
      have gd : wr.grownBy wr.drew none := grown_drew (grown_refl wr none)
      have ne1 : (⟨w.heap.size + 1 + 1, 0, none⟩ : Addr) ≠ ⟨w.heap.size, 0, none⟩ := by simp
      have S1 := And.intro ((hb.keep (grown_alloc gd (.cells #[] 3))).cell 0) (old (grown_alloc gd (.cells #[] 3)))
      have S2 := And.intro ((hb.keep hg1').cell 0) (old hg1')
      have S3 := And.intro ((hb.keep hga).cell 0) (old hga)
      have S4 := And.intro (hb2.cell 0) c5
      have S5 := And.intro ((hb2.far (p := ⟨w.heap.size + 1 + 1, 0, none⟩) (by dsimp only; omega) (.slice (some ⟨g2, 0, none⟩) (k + 1) c2)).cell 0) (Eq.trans (World.cell?_setCell_other w2 ⟨w.heap.size + 1 + 1, 0, none⟩ ⟨g, off + k, none⟩ (.slice (some ⟨g2, 0, none⟩) (k + 1) c2) (fun e => by injection e with e; omega)) c5)
      have HSS := Lib.hid (And.intro S1 (And.intro S2 (And.intro S3 (And.intro S4 S5))))
      have r1 : ((wr.alloc (.cells #[] 3)).drew).cell? ⟨w.heap.size + 1 + 1, 0, none⟩ = some v := (hv.keep (grown_alloc gd (.cells #[] 3))).cell 0
      have r2 : w1.cell? ⟨w.heap.size + 1 + 1, 0, none⟩ = some v := (hv.keep hg1').cell 0
      have r3 : (w1.alloc (.cells #[.slice A1 xs.length c1] 26)).cell? ⟨w.heap.size + 1 + 1, 0, none⟩ = some v := (hv.keep hga).cell 0
      have s0 : w2.cell? ⟨w.heap.size + 1 + 1, 0, none⟩ = some v := hv2.cell 0
      have s1 : w2.frozen? ⟨w.heap.size + 1 + 1, 0, none⟩ = false := hv2.frozen 0
      have HR1 := Lib.hid hr1
      have HR2 := Lib.hid hr2
      have hx1 := take_at (ll_at hfl)
      have HX := Lib.hid (And.intro hcl (show ll (cs ++ [⟨A1, c1, xs⟩]) = (ll ls).take (k + 1) by rw [hx1, ll_append, hcs]; rfl))
      have HZ := Lib.hid (And.intro (ho2.put hv2 0 (.slice (some ⟨g2, 0, none⟩) (k + 1) c2)) (And.intro (hv2.put 0 (.slice (some ⟨g2, 0, none⟩) (k + 1) c2)) (And.intro (hz2.far (p := ⟨w.heap.size + 1 + 1, 0, none⟩) (by dsimp only; omega) (.slice (some ⟨g2, 0, none⟩) (k + 1) c2)) (And.intro (hb2.far (p := ⟨w.heap.size + 1 + 1, 0, none⟩) (by dsimp only; omega) (.slice (some ⟨g2, 0, none⟩) (k + 1) c2)) (grown_put hG (p := ⟨w.heap.size + 1 + 1, 0, none⟩) (by dsimp only; omega) (.slice (some ⟨g2, 0, none⟩) (k + 1) c2))))))
      have k0 : decide ((0 : Int) ≤ k) = true := decide_eq_true (by omega)
      have k1 : (k : Int) < ls.length := by omega
      clear hcl hcs ho hv hz hb hg hfl hrow hpl hr1 ho1 hg1 hg1' hga hr2 ho2 hg2 hG kp hv2 hz2 hb2 old c5 gd S1 S2 S3 S4 S5 hx1 hgB hgz
      go_wp2
      refine wp_region_held_drew (S := (fun w' => w'.cell? ⟨w.heap.size, 0, none⟩ = some (.slice (some ⟨g, off, none⟩) ls.length c) ∧ w'.cell? ⟨g, off + k, none⟩ = some (.slice Al xs.length cl))) (by kernel_rfl) ?_ (fun hHeld => ?_)
      · exact ⟨b0, c0⟩
      refine heldY 0 13 ?_
      refine heldY 3 16 ?_
      refine heldY 4 17 ?_
      refine heldY 5 18 ?_
      refine heldY 6 19 ?_
      refine heldY 7 20 ?_
      refine wpAnyH_ready (rs := [1, 2]) (by kernel_rfl) (by simp) ?_
      refine AllReadyH.cons rfl (fun K hK => ?_) (AllReadyH.cons rfl (fun K hK => ?_) AllReadyH.nil)
      · go_simp
        refine hK.out _ _ ?_ (fun hHeld => ?_)
        · with_reducible assumption
        clear hK K
        try simp only [Act.put, List.setIfInBounds_toArray, List.set_cons_zero, List.set_cons_succ]
        refine wpAnyH_ready (rs := [2]) (by kernel_rfl) (by simp) ?_
        refine AllReadyH.cons rfl (fun K hK => ?_) AllReadyH.nil
        go_simp
        refine hK.out _ _ ?_ (fun hHeld => ?_)
        · exact HSS.out.1
        clear hK K
        try simp only [Act.put, List.setIfInBounds_toArray, List.set_cons_zero, List.set_cons_succ]
        refine wpAnyH_ready (rs := [8]) (by kernel_rfl) (by simp) ?_
        refine AllReadyH.cons rfl (fun K hK => ?_) AllReadyH.nil
        refine step_append_run _ rfl (.tmp 15) (.tmp 20) 26 26 rfl _ _ rfl rfl HR1.out ?_
        refine hK.out _ _ ?_ (fun hHeld => ?_)
        · exact HSS.out.2.1
        clear hK K
        try simp only [Act.put, List.setIfInBounds_toArray, List.set_cons_zero, List.set_cons_succ]
        refine wpAnyH_ready (rs := [9]) (by kernel_rfl) (by simp) ?_
        refine AllReadyH.cons rfl (fun K hK => ?_) AllReadyH.nil
        go_simp
        refine hK.out _ _ ?_ (fun hHeld => ?_)
        · exact HSS.out.2.2.1
        clear hK K
        try simp only [Act.put, List.setIfInBounds_toArray, List.set_cons_zero, List.set_cons_succ]
        refine wpAnyH_ready (rs := [10]) (by kernel_rfl) (by simp) ?_
        refine AllReadyH.cons rfl (fun K hK => ?_) AllReadyH.nil
        refine step_append_run _ rfl (.tmp 14) (.tmp 22) 38 38 rfl _ _ rfl rfl HR2.out ?_
        refine hK.out _ _ ?_ (fun hHeld => ?_)
        · exact HSS.out.2.2.2.1
        clear hK K
        try simp only [Act.put, List.setIfInBounds_toArray, List.set_cons_zero, List.set_cons_succ]
        refine heldY 11 24 ?_
        refine wpAnyH_ready (rs := [12]) (by kernel_rfl) (by simp) ?_
        refine AllReadyH.cons rfl (fun K hK => ?_) AllReadyH.nil
        go_simp
        refine hK.out _ _ ?_ (fun hHeld => ?_)
        · exact HSS.out.2.2.2.2
        clear hK K
        try simp only [Act.put, List.setIfInBounds_toArray, List.set_cons_zero, List.set_cons_succ]
        refine wpAnyH_done (by kernel_rfl) ?_ _
        go_wp2
        go_roundw
        case rel => exact ⟨k + 1, by go_num, by omega, _, _, by simp [HX.out.1], HX.out.2, HZ.out⟩
        case measure => simp [intOf]; omega
      · go_simp
        refine hK.out _ _ ?_ (fun hHeld => ?_)
        · exact HSS.out.1
        clear hK K
        try simp only [Act.put, List.setIfInBounds_toArray, List.set_cons_zero, List.set_cons_succ]
        refine wpAnyH_ready (rs := [1, 8]) (by kernel_rfl) (by simp) ?_
        refine AllReadyH.cons rfl (fun K hK => ?_) (AllReadyH.cons rfl (fun K hK => ?_) AllReadyH.nil)
        · go_simp
          refine hK.out _ _ ?_ (fun hHeld => ?_)
          · with_reducible assumption
          clear hK K
          try simp only [Act.put, List.setIfInBounds_toArray, List.set_cons_zero, List.set_cons_succ]
          refine wpAnyH_ready (rs := [8]) (by kernel_rfl) (by simp) ?_
          refine AllReadyH.cons rfl (fun K hK => ?_) AllReadyH.nil
          refine step_append_run _ rfl (.tmp 15) (.tmp 20) 26 26 rfl _ _ rfl rfl HR1.out ?_
          refine hK.out _ _ ?_ (fun hHeld => ?_)
          · exact HSS.out.2.1
          clear hK K
          try simp only [Act.put, List.setIfInBounds_toArray, List.set_cons_zero, List.set_cons_succ]
          refine wpAnyH_ready (rs := [9]) (by kernel_rfl) (by simp) ?_
          refine AllReadyH.cons rfl (fun K hK => ?_) AllReadyH.nil
          go_simp
          refine hK.out _ _ ?_ (fun hHeld => ?_)
          · exact HSS.out.2.2.1
          clear hK K
          try simp only [Act.put, List.setIfInBounds_toArray, List.set_cons_zero, List.set_cons_succ]
          refine wpAnyH_ready (rs := [10]) (by kernel_rfl) (by simp) ?_
          refine AllReadyH.cons rfl (fun K hK => ?_) AllReadyH.nil
          refine step_append_run _ rfl (.tmp 14) (.tmp 22) 38 38 rfl _ _ rfl rfl HR2.out ?_
          refine hK.out _ _ ?_ (fun hHeld => ?_)
          · exact HSS.out.2.2.2.1
          clear hK K
          try simp only [Act.put, List.setIfInBounds_toArray, List.set_cons_zero, List.set_cons_succ]
          refine heldY 11 24 ?_
          refine wpAnyH_ready (rs := [12]) (by kernel_rfl) (by simp) ?_
          refine AllReadyH.cons rfl (fun K hK => ?_) AllReadyH.nil
          go_simp
          refine hK.out _ _ ?_ (fun hHeld => ?_)
          · exact HSS.out.2.2.2.2
          clear hK K
          try simp only [Act.put, List.setIfInBounds_toArray, List.set_cons_zero, List.set_cons_succ]
          refine wpAnyH_done (by kernel_rfl) ?_ _
          go_wp2
          go_roundw
          case rel => exact ⟨k + 1, by go_num, by omega, _, _, by simp [HX.out.1], HX.out.2, HZ.out⟩
          case measure => simp [intOf]; omega
        · refine step_append_run _ rfl (.tmp 15) (.tmp 20) 26 26 rfl _ _ rfl rfl HR1.out ?_
          refine hK.out _ _ ?_ (fun hHeld => ?_)
          · exact HSS.out.2.1
          clear hK K
          try simp only [Act.put, List.setIfInBounds_toArray, List.set_cons_zero, List.set_cons_succ]
          refine wpAnyH_ready (rs := [1, 9]) (by kernel_rfl) (by simp) ?_
          refine AllReadyH.cons rfl (fun K hK => ?_) (AllReadyH.cons rfl (fun K hK => ?_) AllReadyH.nil)
          · go_simp
            refine hK.out _ _ ?_ (fun hHeld => ?_)
            · with_reducible assumption
            clear hK K
            try simp only [Act.put, List.setIfInBounds_toArray, List.set_cons_zero, List.set_cons_succ]
            refine wpAnyH_ready (rs := [9]) (by kernel_rfl) (by simp) ?_
            refine AllReadyH.cons rfl (fun K hK => ?_) AllReadyH.nil
            go_simp
            refine hK.out _ _ ?_ (fun hHeld => ?_)
            · exact HSS.out.2.2.1
            clear hK K
            try simp only [Act.put, List.setIfInBounds_toArray, List.set_cons_zero, List.set_cons_succ]
            refine wpAnyH_ready (rs := [10]) (by kernel_rfl) (by simp) ?_
            refine AllReadyH.cons rfl (fun K hK => ?_) AllReadyH.nil
            refine step_append_run _ rfl (.tmp 14) (.tmp 22) 38 38 rfl _ _ rfl rfl HR2.out ?_
            refine hK.out _ _ ?_ (fun hHeld => ?_)
            · exact HSS.out.2.2.2.1
            clear hK K
            try simp only [Act.put, List.setIfInBounds_toArray, List.set_cons_zero, List.set_cons_succ]
            refine heldY 11 24 ?_
            refine wpAnyH_ready (rs := [12]) (by kernel_rfl) (by simp) ?_
            refine AllReadyH.cons rfl (fun K hK => ?_) AllReadyH.nil
            go_simp
            refine hK.out _ _ ?_ (fun hHeld => ?_)
            · exact HSS.out.2.2.2.2
            clear hK K
            try simp only [Act.put, List.setIfInBounds_toArray, List.set_cons_zero, List.set_cons_succ]
            refine wpAnyH_done (by kernel_rfl) ?_ _
            go_wp2
            go_roundw
            case rel => exact ⟨k + 1, by go_num, by omega, _, _, by simp [HX.out.1], HX.out.2, HZ.out⟩
            case measure => simp [intOf]; omega
          · go_simp
            refine hK.out _ _ ?_ (fun hHeld => ?_)
            · exact HSS.out.2.2.1
            clear hK K
            try simp only [Act.put, List.setIfInBounds_toArray, List.set_cons_zero, List.set_cons_succ]
            refine wpAnyH_ready (rs := [1]) (by kernel_rfl) (by simp) ?_
            refine AllReadyH.cons rfl (fun K hK => ?_) AllReadyH.nil
            go_simp
            refine hK.out _ _ ?_ (fun hHeld => ?_)
            · with_reducible assumption
            clear hK K
            try simp only [Act.put, List.setIfInBounds_toArray, List.set_cons_zero, List.set_cons_succ]
            refine wpAnyH_ready (rs := [10]) (by kernel_rfl) (by simp) ?_
            refine AllReadyH.cons rfl (fun K hK => ?_) AllReadyH.nil
            refine step_append_run _ rfl (.tmp 14) (.tmp 22) 38 38 rfl _ _ rfl rfl HR2.out ?_
            refine hK.out _ _ ?_ (fun hHeld => ?_)
            · exact HSS.out.2.2.2.1
            clear hK K
            try simp only [Act.put, List.setIfInBounds_toArray, List.set_cons_zero, List.set_cons_succ]
            refine heldY 11 24 ?_
            refine wpAnyH_ready (rs := [12]) (by kernel_rfl) (by simp) ?_
            refine AllReadyH.cons rfl (fun K hK => ?_) AllReadyH.nil
            go_simp
            refine hK.out _ _ ?_ (fun hHeld => ?_)
            · exact HSS.out.2.2.2.2
            clear hK K
            try simp only [Act.put, List.setIfInBounds_toArray, List.set_cons_zero, List.set_cons_succ]
            refine wpAnyH_done (by kernel_rfl) ?_ _
            go_wp2
            go_roundw
            case rel => exact ⟨k + 1, by go_num, by omega, _, _, by simp [HX.out.1], HX.out.2, HZ.out⟩
            case measure => simp [intOf]; omega
    · obtain rfl : k = ls.length := by omega
      have z0 : wr.cell? ⟨w.heap.size + 1, 0, none⟩ = some (.slice none 0 0) := hz.cell 0
      have z1 : wr.frozen? ⟨w.heap.size + 1, 0, none⟩ = false := hz.frozen 0
      obtain ⟨At, ct, rfl⟩ := ho.any hcl
      have HY := Lib.hid (And.intro hcl (And.intro hcs (And.intro (ho.put hz 0 (.slice At ls.length ct)) (grown_put hg (p := ⟨w.heap.size + 1, 0, none⟩) (by dsimp only; omega) (.slice At ls.length ct)))))
      clear hcl hcs ho hv hz hg
      go_wp2
      exact bodyPost_ret (v := .agg #[.slice At ls.length ct]) (by simp [results, Try.results65, go_sem, *]) rfl ⟨At, ct, cs, rfl, HY.out.1, HY.out.2.1.trans (List.take_of_length_le (by rw [ll_length]; omega)), HY.out.2.2.1, HY.out.2.2.2⟩
end Go.Proofs.Yteniikfgellhfaa
namespace Go.Proofs.Yteniikfgellhfaa

/-- The number at a place of a file. -/
def cellO (xss : List (List Int)) (f k : Nat) : Option Int := (xss[f]?).bind fun xs => xs[k]?
theorem cellO_some {xss : List (List Int)} {f k : Nat} {x : Int} (h : cellO xss f k = some x) : ∃ xs, xss[f]? = some xs ∧ xs[k]? = some x := by
  simpa [cellO, Option.bind_eq_some_iff] using h
theorem cellO_of {xss : List (List Int)} {f k : Nat} {xs : List Int} {x : Int} (h : xss[f]? = some xs) (hx : xs[k]? = some x) : cellO xss f k = some x := by simp [cellO, h, hx]
theorem flatB_iff : ∀ (l P : List Int), flatB P l = true ↔ (∀ x, x ∈ l → inB x (-1) 47 = true) ∧ (∀ (i : Nat) (x : Int), l[i]? = some x → 0 ≤ x → P.contains x = false) ∧ ∀ (i j : Nat) (x : Int), i < j → l[i]? = some x → l[j]? = some x → ¬ 0 ≤ x
  | [], P => by simp [flatB]
  | y :: l, P => by
    have ih := flatB_iff l (y :: P)
    simp only [flatB, Bool.and_eq_true, ih]
    constructor
    · rintro ⟨⟨h1, h2⟩, h3, h4, h5⟩
      have h2' : 0 ≤ y → P.contains y = false := by
        intro hy
        simpa [hy] using h2
      refine ⟨?_, ?_, ?_⟩
      · intro x hx
        rcases List.mem_cons.1 hx with rfl | hx
        · exact h1
        · exact h3 x hx
      · intro i x hi hx
        cases i with
        | zero => simp at hi; subst hi; exact h2' hx
        | succ i =>
          have := h4 i x (by simpa using hi) hx
          simp only [List.contains_cons, Bool.or_eq_false_iff] at this
          exact this.2
      · intro i j x hij hi hj hx
        cases j with
        | zero => omega
        | succ j =>
          have hj' : l[j]? = some x := by simpa using hj
          cases i with
          | zero =>
            simp at hi
            subst hi
            have := h4 j y hj' hx
            simp at this
          | succ i => exact h5 i j x (by omega) (by simpa using hi) hj' hx
    · rintro ⟨h1, h2, h3⟩
      refine ⟨⟨h1 y (by simp), ?_⟩, fun x hx => h1 x (by simp [hx]), ?_, ?_⟩
      · by_cases hy : 0 ≤ y
        · have := h2 0 y (by simp) hy
          rw [this]; simp
        · simp [hy]
      · intro i x hi hx
        have a := h2 (i + 1) x (by simpa using hi) hx
        simp only [List.contains_cons, a, Bool.or_false]
        cases e : x == y
        · rfl
        · have e' : x = y := by simpa using e
          subst e'
          exact absurd hx (h3 0 (i + 1) x (by omega) (by simp) (by simpa using hi))
      · intro i j x hij hi hj
        exact h3 (i + 1) (j + 1) x (by omega) (by simpa using hi) (by simpa using hj)
theorem flat_get : ∀ (xss : List (List Int)), (∀ xs, xs ∈ xss → xs.length = 6) → ∀ (f k : Nat), k < 6 → xss.flatten[6 * f + k]? = cellO xss f k
  | [], _, f, k, _ => by simp [cellO]
  | ys :: xss, h, f, k, hk => by
    have hy : ys.length = 6 := h ys (by simp)
    rw [List.flatten_cons]
    cases f with
    | zero =>
      rw [List.getElem?_append_left (by omega)]
      simp [cellO]
    | succ f =>
      rw [List.getElem?_append_right (by omega), show 6 * (f + 1) + k - ys.length = 6 * f + k by omega, flat_get xss (fun xs hx => h xs (by simp [hx])) f k hk]
      simp [cellO]
/-- What a valid table is, cell by cell. -/
structure TV (xss : List (List Int)) : Prop where
  len : xss.length = 8
  six : ∀ xs, xs ∈ xss → xs.length = 6
  inb : ∀ (f k : Nat) (x : Int), cellO xss f k = some x → -1 ≤ x ∧ x ≤ 47
  one : ∀ (f k f' k' : Nat) (x : Int), cellO xss f k = some x → cellO xss f' k' = some x → 0 ≤ x → f = f' ∧ k = k'
theorem six_lt {xss : List (List Int)} (h : ∀ xs, xs ∈ xss → xs.length = 6) {f k : Nat} {x : Int} (hc : cellO xss f k = some x) : k < 6 ∧ f < xss.length := by
  obtain ⟨xs, h1, h2⟩ := cellO_some hc
  have := h xs (List.mem_of_getElem? h1)
  have h3 := (List.getElem?_eq_some_iff.1 h2).1
  have h4 := (List.getElem?_eq_some_iff.1 h1).1
  omega
theorem flat_cell {xss : List (List Int)} (h : ∀ xs, xs ∈ xss → xs.length = 6) {i : Nat} {x : Int} (hi : xss.flatten[i]? = some x) : cellO xss (i / 6) (i % 6) = some x := by
  rw [← flat_get xss h (i / 6) (i % 6) (by omega), show 6 * (i / 6) + i % 6 = i by omega]
  exact hi
theorem tabB_iff (xss : List (List Int)) : tabB xss = true ↔ TV xss := by
  simp only [tabB, Bool.and_eq_true, decide_eq_true_eq, List.all_eq_true]
  constructor
  · rintro ⟨⟨h1, h2⟩, h3⟩
    obtain ⟨a, _, c⟩ := (flatB_iff _ _).1 h3
    refine ⟨h1, h2, ?_, ?_⟩
    · intro f k x hx
      have hk := six_lt h2 hx
      rw [← flat_get xss h2 f k hk.1] at hx
      exact inB_iff.1 (a x (List.mem_of_getElem? hx))
    · intro f k f' k' x hx hx' h0
      have hk := six_lt h2 hx
      have hk' := six_lt h2 hx'
      rw [← flat_get xss h2 f k hk.1] at hx
      rw [← flat_get xss h2 f' k' hk'.1] at hx'
      rcases Nat.lt_trichotomy (6 * f + k) (6 * f' + k') with h | h | h
      · exact absurd h0 (c _ _ x h hx hx')
      · omega
      · exact absurd h0 (c _ _ x h hx' hx)
  · rintro ⟨h1, h2, h3, h4⟩
    refine ⟨⟨h1, h2⟩, (flatB_iff _ _).2 ⟨?_, ?_, ?_⟩⟩
    · intro x hx
      obtain ⟨i, hi⟩ := List.mem_iff_getElem?.1 hx
      exact inB_iff.2 (h3 _ _ x (flat_cell h2 hi))
    · intro i x _ _
      simp
    · intro i j x hij hi hj h0
      have := h4 _ _ _ _ x (flat_cell h2 hi) (flat_cell h2 hj) h0
      omega
/-- One number put. -/
def tset (xss : List (List Int)) (f k : Nat) (x : Int) : List (List Int) := xss.set f ((xss.getD f []).set k x)
theorem TV.cell {xss : List (List Int)} (h : TV xss) {f k : Nat} (hf : f < 8) (hk : k < 6) : ∃ xs x, xss[f]? = some xs ∧ xs.length = 6 ∧ xs[k]? = some x ∧ cellO xss f k = some x := by
  have h1 : xss[f]? = some (xss[f]'(by have := h.len; omega)) := List.getElem?_eq_getElem _
  have h6 := h.six _ (List.mem_of_getElem? h1)
  have h2 := List.getElem?_eq_getElem (l := xss[f]'(by have := h.len; omega)) (i := k) (by omega)
  exact ⟨_, _, h1, h6, h2, cellO_of h1 h2⟩
theorem tset_row {xss : List (List Int)} {f : Nat} {xs : List Int} (h : xss[f]? = some xs) (k : Nat) (x : Int) : tset xss f k x = xss.set f (xs.set k x) := by
  simp [tset, List.getD_eq_getElem?_getD, h]
theorem tset_cell {xss : List (List Int)} (h : TV xss) {f k : Nat} (hf : f < 8) (hk : k < 6) (x : Int) (f' k' : Nat) : cellO (tset xss f k x) f' k' = if f' = f ∧ k' = k then some x else cellO xss f' k' := by
  obtain ⟨xs, y, h1, h6, h2, _⟩ := h.cell hf hk
  rw [tset_row h1]
  by_cases e : f' = f
  · subst e
    have : (xss.set f' (xs.set k x))[f']? = some (xs.set k x) := by
      rw [List.getElem?_set]
      simp [h.len]
      omega
    simp only [cellO, this, h1, Option.bind_some, true_and]
    rw [List.getElem?_set]
    by_cases e2 : k = k'
    · subst e2; simp [h6]; omega
    · rw [if_neg e2, if_neg (fun e => e2 e.symm)]
  · simp only [cellO, e, false_and, if_false]
    rw [List.getElem?_set, if_neg (fun e' => e e'.symm)]
/-- The page is in the table at another place. -/
def Elsewhere (xss : List (List Int)) (f k : Nat) (x : Int) : Prop := x ≠ -1 ∧ ∃ f' k', cellO xss f' k' = some x ∧ (f' ≠ f ∨ k' ≠ k)
theorem tset_valid {xss : List (List Int)} (h : TV xss) {f k : Nat} (hf : f < 8) (hk : k < 6) {x : Int} (hx : -1 ≤ x ∧ x ≤ 47) (hE : ¬ Elsewhere xss f k x) : TV (tset xss f k x) := by
  obtain ⟨xs, y, h1, h6, h2, _⟩ := h.cell hf hk
  refine ⟨by rw [tset_row h1, List.length_set]; exact h.len, ?_, ?_, ?_⟩
  · intro l hl
    rw [tset_row h1] at hl
    rcases List.mem_or_eq_of_mem_set hl with hl | rfl
    · exact h.six l hl
    · rw [List.length_set]; exact h6
  · intro f' k' z hz
    rw [tset_cell h hf hk] at hz
    split at hz
    · injection hz with hz; subst hz; exact hx
    · exact h.inb f' k' z hz
  · intro f1 k1 f2 k2 z hz1 hz2 h0
    rw [tset_cell h hf hk] at hz1 hz2
    split at hz1 <;> split at hz2
    · omega
    · injection hz1 with hz1
      subst hz1
      rename_i a b
      exact absurd ⟨by omega, f2, k2, hz2, by omega⟩ hE
    · injection hz2 with hz2
      subst hz2
      rename_i a b
      exact absurd ⟨by omega, f1, k1, hz1, by omega⟩ hE
    · exact h.one f1 k1 f2 k2 z hz1 hz2 h0
theorem tset_not {xss : List (List Int)} (h : TV xss) {f k : Nat} (hf : f < 8) (hk : k < 6) {x : Int} (hx : -1 ≤ x ∧ x ≤ 47) (hE : Elsewhere xss f k x) : ¬ TV (tset xss f k x) := by
  intro hT
  obtain ⟨hne, f', k', hc, hd⟩ := hE
  have := hT.one f k f' k' x (by rw [tset_cell h hf hk]; simp) (by rw [tset_cell h hf hk, if_neg (by omega)]; exact hc) (by omega)
  omega
theorem tset_ok {xss : List (List Int)} (h : tabB xss = true) {f k : Nat} (hf : f < 8) (hk : k < 6) {x : Int} (hx : inB x (-1) 47 = true) : tabB (tset xss f k x) = true ↔ ¬ Elsewhere xss f k x := by
  have hT := (tabB_iff _).1 h
  have hx' := inB_iff.1 hx
  constructor
  · intro hv hE
    exact tset_not hT hf hk hx' hE ((tabB_iff _).1 hv)
  · intro hE
    exact (tabB_iff _).2 (tset_valid hT hf hk hx' hE)
/-- The arguments are a file and a place of a valid table. -/
def argB (xss : List (List Int)) (f k : Int) : Bool := tabB xss && inB f 0 7 && inB k 0 5
/-- What TableGet answers. -/
def tgetV (xss : List (List Int)) (f k : Int) : Int := if argB xss f k then (cellO xss f.toNat k.toNat).getD 0 else -1
/-- What TablePut answers. -/
def tputV (xss : List (List Int)) (f k x : Int) : List (List Int) × Bool :=
  if argB xss f k && inB x (-1) 47 then (if tabB (tset xss f.toNat k.toNat x) then (tset xss f.toNat k.toNat x, true) else (xss, false)) else ([], false)
/-- In how many of the first i cells two tables differ. -/
def chgTo (a b : List (List Int)) : Nat → Nat
  | 0 => 0
  | i + 1 => chgTo a b i + (if cellO a (i / 6) (i % 6) = cellO b (i / 6) (i % 6) then 0 else 1)
/-- What TableChanges answers. -/
def chgV (a b : List (List Int)) : Int := if tabB a && tabB b then (chgTo a b 48 : Nat) else -1
theorem chgTo_le (a b : List (List Int)) (i : Nat) : chgTo a b i ≤ i := by
  induction i with
  | zero => exact Nat.le_refl _
  | succ i ih => simp only [chgTo]; split <;> omega
theorem chgTo_comm (a b : List (List Int)) (i : Nat) : chgTo a b i = chgTo b a i := by
  induction i with
  | zero => rfl
  | succ i ih =>
    simp only [chgTo, ih]
    by_cases e : cellO a (i / 6) (i % 6) = cellO b (i / 6) (i % 6)
    · rw [if_pos e, if_pos e.symm]
    · rw [if_neg e, if_neg (fun e' => e e'.symm)]
theorem chgTo_self (a : List (List Int)) (i : Nat) : chgTo a a i = 0 := by
  induction i with
  | zero => rfl
  | succ i ih => simp [chgTo, ih]
theorem chgTo_zero (a b : List (List Int)) (i : Nat) : chgTo a b i = 0 ↔ ∀ j, j < i → cellO a (j / 6) (j % 6) = cellO b (j / 6) (j % 6) := by
  induction i with
  | zero => simp [chgTo]
  | succ i ih =>
    simp only [chgTo]
    constructor
    · intro h j hj
      by_cases e : cellO a (i / 6) (i % 6) = cellO b (i / 6) (i % 6)
      · rw [if_pos e] at h
        rcases Nat.lt_or_ge j i with h1 | h1
        · exact ih.1 (by omega) j h1
        · obtain rfl : j = i := by omega
          exact e
      · rw [if_neg e] at h; omega
    · intro h
      rw [if_pos (h i (by omega)), ih.2 (fun j hj => h j (by omega))]
theorem TV.same {a b : List (List Int)} (ha : TV a) (hb : TV b) (h : ∀ f k, f < 8 → k < 6 → cellO a f k = cellO b f k) : a = b := by
  refine List.ext_getElem? fun f => ?_
  rcases Nat.lt_or_ge f 8 with hf | hf
  · obtain ⟨xs, x, h1, h6, _, _⟩ := ha.cell hf (show 0 < 6 by omega)
    obtain ⟨ys, y, g1, g6, _, _⟩ := hb.cell hf (show 0 < 6 by omega)
    rw [h1, g1]
    congr 1
    refine List.ext_getElem? fun k => ?_
    rcases Nat.lt_or_ge k 6 with hk | hk
    · have := h f k hf hk
      simpa [cellO, h1, g1] using this
    · rw [List.getElem?_eq_none (by omega), List.getElem?_eq_none (by omega)]
  · rw [List.getElem?_eq_none (by have := ha.len; omega), List.getElem?_eq_none (by have := hb.len; omega)]
theorem chg_zero {a b : List (List Int)} (ha : tabB a = true) (hb : tabB b = true) : chgTo a b 48 = 0 ↔ a = b := by
  constructor
  · intro h
    refine TV.same ((tabB_iff _).1 ha) ((tabB_iff _).1 hb) fun f k hf hk => ?_
    have := (chgTo_zero a b 48).1 h (6 * f + k) (by omega)
    rwa [show (6 * f + k) / 6 = f by omega, show (6 * f + k) % 6 = k by omega] at this
  · rintro rfl
    exact chgTo_self a 48
theorem chgTo_one {a b : List (List Int)} {f k : Nat} (h : ∀ f' k', ¬ (f' = f ∧ k' = k) → cellO a f' k' = cellO b f' k') (i : Nat) : chgTo a b i ≤ (if 6 * f + k < i ∧ k < 6 then 1 else 0) := by
  induction i with
  | zero => simp [chgTo]
  | succ i ih =>
    simp only [chgTo]
    by_cases e : i / 6 = f ∧ i % 6 = k
    · have hi : 6 * f + k = i := by omega
      rw [if_neg (show ¬ (6 * f + k < i ∧ k < 6) by omega)] at ih
      rw [if_pos (show 6 * f + k < i + 1 ∧ k < 6 by omega)]
      split <;> omega
    · rw [if_pos (h _ _ e)]
      refine Nat.le_trans (by simpa using ih) ?_
      split
      · rw [if_pos (show 6 * f + k < i + 1 ∧ k < 6 by omega)]; exact Nat.le_refl _
      · exact Nat.zero_le _
end Go.Proofs.Yteniikfgellhfaa
namespace Go.Proofs.Yteniikfgellhfaa
open Go.ChangeShapes Go.WideShapes Go.ChangeAt Go.RowKit

section
variable {w w' : World} {B : Nat} {A : Option Addr} {ls : List Li} {xs : List Int}
theorem TRow.pos (h : TRow w B A ls) (hp : 0 < ls.length) : ∃ g off, A = some ⟨g, off, none⟩ := by
  obtain ⟨g, off, e, _⟩ := h.1 (by rw [lv_length]; exact hp)
  exact ⟨g, off, e⟩
theorem TRow.cellf {g off f : Nat} {Al : Option Addr} {cl n : Nat} (h : TRow w B (some ⟨g, off, none⟩) ls) (hf : ls[f]? = some ⟨Al, cl, xs⟩) (hn : xs.length = n) : w.cell? ⟨g, off + f, none⟩ = some (.slice Al n cl) := by
  subst hn
  obtain ⟨g', off', e, _, _, hc⟩ := h.1 (by rw [lv_length]; have := (List.getElem?_eq_some_iff.1 hf).1; omega)
  injection e with e
  injection e with e1 e2
  subst e1; subst e2
  exact hc _ _ (lv_at hf)
theorem TRow.inner {f : Nat} {l : Li} (h : TRow w B A ls) (hf : ls[f]? = some l) : IRow w B l.A l.xs := h.2 _ (List.mem_of_getElem? hf)
theorem TRow.lt {g off : Nat} (h : TRow w B (some ⟨g, off, none⟩) ls) (hp : 0 < ls.length) : g < B := by
  obtain ⟨g', off', e, hb, _⟩ := h.1 (by rw [lv_length]; exact hp)
  injection e with e
  injection e with e1 e2
  subst e1
  exact hb
theorem IRow.lt {g off : Nat} (h : IRow w B (some ⟨g, off, none⟩) xs) (hp : 0 < xs.length) : g < B := by
  obtain ⟨g', off', e, hb, _⟩ := h (by rw [iv_length]; exact hp)
  injection e with e
  injection e with e1 e2
  subst e1
  exact hb
theorem IRow.pos (h : IRow w B A xs) (hp : 0 < xs.length) : ∃ g off, A = some ⟨g, off, none⟩ := by
  obtain ⟨g, off, e, _⟩ := h (by rw [iv_length]; exact hp)
  exact ⟨g, off, e⟩
theorem IRow.cellf {g off k : Nat} {x : Int} (h : IRow w B (some ⟨g, off, none⟩) xs) (hk : xs[k]? = some x) : w.cell? ⟨g, off + k, none⟩ = some (.int .i64 x) := by
  obtain ⟨g', off', e, _, _, hc⟩ := h (by rw [iv_length]; have := (List.getElem?_eq_some_iff.1 hk).1; omega)
  injection e with e
  injection e with e1 e2
  subst e1; subst e2
  exact hc _ _ (iv_at hk)
end
theorem ll_get {ls : List Li} {f : Nat} {xs : List Int} (h : (ll ls)[f]? = some xs) : ∃ A c, ls[f]? = some ⟨A, c, xs⟩ := by
  simp only [ll, List.getElem?_map, Option.map_eq_some_iff] at h
  obtain ⟨⟨A, c, ys⟩, hl, rfl⟩ := h
  exact ⟨A, c, hl⟩
/-- A cell of a valid table that is read: where it lies. -/
theorem TRow.open_ {w : World} {B : Nat} {A : Option Addr} {ls : List Li} (h : TRow w B A ls) (hv : tabB (ll ls) = true) {f k : Nat} (hf : f < 8) (hk : k < 6) :
    ls.length = 8 ∧ ∃ g off gx ox cl xs x, A = some ⟨g, off, none⟩ ∧ ls[f]? = some ⟨some ⟨gx, ox, none⟩, cl, xs⟩ ∧ xs.length = 6 ∧ xs[k]? = some x ∧ cellO (ll ls) f k = some x := by
  have hT := (tabB_iff _).1 hv
  have h8 : ls.length = 8 := by rw [← ll_length]; exact hT.len
  obtain ⟨xs, x, h1, h6, h2, h3⟩ := hT.cell hf hk
  obtain ⟨Al, cl, hl⟩ := ll_get h1
  obtain ⟨g, off, rfl⟩ := h.pos (by omega)
  obtain ⟨gx, ox, e⟩ := IRow.pos (h.inner hl) (by show 0 < xs.length; omega)
  dsimp only at e
  subst e
  exact ⟨h8, g, off, gx, ox, cl, xs, x, rfl, hl, h6, h2, h3⟩
theorem specTabValid_val {A : Option Addr} {n c : Nat} {ls : List Li} {w : World} {V : Bool} (hv : tabB (ll ls) = V) (hl : ls.length = n) (hr : TRow w w.heap.size A ls) (hn : n ≤ 1048576) (hp : ∀ l, l ∈ ls → l.xs.length ≤ 1048576) :
    Calls Try.prog 64 #[.agg #[.slice A n c]] w (KeptV (.bool V) w) := hv ▸ specTableValid_any A n c ls w hl hr hn hp
/-- A boxed table, and the table that came in. -/
def TIn (w : World) (A : Option Addr) (n c : Nat) (ls : List Li) (wr : World) : Prop := Blk wr w.heap.size 40 #[.slice A n c] ∧ TRow wr w.heap.size A ls ∧ w.grownBy wr none
section
variable {w wr w' : World} {A : Option Addr} {n c : Nat} {ls : List Li}
theorem TIn.start (hr : TRow w w.heap.size A ls) (n c : Nat) : TIn w A n c ls (w.alloc (.cells #[.slice A n c] 40)) := ⟨Blk.new w _ _, hr.alloc _, grown_alloc (grown_refl _ _) _⟩
theorem TIn.keep (H : TIn w A n c ls wr) (k : wr.grownBy w' none) : TIn w A n c ls w' := ⟨H.1.keep k, H.2.1.kept k, grown_trans H.2.2 k⟩
end
theorem tget_no {xss : List (List Int)} {f k : Int} (h : argB xss f k = false) : tgetV xss f k = -1 := by simp [tgetV, h]
theorem tget_at {xss : List (List Int)} {f k : Nat} {x : Int} (h : argB xss f k = true) (hc : cellO xss f k = some x) : tgetV xss f k = x := by simp [tgetV, h, hc]
theorem arg1 {xss : List (List Int)} {f k : Int} (h : tabB xss = false) : argB xss f k = false := by simp [argB, h]
theorem arg2 {xss : List (List Int)} {f k : Int} (h : inB f 0 7 = false) : argB xss f k = false := by simp [argB, h]
theorem arg3 {xss : List (List Int)} {f k : Int} (h : inB k 0 5 = false) : argB xss f k = false := by simp [argB, h]
theorem arg_yes {xss : List (List Int)} {f k : Int} (h : tabB xss = true) (hf : inB f 0 7 = true) (hk : inB k 0 5 = true) : argB xss f k = true := by simp [argB, h, hf, hk]
theorem inB_nat {x : Int} {m : Nat} (h : inB x 0 m = true) : ∃ n : Nat, x = n ∧ n ≤ m := by
  have := inB_iff.1 h
  obtain ⟨n, rfl⟩ := Int.eq_ofNat_of_zero_le this.1
  exact ⟨n, rfl, by omega⟩
theorem in_val {n lo hi : Int} {V : Bool} (h : inB n lo hi = V) (w : World) : Calls Try.prog 95 #[.int .i64 n, .int .i64 lo, .int .i64 hi] w fun e w' => e = .returned (.bool V) ∧ w = w' := h ▸ in_any n lo hi w
end Go.Proofs.Yteniikfgellhfaa
namespace Go.Proofs.Yteniikfgellhfaa
open Go.ChangeShapes Go.WideShapes Go.ChangeAt Go.RowKit

/-- A table in memory of its own, and whether it is possible. -/
def TabMade2 (xss : List (List Int)) (ok : Bool) (w : World) (e : Ending) (w' : World) : Prop :=
  ∃ (A : Option Addr) (n c : Nat) (cs : List Li), e = .returned (.tuple #[.agg #[.slice A n c], .bool ok]) ∧ cs.length = n ∧ ll cs = xss ∧ TOwn w' w.heap.size (.slice A n c) cs ∧ w.grownBy w' none
/-- A boxed table, the result's variable, and the table that came in. -/
def TIn2 (w : World) (A : Option Addr) (n c : Nat) (ls : List Li) (wr : World) : Prop := Blk wr w.heap.size 40 #[.slice A n c] ∧ Blk wr (w.heap.size + 1) 40 #[.slice none 0 0] ∧ TRow wr w.heap.size A ls ∧ w.grownBy wr none
section
variable {w wr w' : World} {A : Option Addr} {n c : Nat} {ls : List Li}
theorem TRow.put {B : Nat} (h : TRow w B A ls) {p : Addr} (hB : B ≤ p.block) (u : Value) : TRow (w.setCell p u) B A ls := ⟨h.1.setCell hB u, fun l hl => VRow.setCell (h.2 l hl) hB u⟩
theorem TIn2.start (hr : TRow w w.heap.size A ls) (n c : Nat) : TIn2 w A n c ls ((w.alloc (.cells #[.slice A n c] 40)).alloc (.cells #[.slice none 0 0] 40)) := by
  refine ⟨(Blk.new w _ _).alloc _, ?_, (hr.alloc _).alloc _, grown_alloc (grown_alloc (grown_refl _ _) _) _⟩
  have H := Blk.new (w.alloc (.cells #[.slice A n c] 40)) 40 #[.slice none 0 0]
  simpa only [size_alloc1] using H
theorem TIn2.keep (H : TIn2 w A n c ls wr) (k : wr.grownBy w' none) : TIn2 w A n c ls w' := ⟨H.1.keep k, H.2.1.keep k, H.2.2.1.kept k, grown_trans H.2.2.2 k⟩
/-- Something else is written. -/
theorem TIn2.far (H : TIn2 w A n c ls wr) {p : Addr} (hp : w.heap.size ≤ p.block) (h0 : p.block ≠ w.heap.size) (h1 : p.block ≠ w.heap.size + 1) (u : Value) : TIn2 w A n c ls (wr.setCell p u) :=
  ⟨H.1.far (fun e => h0 e.symm) u, H.2.1.far (fun e => h1 e.symm) u, H.2.2.1.put hp u, grown_put H.2.2.2 hp u⟩
end
theorem town_none (w : World) (base : Nat) : TOwn w base (.slice none 0 0) [] := town_nil w base
theorem tput_no {xss : List (List Int)} {f k x : Int} (h : argB xss f k = false) : tputV xss f k x = ([], false) := by simp [tputV, h]
theorem tput_no2 {xss : List (List Int)} {f k x : Int} (h : inB x (-1) 47 = false) : tputV xss f k x = ([], false) := by simp [tputV, h]
theorem tput_yes {xss : List (List Int)} {f k : Nat} {x : Int} (h : argB xss f k = true) (hx : inB x (-1) 47 = true) (hv : tabB (tset xss f k x) = true) : tputV xss f k x = (tset xss f k x, true) := by simp [tputV, h, hx, hv]
theorem tput_els {xss : List (List Int)} {f k : Nat} {x : Int} (h : argB xss f k = true) (hx : inB x (-1) 47 = true) (hv : tabB (tset xss f k x) = false) : tputV xss f k x = (xss, false) := by simp [tputV, h, hx, hv]
/-- A list of a table of the call's own. -/
theorem TOwn.inner {w : World} {base : Nat} {v : Value} {ls : List Li} (h : TOwn w base v ls) {f : Nat} {xs : List Int} (hf : (ll ls)[f]? = some xs) (hpos : 0 < xs.length) :
    ∃ gl cl, ls[f]? = some ⟨some ⟨gl, 0, none⟩, cl, xs⟩ ∧ IOwn w base (.slice (some ⟨gl, 0, none⟩) xs.length cl) xs ∧ base ≤ gl ∧ gl < w.heap.size := by
  obtain ⟨Al, cl, hl⟩ := ll_get hf
  have h1 : IOwn w base (.slice Al xs.length cl) xs := h.2.1 _ (List.mem_of_getElem? hl)
  obtain ⟨gl, cap, e, hb, hz, _⟩ := VOwn.head h1 (iv_length xs) hpos
  injection e with e1 _ e2
  subst e1
  exact ⟨gl, cl, hl, h1, hb, hz⟩
theorem ll_six {ls : List Li} (hv : tabB (ll ls) = true) : ∀ l, l ∈ ls → l.xs.length ≤ 1048576 := fun l hl => by
  have h6 := ((tabB_iff _).1 hv).six l.xs (List.mem_map_of_mem hl)
  omega
theorem specPut_tab (A : Option Addr) (n c : Nat) (ls : List Li) (f k x : Int) (w : World) (hl : ls.length = n) (hr : TRow w w.heap.size A ls) (hn : n ≤ 1048576) (hp : ∀ l, l ∈ ls → l.xs.length ≤ 1048576) (hv : tabB (ll ls) = false) :
    Calls Try.prog 125 #[.agg #[.slice A n c], .int .i64 f, .int .i64 k, .int .i64 x] w (TabMade2 [] false w) := by
  have HT := Lib.hid (TIn2.start hr n c)
  have HP := Lib.hid (And.intro hl hp)
  have HV := Lib.hid (And.intro hv trivial)
  clear hl hr hp hv
  go_enter Try.func125, Try.ntmps125
  go_wp2_with fail
  refine (specTabValid_val HV.out.1 HP.out.1 HT.out.2.2.1.here hn HP.out.2).mono ?_
  rintro e w1 ⟨rfl, hk⟩
  have HK := Lib.hid (HT.out.keep hk)
  clear hk
  have z0 : w1.cell? ⟨w.heap.size + 1, 0, none⟩ = some (.slice none 0 0) := HK.out.2.1.cell 0
  have z1 : w1.frozen? ⟨w.heap.size + 1, 0, none⟩ = false := HK.out.2.1.frozen 0
  go_wp2
  exact bodyPost_ret (v := .tuple #[.agg #[.slice none 0 0], .bool false]) (by simp [results, Try.results125, go_sem, *]) rfl ⟨none, 0, 0, [], rfl, rfl, rfl, town_nil _ _, grown_put HK.out.2.2.2 (p := ⟨w.heap.size + 1, 0, none⟩) (by dsimp only; omega) _⟩
theorem specPut_file (A : Option Addr) (n c : Nat) (ls : List Li) (f k x : Int) (w : World) (hl : ls.length = n) (hr : TRow w w.heap.size A ls) (hn : n ≤ 1048576) (hp : ∀ l, l ∈ ls → l.xs.length ≤ 1048576) (hv : tabB (ll ls) = true) (hf : inB f 0 7 = false) :
    Calls Try.prog 125 #[.agg #[.slice A n c], .int .i64 f, .int .i64 k, .int .i64 x] w (TabMade2 [] false w) := by
  have HT := Lib.hid (TIn2.start hr n c)
  have HP := Lib.hid (And.intro hl hp)
  have HV := Lib.hid (And.intro hv hf)
  clear hl hr hp hv hf
  go_enter Try.func125, Try.ntmps125
  go_wp2_with fail
  refine (specTabValid_val HV.out.1 HP.out.1 HT.out.2.2.1.here hn HP.out.2).mono ?_
  rintro e w1 ⟨rfl, hk⟩
  have HK := Lib.hid (HT.out.keep hk)
  clear hk
  have z0 : w1.cell? ⟨w.heap.size + 1, 0, none⟩ = some (.slice none 0 0) := HK.out.2.1.cell 0
  have z1 : w1.frozen? ⟨w.heap.size + 1, 0, none⟩ = false := HK.out.2.1.frozen 0
  go_wp2_with (go_at_call 95; refine (in_any _ _ _ _).mono ?_; rintro e w' ⟨rfl, rfl⟩; first | rw [HV.out.2])
  exact bodyPost_ret (v := .tuple #[.agg #[.slice none 0 0], .bool false]) (by simp [results, Try.results125, go_sem, *]) rfl ⟨none, 0, 0, [], rfl, rfl, rfl, town_nil _ _, grown_put HK.out.2.2.2 (p := ⟨w.heap.size + 1, 0, none⟩) (by dsimp only; omega) _⟩
theorem specPut_place (A : Option Addr) (n c : Nat) (ls : List Li) (f k x : Int) (w : World) (hl : ls.length = n) (hr : TRow w w.heap.size A ls) (hn : n ≤ 1048576) (hp : ∀ l, l ∈ ls → l.xs.length ≤ 1048576) (hv : tabB (ll ls) = true) (hf : inB f 0 7 = true) (hk : inB k 0 5 = false) :
    Calls Try.prog 125 #[.agg #[.slice A n c], .int .i64 f, .int .i64 k, .int .i64 x] w (TabMade2 [] false w) := by
  have HT := Lib.hid (TIn2.start hr n c)
  have HP := Lib.hid (And.intro hl hp)
  have HV := Lib.hid (And.intro hv (And.intro hf hk))
  clear hl hr hp hv hf hk
  go_enter Try.func125, Try.ntmps125
  go_wp2_with fail
  refine (specTabValid_val HV.out.1 HP.out.1 HT.out.2.2.1.here hn HP.out.2).mono ?_
  rintro e w1 ⟨rfl, hk⟩
  have HK := Lib.hid (HT.out.keep hk)
  clear hk
  have z0 : w1.cell? ⟨w.heap.size + 1, 0, none⟩ = some (.slice none 0 0) := HK.out.2.1.cell 0
  have z1 : w1.frozen? ⟨w.heap.size + 1, 0, none⟩ = false := HK.out.2.1.frozen 0
  go_wp2_with (go_at_call 95; refine (in_any _ _ _ _).mono ?_; rintro e w' ⟨rfl, rfl⟩; first | rw [HV.out.2.1] | rw [HV.out.2.2])
  exact bodyPost_ret (v := .tuple #[.agg #[.slice none 0 0], .bool false]) (by simp [results, Try.results125, go_sem, *]) rfl ⟨none, 0, 0, [], rfl, rfl, rfl, town_nil _ _, grown_put HK.out.2.2.2 (p := ⟨w.heap.size + 1, 0, none⟩) (by dsimp only; omega) _⟩
theorem specPut_page (A : Option Addr) (n c : Nat) (ls : List Li) (f k x : Int) (w : World) (hl : ls.length = n) (hr : TRow w w.heap.size A ls) (hn : n ≤ 1048576) (hp : ∀ l, l ∈ ls → l.xs.length ≤ 1048576) (hv : tabB (ll ls) = true) (hf : inB f 0 7 = true) (hk : inB k 0 5 = true) (hx : inB x (-1) 47 = false) :
    Calls Try.prog 125 #[.agg #[.slice A n c], .int .i64 f, .int .i64 k, .int .i64 x] w (TabMade2 [] false w) := by
  have HT := Lib.hid (TIn2.start hr n c)
  have HP := Lib.hid (And.intro hl hp)
  have HV := Lib.hid (And.intro hv (And.intro hf (And.intro hk hx)))
  clear hl hr hp hv hf hk hx
  go_enter Try.func125, Try.ntmps125
  go_wp2_with fail
  refine (specTabValid_val HV.out.1 HP.out.1 HT.out.2.2.1.here hn HP.out.2).mono ?_
  rintro e w1 ⟨rfl, hk⟩
  have HK := Lib.hid (HT.out.keep hk)
  clear hk
  have z0 : w1.cell? ⟨w.heap.size + 1, 0, none⟩ = some (.slice none 0 0) := HK.out.2.1.cell 0
  have z1 : w1.frozen? ⟨w.heap.size + 1, 0, none⟩ = false := HK.out.2.1.frozen 0
  go_wp2_with (go_at_call 95; refine (in_any _ _ _ _).mono ?_; rintro e w' ⟨rfl, rfl⟩; first | rw [HV.out.2.1] | rw [HV.out.2.2.1] | rw [HV.out.2.2.2])
  exact bodyPost_ret (v := .tuple #[.agg #[.slice none 0 0], .bool false]) (by simp [results, Try.results125, go_sem, *]) rfl ⟨none, 0, 0, [], rfl, rfl, rfl, town_nil _ _, grown_put HK.out.2.2.2 (p := ⟨w.heap.size + 1, 0, none⟩) (by dsimp only; omega) _⟩
set_option maxHeartbeats 1000000 in
theorem specPut_at (A : Option Addr) (n c : Nat) (ls : List Li) (f k : Nat) (x : Int) (w : World) (hl : ls.length = n) (hr : TRow w w.heap.size A ls) (hv : tabB (ll ls) = true) (hf : inB f 0 7 = true) (hk : inB k 0 5 = true) (hx : inB x (-1) 47 = true) :
    Calls Try.prog 125 #[.agg #[.slice A n c], .int .i64 f, .int .i64 k, .int .i64 x] w (TabMade2 (tputV (ll ls) f k x).1 (tputV (ll ls) f k x).2 w) := by
  have hf7 : f < 8 := by have := inB_iff.1 hf; omega
  have hk5 : k < 6 := by have := inB_iff.1 hk; omega
  obtain ⟨h8, g, off, gx, ox, cl, xs, y, rfl, hll, h6, hy, hc⟩ := hr.open_ hv hf7 hk5
  have hn8 : n = 8 := by omega
  subst hn8
  have hp := ll_six hv
  have HT := Lib.hid (TIn2.start hr 8 c)
  have HP := Lib.hid (And.intro hl hp)
  have HV := Lib.hid (And.intro hv (And.intro hf (And.intro hk hx)))
  have f0 : decide ((0 : Int) ≤ f) = true := decide_eq_true (by omega)
  have f1 : (f : Int) < 8 := by omega
  have k0 : decide ((0 : Int) ≤ k) = true := decide_eq_true (by omega)
  have k1 : (k : Int) < 6 := by omega
  have HX := Lib.hid (And.intro (ll_at hll) (And.intro hy h6))
  have hsmall : (8 : Nat) ≤ 1048576 := by omega
  clear hl hr hp hv hf hk hx hll hy h6 h8 hc
  go_enter Try.func125, Try.ntmps125
  go_wp2_with fail
  refine (specTabValid_val HV.out.1 HP.out.1 HT.out.2.2.1.here hsmall HP.out.2).mono ?_
  rintro e w1 ⟨rfl, hk1⟩
  have HK := Lib.hid (HT.out.keep hk1)
  clear hk1
  have b0 : w1.cell? ⟨w.heap.size, 0, none⟩ = some (.slice (some ⟨g, off, none⟩) 8 c) := HK.out.1.cell 0
  go_wp2_with (first | (go_at_call 95; refine (in_any _ _ _ _).mono ?_; rintro e w' ⟨rfl, rfl⟩; first | rw [HV.out.2.1] | rw [HV.out.2.2.1] | rw [HV.out.2.2.2]) | fail)
  refine (specCopyTab_any _ _ _ ls w1 HP.out.1 HK.out.2.2.1.here (by omega) HP.out.2).mono ?_
  rintro e w2 ⟨A2, c2, cs, rfl, hcl, hcs, ho, hk2⟩
  obtain ⟨g2, _, e, hg2, _⟩ := ho.head hcl (by omega)
  injection e with e1 _ e3
  subst e1; subst e3
  have hl2 : (ll cs)[f]? = some xs := by rw [hcs]; exact HX.out.1
  have h6 := HX.out.2.2
  have K3 : w2.grownBy (w2.alloc (.cells #[.slice (some ⟨g2, 0, none⟩) 8 c2] 40)) none := grown_alloc (grown_refl _ _) _
  have ho3 := ho.keep K3
  obtain ⟨gl, cl2, hli, hio, hgl, hglz⟩ := ho3.inner hl2 (by omega)
  have c0 := ho3.at_ hcl hli
  have c1 : (w2.alloc (.cells #[.slice (some ⟨g2, 0, none⟩) 8 c2] 40)).cell? ⟨gl, k, none⟩ = some (.int .i64 y) := VOwn.at_ hio (iv_length xs) (iv_at HX.out.2.1)
  have c2f : (w2.alloc (.cells #[.slice (some ⟨g2, 0, none⟩) 8 c2] 40)).frozen? ⟨gl, k, none⟩ = false := VOwn.frozen hio (iv_length xs) k
  dsimp only at c0
  rw [h6] at c0
  have hT3 := (HK.out.keep hk2).keep K3
  have n0 : gl ≠ w.heap.size := VOwn.ne_blk hio hT3.1 (by decide)
  have n1 : gl ≠ w.heap.size + 1 := VOwn.ne_blk hio hT3.2.1 (by decide)
  have hN := Blk.new w2 40 #[.slice (some ⟨g2, 0, none⟩) 8 c2]
  have n2 : gl ≠ w2.heap.size := VOwn.ne_blk hio hN (by decide)
  have hb1 := HK.out.2.2.2.size
  have hT4 := hT3.far (p := ⟨gl, k, none⟩) (by dsimp only; omega) n0 n1 (.int .i64 x)
  have hN4 := hN.far (p := ⟨gl, k, none⟩) (fun e => n2 e.symm) (.int .i64 x)
  have ho4 := ho3.set hli k x
  have hcl4 : (cs.set f ⟨some ⟨gl, 0, none⟩, cl2, xs.set k x⟩).length = 8 := by rw [List.length_set]; exact hcl
  have hcs4 : ll (cs.set f ⟨some ⟨gl, 0, none⟩, cl2, xs.set k x⟩) = tset (ll ls) f k x := by rw [ll_set, hcs, tset_row HX.out.1]
  have hp4 : ∀ l, l ∈ cs.set f ⟨some ⟨gl, 0, none⟩, cl2, xs.set k x⟩ → l.xs.length ≤ 1048576 := fun l hl => by
    rcases List.mem_or_eq_of_mem_set hl with hl | rfl
    · exact ll_six (ls := cs) (by rw [hcs]; exact HV.out.1) l hl
    · show (xs.set k x).length ≤ 1048576
      rw [List.length_set]; omega
  obtain ⟨ds, hds⟩ : ∃ ds, ds = cs.set f ⟨some ⟨gl, 0, none⟩, cl2, xs.set k x⟩ := ⟨_, rfl⟩
  rw [← hds] at ho4 hcl4 hcs4 hp4
  have b4 := hN4.cell 0
  have HZ := Lib.hid (And.intro hT4 (And.intro hN4 (And.intro ho4 (And.intro hcl4 (And.intro hcs4 hp4)))))
  have HY := Lib.hid (And.intro (ho4.row) n2)
  clear ho hcl hcs hk2 hl2 h6 K3 ho3 hli hio hgl hglz hT3 n0 n1 hN hT4 hN4 ho4 hcl4 hcs4 hp4 hds hg2
  have n2 := HY.out.2
  clear b0
  go_wp2_with fail
  rcases hv2 : tabB (tset (ll ls) f k x) with _ | _
  · refine (specTabValid_val (show tabB (ll ds) = false by rw [HZ.out.2.2.2.2.1]; exact hv2) HZ.out.2.2.2.1 HY.out.1 hsmall HZ.out.2.2.2.2.2).mono ?_
    rintro e w5 ⟨rfl, hk5⟩
    have HT5 := Lib.hid (HZ.out.1.keep hk5)
    have b0 : w5.cell? ⟨w.heap.size, 0, none⟩ = some (.slice (some ⟨g, off, none⟩) 8 c) := HT5.out.1.cell 0
    have HR := Lib.hid (tput_els (arg_yes HV.out.1 HV.out.2.1 HV.out.2.2.1) HV.out.2.2.2 hv2)
    clear hk5 hv2
    go_wp2_with fail
    refine (specCopyTab_any _ _ _ ls w5 HP.out.1 HT5.out.2.2.1.here (by omega) HP.out.2).mono ?_
    rintro e w6 ⟨A6, c6, es, rfl, hcl, hcs, ho, hk6⟩
    have hT6 := HT5.out.keep hk6
    have z0 : w6.cell? ⟨w.heap.size + 1, 0, none⟩ = some (.slice none 0 0) := hT6.2.1.cell 0
    have z1 : w6.frozen? ⟨w.heap.size + 1, 0, none⟩ = false := hT6.2.1.frozen 0
    have HF := Lib.hid (And.intro hcl (And.intro hcs (And.intro ((ho.base_le HT5.out.2.2.2.size).put hT6.2.1 0 (.slice A6 8 c6)) (grown_put hT6.2.2.2 (p := ⟨w.heap.size + 1, 0, none⟩) (by dsimp only; omega) (.slice A6 8 c6)))))
    clear hcl hcs ho hk6 hT6
    go_wp2
    rw [HR.out]
    exact bodyPost_ret (v := .tuple #[.agg #[.slice A6 8 c6], .bool false]) (by simp [results, Try.results125, go_sem, *]) rfl ⟨A6, 8, c6, es, rfl, HF.out.1, HF.out.2.1, HF.out.2.2.1, HF.out.2.2.2⟩
  · refine (specTabValid_val (show tabB (ll ds) = true by rw [HZ.out.2.2.2.2.1]; exact hv2) HZ.out.2.2.2.1 HY.out.1 hsmall HZ.out.2.2.2.2.2).mono ?_
    rintro e w5 ⟨rfl, hk5⟩
    have hT5 := HZ.out.1.keep hk5
    have b5 := (HZ.out.2.1.keep hk5).cell 0
    have z0 : w5.cell? ⟨w.heap.size + 1, 0, none⟩ = some (.slice none 0 0) := hT5.2.1.cell 0
    have z1 : w5.frozen? ⟨w.heap.size + 1, 0, none⟩ = false := hT5.2.1.frozen 0
    have HR := Lib.hid (tput_yes (arg_yes HV.out.1 HV.out.2.1 HV.out.2.2.1) HV.out.2.2.2 hv2)
    have HF := Lib.hid (And.intro HZ.out.2.2.2.1 (And.intro HZ.out.2.2.2.2.1 (And.intro (((HZ.out.2.2.1.keep hk5).base_le hb1).put hT5.2.1 0 (.slice (some ⟨g2, 0, none⟩) 8 c2)) (grown_put hT5.2.2.2 (p := ⟨w.heap.size + 1, 0, none⟩) (by dsimp only; omega) (.slice (some ⟨g2, 0, none⟩) 8 c2)))))
    clear hk5 hv2 hT5
    go_wp2
    rw [HR.out]
    exact bodyPost_ret (v := .tuple #[.agg #[.slice (some ⟨g2, 0, none⟩) 8 c2], .bool true]) (by simp [results, Try.results125, go_sem, *]) rfl ⟨some ⟨g2, 0, none⟩, 8, c2, ds, rfl, HF.out.1, HF.out.2.1, HF.out.2.2.1, HF.out.2.2.2⟩
theorem specTablePut_any (A : Option Addr) (n c : Nat) (ls : List Li) (f k x : Int) (w : World) (hl : ls.length = n) (hr : TRow w w.heap.size A ls) (hn : n ≤ 1048576) (hp : ∀ l, l ∈ ls → l.xs.length ≤ 1048576) :
    Calls Try.prog 125 #[.agg #[.slice A n c], .int .i64 f, .int .i64 k, .int .i64 x] w (TabMade2 (tputV (ll ls) f k x).1 (tputV (ll ls) f k x).2 w) := by
  cases hv : tabB (ll ls)
  · rw [tput_no (arg1 hv)]
    exact specPut_tab A n c ls f k x w hl hr hn hp hv
  cases hf : inB f 0 7
  · rw [tput_no (arg2 hf)]
    exact specPut_file A n c ls f k x w hl hr hn hp hv hf
  cases hk : inB k 0 5
  · rw [tput_no (arg3 hk)]
    exact specPut_place A n c ls f k x w hl hr hn hp hv hf hk
  cases hx : inB x (-1) 47
  · rw [tput_no2 hx]
    exact specPut_page A n c ls f k x w hl hr hn hp hv hf hk hx
  obtain ⟨fn, rfl, _⟩ := inB_nat (m := 7) hf
  obtain ⟨kn, rfl, _⟩ := inB_nat (m := 5) hk
  exact specPut_at A n c ls fn kn x w hl hr hv hf hk hx
end Go.Proofs.Yteniikfgellhfaa
namespace Go.Proofs.Yteniikfgellhfaa
open Go.ChangeShapes Go.WideShapes Go.ChangeAt Go.RowKit
set_option linter.unusedVariables false

theorem chg_step {a b : List (List Int)} {f k : Nat} {x y : Int} (hk : k < 6) (hx : cellO a f k = some x) (hy : cellO b f k = some y) : chgTo a b (6 * f + k + 1) = chgTo a b (6 * f + k) + (if x = y then 0 else 1) := by
  simp only [chgTo, show (6 * f + k) / 6 = f by omega, show (6 * f + k) % 6 = k by omega, hx, hy, Option.some.injEq]
theorem TRow.list {w : World} {B g off : Nat} {ls : List Li} (h : TRow w B (some ⟨g, off, none⟩) ls) (hv : tabB (ll ls) = true) {f : Nat} (hf : f < 8) :
    ∃ gx ox cl xs, ls[f]? = some ⟨some ⟨gx, ox, none⟩, cl, xs⟩ ∧ xs.length = 6 := by
  obtain ⟨_, g', off', gx, ox, cl, xs, x, e, h1, h2, _⟩ := h.open_ hv hf (show 0 < 6 by omega)
  exact ⟨gx, ox, cl, xs, h1, h2⟩
/-- Two boxed tables that came in. -/
def TIn3 (w : World) (A : Option Addr) (n c : Nat) (ls : List Li) (A' : Option Addr) (n' c' : Nat) (ls' : List Li) (wr : World) : Prop :=
  Blk wr w.heap.size 40 #[.slice A n c] ∧ Blk wr (w.heap.size + 1) 40 #[.slice A' n' c'] ∧ TRow wr w.heap.size A ls ∧ TRow wr w.heap.size A' ls' ∧ w.grownBy wr none
section
variable {w wr w' : World} {A A' : Option Addr} {n c n' c' : Nat} {ls ls' : List Li}
theorem TIn3.start (hr : TRow w w.heap.size A ls) (hr' : TRow w w.heap.size A' ls') (n c n' c' : Nat) : TIn3 w A n c ls A' n' c' ls' ((w.alloc (.cells #[.slice A n c] 40)).alloc (.cells #[.slice A' n' c'] 40)) := by
  refine ⟨(Blk.new w _ _).alloc _, ?_, (hr.alloc _).alloc _, (hr'.alloc _).alloc _, grown_alloc (grown_alloc (grown_refl _ _) _) _⟩
  have H := Blk.new (w.alloc (.cells #[.slice A n c] 40)) 40 #[.slice A' n' c']
  simpa only [size_alloc1] using H
theorem TIn3.keep (H : TIn3 w A n c ls A' n' c' ls' wr) (k : wr.grownBy w' none) : TIn3 w A n c ls A' n' c' ls' w' := ⟨H.1.keep k, H.2.1.keep k, H.2.2.1.kept k, H.2.2.2.1.kept k, grown_trans H.2.2.2.2 k⟩
theorem TIn3.drewN (H : TIn3 w A n c ls A' n' c' ls' wr) (q : Nat) : TIn3 w A n c ls A' n' c' ls' (wr.drewN q) := H.keep (grown_drewN (grown_refl wr none) q)
end
theorem chg_no1 {a b : List (List Int)} (h : tabB a = false) : chgV a b = -1 := by simp [chgV, h]
theorem chg_no2 {a b : List (List Int)} (h : tabB b = false) : chgV a b = -1 := by simp [chgV, h]
theorem chg_yes {a b : List (List Int)} (h : tabB a = true) (h' : tabB b = true) : chgV a b = (chgTo a b 48 : Nat) := by simp [chgV, h, h']
end Go.Proofs.Yteniikfgellhfaa
