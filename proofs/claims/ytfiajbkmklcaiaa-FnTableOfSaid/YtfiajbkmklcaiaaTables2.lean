/- What the model's l7New and l7Copy answer: tables in memory of their own.
   What the model's l7Copy answers: a table in memory of its own. -/
import Derived.Test.YtfiajbkmklcaiaaInts
import Derived.Test.YtfiajbkmklcaiaaHand
namespace Go.Proofs.Ytfiajbkmklcaiaa
open Go.ChangeShapes Go.WideShapes Go.ChangeAt Go.RowKit

theorem list_info : (Try.prog.info? 42).map (fun i => (i.zero, i.size, i.bytes)) = some (some (.slice none 0 0), 1, 24) := by kernel_rfl
/-- append(v, l): one list more, onto a row of the call's own. -/
theorem append_list (w : World) (base : Nat) (v : Value) (n : Nat) (A : Option Addr) (k c : Nat) (xs : List Value) (g : Nat) (hown : w.ownsRow base 42 1 v n xs) (hb : Blk w g 42 #[.slice A k c])
    (hn : n ≤ 1048576) (hbase : base ≤ w.heap.size) :
    ∃ v' w', (∀ ty, (Builtin.append_ #[23, 23] ty #[v, .slice (some ⟨g, 0, none⟩) 1 1]).run Try.prog w = .ok v' w') ∧ w'.ownsRow base 42 1 v' (n + 1) (xs ++ [.slice A k c]) ∧ w.grownBy w' v.ownBlock ∧
      (v'.ownBlock = v.ownBlock ∨ v'.ownBlock = some w.heap.size) := by
  obtain ⟨i, hi, hzz, hs, hby⟩ := info_parts list_info
  have hsrc : ∀ j u, [Value.slice A k c][j]? = some u → w.cell? ((⟨g, 0, none⟩ : Addr).add j) = some u := by
    intro j u hu
    match j, hu with
    | 0, hu => simp at hu; subst hu; exact hb.cell 0
    | j + 1, hu => simp at hu
  obtain ⟨v', w', hrun, h2, h3, _, h5⟩ := run_append_own_at (P := Try.prog) w base 23 0 42 i _ 1 24 Try.underlying23 hi hzz hs hby rfl (by omega) v n xs hown ⟨g, 0, none⟩ 1 1 [.slice A k c] rfl hsrc
    (by intro u hu; simp at hu; subst hu; rfl) (by simp only [maxLen]; omega) (by omega) hbase
  exact ⟨v', w', fun _ => hrun, h2, h3, h5⟩
/-- append(t, l) where l is the call's own as well: the table with the list. -/
theorem push_list {wr w1 : World} {base : Nat} {v : Value} {cs : List Li} {A : Option Addr} {c m : Nat} {xs : List Int} (h : TOwn wr base v cs) (hk : wr.grownBy w1 none) (hp : IOwn w1 wr.heap.size (.slice A m c) xs) (hl : xs.length = m)
    (hb : base ≤ wr.heap.size) (hn : cs.length ≤ 1000000) :
    ∃ v' w', (∀ ty, (Builtin.append_ #[23, 23] ty #[v, .slice (some ⟨w1.heap.size, 0, none⟩) 1 1]).run Try.prog (w1.alloc (.cells #[.slice A m c] 42)) = .ok v' w') ∧
      TOwn w' base v' (cs ++ [⟨A, c, xs⟩]) ∧ (w1.alloc (.cells #[.slice A m c] 42)).grownBy w' v.ownBlock := by
  subst hl
  have h2 := h.keep hk
  have ho : (w1.alloc (.cells #[.slice A xs.length c] 42)).ownsRow base 42 1 v cs.length (lv cs) := by
    have := VOwn.keep h2.1 (grown_alloc (grown_refl w1 none) (.cells #[.slice A xs.length c] 42))
    unfold VOwn at this
    rwa [lv_length] at this
  obtain ⟨v', w', hrun, h3, h4, _⟩ := append_list _ base v cs.length A xs.length c (lv cs) w1.heap.size ho (Blk.new w1 _ _) (by omega) (by have := hk.size; simp only [size_alloc1]; omega)
  have hk2 : wr.grownBy (w1.alloc (.cells #[.slice A xs.length c] 42)) none := grown_trans hk (grown_alloc (grown_refl _ none) _)
  refine ⟨v', w', hrun, h.push hk2 (VOwn.keep hp (grown_alloc (grown_refl _ none) _)) hb ?_ h4, h4⟩
  unfold VOwn
  rw [List.length_append, lv_length]
  exact h3
/-- append([]int{}, s...): the numbers of a row that is read, in memory of the call's own. -/
theorem clone_ints {U : World} {A : Option Addr} {B c m : Nat} {xs : List Int} (hr : IRow U B A xs) (hl : xs.length = m) (hm : m ≤ 1048576) :
    ∃ A' c' w', (∀ ty, (Builtin.append_ #[42, 42] ty #[.slice (some ⟨U.heap.size, 0, none⟩) 0 0, .slice A m c]).run Try.prog (U.alloc (.cells #[] 3)) = .ok (.slice A' m c') w') ∧ IOwn w' U.heap.size (.slice A' m c') xs ∧ U.grownBy w' none := by
  have h0 : (U.alloc (.cells #[] 3)).ownsRow U.heap.size 3 1 (.slice (some ⟨U.heap.size, 0, none⟩) 0 0) 0 [] := vown_lit U U.heap.size 3 [] (Nat.le_refl _) (by simp)
  rcases Nat.eq_zero_or_pos m with rfl | hpos
  · obtain rfl := List.eq_nil_of_length_eq_zero hl
    exact ⟨_, 0, _, appendInts_none _ U.heap.size _ 0 A c [] h0, h0, grown_alloc (grown_refl _ _) _⟩
  · obtain ⟨v', w', hrun, h2, h3, _⟩ := append_ints _ U.heap.size _ 0 A B m c xs [] h0 (VRow.alloc hr _) hl hpos (by omega) (by simp only [size_alloc1]; omega)
    have h4 : IOwn w' U.heap.size v' xs := by
      unfold IOwn VOwn
      rw [iv_length, hl]
      simpa using h2
    have h5 : U.grownBy w' none := grown_join (grown_alloc (grown_refl U none) (.cells #[] 3)) h3 (Nat.le_refl _)
    rcases VOwn.form h4 with ⟨_, e⟩ | ⟨g, cap, rfl, _⟩
    · have := congrArg List.length e
      rw [iv_length, List.length_nil] at this
      omega
    · rw [iv_length, hl] at h4 hrun
      exact ⟨_, cap, w', hrun, h4, h5⟩
/-- A table in memory of its own is returned: its lists are xss. -/
def TabMade (xss : List (List Int)) (n : Nat) (w : World) (e : Ending) (w' : World) : Prop :=
  ∃ (A : Option Addr) (c : Nat) (cs : List Li), e = .returned (.agg #[.slice A n c]) ∧ cs.length = n ∧ ll cs = xss ∧ TOwn w' w.heap.size (.slice A n c) cs ∧ w.grownBy w' none
theorem town_nil (w : World) (base : Nat) : TOwn w base (.slice none 0 0) [] := ⟨World.ownsRow_nil w base _ 1, fun l hl => by simp at hl, fun i j l l' a a' _ hi => by simp at hi⟩
/-- A variable of a table's type is no row of lists. -/
theorem TOwn.ne_blk {w : World} {base V : Nat} {v : Value} {ls : List Li} {cc : Array Value} (h : TOwn w base v ls) (hb : Blk w V 25 cc) : some V ≠ v.ownBlock := by
  rcases h.form with ⟨rfl, _⟩ | ⟨g, cap, rfl, _⟩
  · simp [Value.ownBlock]
  · intro e
    simp only [Value.ownBlock, Option.some.injEq] at e
    exact VOwn.ne_blk h.1 hb (by decide) e.symm
theorem take_at {xss : List (List Int)} {k : Nat} {xs : List Int} (h : xss[k]? = some xs) : xss.take (k + 1) = xss.take k ++ [xs] := by rw [List.take_add_one, h]; rfl
theorem TOwn.head {w : World} {base n : Nat} {v : Value} {ls : List Li} (h : TOwn w base v ls) (hl : ls.length = n) (hpos : 0 < n) : ∃ g cap, v = .slice (some ⟨g, 0, none⟩) n cap ∧ base ≤ g ∧ g < w.heap.size ∧ n ≤ cap ∧ cap ≤ maxLen := by
  subst hl
  rcases h.form with ⟨_, rfl⟩ | ⟨g, cap, e, hb⟩
  · simp at hpos
  · exact ⟨g, cap, e, hb⟩
theorem VOwn.head {w : World} {base n : Nat} {ty : TypeId} {v : Value} {cs : List Value} (h : VOwn w base ty v cs) (hl : cs.length = n) (hpos : 0 < n) : ∃ g cap, v = .slice (some ⟨g, 0, none⟩) n cap ∧ base ≤ g ∧ g < w.heap.size ∧ n ≤ cap ∧ cap ≤ maxLen := by
  subst hl
  rcases h.form with ⟨_, rfl⟩ | ⟨g, cap, e, hb⟩
  · simp at hpos
  · exact ⟨g, cap, e, hb⟩
/-- A variable of a table's type is written to. -/
theorem TOwn.put {w : World} {base V : Nat} {v : Value} {ls : List Li} {cc : Array Value} (h : TOwn w base v ls) (hb : Blk w V 25 cc) (j : Nat) (u : Value) : TOwn (w.setCell ⟨V, j, none⟩ u) base v ls := by
  refine h.grown (grown_set (grown_refl w (some V)) (.inl rfl) u) (.inr fun e => TOwn.ne_blk h hb e.symm) fun l a hl ha e => ?_
  injection e with e
  subst e
  obtain ⟨b, o, s⟩ := a
  rcases VOwn.form (h.2.1 l hl) with ⟨e, _⟩ | ⟨g, cap, e, _⟩
  · simp only [Li.row, Value.slice.injEq] at e
    rw [e.1] at ha
    cases ha
  · have e' := e
    simp only [Li.row, Value.slice.injEq, ha, Option.some.injEq, Addr.mk.injEq] at e'
    obtain ⟨⟨rfl, rfl, rfl⟩, _, rfl⟩ := e'
    have h2 := h.2.1 l hl
    unfold IOwn at h2
    rw [e] at h2
    exact VOwn.ne_blk h2 hb (by decide) rfl
theorem irow_one (w : World) (x : Int) : IRow (w.alloc (.cells #[.int .i64 x] 3)) (w.heap.size + 1) (some ⟨w.heap.size, 0, none⟩) [x] := fun _ => by
  refine ⟨w.heap.size, 0, rfl, Nat.lt_succ_self _, by simp, fun i u hu => ?_⟩
  match i, hu with
  | 0, hu => simp [iv] at hu; subst hu; exact (Blk.new w 3 #[.int .i64 x]).cell 0
  | i + 1, hu => simp [iv] at hu
/-- append(u, x): one number more. -/
theorem push_int {wr wq : World} {u : Value} {xs : List Int} (x : Int) (h : IOwn wq wr.heap.size u xs) (hb : wr.heap.size ≤ wq.heap.size) (hn : xs.length ≤ 1000000) :
    ∃ u' w', (∀ ty, (Builtin.append_ #[42, 42] ty #[u, .slice (some ⟨wq.heap.size, 0, none⟩) 1 1]).run Try.prog (wq.alloc (.cells #[.int .i64 x] 3)) = .ok u' w') ∧ IOwn w' wr.heap.size u' (xs ++ [x]) ∧ (wq.alloc (.cells #[.int .i64 x] 3)).grownBy w' u.ownBlock := by
  have h1 := VOwn.keep h (grown_alloc (grown_refl wq none) (.cells #[.int .i64 x] 3))
  unfold VOwn at h1
  rw [iv_length] at h1
  obtain ⟨u', w', hrun, h2, h3, _⟩ := append_ints _ wr.heap.size u xs.length _ _ 1 1 [x] (iv xs) h1 (irow_one wq x) rfl (by omega) (by omega) (by simp only [size_alloc1]; omega)
  refine ⟨u', w', hrun, ?_, h3⟩
  unfold IOwn VOwn
  rw [iv_length, List.length_append, iv_append]
  exact h2
/-- A list without pages. -/
def m6 : List Int := List.replicate 6 (-1)
/-- A table without pages. -/
def noTab : List (List Int) := List.replicate 8 m6
/-- The loop over the lists that are made, at list f. -/
def NewT (w : World) (f : Nat) (wr : World) : Prop :=
  f ≤ 8 ∧ ∃ (v : Value) (cs : List Li), cs.length = f ∧ ll cs = List.replicate f m6 ∧ TOwn wr w.heap.size v cs ∧ Blk wr (w.heap.size + 1) 25 #[v] ∧ Blk wr w.heap.size 25 #[.slice none 0 0] ∧ w.grownBy wr none
theorem specNew_any (w : World) : Calls Try.prog 65 #[] w (TabMade noTab 8 w) := by
  have b1 := (Blk.new w 25 #[.slice none 0 0]).alloc (.cells #[.slice none 0 0] 25)
  have b2 := Blk.new (w.alloc (.cells #[.slice none 0 0] 25)) 25 #[.slice none 0 0]
  simp only [size_alloc1] at b2
  have HS := Lib.hid (And.intro b2 b1)
  clear b1 b2
  go_enter Try.func65, Try.ntmps65
  go_wp2
  go_loopw [2] (fun i wr => ∃ f : Nat, i = .int .i64 f ∧ NewT w f wr) (fun i _ => 8 - (intOf i).toNat)
  case atStart => exact ⟨0, rfl, Nat.zero_le _, .slice none 0 0, [], rfl, rfl, town_nil _ _, HS.out.1, HS.out.2, grown_alloc (grown_alloc (grown_refl _ _) _) _⟩
  case round =>
    clear HS
    rename World => wo
    obtain ⟨f, rfl, hf, v, cs, hcl, hcs, ho, hv, hz, hg⟩ := hrel
    have r0 : wo.cell? ⟨w.heap.size + 1, 0, none⟩ = some v := hv.cell 0
    by_cases hlt : f < 8
    · have hf8 : (f : Int) < 8 := by omega
      have HX := Lib.hid (And.intro hcl (And.intro hcs (And.intro ho (And.intro hv (And.intro hz hg)))))
      have h0 : IOwn (wo.alloc (.cells #[] 3)) wo.heap.size (.slice (some ⟨wo.heap.size, 0, none⟩) 0 0) [] := vown_lit wo wo.heap.size 3 [] (Nat.le_refl _) (by simp)
      have HI := Lib.hid (And.intro h0 (grown_alloc (grown_refl wo none) (.cells #[] 3)))
      clear hcl hcs ho hv hz hg h0
      go_wp2
      go_loopw [3, 4] (fun u j wr => ∃ k : Nat, j = .int .i64 k ∧ k ≤ 6 ∧ IOwn wr wo.heap.size u (List.replicate k (-1)) ∧ wo.grownBy wr none) (fun _ j _ => 6 - (intOf j).toNat)
      case atStart => exact ⟨0, rfl, by omega, HI.out.1, HI.out.2⟩
      case round =>
        rename World => wq
        obtain ⟨k, rfl, hk, hi, hgq⟩ := hrel
        clear HI r0
        by_cases hk6 : k < 6
        · obtain ⟨u', w2, hrun, hi2, hg2⟩ := push_int (-1) hi hgq.size (by simp; omega)
          have hG := grown_joinR (grown_trans hgq (grown_alloc (grown_refl wq none) (.cells #[.int .i64 (-1)] 3))) hg2 (fun g' e => (VOwn.lt hi g' e).1)
          have HY := Lib.hid (And.intro hi2 hG)
          have HRUN := Lib.hid hrun
          have hk5 : (k : Int) ≤ 5 := by omega
          clear hi hgq hi2 hg2 hG hrun
          go_wp2_with (at_builtin; refine wpList_append_run _ rfl (.tmp 15) (.tmp 16) _ _ rfl _ _ rfl rfl HRUN.out ?_)
          go_roundw
          case rel => exact ⟨k + 1, by go_num, by omega, by rw [List.replicate_succ']; exact HY.out.1, HY.out.2⟩
          case measure => simp [intOf]; omega
        · obtain rfl : k = 6 := by omega
          rcases VOwn.form hi with ⟨_, e⟩ | ⟨gl, cl, rfl, _⟩
          · simp [iv] at e
          rw [iv_length, List.length_replicate] at hi ⊢
          obtain ⟨v2, w2, hrun, ho2, hg2⟩ := push_list (xs := m6) HX.out.2.2.1 hgq hi rfl HX.out.2.2.2.2.2.size (by have := HX.out.1; omega)
          have hG := grown_joinR (grown_trans HX.out.2.2.2.2.2 (grown_trans hgq (grown_alloc (grown_refl wq none) (.cells #[.slice (some ⟨gl, 0, none⟩) 6 cl] 42)))) hg2 (fun g' e => (VOwn.lt HX.out.2.2.1.1 g' e).1)
          have r0 : wq.cell? ⟨w.heap.size + 1, 0, none⟩ = some v := (HX.out.2.2.2.1.keep hgq).cell 0
          have kp : ∀ {V : Nat} {cc : Array Value}, Blk wo V 25 cc → Blk w2 V 25 cc := fun {V cc} h => ((h.keep hgq).alloc _).grown hg2 (TOwn.ne_blk HX.out.2.2.1 h)
          have hv2 := kp HX.out.2.2.2.1
          have hz2 := kp HX.out.2.2.2.2.1
          have s0 : w2.cell? ⟨w.heap.size + 1, 0, none⟩ = some v := hv2.cell 0
          have s1 : w2.frozen? ⟨w.heap.size + 1, 0, none⟩ = false := hv2.frozen 0
          obtain ⟨g2, c2, rfl, _⟩ := ho2.head (n := f + 1) (by simp [HX.out.1]) (by omega)
          have HY := Lib.hid (And.intro (ho2.put hv2 0 (.slice (some ⟨g2, 0, none⟩) (f + 1) c2)) (And.intro (hv2.put 0 (.slice (some ⟨g2, 0, none⟩) (f + 1) c2)) (And.intro (hz2.far (p := ⟨w.heap.size + 1, 0, none⟩) (by simp) (.slice (some ⟨g2, 0, none⟩) (f + 1) c2)) (grown_put hG (p := ⟨w.heap.size + 1, 0, none⟩) (by simp) (.slice (some ⟨g2, 0, none⟩) (f + 1) c2)))))
          have HRUN := Lib.hid hrun
          clear hi hgq ho2 hg2 hG hrun kp hv2 hz2
          go_wp2_with (at_builtin; refine wpList_append_run _ rfl (.tmp 19) (.tmp 21) _ _ rfl _ _ rfl rfl HRUN.out ?_)
          go_roundw
          case rel => exact ⟨f + 1, by go_num, by omega, _, _, by simp [HX.out.1], by rw [ll_append, HX.out.2.1, List.replicate_succ']; rfl, HY.out.1, HY.out.2.1, HY.out.2.2.1, HY.out.2.2.2⟩
          case measure => simp [intOf]; omega
    · obtain rfl : f = 8 := by omega
      have z0 : wo.cell? ⟨w.heap.size, 0, none⟩ = some (.slice none 0 0) := hz.cell 0
      have z1 : wo.frozen? ⟨w.heap.size, 0, none⟩ = false := hz.frozen 0
      obtain ⟨gt, ct, rfl, _⟩ := ho.head hcl (by omega)
      have HY := Lib.hid (And.intro hcl (And.intro hcs (And.intro (ho.put hz 0 (.slice (some ⟨gt, 0, none⟩) 8 ct)) (grown_put hg (p := ⟨w.heap.size, 0, none⟩) (Nat.le_refl _) (.slice (some ⟨gt, 0, none⟩) 8 ct)))))
      clear hcl hcs ho hv hz hg
      go_wp2
      exact bodyPost_ret (v := .agg #[.slice (some ⟨gt, 0, none⟩) 8 ct]) (by simp [results, Try.results65, go_sem, *]) rfl ⟨some ⟨gt, 0, none⟩, ct, cs, rfl, HY.out.1, HY.out.2.1, HY.out.2.2.1, HY.out.2.2.2⟩
end Go.Proofs.Ytfiajbkmklcaiaa
namespace Go.Proofs.Ytfiajbkmklcaiaa
open Go.ChangeShapes Go.WideShapes Go.ChangeAt Go.RowKit
set_option linter.unusedSimpArgs false

theorem TOwn.any {w : World} {base n : Nat} {v : Value} {ls : List Li} (h : TOwn w base v ls) (hl : ls.length = n) : ∃ A c, v = .slice A n c := by
  subst hl
  rcases h.form with ⟨rfl, rfl⟩ | ⟨g, cap, e, _⟩
  · exact ⟨none, 0, rfl⟩
  · exact ⟨_, _, e⟩
/-- The loop that copies, at list k. -/
def CopyTab (w : World) (A : Option Addr) (c : Nat) (ls : List Li) (k : Nat) (wr : World) : Prop :=
  k ≤ ls.length ∧ ∃ (v : Value) (cs : List Li), cs.length = k ∧ ll cs = (ll ls).take k ∧ TOwn wr w.heap.size v cs ∧ Blk wr (w.heap.size + 1 + 1) 25 #[v] ∧ Blk wr (w.heap.size + 1) 25 #[.slice none 0 0] ∧ Blk wr w.heap.size 25 #[.slice A ls.length c] ∧ w.grownBy wr none
set_option maxHeartbeats 4000000 in
theorem specCopyTab_any (A : Option Addr) (n c : Nat) (ls : List Li) (w : World) (hl : ls.length = n) (hr : TRow w w.heap.size A ls) (hn : n ≤ 1000000) (hp : ∀ l, l ∈ ls → l.xs.length ≤ 1048576) :
    Calls Try.prog 74 #[.agg #[.slice A n c]] w (TabMade (ll ls) n w) := by
  subst hl
  have HR := Lib.hid (And.intro hr hp)
  have b1 := ((Blk.new w 25 #[.slice A ls.length c]).alloc (.cells #[.slice none 0 0] 25)).alloc (.cells #[.slice none 0 0] 25)
  have b2 := (Blk.new (w.alloc (.cells #[.slice A ls.length c] 25)) 25 #[.slice none 0 0]).alloc (.cells #[.slice none 0 0] 25)
  have b3 := Blk.new ((w.alloc (.cells #[.slice A ls.length c] 25)).alloc (.cells #[.slice none 0 0] 25)) 25 #[.slice none 0 0]
  simp only [size_alloc1] at b2 b3
  have HS := Lib.hid (And.intro b3 (And.intro b2 b1))
  clear hr hp b1 b2 b3
  go_enter Try.func74, Try.ntmps74
  go_wp2
  go_loopw [4] (fun i wr => ∃ k : Nat, i = .int .i64 k ∧ CopyTab w A c ls k wr) (fun i _ => ls.length - (intOf i).toNat)
  case atStart => exact ⟨0, rfl, Nat.zero_le _, .slice none 0 0, [], rfl, rfl, town_nil _ _, HS.out.1, HS.out.2.1, HS.out.2.2, grown_alloc (grown_alloc (grown_alloc (grown_refl _ _) _) _) _⟩
  case round =>
    clear HS
    obtain ⟨k, rfl, hk, v, cs, hcl, hcs, ho, hv, hz, hb, hg⟩ := hrel
    have b0 : wr.cell? ⟨w.heap.size, 0, none⟩ = some (.slice A ls.length c) := hb.cell 0
    have r0 : wr.cell? ⟨w.heap.size + 1 + 1, 0, none⟩ = some v := hv.cell 0
    by_cases hlt : k < ls.length
    · obtain ⟨g, off, Al, cl, xs, rfl, hgB, hgz, hfl, c0, hrow⟩ := (HR.out.1.kept hg).at_ hlt
      have hpl := HR.out.2 _ (List.mem_of_getElem? hfl)
      obtain ⟨A1, c1, w1, hr1, ho1, hg1⟩ := clone_ints (U := wr.drew) (c := cl) (VRow.drew hrow) rfl hpl
      have hg1' : wr.grownBy w1 none := grown_trans (grown_drew (grown_refl wr none)) hg1
      have hga : wr.grownBy (w1.alloc (.cells #[.slice A1 xs.length c1] 42)) none := grown_alloc hg1' _
      obtain ⟨v2, w2, hr2, ho2, hg2⟩ := push_list ho hg1' ho1 rfl hg.size (by omega)
      obtain ⟨g2, c2, rfl, _⟩ := ho2.head (n := k + 1) (by simp [hcl]) (by omega)
      have hG := grown_joinR (grown_trans hg hga) hg2 (fun g' e => (VOwn.lt ho.1 g' e).1)
      have kp : ∀ {V : Nat} {cc : Array Value}, Blk wr V 25 cc → Blk w2 V 25 cc := fun {V cc} h => ((h.keep hg1').alloc _).grown hg2 (TOwn.ne_blk ho h)
      have hv2 := kp hv
      have hz2 := kp hz
      have hb2 := kp hb
      have old : ∀ {w' : World}, wr.grownBy w' none → w'.cell? ⟨g, off + k, none⟩ = some (.slice Al xs.length cl) := fun {w'} h => (World.cell?_of_block (h.block g hgz (by simp))).trans c0
      have c5 : w2.cell? ⟨g, off + k, none⟩ = some (.slice Al xs.length cl) := (World.cell?_of_block (hg2.block g (Nat.lt_of_lt_of_le hgz hga.size) (fun e => by have := (VOwn.lt ho.1 g e.symm).1; omega))).trans (old hga)
      have gd : wr.grownBy wr.drew none := grown_drew (grown_refl wr none)
      have ne1 : (⟨w.heap.size + 1 + 1, 0, none⟩ : Addr) ≠ ⟨w.heap.size, 0, none⟩ := by simp
      have S1 := And.intro ((hb.keep (grown_alloc gd (.cells #[] 3))).cell 0) (old (grown_alloc gd (.cells #[] 3)))
      have S2 := And.intro ((hb.keep hg1').cell 0) (old hg1')
      have S3 := And.intro ((hb.keep hga).cell 0) (old hga)
      have S4 := And.intro (hb2.cell 0) c5
      have S5 := And.intro ((hb2.far (p := ⟨w.heap.size + 1 + 1, 0, none⟩) (by dsimp only; omega) (.slice (some ⟨g2, 0, none⟩) (k + 1) c2)).cell 0) (Eq.trans (World.cell?_setCell_other w2 ⟨w.heap.size + 1 + 1, 0, none⟩ ⟨g, off + k, none⟩ (.slice (some ⟨g2, 0, none⟩) (k + 1) c2) (fun e => by injection e with e; omega)) c5)
      have HSS := Lib.hid (And.intro S1 (And.intro S2 (And.intro S3 (And.intro S4 S5))))
      have r1 : ((wr.alloc (.cells #[] 3)).drew).cell? ⟨w.heap.size + 1 + 1, 0, none⟩ = some v := (hv.keep (grown_alloc gd (.cells #[] 3))).cell 0
      have r2 : w1.cell? ⟨w.heap.size + 1 + 1, 0, none⟩ = some v := (hv.keep hg1').cell 0
      have r3 : (w1.alloc (.cells #[.slice A1 xs.length c1] 42)).cell? ⟨w.heap.size + 1 + 1, 0, none⟩ = some v := (hv.keep hga).cell 0
      have s0 : w2.cell? ⟨w.heap.size + 1 + 1, 0, none⟩ = some v := hv2.cell 0
      have s1 : w2.frozen? ⟨w.heap.size + 1 + 1, 0, none⟩ = false := hv2.frozen 0
      have HR1 := Lib.hid hr1
      have HR2 := Lib.hid hr2
      have hx1 := take_at (ll_at hfl)
      have HX := Lib.hid (And.intro hcl (show ll (cs ++ [⟨A1, c1, xs⟩]) = (ll ls).take (k + 1) by rw [hx1, ll_append, hcs]; rfl))
      have HZ := Lib.hid (And.intro (ho2.put hv2 0 (.slice (some ⟨g2, 0, none⟩) (k + 1) c2)) (And.intro (hv2.put 0 (.slice (some ⟨g2, 0, none⟩) (k + 1) c2)) (And.intro (hz2.far (p := ⟨w.heap.size + 1 + 1, 0, none⟩) (by dsimp only; omega) (.slice (some ⟨g2, 0, none⟩) (k + 1) c2)) (And.intro (hb2.far (p := ⟨w.heap.size + 1 + 1, 0, none⟩) (by dsimp only; omega) (.slice (some ⟨g2, 0, none⟩) (k + 1) c2)) (grown_put hG (p := ⟨w.heap.size + 1 + 1, 0, none⟩) (by dsimp only; omega) (.slice (some ⟨g2, 0, none⟩) (k + 1) c2))))))
      have k0 : decide ((0 : Int) ≤ k) = true := decide_eq_true (by omega)
      have k1 : (k : Int) < ls.length := by omega
      clear hcl hcs ho hv hz hb hg hfl hrow hpl hr1 ho1 hg1 hg1' hga hr2 ho2 hg2 hG kp hv2 hz2 hb2 old c5 gd S1 S2 S3 S4 S5 hx1 hgB hgz
      go_wp2
      refine wp_region_held_drew (S := (fun w' => w'.cell? ⟨w.heap.size, 0, none⟩ = some (.slice (some ⟨g, off, none⟩) ls.length c) ∧ w'.cell? ⟨g, off + k, none⟩ = some (.slice Al xs.length cl))) (by kernel_rfl) ?_ (fun hHeld => ?_)
      · exact ⟨b0, c0⟩
      refine held_yes (i := 0) (d := some 13) (v := ?_) rfl rfl (by kernel_rfl) (by kernel_rfl) (by kernel_rfl) (fun _ _ _ h => h) (by rfl) ?_ (by assumption) ?_
      rotate_left
      · (intro w hSw; (try dsimp only at hSw); go_simp; (first | done | with_reducible rfl))
      try simp only [Act.put, List.setIfInBounds_toArray, List.set_cons_zero, List.set_cons_succ]
      refine held_yes (i := 3) (d := some 16) (v := ?_) rfl rfl (by kernel_rfl) (by kernel_rfl) (by kernel_rfl) (fun _ _ _ h => h) (by rfl) ?_ (by assumption) ?_
      rotate_left
      · (intro w hSw; (try dsimp only at hSw); go_simp; (first | done | with_reducible rfl))
      try simp only [Act.put, List.setIfInBounds_toArray, List.set_cons_zero, List.set_cons_succ]
      refine held_yes (i := 4) (d := some 17) (v := ?_) rfl rfl (by kernel_rfl) (by kernel_rfl) (by kernel_rfl) (fun _ _ _ h => h) (by rfl) ?_ (by assumption) ?_
      rotate_left
      · (intro w hSw; (try dsimp only at hSw); go_simp; (first | done | with_reducible rfl))
      try simp only [Act.put, List.setIfInBounds_toArray, List.set_cons_zero, List.set_cons_succ]
      refine held_yes (i := 5) (d := some 18) (v := ?_) rfl rfl (by kernel_rfl) (by kernel_rfl) (by kernel_rfl) (fun _ _ _ h => h) (by rfl) ?_ (by assumption) ?_
      rotate_left
      · (intro w hSw; (try dsimp only at hSw); go_simp; (first | done | with_reducible rfl))
      try simp only [Act.put, List.setIfInBounds_toArray, List.set_cons_zero, List.set_cons_succ]
      refine held_yes (i := 6) (d := some 19) (v := ?_) rfl rfl (by kernel_rfl) (by kernel_rfl) (by kernel_rfl) (fun _ _ _ h => h) (by rfl) ?_ (by assumption) ?_
      rotate_left
      · (intro w hSw; (try dsimp only at hSw); go_simp; (first | done | with_reducible rfl))
      try simp only [Act.put, List.setIfInBounds_toArray, List.set_cons_zero, List.set_cons_succ]
      refine held_yes (i := 7) (d := some 20) (v := ?_) rfl rfl (by kernel_rfl) (by kernel_rfl) (by kernel_rfl) (fun _ _ _ h => h) (by rfl) ?_ (by assumption) ?_
      rotate_left
      · (intro w hSw; (try dsimp only at hSw); go_simp; (first | done | with_reducible rfl))
      try simp only [Act.put, List.setIfInBounds_toArray, List.set_cons_zero, List.set_cons_succ]
      refine wpAnyH_ready (rs := [1, 2]) (by kernel_rfl) (by simp) ?_
      refine AllReadyH.cons rfl (fun K hK => ?_) (AllReadyH.cons rfl (fun K hK => ?_) AllReadyH.nil)
      · go_simp
        refine hK.out _ _ ?_ (fun hHeld => ?_)
        · with_reducible assumption
        clear hK K
        try simp only [Act.put, List.setIfInBounds_toArray, List.set_cons_zero, List.set_cons_succ]
        refine wpAnyH_ready (rs := [2]) (by kernel_rfl) (by simp) ?_
        refine AllReadyH.cons rfl (fun K hK => ?_) AllReadyH.nil
        go_simp
        refine hK.out _ _ ?_ (fun hHeld => ?_)
        · exact HSS.out.1
        clear hK K
        try simp only [Act.put, List.setIfInBounds_toArray, List.set_cons_zero, List.set_cons_succ]
        refine wpAnyH_ready (rs := [8]) (by kernel_rfl) (by simp) ?_
        refine AllReadyH.cons rfl (fun K hK => ?_) AllReadyH.nil
        refine step_append_run _ rfl (.tmp 15) (.tmp 20) 42 42 rfl _ _ rfl rfl HR1.out ?_
        refine hK.out _ _ ?_ (fun hHeld => ?_)
        · exact HSS.out.2.1
        clear hK K
        try simp only [Act.put, List.setIfInBounds_toArray, List.set_cons_zero, List.set_cons_succ]
        refine wpAnyH_ready (rs := [9]) (by kernel_rfl) (by simp) ?_
        refine AllReadyH.cons rfl (fun K hK => ?_) AllReadyH.nil
        go_simp
        refine hK.out _ _ ?_ (fun hHeld => ?_)
        · exact HSS.out.2.2.1
        clear hK K
        try simp only [Act.put, List.setIfInBounds_toArray, List.set_cons_zero, List.set_cons_succ]
        refine wpAnyH_ready (rs := [10]) (by kernel_rfl) (by simp) ?_
        refine AllReadyH.cons rfl (fun K hK => ?_) AllReadyH.nil
        refine step_append_run _ rfl (.tmp 14) (.tmp 22) 23 23 rfl _ _ rfl rfl HR2.out ?_
        refine hK.out _ _ ?_ (fun hHeld => ?_)
        · exact HSS.out.2.2.2.1
        clear hK K
        try simp only [Act.put, List.setIfInBounds_toArray, List.set_cons_zero, List.set_cons_succ]
        refine held_yes (i := 11) (d := some 24) (v := ?_) rfl rfl (by kernel_rfl) (by kernel_rfl) (by kernel_rfl) (fun _ _ _ h => h) (by rfl) ?_ (by assumption) ?_
        rotate_left
        · (intro w hSw; (try dsimp only at hSw); go_simp; (first | done | with_reducible rfl))
        try simp only [Act.put, List.setIfInBounds_toArray, List.set_cons_zero, List.set_cons_succ]
        refine wpAnyH_ready (rs := [12]) (by kernel_rfl) (by simp) ?_
        refine AllReadyH.cons rfl (fun K hK => ?_) AllReadyH.nil
        go_simp
        refine hK.out _ _ ?_ (fun hHeld => ?_)
        · exact HSS.out.2.2.2.2
        clear hK K
        try simp only [Act.put, List.setIfInBounds_toArray, List.set_cons_zero, List.set_cons_succ]
        refine wpAnyH_done (by kernel_rfl) ?_ _
        go_wp2
        go_roundw
        case rel => exact ⟨k + 1, by go_num, by omega, _, _, by simp [HX.out.1], HX.out.2, HZ.out⟩
        case measure => simp [intOf]; omega
      · go_simp
        refine hK.out _ _ ?_ (fun hHeld => ?_)
        · exact HSS.out.1
        clear hK K
        try simp only [Act.put, List.setIfInBounds_toArray, List.set_cons_zero, List.set_cons_succ]
        refine wpAnyH_ready (rs := [1, 8]) (by kernel_rfl) (by simp) ?_
        refine AllReadyH.cons rfl (fun K hK => ?_) (AllReadyH.cons rfl (fun K hK => ?_) AllReadyH.nil)
        · go_simp
          refine hK.out _ _ ?_ (fun hHeld => ?_)
          · with_reducible assumption
          clear hK K
          try simp only [Act.put, List.setIfInBounds_toArray, List.set_cons_zero, List.set_cons_succ]
          refine wpAnyH_ready (rs := [8]) (by kernel_rfl) (by simp) ?_
          refine AllReadyH.cons rfl (fun K hK => ?_) AllReadyH.nil
          refine step_append_run _ rfl (.tmp 15) (.tmp 20) 42 42 rfl _ _ rfl rfl HR1.out ?_
          refine hK.out _ _ ?_ (fun hHeld => ?_)
          · exact HSS.out.2.1
          clear hK K
          try simp only [Act.put, List.setIfInBounds_toArray, List.set_cons_zero, List.set_cons_succ]
          refine wpAnyH_ready (rs := [9]) (by kernel_rfl) (by simp) ?_
          refine AllReadyH.cons rfl (fun K hK => ?_) AllReadyH.nil
          go_simp
          refine hK.out _ _ ?_ (fun hHeld => ?_)
          · exact HSS.out.2.2.1
          clear hK K
          try simp only [Act.put, List.setIfInBounds_toArray, List.set_cons_zero, List.set_cons_succ]
          refine wpAnyH_ready (rs := [10]) (by kernel_rfl) (by simp) ?_
          refine AllReadyH.cons rfl (fun K hK => ?_) AllReadyH.nil
          refine step_append_run _ rfl (.tmp 14) (.tmp 22) 23 23 rfl _ _ rfl rfl HR2.out ?_
          refine hK.out _ _ ?_ (fun hHeld => ?_)
          · exact HSS.out.2.2.2.1
          clear hK K
          try simp only [Act.put, List.setIfInBounds_toArray, List.set_cons_zero, List.set_cons_succ]
          refine held_yes (i := 11) (d := some 24) (v := ?_) rfl rfl (by kernel_rfl) (by kernel_rfl) (by kernel_rfl) (fun _ _ _ h => h) (by rfl) ?_ (by assumption) ?_
          rotate_left
          · (intro w hSw; (try dsimp only at hSw); go_simp; (first | done | with_reducible rfl))
          try simp only [Act.put, List.setIfInBounds_toArray, List.set_cons_zero, List.set_cons_succ]
          refine wpAnyH_ready (rs := [12]) (by kernel_rfl) (by simp) ?_
          refine AllReadyH.cons rfl (fun K hK => ?_) AllReadyH.nil
          go_simp
          refine hK.out _ _ ?_ (fun hHeld => ?_)
          · exact HSS.out.2.2.2.2
          clear hK K
          try simp only [Act.put, List.setIfInBounds_toArray, List.set_cons_zero, List.set_cons_succ]
          refine wpAnyH_done (by kernel_rfl) ?_ _
          go_wp2
          go_roundw
          case rel => exact ⟨k + 1, by go_num, by omega, _, _, by simp [HX.out.1], HX.out.2, HZ.out⟩
          case measure => simp [intOf]; omega
        · refine step_append_run _ rfl (.tmp 15) (.tmp 20) 42 42 rfl _ _ rfl rfl HR1.out ?_
          refine hK.out _ _ ?_ (fun hHeld => ?_)
          · exact HSS.out.2.1
          clear hK K
          try simp only [Act.put, List.setIfInBounds_toArray, List.set_cons_zero, List.set_cons_succ]
          refine wpAnyH_ready (rs := [1, 9]) (by kernel_rfl) (by simp) ?_
          refine AllReadyH.cons rfl (fun K hK => ?_) (AllReadyH.cons rfl (fun K hK => ?_) AllReadyH.nil)
          · go_simp
            refine hK.out _ _ ?_ (fun hHeld => ?_)
            · with_reducible assumption
            clear hK K
            try simp only [Act.put, List.setIfInBounds_toArray, List.set_cons_zero, List.set_cons_succ]
            refine wpAnyH_ready (rs := [9]) (by kernel_rfl) (by simp) ?_
            refine AllReadyH.cons rfl (fun K hK => ?_) AllReadyH.nil
            go_simp
            refine hK.out _ _ ?_ (fun hHeld => ?_)
            · exact HSS.out.2.2.1
            clear hK K
            try simp only [Act.put, List.setIfInBounds_toArray, List.set_cons_zero, List.set_cons_succ]
            refine wpAnyH_ready (rs := [10]) (by kernel_rfl) (by simp) ?_
            refine AllReadyH.cons rfl (fun K hK => ?_) AllReadyH.nil
            refine step_append_run _ rfl (.tmp 14) (.tmp 22) 23 23 rfl _ _ rfl rfl HR2.out ?_
            refine hK.out _ _ ?_ (fun hHeld => ?_)
            · exact HSS.out.2.2.2.1
            clear hK K
            try simp only [Act.put, List.setIfInBounds_toArray, List.set_cons_zero, List.set_cons_succ]
            refine held_yes (i := 11) (d := some 24) (v := ?_) rfl rfl (by kernel_rfl) (by kernel_rfl) (by kernel_rfl) (fun _ _ _ h => h) (by rfl) ?_ (by assumption) ?_
            rotate_left
            · (intro w hSw; (try dsimp only at hSw); go_simp; (first | done | with_reducible rfl))
            try simp only [Act.put, List.setIfInBounds_toArray, List.set_cons_zero, List.set_cons_succ]
            refine wpAnyH_ready (rs := [12]) (by kernel_rfl) (by simp) ?_
            refine AllReadyH.cons rfl (fun K hK => ?_) AllReadyH.nil
            go_simp
            refine hK.out _ _ ?_ (fun hHeld => ?_)
            · exact HSS.out.2.2.2.2
            clear hK K
            try simp only [Act.put, List.setIfInBounds_toArray, List.set_cons_zero, List.set_cons_succ]
            refine wpAnyH_done (by kernel_rfl) ?_ _
            go_wp2
            go_roundw
            case rel => exact ⟨k + 1, by go_num, by omega, _, _, by simp [HX.out.1], HX.out.2, HZ.out⟩
            case measure => simp [intOf]; omega
          · go_simp
            refine hK.out _ _ ?_ (fun hHeld => ?_)
            · exact HSS.out.2.2.1
            clear hK K
            try simp only [Act.put, List.setIfInBounds_toArray, List.set_cons_zero, List.set_cons_succ]
            refine wpAnyH_ready (rs := [1]) (by kernel_rfl) (by simp) ?_
            refine AllReadyH.cons rfl (fun K hK => ?_) AllReadyH.nil
            go_simp
            refine hK.out _ _ ?_ (fun hHeld => ?_)
            · with_reducible assumption
            clear hK K
            try simp only [Act.put, List.setIfInBounds_toArray, List.set_cons_zero, List.set_cons_succ]
            refine wpAnyH_ready (rs := [10]) (by kernel_rfl) (by simp) ?_
            refine AllReadyH.cons rfl (fun K hK => ?_) AllReadyH.nil
            refine step_append_run _ rfl (.tmp 14) (.tmp 22) 23 23 rfl _ _ rfl rfl HR2.out ?_
            refine hK.out _ _ ?_ (fun hHeld => ?_)
            · exact HSS.out.2.2.2.1
            clear hK K
            try simp only [Act.put, List.setIfInBounds_toArray, List.set_cons_zero, List.set_cons_succ]
            refine held_yes (i := 11) (d := some 24) (v := ?_) rfl rfl (by kernel_rfl) (by kernel_rfl) (by kernel_rfl) (fun _ _ _ h => h) (by rfl) ?_ (by assumption) ?_
            rotate_left
            · (intro w hSw; (try dsimp only at hSw); go_simp; (first | done | with_reducible rfl))
            try simp only [Act.put, List.setIfInBounds_toArray, List.set_cons_zero, List.set_cons_succ]
            refine wpAnyH_ready (rs := [12]) (by kernel_rfl) (by simp) ?_
            refine AllReadyH.cons rfl (fun K hK => ?_) AllReadyH.nil
            go_simp
            refine hK.out _ _ ?_ (fun hHeld => ?_)
            · exact HSS.out.2.2.2.2
            clear hK K
            try simp only [Act.put, List.setIfInBounds_toArray, List.set_cons_zero, List.set_cons_succ]
            refine wpAnyH_done (by kernel_rfl) ?_ _
            go_wp2
            go_roundw
            case rel => exact ⟨k + 1, by go_num, by omega, _, _, by simp [HX.out.1], HX.out.2, HZ.out⟩
            case measure => simp [intOf]; omega
    · obtain rfl : k = ls.length := by omega
      have z0 : wr.cell? ⟨w.heap.size + 1, 0, none⟩ = some (.slice none 0 0) := hz.cell 0
      have z1 : wr.frozen? ⟨w.heap.size + 1, 0, none⟩ = false := hz.frozen 0
      obtain ⟨At, ct, rfl⟩ := ho.any hcl
      have HY := Lib.hid (And.intro hcl (And.intro hcs (And.intro (ho.put hz 0 (.slice At ls.length ct)) (grown_put hg (p := ⟨w.heap.size + 1, 0, none⟩) (by dsimp only; omega) (.slice At ls.length ct)))))
      clear hcl hcs ho hv hz hg
      go_wp2
      exact bodyPost_ret (v := .agg #[.slice At ls.length ct]) (by simp [results, Try.results74, go_sem, *]) rfl ⟨At, ct, cs, rfl, HY.out.1, HY.out.2.1.trans (List.take_of_length_le (by rw [ll_length]; omega)), HY.out.2.2.1, HY.out.2.2.2⟩
end Go.Proofs.Ytfiajbkmklcaiaa
