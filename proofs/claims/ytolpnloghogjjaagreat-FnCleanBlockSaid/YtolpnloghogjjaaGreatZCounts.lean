/- Plain facts on counts: the pages that a table names, in order; how many of them are written pages of a block.
   What UsedPages answers: the model's and the program's.
   What BlockCounts answers: the program's and the model's.
   What the model's BlockCounts answers.
   What OldPages answers: the program's and the model's; contracts by letters. -/
import Derived.Test.YtolpnloghogjjaaGreatZFiles
import Derived.Test.YtolpnloghogjjaaGreatZTables7
import Derived.Test.YtolpnloghogjjaaGreatZFiles5
import Derived.Test.YtolpnloghogjjaaGreatZLawFiles
namespace Go.Proofs.YtolpnloghogjjaaGreat

/-- Which of the numbers before k are in the list, in order. -/
def usedTo (L : List Int) : Nat → List Int
  | 0 => []
  | k + 1 => if L.contains (k : Int) then usedTo L k ++ [(k : Int)] else usedTo L k
theorem used_yes {L : List Int} {k : Nat} (h : L.contains (k : Int) = true) : usedTo L (k + 1) = usedTo L k ++ [(k : Int)] := by simp only [usedTo, h, if_true]
theorem used_no {L : List Int} {k : Nat} (h : L.contains (k : Int) = false) : usedTo L (k + 1) = usedTo L k := by simp only [usedTo, h]; rfl
theorem usedTo_le (L : List Int) (k : Nat) : (usedTo L k).length ≤ k := by
  induction k with
  | zero => exact Nat.le_refl _
  | succ k ih =>
    cases h : L.contains (k : Int)
    · rw [used_no h]; omega
    · rw [used_yes h, List.length_append]; simp only [List.length_cons, List.length_nil]; omega
theorem usedTo_mem {L : List Int} {k : Nat} {x : Int} : x ∈ usedTo L k ↔ 0 ≤ x ∧ x < k ∧ x ∈ L := by
  induction k with
  | zero => simp [usedTo]; omega
  | succ k ih =>
    cases h : L.contains (k : Int)
    · rw [used_no h, ih]
      constructor
      · rintro ⟨h1, h2, h3⟩; exact ⟨h1, by omega, h3⟩
      · rintro ⟨h1, h2, h3⟩
        refine ⟨h1, ?_, h3⟩
        rcases Int.lt_or_le x k with h4 | h4
        · exact h4
        · obtain rfl : x = (k : Int) := by omega
          have : L.contains (k : Int) = true := by simpa using h3
          rw [h] at this; cases this
    · rw [used_yes h, List.mem_append, ih, List.mem_singleton]
      constructor
      · rintro (⟨h1, h2, h3⟩ | rfl)
        · exact ⟨h1, by omega, h3⟩
        · exact ⟨by omega, by omega, by simpa using h⟩
      · rintro ⟨h1, h2, h3⟩
        rcases Int.lt_or_le x k with h4 | h4
        · exact .inl ⟨h1, h4, h3⟩
        · exact .inr (by omega)
theorem flat_len : ∀ (xss : List (List Int)), (∀ xs, xs ∈ xss → xs.length = 6) → xss.flatten.length = 6 * xss.length
  | [], _ => rfl
  | ys :: xss, h => by
    have h1 := flat_len xss fun xs hx => h xs (by simp [hx])
    have h2 := h ys (by simp)
    rw [List.flatten_cons, List.length_append, h1, h2, List.length_cons]
    omega
theorem tab_flat {xss : List (List Int)} (h : tabB xss = true) : xss.flatten.length = 48 := by
  have hT := (tabB_iff _).1 h
  rw [flat_len _ hT.six, hT.len]
theorem tab_at {xss : List (List Int)} (h : tabB xss = true) {f k : Nat} {x : Int} (hk : k < 6) (hc : cellO xss f k = some x) : xss.flatten[6 * f + k]? = some x := by
  rw [flat_get xss ((tabB_iff _).1 h).six f k hk]
  exact hc
/-- What UsedPages answers. -/
def usedV (xss : List (List Int)) : List Int := if tabB xss then usedTo xss.flatten 48 else []
theorem used_of_no {xss : List (List Int)} (h : tabB xss = false) : usedV xss = [] := by simp [usedV, h]
theorem used_of {xss : List (List Int)} (h : tabB xss = true) : usedV xss = usedTo xss.flatten 48 := by simp [usedV, h]
theorem used_small (xss : List (List Int)) : (usedV xss).length ≤ 48 := by
  cases h : tabB xss
  · rw [used_of_no h]; simp
  · rw [used_of h]; exact usedTo_le _ _
theorem used_in (xss : List (List Int)) {i : Nat} {x : Int} (h : (usedV xss)[i]? = some x) : 0 ≤ x ∧ x < 48 := by
  cases hv : tabB xss
  · rw [used_of_no hv] at h; simp at h
  · rw [used_of hv] at h
    have := usedTo_mem.1 (List.mem_of_getElem? h)
    omega

/-- A page is written, of block n. -/
def inBlk (bs : List Bk) (n : Nat) (x : Int) : Bool := (readV bs x).f && decide (x / 4 = (n : Int))
/-- How many of the numbers are of written pages of each of the first m blocks. -/
def cntL (bs : List Bk) (us : List Int) (m : Nat) : List Int := (List.range m).map fun n => ((us.countP (inBlk bs n) : Nat) : Int)
theorem cntL_length (bs : List Bk) (us : List Int) (m : Nat) : (cntL bs us m).length = m := by simp [cntL]
theorem cntL_at (bs : List Bk) (us : List Int) {m n : Nat} (h : n < m) : (cntL bs us m)[n]? = some ((us.countP (inBlk bs n) : Nat) : Int) := by simp [cntL, h]
theorem cntL_none (bs : List Bk) (m : Nat) : cntL bs [] m = List.replicate m 0 := by
  refine List.ext_getElem? fun i => ?_
  simp only [cntL, List.countP_nil, List.getElem?_map, List.getElem?_replicate]
  rcases Nat.lt_or_ge i m with h | h
  · simp [h]
  · simp [Nat.not_lt.2 h]
theorem blk_take {bs : List Bk} {us : List Int} {j n : Nat} {x : Int} (h : us[j]? = some x) : (us.take (j + 1)).countP (inBlk bs n) = (us.take j).countP (inBlk bs n) + if inBlk bs n x then 1 else 0 := by
  rw [List.take_add_one, h, List.countP_append]
  simp [List.countP_cons]
theorem cnt_old {bs : List Bk} {us : List Int} {j : Nat} {x : Int} (m : Nat) (h : us[j]? = some x) (hf : (readV bs x).f = false) : cntL bs (us.take (j + 1)) m = cntL bs (us.take j) m := by
  unfold cntL
  refine List.map_congr_left fun n _ => ?_
  rw [blk_take h]
  simp [inBlk, hf]
theorem cnt_new {bs : List Bk} {us : List Int} {j q : Nat} {x : Int} (m : Nat) (h : us[j]? = some x) (hf : (readV bs x).f = true) (hq : x / 4 = (q : Int)) :
    cntL bs (us.take (j + 1)) m = (cntL bs (us.take j) m).set q ((((us.take j).countP (inBlk bs q) : Nat) : Int) + 1) := by
  refine List.ext_getElem? fun i => ?_
  rw [List.getElem?_set]
  rcases Nat.lt_or_ge i m with hi | hi
  · rw [cntL_at _ _ hi, cntL_at _ _ hi, blk_take h]
    by_cases e : q = i
    · subst e
      have : inBlk bs q x = true := by simp [inBlk, hf, hq]
      simp [this, cntL_length, hi]
    · have : inBlk bs i x = false := by
        simp only [inBlk, hf, Bool.true_and, decide_eq_false_iff_not]
        omega
      rw [if_neg e, this]
      simp
  · have e1 : ∀ us, (cntL bs us m)[i]? = none := fun us => List.getElem?_eq_none (by rw [cntL_length]; exact hi)
    rw [e1, e1]
    split
    · rw [if_neg (by rw [cntL_length]; omega)]
    · rfl
/-- What BlockCounts answers. -/
def countsV (bs : List Bk) (xss : List (List Int)) : List Int := if devB bs && tabB xss then cntL bs (usedTo xss.flatten 48) bs.length else []
theorem counts_of {bs : List Bk} {xss : List (List Int)} (h : devB bs = true) (h' : tabB xss = true) : countsV bs xss = cntL bs (usedTo xss.flatten 48) bs.length := by simp [countsV, h, h']
end Go.Proofs.YtolpnloghogjjaaGreat
namespace Go.Proofs.YtolpnloghogjjaaGreat
open Go.ChangeShapes Go.WideShapes Go.ChangeAt Go.RowKit
set_option linter.unusedVariables false

theorem Seen.more {w : World} {g v m : Nat} {L : List Int} (h : Seen w g (L.take m)) (hx : L[m]? = some (v : Int)) : Seen (w.setCell ⟨g, v, none⟩ (.bool true)) g (L.take (m + 1)) := World.rowIs.congr (h.put (v := v)) fun i _ => by
  congr 1
  rw [Bool.eq_iff_iff]
  simp [List.take_add_one, hx, or_comm]
theorem Seen.same {w : World} {g m : Nat} {L : List Int} {x : Int} (h : Seen w g (L.take m)) (hx : L[m]? = some x) (h0 : ¬ 0 ≤ x) : Seen w g (L.take (m + 1)) := World.rowIs.congr h fun i _ => by
  congr 1
  rw [Bool.eq_iff_iff]
  simp [List.take_add_one, hx]
  omega
theorem Seen.keep {w w' : World} {g : Nat} {L : List Int} {row : Option Nat} (h : Seen w g L) (k : w.grownBy w' row) (hne : row ≠ some g) : Seen w' g L := World.rowIs.of_block h (k.block g (World.rowIs.lt h) (fun e => hne e.symm))
/-- Which pages a table names is told in memory of its own. -/
def NamedIs (L : List Int) (w : World) (e : Ending) (w' : World) : Prop := ∃ g, e = .returned (.slice (some ⟨g, 0, none⟩) 48 48) ∧ Seen w' g L ∧ w.heap.size ≤ g ∧ w.grownBy w' none
theorem named_any (A : Option Addr) (n c : Nat) (ls : List Li) (w : World) (hl : ls.length = n) (hr : TRow w w.heap.size A ls) (hv : tabB (ll ls) = true) :
    Calls Tryz.prog 98 #[.agg #[.slice A n c]] w (NamedIs (ll ls).flatten w) := by
  obtain ⟨h8, g, off, _, _, _, _, _, rfl, _⟩ := hr.open_ hv (show 0 < 8 by omega) (show 0 < 6 by omega)
  have en : n = 8 := by omega
  subst en
  have hmk := make_seen (w.alloc (.cells #[.slice (some ⟨g, off, none⟩) 8 c] 26))
  have hs0 := Seen.new (w.alloc (.cells #[.slice (some ⟨g, off, none⟩) 8 c] 26))
  have hb0 := (Blk.new w 26 #[.slice (some ⟨g, off, none⟩) 8 c]).alloc (.cells (madeCells #[.bool false] 48) 4)
  have b0 := hb0.cell 0
  simp only [size_alloc1] at hs0 hmk
  obtain ⟨L, hL⟩ : ∃ L, L = (ll ls).flatten := ⟨_, rfl⟩
  rw [← hL]
  have HL := Lib.hid (And.intro hL (And.intro hv (show L.length = 48 by rw [hL]; exact tab_flat hv)))
  have HS := Lib.hid (And.intro hs0 (hr.alloc (.cells #[.slice (some ⟨g, off, none⟩) 8 c] 26)).alloc)
  clear hr hl hv h8 hs0 hb0 hL
  go_enter Tryz.func98, Tryz.ntmps98
  go_wp2
  go_loopw [12] (fun i wr => ∃ f : Nat, i = .int .i64 f ∧ f ≤ 8 ∧ Seen wr (w.heap.size + 1) (L.take (6 * f)) ∧ TRow wr w.heap.size (some ⟨g, off, none⟩) ls ∧ w.grownBy wr none) (fun i _ => 8 - (intOf i).toNat)
  case atStart => exact ⟨0, rfl, Nat.zero_le _, HS.out.1, HS.out.2 _, grown_alloc (grown_alloc (grown_refl _ _) _) _⟩
  case round =>
    clear HS hmk b0
    obtain ⟨f, rfl, hf, hs, hT, hg⟩ := hrel
    by_cases hlt : f < 8
    · have hf8 : (f : Int) < 8 := by omega
      have hf0 : decide ((0 : Int) ≤ f) = true := decide_eq_true (by omega)
      obtain ⟨gx, ox, cl, xs, hll, h6⟩ := hT.list HL.out.2.1 hlt
      have c0 := hT.cellf hll h6
      have HX := Lib.hid (And.intro hll h6)
      have HM := Lib.hid (And.intro hs (And.intro hT hg))
      clear hll hs hT hg h6
      go_wp2
      go_loopw [18] (fun i wr => ∃ k : Nat, i = .int .i64 k ∧ k ≤ 6 ∧ Seen wr (w.heap.size + 1) (L.take (6 * f + k)) ∧ TRow wr w.heap.size (some ⟨g, off, none⟩) ls ∧ w.grownBy wr none) (fun i _ => 6 - (intOf i).toNat)
      case atStart => exact ⟨0, rfl, Nat.zero_le _, HM.out⟩
      case round =>
        clear HM c0
        obtain ⟨k, rfl, hk, hs, hT, hg⟩ := hrel
        by_cases hkl : k < 6
        · have hk8 : (k : Int) < 6 := by omega
          have hk0 : decide ((0 : Int) ≤ k) = true := decide_eq_true (by omega)
          obtain ⟨x, hx⟩ : ∃ x, xs[k]? = some x := ⟨_, List.getElem?_eq_getElem (by have := HX.out.2; omega)⟩
          have d0 := (hT.inner HX.out.1).cellf hx
          have hc := cellO_of (ll_at HX.out.1) hx
          have hxL : L[6 * f + k]? = some x := by rw [HL.out.1]; exact tab_at HL.out.2.1 hkl hc
          have hin := ((tabB_iff _).1 HL.out.2.1).inb f k x hc
          clear hx hc
          by_cases hx0 : 0 ≤ x
          · obtain ⟨v, rfl⟩ := Int.eq_ofNat_of_zero_le hx0
            have hv : v < 48 := by omega
            have v1 : ((v : Int) != -1) = true := by rw [bne_iff_ne]; omega
            have v2 : decide ((0 : Int) ≤ v) = true := decide_eq_true (by omega)
            have v3 : (v : Int) < 48 := by omega
            have s0 : wr.cell? ⟨w.heap.size + 1, v, none⟩ = some (.bool ((L.take (6 * f + k)).contains (v : Int))) := World.rowIs.cell hs hv
            have f0 : wr.frozen? ⟨w.heap.size + 1, v, none⟩ = false := World.rowIs.frozen hs v
            have HZ := Lib.hid (And.intro (hs.more hxL) (And.intro (hT.put (p := ⟨w.heap.size + 1, v, none⟩) (by dsimp only; omega) (.bool true)) (grown_put hg (p := ⟨w.heap.size + 1, v, none⟩) (by dsimp only; omega) (.bool true))))
            clear hs hT hg hxL hin hx0
            go_wp2
            go_roundw
            case rel => exact ⟨k + 1, by go_num, by omega, HZ.out⟩
            case measure => simp [intOf]; omega
          · have ex : x = -1 := by omega
            subst ex
            have HZ := Lib.hid (And.intro (hs.same hxL hx0) (And.intro hT hg))
            clear hs hT hg hxL hin hx0
            go_wp2
            go_roundw
            case rel => exact ⟨k + 1, by go_num, by omega, HZ.out⟩
            case measure => simp [intOf]; omega
        · obtain rfl : k = 6 := by omega
          have HZ := Lib.hid (And.intro hs (And.intro hT hg))
          clear hs hT hg
          go_wp2
          go_roundw
          case rel => exact ⟨f + 1, by go_num, by omega, HZ.out⟩
          case measure => simp [intOf]; omega
    · obtain rfl : f = 8 := by omega
      rw [List.take_of_length_le (by have := HL.out.2.2; omega)] at hs
      have HZ := Lib.hid (And.intro hs hg)
      clear hs hT hg
      go_wp2
      go_ret
      exact ⟨_, rfl, HZ.out.1, by omega, HZ.out.2⟩
theorem usedPages_any (A : Option Addr) (n c : Nat) (ls : List Li) (w : World) (hl : ls.length = n) (hr : TRow w w.heap.size A ls) (hn : n ≤ 1048576) (hp : ∀ l, l ∈ ls → l.xs.length ≤ 1048576) :
    Calls Tryz.prog 52 #[.agg #[.slice A n c]] w (IMade (usedV (ll ls)) w) := by
  have HT := Lib.hid (TIn.start hr n c)
  have HP := Lib.hid (And.intro hl hp)
  cases hv : tabB (ll ls)
  · have HV := Lib.hid hv
    rw [used_of_no hv]
    clear hl hr hp hv
    go_enter Tryz.func52, Tryz.ntmps52
    go_wp2_with fail
    refine (tabValid_val HV.out HP.out.1 HT.out.2.1.here hn HP.out.2).mono ?_
    rintro e w1 ⟨rfl, hk⟩
    have HK := Lib.hid (HT.out.keep hk)
    clear hk
    go_wp2
    go_ret
    exact ⟨none, 0, 0, rfl, rfl, World.ownsRow_nil _ _ _ _, HK.out.2.2⟩
  · have HV := Lib.hid hv
    rw [used_of hv]
    obtain ⟨L, hL⟩ : ∃ L, L = (ll ls).flatten := ⟨_, rfl⟩
    rw [← hL]
    have HL := Lib.hid hL
    clear hl hr hp hv hL
    go_enter Tryz.func52, Tryz.ntmps52
    go_wp2_with fail
    refine (tabValid_val HV.out HP.out.1 HT.out.2.1.here hn HP.out.2).mono ?_
    rintro e w1 ⟨rfl, hk⟩
    have HK := Lib.hid (HT.out.keep hk)
    have b0 : w1.cell? ⟨w.heap.size, 0, none⟩ = some (.slice A n c) := HK.out.1.cell 0
    clear hk HT
    go_wp2_with fail
    refine (named_any _ _ _ ls _ HP.out.1 HK.out.2.1.here HV.out).mono ?_
    rintro e w2 ⟨g, rfl, hs, hgl, hk⟩
    have HM := Lib.hid (show Seen w2 g L ∧ w.grownBy w2 none ∧ g < w2.heap.size from ⟨by rw [HL.out]; exact hs, grown_trans HK.out.2.2 hk, World.rowIs.lt hs⟩)
    clear hs hgl hk b0 HK
    go_wp2
    go_loopw [3, 12] (fun u i wr => ∃ k : Nat, i = .int .i64 k ∧ k ≤ 48 ∧ IOwn wr w2.heap.size u (usedTo L k) ∧ Seen wr g L ∧ w2.grownBy wr none) (fun _ i _ => 48 - (intOf i).toNat)
    case atStart => exact ⟨0, rfl, Nat.zero_le _, World.ownsRow_nil _ _ _ _, HM.out.1, grown_refl _ _⟩
    case round =>
      rename World => wq
      obtain ⟨k, rfl, hk, hi, hs, hg⟩ := hrel
      by_cases hlt : k < 48
      · have hk8 : (k : Int) < 48 := by omega
        have hk0 : decide ((0 : Int) ≤ k) = true := decide_eq_true (by omega)
        have s0 : wq.cell? ⟨g, k, none⟩ = some (.bool (L.contains (k : Int))) := World.rowIs.cell hs hlt
        cases hc : L.contains (k : Int)
        · rw [hc] at s0
          rw [← used_no hc] at hi
          have HZ := Lib.hid (And.intro hi (And.intro hs hg))
          clear hi hs hg hc
          go_wp2
          go_roundw
          case rel => exact ⟨k + 1, by go_num, by omega, HZ.out⟩
          case measure => simp [intOf]; omega
        · rw [hc] at s0
          have hle := usedTo_le L k
          obtain ⟨u', w3, hrun, hi2, hg2⟩ := push_int (wr := w2) (k : Int) hi hg.size (by omega)
          rw [← used_yes hc] at hi2
          have K1 := grown_alloc (grown_refl wq none) (.cells #[.int .i64 (k : Int)] 3)
          have hne : ∀ {row : Option Nat}, row = Value.ownBlock _ → row ≠ some g := fun {row} e e' => by have h1 := (VOwn.lt hi g (e.symm.trans e')).1; have h2 := HM.out.2.2; omega
          have HZ := Lib.hid (And.intro hi2 (And.intro ((hs.keep K1 (by simp)).keep hg2 (hne rfl)) (grown_joinR (grown_trans hg K1) hg2 (fun i e => (VOwn.lt hi i e).1))))
          have HRUN := Lib.hid hrun
          clear hi hs hg hc hi2 hg2 hrun K1 hne hle
          go_wp2_with (at_builtin; refine wpList_append_run _ rfl (.tmp 18) (.tmp 20) _ _ rfl _ _ rfl rfl HRUN.out ?_)
          go_roundw
          case rel => exact ⟨k + 1, by go_num, by omega, HZ.out⟩
          case measure => simp [intOf]; omega
      · obtain rfl : k = 48 := by omega
        obtain ⟨Au, cu, rfl⟩ := IOwn.slice hi
        have HZ := Lib.hid (show IOwn wq w.heap.size _ _ ∧ w.grownBy wq none from ⟨VOwn.base_le hi HM.out.2.1.size, grown_trans HM.out.2.1 hg⟩)
        clear hi hs hg
        go_wp2
        go_ret
        exact ⟨Au, _, cu, rfl, rfl, HZ.out.1, HZ.out.2⟩
end Go.Proofs.YtolpnloghogjjaaGreat
namespace Go.Proofs.YtolpnloghogjjaaGreat
open Go.ChangeShapes Go.WideShapes Go.ChangeAt Go.RowKit
set_option linter.unusedVariables false

theorem readV_page {bs : List Bk} (hd : devB bs = true) {n a : Nat} (hl : bs.length = n) (ha : hasP n (a : Int) = true) : ∃ p, pageAt bs a = some p ∧ readV bs (a : Int) = p := by
  obtain ⟨_, hall⟩ := dev_parts hd
  have h4 : ∀ b, b ∈ bs → b.ps.length = 4 := fun b hm => (block_parts (hall b hm)).2.1
  simp only [hasP, Bool.and_eq_true, decide_eq_true_eq] at ha
  obtain ⟨p, hp⟩ := page_some h4 (a := a) (by omega)
  refine ⟨p, hp, ?_⟩
  unfold readV
  rw [if_pos hd, if_pos (by omega), Int.toNat_natCast, hp]
  rfl
theorem readV_out {bs : List Bk} (hd : devB bs = true) {n a : Nat} (hl : bs.length = n) (ha : hasP n (a : Int) = false) : (readV bs (a : Int)).f = false := by
  obtain ⟨_, hall⟩ := dev_parts hd
  have h4 : ∀ b, b ∈ bs → b.ps.length = 4 := fun b hm => (block_parts (hall b hm)).2.1
  simp only [hasP, Bool.and_eq_false_iff, decide_eq_false_iff_not] at ha
  unfold readV
  rw [if_pos hd, if_pos (by omega), Int.toNat_natCast, ← allP_at h4, List.getElem?_eq_none (by rw [allP_length h4]; omega)]
  rfl
theorem blk_small {us : List Int} {bs : List Bk} (j q : Nat) (h : us.length ≤ 48) : (us.take j).countP (inBlk bs q) ≤ 48 := Nat.le_trans List.countP_le_length (by rw [List.length_take]; omega)
section
variable {D : Option Addr} {nd cd : Nat} {bs : List Bk} {A : Option Addr} {n c : Nat} {ls : List Li} {w : World}
theorem blockCounts_no (hld : bs.length = nd) (hrd : DRow w w.heap.size D bs) (hnd : nd ≤ 1048576) (hpd : ∀ b, b ∈ bs → b.ps.length ≤ 1048576) (hl : ls.length = n) (hr : TRow w w.heap.size A ls) (hn : n ≤ 1048576) (hp : ∀ l, l ∈ ls → l.xs.length ≤ 1048576) (hB : (devB bs && tabB (ll ls)) = false) :
    Calls Tryz.prog 13 #[.slice D nd cd, .agg #[.slice A n c]] w (IMade [] w) := by
  have HT := Lib.hid (show VIn w A n c ls D bs _ from ⟨TIn.start hr n c, hrd.alloc _⟩)
  cases hd : devB bs
  · have HP := Lib.hid (And.intro hld (And.intro hpd hd))
    clear hl hr hp hd hld hrd hpd hB
    go_enter Tryz.func13, Tryz.ntmps13
    go_wp2_with fail
    refine (deviceValid_val HP.out.1 HP.out.2.2 _ HT.out.2.here hnd HP.out.2.1).mono ?_
    rintro e w1 ⟨rfl, hk⟩
    have HK := Lib.hid (HT.out.keep hk)
    clear hk
    go_wp2
    go_ret
    exact ⟨none, 0, 0, rfl, rfl, World.ownsRow_nil _ _ _ _, HK.out.1.2.2⟩
  · rw [hd, Bool.true_and] at hB
    have HP := Lib.hid (And.intro hld (And.intro hpd hd))
    have HQ := Lib.hid (And.intro hl (And.intro hp hB))
    clear hl hr hp hd hld hrd hpd hB
    go_enter Tryz.func13, Tryz.ntmps13
    go_wp2_with fail
    refine (deviceValid_val HP.out.1 HP.out.2.2 _ HT.out.2.here hnd HP.out.2.1).mono ?_
    rintro e w1 ⟨rfl, hk⟩
    have HK := Lib.hid (HT.out.keep hk)
    have b0 : w1.cell? ⟨w.heap.size, 0, none⟩ = some (.slice A n c) := HK.out.1.1.cell 0
    clear hk
    go_wp2_with fail
    refine (tabValid_val HQ.out.2.2 HQ.out.1 HK.out.1.2.1.here hn HQ.out.2.1).mono ?_
    rintro e w2 ⟨rfl, hk⟩
    have HF := Lib.hid (HK.out.keep hk)
    clear hk b0
    go_wp2
    go_ret
    exact ⟨none, 0, 0, rfl, rfl, World.ownsRow_nil _ _ _ _, HF.out.1.2.2⟩
/-- The loop over the pages of a table: the numbers of the blocks lie in block G. -/
def CRel (w : World) (G B nd : Nat) (U : Value) (us : List Int) (D : Option Addr) (bs : List Bk) (j : Nat) (wr : World) : Prop :=
  IOwn wr w.heap.size (.slice (some ⟨G, 0, none⟩) nd nd) (cntL bs (us.take j) nd) ∧ IOwn wr B U us ∧ DRow wr w.heap.size D bs ∧ w.grownBy wr none
set_option maxHeartbeats 1000000 in
theorem blockCounts_yes (hld : bs.length = nd) (hrd : DRow w w.heap.size D bs) (hl : ls.length = n) (hr : TRow w w.heap.size A ls) (hn : n ≤ 1048576) (hd : devB bs = true) (hv : tabB (ll ls) = true) :
    Calls Tryz.prog 13 #[.slice D nd cd, .agg #[.slice A n c]] w (IMade (cntL bs (usedTo (ll ls).flatten 48) nd) w) := by
  have HT := Lib.hid (show VIn w A n c ls D bs _ from ⟨TIn.start hr n c, hrd.alloc _⟩)
  obtain ⟨⟨h1, h12⟩, hall⟩ := dev_parts hd
  have hnd : nd ≤ 12 := by omega
  have HP := Lib.hid (And.intro hld (And.intro (fun (b : Bk) (hm : b ∈ bs) => show b.ps.length ≤ 1048576 by have := (block_parts (hall b hm)).2.1; omega) hd))
  have HQ := Lib.hid (And.intro hl (And.intro (ll_six hv) hv))
  obtain ⟨us, hus⟩ : ∃ us, usedV (ll ls) = us := ⟨_, rfl⟩
  have hul : us.length ≤ 48 := by rw [← hus]; exact used_small _
  have HU := Lib.hid (And.intro hus (And.intro hul (fun (i : Nat) (x : Int) (h : us[i]? = some x) => used_in (ll ls) (i := i) (x := x) (by rw [hus]; exact h))))
  rw [show usedTo (ll ls).flatten 48 = us by rw [← hus, used_of hv]]
  clear hld hrd hl hr hd hv h1 h12 hall hus
  go_enter Tryz.func13, Tryz.ntmps13
  go_wp2_with fail
  refine (deviceValid_val HP.out.1 HP.out.2.2 _ HT.out.2.here (by omega) HP.out.2.1).mono ?_
  rintro e w1 ⟨rfl, hk⟩
  have HK := Lib.hid (HT.out.keep hk)
  have b0 : w1.cell? ⟨w.heap.size, 0, none⟩ = some (.slice A n c) := HK.out.1.1.cell 0
  clear hk HT
  go_wp2_with fail
  refine (tabValid_val HQ.out.2.2 HQ.out.1 HK.out.1.2.1.here hn HQ.out.2.1).mono ?_
  rintro e w2 ⟨rfl, hk⟩
  have hT2 := HK.out.keep hk
  have hmk := make_ints w2 nd (by omega)
  have hi0 := iown_made w2 w.heap.size nd hT2.1.2.2.size (by simp only [maxLen]; omega)
  have hT3 := hT2.keep (grown_alloc (grown_refl w2 none) (.cells (madeCells #[.int .i64 0] nd) 3))
  have b1 := hT3.1.1.cell 0
  have HG := Lib.hid (And.intro hT3 hi0)
  clear hk b0 hT2 hT3 hi0 HK
  go_wp2_with fail
  refine (usedPages_any _ _ _ ls _ HQ.out.1 HG.out.1.1.2.1.here hn HQ.out.2.1).mono ?_
  rintro e w3 ⟨Au, nu, cu, rfl, hlu, hou, hk⟩
  have HM := Lib.hid (show CRel w w2.heap.size (w2.heap.size + 1) nd (.slice Au nu cu) us D bs 0 w3 from by
    rw [HU.out.1, size_alloc1] at hou
    refine ⟨?_, hou, (HG.out.1.keep hk).2, (HG.out.1.keep hk).1.2.2⟩
    rw [List.take_zero, cntL_none]
    exact VOwn.keep HG.out.2 hk)
  have hnu : us.length = nu := by rw [← HU.out.1]; exact hlu
  have HN := Lib.hid hnu
  have hnu48 : nu ≤ 48 := by omega
  clear hou hk b1 hmk HG hlu hnu hul
  go_wp2
  go_loopw [22] (fun i wr => ∃ j : Nat, i = .int .i64 j ∧ j ≤ nu ∧ CRel w w2.heap.size (w2.heap.size + 1) nd (.slice Au nu cu) us D bs j wr) (fun i _ => nu - (intOf i).toNat)
  case atStart => exact ⟨0, rfl, Nat.zero_le _, HM.out⟩
  case round =>
    rename World => wq
    obtain ⟨j, rfl, hj, hC⟩ := hrel
    clear HM
    by_cases hlt : j < nu
    · have j8 : (j : Int) < nu := by omega
      have j0 : decide ((0 : Int) ≤ j) = true := decide_eq_true (by omega)
      obtain ⟨gu, ou, rfl⟩ := IRow.pos (VOwn.row hC.2.1 : IRow _ _ _ us) (by have := HN.out; omega)
      obtain ⟨x, hx⟩ : ∃ x, us[j]? = some x := ⟨_, List.getElem?_eq_getElem (by have := HN.out; omega)⟩
      have c0 := IRow.cellf (VOwn.row hC.2.1 : IRow _ _ _ us) hx
      have hx48 := HU.out.2.2 j x hx
      obtain ⟨v, rfl⟩ := Int.eq_ofNat_of_zero_le hx48.1
      have HC := Lib.hid hC
      have HX := Lib.hid hx
      clear hC hx
      have nd12 : nd ≤ 1048576 := by omega
      cases hh : hasP nd (v : Int)
      · have HH := Lib.hid (And.intro hh (cnt_old nd HX.out (readV_out HP.out.2.2 HP.out.1 hh)))
        clear hh
        go_wp2_with (go_at_call 53; refine (hasPage_val HH.out.1 _ _ _ nd12).mono ?_; rintro e w' ⟨rfl, rfl⟩)
        go_roundw
        case rel => exact ⟨j + 1, by go_num, by omega, by unfold CRel; rw [HH.out.2]; exact HC.out⟩
        case measure => simp [intOf]; omega
      · obtain ⟨⟨pf, pa, pb, pc, pd⟩, hp, hrv⟩ := readV_page HP.out.2.2 HP.out.1 hh
        have hf : ∀ w : World, (Instr.field 72 (.agg #[.bool pf, .int .i64 pa, .int .i64 pb, .int .i64 pc, .int .i64 pd]) 0).run Tryz.prog w = .ok (.bool pf) w := fun _ => by kernel_rfl
        have hq4 : v < 4 * nd := by simp only [hasP, Bool.and_eq_true, decide_eq_true_eq] at hh; omega
        have HH := Lib.hid (And.intro hh (And.intro hp hrv))
        clear hh hp hrv
        go_wp2_with (first | (go_at_call 53; refine (hasPage_val HH.out.1 _ _ _ nd12).mono ?_; rintro e w' ⟨rfl, rfl⟩) | fail)
        refine (pageOf_at _ _ _ bs v _ wq HP.out.1 HC.out.2.2.1.here HP.out.2.2 HH.out.2.1).mono ?_
        rintro e w4 ⟨rfl, hk⟩
        have HE := Lib.hid (show CRel w w2.heap.size (w2.heap.size + 1) nd (.slice (some ⟨gu, ou, none⟩) nu cu) us D bs j w4 from ⟨VOwn.keep HC.out.1 hk, VOwn.keep HC.out.2.1 hk, HC.out.2.2.1.kept hk, grown_trans HC.out.2.2.2 hk⟩)
        clear hk c0 HC
        cases pf
        · have HZ := Lib.hid (cnt_old nd HX.out (show (readV bs (v : Int)).f = false by rw [HH.out.2.2]))
          go_wp2
          go_roundw
          case rel => exact ⟨j + 1, by go_num, by omega, by unfold CRel; rw [HZ.out]; exact HE.out⟩
          case measure => simp [intOf]; omega
        · obtain ⟨q, hq⟩ : ∃ q, q = v / 4 := ⟨_, rfl⟩
          have e1 : (v : Int) / 4 = (q : Int) := by omega
          have e2 : (v : Int).tdiv 4 = (q : Int) := by rw [Int.tdiv_eq_ediv_of_nonneg (by omega)]; exact e1
          have q0 : decide ((0 : Int) ≤ q) = true := decide_eq_true (by omega)
          have qn : q < nd := by omega
          have q1 : (q : Int) < nd := by omega
          have hz := blk_small (bs := bs) j q HU.out.2.1
          have hnew := cnt_new nd HX.out (show (readV bs (v : Int)).f = true by rw [HH.out.2.2]) e1
          obtain ⟨z, hze⟩ : ∃ z, (us.take j).countP (inBlk bs q) = z := ⟨_, rfl⟩
          have hat := cntL_at bs (us.take j) qn
          rw [hze] at hz hat hnew
          have d0 : w4.cell? ⟨w2.heap.size, q, none⟩ = some (.int .i64 (z : Int)) := VOwn.at_ HE.out.1 (by rw [iv_length, cntL_length]) (iv_at hat)
          have d1 : w4.frozen? ⟨w2.heap.size, q, none⟩ = false := VOwn.frozen HE.out.1 (by rw [iv_length, cntL_length]) q
          have hs := VOwn.set HE.out.1 (by rw [iv_length, cntL_length]) q (.int .i64 ((z : Int) + 1))
          rw [← iv_set, ← hnew] at hs
          have hgz : w.heap.size ≤ w2.heap.size := (VOwn.lt HE.out.1 w2.heap.size rfl).1
          have HZ := Lib.hid (show CRel w w2.heap.size (w2.heap.size + 1) nd (.slice (some ⟨gu, ou, none⟩) nu cu) us D bs (j + 1) (w4.setCell ⟨w2.heap.size, q, none⟩ (.int .i64 ((z : Int) + 1))) from
            ⟨hs, VOwn.to_put HE.out.2.1 (by intro e; have := (VOwn.lt HE.out.2.1 _ e).1; dsimp only at this; omega) _, HE.out.2.2.1.grown (grown_set (grown_refl w4 (some w2.heap.size)) (.inl rfl) _) (fun g e => by injection e with e; omega), grown_put HE.out.2.2.2 (p := ⟨w2.heap.size, q, none⟩) hgz _⟩)
          clear hs hnew hat hze hq
          go_wp2
          go_roundw
          case rel => exact ⟨j + 1, by go_num, by omega, HZ.out⟩
          case measure => simp [intOf]; omega
    · obtain rfl : j = nu := by omega
      have HZ := Lib.hid (show IOwn wq w.heap.size (.slice (some ⟨w2.heap.size, 0, none⟩) nd nd) (cntL bs us nd) ∧ w.grownBy wq none from ⟨by have h := hC.1; rw [List.take_of_length_le (by have := HN.out; omega)] at h; exact h, hC.2.2.2⟩)
      clear hC
      go_wp2
      go_ret
      exact ⟨_, nd, nd, rfl, cntL_length _ _ _, HZ.out.1, HZ.out.2⟩
theorem blockCounts_any (hld : bs.length = nd) (hrd : DRow w w.heap.size D bs) (hnd : nd ≤ 1048576) (hpd : ∀ b, b ∈ bs → b.ps.length ≤ 1048576) (hl : ls.length = n) (hr : TRow w w.heap.size A ls) (hn : n ≤ 1048576) (hp : ∀ l, l ∈ ls → l.xs.length ≤ 1048576) :
    Calls Tryz.prog 13 #[.slice D nd cd, .agg #[.slice A n c]] w (IMade (countsV bs (ll ls)) w) := by
  cases hB : devB bs && tabB (ll ls)
  · have e : countsV bs (ll ls) = [] := by simp [countsV, hB]
    rw [e]
    exact blockCounts_no hld hrd hnd hpd hl hr hn hp hB
  · rw [Bool.and_eq_true] at hB
    rw [counts_of hB.1 hB.2, hld]
    exact blockCounts_yes hld hrd hl hr hn hB.1 hB.2
end
end Go.Proofs.YtolpnloghogjjaaGreat
namespace Go.Proofs.YtolpnloghogjjaaGreat
open Go.ChangeShapes Go.WideShapes Go.ChangeAt Go.RowKit
set_option linter.unusedVariables false

section
variable {w wr w' : World} {U u u' : Value} {us xs : List Int}
end
variable {D : Option Addr} {nd cd : Nat} {bs : List Bk} {A : Option Addr} {n c : Nat} {ls : List Li} {w : World}
end Go.Proofs.YtolpnloghogjjaaGreat
namespace Go.Proofs.YtolpnloghogjjaaGreat
open Go.ChangeShapes Go.WideShapes Go.ChangeAt Go.RowKit
set_option linter.unusedVariables false

section
variable {D : Option Addr} {nd cd : Nat} {bs : List Bk} {A : Option Addr} {n c : Nat} {ls : List Li} {w : World}
variable {X : List Int} {n1 : Nat} {V : Int}
theorem usedPages_val (h : usedV (ll ls) = X) (h1 : X.length = n1) (hl : ls.length = n) (hr : TRow w w.heap.size A ls) (hn : n ≤ 1048576) (hp : ∀ l, l ∈ ls → l.xs.length ≤ 1048576) :
    Calls Tryz.prog 52 #[.agg #[.slice A n c]] w (IMadeN X n1 w) :=
  (usedPages_any A n c ls w hl hr hn hp).mono fun _ _ q => by rw [h] at q; exact q.to h1
theorem counts_val (h : countsV bs (ll ls) = X) (h1 : X.length = n1) (hld : bs.length = nd) (hrd : DRow w w.heap.size D bs) (hnd : nd ≤ 1048576) (hpd : ∀ b, b ∈ bs → b.ps.length ≤ 1048576) (hl : ls.length = n) (hr : TRow w w.heap.size A ls) (hn : n ≤ 1048576) (hp : ∀ l, l ∈ ls → l.xs.length ≤ 1048576) :
    Calls Tryz.prog 13 #[.slice D nd cd, .agg #[.slice A n c]] w (IMadeN X n1 w) :=
  (blockCounts_any hld hrd hnd hpd hl hr hn hp).mono fun _ _ q => by rw [h] at q; exact q.to h1
end
end Go.Proofs.YtolpnloghogjjaaGreat
