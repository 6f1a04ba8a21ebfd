/- What UsedPages answers: the model's and the program's. -/
import Derived.Test.YtnjgegadhfofbaaCountPlain
import Derived.Test.YtnjgegadhfofbaaTables7
namespace Go.Proofs.Ytnjgegadhfofbaa
open Go.ChangeShapes Go.WideShapes Go.ChangeAt Go.RowKit
set_option linter.unusedVariables false

theorem specUsed_no (A : Option Addr) (n c : Nat) (ls : List Li) (w : World) (hl : ls.length = n) (hr : TRow w w.heap.size A ls) (hn : n ≤ 1048576) (hp : ∀ l, l ∈ ls → l.xs.length ≤ 1048576) (hv : tabB (ll ls) = false) :
    Calls Try.prog 12 #[.agg #[.slice A n c]] w (IMade [] w) := by
  have HT := Lib.hid (TIn.start hr n c)
  have HP := Lib.hid (And.intro hl (And.intro hp hv))
  clear hl hr hp hv
  go_enter Try.func12, Try.ntmps12
  go_wp2
  go_loopw [3, 4] (fun u i wr => i = .int .i64 0 ∧ IOwn wr w.heap.size u [] ∧ TIn w A n c ls wr) (fun _ _ _ => 1)
  case atStart => exact ⟨rfl, iown_lit1 _ _ _, HT.out.keep (grown_alloc (grown_refl _ _) _)⟩
  case round =>
    rename World => wq
    obtain ⟨rfl, hi, hT⟩ := hrel
    have HX := Lib.hid (And.intro hi hT)
    have b0 : wq.cell? ⟨w.heap.size, 0, none⟩ = some (.slice A n c) := hT.1.cell 0
    obtain ⟨Au, cu, rfl⟩ := IOwn.slice hi
    clear hi hT HT
    go_wp2_with fail
    refine (specTabValid_val HP.out.2.2 HP.out.1 HX.out.2.2.1.here hn HP.out.2.1).mono ?_
    rintro e w1 ⟨rfl, hk⟩
    have HK := Lib.hid (And.intro (VOwn.keep HX.out.1 hk) (HX.out.2.keep hk))
    clear hk
    go_wp2
    go_ret
    exact ⟨Au, 0, cu, rfl, rfl, HK.out.1, HK.out.2.2.2⟩
theorem used_cnt {xss : List (List Int)} {L : List Int} (hv : tabB xss = true) (hL : L = xss.flatten) (a : Nat) : usedTo L a ++ List.replicate ((L.take (6 * 8)).count (a : Int)) (a : Int) = usedTo L (a + 1) := by
  subst hL
  rw [List.take_of_length_le (by rw [tab_flat hv]; exact Nat.le_refl _), tab_count hv (by omega)]
  cases h : xss.flatten.contains (a : Int)
  · rw [used_no h]; simp
  · rw [used_yes h]; simp
theorem used_put {L : List Int} {i a : Nat} {x : Int} (h : L[i]? = some x) (hx : x = (a : Int)) : usedTo L a ++ List.replicate ((L.take i).count (a : Int)) (a : Int) ++ [(a : Int)] = usedTo L a ++ List.replicate ((L.take (i + 1)).count (a : Int)) (a : Int) := by
  rw [count_take (a : Int) h, if_pos hx, List.replicate_succ', List.append_assoc]
theorem used_not {L : List Int} {i a : Nat} {x : Int} (h : L[i]? = some x) (hx : ¬ x = (a : Int)) : usedTo L a ++ List.replicate ((L.take i).count (a : Int)) (a : Int) = usedTo L a ++ List.replicate ((L.take (i + 1)).count (a : Int)) (a : Int) := by
  rw [count_take (a : Int) h, if_neg hx, Nat.add_zero]
theorem used_len (L : List Int) (a i : Nat) (ha : a ≤ 48) (hi : i ≤ 48) : (usedTo L a ++ List.replicate ((L.take i).count (a : Int)) (a : Int)).length ≤ 1000000 := by
  have h1 := usedTo_le L a
  have h2 : (L.take i).count (a : Int) ≤ i := Nat.le_trans List.count_le_length (by rw [List.length_take]; exact Nat.min_le_left _ _)
  simp only [List.length_append, List.length_replicate]
  omega
set_option maxHeartbeats 1000000 in
theorem specUsed_yes (A : Option Addr) (n c : Nat) (ls : List Li) (w : World) (hl : ls.length = n) (hr : TRow w w.heap.size A ls) (hv : tabB (ll ls) = true) :
    Calls Try.prog 12 #[.agg #[.slice A n c]] w (IMade (usedTo (ll ls).flatten 48) w) := by
  obtain ⟨h8, g, off, _, _, _, _, _, rfl, _⟩ := hr.open_ hv (show 0 < 8 by omega) (show 0 < 6 by omega)
  have en : n = 8 := by omega
  subst en
  have HT := Lib.hid (TIn.start hr 8 c)
  have HV := Lib.hid (And.intro hl (And.intro (ll_six hv) hv))
  obtain ⟨L, hL⟩ : ∃ L, L = (ll ls).flatten := ⟨_, rfl⟩
  rw [← hL]
  have HL := Lib.hid hL
  clear hl hr hv h8 hL
  go_enter Try.func12, Try.ntmps12
  go_wp2
  go_loopw [3, 4] (fun u i wr => ∃ a : Nat, i = .int .i64 a ∧ a ≤ 48 ∧ IOwn wr w.heap.size u (usedTo L a) ∧ TIn w (some ⟨g, off, none⟩) 8 c ls wr) (fun _ i _ => 48 - (intOf i).toNat)
  case atStart => exact ⟨0, rfl, Nat.zero_le _, iown_lit1 _ _ _, HT.out.keep (grown_alloc (grown_refl _ _) _)⟩
  case round =>
    rename World => wo
    obtain ⟨a, rfl, ha, hi, hT⟩ := hrel
    by_cases hlt : a < 48
    · have a48 : (a : Int) < 48 := by omega
      have HX := Lib.hid (And.intro hi hT)
      have b0 : wo.cell? ⟨w.heap.size, 0, none⟩ = some (.slice (some ⟨g, off, none⟩) 8 c) := hT.1.cell 0
      clear hi hT HT
      go_wp2_with fail
      refine (specTabValid_val HV.out.2.2 HV.out.1 HX.out.2.2.1.here (by omega) HV.out.2.1).mono ?_
      rintro e w1 ⟨rfl, hk⟩
      have HY := Lib.hid (And.intro (VOwn.keep HX.out.1 hk) (HX.out.2.keep hk))
      clear hk b0 HX
      go_wp2
      go_loopw [3, 5] (fun u i wr => ∃ f : Nat, i = .int .i64 f ∧ f ≤ 8 ∧ IOwn wr w.heap.size u (usedTo L a ++ List.replicate ((L.take (6 * f)).count (a : Int)) (a : Int)) ∧ TIn w (some ⟨g, off, none⟩) 8 c ls wr) (fun _ i _ => 8 - (intOf i).toNat)
      case atStart => exact ⟨0, rfl, Nat.zero_le _, by simp only [Nat.mul_zero, List.take_zero, List.count_nil, List.replicate_zero, List.append_nil]; exact HY.out.1, HY.out.2⟩
      case round =>
        rename World => wm
        obtain ⟨f, rfl, hf, hi, hT⟩ := hrel
        have HM := Lib.hid (And.intro hi hT)
        clear hi hT HY
        by_cases hf8 : f < 8
        · have f8 : (f : Int) < 8 := by omega
          have f0 : decide ((0 : Int) ≤ f) = true := decide_eq_true (by omega)
          obtain ⟨gx, ox, cl, xs, hll, h6⟩ := HM.out.2.2.1.list HV.out.2.2 hf8
          have HF := Lib.hid (And.intro hll h6)
          clear hll h6
          go_wp2
          go_loopw [3, 6] (fun u i wr => ∃ k : Nat, i = .int .i64 k ∧ k ≤ 6 ∧ IOwn wr w.heap.size u (usedTo L a ++ List.replicate ((L.take (6 * f + k)).count (a : Int)) (a : Int)) ∧ TIn w (some ⟨g, off, none⟩) 8 c ls wr) (fun _ i _ => 6 - (intOf i).toNat)
          case atStart => exact ⟨0, rfl, Nat.zero_le _, HM.out.1, HM.out.2⟩
          case round =>
            rename World => wi
            obtain ⟨k, rfl, hk6, hi, hT⟩ := hrel
            clear HM
            by_cases hk : k < 6
            · have k5 : (k : Int) ≤ 5 := by omega
              have k6 : (k : Int) < 6 := by omega
              have k0 : decide ((0 : Int) ≤ k) = true := decide_eq_true (by omega)
              obtain ⟨x, hx⟩ : ∃ x, xs[k]? = some x := ⟨_, List.getElem?_eq_getElem (by have := HF.out.2; omega)⟩
              have hxL : L[6 * f + k]? = some x := by rw [HL.out]; exact tab_at HV.out.2.2 hk (cellO_of (ll_at HF.out.1) hx)
              have b0 : wi.cell? ⟨w.heap.size, 0, none⟩ = some (.slice (some ⟨g, off, none⟩) 8 c) := hT.1.cell 0
              have c0 := hT.2.1.cellf HF.out.1 HF.out.2
              have c1 := (hT.2.1.inner HF.out.1).cellf hx
              by_cases hxa : x = (a : Int)
              · have e1 : (x == (a : Int)) = true := by rw [beq_iff_eq]; exact hxa
                obtain ⟨u', w2, hrun, hi2, hg2⟩ := push_int (wr := w) (a : Int) hi hT.2.2.size (used_len L a _ (by omega) (by omega))
                rw [used_put hxL hxa] at hi2
                have K1 := grown_alloc (grown_refl wi none) (.cells #[.int .i64 (a : Int)] 3)
                have HZ := Lib.hid (And.intro hi2 ((hT.keep K1).grown (VOwn.keep hi K1) hg2))
                have HRUN := Lib.hid hrun
                clear hi hT hx hxL hi2 hg2 hrun K1 hxa
                go_wp2_with (at_builtin; refine wpList_append_run _ rfl (.tmp 34) (.tmp 36) _ _ rfl _ _ rfl rfl HRUN.out ?_)
                go_roundw
                case rel => exact ⟨k + 1, by go_num, by omega, HZ.out.1, HZ.out.2⟩
                case measure => simp [intOf]; omega
              · have e1 : (x == (a : Int)) = false := by rw [beq_eq_false_iff_ne]; exact hxa
                rw [used_not hxL hxa] at hi
                have HZ := Lib.hid (And.intro hi hT)
                clear hi hT hx hxL hxa
                go_wp2
                go_roundw
                case rel => exact ⟨k + 1, by go_num, by omega, HZ.out.1, HZ.out.2⟩
                case measure => simp [intOf]; omega
            · obtain rfl : k = 6 := by omega
              have HZ := Lib.hid (And.intro hi hT)
              clear hi hT
              go_wp2
              go_roundw
              case rel => exact ⟨f + 1, by go_num, by omega, HZ.out.1, HZ.out.2⟩
              case measure => simp [intOf]; omega
        · obtain rfl : f = 8 := by omega
          have HZ := Lib.hid (show IOwn wm w.heap.size _ (usedTo L (a + 1)) ∧ _ from ⟨by rw [← used_cnt HV.out.2.2 HL.out a]; exact HM.out.1, HM.out.2⟩)
          clear HM
          go_wp2
          go_roundw
          case rel => exact ⟨a + 1, by go_num, by omega, HZ.out.1, HZ.out.2⟩
          case measure => simp [intOf]; omega
    · obtain rfl : a = 48 := by omega
      obtain ⟨Au, cu, rfl⟩ := IOwn.slice hi
      have HZ := Lib.hid (And.intro hi hT)
      clear hi hT HT
      go_wp2
      go_ret
      exact ⟨Au, _, cu, rfl, rfl, HZ.out.1, HZ.out.2.2.2⟩
theorem specUsed_any (A : Option Addr) (n c : Nat) (ls : List Li) (w : World) (hl : ls.length = n) (hr : TRow w w.heap.size A ls) (hn : n ≤ 1048576) (hp : ∀ l, l ∈ ls → l.xs.length ≤ 1048576) :
    Calls Try.prog 12 #[.agg #[.slice A n c]] w (IMade (usedV (ll ls)) w) := by
  cases hv : tabB (ll ls)
  · rw [used_of_no hv]
    exact specUsed_no A n c ls w hl hr hn hp hv
  · rw [used_of hv]
    exact specUsed_yes A n c ls w hl hr hv

theorem Seen.more {w : World} {g v m : Nat} {L : List Int} (h : Seen w g (L.take m)) (hx : L[m]? = some (v : Int)) : Seen (w.setCell ⟨g, v, none⟩ (.bool true)) g (L.take (m + 1)) := World.rowIs.congr (h.put (v := v)) fun i _ => by
  congr 1
  rw [Bool.eq_iff_iff]
  simp [List.take_add_one, hx, or_comm]
theorem Seen.same {w : World} {g m : Nat} {L : List Int} {x : Int} (h : Seen w g (L.take m)) (hx : L[m]? = some x) (h0 : ¬ 0 ≤ x) : Seen w g (L.take (m + 1)) := World.rowIs.congr h fun i _ => by
  congr 1
  rw [Bool.eq_iff_iff]
  simp [List.take_add_one, hx]
  omega
theorem Seen.keep {w w' : World} {g : Nat} {L : List Int} {row : Option Nat} (h : Seen w g L) (k : w.grownBy w' row) (hne : row ≠ some g) : Seen w' g L := World.rowIs.of_block h (k.block g (World.rowIs.lt h) (fun e => hne e.symm))
/-- Which pages a table names is told in memory of its own. -/
def NamedIs (L : List Int) (w : World) (e : Ending) (w' : World) : Prop := ∃ g, e = .returned (.slice (some ⟨g, 0, none⟩) 48 48) ∧ Seen w' g L ∧ w.heap.size ≤ g ∧ w.grownBy w' none
theorem named_any (A : Option Addr) (n c : Nat) (ls : List Li) (w : World) (hl : ls.length = n) (hr : TRow w w.heap.size A ls) (hv : tabB (ll ls) = true) :
    Calls Try.prog 37 #[.agg #[.slice A n c]] w (NamedIs (ll ls).flatten w) := by
  obtain ⟨h8, g, off, _, _, _, _, _, rfl, _⟩ := hr.open_ hv (show 0 < 8 by omega) (show 0 < 6 by omega)
  have en : n = 8 := by omega
  subst en
  have hmk := make_seen (w.alloc (.cells #[.slice (some ⟨g, off, none⟩) 8 c] 25))
  have hs0 := Seen.new (w.alloc (.cells #[.slice (some ⟨g, off, none⟩) 8 c] 25))
  have hb0 := (Blk.new w 25 #[.slice (some ⟨g, off, none⟩) 8 c]).alloc (.cells (madeCells #[.bool false] 48) 4)
  have b0 := hb0.cell 0
  simp only [size_alloc1] at hs0 hmk
  obtain ⟨L, hL⟩ : ∃ L, L = (ll ls).flatten := ⟨_, rfl⟩
  rw [← hL]
  have HL := Lib.hid (And.intro hL (And.intro hv (show L.length = 48 by rw [hL]; exact tab_flat hv)))
  have HS := Lib.hid (And.intro hs0 (hr.alloc (.cells #[.slice (some ⟨g, off, none⟩) 8 c] 25)).alloc)
  clear hr hl hv h8 hs0 hb0 hL
  go_enter Try.func37, Try.ntmps37
  go_wp2
  go_loopw [12] (fun i wr => ∃ f : Nat, i = .int .i64 f ∧ f ≤ 8 ∧ Seen wr (w.heap.size + 1) (L.take (6 * f)) ∧ TRow wr w.heap.size (some ⟨g, off, none⟩) ls ∧ w.grownBy wr none) (fun i _ => 8 - (intOf i).toNat)
  case atStart => exact ⟨0, rfl, Nat.zero_le _, HS.out.1, HS.out.2 _, grown_alloc (grown_alloc (grown_refl _ _) _) _⟩
  case round =>
    clear HS hmk b0
    obtain ⟨f, rfl, hf, hs, hT, hg⟩ := hrel
    by_cases hlt : f < 8
    · have hf8 : (f : Int) < 8 := by omega
      have hf0 : decide ((0 : Int) ≤ f) = true := decide_eq_true (by omega)
      obtain ⟨gx, ox, cl, xs, hll, h6⟩ := hT.list HL.out.2.1 hlt
      have c0 := hT.cellf hll h6
      have HX := Lib.hid (And.intro hll h6)
      have HM := Lib.hid (And.intro hs (And.intro hT hg))
      clear hll hs hT hg h6
      go_wp2
      go_loopw [18] (fun i wr => ∃ k : Nat, i = .int .i64 k ∧ k ≤ 6 ∧ Seen wr (w.heap.size + 1) (L.take (6 * f + k)) ∧ TRow wr w.heap.size (some ⟨g, off, none⟩) ls ∧ w.grownBy wr none) (fun i _ => 6 - (intOf i).toNat)
      case atStart => exact ⟨0, rfl, Nat.zero_le _, HM.out⟩
      case round =>
        clear HM c0
        obtain ⟨k, rfl, hk, hs, hT, hg⟩ := hrel
        by_cases hkl : k < 6
        · have hk8 : (k : Int) < 6 := by omega
          have hk0 : decide ((0 : Int) ≤ k) = true := decide_eq_true (by omega)
          obtain ⟨x, hx⟩ : ∃ x, xs[k]? = some x := ⟨_, List.getElem?_eq_getElem (by have := HX.out.2; omega)⟩
          have d0 := (hT.inner HX.out.1).cellf hx
          have hc := cellO_of (ll_at HX.out.1) hx
          have hxL : L[6 * f + k]? = some x := by rw [HL.out.1]; exact tab_at HL.out.2.1 hkl hc
          have hin := ((tabB_iff _).1 HL.out.2.1).inb f k x hc
          clear hx hc
          by_cases hx0 : 0 ≤ x
          · obtain ⟨v, rfl⟩ := Int.eq_ofNat_of_zero_le hx0
            have hv : v < 48 := by omega
            have v1 : ((v : Int) != -1) = true := by rw [bne_iff_ne]; omega
            have v2 : decide ((0 : Int) ≤ v) = true := decide_eq_true (by omega)
            have v3 : (v : Int) < 48 := by omega
            have s0 : wr.cell? ⟨w.heap.size + 1, v, none⟩ = some (.bool ((L.take (6 * f + k)).contains (v : Int))) := World.rowIs.cell hs hv
            have f0 : wr.frozen? ⟨w.heap.size + 1, v, none⟩ = false := World.rowIs.frozen hs v
            have HZ := Lib.hid (And.intro (hs.more hxL) (And.intro (hT.put (p := ⟨w.heap.size + 1, v, none⟩) (by dsimp only; omega) (.bool true)) (grown_put hg (p := ⟨w.heap.size + 1, v, none⟩) (by dsimp only; omega) (.bool true))))
            clear hs hT hg hxL hin hx0
            go_wp2
            go_roundw
            case rel => exact ⟨k + 1, by go_num, by omega, HZ.out⟩
            case measure => simp [intOf]; omega
          · have ex : x = -1 := by omega
            subst ex
            have HZ := Lib.hid (And.intro (hs.same hxL hx0) (And.intro hT hg))
            clear hs hT hg hxL hin hx0
            go_wp2
            go_roundw
            case rel => exact ⟨k + 1, by go_num, by omega, HZ.out⟩
            case measure => simp [intOf]; omega
        · obtain rfl : k = 6 := by omega
          have HZ := Lib.hid (And.intro hs (And.intro hT hg))
          clear hs hT hg
          go_wp2
          go_roundw
          case rel => exact ⟨f + 1, by go_num, by omega, HZ.out⟩
          case measure => simp [intOf]; omega
    · obtain rfl : f = 8 := by omega
      rw [List.take_of_length_le (by have := HL.out.2.2; omega)] at hs
      have HZ := Lib.hid (And.intro hs hg)
      clear hs hT hg
      go_wp2
      go_ret
      exact ⟨_, rfl, HZ.out.1, by omega, HZ.out.2⟩
theorem usedPages_any (A : Option Addr) (n c : Nat) (ls : List Li) (w : World) (hl : ls.length = n) (hr : TRow w w.heap.size A ls) (hn : n ≤ 1048576) (hp : ∀ l, l ∈ ls → l.xs.length ≤ 1048576) :
    Calls Try.prog 10 #[.agg #[.slice A n c]] w (IMade (usedV (ll ls)) w) := by
  have HT := Lib.hid (TIn.start hr n c)
  have HP := Lib.hid (And.intro hl hp)
  cases hv : tabB (ll ls)
  · have HV := Lib.hid hv
    rw [used_of_no hv]
    clear hl hr hp hv
    go_enter Try.func10, Try.ntmps10
    go_wp2_with fail
    refine (tabValid_val HV.out HP.out.1 HT.out.2.1.here hn HP.out.2).mono ?_
    rintro e w1 ⟨rfl, hk⟩
    have HK := Lib.hid (HT.out.keep hk)
    clear hk
    go_wp2
    go_ret
    exact ⟨none, 0, 0, rfl, rfl, World.ownsRow_nil _ _ _ _, HK.out.2.2⟩
  · have HV := Lib.hid hv
    rw [used_of hv]
    obtain ⟨L, hL⟩ : ∃ L, L = (ll ls).flatten := ⟨_, rfl⟩
    rw [← hL]
    have HL := Lib.hid hL
    clear hl hr hp hv hL
    go_enter Try.func10, Try.ntmps10
    go_wp2_with fail
    refine (tabValid_val HV.out HP.out.1 HT.out.2.1.here hn HP.out.2).mono ?_
    rintro e w1 ⟨rfl, hk⟩
    have HK := Lib.hid (HT.out.keep hk)
    have b0 : w1.cell? ⟨w.heap.size, 0, none⟩ = some (.slice A n c) := HK.out.1.cell 0
    clear hk HT
    go_wp2_with fail
    refine (named_any _ _ _ ls _ HP.out.1 HK.out.2.1.here HV.out).mono ?_
    rintro e w2 ⟨g, rfl, hs, hgl, hk⟩
    have HM := Lib.hid (show Seen w2 g L ∧ w.grownBy w2 none ∧ g < w2.heap.size from ⟨by rw [HL.out]; exact hs, grown_trans HK.out.2.2 hk, World.rowIs.lt hs⟩)
    clear hs hgl hk b0 HK
    go_wp2
    go_loopw [3, 12] (fun u i wr => ∃ k : Nat, i = .int .i64 k ∧ k ≤ 48 ∧ IOwn wr w2.heap.size u (usedTo L k) ∧ Seen wr g L ∧ w2.grownBy wr none) (fun _ i _ => 48 - (intOf i).toNat)
    case atStart => exact ⟨0, rfl, Nat.zero_le _, World.ownsRow_nil _ _ _ _, HM.out.1, grown_refl _ _⟩
    case round =>
      rename World => wq
      obtain ⟨k, rfl, hk, hi, hs, hg⟩ := hrel
      by_cases hlt : k < 48
      · have hk8 : (k : Int) < 48 := by omega
        have hk0 : decide ((0 : Int) ≤ k) = true := decide_eq_true (by omega)
        have s0 : wq.cell? ⟨g, k, none⟩ = some (.bool (L.contains (k : Int))) := World.rowIs.cell hs hlt
        cases hc : L.contains (k : Int)
        · rw [hc] at s0
          rw [← used_no hc] at hi
          have HZ := Lib.hid (And.intro hi (And.intro hs hg))
          clear hi hs hg hc
          go_wp2
          go_roundw
          case rel => exact ⟨k + 1, by go_num, by omega, HZ.out⟩
          case measure => simp [intOf]; omega
        · rw [hc] at s0
          have hle := usedTo_le L k
          obtain ⟨u', w3, hrun, hi2, hg2⟩ := push_int (wr := w2) (k : Int) hi hg.size (by omega)
          rw [← used_yes hc] at hi2
          have K1 := grown_alloc (grown_refl wq none) (.cells #[.int .i64 (k : Int)] 3)
          have hne : ∀ {row : Option Nat}, row = Value.ownBlock _ → row ≠ some g := fun {row} e e' => by have h1 := (VOwn.lt hi g (e.symm.trans e')).1; have h2 := HM.out.2.2; omega
          have HZ := Lib.hid (And.intro hi2 (And.intro ((hs.keep K1 (by simp)).keep hg2 (hne rfl)) (grown_joinR (grown_trans hg K1) hg2 (fun i e => (VOwn.lt hi i e).1))))
          have HRUN := Lib.hid hrun
          clear hi hs hg hc hi2 hg2 hrun K1 hne hle
          go_wp2_with (at_builtin; refine wpList_append_run _ rfl (.tmp 18) (.tmp 20) _ _ rfl _ _ rfl rfl HRUN.out ?_)
          go_roundw
          case rel => exact ⟨k + 1, by go_num, by omega, HZ.out⟩
          case measure => simp [intOf]; omega
      · obtain rfl : k = 48 := by omega
        obtain ⟨Au, cu, rfl⟩ := IOwn.slice hi
        have HZ := Lib.hid (show IOwn wq w.heap.size _ _ ∧ w.grownBy wq none from ⟨VOwn.base_le hi HM.out.2.1.size, grown_trans HM.out.2.1 hg⟩)
        clear hi hs hg
        go_wp2
        go_ret
        exact ⟨Au, _, cu, rfl, rfl, HZ.out.1, HZ.out.2⟩
end Go.Proofs.Ytnjgegadhfofbaa
