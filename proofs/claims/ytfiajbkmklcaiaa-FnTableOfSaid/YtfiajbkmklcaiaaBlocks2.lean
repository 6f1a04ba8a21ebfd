/- Chapter 4, further: BlockValid of the model, BlockNext of both.
   Chapter 4, further: BlockNext, copies and new blocks of both. -/
import Derived.Test.YtfiajbkmklcaiaaBlocks
namespace Go.Proofs.Ytfiajbkmklcaiaa
open Go.ChangeShapes Go.WideShapes Go.ChangeAt Go.RowKit

theorem specValid_val {f : Bool} {a b c d : Int} {v : Bool} (h : pageB f a b c d = v) (w : World) :
    Calls Try.prog 110 #[.agg #[.bool f, .int .i64 a, .int .i64 b, .int .i64 c, .int .i64 d]] w (KeptV (.bool v) w) := h ▸ specValid_any f a b c d w
theorem specBlockValid_any (m : Int) (A : Option Addr) (c : Nat) (ps : List Pg) (w : World) (hr : Row w w.heap.size A ps) (hn : ps.length ≤ 1048576) :
    Calls Try.prog 97 #[.agg #[.int .i64 m, .slice A ps.length c]] w (KeptV (.bool (blockB m ps)) w) := by
  have HR := Lib.hid (hr.alloc (.cells #[.int .i64 m, .slice A ps.length c] 96))
  have HB := Lib.hid (Blk.new w 96 #[.int .i64 m, .slice A ps.length c])
  clear hr
  go_enter Try.func97, Try.ntmps97
  go_wp2
  go_loopw [3] (fun i wr => ∃ k : Nat, i = .int .i64 k ∧ OrdRel (w.alloc (.cells #[.int .i64 m, .slice A ps.length c] 96)) ps k wr) (fun i _ => ps.length - (intOf i).toNat)
  case atStart => exact ⟨0, rfl, Nat.zero_le _, fun j hj => absurd hj (by omega), grown_refl _ _⟩
  case round =>
    obtain ⟨k, rfl, hk, hj, hg⟩ := hrel
    have hB := HB.out.keep hg
    have b0 : wr.cell? ⟨w.heap.size, 0, none⟩ = some (.int .i64 m) := hB.cell 0
    have b1 : wr.cell? ⟨w.heap.size, 1, none⟩ = some (.slice A ps.length c) := hB.cell 1
    by_cases hlt : k < ps.length
    · obtain ⟨g, off, rfl, hgB, hgw, hp5⟩ := HR.out.kept hg (by omega)
      obtain ⟨⟨f, x1, x2, x3, x4⟩, hp⟩ := getD_at hlt
      obtain ⟨c0, c1, c2, c3, c4⟩ := hp5 _ _ hp
      cases hv : pageB f x1 x2 x3 x4
      · have HX := Lib.hid (And.intro hg (ord_no hlt (by rw [okAt_of hp]; simp [pgB, hv])))
        have HV := Lib.hid hv
        clear hv hp hg hj hp5 hB
        go_wp2_with (go_at_call 110; refine (specValid_val HV.out _).mono ?_; rintro e w' ⟨rfl, hkp⟩)
        go_ret
        exact ⟨retB (by simp [blockB, HX.out.2]), grown_trans (grown_alloc (grown_refl _ _) _) (grown_trans HX.out.1 hkp)⟩
      · rcases Nat.eq_zero_or_pos k with h0 | h0
        · have t1 : decide (0 < k) = false := decide_eq_false (by omega)
          have HX := Lib.hid (And.intro hg (And.intro (ok_step hj (by rw [okAt_of hp]; simp [pgB, hv, h0])) hB))
          have HV := Lib.hid hv
          clear hv hp hg hj hp5 h0 hB
          go_wp2_with (go_at_call 110; refine (specValid_val HV.out _).mono ?_; rintro e w' ⟨rfl, hkp⟩; clear b0 b1; have b1 : w'.cell? ⟨w.heap.size, 1, none⟩ = some (.slice (some ⟨g, off, none⟩) ps.length c) := (HX.out.2.2.keep hkp).cell 1; have HK := Lib.hid hkp; clear hkp)
          go_roundw
          case rel => exact ⟨k + 1, by go_num, by omega, HX.out.2.1, grown_trans HX.out.1 HK.out⟩
          case measure => simp [intOf]; omega
        · obtain ⟨j, rfl⟩ : ∃ j, k = j + 1 := ⟨k - 1, by omega⟩
          obtain ⟨⟨f', y1, y2, y3, y4⟩, hp'⟩ := getD_at (show j < ps.length by omega)
          have HP := Lib.hid (And.intro (hp5 _ _ hp) (hp5 _ _ hp'))
          have HX := Lib.hid (And.intro hg (And.intro hj (And.intro (okAt_succ hp hp') hB)))
          have HV := Lib.hid hv
          clear hv hp hg hp5 hp' hj hB
          cases f <;> cases f'
          all_goals
            go_wp2_with (go_at_call 110; refine (specValid_val HV.out _).mono ?_; rintro e w' ⟨rfl, hkp⟩; clear c0 c1 c2 c3 c4 b0 b1; obtain ⟨c0, _, _, _, _⟩ := HP.out.1.kept hkp; obtain ⟨d0, _, _, _, _⟩ := HP.out.2.kept hkp; have b1 : w'.cell? ⟨w.heap.size, 1, none⟩ = some (.slice (some ⟨g, off, none⟩) ps.length c) := (HX.out.2.2.2.keep hkp).cell 1; have HK := Lib.hid hkp; clear hkp)
            first
              | (go_ret; exact ⟨retB (by simp [blockB, ord_no hlt (by rw [HX.out.2.2.1]; simp [pgB, HV.out])]), grown_trans (grown_alloc (grown_refl _ _) _) (grown_trans HX.out.1 HK.out)⟩)
              | (go_roundw
                 case rel => exact ⟨j + 1 + 1, by go_num, by omega, ok_step HX.out.2.1 (by rw [HX.out.2.2.1]; simp [pgB, HV.out]), grown_trans HX.out.1 HK.out⟩
                 case measure => simp [intOf]; omega)
    · have HX := Lib.hid (And.intro hg (ord_yes (fun i hi => hj i (by omega))))
      clear hg hj hB
      by_cases h4 : ps.length = 4
      · have t1 : ((ps.length : Int) == 4) = true := by simp [h4]
        have H4 := Lib.hid h4
        clear h4
        cases h1 : inB m 0 100
        all_goals
          have H1 := Lib.hid h1
          clear h1
          go_wp2_with (go_at_call 55; refine (in_any _ _ _ _).mono ?_; rintro e w' ⟨rfl, rfl⟩; try rw [H1.out])
          go_ret
          exact ⟨retB (by simp [blockB, HX.out.2, H1.out, H4.out]), grown_trans (grown_alloc (grown_refl _ _) _) HX.out.1⟩
      · have t1 : ((ps.length : Int) == 4) = false := by simp; omega
        have H4 := Lib.hid h4
        clear h4
        cases h1 : inB m 0 100
        all_goals
          have H1 := Lib.hid h1
          clear h1
          go_wp2_with (go_at_call 55; refine (in_any _ _ _ _).mono ?_; rintro e w' ⟨rfl, rfl⟩; try rw [H1.out])
          go_ret
          exact ⟨retB (by simp [blockB, HX.out.2, H1.out, H4.out]), grown_trans (grown_alloc (grown_refl _ _) _) HX.out.1⟩
theorem specBlockValid_val {m : Int} {A : Option Addr} {c n : Nat} {ps : List Pg} {V : Bool} (hl : ps.length = n) (h : blockB m ps = V) (w : World) (hr : Row w w.heap.size A ps) (hn : n ≤ 1048576) :
    Calls Try.prog 97 #[.agg #[.int .i64 m, .slice A n c]] w (KeptV (.bool V) w) := by subst hl; exact h ▸ specBlockValid_any m A c ps w hr hn
theorem blockValid_val {m : Int} {A : Option Addr} {c n : Nat} {ps : List Pg} {V : Bool} (hl : ps.length = n) (h : blockB m ps = V) (w : World) (hr : Row w w.heap.size A ps) (hn : n ≤ 1048576) :
    Calls Try.prog 98 #[.agg #[.int .i64 m, .slice A n c]] w (KeptV (.bool V) w) := by subst hl; exact h ▸ blockValid_any m A c ps w hr hn

/-- How many pages are written; BlockNext. -/
def cntF (ps : List Pg) : Nat := ps.countP (·.f)
def nextV (m : Int) (ps : List Pg) : Int := if blockB m ps then (if cntF ps = 4 then -1 else (cntF ps : Int)) else -1
theorem pcnt_le (ps : List Pg) : cntF ps ≤ ps.length := List.countP_le_length
theorem cnt_take {ps : List Pg} {k : Nat} {p : Pg} (h : ps[k]? = some p) : cntF (ps.take (k + 1)) = cntF (ps.take k) + if p.f then 1 else 0 := by
  unfold cntF
  rw [List.take_add_one, h, List.countP_append]
  cases hf : p.f <;> simp [hf]
theorem four {ps : List Pg} (h : ps.length = 4) : ∃ a b c d, ps = [a, b, c, d] := by
  match ps, h with
  | [a, b, c, d], _ => exact ⟨a, b, c, d, rfl⟩
theorem ord4 (a b c d : Pg) : ordB [a, b, c, d] = (pgB a && (pgB b && (!b.f || a.f)) && (pgB c && (!c.f || b.f)) && (pgB d && (!d.f || c.f))) := by
  simp [ordB, okAt, List.range_succ, Bool.and_assoc]
theorem block_parts {m : Int} {ps : List Pg} (h : blockB m ps = true) : inB m 0 100 = true ∧ ps.length = 4 ∧ ordB ps = true := by
  simp only [blockB, Bool.and_eq_true, decide_eq_true_eq] at h
  exact ⟨h.1.1, h.1.2, h.2⟩
/-- The first page that is not written is counted by those before it. -/
theorem next_first {m : Int} {ps : List Pg} (h : blockB m ps = true) {k : Nat} {p : Pg} (hp : ps[k]? = some p) (hf : p.f = false) (hj : ∀ j q, j < k → ps[j]? = some q → q.f = true) : nextV m ps = k := by
  obtain ⟨_, h4, ho⟩ := block_parts h
  obtain ⟨a, b, c, d, rfl⟩ := four h4
  rw [ord4] at ho
  unfold nextV
  rw [if_pos h]
  unfold cntF
  have hk : k < 4 := (List.getElem?_eq_some_iff.1 hp).1
  match k, hk with
  | 0, _ => simp at hp; subst hp; cases hb : b.f <;> cases hc : c.f <;> cases hd : d.f <;> simp [hf, hb, hc, hd] at ho ⊢
  | 1, _ => simp at hp; subst hp; have ha := hj 0 a (by omega) rfl; cases hc : c.f <;> cases hd : d.f <;> simp [hf, ha, hc, hd] at ho ⊢
  | 2, _ => simp at hp; subst hp; have ha := hj 0 a (by omega) rfl; have hb := hj 1 b (by omega) rfl; cases hd : d.f <;> simp [hf, ha, hb, hd] at ho ⊢
  | 3, _ => simp at hp; subst hp; have ha := hj 0 a (by omega) rfl; have hb := hj 1 b (by omega) rfl; have hc := hj 2 c (by omega) rfl; simp [hf, ha, hb, hc]
theorem next_all {m : Int} {ps : List Pg} (h : blockB m ps = true) (hj : ∀ (j : Nat) (q : Pg), ps[j]? = some q → q.f = true) : nextV m ps = -1 := by
  obtain ⟨_, h4, ho⟩ := block_parts h
  obtain ⟨a, b, c, d, rfl⟩ := four h4
  unfold nextV
  rw [if_pos h]
  have ha := hj 0 a rfl; have hb := hj 1 b rfl; have hc := hj 2 c rfl; have hd := hj 3 d rfl
  simp [cntF, ha, hb, hc, hd]
theorem next_no {m : Int} {ps : List Pg} (h : blockB m ps = false) : nextV m ps = -1 := by simp [nextV, h]

end Go.Proofs.Ytfiajbkmklcaiaa
namespace Go.Proofs.Ytfiajbkmklcaiaa
open Go.ChangeShapes Go.WideShapes Go.ChangeAt Go.RowKit

/-- The model's loop for the next page, at page k. -/
def NextRel (w : World) (ps : List Pg) (k : Nat) (wr : World) : Prop := k ≤ ps.length ∧ (∀ (j : Nat) (q : Pg), j < k → ps[j]? = some q → q.f = true) ∧ w.grownBy wr none
theorem next_step {ps : List Pg} {k : Nat} {p : Pg} (h : ∀ (j : Nat) (q : Pg), j < k → ps[j]? = some q → q.f = true) (hp : ps[k]? = some p) (hf : p.f = true) : ∀ (j : Nat) (q : Pg), j < k + 1 → ps[j]? = some q → q.f = true := fun j q hj hq => by
  rcases Nat.lt_or_ge j k with h1 | h1
  · exact h j q h1 hq
  · obtain rfl : j = k := by omega
    rw [hp] at hq
    injection hq with hq
    rw [← hq]; exact hf
theorem specNext_any (m : Int) (A : Option Addr) (c : Nat) (ps : List Pg) (w : World) (hr : Row w w.heap.size A ps) (hn : ps.length ≤ 1048576) :
    Calls Try.prog 112 #[.agg #[.int .i64 m, .slice A ps.length c]] w (KeptV (.int .i64 (nextV m ps)) w) := by
  have HR := Lib.hid (hr.alloc (.cells #[.int .i64 m, .slice A ps.length c] 96))
  have HB := Lib.hid (Blk.new w 96 #[.int .i64 m, .slice A ps.length c])
  clear hr
  cases hv : blockB m ps
  · have HV := Lib.hid (And.intro hv (next_no hv))
    clear hv
    by_cases hz : 0 < ps.length
    · have t1 : decide (0 < ps.length) = true := decide_eq_true hz
      go_enter Try.func112, Try.ntmps112
      go_wp2
      go_loopw [3] (fun i wr => i = .int .i64 0 ∧ wr = w.alloc (.cells #[.int .i64 m, .slice A ps.length c] 96)) (fun i _ => ps.length - (intOf i).toNat)
      case atStart => exact ⟨rfl, rfl⟩
      case round =>
        obtain ⟨rfl, rfl⟩ := hrel
        go_wp2_with (go_at_call 97; refine (specBlockValid_val rfl HV.out.1 _ (HR.out.more (by simp)) hn).mono ?_; rintro e w1 ⟨rfl, hk⟩)
        go_ret
        exact ⟨retI HV.out.2.symm, grown_trans (grown_alloc (grown_refl _ _) _) hk⟩
    · have t1 : decide (0 < ps.length) = false := decide_eq_false hz
      go_enter Try.func112, Try.ntmps112
      go_wp2
      go_loopw [3] (fun i wr => i = .int .i64 0 ∧ wr = w.alloc (.cells #[.int .i64 m, .slice A ps.length c] 96)) (fun i _ => ps.length - (intOf i).toNat)
      case atStart => exact ⟨rfl, rfl⟩
      case round =>
        obtain ⟨rfl, rfl⟩ := hrel
        go_wp2
        go_ret
        exact ⟨retI HV.out.2.symm, grown_alloc (grown_refl _ _) _⟩
  · have HV := Lib.hid hv
    clear hv
    go_enter Try.func112, Try.ntmps112
    go_wp2
    go_loopw [3] (fun i wr => ∃ k : Nat, i = .int .i64 k ∧ NextRel (w.alloc (.cells #[.int .i64 m, .slice A ps.length c] 96)) ps k wr) (fun i _ => ps.length - (intOf i).toNat)
    case atStart => exact ⟨0, rfl, Nat.zero_le _, fun j _ hj => absurd hj (by omega), grown_refl _ _⟩
    case round =>
      obtain ⟨k, rfl, hk, hj, hg⟩ := hrel
      have hB := HB.out.keep hg
      have b0 : wr.cell? ⟨w.heap.size, 0, none⟩ = some (.int .i64 m) := hB.cell 0
      have b1 : wr.cell? ⟨w.heap.size, 1, none⟩ = some (.slice A ps.length c) := hB.cell 1
      by_cases hlt : k < ps.length
      · obtain ⟨g, off, rfl, hgB, hgw, hp5⟩ := HR.out.kept hg (by omega)
        obtain ⟨⟨f, x1, x2, x3, x4⟩, hp⟩ := getD_at hlt
        have HX := Lib.hid (And.intro hg (And.intro hB (hp5 _ _ hp)))
        have HP := Lib.hid (And.intro hp hj)
        clear hp hp5 hg hB hj
        cases f
        all_goals
          go_wp2_with (go_at_call 97; refine (specBlockValid_val rfl HV.out _ ((HR.out.kept HX.out.1).more (Nat.le_trans (by simp) HX.out.1.size)) hn).mono ?_; rintro e w1 ⟨rfl, hk1⟩; clear b0 b1; have b1 : w1.cell? ⟨w.heap.size, 1, none⟩ = some (.slice (some ⟨g, off, none⟩) ps.length c) := (HX.out.2.1.keep hk1).cell 1; obtain ⟨c0, _, _, _, _⟩ := HX.out.2.2.kept hk1; have HK := Lib.hid hk1; clear hk1)
          first
            | (go_ret; exact ⟨retI (next_first HV.out HP.out.1 rfl HP.out.2).symm, grown_trans (grown_alloc (grown_refl _ _) _) (grown_trans HX.out.1 HK.out)⟩)
            | (go_roundw
               case rel => exact ⟨k + 1, by go_num, by omega, next_step HP.out.2 HP.out.1 rfl, grown_trans HX.out.1 HK.out⟩
               case measure => simp [intOf]; omega)
      · have HX := Lib.hid (And.intro hg (next_all HV.out (fun j q hq => hj j q (by have := (List.getElem?_eq_some_iff.1 hq).1; omega) hq)))
        clear hg hj hB
        go_wp2
        go_ret
        exact ⟨retI HX.out.2.symm, grown_trans (grown_alloc (grown_refl _ _) _) HX.out.1⟩

end Go.Proofs.Ytfiajbkmklcaiaa
