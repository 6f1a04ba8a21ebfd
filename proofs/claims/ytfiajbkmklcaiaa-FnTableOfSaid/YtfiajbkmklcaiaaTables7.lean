/- Rows of numbers and tables that are made: make, copy, a list put at its place.
   What the program's TableValid answers.
   What the program's emptyTable, copyTable, isNamedElsewhere, TableGet and TableChanges answer.
   What the program's TablePut answers. -/
import Derived.Test.YtfiajbkmklcaiaaTables2
import Derived.Test.YtfiajbkmklcaiaaTables4
import Derived.Laws.OwnMore
namespace Go.Proofs.Ytfiajbkmklcaiaa
open Go.ChangeShapes Go.WideShapes Go.ChangeAt Go.RowKit

theorem make_ints (w : World) (n : Nat) (hn : n ≤ 1048576) :
    (Instr.makeSlice 42 (.int .i64 (n : Int)) (.int .i64 (n : Int))).run Try.prog w = .ok (.slice (some ⟨w.heap.size, 0, none⟩) n n) (w.alloc (.cells (madeCells #[.int .i64 0] n) 3)) := by
  obtain ⟨i, hi, hz, hs, hb⟩ := info_parts int_info
  have hr := run_make (P := Try.prog) w 42 3 i _ Try.underlying42 hi hz .i64 .i64 n n (by omega) (by omega) (by rw [hb]; omega) (by omega)
  simp only [Int.toNat_natCast, hs, Nat.mul_one] at hr
  exact hr
theorem make_lists (w : World) (n : Nat) (hn : n ≤ 1048576) :
    (Instr.makeSlice 23 (.int .i64 (n : Int)) (.int .i64 (n : Int))).run Try.prog w = .ok (.slice (some ⟨w.heap.size, 0, none⟩) n n) (w.alloc (.cells (madeCells #[.slice none 0 0] n) 42)) := by
  obtain ⟨i, hi, hz, hs, hb⟩ := info_parts list_info
  have hr := run_make (P := Try.prog) w 23 42 i _ Try.underlying23 hi hz .i64 .i64 n n (by omega) (by omega) (by rw [hb]; omega) (by omega)
  simp only [Int.toNat_natCast, hs, Nat.mul_one] at hr
  exact hr
theorem iown_made (w : World) (base n : Nat) (hb : base ≤ w.heap.size) (hn : n ≤ maxLen) :
    IOwn (w.alloc (.cells (madeCells #[.int .i64 0] n) 3)) base (.slice (some ⟨w.heap.size, 0, none⟩) n n) (List.replicate n 0) := by
  have h := World.ownsRow_lit (e := 3) (size := 1) w (madeCells #[.int .i64 0] n) n hb hn (by simp [madeCells])
  rw [toList_madeCells_one] at h
  unfold IOwn VOwn
  simpa [iv] using h
/-- A list that was not put yet. -/
def lz : Li := ⟨none, 0, []⟩
theorem town_made (w : World) (base n : Nat) (hb : base ≤ w.heap.size) (hn : n ≤ maxLen) :
    TOwn (w.alloc (.cells (madeCells #[.slice none 0 0] n) 42)) base (.slice (some ⟨w.heap.size, 0, none⟩) n n) (List.replicate n lz) := by
  refine ⟨?_, fun l hm => ?_, fun i j l l' a a' _ hi _ ha _ => ?_⟩
  · have h := World.ownsRow_lit (e := 42) (size := 1) w (madeCells #[.slice none 0 0] n) n hb hn (by simp [madeCells])
    rw [toList_madeCells_one] at h
    unfold VOwn
    simpa [lv, lz, Li.row] using h
  · rw [List.eq_of_mem_replicate hm]
    exact World.ownsRow_nil _ _ _ _
  · rw [List.eq_of_mem_replicate (List.mem_of_getElem? hi)] at ha
    cases ha
/-- copy(d, s) where both have as many numbers. -/
theorem copy_ints (w : World) (base g dCap sCap : Nat) (A : Option Addr) (B n : Nat) (qs ps : List Int) (hp : ps.length = n) (hpos : 0 < n)
    (ho : IOwn w base (.slice (some ⟨g, 0, none⟩) n dCap) qs) (hq : qs.length = n) (hr : IRow w B A ps) :
    ∃ w', (∀ ty, (Builtin.copy_ #[42, 42] ty #[.slice (some ⟨g, 0, none⟩) n dCap, .slice A n sCap]).run Try.prog w = .ok (.int .i64 (n : Int)) w') ∧ IOwn w' base (.slice (some ⟨g, 0, none⟩) n dCap) ps ∧ w.grownBy w' (some g) := by
  obtain ⟨ga, off, rfl, _, hz, hc⟩ := hr (by rw [iv_length]; omega)
  have ho' : VOwn w base 3 (.slice (some ⟨g, 0, none⟩) n dCap) (iv qs) := ho
  rcases ho'.2 with ⟨e, hn0⟩ | ⟨g', cap, cur, e, hb, hg, hcap, hm, hsz, htk⟩
  · cases e
  · injection e with e1 e2 e3
    injection e1 with e1
    injection e1 with e1
    subst e1; subst e3
    obtain ⟨i, hi, hzz, hs, hby⟩ := info_parts int_info
    have hlen : (iv ps).length = n * 1 := by rw [iv_length, hp, Nat.mul_one]
    have hsrc : ∀ j v, (iv ps)[j]? = some v → w.cell? ((⟨ga, off, none⟩ : Addr).add j) = some v := by
      intro j v hv
      have hadd : (⟨ga, off, none⟩ : Addr).add j = ⟨ga, off + j, none⟩ := by unfold Addr.add; split <;> simp_all
      rw [hadd]
      exact hc _ _ hv
    have hrun := fun ty => run_copy_rowN (P := Try.prog) w 42 42 ty 3 1 g 0 n dCap ⟨ga, off, none⟩ sCap cur 3 (iv ps) Try.underlying42 (by rw [hi]; simp [hs]) hg hlen hsrc (by rw [hlen, hsz]; rw [iv_length] at *; omega) (iv_one ps)
    refine ⟨_, hrun, ⟨by omega, .inr ⟨g, dCap, _, by rw [iv_length, hp], hb, setRow_heap w g cur _ _ _ hg, by rw [iv_length] at *; omega, hm, ?_, ?_⟩⟩, ⟨rfl, rfl, rfl, by simp [World.setRow], fun k _ hk => setRow_other w g k _ (by intro e; exact hk (by rw [e]))⟩⟩
    · rw [iv_length] at *
      simp [iv_length, hp, hsz]; omega
    · simp [iv_length, hp]
/-- A list of its own, made since, is put at its place in a table of the call's own. -/
theorem TOwn.putl {wr w1 : World} {base g cap n : Nat} {cs : List Li} {A : Option Addr} {c m : Nat} {xs : List Int} (h : TOwn wr base (.slice (some ⟨g, 0, none⟩) n cap) cs) (hn : cs.length = n) (hk : wr.grownBy w1 none) (hp : IOwn w1 wr.heap.size (.slice A m c) xs) (hl : xs.length = m)
    (hb : base ≤ wr.heap.size) (k : Nat) : TOwn (w1.setCell ⟨g, k, none⟩ (.slice A m c)) base (.slice (some ⟨g, 0, none⟩) n cap) (cs.set k ⟨A, c, xs⟩) := by
  subst hl
  have h1 := h.keep hk
  have hgr : g < wr.heap.size ∧ base ≤ g := by
    have := VOwn.lt h.1 g (by simp [Value.ownBlock])
    omega
  refine ⟨?_, fun b hm => ?_, fun i j b b' a a' hij hi hj ha ha' => ?_⟩
  · rw [lv_set]
    exact VOwn.set h1.1 (by rw [lv_length]; exact hn) k _
  · rcases List.mem_or_eq_of_mem_set hm with hm | rfl
    · refine VOwn.to_put (h1.2.1 b hm) ?_ _
      rcases h1.inner_ne hm with e | e
      · simp [e]
      · exact fun e' => e (e'.trans (by simp [Value.ownBlock]))
    · refine VOwn.to_put (VOwn.base_le hp hb) ?_ _
      intro e
      have := (VOwn.lt hp g e).1
      omega
  · have lt : ∀ {b : Li} {a : Addr}, b ∈ cs → b.A = some a → a.block < wr.heap.size := fun {b a} hm e => (VOwn.lt (h.2.1 b hm) a.block (by simp [Li.row, e, Value.ownBlock])).2
    have ge : ∀ {a : Addr}, A = some a → wr.heap.size ≤ a.block := fun {a} e => (VOwn.lt hp a.block (by simp [e, Value.ownBlock])).1
    rw [List.getElem?_set] at hi hj
    by_cases hik : k = i
    · by_cases hjk : k = j
      · omega
      · rw [if_pos hik] at hi
        rw [if_neg hjk] at hj
        split at hi
        · injection hi with hi
          subst hi
          have := lt (List.mem_of_getElem? hj) ha'
          have := ge ha
          omega
        · cases hi
    · rw [if_neg hik] at hi
      by_cases hjk : k = j
      · rw [if_pos hjk] at hj
        split at hj
        · injection hj with hj
          subst hj
          have := lt (List.mem_of_getElem? hi) ha
          have := ge ha'
          omega
        · cases hj
      · rw [if_neg hjk] at hj
        exact h.2.2 i j b b' a a' hij hi hj ha ha'
/-- The lists that were put so far. -/
def Filled (xss : List (List Int)) (n k : Nat) (cs : List Li) : Prop := cs.length = n ∧ (ll cs).take k = xss.take k
theorem filled_step {xss : List (List Int)} {n k : Nat} {cs : List Li} {A : Option Addr} {c : Nat} {xs : List Int} (h : Filled xss n k cs) (hk : k < n) (hx : xss[k]? = some xs) : Filled xss n (k + 1) (cs.set k ⟨A, c, xs⟩) := by
  obtain ⟨h1, h2⟩ := h
  refine ⟨by simpa using h1, ?_⟩
  rw [ll_set, List.take_add_one, List.take_add_one, List.take_set_of_le (Nat.le_refl _), List.getElem?_set_self (by rw [ll_length]; omega), hx, h2]
theorem filled_all {xss : List (List Int)} {n : Nat} {cs : List Li} (h : Filled xss n n cs) (hl : xss.length = n) : ll cs = xss := by
  have := h.2
  rwa [List.take_of_length_le (by rw [ll_length, h.1]; exact Nat.le_refl _), List.take_of_length_le (by omega)] at this
end Go.Proofs.Ytfiajbkmklcaiaa
namespace Go.Proofs.Ytfiajbkmklcaiaa
open Go.ChangeShapes Go.WideShapes Go.ChangeAt Go.RowKit
set_option linter.unusedVariables false

theorem isPage_any (x : Int) (w : World) : Calls Try.prog 88 #[.int .i64 x] w fun e w' => e = .returned (.bool (inB x (-1) 47)) ∧ w = w' := by
  go_enter Try.func88, Try.ntmps88
  go_wp2
  all_goals (go_ret; refine ⟨retB ?_, rfl⟩; rw [Bool.eq_iff_iff]; simp [inB]; omega)
/-- Every file has a list with a number for every place. -/
def sixB (xss : List (List Int)) : Bool := decide (xss.length = 8) && xss.all (fun l => decide (l.length = 6))
theorem six_no {xss : List (List Int)} (h : xss.length ≠ 8) : sixB xss = false := by simp [sixB, h]
theorem six_len {xss : List (List Int)} {f : Nat} {xs : List Int} (h : xss[f]? = some xs) (h6 : xs.length ≠ 6) : sixB xss = false := by
  have : xss.all (fun l => decide (l.length = 6)) = false := by
    rw [List.all_eq_false]
    exact ⟨xs, List.mem_of_getElem? h, by simp [h6]⟩
  simp [sixB, this]
theorem six_yes {xss : List (List Int)} (h8 : xss.length = 8) (h : ∀ (j : Nat) (xs : List Int), xss[j]? = some xs → xs.length = 6) : sixB xss = true := by
  simp only [sixB, h8, decide_true, Bool.true_and, List.all_eq_true]
  intro xs hx
  obtain ⟨j, hj⟩ := List.getElem?_of_mem hx
  simp [h j xs hj]
theorem allPlaces_any (A : Option Addr) (n c : Nat) (ls : List Li) (w : World) (hl : ls.length = n) (hr : TRow w w.heap.size A ls) (hn : n ≤ 1048576) :
    Calls Try.prog 53 #[.agg #[.slice A n c]] w (KeptV (.bool (sixB (ll ls))) w) := by
  have HT := Lib.hid (And.intro (TIn.start hr n c) hl)
  clear hr hl
  go_enter Try.func53, Try.ntmps53
  by_cases h8 : n = 8
  · subst h8
    go_wp2
    go_loopw [12] (fun i wr => ∃ f : Nat, i = .int .i64 f ∧ f ≤ 8 ∧ (∀ (j : Nat) (l : Li), j < f → ls[j]? = some l → l.xs.length = 6) ∧ TIn w A 8 c ls wr) (fun i _ => 8 - (intOf i).toNat)
    case atStart => exact ⟨0, rfl, Nat.zero_le _, fun j _ hj => absurd hj (by omega), HT.out.1⟩
    case round =>
      obtain ⟨f, rfl, hf, hj, hT⟩ := hrel
      by_cases hlt : f < 8
      · have hf8 : (f : Int) < 8 := by omega
        have hf0 : decide ((0 : Int) ≤ f) = true := decide_eq_true (by omega)
        obtain ⟨g, off, rfl⟩ := hT.2.1.pos (by have := HT.out.2; omega)
        obtain ⟨⟨Al, cl, xs⟩, hll⟩ : ∃ l, ls[f]? = some l := ⟨_, List.getElem?_eq_getElem (by have := HT.out.2; omega)⟩
        have c0 := hT.2.1.cellf hll rfl
        have HX := Lib.hid (And.intro hj (And.intro hT hll))
        clear hj hT hll
        by_cases h6 : xs.length = 6
        · have t6 : ((xs.length : Int) != 6) = false := by simp; omega
          have H6 := Lib.hid h6
          clear h6
          go_wp2
          go_roundw
          case rel =>
            refine ⟨f + 1, by go_num, by omega, fun j l hj hl => ?_, HX.out.2.1⟩
            rcases Nat.lt_or_ge j f with h1 | h1
            · exact HX.out.1 j l h1 hl
            · obtain rfl : j = f := by omega
              rw [HX.out.2.2] at hl
              injection hl with hl
              subst hl
              exact H6.out
          case measure => simp [intOf]; omega
        · have t6 : ((xs.length : Int) != 6) = true := by simp; omega
          have HZ := Lib.hid (six_len (ll_at HX.out.2.2) h6)
          clear h6
          go_wp2
          go_ret
          exact ⟨retB HZ.out.symm, HX.out.2.1.2.2⟩
      · obtain rfl : f = 8 := by omega
        have HZ := Lib.hid (And.intro (six_yes (xss := ll ls) (by rw [ll_length]; exact HT.out.2) (fun j xs hx => by
          obtain ⟨Al, cl, hl⟩ := ll_get hx
          exact hj j _ (by have := (List.getElem?_eq_some_iff.1 hl).1; have := HT.out.2; omega) hl)) hT.2.2)
        clear hj hT
        go_wp2
        go_ret
        exact ⟨retB HZ.out.1.symm, HZ.out.2⟩
  · have t8 : ((n : Int) != 8) = true := by simp; omega
    have HZ := Lib.hid (And.intro (six_no (xss := ll ls) (by rw [ll_length, HT.out.2]; exact h8)) HT.out.1.2.2)
    clear h8
    go_wp2
    go_ret
    exact ⟨retB HZ.out.1.symm, HZ.out.2⟩
/-- The loop over the lists, at list f. -/
def OnceRel (w : World) (A : Option Addr) (c : Nat) (ls : List Li) (f : Nat) (wr : World) : Prop :=
  f ≤ ls.length ∧ (∃ P, flatB [] (ll ls).flatten = flatB P ((ll ls).drop f).flatten ∧ Seen wr (w.heap.size + 1) P) ∧ TRow wr w.heap.size A ls ∧ w.grownBy wr none
/-- The loop over the numbers of list f, at number k. -/
def OnceRel2 (w : World) (A : Option Addr) (c : Nat) (ls : List Li) (f : Nat) (xs : List Int) (k : Nat) (wr : World) : Prop :=
  k ≤ xs.length ∧ (∃ P, flatB [] (ll ls).flatten = flatB P (xs.drop k ++ ((ll ls).drop (f + 1)).flatten) ∧ Seen wr (w.heap.size + 1) P) ∧ TRow wr w.heap.size A ls ∧ w.grownBy wr none
theorem pagesOnce_any (A : Option Addr) (n c : Nat) (ls : List Li) (w : World) (hl : ls.length = n) (hr : TRow w w.heap.size A ls) (hn : n ≤ 1048576) (hp : ∀ l, l ∈ ls → l.xs.length ≤ 1048576) :
    Calls Try.prog 54 #[.agg #[.slice A n c]] w (KeptV (.bool (flatB [] (ll ls).flatten)) w) := by
  subst hl
  have hmk := make_seen (w.alloc (.cells #[.slice A ls.length c] 25))
  have hs0 := Seen.new (w.alloc (.cells #[.slice A ls.length c] 25))
  have hb0 := (Blk.new w 25 #[.slice A ls.length c]).alloc (.cells (madeCells #[.bool false] 48) 4)
  have b0 := hb0.cell 0
  simp only [size_alloc1] at hs0 hmk
  have HR := Lib.hid hp
  have HS := Lib.hid (And.intro hs0 (hr.alloc (.cells #[.slice A ls.length c] 25)).alloc)
  clear hr hp hs0 hb0
  go_enter Try.func54, Try.ntmps54
  go_wp2
  go_loopw [12] (fun i wr => ∃ f : Nat, i = .int .i64 f ∧ OnceRel w A c ls f wr) (fun i _ => ls.length - (intOf i).toNat)
  case atStart => exact ⟨0, rfl, Nat.zero_le _, ⟨[], rfl, HS.out.1⟩, HS.out.2 _, grown_alloc (grown_alloc (grown_refl _ _) _) _⟩
  case round =>
    clear HS hmk b0
    obtain ⟨f, rfl, hf, ⟨P, hP, hs⟩, hT, hg⟩ := hrel
    by_cases hlt : f < ls.length
    · have hf8 : (f : Int) < ls.length := by omega
      have hf0 : decide ((0 : Int) ≤ f) = true := decide_eq_true (by omega)
      obtain ⟨g, off, rfl⟩ := hT.pos (by omega)
      obtain ⟨⟨Al, cl, xs⟩, hll⟩ : ∃ l, ls[f]? = some l := ⟨_, List.getElem?_eq_getElem hlt⟩
      have c0 := hT.cellf hll rfl
      have hpl := HR.out _ (List.mem_of_getElem? hll)
      dsimp only at hpl
      rw [flatten_at (ll_at hll)] at hP
      have HX := Lib.hid hll
      have HS := Lib.hid (show OnceRel2 w (some ⟨g, off, none⟩) c ls f xs 0 wr from ⟨Nat.zero_le _, ⟨P, hP, hs⟩, hT, hg⟩)
      clear hll hP hs hT hg
      go_wp2
      go_loopw [18] (fun i wr => ∃ k : Nat, i = .int .i64 k ∧ OnceRel2 w (some ⟨g, off, none⟩) c ls f xs k wr) (fun i _ => xs.length - (intOf i).toNat)
      case atStart => exact ⟨0, rfl, HS.out⟩
      case round =>
        clear HS c0
        obtain ⟨k, rfl, hk, ⟨Q, hQ, hs⟩, hT, hg⟩ := hrel
        by_cases hkl : k < xs.length
        · have hk8 : (k : Int) < xs.length := by omega
          have hk0 : decide ((0 : Int) ≤ k) = true := decide_eq_true (by omega)
          obtain ⟨gx, ox, e⟩ := IRow.pos (hT.inner HX.out) (by show 0 < xs.length; omega)
          dsimp only at e
          subst e
          obtain ⟨x, hx⟩ : ∃ x, xs[k]? = some x := ⟨_, List.getElem?_eq_getElem hkl⟩
          have d0 := (hT.inner HX.out).cellf hx
          rw [drop_cons hx ((ll ls).drop (f + 1)).flatten] at hQ
          clear hx
          cases hin : inB x (-1) 47
          · have HZ := Lib.hid (And.intro (hQ.trans (flat_out hin)) (And.intro hg hin))
            clear hQ hg hs hT hin
            go_wp2_with (go_at_call 88; refine (isPage_any _ _).mono ?_; rintro e w' ⟨rfl, rfl⟩; rw [HZ.out.2.2])
            go_ret
            exact ⟨retB HZ.out.1.symm, HZ.out.2.1⟩
          · by_cases hx0 : 0 ≤ x
            · obtain ⟨v, rfl⟩ := Int.eq_ofNat_of_zero_le hx0
              have hv : v < 48 := by have := inB_iff.1 hin; omega
              have s0 : wr.cell? ⟨w.heap.size + 1, v, none⟩ = some (.bool (Q.contains (v : Int))) := World.rowIs.cell hs hv
              have v1 : ((v : Int) == -1) = false := by rw [beq_eq_false_iff_ne]; omega
              have v2 : decide ((0 : Int) ≤ v) = true := decide_eq_true (by omega)
              have v3 : (v : Int) < 48 := by omega
              cases hc : Q.contains (v : Int)
              · rw [hc] at s0
                have f0 : wr.frozen? ⟨w.heap.size + 1, v, none⟩ = false := World.rowIs.frozen hs v
                have HZ := Lib.hid (And.intro (hQ.trans (flat_new hin hc)) (And.intro (hs.put (v := v)) (And.intro (hT.put (p := ⟨w.heap.size + 1, v, none⟩) (by dsimp only; omega) (.bool true)) (And.intro (grown_put hg (p := ⟨w.heap.size + 1, v, none⟩) (by dsimp only; omega) (.bool true)) hin))))
                clear hQ hg hs hT hc hin
                go_wp2_with (go_at_call 88; refine (isPage_any _ _).mono ?_; rintro e w' ⟨rfl, rfl⟩; rw [HZ.out.2.2.2.2])
                go_roundw
                case rel => exact ⟨k + 1, by go_num, by omega, ⟨_, HZ.out.1, HZ.out.2.1⟩, HZ.out.2.2.1, HZ.out.2.2.2.1⟩
                case measure => simp [intOf]; omega
              · rw [hc] at s0
                have HZ := Lib.hid (And.intro (hQ.trans (flat_twice hc hx0)) (And.intro hg hin))
                clear hQ hg hs hT hc hin
                go_wp2_with (go_at_call 88; refine (isPage_any _ _).mono ?_; rintro e w' ⟨rfl, rfl⟩; rw [HZ.out.2.2])
                go_ret
                exact ⟨retB HZ.out.1.symm, HZ.out.2.1⟩
            · have ex : x = -1 := by have := inB_iff.1 hin; omega
              subst ex
              have HZ := Lib.hid (And.intro (hQ.trans (flat_neg hin hx0)) (And.intro (hs.neg hx0) (And.intro hT (And.intro hg hin))))
              clear hQ hg hs hT hin
              go_wp2_with (go_at_call 88; refine (isPage_any _ _).mono ?_; rintro e w' ⟨rfl, rfl⟩; rw [HZ.out.2.2.2.2])
              go_roundw
              case rel => exact ⟨k + 1, by go_num, by omega, ⟨_, HZ.out.1, HZ.out.2.1⟩, HZ.out.2.2.1, HZ.out.2.2.2.1⟩
              case measure => simp [intOf]; omega
        · obtain rfl : k = xs.length := by omega
          rw [List.drop_length, List.nil_append] at hQ
          have HZ := Lib.hid (And.intro hQ (And.intro hs (And.intro hT hg)))
          clear hQ hs hT hg
          go_wp2
          go_roundw
          case rel => exact ⟨f + 1, by go_num, by omega, ⟨_, HZ.out.1, HZ.out.2.1⟩, HZ.out.2.2.1, HZ.out.2.2.2⟩
          case measure => simp [intOf]; omega
    · obtain rfl : f = ls.length := by omega
      have e : (ll ls).drop ls.length = [] := by rw [← ll_length, List.drop_length]
      rw [e] at hP
      have HZ := Lib.hid (And.intro hP hg)
      clear hP hs hT hg e
      go_wp2
      go_ret
      exact ⟨retB (by rw [HZ.out.1]; rfl), HZ.out.2⟩
theorem tabB_parts (xss : List (List Int)) : tabB xss = (sixB xss && flatB [] xss.flatten) := by simp [tabB, sixB]
theorem tabValid_any (A : Option Addr) (n c : Nat) (ls : List Li) (w : World) (hl : ls.length = n) (hr : TRow w w.heap.size A ls) (hn : n ≤ 1048576) (hp : ∀ l, l ∈ ls → l.xs.length ≤ 1048576) :
    Calls Try.prog 14 #[.agg #[.slice A n c]] w (KeptV (.bool (tabB (ll ls))) w) := by
  have HT := Lib.hid (TIn.start hr n c)
  have HP := Lib.hid (And.intro hl hp)
  clear hr hl hp
  cases ha : sixB (ll ls)
  · have HV := Lib.hid (And.intro ha (show tabB (ll ls) = false by rw [tabB_parts, ha]; rfl))
    clear ha
    rw [HV.out.2]
    go_enter Try.func14, Try.ntmps14
    go_wp2_with fail
    refine (allPlaces_any _ _ _ ls _ HP.out.1 HT.out.2.1.here hn).mono ?_
    rw [HV.out.1]
    rintro e w1 ⟨rfl, hk⟩
    have HK := Lib.hid (HT.out.keep hk)
    clear hk
    go_wp2
    go_ret
    exact ⟨rfl, HK.out.2.2⟩
  · have HV := Lib.hid (And.intro ha (show tabB (ll ls) = flatB [] (ll ls).flatten by rw [tabB_parts, ha]; rfl))
    clear ha
    rw [HV.out.2]
    go_enter Try.func14, Try.ntmps14
    go_wp2_with fail
    refine (allPlaces_any _ _ _ ls _ HP.out.1 HT.out.2.1.here hn).mono ?_
    rw [HV.out.1]
    rintro e w1 ⟨rfl, hk⟩
    have HK := Lib.hid (HT.out.keep hk)
    have b0 : w1.cell? ⟨w.heap.size, 0, none⟩ = some (.slice A n c) := HK.out.1.cell 0
    clear hk
    go_wp2_with fail
    refine (pagesOnce_any _ _ _ ls _ HP.out.1 HK.out.2.1.here hn HP.out.2).mono ?_
    rintro e w2 ⟨rfl, hk⟩
    have HF := Lib.hid (HK.out.keep hk)
    clear hk
    go_wp2
    go_ret
    exact ⟨rfl, HF.out.2.2⟩
theorem tabValid_val {A : Option Addr} {n c : Nat} {ls : List Li} {w : World} {V : Bool} (hv : tabB (ll ls) = V) (hl : ls.length = n) (hr : TRow w w.heap.size A ls) (hn : n ≤ 1048576) (hp : ∀ l, l ∈ ls → l.xs.length ≤ 1048576) :
    Calls Try.prog 14 #[.agg #[.slice A n c]] w (KeptV (.bool V) w) := hv ▸ tabValid_any A n c ls w hl hr hn hp
end Go.Proofs.Ytfiajbkmklcaiaa
namespace Go.Proofs.Ytfiajbkmklcaiaa
open Go.ChangeShapes Go.WideShapes Go.ChangeAt Go.RowKit
set_option linter.unusedVariables false

theorem make_ints6 (w : World) : (Instr.makeSlice 42 (.int .i64 6) (.int .i64 6)).run Try.prog w = .ok (.slice (some ⟨w.heap.size, 0, none⟩) 6 6) (w.alloc (.cells (madeCells #[.int .i64 0] 6) 3)) := make_ints w 6 (by omega)
theorem make_lists8 (w : World) : (Instr.makeSlice 23 (.int .i64 8) (.int .i64 8)).run Try.prog w = .ok (.slice (some ⟨w.heap.size, 0, none⟩) 8 8) (w.alloc (.cells (madeCells #[.slice none 0 0] 8) 42)) := make_lists w 8 (by omega)
theorem listNo_any (w : World) : Calls Try.prog 96 #[] w fun e w' => ∃ g, e = .returned (.slice (some ⟨g, 0, none⟩) 6 6) ∧ IOwn w' w.heap.size (.slice (some ⟨g, 0, none⟩) 6 6) m6 ∧ w.grownBy w' none := by
  have hmk := fun W => make_ints6 W
  have HO := Lib.hid (And.intro (iown_made w w.heap.size 6 (Nat.le_refl _) (by simp [maxLen])) (grown_alloc (grown_refl w none) (.cells (madeCells #[.int .i64 0] 6) 3)))
  go_enter Try.func96, Try.ntmps96
  go_wp2
  go_loopw [2] (fun i wr => ∃ k : Nat, i = .int .i64 k ∧ k ≤ 6 ∧ (∃ xs, xs.length = 6 ∧ xs.take k = List.replicate k (-1) ∧ IOwn wr w.heap.size (.slice (some ⟨w.heap.size, 0, none⟩) 6 6) xs) ∧ w.grownBy wr none) (fun i _ => 6 - (intOf i).toNat)
  case atStart => exact ⟨0, rfl, Nat.zero_le _, ⟨_, by simp, rfl, HO.out.1⟩, HO.out.2⟩
  case round =>
    clear HO hmk
    obtain ⟨k, rfl, hk, ⟨xs, h6, ht, ho⟩, hg⟩ := hrel
    by_cases hlt : k < 6
    · have hk5 : (k : Int) ≤ 5 := by omega
      have hk7 : (k : Int) < 6 := by omega
      have hk0 : decide ((0 : Int) ≤ k) = true := decide_eq_true (by omega)
      obtain ⟨x, hx⟩ : ∃ x, xs[k]? = some x := ⟨_, List.getElem?_eq_getElem (by omega)⟩
      have c0 : wr.cell? ⟨w.heap.size, k, none⟩ = some (.int .i64 x) := VOwn.at_ ho (by rw [iv_length]; exact h6) (iv_at hx)
      have f0 : wr.frozen? ⟨w.heap.size, k, none⟩ = false := VOwn.frozen ho (by rw [iv_length]; exact h6) k
      have hs := VOwn.set ho (by rw [iv_length]; exact h6) k (.int .i64 (-1))
      rw [← iv_set] at hs
      have HZ := Lib.hid (And.intro (show (xs.set k (-1)).take (k + 1) = List.replicate (k + 1) (-1) by rw [List.take_add_one, List.take_set_of_le (Nat.le_refl _), List.getElem?_set_self (by omega), ht, List.replicate_succ']; rfl) (And.intro hs (And.intro (grown_put hg (p := ⟨w.heap.size, k, none⟩) (Nat.le_refl _) (.int .i64 (-1))) h6)))
      clear h6 ht ho hg hs hx
      go_wp2
      go_roundw
      case rel => exact ⟨k + 1, by go_num, by omega, ⟨_, by rw [List.length_set]; exact HZ.out.2.2.2, HZ.out.1, HZ.out.2.1⟩, HZ.out.2.2.1⟩
      case measure => simp [intOf]; omega
    · obtain rfl : k = 6 := by omega
      rw [List.take_of_length_le (by omega)] at ht
      have HZ := Lib.hid (And.intro ht (And.intro ho hg))
      clear h6 ht ho hg
      go_wp2
      go_ret
      exact ⟨_, rfl, by have h := HZ.out.2.1; rw [HZ.out.1] at h; exact h, HZ.out.2.2⟩
theorem noTab_at {k : Nat} (h : k < 8) : noTab[k]? = some m6 := by rw [noTab, List.getElem?_replicate, if_pos h]
/-- The loop that puts lists, at list k: the row lies in block G. -/
def FillR (w : World) (xss : List (List Int)) (G k : Nat) (wr : World) : Prop := k ≤ 8 ∧ (∃ cs, Filled xss 8 k cs ∧ TOwn wr w.heap.size (.slice (some ⟨G, 0, none⟩) 8 8) cs) ∧ w.grownBy wr none
theorem emptyTable_any (w : World) : Calls Try.prog 61 #[] w (TabMade noTab 8 w) := by
  have hmk := fun W => make_lists8 W
  have h1 := (Blk.new w 25 #[.slice none 0 0]).alloc (.cells (madeCells #[.slice none 0 0] 8) 42)
  have h2 := town_made (w.alloc (.cells #[.slice none 0 0] 25)) w.heap.size 8 (by simp) (by simp [maxLen])
  simp only [size_alloc1] at h2
  have HO := Lib.hid (And.intro h1 (And.intro h2 (grown_alloc (grown_alloc (grown_refl w none) (.cells #[.slice none 0 0] 25)) (.cells (madeCells #[.slice none 0 0] 8) 42))))
  clear h1 h2
  go_enter Try.func61, Try.ntmps61
  go_wp2
  go_loopw [2] (fun i wr => ∃ k : Nat, i = .int .i64 k ∧ FillR w noTab (w.heap.size + 1) k wr ∧ Blk wr w.heap.size 25 #[.slice none 0 0]) (fun i _ => 8 - (intOf i).toNat)
  case atStart => exact ⟨0, rfl, ⟨Nat.zero_le _, ⟨_, ⟨by simp, rfl⟩, HO.out.2.1⟩, HO.out.2.2⟩, HO.out.1⟩
  case round =>
    clear HO hmk
    obtain ⟨k, rfl, ⟨hk, ⟨cs, hF, ho⟩, hg⟩, hb⟩ := hrel
    by_cases hlt : k < 8
    · have hk8 : (k : Int) < 8 := by omega
      have hk0 : decide ((0 : Int) ≤ k) = true := decide_eq_true (by omega)
      have HX := Lib.hid (And.intro hF (And.intro ho (And.intro hg hb)))
      clear hF ho hg hb
      go_wp2_with fail
      refine (listNo_any wr).mono ?_
      rintro e w1 ⟨gl, rfl, ho1, hk1⟩
      have hD := HX.out.2.1.keep hk1
      obtain ⟨⟨A0, c0, x0⟩, hq⟩ : ∃ q, cs[k]? = some q := ⟨_, List.getElem?_eq_getElem (by have := HX.out.1.1; omega)⟩
      have d0 := hD.at_ HX.out.1.1 hq
      have d1 := hD.frozen HX.out.1.1 k
      have hP := HX.out.2.1.putl HX.out.1.1 hk1 ho1 rfl HX.out.2.2.1.size k
      have HZ := Lib.hid (And.intro (filled_step (A := some ⟨gl, 0, none⟩) (c := 6) HX.out.1 hlt (noTab_at hlt)) (And.intro hP (And.intro (grown_put (grown_trans HX.out.2.2.1 hk1) (p := ⟨w.heap.size + 1, k, none⟩) (by dsimp only; omega) (.slice (some ⟨gl, 0, none⟩) 6 6)) ((HX.out.2.2.2.keep hk1).far (p := ⟨w.heap.size + 1, k, none⟩) (by dsimp only; omega) (.slice (some ⟨gl, 0, none⟩) 6 6)))))
      clear hD hq hP ho1 hk1
      go_wp2
      go_roundw
      case rel => exact ⟨k + 1, by go_num, ⟨by omega, ⟨_, HZ.out.1, HZ.out.2.1⟩, HZ.out.2.2.1⟩, HZ.out.2.2.2⟩
      case measure => simp [intOf]; omega
    · obtain rfl : k = 8 := by omega
      have z0 : wr.cell? ⟨w.heap.size, 0, none⟩ = some (.slice none 0 0) := hb.cell 0
      have z1 : wr.frozen? ⟨w.heap.size, 0, none⟩ = false := hb.frozen 0
      have HZ := Lib.hid (And.intro hF.1 (And.intro (filled_all hF (by simp [noTab])) (And.intro (ho.put hb 0 (.slice (some ⟨w.heap.size + 1, 0, none⟩) 8 8)) (grown_put hg (p := ⟨w.heap.size, 0, none⟩) (Nat.le_refl _) (.slice (some ⟨w.heap.size + 1, 0, none⟩) 8 8)))))
      clear hF ho hg hb
      go_wp2
      exact bodyPost_ret (v := .agg #[.slice (some ⟨w.heap.size + 1, 0, none⟩) 8 8]) (by simp [results, Try.results61, go_sem, *]) rfl ⟨_, _, cs, rfl, HZ.out.1, HZ.out.2.1, HZ.out.2.2.1, HZ.out.2.2.2⟩
theorem copyTab_at (A : Option Addr) (n c : Nat) (ls : List Li) (w : World) (hl : ls.length = n) (hr : TRow w w.heap.size A ls) (hv : tabB (ll ls) = true) :
    Calls Try.prog 58 #[.agg #[.slice A n c]] w (TabMade (ll ls) 8 w) := by
  obtain ⟨h8, g, off, _, _, _, _, _, rfl, _⟩ := hr.open_ hv (show 0 < 8 by omega) (show 0 < 6 by omega)
  have en : n = 8 := by omega
  subst en
  have hmk := fun W => make_lists8 W
  have h0 := TIn2.start hr 8 c
  have h2 := town_made ((w.alloc (.cells #[.slice (some ⟨g, off, none⟩) 8 c] 25)).alloc (.cells #[.slice none 0 0] 25)) w.heap.size 8 (by simp only [size_alloc1]; omega) (by simp [maxLen])
  have h3 := h0.keep (grown_alloc (grown_refl _ none) (.cells (madeCells #[.slice none 0 0] 8) 42))
  simp only [size_alloc1] at h2
  have HO := Lib.hid (And.intro h2 h3)
  have b0 := h3.1.cell 0
  have HV := Lib.hid (And.intro hl hv)
  clear hl hr hv h0 h2 h3 h8
  go_enter Try.func58, Try.ntmps58
  go_wp2
  go_loopw [14] (fun i wr => ∃ k : Nat, i = .int .i64 k ∧ k ≤ 8 ∧ (∃ cs, Filled (ll ls) 8 k cs ∧ TOwn wr w.heap.size (.slice (some ⟨w.heap.size + 1 + 1, 0, none⟩) 8 8) cs) ∧ TIn2 w (some ⟨g, off, none⟩) 8 c ls wr) (fun i _ => 8 - (intOf i).toNat)
  case atStart => exact ⟨0, rfl, Nat.zero_le _, ⟨List.replicate 8 lz, ⟨by simp, rfl⟩, HO.out.1⟩, HO.out.2⟩
  case round =>
    clear HO hmk b0
    obtain ⟨k, rfl, hk, ⟨cs, hF, ho⟩, hT⟩ := hrel
    by_cases hlt : k < 8
    · have hk8 : (k : Int) < 8 := by omega
      have hk0 : decide ((0 : Int) ≤ k) = true := decide_eq_true (by omega)
      obtain ⟨gx, ox, cl, xs, hll, h6⟩ := hT.2.2.1.list HV.out.2 hlt
      have c0 := hT.2.2.1.cellf hll h6
      have hrow := hT.2.2.1.inner hll
      dsimp only at hrow
      have hmk := make_ints6 wr
      have hi0 := iown_made wr wr.heap.size 6 (Nat.le_refl _) (by simp [maxLen])
      obtain ⟨w3, hrun, ho3, hg3⟩ := copy_ints (wr.alloc (.cells (madeCells #[.int .i64 0] 6) 3)) wr.heap.size wr.heap.size 6 cl _ _ 6 _ xs h6 (by omega) hi0 (by simp) (VRow.alloc hrow _)
      have hk1 : wr.grownBy w3 none := grown_join (grown_alloc (grown_refl wr none) _) hg3 (Nat.le_refl _)
      have hD := ho.keep hk1
      obtain ⟨⟨A0, c1, x0⟩, hq⟩ : ∃ q, cs[k]? = some q := ⟨_, List.getElem?_eq_getElem (by have := hF.1; omega)⟩
      have d0 := hD.at_ hF.1 hq
      have d1 := hD.frozen hF.1 k
      have hP := ho.putl hF.1 hk1 ho3 h6 hT.2.2.2.size k
      have hT3 := (hT.keep hk1).far (p := ⟨w.heap.size + 1 + 1, k, none⟩) (by dsimp only; omega) (by dsimp only; omega) (by dsimp only; omega) (.slice (some ⟨wr.heap.size, 0, none⟩) 6 6)
      have HZ := Lib.hid (And.intro (filled_step (A := some ⟨wr.heap.size, 0, none⟩) (c := 6) hF hlt (ll_at hll)) (And.intro hP hT3))
      clear hF ho hT hll h6 hrow hi0 ho3 hg3 hk1 hD hq hP hT3
      go_wp2
      go_roundw
      case rel => exact ⟨k + 1, by go_num, by omega, ⟨_, HZ.out.1, HZ.out.2.1⟩, HZ.out.2.2⟩
      case measure => simp [intOf]; omega
    · obtain rfl : k = 8 := by omega
      have z0 : wr.cell? ⟨w.heap.size + 1, 0, none⟩ = some (.slice none 0 0) := hT.2.1.cell 0
      have z1 : wr.frozen? ⟨w.heap.size + 1, 0, none⟩ = false := hT.2.1.frozen 0
      have HZ := Lib.hid (And.intro hF.1 (And.intro (filled_all hF (by rw [ll_length]; exact HV.out.1)) (And.intro (ho.put hT.2.1 0 (.slice (some ⟨w.heap.size + 1 + 1, 0, none⟩) 8 8)) (grown_put hT.2.2.2 (p := ⟨w.heap.size + 1, 0, none⟩) (by dsimp only; omega) (.slice (some ⟨w.heap.size + 1 + 1, 0, none⟩) 8 8)))))
      clear hF ho hT
      go_wp2
      exact bodyPost_ret (v := .agg #[.slice (some ⟨w.heap.size + 1 + 1, 0, none⟩) 8 8]) (by simp [results, Try.results58, go_sem, *]) rfl ⟨_, _, cs, rfl, HZ.out.1, HZ.out.2.1, HZ.out.2.2.1, HZ.out.2.2.2⟩
/-- No cell before (f, k) but the one of the arguments has the number. -/
def NotYet (xss : List (List Int)) (f0 k0 : Nat) (x : Int) (f k : Nat) : Prop := ∀ f' k', cellO xss f' k' = some x → (f' < f ∨ (f' = f ∧ k' < k)) → f' = f0 ∧ k' = k0
theorem tableGet_any (A : Option Addr) (n c : Nat) (ls : List Li) (f k : Int) (w : World) (hl : ls.length = n) (hr : TRow w w.heap.size A ls) (hn : n ≤ 1048576) (hp : ∀ l, l ∈ ls → l.xs.length ≤ 1048576) :
    Calls Try.prog 24 #[.agg #[.slice A n c], .int .i64 f, .int .i64 k] w (KeptV (.int .i64 (tgetV (ll ls) f k)) w) := by
  have HT := Lib.hid (TIn.start hr n c)
  have HP := Lib.hid (And.intro hl hp)
  cases hv : tabB (ll ls)
  · have HV := Lib.hid (And.intro hv (tget_no (arg1 hv) : tgetV (ll ls) f k = -1))
    clear hl hr hp hv
    rw [HV.out.2]
    go_enter Try.func24, Try.ntmps24
    go_wp2_with fail
    refine (tabValid_val HV.out.1 HP.out.1 HT.out.2.1.here hn HP.out.2).mono ?_
    rintro e w1 ⟨rfl, hk⟩
    have HK := Lib.hid (HT.out.keep hk)
    clear hk
    go_wp2
    go_ret
    exact ⟨rfl, HK.out.2.2⟩
  · cases hf : inB f 0 7
    · have HV := Lib.hid (And.intro hv (And.intro hf (tget_no (arg2 hf) : tgetV (ll ls) f k = -1)))
      clear hl hr hp hv hf
      rw [HV.out.2.2]
      go_enter Try.func24, Try.ntmps24
      go_wp2_with fail
      refine (tabValid_val HV.out.1 HP.out.1 HT.out.2.1.here hn HP.out.2).mono ?_
      rintro e w1 ⟨rfl, hk⟩
      have HK := Lib.hid (HT.out.keep hk)
      clear hk
      go_wp2_with (go_at_call 56; refine (isFile_any _ _).mono ?_; rintro e w' ⟨rfl, rfl⟩; rw [HV.out.2.1])
      go_ret
      exact ⟨rfl, HK.out.2.2⟩
    · cases hk : inB k 0 5
      · have HV := Lib.hid (And.intro hv (And.intro hf (And.intro hk (tget_no (arg3 hk) : tgetV (ll ls) f k = -1))))
        clear hl hr hp hv hf hk
        rw [HV.out.2.2.2]
        go_enter Try.func24, Try.ntmps24
        go_wp2_with fail
        refine (tabValid_val HV.out.1 HP.out.1 HT.out.2.1.here hn HP.out.2).mono ?_
        rintro e w1 ⟨rfl, hk⟩
        have HK := Lib.hid (HT.out.keep hk)
        clear hk
        go_wp2_with (first | (go_at_call 56; refine (isFile_any _ _).mono ?_; rintro e w' ⟨rfl, rfl⟩; rw [HV.out.2.1]) | (go_at_call 70; refine (isFilePlace_any _ _).mono ?_; rintro e w' ⟨rfl, rfl⟩; rw [HV.out.2.2.1]))
        go_ret
        exact ⟨rfl, HK.out.2.2⟩
      · obtain ⟨fn, rfl, hf7⟩ := inB_nat (m := 7) hf
        obtain ⟨kn, rfl, hk5⟩ := inB_nat (m := 5) hk
        obtain ⟨h8, g, off, gx, ox, cl, xs, x, rfl, hll, h6, hx, hc⟩ := hr.open_ hv (show fn < 8 by omega) (show kn < 6 by omega)
        have hn8 : n = 8 := by omega
        subst hn8
        have HV := Lib.hid (And.intro hv (And.intro hf (And.intro hk (And.intro (tget_at (arg_yes hv hf hk) hc : tgetV (ll ls) fn kn = x) (And.intro hll (And.intro hx h6))))))
        have f0 : decide ((0 : Int) ≤ fn) = true := decide_eq_true (by omega)
        have f1 : (fn : Int) < 8 := by omega
        have k0 : decide ((0 : Int) ≤ kn) = true := decide_eq_true (by omega)
        have k1 : (kn : Int) < 6 := by omega
        clear hl hr hp hv hf hk hll hx hc h6 h8
        rw [HV.out.2.2.2.1]
        go_enter Try.func24, Try.ntmps24
        go_wp2_with fail
        refine (tabValid_val HV.out.1 HP.out.1 HT.out.2.1.here hn HP.out.2).mono ?_
        rintro e w1 ⟨rfl, hk⟩
        have HK := Lib.hid (HT.out.keep hk)
        clear hk
        have b0 : w1.cell? ⟨w.heap.size, 0, none⟩ = some (.slice (some ⟨g, off, none⟩) 8 c) := HK.out.1.cell 0
        have c0 := HK.out.2.1.cellf HV.out.2.2.2.2.1 HV.out.2.2.2.2.2.2
        have c1 := (HK.out.2.1.inner HV.out.2.2.2.2.1).cellf HV.out.2.2.2.2.2.1
        go_wp2_with (first | (go_at_call 56; refine (isFile_any _ _).mono ?_; rintro e w' ⟨rfl, rfl⟩; rw [HV.out.2.1]) | (go_at_call 70; refine (isFilePlace_any _ _).mono ?_; rintro e w' ⟨rfl, rfl⟩; rw [HV.out.2.2.1]))
        go_ret
        exact ⟨rfl, HK.out.2.2⟩
end Go.Proofs.Ytfiajbkmklcaiaa
namespace Go.Proofs.Ytfiajbkmklcaiaa
open Go.ChangeShapes Go.WideShapes Go.ChangeAt Go.RowKit
set_option linter.unusedVariables false

end Go.Proofs.Ytfiajbkmklcaiaa
